/-
  The walk of the law SumsTurned: bits are turned one by one.
-/
import Derived.Test.YtjncjfefploneabDoorWorks
import Derived.Test.YtjncjfefploneabDoorTurn
import Derived.BigRegion
namespace Go.Proofs.YtjncjfefploneabDoor
open Go.ChangeShapes Go.WideShapes Go.ChangeAt Go.RowKit Go.Shelf

theorem Tryd.info5' : (Tryd.prog.info? 5).map (fun i => (i.zero, i.size, i.bytes)) = some (some (.int .u8 0), 1, 1) := by kernel_rfl

/-- a bit is turned in the row -/
theorem flip_step {w wr : World} {g n c d q z : Nat} {m : List Nat} (hown : wr.ownsRow w.heap.size 5 1 (.slice (some ⟨g, 0, none⟩) n c) n (c8 m)) (hB : Below w.heap.size w wr) (hm : B8 m) (hl : m.length = n) (hd : d < n) (hq : q ≤ 7) (hz : m.getD d 0 = z) :
    (wr.setCell ⟨g, d, none⟩ (.int .u8 (bits .xor .u8 (z : Int) (2 ^ q % 256)))).drew.ownsRow w.heap.size 5 1 (.slice (some ⟨g, 0, none⟩) n c) n (c8 (m.set d (z ^^^ 2 ^ q))) ∧
      Below w.heap.size w (wr.setCell ⟨g, d, none⟩ (.int .u8 (bits .xor .u8 (z : Int) (2 ^ q % 256)))).drew ∧
      B8 (m.set d (z ^^^ 2 ^ q)) ∧ (m.set d (z ^^^ 2 ^ q)).length = n ∧ num8 (m.set d (z ^^^ 2 ^ q)) = num8 m ^^^ 2 ^ (8 * d + q) := by
  have hz8 : z < 256 := by rw [← hz]; exact getD_b8 hm (by omega)
  have hp : 2 ^ q < 256 := Nat.pow_lt_pow_right (a := 2) (by omega) (show q < 8 by omega)
  have e : bits .xor .u8 (z : Int) (2 ^ q % 256) = ((z ^^^ 2 ^ q : Nat) : Int) := by
    have h1 : (2 : Int) ^ q % 256 = ((2 ^ q : Nat) : Int) := by
      rw [show (2 : Int) ^ q = ((2 ^ q : Nat) : Int) from by simp]
      exact Int.emod_eq_of_lt (Int.natCast_nonneg _) (Int.ofNat_lt.2 hp)
    rw [h1]
    exact u8_xor_nat z (2 ^ q) hz8 hp
  have hg : w.heap.size ≤ g := (hown.lt g rfl).1
  rw [e]
  refine ⟨?_, (hB.setCell (p := ⟨g, d, none⟩) hg _).drew, set_b8 hm _ _ (byte_xor hz8 (by omega)), by rw [List.length_set]; exact hl, ?_⟩
  · have h := (hown.stored d (.int .u8 ((z ^^^ 2 ^ q : Nat) : Int))).1
    rw [show c8 (m.set d (z ^^^ 2 ^ q)) = (c8 m).set d (.int .u8 ((z ^^^ 2 ^ q : Nat) : Int)) from by unfold c8; rw [List.map_set]]
    exact h.drew
  · rw [← hz]
    exact num8_flip m d q hm (by omega) (by omega)
theorem turn_num {l m m' : List Nat} {a B i tt d q : Nat} (htt : tt = a + i) (hd : d = tt / 8) (hq : q = tt % 8) (hbit : B / 2 ^ i % 2 = 1) (hm : num8 m = num8 l ^^^ 2 ^ a * (B % 2 ^ i)) (h : num8 m' = num8 m ^^^ 2 ^ (8 * d + q)) :
    num8 m' = num8 l ^^^ 2 ^ a * (B % 2 ^ (i + 1)) := by
  rw [h, hm, turn_yes a hbit, Nat.xor_assoc, show 8 * d + q = a + i from by omega]
theorem turned_bool {l m : List Nat} {a E n : Nat} {t : Bool} (hl : B8 l) (hm : B8 m) (hll : l.length = n) (hml : m.length = n) (ha : a ≤ 8 * n) (hE : E < 4294967296) (hn : num8 m = num8 l ^^^ 2 ^ a * E) (ht : t = decide (E ≠ 0)) :
    (((upd 0 m : Nat) : Int) != ((upd 0 l : Nat) : Int)) = t := by
  have h := turned_sum hl hm (by omega) (by rw [hll]; exact ha) hE hn
  rw [ht]
  by_cases h0 : E = 0
  · rw [h.2 h0, h0]
    simp
  · have h1 : upd 0 m ≠ upd 0 l := fun e => h0 (h.1 e)
    have h2 : ((upd 0 m : Nat) : Int) ≠ ((upd 0 l : Nat) : Int) := by omega
    simp [h0, h2]

set_option maxRecDepth 20000 in
set_option maxHeartbeats 4000000 in
theorem turned_walk (ad : Option Addr) (n cap : Nat) (l : List Nat) (a B : Nat) (w : World) (hn : n ≤ 10000) (hB : B8 l) (hs : Src w ad n cap (c8 l)) (ha : a < 8 * n) (hb : B < 4294967296) (hb0 : B ≠ 0) (ht : Tab w) :
    Calls Tryd.prog 3 #[.slice ad n cap, .int .i64 a, .int .u32 B] w fun e w' => e = .returned (.bool true) ∧ Below w.heap.size w w' := by
  obtain ⟨i0, hi, hz0, hz1, hz2⟩ := info_parts Tryd.info5'
  have hn' : (n : Int) ≤ 10000 := by omega
  have ha' : (a : Int) < 8 * (n : Int) := by omega
  have hb0' : ((B : Int) == 0) = false := by simp; omega
  have ha0 : (0 : Int) ≤ (a : Int) := by omega
  have HL : Hid (l.length = n) := by have := hs.1; rwa [c8_len] at this
  have HA : Hid (a < 8 * n) := ha
  have HB0 : Hid (B ≠ 0) := hb0
  have HBl : Hid (B < 4294967296) := hb
  have hn1 : 1 ≤ n := by omega
  clear ha hb0 hb
  go_enter Tryd.func3, Tryd.ntmps3
  go_wp2_with (at_builtin; refine wpList_append_src rfl (.tmp 29) (.tmp 30) 22 rfl w.heap.size 5 i0 (.int .u8 0) 1 Tryd.underlying22 hi hz0 hz1 hz2 rfl _ _ _ rfl (World.ownsRow_made _ _ 0 (Nat.le_refl _) (Nat.zero_le _) rfl) _ _ _ (c8 l) rfl (hs.later ((Below.refl _ w).alloc (Nat.le_refl _) _)) (c8_one l) (by unfold maxLen; omega) (by omega) (by simp) ?_; intro v1 W1 hown1 hb1; rw [Nat.zero_add, List.nil_append] at hown1; obtain ⟨g, c, rfl⟩ := own_some hown1 (by omega))
  have hl1 : Hid (num8 l = num8 l ^^^ 2 ^ a * (B % 2 ^ 0)) := by show _ = _; simp [Nat.mod_one]
  have hb01 : Below w.heap.size w W1 := ((Below.refl _ w).alloc (Nat.le_refl _) _).trans hb1
  clear hb1
  go_loopw [8, 9] (fun tv iv wr => ∃ (i : Nat) (m : List Nat) (t : Bool), iv = .int .i64 i ∧ i ≤ 32 ∧ Hid (a + i ≤ 8 * n) ∧ tv = .bool t ∧ Hid (t = decide (B % 2 ^ i ≠ 0)) ∧ wr.ownsRow w.heap.size 5 1 (.slice (some ⟨g, 0, none⟩) n c) n (c8 m) ∧ Hid (B8 m ∧ m.length = n ∧ num8 m = num8 l ^^^ 2 ^ a * (B % 2 ^ i)) ∧ Below w.heap.size w wr)
    (fun _ iv _ => 32 - (intOf iv).toNat)
  case atStart => exact ⟨0, l, false, rfl, by omega, by have := HA.out; show _ ≤ _; omega, rfl, by simp [Hid, Nat.mod_one], hown1, ⟨hB, HL.out, hl1.out⟩, hb01⟩
  case round =>
    obtain ⟨i, m, t, rfl, hi32, HI, rfl, HT, hown, HM, hBl⟩ := hrel
    clear hown1 hb01 hl1
    by_cases hlt : i < 32 ∧ a + i < 8 * n
    · obtain ⟨h1, h2⟩ := hlt
      have h1' : (i : Int) < 32 := by omega
      have h2' : (a : Int) + (i : Int) < 8 * (n : Int) := by omega
      obtain ⟨y, hy⟩ : ∃ y : Nat, y = B / 2 ^ i % 2 := ⟨_, rfl⟩
      have a1 : bits .and .u32 ((B : Int) / 2 ^ i) 1 = (y : Int) := by
        have h3 : B / 2 ^ i ≤ B := Nat.div_le_self _ _
        have h4 := HBl.out
        have := u32_and_nat (B / 2 ^ i) 1 (by omega) (by omega)
        rw [nat_mask1, ← hy] at this
        simpa using this
      have HY : Hid _ := hy
      clear hy
      by_cases hy1 : y = 1
      · have hy1' : ((y : Int) == 1) = true := by simp; omega
        obtain ⟨tt, htt⟩ : ∃ tt : Nat, tt = a + i := ⟨_, rfl⟩
        obtain ⟨d, hd⟩ : ∃ d : Nat, d = tt / 8 := ⟨_, rfl⟩
        obtain ⟨q, hq⟩ : ∃ q : Nat, q = tt % 8 := ⟨_, rfl⟩
        have hdn : d < n := by omega
        have hdn' : (d : Int) < (n : Int) := by omega
        have hq7 : q ≤ 7 := by omega
        have hz := getD_b8 HM.out.1 (j := d) (by rw [HM.out.2.1]; exact hdn)
        have hc := hown.cellAt d (by omega)
        rw [c8_get (by rw [HM.out.2.1]; exact hdn)] at hc
        have hf := hown.frozenAt d
        have r2 : Hid (IntKind.i64.wrap ((a : Int) + (i : Int)) = (tt : Int)) := by show _ = _; rw [IntKind.wrap_i64]; omega
        have r3 : Hid (IntKind.i64.wrap ((tt : Int) / 8) = (d : Int)) := by show _ = _; rw [IntKind.wrap_i64]; omega
        have r4 : Hid ((tt : Int).tmod 8 = (q : Int)) := by show _ = _; rw [Int.tmod_eq_emod_of_nonneg (by omega)]; omega
        have r5 : Hid (IntKind.i64.wrap (q : Int) = (q : Int)) := by show _ = _; rw [IntKind.wrap_i64]; omega
        have HO : Hid _ := hown
        generalize hzz : m.getD d 0 = z at *
        have HTT : Hid _ := htt
        have HD : Hid _ := hd
        have HQ : Hid _ := hq
        have HZ : Hid _ := hzz
        have hyk : y = 1 := hy1
        clear htt hd hq hzz hown
        go_wp2
        have q2 := r2.out
        have q3 := r3.out
        have q4 := r4.out
        have q5 := r5.out
        go_region
        have R := flip_step HO.out hBl HM.out.1 HM.out.2.1 hdn hq7 HZ.out
        generalize (wr.setCell ⟨g, d, none⟩ (.int .u8 (bits .xor .u8 (z : Int) (2 ^ q % 256)))).drew = W5 at R ⊢
        obtain ⟨R1, R2, R3⟩ := R
        have N : Hid _ := turn_num HTT.out HD.out HQ.out (HY.out.symm.trans hyk) HM.out.2.2 R3.2.2
        have HR1 : Hid _ := R1
        clear q2 q3 q4 q5 hc hf r2 r3 r4 r5 HO R1
        go_wp2
        exact ⟨⟨i + 1, m.set d (z ^^^ 2 ^ q), true, by go_num, by omega, by show _ ≤ _; omega, rfl, (decide_eq_true (turn_ne (HY.out.symm.trans hyk))).symm, HR1.out, ⟨R3.1, R3.2.1, N.out⟩, R2⟩, by simp [intOf]; omega⟩
      · have hy0' : ((y : Int) == 1) = false := by simp; omega
        have hy0 : y = 0 := by have := HY.out; omega
        have HE : Hid _ := turn_no (HY.out.symm.trans hy0)
        have HO : Hid _ := hown
        clear hown hy1 hy0
        go_wp2
        exact ⟨⟨i + 1, m, t, by go_num, by omega, by show _ ≤ _; omega, rfl, by show _ = _; rw [HE.out]; exact HT.out, HO.out, ⟨HM.out.1, HM.out.2.1, by rw [HE.out]; exact HM.out.2.2⟩, hBl⟩, by simp [intOf]; omega⟩
    · have HX : Hid _ := turned_bool hB HM.out.1 HL.out HM.out.2.1 (by have := HA.out; omega) (Nat.lt_of_le_of_lt (Nat.mod_le B (2 ^ i)) HBl.out) HM.out.2.2 HT.out
      have hsm := (src_own hown).2
      have hBm : Hid (B8 m) := HM.out.1
      have htr := ht.later hBl
      have hs1 := hs.later hBl
      clear hown HM HT
      have X1 := crc_any _ n c m wr (by omega) hsm hBm.out htr
      have X2 := fun W (h : Below wr.heap.size wr W) => crc_any ad n cap l W (by omega) (hs1.later h) hB (htr.later h)
      generalize upd 0 m = x at *
      generalize upd 0 l = y at *
      have hx := HX.out
      clear HX hsm
      have fin : ∀ W, Below wr.heap.size wr W → Calls Tryd.prog 4 #[] W fun e w' => e = .returned (.bool true) ∧ Below W.heap.size W w' := fun W h => works_any W (htr.later h)
      by_cases h1 : i < 32
      · have h1' : (i : Int) < 32 := by omega
        have h2' : 8 * (n : Int) ≤ (a : Int) + (i : Int) := by omega
        go_wp2_with fail
        refine X1.mono ?_
        rintro e W2 ⟨rfl, hb2⟩
        go_wp2_with fail
        refine (X2 W2 hb2).mono ?_
        rintro e W3 ⟨rfl, hb3⟩
        have hb23 := hb2.trans (hb3.mono hb2.size)
        go_wp2_with fail
        refine (fin W3 hb23).mono ?_
        rintro e W4 ⟨rfl, hb4⟩
        go_wp2
        go_ret
        exact ⟨rfl, hBl.trans ((hb23.trans (hb4.mono hb23.size)).mono hBl.size)⟩
      · have h1' : (32 : Int) ≤ (i : Int) := by omega
        go_wp2_with fail
        refine X1.mono ?_
        rintro e W2 ⟨rfl, hb2⟩
        go_wp2_with fail
        refine (X2 W2 hb2).mono ?_
        rintro e W3 ⟨rfl, hb3⟩
        have hb23 := hb2.trans (hb3.mono hb2.size)
        go_wp2_with fail
        refine (fin W3 hb23).mono ?_
        rintro e W4 ⟨rfl, hb4⟩
        go_wp2
        go_ret
        exact ⟨rfl, hBl.trans ((hb23.trans (hb4.mono hb23.size)).mono hBl.size)⟩

set_option maxRecDepth 20000 in
set_option maxHeartbeats 2000000 in
theorem turned_no (ad : Option Addr) (n cap : Nat) (a B : Int) (w : World) (ht : Tab w) (h : 10000 < n ∨ a < 0 ∨ 8 * (n : Int) ≤ a ∨ B = 0) :
    Calls Tryd.prog 3 #[.slice ad n cap, .int .i64 a, .int .u32 B] w fun e w' => e = .returned (.bool true) ∧ Below w.heap.size w w' := by
  by_cases c1 : 10000 < n
  · have c1' : (10000 : Int) < (n : Int) := by omega
    clear h
    go_enter Tryd.func3, Tryd.ntmps3
    go_wp2_with fail
    refine (works_any w ht).mono ?_
    rintro e W1 ⟨rfl, hb1⟩
    go_wp2
    go_ret
    exact ⟨rfl, hb1⟩
  have c1' : (n : Int) ≤ 10000 := by omega
  by_cases c2 : a < 0
  · clear h
    go_enter Tryd.func3, Tryd.ntmps3
    go_wp2_with fail
    refine (works_any w ht).mono ?_
    rintro e W1 ⟨rfl, hb1⟩
    go_wp2
    go_ret
    exact ⟨rfl, hb1⟩
  have c2' : 0 ≤ a := by omega
  by_cases c3 : 8 * (n : Int) ≤ a
  · clear h
    go_enter Tryd.func3, Tryd.ntmps3
    go_wp2_with fail
    refine (works_any w ht).mono ?_
    rintro e W1 ⟨rfl, hb1⟩
    go_wp2
    go_ret
    exact ⟨rfl, hb1⟩
  have c3' : a < 8 * (n : Int) := by omega
  obtain rfl : B = 0 := by omega
  clear h c1 c2 c3
  go_enter Tryd.func3, Tryd.ntmps3
  go_wp2_with fail
  refine (works_any w ht).mono ?_
  rintro e W1 ⟨rfl, hb1⟩
  go_wp2
  go_ret
  exact ⟨rfl, hb1⟩
end Go.Proofs.YtjncjfefploneabDoor
