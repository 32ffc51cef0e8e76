/-
  readRepeated.
-/
import Derived.Test.YtignjhmbajiphaaHbV
import Derived.Test.YtignjhmbajiphaaBRv
namespace Go.Proofs.Ytignjhmbajiphaa
set_option linter.unusedVariables false
set_option linter.unusedSimpArgs false
open Go.ChangeShapes Go.WideShapes Go.ChangeAt Go.RowKit

theorem own_only {w w' : World} {B b : Nat} {e : TypeId} {s : Nat} {v : Value} {n : Nat} {xs : List Value} (h : w.ownsRow B e s v n xs) (ho : Only b w w') (hb : b < B) : w'.ownsRow B e s v n xs := by
  refine ⟨h.1, ?_⟩
  rcases h.2 with h1 | ⟨g, cap, cur, h1, h2, h3, h4⟩
  · exact .inl h1
  · exact .inr ⟨g, cap, cur, h1, h2, by rw [ho.block g (by omega)]; exact h3, h4⟩
/-- a repeated run behind its head -/
def rdR (W : Nat) (zs : List Int) (n : Int) (toCome : Nat) : Except Int (List Int × Nat) :=
  if n = 0 ∨ (toCome : Int) < n then .error 8 else if zs.length < (W + 7) / 8 then .error 6
  else if W < Lib.bitLen (rl (zs.take ((W + 7) / 8))).toNat then .error 8 else .ok (List.replicate n.toNat (rl (zs.take ((W + 7) / 8))), (W + 7) / 8)

set_option maxRecDepth 100000 in
set_option maxHeartbeats 4000000 in
theorem rdR_any (a : Option Addr) (M c W : Nat) (zs : List Int) (n : Int) (toCome : Nat) (w : World) (hM : M ≤ 1048576) (hW : W ≤ 32) (hs : Src w a M c (zs.map (Value.int .u8))) (hby : Bytes zs) (hn0 : 0 ≤ n) (hn1 : n ≤ 18446744073709551615) (ht : toCome ≤ 65536) :
    Calls Try.prog 46 #[.slice a M c, .int .i64 W, .int .u64 n, .int .i64 toCome] w fun e w' => Below w.heap.size w w' ∧ match rdR W zs n toCome with
      | .ok (l, k) => ∃ v, e = .returned (.tuple #[.agg #[.bool false, v], .int .i64 k]) ∧ w'.ownsRow w.heap.size 3 1 v l.length (l.map (Value.int .i64))
      | .error c => e = gives c := by
  have hzl : zs.length = M := by simpa using hs.1
  refine calls_ofQ fun Q HQ => ?_
  obtain ⟨R, HR⟩ : ∃ R, Hid (rdR W zs n toCome = R) := ⟨_, rfl⟩
  have QOK : Hid (∀ l k v w', R = .ok (l, k) → Below w.heap.size w w' → w'.ownsRow w.heap.size 3 1 v l.length (l.map (Value.int .i64)) → Q (.returned (.tuple #[.agg #[.bool false, v], .int .i64 (k : Nat)])) w') := fun l k v w' e h1 h2 => HQ _ _ ⟨h1, by rw [HR.out, e]; exact ⟨v, rfl, h2⟩⟩
  have QNO : Hid (∀ c w', R = .error c → Below w.heap.size w w' → Q (gives c) w') := fun c w' e h => HQ _ _ ⟨h, by rw [HR.out, e]⟩
  clear HQ
  have ht' : (toCome : Int) ≤ 65536 := by omega
  have hwt : IntKind.u64.wrap (toCome : Int) = (toCome : Int) := by rw [IntKind.wrap_u64]; omega
  have B0 := alloc_below w (.cells #[.bool false, .slice none 0 0] 45 (0, 0))
  have hX := heap_new w (.cells #[.bool false, .slice none 0 0] 45 (0, 0))
  have hg : ∀ c, gives c = .panicked [{ v := .iface 63 (.agg #[.int .i64 c]), recovered := false }] := fun _ => rfl
  by_cases c1 : n = 0
  · have HE : Hid (R = .error 8) := by show _ = _; rw [← HR.out]; unfold rdR; rw [if_pos (.inl c1)]
    subst c1
    have q2 := QNO.out 8 _ HE.out B0
    rw [hg] at q2
    clear hg HR QOK hs
    go_enter Try.func46, Try.ntmps46
    go_wp2_with fail
    refine (must_no 8 _).mono ?_
    rintro e wx ⟨rfl, hwx⟩
    obtain rfl := hwx.symm
    unfold gives
    go_wp2_with fail
    exact ⟨rfl, q2⟩
  · have c1' : 0 < n := by omega
    by_cases c2 : (toCome : Int) < n
    · have HE : Hid (R = .error 8) := by show _ = _; rw [← HR.out]; unfold rdR; rw [if_pos (.inr c2)]
      have q2 := QNO.out 8 _ HE.out B0
      rw [hg] at q2
      have hd1 : decide (n ≤ (toCome : Int)) = false := by simp; omega
      clear hg HR QOK hs
      go_enter Try.func46, Try.ntmps46
      go_wp2_with fail
      refine (must_no 8 _).mono ?_
      rintro e wx ⟨rfl, hwx⟩
      obtain rfl := hwx.symm
      unfold gives
      go_wp2_with fail
      exact ⟨rfl, q2⟩
    · have c2' : n ≤ (toCome : Int) := by omega
      have HR2 : Hid (R = if M < (W + 7) / 8 then .error 6
          else if W < Lib.bitLen (rl (zs.take ((W + 7) / 8))).toNat then .error 8 else .ok (List.replicate n.toNat (rl (zs.take ((W + 7) / 8))), (W + 7) / 8)) := by
        show _ = _
        rw [← HR.out]
        unfold rdR
        rw [if_neg (by omega), hzl]
      obtain ⟨KB, HKB⟩ : ∃ KB, Hid (KB = (W + 7) / 8) := ⟨_, rfl⟩
      have hKl : KB ≤ 4 := by have := HKB.out; omega
      have BC := fun W' => bytesOf_any W hW W'
      rw [← HKB.out] at BC HR2
      have RL := readl_any a M c 0 (KB : Int) zs (w.alloc (.cells #[.bool false, .slice none 0 0] 45 (0, 0))) hM (hs.later B0) hby
      clear HR
      by_cases c3 : M < KB
      · have HE : Hid (R = .error 6) := by show _ = _; rw [HR2.out, if_pos c3]
        have h6 := rle_short (zs := zs) (L := (M : Int)) (p := 0) (k := (KB : Int)) (by omega) (by omega) (by omega)
        rw [h6.1, h6.2] at RL
        clear h6
        go_enter Try.func46, Try.ntmps46
        go_wp2_with fail
        refine (must_yes 8 _).mono ?_
        rintro e wx ⟨rfl, hwx⟩
        obtain rfl := hwx.symm
        go_wp2_with fail
        refine (BC _).mono ?_
        rintro e wx ⟨rfl, hwx⟩
        obtain rfl := hwx.symm
        go_wp2_with fail
        refine RL.mono ?_
        rintro e w2 ⟨rfl, hb2⟩
        have q2 := QNO.out 6 _ HE.out (B0.trans (hb2.mono B0.size))
        rw [hg] at q2
        clear hg
        go_wp2_with fail
        refine (must_no 6 _).mono ?_
        rintro e wx ⟨rfl, hwx⟩
        obtain rfl := hwx.symm
        unfold gives
        go_wp2_with fail
        exact ⟨rfl, q2⟩
      · have h6 := rle_ok (zs := zs) (L := (M : Int)) (p := 0) (k := (KB : Int)) (by omega) (by omega) (by omega)
        rw [h6.1, h6.2] at RL
        have ex : ((zs.drop (0 : Int).toNat).take (KB : Int).toNat) = zs.take KB := by simp
        rw [ex] at RL
        have hrb := rl_bound (zs.take KB) (fun x hx => hby x (List.mem_of_mem_take hx))
        have hle : (256 : Int) ^ (zs.take KB).length ≤ 4294967296 := by
          have hk : (zs.take KB).length ≤ 4 := by rw [List.length_take]; omega
          generalize (zs.take KB).length = k at hk
          have h5 : k = 0 ∨ k = 1 ∨ k = 2 ∨ k = 3 ∨ k = 4 := by omega
          rcases h5 with rfl | rfl | rfl | rfl | rfl <;> decide
        have hx0 : 0 ≤ rl (zs.take KB) := hrb.1
        have hx1 : rl (zs.take KB) < 4294967296 := by omega
        clear hrb hle h6 ex
        generalize rl (zs.take KB) = x at *
        have WC := fun W' => width_any x W' hx0 (by omega)
        by_cases c4 : W < Lib.bitLen x.toNat
        · have HE : Hid (R = .error 8) := by show _ = _; rw [HR2.out, if_neg c3, if_pos c4]
          generalize Lib.bitLen x.toNat = y at *
          have c4' : (W : Int) < (y : Int) := by omega
          have hd2 : decide ((y : Int) ≤ (W : Int)) = false := by simp; omega
          have hd3 : decide (y ≤ W) = false := by simp; omega
          go_enter Try.func46, Try.ntmps46
          go_wp2_with fail
          refine (must_yes 8 _).mono ?_
          rintro e wx ⟨rfl, hwx⟩
          obtain rfl := hwx.symm
          go_wp2_with fail
          refine (BC _).mono ?_
          rintro e wx ⟨rfl, hwx⟩
          obtain rfl := hwx.symm
          go_wp2_with fail
          refine RL.mono ?_
          rintro e w2 ⟨rfl, hb2⟩
          have q2 := QNO.out 8 _ HE.out (B0.trans (hb2.mono B0.size))
          rw [hg] at q2
          clear hg
          go_wp2_with fail
          refine (must_yes 0 _).mono ?_
          rintro e wx ⟨rfl, hwx⟩
          obtain rfl := hwx.symm
          go_wp2_with fail
          refine (WC _).mono ?_
          rintro e wx ⟨rfl, hwx⟩
          obtain rfl := hwx.symm
          go_wp2_with fail
          refine (must_no 8 _).mono ?_
          rintro e wx ⟨rfl, hwx⟩
          obtain rfl := hwx.symm
          unfold gives
          go_wp2_with fail
          exact ⟨rfl, q2⟩
        · have HE : Hid (R = .ok (List.replicate n.toNat x, KB)) := by show _ = _; rw [HR2.out, if_neg c3, if_neg c4]
          generalize Lib.bitLen x.toNat = y at *
          have c4' : (y : Int) ≤ (W : Int) := by omega
          obtain ⟨N, rfl⟩ := Int.eq_ofNat_of_zero_le hn0
          have HE2 : Hid (R = .ok (List.replicate N x, KB)) := by have h := HE.out; rwa [Int.toNat_natCast] at h
          have hwx : IntKind.i64.wrap x = x := by rw [IntKind.wrap_i64]; omega
          have hwN : IntKind.i64.wrap (N : Int) = (N : Int) := by rw [IntKind.wrap_i64]; omega
          clear HR2 HE QNO
          go_enter Try.func46, Try.ntmps46
          go_wp2_with fail
          refine (must_yes 8 _).mono ?_
          rintro e wx ⟨rfl, hwx⟩
          obtain rfl := hwx.symm
          go_wp2_with fail
          refine (BC _).mono ?_
          rintro e wx ⟨rfl, hwx⟩
          obtain rfl := hwx.symm
          go_wp2_with fail
          refine RL.mono ?_
          rintro e w2 ⟨rfl, hb2⟩
          have hX2 := below_at hb2 hX
          have hb02 := B0.trans (hb2.mono B0.size)
          go_wp2_with fail
          refine (must_yes 0 _).mono ?_
          rintro e wx ⟨rfl, hwx⟩
          obtain rfl := hwx.symm
          go_wp2_with fail
          refine (WC _).mono ?_
          rintro e wx ⟨rfl, hwx⟩
          obtain rfl := hwx.symm
          go_wp2_with fail
          refine (must_yes 8 _).mono ?_
          rintro e wx ⟨rfl, hwx⟩
          obtain rfl := hwx.symm
          go_wp2_with fail
          have b3 := hb02.alloc hb02.size (.cells #[.int .i64 x] 3)
          have b23 := alloc_below w2 (.cells #[.int .i64 x] 3)
          have RP := repeat_any w2.heap.size 0 1 N x (w2.alloc (.cells #[.int .i64 x] 3)) (by omega) (by omega) (alloc_cell w2 _ _ _ (j := 0) rfl)
          refine RP.mono ?_
          rintro e w4 ⟨v4, rfl, hown4, hb4⟩
          obtain ⟨a4, c4, rfl⟩ := own_sl hown4
          have hX4 := below_at hb4 (below_at b23 hX2)
          have hb04 := b3.trans (hb4.mono b3.size)
          obtain ⟨s1, s2⟩ := store2 hX4 (.bool false) (.slice a4 N c4)
          obtain ⟨_, f0, f1⟩ := blk2 hX4
          have hbF := hb04.trans (s2.below (Nat.le_refl _))
          obtain ⟨⟨d0, d1⟩, _⟩ := blk2 s1
          have hO4 : World.ownsRow ((w4.setCell ⟨w.heap.size, 0, none⟩ (.bool false)).setCell ⟨w.heap.size, 1, none⟩ (.slice a4 N c4)) w.heap.size 3 1 (.slice a4 N c4) (List.replicate N x).length ((List.replicate N x).map (Value.int .i64)) := by
            rw [List.length_replicate, List.map_replicate]
            have h := row_baseE hown4 (show w.heap.size + 1 ≤ (w2.alloc (.cells #[.int .i64 x] 3)).heap.size by have := lt_of_heap hX2; simp; omega)
            have h2 := own_only h s2 (by omega)
            exact row_baseE h2 (Nat.le_succ _)
          have q2 := QOK.out _ _ (.slice a4 N c4) _ HE2.out hbF hO4
          clear RP QOK hown4 hO4
          go_wp2_with fail
          refine bodyPost_ret (v := .tuple #[.agg #[.bool false, (.slice a4 N c4)], .int .i64 KB]) (by simp [results, Try.results46, go_sem, Try.underlying45, d0, d1]) rfl ?_
          exact q2
end Go.Proofs.Ytignjhmbajiphaa
