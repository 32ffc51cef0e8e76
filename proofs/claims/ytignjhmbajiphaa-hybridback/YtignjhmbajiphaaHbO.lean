/-
  The taker: a run behind the last one.
-/
import Derived.Test.YtignjhmbajiphaaHbZ
import Derived.Test.YtignjhmbajiphaaHbN
namespace Go.Proofs.Ytignjhmbajiphaa
set_option linter.unusedVariables false
set_option linter.unusedSimpArgs false
open Go.ChangeShapes Go.WideShapes Go.ChangeAt Go.RowKit

/-- a run with which bytes begin, and how many bytes it has -/
def rdRun (W : Nat) (bs : List Int) (toCome : Nat) : Except Int (Bool × List Int × Nat) :=
  match rv bs with
  | .error e => .error e
  | .ok (h, k) => if h % 2 = 1 then (match rdP W (bs.drop k) (h / 2) toCome with | .error e => .error e | .ok (l, s) => .ok (true, l, k + s))
      else (match rdR W (bs.drop k) (h / 2) toCome with | .error e => .error e | .ok (l, s) => .ok (false, l, k + s))

/-- all blocks that were there but b are as they were -/
structure Kb (b : Nat) (w w' : World) : Prop where
  os : w'.os = w.os
  tape : w'.tape = w.tape
  output : w'.output = w.output
  size : w.heap.size ≤ w'.heap.size
  block : ∀ k, k < w.heap.size → k ≠ b → w'.heap[k]? = w.heap[k]?
theorem Kb.of_below {b : Nat} {w w' : World} (h : Below w.heap.size w w') : Kb b w w' := ⟨h.os, h.tape, h.output, h.size, fun k hk _ => h.block k hk⟩
theorem Kb.of_only {b : Nat} {w w' : World} (h : Only b w w') : Kb b w w' := ⟨h.os, h.tape, h.output, Nat.le_of_eq h.size, fun k _ hne => h.block k hne⟩
theorem Kb.trans {b : Nat} {w w' w'' : World} (h : Kb b w w') (k : Kb b w' w'') : Kb b w w'' :=
  ⟨k.os.trans h.os, k.tape.trans h.tape, k.output.trans h.output, Nat.le_trans h.size k.size, fun i hi hne => (k.block i (Nat.lt_of_lt_of_le hi h.size) hne).trans (h.block i hi hne)⟩
theorem Kb.at {b c : Nat} {w w' : World} {o : Obj} (h : Kb b w w') (hc : w.heap[c]? = some o) (hne : c ≠ b) : w'.heap[c]? = some o := (h.block c (lt_of_heap hc) hne).trans hc
theorem Kb.below {b B : Nat} {w w' : World} (h : Kb b w w') (hb : B ≤ b) (hB : B ≤ w.heap.size) : Below B w w' := ⟨h.os, h.tape, h.output, h.size, fun k hk => h.block k (by omega) (by omega)⟩
theorem src_slice8 {w : World} {g off len cap n : Nat} {l : List Int} (h : Src w (some ⟨g, off, none⟩) len cap (l.map (Value.int .u8))) (hlc : len ≤ cap) (hn : n ≤ len) : Src w (if cap = n then some ⟨g, off, none⟩ else some ⟨g, off + n, none⟩) (len - n) (cap - n) ((l.drop n).map (Value.int .u8)) := by
  have hl : l.length = len := by simpa using h.1
  refine ⟨by rw [List.length_map, List.length_drop]; omega, ?_⟩
  by_cases hc : cap = n
  · rw [if_pos hc]
    exact .inr ⟨_, rfl, fun j u hj => by
      rw [List.drop_eq_nil_of_le (by omega)] at hj
      simp at hj⟩
  · rw [if_neg hc]
    refine .inr ⟨_, rfl, fun j u hj => ?_⟩
    rcases h.2 with ⟨h1, _⟩ | ⟨p, h1, h2⟩
    · cases h1
    · cases h1
      have := h2 (n + j) u (by
        rw [List.map_drop, List.getElem?_drop] at hj
        exact hj)
      rw [← this]
      congr 1
      unfold Addr.add
      split <;> simp_all
      omega

theorem rvF_err : ∀ (zs : List Int) (j : Nat) (acc : Int) (ov : Bool) (c : Int), rvF zs j acc ov = .error c → c ≠ 0
  | [], _, _, _, _, h => by cases h; decide
  | x :: r, j, acc, ov, c, h => by
    simp only [rvF] at h
    split at h
    · exact rvF_err r _ _ _ c h
    · split at h
      · cases h; decide
      · split at h
        · cases h; decide
        · cases h
theorem own_only2 {w w' : World} {B b : Nat} {e : TypeId} {s : Nat} {v : Value} {n : Nat} {xs : List Value} (h : w.ownsRow B e s v n xs) (ho : Only b w w') (hb : ∀ g, v.ownBlock = some g → g ≠ b) : w'.ownsRow B e s v n xs := by
  refine ⟨h.1, ?_⟩
  rcases h.2 with h1 | ⟨g, cap, cur, h1, h2, h3, h4⟩
  · exact .inl h1
  · subst h1
    exact .inr ⟨g, cap, cur, rfl, h2, by rw [ho.block g (hb g rfl)]; exact h3, h4⟩
theorem rdR_ok {W : Nat} {zs : List Int} {n : Int} {t : Nat} {l : List Int} {s : Nat} (h : rdR W zs n t = .ok (l, s)) : s ≤ zs.length := by
  unfold rdR at h
  split at h
  · cases h
  · split at h
    · cases h
    · split at h
      · cases h
      · cases h; omega
theorem rdP_ok {W : Nat} {zs : List Int} {n : Int} {t : Nat} {l : List Int} {s : Nat} (h : rdP W zs n t = .ok (l, s)) : s ≤ zs.length := by
  unfold rdP at h
  split at h
  · cases h
  · split at h
    · cases h
    · split at h
      · cases h
      · cases h; omega
/-- how the taker is called -/
structure Tk (w : World) (pb pa pw : Nat) (ad : Option Addr) (L cap W p : Nat) (zs : List Int) : Prop where
  b : w.heap[pb]? = some (.cells #[.slice ad L cap] 23 (0, 0))
  a : w.heap[pa]? = some (.cells #[.int .i64 (p : Nat)] 3 (0, 0))
  wd : w.heap[pw]? = some (.cells #[.int .i64 (W : Nat)] 3 (0, 0))
  s : Src w ad L cap (zs.map (Value.int .u8))
  lc : L ≤ cap
  bne : pb ≠ pa
  wne : pw ≠ pa

set_option maxRecDepth 100000 in
set_option maxHeartbeats 4000000 in
theorem taker_any (w : World) (pb pa pw : Nat) (ad : Option Addr) (L cap W p toCome : Nat) (zs : List Int) (T : Tk w pb pa pw ad L cap W p zs) (hL : L ≤ 1048576) (hp : p ≤ L) (hW : W ≤ 32) (hby : Bytes zs) (ht : toCome ≤ 65536) :
    Calls Try.prog 44 #[.int .i64 toCome, .pointer (some ⟨pb, 0, none⟩), .pointer (some ⟨pa, 0, none⟩), .pointer (some ⟨pw, 0, none⟩)] w fun e w' => Kb pa w w' ∧ match rdRun W (zs.drop p) toCome with
      | .ok (b, l, k) => ∃ v, e = .returned (.tuple #[.agg #[.bool b, v], .int .i64 ((p + k : Nat) : Int)]) ∧ w'.ownsRow w.heap.size 3 1 v l.length (l.map (Value.int .i64)) ∧ w'.heap[pa]? = some (.cells #[.int .i64 ((p + k : Nat) : Int)] 3 (0, 0))
      | .error c => e = gives c := by
  have hzl : zs.length = L := by simpa using T.s.1
  refine calls_ofQ fun Q HQ => ?_
  obtain ⟨R, HR⟩ : ∃ R, Hid (rdRun W (zs.drop p) toCome = R) := ⟨_, rfl⟩
  have QOK : Hid (∀ b l k v w', R = .ok (b, l, k) → Kb pa w w' → w'.ownsRow w.heap.size 3 1 v l.length (l.map (Value.int .i64)) → w'.heap[pa]? = some (.cells #[.int .i64 ((p + k : Nat) : Int)] 3 (0, 0)) → Q (.returned (.tuple #[.agg #[.bool b, v], .int .i64 ((p + k : Nat) : Int)])) w') := fun b l k v w' e h1 h2 h3 => HQ _ _ ⟨h1, by rw [HR.out, e]; exact ⟨v, rfl, h2, h3⟩⟩
  have QNO : Hid (∀ c w', R = .error c → Kb pa w w' → Q (gives c) w') := fun c w' e h => HQ _ _ ⟨h, by rw [HR.out, e]⟩
  clear HQ
  have ht' : (toCome : Int) ≤ 65536 := by omega
  have hg : ∀ c, gives c = .panicked [{ v := .iface 63 (.agg #[.int .i64 c]), recovered := false }] := fun _ => rfl
  have B0 := alloc_below w (.cells #[.bool false, .slice none 0 0] 45 (0, 0))
  have hX := heap_new w (.cells #[.bool false, .slice none 0 0] 45 (0, 0))
  have hbA := below_at B0 T.b
  have haA := below_at B0 T.a
  have hwA := below_at B0 T.wd
  have hsA := T.s.later B0
  obtain ⟨cb, fb⟩ := blk1 hbA
  obtain ⟨ca, fa⟩ := blk1 haA
  have hblt := lt_of_heap T.b
  have halt := lt_of_heap T.a
  have hwlt := lt_of_heap T.wd
  obtain ⟨_, _⟩ := blk1 T.b
  obtain ⟨_, _⟩ := blk1 T.a
  have hsz0 : (w.alloc (.cells #[.bool false, .slice none 0 0] 45 (0, 0))).heap.size = w.heap.size + 1 := by simp
  have RV := rv_any ad L cap p zs (w.alloc (.cells #[.bool false, .slice none 0 0] 45 (0, 0))) hL hp hsA hby
  cases hv : rv (zs.drop p) with
  | error c =>
    rw [hv] at RV
    have HE : Hid (R = .error c) := by show _ = _; rw [← HR.out]; unfold rdRun; rw [hv]
    have hc0 : ((c : Int) == 0) = false := by simpa using rvF_err _ _ _ _ _ hv
    clear HR QOK hv hg
    go_enter Try.func44, Try.ntmps44
    go_wp2_with fail
    refine RV.mono ?_
    rintro e w1 ⟨hb1, rfl⟩
    have q2 := QNO.out c _ HE.out (Kb.of_below (B0.trans (hb1.mono B0.size)))
    go_wp2_with fail
    refine (must_no c _).mono ?_
    rintro e wx ⟨rfl, hwx⟩
    obtain rfl := hwx.symm
    unfold gives
    go_wp2_with fail
    exact ⟨rfl, q2⟩
  | ok hk =>
    obtain ⟨h, k⟩ := hk
    rw [hv] at RV
    have hvo := rvF_ok _ _ _ _ _ _ hv
    rw [List.length_drop] at hvo
    obtain ⟨g, off, rfl, _⟩ := src_atI T.s (i := 0) (by omega)
    obtain ⟨P1, HP1⟩ : ∃ P1, Hid (p + k = P1) := ⟨_, rfl⟩
    have hP1L : P1 ≤ L := by have := HP1.out; omega
    have hdd : (zs.drop p).drop k = zs.drop P1 := by rw [List.drop_drop, HP1.out]
    have hP1' : (P1 : Int) ≤ (L : Int) := by omega
    have hh0 := hvo.1
    have hh1 := hvo.2.1
    have hlcp := T.lc
    have hLcI : (L : Int) ≤ (cap : Int) := by omega
    have hg0 : 0 ≤ h / 2 := by omega
    have hwh : IntKind.u64.wrap (h.tdiv 2) = h / 2 := by
      rw [Int.tdiv_eq_ediv_of_nonneg hh0, IntKind.wrap_u64]
      omega
    have hg1 : h / 2 ≤ 18446744073709551615 := by omega
    have hby1 : Bytes (zs.drop P1) := fun x hx => hby x (List.mem_of_mem_drop hx)
    by_cases hodd : h % 2 = 1
    · have hodd' : (h % 2 == 1) = true := by simp; exact hodd
      have HR2 : Hid (R = match rdP W (zs.drop P1) (h / 2) toCome with | .error e => .error e | .ok (l, s) => .ok (true, l, k + s)) := by
        show _ = _
        rw [← HR.out]
        unfold rdRun
        rw [hv]
        simp only
        rw [if_pos hodd, hdd]
      clear HR hv hvo hodd
      go_enter Try.func44, Try.ntmps44
      go_wp2_with fail
      refine RV.mono ?_
      rintro e w1 ⟨hb1, rfl⟩
      rw [HP1.out]
      have hbx1 := below_at hb1 hbA
      have hax1 := below_at hb1 haA
      have hwx1 := below_at hb1 hwA
      have hX1 := below_at hb1 hX
      have b01 : Below w.heap.size w w1 := B0.trans (hb1.mono B0.size)
      have hs1 := src_slice8 (T.s.later b01) T.lc hP1L
      have HF : Hid (∀ W', Below w1.heap.size w1 W' → W'.cell? ⟨pb, 0, none⟩ = some (.slice (some ⟨g, off, none⟩) L cap) ∧ W'.cell? ⟨pw, 0, none⟩ = some (.int .i64 (W : Nat))) := fun W' hb => ⟨(blk1 (below_at hb hbx1)).1, (blk1 (below_at hb hwx1)).1⟩
      have hsz1 : w.heap.size + 1 ≤ w1.heap.size := by have := hb1.size; omega
      have RC := fun W' (hb : Below w1.heap.size w1 W') => rdP_any (if cap = P1 then some ⟨g, off, none⟩ else some ⟨g, off + P1, none⟩) (L - P1) (cap - P1) W (zs.drop P1) (h / 2) toCome W' (by omega) hW (hs1.later hb) hby1 hg0 hg1 ht
      clear RV hbA haA hwA hX hb1 cb fb ca fa hs1
      go_wp2_with fail
      refine (must_yes 0 _).mono ?_
      rintro e wx ⟨rfl, hwx⟩
      obtain rfl := hwx.symm
      go_wp2_with fail
      have hS0 : Below w1.heap.size w1 w1.drew := (Below.refl _ _).drew
      refine wp_region_held_drew (S := fun W' => Below w1.heap.size w1 W') (by kernel_rfl) hS0 (fun hHeld => ?_)
      clear hHeld
      have HF0 : Hid (∀ W', Below w1.heap.size w1 W' → True) := fun _ _ => trivial
      generalize w1.drew = D at *
      refine wpAnyH_take (i := 0) (v := ?_) rfl (by kernel_rfl) (by kernel_rfl) (by kernel_rfl) (fun _ _ _ h => h) (Or.inl ⟨by rfl, ?_⟩) (by assumption) ?_
      rotate_left
      · intro w hSw
        have hSx := HF.out w hSw
        (try (obtain ⟨_, _, _, _, _, _, _, _⟩ := hSx))
        (try (obtain ⟨_, _, _, _⟩ := hSx))
        (try (obtain ⟨_, _, _⟩ := hSx))
        (try (obtain ⟨_, _⟩ := hSx))
        go_simp
        (try with_reducible rfl)
      (try simp only [Act.put, List.setIfInBounds_toArray, List.set_cons_zero, List.set_cons_succ])
      refine wpAnyH_take (i := 1) (v := ?_) rfl (by kernel_rfl) (by kernel_rfl) (by kernel_rfl) (fun _ _ _ h => h) (Or.inl ⟨by rfl, ?_⟩) (by assumption) ?_
      rotate_left
      · intro w hSw
        have hSx := HF.out w hSw
        (try (obtain ⟨_, _, _, _, _, _, _, _⟩ := hSx))
        (try (obtain ⟨_, _, _, _⟩ := hSx))
        (try (obtain ⟨_, _, _⟩ := hSx))
        (try (obtain ⟨_, _⟩ := hSx))
        go_simp
        (try with_reducible rfl)
      (try simp only [Act.put, List.setIfInBounds_toArray, List.set_cons_zero, List.set_cons_succ])
      refine wpAnyH_take (i := 2) (v := ?_) rfl (by kernel_rfl) (by kernel_rfl) (by kernel_rfl) (fun _ _ _ h => h) (Or.inl ⟨by rfl, ?_⟩) (by assumption) ?_
      rotate_left
      · intro w hSw
        have hSx := HF.out w hSw
        (try (obtain ⟨_, _, _, _, _, _, _, _⟩ := hSx))
        (try (obtain ⟨_, _, _, _⟩ := hSx))
        (try (obtain ⟨_, _, _⟩ := hSx))
        (try (obtain ⟨_, _⟩ := hSx))
        go_simp
        (try with_reducible rfl)
      (try simp only [Act.put, List.setIfInBounds_toArray, List.set_cons_zero, List.set_cons_succ])
      refine wpAnyH_take (i := 3) (v := ?_) rfl (by kernel_rfl) (by kernel_rfl) (by kernel_rfl) (fun _ _ _ h => h) (Or.inl ⟨by rfl, ?_⟩) (by assumption) ?_
      rotate_left
      · intro w hSw
        have hSx := HF.out w hSw
        (try (obtain ⟨_, _, _, _, _, _, _, _⟩ := hSx))
        (try (obtain ⟨_, _, _, _⟩ := hSx))
        (try (obtain ⟨_, _, _⟩ := hSx))
        (try (obtain ⟨_, _⟩ := hSx))
        go_simp
        (try with_reducible rfl)
      (try simp only [Act.put, List.setIfInBounds_toArray, List.set_cons_zero, List.set_cons_succ])
      refine wpAnyH_take (i := 4) (v := ?_) rfl (by kernel_rfl) (by kernel_rfl) (by kernel_rfl) (fun _ _ _ h => h) (Or.inl ⟨by rfl, ?_⟩) (by assumption) ?_
      rotate_left
      · intro w hSw
        have hSx := HF.out w hSw
        (try (obtain ⟨_, _, _, _, _, _, _, _⟩ := hSx))
        (try (obtain ⟨_, _, _, _⟩ := hSx))
        (try (obtain ⟨_, _, _⟩ := hSx))
        (try (obtain ⟨_, _⟩ := hSx))
        go_simp
        (try with_reducible rfl)
      (try simp only [Act.put, List.setIfInBounds_toArray, List.set_cons_zero, List.set_cons_succ])
      refine wpAnyH_take (i := 5) (v := ?_) rfl (by kernel_rfl) (by kernel_rfl) (by kernel_rfl) (fun _ _ _ h => h) (Or.inl ⟨by rfl, ?_⟩) (by assumption) ?_
      rotate_left
      · intro w hSw
        have hSx := HF.out w hSw
        (try (obtain ⟨_, _, _, _, _, _, _, _⟩ := hSx))
        (try (obtain ⟨_, _, _, _⟩ := hSx))
        (try (obtain ⟨_, _, _⟩ := hSx))
        (try (obtain ⟨_, _⟩ := hSx))
        go_simp
        (try with_reducible rfl)
      (try simp only [Act.put, List.setIfInBounds_toArray, List.set_cons_zero, List.set_cons_succ])
      refine wpAnyH_take (i := 6) (v := ?_) rfl (by kernel_rfl) (by kernel_rfl) (by kernel_rfl) (fun _ _ _ h => h) (Or.inl ⟨by rfl, ?_⟩) (by assumption) ?_
      rotate_left
      · intro w hSw
        have hSx := HF.out w hSw
        (try (obtain ⟨_, _, _, _, _, _, _, _⟩ := hSx))
        (try (obtain ⟨_, _, _, _⟩ := hSx))
        (try (obtain ⟨_, _, _⟩ := hSx))
        (try (obtain ⟨_, _⟩ := hSx))
        go_simp
        (try with_reducible rfl)
      (try simp only [Act.put, List.setIfInBounds_toArray, List.set_cons_zero, List.set_cons_succ])
      refine wpAnyH_take (i := 7) (v := ?_) rfl (by kernel_rfl) (by kernel_rfl) (by kernel_rfl) (fun _ _ _ h => h) (Or.inl ⟨by rfl, ?_⟩) (by assumption) ?_
      rotate_left
      · intro w hSw
        have hSx := HF.out w hSw
        (try (obtain ⟨_, _, _, _, _, _, _, _⟩ := hSx))
        (try (obtain ⟨_, _, _, _⟩ := hSx))
        (try (obtain ⟨_, _, _⟩ := hSx))
        (try (obtain ⟨_, _⟩ := hSx))
        go_simp
        (try with_reducible rfl)
      (try simp only [Act.put, List.setIfInBounds_toArray, List.set_cons_zero, List.set_cons_succ])
      generalize (if cap = P1 then some (⟨g, off, none⟩ : Addr) else some ⟨g, off + P1, none⟩) = a' at *
      clear HF hby hby1
      refine wpAnyH_ready (rs := [8, 12]) (by kernel_rfl) (by simp) ?_
      refine AllReadyH.cons rfl (fun K hK => ?_) (AllReadyH.cons rfl (fun K hK => ?_) AllReadyH.nil)
      · have RCx := RC D hS0
        cases hx : rdP W (zs.drop P1) (h / 2) toCome with
        | error c =>
          rw [hx] at RCx HR2
          go_simp
          try rw [hwh]
          refine RCx.mono ?_
          rintro e W2 ⟨hb2, rfl⟩
          have q2 := QNO.out c _ HR2.out (Kb.of_below ((b01.trans (hS0.mono b01.size)).trans (hb2.mono (by have := hS0.size; omega))))
          unfold gives at q2 ⊢
          exact ⟨rfl, q2⟩
        | ok ls =>
          obtain ⟨l, s⟩ := ls
          have hsl := rdP_ok hx
          rw [List.length_drop] at hsl
          rw [hx] at RCx HR2
          go_simp
          try rw [hwh]
          refine RCx.mono ?_
          rintro e W2 ⟨hb2, v, rfl, hown⟩
          obtain ⟨va, vc, rfl⟩ := own_sl hown
          have hS2 : Below w1.heap.size w1 W2 := hS0.trans (hb2.mono hS0.size)
          go_simp
          refine hK.out _ _ hS2 (fun _ => ?_)
          clear hK K RC RCx
          (try simp only [Act.put, List.setIfInBounds_toArray, List.set_cons_zero, List.set_cons_succ])
          refine wpAnyH_take (i := 9) (v := ?_) rfl (by kernel_rfl) (by kernel_rfl) (by kernel_rfl) (fun _ _ _ h => h) (Or.inl ⟨by rfl, ?_⟩) (by assumption) ?_
          rotate_left
          · intro w hSw
            have hSx := HF0.out w hSw
            (try (obtain ⟨_, _, _, _, _, _, _, _⟩ := hSx))
            (try (obtain ⟨_, _, _, _⟩ := hSx))
            (try (obtain ⟨_, _, _⟩ := hSx))
            (try (obtain ⟨_, _⟩ := hSx))
            go_simp
            (try with_reducible rfl)
          (try simp only [Act.put, List.setIfInBounds_toArray, List.set_cons_zero, List.set_cons_succ])
          refine wpAnyH_take (i := 10) (v := ?_) rfl (by kernel_rfl) (by kernel_rfl) (by kernel_rfl) (fun _ _ _ h => h) (Or.inl ⟨by rfl, ?_⟩) (by assumption) ?_
          rotate_left
          · intro w hSw
            have hSx := HF0.out w hSw
            (try (obtain ⟨_, _, _, _, _, _, _, _⟩ := hSx))
            (try (obtain ⟨_, _, _, _⟩ := hSx))
            (try (obtain ⟨_, _, _⟩ := hSx))
            (try (obtain ⟨_, _⟩ := hSx))
            go_simp
            (try with_reducible rfl)
          (try simp only [Act.put, List.setIfInBounds_toArray, List.set_cons_zero, List.set_cons_succ])
          refine wpAnyH_take (i := 11) (v := ?_) rfl (by kernel_rfl) (by kernel_rfl) (by kernel_rfl) (fun _ _ _ h => h) (Or.inl ⟨by rfl, ?_⟩) (by assumption) ?_
          rotate_left
          · intro w hSw
            have hSx := HF0.out w hSw
            (try (obtain ⟨_, _, _, _, _, _, _, _⟩ := hSx))
            (try (obtain ⟨_, _, _, _⟩ := hSx))
            (try (obtain ⟨_, _, _⟩ := hSx))
            (try (obtain ⟨_, _⟩ := hSx))
            go_simp
            (try with_reducible rfl)
          (try simp only [Act.put, List.setIfInBounds_toArray, List.set_cons_zero, List.set_cons_succ])
          have hBl := hS2.size
          have hS3 : Below w1.heap.size w1 (W2.alloc (.cells #[.bool false, .slice none 0 0] 45 (0, 0))) := hS2.alloc hBl _
          have hx3 := heap_new W2 (.cells #[.bool false, .slice none 0 0] 45 (0, 0))
          have hown3 := own_below hown (alloc_below W2 (.cells #[.bool false, .slice none 0 0] 45 (0, 0)))
          refine wpAnyH_ready (rs := [12]) (by kernel_rfl) (by simp) ?_
          refine AllReadyH.cons rfl (fun K hK => ?_) AllReadyH.nil
          go_simp
          refine hK.out _ _ hS3 (fun _ => ?_)
          clear hK K
          (try simp only [Act.put, List.setIfInBounds_toArray, List.set_cons_zero, List.set_cons_succ])
          have hS4 : Below w1.heap.size w1 (W2.alloc (.cells #[.bool true, .slice va l.length vc] 45 (0, 0))) := hS2.alloc hBl _
          have hxx := heap_new W2 (.cells #[.bool true, .slice va l.length vc] 45 (0, 0))
          have hown4 := own_below hown (alloc_below W2 (.cells #[.bool true, .slice va l.length vc] 45 (0, 0)))
          have hxne : pa < W2.heap.size := by have := lt_of_heap hax1; omega
          have hxr : w.heap.size < W2.heap.size := by omega
          have hD0 : w.heap.size < D.heap.size := by have := hS0.size; omega
          generalize hxg : W2.heap.size = xb at *
          refine wpAnyH_ready (rs := [13]) (by kernel_rfl) (by simp) ?_
          refine AllReadyH.cons rfl (fun K hK => ?_) AllReadyH.nil
          go_simp
          refine hK.out _ _ hS4 (fun _ => ?_)
          clear hK K
          (try simp only [Act.put, List.setIfInBounds_toArray, List.set_cons_zero, List.set_cons_succ])
          refine wpAnyH_ready (rs := [14]) (by kernel_rfl) (by simp) ?_
          refine AllReadyH.cons rfl (fun K hK => ?_) AllReadyH.nil
          go_simp
          refine hK.out _ _ hS4 (fun _ => ?_)
          clear hK K
          refine wpAnyH_done (by kernel_rfl) ?_ _
          generalize W2.alloc (.cells #[.bool true, .slice va l.length vc] 45 (0, 0)) = W4 at *
          clear hown3 hx3 hS3 hb2 hown hS2 hxg hx
          have hax4 := below_at hS4 hax1
          have hX4 := below_at hS4 hX1
          obtain ⟨ca4, fa4⟩ := blk1 hax4
          have hPs : (P1 : Int) + (s : Int) ≤ 1048576 := by omega
          obtain ⟨PS, HPS⟩ : ∃ PS, Hid (PS = P1 + s) := ⟨_, rfl⟩
          have hPS : (P1 : Int) + (s : Int) = (PS : Int) := by have := HPS.out; omega
          have hPSl : (PS : Int) ≤ 1048576 := by omega
          go_wp2_with fail
          obtain ⟨s5, o5⟩ := store1 hax4 (.int .i64 (PS : Int))
          have hxx5 := o5.at hxx (by omega)
          have hX5 := o5.at hX4 (by omega)
          have hK5 : Kb pa w (W4.setCell ⟨pa, 0, none⟩ (.int .i64 (PS : Int))) := (Kb.of_below (b01.trans (hS4.mono b01.size))).trans (Kb.of_only o5)
          have hown5 := own_only hown4 o5 (by omega)
          have hsz5 : w.heap.size < (W4.setCell ⟨pa, 0, none⟩ (.int .i64 (PS : Int))).heap.size := lt_of_heap hX5
          generalize W4.setCell ⟨pa, 0, none⟩ (.int .i64 (PS : Int)) = W5 at *
          clear ca4 fa4 hax4 hX4 hxx hown4 hS4
          obtain ⟨⟨x0, x1⟩, _⟩ := blk2 hxx5
          obtain ⟨y0, _⟩ := blk1 s5
          have hSS0 : W5.drew.cell? ⟨xb, 0, none⟩ = some (.bool true) ∧ W5.drew.cell? ⟨xb, 1, none⟩ = some (.slice va l.length vc) ∧ W5.drew.cell? ⟨pa, 0, none⟩ = some (.int .i64 (PS : Int)) := ⟨x0, x1, y0⟩
          refine wp_region_held_drew (S := fun W' => W'.cell? ⟨xb, 0, none⟩ = some (.bool true) ∧ W'.cell? ⟨xb, 1, none⟩ = some (.slice va l.length vc) ∧ W'.cell? ⟨pa, 0, none⟩ = some (.int .i64 (PS : Int))) (by kernel_rfl) hSS0 (fun hHeld => ?_)
          clear hHeld
          have hX6 : W5.drew.heap[w.heap.size]? = _ := hX5
          have hs6 : W5.drew.heap[pa]? = _ := s5
          have hxx6 : W5.drew.heap[xb]? = _ := hxx5
          have hK6 : Kb pa w W5.drew := hK5.trans (Kb.of_below (Below.refl _ _).drew)
          have hown6 := own_below hown5 (Below.refl _ W5).drew
          generalize W5.drew = D5 at *
          clear x0 x1 y0 hxx5 s5 hX5 hown5 hK5
          refine wpAnyH_take (i := 0) (v := ?_) rfl (by kernel_rfl) (by kernel_rfl) (by kernel_rfl) (fun _ _ _ h => h) (Or.inl ⟨by rfl, ?_⟩) (by assumption) ?_
          rotate_left
          · intro w hSw
            (try dsimp only at hSw)
            (try (obtain ⟨_, _, _, _, _, _, _⟩ := hSw))
            (try (obtain ⟨_, _⟩ := hSw))
            go_simp
            (try with_reducible rfl)
          (try simp only [Act.put, List.setIfInBounds_toArray, List.set_cons_zero, List.set_cons_succ])
          refine wpAnyH_take (i := 1) (v := ?_) rfl (by kernel_rfl) (by kernel_rfl) (by kernel_rfl) (fun _ _ _ h => h) (Or.inl ⟨by rfl, ?_⟩) (by assumption) ?_
          rotate_left
          · intro w hSw
            (try dsimp only at hSw)
            (try (obtain ⟨_, _, _, _, _, _, _⟩ := hSw))
            (try (obtain ⟨_, _⟩ := hSw))
            go_simp
            (try with_reducible rfl)
          (try simp only [Act.put, List.setIfInBounds_toArray, List.set_cons_zero, List.set_cons_succ])
          obtain ⟨t1, t2⟩ := store2 hX6 (.bool true) (.slice va l.length vc)
          obtain ⟨_, f6, f7⟩ := blk2 hX6
          have hxx7 := t2.at hxx6 (by omega)
          have hs7 := t2.at hs6 (by omega)
          obtain ⟨⟨x0, x1⟩, _⟩ := blk2 hxx7
          obtain ⟨y0, _⟩ := blk1 hs7
          obtain ⟨⟨z0, z1⟩, _⟩ := blk2 t1
          have hown7 := own_only hown6 t2 (by omega)
          have hK7 : Kb pa w ((D5.setCell ⟨w.heap.size, 0, none⟩ (.bool true)).setCell ⟨w.heap.size, 1, none⟩ (.slice va l.length vc)) := ⟨t2.os.trans hK6.os, t2.tape.trans hK6.tape, t2.output.trans hK6.output, Nat.le_trans hK6.size (Nat.le_of_eq t2.size), fun q hq hne => (t2.block q (by omega)).trans (hK6.block q hq hne)⟩
          have q2 := QOK.out true l (k + s) (.slice va l.length vc) _ HR2.out hK7 (row_baseE hown7 (Nat.le_of_lt hD0)) (by rw [show p + (k + s) = PS by have := HPS.out; have := HP1.out; omega]; exact hs7)
          rw [show p + (k + s) = PS by have := HPS.out; have := HP1.out; omega] at q2
          clear hown7 hown6 hK6 hxx6 hs6 QOK QNO
          refine wpAnyH_ready (rs := [2]) (by kernel_rfl) (by simp) ?_
          refine AllReadyH.cons rfl (fun K hK => ?_) AllReadyH.nil
          go_simp
          refine hK.out _ _ ⟨x0, x1, y0⟩ (fun _ => ?_)
          clear hK K
          (try simp only [Act.put, List.setIfInBounds_toArray, List.set_cons_zero, List.set_cons_succ])
          refine wpAnyH_ready (rs := [3]) (by kernel_rfl) (by simp) ?_
          refine AllReadyH.cons rfl (fun K hK => ?_) AllReadyH.nil
          go_simp
          refine hK.out _ _ ⟨x0, x1, y0⟩ (fun _ => ?_)
          clear hK K
          refine wpAnyH_done (by kernel_rfl) ?_ _
          go_wp2_with fail
          refine bodyPost_ret (v := .tuple #[.agg #[.bool true, .slice va l.length vc], .int .i64 PS]) (by simp [results, Try.results44, go_sem, Try.underlying45, z0, z1]) rfl ?_
          exact q2
      · have hBl := hS0.size
        have hSa : Below w1.heap.size w1 (D.alloc (.cells #[.bool false, .slice none 0 0] 45 (0, 0))) := hS0.alloc hBl _
        have hxa := heap_new D (.cells #[.bool false, .slice none 0 0] 45 (0, 0))
        have hDa : D.heap.size < (D.alloc (.cells #[.bool false, .slice none 0 0] 45 (0, 0))).heap.size := lt_of_heap hxa
        go_simp
        refine hK.out _ _ hSa (fun _ => ?_)
        clear hK K
        (try simp only [Act.put, List.setIfInBounds_toArray, List.set_cons_zero, List.set_cons_succ])
        have RCx := RC _ hSa
        generalize D.alloc (.cells #[.bool false, .slice none 0 0] 45 (0, 0)) = DA at *
        cases hx : rdP W (zs.drop P1) (h / 2) toCome with
        | error c =>
          rw [hx] at RCx HR2
          refine wpAnyH_ready (rs := [8]) (by kernel_rfl) (by simp) ?_
          refine AllReadyH.cons rfl (fun K hK => ?_) AllReadyH.nil
          go_simp
          try rw [hwh]
          refine RCx.mono ?_
          rintro e W2 ⟨hb2, rfl⟩
          have q2 := QNO.out c _ HR2.out (Kb.of_below ((b01.trans (hSa.mono b01.size)).trans (hb2.mono (by omega))))
          unfold gives at q2 ⊢
          exact ⟨rfl, q2⟩
        | ok ls =>
          obtain ⟨l, s⟩ := ls
          have hsl := rdP_ok hx
          rw [List.length_drop] at hsl
          rw [hx] at RCx HR2
          refine wpAnyH_ready (rs := [8]) (by kernel_rfl) (by simp) ?_
          refine AllReadyH.cons rfl (fun K hK => ?_) AllReadyH.nil
          go_simp
          try rw [hwh]
          refine RCx.mono ?_
          rintro e W2 ⟨hb2, v, rfl, hown⟩
          obtain ⟨va, vc, rfl⟩ := own_sl hown
          have hS2 : Below w1.heap.size w1 W2 := hSa.trans (hb2.mono hSa.size)
          have hx2 := below_at hb2 hxa
          go_simp
          refine hK.out _ _ hS2 (fun _ => ?_)
          clear hK K RC RCx
          (try simp only [Act.put, List.setIfInBounds_toArray, List.set_cons_zero, List.set_cons_succ])
          refine wpAnyH_take (i := 9) (v := ?_) rfl (by kernel_rfl) (by kernel_rfl) (by kernel_rfl) (fun _ _ _ h => h) (Or.inl ⟨by rfl, ?_⟩) (by assumption) ?_
          rotate_left
          · intro w hSw
            have hSx := HF0.out w hSw
            (try (obtain ⟨_, _, _, _, _, _, _, _⟩ := hSx))
            (try (obtain ⟨_, _, _, _⟩ := hSx))
            (try (obtain ⟨_, _, _⟩ := hSx))
            (try (obtain ⟨_, _⟩ := hSx))
            go_simp
            (try with_reducible rfl)
          (try simp only [Act.put, List.setIfInBounds_toArray, List.set_cons_zero, List.set_cons_succ])
          refine wpAnyH_take (i := 10) (v := ?_) rfl (by kernel_rfl) (by kernel_rfl) (by kernel_rfl) (fun _ _ _ h => h) (Or.inl ⟨by rfl, ?_⟩) (by assumption) ?_
          rotate_left
          · intro w hSw
            have hSx := HF0.out w hSw
            (try (obtain ⟨_, _, _, _, _, _, _, _⟩ := hSx))
            (try (obtain ⟨_, _, _, _⟩ := hSx))
            (try (obtain ⟨_, _, _⟩ := hSx))
            (try (obtain ⟨_, _⟩ := hSx))
            go_simp
            (try with_reducible rfl)
          (try simp only [Act.put, List.setIfInBounds_toArray, List.set_cons_zero, List.set_cons_succ])
          refine wpAnyH_take (i := 11) (v := ?_) rfl (by kernel_rfl) (by kernel_rfl) (by kernel_rfl) (fun _ _ _ h => h) (Or.inl ⟨by rfl, ?_⟩) (by assumption) ?_
          rotate_left
          · intro w hSw
            have hSx := HF0.out w hSw
            (try (obtain ⟨_, _, _, _, _, _, _, _⟩ := hSx))
            (try (obtain ⟨_, _, _, _⟩ := hSx))
            (try (obtain ⟨_, _, _⟩ := hSx))
            (try (obtain ⟨_, _⟩ := hSx))
            go_simp
            (try with_reducible rfl)
          (try simp only [Act.put, List.setIfInBounds_toArray, List.set_cons_zero, List.set_cons_succ])
          obtain ⟨s1, s2⟩ := store2 hx2 (.bool true) (.slice va l.length vc)
          obtain ⟨_, f0, f1⟩ := blk2 hx2
          have hS4 := hS2.trans (s2.below (B := w1.heap.size) (by omega))
          have hown4 := own_only hown s2 (by omega)
          have hxne : pa < D.heap.size := by have := lt_of_heap hax1; omega
          have hxr : w.heap.size < D.heap.size := by omega
          have hD0 : w.heap.size < DA.heap.size := by omega
          have hxx := s1
          generalize hxg : D.heap.size = xb at *
          refine wpAnyH_ready (rs := [13]) (by kernel_rfl) (by simp) ?_
          refine AllReadyH.cons rfl (fun K hK => ?_) AllReadyH.nil
          go_simp
          refine hK.out _ _ hS4 (fun _ => ?_)
          clear hK K
          (try simp only [Act.put, List.setIfInBounds_toArray, List.set_cons_zero, List.set_cons_succ])
          refine wpAnyH_ready (rs := [14]) (by kernel_rfl) (by simp) ?_
          refine AllReadyH.cons rfl (fun K hK => ?_) AllReadyH.nil
          go_simp
          refine hK.out _ _ hS4 (fun _ => ?_)
          clear hK K
          refine wpAnyH_done (by kernel_rfl) ?_ _
          generalize (W2.setCell ⟨xb, 0, none⟩ (.bool true)).setCell ⟨xb, 1, none⟩ (.slice va l.length vc) = W4 at *
          clear hx2 s1 s2 f0 f1 hb2 hown hS2 hxg hx hSa
          have hax4 := below_at hS4 hax1
          have hX4 := below_at hS4 hX1
          obtain ⟨ca4, fa4⟩ := blk1 hax4
          have hPs : (P1 : Int) + (s : Int) ≤ 1048576 := by omega
          obtain ⟨PS, HPS⟩ : ∃ PS, Hid (PS = P1 + s) := ⟨_, rfl⟩
          have hPS : (P1 : Int) + (s : Int) = (PS : Int) := by have := HPS.out; omega
          have hPSl : (PS : Int) ≤ 1048576 := by omega
          go_wp2_with fail
          obtain ⟨s5, o5⟩ := store1 hax4 (.int .i64 (PS : Int))
          have hxx5 := o5.at hxx (by omega)
          have hX5 := o5.at hX4 (by omega)
          have hK5 : Kb pa w (W4.setCell ⟨pa, 0, none⟩ (.int .i64 (PS : Int))) := (Kb.of_below (b01.trans (hS4.mono b01.size))).trans (Kb.of_only o5)
          have hown5 := own_only hown4 o5 (by omega)
          have hsz5 : w.heap.size < (W4.setCell ⟨pa, 0, none⟩ (.int .i64 (PS : Int))).heap.size := lt_of_heap hX5
          generalize W4.setCell ⟨pa, 0, none⟩ (.int .i64 (PS : Int)) = W5 at *
          clear ca4 fa4 hax4 hX4 hxx hown4 hS4
          obtain ⟨⟨x0, x1⟩, _⟩ := blk2 hxx5
          obtain ⟨y0, _⟩ := blk1 s5
          have hSS0 : W5.drew.cell? ⟨xb, 0, none⟩ = some (.bool true) ∧ W5.drew.cell? ⟨xb, 1, none⟩ = some (.slice va l.length vc) ∧ W5.drew.cell? ⟨pa, 0, none⟩ = some (.int .i64 (PS : Int)) := ⟨x0, x1, y0⟩
          refine wp_region_held_drew (S := fun W' => W'.cell? ⟨xb, 0, none⟩ = some (.bool true) ∧ W'.cell? ⟨xb, 1, none⟩ = some (.slice va l.length vc) ∧ W'.cell? ⟨pa, 0, none⟩ = some (.int .i64 (PS : Int))) (by kernel_rfl) hSS0 (fun hHeld => ?_)
          clear hHeld
          have hX6 : W5.drew.heap[w.heap.size]? = _ := hX5
          have hs6 : W5.drew.heap[pa]? = _ := s5
          have hxx6 : W5.drew.heap[xb]? = _ := hxx5
          have hK6 : Kb pa w W5.drew := hK5.trans (Kb.of_below (Below.refl _ _).drew)
          have hown6 := own_below hown5 (Below.refl _ W5).drew
          generalize W5.drew = D5 at *
          clear x0 x1 y0 hxx5 s5 hX5 hown5 hK5
          refine wpAnyH_take (i := 0) (v := ?_) rfl (by kernel_rfl) (by kernel_rfl) (by kernel_rfl) (fun _ _ _ h => h) (Or.inl ⟨by rfl, ?_⟩) (by assumption) ?_
          rotate_left
          · intro w hSw
            (try dsimp only at hSw)
            (try (obtain ⟨_, _, _, _, _, _, _⟩ := hSw))
            (try (obtain ⟨_, _⟩ := hSw))
            go_simp
            (try with_reducible rfl)
          (try simp only [Act.put, List.setIfInBounds_toArray, List.set_cons_zero, List.set_cons_succ])
          refine wpAnyH_take (i := 1) (v := ?_) rfl (by kernel_rfl) (by kernel_rfl) (by kernel_rfl) (fun _ _ _ h => h) (Or.inl ⟨by rfl, ?_⟩) (by assumption) ?_
          rotate_left
          · intro w hSw
            (try dsimp only at hSw)
            (try (obtain ⟨_, _, _, _, _, _, _⟩ := hSw))
            (try (obtain ⟨_, _⟩ := hSw))
            go_simp
            (try with_reducible rfl)
          (try simp only [Act.put, List.setIfInBounds_toArray, List.set_cons_zero, List.set_cons_succ])
          obtain ⟨t1, t2⟩ := store2 hX6 (.bool true) (.slice va l.length vc)
          obtain ⟨_, f6, f7⟩ := blk2 hX6
          have hxx7 := t2.at hxx6 (by omega)
          have hs7 := t2.at hs6 (by omega)
          obtain ⟨⟨x0, x1⟩, _⟩ := blk2 hxx7
          obtain ⟨y0, _⟩ := blk1 hs7
          obtain ⟨⟨z0, z1⟩, _⟩ := blk2 t1
          have hown7 := own_only hown6 t2 (by omega)
          have hK7 : Kb pa w ((D5.setCell ⟨w.heap.size, 0, none⟩ (.bool true)).setCell ⟨w.heap.size, 1, none⟩ (.slice va l.length vc)) := ⟨t2.os.trans hK6.os, t2.tape.trans hK6.tape, t2.output.trans hK6.output, Nat.le_trans hK6.size (Nat.le_of_eq t2.size), fun q hq hne => (t2.block q (by omega)).trans (hK6.block q hq hne)⟩
          have q2 := QOK.out true l (k + s) (.slice va l.length vc) _ HR2.out hK7 (row_baseE hown7 (Nat.le_of_lt hD0)) (by rw [show p + (k + s) = PS by have := HPS.out; have := HP1.out; omega]; exact hs7)
          rw [show p + (k + s) = PS by have := HPS.out; have := HP1.out; omega] at q2
          clear hown7 hown6 hK6 hxx6 hs6 QOK QNO
          refine wpAnyH_ready (rs := [2]) (by kernel_rfl) (by simp) ?_
          refine AllReadyH.cons rfl (fun K hK => ?_) AllReadyH.nil
          go_simp
          refine hK.out _ _ ⟨x0, x1, y0⟩ (fun _ => ?_)
          clear hK K
          (try simp only [Act.put, List.setIfInBounds_toArray, List.set_cons_zero, List.set_cons_succ])
          refine wpAnyH_ready (rs := [3]) (by kernel_rfl) (by simp) ?_
          refine AllReadyH.cons rfl (fun K hK => ?_) AllReadyH.nil
          go_simp
          refine hK.out _ _ ⟨x0, x1, y0⟩ (fun _ => ?_)
          clear hK K
          refine wpAnyH_done (by kernel_rfl) ?_ _
          go_wp2_with fail
          refine bodyPost_ret (v := .tuple #[.agg #[.bool true, .slice va l.length vc], .int .i64 PS]) (by simp [results, Try.results44, go_sem, Try.underlying45, z0, z1]) rfl ?_
          exact q2
    · have hodd' : (h % 2 == 1) = false := by simp; exact hodd
      have HR2 : Hid (R = match rdR W (zs.drop P1) (h / 2) toCome with | .error e => .error e | .ok (l, s) => .ok (false, l, k + s)) := by
        show _ = _
        rw [← HR.out]
        unfold rdRun
        rw [hv]
        simp only
        rw [if_neg hodd, hdd]
      clear HR hv hvo hodd
      go_enter Try.func44, Try.ntmps44
      go_wp2_with fail
      refine RV.mono ?_
      rintro e w1 ⟨hb1, rfl⟩
      rw [HP1.out]
      have hbx1 := below_at hb1 hbA
      have hax1 := below_at hb1 haA
      have hwx1 := below_at hb1 hwA
      have hX1 := below_at hb1 hX
      have b01 : Below w.heap.size w w1 := B0.trans (hb1.mono B0.size)
      have hs1 := src_slice8 (T.s.later b01) T.lc hP1L
      have HF : Hid (∀ W', Below w1.heap.size w1 W' → W'.cell? ⟨pb, 0, none⟩ = some (.slice (some ⟨g, off, none⟩) L cap) ∧ W'.cell? ⟨pw, 0, none⟩ = some (.int .i64 (W : Nat))) := fun W' hb => ⟨(blk1 (below_at hb hbx1)).1, (blk1 (below_at hb hwx1)).1⟩
      have hsz1 : w.heap.size + 1 ≤ w1.heap.size := by have := hb1.size; omega
      have RC := fun W' (hb : Below w1.heap.size w1 W') => rdR_any (if cap = P1 then some ⟨g, off, none⟩ else some ⟨g, off + P1, none⟩) (L - P1) (cap - P1) W (zs.drop P1) (h / 2) toCome W' (by omega) hW (hs1.later hb) hby1 hg0 hg1 ht
      clear RV hbA haA hwA hX hb1 cb fb ca fa hs1
      go_wp2_with fail
      refine (must_yes 0 _).mono ?_
      rintro e wx ⟨rfl, hwx⟩
      obtain rfl := hwx.symm
      go_wp2_with fail
      have hS0 : Below w1.heap.size w1 w1.drew := (Below.refl _ _).drew
      refine wp_region_held_drew (S := fun W' => Below w1.heap.size w1 W') (by kernel_rfl) hS0 (fun hHeld => ?_)
      clear hHeld
      have HF0 : Hid (∀ W', Below w1.heap.size w1 W' → True) := fun _ _ => trivial
      generalize w1.drew = D at *
      refine wpAnyH_take (i := 0) (v := ?_) rfl (by kernel_rfl) (by kernel_rfl) (by kernel_rfl) (fun _ _ _ h => h) (Or.inl ⟨by rfl, ?_⟩) (by assumption) ?_
      rotate_left
      · intro w hSw
        have hSx := HF.out w hSw
        (try (obtain ⟨_, _, _, _, _, _, _, _⟩ := hSx))
        (try (obtain ⟨_, _, _, _⟩ := hSx))
        (try (obtain ⟨_, _, _⟩ := hSx))
        (try (obtain ⟨_, _⟩ := hSx))
        go_simp
        (try with_reducible rfl)
      (try simp only [Act.put, List.setIfInBounds_toArray, List.set_cons_zero, List.set_cons_succ])
      refine wpAnyH_take (i := 1) (v := ?_) rfl (by kernel_rfl) (by kernel_rfl) (by kernel_rfl) (fun _ _ _ h => h) (Or.inl ⟨by rfl, ?_⟩) (by assumption) ?_
      rotate_left
      · intro w hSw
        have hSx := HF.out w hSw
        (try (obtain ⟨_, _, _, _, _, _, _, _⟩ := hSx))
        (try (obtain ⟨_, _, _, _⟩ := hSx))
        (try (obtain ⟨_, _, _⟩ := hSx))
        (try (obtain ⟨_, _⟩ := hSx))
        go_simp
        (try with_reducible rfl)
      (try simp only [Act.put, List.setIfInBounds_toArray, List.set_cons_zero, List.set_cons_succ])
      refine wpAnyH_take (i := 2) (v := ?_) rfl (by kernel_rfl) (by kernel_rfl) (by kernel_rfl) (fun _ _ _ h => h) (Or.inl ⟨by rfl, ?_⟩) (by assumption) ?_
      rotate_left
      · intro w hSw
        have hSx := HF.out w hSw
        (try (obtain ⟨_, _, _, _, _, _, _, _⟩ := hSx))
        (try (obtain ⟨_, _, _, _⟩ := hSx))
        (try (obtain ⟨_, _, _⟩ := hSx))
        (try (obtain ⟨_, _⟩ := hSx))
        go_simp
        (try with_reducible rfl)
      (try simp only [Act.put, List.setIfInBounds_toArray, List.set_cons_zero, List.set_cons_succ])
      refine wpAnyH_take (i := 3) (v := ?_) rfl (by kernel_rfl) (by kernel_rfl) (by kernel_rfl) (fun _ _ _ h => h) (Or.inl ⟨by rfl, ?_⟩) (by assumption) ?_
      rotate_left
      · intro w hSw
        have hSx := HF.out w hSw
        (try (obtain ⟨_, _, _, _, _, _, _, _⟩ := hSx))
        (try (obtain ⟨_, _, _, _⟩ := hSx))
        (try (obtain ⟨_, _, _⟩ := hSx))
        (try (obtain ⟨_, _⟩ := hSx))
        go_simp
        (try with_reducible rfl)
      (try simp only [Act.put, List.setIfInBounds_toArray, List.set_cons_zero, List.set_cons_succ])
      refine wpAnyH_take (i := 4) (v := ?_) rfl (by kernel_rfl) (by kernel_rfl) (by kernel_rfl) (fun _ _ _ h => h) (Or.inl ⟨by rfl, ?_⟩) (by assumption) ?_
      rotate_left
      · intro w hSw
        have hSx := HF.out w hSw
        (try (obtain ⟨_, _, _, _, _, _, _, _⟩ := hSx))
        (try (obtain ⟨_, _, _, _⟩ := hSx))
        (try (obtain ⟨_, _, _⟩ := hSx))
        (try (obtain ⟨_, _⟩ := hSx))
        go_simp
        (try with_reducible rfl)
      (try simp only [Act.put, List.setIfInBounds_toArray, List.set_cons_zero, List.set_cons_succ])
      refine wpAnyH_take (i := 5) (v := ?_) rfl (by kernel_rfl) (by kernel_rfl) (by kernel_rfl) (fun _ _ _ h => h) (Or.inl ⟨by rfl, ?_⟩) (by assumption) ?_
      rotate_left
      · intro w hSw
        have hSx := HF.out w hSw
        (try (obtain ⟨_, _, _, _, _, _, _, _⟩ := hSx))
        (try (obtain ⟨_, _, _, _⟩ := hSx))
        (try (obtain ⟨_, _, _⟩ := hSx))
        (try (obtain ⟨_, _⟩ := hSx))
        go_simp
        (try with_reducible rfl)
      (try simp only [Act.put, List.setIfInBounds_toArray, List.set_cons_zero, List.set_cons_succ])
      refine wpAnyH_take (i := 6) (v := ?_) rfl (by kernel_rfl) (by kernel_rfl) (by kernel_rfl) (fun _ _ _ h => h) (Or.inl ⟨by rfl, ?_⟩) (by assumption) ?_
      rotate_left
      · intro w hSw
        have hSx := HF.out w hSw
        (try (obtain ⟨_, _, _, _, _, _, _, _⟩ := hSx))
        (try (obtain ⟨_, _, _, _⟩ := hSx))
        (try (obtain ⟨_, _, _⟩ := hSx))
        (try (obtain ⟨_, _⟩ := hSx))
        go_simp
        (try with_reducible rfl)
      (try simp only [Act.put, List.setIfInBounds_toArray, List.set_cons_zero, List.set_cons_succ])
      refine wpAnyH_take (i := 7) (v := ?_) rfl (by kernel_rfl) (by kernel_rfl) (by kernel_rfl) (fun _ _ _ h => h) (Or.inl ⟨by rfl, ?_⟩) (by assumption) ?_
      rotate_left
      · intro w hSw
        have hSx := HF.out w hSw
        (try (obtain ⟨_, _, _, _, _, _, _, _⟩ := hSx))
        (try (obtain ⟨_, _, _, _⟩ := hSx))
        (try (obtain ⟨_, _, _⟩ := hSx))
        (try (obtain ⟨_, _⟩ := hSx))
        go_simp
        (try with_reducible rfl)
      (try simp only [Act.put, List.setIfInBounds_toArray, List.set_cons_zero, List.set_cons_succ])
      generalize (if cap = P1 then some (⟨g, off, none⟩ : Addr) else some ⟨g, off + P1, none⟩) = a' at *
      clear HF hby hby1
      refine wpAnyH_ready (rs := [8, 12]) (by kernel_rfl) (by simp) ?_
      refine AllReadyH.cons rfl (fun K hK => ?_) (AllReadyH.cons rfl (fun K hK => ?_) AllReadyH.nil)
      · have RCx := RC D hS0
        cases hx : rdR W (zs.drop P1) (h / 2) toCome with
        | error c =>
          rw [hx] at RCx HR2
          go_simp
          try rw [hwh]
          refine RCx.mono ?_
          rintro e W2 ⟨hb2, rfl⟩
          have q2 := QNO.out c _ HR2.out (Kb.of_below ((b01.trans (hS0.mono b01.size)).trans (hb2.mono (by have := hS0.size; omega))))
          unfold gives at q2 ⊢
          exact ⟨rfl, q2⟩
        | ok ls =>
          obtain ⟨l, s⟩ := ls
          have hsl := rdR_ok hx
          rw [List.length_drop] at hsl
          rw [hx] at RCx HR2
          go_simp
          try rw [hwh]
          refine RCx.mono ?_
          rintro e W2 ⟨hb2, v, rfl, hown⟩
          obtain ⟨va, vc, rfl⟩ := own_sl hown
          have hS2 : Below w1.heap.size w1 W2 := hS0.trans (hb2.mono hS0.size)
          go_simp
          refine hK.out _ _ hS2 (fun _ => ?_)
          clear hK K RC RCx
          (try simp only [Act.put, List.setIfInBounds_toArray, List.set_cons_zero, List.set_cons_succ])
          refine wpAnyH_take (i := 9) (v := ?_) rfl (by kernel_rfl) (by kernel_rfl) (by kernel_rfl) (fun _ _ _ h => h) (Or.inl ⟨by rfl, ?_⟩) (by assumption) ?_
          rotate_left
          · intro w hSw
            have hSx := HF0.out w hSw
            (try (obtain ⟨_, _, _, _, _, _, _, _⟩ := hSx))
            (try (obtain ⟨_, _, _, _⟩ := hSx))
            (try (obtain ⟨_, _, _⟩ := hSx))
            (try (obtain ⟨_, _⟩ := hSx))
            go_simp
            (try with_reducible rfl)
          (try simp only [Act.put, List.setIfInBounds_toArray, List.set_cons_zero, List.set_cons_succ])
          refine wpAnyH_take (i := 10) (v := ?_) rfl (by kernel_rfl) (by kernel_rfl) (by kernel_rfl) (fun _ _ _ h => h) (Or.inl ⟨by rfl, ?_⟩) (by assumption) ?_
          rotate_left
          · intro w hSw
            have hSx := HF0.out w hSw
            (try (obtain ⟨_, _, _, _, _, _, _, _⟩ := hSx))
            (try (obtain ⟨_, _, _, _⟩ := hSx))
            (try (obtain ⟨_, _, _⟩ := hSx))
            (try (obtain ⟨_, _⟩ := hSx))
            go_simp
            (try with_reducible rfl)
          (try simp only [Act.put, List.setIfInBounds_toArray, List.set_cons_zero, List.set_cons_succ])
          refine wpAnyH_take (i := 11) (v := ?_) rfl (by kernel_rfl) (by kernel_rfl) (by kernel_rfl) (fun _ _ _ h => h) (Or.inl ⟨by rfl, ?_⟩) (by assumption) ?_
          rotate_left
          · intro w hSw
            have hSx := HF0.out w hSw
            (try (obtain ⟨_, _, _, _, _, _, _, _⟩ := hSx))
            (try (obtain ⟨_, _, _, _⟩ := hSx))
            (try (obtain ⟨_, _, _⟩ := hSx))
            (try (obtain ⟨_, _⟩ := hSx))
            go_simp
            (try with_reducible rfl)
          (try simp only [Act.put, List.setIfInBounds_toArray, List.set_cons_zero, List.set_cons_succ])
          have hBl := hS2.size
          have hS3 : Below w1.heap.size w1 (W2.alloc (.cells #[.bool false, .slice none 0 0] 45 (0, 0))) := hS2.alloc hBl _
          have hx3 := heap_new W2 (.cells #[.bool false, .slice none 0 0] 45 (0, 0))
          have hown3 := own_below hown (alloc_below W2 (.cells #[.bool false, .slice none 0 0] 45 (0, 0)))
          refine wpAnyH_ready (rs := [12]) (by kernel_rfl) (by simp) ?_
          refine AllReadyH.cons rfl (fun K hK => ?_) AllReadyH.nil
          go_simp
          refine hK.out _ _ hS3 (fun _ => ?_)
          clear hK K
          (try simp only [Act.put, List.setIfInBounds_toArray, List.set_cons_zero, List.set_cons_succ])
          have hS4 : Below w1.heap.size w1 (W2.alloc (.cells #[.bool false, .slice va l.length vc] 45 (0, 0))) := hS2.alloc hBl _
          have hxx := heap_new W2 (.cells #[.bool false, .slice va l.length vc] 45 (0, 0))
          have hown4 := own_below hown (alloc_below W2 (.cells #[.bool false, .slice va l.length vc] 45 (0, 0)))
          have hxne : pa < W2.heap.size := by have := lt_of_heap hax1; omega
          have hxr : w.heap.size < W2.heap.size := by omega
          have hD0 : w.heap.size < D.heap.size := by have := hS0.size; omega
          generalize hxg : W2.heap.size = xb at *
          refine wpAnyH_ready (rs := [13]) (by kernel_rfl) (by simp) ?_
          refine AllReadyH.cons rfl (fun K hK => ?_) AllReadyH.nil
          go_simp
          refine hK.out _ _ hS4 (fun _ => ?_)
          clear hK K
          (try simp only [Act.put, List.setIfInBounds_toArray, List.set_cons_zero, List.set_cons_succ])
          refine wpAnyH_ready (rs := [14]) (by kernel_rfl) (by simp) ?_
          refine AllReadyH.cons rfl (fun K hK => ?_) AllReadyH.nil
          go_simp
          refine hK.out _ _ hS4 (fun _ => ?_)
          clear hK K
          refine wpAnyH_done (by kernel_rfl) ?_ _
          generalize W2.alloc (.cells #[.bool false, .slice va l.length vc] 45 (0, 0)) = W4 at *
          clear hown3 hx3 hS3 hb2 hown hS2 hxg hx
          have hax4 := below_at hS4 hax1
          have hX4 := below_at hS4 hX1
          obtain ⟨ca4, fa4⟩ := blk1 hax4
          have hPs : (P1 : Int) + (s : Int) ≤ 1048576 := by omega
          obtain ⟨PS, HPS⟩ : ∃ PS, Hid (PS = P1 + s) := ⟨_, rfl⟩
          have hPS : (P1 : Int) + (s : Int) = (PS : Int) := by have := HPS.out; omega
          have hPSl : (PS : Int) ≤ 1048576 := by omega
          go_wp2_with fail
          obtain ⟨s5, o5⟩ := store1 hax4 (.int .i64 (PS : Int))
          have hxx5 := o5.at hxx (by omega)
          have hX5 := o5.at hX4 (by omega)
          have hK5 : Kb pa w (W4.setCell ⟨pa, 0, none⟩ (.int .i64 (PS : Int))) := (Kb.of_below (b01.trans (hS4.mono b01.size))).trans (Kb.of_only o5)
          have hown5 := own_only hown4 o5 (by omega)
          have hsz5 : w.heap.size < (W4.setCell ⟨pa, 0, none⟩ (.int .i64 (PS : Int))).heap.size := lt_of_heap hX5
          generalize W4.setCell ⟨pa, 0, none⟩ (.int .i64 (PS : Int)) = W5 at *
          clear ca4 fa4 hax4 hX4 hxx hown4 hS4
          obtain ⟨⟨x0, x1⟩, _⟩ := blk2 hxx5
          obtain ⟨y0, _⟩ := blk1 s5
          have hSS0 : W5.drew.cell? ⟨xb, 0, none⟩ = some (.bool false) ∧ W5.drew.cell? ⟨xb, 1, none⟩ = some (.slice va l.length vc) ∧ W5.drew.cell? ⟨pa, 0, none⟩ = some (.int .i64 (PS : Int)) := ⟨x0, x1, y0⟩
          refine wp_region_held_drew (S := fun W' => W'.cell? ⟨xb, 0, none⟩ = some (.bool false) ∧ W'.cell? ⟨xb, 1, none⟩ = some (.slice va l.length vc) ∧ W'.cell? ⟨pa, 0, none⟩ = some (.int .i64 (PS : Int))) (by kernel_rfl) hSS0 (fun hHeld => ?_)
          clear hHeld
          have hX6 : W5.drew.heap[w.heap.size]? = _ := hX5
          have hs6 : W5.drew.heap[pa]? = _ := s5
          have hxx6 : W5.drew.heap[xb]? = _ := hxx5
          have hK6 : Kb pa w W5.drew := hK5.trans (Kb.of_below (Below.refl _ _).drew)
          have hown6 := own_below hown5 (Below.refl _ W5).drew
          generalize W5.drew = D5 at *
          clear x0 x1 y0 hxx5 s5 hX5 hown5 hK5
          refine wpAnyH_take (i := 0) (v := ?_) rfl (by kernel_rfl) (by kernel_rfl) (by kernel_rfl) (fun _ _ _ h => h) (Or.inl ⟨by rfl, ?_⟩) (by assumption) ?_
          rotate_left
          · intro w hSw
            (try dsimp only at hSw)
            (try (obtain ⟨_, _, _, _, _, _, _⟩ := hSw))
            (try (obtain ⟨_, _⟩ := hSw))
            go_simp
            (try with_reducible rfl)
          (try simp only [Act.put, List.setIfInBounds_toArray, List.set_cons_zero, List.set_cons_succ])
          refine wpAnyH_take (i := 1) (v := ?_) rfl (by kernel_rfl) (by kernel_rfl) (by kernel_rfl) (fun _ _ _ h => h) (Or.inl ⟨by rfl, ?_⟩) (by assumption) ?_
          rotate_left
          · intro w hSw
            (try dsimp only at hSw)
            (try (obtain ⟨_, _, _, _, _, _, _⟩ := hSw))
            (try (obtain ⟨_, _⟩ := hSw))
            go_simp
            (try with_reducible rfl)
          (try simp only [Act.put, List.setIfInBounds_toArray, List.set_cons_zero, List.set_cons_succ])
          obtain ⟨t1, t2⟩ := store2 hX6 (.bool false) (.slice va l.length vc)
          obtain ⟨_, f6, f7⟩ := blk2 hX6
          have hxx7 := t2.at hxx6 (by omega)
          have hs7 := t2.at hs6 (by omega)
          obtain ⟨⟨x0, x1⟩, _⟩ := blk2 hxx7
          obtain ⟨y0, _⟩ := blk1 hs7
          obtain ⟨⟨z0, z1⟩, _⟩ := blk2 t1
          have hown7 := own_only hown6 t2 (by omega)
          have hK7 : Kb pa w ((D5.setCell ⟨w.heap.size, 0, none⟩ (.bool false)).setCell ⟨w.heap.size, 1, none⟩ (.slice va l.length vc)) := ⟨t2.os.trans hK6.os, t2.tape.trans hK6.tape, t2.output.trans hK6.output, Nat.le_trans hK6.size (Nat.le_of_eq t2.size), fun q hq hne => (t2.block q (by omega)).trans (hK6.block q hq hne)⟩
          have q2 := QOK.out false l (k + s) (.slice va l.length vc) _ HR2.out hK7 (row_baseE hown7 (Nat.le_of_lt hD0)) (by rw [show p + (k + s) = PS by have := HPS.out; have := HP1.out; omega]; exact hs7)
          rw [show p + (k + s) = PS by have := HPS.out; have := HP1.out; omega] at q2
          clear hown7 hown6 hK6 hxx6 hs6 QOK QNO
          refine wpAnyH_ready (rs := [2]) (by kernel_rfl) (by simp) ?_
          refine AllReadyH.cons rfl (fun K hK => ?_) AllReadyH.nil
          go_simp
          refine hK.out _ _ ⟨x0, x1, y0⟩ (fun _ => ?_)
          clear hK K
          (try simp only [Act.put, List.setIfInBounds_toArray, List.set_cons_zero, List.set_cons_succ])
          refine wpAnyH_ready (rs := [3]) (by kernel_rfl) (by simp) ?_
          refine AllReadyH.cons rfl (fun K hK => ?_) AllReadyH.nil
          go_simp
          refine hK.out _ _ ⟨x0, x1, y0⟩ (fun _ => ?_)
          clear hK K
          refine wpAnyH_done (by kernel_rfl) ?_ _
          go_wp2_with fail
          refine bodyPost_ret (v := .tuple #[.agg #[.bool false, .slice va l.length vc], .int .i64 PS]) (by simp [results, Try.results44, go_sem, Try.underlying45, z0, z1]) rfl ?_
          exact q2
      · have hBl := hS0.size
        have hSa : Below w1.heap.size w1 (D.alloc (.cells #[.bool false, .slice none 0 0] 45 (0, 0))) := hS0.alloc hBl _
        have hxa := heap_new D (.cells #[.bool false, .slice none 0 0] 45 (0, 0))
        have hDa : D.heap.size < (D.alloc (.cells #[.bool false, .slice none 0 0] 45 (0, 0))).heap.size := lt_of_heap hxa
        go_simp
        refine hK.out _ _ hSa (fun _ => ?_)
        clear hK K
        (try simp only [Act.put, List.setIfInBounds_toArray, List.set_cons_zero, List.set_cons_succ])
        have RCx := RC _ hSa
        generalize D.alloc (.cells #[.bool false, .slice none 0 0] 45 (0, 0)) = DA at *
        cases hx : rdR W (zs.drop P1) (h / 2) toCome with
        | error c =>
          rw [hx] at RCx HR2
          refine wpAnyH_ready (rs := [8]) (by kernel_rfl) (by simp) ?_
          refine AllReadyH.cons rfl (fun K hK => ?_) AllReadyH.nil
          go_simp
          try rw [hwh]
          refine RCx.mono ?_
          rintro e W2 ⟨hb2, rfl⟩
          have q2 := QNO.out c _ HR2.out (Kb.of_below ((b01.trans (hSa.mono b01.size)).trans (hb2.mono (by omega))))
          unfold gives at q2 ⊢
          exact ⟨rfl, q2⟩
        | ok ls =>
          obtain ⟨l, s⟩ := ls
          have hsl := rdR_ok hx
          rw [List.length_drop] at hsl
          rw [hx] at RCx HR2
          refine wpAnyH_ready (rs := [8]) (by kernel_rfl) (by simp) ?_
          refine AllReadyH.cons rfl (fun K hK => ?_) AllReadyH.nil
          go_simp
          try rw [hwh]
          refine RCx.mono ?_
          rintro e W2 ⟨hb2, v, rfl, hown⟩
          obtain ⟨va, vc, rfl⟩ := own_sl hown
          have hS2 : Below w1.heap.size w1 W2 := hSa.trans (hb2.mono hSa.size)
          have hx2 := below_at hb2 hxa
          go_simp
          refine hK.out _ _ hS2 (fun _ => ?_)
          clear hK K RC RCx
          (try simp only [Act.put, List.setIfInBounds_toArray, List.set_cons_zero, List.set_cons_succ])
          refine wpAnyH_take (i := 9) (v := ?_) rfl (by kernel_rfl) (by kernel_rfl) (by kernel_rfl) (fun _ _ _ h => h) (Or.inl ⟨by rfl, ?_⟩) (by assumption) ?_
          rotate_left
          · intro w hSw
            have hSx := HF0.out w hSw
            (try (obtain ⟨_, _, _, _, _, _, _, _⟩ := hSx))
            (try (obtain ⟨_, _, _, _⟩ := hSx))
            (try (obtain ⟨_, _, _⟩ := hSx))
            (try (obtain ⟨_, _⟩ := hSx))
            go_simp
            (try with_reducible rfl)
          (try simp only [Act.put, List.setIfInBounds_toArray, List.set_cons_zero, List.set_cons_succ])
          refine wpAnyH_take (i := 10) (v := ?_) rfl (by kernel_rfl) (by kernel_rfl) (by kernel_rfl) (fun _ _ _ h => h) (Or.inl ⟨by rfl, ?_⟩) (by assumption) ?_
          rotate_left
          · intro w hSw
            have hSx := HF0.out w hSw
            (try (obtain ⟨_, _, _, _, _, _, _, _⟩ := hSx))
            (try (obtain ⟨_, _, _, _⟩ := hSx))
            (try (obtain ⟨_, _, _⟩ := hSx))
            (try (obtain ⟨_, _⟩ := hSx))
            go_simp
            (try with_reducible rfl)
          (try simp only [Act.put, List.setIfInBounds_toArray, List.set_cons_zero, List.set_cons_succ])
          refine wpAnyH_take (i := 11) (v := ?_) rfl (by kernel_rfl) (by kernel_rfl) (by kernel_rfl) (fun _ _ _ h => h) (Or.inl ⟨by rfl, ?_⟩) (by assumption) ?_
          rotate_left
          · intro w hSw
            have hSx := HF0.out w hSw
            (try (obtain ⟨_, _, _, _, _, _, _, _⟩ := hSx))
            (try (obtain ⟨_, _, _, _⟩ := hSx))
            (try (obtain ⟨_, _, _⟩ := hSx))
            (try (obtain ⟨_, _⟩ := hSx))
            go_simp
            (try with_reducible rfl)
          (try simp only [Act.put, List.setIfInBounds_toArray, List.set_cons_zero, List.set_cons_succ])
          obtain ⟨s1, s2⟩ := store2 hx2 (.bool false) (.slice va l.length vc)
          obtain ⟨_, f0, f1⟩ := blk2 hx2
          have hS4 := hS2.trans (s2.below (B := w1.heap.size) (by omega))
          have hown4 := own_only hown s2 (by omega)
          have hxne : pa < D.heap.size := by have := lt_of_heap hax1; omega
          have hxr : w.heap.size < D.heap.size := by omega
          have hD0 : w.heap.size < DA.heap.size := by omega
          have hxx := s1
          generalize hxg : D.heap.size = xb at *
          refine wpAnyH_ready (rs := [13]) (by kernel_rfl) (by simp) ?_
          refine AllReadyH.cons rfl (fun K hK => ?_) AllReadyH.nil
          go_simp
          refine hK.out _ _ hS4 (fun _ => ?_)
          clear hK K
          (try simp only [Act.put, List.setIfInBounds_toArray, List.set_cons_zero, List.set_cons_succ])
          refine wpAnyH_ready (rs := [14]) (by kernel_rfl) (by simp) ?_
          refine AllReadyH.cons rfl (fun K hK => ?_) AllReadyH.nil
          go_simp
          refine hK.out _ _ hS4 (fun _ => ?_)
          clear hK K
          refine wpAnyH_done (by kernel_rfl) ?_ _
          generalize (W2.setCell ⟨xb, 0, none⟩ (.bool false)).setCell ⟨xb, 1, none⟩ (.slice va l.length vc) = W4 at *
          clear hx2 s1 s2 f0 f1 hb2 hown hS2 hxg hx hSa
          have hax4 := below_at hS4 hax1
          have hX4 := below_at hS4 hX1
          obtain ⟨ca4, fa4⟩ := blk1 hax4
          have hPs : (P1 : Int) + (s : Int) ≤ 1048576 := by omega
          obtain ⟨PS, HPS⟩ : ∃ PS, Hid (PS = P1 + s) := ⟨_, rfl⟩
          have hPS : (P1 : Int) + (s : Int) = (PS : Int) := by have := HPS.out; omega
          have hPSl : (PS : Int) ≤ 1048576 := by omega
          go_wp2_with fail
          obtain ⟨s5, o5⟩ := store1 hax4 (.int .i64 (PS : Int))
          have hxx5 := o5.at hxx (by omega)
          have hX5 := o5.at hX4 (by omega)
          have hK5 : Kb pa w (W4.setCell ⟨pa, 0, none⟩ (.int .i64 (PS : Int))) := (Kb.of_below (b01.trans (hS4.mono b01.size))).trans (Kb.of_only o5)
          have hown5 := own_only hown4 o5 (by omega)
          have hsz5 : w.heap.size < (W4.setCell ⟨pa, 0, none⟩ (.int .i64 (PS : Int))).heap.size := lt_of_heap hX5
          generalize W4.setCell ⟨pa, 0, none⟩ (.int .i64 (PS : Int)) = W5 at *
          clear ca4 fa4 hax4 hX4 hxx hown4 hS4
          obtain ⟨⟨x0, x1⟩, _⟩ := blk2 hxx5
          obtain ⟨y0, _⟩ := blk1 s5
          have hSS0 : W5.drew.cell? ⟨xb, 0, none⟩ = some (.bool false) ∧ W5.drew.cell? ⟨xb, 1, none⟩ = some (.slice va l.length vc) ∧ W5.drew.cell? ⟨pa, 0, none⟩ = some (.int .i64 (PS : Int)) := ⟨x0, x1, y0⟩
          refine wp_region_held_drew (S := fun W' => W'.cell? ⟨xb, 0, none⟩ = some (.bool false) ∧ W'.cell? ⟨xb, 1, none⟩ = some (.slice va l.length vc) ∧ W'.cell? ⟨pa, 0, none⟩ = some (.int .i64 (PS : Int))) (by kernel_rfl) hSS0 (fun hHeld => ?_)
          clear hHeld
          have hX6 : W5.drew.heap[w.heap.size]? = _ := hX5
          have hs6 : W5.drew.heap[pa]? = _ := s5
          have hxx6 : W5.drew.heap[xb]? = _ := hxx5
          have hK6 : Kb pa w W5.drew := hK5.trans (Kb.of_below (Below.refl _ _).drew)
          have hown6 := own_below hown5 (Below.refl _ W5).drew
          generalize W5.drew = D5 at *
          clear x0 x1 y0 hxx5 s5 hX5 hown5 hK5
          refine wpAnyH_take (i := 0) (v := ?_) rfl (by kernel_rfl) (by kernel_rfl) (by kernel_rfl) (fun _ _ _ h => h) (Or.inl ⟨by rfl, ?_⟩) (by assumption) ?_
          rotate_left
          · intro w hSw
            (try dsimp only at hSw)
            (try (obtain ⟨_, _, _, _, _, _, _⟩ := hSw))
            (try (obtain ⟨_, _⟩ := hSw))
            go_simp
            (try with_reducible rfl)
          (try simp only [Act.put, List.setIfInBounds_toArray, List.set_cons_zero, List.set_cons_succ])
          refine wpAnyH_take (i := 1) (v := ?_) rfl (by kernel_rfl) (by kernel_rfl) (by kernel_rfl) (fun _ _ _ h => h) (Or.inl ⟨by rfl, ?_⟩) (by assumption) ?_
          rotate_left
          · intro w hSw
            (try dsimp only at hSw)
            (try (obtain ⟨_, _, _, _, _, _, _⟩ := hSw))
            (try (obtain ⟨_, _⟩ := hSw))
            go_simp
            (try with_reducible rfl)
          (try simp only [Act.put, List.setIfInBounds_toArray, List.set_cons_zero, List.set_cons_succ])
          obtain ⟨t1, t2⟩ := store2 hX6 (.bool false) (.slice va l.length vc)
          obtain ⟨_, f6, f7⟩ := blk2 hX6
          have hxx7 := t2.at hxx6 (by omega)
          have hs7 := t2.at hs6 (by omega)
          obtain ⟨⟨x0, x1⟩, _⟩ := blk2 hxx7
          obtain ⟨y0, _⟩ := blk1 hs7
          obtain ⟨⟨z0, z1⟩, _⟩ := blk2 t1
          have hown7 := own_only hown6 t2 (by omega)
          have hK7 : Kb pa w ((D5.setCell ⟨w.heap.size, 0, none⟩ (.bool false)).setCell ⟨w.heap.size, 1, none⟩ (.slice va l.length vc)) := ⟨t2.os.trans hK6.os, t2.tape.trans hK6.tape, t2.output.trans hK6.output, Nat.le_trans hK6.size (Nat.le_of_eq t2.size), fun q hq hne => (t2.block q (by omega)).trans (hK6.block q hq hne)⟩
          have q2 := QOK.out false l (k + s) (.slice va l.length vc) _ HR2.out hK7 (row_baseE hown7 (Nat.le_of_lt hD0)) (by rw [show p + (k + s) = PS by have := HPS.out; have := HP1.out; omega]; exact hs7)
          rw [show p + (k + s) = PS by have := HPS.out; have := HP1.out; omega] at q2
          clear hown7 hown6 hK6 hxx6 hs6 QOK QNO
          refine wpAnyH_ready (rs := [2]) (by kernel_rfl) (by simp) ?_
          refine AllReadyH.cons rfl (fun K hK => ?_) AllReadyH.nil
          go_simp
          refine hK.out _ _ ⟨x0, x1, y0⟩ (fun _ => ?_)
          clear hK K
          (try simp only [Act.put, List.setIfInBounds_toArray, List.set_cons_zero, List.set_cons_succ])
          refine wpAnyH_ready (rs := [3]) (by kernel_rfl) (by simp) ?_
          refine AllReadyH.cons rfl (fun K hK => ?_) AllReadyH.nil
          go_simp
          refine hK.out _ _ ⟨x0, x1, y0⟩ (fun _ => ?_)
          clear hK K
          refine wpAnyH_done (by kernel_rfl) ?_ _
          go_wp2_with fail
          refine bodyPost_ret (v := .tuple #[.agg #[.bool false, .slice va l.length vc], .int .i64 PS]) (by simp [results, Try.results44, go_sem, Try.underlying45, z0, z1]) rfl ?_
          exact q2
end Go.Proofs.Ytignjhmbajiphaa
