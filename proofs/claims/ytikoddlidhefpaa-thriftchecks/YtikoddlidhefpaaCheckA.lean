/-
  What thrift asks of a value by itself: its numbers rise, its values are of the Kinds that are told, what it does not use is zero.
-/
import Derived.Test.YtikoddlidhefpaaSame
import Derived.BigRegion
namespace Go.Proofs.Ytikoddlidhefpaa
open Go.ChangeShapes Go.WideShapes Go.ChangeAt Go.RowKit Go.Deep

def risingB : List Int → Int → Bool
  | [], _ => true
  | x :: r, a => decide (a < x) && decide (x ≤ 32767) && risingB r x

def kindsBy (ks : List Int) : Nat → Fo → Bool
  | _, .nil => true
  | i, .node _ _ p _ r => decide (p.kind = ks.getD (i % ks.length) 0) && kindsBy ks (i + 1) r

theorem drop_cons {l : List Int} {i : Nat} (h : i < l.length) : l.drop i = l.getD i 0 :: l.drop (i + 1) := by
  rw [List.drop_eq_getElem_cons h]
  simp [List.getD, List.getElem?_eq_getElem h]

set_option maxHeartbeats 1000000 in
theorem areRising_any (w : World) (a : Option Addr) (cap : Nat) (l : List Int) (hl : l.length ≤ 140737488355328) (h : Src w a l.length cap (c64 l)) :
    Calls Try.prog 73 #[.slice a l.length cap] w fun e w' => e = .returned (.bool (risingB l 0)) ∧ w' = w := by
  obtain ⟨L, hL⟩ : ∃ L, L = l.length := ⟨_, rfl⟩
  rw [← hL] at h hl ⊢
  have HL : Hid (L = l.length) := hL
  clear hL
  have hl' : (L : Int) ≤ 140737488355328 := by omega
  go_enter Try.func73, Try.ntmps73
  go_wp2
  go_loop [3, 8] (fun av iv => ∃ (i : Nat) (x : Int), i ≤ L ∧ iv = .int .i64 i ∧ av = .int .i64 x ∧ Hid (risingB (l.drop i) x = risingB l 0)) (fun _ iv => L - (intOf iv).toNat)
  case atStart => exact ⟨0, 0, Nat.zero_le _, rfl, rfl, rfl⟩
  case round =>
    obtain ⟨i, x, hi, rfl, rfl, H⟩ := hrel
    by_cases hlt : i < L
    · have hlt' : (i : Int) < (L : Int) := by omega
      obtain ⟨g, off, rfl, k1⟩ := ids_at h hlt
      have HS : Hid ((decide (x < l.getD i 0) && decide (l.getD i 0 ≤ 32767) && risingB (l.drop (i + 1)) (l.getD i 0)) = risingB l 0) := by
        show _ = _
        rw [← H.out, drop_cons (i := i) (by have := HL.out; omega)]
        rfl
      clear H
      generalize l.getD i 0 = z at *
      by_cases hz : x < z
      · by_cases hz2 : z ≤ 32767
        · have HN : Hid (risingB (l.drop (i + 1)) z = risingB l 0) := by show _ = _; rw [← HS.out]; simp [hz, hz2]
          go_wp2
          go_round
          case rel => exact ⟨i + 1, z, by omega, by go_num, rfl, HN⟩
          case measure => simp [intOf]; omega
        · have HN : Hid (risingB l 0 = false) := by show _ = _; rw [← HS.out]; simp [hz2]
          have hz3 : 32767 < z := by omega
          go_wp2
          go_ret
          exact ⟨by rw [HN.out]; rfl, rfl⟩
      · have HN : Hid (risingB l 0 = false) := by show _ = _; rw [← HS.out]; simp [hz]
        have hz3 : z ≤ x := by omega
        go_wp2
        go_ret
        exact ⟨by rw [HN.out]; rfl, rfl⟩
    · have hlt' : (L : Int) ≤ (i : Int) := by omega
      have HN : Hid (risingB l 0 = true) := by show _ = _; rw [← H.out, List.drop_eq_nil_of_le (by have := HL.out; omega)]; rfl
      go_wp2
      go_ret
      exact ⟨by rw [HN.out]; rfl, rfl⟩

set_option maxHeartbeats 2000000 in
theorem areOf_any (w : World) (c : Fo) (la : Option Addr) (lc : Nat) (ka : Option Addr) (kc : Nat) (ks : List Int) (hc : flen c ≤ 140737488355328) (h0 : 1 ≤ ks.length) (h2 : ks.length ≤ 2) (h : FAt w c la) (hk : Src w ka ks.length kc (c64 ks)) :
    Calls Try.prog 71 #[.slice la (flen c) lc, .slice ka ks.length kc] w fun e w' => e = .returned (.bool (ks.all knownB && kindsBy ks 0 c)) ∧ Below w.heap.size w w' := by
  obtain ⟨L, hL⟩ : ∃ L, L = ks.length := ⟨_, rfl⟩
  rw [← hL] at hk h0 h2 ⊢
  have HL : Hid (L = ks.length) := hL
  clear hL
  have hl' : (L : Int) ≤ 2 := by omega
  have hl0 : (1 : Int) ≤ (L : Int) := by omega
  have hc' : (flen c : Int) ≤ 140737488355328 := by omega
  go_enter Try.func71, Try.ntmps71
  go_wp2
  go_loop [11] (fun iv => ∃ i : Nat, i ≤ L ∧ iv = .int .i64 i ∧ Hid ((ks.take i).all knownB = true)) (fun iv => L - (intOf iv).toNat)
  case atStart => exact ⟨0, Nat.zero_le _, rfl, rfl⟩
  case round =>
    obtain ⟨i, hi, rfl, H⟩ := hrel
    by_cases hlt : i < L
    · have hlt' : (i : Int) < (L : Int) := by omega
      obtain ⟨g, off, rfl, k1⟩ := ids_at hk hlt
      have HG : Hid (ks.getD i 0 ∈ ks ∧ ks.take (i + 1) = ks.take i ++ [ks.getD i 0]) := by
        have hi' : i < ks.length := by have := HL.out; omega
        refine ⟨?_, ?_⟩
        · simp [List.getD, List.getElem?_eq_getElem hi']
        · rw [List.take_succ_eq_append_getElem hi']
          simp [List.getD, List.getElem?_eq_getElem hi']
      generalize ks.getD i 0 = z at *
      have K := isKind_any z
      by_cases hz : knownB z = true
      · have HN : Hid ((ks.take (i + 1)).all knownB = true) := by show _ = _; rw [HG.out.2, List.all_append, H.out]; simp [hz]
        rw [hz] at K
        clear hz
        go_wp2_with (go_at_call 90; refine (K _).mono ?_; rintro e wx ⟨rfl, hwx⟩; obtain rfl := hwx.symm)
        go_round
        case rel => exact ⟨i + 1, by omega, by go_num, HN⟩
        case measure => simp [intOf]; omega
      · have hz' : knownB z = false := by simpa using hz
        have HN : Hid (ks.all knownB = false) := by show _ = _; rw [List.all_eq_false]; exact ⟨z, HG.out.1, by simp [hz']⟩
        rw [hz'] at K
        clear hz hz'
        go_wp2_with (go_at_call 90; refine (K _).mono ?_; rintro e wx ⟨rfl, hwx⟩; obtain rfl := hwx.symm)
        go_ret
        exact ⟨by rw [HN.out]; rfl, Below.refl _ _⟩
    · have hlt' : (L : Int) ≤ (i : Int) := by omega
      have HA : Hid (ks.all knownB = true) := by
        have := H.out
        rwa [List.take_of_length_le (by have := HL.out; omega)] at this
      clear H
      go_wp2
      go_loopw [21] (fun iv wr => ∃ j : Nat, j ≤ flen c ∧ iv = .int .i64 j ∧ Hid (kindsBy ks j (fdrop c j) = kindsBy ks 0 c) ∧ Below w.heap.size w wr) (fun iv _ => flen c - (intOf iv).toNat)
      case atStart => exact ⟨0, Nat.zero_le _, rfl, by cases c <;> rfl, Below.refl _ _⟩
      case round =>
        obtain ⟨j, hj, rfl, H, hb⟩ := hrel
        by_cases hlt2 : j < flen c
        · have hlt2' : (j : Int) < (flen c : Int) := by omega
          obtain ⟨q, e, b, o, ja, jc, na, nc, bt, ot, _, hm, ef, rfl, hbl, hv, d0, d1, d2, d3, d4, d5, d6⟩ := row_at (h.later hb) hlt2
          have hmod : j % L < L := Nat.mod_lt _ (by omega)
          have hab := alloc_below wr (.cells #[.int .i64 q.kind, .int .i64 q.key, .int .i64 q.elem, .int .i64 q.num, .string q.text, .slice ja q.ids.length jc, .slice na (flen e) nc] 26)
          obtain ⟨g, off, rfl, k1⟩ := ids_at ((hk.later hb).later hab) hmod
          have HS : Hid ((decide (q.kind = ks.getD (j % L) 0) && kindsBy ks (j + 1) (fdrop c (j + 1))) = kindsBy ks 0 c) := by
            show _ = _
            rw [← H.out, ef, HL.out]
            rfl
          clear H
          generalize ks.getD (j % L) 0 = z at *
          have m1 : (j : Int).tmod (L : Int) = ((j % L : Nat) : Int) := by rw [Int.tmod_eq_emod_of_nonneg (by omega)]; rfl
          generalize j % L = r at *
          have hmod' : (r : Int) < (L : Int) := by omega
          by_cases hz : q.kind = z
          · have HN : Hid (kindsBy ks (j + 1) (fdrop c (j + 1)) = kindsBy ks 0 c) := by show _ = _; rw [← HS.out]; simp [hz]
            subst hz
            go_wp2
            go_quiet (fail)
            go_wp2
            go_roundw
            case rel => exact ⟨j + 1, by omega, by go_num, HN, below_drewN (hb.trans (hab.mono hb.size)) nq⟩
            case measure => simp [intOf]; omega
          · have HN : Hid (kindsBy ks 0 c = false) := by show _ = _; rw [← HS.out]; simp [hz]
            go_wp2
            go_quiet (fail)
            go_wp2
            go_ret
            exact ⟨by rw [HN.out]; simp, below_drewN (hb.trans (hab.mono hb.size)) nq⟩
        · have hlt2' : (flen c : Int) ≤ (j : Int) := by omega
          have HN : Hid (kindsBy ks 0 c = true) := by
            show _ = _
            rw [← H.out, show fdrop c j = .nil by rw [show j = flen c by omega]; exact fdrop_end c]
            cases j <;> rfl
          go_wp2
          go_ret
          exact ⟨by rw [HN.out, HA.out]; rfl, hb⟩

/-- what is left of a value without what its Kind uses -/
def clrP (p : Pay) : Pay :=
  if p.kind = 8 then { p with kind := 0, text := { data := #[] } }
  else if p.kind = 9 then { p with kind := 0, elem := 0 }
  else if p.kind = 11 then { p with kind := 0, key := 0, elem := 0 }
  else if p.kind = 12 then { p with kind := 0, ids := [] }
  else { p with kind := 0, num := 0 }
def clrF (p : Pay) (c : Fo) : Fo := if p.kind = 9 ∨ p.kind = 11 ∨ p.kind = 12 then .nil else c

set_option maxHeartbeats 1000000 in
theorem unused_any (p : Pay) (c : Fo) (w : World) (ia : Option Addr) (ic : Nat) (la : Option Addr) (lc : Nat) (hv : VIn w p c ia ic la lc) :
    Calls Try.prog 68 #[val p c ia ic la lc] w fun e w' => ∃ ja jc ka kc, e = .returned (val (clrP p) (clrF p c) ja jc ka kc) ∧ VIn w' (clrP p) (clrF p c) ja jc ka kc ∧ Below w.heap.size w w' := by
  obtain ⟨o1, o2, o3, o4⟩ := hv
  have z0 : i64ok 0 := ⟨by omega, by omega⟩
  have hb : ∀ x y, Below w.heap.size w ((w.alloc x).alloc y) := fun x y => ((Below.refl _ w).alloc (Nat.le_refl _) x).alloc (by simp) y
  by_cases h8 : p.kind = 8
  · have e1 : clrP p = { p with kind := 0, text := { data := #[] } } := by simp [clrP, h8]
    have e2 : clrF p c = c := by simp [clrF, h8]
    rw [e1, e2]
    clear e1 e2
    go_enter Try.func68, Try.ntmps68
    go_wp2
    refine bodyPost_ret (results_val rfl _ _ _ _ rfl _ rfl (alloc2_cells _ _ _ _ _)) rfl ?_
    exact ⟨ia, ic, la, lc, rfl, ⟨⟨z0, o1.key, o1.elem, o1.num, Nat.zero_le _, o1.ids, o1.idn⟩, o2, o3.later (hb _ _), o4.later (hb _ _)⟩, hb _ _⟩
  by_cases h9 : p.kind = 9
  · have e1 : clrP p = { p with kind := 0, elem := 0 } := by simp [clrP, h9]
    have e2 : clrF p c = .nil := by simp [clrF, h9]
    rw [e1, e2]
    clear e1 e2
    go_enter Try.func68, Try.ntmps68
    go_wp2
    refine bodyPost_ret (results_val rfl _ _ _ _ rfl _ rfl (alloc2_cells _ _ _ _ _)) rfl ?_
    exact ⟨ia, ic, none, 0, rfl, ⟨⟨z0, o1.key, z0, o1.num, o1.text, o1.ids, o1.idn⟩, Nat.zero_le _, o3.later (hb _ _), trivial⟩, hb _ _⟩
  by_cases h11 : p.kind = 11
  · have e1 : clrP p = { p with kind := 0, key := 0, elem := 0 } := by simp [clrP, h11]
    have e2 : clrF p c = .nil := by simp [clrF, h11]
    rw [e1, e2]
    clear e1 e2
    go_enter Try.func68, Try.ntmps68
    go_wp2
    refine bodyPost_ret (results_val rfl _ _ _ _ rfl _ rfl (alloc2_cells _ _ _ _ _)) rfl ?_
    exact ⟨ia, ic, none, 0, rfl, ⟨⟨z0, z0, z0, o1.num, o1.text, o1.ids, o1.idn⟩, Nat.zero_le _, o3.later (hb _ _), trivial⟩, hb _ _⟩
  by_cases h12 : p.kind = 12
  · have e1 : clrP p = { p with kind := 0, ids := [] } := by simp [clrP, h12]
    have e2 : clrF p c = .nil := by simp [clrF, h12]
    rw [e1, e2]
    clear e1 e2
    go_enter Try.func68, Try.ntmps68
    go_wp2
    refine bodyPost_ret (results_val rfl _ _ _ _ rfl _ rfl (alloc2_cells _ _ _ _ _)) rfl ?_
    exact ⟨none, 0, none, 0, rfl, ⟨⟨z0, o1.key, o1.elem, o1.num, o1.text, Nat.zero_le _, fun _ h => by cases h⟩, Nat.zero_le _, ⟨rfl, .inl ⟨rfl, rfl, rfl⟩⟩, trivial⟩, hb _ _⟩
  have e1 : clrP p = { p with kind := 0, num := 0 } := by simp [clrP, h8, h9, h11, h12]
  have e2 : clrF p c = c := by simp [clrF, h9, h11, h12]
  rw [e1, e2]
  clear e1 e2
  go_enter Try.func68, Try.ntmps68
  go_wp2
  refine bodyPost_ret (results_val rfl _ _ _ _ rfl _ rfl (alloc2_cells _ _ _ _ _)) rfl ?_
  exact ⟨ia, ic, la, lc, rfl, ⟨⟨z0, o1.key, o1.elem, z0, o1.text, o1.ids, o1.idn⟩, o2, o3.later (hb _ _), o4.later (hb _ _)⟩, hb _ _⟩
end Go.Proofs.Ytikoddlidhefpaa
