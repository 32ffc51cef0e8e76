/-
  Same: thrift's, by the library's Equal and EqualFunc, and the reference's.
-/
import Derived.Test.YtikoddlidhefpaaScalar
import Derived.BigQuiet
import Derived.WalkSmall
import Derived.Deep.QuietTactic
import Derived.BigRegion
import Derived.OneCell
namespace Go.Proofs.Ytikoddlidhefpaa
open Go.ChangeShapes Go.WideShapes Go.ChangeAt Go.RowKit Go.Deep

def sameP (p q : Pay) : Bool := decide (p.kind = q.kind ∧ p.key = q.key ∧ p.elem = q.elem ∧ p.num = q.num ∧ p.text.toList = q.text.toList ∧ p.ids = q.ids)
def sameF : Fo → Fo → Bool
  | .nil, .nil => true
  | .node _ _ p c r, .node _ _ q d s => sameP p q && sameF c d && sameF r s
  | _, _ => false
theorem sameF_len : ∀ {c d : Fo}, sameF c d = true → flen c = flen d
  | .nil, .nil, _ => rfl
  | .node _ _ p c r, .node _ _ q d s, h => by
    simp only [sameF, Bool.and_eq_true] at h
    simp [flen, sameF_len h.2]
  | .nil, .node _ _ _ _ _, h => by simp [sameF] at h
  | .node _ _ _ _ _, .nil, h => by simp [sameF] at h
theorem sameF_node (b o b' o' : Nat) (p q : Pay) (c r d s : Fo) : sameF (.node b o p c r) (.node b' o' q d s) = (sameP p q && sameF c d && sameF r s) := rfl

theorem take_succ_eq {l m : List Int} {i : Nat} (hl : i < l.length) (hm : i < m.length) : l.take (i + 1) = m.take (i + 1) ↔ l.take i = m.take i ∧ l.getD i 0 = m.getD i 0 := by
  rw [List.take_succ_eq_append_getElem hl, List.take_succ_eq_append_getElem hm]
  simp only [List.getD_eq_getElem?_getD, List.getElem?_eq_getElem hl, List.getElem?_eq_getElem hm, Option.getD_some]
  constructor
  · intro h
    have h1 := List.append_inj h (by simp; omega)
    exact ⟨h1.1, by simpa using h1.2⟩
  · rintro ⟨h1, h2⟩
    rw [h1, h2]

set_option maxHeartbeats 1000000 in
theorem eqInts_any (w : World) (a b : Option Addr) (ca cb : Nat) (l m : List Int) (hl : l.length ≤ 140737488355328) (hm : m.length ≤ 140737488355328) (h1 : Src w a l.length ca (c64 l)) (h2 : Src w b m.length cb (c64 m)) :
    Calls Try.prog 43 #[.slice a l.length ca, .slice b m.length cb] w fun e w' => e = .returned (.bool (decide (l = m))) ∧ Below w.heap.size w w' := by
  obtain ⟨L, hL⟩ : ∃ L, L = l.length := ⟨_, rfl⟩
  obtain ⟨M, hM⟩ : ∃ M, M = m.length := ⟨_, rfl⟩
  rw [← hL] at h1 hl ⊢
  rw [← hM] at h2 hm ⊢
  have hl' : (L : Int) ≤ 140737488355328 := by omega
  by_cases hlm : L = M
  · subst hlm
    have HLM : Hid (L = l.length ∧ L = m.length) := ⟨hL, hM⟩
    clear hL hM
    go_enter Try.func43, Try.ntmps43
    go_wp2
    go_loopw [13] (fun iv wr => ∃ i : Nat, i ≤ L ∧ iv = .int .i64 i ∧ Hid (l.take i = m.take i) ∧ Below w.heap.size w wr) (fun iv _ => L - (intOf iv).toNat)
    case atStart => exact ⟨0, Nat.zero_le _, rfl, rfl, Below.refl _ _⟩
    case round =>
      obtain ⟨i, hi, rfl, H, hb⟩ := hrel
      by_cases hlt : i < L
      · have hlt' : (i : Int) < (L : Int) := by omega
        obtain ⟨g, off, rfl, k1⟩ := ids_at (h1.later hb) hlt
        obtain ⟨g', off', rfl, k2⟩ := ids_at (h2.later hb) hlt
        by_cases hx : l.getD i 0 = m.getD i 0
        · have HN : Hid (l.take (i + 1) = m.take (i + 1)) := by
            have := HLM.out
            exact (take_succ_eq (by omega) (by omega)).2 ⟨H.out, hx⟩
          rw [hx] at k1
          generalize m.getD i 0 = z at *
          clear hx
          go_wp2
          go_quiet (fail)
          go_wp2
          go_roundw
          case rel => exact ⟨i + 1, by omega, by go_num, HN, below_drewN hb nq⟩
          case measure => simp [intOf]; omega
        · have HN : Hid (¬ l = m) := by intro e; subst e; exact hx rfl
          generalize l.getD i 0 = y at *
          generalize m.getD i 0 = z at *
          go_wp2
          go_quiet (fail)
          go_wp2
          go_ret
          exact ⟨by rw [decide_eq_false HN.out]; rfl, below_drewN hb nq⟩
      · have hlt' : (L : Int) ≤ (i : Int) := by omega
        have HN : Hid (l = m) := by
          have h3 := HLM.out
          have h4 := H.out
          rwa [List.take_of_length_le (by omega), List.take_of_length_le (by omega)] at h4
        go_wp2
        go_ret
        exact ⟨by rw [decide_eq_true HN.out]; rfl, hb⟩
  · have hlm' : ¬ (L : Int) = (M : Int) := by omega
    have HN : Hid (¬ l = m) := by intro e; subst e; omega
    clear hL hM
    go_enter Try.func43, Try.ntmps43
    go_wp2
    go_ret
    exact ⟨by rw [decide_eq_false HN.out]; rfl, Below.refl _ _⟩

def SameC (p : Pay) (c : Fo) : Prop := ∀ (w : World) (ia : Option Addr) (ic : Nat) (la : Option Addr) (lc : Nat) (q : Pay) (d : Fo) (ja : Option Addr) (jc : Nat) (ka : Option Addr) (kc : Nat), VIn w p c ia ic la lc → VIn w q d ja jc ka kc →
  Calls Try.prog 26 #[val p c ia ic la lc, val q d ja jc ka kc] w fun e w' => e = .returned (.bool (sameP p q && sameF c d)) ∧ Below w.heap.size w w'

set_option maxHeartbeats 1000000 in
theorem eqFunc_any (c d : Fo) (ih : ∀ x ∈ elems c, SameC x.1 x.2) (w : World) (la ka : Option Addr) (lc kc : Nat) (hc : flen c ≤ 140737488355328) (h1 : FAt w c la) (h2 : FAt w d ka) :
    Calls Try.prog 44 #[.slice la (flen c) lc, .slice ka (flen d) kc, .func (.func 26) #[] #[]] w fun e w' => e = .returned (.bool (sameF c d)) ∧ Below w.heap.size w w' := by
  have hc' : (flen c : Int) ≤ 140737488355328 := by omega
  by_cases hcd : flen c = flen d
  · rw [← hcd]
    have HCD : Hid (flen c = flen d) := hcd
    clear hcd
    go_enter Try.func44, Try.ntmps44
    go_wp2_with fail
    go_loopw [17] (fun iv wr => ∃ i : Nat, i ≤ flen c ∧ iv = .int .i64 i ∧ Hid (sameF (fdrop c i) (fdrop d i) = sameF c d) ∧ Below w.heap.size w wr) (fun iv _ => flen c - (intOf iv).toNat)
    case atStart => exact ⟨0, Nat.zero_le _, rfl, by cases c <;> cases d <;> rfl, Below.refl _ _⟩
    case round =>
      obtain ⟨i, hi, rfl, H, hb⟩ := hrel
      by_cases hlt : i < flen c
      · have hlt' : (i : Int) < (flen c : Int) := by omega
        obtain ⟨q, e, b, o, ja, jc, na, nc, bt, ot, _, hm, ef, rfl, hbl, hv, d0, d1, d2, d3, d4, d5, d6⟩ := row_at (h1.later hb) hlt
        obtain ⟨q', e', b', o', ja', jc', na', nc', bt', ot', _, _, ef', rfl, hbl', hv', d0', d1', d2', d3', d4', d5', d6'⟩ := row_at (h2.later hb) (i := i) (by have := HCD.out; omega)
        have HS : Hid (((sameP q q' && sameF e e') && sameF (fdrop c (i + 1)) (fdrop d (i + 1))) = sameF c d) := by
          show _ = _
          rw [← H.out, ef, ef', sameF_node]
        clear H ef ef'
        have R := ih _ hm
        simp only at R
        have hbb : Below wr.heap.size wr ((wr.alloc (.cells #[.int .i64 q.kind, .int .i64 q.key, .int .i64 q.elem, .int .i64 q.num, .string q.text, .slice ja q.ids.length jc, .slice na (flen e) nc] 26)).alloc (.cells #[.int .i64 q'.kind, .int .i64 q'.key, .int .i64 q'.elem, .int .i64 q'.num, .string q'.text, .slice ja' q'.ids.length jc', .slice na' (flen e') nc'] 26)) := ((Below.refl _ wr).alloc (Nat.le_refl _) _).alloc (by simp) _
        have RR := R _ ja jc na nc q' e' ja' jc' na' nc' (hv.later hbb) (hv'.later hbb)
        clear R
        generalize (sameP q q' && sameF e e') = t at *
        go_wp2_with fail
        refine RR.mono ?_
        rintro e wx ⟨rfl, hwx⟩
        have hb2 := hb.trans ((hbb.trans (hwx.mono hbb.size)).mono hb.size)
        clear hwx hbb RR
        cases t
        · have HE : Hid (sameF c d = false) := by show _ = _; rw [← HS.out]; simp
          go_wp2_with fail
          go_ret
          exact ⟨by rw [HE.out]; rfl, hb2⟩
        · have HE : Hid (sameF (fdrop c (i + 1)) (fdrop d (i + 1)) = sameF c d) := by show _ = _; rw [← HS.out]; simp
          go_wp2_with fail
          go_roundw
          case rel => exact ⟨i + 1, by omega, by go_num, HE, hb2⟩
          case measure => simp [intOf]; omega
      · have hlt' : (flen c : Int) ≤ (i : Int) := by omega
        have HE : Hid (sameF c d = true) := by
          show _ = _
          rw [← H.out]
          have e1 : i = flen c := by omega
          rw [e1, fdrop_end, HCD.out, fdrop_end]
          rfl
        go_wp2_with fail
        go_ret
        exact ⟨by rw [HE.out]; rfl, hb⟩
  · have hcd' : ¬ (flen c : Int) = (flen d : Int) := by omega
    have HE : Hid (sameF c d = false) := by
      show _ = _
      cases h : sameF c d
      · rfl
      · exact absurd (sameF_len h) hcd
    go_enter Try.func44, Try.ntmps44
    go_wp2_with fail
    go_ret
    exact ⟨by rw [HE.out]; rfl, Below.refl _ _⟩
set_option maxHeartbeats 1000000 in
theorem same_step (p : Pay) (c : Fo) (ih : ∀ x ∈ elems c, SameC x.1 x.2) : SameC p c := by
  intro w ia ic la lc q d ja jc ka kc hv hv'
  by_cases h0 : p.kind = q.kind
  case neg =>
    have e : (sameP p q && sameF c d) = false := by simp [sameP, h0]
    rw [e]
    clear e
    go_enter Try.func26, Try.ntmps26
    go_wp2_with fail
    go_ret
    exact ⟨rfl, ((Below.refl _ w).alloc (Nat.le_refl _) _).alloc (by simp) _⟩
  by_cases h1 : p.key = q.key
  case neg =>
    have e : (sameP p q && sameF c d) = false := by simp [sameP, h1]
    rw [e]
    clear e
    go_enter Try.func26, Try.ntmps26
    go_wp2_with fail
    go_ret
    exact ⟨rfl, ((Below.refl _ w).alloc (Nat.le_refl _) _).alloc (by simp) _⟩
  by_cases h2 : p.elem = q.elem
  case neg =>
    have e : (sameP p q && sameF c d) = false := by simp [sameP, h2]
    rw [e]
    clear e
    go_enter Try.func26, Try.ntmps26
    go_wp2_with fail
    go_ret
    exact ⟨rfl, ((Below.refl _ w).alloc (Nat.le_refl _) _).alloc (by simp) _⟩
  by_cases h3 : p.num = q.num
  case neg =>
    have e : (sameP p q && sameF c d) = false := by simp [sameP, h3]
    rw [e]
    clear e
    go_enter Try.func26, Try.ntmps26
    go_wp2_with fail
    go_ret
    exact ⟨rfl, ((Below.refl _ w).alloc (Nat.le_refl _) _).alloc (by simp) _⟩
  by_cases h4 : p.text.toList = q.text.toList
  case neg =>
    have e : (sameP p q && sameF c d) = false := by simp [sameP, h4]
    rw [e]
    clear e
    go_enter Try.func26, Try.ntmps26
    go_wp2_with fail
    go_ret
    exact ⟨rfl, ((Below.refl _ w).alloc (Nat.le_refl _) _).alloc (by simp) _⟩
  have hbb : Below w.heap.size w ((w.alloc (.cells #[.int .i64 p.kind, .int .i64 p.key, .int .i64 p.elem, .int .i64 p.num, .string p.text, .slice ia p.ids.length ic, .slice la (flen c) lc] 26)).alloc (.cells #[.int .i64 q.kind, .int .i64 q.key, .int .i64 q.elem, .int .i64 q.num, .string q.text, .slice ja q.ids.length jc, .slice ka (flen d) kc] 26)) := ((Below.refl _ w).alloc (Nat.le_refl _) _).alloc (by simp) _
  have A := eqInts_any _ ia ja ic jc p.ids q.ids hv.ok.ids hv'.ok.ids (hv.ids.later hbb) (hv'.ids.later hbb)
  have e : (sameP p q && sameF c d) = (decide (p.ids = q.ids) && sameF c d) := by simp [sameP, h0, h1, h2, h3, h4]
  rw [e]
  clear e
  have K : ∀ W, Below w.heap.size w W → Calls Try.prog 44 #[.slice la (flen c) lc, .slice ka (flen d) kc, .func (.func 26) #[] #[]] W fun e w' => e = .returned (.bool (sameF c d)) ∧ Below W.heap.size W w' :=
    fun W h => eqFunc_any c d ih W la ka lc kc hv.len (hv.list.later h) (hv'.list.later h)
  generalize decide (p.ids = q.ids) = t at *
  generalize sameF c d = s at *
  rw [h0, h1, h2, h3] at A hbb
  go_enter Try.func26, Try.ntmps26
  go_wp2_with fail
  refine A.mono ?_
  rintro e wx ⟨rfl, hwx⟩
  have hb2 := hbb.trans (hwx.mono hbb.size)
  have g6 : wx.cell? ⟨w.heap.size, 6, none⟩ = some (.slice la (flen c) lc) := cell_later hwx (alloc2_cell' _ _ _ _ _ rfl)
  have g6' : wx.cell? ⟨w.heap.size + 1, 6, none⟩ = some (.slice ka (flen d) kc) := cell_later hwx (alloc2_cell _ _ _ _ _ rfl)
  have KK := K _ hb2
  clear K A hwx
  cases t
  · go_wp2_with fail
    go_ret
    exact ⟨by simp, hb2⟩
  · go_wp2_with fail
    refine KK.mono ?_
    rintro e wy ⟨rfl, hwy⟩
    go_wp2_with fail
    go_ret
    exact ⟨by simp, hb2.trans (hwy.mono hb2.size)⟩

theorem same_any (p : Pay) (c : Fo) : SameC p c := every_value same_step p c
end Go.Proofs.Ytikoddlidhefpaa

/-
  What thrift asks of a value by itself: its numbers rise, its values are of the Kinds that are told, what it does not use is zero.
-/
namespace Go.Proofs.Ytikoddlidhefpaa
open Go.ChangeShapes Go.WideShapes Go.ChangeAt Go.RowKit Go.Deep

def risingB : List Int → Int → Bool
  | [], _ => true
  | x :: r, a => decide (a < x) && decide (x ≤ 32767) && risingB r x

def kindsBy (ks : List Int) : Nat → Fo → Bool
  | _, .nil => true
  | i, .node _ _ p _ r => decide (p.kind = ks.getD (i % ks.length) 0) && kindsBy ks (i + 1) r

theorem drop_cons {l : List Int} {i : Nat} (h : i < l.length) : l.drop i = l.getD i 0 :: l.drop (i + 1) := by
  rw [List.drop_eq_getElem_cons h]
  simp [List.getD, List.getElem?_eq_getElem h]

set_option maxHeartbeats 1000000 in
theorem areRising_any (w : World) (a : Option Addr) (cap : Nat) (l : List Int) (hl : l.length ≤ 140737488355328) (h : Src w a l.length cap (c64 l)) :
    Calls Try.prog 73 #[.slice a l.length cap] w fun e w' => e = .returned (.bool (risingB l 0)) ∧ w' = w := by
  obtain ⟨L, hL⟩ : ∃ L, L = l.length := ⟨_, rfl⟩
  rw [← hL] at h hl ⊢
  have HL : Hid (L = l.length) := hL
  clear hL
  have hl' : (L : Int) ≤ 140737488355328 := by omega
  go_enter Try.func73, Try.ntmps73
  go_wp2
  go_loop [3, 8] (fun av iv => ∃ (i : Nat) (x : Int), i ≤ L ∧ iv = .int .i64 i ∧ av = .int .i64 x ∧ Hid (risingB (l.drop i) x = risingB l 0)) (fun _ iv => L - (intOf iv).toNat)
  case atStart => exact ⟨0, 0, Nat.zero_le _, rfl, rfl, rfl⟩
  case round =>
    obtain ⟨i, x, hi, rfl, rfl, H⟩ := hrel
    by_cases hlt : i < L
    · have hlt' : (i : Int) < (L : Int) := by omega
      obtain ⟨g, off, rfl, k1⟩ := ids_at h hlt
      have HS : Hid ((decide (x < l.getD i 0) && decide (l.getD i 0 ≤ 32767) && risingB (l.drop (i + 1)) (l.getD i 0)) = risingB l 0) := by
        show _ = _
        rw [← H.out, drop_cons (i := i) (by have := HL.out; omega)]
        rfl
      clear H
      generalize l.getD i 0 = z at *
      by_cases hz : x < z
      · by_cases hz2 : z ≤ 32767
        · have HN : Hid (risingB (l.drop (i + 1)) z = risingB l 0) := by show _ = _; rw [← HS.out]; simp [hz, hz2]
          go_wp2
          go_round
          case rel => exact ⟨i + 1, z, by omega, by go_num, rfl, HN⟩
          case measure => simp [intOf]; omega
        · have HN : Hid (risingB l 0 = false) := by show _ = _; rw [← HS.out]; simp [hz2]
          have hz3 : 32767 < z := by omega
          go_wp2
          go_ret
          exact ⟨by rw [HN.out]; rfl, rfl⟩
      · have HN : Hid (risingB l 0 = false) := by show _ = _; rw [← HS.out]; simp [hz]
        have hz3 : z ≤ x := by omega
        go_wp2
        go_ret
        exact ⟨by rw [HN.out]; rfl, rfl⟩
    · have hlt' : (L : Int) ≤ (i : Int) := by omega
      have HN : Hid (risingB l 0 = true) := by show _ = _; rw [← H.out, List.drop_eq_nil_of_le (by have := HL.out; omega)]; rfl
      go_wp2
      go_ret
      exact ⟨by rw [HN.out]; rfl, rfl⟩

set_option maxHeartbeats 2000000 in
theorem areOf_any (w : World) (c : Fo) (la : Option Addr) (lc : Nat) (ka : Option Addr) (kc : Nat) (ks : List Int) (hc : flen c ≤ 140737488355328) (h0 : 1 ≤ ks.length) (h2 : ks.length ≤ 2) (h : FAt w c la) (hk : Src w ka ks.length kc (c64 ks)) :
    Calls Try.prog 71 #[.slice la (flen c) lc, .slice ka ks.length kc] w fun e w' => e = .returned (.bool (ks.all knownB && kindsBy ks 0 c)) ∧ Below w.heap.size w w' := by
  obtain ⟨L, hL⟩ : ∃ L, L = ks.length := ⟨_, rfl⟩
  rw [← hL] at hk h0 h2 ⊢
  have HL : Hid (L = ks.length) := hL
  clear hL
  have hl' : (L : Int) ≤ 2 := by omega
  have hl0 : (1 : Int) ≤ (L : Int) := by omega
  have hc' : (flen c : Int) ≤ 140737488355328 := by omega
  go_enter Try.func71, Try.ntmps71
  go_wp2
  go_loop [11] (fun iv => ∃ i : Nat, i ≤ L ∧ iv = .int .i64 i ∧ Hid ((ks.take i).all knownB = true)) (fun iv => L - (intOf iv).toNat)
  case atStart => exact ⟨0, Nat.zero_le _, rfl, rfl⟩
  case round =>
    obtain ⟨i, hi, rfl, H⟩ := hrel
    by_cases hlt : i < L
    · have hlt' : (i : Int) < (L : Int) := by omega
      obtain ⟨g, off, rfl, k1⟩ := ids_at hk hlt
      have HG : Hid (ks.getD i 0 ∈ ks ∧ ks.take (i + 1) = ks.take i ++ [ks.getD i 0]) := by
        have hi' : i < ks.length := by have := HL.out; omega
        refine ⟨?_, ?_⟩
        · simp [List.getD, List.getElem?_eq_getElem hi']
        · rw [List.take_succ_eq_append_getElem hi']
          simp [List.getD, List.getElem?_eq_getElem hi']
      generalize ks.getD i 0 = z at *
      have K := isKind_any z
      by_cases hz : knownB z = true
      · have HN : Hid ((ks.take (i + 1)).all knownB = true) := by show _ = _; rw [HG.out.2, List.all_append, H.out]; simp [hz]
        rw [hz] at K
        clear hz
        go_wp2_with (go_at_call 90; refine (K _).mono ?_; rintro e wx ⟨rfl, hwx⟩; obtain rfl := hwx.symm)
        go_round
        case rel => exact ⟨i + 1, by omega, by go_num, HN⟩
        case measure => simp [intOf]; omega
      · have hz' : knownB z = false := by simpa using hz
        have HN : Hid (ks.all knownB = false) := by show _ = _; rw [List.all_eq_false]; exact ⟨z, HG.out.1, by simp [hz']⟩
        rw [hz'] at K
        clear hz hz'
        go_wp2_with (go_at_call 90; refine (K _).mono ?_; rintro e wx ⟨rfl, hwx⟩; obtain rfl := hwx.symm)
        go_ret
        exact ⟨by rw [HN.out]; rfl, Below.refl _ _⟩
    · have hlt' : (L : Int) ≤ (i : Int) := by omega
      have HA : Hid (ks.all knownB = true) := by
        have := H.out
        rwa [List.take_of_length_le (by have := HL.out; omega)] at this
      clear H
      go_wp2
      go_loopw [21] (fun iv wr => ∃ j : Nat, j ≤ flen c ∧ iv = .int .i64 j ∧ Hid (kindsBy ks j (fdrop c j) = kindsBy ks 0 c) ∧ Below w.heap.size w wr) (fun iv _ => flen c - (intOf iv).toNat)
      case atStart => exact ⟨0, Nat.zero_le _, rfl, by cases c <;> rfl, Below.refl _ _⟩
      case round =>
        obtain ⟨j, hj, rfl, H, hb⟩ := hrel
        by_cases hlt2 : j < flen c
        · have hlt2' : (j : Int) < (flen c : Int) := by omega
          obtain ⟨q, e, b, o, ja, jc, na, nc, bt, ot, _, hm, ef, rfl, hbl, hv, d0, d1, d2, d3, d4, d5, d6⟩ := row_at (h.later hb) hlt2
          have hmod : j % L < L := Nat.mod_lt _ (by omega)
          have hab := alloc_below wr (.cells #[.int .i64 q.kind, .int .i64 q.key, .int .i64 q.elem, .int .i64 q.num, .string q.text, .slice ja q.ids.length jc, .slice na (flen e) nc] 26)
          obtain ⟨g, off, rfl, k1⟩ := ids_at ((hk.later hb).later hab) hmod
          have HS : Hid ((decide (q.kind = ks.getD (j % L) 0) && kindsBy ks (j + 1) (fdrop c (j + 1))) = kindsBy ks 0 c) := by
            show _ = _
            rw [← H.out, ef, HL.out]
            rfl
          clear H
          generalize ks.getD (j % L) 0 = z at *
          have m1 : (j : Int).tmod (L : Int) = ((j % L : Nat) : Int) := by rw [Int.tmod_eq_emod_of_nonneg (by omega)]; rfl
          generalize j % L = r at *
          have hmod' : (r : Int) < (L : Int) := by omega
          by_cases hz : q.kind = z
          · have HN : Hid (kindsBy ks (j + 1) (fdrop c (j + 1)) = kindsBy ks 0 c) := by show _ = _; rw [← HS.out]; simp [hz]
            subst hz
            go_wp2
            go_quiet (fail)
            go_wp2
            go_roundw
            case rel => exact ⟨j + 1, by omega, by go_num, HN, below_drewN (hb.trans (hab.mono hb.size)) nq⟩
            case measure => simp [intOf]; omega
          · have HN : Hid (kindsBy ks 0 c = false) := by show _ = _; rw [← HS.out]; simp [hz]
            go_wp2
            go_quiet (fail)
            go_wp2
            go_ret
            exact ⟨by rw [HN.out]; simp, below_drewN (hb.trans (hab.mono hb.size)) nq⟩
        · have hlt2' : (flen c : Int) ≤ (j : Int) := by omega
          have HN : Hid (kindsBy ks 0 c = true) := by
            show _ = _
            rw [← H.out, show fdrop c j = .nil by rw [show j = flen c by omega]; exact fdrop_end c]
            cases j <;> rfl
          go_wp2
          go_ret
          exact ⟨by rw [HN.out, HA.out]; rfl, hb⟩

/-- what is left of a value without what its Kind uses -/
def clrP (p : Pay) : Pay :=
  if p.kind = 8 then { p with kind := 0, text := { data := #[] } }
  else if p.kind = 9 then { p with kind := 0, elem := 0 }
  else if p.kind = 11 then { p with kind := 0, key := 0, elem := 0 }
  else if p.kind = 12 then { p with kind := 0, ids := [] }
  else { p with kind := 0, num := 0 }
def clrF (p : Pay) (c : Fo) : Fo := if p.kind = 9 ∨ p.kind = 11 ∨ p.kind = 12 then .nil else c

set_option maxHeartbeats 1000000 in
theorem unused_any (p : Pay) (c : Fo) (w : World) (ia : Option Addr) (ic : Nat) (la : Option Addr) (lc : Nat) (hv : VIn w p c ia ic la lc) :
    Calls Try.prog 68 #[val p c ia ic la lc] w fun e w' => ∃ ja jc ka kc, e = .returned (val (clrP p) (clrF p c) ja jc ka kc) ∧ VIn w' (clrP p) (clrF p c) ja jc ka kc ∧ Below w.heap.size w w' := by
  obtain ⟨o1, o2, o3, o4⟩ := hv
  have z0 : i64ok 0 := ⟨by omega, by omega⟩
  have hb : ∀ x y, Below w.heap.size w ((w.alloc x).alloc y) := fun x y => ((Below.refl _ w).alloc (Nat.le_refl _) x).alloc (by simp) y
  by_cases h8 : p.kind = 8
  · have e1 : clrP p = { p with kind := 0, text := { data := #[] } } := by simp [clrP, h8]
    have e2 : clrF p c = c := by simp [clrF, h8]
    rw [e1, e2]
    clear e1 e2
    go_enter Try.func68, Try.ntmps68
    go_wp2
    refine bodyPost_ret (results_val rfl _ _ _ _ rfl _ rfl (alloc2_cells _ _ _ _ _)) rfl ?_
    exact ⟨ia, ic, la, lc, rfl, ⟨⟨z0, o1.key, o1.elem, o1.num, Nat.zero_le _, o1.ids, o1.idn⟩, o2, o3.later (hb _ _), o4.later (hb _ _)⟩, hb _ _⟩
  by_cases h9 : p.kind = 9
  · have e1 : clrP p = { p with kind := 0, elem := 0 } := by simp [clrP, h9]
    have e2 : clrF p c = .nil := by simp [clrF, h9]
    rw [e1, e2]
    clear e1 e2
    go_enter Try.func68, Try.ntmps68
    go_wp2
    refine bodyPost_ret (results_val rfl _ _ _ _ rfl _ rfl (alloc2_cells _ _ _ _ _)) rfl ?_
    exact ⟨ia, ic, none, 0, rfl, ⟨⟨z0, o1.key, z0, o1.num, o1.text, o1.ids, o1.idn⟩, Nat.zero_le _, o3.later (hb _ _), trivial⟩, hb _ _⟩
  by_cases h11 : p.kind = 11
  · have e1 : clrP p = { p with kind := 0, key := 0, elem := 0 } := by simp [clrP, h11]
    have e2 : clrF p c = .nil := by simp [clrF, h11]
    rw [e1, e2]
    clear e1 e2
    go_enter Try.func68, Try.ntmps68
    go_wp2
    refine bodyPost_ret (results_val rfl _ _ _ _ rfl _ rfl (alloc2_cells _ _ _ _ _)) rfl ?_
    exact ⟨ia, ic, none, 0, rfl, ⟨⟨z0, z0, z0, o1.num, o1.text, o1.ids, o1.idn⟩, Nat.zero_le _, o3.later (hb _ _), trivial⟩, hb _ _⟩
  by_cases h12 : p.kind = 12
  · have e1 : clrP p = { p with kind := 0, ids := [] } := by simp [clrP, h12]
    have e2 : clrF p c = .nil := by simp [clrF, h12]
    rw [e1, e2]
    clear e1 e2
    go_enter Try.func68, Try.ntmps68
    go_wp2
    refine bodyPost_ret (results_val rfl _ _ _ _ rfl _ rfl (alloc2_cells _ _ _ _ _)) rfl ?_
    exact ⟨none, 0, none, 0, rfl, ⟨⟨z0, o1.key, o1.elem, o1.num, o1.text, Nat.zero_le _, fun _ h => by cases h⟩, Nat.zero_le _, ⟨rfl, .inl ⟨rfl, rfl, rfl⟩⟩, trivial⟩, hb _ _⟩
  have e1 : clrP p = { p with kind := 0, num := 0 } := by simp [clrP, h8, h9, h11, h12]
  have e2 : clrF p c = c := by simp [clrF, h9, h11, h12]
  rw [e1, e2]
  clear e1 e2
  go_enter Try.func68, Try.ntmps68
  go_wp2
  refine bodyPost_ret (results_val rfl _ _ _ _ rfl _ rfl (alloc2_cells _ _ _ _ _)) rfl ?_
  exact ⟨ia, ic, la, lc, rfl, ⟨⟨z0, o1.key, o1.elem, z0, o1.text, o1.ids, o1.idn⟩, o2, o3.later (hb _ _), o4.later (hb _ _)⟩, hb _ _⟩
end Go.Proofs.Ytikoddlidhefpaa

/-
  Check: isMap, isInOrder, mayBe.
-/
namespace Go.Proofs.Ytikoddlidhefpaa
open Go.ChangeShapes Go.WideShapes Go.ChangeAt Go.RowKit Go.Deep

def mapB (p : Pay) (c : Fo) : Bool :=
  if flen c = 0 then p.key == 0 && p.elem == 0 else decide (flen c % 2 = 0) && decide (flen c / 2 ≤ 65536) && ([p.key, p.elem].all knownB && kindsBy [p.key, p.elem] 0 c)

theorem src_c64_new (w : World) (l : List Int) (e : TypeId) (fr : Nat × Nat) (c : Nat) : Src (w.alloc (.cells (c64 l).toArray e fr)) (some ⟨w.heap.size, 0, none⟩) l.length c (c64 l) := by
  refine ⟨c64_len l, .inr ⟨_, rfl, fun j u hj => ?_⟩⟩
  have hp : (⟨w.heap.size, 0, none⟩ : Addr).add j = ⟨w.heap.size, j, none⟩ := by unfold Addr.add; split <;> simp_all
  rw [hp]
  exact alloc_cell w _ e fr (by simpa using hj)

set_option maxHeartbeats 1000000 in
theorem isMap_any (p : Pay) (c : Fo) (w : World) (ia : Option Addr) (ic : Nat) (la : Option Addr) (lc : Nat) (hv : VIn w p c ia ic la lc) :
    Calls Try.prog 72 #[val p c ia ic la lc] w fun e w' => e = .returned (.bool (mapB p c)) ∧ Below w.heap.size w w' := by
  have t3 := hv.len
  have t3' : (flen c : Int) ≤ 140737488355328 := by omega
  have hb0 : Below w.heap.size w (bx w p c ia ic la lc) := alloc_below _ _
  by_cases h0 : flen c = 0
  · have e : mapB p c = (p.key == 0 && p.elem == 0) := by simp [mapB, h0]
    rw [e]
    clear e
    by_cases hk : p.key = 0
    · go_enter Try.func72, Try.ntmps72
      go_wp2
      go_ret
      exact ⟨by simp [hk], alloc_below _ _⟩
    · go_enter Try.func72, Try.ntmps72
      go_wp2
      go_ret
      exact ⟨by simp [hk], alloc_below _ _⟩
  · have e : mapB p c = (decide (flen c % 2 = 0) && decide (flen c / 2 ≤ 65536) && ([p.key, p.elem].all knownB && kindsBy [p.key, p.elem] 0 c)) := by simp [mapB, h0]
    rw [e]
    clear e
    have h0' : ¬ (flen c : Int) = 0 := by omega
    by_cases h1 : flen c % 2 = 0
    · have h1' : (flen c : Int) % 2 = 0 := by omega
      by_cases h2 : flen c / 2 ≤ 65536
      · have h2' : (flen c : Int) / 2 ≤ 65536 := by omega
        have hb1 : Below w.heap.size w ((bx w p c ia ic la lc).alloc (.cells (c64 [p.key, p.elem]).toArray 22)) := hb0.alloc (by simp) _
        have A := areOf_any _ c la lc (some ⟨w.heap.size + 1, 0, none⟩) 2 [p.key, p.elem] hv.len (by simp) (by simp) (hv.list.later hb1) (by
          have := src_c64_new (bx w p c ia ic la lc) [p.key, p.elem] 22 (0, 0) 2
          rwa [bx_size] at this)
        generalize ([p.key, p.elem].all knownB && kindsBy [p.key, p.elem] 0 c) = t at *
        have e : (decide (flen c % 2 = 0) && decide (flen c / 2 ≤ 65536) && t) = t := by simp [h1, h2]
        rw [e]
        clear e h1 h2
        go_enter Try.func72, Try.ntmps72
        go_wp2_with fail
        refine A.mono ?_
        rintro e wx ⟨rfl, hwx⟩
        have hb2 := hb1.trans (hwx.mono hb1.size)
        go_wp2
        go_ret
        exact ⟨by simp, hb2⟩
      · have h2' : (65536 : Int) < (flen c : Int) / 2 := by omega
        have e : (decide (flen c % 2 = 0) && decide (flen c / 2 ≤ 65536) && ([p.key, p.elem].all knownB && kindsBy [p.key, p.elem] 0 c)) = false := by simp [h2]
        rw [e]
        clear e h1 h2
        go_enter Try.func72, Try.ntmps72
        go_wp2
        go_ret
        exact ⟨by simp, alloc_below _ _⟩
    · have h1' : (flen c : Int) % 2 = 1 := by omega
      have e : (decide (flen c % 2 = 0) && decide (flen c / 2 ≤ 65536) && ([p.key, p.elem].all knownB && kindsBy [p.key, p.elem] 0 c)) = false := by simp [h1]
      rw [e]
      clear e h1
      go_enter Try.func72, Try.ntmps72
      go_wp2
      go_ret
      exact ⟨by simp, alloc_below _ _⟩

def zeroP : Pay := { kind := 0, key := 0, elem := 0, num := 0, text := { data := #[] }, ids := [] }
theorem zeroIn (w : World) : VIn w zeroP .nil none 0 none 0 := by
  have z0 : i64ok 0 := ⟨by omega, by omega⟩
  exact ⟨⟨z0, z0, z0, z0, Nat.zero_le _, Nat.zero_le _, fun _ h => by cases h⟩, Nat.zero_le _, ⟨rfl, .inl ⟨rfl, rfl, rfl⟩⟩, trivial⟩

def bareB (p : Pay) (c : Fo) : Bool := sameP (clrP p) zeroP && sameF (clrF p c) .nil
def kindB (p : Pay) (c : Fo) : Bool :=
  if p.kind = 1 then p.num == 0 || p.num == 1
  else if 3 ≤ p.kind ∧ p.kind ≤ 7 then fitB p.num (bitsZ p.kind)
  else if p.kind = 8 then decide (p.text.size ≤ 1048576)
  else if p.kind = 9 then decide (flen c ≤ 65536) && ([p.elem].all knownB && kindsBy [p.elem] 0 c)
  else if p.kind = 11 then mapB p c
  else if p.kind = 12 then decide (flen c = p.ids.length) && risingB p.ids 0
  else false
def inOrderB (p : Pay) (c : Fo) : Bool := bareB p c && kindB p c

set_option maxRecDepth 10000 in
set_option maxHeartbeats 2000000 in
theorem isInOrder_any (p : Pay) (c : Fo) (w : World) (ia : Option Addr) (ic : Nat) (la : Option Addr) (lc : Nat) (hv : VIn w p c ia ic la lc) :
    Calls Try.prog 46 #[val p c ia ic la lc] w fun e w' => e = .returned (.bool (inOrderB p c)) ∧ Below w.heap.size w w' := by
  have t3 := hv.len
  have t3' : (flen c : Int) ≤ 140737488355328 := by omega
  have t1' : (p.text.size : Int) ≤ 140737488355328 := by have := hv.ok.text; omega
  have t2' : (p.ids.length : Int) ≤ 140737488355328 := by have := hv.ok.ids; omega
  have hb0 : Below w.heap.size w (bx w p c ia ic la lc) := alloc_below _ _
  have U := unused_any p c _ ia ic la lc (hv.later hb0)
  have S := fun W ja jc ka kc => same_any (clrP p) (clrF p c) W ja jc ka kc zeroP .nil none 0 none 0
  have hn := hv.ok.num
  unfold inOrderB
  have HB : Hid (bareB p c = (sameP (clrP p) zeroP && sameF (clrF p c) .nil)) := rfl
  rw [← HB.out] at S
  generalize bareB p c = t at *
  clear HB
  go_enter Try.func46, Try.ntmps46
  go_wp2_with fail
  refine U.mono ?_
  rintro e wx ⟨ja, jc, ka, kc, rfl, hvx, hwx⟩
  rw [bx_size] at hwx
  have SS := S wx ja jc ka kc hvx (zeroIn wx)
  clear U S hvx
  generalize clrP p = cp at *
  generalize clrF p c = cf at *
  obtain ⟨x0, x1, x2, x3, x4, x5, x6⟩ := bx_cells hwx
  go_wp2_with fail
  refine SS.mono ?_
  rintro e wy ⟨rfl, hwy⟩
  have hb := hwx.trans (hwy.mono (by have := hwx.size; simpa using this))
  obtain ⟨y0, y1, y2, y3, y4, y5, y6⟩ := bx_cells hb
  have hv' := hv.later (box_below hb)
  have hbw := box_below hb
  clear SS hwx hwy x0 x1 x2 x3 x4 x5 x6 hb hv hb0
  cases t
  · go_wp2_with fail
    go_ret
    exact ⟨by simp, hbw⟩
  by_cases h1 : p.kind = 1
  · have HK : Hid (kindB p c = (p.num == 0 || p.num == 1)) := by show _ = _; simp [kindB, h1]
    rw [h1] at y0
    clear h1
    by_cases hz : p.num = 0
    · go_wp2_with fail
      go_ret
      exact ⟨by rw [HK.out]; simp [hz], hbw⟩
    · go_wp2_with fail
      go_ret
      exact ⟨by rw [HK.out]; simp, hbw⟩
  by_cases h3 : p.kind = 3
  · have HK : Hid (kindB p c = fitB p.num 8) := by show _ = _; simp [kindB, h3, bitsZ]
    have B : ∀ W, Calls Try.prog 70 #[.int .i64 3] W fun e w' => e = .returned (.int .i64 8) ∧ w' = W := fun W => bitsOf_any 3 W
    have F := fun W => fits_8 p.num W hn
    rw [h3] at y0
    clear h3
    go_wp2_with fail
    go_quiet (first | (go_at_call 70; exact Calls.quiet_of_same (B _)) | (go_at_call 69; exact Calls.quiet_of_same (F _)))
    go_wp2_with fail
    go_ret
    exact ⟨by rw [HK.out]; simp, below_drewN hbw nq⟩
  by_cases h4 : p.kind = 4
  · have HK : Hid (kindB p c = fitB p.num 16) := by show _ = _; simp [kindB, h4, bitsZ]
    have B : ∀ W, Calls Try.prog 70 #[.int .i64 4] W fun e w' => e = .returned (.int .i64 16) ∧ w' = W := fun W => bitsOf_any 4 W
    have F := fun W => fits_16 p.num W hn
    rw [h4] at y0
    clear h4
    go_wp2_with fail
    go_quiet (first | (go_at_call 70; exact Calls.quiet_of_same (B _)) | (go_at_call 69; exact Calls.quiet_of_same (F _)))
    go_wp2_with fail
    go_ret
    exact ⟨by rw [HK.out]; simp, below_drewN hbw nq⟩
  by_cases h5 : p.kind = 5
  · have HK : Hid (kindB p c = fitB p.num 32) := by show _ = _; simp [kindB, h5, bitsZ]
    have B : ∀ W, Calls Try.prog 70 #[.int .i64 5] W fun e w' => e = .returned (.int .i64 32) ∧ w' = W := fun W => bitsOf_any 5 W
    have F := fun W => fits_32 p.num W hn
    rw [h5] at y0
    clear h5
    go_wp2_with fail
    go_quiet (first | (go_at_call 70; exact Calls.quiet_of_same (B _)) | (go_at_call 69; exact Calls.quiet_of_same (F _)))
    go_wp2_with fail
    go_ret
    exact ⟨by rw [HK.out]; simp, below_drewN hbw nq⟩
  by_cases h6 : p.kind = 6
  · have HK : Hid (kindB p c = fitB p.num 64) := by show _ = _; simp [kindB, h6, bitsZ]
    have B : ∀ W, Calls Try.prog 70 #[.int .i64 6] W fun e w' => e = .returned (.int .i64 64) ∧ w' = W := fun W => bitsOf_any 6 W
    have F := fun W => fits_64 p.num W hn
    rw [h6] at y0
    clear h6
    go_wp2_with fail
    go_quiet (first | (go_at_call 70; exact Calls.quiet_of_same (B _)) | (go_at_call 69; exact Calls.quiet_of_same (F _)))
    go_wp2_with fail
    go_ret
    exact ⟨by rw [HK.out]; simp, below_drewN hbw nq⟩
  by_cases h7 : p.kind = 7
  · have HK : Hid (kindB p c = fitB p.num 64) := by show _ = _; simp [kindB, h7, bitsZ]
    have B : ∀ W, Calls Try.prog 70 #[.int .i64 7] W fun e w' => e = .returned (.int .i64 64) ∧ w' = W := fun W => bitsOf_any 7 W
    have F := fun W => fits_64 p.num W hn
    rw [h7] at y0
    clear h7
    go_wp2_with fail
    go_quiet (first | (go_at_call 70; exact Calls.quiet_of_same (B _)) | (go_at_call 69; exact Calls.quiet_of_same (F _)))
    go_wp2_with fail
    go_ret
    exact ⟨by rw [HK.out]; simp, below_drewN hbw nq⟩
  by_cases h8 : p.kind = 8
  · have HK : Hid (kindB p c = decide (p.text.size ≤ 1048576)) := by show _ = _; simp [kindB, h8]
    rw [h8] at y0
    clear h8
    go_wp2_with fail
    go_ret
    refine ⟨?_, hbw⟩
    rw [HK.out]
    simp
    omega
  by_cases h9 : p.kind = 9
  · have HK : Hid (kindB p c = (decide (flen c ≤ 65536) && ([p.elem].all knownB && kindsBy [p.elem] 0 c))) := by show _ = _; simp [kindB, h9]
    rw [h9] at y0
    clear h9
    by_cases hl : flen c ≤ 65536
    · have hl' : (flen c : Int) ≤ 65536 := by omega
      have hab := alloc_below wy (.cells (c64 [p.elem]).toArray 22)
      have A := areOf_any _ c la lc (some ⟨wy.heap.size, 0, none⟩) 1 [p.elem] hv'.len (by simp) (by simp) (hv'.list.later hab) (src_c64_new wy [p.elem] 22 (0, 0) 1)
      have HK2 : Hid (kindB p c = ([p.elem].all knownB && kindsBy [p.elem] 0 c)) := by show _ = _; rw [HK.out]; simp [hl]
      obtain ⟨t, HT⟩ : ∃ t, Hid (kindB p c = t) := ⟨_, rfl⟩
      rw [← HK2.out, HT.out] at A
      clear HK HK2
      go_wp2_with fail
      refine A.mono ?_
      rintro e wz ⟨rfl, hwz⟩
      have hb2 := hbw.trans ((hab.trans (hwz.mono hab.size)).mono hbw.size)
      go_wp2_with fail
      go_ret
      exact ⟨by rw [HT.out]; simp, hb2⟩
    · have hl' : (65536 : Int) < (flen c : Int) := by omega
      go_wp2_with fail
      go_ret
      exact ⟨by rw [HK.out]; simp; intro h; omega, hbw⟩
  by_cases h11 : p.kind = 11
  · have HK : Hid (kindB p c = mapB p c) := by show _ = _; simp [kindB, h11]
    have M := isMap_any p c wy ia ic la lc hv'
    obtain ⟨t, HT⟩ : ∃ t, Hid (kindB p c = t) := ⟨_, rfl⟩
    rw [← HK.out, HT.out] at M
    unfold val at M
    rw [h11] at y0 M
    clear HK
    clear h11
    go_wp2_with fail
    refine M.mono ?_
    rintro e wz ⟨rfl, hwz⟩
    have hb2 := hbw.trans (hwz.mono hbw.size)
    go_wp2_with fail
    go_ret
    exact ⟨by rw [HT.out]; simp, hb2⟩
  by_cases h12 : p.kind = 12
  · have HK : Hid (kindB p c = (decide (flen c = p.ids.length) && risingB p.ids 0)) := by show _ = _; simp [kindB, h12]
    rw [h12] at y0
    clear h12
    by_cases hl : flen c = p.ids.length
    · have hl' : (flen c : Int) = (p.ids.length : Int) := by omega
      have R := areRising_any wy ia ic p.ids hv'.ok.ids hv'.ids
      have HK2 : Hid (kindB p c = risingB p.ids 0) := by show _ = _; rw [HK.out]; simp [hl]
      obtain ⟨t, HT⟩ : ∃ t, Hid (kindB p c = t) := ⟨_, rfl⟩
      rw [← HK2.out, HT.out] at R
      clear HK HK2
      clear hl
      go_wp2_with fail
      refine R.mono ?_
      rintro e wz ⟨rfl, hwz⟩
      obtain rfl := hwz.symm
      go_wp2_with fail
      go_ret
      exact ⟨by rw [HT.out]; simp, hbw⟩
    · have hl' : ¬ (flen c : Int) = (p.ids.length : Int) := by omega
      go_wp2_with fail
      go_ret
      exact ⟨by rw [HK.out]; simp; intro h; omega, hbw⟩
  have HK : Hid (kindB p c = false) := by
    show _ = _
    have : ¬ (3 ≤ p.kind ∧ p.kind ≤ 7) := by omega
    simp [kindB, h1, h8, h9, h11, h12, this]
  go_wp2_with fail
  go_ret
  exact ⟨by rw [HK.out]; simp, hbw⟩
end Go.Proofs.Ytikoddlidhefpaa

/-
  Check, Size, isStructure: which values may be, how many there are, how deep.
-/
namespace Go.Proofs.Ytikoddlidhefpaa
open Go.ChangeShapes Go.WideShapes Go.ChangeAt Go.RowKit Go.Deep

/-- the room that is left in a value -/
def rm (p : Pay) (room : Int) : Int := if nestsB p.kind = true then room - 1 else room
def mayF : Fo → Int → Bool
  | .nil, _ => true
  | .node _ _ p c r, room => (decide (0 ≤ rm p room) && inOrderB p c && mayF c (rm p room)) && mayF r room
def mayV (p : Pay) (c : Fo) (room : Int) : Bool := decide (0 ≤ rm p room) && inOrderB p c && mayF c (rm p room)
theorem mayF_node (b o : Nat) (p : Pay) (c r : Fo) (room : Int) : mayF (.node b o p c r) room = (mayV p c room && mayF r room) := rfl

def MayC (p : Pay) (c : Fo) : Prop := ∀ (w : World) (ia : Option Addr) (ic : Nat) (la : Option Addr) (lc : Nat) (room : Int), VIn w p c ia ic la lc → -1000 ≤ room → room ≤ 1000 →
  Calls Try.prog 28 #[val p c ia ic la lc, .int .i64 room] w fun e w' => e = .returned (.bool (mayV p c room)) ∧ Below w.heap.size w w'

set_option maxHeartbeats 1000000 in
theorem mayBe_step (p : Pay) (c : Fo) (ih : ∀ x ∈ elems c, MayC x.1 x.2) : MayC p c := by
  intro w ia ic la lc room hv hr0 hr1
  have t3 := hv.len
  have t3' : (flen c : Int) ≤ 140737488355328 := by omega
  have hb0 : Below (w.heap.size + 1) (bx w p c ia ic la lc) (bx w p c ia ic la lc) := Below.refl _ _
  have N := nests_any p.kind (bx w p c ia ic la lc)
  have O := isInOrder_any p c (bx w p c ia ic la lc) ia ic la lc (hv.later (alloc_below _ _))
  obtain ⟨t, HT⟩ : ∃ t, Hid (nestsB p.kind = t) := ⟨_, rfl⟩
  obtain ⟨q, HQ⟩ : ∃ q, Hid (inOrderB p c = q) := ⟨_, rfl⟩
  rw [HT.out] at N
  rw [HQ.out] at O
  obtain ⟨R, hR1, hR2, HR⟩ : ∃ R, -1001 ≤ R ∧ R ≤ 1000 ∧ Hid (rm p room = R) := by
    refine ⟨rm p room, ?_, ?_, rfl⟩ <;> (unfold rm; split <;> omega)
  have HR' : Hid (R = if t = true then room - 1 else room) := by show _ = _; rw [← HR.out, ← HT.out]; rfl
  go_enter Try.func28, Try.ntmps28
  go_wp2_with fail
  refine N.mono ?_
  rintro e wx ⟨rfl, hwx⟩
  obtain rfl := hwx.symm
  have HV : Hid (mayV p c room = (decide (0 ≤ R) && q && mayF c R)) := by show _ = _; unfold mayV; rw [HR.out, HQ.out]
  clear N
  have fin : ∀ (K : Act → World → Prop), True := fun _ => trivial
  cases t
  · have hRR : R = room := by simpa using HR'.out
    subst hRR
    clear HR HR' HT fin
    by_cases hneg : R < 0
    · have HN : Hid (mayV p c R = false) := by show _ = _; rw [HV.out]; simp; intro h; omega
      go_wp2_with fail
      go_ret
      exact ⟨by rw [HN.out]; rfl, box_below hb0⟩
    · have hneg' : 0 ≤ R := by omega
      go_wp2_with fail
      refine O.mono ?_
      rintro e wx ⟨rfl, hwx⟩
      rw [bx_size] at hwx
      clear O
      obtain ⟨y0, y1, y2, y3, y4, y5, y6⟩ := bx_cells hwx
      cases q
      · have HN : Hid (mayV p c R = false) := by show _ = _; rw [HV.out]; simp
        go_wp2_with fail
        go_ret
        exact ⟨by rw [HN.out]; rfl, box_below hwx⟩
      · have HM : Hid (mayV p c R = mayF c R) := by show _ = _; rw [HV.out]; simp [hneg']
        clear HV HQ
        go_wp2_with fail
        go_loopw [22] (fun iv wr => ∃ i : Nat, i ≤ flen c ∧ iv = .int .i64 i ∧ Hid (mayF (fdrop c i) R = mayF c R) ∧ Below (w.heap.size + 1) (bx w p c ia ic la lc) wr) (fun iv _ => flen c - (intOf iv).toNat)
        case atStart => exact ⟨0, Nat.zero_le _, rfl, by cases c <;> rfl, hwx⟩
        case round =>
          obtain ⟨i, hi, rfl, H, hb⟩ := hrel
          by_cases hlt : i < flen c
          · have hlt' : (i : Int) < (flen c : Int) := by omega
            obtain ⟨q, d, b, o, ja, jc, na, nc, bt, ot, _, hm, ef, rfl, hbl, hv', d0, d1, d2, d3, d4, d5, d6⟩ := row_at (hv.list.later (box_below hb)) hlt
            have hab := alloc_below wr (.cells #[.int .i64 q.kind, .int .i64 q.key, .int .i64 q.elem, .int .i64 q.num, .string q.text, .slice ja q.ids.length jc, .slice na (flen d) nc] 26)
            have K := ih _ hm _ ja jc na nc R (hv'.later hab) (by omega) (by omega)
            simp only at K
            have HS : Hid ((mayV q d R && mayF (fdrop c (i + 1)) R) = mayF c R) := by show _ = _; rw [← H.out, ef, mayF_node]
            clear H ef
            generalize mayV q d R = s at *
            go_wp2_with fail
            refine K.mono ?_
            rintro e wz ⟨rfl, hwz⟩
            have hb2 := hb.trans ((hab.trans (hwz.mono hab.size)).mono (box_size hb))
            clear K hwz hab
            cases s
            · have HN : Hid (mayV p c R = false) := by show _ = _; rw [HM.out, ← HS.out]; simp
              go_wp2_with fail
              go_ret
              exact ⟨by rw [HN.out]; rfl, box_below hb2⟩
            · have HN : Hid (mayF (fdrop c (i + 1)) R = mayF c R) := by show _ = _; rw [← HS.out]; simp
              go_wp2_with fail
              go_roundw
              case rel => exact ⟨i + 1, by omega, by go_num, HN, hb2⟩
              case measure => simp [intOf]; omega
          · have hlt' : (flen c : Int) ≤ (i : Int) := by omega
            have HN : Hid (mayV p c R = true) := by
              show _ = _
              rw [HM.out, ← H.out, show i = flen c by omega, fdrop_end]
              rfl
            go_wp2_with fail
            go_ret
            exact ⟨by rw [HN.out]; rfl, box_below hb⟩
  · have hRR : R = room - 1 := by simpa using HR'.out
    have HRR : Hid (R = room - 1) := hRR
    have e1 : room - 1 = R := hRR.symm
    clear HR HR' HT fin
    by_cases hneg : R < 0
    · have HN : Hid (mayV p c room = false) := by show _ = _; rw [HV.out]; simp; intro h; omega
      clear hRR
      go_wp2_with fail
      go_ret
      exact ⟨by rw [HN.out]; rfl, box_below hb0⟩
    · have hneg' : 0 ≤ R := by omega
      clear hRR
      go_wp2_with fail
      refine O.mono ?_
      rintro e wx ⟨rfl, hwx⟩
      rw [bx_size] at hwx
      clear O
      obtain ⟨y0, y1, y2, y3, y4, y5, y6⟩ := bx_cells hwx
      cases q
      · have HN : Hid (mayV p c room = false) := by show _ = _; rw [HV.out]; simp
        go_wp2_with fail
        go_ret
        exact ⟨by rw [HN.out]; rfl, box_below hwx⟩
      · have HM : Hid (mayV p c room = mayF c R) := by show _ = _; rw [HV.out]; simp [hneg']
        clear HV HQ
        go_wp2_with fail
        go_loopw [22] (fun iv wr => ∃ i : Nat, i ≤ flen c ∧ iv = .int .i64 i ∧ Hid (mayF (fdrop c i) R = mayF c R) ∧ Below (w.heap.size + 1) (bx w p c ia ic la lc) wr) (fun iv _ => flen c - (intOf iv).toNat)
        case atStart => exact ⟨0, Nat.zero_le _, rfl, by cases c <;> rfl, hwx⟩
        case round =>
          obtain ⟨i, hi, rfl, H, hb⟩ := hrel
          by_cases hlt : i < flen c
          · have hlt' : (i : Int) < (flen c : Int) := by omega
            obtain ⟨q, d, b, o, ja, jc, na, nc, bt, ot, _, hm, ef, rfl, hbl, hv', d0, d1, d2, d3, d4, d5, d6⟩ := row_at (hv.list.later (box_below hb)) hlt
            have hab := alloc_below wr (.cells #[.int .i64 q.kind, .int .i64 q.key, .int .i64 q.elem, .int .i64 q.num, .string q.text, .slice ja q.ids.length jc, .slice na (flen d) nc] 26)
            have K := ih _ hm _ ja jc na nc R (hv'.later hab) (by omega) (by omega)
            simp only at K
            have HS : Hid ((mayV q d R && mayF (fdrop c (i + 1)) R) = mayF c R) := by show _ = _; rw [← H.out, ef, mayF_node]
            clear H ef
            generalize mayV q d R = s at *
            go_wp2_with fail
            refine K.mono ?_
            rintro e wz ⟨rfl, hwz⟩
            have hb2 := hb.trans ((hab.trans (hwz.mono hab.size)).mono (box_size hb))
            clear K hwz hab
            cases s
            · have HN : Hid (mayV p c room = false) := by show _ = _; rw [HM.out, ← HS.out]; simp
              go_wp2_with fail
              go_ret
              exact ⟨by rw [HN.out]; rfl, box_below hb2⟩
            · have HN : Hid (mayF (fdrop c (i + 1)) R = mayF c R) := by show _ = _; rw [← HS.out]; simp
              go_wp2_with fail
              go_roundw
              case rel => exact ⟨i + 1, by omega, by go_num, HN, hb2⟩
              case measure => simp [intOf]; omega
          · have hlt' : (flen c : Int) ≤ (i : Int) := by omega
            have HN : Hid (mayV p c room = true) := by
              show _ = _
              rw [HM.out, ← H.out, show i = flen c by omega, fdrop_end]
              rfl
            go_wp2_with fail
            go_ret
            exact ⟨by rw [HN.out]; rfl, box_below hb⟩

theorem mayBe_any (p : Pay) (c : Fo) : MayC p c := every_value mayBe_step p c

theorem check_any (p : Pay) (c : Fo) (w : World) (ia : Option Addr) (ic : Nat) (la : Option Addr) (lc : Nat) (hv : VIn w p c ia ic la lc) :
    Calls Try.prog 13 #[val p c ia ic la lc] w fun e w' => e = .returned (.int .i64 (if mayV p c 32 = true then 0 else 2)) ∧ Below w.heap.size w w' := by
  have M := mayBe_any p c (bx w p c ia ic la lc) ia ic la lc 32 (hv.later (alloc_below _ _)) (by omega) (by omega)
  have hb0 : Below w.heap.size w (bx w p c ia ic la lc) := alloc_below _ _
  generalize mayV p c 32 = t at *
  go_enter Try.func13, Try.ntmps13
  go_wp2_with fail
  refine M.mono ?_
  rintro e wx ⟨rfl, hwx⟩
  have hb := hb0.trans (hwx.mono hb0.size)
  cases t
  · go_wp2_with fail
    go_ret
    exact ⟨rfl, hb⟩
  · go_wp2_with fail
    go_ret
    exact ⟨rfl, hb⟩

theorem isStructure_any (p : Pay) (c : Fo) (w : World) (ia : Option Addr) (ic : Nat) (la : Option Addr) (lc : Nat) (hv : VIn w p c ia ic la lc) :
    Calls Try.prog 32 #[val p c ia ic la lc] w fun e w' => e = .returned (.bool (decide (p.kind = 12) && mayV p c 32)) ∧ Below w.heap.size w w' := by
  have M := check_any p c (bx w p c ia ic la lc) ia ic la lc (hv.later (alloc_below _ _))
  have hb0 : Below w.heap.size w (bx w p c ia ic la lc) := alloc_below _ _
  generalize mayV p c 32 = t at *
  by_cases hk : p.kind = 12
  · have e : (decide (p.kind = 12) && t) = t := by simp [hk]
    rw [e]
    clear e
    unfold bx val at M
    unfold bx at hb0
    rw [hk] at M hb0
    go_enter Try.func32, Try.ntmps32
    go_wp2_with fail
    refine M.mono ?_
    rintro e wx ⟨rfl, hwx⟩
    have hb := hb0.trans (hwx.mono hb0.size)
    cases t
    · go_wp2_with fail
      go_ret
      exact ⟨rfl, hb⟩
    · go_wp2_with fail
      go_ret
      exact ⟨rfl, hb⟩
  · have e : (decide (p.kind = 12) && t) = false := by simp [hk]
    rw [e]
    clear e
    go_enter Try.func32, Try.ntmps32
    go_wp2_with fail
    go_ret
    exact ⟨rfl, hb0⟩

end Go.Proofs.Ytikoddlidhefpaa

/-
  The writer: a box of one slice of bytes, which grows; what it leaves alone.
-/
namespace Go.Proofs.Ytikoddlidhefpaa
open Go.ChangeShapes Go.WideShapes Go.ChangeAt Go.RowKit Go.Deep

/-- all blocks but B, and but rows of bytes behind it, are as they were -/
structure WF (B : Nat) (w w' : World) : Prop where
  os : w'.os = w.os
  tape : w'.tape = w.tape
  output : w'.output = w.output
  size : w.heap.size ≤ w'.heap.size
  block : ∀ k, k < w.heap.size → k ≠ B → (k < B ∨ ∀ cur fr, w.heap[k]? ≠ some (.cells cur 5 fr)) → w'.heap[k]? = w.heap[k]?

theorem WF.refl (B : Nat) (w : World) : WF B w w := ⟨rfl, rfl, rfl, Nat.le_refl _, fun _ _ _ _ => rfl⟩
theorem WF.trans {B : Nat} {a b c : World} (h : WF B a b) (k : WF B b c) : WF B a c :=
  ⟨k.os.trans h.os, k.tape.trans h.tape, k.output.trans h.output, Nat.le_trans h.size k.size, fun i h1 h2 h3 => by
    have e := h.block i h1 h2 h3
    rw [k.block i (Nat.lt_of_lt_of_le h1 h.size) h2 (h3.imp id (fun h4 cur fr => by rw [e]; exact h4 cur fr)), e]⟩
theorem WF.of_below {B : Nat} {w w' : World} (h : Below w.heap.size w w') : WF B w w' := ⟨h.os, h.tape, h.output, h.size, fun k h1 _ _ => h.block k h1⟩
theorem WF.below {B : Nat} {w w' : World} (h : WF B w w') (hB : B ≤ w.heap.size) : Below B w w' := ⟨h.os, h.tape, h.output, h.size, fun k hk => h.block k (by omega) (by omega) (.inl hk)⟩
/-- a box that is no row of bytes stays -/
theorem WF.box {B b : Nat} {w w' : World} {C : Array Value} {t : TypeId} {fr : Nat × Nat} (h : WF B w w') (hb : w.heap[b]? = some (.cells C t fr)) (hne : b ≠ B) (ht : t ≠ 5) : w'.heap[b]? = some (.cells C t fr) := by
  have hlt : b < w.heap.size := by
    rcases Nat.lt_or_ge b w.heap.size with h1 | h1
    · exact h1
    · rw [Array.getElem?_eq_none h1] at hb; cases hb
  rw [h.block b hlt hne (.inr fun cur f e => by rw [hb] at e; cases e; exact ht rfl), hb]

/-- the writer's box at block B holds the bytes 'out' -/
def Wr (w : World) (B : Nat) (out : List Nat) : Prop :=
  ∃ v, w.heap[B]? = some (.cells #[v] 57 (0, 0)) ∧ w.ownsRow (B + 1) 5 1 v out.length (c8 out)
theorem Wr.lt {w : World} {B : Nat} {out : List Nat} (h : Wr w B out) : B < w.heap.size := by
  obtain ⟨v, h1, _⟩ := h
  rcases Nat.lt_or_ge B w.heap.size with h2 | h2
  · exact h2
  · rw [Array.getElem?_eq_none h2] at h1; cases h1
theorem Wr.later {w w' : World} {B : Nat} {out : List Nat} (h : Wr w B out) (hb : Below w.heap.size w w') : Wr w' B out := by
  have hl := h.lt
  obtain ⟨v, h1, h2⟩ := h
  refine ⟨v, by rw [hb.block B hl]; exact h1, h2.1, ?_⟩
  rcases h2.2 with h3 | ⟨g, cap, cur, e1, e2, e3, e4⟩
  · exact .inl h3
  · refine .inr ⟨g, cap, cur, e1, e2, ?_, e4⟩
    have hg : g < w.heap.size := by
      rcases Nat.lt_or_ge g w.heap.size with h5 | h5
      · exact h5
      · rw [Array.getElem?_eq_none h5] at e3; cases e3
    rw [hb.block g hg]
    exact e3
theorem cell_of_block {w : World} {b j : Nat} {C : Array Value} {t : TypeId} {fr : Nat × Nat} {u : Value} (h : w.heap[b]? = some (.cells C t fr)) (hj : C[j]? = some u) : w.cell? ⟨b, j, none⟩ = some u := by
  unfold World.cell?
  rw [h]
  simpa using hj
theorem frozen_of_block {w : World} {b j : Nat} {C : Array Value} {t : TypeId} (h : w.heap[b]? = some (.cells C t (0, 0))) : w.frozen? ⟨b, j, none⟩ = false := by
  unfold World.frozen?
  rw [h]
  simp
theorem infoU8 : (Try.prog.info? 5).map (fun i => (i.zero, i.size, i.bytes)) = some (some (.int .u8 0), 1, 1) := by kernel_rfl

theorem add0 (b j : Nat) : (⟨b, 0, none⟩ : Addr).add j = ⟨b, j, none⟩ := by unfold Addr.add; split <;> simp_all
theorem new_news (w : World) (l : List Value) (e : TypeId) (fr : Nat × Nat) : ∀ j u, l[j]? = some u → (w.alloc (.cells l.toArray e fr)).cell? ((⟨w.heap.size, 0, none⟩ : Addr).add j) = some u := by
  intro j u hj
  rw [add0]
  exact alloc_cell w _ e fr (by simpa using hj)
/-- what an append and the store of its answer leave of the writer -/
theorem wr_store {w w0 W1 : World} {B : Nat} {out news : List Nat} {v v1 : Value} (hv : w.heap[B]? = some (.cells #[v] 57 (0, 0))) (hown : w.ownsRow (B + 1) 5 1 v out.length (c8 out))
    (hown1 : W1.ownsRow (B + 1) 5 1 v1 (out.length + news.length) (c8 out ++ c8 news)) (hb : Below w.heap.size w w0) (hg : w0.grownBy W1 v.ownBlock) : Wr (W1.setCell ⟨B, 0, none⟩ v1) B (out ++ news) ∧ WF B w (W1.setCell ⟨B, 0, none⟩ v1) := by
  have hB : B < w.heap.size := Wr.lt ⟨v, hv, hown⟩
  have hne : some B ≠ v.ownBlock := by
    rcases hown.2 with ⟨rfl, _⟩ | ⟨g, cap, cur, rfl, h1, _⟩
    · simp [Value.ownBlock]
    · simp only [Value.ownBlock, ne_eq, Option.some.injEq]; omega
  have hW1 : W1.heap[B]? = some (.cells #[v] 57 (0, 0)) := by rw [hg.block B (Nat.lt_of_lt_of_le hB hb.size) hne, hb.block B hB, hv]
  refine ⟨⟨v1, one_setCell hW1, ?_⟩, hg.os.trans hb.os, hg.tape.trans hb.tape, hg.output.trans hb.output, ?_, ?_⟩
  · rw [c8_append, List.length_append]
    exact ownsRow_setCell_below hown1 (Nat.lt_succ_self _) _
  · have h1 := hg.size
    have h2 := hb.size
    simp only [World.setCell, Array.size_modify]
    omega
  · intro k h1 h2 h3
    rw [Below.heap_setCell _ _ _ _ h2, hg.block k (Nat.lt_of_lt_of_le h1 hb.size), hb.block k h1]
    rcases hown.2 with ⟨rfl, _⟩ | ⟨g, cap, cur, rfl, e1, e2, _⟩
    · simp [Value.ownBlock]
    · intro e
      simp only [Value.ownBlock, Option.some.injEq] at e
      subst e
      rcases h3 with h3 | h3
      · omega
      · exact h3 _ _ e2

theorem keep_box {w w0 W1 : World} {B : Nat} {out : List Nat} {v : Value} (hv : w.heap[B]? = some (.cells #[v] 57 (0, 0))) (hown : w.ownsRow (B + 1) 5 1 v out.length (c8 out))
    (hb : Below w.heap.size w w0) (hg : w0.grownBy W1 v.ownBlock) : W1.cell? ⟨B, 0, none⟩ = some v ∧ W1.frozen? ⟨B, 0, none⟩ = false := by
  have hB : B < w.heap.size := Wr.lt ⟨v, hv, hown⟩
  have hne : some B ≠ v.ownBlock := by
    rcases hown.2 with ⟨rfl, _⟩ | ⟨g, cap, cur, rfl, h1, _⟩
    · simp [Value.ownBlock]
    · simp only [Value.ownBlock, ne_eq, Option.some.injEq]; omega
  have hW1 : W1.heap[B]? = some (.cells #[v] 57 (0, 0)) := by rw [hg.block B (Nat.lt_of_lt_of_le hB hb.size) hne, hb.block B hB, hv]
  exact ⟨cell_of_block hW1 rfl, frozen_of_block hW1⟩

set_option maxRecDepth 10000 in
set_option maxHeartbeats 1000000 in
theorem lay_any (w : World) (B : Nat) (out : List Nat) (c : Nat) (hl : out.length + 1 ≤ 70368744177664) (h : Wr w B out) :
    Calls Try.prog 52 #[.pointer (some ⟨B, 0, none⟩), .int .u8 c] w fun e w' => e = .returned (.tuple #[]) ∧ Wr w' B (out ++ [c]) ∧ WF B w w' := by
  obtain ⟨i0, hi, hz0, hz1, hz2⟩ := info_parts infoU8
  have hlt := h.lt
  obtain ⟨v, hv, hown⟩ := h
  have c0 : w.cell? ⟨B, 0, none⟩ = some v := cell_of_block hv rfl
  have f0 := frozen_of_block hv (j := 0)
  have HL : Hid (out.length + 1 ≤ maxLen ∧ (out.length + 1) * 1 ≤ 140737488355328) := ⟨by unfold maxLen; omega, by omega⟩
  have HB : Hid (B + 1 ≤ (w.alloc (.cells #[.int .u8 (c : Int)] 5)).heap.size) := by show _ ≤ _; simp; omega
  have HV : Hid (w.heap[B]? = some (.cells #[v] 57 (0, 0))) := hv
  have HO : Hid (w.ownsRow (B + 1) 5 1 v out.length (c8 out)) := hown
  clear hl hv hown
  go_enter Try.func52, Try.ntmps52
  go_wp2_with (at_builtin; refine wpList_append_own _ rfl (.tmp 8) (.tmp 10) 37 rfl (B + 1) 5 i0 (.int .u8 0) 1 1 Try.underlying37 hi hz0 hz1 hz2 rfl (by decide) v out.length (c8 out) rfl (HO.out.alloc _) ⟨w.heap.size, 0, none⟩ 1 1 [.int .u8 (c : Int)] rfl rfl (new_news w [.int .u8 (c : Int)] 5 (0, 0)) (c8_one [c]) HL.out.1 HL.out.2 HB.out ?_; intro v1 W1 hown1 hg1 _; have HS : Hid _ := wr_store (news := [c]) HV.out HO.out hown1 (alloc_below w _) hg1; have K := keep_box HV.out HO.out (alloc_below w _) hg1; obtain ⟨c1, f1⟩ := K; obtain ⟨ad1, cp1, rfl⟩ := own_sl hown1; clear hown1 hg1)
  go_end0
  exact ⟨rfl, HS.out⟩
end Go.Proofs.Ytikoddlidhefpaa
