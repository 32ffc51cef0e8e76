/-
  Same: thrift's, by the library's Equal and EqualFunc, and the reference's.
-/
import Derived.Test.YtikoddlidhefpaaScalar
import Derived.BigQuiet
import Derived.WalkSmall
import Derived.Deep.QuietTactic
namespace Go.Proofs.Ytikoddlidhefpaa
open Go.ChangeShapes Go.WideShapes Go.ChangeAt Go.RowKit Go.Deep

def sameP (p q : Pay) : Bool := decide (p.kind = q.kind ∧ p.key = q.key ∧ p.elem = q.elem ∧ p.num = q.num ∧ p.text.toList = q.text.toList ∧ p.ids = q.ids)
def sameF : Fo → Fo → Bool
  | .nil, .nil => true
  | .node _ _ p c r, .node _ _ q d s => sameP p q && sameF c d && sameF r s
  | _, _ => false
theorem sameF_len : ∀ {c d : Fo}, sameF c d = true → flen c = flen d
  | .nil, .nil, _ => rfl
  | .node _ _ p c r, .node _ _ q d s, h => by
    simp only [sameF, Bool.and_eq_true] at h
    simp [flen, sameF_len h.2]
  | .nil, .node _ _ _ _ _, h => by simp [sameF] at h
  | .node _ _ _ _ _, .nil, h => by simp [sameF] at h
theorem sameF_node (b o b' o' : Nat) (p q : Pay) (c r d s : Fo) : sameF (.node b o p c r) (.node b' o' q d s) = (sameP p q && sameF c d && sameF r s) := rfl

theorem take_succ_eq {l m : List Int} {i : Nat} (hl : i < l.length) (hm : i < m.length) : l.take (i + 1) = m.take (i + 1) ↔ l.take i = m.take i ∧ l.getD i 0 = m.getD i 0 := by
  rw [List.take_succ_eq_append_getElem hl, List.take_succ_eq_append_getElem hm]
  simp only [List.getD_eq_getElem?_getD, List.getElem?_eq_getElem hl, List.getElem?_eq_getElem hm, Option.getD_some]
  constructor
  · intro h
    have h1 := List.append_inj h (by simp; omega)
    exact ⟨h1.1, by simpa using h1.2⟩
  · rintro ⟨h1, h2⟩
    rw [h1, h2]

set_option maxHeartbeats 1000000 in
theorem eqInts_any (w : World) (a b : Option Addr) (ca cb : Nat) (l m : List Int) (hl : l.length ≤ 140737488355328) (hm : m.length ≤ 140737488355328) (h1 : Src w a l.length ca (c64 l)) (h2 : Src w b m.length cb (c64 m)) :
    Calls Try.prog 43 #[.slice a l.length ca, .slice b m.length cb] w fun e w' => e = .returned (.bool (decide (l = m))) ∧ Below w.heap.size w w' := by
  obtain ⟨L, hL⟩ : ∃ L, L = l.length := ⟨_, rfl⟩
  obtain ⟨M, hM⟩ : ∃ M, M = m.length := ⟨_, rfl⟩
  rw [← hL] at h1 hl ⊢
  rw [← hM] at h2 hm ⊢
  have hl' : (L : Int) ≤ 140737488355328 := by omega
  by_cases hlm : L = M
  · subst hlm
    have HLM : Hid (L = l.length ∧ L = m.length) := ⟨hL, hM⟩
    clear hL hM
    go_enter Try.func43, Try.ntmps43
    go_wp2
    go_loopw [13] (fun iv wr => ∃ i : Nat, i ≤ L ∧ iv = .int .i64 i ∧ Hid (l.take i = m.take i) ∧ Below w.heap.size w wr) (fun iv _ => L - (intOf iv).toNat)
    case atStart => exact ⟨0, Nat.zero_le _, rfl, rfl, Below.refl _ _⟩
    case round =>
      obtain ⟨i, hi, rfl, H, hb⟩ := hrel
      by_cases hlt : i < L
      · have hlt' : (i : Int) < (L : Int) := by omega
        obtain ⟨g, off, rfl, k1⟩ := ids_at (h1.later hb) hlt
        obtain ⟨g', off', rfl, k2⟩ := ids_at (h2.later hb) hlt
        by_cases hx : l.getD i 0 = m.getD i 0
        · have HN : Hid (l.take (i + 1) = m.take (i + 1)) := by
            have := HLM.out
            exact (take_succ_eq (by omega) (by omega)).2 ⟨H.out, hx⟩
          rw [hx] at k1
          generalize m.getD i 0 = z at *
          clear hx
          go_wp2
          go_quiet (fail)
          go_wp2
          go_roundw
          case rel => exact ⟨i + 1, by omega, by go_num, HN, below_drewN hb nq⟩
          case measure => simp [intOf]; omega
        · have HN : Hid (¬ l = m) := by intro e; subst e; exact hx rfl
          generalize l.getD i 0 = y at *
          generalize m.getD i 0 = z at *
          go_wp2
          go_quiet (fail)
          go_wp2
          go_ret
          exact ⟨by rw [decide_eq_false HN.out]; rfl, below_drewN hb nq⟩
      · have hlt' : (L : Int) ≤ (i : Int) := by omega
        have HN : Hid (l = m) := by
          have h3 := HLM.out
          have h4 := H.out
          rwa [List.take_of_length_le (by omega), List.take_of_length_le (by omega)] at h4
        go_wp2
        go_ret
        exact ⟨by rw [decide_eq_true HN.out]; rfl, hb⟩
  · have hlm' : ¬ (L : Int) = (M : Int) := by omega
    have HN : Hid (¬ l = m) := by intro e; subst e; omega
    clear hL hM
    go_enter Try.func43, Try.ntmps43
    go_wp2
    go_ret
    exact ⟨by rw [decide_eq_false HN.out]; rfl, Below.refl _ _⟩

def SameC (p : Pay) (c : Fo) : Prop := ∀ (w : World) (ia : Option Addr) (ic : Nat) (la : Option Addr) (lc : Nat) (q : Pay) (d : Fo) (ja : Option Addr) (jc : Nat) (ka : Option Addr) (kc : Nat), VIn w p c ia ic la lc → VIn w q d ja jc ka kc →
  Calls Try.prog 26 #[val p c ia ic la lc, val q d ja jc ka kc] w fun e w' => e = .returned (.bool (sameP p q && sameF c d)) ∧ Below w.heap.size w w'

set_option maxHeartbeats 1000000 in
theorem eqFunc_any (c d : Fo) (ih : ∀ x ∈ elems c, SameC x.1 x.2) (w : World) (la ka : Option Addr) (lc kc : Nat) (hc : flen c ≤ 140737488355328) (h1 : FAt w c la) (h2 : FAt w d ka) :
    Calls Try.prog 44 #[.slice la (flen c) lc, .slice ka (flen d) kc, .func (.func 26) #[] #[]] w fun e w' => e = .returned (.bool (sameF c d)) ∧ Below w.heap.size w w' := by
  have hc' : (flen c : Int) ≤ 140737488355328 := by omega
  by_cases hcd : flen c = flen d
  · rw [← hcd]
    have HCD : Hid (flen c = flen d) := hcd
    clear hcd
    go_enter Try.func44, Try.ntmps44
    go_wp2_with fail
    go_loopw [17] (fun iv wr => ∃ i : Nat, i ≤ flen c ∧ iv = .int .i64 i ∧ Hid (sameF (fdrop c i) (fdrop d i) = sameF c d) ∧ Below w.heap.size w wr) (fun iv _ => flen c - (intOf iv).toNat)
    case atStart => exact ⟨0, Nat.zero_le _, rfl, by cases c <;> cases d <;> rfl, Below.refl _ _⟩
    case round =>
      obtain ⟨i, hi, rfl, H, hb⟩ := hrel
      by_cases hlt : i < flen c
      · have hlt' : (i : Int) < (flen c : Int) := by omega
        obtain ⟨q, e, b, o, ja, jc, na, nc, bt, ot, _, hm, ef, rfl, hbl, hv, d0, d1, d2, d3, d4, d5, d6⟩ := row_at (h1.later hb) hlt
        obtain ⟨q', e', b', o', ja', jc', na', nc', bt', ot', _, _, ef', rfl, hbl', hv', d0', d1', d2', d3', d4', d5', d6'⟩ := row_at (h2.later hb) (i := i) (by have := HCD.out; omega)
        have HS : Hid (((sameP q q' && sameF e e') && sameF (fdrop c (i + 1)) (fdrop d (i + 1))) = sameF c d) := by
          show _ = _
          rw [← H.out, ef, ef', sameF_node]
        clear H ef ef'
        have R := ih _ hm
        simp only at R
        have hbb : Below wr.heap.size wr ((wr.alloc (.cells #[.int .i64 q.kind, .int .i64 q.key, .int .i64 q.elem, .int .i64 q.num, .string q.text, .slice ja q.ids.length jc, .slice na (flen e) nc] 26)).alloc (.cells #[.int .i64 q'.kind, .int .i64 q'.key, .int .i64 q'.elem, .int .i64 q'.num, .string q'.text, .slice ja' q'.ids.length jc', .slice na' (flen e') nc'] 26)) := ((Below.refl _ wr).alloc (Nat.le_refl _) _).alloc (by simp) _
        have RR := R _ ja jc na nc q' e' ja' jc' na' nc' (hv.later hbb) (hv'.later hbb)
        clear R
        generalize (sameP q q' && sameF e e') = t at *
        go_wp2_with fail
        refine RR.mono ?_
        rintro e wx ⟨rfl, hwx⟩
        have hb2 := hb.trans ((hbb.trans (hwx.mono hbb.size)).mono hb.size)
        clear hwx hbb RR
        cases t
        · have HE : Hid (sameF c d = false) := by show _ = _; rw [← HS.out]; simp
          go_wp2_with fail
          go_ret
          exact ⟨by rw [HE.out]; rfl, hb2⟩
        · have HE : Hid (sameF (fdrop c (i + 1)) (fdrop d (i + 1)) = sameF c d) := by show _ = _; rw [← HS.out]; simp
          go_wp2_with fail
          go_roundw
          case rel => exact ⟨i + 1, by omega, by go_num, HE, hb2⟩
          case measure => simp [intOf]; omega
      · have hlt' : (flen c : Int) ≤ (i : Int) := by omega
        have HE : Hid (sameF c d = true) := by
          show _ = _
          rw [← H.out]
          have e1 : i = flen c := by omega
          rw [e1, fdrop_end, HCD.out, fdrop_end]
          rfl
        go_wp2_with fail
        go_ret
        exact ⟨by rw [HE.out]; rfl, hb⟩
  · have hcd' : ¬ (flen c : Int) = (flen d : Int) := by omega
    have HE : Hid (sameF c d = false) := by
      show _ = _
      cases h : sameF c d
      · rfl
      · exact absurd (sameF_len h) hcd
    go_enter Try.func44, Try.ntmps44
    go_wp2_with fail
    go_ret
    exact ⟨by rw [HE.out]; rfl, Below.refl _ _⟩
set_option maxHeartbeats 1000000 in
theorem same_step (p : Pay) (c : Fo) (ih : ∀ x ∈ elems c, SameC x.1 x.2) : SameC p c := by
  intro w ia ic la lc q d ja jc ka kc hv hv'
  by_cases h0 : p.kind = q.kind
  case neg =>
    have e : (sameP p q && sameF c d) = false := by simp [sameP, h0]
    rw [e]
    clear e
    go_enter Try.func26, Try.ntmps26
    go_wp2_with fail
    go_ret
    exact ⟨rfl, ((Below.refl _ w).alloc (Nat.le_refl _) _).alloc (by simp) _⟩
  by_cases h1 : p.key = q.key
  case neg =>
    have e : (sameP p q && sameF c d) = false := by simp [sameP, h1]
    rw [e]
    clear e
    go_enter Try.func26, Try.ntmps26
    go_wp2_with fail
    go_ret
    exact ⟨rfl, ((Below.refl _ w).alloc (Nat.le_refl _) _).alloc (by simp) _⟩
  by_cases h2 : p.elem = q.elem
  case neg =>
    have e : (sameP p q && sameF c d) = false := by simp [sameP, h2]
    rw [e]
    clear e
    go_enter Try.func26, Try.ntmps26
    go_wp2_with fail
    go_ret
    exact ⟨rfl, ((Below.refl _ w).alloc (Nat.le_refl _) _).alloc (by simp) _⟩
  by_cases h3 : p.num = q.num
  case neg =>
    have e : (sameP p q && sameF c d) = false := by simp [sameP, h3]
    rw [e]
    clear e
    go_enter Try.func26, Try.ntmps26
    go_wp2_with fail
    go_ret
    exact ⟨rfl, ((Below.refl _ w).alloc (Nat.le_refl _) _).alloc (by simp) _⟩
  by_cases h4 : p.text.toList = q.text.toList
  case neg =>
    have e : (sameP p q && sameF c d) = false := by simp [sameP, h4]
    rw [e]
    clear e
    go_enter Try.func26, Try.ntmps26
    go_wp2_with fail
    go_ret
    exact ⟨rfl, ((Below.refl _ w).alloc (Nat.le_refl _) _).alloc (by simp) _⟩
  have hbb : Below w.heap.size w ((w.alloc (.cells #[.int .i64 p.kind, .int .i64 p.key, .int .i64 p.elem, .int .i64 p.num, .string p.text, .slice ia p.ids.length ic, .slice la (flen c) lc] 26)).alloc (.cells #[.int .i64 q.kind, .int .i64 q.key, .int .i64 q.elem, .int .i64 q.num, .string q.text, .slice ja q.ids.length jc, .slice ka (flen d) kc] 26)) := ((Below.refl _ w).alloc (Nat.le_refl _) _).alloc (by simp) _
  have A := eqInts_any _ ia ja ic jc p.ids q.ids hv.ok.ids hv'.ok.ids (hv.ids.later hbb) (hv'.ids.later hbb)
  have e : (sameP p q && sameF c d) = (decide (p.ids = q.ids) && sameF c d) := by simp [sameP, h0, h1, h2, h3, h4]
  rw [e]
  clear e
  have K : ∀ W, Below w.heap.size w W → Calls Try.prog 44 #[.slice la (flen c) lc, .slice ka (flen d) kc, .func (.func 26) #[] #[]] W fun e w' => e = .returned (.bool (sameF c d)) ∧ Below W.heap.size W w' :=
    fun W h => eqFunc_any c d ih W la ka lc kc hv.len (hv.list.later h) (hv'.list.later h)
  generalize decide (p.ids = q.ids) = t at *
  generalize sameF c d = s at *
  rw [h0, h1, h2, h3] at A hbb
  go_enter Try.func26, Try.ntmps26
  go_wp2_with fail
  refine A.mono ?_
  rintro e wx ⟨rfl, hwx⟩
  have hb2 := hbb.trans (hwx.mono hbb.size)
  have g6 : wx.cell? ⟨w.heap.size, 6, none⟩ = some (.slice la (flen c) lc) := cell_later hwx (alloc2_cell' _ _ _ _ _ rfl)
  have g6' : wx.cell? ⟨w.heap.size + 1, 6, none⟩ = some (.slice ka (flen d) kc) := cell_later hwx (alloc2_cell _ _ _ _ _ rfl)
  have KK := K _ hb2
  clear K A hwx
  cases t
  · go_wp2_with fail
    go_ret
    exact ⟨by simp, hb2⟩
  · go_wp2_with fail
    refine KK.mono ?_
    rintro e wy ⟨rfl, hwy⟩
    go_wp2_with fail
    go_ret
    exact ⟨by simp, hb2.trans (hwy.mono hb2.size)⟩

theorem same_any (p : Pay) (c : Fo) : SameC p c := every_value same_step p c
end Go.Proofs.Ytikoddlidhefpaa
