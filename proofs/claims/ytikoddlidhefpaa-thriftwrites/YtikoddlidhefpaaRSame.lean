/-
  The reference's Same.
-/
import Derived.Test.YtikoddlidhefpaaJ7
import Derived.Lib.QuietBelow
namespace Go.Proofs.Ytikoddlidhefpaa
open Go.ChangeShapes Go.WideShapes Go.ChangeAt Go.RowKit Go.Deep Go.Sort

def RSameC (p : Pay) (c : Fo) : Prop := ∀ (w : World) (ia : Option Addr) (ic : Nat) (la : Option Addr) (lc : Nat) (q : Pay) (d : Fo) (ja : Option Addr) (jc : Nat) (ka : Option Addr) (kc : Nat), VIn w p c ia ic la lc → VIn w q d ja jc ka kc →
  Calls Try.prog 23 #[val p c ia ic la lc, val q d ja jc ka kc] w fun e w' => e = .returned (.bool (sameP p q && sameF c d)) ∧ Below w.heap.size w w'

/-- the world in which two values were laid into boxes of their own -/
abbrev bx2 (w : World) (p : Pay) (c : Fo) (ia : Option Addr) (ic : Nat) (la : Option Addr) (lc : Nat) (q : Pay) (d : Fo) (ja : Option Addr) (jc : Nat) (ka : Option Addr) (kc : Nat) : World :=
  (bx w p c ia ic la lc).alloc (.cells #[.int .i64 q.kind, .int .i64 q.key, .int .i64 q.elem, .int .i64 q.num, .string q.text, .slice ja q.ids.length jc, .slice ka (flen d) kc] 26)
theorem bx2_below (w : World) (p : Pay) (c : Fo) (ia : Option Addr) (ic : Nat) (la : Option Addr) (lc : Nat) (q : Pay) (d : Fo) (ja : Option Addr) (jc : Nat) (ka : Option Addr) (kc : Nat) : Below w.heap.size w (bx2 w p c ia ic la lc q d ja jc ka kc) :=
  (alloc_below _ _).alloc (by simp) _
theorem bx2_size (w : World) (p : Pay) (c : Fo) (ia : Option Addr) (ic : Nat) (la : Option Addr) (lc : Nat) (q : Pay) (d : Fo) (ja : Option Addr) (jc : Nat) (ka : Option Addr) (kc : Nat) : (bx2 w p c ia ic la lc q d ja jc ka kc).heap.size = w.heap.size + 1 + 1 := by simp
theorem bx2_cells {w w' : World} {p : Pay} {c : Fo} {ia : Option Addr} {ic : Nat} {la : Option Addr} {lc : Nat} {q : Pay} {d : Fo} {ja : Option Addr} {jc : Nat} {ka : Option Addr} {kc : Nat} (h : Below (w.heap.size + 1 + 1) (bx2 w p c ia ic la lc q d ja jc ka kc) w') :
    (w'.cell? ⟨w.heap.size, 5, none⟩ = some (.slice ia p.ids.length ic) ∧ w'.cell? ⟨w.heap.size, 6, none⟩ = some (.slice la (flen c) lc)) ∧
    (w'.cell? ⟨w.heap.size + 1, 5, none⟩ = some (.slice ja q.ids.length jc) ∧ w'.cell? ⟨w.heap.size + 1, 6, none⟩ = some (.slice ka (flen d) kc)) := by
  have h' : Below (bx2 w p c ia ic la lc q d ja jc ka kc).heap.size (bx2 w p c ia ic la lc q d ja jc ka kc) w' := by rw [bx2_size]; exact h
  exact ⟨⟨cell_later h' (alloc2_cell' _ _ _ _ _ rfl), cell_later h' (alloc2_cell' _ _ _ _ _ rfl)⟩, cell_later h' (alloc2_cell _ _ _ _ _ rfl), cell_later h' (alloc2_cell _ _ _ _ _ rfl)⟩
theorem bx2_later {w w' : World} {p : Pay} {c : Fo} {ia : Option Addr} {ic : Nat} {la : Option Addr} {lc : Nat} {q : Pay} {d : Fo} {ja : Option Addr} {jc : Nat} {ka : Option Addr} {kc : Nat} (h : Below (w.heap.size + 1 + 1) (bx2 w p c ia ic la lc q d ja jc ka kc) w') : Below w.heap.size w w' :=
  (bx2_below w p c ia ic la lc q d ja jc ka kc).trans (h.mono (by omega))

set_option maxRecDepth 10000 in
set_option maxHeartbeats 2000000 in
theorem rsame_step (p : Pay) (c : Fo) (ih : ∀ x ∈ elems c, RSameC x.1 x.2) : RSameC p c := by
  intro w ia ic la lc q d ja jc ka kc hv hv'
  have t2' : (p.ids.length : Int) ≤ 140737488355328 := by have := hv.ok.ids; omega
  have t3' : (flen c : Int) ≤ 140737488355328 := by have := hv.len; omega
  by_cases h0 : p.kind = q.kind
  case neg =>
    have e : (sameP p q && sameF c d) = false := by simp [sameP, h0]
    rw [e]
    clear e
    go_enter Try.func23, Try.ntmps23
    go_wp2_with fail
    go_ret
    exact ⟨rfl, (alloc_below w _).alloc (by simp) _⟩
  by_cases h1 : p.key = q.key
  case neg =>
    have e : (sameP p q && sameF c d) = false := by simp [sameP, h1]
    rw [e]
    clear e
    go_enter Try.func23, Try.ntmps23
    go_wp2_with fail
    go_ret
    exact ⟨rfl, (alloc_below w _).alloc (by simp) _⟩
  by_cases h2 : p.elem = q.elem
  case neg =>
    have e : (sameP p q && sameF c d) = false := by simp [sameP, h2]
    rw [e]
    clear e
    go_enter Try.func23, Try.ntmps23
    go_wp2_with fail
    go_ret
    exact ⟨rfl, (alloc_below w _).alloc (by simp) _⟩
  by_cases h3 : p.num = q.num
  case neg =>
    have e : (sameP p q && sameF c d) = false := by simp [sameP, h3]
    rw [e]
    clear e
    go_enter Try.func23, Try.ntmps23
    go_wp2_with fail
    go_ret
    exact ⟨rfl, (alloc_below w _).alloc (by simp) _⟩
  by_cases h4 : p.text.toList = q.text.toList
  case neg =>
    have e : (sameP p q && sameF c d) = false := by simp [sameP, h4]
    rw [e]
    clear e
    go_enter Try.func23, Try.ntmps23
    go_wp2_with fail
    go_ret
    exact ⟨rfl, (alloc_below w _).alloc (by simp) _⟩
  by_cases h5 : p.ids.length = q.ids.length
  case neg =>
    have e : (sameP p q && sameF c d) = false := by
      have : ¬ p.ids = q.ids := fun e => h5 (congrArg List.length e)
      simp [sameP, this]
    rw [e]
    clear e
    have h5' : ¬ (p.ids.length : Int) = (q.ids.length : Int) := by omega
    go_enter Try.func23, Try.ntmps23
    go_wp2_with fail
    go_ret
    exact ⟨rfl, (alloc_below w _).alloc (by simp) _⟩
  by_cases h6 : flen c = flen d
  case neg =>
    have e : (sameP p q && sameF c d) = false := by
      have : sameF c d = false := by
        cases h : sameF c d
        · rfl
        · exact absurd (sameF_len h) h6
      simp [this]
    rw [e]
    clear e
    have h6' : ¬ (flen c : Int) = (flen d : Int) := by omega
    go_enter Try.func23, Try.ntmps23
    go_wp2_with fail
    go_ret
    exact ⟨rfl, (alloc_below w _).alloc (by simp) _⟩
  have HP : Hid ((sameP p q && sameF c d) = (decide (p.ids = q.ids) && sameF c d)) := by show _ = _; simp [sameP, h0, h1, h2, h3, h4]
  have H56 : Hid (p.ids.length = q.ids.length ∧ flen c = flen d) := ⟨h5, h6⟩
  have h5' : (q.ids.length : Int) = (p.ids.length : Int) := by omega
  have h6' : (flen d : Int) = (flen c : Int) := by omega
  clear h5 h6
  obtain ⟨k, y, z, n, x, l⟩ := p
  obtain ⟨k2, y2, z2, n2, x2, l2⟩ := q
  simp only at h0 h1 h2 h3 h4 h5' t2'
  subst h0 h1 h2 h3
  have HP' : Hid ((sameP ⟨k, y, z, n, x, l⟩ ⟨k, y, z, n, x2, l2⟩ && sameF c d) = (decide (l = l2) && sameF c d)) := HP.out
  have H5' : Hid (l.length = l2.length) := H56.out.1
  have H6' : Hid (flen c = flen d) := H56.out.2
  clear HP H56
  go_enter Try.func23, Try.ntmps23
  go_wp2_with fail
  go_loopw [5] (fun iv wr => ∃ i : Nat, i ≤ l.length ∧ iv = .int .i64 i ∧ Hid (l.take i = l2.take i) ∧ Below (w.heap.size + 1 + 1) (bx2 w ⟨k, y, z, n, x, l⟩ c ia ic la lc ⟨k, y, z, n, x2, l2⟩ d ja jc ka kc) wr) (fun iv _ => l.length - (intOf iv).toNat)
  case atStart => exact ⟨0, Nat.zero_le _, rfl, rfl, Below.refl _ _⟩
  case round =>
    obtain ⟨i, hi, rfl, H, hb⟩ := hrel
    obtain ⟨⟨c5, c6⟩, c5', c6'⟩ := bx2_cells hb
    simp only at c5 c5'
    have hbw := bx2_later hb
    by_cases hlt : i < l.length
    · have hlt' : (i : Int) < (l.length : Int) := by omega
      have hlt2 : (i : Int) < (l2.length : Int) := by omega
      obtain ⟨g, off, rfl, k1⟩ := ids_at (hv.ids.later hbw) hlt
      obtain ⟨g', off', rfl, k2⟩ := ids_at (hv'.ids.later hbw) (j := i) (by show i < l2.length; omega)
      simp only at k1 k2
      by_cases hx : l.getD i 0 = l2.getD i 0
      · have HN : Hid (l.take (i + 1) = l2.take (i + 1)) := by
          have := H5'.out
          exact (take_succ_eq (by omega) (by omega)).2 ⟨H.out, hx⟩
        rw [hx] at k1
        generalize l2.getD i 0 = z at *
        clear hx
        go_wp2_with fail
        go_quiet (fail)
        go_wp2_with fail
        go_roundw
        case rel => exact ⟨i + 1, by omega, by go_num, HN, below_drewN hb nq⟩
        case measure => simp [intOf]; omega
      · have HN : Hid (¬ l = l2) := by intro e; subst e; exact hx rfl
        generalize l.getD i 0 = y at *
        generalize l2.getD i 0 = z at *
        go_wp2_with fail
        go_quiet (fail)
        go_wp2_with fail
        go_ret
        exact ⟨by rw [HP'.out, decide_eq_false HN.out]; rfl, below_drewN hbw nq⟩
    · have hlt' : (l.length : Int) ≤ (i : Int) := by omega
      have HL : Hid (l = l2) := by
        have h3 := H5'.out
        have h4 := H.out
        rwa [List.take_of_length_le (by omega), List.take_of_length_le (by omega)] at h4
      have HQ : Hid ((sameP ⟨k, y, z, n, x, l⟩ ⟨k, y, z, n, x2, l2⟩ && sameF c d) = sameF c d) := by show _ = _; rw [HP'.out, decide_eq_true HL.out]; rfl
      clear H HP'
      go_wp2_with fail
      go_loopw [6] (fun iv wr => ∃ i : Nat, i ≤ flen c ∧ iv = .int .i64 i ∧ Hid (sameF (fdrop c i) (fdrop d i) = sameF c d) ∧ Below (w.heap.size + 1 + 1) (bx2 w ⟨k, y, z, n, x, l⟩ c ia ic la lc ⟨k, y, z, n, x2, l2⟩ d ja jc ka kc) wr) (fun iv _ => flen c - (intOf iv).toNat)
      case atStart => exact ⟨0, Nat.zero_le _, rfl, by cases c <;> cases d <;> rfl, hb⟩
      case round =>
        clear c5 c6 c5' c6' hbw hb hlt hlt' hi
        obtain ⟨i, hi, rfl, H, hb⟩ := hrel
        obtain ⟨⟨c5, c6⟩, c5', c6'⟩ := bx2_cells hb
        simp only at c5 c5'
        have hbw := bx2_later hb
        by_cases hlt : i < flen c
        · have hlt' : (i : Int) < (flen c : Int) := by omega
          have hlt2 : (i : Int) < (flen d : Int) := by omega
          obtain ⟨q, e, b, o, ja', jc', na, nc, bt, ot, _, hm, ef, rfl, hbl, u1, d0, d1, d2, d3, d4, d5, d6⟩ := row_at (hv.list.later hbw) hlt
          obtain ⟨q', e', b', o', ja'', jc'', na', nc', bt', ot', _, _, ef', rfl, hbl', u2, d0', d1', d2', d3', d4', d5', d6'⟩ := row_at (hv'.list.later hbw) (i := i) (by have := H6'.out; omega)
          have HS : Hid (((sameP q q' && sameF e e') && sameF (fdrop c (i + 1)) (fdrop d (i + 1))) = sameF c d) := by
            show _ = _
            rw [← H.out, ef, ef', sameF_node]
          clear H ef ef'
          have R : ∀ x os, Calls Try.prog 23 #[val q e ja' jc' na nc, val q' e' ja'' jc'' na' nc'] (grow (redrawn wr x) os) fun ee w'' => ee = .returned (.bool (sameP q q' && sameF e e')) ∧ ∃ p : Regrown, w'' = grow (redrawn wr p.d) p.os := fun x os =>
            Calls.regrown_of (ih _ hm _ ja' jc' na nc q' e' ja'' jc'' na' nc' (u1.later (below_regrown wr x os)) (u2.later (below_regrown wr x os)))
          have r6 := cell_regrown c6
          have r6' := cell_regrown c6'
          have r0 := cell_regrown d0; have r1 := cell_regrown d1; have r2 := cell_regrown d2; have r3 := cell_regrown d3; have r4 := cell_regrown d4; have r5 := cell_regrown d5; have r7 := cell_regrown d6
          have s0 := cell_regrown d0'; have s1 := cell_regrown d1'; have s2 := cell_regrown d2'; have s3 := cell_regrown d3'; have s4 := cell_regrown d4'; have s5 := cell_regrown d5'; have s7 := cell_regrown d6'
          generalize (sameP q q' && sameF e e') = t at *
          go_wp2_with fail
          refine wp_region_quiet_below (by kernel_rfl) (by kernel_rfl) ?_
          repeat (go_big_quiet_step (exact R _ _))
          refine wpQuiet_nil ?_
          intro _ hw'
          obtain ⟨⟨dq, osq⟩, hw''⟩ := hw'
          subst hw''
          have hbq := below_regrown wr dq osq
          generalize grow (redrawn wr dq) osq = wq at *
          have hb2 := hb.trans (hbq.mono (by have := hb.size; simpa using this))
          clear R r6 r6' r0 r1 r2 r3 r4 r5 r7 s0 s1 s2 s3 s4 s5 s7 hbq
          cases t
          · have HE : Hid (sameF c d = false) := by show _ = _; rw [← HS.out]; simp
            go_wp2_with fail
            go_ret
            exact ⟨by rw [HQ.out, HE.out]; rfl, bx2_later hb2⟩
          · have HE : Hid (sameF (fdrop c (i + 1)) (fdrop d (i + 1)) = sameF c d) := by show _ = _; rw [← HS.out]; simp
            go_wp2_with fail
            go_roundw
            case rel => exact ⟨i + 1, by omega, by go_num, HE, hb2⟩
            case measure => simp [intOf]; omega
        · have hlt' : (flen c : Int) ≤ (i : Int) := by omega
          have HE : Hid (sameF c d = true) := by
            show _ = _
            rw [← H.out, show i = flen c by omega, fdrop_end, H6'.out, fdrop_end]
            rfl
          go_wp2_with fail
          go_ret
          exact ⟨by rw [HQ.out, HE.out]; rfl, hbw⟩
theorem rsame_any (p : Pay) (c : Fo) : RSameC p c := every_value rsame_step p c
end Go.Proofs.Ytikoddlidhefpaa
