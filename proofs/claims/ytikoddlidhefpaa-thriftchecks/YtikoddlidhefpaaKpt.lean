/-
  The law's kept: a marked value is as it was.
-/
import Derived.Test.YtikoddlidhefpaaCpd
import Derived.Lib.QuietBelow
import Derived.BigQuiet
namespace Go.Proofs.Ytikoddlidhefpaa
set_option linter.unusedVariables false
set_option linter.unusedSimpArgs false
open Go.ChangeShapes Go.WideShapes Go.ChangeAt Go.RowKit Go.Deep Go.Sort

theorem MF.at {w : World} : ∀ {f : Fo} {a : Option Addr} {i : Nat} {p : Pay} {c : Fo}, MF w f a → (elems f)[i]? = some (p, c) →
    ∃ b o ia ic la lc, a = some ⟨b, o, none⟩ ∧ b < w.heap.size ∧ (∀ j u, (cells7 p ia ic la (flen c) lc)[j]? = some u → w.cell? ⟨b, o + i * 7 + j, none⟩ = some u) ∧ MV w p c ia ic la lc
  | .nil, _, _, _, _, _, h => by simp [elems] at h
  | .node _ _ p' c' r, a, 0, p, c, h, e => by
    obtain ⟨b, o, h1, h2, h3, h4, ⟨ia, ic, la, lc, h5, h6, h7, h8, h9⟩, h10⟩ := h
    simp [elems] at e
    obtain ⟨rfl, rfl⟩ := e
    exact ⟨b, o, ia, ic, la, lc, h1, h2, by simpa using h5, h3, h4, h6, h7, h8, h9⟩
  | .node _ _ p' c' r, a, i + 1, p, c, h, e => by
    obtain ⟨b, o, h1, h2, h3, h4, _, h8⟩ := h
    simp [elems] at e
    obtain ⟨b', o', ia, ic, la, lc, k1, k2, k3, k4⟩ := MF.at h8 e
    cases k1
    exact ⟨b, o, ia, ic, la, lc, h1, h2, fun j u hj => by have := k3 j u hj; rw [← this]; congr 2; omega, k4⟩
def KeptC (p : Pay) (c : Fo) : Prop := ∀ (w : World) (ia : Option Addr) (ic : Nat) (la : Option Addr) (lc : Nat) (ja : Option Addr) (jc : Nat) (ka : Option Addr) (kc : Nat), MV w p c ia ic la lc → VIn w p c ja jc ka kc →
  Calls Try.prog 17 #[val p c ia ic la lc, val p c ja jc ka kc] w fun e w' => e = .returned (.bool true) ∧ Below w.heap.size w w'

set_option maxRecDepth 10000 in
set_option maxHeartbeats 4000000 in
theorem kept_step (p : Pay) (c : Fo) (ih : ∀ x ∈ elems c, KeptC x.1 x.2) : KeptC p c := by
  intro w ia ic la lc ja jc ka kc hm hv
  have HIH : Hid (∀ x ∈ elems c, KeptC x.1 x.2) := ih
  have HM : Hid (MV w p c ia ic la lc) := hm
  have HV : Hid (VIn w p c ja jc ka kc) := hv
  have hb0 : Below w.heap.size w (bx2 w p c ia ic la lc p c ja jc ka kc) := (alloc_below w _).alloc (by simp) _
  obtain ⟨g, e1, hic, hg⟩ := hm.im
  obtain ⟨h, e2, hlc, hh⟩ := hm.lm
  subst e1 e2
  have hn1 : (p.ids.length : Int) ≤ 140737488355328 := by have := hm.ok.ids; omega
  have hf1 : (flen c : Int) ≤ 140737488355328 := by have := hm.len; omega
  have hn2 : (p.ids.length : Int) + 1 ≤ (ic : Int) := by omega
  have hf2 : (flen c : Int) + 1 ≤ (lc : Int) := by omega
  have rA := cell_regrown (cell_later hb0 hg)
  have rB := cell_regrown (cell_later hb0 hh)
  have hx0 : (bx2 w p c (some ⟨g, 0, none⟩) ic (some ⟨h, 0, none⟩) lc p c ja jc ka kc).heap[w.heap.size]? = some (.cells #[.int .i64 p.kind, .int .i64 p.key, .int .i64 p.elem, .int .i64 p.num, .string p.text, .slice (some ⟨g, 0, none⟩) p.ids.length ic, .slice (some ⟨h, 0, none⟩) (flen c) lc] 26 (0, 0)) := by
    rw [(alloc_below _ _).block _ (by simp)]; exact heap_new w _
  have hx1 : (bx2 w p c (some ⟨g, 0, none⟩) ic (some ⟨h, 0, none⟩) lc p c ja jc ka kc).heap[w.heap.size + 1]? = some (.cells #[.int .i64 p.kind, .int .i64 p.key, .int .i64 p.elem, .int .i64 p.num, .string p.text, .slice ja p.ids.length jc, .slice ka (flen c) kc] 26 (0, 0)) := heap2_new _ _ _
  obtain ⟨⟨a0, a1, a2, a3, a4, a5, a6⟩, _⟩ := blk7 hx0
  obtain ⟨⟨b0, b1, b2, b3, b4, b5, b6⟩, _⟩ := blk7 hx1
  have r0 := cell_regrown a0; have r1 := cell_regrown a1; have r2 := cell_regrown a2; have r3 := cell_regrown a3; have r4 := cell_regrown a4; have r5 := cell_regrown a5; have r6 := cell_regrown a6
  have t0 := cell_regrown b0; have t1 := cell_regrown b1; have t2 := cell_regrown b2; have t3 := cell_regrown b3; have t4 := cell_regrown b4; have t5 := cell_regrown b5; have t6 := cell_regrown b6
  have SA : ∀ d os, Calls Try.prog 23 #[val p c (some ⟨g, 0, none⟩) ic (some ⟨h, 0, none⟩) lc, val p c ja jc ka kc] (grow (redrawn (bx2 w p c (some ⟨g, 0, none⟩) ic (some ⟨h, 0, none⟩) lc p c ja jc ka kc) d) os) fun e w'' => e = .returned (.bool true) ∧ ∃ q : Regrown, w'' = grow (redrawn (bx2 w p c (some ⟨g, 0, none⟩) ic (some ⟨h, 0, none⟩) lc p c ja jc ka kc) q.d) q.os := fun d os => by
    have hs := rsame_any p c (grow (redrawn (bx2 w p c (some ⟨g, 0, none⟩) ic (some ⟨h, 0, none⟩) lc p c ja jc ka kc) d) os) (some ⟨g, 0, none⟩) ic (some ⟨h, 0, none⟩) lc p c ja jc ka kc ((HM.out.vin.later hb0).later (below_regrown _ d os)) ((HV.out.later hb0).later (below_regrown _ d os))
    rw [sameP_refl, sameF_refl] at hs
    exact Calls.regrown_of hs
  clear a0 a1 a2 a3 a4 a5 a6 b0 b1 b2 b3 b4 b5 b6 hm hv hg hh ih
  have HX0 : Hid ((bx2 w p c (some ⟨g, 0, none⟩) ic (some ⟨h, 0, none⟩) lc p c ja jc ka kc).heap[w.heap.size]? = some (.cells #[.int .i64 p.kind, .int .i64 p.key, .int .i64 p.elem, .int .i64 p.num, .string p.text, .slice (some ⟨g, 0, none⟩) p.ids.length ic, .slice (some ⟨h, 0, none⟩) (flen c) lc] 26 (0, 0))) := hx0
  have HX1 : Hid ((bx2 w p c (some ⟨g, 0, none⟩) ic (some ⟨h, 0, none⟩) lc p c ja jc ka kc).heap[w.heap.size + 1]? = some (.cells #[.int .i64 p.kind, .int .i64 p.key, .int .i64 p.elem, .int .i64 p.num, .string p.text, .slice ja p.ids.length jc, .slice ka (flen c) kc] 26 (0, 0))) := hx1
  have HB0 : Hid (Below w.heap.size w (bx2 w p c (some ⟨g, 0, none⟩) ic (some ⟨h, 0, none⟩) lc p c ja jc ka kc)) := hb0
  clear hx0 hx1 hb0
  go_enter Try.func17, Try.ntmps17
  go_wp2_with fail
  refine wp_region_quiet_below (by kernel_rfl) (by kernel_rfl) ?_
  repeat (go_big_quiet_step (with_reducible exact SA _ _))
  refine wpQuiet_nil ?_
  intro _ hw'
  obtain ⟨⟨dq, osq⟩, hw''⟩ := hw'
  subst hw''
  have hbq := below_regrown (bx2 w p c (some ⟨g, 0, none⟩) ic (some ⟨h, 0, none⟩) lc p c ja jc ka kc) dq osq
  have hy0 := below_at hbq HX0.out
  have hy1 := below_at hbq HX1.out
  have hbw := HB0.out.trans (hbq.mono HB0.out.size)
  generalize grow (redrawn (bx2 w p c (some ⟨g, 0, none⟩) ic (some ⟨h, 0, none⟩) lc p c ja jc ka kc) dq) osq = wq at *
  clear r0 r1 r2 r3 r4 r5 r6 t0 t1 t2 t3 t4 t5 t6 rA rB SA HX0 HX1 HB0 hbq
  go_wp2_with fail
  go_loopw [5] (fun iv wr => ∃ (i : Nat), i ≤ flen c ∧ iv = .int .i64 (i : Int) ∧ Hid (wr.heap[w.heap.size]? = some (.cells #[.int .i64 p.kind, .int .i64 p.key, .int .i64 p.elem, .int .i64 p.num, .string p.text, .slice (some ⟨g, 0, none⟩) p.ids.length ic, .slice (some ⟨h, 0, none⟩) (flen c) lc] 26 (0, 0)) ∧ wr.heap[w.heap.size + 1]? = some (.cells #[.int .i64 p.kind, .int .i64 p.key, .int .i64 p.elem, .int .i64 p.num, .string p.text, .slice ja p.ids.length jc, .slice ka (flen c) kc] 26 (0, 0)) ∧ Below w.heap.size w wr)) (fun iv _ => flen c - (intOf iv).toNat)
  case atStart => exact ⟨0, Nat.zero_le _, rfl, hy0, hy1, hbw⟩
  case round =>
    clear hy0 hy1 hbw
    obtain ⟨i, hi, rfl, H⟩ := hrel
    have hbw := H.out.2.2
    obtain ⟨⟨a0, a1, a2, a3, a4, a5, a6⟩, _⟩ := blk7 H.out.1
    obtain ⟨⟨b0, b1, b2, b3, b4, b5, b6⟩, _⟩ := blk7 H.out.2.1
    by_cases hlt : i < flen c
    · have hlt' : (i : Int) < (flen c : Int) := by omega
      have hlt2 : (i : Int) < (lc : Int) := by omega
      obtain ⟨q, d, b, o, ja', jc', ka', kc', bt, ot, eq, mem, efd, rfl, hbl, hin, y0, y1, y2, y3, y4, y5, y6⟩ := row_at (HV.out.list.later hbw) hlt
      obtain ⟨bm, om, im, icm, lm, lcm, em, hblm, hcm, hmv⟩ := (HM.out.list.later hbw).at eq
      cases em
      obtain ⟨z0, z1, z2, z3, z4, z5, z6⟩ := cell7 hcm
      have KI : ∀ d' os, Calls Try.prog 17 #[val q d im icm lm lcm, val q d ja' jc' ka' kc'] (grow (redrawn wr d') os) fun e w'' => e = .returned (.bool true) ∧ ∃ x : Regrown, w'' = grow (redrawn wr x.d) x.os := fun d' os => Calls.regrown_of (HIH.out _ mem _ _ _ _ _ _ _ _ _ (hmv.later (below_regrown wr d' os)) (hin.later (below_regrown wr d' os)))
      have r5 := cell_regrown a6; have t5 := cell_regrown b6
      have k0 := cell_regrown y0; have k1 := cell_regrown y1; have k2 := cell_regrown y2; have k3 := cell_regrown y3; have k4 := cell_regrown y4; have k5 := cell_regrown y5; have k6 := cell_regrown y6
      have n0 := cell_regrown z0; have n1 := cell_regrown z1; have n2 := cell_regrown z2; have n3 := cell_regrown z3; have n4 := cell_regrown z4; have n5 := cell_regrown z5; have n6 := cell_regrown z6
      simp only [Nat.zero_add] at n0 n1 n2 n3 n4 n5 n6
      clear eq mem efd y0 y1 y2 y3 y4 y5 y6 z0 z1 z2 z3 z4 z5 z6 hcm hmv hin a0 a1 a2 a3 a4 a5 b0 b1 b2 b3 b4 b5
      go_wp2_with fail
      refine wp_region_quiet_below (by kernel_rfl) (by kernel_rfl) ?_
      repeat (go_big_quiet_step (with_reducible exact KI _ _))
      refine wpQuiet_nil ?_
      intro _ hw'
      obtain ⟨⟨dq, osq⟩, hw''⟩ := hw'
      subst hw''
      have hbq := below_regrown wr dq osq
      have hy0 := below_at hbq H.out.1
      have hy1 := below_at hbq H.out.2.1
      have hbx := hbw.trans (hbq.mono hbw.size)
      generalize grow (redrawn wr dq) osq = wq2 at *
      go_wp2_with fail
      go_roundw
      case rel => exact ⟨i + 1, by omega, by go_num, hy0, hy1, hbx⟩
      case measure => simp [intOf]; omega
    · have hge : ¬ (i : Int) < (flen c : Int) := by omega
      go_wp2_with fail
      go_ret
      exact ⟨rfl, hbw⟩
theorem kept_any (p : Pay) (c : Fo) : KeptC p c := every_value kept_step p c
end Go.Proofs.Ytikoddlidhefpaa
