/-
  Same, SameAll by the library's EqualFunc, and the reference's SameAll.
-/
import Derived.Test.YtdglobonbhkheaaDat
import Derived.Test.YtdglobonbhkheaaBox
import Derived.Lib.QuietBelow
import Derived.BigQuiet
import Derived.Laws.StructEq
namespace Go.Proofs.Ytdglobonbhkheaa
set_option linter.unusedVariables false
set_option linter.unusedSimpArgs false
open Go.ChangeShapes Go.WideShapes Go.ChangeAt Go.RowKit Go.Deep Go.Sort

theorem run_eqF (d e : Dat) (w : World) : (Op.equalIn 10000 48 (.agg #[.int .i64 d.k, .int .i64 d.n, .string d.s]) (.agg #[.int .i64 e.k, .int .i64 e.n, .string e.s])).run Try.prog w = .ok (sameD d e) w := by
  rw [run_equalIn_struct w 9999 48 _ _ (by kernel_rfl) (by kernel_rfl)]
  unfold sameD
  by_cases h1 : d.k = e.k <;> by_cases h2 : d.n = e.n <;> by_cases h3 : d.s.toList = e.s.toList <;> simp [go_sem, Try.underlying48, Try.underlying22, Try.underlying2, Try.underlying9, h1, h2, h3]
theorem run_eqD (d e : Dat) (w : World) : (binOp .eql 48 (.agg #[.int .i64 d.k, .int .i64 d.n, .string d.s]) (.agg #[.int .i64 e.k, .int .i64 e.n, .string e.s])).run Try.prog w = .ok (.bool (sameD d e)) w := by
  rw [run_eql_struct, run_eqF]; rfl
theorem run_neD (d e : Dat) (w : World) : (binOp .neq 48 (.agg #[.int .i64 d.k, .int .i64 d.n, .string d.s]) (.agg #[.int .i64 e.k, .int .i64 e.n, .string e.s])).run Try.prog w = .ok (.bool (!sameD d e)) w := by
  rw [run_neq_struct, run_eqF]; rfl

set_option maxRecDepth 100000 in
set_option maxHeartbeats 2000000 in
theorem rsameAll_any (w : World) (a b : Option Addr) (len cap len' cap' : Nat) (l m : List Dat) (h1 : Data w a len cap l) (h2 : Data w b len' cap' m) :
    Calls Try.prog 11 #[.slice a len cap, .slice b len' cap'] w fun e w' => e = .returned (.bool (sameL l m)) ∧ Below w.heap.size w w' := by
  have hl := h1.1
  have hm := h2.1
  have hlen := h1.2.2.1
  by_cases hcd : len = len'
  · subst hcd
    have hlen' : (len : Int) ≤ 140737488355328 := by omega
    clear hlen
    have HL : Hid (l.length = len ∧ m.length = len) := ⟨hl, hm⟩
    clear hl hm
    go_enter Try.func11, Try.ntmps11
    go_wp2_with fail
    go_loopw [5] (fun iv wr => ∃ i : Nat, i ≤ len ∧ iv = .int .i64 (i : Int) ∧ Hid (sameL (l.drop i) (m.drop i) = sameL l m) ∧ Below w.heap.size w wr) (fun iv _ => len - (intOf iv).toNat)
    case atStart => exact ⟨0, Nat.zero_le _, rfl, rfl, Below.refl _ _⟩
    case round =>
      obtain ⟨i, hi, rfl, H, hb⟩ := hrel
      by_cases hlt : i < len
      · have hlt' : (i : Int) < (len : Int) := by omega
        obtain ⟨d, g, o, hd, wd, rfl, hg, c0, c1, c2⟩ := data_at (h1.later hb) hlt
        obtain ⟨e, g', o', he, we, rfl, hg', d0, d1, d2⟩ := data_at (h2.later hb) hlt
        have HS : Hid ((sameD d e && sameL (l.drop (i + 1)) (m.drop (i + 1))) = sameL l m) := by
          show _ = _
          rw [← H.out, sameL_drop hd he]
        clear H hd he wd we
        have r0 := cell_regrown c0; have r1 := cell_regrown c1; have r2 := cell_regrown c2; have s0 := cell_regrown d0; have s1 := cell_regrown d1; have s2 := cell_regrown d2
        have RE := fun W => run_neD d e W
        generalize sameD d e = t at *
        go_wp2_with fail
        refine wp_region_quiet_below (by kernel_rfl) (by kernel_rfl) ?_
        repeat (go_big_quiet_step (fail))
        refine wpQuiet_nil ?_
        intro _ hw'
        obtain ⟨⟨dq, osq⟩, hw''⟩ := hw'
        subst hw''
        have hq := below_regrown wr dq osq
        generalize grow (redrawn wr dq) osq = wq at *
        clear r0 r1 r2 s0 s1 s2 c0 c1 c2 d0 d1 d2
        have hb2 := hb.trans (hq.mono hb.size)
        cases t
        · have HE : Hid (sameL l m = false) := by show _ = _; rw [← HS.out]; rfl
          go_wp2_with fail
          go_ret
          exact ⟨by rw [HE.out]; rfl, hb2⟩
        · have HE : Hid (sameL (l.drop (i + 1)) (m.drop (i + 1)) = sameL l m) := by show _ = _; rw [← HS.out]; rfl
          go_wp2_with fail
          go_roundw
          case rel => exact ⟨i + 1, by omega, by go_num, HE, hb2⟩
          case measure => simp [intOf]; omega
      · have hlt' : (len : Int) ≤ (i : Int) := by omega
        have HE : Hid (sameL l m = true) := by show _ = _; rw [← H.out]; exact sameL_end (by have := HL.out; omega) (by have := HL.out; omega)
        go_wp2_with fail
        go_ret
        exact ⟨by rw [HE.out]; rfl, hb⟩
  · have hcd' : ¬ (len : Int) = (len' : Int) := by omega
    have HE : Hid (sameL l m = false) := sameL_len (by omega)
    clear hl hm h1 h2
    go_enter Try.func11, Try.ntmps11
    go_wp2_with fail
    go_ret
    exact ⟨by rw [HE.out]; rfl, Below.refl _ _⟩
end Go.Proofs.Ytdglobonbhkheaa
