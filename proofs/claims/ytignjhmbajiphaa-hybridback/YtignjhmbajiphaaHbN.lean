/-
  numbersOf; why reading was given up; the deferred closures.
-/
import Derived.Test.YtignjhmbajiphaaHbV
import Derived.Test.YtignjhmbajiphaaHbF
import Derived.Test.YtignjhmbajiphaaBox
import Derived.Defers
import Derived.Recover
namespace Go.Proofs.Ytignjhmbajiphaa
set_option linter.unusedVariables false
set_option linter.unusedSimpArgs false
open Go.ChangeShapes Go.WideShapes Go.ChangeAt Go.RowKit

/-- the numbers of runs, one behind the other -/
def flatN : List (Bool × List Int) → List Int
  | [] => []
  | r :: rs => r.2 ++ flatN rs
theorem flatN_snoc (rs : List (Bool × List Int)) (r : Bool × List Int) : flatN (rs ++ [r]) = flatN rs ++ r.2 := by
  induction rs with
  | nil => simp [flatN]
  | cons a rs ih => simp [flatN, ih]
theorem flatN_take (rs : List (Bool × List Int)) : ∀ i, (flatN (rs.take i)).length ≤ (flatN rs).length := by
  induction rs with
  | nil => intro i; simp [flatN]
  | cons a rs ih =>
    intro i
    cases i with
    | zero => simp [flatN]
    | succ i => simp [flatN, ih i]

set_option maxRecDepth 100000 in
set_option maxHeartbeats 4000000 in
theorem numbers_any (a0 : Option Addr) (c0 : Nat) (rs : List (Bool × List Int)) (B : Nat) (w : World) (hr : Rs (SrcI w) B w (.slice a0 rs.length c0) rs) (hl : (flatN rs).length ≤ 70000) (hn : rs.length ≤ 70000) :
    Calls Try.prog 20 #[.slice a0 rs.length c0] w fun e w' => ∃ v, e = .returned v ∧ w'.ownsRow w.heap.size 3 1 v (flatN rs).length ((flatN rs).map (Value.int .i64)) ∧ Below w.heap.size w w' := by
  obtain ⟨i0, hi, hz0, hz1, hz2⟩ := info_parts infoIntV
  have hrl : (rs.length : Int) ≤ 70000 := by omega
  have HR : Hid (Rs (SrcI w) B w (.slice a0 rs.length c0) rs) := hr
  clear hr
  go_enter Try.func20, Try.ntmps20
  go_wp2_with fail
  go_loopw [3, 8] (fun o s wr => ∃ i : Nat, s = .int .i64 (i : Int) ∧ i ≤ rs.length ∧ Hid (wr.ownsRow w.heap.size 3 1 o (flatN (rs.take i)).length ((flatN (rs.take i)).map (Value.int .i64))) ∧ Below w.heap.size w wr) (fun _ s _ => rs.length - (intOf s).toNat)
  case atStart => exact ⟨0, rfl, Nat.zero_le _, World.ownsRow_nil _ _ _ _, Below.refl _ _⟩
  case round =>
    obtain ⟨i, rfl, hin, HO, hb⟩ := hrel
    obtain ⟨ao, co, rfl⟩ := own_sl HO.out
    by_cases hlt : i < rs.length
    · have hlt' : (i : Int) < (rs.length : Int) := by omega
      obtain ⟨g, cc, e, hg, a, c, k1, k2, k3⟩ := run_at (rs_below HR.out hb) hlt
      cases e
      have HTK : Hid (flatN (rs.take (i + 1)) = flatN (rs.take i) ++ rs[i].2) := by show _ = _; rw [List.take_succ_eq_append_getElem hlt, flatN_snoc]
      have hpre := flatN_take rs i
      have hpre2 := flatN_take rs (i + 1)
      rw [HTK.out, List.length_append] at hpre2
      have hbA := hb.alloc hb.size (.cells #[.bool rs[i].1, .slice a rs[i].2.length c] 45)
      have hk3 := Src.later k3 hbA
      have hsr : w.heap.size ≤ wr.heap.size := hb.size
      clear k3
      generalize hq : rs[i] = r at *
      obtain ⟨rb, rl'⟩ := r
      go_wp2_with (at_builtin; go_loud (refine wpList_append_src rfl (.tmp 12) (.tmp 14) 22 rfl w.heap.size 3 i0 (.int .i64 0) 8 Try.underlying22 hi hz0 hz1 hz2 rfl (.slice ao (flatN (rs.take i)).length co) _ _ rfl (HO.out.alloc _) a _ c _ rfl hk3 (ints_one _ _) (by unfold maxLen; simp only at hpre2; omega) (by simp only at hpre2; omega) hbA.size ?_); intro v4 w4 hown4 hb4)
      have hO4 : w4.ownsRow w.heap.size 3 1 v4 (flatN (rs.take (i + 1))).length ((flatN (rs.take (i + 1))).map (Value.int .i64)) := by
        rw [HTK.out, List.length_append, List.map_append]
        exact hown4
      exact ⟨⟨i + 1, by go_num, by omega, hO4, hbA.trans hb4⟩, by simp [intOf]; omega⟩
    · have hge : (rs.length : Int) ≤ (i : Int) := by omega
      have hO := HO.out
      rw [List.take_of_length_le (by omega)] at hO
      have HH : Hid _ := hO
      rw [List.take_of_length_le (by omega)]
      clear hO
      go_wp2_with fail
      go_ret
      exact ⟨_, rfl, HH.out, hb⟩

set_option maxRecDepth 100000 in
theorem reason_nil (w : World) : Calls Try.prog 19 #[.nilIface] w fun e w' => e = .returned (.int .i64 0) ∧ w' = w := by
  go_enter Try.func19, Try.ntmps19
  go_wp2
  go_ret
  exact ⟨rfl, rfl⟩
set_option maxRecDepth 100000 in
theorem reason_why (w : World) (c : Int) : Calls Try.prog 19 #[.iface 63 (.agg #[.int .i64 c])] w fun e w' => e = .returned (.int .i64 c) ∧ Below w.heap.size w w' := by
  have ht : ∀ (v : Value) (w : World), (Instr.typeAssert (.iface 63 v) 20 63 true).run Try.prog w = .ok (.tuple #[v, .bool true]) w := by
    intro v w
    simp [Instr.typeAssert, run_underlying Try.underlying63, go_sem, Result.andThen]
  go_enter Try.func19, Try.ntmps19
  go_wp2
  go_ret
  exact ⟨rfl, by first | exact alloc_below _ _ | exact (alloc_below _ _).setCell (p := ⟨w.heap.size, 0, none⟩) (Nat.le_refl _) _⟩
set_option maxRecDepth 100000 in
set_option maxHeartbeats 1000000 in
theorem rd_panic (b : Nat) (x : Value) (c : Int) (w : World) (hb : w.heap[b]? = some (.cells #[x] 24 (0, 0))) :
    CallsD Try.prog 18 #[.pointer (some ⟨b, 0, none⟩)] (.panicking [{ v := .iface 63 (.agg #[.int .i64 c]), recovered := false }]) w fun e u' w' =>
      e = .returned (.tuple #[]) ∧ u' = .panicking [{ v := .iface 63 (.agg #[.int .i64 c]), recovered := true }] ∧ Below b w w' ∧ w'.heap[b]? = some (.cells #[.int .i64 c] 24 (0, 0)) := by
  refine callsD_of_wpS Try.func18 rfl fun c₀ cs hu => ?_
  apply wpS_region
  simp [wpOpsS, go_sem, recoverD, hu, Try.ntmps18, Exit.thenS]
  refine (reason_why w c).mono ?_
  rintro e wx ⟨rfl, hbx⟩
  have hbb := below_at hbx hb
  have c0 : wx.cell? ⟨b, 0, none⟩ = some x := cell_of_block hbb rfl
  have f0 : wx.frozen? ⟨b, 0, none⟩ = false := frozen_of_block hbb
  have hlt := lt_of_heap hb
  simp [go_sem, c0, f0, bodyPostS, results, Try.results18]
  exact ⟨(hbx.mono (Nat.le_of_lt hlt)).setCell (p := ⟨b, 0, none⟩) (Nat.le_refl _) _, (store1 hbb _).1⟩
set_option maxRecDepth 100000 in
set_option maxHeartbeats 1000000 in
theorem rd_idle (b : Nat) (x : Value) (w : World) (hb : w.heap[b]? = some (.cells #[x] 24 (0, 0))) :
    CallsD Try.prog 18 #[.pointer (some ⟨b, 0, none⟩)] .returning w fun e u' w' =>
      e = .returned (.tuple #[]) ∧ u' = .returning ∧ Only b w w' ∧ w'.heap[b]? = some (.cells #[.int .i64 0] 24 (0, 0)) := by
  refine callsD_of_wpS Try.func18 rfl fun c₀ cs hu => ?_
  apply wpS_region
  simp [wpOpsS, go_sem, recoverD, hu, Try.ntmps18, Exit.thenS]
  refine (reason_nil w).mono ?_
  rintro e wx ⟨rfl, hwx⟩
  subst hwx
  have c0 : wx.cell? ⟨b, 0, none⟩ = some x := cell_of_block hb rfl
  have f0 : wx.frozen? ⟨b, 0, none⟩ = false := frozen_of_block hb
  cases c₀
  simp_all [go_sem, c0, f0, bodyPostS, results, Try.results18]
  exact ⟨(Only.refl _ _).set _ _, (store1 hb _).1⟩
set_option maxRecDepth 100000 in
set_option maxHeartbeats 1000000 in
theorem pt_panic (b : Nat) (x : Value) (c : Int) (w : World) (hb : w.heap[b]? = some (.cells #[x] 24 (0, 0))) :
    CallsD Try.prog 22 #[.pointer (some ⟨b, 0, none⟩)] (.panicking [{ v := .iface 63 (.agg #[.int .i64 c]), recovered := false }]) w fun e u' w' =>
      e = .returned (.tuple #[]) ∧ u' = .panicking [{ v := .iface 63 (.agg #[.int .i64 c]), recovered := true }] ∧ Below b w w' ∧ w'.heap[b]? = some (.cells #[.int .i64 c] 24 (0, 0)) := by
  refine callsD_of_wpS Try.func22 rfl fun c₀ cs hu => ?_
  apply wpS_region
  simp [wpOpsS, go_sem, recoverD, hu, Try.ntmps22, Exit.thenS]
  refine (reason_why w c).mono ?_
  rintro e wx ⟨rfl, hbx⟩
  have hbb := below_at hbx hb
  have c0 : wx.cell? ⟨b, 0, none⟩ = some x := cell_of_block hbb rfl
  have f0 : wx.frozen? ⟨b, 0, none⟩ = false := frozen_of_block hbb
  have hlt := lt_of_heap hb
  simp [go_sem, c0, f0, bodyPostS, results, Try.results22]
  exact ⟨(hbx.mono (Nat.le_of_lt hlt)).setCell (p := ⟨b, 0, none⟩) (Nat.le_refl _) _, (store1 hbb _).1⟩
set_option maxRecDepth 100000 in
set_option maxHeartbeats 1000000 in
theorem pt_idle (b : Nat) (x : Value) (w : World) (hb : w.heap[b]? = some (.cells #[x] 24 (0, 0))) :
    CallsD Try.prog 22 #[.pointer (some ⟨b, 0, none⟩)] .returning w fun e u' w' =>
      e = .returned (.tuple #[]) ∧ u' = .returning ∧ Only b w w' ∧ w'.heap[b]? = some (.cells #[.int .i64 0] 24 (0, 0)) := by
  refine callsD_of_wpS Try.func22 rfl fun c₀ cs hu => ?_
  apply wpS_region
  simp [wpOpsS, go_sem, recoverD, hu, Try.ntmps22, Exit.thenS]
  refine (reason_nil w).mono ?_
  rintro e wx ⟨rfl, hwx⟩
  subst hwx
  have c0 : wx.cell? ⟨b, 0, none⟩ = some x := cell_of_block hb rfl
  have f0 : wx.frozen? ⟨b, 0, none⟩ = false := frozen_of_block hb
  cases c₀
  simp_all [go_sem, c0, f0, bodyPostS, results, Try.results22]
  exact ⟨(Only.refl _ _).set _ _, (store1 hb _).1⟩
end Go.Proofs.Ytignjhmbajiphaa
