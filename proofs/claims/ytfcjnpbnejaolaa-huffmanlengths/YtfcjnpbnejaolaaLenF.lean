/-
  slices.Backward over the steps, and huffman.Lengths.
-/
import Derived.Test.YtfcjnpbnejaolaaLenE
import Derived.Test.YtfcjnpbnejaolaaRnd
namespace Go.Proofs.Ytfcjnpbnejaolaa
set_option linter.unusedVariables false
set_option linter.unusedSimpArgs false
open Go.RowKit Go.Shelf

attribute [local go_sem] Oper.semAt_some

/-- a step's number and its packages -/
abbrev Bk (vs : List Value) := { x : Nat × Value // vs[x.1]? = some x.2 }
/-- the blocks of the steps stand -/
def Kq (R Bs : Nat) (vs : List Value) (sl : Value) (A C : World) : Prop := (SVec A R vs → SVec C R vs) ∧ (Boxed A Bs 45 sl → Boxed C Bs 45 sl)
set_option maxRecDepth 100000 in
set_option maxHeartbeats 2000000 in
theorem back1_in (n : Nat) (hn : 1 ≤ n) (l Bs R limit : Nat) (vs : List Value) (hl : vs.length = limit) (hlim : limit ≤ 15) (J Jx : List (Bk vs) → World → Prop) (W : World)
    (hY : ∀ pre x V, J pre V → x.1.1 + pre.length + 1 = limit → YieldAt Fence.wide (n - 1) Try.prog l #[.int .i64 ((x.1.1 : Nat) : Int), x.1.2] V fun e V' =>
      (e = .returned (.bool true) ∧ J (pre ++ [x]) V' ∧ Kq R Bs vs (.slice (some ⟨R, 0, none⟩) limit limit) V V') ∨ (e = .returned (.bool false) ∧ Jx (pre ++ [x]) V'))
    (hBs : Boxed W Bs 45 (.slice (some ⟨R, 0, none⟩) limit limit)) (hv : SVec W R vs) (h0 : J [] W) :
    CallsIn Fence.wide n Try.prog 32 #[.func (.yield l) #[] #[], .pointer (some ⟨Bs, 0, none⟩)] W fun e W' => (∃ v, e = .returned v) ∧
      ((∃ ys : List (Bk vs), ys.length = limit ∧ J ys W') ∨ (∃ pre, True ∧ Jx pre W')) := by
  have hlim' : (limit : Int) ≤ 15 := by omega
  have c1 := hBs.cell
  have HL : Hid (vs.length = limit) := hl
  clear hl
  refine callsIn_of_wp Try.func32 rfl trivial ?_ rfl
  simp only [Try.ntmps32, List.size_toArray, List.length_cons, List.length_nil, Nat.reduceAdd, Nat.reduceSub, Array.replicate_succ, Array.replicate_zero, List.push_toArray, List.append_toArray, List.nil_append, List.cons_append]
  gi_wp2
  gi_loopw [3] (fun c wr => ∃ k : Nat, k ≤ limit ∧ c = .int .i64 ((k : Int) - 1) ∧ (∃ pre : List (Bk vs), pre.length + k = limit ∧ J pre wr) ∧ Boxed wr Bs 45 (.slice (some ⟨R, 0, none⟩) limit limit) ∧ SVec wr R vs) (fun c _ => (intOf c + 1).toNat)
  case atStart => exact ⟨limit, Nat.le_refl _, rfl, ⟨[], by simp, h0⟩, hBs, hv⟩
  case round =>
    obtain ⟨k, hk, rfl, ⟨pre, hp, hJ⟩, hB, hV⟩ := hrel
    clear c1 hBs hv
    by_cases hlt : 0 < k
    · obtain ⟨i, hi⟩ : ∃ i, i = k - 1 := ⟨_, rfl⟩
      have hki : (k : Int) - 1 = (i : Int) := by omega
      have hil : (i : Int) < (limit : Int) := by omega
      have HI : Hid (i + 1 = k) := by show _ = _; omega
      obtain ⟨u, hu⟩ : ∃ u, vs[i]? = some u := ⟨vs[i]'(by rw [HL.out]; omega), List.getElem?_eq_getElem _⟩
      have c1 := hB.cell
      have c2 := hV.cell hu
      obtain ⟨fn, tmps, assign, body, hy, hR⟩ := hY pre ⟨(i, u), hu⟩ wr hJ (by simp only; omega)
      rw [hki]
      have HP : Hid (pre.length + k = limit) := hp
      clear hi hp hki
      gi_wp2
      refine hR.mono ?_
      rintro e V3 (⟨rfl, hJ3, hk3⟩ | ⟨rfl, hJx3⟩)
      · gi_wp2
        go_roundw
        case rel => exact ⟨i, by have := HI.out; omega, rfl, ⟨_, by rw [List.length_append, List.length_singleton]; have := HI.out; have := HP.out; omega, hJ3⟩, hk3.2 hB, hk3.1 hV⟩
        case measure => have := HI.out; simp [intOf]
      · gi_wp2
        refine bodyPost_ret (results_none rfl _ _ _) rfl ?_
        exact ⟨⟨_, rfl⟩, .inr ⟨_, trivial, hJx3⟩⟩
    · have hk0 : k = 0 := by omega
      subst hk0
      gi_wp2
      go_end0
      exact ⟨⟨_, rfl⟩, .inl ⟨pre, by omega, hJ⟩⟩

theorem back_seq (n : Nat) (hn : 1 ≤ n) (Bs R limit : Nat) (vs : List Value) (hl : vs.length = limit) (hlim : limit ≤ 15) (w : World) (hBs : Boxed w Bs 45 (.slice (some ⟨R, 0, none⟩) limit limit)) (hv : SVec w R vs) :
    SeqC n Try.prog 32 #[.pointer (some ⟨Bs, 0, none⟩)] (fun x : Bk vs => #[.int .i64 ((x.1.1 : Nat) : Int), x.1.2]) (Kq R Bs vs (.slice (some ⟨R, 0, none⟩) limit limit)) (fun ys => ys.length = limit) (fun pre => True) (fun pre x => x.1.1 + pre.length + 1 = limit) w := fun l J Jx W hW hJs hY h0 =>
  back1_in n hn l Bs R limit vs hl hlim J Jx W hY (below_at hW hBs) (below_at hW hv) h0

set_option maxHeartbeats 1000000 in
theorem backward_any (v : Value) (w : World) (a : Option Addr) (len cap : Nat) (hv : v = .slice a len cap) :
    Calls Try.prog 21 #[v] w fun e w' => e = .returned (.func (.func 32) #[] #[.pointer (some ⟨w.heap.size, 0, none⟩)]) ∧ w' = w.alloc (.cells #[v] 45) := by
  subst hv
  go_enter Try.func21, Try.ntmps21
  go_wp2
  go_ret
  exact ⟨rfl, rfl⟩
end Go.Proofs.Ytfcjnpbnejaolaa
