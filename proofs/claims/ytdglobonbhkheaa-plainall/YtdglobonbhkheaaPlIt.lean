/-
  The iterator over a row's values.
-/
import Derived.Test.YtdglobonbhkheaaJ2
import Derived.Test.YtdglobonbhkheaaPlK
import Derived.Test.YtdglobonbhkheaaBox
import Derived.Test.YtdglobonbhkheaaJ1
import Derived.RangeFuncNested
import Derived.RangeFuncBound
import Derived.RangeFuncCalls
import Derived.RangeFuncLeaves
import Derived.Shelf.Abstract
import Derived.WalkKit
import Derived.OwnWalkIn
import Derived.TacticsInMore
import Derived.LoopNIn
import Derived.LoopIn
namespace Go.Proofs.Ytdglobonbhkheaa
set_option linter.unusedVariables false
set_option linter.unusedSimpArgs false
open Go.RowKit Go.Shelf

attribute [local go_sem] Oper.semAt_some
set_option maxRecDepth 100000 in
set_option maxHeartbeats 4000000 in
theorem all1_in (n : Nat) (hn : 2 ≤ n) (l : Nat) (w0 : World) (p : Value) (k z : Int) (hp : Part w0 p k z) (hc : chkB k z = true) (h0 : k ≠ 0) (Bp Bb len cap : Nat) (a : Option Addr) (bs : List Nat) (hB : Byt w0 a len cap bs)
    (f1 f2 f3 : FuncId) (b1 b2 b3 : Array Value) (hpv : p = .agg #[.func (.func f1) #[] b1, .func (.func f2) #[] b2, .func (.func f3) #[] b3]) (X0 : Nat → Prop) (hX1 : X0 Bp) (hX2 : X0 Bb)
    (J : List (Nat × Dat) → (Nat → Prop) → World → Prop) (Jx : List (Nat × Dat) → World → Prop) (hJ : ∀ s X A C, J s X A → Below A.heap.size A C → J s (addX X A.heap.size C.heap.size) C)
    (hY : ∀ pre x X V, J pre X V → ((pre ++ [x]) <+: vals k z bs 0 ∧ x.1 + dsz k z x.2 ≤ len ∧ x.2.s.size ≤ len) → YieldAt Fence.wide (n - 1) Try.prog l #[.int .i64 ((x.1 : Nat) : Int), dval x.2] V fun e V' => (e = .returned (.bool true) ∧ J (pre ++ [x]) X V' ∧ Below w0.heap.size V V' ∧ ∀ b, X b → V'.heap[b]? = V.heap[b]?) ∨ (e = .returned (.bool false) ∧ Jx (pre ++ [x]) V'))
    (W : World) (hW : Below w0.heap.size w0 W) (hBp : W.heap[Bp]? = some (.cells #[.func (.func f1) #[] b1, .func (.func f2) #[] b2, .func (.func f3) #[] b3] 96 (0, 0))) (hBb : W.heap[Bb]? = some (.cells #[.slice a len cap] 27 (0, 0))) (h00 : J [] X0 W) :
    CallsIn Fence.wide n Try.prog 86 #[.func (.yield l) #[] #[], .pointer (some ⟨Bp, 0, none⟩), .pointer (some ⟨Bb, 0, none⟩)] W fun e W' => (∃ v, e = .returned v) ∧
      ((∃ ys X, ys = vals k z bs 0 ∧ J ys X W') ∨ (∃ pre, (pre <+: vals k z bs 0) ∧ Jx pre W')) := by
  obtain ⟨g1, g2, g3, c1, c2, c3, hpe, e1, e2, e3, k1, k2, k3⟩ := hp.ex
  rw [hpv] at hpe
  cases hpe
  clear k2
  unfold Ent at e1 e3
  have hbl := hB.len
  have hlen : (len : Int) ≤ 1048576 := by have := hB.most; omega
  refine callsIn_of_wp Try.func86 rfl trivial ?_ rfl
  simp only [Try.ntmps86, List.size_toArray, List.length_cons, List.length_nil, Nat.reduceAdd, Nat.reduceSub, Array.replicate_succ, Array.replicate_zero, List.push_toArray, List.append_toArray, List.nil_append, List.cons_append]
  gi_wp2
  gi_loopw [4] (fun c wr => ∃ (p : Nat) (pre : List (Nat × Dat)) (X : Nat → Prop), p ≤ len ∧ c = .int .i64 (p : Int) ∧ pre ++ vals k z bs p = vals k z bs 0 ∧ pre.length ≤ p ∧ J pre X wr ∧ Below w0.heap.size w0 wr ∧ (wr.heap[Bp]? = some (.cells #[.func (.func f1) #[] b1, .func (.func f2) #[] b2, .func (.func f3) #[] b3] 96 (0, 0)) ∧ X Bp) ∧ (wr.heap[Bb]? = some (.cells #[.slice a len cap] 27 (0, 0)) ∧ X Bb))
    (fun c _ => len - (intOf c).toNat)
  case atStart => exact ⟨0, [], _, Nat.zero_le _, rfl, rfl, Nat.le_refl _, h00, hW, ⟨hBp, hX1⟩, ⟨hBb, hX2⟩⟩
  case round =>
    obtain ⟨p, pre, X, hpl, rfl, hpre, hplen, hJp, hbw, ⟨hBpr, hXp⟩, ⟨hBbr, hXb⟩⟩ := hrel
    have T := k3 wr hbw a len cap p bs (hB.later hbw) hpl
    obtain ⟨⟨x0, x1, x2⟩, _⟩ := blk3 hBpr
    have xb := cell_of_block hBbr (j := 0) rfl
    gi_wp2
    refine ⟨trivial, fun _ => by omega, (callsIn_wide.2 T).mono ?_⟩
    rintro e W2 ⟨d, rfl, hd, hb2⟩
    have hbw2 := hbw.trans (hb2.mono hbw.size)
    have hJ2 := hJ _ _ _ _ hJp hb2
    have hab := alloc_below W2 (.cells #[.int .i64 d.k, .int .i64 d.n, .string d.s] 48 (0, 0))
    have hbw3 := hbw2.trans (hab.mono hbw2.size)
    have hJ3 := hJ _ _ _ _ hJ2 hab
    have hxd := heap_new W2 (.cells #[.int .i64 d.k, .int .i64 d.n, .string d.s] 48 (0, 0))
    cases hf : front k z (bs.drop p) with
    | none =>
      have HE : Hid (vals k z bs 0 = pre) := by show _ = _; rw [← hpre, vals_none (by omega) hf, List.append_nil]
      simp only [hf, Option.isSome_none, dval]
      clear T hd hf hpre
      gi_wp2
      refine ⟨fun f h => (by cases h), ?_⟩
      gi_wp2
      refine bodyPost_ret (results_none rfl _ _ _) rfl ?_
      exact ⟨⟨_, rfl⟩, .inl ⟨_, _, HE.out.symm, hJ3⟩⟩
    | some d' =>
      obtain rfl := hd d' hf
      obtain ⟨hz1, hz2, hz3⟩ := front_size hc h0 hf
      simp only [List.length_drop] at hz2 hz3
      have HN : Hid (pre ++ [(p, d)] ++ vals k z bs (p + dsz k z d) = vals k z bs 0) := by show _ = _; rw [← hpre, vals_some hc h0 (by omega) hf]; simp
      have hsd : d.s.size ≤ 1048576 := by omega
      have hX3 : addX (addX X wr.heap.size W2.heap.size) W2.heap.size (W2.alloc (.cells #[.int .i64 d.k, .int .i64 d.n, .string d.s] 48 (0, 0))).heap.size W2.heap.size := .inr ⟨Nat.le_refl _, by simp⟩
      have YY := hY pre (p, d) _ _ hJ3 ⟨⟨_, HN.out⟩, by show p + dsz k z d ≤ len; omega, by show d.s.size ≤ len; omega⟩
      have hXp3 : addX (addX X wr.heap.size W2.heap.size) W2.heap.size (W2.alloc (.cells #[.int .i64 d.k, .int .i64 d.n, .string d.s] 48 (0, 0))).heap.size Bp := .inl (.inl hXp)
      have hXb3 : addX (addX X wr.heap.size W2.heap.size) W2.heap.size (W2.alloc (.cells #[.int .i64 d.k, .int .i64 d.n, .string d.s] 48 (0, 0))).heap.size Bb := .inl (.inl hXb)
      generalize addX (addX X wr.heap.size W2.heap.size) W2.heap.size (W2.alloc (.cells #[.int .i64 d.k, .int .i64 d.n, .string d.s] 48 (0, 0))).heap.size = X3 at *
      simp only [hf, Option.isSome_some, dval] at YY ⊢
      clear T hd hf hpre hJp hJ2
      obtain ⟨fn, tmps, assign, body, hy, hR⟩ := YY
      gi_wp2
      refine ⟨fun _ => by omega, hR.mono ?_⟩
      rintro e W3 (⟨rfl, hJ4, hb4, hX4⟩ | ⟨rfl, hJx⟩)
      · have hbw4 := hbw3.trans hb4
        have S := k1 W3 hbw4 d hsd
        have hBp4 := (hX4 _ hXp3).trans (below_at hab (below_at hb2 hBpr))
        have hBb4 := (hX4 _ hXb3).trans (below_at hab (below_at hb2 hBbr))
        obtain ⟨⟨x0', x1', x2'⟩, _⟩ := blk3 hBp4
        obtain ⟨⟨y0, y1, y2⟩, _⟩ := blk3 (show W3.heap[W2.heap.size]? = some _ from (hX4 _ hX3).trans hxd)
        have hHX : Hid (pre.length ≤ p) := hplen
        simp only [dval] at S
        generalize dsz k z d = s at *
        have hs' : (s : Int) ≤ 1048576 := by omega
        clear hb4 hR hy hJ3 hX4 hX3 hxd x1' x2' hplen
        gi_wp2
        refine ⟨trivial, fun _ => by omega, (callsIn_wide.2 S).mono ?_⟩
        rintro e W5 ⟨rfl, hb5⟩
        have hJ5 := hJ _ _ _ _ hJ4 hb5
        have hbw5 := hbw4.trans (hb5.mono hbw4.size)
        have HP5 : Hid _ := below_at hb5 hBp4
        have HB5 : Hid _ := below_at hb5 hBb4
        clear hJ4 S hb5 hBp4 hBb4
        gi_wp2
        go_roundw
        case rel => exact ⟨p + s, pre ++ [(p, d)], _, by omega, by go_num, HN.out, by have := hHX.out; simp; omega, hJ5, hbw5, ⟨HP5.out, .inl hXp3⟩, ⟨HB5.out, .inl hXb3⟩⟩
        case measure => simp [intOf]; omega
      · have HP : Hid ((pre ++ [(p, d)]) <+: vals k z bs 0) := ⟨_, HN.out⟩
        gi_wp2
        refine bodyPost_ret (results_none rfl _ _ _) rfl ?_
        exact ⟨⟨_, rfl⟩, .inr ⟨_, HP.out, hJx⟩⟩
/-- the iterator of a row -/
theorem all1_seq (n : Nat) (hn : 2 ≤ n) (w0 : World) (p : Value) (k z : Int) (hp : Part w0 p k z) (hc : chkB k z = true) (h0 : k ≠ 0) (Bp Bb len cap : Nat) (a : Option Addr) (bs : List Nat) (hB : Byt w0 a len cap bs)
    (f1 f2 f3 : FuncId) (b1 b2 b3 : Array Value) (hpv : p = .agg #[.func (.func f1) #[] b1, .func (.func f2) #[] b2, .func (.func f3) #[] b3]) :
    SeqD n Try.prog 86 #[.pointer (some ⟨Bp, 0, none⟩), .pointer (some ⟨Bb, 0, none⟩)] (fun x : Nat × Dat => #[.int .i64 ((x.1 : Nat) : Int), dval x.2]) (fun ys => ys = vals k z bs 0) (fun pre => pre <+: vals k z bs 0) (fun pre x => (pre ++ [x]) <+: vals k z bs 0 ∧ x.1 + dsz k z x.2 ≤ len ∧ x.2.s.size ≤ len) (fun b => b = Bp ∨ b = Bb) (fun W => W.heap[Bp]? = some (.cells #[.func (.func f1) #[] b1, .func (.func f2) #[] b2, .func (.func f3) #[] b3] 96 (0, 0)) ∧ W.heap[Bb]? = some (.cells #[.slice a len cap] 27 (0, 0))) w0 :=
  fun l J Jx W hW hP hJ hY h00 => all1_in n hn l w0 p k z hp hc h0 Bp Bb len cap a bs hB f1 f2 f3 b1 b2 b3 hpv _ (.inl rfl) (.inr rfl) J Jx (fun s X A C h hb => hJ s X A C h (Chg.of_below hb)) hY W hW hP.1 hP.2 h00
end Go.Proofs.Ytdglobonbhkheaa
