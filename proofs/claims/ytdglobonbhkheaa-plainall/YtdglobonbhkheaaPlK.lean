/-
  What a way and a part of it do, said of function values in memory.
-/
import Derived.Test.YtdglobonbhkheaaJ2
import Derived.Test.YtdglobonbhkheaaJ3
import Derived.Lib.AppendStr
namespace Go.Proofs.Ytdglobonbhkheaa
set_option linter.unusedVariables false
open Go.ChangeShapes Go.WideShapes Go.ChangeAt Go.RowKit

/-- calling the function enters it -/
def Ent (f : FuncId) : Prop := ∀ args W, (callFunc f args).run Try.prog W = .ok (.enter f args) W
/-- the bytes of a slice -/
structure Byt (w : World) (a : Option Addr) (len cap : Nat) (bs : List Nat) : Prop where
  src : Src w a len cap (c8 bs)
  lt : ∀ x ∈ bs, x < 256
  most : len ≤ 1048576
  room : len ≤ cap
theorem Byt.later {w w' : World} {a : Option Addr} {len cap : Nat} {bs : List Nat} (h : Byt w a len cap bs) (hb : Below w.heap.size w w') : Byt w' a len cap bs := ⟨h.src.later hb, h.lt, h.most, h.room⟩
theorem Byt.len {w : World} {a : Option Addr} {len cap : Nat} {bs : List Nat} (h : Byt w a len cap bs) : bs.length = len := by have := h.src.1; rwa [c8_len] at this

/-- a part: three function values -/
structure Part (w : World) (v : Value) (k z : Int) : Prop where
  ex : ∃ (f1 f2 f3 : FuncId) (b1 b2 b3 : Array Value), v = .agg #[.func (.func f1) #[] b1, .func (.func f2) #[] b2, .func (.func f3) #[] b3] ∧ Ent f1 ∧ Ent f2 ∧ Ent f3 ∧
    (∀ W, Below w.heap.size w W → ∀ d : Dat, d.s.size ≤ 1048576 → Calls Try.prog f1 (#[dval d] ++ b1) W fun e w' => e = .returned (.int .i64 (dsz k z d)) ∧ Below W.heap.size W w') ∧
    (∀ W, Below w.heap.size w W → ∀ (d : Dat) (base : Nat) (u : Value) (n : Nat) (xs : List Value), ofB d.k d.n d.s.size k z = true → W.ownsRow base 5 1 u n xs → w.heap.size ≤ base → base ≤ W.heap.size → n ≤ 1099511627776 →
      Calls Try.prog f2 (#[u, dval d] ++ b2) W fun e w' => ∃ u', e = .returned u' ∧ w'.ownsRow base 5 1 u' (n + (db d).length) (xs ++ c8 (db d)) ∧ Below base W w') ∧
    (∀ W, Below w.heap.size w W → ∀ (a : Option Addr) (len cap at_ : Nat) (bs : List Nat), Byt W a len cap bs → at_ ≤ len → Calls Try.prog f3 (#[.slice a len cap, .int .i64 at_] ++ b3) W fun e w' => ∃ d : Dat, e = .returned (.tuple #[dval d, .bool (front k z (bs.drop at_)).isSome]) ∧ (∀ d', front k z (bs.drop at_) = some d' → d = d') ∧ Below W.heap.size W w')
theorem Part.later {w w' : World} {v : Value} {k z : Int} (h : Part w v k z) (hb : Below w.heap.size w w') : Part w' v k z := by
  obtain ⟨f1, f2, f3, b1, b2, b3, rfl, e1, e2, e3, c1, c2, c3⟩ := h.ex
  exact ⟨f1, f2, f3, b1, b2, b3, rfl, e1, e2, e3, fun W hW => c1 W (hb.trans (hW.mono hb.size)), fun W hW d base u n xs h1 h2 h3 => c2 W (hb.trans (hW.mono hb.size)) d base u n xs h1 h2 (Nat.le_trans hb.size h3), fun W hW => c3 W (hb.trans (hW.mono hb.size))⟩
end Go.Proofs.Ytdglobonbhkheaa
