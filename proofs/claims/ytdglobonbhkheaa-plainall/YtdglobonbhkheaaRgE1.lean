/-
  A range over a function whose assignment does nothing: the round begins in the range's own frame.
-/
import Derived.Test.YtdglobonbhkheaaJ1
namespace Go.Proofs.Ytdglobonbhkheaa
set_option linter.unusedVariables false
set_option linter.unusedSimpArgs false
open Go.RowKit Go.Shelf

theorem range_e1 {α : Type} {n : Nat} {P : Program} {g : Operand} {ps : Array Tmp} {assign body : Code} {Q : Exit → Act → World → Prop} {a : Act} {w : World} {w₀ : World}
    (hn : 1 ≤ n) {gf : Nat} {lb : Array Value} (hg : a.eval g = .func (.func gf) #[] lb) (eg : ∀ args w, (callFunc gf args).run P w = .ok (.enter gf args) w)
    {encs : α → Array Value} {S Sp : List α → Prop} {Nx : List α → α → Prop} {X0 : Nat → Prop} {Pre : World → Prop} (hseq : SeqE (n - 1) P gf lb encs S Sp Nx X0 Pre w₀) (hpre : ∀ V, Below w.heap.size w V → Pre V) (hb0 : Below w₀.heap.size w₀ w) (hps : ∀ x, (encs x).size = ps.size)
    (I : List α → (Nat → Prop) → World → Prop) (Ix : Code → List α → World → Prop) (hI : ∀ s X A C, I s X A → Chg w.heap.size X A C → I s (addX X A.heap.size C.heap.size) C)
    (hIx : ∀ c s W l o o', Ix c s W → w.heap.size ≤ l → W.heap[l]? = some o → o.isCells = false → Ix c s (W.putObj l o')) (hsub : ∀ s X X' A, I s X A → (∀ b, X' b → X b) → I s X' A) (hbd : ∀ s X A, I s X A → ∀ b, X b → b < A.heap.size) (h0 : I [] X0 w)
    (hassign : ∀ (l : Nat) (x : α) (W : World) (K : Act → World → Prop), K { tmps := (ps.zip (encs x)).foldl (fun t (p, v) => t.setIfInBounds p v) a.tmps, defers := [] } W →
      assign.wpIn (Fence.wide.inRound l) (n - 1 - 1) P (Exit.then K (fun _ _ _ => False)) { tmps := (ps.zip (encs x)).foldl (fun t (p, v) => t.setIfInBounds p v) a.tmps, defers := [] } W)
    (hbody : ∀ (pre : List α) (x : α) (X : Nat → Prop) (W : World), w.heap.size + 1 < W.heap.size → ¬ X w.heap.size → ¬ X (w.heap.size + 1) → I pre X W → Nx pre x → body.wpIn (Fence.wide.inRound (w.heap.size + 1)) (n - 1 - 1) P (ownPostE w₀.heap.size w.heap.size I Ix (pre ++ [x]) X W) { tmps := (ps.zip (encs x)).foldl (fun t (p, v) => t.setIfInBounds p v) a.tmps, defers := [] } W)
    (hdone : ∀ (D : Nat) (xs : List α) (X : Nat → Prop) (W : World), w.heap.size ≤ D → S xs → I xs X W → W.heap[D]? = some (.deferred (some [])) → Q .normal { a with defers := { target := .collected D, args := #[] } :: a.defers } W)
    (hstop : ∀ (D : Nat) (c : Code) (pre : List α) (W : World), w.heap.size ≤ D → Sp pre → Ix c pre W → W.heap[D]? = some (.deferred (some [])) → c.wpIn Fence.wide n P Q { a with defers := { target := .collected D, args := #[] } :: a.defers } W) :
    (Code.rangeFunc g ps assign body).wpIn Fence.wide n P Q a w :=
  range_e hn hg eg hseq hpre hb0 hps I Ix hI hIx hsub hbd h0
    (fun x X a1 W => a1 = { tmps := (ps.zip (encs x)).foldl (fun t (p, v) => t.setIfInBounds p v) a.tmps, defers := [] }) (fun x X a1 W l o o' h _ _ _ => h)
    (fun l pre x X W K hi hK => hassign l x W K (hK _ _ (Below.refl _ _) rfl))
    (fun pre x X a1 W h1 h2 h3 hi ha hN => by subst ha; exact hbody pre x X W h1 h2 h3 hi hN) hdone hstop
end Go.Proofs.Ytdglobonbhkheaa
