/-
  A range over a function: the iterator has blocks of its own (X), which no round touches; the rounds have theirs, which the iterator does not touch.
-/
import Derived.RangeFuncNested
import Derived.RangeFuncBound
import Derived.RangeFuncCalls
import Derived.RangeFuncLeaves
import Derived.Shelf.Abstract
import Derived.WalkKit
import Derived.OwnWalkIn
import Derived.TacticsInMore
import Derived.LoopNIn
import Derived.LoopIn
import Derived.Test.YtdglobonbhkheaaBase
namespace Go.Proofs.Ytdglobonbhkheaa
set_option linter.unusedVariables false
set_option linter.unusedSimpArgs false
open Go.RowKit Go.Shelf

/-- from A to C nothing has changed but blocks of X, and what is no row of cells from n on -/
structure Chg (n : Nat) (X : Nat → Prop) (A C : World) : Prop where
  os : C.os = A.os
  tape : C.tape = A.tape
  output : C.output = A.output
  size : A.heap.size ≤ C.heap.size
  same : ∀ b, b < A.heap.size → ¬ X b → (C.heap[b]? = A.heap[b]? ∨ (n ≤ b ∧ ∃ o, A.heap[b]? = some o ∧ o.isCells = false))
theorem Chg.mono {n m : Nat} {X : Nat → Prop} {A C : World} (h : Chg n X A C) (hm : m ≤ n) : Chg m X A C :=
  ⟨h.os, h.tape, h.output, h.size, fun b hb hx => (h.same b hb hx).imp id (fun ⟨h1, h2⟩ => ⟨Nat.le_trans hm h1, h2⟩)⟩
theorem Chg.of_below {n : Nat} {X : Nat → Prop} {A C : World} (h : Below A.heap.size A C) : Chg n X A C := ⟨h.os, h.tape, h.output, h.size, fun b hb _ => .inl (h.block b hb)⟩
theorem Chg.below {n : Nat} {X : Nat → Prop} {A C : World} (h : Chg n X A C) (hn : n ≤ A.heap.size) (hX : ∀ b, X b → n ≤ b) : Below n A C := by
  refine ⟨h.os, h.tape, h.output, h.size, fun b hb => ?_⟩
  rcases h.same b (by omega) (fun hx => by have := hX b hx; omega) with h1 | ⟨h1, _⟩
  · exact h1
  · omega
def addX (X : Nat → Prop) (a c : Nat) : Nat → Prop := fun k => X k ∨ (a ≤ k ∧ k < c)
theorem addX_self (X : Nat → Prop) (a : Nat) : addX X a a = X := by
  funext k
  apply propext
  constructor
  · rintro (h | h)
    · exact h
    · omega
  · exact .inl
theorem Chg.put {n l : Nat} {X : Nat → Prop} {W : World} {o : Obj} (o' : Obj) (hl : n ≤ l) (h : W.heap[l]? = some o) (ho : o.isCells = false) : Chg n X W (W.putObj l o') := by
  refine ⟨rfl, rfl, rfl, by simp, fun b hb _ => ?_⟩
  by_cases e : b = l
  · subst e
    exact .inr ⟨hl, o, h, ho⟩
  · exact .inl (World.putObj_heap_other (by omega))

/-- an iterator: what it hands on, in order, and which blocks are its own -/
def SeqD {α : Type} (n : Nat) (P : Program) (g : Nat) (lb : Array Value) (encs : α → Array Value) (S Sp : List α → Prop) (Nx : List α → α → Prop) (X0 : Nat → Prop) (Pre : World → Prop) (w : World) : Prop :=
  ∀ (l : Nat) (J : List α → (Nat → Prop) → World → Prop) (Jx : List α → World → Prop) (W : World), Below w.heap.size w W → Pre W →
    (∀ s X A C, J s X A → Chg W.heap.size X A C → J s (addX X A.heap.size C.heap.size) C) →
    (∀ pre x X V, J pre X V → Nx pre x → YieldAt Fence.wide (n - 1) P l (encs x) V fun e V' => (e = .returned (.bool true) ∧ J (pre ++ [x]) X V' ∧ Below w.heap.size V V' ∧ ∀ b, X b → V'.heap[b]? = V.heap[b]?) ∨ (e = .returned (.bool false) ∧ Jx (pre ++ [x]) V')) →
    J [] X0 W → CallsIn Fence.wide n P g (#[.func (.yield l) #[] #[]] ++ lb) W fun e W' => (∃ v, e = .returned v) ∧ ((∃ xs X, S xs ∧ J xs X W') ∨ ∃ pre, Sp pre ∧ Jx pre W')

/-- how a round may be left -/
def ownPostD {α : Type} (n₀ : Nat) (I : List α → (Nat → Prop) → World → Prop) (Ix : Code → List α → World → Prop) (xs : List α) (X : Nat → Prop) (W : World) : Exit → Act → World → Prop
  | .normal, _, W' => KeepsOthers W W' ∧ (Below n₀ W W' ∧ ∀ b, X b → W'.heap[b]? = W.heap[b]?) ∧ I xs X W'
  | .ret, _, W' => KeepsOthers W W' ∧ Ix .ret xs W'
  | .exit id, _, W' => KeepsOthers W W' ∧ Ix (.exit id) xs W'
  | .goto t, _, W' => KeepsOthers W W' ∧ Ix (.goto t) xs W'
  | .panic _, _, _ => False
  | .outgrown, _, _ => False

theorem put_keeps (W : World) (l : Nat) (o : Obj) {B : Nat} (h : B ≤ l) : Below B W (W.putObj l o) :=
  ⟨rfl, rfl, rfl, by simp, fun k hk => World.putObj_heap_other (by omega)⟩

theorem range_d {α : Type} {n : Nat} {P : Program} {g : Operand} {ps : Array Tmp} {assign body : Code} {Q : Exit → Act → World → Prop} {a : Act} {w : World} {w₀ : World}
    (hn : 1 ≤ n) {gf : Nat} {lb : Array Value} (hg : a.eval g = .func (.func gf) #[] lb) (eg : ∀ args w, (callFunc gf args).run P w = .ok (.enter gf args) w)
    {encs : α → Array Value} {S Sp : List α → Prop} {Nx : List α → α → Prop} {X0 : Nat → Prop} {Pre : World → Prop} (hseq : SeqD (n - 1) P gf lb encs S Sp Nx X0 Pre w₀) (hpre : ∀ V, Below w.heap.size w V → Pre V) (hb0 : Below w₀.heap.size w₀ w) (hps : ∀ x, (encs x).size = ps.size)
    (I : List α → (Nat → Prop) → World → Prop) (Ix : Code → List α → World → Prop) (hI : ∀ s X A C, I s X A → Chg w.heap.size X A C → I s (addX X A.heap.size C.heap.size) C)
    (hIx : ∀ c s W l o o', Ix c s W → w.heap.size ≤ l → W.heap[l]? = some o → o.isCells = false → Ix c s (W.putObj l o')) (hsub : ∀ s X X' A, I s X A → (∀ b, X' b → X b) → I s X' A) (hbd : ∀ s X A, I s X A → ∀ b, X b → b < A.heap.size) (h0 : I [] X0 w)
    (A1 : α → (Nat → Prop) → Act → World → Prop) (hA1 : ∀ x X a1 W l o o', A1 x X a1 W → w.heap.size ≤ l → W.heap[l]? = some o → o.isCells = false → A1 x X a1 (W.putObj l o'))
    (hassign : ∀ (l : Nat) (pre : List α) (x : α) (X : Nat → Prop) (W : World) (K : Act → World → Prop), I pre X W → (∀ a1 W1, Below W.heap.size W W1 → A1 x X a1 W1 → K a1 W1) →
      assign.wpIn (Fence.wide.inRound l) (n - 1 - 1) P (Exit.then K (fun _ _ _ => False)) { tmps := (ps.zip (encs x)).foldl (fun t (p, v) => t.setIfInBounds p v) a.tmps, defers := [] } W)
    (hbody : ∀ (l : Nat) (pre : List α) (x : α) (X : Nat → Prop) (a1 : Act) (W : World), I pre X W → A1 x X a1 W → Nx pre x → body.wpIn (Fence.wide.inRound l) (n - 1 - 1) P (ownPostD w₀.heap.size I Ix (pre ++ [x]) X W) a1 W)
    (hdone : ∀ (D : Nat) (xs : List α) (X : Nat → Prop) (W : World), w.heap.size ≤ D → S xs → I xs X W → W.heap[D]? = some (.deferred (some [])) → Q .normal { a with defers := { target := .collected D, args := #[] } :: a.defers } W)
    (hstop : ∀ (D : Nat) (c : Code) (pre : List α) (W : World), w.heap.size ≤ D → Sp pre → Ix c pre W → W.heap[D]? = some (.deferred (some [])) → c.wpIn Fence.wide n P Q { a with defers := { target := .collected D, args := #[] } :: a.defers } W) :
    (Code.rangeFunc g ps assign body).wpIn Fence.wide n P Q a w := by
  refine wpIn_rangeFunc fun fn hfn => ?_
  let rc : LoopState → Option Code → Loop := fun st j => { state := st, pending := j, fn := fn, tmps := a.tmps, params := ps, assign := assign, body := body, defers := w.heap.size }
  obtain ⟨V, hV⟩ : ∃ V, V = (w.alloc (.deferred (some []))).alloc (.loop (rc .ready none)) := ⟨_, rfl⟩
  have sV : V.heap.size = w.heap.size + 2 := by rw [hV]; simp
  have bV : Below w.heap.size w V := by rw [hV]; exact ((Below.refl _ w).alloc (Nat.le_refl _) _).alloc (by simp) _
  have rV : V.heap[w.heap.size + 1]? = some (.loop (rc .ready none)) := by
    have h := World.alloc_heap_new (w.alloc (.deferred (some []))) (.loop (rc .ready none))
    rw [World.size_alloc] at h
    rw [hV]
    exact h
  have dV : V.heap[w.heap.size]? = some (.deferred (some [])) := by
    rw [hV]
    exact (Below.heap_alloc _ _ _ (by simp)).trans (World.alloc_heap_new w _)
  -- the range's own two blocks are nobody's
  have put : ∀ {s : List α} {X : Nat → Prop} {W : World} {l : Nat} {o : Obj} (o' : Obj), I s X W → w.heap.size ≤ l → W.heap[l]? = some o → o.isCells = false → I s X (W.putObj l o') := by
    intro s X W l o o' hi hl ho hc
    have h := hI s X W (W.putObj l o') hi (Chg.put o' hl ho hc)
    have e : (W.putObj l o').heap.size = W.heap.size := by simp
    rw [e, addX_self] at h
    exact h
  have iV : I [] X0 V := hsub _ _ _ _ (hI [] _ w V h0 (Chg.of_below bV)) (fun b h => .inl h)
  refine ⟨w.heap.size + 1, [{ target := .collected w.heap.size, args := #[] }], V, { target := .fn (.func gf) lb, args := #[.func (.yield (w.heap.size + 1)) #[] #[]] }, V, gf, #[.func (.yield (w.heap.size + 1)) #[] #[]] ++ lb, V, ?_, ?_, ?_, ?_, fun _ => hn, ?_⟩
  · rw [hV]; exact run_enterLoop_outer _ _ _ _ _
  · simp only [resolve, hg]; simp [go_sem]
  · intro f' _; trivial
  · simp [invoke, go_sem, eg]
  refine (hseq (w.heap.size + 1) (fun pre X W => I pre X W ∧ W.heap[w.heap.size + 1]? = some (.loop (rc .ready none)) ∧ W.heap[w.heap.size]? = some (.deferred (some [])) ∧ ¬ X (w.heap.size + 1) ∧ ¬ X w.heap.size)
    (fun pre W => ∃ c, Ix c pre W ∧ W.heap[w.heap.size + 1]? = some (.loop (rc .done (some c))) ∧ W.heap[w.heap.size]? = some (.deferred (some []))) V (hb0.trans (bV.mono hb0.size)) (hpre V bV) ?_ ?_ ⟨iV, rV, dV, fun h => by have := hbd _ _ _ h0 _ h; omega, fun h => by have := hbd _ _ _ h0 _ h; omega⟩).mono ?_
  · rintro s X A C ⟨x1, x2, x3, x4, x5⟩ hb
    have l1 : w.heap.size + 1 < A.heap.size := (Array.getElem?_eq_some_iff.1 x2).1
    refine ⟨hI _ _ _ _ x1 (hb.mono (by omega)), ?_, ?_, ?_, ?_⟩
    · rcases hb.same (w.heap.size + 1) l1 x4 with h | ⟨h, _⟩
      · exact h.trans x2
      · omega
    · rcases hb.same w.heap.size (by omega) x5 with h | ⟨h, _⟩
      · exact h.trans x3
      · omega
    · rintro (h | h)
      · exact x4 h
      · omega
    · rintro (h | h)
      · exact x5 h
      · omega
  · rintro pre x X W0 ⟨i1', i2', i3', i4, i5⟩ hl
    have ly := run_yield (P := P) (args := encs x) i2' (hps x)
    refine ⟨fn, _, assign, body, ly, roundIn_of_wpIn hfn (hassign _ pre x X W0 _ i1' (fun a1 W hbW ha1 => ?_))⟩
    have lt' : w.heap.size + 1 < W0.heap.size := (Array.getElem?_eq_some_iff.1 i2').1
    have i2 : W.heap[w.heap.size + 1]? = some (.loop (rc .ready none)) := (hbW.block _ lt').trans i2'
    have i3 : W.heap[w.heap.size]? = some (.deferred (some [])) := (hbW.block _ (by omega)).trans i3'
    have i1 : I pre X W := hsub _ _ _ _ (hI _ _ _ _ i1' (Chg.of_below hbW)) (fun b hb => .inl hb)
    have xW : ∀ b, X b → W.heap[b]? = W0.heap[b]? := fun b hb => hbW.block b (hbd _ _ _ i1' b hb)
    refine ⟨_, run_beginRound i2 rfl, ?_⟩
    have lt : w.heap.size + 1 < W.heap.size := (Array.getElem?_eq_some_iff.1 i2).1
    obtain ⟨Z, hZ⟩ : ∃ Z, Z = W.putObj (w.heap.size + 1) (.loop { rc .ready none with state := .busy }) := ⟨_, rfl⟩
    have rZ : Z.heap[w.heap.size + 1]? = some (.loop { rc .ready none with state := .busy }) := by rw [hZ]; exact World.putObj_heap_same lt
    have dZ : Z.heap[w.heap.size]? = some (.deferred (some [])) := by rw [hZ]; exact (World.putObj_heap_other (by omega)).trans i3
    have kZ : Below w₀.heap.size W0 Z := (hbW.mono (by have := hb0.size; omega)).trans (by rw [hZ]; exact put_keeps _ _ _ (by have := hb0.size; omega))
    have xZ : ∀ b, X b → Z.heap[b]? = W0.heap[b]? := by
      intro b hb
      rw [hZ, ← xW b hb]
      exact World.putObj_heap_other (by intro e; apply i4; first | (rw [e]; exact hb) | (rw [← e]; exact hb))
    have iZ : I pre X Z := by rw [hZ]; exact put _ i1 (by omega) i2 rfl
    have aZ : A1 x X a1 Z := by rw [hZ]; exact hA1 _ _ _ _ _ _ _ ha1 (by omega) i2 rfl
    rw [← hZ]
    refine wpIn_mono (hbody _ pre x X a1 Z iZ aZ hl) ?_
    have fin : ∀ (jump : Option Code) (Y : World), KeepsOthers Z Y → (Instr.endRound (w.heap.size + 1) jump).run P Y = .ok (.bool jump.isNone) (Y.putObj (w.heap.size + 1) (.loop (rc (if jump.isNone then .ready else .done) jump))) ∧
        (Y.putObj (w.heap.size + 1) (.loop (rc (if jump.isNone then .ready else .done) jump))).heap[w.heap.size + 1]? = some (.loop (rc (if jump.isNone then .ready else .done) jump)) ∧
        (Y.putObj (w.heap.size + 1) (.loop (rc (if jump.isNone then .ready else .done) jump))).heap[w.heap.size]? = some (.deferred (some [])) ∧ Y.heap[w.heap.size + 1]? = some (.loop { rc .ready none with state := .busy }) := by
      intro jump Y hk
      have y1 := hk.same _ _ rZ rfl
      exact ⟨run_endRound jump y1, World.putObj_heap_same (Array.getElem?_eq_some_iff.1 y1).1, (World.putObj_heap_other (by omega)).trans (hk.same _ _ dZ rfl), y1⟩
    intro e aa Y hp
    cases e with
    | normal =>
      obtain ⟨p1, ⟨p2, p4⟩, p3⟩ := hp
      obtain ⟨f1, f2, f3, f4⟩ := fin none Y p1
      refine ⟨_, _, f1, .inl ⟨rfl, ⟨put _ p3 (by omega) f4 rfl, f2, f3, i4, i5⟩, (kZ.trans p2).trans (put_keeps _ _ _ (by have := hb0.size; omega)), fun b hb => ?_⟩⟩
      rw [World.putObj_heap_other (by intro e; apply i4; first | (rw [e]; exact hb) | (rw [← e]; exact hb)), p4 b hb, xZ b hb]
    | ret =>
      obtain ⟨f1, f2, f3, f4⟩ := fin (some .ret) Y hp.1
      exact ⟨_, _, f1, .inr ⟨rfl, .ret, hIx _ _ _ _ _ _ hp.2 (by omega) f4 rfl, f2, f3⟩⟩
    | exit id =>
      obtain ⟨f1, f2, f3, f4⟩ := fin (some (.exit id)) Y hp.1
      exact ⟨_, _, f1, .inr ⟨rfl, .exit id, hIx _ _ _ _ _ _ hp.2 (by omega) f4 rfl, f2, f3⟩⟩
    | goto t =>
      obtain ⟨f1, f2, f3, f4⟩ := fin (some (.goto t)) Y hp.1
      exact ⟨_, _, f1, .inr ⟨rfl, .goto t, hIx _ _ _ _ _ _ hp.2 (by omega) f4 rfl, f2, f3⟩⟩
    | panic ch => exact hp.elim
    | outgrown => exact hp.elim
  · rintro e Y ⟨⟨v, rfl⟩, ⟨xs, X, hS, i1, i2, i3, _⟩ | ⟨pre, hS, c, i1, i2, i3⟩⟩
    · exact ⟨none, _, run_endLoop i2 (by simp [rc]), hdone _ xs X _ (Nat.le_refl _) hS (put _ i1 (by omega) i2 rfl) ((World.putObj_heap_other (by omega)).trans i3)⟩
    · exact ⟨some c, _, run_endLoop i2 (by simp [rc]), hstop _ c pre _ (Nat.le_refl _) hS (hIx _ _ _ _ _ _ i1 (by omega) i2 rfl) ((World.putObj_heap_other (by omega)).trans i3)⟩
end Go.Proofs.Ytdglobonbhkheaa

/-
  A range over a function whose rounds call on: what a round keeps is told also where it leaves (so an iterator may range over another one).
-/
namespace Go.Proofs.Ytdglobonbhkheaa
set_option linter.unusedVariables false
set_option linter.unusedSimpArgs false
open Go.RowKit Go.Shelf

/-- an iterator: what it hands on, in order, and which blocks are its own; a round that leaves keeps them too -/
def SeqE {α : Type} (n : Nat) (P : Program) (g : Nat) (lb : Array Value) (encs : α → Array Value) (S Sp : List α → Prop) (Nx : List α → α → Prop) (X0 : Nat → Prop) (Pre : World → Prop) (w : World) : Prop :=
  ∀ (l : Nat) (J : List α → (Nat → Prop) → World → Prop) (Jx : List α → World → Prop) (W : World), Below w.heap.size w W → Pre W →
    (∀ s X A C, J s X A → Chg W.heap.size X A C → J s (addX X A.heap.size C.heap.size) C) →
    (∀ s A b o o', Jx s A → W.heap.size ≤ b → A.heap[b]? = some o → o.isCells = false → Jx s (A.putObj b o')) →
    (∀ pre x X V, J pre X V → Nx pre x → YieldAt Fence.wide (n - 1) P l (encs x) V fun e V' => (e = .returned (.bool true) ∧ J (pre ++ [x]) X V' ∧ Below w.heap.size V V' ∧ ∀ b, X b → V'.heap[b]? = V.heap[b]?) ∨ (e = .returned (.bool false) ∧ Jx (pre ++ [x]) V' ∧ Below w.heap.size V V' ∧ ∀ b, X b → V'.heap[b]? = V.heap[b]?)) →
    J [] X0 W → CallsIn Fence.wide n P g (#[.func (.yield l) #[] #[]] ++ lb) W fun e W' => (∃ v, e = .returned v) ∧ ((∃ xs X, S xs ∧ J xs X W') ∨ ∃ pre, Sp pre ∧ Jx pre W')

theorem seqE_of_seqD {α : Type} {n : Nat} {P : Program} {g : Nat} {lb : Array Value} {encs : α → Array Value} {S Sp : List α → Prop} {Nx : List α → α → Prop} {X0 : Nat → Prop} {Pre : World → Prop} {w : World} (h : SeqD n P g lb encs S Sp Nx X0 Pre w) : SeqE n P g lb encs S Sp Nx X0 Pre w :=
  fun l J Jx W hW hP hJ _ hY h0 => h l J Jx W hW hP hJ (fun pre x X V hJp hN => by
    obtain ⟨fn, tmps, assign, body, hy, hR⟩ := hY pre x X V hJp hN
    exact ⟨fn, tmps, assign, body, hy, hR.mono fun e V' he => by
      rcases he with he | ⟨e1, e2, _⟩
      · exact .inl he
      · exact .inr ⟨e1, e2⟩⟩) h0
/-- what a round keeps: what lay in n₀, the iterator's blocks, the range's own two -/
structure Stay (n₀ D : Nat) (X : Nat → Prop) (W W' : World) : Prop where
  bel : Below n₀ W W'
  own : ∀ b, X b → W'.heap[b]? = W.heap[b]?
  dfr : W'.heap[D]? = W.heap[D]?
  rcd : W'.heap[D + 1]? = W.heap[D + 1]?
/-- how a round may be left -/
def ownPostE {α : Type} (n₀ D : Nat) (I : List α → (Nat → Prop) → World → Prop) (Ix : Code → List α → World → Prop) (xs : List α) (X : Nat → Prop) (W : World) : Exit → Act → World → Prop
  | .normal, _, W' => Stay n₀ D X W W' ∧ I xs X W'
  | .ret, _, W' => Stay n₀ D X W W' ∧ Ix .ret xs W'
  | .exit id, _, W' => Stay n₀ D X W W' ∧ Ix (.exit id) xs W'
  | .goto t, _, W' => Stay n₀ D X W W' ∧ Ix (.goto t) xs W'
  | .panic _, _, _ => False
  | .outgrown, _, _ => False

theorem range_e {α : Type} {n : Nat} {P : Program} {g : Operand} {ps : Array Tmp} {assign body : Code} {Q : Exit → Act → World → Prop} {a : Act} {w : World} {w₀ : World}
    (hn : 1 ≤ n) {gf : Nat} {lb : Array Value} (hg : a.eval g = .func (.func gf) #[] lb) (eg : ∀ args w, (callFunc gf args).run P w = .ok (.enter gf args) w)
    {encs : α → Array Value} {S Sp : List α → Prop} {Nx : List α → α → Prop} {X0 : Nat → Prop} {Pre : World → Prop} (hseq : SeqE (n - 1) P gf lb encs S Sp Nx X0 Pre w₀) (hpre : ∀ V, Below w.heap.size w V → Pre V) (hb0 : Below w₀.heap.size w₀ w) (hps : ∀ x, (encs x).size = ps.size)
    (I : List α → (Nat → Prop) → World → Prop) (Ix : Code → List α → World → Prop) (hI : ∀ s X A C, I s X A → Chg w.heap.size X A C → I s (addX X A.heap.size C.heap.size) C)
    (hIx : ∀ c s W l o o', Ix c s W → w.heap.size ≤ l → W.heap[l]? = some o → o.isCells = false → Ix c s (W.putObj l o')) (hsub : ∀ s X X' A, I s X A → (∀ b, X' b → X b) → I s X' A) (hbd : ∀ s X A, I s X A → ∀ b, X b → b < A.heap.size) (h0 : I [] X0 w)
    (A1 : α → (Nat → Prop) → Act → World → Prop) (hA1 : ∀ x X a1 W l o o', A1 x X a1 W → w.heap.size ≤ l → W.heap[l]? = some o → o.isCells = false → A1 x X a1 (W.putObj l o'))
    (hassign : ∀ (l : Nat) (pre : List α) (x : α) (X : Nat → Prop) (W : World) (K : Act → World → Prop), I pre X W → (∀ a1 W1, Below W.heap.size W W1 → A1 x X a1 W1 → K a1 W1) →
      assign.wpIn (Fence.wide.inRound l) (n - 1 - 1) P (Exit.then K (fun _ _ _ => False)) { tmps := (ps.zip (encs x)).foldl (fun t (p, v) => t.setIfInBounds p v) a.tmps, defers := [] } W)
    (hbody : ∀ (pre : List α) (x : α) (X : Nat → Prop) (a1 : Act) (W : World), w.heap.size + 1 < W.heap.size → ¬ X w.heap.size → ¬ X (w.heap.size + 1) → I pre X W → A1 x X a1 W → Nx pre x → body.wpIn (Fence.wide.inRound (w.heap.size + 1)) (n - 1 - 1) P (ownPostE w₀.heap.size w.heap.size I Ix (pre ++ [x]) X W) a1 W)
    (hdone : ∀ (D : Nat) (xs : List α) (X : Nat → Prop) (W : World), w.heap.size ≤ D → S xs → I xs X W → W.heap[D]? = some (.deferred (some [])) → Q .normal { a with defers := { target := .collected D, args := #[] } :: a.defers } W)
    (hstop : ∀ (D : Nat) (c : Code) (pre : List α) (W : World), w.heap.size ≤ D → Sp pre → Ix c pre W → W.heap[D]? = some (.deferred (some [])) → c.wpIn Fence.wide n P Q { a with defers := { target := .collected D, args := #[] } :: a.defers } W) :
    (Code.rangeFunc g ps assign body).wpIn Fence.wide n P Q a w := by
  refine wpIn_rangeFunc fun fn hfn => ?_
  let rc : LoopState → Option Code → Loop := fun st j => { state := st, pending := j, fn := fn, tmps := a.tmps, params := ps, assign := assign, body := body, defers := w.heap.size }
  obtain ⟨V, hV⟩ : ∃ V, V = (w.alloc (.deferred (some []))).alloc (.loop (rc .ready none)) := ⟨_, rfl⟩
  have sV : V.heap.size = w.heap.size + 2 := by rw [hV]; simp
  have bV : Below w.heap.size w V := by rw [hV]; exact ((Below.refl _ w).alloc (Nat.le_refl _) _).alloc (by simp) _
  have rV : V.heap[w.heap.size + 1]? = some (.loop (rc .ready none)) := by
    have h := World.alloc_heap_new (w.alloc (.deferred (some []))) (.loop (rc .ready none))
    rw [World.size_alloc] at h
    rw [hV]
    exact h
  have dV : V.heap[w.heap.size]? = some (.deferred (some [])) := by
    rw [hV]
    exact (Below.heap_alloc _ _ _ (by simp)).trans (World.alloc_heap_new w _)
  -- the range's own two blocks are nobody's
  have put : ∀ {s : List α} {X : Nat → Prop} {W : World} {l : Nat} {o : Obj} (o' : Obj), I s X W → w.heap.size ≤ l → W.heap[l]? = some o → o.isCells = false → I s X (W.putObj l o') := by
    intro s X W l o o' hi hl ho hc
    have h := hI s X W (W.putObj l o') hi (Chg.put o' hl ho hc)
    have e : (W.putObj l o').heap.size = W.heap.size := by simp
    rw [e, addX_self] at h
    exact h
  have iV : I [] X0 V := hsub _ _ _ _ (hI [] _ w V h0 (Chg.of_below bV)) (fun b h => .inl h)
  refine ⟨w.heap.size + 1, [{ target := .collected w.heap.size, args := #[] }], V, { target := .fn (.func gf) lb, args := #[.func (.yield (w.heap.size + 1)) #[] #[]] }, V, gf, #[.func (.yield (w.heap.size + 1)) #[] #[]] ++ lb, V, ?_, ?_, ?_, ?_, fun _ => hn, ?_⟩
  · rw [hV]; exact run_enterLoop_outer _ _ _ _ _
  · simp only [resolve, hg]; simp [go_sem]
  · intro f' _; trivial
  · simp [invoke, go_sem, eg]
  refine (hseq (w.heap.size + 1) (fun pre X W => I pre X W ∧ W.heap[w.heap.size + 1]? = some (.loop (rc .ready none)) ∧ W.heap[w.heap.size]? = some (.deferred (some [])) ∧ ¬ X (w.heap.size + 1) ∧ ¬ X w.heap.size)
    (fun pre W => ∃ c, Ix c pre W ∧ W.heap[w.heap.size + 1]? = some (.loop (rc .done (some c))) ∧ W.heap[w.heap.size]? = some (.deferred (some []))) V (hb0.trans (bV.mono hb0.size)) (hpre V bV) ?_ ?_ ?_ ⟨iV, rV, dV, fun h => by have := hbd _ _ _ h0 _ h; omega, fun h => by have := hbd _ _ _ h0 _ h; omega⟩).mono ?_
  · rintro s X A C ⟨x1, x2, x3, x4, x5⟩ hb
    have l1 : w.heap.size + 1 < A.heap.size := (Array.getElem?_eq_some_iff.1 x2).1
    refine ⟨hI _ _ _ _ x1 (hb.mono (by omega)), ?_, ?_, ?_, ?_⟩
    · rcases hb.same (w.heap.size + 1) l1 x4 with h | ⟨h, _⟩
      · exact h.trans x2
      · omega
    · rcases hb.same w.heap.size (by omega) x5 with h | ⟨h, _⟩
      · exact h.trans x3
      · omega
    · rintro (h | h)
      · exact x4 h
      · omega
    · rintro (h | h)
      · exact x5 h
      · omega
  · rintro s A b o o' ⟨c, j1, j2, j3⟩ hb ho hc
    exact ⟨c, hIx _ _ _ _ _ _ j1 (by omega) ho hc, (World.putObj_heap_other (by omega)).trans j2, (World.putObj_heap_other (by omega)).trans j3⟩
  · rintro pre x X W0 ⟨i1', i2', i3', i4, i5⟩ hl
    have ly := run_yield (P := P) (args := encs x) i2' (hps x)
    refine ⟨fn, _, assign, body, ly, roundIn_of_wpIn hfn (hassign _ pre x X W0 _ i1' (fun a1 W hbW ha1 => ?_))⟩
    have lt' : w.heap.size + 1 < W0.heap.size := (Array.getElem?_eq_some_iff.1 i2').1
    have i2 : W.heap[w.heap.size + 1]? = some (.loop (rc .ready none)) := (hbW.block _ lt').trans i2'
    have i3 : W.heap[w.heap.size]? = some (.deferred (some [])) := (hbW.block _ (by omega)).trans i3'
    have i1 : I pre X W := hsub _ _ _ _ (hI _ _ _ _ i1' (Chg.of_below hbW)) (fun b hb => .inl hb)
    have xW : ∀ b, X b → W.heap[b]? = W0.heap[b]? := fun b hb => hbW.block b (hbd _ _ _ i1' b hb)
    refine ⟨_, run_beginRound i2 rfl, ?_⟩
    have lt : w.heap.size + 1 < W.heap.size := (Array.getElem?_eq_some_iff.1 i2).1
    obtain ⟨Z, hZ⟩ : ∃ Z, Z = W.putObj (w.heap.size + 1) (.loop { rc .ready none with state := .busy }) := ⟨_, rfl⟩
    have rZ : Z.heap[w.heap.size + 1]? = some (.loop { rc .ready none with state := .busy }) := by rw [hZ]; exact World.putObj_heap_same lt
    have dZ : Z.heap[w.heap.size]? = some (.deferred (some [])) := by rw [hZ]; exact (World.putObj_heap_other (by omega)).trans i3
    have kZ : Below w₀.heap.size W0 Z := (hbW.mono (by have := hb0.size; omega)).trans (by rw [hZ]; exact put_keeps _ _ _ (by have := hb0.size; omega))
    have xZ : ∀ b, X b → Z.heap[b]? = W0.heap[b]? := by
      intro b hb
      rw [hZ, ← xW b hb]
      exact World.putObj_heap_other (by intro e; apply i4; first | (rw [e]; exact hb) | (rw [← e]; exact hb))
    have iZ : I pre X Z := by rw [hZ]; exact put _ i1 (by omega) i2 rfl
    have aZ : A1 x X a1 Z := by rw [hZ]; exact hA1 _ _ _ _ _ _ _ ha1 (by omega) i2 rfl
    rw [← hZ]
    have sZ : Z.heap.size = W.heap.size := by rw [hZ]; simp
    refine wpIn_mono (hbody pre x X a1 Z (by omega) i5 i4 iZ aZ hl) ?_
    have fin : ∀ (jump : Option Code) (Y : World), Stay w₀.heap.size w.heap.size X Z Y → (Instr.endRound (w.heap.size + 1) jump).run P Y = .ok (.bool jump.isNone) (Y.putObj (w.heap.size + 1) (.loop (rc (if jump.isNone then .ready else .done) jump))) ∧
        (Y.putObj (w.heap.size + 1) (.loop (rc (if jump.isNone then .ready else .done) jump))).heap[w.heap.size + 1]? = some (.loop (rc (if jump.isNone then .ready else .done) jump)) ∧
        (Y.putObj (w.heap.size + 1) (.loop (rc (if jump.isNone then .ready else .done) jump))).heap[w.heap.size]? = some (.deferred (some [])) ∧ Y.heap[w.heap.size + 1]? = some (.loop { rc .ready none with state := .busy }) := by
      intro jump Y hk
      have y1 := hk.rcd.trans rZ
      exact ⟨run_endRound jump y1, World.putObj_heap_same (Array.getElem?_eq_some_iff.1 y1).1, (World.putObj_heap_other (by omega)).trans (hk.dfr.trans dZ), y1⟩
    intro e aa Y hp
    cases e with
    | normal =>
      obtain ⟨p1, p3⟩ := hp
      obtain ⟨f1, f2, f3, f4⟩ := fin none Y p1
      refine ⟨_, _, f1, .inl ⟨rfl, ⟨put _ p3 (by omega) f4 rfl, f2, f3, i4, i5⟩, (kZ.trans p1.bel).trans (put_keeps _ _ _ (by have := hb0.size; omega)), fun b hb => ?_⟩⟩
      rw [World.putObj_heap_other (by intro e; apply i4; first | (rw [e]; exact hb) | (rw [← e]; exact hb)), p1.own b hb, xZ b hb]
    | ret =>
      obtain ⟨f1, f2, f3, f4⟩ := fin (some .ret) Y hp.1
      refine ⟨_, _, f1, .inr ⟨rfl, ⟨.ret, hIx _ _ _ _ _ _ hp.2 (by omega) f4 rfl, f2, f3⟩, (kZ.trans hp.1.bel).trans (put_keeps _ _ _ (by have := hb0.size; omega)), fun b hb => ?_⟩⟩
      rw [World.putObj_heap_other (by intro e; apply i4; first | (rw [e]; exact hb) | (rw [← e]; exact hb)), hp.1.own b hb, xZ b hb]
    | exit id =>
      obtain ⟨f1, f2, f3, f4⟩ := fin (some (.exit id)) Y hp.1
      refine ⟨_, _, f1, .inr ⟨rfl, ⟨.exit id, hIx _ _ _ _ _ _ hp.2 (by omega) f4 rfl, f2, f3⟩, (kZ.trans hp.1.bel).trans (put_keeps _ _ _ (by have := hb0.size; omega)), fun b hb => ?_⟩⟩
      rw [World.putObj_heap_other (by intro e; apply i4; first | (rw [e]; exact hb) | (rw [← e]; exact hb)), hp.1.own b hb, xZ b hb]
    | goto t =>
      obtain ⟨f1, f2, f3, f4⟩ := fin (some (.goto t)) Y hp.1
      refine ⟨_, _, f1, .inr ⟨rfl, ⟨.goto t, hIx _ _ _ _ _ _ hp.2 (by omega) f4 rfl, f2, f3⟩, (kZ.trans hp.1.bel).trans (put_keeps _ _ _ (by have := hb0.size; omega)), fun b hb => ?_⟩⟩
      rw [World.putObj_heap_other (by intro e; apply i4; first | (rw [e]; exact hb) | (rw [← e]; exact hb)), hp.1.own b hb, xZ b hb]
    | panic ch => exact hp.elim
    | outgrown => exact hp.elim
  · rintro e Y ⟨⟨v, rfl⟩, ⟨xs, X, hS, i1, i2, i3, _⟩ | ⟨pre, hS, c, i1, i2, i3⟩⟩
    · exact ⟨none, _, run_endLoop i2 (by simp [rc]), hdone _ xs X _ (Nat.le_refl _) hS (put _ i1 (by omega) i2 rfl) ((World.putObj_heap_other (by omega)).trans i3)⟩
    · exact ⟨some c, _, run_endLoop i2 (by simp [rc]), hstop _ c pre _ (Nat.le_refl _) hS (hIx _ _ _ _ _ _ i1 (by omega) i2 rfl) ((World.putObj_heap_other (by omega)).trans i3)⟩
end Go.Proofs.Ytdglobonbhkheaa
