/-
  What the law of All wants: where the whole values stand; what stands while its ranges go.
-/
import Derived.Test.YtdglobonbhkheaaPlAc
import Derived.Test.YtdglobonbhkheaaRgE1
import Derived.Test.YtdglobonbhkheaaJ10
import Derived.Test.YtdglobonbhkheaaRndQ
import Derived.Test.YtdglobonbhkheaaSm
import Derived.Test.YtdglobonbhkheaaPlRc
namespace Go.Proofs.Ytdglobonbhkheaa
set_option linter.unusedVariables false
set_option linter.unusedSimpArgs false
open Go.ChangeShapes Go.WideShapes Go.ChangeAt Go.RowKit Go.Deep Go.Shelf

theorem vals_split {k z : Int} {bs : List Nat} (hc : chkB k z = true) (h0 : k ≠ 0) : ∀ (pre : List (Nat × Dat)) (p : Nat), p ≤ bs.length → pre <+: vals k z bs p → vals k z bs p = pre ++ vals k z bs (endF k z p pre) ∧ endF k z p pre ≤ bs.length
  | [], p, hp, _ => ⟨rfl, hp⟩
  | x :: l, p, hp, h => by
    cases hf : front k z (bs.drop p) with
    | none =>
      rw [vals_none hp hf] at h
      exact absurd (List.prefix_nil.1 h) (by simp)
    | some d =>
      have e := vals_some hc h0 hp hf
      obtain ⟨h1, h2, _⟩ := front_size hc h0 hf
      rw [List.length_drop] at h2
      rw [e] at h
      obtain ⟨rfl, hl⟩ := List.cons_prefix_cons.1 h
      have ih := vals_split hc h0 l (p + dsz k z d) (by omega) hl
      rw [endF_cons, e, ih.1]
      exact ⟨by simp, by simpa using ih.2⟩
theorem vals_next {k z : Int} {bs : List Nat} (hc : chkB k z = true) (h0 : k ≠ 0) {pre : List (Nat × Dat)} {x : Nat × Dat} (hp : pre <+: vals k z bs 0) (hx : (vals k z bs 0)[pre.length]? = some x) :
    x.1 = endF k z 0 pre ∧ front k z (bs.drop (endF k z 0 pre)) = some x.2 ∧ endF k z 0 pre + dsz k z x.2 ≤ bs.length ∧ 1 ≤ dsz k z x.2 := by
  obtain ⟨h1, h2⟩ := vals_split hc h0 pre 0 (Nat.zero_le _) hp
  rw [h1, List.getElem?_append_right (Nat.le_refl _), Nat.sub_self] at hx
  cases hf : front k z (bs.drop (endF k z 0 pre)) with
  | none => rw [vals_none h2 hf] at hx; cases hx
  | some d =>
    rw [vals_some hc h0 h2 hf] at hx
    cases hx
    obtain ⟨k1, k2, _⟩ := front_size hc h0 hf
    rw [List.length_drop] at k2
    exact ⟨rfl, rfl, by show _ + dsz k z d ≤ _; omega, k1⟩
theorem vals_last {k z : Int} {bs : List Nat} (hc : chkB k z = true) (h0 : k ≠ 0) : front k z (bs.drop (endF k z 0 (vals k z bs 0))) = none ∧ endF k z 0 (vals k z bs 0) ≤ bs.length := by
  obtain ⟨h1, h2⟩ := vals_split hc h0 (vals k z bs 0) 0 (Nat.zero_le _) List.prefix_rfl
  refine ⟨?_, h2⟩
  cases hf : front k z (bs.drop (endF k z 0 (vals k z bs 0))) with
  | none => rfl
  | some d =>
    have h3 : vals k z bs (endF k z 0 (vals k z bs 0)) = [] := by
      have := congrArg List.length h1
      rw [List.length_append] at this
      exact List.length_eq_zero_iff.1 (by omega)
    rw [vals_some hc h0 h2 hf] at h3
    cases h3
/-- how far the values go -/
def atF (k z : Int) (pre : List (Nat × Dat)) : Nat := if k = 0 then 0 else endF k z 0 pre
theorem pre_snoc {vs pre : List (Nat × Dat)} {x : Nat × Dat} (hp : pre <+: vs) (hx : vs[pre.length]? = some x) : (pre ++ [x]) <+: vs := by
  obtain ⟨r, rfl⟩ := hp
  rw [List.getElem?_append_right (Nat.le_refl _), Nat.sub_self] at hx
  cases r with
  | nil => cases hx
  | cons y r => cases hx; exact ⟨r, by simp⟩

/-- what stands while the first range goes -/
structure AI (S N : Nat) (w U : World) (a : Option Addr) (len cap : Nat) (k z lv : Int) (vs pre : List (Nat × Dat)) (X : Nat → Prop) (V : World) : Prop where
  bb : V.heap[S]? = some (.cells #[.slice a len cap] 27 (0, 0))
  bt : V.heap[S + 1]? = some (.cells #[.int .i64 k, .int .i64 z] 24 (0, 0))
  bl : V.heap[S + 1 + 1]? = some (.cells #[.int .i64 lv] 3 (0, 0))
  br : V.heap[S + 1 + 1 + 1]? = some (.cells #[.bool false] 4 (0, 0))
  ba : V.heap[N]? = some (.cells #[.int .i64 ((atF k z pre : Nat) : Int)] 3 (0, 0))
  bn : V.heap[N + 1]? = some (.cells #[.int .i64 ((pre.length : Nat) : Int)] 3 (0, 0))
  pf : pre <+: vs
  nx : ∀ b, X b → N + 2 ≤ b
  bd : ∀ b, X b → b < V.heap.size
  bel : Below S w V
  sz : N + 2 ≤ V.heap.size
  sn : S + 4 ≤ N
  bu : Below N U V
theorem AI.sub {S N : Nat} {w U : World} {a : Option Addr} {len cap : Nat} {k z lv : Int} {vs pre : List (Nat × Dat)} {X X' : Nat → Prop} {V : World} (h : AI S N w U a len cap k z lv vs pre X V) (hs : ∀ b, X' b → X b) : AI S N w U a len cap k z lv vs pre X' V :=
  ⟨h.bb, h.bt, h.bl, h.br, h.ba, h.bn, h.pf, fun b hb => h.nx b (hs b hb), fun b hb => h.bd b (hs b hb), h.bel, h.sz, h.sn, h.bu⟩
theorem AI.stab {S N n : Nat} {w U : World} {a : Option Addr} {len cap : Nat} {k z lv : Int} {vs pre : List (Nat × Dat)} {X : Nat → Prop} {A C : World} (hn : N + 2 ≤ n) (h : AI S N w U a len cap k z lv vs pre X A) (hc : Chg n X A C) : AI S N w U a len cap k z lv vs pre (addX X A.heap.size C.heap.size) C := by
  have hs := h.sz
  have hsn := h.sn
  have same : ∀ b, b < N + 2 → ¬ X b → C.heap[b]? = A.heap[b]? := fun b hb hx => by
    rcases hc.same b (by omega) hx with h | ⟨h, _⟩
    · exact h
    · omega
  have nlow : ∀ b, b < N + 2 → ¬ X b := fun b hb hx => by have := h.nx b hx; omega
  have nN : ¬ X N := nlow _ (by omega)
  have nN1 : ¬ X (N + 1) := nlow _ (by omega)
  refine ⟨(same _ (by omega) (nlow _ (by omega))).trans h.bb, (same _ (by omega) (nlow _ (by omega))).trans h.bt, (same _ (by omega) (nlow _ (by omega))).trans h.bl, (same _ (by omega) (nlow _ (by omega))).trans h.br, (same _ (by omega) nN).trans h.ba, (same _ (by omega) nN1).trans h.bn, h.pf, ?_, ?_, ?_, by have := hc.size; omega, hsn, ?_⟩
  · rintro b (hb | hb)
    · exact h.nx b hb
    · omega
  · rintro b (hb | hb)
    · have := h.bd b hb
      have := hc.size
      omega
    · exact hb.2
  · exact h.bel.trans ⟨hc.os, hc.tape, hc.output, hc.size, fun b hb => same b (by omega) (nlow b (by omega))⟩
  · exact h.bu.trans ⟨hc.os, hc.tape, hc.output, hc.size, fun b hb => same b (by omega) (nlow b (by omega))⟩
/-- a round's end -/
theorem AI.step {S N M D : Nat} {w U : World} {a : Option Addr} {len cap : Nat} {k z lv : Int} {vs pre : List (Nat × Dat)} {x : Nat × Dat} {X : Nat → Prop} {V V' : World} (h : AI S N w U a len cap k z lv vs pre X V) (hx : vs[pre.length]? = some x)
    (h1 : V'.os = V.os) (h2 : V'.tape = V.tape) (h3 : V'.output = V.output) (h4 : V.heap.size ≤ V'.heap.size) (hk : ∀ b, b < V.heap.size → b ≠ N → b ≠ N + 1 → V'.heap[b]? = V.heap[b]?)
    (ha : V'.heap[N]? = some (.cells #[.int .i64 ((atF k z (pre ++ [x]) : Nat) : Int)] 3 (0, 0))) (hn : V'.heap[N + 1]? = some (.cells #[.int .i64 (((pre.length : Nat) : Int) + 1)] 3 (0, 0))) (hM : M ≤ N) (hD : N + 2 ≤ D) (hDs : D + 1 < V.heap.size) :
    Stay M D X V V' ∧ AI S N w U a len cap k z lv vs (pre ++ [x]) X V' := by
  have hsn := h.sn
  refine ⟨⟨⟨h1, h2, h3, h4, fun b hb => hk b (by omega) (by omega) (by omega)⟩, fun b hb => hk b (h.bd b hb) (by have := h.nx b hb; omega) (by have := h.nx b hb; omega), hk D (by omega) (by omega) (by omega), hk (D + 1) (by omega) (by omega) (by omega)⟩, ?_⟩
  have hz := h.sz
  refine ⟨(hk _ (by omega) (by omega) (by omega)).trans h.bb, (hk _ (by omega) (by omega) (by omega)).trans h.bt, (hk _ (by omega) (by omega) (by omega)).trans h.bl, (hk _ (by omega) (by omega) (by omega)).trans h.br, ha, ?_, pre_snoc h.pf hx, h.nx, fun b hb => by have := h.bd b hb; omega, h.bel.trans ⟨h1, h2, h3, h4, fun b hb => hk b (by omega) (by omega) (by omega)⟩, by omega, hsn, h.bu.trans ⟨h1, h2, h3, h4, fun b hb => hk b (by omega) (by omega) (by omega)⟩⟩
  rw [hn, List.length_append, List.length_singleton]
  rfl
/-- what a round has of its own: the box of its value -/
structure AA (N : Nat) (act : Nat × Dat → Nat → Act) (x : Nat × Dat) (X : Nat → Prop) (a1 : Act) (V : World) : Prop where
  ex : ∃ B, a1 = act x B ∧ V.heap[B]? = some (.cells #[.int .i64 x.2.k, .int .i64 x.2.n, .string x.2.s] 48 (0, 0)) ∧ ¬ X B ∧ N + 2 ≤ B
theorem AA.put {N : Nat} {act : Nat × Dat → Nat → Act} {x : Nat × Dat} {X : Nat → Prop} {a1 : Act} {V : World} (h : AA N act x X a1 V) {l : Nat} {o o' : Obj} (ho : V.heap[l]? = some o) (hc : o.isCells = false) : AA N act x X a1 (V.putObj l o') := by
  obtain ⟨B, h1, h2, h3⟩ := h.ex
  refine ⟨B, h1, (World.putObj_heap_other ?_).trans h2, h3⟩
  intro e
  have : V.heap[B]? = some o := by first | (rw [e]; exact ho) | (rw [← e]; exact ho)
  rw [h2] at this
  cases this
  cases hc
/-- how a round's frame begins -/
def alAct (S N : Nat) (a : Option Addr) (len cap : Nat) (k z lv : Int) (gf : FuncId) (lb : Array Value) (x : Nat × Dat) (B : Nat) : Act := { tmps := #[.slice a len cap, .agg #[.int .i64 k, .int .i64 z], .int .i64 lv, .pointer (some ⟨S, 0, none⟩), .pointer (some ⟨S + 1, 0, none⟩), .pointer (some ⟨S + 1 + 1, 0, none⟩), .pointer (some ⟨S + 1 + 1 + 1, 0, none⟩), .func (.func gf) #[] lb, .pointer (some ⟨N, 0, none⟩), .pointer (some ⟨N + 1, 0, none⟩), .int .i64 ((x.1 : Nat) : Int), .pointer (some ⟨B, 0, none⟩), undef, undef, undef, undef, undef, .slice a len cap, .int .i64 (len : Int), .bool (decide ((500 : Int) < (len : Int))), .slice a len cap, .agg #[.int .i64 k, .int .i64 z], .func (.func gf) #[] lb, .func (.func gf) #[] lb, .bool false, .func (.func gf) #[] lb, .int .i64 ((x.1 : Nat) : Int), .agg #[.int .i64 x.2.k, .int .i64 x.2.n, .string x.2.s], undef, undef, undef, undef, undef, undef, undef, undef, undef, undef, undef, undef, undef, undef, undef, undef, undef, undef, undef, undef, undef, undef, undef, undef, undef, undef, undef, undef, undef, undef, undef, undef, undef, undef, undef, undef, undef, undef, undef, undef, undef, undef, undef, undef, undef, undef, undef, undef, undef, undef, undef, undef, undef, undef, undef, undef, undef, undef, undef, undef, undef, undef, undef, undef, undef, undef, undef, undef, undef, undef, undef, undef, undef, undef, undef, undef, undef, undef, undef, undef, undef, undef, undef, undef, undef, undef, undef, undef, undef, undef, undef, undef, undef, undef, undef, undef, undef, undef, undef, undef, undef, undef, undef, undef, undef, undef, undef, undef, undef, undef, undef, undef, undef, undef, undef, undef, undef, undef, undef, undef, undef], defers := [] }
/-- what stands while the second range goes -/
structure LI (S N L D : Nat) (w : World) (lv tot : Int) (vs pre : List (Nat × Dat)) (X : Nat → Prop) (V : World) : Prop where
  bl : V.heap[S + 1 + 1]? = some (.cells #[.int .i64 lv] 3 (0, 0))
  br : V.heap[S + 1 + 1 + 1]? = some (.cells #[.bool false] 4 (0, 0))
  bn : V.heap[N + 1]? = some (.cells #[.int .i64 tot] 3 (0, 0))
  bL : V.heap[L]? = some (.cells #[.int .i64 ((pre.length : Nat) : Int)] 3 (0, 0))
  bD : V.heap[D]? = some (.deferred (some []))
  pf : pre <+: vs
  lt : ((pre.length : Nat) : Int) < lv ∨ pre.length < 1
  nx : ∀ b, X b → L + 1 ≤ b
  bd : ∀ b, X b → b < V.heap.size
  bel : Below S w V
  sz : L + 1 ≤ V.heap.size
  sn : S + 4 ≤ N ∧ N + 2 ≤ D ∧ D + 1 ≤ L
theorem LI.sub {S N L D : Nat} {w : World} {lv tot : Int} {vs pre : List (Nat × Dat)} {X X' : Nat → Prop} {V : World} (h : LI S N L D w lv tot vs pre X V) (hs : ∀ b, X' b → X b) : LI S N L D w lv tot vs pre X' V :=
  ⟨h.bl, h.br, h.bn, h.bL, h.bD, h.pf, h.lt, fun b hb => h.nx b (hs b hb), fun b hb => h.bd b (hs b hb), h.bel, h.sz, h.sn⟩
theorem LI.stab {S N L D n : Nat} {w : World} {lv tot : Int} {vs pre : List (Nat × Dat)} {X : Nat → Prop} {A C : World} (hn : L + 1 ≤ n) (h : LI S N L D w lv tot vs pre X A) (hc : Chg n X A C) : LI S N L D w lv tot vs pre (addX X A.heap.size C.heap.size) C := by
  have hs := h.sz
  obtain ⟨hsn, hnd, hdl⟩ := h.sn
  have same : ∀ b, b < L + 1 → C.heap[b]? = A.heap[b]? := fun b hb => by
    rcases hc.same b (by omega) (fun hx => by have := h.nx b hx; omega) with h | ⟨h, _⟩
    · exact h
    · omega
  refine ⟨(same _ (by omega)).trans h.bl, (same _ (by omega)).trans h.br, (same _ (by omega)).trans h.bn, (same _ (by omega)).trans h.bL, (same _ (by omega)).trans h.bD, h.pf, h.lt, ?_, ?_, ?_, by have := hc.size; omega, h.sn⟩
  · rintro b (hb | hb)
    · exact h.nx b hb
    · omega
  · rintro b (hb | hb)
    · have := h.bd b hb
      have := hc.size
      omega
    · exact hb.2
  · exact h.bel.trans ⟨hc.os, hc.tape, hc.output, hc.size, fun b hb => same b (by omega)⟩
/-- what stands where the second range was left -/
structure LJ (S N L D : Nat) (w : World) (lv tot : Int) (vs pre : List (Nat × Dat)) (V : World) : Prop where
  bl : V.heap[S + 1 + 1]? = some (.cells #[.int .i64 lv] 3 (0, 0))
  br : V.heap[S + 1 + 1 + 1]? = some (.cells #[.bool false] 4 (0, 0))
  bn : V.heap[N + 1]? = some (.cells #[.int .i64 tot] 3 (0, 0))
  bL : V.heap[L]? = some (.cells #[.int .i64 ((pre.length : Nat) : Int)] 3 (0, 0))
  bD : V.heap[D]? = some (.deferred (some []))
  pf : pre <+: vs
  lt : ((pre.length : Nat) : Int) ≤ lv ∨ pre.length ≤ 1
  ge : lv ≤ ((pre.length : Nat) : Int)
  po : 1 ≤ pre.length
  bel : Below S w V
  sz : L + 1 ≤ V.heap.size
  sn : S + 4 ≤ N ∧ N + 2 ≤ D ∧ D + 1 ≤ L
theorem LJ.put {S N L D : Nat} {w : World} {lv tot : Int} {vs pre : List (Nat × Dat)} {V : World} (h : LJ S N L D w lv tot vs pre V) {l : Nat} (hl : L + 1 ≤ l) (o : Obj) : LJ S N L D w lv tot vs pre (V.putObj l o) := by
  obtain ⟨hsn, hnd, hdl⟩ := h.sn
  exact ⟨(World.putObj_heap_other (by omega)).trans h.bl, (World.putObj_heap_other (by omega)).trans h.br, (World.putObj_heap_other (by omega)).trans h.bn, (World.putObj_heap_other (by omega)).trans h.bL, (World.putObj_heap_other (by omega)).trans h.bD, h.pf, h.lt, h.ge, h.po, h.bel.trans (put_keeps _ _ _ (by omega)), by simpa using h.sz, h.sn⟩
/-- a round's end: `left` is one more -/
theorem LI.step {S N L D M E : Nat} {w : World} {lv tot : Int} {vs pre : List (Nat × Dat)} {x : Nat × Dat} {X : Nat → Prop} {V V' : World} (h : LI S N L D w lv tot vs pre X V) (hx : vs[pre.length]? = some x)
    (h1 : V'.os = V.os) (h2 : V'.tape = V.tape) (h3 : V'.output = V.output) (h4 : V.heap.size ≤ V'.heap.size) (hk : ∀ b, b < V.heap.size → b ≠ L → V'.heap[b]? = V.heap[b]?)
    (hn : V'.heap[L]? = some (.cells #[.int .i64 (((pre.length : Nat) : Int) + 1)] 3 (0, 0))) (hM : M ≤ L) (hE : L + 1 ≤ E) (hEs : E + 1 < V.heap.size) :
    Stay M E X V V' ∧ (((pre.length : Nat) : Int) + 1 < lv → LI S N L D w lv tot vs (pre ++ [x]) X V') ∧ (lv ≤ ((pre.length : Nat) : Int) + 1 → LJ S N L D w lv tot vs (pre ++ [x]) V') := by
  obtain ⟨hsn, hnd, hdl⟩ := h.sn
  have hz := h.sz
  have el : (((pre ++ [x]).length : Nat) : Int) = ((pre.length : Nat) : Int) + 1 := by rw [List.length_append, List.length_singleton]; rfl
  have bel' := h.bel.trans (⟨h1, h2, h3, h4, fun b hb => hk b (by omega) (by omega)⟩ : Below S V V')
  refine ⟨⟨⟨h1, h2, h3, h4, fun b hb => hk b (by omega) (by omega)⟩, fun b hb => hk b (h.bd b hb) (by have := h.nx b hb; omega), hk E (by omega) (by omega), hk (E + 1) (by omega) (by omega)⟩, fun hl => ?_, fun hl => ?_⟩
  · exact ⟨(hk _ (by omega) (by omega)).trans h.bl, (hk _ (by omega) (by omega)).trans h.br, (hk _ (by omega) (by omega)).trans h.bn, by rw [hn, el], (hk _ (by omega) (by omega)).trans h.bD, pre_snoc h.pf hx, by rw [el]; exact .inl hl, h.nx, fun b hb => by have := h.bd b hb; omega, bel', by omega, h.sn⟩
  · have hlt := h.lt
    refine ⟨(hk _ (by omega) (by omega)).trans h.bl, (hk _ (by omega) (by omega)).trans h.br, (hk _ (by omega) (by omega)).trans h.bn, by rw [hn, el], (hk _ (by omega) (by omega)).trans h.bD, pre_snoc h.pf hx, ?_, by rw [el]; exact hl, by simp, bel', by omega, h.sn⟩
    rw [el, List.length_append, List.length_singleton]
    omega
/-- left by its end alone -/
def onlyN (Q : Exit → Act → World → Prop) : Exit → Act → World → Prop
  | .normal, a, w => Q .normal a w
  | _, _, _ => False
theorem wide_only {n : Nat} {P : Program} {id : Nat} {ops : Array Oper} {Q : Exit → Act → World → Prop} {S : World → Prop} {a : Act} {w : World} (hm : P.follows .mixedOrders = true) (hd : noDefer ops) (hS : S w.drew)
    (h : S w.drew → wpAnyH P .any ops (onlyN Q) S ops.size (Array.replicate ops.size false) a w.drew) : (Code.region id ops true).wpIn Fence.wide n P Q a w :=
  wpIn_mono (wide_held hm hd (by rintro ⟨a', w', h⟩; exact h) hS h) (fun e a' w' h => by cases e <;> first | exact h | exact h.elim)
/-- the end: both marks are taken -/
theorem pa_end {w Y : World} {D D2 : Nat} {t : Array Value} (hr : Y.heap[w.heap.size + 1 + 1 + 1]? = some (.cells #[.bool true] 4 (0, 0))) (hD : Y.heap[D]? = some (.deferred (some []))) (hD2 : Y.heap[D2]? = some (.deferred (some []))) (hne : D < D2) (hw1 : w.heap.size + 4 ≤ D) (hB : Below w.heap.size w Y)
    (ht : t[6]? = some (.pointer (some ⟨w.heap.size + 1 + 1 + 1, 0, none⟩))) :
    bodyPostM Fence.wide 12 Try.prog Try.f6 (fun e w' => e = .returned (.bool true) ∧ Below w.heap.size w w') .ret { tmps := t, defers := [{ target := .collected D2, args := #[] }, { target := .collected D, args := #[] }] } Y := by
  refine ⟨by simp, .inl ⟨_, _, rfl, run_takeDeferred hD2, ?_⟩⟩
  have hK3 : (Y.putObj D2 (.deferred none)).heap[D]? = some (.deferred (some [])) := (World.putObj_heap_other (by omega)).trans hD
  refine ⟨by simp, .inl ⟨_, _, rfl, run_takeDeferred hK3, ?_⟩⟩
  have b1 : (Y.putObj D2 (.deferred none)).heap[w.heap.size + 1 + 1 + 1]? = some (.cells #[.bool true] 4 (0, 0)) := (World.putObj_heap_other (by omega)).trans hr
  have b2 : ((Y.putObj D2 (.deferred none)).putObj D (.deferred none)).heap[w.heap.size + 1 + 1 + 1]? = some (.cells #[.bool true] 4 (0, 0)) := (World.putObj_heap_other (by omega)).trans b1
  have hc := (blk1 b2).1
  refine ⟨.bool true, ?_, rfl, (hB.trans (put_keeps _ _ _ (by omega))).trans (put_keeps _ _ _ (by omega))⟩
  simp [results, Try.f6, go_sem, hc, ht]
theorem allV_len (k z : Int) (bs : List Nat) (h : bs.length ≤ 500) : (allV k z bs).length ≤ 4000 := by
  unfold allV
  split
  · simp
  · split
    · rw [trP_len, upto_length]; omega
    · have h2 := valsF_len k z bs (bs.length + 1 - 0) 0
      unfold vals
      omega
theorem allV_none {k z : Int} {bs : List Nat} (h : chkB k z = false) : allV k z bs = [] := by unfold allV; rw [if_pos h]
theorem eqfn (W : World) (g : FuncId) (lb : Array Value) : (binOp .eql 45 (.func (.func g) #[] lb) .nilFunc).run Try.prog W = .ok (.bool false) W := by kernel_rfl
end Go.Proofs.Ytdglobonbhkheaa
