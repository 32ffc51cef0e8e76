/-
  readAll: so many values of a row.
-/
import Derived.Test.YtdglobonbhkheaaPlIt
import Derived.Test.YtdglobonbhkheaaPlC
import Derived.Test.YtdglobonbhkheaaJmp
namespace Go.Proofs.Ytdglobonbhkheaa
set_option linter.unusedVariables false
set_option linter.unusedSimpArgs false
open Go.ChangeShapes Go.WideShapes Go.ChangeAt Go.RowKit Go.Deep Go.Shelf
attribute [local go_sem] jump_normal jump_exit jump_panic Oper.semAt_some

set_option maxRecDepth 100000 in
set_option maxHeartbeats 1000000 in
theorem all_any (v1 v2 v3 : Value) (a : Option Addr) (len cap : Nat) (w : World) : Calls Try.prog 63 #[.agg #[v1, v2, v3], .slice a len cap] w fun e w' => e = .returned (.func (.func 86) #[] #[.pointer (some ⟨w.heap.size, 0, none⟩), .pointer (some ⟨w.heap.size + 1, 0, none⟩)]) ∧
    w' = (w.alloc (.cells #[v1, v2, v3] 96 (0, 0))).alloc (.cells #[.slice a len cap] 27 (0, 0)) := by
  go_enter Try.func63, Try.ntmps63
  go_wp2_with fail
  go_ret
  exact ⟨rfl, rfl⟩

/-- what is answered: the data, and the refusal's number -/
def rdL (k z : Int) (bs : List Nat) (count : Nat) : List Dat := match rds k z count bs with
  | some (l, []) => l
  | _ => []
def rdN (k z : Int) (bs : List Nat) (count : Nat) : Int := match rds k z count bs with
  | none => 6
  | some (_, []) => 0
  | some (_, _ :: _) => 7

/-- what the rounds of readAll hold -/
structure RdI (s : Nat) (w : World) (pv : Array Value) (count : Nat) (k z : Int) (pre : List (Nat × Dat)) (X : Nat → Prop) (W : World) : Prop where
  hp : W.heap[s]? = some (.cells pv 96 (0, 0))
  hc : W.heap[s + 1]? = some (.cells #[.int .i64 count] 3 (0, 0))
  hd : ∃ v, W.heap[s + 1 + 1]? = some (.cells #[v] 25 (0, 0)) ∧ W.ownsRow (s + 4) 48 3 v pre.length (dcs (dats pre)) ∧ ∀ g, v.ownBlock = some g → ¬ X g
  he : W.heap[s + 1 + 1 + 1]? = some (.cells #[.int .i64 ((endF k z 0 pre : Nat) : Int)] 3 (0, 0))
  nx : ∀ b, b < s + 4 → ¬ X b
  bx : ∀ b, X b → b < W.heap.size
  bel : Below s w W
  ct : pre.length ≤ count
/-- how the rounds are left: with so many data -/
structure RdX (s : Nat) (w : World) (pv : Array Value) (count : Nat) (k z : Int) (cd : Code) (l : List (Nat × Dat)) (W : World) : Prop where
  ex : ∃ pre x X, cd = .exit 0 ∧ l = pre ++ [x] ∧ pre.length = count ∧ RdI s w pv count k z pre X W
theorem own_same {A C : World} {B : Nat} {e : TypeId} {sz : Nat} {v : Value} {n : Nat} {xs : List Value} (h : A.ownsRow B e sz v n xs) (hs : ∀ g o, v.ownBlock = some g → A.heap[g]? = some o → o.isCells = true → C.heap[g]? = some o) : C.ownsRow B e sz v n xs := by
  refine ⟨h.1, ?_⟩
  rcases h.2 with h1 | ⟨g, cap, cur, rfl, h2, h3, h4⟩
  · exact .inl h1
  · exact .inr ⟨g, cap, cur, rfl, h2, hs g _ rfl h3 rfl, h4⟩
theorem RdI.sub {s : Nat} {w : World} {pv : Array Value} {count : Nat} {k z : Int} {pre : List (Nat × Dat)} {X X' : Nat → Prop} {W : World} (h : RdI s w pv count k z pre X W) (hs : ∀ b, X' b → X b) : RdI s w pv count k z pre X' W := by
  obtain ⟨v, h1, h2, h3⟩ := h.hd
  exact ⟨h.hp, h.hc, ⟨v, h1, h2, fun g hg hx => h3 g hg (hs g hx)⟩, h.he, fun b hb hx => h.nx b hb (hs b hx), fun b hx => h.bx b (hs b hx), h.bel, h.ct⟩
theorem RdI.stab {s n : Nat} {w : World} {pv : Array Value} {count : Nat} {k z : Int} {pre : List (Nat × Dat)} {X : Nat → Prop} {A C : World} (hn : s + 4 ≤ n) (h : RdI s w pv count k z pre X A) (hb : Chg n X A C) : RdI s w pv count k z pre (addX X A.heap.size C.heap.size) C := by
  have hsz : s + 1 + 1 + 1 < A.heap.size := lt_of_heap h.he
  have same : ∀ b, b < s + 4 → C.heap[b]? = A.heap[b]? := by
    intro b hlt
    rcases hb.same b (by omega) (h.nx b hlt) with h1 | ⟨h1, _⟩
    · exact h1
    · omega
  obtain ⟨v, h1, h2, h3⟩ := h.hd
  refine ⟨(same _ (by omega)).trans h.hp, (same _ (by omega)).trans h.hc, ⟨v, (same _ (by omega)).trans h1, own_same h2 (fun g o hg ho hc => ?_), fun g hg hx => ?_⟩, (same _ (by omega)).trans h.he, fun b hlt hx => ?_, fun b hx => ?_, ?_, h.ct⟩
  · rcases hb.same g (lt_of_heap ho) (h3 g hg) with h4 | ⟨_, o', ho', hc'⟩
    · exact h4.trans ho
    · rw [ho] at ho'
      cases ho'
      rw [hc] at hc'
      cases hc'
  · rcases hx with hx | hx
    · exact h3 g hg hx
    · have := (h2.lt g hg).2
      omega
  · rcases hx with hx | hx
    · exact h.nx b hlt hx
    · omega
  · rcases hx with hx | hx
    · exact Nat.lt_of_lt_of_le (h.bx b hx) hb.size
    · exact hx.2
  · exact h.bel.trans ⟨hb.os, hb.tape, hb.output, hb.size, fun b hlt => same b (by omega)⟩

def rdAct (s : Nat) (pv : Array Value) (a : Option Addr) (len cap count : Nat) (x : Nat × Dat) (B : Nat) : Act := { tmps := #[.agg pv, .slice a len cap, .int .i64 count, .pointer (some ⟨s, 0, none⟩), undef, .pointer (some ⟨s + 1, 0, none⟩), .slice none 0 0, .int .i64 0, .pointer (some ⟨s + 1 + 1, 0, none⟩), .pointer (some ⟨s + 1 + 1 + 1, 0, none⟩), .int .i64 6, .int .i64 x.1, .pointer (some ⟨B, 0, none⟩), .agg pv, .slice a len cap, .func (.func 86) #[] #[.pointer (some ⟨s + 4, 0, none⟩), .pointer (some ⟨s + 4 + 1, 0, none⟩)], .int .i64 x.1, .agg #[.int .i64 x.2.k, .int .i64 x.2.n, .string x.2.s], undef, undef, undef, undef, undef, undef, undef, undef, undef, undef, undef, undef, undef, undef, undef, undef, undef, undef, undef, undef, undef, undef, undef, undef], defers := [] }
/-- what a round has of its own: the box of its value -/
structure RdA (s : Nat) (pv : Array Value) (a : Option Addr) (len cap count : Nat) (x : Nat × Dat) (X : Nat → Prop) (a1 : Act) (W : World) : Prop where
  ex : ∃ B, a1 = rdAct s pv a len cap count x B ∧ W.heap[B]? = some (.cells #[.int .i64 x.2.k, .int .i64 x.2.n, .string x.2.s] 48 (0, 0)) ∧ ¬ X B ∧ s + 4 ≤ B ∧ ∀ v, W.heap[s + 1 + 1]? = some (.cells #[v] 25 (0, 0)) → v.ownBlock ≠ some B
theorem wpListIn_append_run {F : Fence} {n : Nat} {P : Program} {w W : World} {ops : Array Oper} {rest : List Oper} {o : Oper} {a : Act} {Q : Exit → Act → World → Prop} (hg : o.guard = none) (s x : Operand) (t u : TypeId)
    (hop : o.op = .call { callee := .builtin .append, args := #[s, x], argTypes := #[t, u] }) (b v r : Value) (hs : a.eval s = b) (hx : a.eval x = v) (hrun : (Builtin.append_ #[t, u] o.type #[b, v]).run P w = .ok r W)
    (hK : wpListIn F n P ops Q rest (a.put o.dst r) W) : wpListIn F n P ops Q (o :: rest) a w := by
  refine wpListIn_plain hg fun K hK' => ?_
  unfold Oper.wpIn
  refine ⟨?_, ?_⟩
  · simp [Oper.about, hop, resolve, Target.leads, Sem.run_pure]
  · rw [Oper.semAt_plain F _ _ (by rw [hop]; intro c hc'; cases hc')]
    simp [execOp, hop, resolve, invoke, builtin, hs, hx, hrun, Result.andThen]
    exact hK' _ _ hK

theorem rd_ok {k z : Int} {bs : List Nat} {count : Nat} (hc : chkB k z = true) (h0 : k ≠ 0) {pre : List (Nat × Dat)} (hp : pre <+: vals k z bs 0) (hl : pre.length = count) :
    (endF k z 0 pre < bs.length → rdN k z bs count = 7 ∧ rdL k z bs count = []) ∧ (¬ endF k z 0 pre < bs.length → rdN k z bs count = 0 ∧ rdL k z bs count = dats pre) := by
  have e := rds_vals (bs := bs) hc h0 count 0 (Nat.zero_le _)
  have hle := hp.length_le
  rw [List.drop_zero, if_pos (by omega), ← hl, ← List.prefix_iff_eq_take.1 hp] at e
  unfold rdN rdL
  rw [← hl, e]
  constructor
  · intro h
    cases hd : bs.drop (endF k z 0 pre) with
    | nil => rw [List.drop_eq_nil_iff] at hd; omega
    | cons x y => exact ⟨rfl, rfl⟩
  · intro h
    rw [List.drop_eq_nil_of_le (by omega)]
    exact ⟨rfl, rfl⟩
theorem rd_short {k z : Int} {bs : List Nat} {count : Nat} (hc : chkB k z = true) (h0 : k ≠ 0) (h : (vals k z bs 0).length < count) : rdN k z bs count = 6 ∧ rdL k z bs count = [] := by
  have e := rds_vals (bs := bs) hc h0 count 0 (Nat.zero_le _)
  rw [List.drop_zero, if_neg (by omega)] at e
  unfold rdN rdL
  rw [e]
  exact ⟨rfl, rfl⟩
theorem readAll_end {X : World} {v1 : Value} {n : Int} {t : Array Value} {D2 : Nat} {R : Ending → World → Prop} (hK : X.heap[D2]? = some (.deferred (some [])))
    (t1 : t[6]? = some v1) (t2 : t[7]? = some (.int .i64 n)) (hR : R (.returned (.tuple #[v1, .int .i64 n])) (X.putObj D2 (.deferred none))) :
    bodyPostM Fence.wide 6 Try.prog Try.f62 R .ret { tmps := t, defers := [{ target := .collected D2, args := #[] }] } X := by
  refine ⟨by simp, .inl ⟨_, _, rfl, run_takeDeferred hK, ?_⟩⟩
  refine ⟨_, ?_, hR⟩
  simp [results, Try.f62, go_sem, t1, t2]
theorem own_put {X : World} {B : Nat} {e : TypeId} {sz : Nat} {v : Value} {n D : Nat} {xs : List Value} {o : Obj} (h : X.ownsRow B e sz v n xs) (hD : X.heap[D]? = some o) (ho : o.isCells = false) (o' : Obj) : (X.putObj D o').ownsRow B e sz v n xs :=
  own_same h (fun g p hg hp hc => by
    have : g ≠ D := by
      intro e
      subst e
      rw [hD] at hp
      cases hp
      rw [ho] at hc
      cases hc
    exact (World.putObj_heap_other (by omega)).trans hp)

set_option maxRecDepth 100000 in
set_option maxHeartbeats 8000000 in
theorem readAll_any (w : World) (p : Value) (k z : Int) (hp : Part w p k z) (hc : chkB k z = true) (h0 : k ≠ 0) (a : Option Addr) (len cap count : Nat) (bs : List Nat) (hB : Byt w a len cap bs) (hcount : count ≤ 65536) :
    Calls Try.prog 62 #[p, .slice a len cap, .int .i64 count] w fun e w' => ∃ v, e = .returned (.tuple #[v, .int .i64 (rdN k z bs count)]) ∧ w'.ownsRow w.heap.size 48 3 v (rdL k z bs count).length (dcs (rdL k z bs count)) ∧ Below w.heap.size w w' := by
  obtain ⟨f1, f2, f3, b1, b2, b3, rfl, e1, e2, e3, c1, c2, c3⟩ := hp.ex
  refine (callsIn_wide (n := 6)).1 ?_
  refine callsIn_of_wp_marks Try.func62 rfl trivial ?_ rfl
  simp only [Try.ntmps62, List.size_toArray, List.length_cons, List.length_nil, Nat.reduceAdd, Nat.reduceSub, Array.replicate_succ, Array.replicate_zero, List.push_toArray, List.append_toArray, List.nil_append, List.cons_append]
  refine wpIn_wide.2 ?_
  go_wp2_with fail
  refine wp_scope_forward 0 rfl ?_
  go_wp2_with fail
  have i4 : RdI w.heap.size w #[.func (.func f1) #[] b1, .func (.func f2) #[] b2, .func (.func f3) #[] b3] count k z [] (fun _ => False) ((((w.alloc (.cells #[.func (.func f1) #[] b1, .func (.func f2) #[] b2, .func (.func f3) #[] b3] 96 (0, 0))).alloc (.cells #[.int .i64 count] 3 (0, 0))).alloc (.cells #[.slice none 0 0] 25 (0, 0))).alloc (.cells #[.int .i64 0] 3 (0, 0))) := by
    have hsz : (w.alloc (.cells #[.func (.func f1) #[] b1, .func (.func f2) #[] b2, .func (.func f3) #[] b3] 96 (0, 0))).heap.size = w.heap.size + 1 := by simp
    have hsz2 : ((w.alloc (.cells #[.func (.func f1) #[] b1, .func (.func f2) #[] b2, .func (.func f3) #[] b3] 96 (0, 0))).alloc (.cells #[.int .i64 count] 3 (0, 0))).heap.size = w.heap.size + 1 + 1 := by simp
    have hsz3 : (((w.alloc (.cells #[.func (.func f1) #[] b1, .func (.func f2) #[] b2, .func (.func f3) #[] b3] 96 (0, 0))).alloc (.cells #[.int .i64 count] 3 (0, 0))).alloc (.cells #[.slice none 0 0] 25 (0, 0))).heap.size = w.heap.size + 1 + 1 + 1 := by simp
    refine ⟨below_at (alloc_below _ _) (below_at (alloc_below _ _) (below_at (alloc_below _ _) (heap_new _ _))), below_at (alloc_below _ _) (below_at (alloc_below _ _) (heap2_new _ _ _)), ⟨.slice none 0 0, ?_, World.ownsRow_nil _ _ _ _, fun g hg => by cases hg⟩, ?_, fun b _ h => h, fun b h => h.elim, ?_, Nat.zero_le _⟩
    · rw [← hsz2]
      exact below_at (alloc_below _ _) (heap_new _ _)
    · rw [← hsz3]
      exact heap_new _ _
    · exact (((alloc_below _ _).alloc (by simp) _).alloc (by simp; omega) _).alloc (by simp; omega) _
  have s4 : ((((w.alloc (.cells #[.func (.func f1) #[] b1, .func (.func f2) #[] b2, .func (.func f3) #[] b3] 96 (0, 0))).alloc (.cells #[.int .i64 count] 3 (0, 0))).alloc (.cells #[.slice none 0 0] 25 (0, 0))).alloc (.cells #[.int .i64 0] 3 (0, 0))).heap.size = w.heap.size + 4 := by simp
  have AL := all_any (.func (.func f1) #[] b1) (.func (.func f2) #[] b2) (.func (.func f3) #[] b3) a len cap ((((w.alloc (.cells #[.func (.func f1) #[] b1, .func (.func f2) #[] b2, .func (.func f3) #[] b3] 96 (0, 0))).alloc (.cells #[.int .i64 count] 3 (0, 0))).alloc (.cells #[.slice none 0 0] 25 (0, 0))).alloc (.cells #[.int .i64 0] 3 (0, 0)))
  generalize ((((w.alloc (.cells #[.func (.func f1) #[] b1, .func (.func f2) #[] b2, .func (.func f3) #[] b3] 96 (0, 0))).alloc (.cells #[.int .i64 count] 3 (0, 0))).alloc (.cells #[.slice none 0 0] 25 (0, 0))).alloc (.cells #[.int .i64 0] 3 (0, 0))) = W4 at *
  refine AL.mono ?_
  rintro e W6 ⟨rfl, hW6⟩
  have hq1 := heap_new W4 (.cells #[.func (.func f1) #[] b1, .func (.func f2) #[] b2, .func (.func f3) #[] b3] 96 (0, 0))
  have hp6 : W6.heap[W4.heap.size]? = some (.cells #[.func (.func f1) #[] b1, .func (.func f2) #[] b2, .func (.func f3) #[] b3] 96 (0, 0)) := by rw [hW6]; exact below_at (alloc_below _ _) hq1
  have hb6 : W6.heap[W4.heap.size + 1]? = some (.cells #[.slice a len cap] 27 (0, 0)) := by rw [hW6]; exact heap2_new W4 _ _
  have bel6 : Below W4.heap.size W4 W6 := by rw [hW6]; exact (alloc_below _ _).alloc (by simp) _
  have s6 : W6.heap.size = w.heap.size + 6 := by rw [hW6]; simp [s4]
  have i6 : RdI w.heap.size w #[.func (.func f1) #[] b1, .func (.func f2) #[] b2, .func (.func f3) #[] b3] count k z [] (fun b => b = W4.heap.size ∨ b = W4.heap.size + 1) W6 := by
    have h := i4.stab (n := w.heap.size + 4) (Nat.le_refl _) (Chg.of_below bel6)
    exact h.sub (fun b hb => .inr (by omega))
  have SQ := all1_seq 5 (by omega) w _ k z hp hc h0 W4.heap.size (W4.heap.size + 1) len cap a bs hB f1 f2 f3 b1 b2 b3 rfl
  have hwb := i6.bel
  rw [s4] at SQ i6 hp6 hb6
  clear AL hW6 hq1 bel6 i4
  go_wp2_with fail
  refine (wpIn_wide (n := 6)).1 ?_
  refine range_d (by omega) (gf := 86) rfl (Go.Proofs.enters_of Try.func86 (by kernel_rfl) rfl) SQ (fun V hV => ⟨below_at hV hp6, below_at hV hb6⟩) hwb (fun _ => rfl)
    (RdI w.heap.size w #[.func (.func f1) #[] b1, .func (.func f2) #[] b2, .func (.func f3) #[] b3] count k z) (RdX w.heap.size w #[.func (.func f1) #[] b1, .func (.func f2) #[] b2, .func (.func f3) #[] b3] count k z)
    (fun s X A C h hb => h.stab (by omega) hb) ?hIx (fun s X X' A h hs => h.sub hs) (fun s X A h => h.bx) i6 (RdA w.heap.size #[.func (.func f1) #[] b1, .func (.func f2) #[] b2, .func (.func f3) #[] b3] a len cap count) ?hA1 ?assign ?body ?done ?stop
  case hIx =>
    rintro cd s W l o o' ⟨pre, x, X, rfl, rfl, h1, h2⟩ hl ho hc
    refine ⟨⟨pre, x, X, rfl, rfl, h1, ?_⟩⟩
    have h3 := h2.stab (n := l) (by omega) (Chg.put o' (Nat.le_refl _) ho hc)
    have e : (W.putObj l o').heap.size = W.heap.size := by simp
    rw [e, addX_self] at h3
    exact h3
  case hA1 =>
    rintro x X a1 W l o o' ⟨B, h1, h2, h3, h4, h5⟩ hl ho hc
    refine ⟨B, h1, (World.putObj_heap_other ?_).trans h2, h3, h4, fun v hv => h5 v ?_⟩
    · intro e
      have : W.heap[B]? = some o := by first | (rw [e]; exact ho) | (rw [← e]; exact ho)
      rw [h2] at this
      cases this
      cases hc
    · rw [← hv]
      exact (World.putObj_heap_other (by omega)).symm
  case assign =>
    rintro l pre ⟨xp, ⟨xk, xn, xs⟩⟩ X W K hi hK
    have hKK := hK (rdAct w.heap.size #[.func (.func f1) #[] b1, .func (.func f2) #[] b2, .func (.func f3) #[] b3] a len cap count (xp, ⟨xk, xn, xs⟩) W.heap.size) (W.alloc (.cells #[.int .i64 xk, .int .i64 xn, .string xs] 48 (0, 0))) (alloc_below _ _) ⟨W.heap.size, rfl, heap_new _ _, fun hx => by have := hi.bx _ hx; omega, by have := lt_of_heap hi.he; omega, fun v hv => by
      obtain ⟨v', h1, h2, _⟩ := hi.hd
      have h3 := below_at (alloc_below W (.cells #[.int .i64 xk, .int .i64 xn, .string xs] 48 (0, 0))) h1
      rw [h3] at hv
      cases hv
      intro e
      have := (h2.lt _ e).2
      omega⟩
    unfold dval
    gi_wp2
    exact hKK
  case body =>
    rintro l pre ⟨xp, ⟨xk, xn, xs⟩⟩ X a1 W hi ⟨B, rfl, hB1, hB2, hB3, hB4⟩ ⟨hl1, hl2, hl3⟩
    obtain ⟨v, hv1, hv2, hv3⟩ := hi.hd
    have cc := cell_of_block hi.hc (j := 0) rfl
    have cd := cell_of_block hv1 (j := 0) rfl
    obtain ⟨va, vc, rfl⟩ := own_sl hv2
    simp only at hB1 hl2 hl3
    by_cases hlt : pre.length = count
    · have HI : RdX w.heap.size w #[.func (.func f1) #[] b1, .func (.func f2) #[] b2, .func (.func f3) #[] b3] count k z (.exit 0) (pre ++ [(xp, ⟨xk, xn, xs⟩)]) W := ⟨⟨pre, (xp, ⟨xk, xn, xs⟩), X, rfl, rfl, hlt, hi⟩⟩
      have hcz : ((pre.length : Nat) : Int) = (count : Int) := by omega
      rw [← hcz] at cc
      clear hcz hlt hi hv1 hv2 hv3 hB1 hB2 hB3 hB4 hl1 hl2 hl3
      unfold rdAct
      gi_wp2
      exact ⟨KeepsOthers.refl _, HI⟩
    · have hne : ((pre.length : Int) == (count : Int)) = false := by simp; omega
      obtain ⟨⟨d0, d1, d2⟩, _⟩ := blk3 hB1
      have hlen := hi.ct
      obtain ⟨i0, hi0, hz0, hz1, hz2⟩ := info_parts infoD
      have hab := alloc_below W (.cells #[.int .i64 xk, .int .i64 xn, .string xs] 48 (0, 0))
      obtain ⟨v', W3, hrun, ho3, hg3, hf3⟩ := run_append_fresh (P := Try.prog) (W.alloc (.cells #[.int .i64 xk, .int .i64 xn, .string xs] 48 (0, 0))) (w.heap.size + 4) 25 25 48 i0 _ 3 32 Try.underlying25 hi0 hz0 hz1 hz2 rfl (by decide) _ _ _ (hv2.alloc _) ⟨W.heap.size, 0, none⟩ 1 1 [.int .i64 xk, .int .i64 xn, .string xs] rfl (new_news W _ _ _) (by simp [Value.oneCell']) (by unfold maxLen; omega) (by omega) (by have := lt_of_heap hi.he; simp; omega)
      obtain ⟨va', vc', rfl⟩ := own_sl ho3
      have hsz := lt_of_heap hi.he
      have hkp : ∀ b, b < W.heap.size → (Value.slice va pre.length vc).ownBlock ≠ some b → W3.heap[b]? = W.heap[b]? := by
        intro b hb hne
        rw [hg3.block b (by simp; omega) (fun e => hne e.symm)]
        exact hab.block b hb
      have own_ge : ∀ g, (Value.slice va pre.length vc).ownBlock = some g → w.heap.size + 4 ≤ g ∧ g < W.heap.size := fun g hg => hv2.lt g hg
      have hnlt : ∀ b, b < w.heap.size + 4 → (Value.slice va pre.length vc).ownBlock ≠ some b := fun b hb e => by have := (own_ge b e).1; omega
      have q2 := (hkp _ (by omega) (hnlt (w.heap.size + 1 + 1) (by omega))).trans hv1
      have q3 := (hkp _ (by omega) (hnlt (w.heap.size + 1 + 1 + 1) (by omega))).trans hi.he
      have q0 := (hkp _ (by omega) (hnlt w.heap.size (by omega))).trans hi.hp
      have q1 := (hkp _ (by omega) (hnlt (w.heap.size + 1) (by omega))).trans hi.hc
      have qB := (hkp _ (lt_of_heap hB1) (hB4 _ hv1)).trans hB1
      obtain ⟨s1, s2⟩ := store1 q2 (.slice va' (pre.length + 1) vc')
      obtain ⟨W4', hW4⟩ : ∃ V, W3.setCell ⟨w.heap.size + 1 + 1, 0, none⟩ (.slice va' (pre.length + 1) vc') = V := ⟨_, rfl⟩
      rw [hW4] at s1 s2
      have r0 := s2.at q0 (by omega)
      have r1 := s2.at q1 (by omega)
      have r3 := s2.at q3 (by omega)
      have rB := s2.at qB (by omega)
      have belW : Below w.heap.size W W3 := ((hab.mono (by omega)).grown hg3 (by simp; omega) (fun g hg => by have := (own_ge g hg).1; omega))
      have belW4 := hi.bel.trans (belW.trans (s2.below (by omega)))
      obtain ⟨g2c, f2c⟩ := blk1 q2
      have C := c1 W4' belW4 ⟨xk, xn, xs⟩ (show xs.size ≤ 1048576 from by have := hB.most; omega)
      obtain ⟨⟨r0a, _, _⟩, _⟩ := blk3 r0
      obtain ⟨⟨rBa, rBb, rBc⟩, _⟩ := blk3 rB
      obtain ⟨sz, HSZ⟩ : ∃ sz, Hid (dsz k z ⟨xk, xn, xs⟩ = sz) := ⟨_, rfl⟩
      rw [HSZ.out] at C hl2
      simp only [dval] at C
      have hl2' : (xp : Int) + (sz : Int) ≤ (len : Int) := by omega
      have hlen1 : (len : Int) ≤ 1048576 := by have := hB.most; omega
      have e1' : ∀ (args : Array Value) (W : World), (callFunc f1 args).run Try.prog W = .ok (.enter f1 args) W := e1
      unfold rdAct
      gi_wp2_with (gi_at_builtin; refine wpListIn_append_run rfl (.tmp 22) (.tmp 24) 25 25 rfl _ _ _ rfl rfl hrun ?_)
      refine ⟨trivial, (CallsIn.inRound l (callsIn_wide.2 C)).mono ?_⟩
      rintro e W5 ⟨rfl, hb5⟩
      have t0 := below_at hb5 r0
      have t1 := below_at hb5 r1
      have t2 := below_at hb5 s1
      have t3 := below_at hb5 r3
      obtain ⟨u1, u2⟩ := store1 t3 (.int .i64 ((xp : Int) + (sz : Int)))
      obtain ⟨W6', hW6⟩ : ∃ V, W5.setCell ⟨w.heap.size + 1 + 1 + 1, 0, none⟩ (.int .i64 ((xp : Int) + (sz : Int))) = V := ⟨_, rfl⟩
      rw [hW6] at u1 u2
      obtain ⟨g3c, f3c⟩ := blk1 t3
      have hFin : ownPostD w.heap.size (RdI w.heap.size w #[.func (.func f1) #[] b1, .func (.func f2) #[] b2, .func (.func f3) #[] b3] count k z) (RdX w.heap.size w #[.func (.func f1) #[] b1, .func (.func f2) #[] b2, .func (.func f3) #[] b3] count k z) (pre ++ [(xp, ⟨xk, xn, xs⟩)]) X W .normal (rdAct w.heap.size #[.func (.func f1) #[] b1, .func (.func f2) #[] b2, .func (.func f3) #[] b3] a len cap count (xp, ⟨xk, xn, xs⟩) B) W6' := by
        have hb4n := s2.below (B := w.heap.size) (by omega)
        have sz3 := belW.size
        have sz4 := s2.size
        have o3 : ∀ g, (Value.slice va' (pre.length + 1) vc').ownBlock = some g → w.heap.size + 4 ≤ g := fun g hg => (ho3.lt g hg).1
        refine ⟨?_, ⟨?_, ?_⟩, ⟨u2.at t0 (by omega), u2.at t1 (by omega), ⟨_, u2.at t2 (by omega), ?_, ?_⟩, ?_, hi.nx, ?_, ?_, ?_⟩⟩
        · have k2 : KeepsOthers (W.alloc (.cells #[.int .i64 xk, .int .i64 xn, .string xs] 48 (0, 0))) W3 := KeepsOthers.of_grownBy hg3 (fun j o hj ho => by
            have h1 := hv2.alloc (.cells #[.int .i64 xk, .int .i64 xn, .string xs] 48 (0, 0))
            rcases h1.2 with ⟨h2, _⟩ | ⟨g, cp, cur, h2, _, h3, _⟩
            · rw [h2] at hj; cases hj
            · rw [h2] at hj
              cases hj
              rw [h3] at ho
              cases ho
              rfl)
          have k3 : KeepsOthers W3 W4' := by rw [← hW4]; exact KeepsOthers.setCell _ _ _
          have k4 : KeepsOthers W4' W5 := ⟨hb5.size, fun k o hk _ => below_at hb5 hk⟩
          have k5 : KeepsOthers W5 W6' := by rw [← hW6]; exact KeepsOthers.setCell _ _ _
          exact ((((KeepsOthers.alloc W (.cells #[.int .i64 xk, .int .i64 xn, .string xs] 48 (0, 0))).trans k2).trans k3).trans k4).trans k5
        · exact ((belW.trans hb4n).trans (hb5.mono (by omega))).trans (u2.below (by omega))
        · intro b hb
          have b1 := hi.bx b hb
          have b2 : ¬ b < w.heap.size + 4 := fun h => hi.nx b h hb
          rw [u2.block b (by omega), hb5.block b (by omega), s2.block b (by omega)]
          exact hkp b b1 (fun e => hv3 b e hb)
        · have e : dcs (dats (pre ++ [(xp, (⟨xk, xn, xs⟩ : Dat))])) = dcs (dats pre) ++ [.int .i64 xk, .int .i64 xn, .string xs] := by simp [dats, dcs_append, dcs, dcells]
          rw [e, List.length_append, List.length_singleton]
          have h4 : W4'.ownsRow (w.heap.size + 4) 48 3 (.slice va' (pre.length + 1) vc') (pre.length + 1) (dcs (dats pre) ++ [.int .i64 xk, .int .i64 xn, .string xs]) := own_same ho3 (fun g o hg ho _ => s2.at ho (by have := o3 g hg; omega))
          exact own_same (own_below h4 hb5) (fun g o hg ho _ => u2.at ho (by have := o3 g hg; omega))
        · intro g hg hx
          rcases hf3 with h | h
          · rw [h] at hg
            exact hv3 g hg hx
          · have h1 := (h.lt g hg).1
            have h2 := hi.bx g hx
            simp at h1
            omega
        · rw [endF_snoc]
          show W6'.heap[_]? = _
          rw [u1, HSZ.out]
          rfl
        · intro b hb
          have := hi.bx b hb
          have h2 := hb5.size
          have h3 := u2.size
          omega
        · exact belW4.trans ((hb5.mono (by have := belW4.size; omega)).trans (u2.below (by omega)))
        · rw [List.length_append, List.length_singleton]; omega
      clear hi hv1 hv2 hv3 hB1 hB2 hB3 hB4 hrun ho3 hg3 hf3 hkp own_ge hnlt q0 q1 q2 q3 qB s1 s2 r0 r1 r3 rB t0 t1 t2 u1 u2 belW belW4 C hb5 hl1 hab d0 d1 d2 r0a rBa rBb rBc f2c g2c hW4 cc cd
      gi_wp2
      exact hFin
  case done =>
    rintro D ys X W hD hvp hi hDf
    obtain ⟨pre', hpe⟩ : ∃ pre', ys = pre' := ⟨_, rfl⟩
    rw [hpe] at hvp hi
    have hpf : pre' <+: vals k z bs 0 := by rw [hvp]; exact List.prefix_rfl
    replace hvp : Hid (pre' = vals k z bs 0) := hvp
    clear hpe
    have cc := cell_of_block hi.hc (j := 0) rfl
    have ce := cell_of_block hi.he (j := 0) rfl
    obtain ⟨v, hd1, hd2, _⟩ := hi.hd
    have cd := cell_of_block hd1 (j := 0) rfl
    obtain ⟨va, vc, rfl⟩ := own_sl hd2
    have hbel := hi.bel
    have hblen := hB.len
    have hlen1 : (len : Int) ≤ 1048576 := by have := hB.most; omega
    by_cases hsh : pre'.length < count
    · have hsh' : decide ((pre'.length : Int) < (count : Int)) = true := by simp; omega
      have hsh'n : decide (pre'.length < count) = true := by simp; omega
      have HE : Hid (rdN k z bs count = 6 ∧ rdL k z bs count = []) := rd_short hc h0 (by rw [← hvp.out]; exact hsh)
      have HHL : Hid (pre'.length ≤ count) := hi.ct
      clear hsh hi hd2 hvp hpf
      go_wp2_with fail
      go_step3
      refine And.intro rfl ?_
      show Code.wp _ _ _ _ _
      go_wp2_with fail
      refine jret ?_
      exact readAll_end (v1 := .slice none 0 0) (n := 6) hDf rfl rfl ⟨.slice none 0 0, by rw [HE.out.1], by rw [HE.out.2]; exact World.ownsRow_nil _ _ _ _, hbel.trans (put_keeps _ _ _ (by omega))⟩
    have hl : pre'.length = count := by have := hi.ct; omega
    have hne : decide ((pre'.length : Int) < (count : Int)) = false := by simp; omega
    have hnen : decide (pre'.length < count) = false := by simp; omega
    obtain ⟨RO1, RO2⟩ := rd_ok hc h0 hpf hl
    by_cases hex : endF k z 0 pre' < len
    · have hex' : decide (((endF k z 0 pre' : Nat) : Int) < (len : Int)) = true := by simp; omega
      have hex'n : decide (endF k z 0 pre' < len) = true := by simp; omega
      have HE : Hid (rdN k z bs count = 7 ∧ rdL k z bs count = []) := RO1 (by rw [hB.len]; exact hex)
      clear hex RO1 RO2 hi hd2 hpf
      go_wp2_with fail
      go_step3
      refine And.intro rfl ?_
      show Code.wp _ _ _ _ _
      go_wp2_with fail
      refine jret ?_
      exact readAll_end (v1 := .slice none 0 0) (n := 7) hDf rfl rfl ⟨.slice none 0 0, by rw [HE.out.1], by rw [HE.out.2]; exact World.ownsRow_nil _ _ _ _, hbel.trans (put_keeps _ _ _ (by omega))⟩
    · have hex' : decide (((endF k z 0 pre' : Nat) : Int) < (len : Int)) = false := by simp; omega
      have hex'n : decide (endF k z 0 pre' < len) = false := by simp; omega
      have HE : Hid (rdN k z bs count = 0 ∧ rdL k z bs count = dats pre') := RO2 (by rw [hB.len]; exact hex)
      have HO : Hid ((W.putObj D (.deferred none)).ownsRow w.heap.size 48 3 (.slice va pre'.length vc) (dats pre').length (dcs (dats pre'))) := by
        have h1 := own_put (own_mono hd2 (B' := w.heap.size) (by omega)) hDf rfl (.deferred none)
        have e : (dats pre').length = pre'.length := by simp [dats]
        show World.ownsRow _ _ _ _ _ _ _
        rw [e]
        exact h1
      clear hex RO1 RO2 hi hd2 hpf
      go_wp2_with fail
      refine jret ?_
      exact readAll_end (v1 := .slice va count vc) (n := 0) hDf rfl rfl ⟨.slice va count vc, by rw [HE.out.1], by rw [HE.out.2, ← hl]; exact HO.out, hbel.trans (put_keeps _ _ _ (by omega))⟩
  case stop =>
    rintro D cd pre W hD hpf ⟨pre', x, X, rfl, rfl, hl, hi⟩ hDf
    replace hpf : pre' <+: vals k z bs 0 := (List.prefix_append _ _).trans hpf
    refine wpIn_wide.2 ?_
    have cc := cell_of_block hi.hc (j := 0) rfl
    have ce := cell_of_block hi.he (j := 0) rfl
    obtain ⟨v, hd1, hd2, _⟩ := hi.hd
    have cd := cell_of_block hd1 (j := 0) rfl
    obtain ⟨va, vc, rfl⟩ := own_sl hd2
    have hbel := hi.bel
    have hblen := hB.len
    have hlen1 : (len : Int) ≤ 1048576 := by have := hB.most; omega
    have hne : decide ((pre'.length : Int) < (count : Int)) = false := by simp; omega
    have hnen : decide (pre'.length < count) = false := by simp; omega
    obtain ⟨RO1, RO2⟩ := rd_ok hc h0 hpf hl
    by_cases hex : endF k z 0 pre' < len
    · have hex' : decide (((endF k z 0 pre' : Nat) : Int) < (len : Int)) = true := by simp; omega
      have hex'n : decide (endF k z 0 pre' < len) = true := by simp; omega
      have HE : Hid (rdN k z bs count = 7 ∧ rdL k z bs count = []) := RO1 (by rw [hB.len]; exact hex)
      clear hex RO1 RO2 hi hd2 hpf
      go_wp2_with fail
      go_step3
      refine And.intro rfl ?_
      show Code.wp _ _ _ _ _
      go_wp2_with fail
      refine jret ?_
      exact readAll_end (v1 := .slice none 0 0) (n := 7) hDf rfl rfl ⟨.slice none 0 0, by rw [HE.out.1], by rw [HE.out.2]; exact World.ownsRow_nil _ _ _ _, hbel.trans (put_keeps _ _ _ (by omega))⟩
    · have hex' : decide (((endF k z 0 pre' : Nat) : Int) < (len : Int)) = false := by simp; omega
      have hex'n : decide (endF k z 0 pre' < len) = false := by simp; omega
      have HE : Hid (rdN k z bs count = 0 ∧ rdL k z bs count = dats pre') := RO2 (by rw [hB.len]; exact hex)
      have HO : Hid ((W.putObj D (.deferred none)).ownsRow w.heap.size 48 3 (.slice va pre'.length vc) (dats pre').length (dcs (dats pre'))) := by
        have h1 := own_put (own_mono hd2 (B' := w.heap.size) (by omega)) hDf rfl (.deferred none)
        have e : (dats pre').length = pre'.length := by simp [dats]
        show World.ownsRow _ _ _ _ _ _ _
        rw [e]
        exact h1
      clear hex RO1 RO2 hi hd2 hpf
      go_wp2_with fail
      refine jret ?_
      exact readAll_end (v1 := .slice va count vc) (n := 0) hDf rfl rfl ⟨.slice va count vc, by rw [HE.out.1], by rw [HE.out.2, ← hl]; exact HO.out, hbel.trans (put_keeps _ _ _ (by omega))⟩
end Go.Proofs.Ytdglobonbhkheaa
