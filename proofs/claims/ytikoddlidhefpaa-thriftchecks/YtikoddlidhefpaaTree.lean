/-
  Structures as trees: a value is what it holds itself and the row of what its List holds; how they lie in memory.
-/
import Derived.Test.YtikoddlidhefpaaBase
namespace Go.Proofs.Ytikoddlidhefpaa
open Go.ChangeShapes Go.WideShapes Go.ChangeAt Go.RowKit

/-- what a value holds itself -/
structure Pay where
  kind : Int
  key : Int
  elem : Int
  num : Int
  text : ByteArray
  ids : List Int

/-- a row of values: the first one, what its List holds, the others -/
abbrev Fo := Deep.BT Pay

def flen : Fo → Nat
  | .nil => 0
  | .node _ _ _ _ r => flen r + 1

def elems : Fo → List (Pay × Fo)
  | .nil => []
  | .node _ _ p c r => (p, c) :: elems r

theorem elems_len : ∀ f : Fo, (elems f).length = flen f
  | .nil => rfl
  | .node _ _ _ _ r => by simp [elems, flen, elems_len r]

def i64ok (n : Int) : Prop := -9223372036854775808 ≤ n ∧ n ≤ 9223372036854775807

/-- its numbers are such of 64 bits, its text and its list of numbers no longer than memory goes -/
structure PayOk (p : Pay) : Prop where
  kind : i64ok p.kind
  key : i64ok p.key
  elem : i64ok p.elem
  num : i64ok p.num
  text : p.text.size ≤ 140737488355328
  ids : p.ids.length ≤ 140737488355328
  idn : ∀ n ∈ p.ids, i64ok n

/-- the seven cells of a value -/
def cells7 (p : Pay) (ia : Option Addr) (ic : Nat) (la : Option Addr) (ll lc : Nat) : List Value :=
  [.int .i64 p.kind, .int .i64 p.key, .int .i64 p.elem, .int .i64 p.num, .string p.text, .slice ia p.ids.length ic, .slice la ll lc]

def c64 (l : List Int) : List Value := l.map (Value.int .i64)

/-- a row of values lies from an address on -/
def FAt (w : World) : Fo → Option Addr → Prop
  | .nil, _ => True
  | .node _ _ p c r, a => ∃ b o, a = some ⟨b, o, none⟩ ∧ b < w.heap.size ∧ PayOk p ∧ flen c ≤ 140737488355328 ∧
      (∃ ia ic la lc, (∀ j u, (cells7 p ia ic la (flen c) lc)[j]? = some u → w.cell? ⟨b, o + j, none⟩ = some u) ∧ Src w ia p.ids.length ic (c64 p.ids) ∧ FAt w c la) ∧
      FAt w r (some ⟨b, o + 7, none⟩)

theorem FAt.later {w w' : World} (hb : Below w.heap.size w w') : ∀ {f : Fo} {a : Option Addr}, FAt w f a → FAt w' f a
  | .nil, _, _ => trivial
  | .node _ _ p c r, a, h => by
    obtain ⟨b, o, h1, h2, h3, h4, ⟨ia, ic, la, lc, h5, h6, h7⟩, h8⟩ := h
    exact ⟨b, o, h1, Nat.lt_of_lt_of_le h2 hb.size, h3, h4, ⟨ia, ic, la, lc, fun j u hj => by rw [hb.cell h2]; exact h5 j u hj, h6.later hb, FAt.later hb h7⟩, FAt.later hb h8⟩

/-- a value as an argument -/
structure VIn (w : World) (p : Pay) (c : Fo) (ia : Option Addr) (ic : Nat) (la : Option Addr) (lc : Nat) : Prop where
  ok : PayOk p
  len : flen c ≤ 140737488355328
  ids : Src w ia p.ids.length ic (c64 p.ids)
  list : FAt w c la

theorem VIn.later {w w' : World} {p : Pay} {c : Fo} {ia : Option Addr} {ic : Nat} {la : Option Addr} {lc : Nat} (h : VIn w p c ia ic la lc) (hb : Below w.heap.size w w') : VIn w' p c ia ic la lc :=
  ⟨h.ok, h.len, h.ids.later hb, h.list.later hb⟩

/-- a value, whole -/
abbrev val (p : Pay) (c : Fo) (ia : Option Addr) (ic : Nat) (la : Option Addr) (lc : Nat) : Value :=
  .agg #[.int .i64 p.kind, .int .i64 p.key, .int .i64 p.elem, .int .i64 p.num, .string p.text, .slice ia p.ids.length ic, .slice la (flen c) lc]

/-- the i-th of a row -/
theorem FAt.at {w : World} : ∀ {f : Fo} {a : Option Addr} {i : Nat} {p : Pay} {c : Fo}, FAt w f a → (elems f)[i]? = some (p, c) →
    ∃ b o ia ic la lc, a = some ⟨b, o, none⟩ ∧ b < w.heap.size ∧ (∀ j u, (cells7 p ia ic la (flen c) lc)[j]? = some u → w.cell? ⟨b, o + i * 7 + j, none⟩ = some u) ∧ VIn w p c ia ic la lc
  | .nil, _, _, _, _, _, h => by simp [elems] at h
  | .node _ _ p' c' r, a, 0, p, c, h, e => by
    obtain ⟨b, o, h1, h2, h3, h4, ⟨ia, ic, la, lc, h5, h6, h7⟩, h8⟩ := h
    simp [elems] at e
    obtain ⟨rfl, rfl⟩ := e
    exact ⟨b, o, ia, ic, la, lc, h1, h2, by simpa using h5, h3, h4, h6, h7⟩
  | .node _ _ p' c' r, a, i + 1, p, c, h, e => by
    obtain ⟨b, o, h1, h2, h3, h4, _, h8⟩ := h
    simp [elems] at e
    obtain ⟨b', o', ia, ic, la, lc, k1, k2, k3, k4⟩ := FAt.at h8 e
    cases k1
    exact ⟨b, o, ia, ic, la, lc, h1, h2, fun j u hj => by have := k3 j u hj; rw [← this]; congr 2; omega, k4⟩

theorem cell7 {w : World} {b o : Nat} {p : Pay} {ia : Option Addr} {ic : Nat} {la : Option Addr} {ll lc : Nat} (h : ∀ j u, (cells7 p ia ic la ll lc)[j]? = some u → w.cell? ⟨b, o + j, none⟩ = some u) :
    w.cell? ⟨b, o, none⟩ = some (.int .i64 p.kind) ∧ w.cell? ⟨b, o + 1, none⟩ = some (.int .i64 p.key) ∧ w.cell? ⟨b, o + 2, none⟩ = some (.int .i64 p.elem) ∧ w.cell? ⟨b, o + 3, none⟩ = some (.int .i64 p.num) ∧
    w.cell? ⟨b, o + 4, none⟩ = some (.string p.text) ∧ w.cell? ⟨b, o + 5, none⟩ = some (.slice ia p.ids.length ic) ∧ w.cell? ⟨b, o + 6, none⟩ = some (.slice la ll lc) :=
  ⟨h 0 _ rfl, h 1 _ rfl, h 2 _ rfl, h 3 _ rfl, h 4 _ rfl, h 5 _ rfl, h 6 _ rfl⟩

/-- what holds of all values holds where it is shown of one by those in its List -/
theorem all_values {C : Pay → Fo → Prop} (step : ∀ p c, (∀ x ∈ elems c, C x.1 x.2) → C p c) : ∀ f : Fo, ∀ x ∈ elems f, C x.1 x.2
  | .nil, x, h => by simp [elems] at h
  | .node _ _ p c r, x, h => by
    simp only [elems, List.mem_cons] at h
    rcases h with rfl | h
    · exact step p c (all_values step c)
    · exact all_values step r x h
theorem every_value {C : Pay → Fo → Prop} (step : ∀ p c, (∀ x ∈ elems c, C x.1 x.2) → C p c) (p : Pay) (c : Fo) : C p c := step p c (all_values step c)
def fdrop : Fo → Nat → Fo
  | f, 0 => f
  | .nil, _ + 1 => .nil
  | .node _ _ _ _ r, i + 1 => fdrop r i

theorem fdrop_at : ∀ {f : Fo} {i : Nat} {p : Pay} {c : Fo}, (elems f)[i]? = some (p, c) → ∃ b o, fdrop f i = .node b o p c (fdrop f (i + 1))
  | .nil, _, _, _, h => by simp [elems] at h
  | .node b o p' c' r, 0, p, c, h => by
    simp [elems] at h
    obtain ⟨rfl, rfl⟩ := h
    cases r <;> exact ⟨b, o, rfl⟩
  | .node _ _ p' c' r, i + 1, p, c, h => by
    simp [elems] at h
    obtain ⟨b, o, e⟩ := fdrop_at h
    exact ⟨b, o, by simp [fdrop, e]⟩
theorem fdrop_end : ∀ (f : Fo), fdrop f (flen f) = .nil
  | .nil => rfl
  | .node _ _ _ _ r => by simp [fdrop, flen, fdrop_end r]

theorem heap_new (w : World) (o : Obj) : (w.alloc o).heap[w.heap.size]? = some o := by
  show (w.heap.push o)[w.heap.size]? = some o
  simp

/-- a box that was laid is read in each later world -/
theorem box_cell {w w' : World} {C : Array Value} {t : TypeId} {fr : Nat × Nat} (h : Below (w.heap.size + 1) (w.alloc (.cells C t fr)) w') {j : Nat} {u : Value} (hj : C[j]? = some u) : w'.cell? ⟨w.heap.size, j, none⟩ = some u := by
  rw [h.cell (Nat.lt_succ_self _)]
  have e : (w.alloc (.cells C t fr)).heap[w.heap.size]? = some (.cells C t fr) := heap_new w _
  unfold World.cell?
  rw [e]
  simpa using hj
theorem alloc_cell (w : World) (C : Array Value) (t : TypeId) (fr : Nat × Nat) {j : Nat} {u : Value} (hj : C[j]? = some u) : (w.alloc (.cells C t fr)).cell? ⟨w.heap.size, j, none⟩ = some u :=
  box_cell (Below.refl _ _) hj
theorem alloc_below (w : World) (o : Obj) : Below w.heap.size w (w.alloc o) := (Below.refl _ w).alloc (Nat.le_refl _) o
theorem alloc2_cell (w : World) (o : Obj) (C : Array Value) (t : TypeId) (fr : Nat × Nat) {j : Nat} {u : Value} (hj : C[j]? = some u) : ((w.alloc o).alloc (.cells C t fr)).cell? ⟨w.heap.size + 1, j, none⟩ = some u := by
  have h := alloc_cell (w.alloc o) C t fr hj
  have e : (w.alloc o).heap.size = w.heap.size + 1 := by simp
  rwa [e] at h
theorem alloc2_cell' (w : World) (o : Obj) (C : Array Value) (t : TypeId) (fr : Nat × Nat) {j : Nat} {u : Value} (hj : C[j]? = some u) : ((w.alloc (.cells C t fr)).alloc o).cell? ⟨w.heap.size, j, none⟩ = some u :=
  cell_later (alloc_below _ _) (alloc_cell w C t fr hj)
theorem box_below {w w' : World} {o : Obj} (h : Below (w.heap.size + 1) (w.alloc o) w') : Below w.heap.size w w' :=
  ((Below.refl _ w).alloc (Nat.le_refl _) o).trans (h.mono (Nat.le_succ _))
theorem box_size {w w' : World} {o : Obj} (h : Below (w.heap.size + 1) (w.alloc o) w') : w.heap.size + 1 ≤ w'.heap.size := by have := h.size; simpa using this

/-- the i-th value of a row that lies in memory, its cells, and what is behind it -/
theorem row_at {w : World} {f : Fo} {a : Option Addr} {i : Nat} (h : FAt w f a) (hi : i < flen f) :
    ∃ q d b o ja jc ka kc bt ot, (elems f)[i]? = some (q, d) ∧ (q, d) ∈ elems f ∧ fdrop f i = .node bt ot q d (fdrop f (i + 1)) ∧ a = some ⟨b, o, none⟩ ∧ b < w.heap.size ∧ VIn w q d ja jc ka kc ∧
    w.cell? ⟨b, o + i * 7, none⟩ = some (.int .i64 q.kind) ∧ w.cell? ⟨b, o + i * 7 + 1, none⟩ = some (.int .i64 q.key) ∧ w.cell? ⟨b, o + i * 7 + 2, none⟩ = some (.int .i64 q.elem) ∧ w.cell? ⟨b, o + i * 7 + 3, none⟩ = some (.int .i64 q.num) ∧
    w.cell? ⟨b, o + i * 7 + 4, none⟩ = some (.string q.text) ∧ w.cell? ⟨b, o + i * 7 + 5, none⟩ = some (.slice ja q.ids.length jc) ∧ w.cell? ⟨b, o + i * 7 + 6, none⟩ = some (.slice ka (flen d) kc) := by
  have hi' : i < (elems f).length := by rw [elems_len]; exact hi
  obtain ⟨⟨q, d⟩, hq⟩ : ∃ x, (elems f)[i]? = some x := ⟨_, List.getElem?_eq_getElem hi'⟩
  obtain ⟨b, o, ja, jc, ka, kc, h1, h2, h3, h4⟩ := h.at hq
  obtain ⟨bt, ot, ef⟩ := fdrop_at hq
  exact ⟨q, d, b, o, ja, jc, ka, kc, bt, ot, hq, List.mem_of_getElem? hq, ef, h1, h2, h4, cell7 h3⟩
/-- the world in which a value was laid into a box of its own -/
abbrev bx (w : World) (p : Pay) (c : Fo) (ia : Option Addr) (ic : Nat) (la : Option Addr) (lc : Nat) : World :=
  w.alloc (.cells #[.int .i64 p.kind, .int .i64 p.key, .int .i64 p.elem, .int .i64 p.num, .string p.text, .slice ia p.ids.length ic, .slice la (flen c) lc] 26)
theorem bx_cells {w w' : World} {p : Pay} {c : Fo} {ia : Option Addr} {ic : Nat} {la : Option Addr} {lc : Nat} (h : Below (w.heap.size + 1) (bx w p c ia ic la lc) w') :
    w'.cell? ⟨w.heap.size, 0, none⟩ = some (.int .i64 p.kind) ∧ w'.cell? ⟨w.heap.size, 1, none⟩ = some (.int .i64 p.key) ∧ w'.cell? ⟨w.heap.size, 2, none⟩ = some (.int .i64 p.elem) ∧ w'.cell? ⟨w.heap.size, 3, none⟩ = some (.int .i64 p.num) ∧
    w'.cell? ⟨w.heap.size, 4, none⟩ = some (.string p.text) ∧ w'.cell? ⟨w.heap.size, 5, none⟩ = some (.slice ia p.ids.length ic) ∧ w'.cell? ⟨w.heap.size, 6, none⟩ = some (.slice la (flen c) lc) :=
  ⟨box_cell h rfl, box_cell h rfl, box_cell h rfl, box_cell h rfl, box_cell h rfl, box_cell h rfl, box_cell h rfl⟩
theorem bx_size (w : World) (p : Pay) (c : Fo) (ia : Option Addr) (ic : Nat) (la : Option Addr) (lc : Nat) : (bx w p c ia ic la lc).heap.size = w.heap.size + 1 := by simp
theorem heap2_new (w : World) (o o' : Obj) : ((w.alloc o).alloc o').heap[w.heap.size + 1]? = some o' := by
  have h := heap_new (w.alloc o) o'
  have e : (w.alloc o).heap.size = w.heap.size + 1 := by simp
  rwa [e] at h
theorem infoTh : (Try.prog.info? 26).map (·.size) = some 7 := by kernel_rfl
/-- a result that lives in memory -/
theorem results_val {fn : Func} {t : Tmp} (h : fn.results = #[.cell t 26]) (tmps : Array Value) (w : World) (b o : Nat) (hp : tmps.getD t undef = .pointer (some ⟨b, o, none⟩)) (cs : List Value) (hl : cs.length = 7)
    (hc : ∀ j u, cs[j]? = some u → w.cell? ⟨b, o + j, none⟩ = some u) : (results fn tmps).run Try.prog w = .ok (.agg cs.toArray) w := by
  have hp' : tmps[t]?.getD undef = .pointer (some ⟨b, o, none⟩) := by simpa using hp
  have hld : (loadCells ⟨b, o, none⟩ cs.length).run Try.prog w = .ok cs.toArray w :=
    run_loadCells_list (P := Try.prog) w ⟨b, o, none⟩ cs (fun j v hv => by
      have hadd : (⟨b, o, none⟩ : Addr).add j = ⟨b, o + j, none⟩ := by unfold Addr.add; split <;> simp_all
      rw [hadd]
      exact hc j v hv)
  rw [hl] at hld
  have hagg : (isAgg 26).run Try.prog w = .ok true w := by
    unfold isAgg
    rw [Sem.run_bind, run_underlying Try.underlying26 w]
    simp
  have hi := infoTh
  cases hq : Try.prog.info? 26 with
  | none => simp [hq] at hi
  | some i =>
    have hs : i.size = 7 := by simpa [hq] using hi
    simp [results, h, hp', asAddr, loadVar, Sem.run_bind, hagg, sizeOf, typeInfo, hq, hs, hld]
theorem alloc2_cells (w : World) (o : Obj) (C : Array Value) (t : TypeId) (fr : Nat × Nat) : ∀ j u, C.toList[j]? = some u → ((w.alloc o).alloc (.cells C t fr)).cell? ⟨w.heap.size + 1, 0 + j, none⟩ = some u := by
  intro j u hj
  rw [Nat.zero_add]
  exact alloc2_cell w o C t fr (by simpa using hj)
theorem alloc_cells (w : World) (C : Array Value) (t : TypeId) (fr : Nat × Nat) : ∀ j u, C.toList[j]? = some u → (w.alloc (.cells C t fr)).cell? ⟨w.heap.size, 0 + j, none⟩ = some u := by
  intro j u hj
  rw [Nat.zero_add]
  exact alloc_cell w C t fr (by simpa using hj)
theorem c64_get {l : List Int} {i : Nat} (h : i < l.length) : (c64 l)[i]? = some (.int .i64 (l.getD i 0)) := by
  simp [c64, List.getElem?_eq_getElem h, List.getD]
theorem c64_len (l : List Int) : (c64 l).length = l.length := by simp [c64]
theorem c64_one (l : List Int) : ∀ u ∈ c64 l, u.oneCell' = true := by
  intro u hu
  obtain ⟨n, _, rfl⟩ := List.mem_map.1 hu
  rfl
/-- a number that can be read off a slice -/
theorem ids_at {w : World} {ad : Option Addr} {len cap : Nat} {l : List Int} (h : Src w ad len cap (c64 l)) {j : Nat} (hj : j < len) :
    ∃ g off, ad = some ⟨g, off, none⟩ ∧ w.cell? ⟨g, off + j, none⟩ = some (.int .i64 (l.getD j 0)) := by
  have hl : l.length = len := by have := h.1; rwa [c64_len] at this
  rcases h.2 with ⟨_, h1, _⟩ | ⟨p, h1, h2⟩
  · omega
  · obtain ⟨g, off, spot⟩ := p
    have hc := h2 j _ (c64_get (by omega))
    have hc0 := h2 0 _ (c64_get (by omega))
    have hspot : spot = none := by simpa [Addr.add] using World.cell?_spot hc0
    subst hspot
    refine ⟨g, off, h1, ?_⟩
    rw [← hc]
    unfold Addr.add
    split <;> simp_all
end Go.Proofs.Ytikoddlidhefpaa
