/-
  What the walks say of slices that came in or that the call made: sources of an append, nil or not.
-/
import Derived.Test.YtikoddlidhefpaaRows
import Derived.WalkKit
import Derived.ProofKit
import Derived.OpenShut
import Derived.WalkSpells
import Derived.OwnWalk
import Derived.Below
import Derived.Deep.Trees
import Derived.Laws.AppendOwnNone
import Derived.Laws.OwnMore
namespace Go.Proofs.Ytikoddlidhefpaa
open Go.ChangeShapes Go.WideShapes Go.ChangeAt Go.RowKit
/-- the cells 'news' can be read off the slice -/
def Src (w : World) (ad : Option Addr) (m c : Nat) (news : List Value) : Prop :=
  news.length = m ∧ ((ad = none ∧ m = 0 ∧ c = 0) ∨ ∃ p, ad = some p ∧ ∀ j u, news[j]? = some u → w.cell? (p.add j) = some u)

theorem Src.later {w w' : World} {ad : Option Addr} {m c : Nat} {news : List Value} (h : Src w ad m c news) (hb : Below w.heap.size w w') : Src w' ad m c news := by
  refine ⟨h.1, ?_⟩
  rcases h.2 with h1 | ⟨p, h1, h2⟩
  · exact .inl h1
  · exact .inr ⟨p, h1, fun j u hj => cell_later hb (h2 j u hj)⟩

theorem src_own {w : World} {B : Nat} {e : TypeId} {ad : Option Addr} {m c n : Nat} {xs : List Value} (h : w.ownsRow B e 1 (.slice ad m c) n xs) : m = n ∧ Src w ad m c xs := by
  have hl := h.1
  rcases h.2 with ⟨h1, rfl⟩ | ⟨g, cap, cur, h1, h2, h3, h4⟩
  · cases h1
    exact ⟨rfl, by simpa using hl, .inl ⟨rfl, rfl, rfl⟩⟩
  · cases h1
    refine ⟨rfl, by omega, .inr ⟨_, rfl, fun j u hj => ?_⟩⟩
    exact World.ownsRow.cells h rfl j u hj

theorem ints_one (k : IntKind) (l : List Int) : ∀ u ∈ l.map (Value.int k), u.oneCell' = true := by
  intro u hu
  obtain ⟨n, _, rfl⟩ := List.mem_map.1 hu
  rfl
theorem own_some {w : World} {B : Nat} {e : TypeId} {s : Nat} {v : Value} {n : Nat} {xs : List Value} (h : w.ownsRow B e s v n xs) (hn : 1 ≤ n) : ∃ g c, v = .slice (some ⟨g, 0, none⟩) n c := by
  rcases h.2 with ⟨_, h0⟩ | ⟨g, cap, cur, h1, _⟩
  · omega
  · exact ⟨g, cap, h1⟩

theorem wpList_append_src {P : Program} {w : World} {ops : Array Oper} {rest : List Oper} {o : Oper} {a : Act} {Q : Exit → Act → World → Prop} (hgd : o.guard = none) (s x : Operand) (t : TypeId)
    (ho : o.op = .call { callee := .builtin .append, args := #[s, x], argTypes := #[t, t] })
    (base : Nat) (e : TypeId) (i : TypeInfo) (z : Value) (bytes : Nat) (ht : P.underlying t = some (.slice e)) (hi : P.info? e = some i) (hz : i.zero = some z)
    (hsize : i.size = 1) (hby : i.bytes = bytes) (hzs : z.cells.size = 1)
    (v : Value) (n : Nat) (xs : List Value) (hs : a.eval s = v) (hown : w.ownsRow base e 1 v n xs)
    (ad : Option Addr) (m c : Nat) (news : List Value) (hx : a.eval x = .slice ad m c) (hsrc : Src w ad m c news) (h1 : ∀ u ∈ news, u.oneCell' = true)
    (h63 : n + m ≤ maxLen) (hbytes : (n + m) * bytes ≤ 140737488355328) (hbase : base ≤ w.heap.size)
    (h : ∀ v' w', w'.ownsRow base e 1 v' (n + m) (xs ++ news) → Below base w w' → wpList P ops Q rest (a.put o.dst v') w') : wpList P ops Q (o :: rest) a w := by
  rcases hsrc.2 with ⟨rfl, rfl, rfl⟩ | ⟨p, rfl, h2⟩
  · have hn : news = [] := List.length_eq_zero_iff.1 hsrc.1
    subst hn
    refine wpList_append_own_none hgd s x t ho base e i 1 ht hi v n xs hs hown hx ?_
    exact h v w (by simpa using hown) (Below.refl _ _)
  · refine wpList_append_own w hgd s x t ho base e i z 1 bytes ht hi hz hsize hby hzs (by decide) v n xs hs hown p m c news hx (by simpa using hsrc.1) h2 h1 h63 hbytes hbase ?_
    intro v' w' ho' hg _
    exact h v' w' ho' ((Below.refl base w).grown hg hbase (fun k hk => (hown.lt k hk).1))

/-- bytes, as cells -/
def c8 (l : List Nat) : List Value := l.map fun b : Nat => Value.int .u8 (b : Int)
theorem c8_one (l : List Nat) : ∀ u ∈ c8 l, u.oneCell' = true := by
  intro u hu
  obtain ⟨n, _, rfl⟩ := List.mem_map.1 hu
  rfl
theorem c8_len (l : List Nat) : (c8 l).length = l.length := by simp [c8]
theorem c8_append (l m : List Nat) : c8 (l ++ m) = c8 l ++ c8 m := by simp [c8]
theorem c8_get {l : List Nat} {i : Nat} (h : i < l.length) : (c8 l)[i]? = some (.int .u8 ((l.getD i 0 : Nat) : Int)) := by
  simp [c8, List.getElem?_eq_getElem h, List.getD]
theorem own_sl {w : World} {B : Nat} {e : TypeId} {s : Nat} {v : Value} {n : Nat} {xs : List Value} (h : w.ownsRow B e s v n xs) : ∃ ad c, v = .slice ad n c := by
  rcases h.2 with ⟨h0, rfl⟩ | ⟨g, cap, cur, h1, _⟩
  · exact ⟨none, 0, h0⟩
  · exact ⟨_, cap, h1⟩
/-- a byte that can be read off a slice -/
theorem src_at {w : World} {ad : Option Addr} {len cap : Nat} {l : List Nat} (h : Src w ad len cap (c8 l)) {j : Nat} (hj : j < len) :
    ∃ g off, ad = some ⟨g, off, none⟩ ∧ w.cell? ⟨g, off + j, none⟩ = some (.int .u8 ((l.getD j 0 : Nat) : Int)) := by
  have hl : l.length = len := by have := h.1; rwa [c8_len] at this
  rcases h.2 with ⟨_, h1, _⟩ | ⟨p, h1, h2⟩
  · omega
  · obtain ⟨g, off, spot⟩ := p
    have hc := h2 j _ (c8_get (by omega))
    have hc0 := h2 0 _ (c8_get (by omega))
    have hspot : spot = none := by simpa [Addr.add] using World.cell?_spot hc0
    subst hspot
    refine ⟨g, off, h1, ?_⟩
    rw [← hc]
    unfold Addr.add
    split <;> simp_all
end Go.Proofs.Ytikoddlidhefpaa

/-
  What every law of the layer needs of its frame.
-/
namespace Go.Proofs.Ytikoddlidhefpaa
open Go.ChangeShapes Go.WideShapes Go.ChangeAt Go.RowKit

theorem own : ownKnob Try.prog.godebug = none := by kernel_rfl
theorem laidOut : laidOutB Try.prog = true := by kernel_rfl
/-- a slice of numbers that came in: nil, or a row of 'cap' cells, the numbers 'zs', of which the first 'len' are its elements -/
def IsRow (k : IntKind) (w : World) (a : Option Addr) (len cap : Nat) (zs : List Int) : Prop :=
  (a = none ∧ len = 0 ∧ cap = 0 ∧ zs = []) ∨
  ∃ x, a = some x ∧ len ≤ cap ∧ cap ≤ maxLen ∧ zs.length = cap ∧ (∀ i, i < zs.length → w.cell? (x.add i) = some (.int k (zs.getD i 0))) ∧ ∀ n ∈ zs, (Lit.int k n).wf = true

theorem IsRow.len_le {k : IntKind} {w : World} {a : Option Addr} {len cap : Nat} {zs : List Int} (h : IsRow k w a len cap zs) : len ≤ zs.length ∧ zs.length = cap := by
  rcases h with ⟨_, rfl, rfl, rfl⟩ | ⟨x, _, h1, _, h2, _⟩
  · simp
  · omega
theorem IsRow.src {k : IntKind} {w : World} {a : Option Addr} {len cap : Nat} {zs : List Int} (h : IsRow k w a len cap zs) : Src w a len cap ((zs.take len).map (Value.int k)) := by
  rcases h with ⟨rfl, rfl, rfl, rfl⟩ | ⟨x, rfl, h1, _, h2, h3, _⟩
  · exact ⟨rfl, .inl ⟨rfl, rfl, rfl⟩⟩
  · refine ⟨by simp; omega, .inr ⟨x, rfl, fun j u hj => ?_⟩⟩
    have hl : j < len ∧ j < zs.length := by
      rcases Nat.lt_or_ge j ((zs.take len).map (Value.int k)).length with hh | hh
      · simp at hh; omega
      · rw [List.getElem?_eq_none hh] at hj; cases hj
    rw [h3 j hl.2]
    simp [hl.1, List.getElem?_eq_getElem hl.2] at hj
    subst hj
    simp [List.getD, List.getElem?_eq_getElem hl.2]
/-- bytes that came in, opened -/
theorem row_open {H : Type} {enc : TypeId × Value → H} {W : World} {a : Option Addr} {len cap : Nat} {base : Nat} {held : Bool} {d : DataW H} {p : List MemPlace}
    (h : ∃ fuel, DataW.trod enc Try.prog W base (fun _ => true) held fuel 37 (Value.slice a len cap).cells.toList = some (d, p)) : ∃ zs, IsRow .u8 W a len cap zs := by
  obtain ⟨fuel, hf⟩ := h
  rcases open_ints Try.underlying37 Try.underlying5 (by kernel_rfl) hf with ⟨hcs, _⟩ | ⟨x, l, c, zs, hcs, _, hl, hm, hz, _, hcell, hwz⟩
  · simp [Value.cells] at hcs
    obtain ⟨rfl, rfl, rfl⟩ := hcs
    exact ⟨[], .inl ⟨rfl, rfl, rfl, rfl⟩⟩
  · simp [Value.cells] at hcs
    obtain ⟨rfl, rfl, rfl⟩ := hcs
    exact ⟨zs, .inr ⟨_, rfl, hl, hm, by simpa using hz, hcell, hwz⟩⟩
/-- what came in as a row of bytes is bytes -/
theorem row_nat {w : World} {a : Option Addr} {l c : Nat} {z : List Int} (h : IsRow .u8 w a l c z) : ∃ bs : List Nat, bs.length = l ∧ (∀ x ∈ bs, x < 256) ∧ Src w a l c (c8 bs) := by
  have hb : ∀ x ∈ z.take l, 0 ≤ x ∧ x ≤ 255 := by
    intro x hx
    have hx' := List.mem_of_mem_take hx
    rcases h with ⟨_, _, _, rfl⟩ | ⟨_, _, _, _, _, _, hw⟩
    · cases hx'
    · simpa [Lit.wf, IntKind.min, IntKind.max, IntKind.signed, IntKind.bits] using hw x hx'
  have hl : (z.take l).length = l := by have := h.len_le; rw [List.length_take]; omega
  have s := h.src
  generalize z.take l = zs at *
  refine ⟨zs.map Int.toNat, by simpa using hl, ?_, ?_⟩
  · intro n hn
    obtain ⟨x, hx, rfl⟩ := List.mem_map.1 hn
    have := hb x hx
    omega
  · unfold c8
    rw [List.map_map]
    rw [show zs.map ((fun b : Nat => Value.int .u8 (b : Int)) ∘ Int.toNat) = zs.map (Value.int .u8) from List.map_congr_left (fun x hx => by
      have := hb x hx
      show Value.int .u8 ((x.toNat : Nat) : Int) = _
      rw [Int.toNat_of_nonneg this.1])]
    exact s
end Go.Proofs.Ytikoddlidhefpaa

/-
  Structures as trees: a value is what it holds itself and the row of what its List holds; how they lie in memory.
-/
namespace Go.Proofs.Ytikoddlidhefpaa
open Go.ChangeShapes Go.WideShapes Go.ChangeAt Go.RowKit

/-- what a value holds itself -/
structure Pay where
  kind : Int
  key : Int
  elem : Int
  num : Int
  text : ByteArray
  ids : List Int

/-- a row of values: the first one, what its List holds, the others -/
abbrev Fo := Deep.BT Pay

def flen : Fo → Nat
  | .nil => 0
  | .node _ _ _ _ r => flen r + 1

def elems : Fo → List (Pay × Fo)
  | .nil => []
  | .node _ _ p c r => (p, c) :: elems r

theorem elems_len : ∀ f : Fo, (elems f).length = flen f
  | .nil => rfl
  | .node _ _ _ _ r => by simp [elems, flen, elems_len r]

def i64ok (n : Int) : Prop := -9223372036854775808 ≤ n ∧ n ≤ 9223372036854775807

/-- its numbers are such of 64 bits, its text and its list of numbers no longer than memory goes -/
structure PayOk (p : Pay) : Prop where
  kind : i64ok p.kind
  key : i64ok p.key
  elem : i64ok p.elem
  num : i64ok p.num
  text : p.text.size ≤ 140737488355328
  ids : p.ids.length ≤ 140737488355328
  idn : ∀ n ∈ p.ids, i64ok n

/-- the seven cells of a value -/
def cells7 (p : Pay) (ia : Option Addr) (ic : Nat) (la : Option Addr) (ll lc : Nat) : List Value :=
  [.int .i64 p.kind, .int .i64 p.key, .int .i64 p.elem, .int .i64 p.num, .string p.text, .slice ia p.ids.length ic, .slice la ll lc]

def c64 (l : List Int) : List Value := l.map (Value.int .i64)

/-- a row of values lies from an address on -/
def FAt (w : World) : Fo → Option Addr → Prop
  | .nil, _ => True
  | .node _ _ p c r, a => ∃ b o, a = some ⟨b, o, none⟩ ∧ b < w.heap.size ∧ PayOk p ∧ flen c ≤ 140737488355328 ∧
      (∃ ia ic la lc, (∀ j u, (cells7 p ia ic la (flen c) lc)[j]? = some u → w.cell? ⟨b, o + j, none⟩ = some u) ∧ Src w ia p.ids.length ic (c64 p.ids) ∧ FAt w c la) ∧
      FAt w r (some ⟨b, o + 7, none⟩)

theorem FAt.later {w w' : World} (hb : Below w.heap.size w w') : ∀ {f : Fo} {a : Option Addr}, FAt w f a → FAt w' f a
  | .nil, _, _ => trivial
  | .node _ _ p c r, a, h => by
    obtain ⟨b, o, h1, h2, h3, h4, ⟨ia, ic, la, lc, h5, h6, h7⟩, h8⟩ := h
    exact ⟨b, o, h1, Nat.lt_of_lt_of_le h2 hb.size, h3, h4, ⟨ia, ic, la, lc, fun j u hj => by rw [hb.cell h2]; exact h5 j u hj, h6.later hb, FAt.later hb h7⟩, FAt.later hb h8⟩

/-- a value as an argument -/
structure VIn (w : World) (p : Pay) (c : Fo) (ia : Option Addr) (ic : Nat) (la : Option Addr) (lc : Nat) : Prop where
  ok : PayOk p
  len : flen c ≤ 140737488355328
  ids : Src w ia p.ids.length ic (c64 p.ids)
  list : FAt w c la

theorem VIn.later {w w' : World} {p : Pay} {c : Fo} {ia : Option Addr} {ic : Nat} {la : Option Addr} {lc : Nat} (h : VIn w p c ia ic la lc) (hb : Below w.heap.size w w') : VIn w' p c ia ic la lc :=
  ⟨h.ok, h.len, h.ids.later hb, h.list.later hb⟩

/-- a value, whole -/
abbrev val (p : Pay) (c : Fo) (ia : Option Addr) (ic : Nat) (la : Option Addr) (lc : Nat) : Value :=
  .agg #[.int .i64 p.kind, .int .i64 p.key, .int .i64 p.elem, .int .i64 p.num, .string p.text, .slice ia p.ids.length ic, .slice la (flen c) lc]

/-- the i-th of a row -/
theorem FAt.at {w : World} : ∀ {f : Fo} {a : Option Addr} {i : Nat} {p : Pay} {c : Fo}, FAt w f a → (elems f)[i]? = some (p, c) →
    ∃ b o ia ic la lc, a = some ⟨b, o, none⟩ ∧ b < w.heap.size ∧ (∀ j u, (cells7 p ia ic la (flen c) lc)[j]? = some u → w.cell? ⟨b, o + i * 7 + j, none⟩ = some u) ∧ VIn w p c ia ic la lc
  | .nil, _, _, _, _, _, h => by simp [elems] at h
  | .node _ _ p' c' r, a, 0, p, c, h, e => by
    obtain ⟨b, o, h1, h2, h3, h4, ⟨ia, ic, la, lc, h5, h6, h7⟩, h8⟩ := h
    simp [elems] at e
    obtain ⟨rfl, rfl⟩ := e
    exact ⟨b, o, ia, ic, la, lc, h1, h2, by simpa using h5, h3, h4, h6, h7⟩
  | .node _ _ p' c' r, a, i + 1, p, c, h, e => by
    obtain ⟨b, o, h1, h2, h3, h4, _, h8⟩ := h
    simp [elems] at e
    obtain ⟨b', o', ia, ic, la, lc, k1, k2, k3, k4⟩ := FAt.at h8 e
    cases k1
    exact ⟨b, o, ia, ic, la, lc, h1, h2, fun j u hj => by have := k3 j u hj; rw [← this]; congr 2; omega, k4⟩

theorem cell7 {w : World} {b o : Nat} {p : Pay} {ia : Option Addr} {ic : Nat} {la : Option Addr} {ll lc : Nat} (h : ∀ j u, (cells7 p ia ic la ll lc)[j]? = some u → w.cell? ⟨b, o + j, none⟩ = some u) :
    w.cell? ⟨b, o, none⟩ = some (.int .i64 p.kind) ∧ w.cell? ⟨b, o + 1, none⟩ = some (.int .i64 p.key) ∧ w.cell? ⟨b, o + 2, none⟩ = some (.int .i64 p.elem) ∧ w.cell? ⟨b, o + 3, none⟩ = some (.int .i64 p.num) ∧
    w.cell? ⟨b, o + 4, none⟩ = some (.string p.text) ∧ w.cell? ⟨b, o + 5, none⟩ = some (.slice ia p.ids.length ic) ∧ w.cell? ⟨b, o + 6, none⟩ = some (.slice la ll lc) :=
  ⟨h 0 _ rfl, h 1 _ rfl, h 2 _ rfl, h 3 _ rfl, h 4 _ rfl, h 5 _ rfl, h 6 _ rfl⟩

/-- what holds of all values holds where it is shown of one by those in its List -/
theorem all_values {C : Pay → Fo → Prop} (step : ∀ p c, (∀ x ∈ elems c, C x.1 x.2) → C p c) : ∀ f : Fo, ∀ x ∈ elems f, C x.1 x.2
  | .nil, x, h => by simp [elems] at h
  | .node _ _ p c r, x, h => by
    simp only [elems, List.mem_cons] at h
    rcases h with rfl | h
    · exact step p c (all_values step c)
    · exact all_values step r x h
theorem every_value {C : Pay → Fo → Prop} (step : ∀ p c, (∀ x ∈ elems c, C x.1 x.2) → C p c) (p : Pay) (c : Fo) : C p c := step p c (all_values step c)
def fdrop : Fo → Nat → Fo
  | f, 0 => f
  | .nil, _ + 1 => .nil
  | .node _ _ _ _ r, i + 1 => fdrop r i

theorem fdrop_at : ∀ {f : Fo} {i : Nat} {p : Pay} {c : Fo}, (elems f)[i]? = some (p, c) → ∃ b o, fdrop f i = .node b o p c (fdrop f (i + 1))
  | .nil, _, _, _, h => by simp [elems] at h
  | .node b o p' c' r, 0, p, c, h => by
    simp [elems] at h
    obtain ⟨rfl, rfl⟩ := h
    cases r <;> exact ⟨b, o, rfl⟩
  | .node _ _ p' c' r, i + 1, p, c, h => by
    simp [elems] at h
    obtain ⟨b, o, e⟩ := fdrop_at h
    exact ⟨b, o, by simp [fdrop, e]⟩
theorem fdrop_end : ∀ (f : Fo), fdrop f (flen f) = .nil
  | .nil => rfl
  | .node _ _ _ _ r => by simp [fdrop, flen, fdrop_end r]

theorem heap_new (w : World) (o : Obj) : (w.alloc o).heap[w.heap.size]? = some o := by
  show (w.heap.push o)[w.heap.size]? = some o
  simp

/-- a box that was laid is read in each later world -/
theorem box_cell {w w' : World} {C : Array Value} {t : TypeId} {fr : Nat × Nat} (h : Below (w.heap.size + 1) (w.alloc (.cells C t fr)) w') {j : Nat} {u : Value} (hj : C[j]? = some u) : w'.cell? ⟨w.heap.size, j, none⟩ = some u := by
  rw [h.cell (Nat.lt_succ_self _)]
  have e : (w.alloc (.cells C t fr)).heap[w.heap.size]? = some (.cells C t fr) := heap_new w _
  unfold World.cell?
  rw [e]
  simpa using hj
theorem alloc_cell (w : World) (C : Array Value) (t : TypeId) (fr : Nat × Nat) {j : Nat} {u : Value} (hj : C[j]? = some u) : (w.alloc (.cells C t fr)).cell? ⟨w.heap.size, j, none⟩ = some u :=
  box_cell (Below.refl _ _) hj
theorem alloc_below (w : World) (o : Obj) : Below w.heap.size w (w.alloc o) := (Below.refl _ w).alloc (Nat.le_refl _) o
theorem alloc2_cell (w : World) (o : Obj) (C : Array Value) (t : TypeId) (fr : Nat × Nat) {j : Nat} {u : Value} (hj : C[j]? = some u) : ((w.alloc o).alloc (.cells C t fr)).cell? ⟨w.heap.size + 1, j, none⟩ = some u := by
  have h := alloc_cell (w.alloc o) C t fr hj
  have e : (w.alloc o).heap.size = w.heap.size + 1 := by simp
  rwa [e] at h
theorem alloc2_cell' (w : World) (o : Obj) (C : Array Value) (t : TypeId) (fr : Nat × Nat) {j : Nat} {u : Value} (hj : C[j]? = some u) : ((w.alloc (.cells C t fr)).alloc o).cell? ⟨w.heap.size, j, none⟩ = some u :=
  cell_later (alloc_below _ _) (alloc_cell w C t fr hj)
theorem box_below {w w' : World} {o : Obj} (h : Below (w.heap.size + 1) (w.alloc o) w') : Below w.heap.size w w' :=
  ((Below.refl _ w).alloc (Nat.le_refl _) o).trans (h.mono (Nat.le_succ _))
theorem box_size {w w' : World} {o : Obj} (h : Below (w.heap.size + 1) (w.alloc o) w') : w.heap.size + 1 ≤ w'.heap.size := by have := h.size; simpa using this

/-- the i-th value of a row that lies in memory, its cells, and what is behind it -/
theorem row_at {w : World} {f : Fo} {a : Option Addr} {i : Nat} (h : FAt w f a) (hi : i < flen f) :
    ∃ q d b o ja jc ka kc bt ot, (elems f)[i]? = some (q, d) ∧ (q, d) ∈ elems f ∧ fdrop f i = .node bt ot q d (fdrop f (i + 1)) ∧ a = some ⟨b, o, none⟩ ∧ b < w.heap.size ∧ VIn w q d ja jc ka kc ∧
    w.cell? ⟨b, o + i * 7, none⟩ = some (.int .i64 q.kind) ∧ w.cell? ⟨b, o + i * 7 + 1, none⟩ = some (.int .i64 q.key) ∧ w.cell? ⟨b, o + i * 7 + 2, none⟩ = some (.int .i64 q.elem) ∧ w.cell? ⟨b, o + i * 7 + 3, none⟩ = some (.int .i64 q.num) ∧
    w.cell? ⟨b, o + i * 7 + 4, none⟩ = some (.string q.text) ∧ w.cell? ⟨b, o + i * 7 + 5, none⟩ = some (.slice ja q.ids.length jc) ∧ w.cell? ⟨b, o + i * 7 + 6, none⟩ = some (.slice ka (flen d) kc) := by
  have hi' : i < (elems f).length := by rw [elems_len]; exact hi
  obtain ⟨⟨q, d⟩, hq⟩ : ∃ x, (elems f)[i]? = some x := ⟨_, List.getElem?_eq_getElem hi'⟩
  obtain ⟨b, o, ja, jc, ka, kc, h1, h2, h3, h4⟩ := h.at hq
  obtain ⟨bt, ot, ef⟩ := fdrop_at hq
  exact ⟨q, d, b, o, ja, jc, ka, kc, bt, ot, hq, List.mem_of_getElem? hq, ef, h1, h2, h4, cell7 h3⟩
/-- the world in which a value was laid into a box of its own -/
abbrev bx (w : World) (p : Pay) (c : Fo) (ia : Option Addr) (ic : Nat) (la : Option Addr) (lc : Nat) : World :=
  w.alloc (.cells #[.int .i64 p.kind, .int .i64 p.key, .int .i64 p.elem, .int .i64 p.num, .string p.text, .slice ia p.ids.length ic, .slice la (flen c) lc] 26)
theorem bx_cells {w w' : World} {p : Pay} {c : Fo} {ia : Option Addr} {ic : Nat} {la : Option Addr} {lc : Nat} (h : Below (w.heap.size + 1) (bx w p c ia ic la lc) w') :
    w'.cell? ⟨w.heap.size, 0, none⟩ = some (.int .i64 p.kind) ∧ w'.cell? ⟨w.heap.size, 1, none⟩ = some (.int .i64 p.key) ∧ w'.cell? ⟨w.heap.size, 2, none⟩ = some (.int .i64 p.elem) ∧ w'.cell? ⟨w.heap.size, 3, none⟩ = some (.int .i64 p.num) ∧
    w'.cell? ⟨w.heap.size, 4, none⟩ = some (.string p.text) ∧ w'.cell? ⟨w.heap.size, 5, none⟩ = some (.slice ia p.ids.length ic) ∧ w'.cell? ⟨w.heap.size, 6, none⟩ = some (.slice la (flen c) lc) :=
  ⟨box_cell h rfl, box_cell h rfl, box_cell h rfl, box_cell h rfl, box_cell h rfl, box_cell h rfl, box_cell h rfl⟩
theorem bx_size (w : World) (p : Pay) (c : Fo) (ia : Option Addr) (ic : Nat) (la : Option Addr) (lc : Nat) : (bx w p c ia ic la lc).heap.size = w.heap.size + 1 := by simp
theorem heap2_new (w : World) (o o' : Obj) : ((w.alloc o).alloc o').heap[w.heap.size + 1]? = some o' := by
  have h := heap_new (w.alloc o) o'
  have e : (w.alloc o).heap.size = w.heap.size + 1 := by simp
  rwa [e] at h
theorem infoTh : (Try.prog.info? 26).map (·.size) = some 7 := by kernel_rfl
/-- a result that lives in memory -/
theorem results_val {fn : Func} {t : Tmp} (h : fn.results = #[.cell t 26]) (tmps : Array Value) (w : World) (b o : Nat) (hp : tmps.getD t undef = .pointer (some ⟨b, o, none⟩)) (cs : List Value) (hl : cs.length = 7)
    (hc : ∀ j u, cs[j]? = some u → w.cell? ⟨b, o + j, none⟩ = some u) : (results fn tmps).run Try.prog w = .ok (.agg cs.toArray) w := by
  have hp' : tmps[t]?.getD undef = .pointer (some ⟨b, o, none⟩) := by simpa using hp
  have hld : (loadCells ⟨b, o, none⟩ cs.length).run Try.prog w = .ok cs.toArray w :=
    run_loadCells_list (P := Try.prog) w ⟨b, o, none⟩ cs (fun j v hv => by
      have hadd : (⟨b, o, none⟩ : Addr).add j = ⟨b, o + j, none⟩ := by unfold Addr.add; split <;> simp_all
      rw [hadd]
      exact hc j v hv)
  rw [hl] at hld
  have hagg : (isAgg 26).run Try.prog w = .ok true w := by
    unfold isAgg
    rw [Sem.run_bind, run_underlying Try.underlying26 w]
    simp
  have hi := infoTh
  cases hq : Try.prog.info? 26 with
  | none => simp [hq] at hi
  | some i =>
    have hs : i.size = 7 := by simpa [hq] using hi
    simp [results, h, hp', asAddr, loadVar, Sem.run_bind, hagg, sizeOf, typeInfo, hq, hs, hld]
theorem alloc2_cells (w : World) (o : Obj) (C : Array Value) (t : TypeId) (fr : Nat × Nat) : ∀ j u, C.toList[j]? = some u → ((w.alloc o).alloc (.cells C t fr)).cell? ⟨w.heap.size + 1, 0 + j, none⟩ = some u := by
  intro j u hj
  rw [Nat.zero_add]
  exact alloc2_cell w o C t fr (by simpa using hj)
theorem alloc_cells (w : World) (C : Array Value) (t : TypeId) (fr : Nat × Nat) : ∀ j u, C.toList[j]? = some u → (w.alloc (.cells C t fr)).cell? ⟨w.heap.size, 0 + j, none⟩ = some u := by
  intro j u hj
  rw [Nat.zero_add]
  exact alloc_cell w C t fr (by simpa using hj)
theorem c64_get {l : List Int} {i : Nat} (h : i < l.length) : (c64 l)[i]? = some (.int .i64 (l.getD i 0)) := by
  simp [c64, List.getElem?_eq_getElem h, List.getD]
theorem c64_len (l : List Int) : (c64 l).length = l.length := by simp [c64]
theorem c64_one (l : List Int) : ∀ u ∈ c64 l, u.oneCell' = true := by
  intro u hu
  obtain ⟨n, _, rfl⟩ := List.mem_map.1 hu
  rfl
/-- a number that can be read off a slice -/
theorem ids_at {w : World} {ad : Option Addr} {len cap : Nat} {l : List Int} (h : Src w ad len cap (c64 l)) {j : Nat} (hj : j < len) :
    ∃ g off, ad = some ⟨g, off, none⟩ ∧ w.cell? ⟨g, off + j, none⟩ = some (.int .i64 (l.getD j 0)) := by
  have hl : l.length = len := by have := h.1; rwa [c64_len] at this
  rcases h.2 with ⟨_, h1, _⟩ | ⟨p, h1, h2⟩
  · omega
  · obtain ⟨g, off, spot⟩ := p
    have hc := h2 j _ (c64_get (by omega))
    have hc0 := h2 0 _ (c64_get (by omega))
    have hspot : spot = none := by simpa [Addr.add] using World.cell?_spot hc0
    subst hspot
    refine ⟨g, off, h1, ?_⟩
    rw [← hc]
    unfold Addr.add
    split <;> simp_all
end Go.Proofs.Ytikoddlidhefpaa
