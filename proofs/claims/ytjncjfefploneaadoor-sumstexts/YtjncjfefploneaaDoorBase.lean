/-
  What the walks say of slices that came in or that the call made: sources of an append, nil or not.
-/
import Derived.Test.YtjncjfefploneaaDoorRows
import Derived.WalkKit
import Derived.ProofKit
import Derived.OpenShut
import Derived.WalkSpells
import Derived.OwnWalk
import Derived.Laws.AppendOwnNone
import Derived.Laws.OwnMore
namespace Go.Proofs.YtjncjfefploneaaDoor
open Go.ChangeShapes Go.WideShapes Go.ChangeAt Go.RowKit

/-- a slice of numbers that came in: nil, or a row of 'cap' cells, the numbers 'zs', of which the first 'len' are its elements -/
def IsRow (k : IntKind) (w : World) (a : Option Addr) (len cap : Nat) (zs : List Int) : Prop :=
  (a = none ∧ len = 0 ∧ cap = 0 ∧ zs = []) ∨
  ∃ x, a = some x ∧ len ≤ cap ∧ cap ≤ maxLen ∧ zs.length = cap ∧ (∀ i, i < zs.length → w.cell? (x.add i) = some (.int k (zs.getD i 0))) ∧ ∀ n ∈ zs, (Lit.int k n).wf = true

/-- the cells 'news' can be read off the slice -/
def Src (w : World) (ad : Option Addr) (m c : Nat) (news : List Value) : Prop :=
  news.length = m ∧ ((ad = none ∧ m = 0 ∧ c = 0) ∨ ∃ p, ad = some p ∧ ∀ j u, news[j]? = some u → w.cell? (p.add j) = some u)

theorem Src.later {w w' : World} {ad : Option Addr} {m c : Nat} {news : List Value} (h : Src w ad m c news) (hb : Below w.heap.size w w') : Src w' ad m c news := by
  refine ⟨h.1, ?_⟩
  rcases h.2 with h1 | ⟨p, h1, h2⟩
  · exact .inl h1
  · exact .inr ⟨p, h1, fun j u hj => cell_later hb (h2 j u hj)⟩

theorem IsRow.len_le {k : IntKind} {w : World} {a : Option Addr} {len cap : Nat} {zs : List Int} (h : IsRow k w a len cap zs) : len ≤ zs.length ∧ zs.length = cap := by
  rcases h with ⟨_, rfl, rfl, rfl⟩ | ⟨x, _, h1, _, h2, _⟩
  · simp
  · omega
theorem IsRow.src {k : IntKind} {w : World} {a : Option Addr} {len cap : Nat} {zs : List Int} (h : IsRow k w a len cap zs) : Src w a len cap ((zs.take len).map (Value.int k)) := by
  rcases h with ⟨rfl, rfl, rfl, rfl⟩ | ⟨x, rfl, h1, _, h2, h3, _⟩
  · exact ⟨rfl, .inl ⟨rfl, rfl, rfl⟩⟩
  · refine ⟨by simp; omega, .inr ⟨x, rfl, fun j u hj => ?_⟩⟩
    have hl : j < len ∧ j < zs.length := by
      rcases Nat.lt_or_ge j ((zs.take len).map (Value.int k)).length with hh | hh
      · simp at hh; omega
      · rw [List.getElem?_eq_none hh] at hj; cases hj
    rw [h3 j hl.2]
    simp [hl.1, List.getElem?_eq_getElem hl.2] at hj
    subst hj
    simp [List.getD, List.getElem?_eq_getElem hl.2]
theorem src_own {w : World} {B : Nat} {e : TypeId} {ad : Option Addr} {m c n : Nat} {xs : List Value} (h : w.ownsRow B e 1 (.slice ad m c) n xs) : m = n ∧ Src w ad m c xs := by
  have hl := h.1
  rcases h.2 with ⟨h1, rfl⟩ | ⟨g, cap, cur, h1, h2, h3, h4⟩
  · cases h1
    exact ⟨rfl, by simpa using hl, .inl ⟨rfl, rfl, rfl⟩⟩
  · cases h1
    refine ⟨rfl, by omega, .inr ⟨_, rfl, fun j u hj => ?_⟩⟩
    exact World.ownsRow.cells h rfl j u hj

theorem ints_one (k : IntKind) (l : List Int) : ∀ u ∈ l.map (Value.int k), u.oneCell' = true := by
  intro u hu
  obtain ⟨n, _, rfl⟩ := List.mem_map.1 hu
  rfl
theorem own_some {w : World} {B : Nat} {e : TypeId} {s : Nat} {v : Value} {n : Nat} {xs : List Value} (h : w.ownsRow B e s v n xs) (hn : 1 ≤ n) : ∃ g c, v = .slice (some ⟨g, 0, none⟩) n c := by
  rcases h.2 with ⟨_, h0⟩ | ⟨g, cap, cur, h1, _⟩
  · omega
  · exact ⟨g, cap, h1⟩

theorem wpList_append_src {P : Program} {w : World} {ops : Array Oper} {rest : List Oper} {o : Oper} {a : Act} {Q : Exit → Act → World → Prop} (hgd : o.guard = none) (s x : Operand) (t : TypeId)
    (ho : o.op = .call { callee := .builtin .append, args := #[s, x], argTypes := #[t, t] })
    (base : Nat) (e : TypeId) (i : TypeInfo) (z : Value) (bytes : Nat) (ht : P.underlying t = some (.slice e)) (hi : P.info? e = some i) (hz : i.zero = some z)
    (hsize : i.size = 1) (hby : i.bytes = bytes) (hzs : z.cells.size = 1)
    (v : Value) (n : Nat) (xs : List Value) (hs : a.eval s = v) (hown : w.ownsRow base e 1 v n xs)
    (ad : Option Addr) (m c : Nat) (news : List Value) (hx : a.eval x = .slice ad m c) (hsrc : Src w ad m c news) (h1 : ∀ u ∈ news, u.oneCell' = true)
    (h63 : n + m ≤ maxLen) (hbytes : (n + m) * bytes ≤ 140737488355328) (hbase : base ≤ w.heap.size)
    (h : ∀ v' w', w'.ownsRow base e 1 v' (n + m) (xs ++ news) → Below base w w' → wpList P ops Q rest (a.put o.dst v') w') : wpList P ops Q (o :: rest) a w := by
  rcases hsrc.2 with ⟨rfl, rfl, rfl⟩ | ⟨p, rfl, h2⟩
  · have hn : news = [] := List.length_eq_zero_iff.1 hsrc.1
    subst hn
    refine wpList_append_own_none hgd s x t ho base e i 1 ht hi v n xs hs hown hx ?_
    exact h v w (by simpa using hown) (Below.refl _ _)
  · refine wpList_append_own w hgd s x t ho base e i z 1 bytes ht hi hz hsize hby hzs (by decide) v n xs hs hown p m c news hx (by simpa using hsrc.1) h2 h1 h63 hbytes hbase ?_
    intro v' w' ho' hg _
    exact h v' w' ho' ((Below.refl base w).grown hg hbase (fun k hk => (hown.lt k hk).1))

/-- bytes, as cells -/
def c8 (l : List Nat) : List Value := l.map fun b : Nat => Value.int .u8 (b : Int)
theorem c8_one (l : List Nat) : ∀ u ∈ c8 l, u.oneCell' = true := by
  intro u hu
  obtain ⟨n, _, rfl⟩ := List.mem_map.1 hu
  rfl
theorem c8_len (l : List Nat) : (c8 l).length = l.length := by simp [c8]
theorem c8_append (l m : List Nat) : c8 (l ++ m) = c8 l ++ c8 m := by simp [c8]
theorem c8_get {l : List Nat} {i : Nat} (h : i < l.length) : (c8 l)[i]? = some (.int .u8 ((l.getD i 0 : Nat) : Int)) := by
  simp [c8, List.getElem?_eq_getElem h, List.getD]
theorem own_sl {w : World} {B : Nat} {e : TypeId} {s : Nat} {v : Value} {n : Nat} {xs : List Value} (h : w.ownsRow B e s v n xs) : ∃ ad c, v = .slice ad n c := by
  rcases h.2 with ⟨h0, rfl⟩ | ⟨g, cap, cur, h1, _⟩
  · exact ⟨none, 0, h0⟩
  · exact ⟨_, cap, h1⟩
/-- a byte that can be read off a slice -/
theorem src_at {w : World} {ad : Option Addr} {len cap : Nat} {l : List Nat} (h : Src w ad len cap (c8 l)) {j : Nat} (hj : j < len) :
    ∃ g off, ad = some ⟨g, off, none⟩ ∧ w.cell? ⟨g, off + j, none⟩ = some (.int .u8 ((l.getD j 0 : Nat) : Int)) := by
  have hl : l.length = len := by have := h.1; rwa [c8_len] at this
  rcases h.2 with ⟨_, h1, _⟩ | ⟨p, h1, h2⟩
  · omega
  · obtain ⟨g, off, spot⟩ := p
    have hc := h2 j _ (c8_get (by omega))
    have hc0 := h2 0 _ (c8_get (by omega))
    have hspot : spot = none := by simpa [Addr.add] using World.cell?_spot hc0
    subst hspot
    refine ⟨g, off, h1, ?_⟩
    rw [← hc]
    unfold Addr.add
    split <;> simp_all
/-- what came in as a row of bytes is bytes -/
theorem row_nat {w : World} {a : Option Addr} {l c : Nat} {z : List Int} (h : IsRow .u8 w a l c z) : ∃ bs : List Nat, bs.length = l ∧ (∀ x ∈ bs, x < 256) ∧ Src w a l c (c8 bs) := by
  have hb : ∀ x ∈ z.take l, 0 ≤ x ∧ x ≤ 255 := by
    intro x hx
    have hx' := List.mem_of_mem_take hx
    rcases h with ⟨_, _, _, rfl⟩ | ⟨_, _, _, _, _, _, hw⟩
    · cases hx'
    · simpa [Lit.wf, IntKind.min, IntKind.max, IntKind.signed, IntKind.bits] using hw x hx'
  have hl : (z.take l).length = l := by have := h.len_le; rw [List.length_take]; omega
  have s := h.src
  generalize z.take l = zs at *
  refine ⟨zs.map Int.toNat, by simpa using hl, ?_, ?_⟩
  · intro n hn
    obtain ⟨x, hx, rfl⟩ := List.mem_map.1 hn
    have := hb x hx
    omega
  · unfold c8
    rw [List.map_map]
    rw [show zs.map ((fun b : Nat => Value.int .u8 (b : Int)) ∘ Int.toNat) = zs.map (Value.int .u8) from List.map_congr_left (fun x hx => by
      have := hb x hx
      show Value.int .u8 ((x.toNat : Nat) : Int) = _
      rw [Int.toNat_of_nonneg this.1])]
    exact s
end Go.Proofs.YtjncjfefploneaaDoor
