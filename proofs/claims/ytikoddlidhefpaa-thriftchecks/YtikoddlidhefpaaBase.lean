/-
  What the walks say of slices that came in or that the call made: sources of an append, nil or not.
-/
import Derived.Test.YtikoddlidhefpaaRows
import Derived.WalkKit
import Derived.ProofKit
import Derived.OpenShut
import Derived.WalkSpells
import Derived.OwnWalk
import Derived.Below
import Derived.Deep.Trees
import Derived.Laws.AppendOwnNone
import Derived.Laws.OwnMore
namespace Go.Proofs.Ytikoddlidhefpaa
open Go.ChangeShapes Go.WideShapes Go.ChangeAt Go.RowKit
/-- the cells 'news' can be read off the slice -/
def Src (w : World) (ad : Option Addr) (m c : Nat) (news : List Value) : Prop :=
  news.length = m ∧ ((ad = none ∧ m = 0 ∧ c = 0) ∨ ∃ p, ad = some p ∧ ∀ j u, news[j]? = some u → w.cell? (p.add j) = some u)

theorem Src.later {w w' : World} {ad : Option Addr} {m c : Nat} {news : List Value} (h : Src w ad m c news) (hb : Below w.heap.size w w') : Src w' ad m c news := by
  refine ⟨h.1, ?_⟩
  rcases h.2 with h1 | ⟨p, h1, h2⟩
  · exact .inl h1
  · exact .inr ⟨p, h1, fun j u hj => cell_later hb (h2 j u hj)⟩

theorem src_own {w : World} {B : Nat} {e : TypeId} {ad : Option Addr} {m c n : Nat} {xs : List Value} (h : w.ownsRow B e 1 (.slice ad m c) n xs) : m = n ∧ Src w ad m c xs := by
  have hl := h.1
  rcases h.2 with ⟨h1, rfl⟩ | ⟨g, cap, cur, h1, h2, h3, h4⟩
  · cases h1
    exact ⟨rfl, by simpa using hl, .inl ⟨rfl, rfl, rfl⟩⟩
  · cases h1
    refine ⟨rfl, by omega, .inr ⟨_, rfl, fun j u hj => ?_⟩⟩
    exact World.ownsRow.cells h rfl j u hj

theorem ints_one (k : IntKind) (l : List Int) : ∀ u ∈ l.map (Value.int k), u.oneCell' = true := by
  intro u hu
  obtain ⟨n, _, rfl⟩ := List.mem_map.1 hu
  rfl
theorem own_some {w : World} {B : Nat} {e : TypeId} {s : Nat} {v : Value} {n : Nat} {xs : List Value} (h : w.ownsRow B e s v n xs) (hn : 1 ≤ n) : ∃ g c, v = .slice (some ⟨g, 0, none⟩) n c := by
  rcases h.2 with ⟨_, h0⟩ | ⟨g, cap, cur, h1, _⟩
  · omega
  · exact ⟨g, cap, h1⟩

theorem wpList_append_src {P : Program} {w : World} {ops : Array Oper} {rest : List Oper} {o : Oper} {a : Act} {Q : Exit → Act → World → Prop} (hgd : o.guard = none) (s x : Operand) (t : TypeId)
    (ho : o.op = .call { callee := .builtin .append, args := #[s, x], argTypes := #[t, t] })
    (base : Nat) (e : TypeId) (i : TypeInfo) (z : Value) (bytes : Nat) (ht : P.underlying t = some (.slice e)) (hi : P.info? e = some i) (hz : i.zero = some z)
    (hsize : i.size = 1) (hby : i.bytes = bytes) (hzs : z.cells.size = 1)
    (v : Value) (n : Nat) (xs : List Value) (hs : a.eval s = v) (hown : w.ownsRow base e 1 v n xs)
    (ad : Option Addr) (m c : Nat) (news : List Value) (hx : a.eval x = .slice ad m c) (hsrc : Src w ad m c news) (h1 : ∀ u ∈ news, u.oneCell' = true)
    (h63 : n + m ≤ maxLen) (hbytes : (n + m) * bytes ≤ 140737488355328) (hbase : base ≤ w.heap.size)
    (h : ∀ v' w', w'.ownsRow base e 1 v' (n + m) (xs ++ news) → Below base w w' → wpList P ops Q rest (a.put o.dst v') w') : wpList P ops Q (o :: rest) a w := by
  rcases hsrc.2 with ⟨rfl, rfl, rfl⟩ | ⟨p, rfl, h2⟩
  · have hn : news = [] := List.length_eq_zero_iff.1 hsrc.1
    subst hn
    refine wpList_append_own_none hgd s x t ho base e i 1 ht hi v n xs hs hown hx ?_
    exact h v w (by simpa using hown) (Below.refl _ _)
  · refine wpList_append_own w hgd s x t ho base e i z 1 bytes ht hi hz hsize hby hzs (by decide) v n xs hs hown p m c news hx (by simpa using hsrc.1) h2 h1 h63 hbytes hbase ?_
    intro v' w' ho' hg _
    exact h v' w' ho' ((Below.refl base w).grown hg hbase (fun k hk => (hown.lt k hk).1))

/-- bytes, as cells -/
def c8 (l : List Nat) : List Value := l.map fun b : Nat => Value.int .u8 (b : Int)
theorem c8_one (l : List Nat) : ∀ u ∈ c8 l, u.oneCell' = true := by
  intro u hu
  obtain ⟨n, _, rfl⟩ := List.mem_map.1 hu
  rfl
theorem c8_len (l : List Nat) : (c8 l).length = l.length := by simp [c8]
theorem c8_append (l m : List Nat) : c8 (l ++ m) = c8 l ++ c8 m := by simp [c8]
theorem c8_get {l : List Nat} {i : Nat} (h : i < l.length) : (c8 l)[i]? = some (.int .u8 ((l.getD i 0 : Nat) : Int)) := by
  simp [c8, List.getElem?_eq_getElem h, List.getD]
theorem own_sl {w : World} {B : Nat} {e : TypeId} {s : Nat} {v : Value} {n : Nat} {xs : List Value} (h : w.ownsRow B e s v n xs) : ∃ ad c, v = .slice ad n c := by
  rcases h.2 with ⟨h0, rfl⟩ | ⟨g, cap, cur, h1, _⟩
  · exact ⟨none, 0, h0⟩
  · exact ⟨_, cap, h1⟩
/-- a byte that can be read off a slice -/
theorem src_at {w : World} {ad : Option Addr} {len cap : Nat} {l : List Nat} (h : Src w ad len cap (c8 l)) {j : Nat} (hj : j < len) :
    ∃ g off, ad = some ⟨g, off, none⟩ ∧ w.cell? ⟨g, off + j, none⟩ = some (.int .u8 ((l.getD j 0 : Nat) : Int)) := by
  have hl : l.length = len := by have := h.1; rwa [c8_len] at this
  rcases h.2 with ⟨_, h1, _⟩ | ⟨p, h1, h2⟩
  · omega
  · obtain ⟨g, off, spot⟩ := p
    have hc := h2 j _ (c8_get (by omega))
    have hc0 := h2 0 _ (c8_get (by omega))
    have hspot : spot = none := by simpa [Addr.add] using World.cell?_spot hc0
    subst hspot
    refine ⟨g, off, h1, ?_⟩
    rw [← hc]
    unfold Addr.add
    split <;> simp_all
end Go.Proofs.Ytikoddlidhefpaa
