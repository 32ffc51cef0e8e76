/-
  What the walks say of slices that came in or that the call made, and of boxes.
-/
import Derived.Test.YtdglobonbhkheaaRows
import Derived.WalkKit
import Derived.ProofKit
import Derived.OpenShut
import Derived.WalkSpells
import Derived.OwnWalk
import Derived.Below
import Derived.OneCell
import Derived.ArgAppend
import Derived.Carry
import Derived.Laws.AppendOwnNone
import Derived.Laws.OwnMore
namespace Go.Proofs.Ytdglobonbhkheaa
open Go.ChangeShapes Go.WideShapes Go.ChangeAt Go.RowKit
/-- the cells 'news' can be read off the slice -/
def Src (w : World) (ad : Option Addr) (m c : Nat) (news : List Value) : Prop :=
  news.length = m ∧ ((ad = none ∧ m = 0 ∧ c = 0) ∨ ∃ p, ad = some p ∧ ∀ j u, news[j]? = some u → w.cell? (p.add j) = some u)

theorem Src.later {w w' : World} {ad : Option Addr} {m c : Nat} {news : List Value} (h : Src w ad m c news) (hb : Below w.heap.size w w') : Src w' ad m c news := by
  refine ⟨h.1, ?_⟩
  rcases h.2 with h1 | ⟨p, h1, h2⟩
  · exact .inl h1
  · exact .inr ⟨p, h1, fun j u hj => cell_later hb (h2 j u hj)⟩

theorem src_own {w : World} {B : Nat} {e : TypeId} {ad : Option Addr} {m c n : Nat} {xs : List Value} (h : w.ownsRow B e 1 (.slice ad m c) n xs) : m = n ∧ Src w ad m c xs := by
  have hl := h.1
  rcases h.2 with ⟨h1, rfl⟩ | ⟨g, cap, cur, h1, h2, h3, h4⟩
  · cases h1
    exact ⟨rfl, by simpa using hl, .inl ⟨rfl, rfl, rfl⟩⟩
  · cases h1
    refine ⟨rfl, by omega, .inr ⟨_, rfl, fun j u hj => ?_⟩⟩
    exact World.ownsRow.cells h rfl j u hj

theorem ints_one (k : IntKind) (l : List Int) : ∀ u ∈ l.map (Value.int k), u.oneCell' = true := by
  intro u hu
  obtain ⟨n, _, rfl⟩ := List.mem_map.1 hu
  rfl
theorem own_some {w : World} {B : Nat} {e : TypeId} {s : Nat} {v : Value} {n : Nat} {xs : List Value} (h : w.ownsRow B e s v n xs) (hn : 1 ≤ n) : ∃ g c, v = .slice (some ⟨g, 0, none⟩) n c := by
  rcases h.2 with ⟨_, h0⟩ | ⟨g, cap, cur, h1, _⟩
  · omega
  · exact ⟨g, cap, h1⟩

theorem wpList_append_src {P : Program} {w : World} {ops : Array Oper} {rest : List Oper} {o : Oper} {a : Act} {Q : Exit → Act → World → Prop} (hgd : o.guard = none) (s x : Operand) (t : TypeId)
    (ho : o.op = .call { callee := .builtin .append, args := #[s, x], argTypes := #[t, t] })
    (base : Nat) (e : TypeId) (i : TypeInfo) (z : Value) (bytes : Nat) (ht : P.underlying t = some (.slice e)) (hi : P.info? e = some i) (hz : i.zero = some z)
    (hsize : i.size = 1) (hby : i.bytes = bytes) (hzs : z.cells.size = 1)
    (v : Value) (n : Nat) (xs : List Value) (hs : a.eval s = v) (hown : w.ownsRow base e 1 v n xs)
    (ad : Option Addr) (m c : Nat) (news : List Value) (hx : a.eval x = .slice ad m c) (hsrc : Src w ad m c news) (h1 : ∀ u ∈ news, u.oneCell' = true)
    (h63 : n + m ≤ maxLen) (hbytes : (n + m) * bytes ≤ 140737488355328) (hbase : base ≤ w.heap.size)
    (h : ∀ v' w', w'.ownsRow base e 1 v' (n + m) (xs ++ news) → Below base w w' → wpList P ops Q rest (a.put o.dst v') w') : wpList P ops Q (o :: rest) a w := by
  rcases hsrc.2 with ⟨rfl, rfl, rfl⟩ | ⟨p, rfl, h2⟩
  · have hn : news = [] := List.length_eq_zero_iff.1 hsrc.1
    subst hn
    refine wpList_append_own_none hgd s x t ho base e i 1 ht hi v n xs hs hown hx ?_
    exact h v w (by simpa using hown) (Below.refl _ _)
  · refine wpList_append_own w hgd s x t ho base e i z 1 bytes ht hi hz hsize hby hzs (by decide) v n xs hs hown p m c news hx (by simpa using hsrc.1) h2 h1 h63 hbytes hbase ?_
    intro v' w' ho' hg _
    exact h v' w' ho' ((Below.refl base w).grown hg hbase (fun k hk => (hown.lt k hk).1))

/-- bytes, as cells -/
def c8 (l : List Nat) : List Value := l.map fun b : Nat => Value.int .u8 (b : Int)
theorem c8_one (l : List Nat) : ∀ u ∈ c8 l, u.oneCell' = true := by
  intro u hu
  obtain ⟨n, _, rfl⟩ := List.mem_map.1 hu
  rfl
theorem c8_len (l : List Nat) : (c8 l).length = l.length := by simp [c8]
theorem c8_append (l m : List Nat) : c8 (l ++ m) = c8 l ++ c8 m := by simp [c8]
theorem c8_get {l : List Nat} {i : Nat} (h : i < l.length) : (c8 l)[i]? = some (.int .u8 ((l.getD i 0 : Nat) : Int)) := by
  simp [c8, List.getElem?_eq_getElem h, List.getD]
theorem own_sl {w : World} {B : Nat} {e : TypeId} {s : Nat} {v : Value} {n : Nat} {xs : List Value} (h : w.ownsRow B e s v n xs) : ∃ ad c, v = .slice ad n c := by
  rcases h.2 with ⟨h0, rfl⟩ | ⟨g, cap, cur, h1, _⟩
  · exact ⟨none, 0, h0⟩
  · exact ⟨_, cap, h1⟩
/-- a byte that can be read off a slice -/
theorem src_at {w : World} {ad : Option Addr} {len cap : Nat} {l : List Nat} (h : Src w ad len cap (c8 l)) {j : Nat} (hj : j < len) :
    ∃ g off, ad = some ⟨g, off, none⟩ ∧ w.cell? ⟨g, off + j, none⟩ = some (.int .u8 ((l.getD j 0 : Nat) : Int)) := by
  have hl : l.length = len := by have := h.1; rwa [c8_len] at this
  rcases h.2 with ⟨_, h1, _⟩ | ⟨p, h1, h2⟩
  · omega
  · obtain ⟨g, off, spot⟩ := p
    have hc := h2 j _ (c8_get (by omega))
    have hc0 := h2 0 _ (c8_get (by omega))
    have hspot : spot = none := by simpa [Addr.add] using World.cell?_spot hc0
    subst hspot
    refine ⟨g, off, h1, ?_⟩
    rw [← hc]
    unfold Addr.add
    split <;> simp_all
theorem heap_new (w : World) (o : Obj) : (w.alloc o).heap[w.heap.size]? = some o := by
  show (w.heap.push o)[w.heap.size]? = some o
  simp

theorem box_cell {w w' : World} {C : Array Value} {t : TypeId} {fr : Nat × Nat} (h : Below (w.heap.size + 1) (w.alloc (.cells C t fr)) w') {j : Nat} {u : Value} (hj : C[j]? = some u) : w'.cell? ⟨w.heap.size, j, none⟩ = some u := by
  rw [h.cell (Nat.lt_succ_self _)]
  have e : (w.alloc (.cells C t fr)).heap[w.heap.size]? = some (.cells C t fr) := heap_new w _
  unfold World.cell?
  rw [e]
  simpa using hj
theorem alloc_cell (w : World) (C : Array Value) (t : TypeId) (fr : Nat × Nat) {j : Nat} {u : Value} (hj : C[j]? = some u) : (w.alloc (.cells C t fr)).cell? ⟨w.heap.size, j, none⟩ = some u :=
  box_cell (Below.refl _ _) hj
theorem alloc_below (w : World) (o : Obj) : Below w.heap.size w (w.alloc o) := (Below.refl _ w).alloc (Nat.le_refl _) o
theorem alloc2_cell (w : World) (o : Obj) (C : Array Value) (t : TypeId) (fr : Nat × Nat) {j : Nat} {u : Value} (hj : C[j]? = some u) : ((w.alloc o).alloc (.cells C t fr)).cell? ⟨w.heap.size + 1, j, none⟩ = some u := by
  have h := alloc_cell (w.alloc o) C t fr hj
  have e : (w.alloc o).heap.size = w.heap.size + 1 := by simp
  rwa [e] at h
theorem alloc2_cell' (w : World) (o : Obj) (C : Array Value) (t : TypeId) (fr : Nat × Nat) {j : Nat} {u : Value} (hj : C[j]? = some u) : ((w.alloc (.cells C t fr)).alloc o).cell? ⟨w.heap.size, j, none⟩ = some u :=
  cell_later (alloc_below _ _) (alloc_cell w C t fr hj)
theorem box_below {w w' : World} {o : Obj} (h : Below (w.heap.size + 1) (w.alloc o) w') : Below w.heap.size w w' :=
  ((Below.refl _ w).alloc (Nat.le_refl _) o).trans (h.mono (Nat.le_succ _))
theorem box_size {w w' : World} {o : Obj} (h : Below (w.heap.size + 1) (w.alloc o) w') : w.heap.size + 1 ≤ w'.heap.size := by have := h.size; simpa using this

theorem heap2_new (w : World) (o o' : Obj) : ((w.alloc o).alloc o').heap[w.heap.size + 1]? = some o' := by
  have h := heap_new (w.alloc o) o'
  have e : (w.alloc o).heap.size = w.heap.size + 1 := by simp
  rwa [e] at h
theorem alloc2_cells (w : World) (o : Obj) (C : Array Value) (t : TypeId) (fr : Nat × Nat) : ∀ j u, C.toList[j]? = some u → ((w.alloc o).alloc (.cells C t fr)).cell? ⟨w.heap.size + 1, 0 + j, none⟩ = some u := by
  intro j u hj
  rw [Nat.zero_add]
  exact alloc2_cell w o C t fr (by simpa using hj)
theorem alloc_cells (w : World) (C : Array Value) (t : TypeId) (fr : Nat × Nat) : ∀ j u, C.toList[j]? = some u → (w.alloc (.cells C t fr)).cell? ⟨w.heap.size, 0 + j, none⟩ = some u := by
  intro j u hj
  rw [Nat.zero_add]
  exact alloc_cell w C t fr (by simpa using hj)
theorem cell_of_block {w : World} {b j : Nat} {C : Array Value} {t : TypeId} {fr : Nat × Nat} {u : Value} (h : w.heap[b]? = some (.cells C t fr)) (hj : C[j]? = some u) : w.cell? ⟨b, j, none⟩ = some u := by
  unfold World.cell?
  rw [h]
  simpa using hj
theorem frozen_of_block {w : World} {b j : Nat} {C : Array Value} {t : TypeId} (h : w.heap[b]? = some (.cells C t (0, 0))) : w.frozen? ⟨b, j, none⟩ = false := by
  unfold World.frozen?
  rw [h]
  simp
theorem infoU8 : (Try.prog.info? 5).map (fun i => (i.zero, i.size, i.bytes)) = some (some (.int .u8 0), 1, 1) := by kernel_rfl

theorem add0 (b j : Nat) : (⟨b, 0, none⟩ : Addr).add j = ⟨b, j, none⟩ := by unfold Addr.add; split <;> simp_all
theorem new_news (w : World) (l : List Value) (e : TypeId) (fr : Nat × Nat) : ∀ j u, l[j]? = some u → (w.alloc (.cells l.toArray e fr)).cell? ((⟨w.heap.size, 0, none⟩ : Addr).add j) = some u := by
  intro j u hj
  rw [add0]
  exact alloc_cell w _ e fr (by simpa using hj)
theorem set_block {w : World} {b j : Nat} {C : Array Value} {t : TypeId} {fr : Nat × Nat} {u : Value} (h : w.heap[b]? = some (.cells C t fr)) : (w.setCell ⟨b, j, none⟩ u).heap[b]? = some (.cells (C.setIfInBounds j u) t fr) := by
  simp only [World.setCell]
  rw [Array.getElem?_modify]
  simp [h]
theorem cells_of_block {w : World} {b : Nat} {C : Array Value} {t : TypeId} {fr : Nat × Nat} (h : w.heap[b]? = some (.cells C t fr)) : ∀ j u, C.toList[j]? = some u → w.cell? ⟨b, 0 + j, none⟩ = some u := by
  intro j u hj
  rw [Nat.zero_add]
  exact cell_of_block h (by simpa using hj)

theorem src_drop {w : World} {g off len cap n : Nat} {l : List Nat} (h : Src w (some ⟨g, off, none⟩) len cap (c8 l)) (hn : n ≤ len) : Src w (some ⟨g, off + n, none⟩) (len - n) (cap - n) (c8 (l.drop n)) := by
  have hl : l.length = len := by have := h.1; rwa [c8_len] at this
  refine ⟨by rw [c8_len, List.length_drop]; omega, .inr ⟨_, rfl, fun j u hj => ?_⟩⟩
  rcases h.2 with ⟨h1, _⟩ | ⟨p, h1, h2⟩
  · cases h1
  · cases h1
    have := h2 (n + j) u (by
      have e : c8 (l.drop n) = (c8 l).drop n := by simp [c8, List.map_drop]
      rw [e, List.getElem?_drop] at hj
      exact hj)
    rw [← this]
    congr 1
    unfold Addr.add
    split <;> simp_all
    omega
theorem src_zero (w : World) (p : Addr) (c : Nat) : Src w (some p) 0 c (c8 []) := ⟨rfl, .inr ⟨_, rfl, fun j u hj => by simp [c8] at hj⟩⟩

theorem conv_empty (W : World) (p : Addr) (c : Nat) : Sem.run Try.prog (convert 27 9 (.slice (some p) 0 c)) W = .ok (.string (strOfNums [])) W := by
  have hl : (loadCells p 0).run Try.prog W = .ok #[] W := by
    simp [loadCells, go_sem]
  rw [run_convert_bytes_string W 27 9 5 _ 0 c Try.underlying27 Try.underlying5 Try.underlying9, run_bytesToString W _ 0 c [] (by simpa using hl)]
  simp [strOfNums]
  rfl
theorem str_src {w : World} {a : Option Addr} {len c : Nat} {l : List Nat} (h : Src w a len c (c8 l)) : Sem.run Try.prog (convert 27 9 (.slice a len c)) w = .ok (.string (strOfNums (l.map fun n : Nat => (n : Int)))) w := by
  have hll : l.length = len := by have := h.1; rwa [c8_len] at this
  rcases h.2 with ⟨rfl, rfl, rfl⟩ | ⟨p, rfl, _⟩
  · have e : l = [] := by simpa using hll
    subst e
    exact run_convert_bytes_nil w 27 5 Try.underlying27 Try.underlying5 0 0 9 Try.underlying9
  · rcases Nat.eq_zero_or_pos len with rfl | hl
    · have e : l = [] := by simpa using hll
      subst e
      exact conv_empty w p c
    · obtain ⟨g, off, e, _⟩ := src_at h hl
      cases e
      refine run_convert_bytes_arg w 27 5 Try.underlying27 Try.underlying5 g off len c _ (by simpa using hll) (fun i hi => ?_) 9 Try.underlying9
      obtain ⟨g', off', e', hc⟩ := src_at h hi
      cases e'
      rw [hc]
      have hx : i < l.length := by omega
      simp [List.getD, List.getElem?_eq_getElem hx]
theorem src_take {w : World} {a : Option Addr} {len cap n : Nat} {l : List Nat} (h : Src w a len cap (c8 l)) (hn : n ≤ len) : Src w a n cap (c8 (l.take n)) := by
  have hl : l.length = len := by have := h.1; rwa [c8_len] at this
  refine ⟨by rw [c8_len, List.length_take]; omega, ?_⟩
  rcases h.2 with ⟨h1, h2, h3⟩ | ⟨p, h1, h2⟩
  · exact .inl ⟨h1, by omega, h3⟩
  · refine .inr ⟨p, h1, fun j u hj => h2 j u ?_⟩
    have e : c8 (l.take n) = (c8 l).take n := by simp [c8, List.map_take]
    rw [e, List.getElem?_take] at hj
    split at hj
    · exact hj
    · cases hj

theorem below_at {W X : World} {b : Nat} {o : Obj} (h : Below W.heap.size W X) (hb : W.heap[b]? = some o) : X.heap[b]? = some o := by
  have hlt : b < W.heap.size := by
    rcases Nat.lt_or_ge b W.heap.size with h1 | h1
    · exact h1
    · rw [Array.getElem?_eq_none h1] at hb; cases hb
  rw [h.block b hlt, hb]
theorem run_append_fresh {P : Program} (w : World) (base : Nat) (t ty e : TypeId) (i : TypeInfo) (z : Value) (size bytes : Nat) (ht : P.underlying t = some (.slice e)) (hi : P.info? e = some i) (hz : i.zero = some z)
    (hsize : i.size = size) (hby : i.bytes = bytes) (hzs : z.cells.size = size) (hsz : 0 < size)
    (v : Value) (n : Nat) (xs : List Value) (hown : w.ownsRow base e size v n xs)
    (a : Addr) (m c : Nat) (news : List Value) (hl : news.length = m * size) (hnews : ∀ j u, news[j]? = some u → w.cell? (a.add j) = some u) (h1 : ∀ u ∈ news, u.oneCell' = true)
    (h63 : n + m ≤ maxLen) (hbytes : (n + m) * bytes ≤ 140737488355328) (hbase : base ≤ w.heap.size) :
    ∃ v' w', (Builtin.append_ #[t, t] ty #[v, .slice (some a) m c]).run P w = .ok v' w' ∧ w'.ownsRow base e size v' (n + m) (xs ++ news) ∧ w.grownBy w' v.ownBlock ∧
      (v'.ownBlock = v.ownBlock ∨ w'.ownsRow w.heap.size e size v' (n + m) (xs ++ news)) := by
  obtain ⟨v', w', hr, h2, h3, _⟩ := run_append_own (P := P) w base t ty e i z size bytes ht hi hz hsize hby hzs hsz v n xs hown a m c news hl hnews h1 h63 hbytes hbase
  refine ⟨v', w', hr, h2, h3, ?_⟩
  rcases hown.2 with ⟨rfl, rfl⟩ | ⟨g, cap, cur, rfl, hb, hg, hn, hm, hcs, htk⟩
  · have hx : xs = [] := by have := hown.1; simpa using this
    subst hx
    obtain ⟨v2, w2, hr2, k2, _⟩ := run_append_own (P := P) w w.heap.size t ty e i z size bytes ht hi hz hsize hby hzs hsz (.slice none 0 0) 0 [] (World.ownsRow_nil w _ e size) a m c news hl hnews h1 h63 hbytes (Nat.le_refl _)
    rw [hr] at hr2
    cases hr2
    exact .inr k2
  · by_cases hroom : n + m ≤ cap
    · left
      subst hsize
      have hcell : ∀ j, j < news.length → (w.cell? ⟨g, 0 + n * i.size + j, none⟩).isSome = true := by
        intro j hj
        have hlt : 0 + n * i.size + j < cur.size := by
          have : (n + m) * i.size ≤ cap * i.size := Nat.mul_le_mul_right _ hroom
          rw [Nat.add_mul] at this
          omega
        rw [cell_of_block hg (Array.getElem?_eq_getElem hlt)]
        rfl
      have hr2 := run_append_room_cells (P := P) w t ty e i ht hi g 0 n cap a m c news hl hnews h1 hroom hcell (fun j hj => frozen_of_block hg)
      rw [hr] at hr2
      cases hr2
      rfl
    · right
      obtain ⟨v2, w2, hr2, k2, _⟩ := run_append_arg_grows (P := P) w t ty e i z size bytes ht hi hz hsize hby hzs hsz ⟨g, 0, none⟩ n cap xs hown.1 (fun j u hj => World.ownsRow.cells hown rfl j u hj) a m c news hl hnews (by omega) h63 hbytes
      rw [hr] at hr2
      cases hr2
      exact k2

end Go.Proofs.Ytdglobonbhkheaa
