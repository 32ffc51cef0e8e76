/-
  The writer: a box of one slice of bytes, which grows; what it leaves alone.
-/
import Derived.Test.YtikoddlidhefpaaCheckC
import Derived.OneCell
namespace Go.Proofs.Ytikoddlidhefpaa
open Go.ChangeShapes Go.WideShapes Go.ChangeAt Go.RowKit Go.Deep

/-- all blocks but B, and but rows of bytes behind it, are as they were -/
structure WF (B : Nat) (w w' : World) : Prop where
  os : w'.os = w.os
  tape : w'.tape = w.tape
  output : w'.output = w.output
  size : w.heap.size ≤ w'.heap.size
  block : ∀ k, k < w.heap.size → k ≠ B → (k < B ∨ ∀ cur fr, w.heap[k]? ≠ some (.cells cur 5 fr)) → w'.heap[k]? = w.heap[k]?

theorem WF.refl (B : Nat) (w : World) : WF B w w := ⟨rfl, rfl, rfl, Nat.le_refl _, fun _ _ _ _ => rfl⟩
theorem WF.trans {B : Nat} {a b c : World} (h : WF B a b) (k : WF B b c) : WF B a c :=
  ⟨k.os.trans h.os, k.tape.trans h.tape, k.output.trans h.output, Nat.le_trans h.size k.size, fun i h1 h2 h3 => by
    have e := h.block i h1 h2 h3
    rw [k.block i (Nat.lt_of_lt_of_le h1 h.size) h2 (h3.imp id (fun h4 cur fr => by rw [e]; exact h4 cur fr)), e]⟩
theorem WF.of_below {B : Nat} {w w' : World} (h : Below w.heap.size w w') : WF B w w' := ⟨h.os, h.tape, h.output, h.size, fun k h1 _ _ => h.block k h1⟩
theorem WF.below {B : Nat} {w w' : World} (h : WF B w w') (hB : B ≤ w.heap.size) : Below B w w' := ⟨h.os, h.tape, h.output, h.size, fun k hk => h.block k (by omega) (by omega) (.inl hk)⟩
/-- a box that is no row of bytes stays -/
theorem WF.box {B b : Nat} {w w' : World} {C : Array Value} {t : TypeId} {fr : Nat × Nat} (h : WF B w w') (hb : w.heap[b]? = some (.cells C t fr)) (hne : b ≠ B) (ht : t ≠ 5) : w'.heap[b]? = some (.cells C t fr) := by
  have hlt : b < w.heap.size := by
    rcases Nat.lt_or_ge b w.heap.size with h1 | h1
    · exact h1
    · rw [Array.getElem?_eq_none h1] at hb; cases hb
  rw [h.block b hlt hne (.inr fun cur f e => by rw [hb] at e; cases e; exact ht rfl), hb]

/-- the writer's box at block B holds the bytes 'out' -/
def Wr (w : World) (B : Nat) (out : List Nat) : Prop :=
  ∃ v, w.heap[B]? = some (.cells #[v] 57 (0, 0)) ∧ w.ownsRow (B + 1) 5 1 v out.length (c8 out)
theorem Wr.lt {w : World} {B : Nat} {out : List Nat} (h : Wr w B out) : B < w.heap.size := by
  obtain ⟨v, h1, _⟩ := h
  rcases Nat.lt_or_ge B w.heap.size with h2 | h2
  · exact h2
  · rw [Array.getElem?_eq_none h2] at h1; cases h1
theorem Wr.later {w w' : World} {B : Nat} {out : List Nat} (h : Wr w B out) (hb : Below w.heap.size w w') : Wr w' B out := by
  have hl := h.lt
  obtain ⟨v, h1, h2⟩ := h
  refine ⟨v, by rw [hb.block B hl]; exact h1, h2.1, ?_⟩
  rcases h2.2 with h3 | ⟨g, cap, cur, e1, e2, e3, e4⟩
  · exact .inl h3
  · refine .inr ⟨g, cap, cur, e1, e2, ?_, e4⟩
    have hg : g < w.heap.size := by
      rcases Nat.lt_or_ge g w.heap.size with h5 | h5
      · exact h5
      · rw [Array.getElem?_eq_none h5] at e3; cases e3
    rw [hb.block g hg]
    exact e3
theorem cell_of_block {w : World} {b j : Nat} {C : Array Value} {t : TypeId} {fr : Nat × Nat} {u : Value} (h : w.heap[b]? = some (.cells C t fr)) (hj : C[j]? = some u) : w.cell? ⟨b, j, none⟩ = some u := by
  unfold World.cell?
  rw [h]
  simpa using hj
theorem frozen_of_block {w : World} {b j : Nat} {C : Array Value} {t : TypeId} (h : w.heap[b]? = some (.cells C t (0, 0))) : w.frozen? ⟨b, j, none⟩ = false := by
  unfold World.frozen?
  rw [h]
  simp
theorem infoU8 : (Try.prog.info? 5).map (fun i => (i.zero, i.size, i.bytes)) = some (some (.int .u8 0), 1, 1) := by kernel_rfl

theorem add0 (b j : Nat) : (⟨b, 0, none⟩ : Addr).add j = ⟨b, j, none⟩ := by unfold Addr.add; split <;> simp_all
theorem new_news (w : World) (l : List Value) (e : TypeId) (fr : Nat × Nat) : ∀ j u, l[j]? = some u → (w.alloc (.cells l.toArray e fr)).cell? ((⟨w.heap.size, 0, none⟩ : Addr).add j) = some u := by
  intro j u hj
  rw [add0]
  exact alloc_cell w _ e fr (by simpa using hj)
/-- what an append and the store of its answer leave of the writer -/
theorem wr_store {w w0 W1 : World} {B : Nat} {out news : List Nat} {v v1 : Value} (hv : w.heap[B]? = some (.cells #[v] 57 (0, 0))) (hown : w.ownsRow (B + 1) 5 1 v out.length (c8 out))
    (hown1 : W1.ownsRow (B + 1) 5 1 v1 (out.length + news.length) (c8 out ++ c8 news)) (hb : Below w.heap.size w w0) (hg : w0.grownBy W1 v.ownBlock) : Wr (W1.setCell ⟨B, 0, none⟩ v1) B (out ++ news) ∧ WF B w (W1.setCell ⟨B, 0, none⟩ v1) := by
  have hB : B < w.heap.size := Wr.lt ⟨v, hv, hown⟩
  have hne : some B ≠ v.ownBlock := by
    rcases hown.2 with ⟨rfl, _⟩ | ⟨g, cap, cur, rfl, h1, _⟩
    · simp [Value.ownBlock]
    · simp only [Value.ownBlock, ne_eq, Option.some.injEq]; omega
  have hW1 : W1.heap[B]? = some (.cells #[v] 57 (0, 0)) := by rw [hg.block B (Nat.lt_of_lt_of_le hB hb.size) hne, hb.block B hB, hv]
  refine ⟨⟨v1, one_setCell hW1, ?_⟩, hg.os.trans hb.os, hg.tape.trans hb.tape, hg.output.trans hb.output, ?_, ?_⟩
  · rw [c8_append, List.length_append]
    exact ownsRow_setCell_below hown1 (Nat.lt_succ_self _) _
  · have h1 := hg.size
    have h2 := hb.size
    simp only [World.setCell, Array.size_modify]
    omega
  · intro k h1 h2 h3
    rw [Below.heap_setCell _ _ _ _ h2, hg.block k (Nat.lt_of_lt_of_le h1 hb.size), hb.block k h1]
    rcases hown.2 with ⟨rfl, _⟩ | ⟨g, cap, cur, rfl, e1, e2, _⟩
    · simp [Value.ownBlock]
    · intro e
      simp only [Value.ownBlock, Option.some.injEq] at e
      subst e
      rcases h3 with h3 | h3
      · omega
      · exact h3 _ _ e2

theorem keep_box {w w0 W1 : World} {B : Nat} {out : List Nat} {v : Value} (hv : w.heap[B]? = some (.cells #[v] 57 (0, 0))) (hown : w.ownsRow (B + 1) 5 1 v out.length (c8 out))
    (hb : Below w.heap.size w w0) (hg : w0.grownBy W1 v.ownBlock) : W1.cell? ⟨B, 0, none⟩ = some v ∧ W1.frozen? ⟨B, 0, none⟩ = false := by
  have hB : B < w.heap.size := Wr.lt ⟨v, hv, hown⟩
  have hne : some B ≠ v.ownBlock := by
    rcases hown.2 with ⟨rfl, _⟩ | ⟨g, cap, cur, rfl, h1, _⟩
    · simp [Value.ownBlock]
    · simp only [Value.ownBlock, ne_eq, Option.some.injEq]; omega
  have hW1 : W1.heap[B]? = some (.cells #[v] 57 (0, 0)) := by rw [hg.block B (Nat.lt_of_lt_of_le hB hb.size) hne, hb.block B hB, hv]
  exact ⟨cell_of_block hW1 rfl, frozen_of_block hW1⟩

set_option maxRecDepth 10000 in
set_option maxHeartbeats 1000000 in
theorem lay_any (w : World) (B : Nat) (out : List Nat) (c : Nat) (hl : out.length + 1 ≤ 70368744177664) (h : Wr w B out) :
    Calls Try.prog 52 #[.pointer (some ⟨B, 0, none⟩), .int .u8 c] w fun e w' => e = .returned (.tuple #[]) ∧ Wr w' B (out ++ [c]) ∧ WF B w w' := by
  obtain ⟨i0, hi, hz0, hz1, hz2⟩ := info_parts infoU8
  have hlt := h.lt
  obtain ⟨v, hv, hown⟩ := h
  have c0 : w.cell? ⟨B, 0, none⟩ = some v := cell_of_block hv rfl
  have f0 := frozen_of_block hv (j := 0)
  have HL : Hid (out.length + 1 ≤ maxLen ∧ (out.length + 1) * 1 ≤ 140737488355328) := ⟨by unfold maxLen; omega, by omega⟩
  have HB : Hid (B + 1 ≤ (w.alloc (.cells #[.int .u8 (c : Int)] 5)).heap.size) := by show _ ≤ _; simp; omega
  have HV : Hid (w.heap[B]? = some (.cells #[v] 57 (0, 0))) := hv
  have HO : Hid (w.ownsRow (B + 1) 5 1 v out.length (c8 out)) := hown
  clear hl hv hown
  go_enter Try.func52, Try.ntmps52
  go_wp2_with (at_builtin; refine wpList_append_own _ rfl (.tmp 8) (.tmp 10) 37 rfl (B + 1) 5 i0 (.int .u8 0) 1 1 Try.underlying37 hi hz0 hz1 hz2 rfl (by decide) v out.length (c8 out) rfl (HO.out.alloc _) ⟨w.heap.size, 0, none⟩ 1 1 [.int .u8 (c : Int)] rfl rfl (new_news w [.int .u8 (c : Int)] 5 (0, 0)) (c8_one [c]) HL.out.1 HL.out.2 HB.out ?_; intro v1 W1 hown1 hg1 _; have HS : Hid _ := wr_store (news := [c]) HV.out HO.out hown1 (alloc_below w _) hg1; have K := keep_box HV.out HO.out (alloc_below w _) hg1; obtain ⟨c1, f1⟩ := K; obtain ⟨ad1, cp1, rfl⟩ := own_sl hown1; clear hown1 hg1)
  go_end0
  exact ⟨rfl, HS.out⟩
end Go.Proofs.Ytikoddlidhefpaa
