/-
  The writer: a box of bytes that grows; numbers, bytes, copies as parts.
-/
import Derived.Test.YtkkignjenjdjiaaSqA
import Derived.Handy
namespace Go.Proofs.Ytkkignjenjdjiaa
set_option linter.unusedVariables false
set_option linter.unusedSimpArgs false
open Go.ChangeShapes Go.WideShapes Go.ChangeAt Go.RowKit

/-- all blocks but B, and but rows of bytes behind it, are as they were -/
structure WF (B : Nat) (w w' : World) : Prop where
  os : w'.os = w.os
  tape : w'.tape = w.tape
  output : w'.output = w.output
  size : w.heap.size ≤ w'.heap.size
  block : ∀ k, k < w.heap.size → k ≠ B → (k < B ∨ ∀ cur fr, w.heap[k]? ≠ some (.cells cur 5 fr)) → w'.heap[k]? = w.heap[k]?
theorem WF.refl (B : Nat) (w : World) : WF B w w := ⟨rfl, rfl, rfl, Nat.le_refl _, fun _ _ _ _ => rfl⟩
theorem WF.trans {B : Nat} {a b c : World} (h : WF B a b) (k : WF B b c) : WF B a c :=
  ⟨k.os.trans h.os, k.tape.trans h.tape, k.output.trans h.output, Nat.le_trans h.size k.size, fun i h1 h2 h3 => by
    have e := h.block i h1 h2 h3
    rw [k.block i (Nat.lt_of_lt_of_le h1 h.size) h2 (h3.imp id (fun h4 cur fr => by rw [e]; exact h4 cur fr)), e]⟩
theorem WF.of_below {B : Nat} {w w' : World} (h : Below w.heap.size w w') : WF B w w' := ⟨h.os, h.tape, h.output, h.size, fun k h1 _ _ => h.block k h1⟩
theorem WF.below {B : Nat} {w w' : World} (h : WF B w w') (hB : B ≤ w.heap.size) : Below B w w' := ⟨h.os, h.tape, h.output, h.size, fun k hk => h.block k (by omega) (by omega) (.inl hk)⟩
/-- a box that is no row of bytes stays -/
theorem WF.box {B b : Nat} {w w' : World} {C : Array Value} {t : TypeId} {fr : Nat × Nat} (h : WF B w w') (hb : w.heap[b]? = some (.cells C t fr)) (hne : b ≠ B) (ht : t ≠ 5) : w'.heap[b]? = some (.cells C t fr) := by
  rw [h.block b (lt_of_heap hb) hne (.inr fun cur f e => by rw [hb] at e; cases e; exact ht rfl), hb]
theorem WF.map {B b : Nat} {w w' : World} {es : Array MapEntry} {c : Nat} (h : WF B w w') (hb : w.heap[b]? = some (.map es c)) (hne : b ≠ B) : w'.heap[b]? = w.heap[b]? :=
  h.block b (lt_of_heap hb) hne (.inr fun cur f e => by rw [hb] at e; cases e)

/-- the box at block B holds the bytes 'out' -/
def Wr (w : World) (B : Nat) (out : List Nat) : Prop :=
  ∃ v, w.heap[B]? = some (.cells #[v] 22 (0, 0)) ∧ w.ownsRow (B + 1) 5 1 v out.length (c8 out)
theorem Wr.lt {w : World} {B : Nat} {out : List Nat} (h : Wr w B out) : B < w.heap.size := by
  obtain ⟨v, h1, _⟩ := h
  exact lt_of_heap h1
theorem Wr.later {w w' : World} {B : Nat} {out : List Nat} (h : Wr w B out) (hb : Below w.heap.size w w') : Wr w' B out := by
  have hl := h.lt
  obtain ⟨v, h1, h2⟩ := h
  exact ⟨v, by rw [hb.block B hl]; exact h1, own_kept h2 fun k hk _ => hb.block k hk⟩
/-- what an append and the store of its answer leave of the writer -/
theorem wr_store {w w0 W1 : World} {B : Nat} {out news : List Nat} {v v1 : Value} (hv : w.heap[B]? = some (.cells #[v] 22 (0, 0))) (hown : w.ownsRow (B + 1) 5 1 v out.length (c8 out))
    (hown1 : W1.ownsRow (B + 1) 5 1 v1 (out.length + news.length) (c8 out ++ c8 news)) (hb : Below w.heap.size w w0) (hg : w0.grownBy W1 v.ownBlock) : (Wr (W1.setCell ⟨B, 0, none⟩ v1) B (out ++ news) ∧ WF B w (W1.setCell ⟨B, 0, none⟩ v1)) ∧ W1.cell? ⟨B, 0, none⟩ = some v ∧ W1.frozen? ⟨B, 0, none⟩ = false := by
  have hB : B < w.heap.size := Wr.lt ⟨v, hv, hown⟩
  have hne : some B ≠ v.ownBlock := by
    rcases hown.2 with ⟨rfl, _⟩ | ⟨g, cap, cur, rfl, h1, _⟩
    · simp [Value.ownBlock]
    · simp only [Value.ownBlock, ne_eq, Option.some.injEq]; omega
  have hW1 : W1.heap[B]? = some (.cells #[v] 22 (0, 0)) := by rw [hg.block B (Nat.lt_of_lt_of_le hB hb.size) hne, hb.block B hB, hv]
  refine ⟨⟨⟨v1, one_setCell hW1, ?_⟩, hg.os.trans hb.os, hg.tape.trans hb.tape, hg.output.trans hb.output, ?_, ?_⟩, cell_of_block hW1 rfl, frozen_of_block hW1⟩
  · rw [c8_append, List.length_append]
    exact ownsRow_setCell_below hown1 (Nat.lt_succ_self _) _
  · have h1 := hg.size
    have h2 := hb.size
    simp only [World.setCell, Array.size_modify]
    omega
  · intro k h1 h2 h3
    rw [Below.heap_setCell _ _ _ _ h2, hg.block k (Nat.lt_of_lt_of_le h1 hb.size), hb.block k h1]
    rcases hown.2 with ⟨rfl, _⟩ | ⟨g, cap, cur, rfl, e1, e2, _⟩
    · simp [Value.ownBlock]
    · intro e
      simp only [Value.ownBlock, Option.some.injEq] at e
      subst e
      rcases h3 with h3 | h3
      · omega
      · exact h3 _ _ e2

set_option maxRecDepth 100000 in
set_option maxHeartbeats 1000000 in
theorem lay_any (w : World) (B g off n cp : Nat) (out l : List Nat) (hs : Src w (some ⟨g, off, none⟩) n cp (c8 l)) (hl : out.length + n ≤ 70368744177664) (h : Wr w B out) :
    Calls Try.prog 25 #[.slice (some ⟨g, off, none⟩) n cp, .pointer (some ⟨B, 0, none⟩)] w fun e w' => e = .returned (.tuple #[]) ∧ Wr w' B (out ++ l) ∧ WF B w w' := by
  obtain ⟨i0, hi, hz0, hz1, hz2⟩ := info_parts infoU8
  have hlt := h.lt
  obtain ⟨v, hv, hown⟩ := h
  have hln : l.length = n := by have := hs.1; rwa [c8_len] at this
  have hnews : ∀ j u, (c8 l)[j]? = some u → w.cell? ((⟨g, off, none⟩ : Addr).add j) = some u := by
    rcases hs.2 with ⟨e, _⟩ | ⟨p, e, hp⟩
    · cases e
    · cases e; exact hp
  have c0 : w.cell? ⟨B, 0, none⟩ = some v := cell_of_block hv rfl
  have HN : Hid (∀ j u, (c8 l)[j]? = some u → w.cell? ((⟨g, off, none⟩ : Addr).add j) = some u) := hnews
  have HLN : Hid ((c8 l).length = n * 1) := by show _ = _; rw [c8_len, hln]; omega
  have HL : Hid (out.length + n ≤ maxLen ∧ (out.length + n) * 1 ≤ 140737488355328) := ⟨by unfold maxLen; omega, by omega⟩
  have HB : Hid (B + 1 ≤ w.heap.size) := hlt
  have HO : Hid (w.ownsRow (B + 1) 5 1 v out.length (c8 out)) := hown
  have HST : Hid (∀ v1 W1, W1.ownsRow (B + 1) 5 1 v1 (out.length + n) (c8 out ++ c8 l) → w.grownBy W1 v.ownBlock → (Wr (W1.setCell ⟨B, 0, none⟩ v1) B (out ++ l) ∧ WF B w (W1.setCell ⟨B, 0, none⟩ v1)) ∧ W1.cell? ⟨B, 0, none⟩ = some v ∧ W1.frozen? ⟨B, 0, none⟩ = false) := by
    intro v1 W1 k1 k2
    exact wr_store hv hown (by rw [hln]; exact k1) (Below.refl _ _) k2
  clear hl hv hown hnews hs hln
  go_enter Try.func25, Try.ntmps25
  go_wp2_with (at_builtin; refine wpList_append_own _ rfl (.tmp 3) (.tmp 4) 22 rfl (B + 1) 5 i0 (.int .u8 0) 1 1 Try.underlying22 hi hz0 hz1 hz2 rfl (by decide) v out.length (c8 out) rfl HO.out ⟨g, off, none⟩ n cp (c8 l) rfl HLN.out HN.out (c8_one l) HL.out.1 HL.out.2 HB.out ?_; intro v1 W1 hown1 hg1 _; have HS : Hid _ := HST.out v1 W1 hown1 hg1; have c1 := HS.out.2.1; have f1 := HS.out.2.2; obtain ⟨ad1, cp1, rfl⟩ := own_sl hown1; clear hown1 hg1)
  go_end0
  exact ⟨rfl, HS.out.1⟩

/-- the bytes of a number -/
def numF : Nat → Nat → List Nat
  | 0, n => [n]
  | k + 1, n => if n < 128 then [n] else (n % 128 + 128) :: numF k (n / 128)
theorem numF_far : ∀ (k j n : Nat), n ≤ k → n ≤ j → numF k n = numF j n
  | 0, 0, n, _, _ => rfl
  | 0, j + 1, n, h, _ => by simp only [numF]; rw [if_pos (by omega)]
  | k + 1, 0, n, _, h => by simp only [numF]; rw [if_pos (by omega)]
  | k + 1, j + 1, n, h1, h2 => by
    simp only [numF]
    by_cases hn : n < 128
    · rw [if_pos hn, if_pos hn]
    · rw [if_neg hn, if_neg hn, numF_far k j (n / 128) (by omega) (by omega)]
def numB (n : Nat) : List Nat := numF n n
theorem numB_eq (n : Nat) : numB n = if n < 128 then [n] else (n % 128 + 128) :: numB (n / 128) := by
  show numF n n = if n < 128 then [n] else (n % 128 + 128) :: numF (n / 128) (n / 128)
  rw [numF_far n (n + 1) n (Nat.le_refl _) (Nat.le_succ _)]
  simp only [numF]
  by_cases hn : n < 128
  · rw [if_pos hn, if_pos hn]
  · rw [if_neg hn, if_neg hn, numF_far n (n / 128) (n / 128) (by omega) (Nat.le_refl _)]

theorem src_new (w : World) (l : List Nat) (e : TypeId) (fr : Nat × Nat) (c : Nat) : Src (w.alloc (.cells (c8 l).toArray e fr)) (some ⟨w.heap.size, 0, none⟩) l.length c (c8 l) := by
  refine ⟨c8_len l, .inr ⟨_, rfl, fun j u hj => ?_⟩⟩
  rw [add0]
  exact alloc_cell w _ e fr (by simpa using hj)
/-- one byte that is laid by itself -/
theorem lay_new (w : World) (B : Nat) (out l : List Nat) (hl : out.length + l.length ≤ 70368744177664) (h : Wr w B out) :
    Calls Try.prog 25 #[.slice (some ⟨w.heap.size, 0, none⟩) l.length l.length, .pointer (some ⟨B, 0, none⟩)] (w.alloc (.cells (c8 l).toArray 5)) fun e w' => e = .returned (.tuple #[]) ∧ Wr w' B (out ++ l) ∧ WF B w w' := by
  refine (lay_any (w.alloc (.cells (c8 l).toArray 5)) B w.heap.size 0 l.length l.length out l (src_new w l 5 (0, 0) _) hl (h.later (alloc_below _ _))).mono ?_
  rintro e w' ⟨rfl, h1, h2⟩
  exact ⟨rfl, h1, (WF.of_below (alloc_below w _)).trans h2⟩

theorem conv8 (n : Nat) : IntKind.u8.wrap (n : Int) = ((n % 256 : Nat) : Int) := by rw [IntKind.wrap_u8]; omega
theorem numB_len : ∀ (k n : Nat), n < 128 ^ (k + 1) → (numB n).length ≤ k + 1
  | 0, n, h => by rw [numB_eq, if_pos (by simpa using h)]; simp
  | k + 1, n, h => by
    rw [numB_eq]
    split
    · simp
    · have := numB_len k (n / 128) (by rw [Nat.div_lt_iff_lt_mul (by omega)]; rw [Nat.pow_succ] at h; exact h)
      simp
      omega

set_option maxRecDepth 100000 in
set_option maxHeartbeats 1000000 in
theorem layNumber_any (w : World) (B n : Nat) (out : List Nat) (hn : n ≤ 1048576) (hl : out.length ≤ 1048576) (h : Wr w B out) :
    Calls Try.prog 26 #[.func (.func 25) #[] #[.pointer (some ⟨B, 0, none⟩)], .int .i64 n] w fun e w' => e = .returned (.tuple #[]) ∧ Wr w' B (out ++ numB n) ∧ WF B w w' := by
  refine calls_of fun Q HQ => ?_
  have QOK : ∀ w', Hid (Wr w' B (out ++ numB n)) → WF B w w' → Q (.returned (.tuple #[])) w' := fun w' h1 h2 => HQ _ _ ⟨rfl, h1, h2⟩
  clear HQ
  go_enter Try.func26, Try.ntmps26
  go_wp2_with fail
  go_loopw [1] (fun nv wr => ∃ (m : Nat) (o : List Nat), nv = .int .i64 (m : Int) ∧ m ≤ 1048576 ∧ Hid (Wr wr B o ∧ o ++ numB m = out ++ numB n ∧ o.length + 2 * m ≤ out.length + 2 * n) ∧ WF B w wr) (fun nv _ => (intOf nv).toNat)
  case atStart => exact ⟨n, out, rfl, hn, ⟨h, rfl, Nat.le_refl _⟩, WF.refl _ _⟩
  case round =>
    obtain ⟨m, o, rfl, hm, HW, hf⟩ := hrel
    obtain ⟨w1, w2, w3⟩ := HW.out
    by_cases hlt : m < 128
    · have hlt' : (m : Int) < 128 := by omega
      have K := lay_new wr B o [m] (by simp; omega) w1
      simp only [c8, List.map_cons, List.map_nil, List.length_cons, List.length_nil, Nat.zero_add] at K
      have HE : Hid (o ++ [m] = out ++ numB n) := by show _ = _; rw [← w2, numB_eq, if_pos hlt]
      clear HW w1 w2 w3 h
      go_wp2_with fail
      refine K.mono ?_
      rintro e wx ⟨rfl, hw, hfx⟩
      have HWX : Hid (Wr wx B (out ++ numB n)) := by rw [← HE.out]; exact hw
      go_wp2_with fail
      go_end0
      exact QOK _ HWX (hf.trans hfx)
    · have hlt' : (128 : Int) ≤ (m : Int) := by omega
      obtain ⟨r, hr⟩ : ∃ r, r = m % 128 := ⟨_, rfl⟩
      obtain ⟨q, hq⟩ : ∃ q, q = r + 128 := ⟨_, rfl⟩
      obtain ⟨d, hd⟩ : ∃ d, d = m / 128 := ⟨_, rfl⟩
      have hri : (m : Int) % 128 = (r : Int) := by omega
      have hrl : (r : Int) < 128 := by omega
      have hqi : (r : Int) + 128 = (q : Int) := by omega
      have hql : (q : Int) < 256 := by omega
      have hdi : (m : Int) / 128 = (d : Int) := by omega
      have K := lay_new wr B o [q] (by simp; omega) w1
      simp only [c8, List.map_cons, List.map_nil, List.length_cons, List.length_nil, Nat.zero_add] at K
      have HE : Hid ((o ++ [q]) ++ numB d = out ++ numB n ∧ (o ++ [q]).length + 2 * d ≤ out.length + 2 * n) := by
        refine ⟨?_, by simp; omega⟩
        rw [← w2]
        conv => rhs; rw [numB_eq, if_neg hlt]
        rw [List.append_assoc, hq, hr, hd]
        rfl
      have hdm : d < m := by omega
      clear HW w1 w2 w3 h hr hq hd
      go_wp2_with fail
      refine K.mono ?_
      rintro e wx ⟨rfl, hw, hfx⟩
      go_wp2_with fail
      go_roundw
      case rel => exact ⟨d, o ++ [q], rfl, by omega, ⟨hw, HE.out.1, HE.out.2⟩, hf.trans hfx⟩
      case measure => simp [intOf]; omega

end Go.Proofs.Ytkkignjenjdjiaa
