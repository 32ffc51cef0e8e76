/-
  The writer: how copies are found.
-/
import Derived.Test.YtkkignjenjdjiaaSqD
import Derived.Deep.RegionHeld3
import Derived.BigRegion
namespace Go.Proofs.Ytkkignjenjdjiaa
set_option linter.unusedVariables false
set_option linter.unusedSimpArgs false
open Go.ChangeShapes Go.WideShapes Go.ChangeAt Go.RowKit

/-- the finder's boxes: how many places are known, the map, the bytes -/
structure Cop (w : World) (kb pb bb m K : Nat) (a : Option Addr) (L cp : Nat) : Prop where
  k : w.heap[kb]? = some (.cells #[.int .i64 (K : Int)] 3 (0, 0))
  p : w.heap[pb]? = some (.cells #[.map (some m)] 61 (0, 0))
  b : w.heap[bb]? = some (.cells #[.slice a L cp] 22 (0, 0))
  m : Places w m K

theorem Cop.wf {w w' : World} {B kb pb bb m K : Nat} {a : Option Addr} {L cp : Nat} (h : Cop w kb pb bb m K a L cp) (hf : WF B w w') (hlo : B < kb ∧ B < pb ∧ B < bb ∧ B < m) : Cop w' kb pb bb m K a L cp := by
  obtain ⟨es, c, h1, _⟩ := h.m
  exact ⟨hf.box h.k (by omega) (by decide), hf.box h.p (by omega) (by decide), hf.box h.b (by omega) (by decide), h.m.kept (hf.map h1 (by omega))⟩

theorem alloc4 (w : World) (x y z u : Obj) : let W := (((w.alloc x).alloc y).alloc z).alloc u
    W.heap[w.heap.size]? = some x ∧ W.heap[w.heap.size + 1]? = some y ∧ W.heap[w.heap.size + 1 + 1]? = some z ∧ W.heap[w.heap.size + 1 + 1 + 1]? = some u ∧ Below w.heap.size w W := by
  refine ⟨?_, ?_, ?_, ?_, (((alloc_below w x).alloc (by first | (simp; done) | (simp; omega)) y).alloc (by first | (simp; done) | (simp; omega)) z).alloc (by first | (simp; done) | (simp; omega)) u⟩
  · rw [(alloc_below _ u).block _ (by first | (simp; done) | (simp; omega)), (alloc_below _ z).block _ (by first | (simp; done) | (simp; omega)), (alloc_below _ y).block _ (by first | (simp; done) | (simp; omega))]
    exact heap_new _ _
  · rw [(alloc_below _ u).block _ (by first | (simp; done) | (simp; omega)), (alloc_below _ z).block _ (by first | (simp; done) | (simp; omega))]
    exact heap2_new _ _ _
  · rw [(alloc_below _ u).block _ (by first | (simp; done) | (simp; omega))]
    have := heap2_new (w.alloc x) y z
    simpa using this
  · have := heap2_new ((w.alloc x).alloc y) z u
    simpa using this

set_option maxRecDepth 100000 in
set_option maxHeartbeats 1000000 in
theorem copiesOf_any (w : World) (a : Option Addr) (L cp : Nat) :
    Calls Try.prog 27 #[.slice a L cp] w fun e w' => ∃ kb pb bb m, e = .returned (.func (.func 34) #[] #[.pointer (some ⟨kb, 0, none⟩), .pointer (some ⟨pb, 0, none⟩), .pointer (some ⟨bb, 0, none⟩)]) ∧ Cop w' kb pb bb m 0 a L cp ∧ (w.heap.size ≤ kb ∧ w.heap.size ≤ pb ∧ w.heap.size ≤ bb ∧ w.heap.size ≤ m) ∧ Below w.heap.size w w' := by
  have hmf : ∀ (fn : Fn) (first cap : Array Value) (w : World), (Instr.makeFunc fn first cap).run Try.prog w = .ok (.func fn first cap) w := fun _ _ _ _ => rfl
  have hmm := @run_makeMap Try.prog
  go_enter Try.func27, Try.ntmps27
  go_wp2_with fail
  go_ret
  obtain ⟨q0, q1, q2, q3, q4⟩ := alloc4 w (.cells #[.slice a L cp] 22) (.map #[] 0) (.cells #[.map (some (w.heap.size + 1))] 61) (.cells #[.int .i64 0] 3)
  refine ⟨w.heap.size + 1 + 1 + 1, w.heap.size + 1 + 1, w.heap.size, w.heap.size + 1, rfl, ⟨q3, q2, q0, ?_⟩, ⟨by omega, by omega, by omega, by omega⟩, q4⟩
  exact ⟨#[], 0, q1, ⟨by simp, Go.MapKept.stamped_empty 0, by simp⟩, Nat.le_refl _⟩

/-- all blocks but two are as they were -/
structure Two (x y : Nat) (w w' : World) : Prop where
  os : w'.os = w.os
  tape : w'.tape = w.tape
  output : w'.output = w.output
  size : w'.heap.size = w.heap.size
  block : ∀ k, k ≠ x → k ≠ y → w'.heap[k]? = w.heap[k]?
theorem Two.refl (x y : Nat) (w : World) : Two x y w w := ⟨rfl, rfl, rfl, rfl, fun _ _ _ => rfl⟩
theorem Two.trans {x y : Nat} {a b c : World} (h : Two x y a b) (k : Two x y b c) : Two x y a c :=
  ⟨k.os.trans h.os, k.tape.trans h.tape, k.output.trans h.output, k.size.trans h.size, fun i h1 h2 => by rw [k.block i h1 h2, h.block i h1 h2]⟩
theorem Two.drewN (x y : Nat) (w : World) (k : Nat) : Two x y w (w.drewN k) := ⟨rfl, rfl, rfl, rfl, fun _ _ _ => rfl⟩
theorem Two.cell {x y : Nat} {w w' : World} (h : Two x y w w') {b o : Nat} (h1 : b ≠ x) (h2 : b ≠ y) : w'.cell? ⟨b, o, none⟩ = w.cell? ⟨b, o, none⟩ := World.cell?_of_block (w := w) (h.block b h1 h2)
theorem Two.src {x y : Nat} {w w' : World} (h : Two x y w w') {g off n cp : Nat} {l : List Value} (hs : Src w (some ⟨g, off, none⟩) n cp l) (h1 : g ≠ x) (h2 : g ≠ y) : Src w' (some ⟨g, off, none⟩) n cp l := by
  refine ⟨hs.1, ?_⟩
  rcases hs.2 with ⟨e, _⟩ | ⟨p, e, hp⟩
  · cases e
  · cases e
    refine .inr ⟨_, rfl, fun j u hj => ?_⟩
    have hblk : ((⟨g, off, none⟩ : Addr).add j).block = g := by unfold Addr.add; split <;> simp_all
    rw [World.cell?_of_block (w := w) (w' := w') (by rw [hblk]; exact h.block g h1 h2)]
    exact hp j u hj
theorem run_arr (W : World) (g o n c : Nat) (h : 4 ≤ n) : (Instr.arrayAt 62 (.slice (some ⟨g, o, none⟩) n c)).run Try.prog W = .ok (.pointer (some ⟨g, o, none⟩)) W := by
  simp [Instr.arrayAt, run_underlying Try.underlying62, go_sem, Result.andThen, h]
theorem src_heap {w W : World} {a : Option Addr} {n c : Nat} {l : List Value} (h : Src w a n c l) (hW : W.heap = w.heap) : Src W a n c l := by
  refine ⟨h.1, h.2.imp id ?_⟩
  rintro ⟨p, e, hp⟩
  exact ⟨p, e, fun j u hj => by rw [World.cell?_of_block (w := w) (w' := W) (by rw [hW])]; exact hp j u hj⟩
def intAt (w : World) (b : Nat) : Int := match w.cell? ⟨b, 0, none⟩ with
  | some (.int _ q) => q
  | _ => 0

set_option maxRecDepth 100000 in
set_option maxHeartbeats 1000000 in
theorem copyAt_any (w : World) (kb pb bb m K p L cp g off : Nat) (bs : List Nat) (h : Cop w kb pb bb m K (some ⟨g, off, none⟩) L cp) (hs : Src w (some ⟨g, off, none⟩) L cp (c8 bs)) (h8 : ∀ c ∈ bs, c < 256) (hL : bs.length = L) (hLb : L ≤ 1048576) (hcp : L ≤ cp) (hg : g ≠ kb ∧ g ≠ m) (hK : K ≤ p) (hp : p + 4 ≤ L) :
    Calls Try.prog 34 #[.int .i64 p, .pointer (some ⟨kb, 0, none⟩), .pointer (some ⟨pb, 0, none⟩), .pointer (some ⟨bb, 0, none⟩)] w fun e w' => ∃ s back : Nat, e = .returned (.tuple #[.int .i64 (s : Int), .int .i64 (back : Int)]) ∧ ((s = 0 ∧ back = 0) ∨ ∃ q, q < p ∧ s = alikeN (bs.drop q) (bs.drop p) ∧ back = p - q) ∧ Cop w' kb pb bb m p (some ⟨g, off, none⟩) L cp ∧ Two kb m w w' := by
  refine calls_of fun Q HQ => ?_
  have HK : Hid (∀ (s back : Nat) w', ((s = 0 ∧ back = 0) ∨ ∃ q, q < p ∧ s = alikeN (bs.drop q) (bs.drop p) ∧ back = p - q) → Cop w' kb pb bb m p (some ⟨g, off, none⟩) L cp → Two kb m w w' → Q (.returned (.tuple #[.int .i64 (s : Int), .int .i64 (back : Int)])) w') := fun s back w' h1 h2 h3 => HQ _ _ ⟨s, back, rfl, h1, h2, h3⟩
  clear HQ
  have n1 : kb ≠ pb := fun e => by have h1 := h.k; have h2 := h.p; rw [e, h2] at h1; cases h1
  have n2 : kb ≠ bb := fun e => by have h1 := h.k; have h2 := h.b; rw [e, h2] at h1; cases h1
  have n3 : m ≠ kb := fun e => by obtain ⟨es, c, h1, _⟩ := h.m; have h2 := h.k; rw [← e, h1] at h2; cases h2
  have n4 : m ≠ pb := fun e => by obtain ⟨es, c, h1, _⟩ := h.m; have h2 := h.p; rw [← e, h1] at h2; cases h2
  have n5 : m ≠ bb := fun e => by obtain ⟨es, c, h1, _⟩ := h.m; have h2 := h.b; rw [← e, h1] at h2; cases h2
  have H0 : Hid (Cop w kb pb bb m K (some ⟨g, off, none⟩) L cp) := h
  have HS : Hid (Src w (some ⟨g, off, none⟩) L cp (c8 bs)) := hs
  have H8 : Hid (∀ i, i < L → bs.getD i 0 < 256) := fun i hi => h8 _ (getD_mem _ _ (by omega))
  have HL : Hid (bs.length = L) := hL
  have hpL : (p : Int) ≤ (L : Int) := by omega
  have hp4 : (p : Int) + 4 ≤ (L : Int) := by omega
  have hLc : (L : Int) ≤ (cp : Int) := by omega
  have hpb : (p : Int) ≤ 1048576 := by omega
  clear h hs h8 hL
  go_enter Try.func34, Try.ntmps34
  go_wp2_with fail
  go_loopw [] (fun wr => ∃ k, k ≤ p ∧ Hid (Cop wr kb pb bb m k (some ⟨g, off, none⟩) L cp) ∧ Two kb m w wr) (fun wr => p - (intAt wr kb).toNat)
  case atStart => exact ⟨K, hK, H0, Two.refl _ _ _⟩
  case round =>
    obtain ⟨k, hk, HC, ht⟩ := hrel
    have hsr := ht.src HS.out hg.1 hg.2
    have ck : wr.cell? ⟨kb, 0, none⟩ = some (.int .i64 (k : Int)) := cell_of_block HC.out.k rfl
    have fk : wr.frozen? ⟨kb, 0, none⟩ = false := frozen_of_block HC.out.k
    have cpb : wr.cell? ⟨pb, 0, none⟩ = some (.map (some m)) := cell_of_block HC.out.p rfl
    have cbb : wr.cell? ⟨bb, 0, none⟩ = some (.slice (some ⟨g, off, none⟩) L cp) := cell_of_block HC.out.b rfl
    have HI : Hid (intAt wr kb = (k : Int)) := by show _ = _; unfold intAt; rw [ck]
    by_cases hlt : k < p
    · have hlt' : (k : Int) < (p : Int) := by omega
      have byte : ∀ j, j < 4 → ∃ c, c < 256 ∧ wr.cell? ⟨g, off + k + j, none⟩ = some (.int .u8 ((c : Nat) : Int)) := by
        intro j hj
        obtain ⟨g', off', e, hc⟩ := src_at hsr (j := k + j) (by omega)
        cases e
        exact ⟨_, H8.out (k + j) (by omega), by rw [Nat.add_assoc]; exact hc⟩
      obtain ⟨x0, hx0, k0⟩ := byte 0 (by omega)
      obtain ⟨x1, hx1, k1⟩ := byte 1 (by omega)
      obtain ⟨x2, hx2, k2⟩ := byte 2 (by omega)
      obtain ⟨x3, hx3, k3⟩ := byte 3 (by omega)
      simp only [Nat.add_zero] at k0
      obtain ⟨w2, hrun, hpl, o1, o2, o3, o4, o5⟩ := places_store (w := wr.drew) (HC.out.m) (by omega) x0 x1 x2 x3 hx0 hx1 hx2 hx3
      have hkL : (k : Int) ≤ (L : Int) := by omega
      have hkc : (k : Int) ≤ (cp : Int) := by omega
      have hk4 : 4 ≤ L - k := by omega
      have hck : ¬ cp = k := by omega
      have har := fun W => run_arr W g (off + k) (L - k) (cp - k) hk4
      have t2 : Two kb m wr w2 := ⟨o1, o2, o3, o4, fun i h1 h2 => o5 i h2⟩
      have cell2 : ∀ b o, b ≠ m → w2.cell? ⟨b, o, none⟩ = wr.cell? ⟨b, o, none⟩ := fun b o hb => World.cell?_of_block (w := wr) (o5 b hb)
      have ck2 : w2.cell? ⟨kb, 0, none⟩ = some (.int .i64 (k : Int)) := by rw [cell2 _ _ (Ne.symm n3)]; exact ck
      have fk2 : w2.frozen? ⟨kb, 0, none⟩ = false := by rw [World.frozen?_of_block (w := wr) (o5 kb (Ne.symm n3))]; exact fk
      have s2 : w2.cell? ⟨kb, 0, none⟩ = some (.int .i64 (k : Int)) ∧ w2.cell? ⟨pb, 0, none⟩ = some (.map (some m)) ∧ w2.cell? ⟨bb, 0, none⟩ = some (.slice (some ⟨g, off, none⟩) L cp) ∧ w2.cell? ⟨g, off + k, none⟩ = some (.int .u8 (x0 : Int)) ∧ w2.cell? ⟨g, off + k + 1, none⟩ = some (.int .u8 (x1 : Int)) ∧ w2.cell? ⟨g, off + k + 2, none⟩ = some (.int .u8 (x2 : Int)) ∧ w2.cell? ⟨g, off + k + 3, none⟩ = some (.int .u8 (x3 : Int)) :=
        ⟨ck2, by rw [cell2 _ _ (Ne.symm n4)]; exact cpb, by rw [cell2 _ _ (Ne.symm n5)]; exact cbb, by rw [cell2 _ _ hg.2]; exact k0, by rw [cell2 _ _ hg.2]; exact k1, by rw [cell2 _ _ hg.2]; exact k2, by rw [cell2 _ _ hg.2]; exact k3⟩
      obtain ⟨k', hk'⟩ : ∃ k', k' = k + 1 := ⟨_, rfl⟩
      rw [← hk'] at hpl
      have HN : Hid (Cop (w2.setCell ⟨kb, 0, none⟩ (.int .i64 (k' : Int))) kb pb bb m k' (some ⟨g, off, none⟩) L cp ∧ Two kb m w (w2.setCell ⟨kb, 0, none⟩ (.int .i64 (k' : Int))) ∧ intAt (w2.setCell ⟨kb, 0, none⟩ (.int .i64 (k' : Int))) kb = (k' : Int)) := by
        have e1 : (w2.setCell ⟨kb, 0, none⟩ (.int .i64 (k' : Int))).heap[kb]? = some (.cells #[.int .i64 (k' : Int)] 3 (0, 0)) := one_setCell (by rw [o5 kb (Ne.symm n3)]; exact HC.out.k)
        have e2 : Two kb m w2 (w2.setCell ⟨kb, 0, none⟩ (.int .i64 (k' : Int))) := ⟨rfl, rfl, rfl, by simp [World.setCell], fun i h1 _ => Below.heap_setCell _ _ _ _ h1⟩
        refine ⟨⟨e1, ?_, ?_, hpl.kept (Below.heap_setCell _ _ _ _ n3)⟩, (ht.trans t2).trans e2, ?_⟩
        · rw [e2.block pb (Ne.symm n1) (Ne.symm n4), o5 pb (Ne.symm n4)]
          exact HC.out.p
        · rw [e2.block bb (Ne.symm n2) (Ne.symm n5), o5 bb (Ne.symm n5)]
          exact HC.out.b
        · have e3 : (w2.setCell ⟨kb, 0, none⟩ (.int .i64 (k' : Int))).cell? ⟨kb, 0, none⟩ = some (.int .i64 (k' : Int)) := cell_of_block e1 rfl
          unfold intAt
          rw [e3]
      have hki : (k : Int) + 1 = (k' : Int) := by omega
      have hwk : IntKind.i64.wrap (k' : Int) = (k' : Int) := by rw [IntKind.wrap_i64]; omega
      have HK' : Hid (k' = k + 1) := hk'
      clear hk'
      have s0 : wr.drew.cell? ⟨kb, 0, none⟩ = some (.int .i64 (k : Int)) ∧ wr.drew.cell? ⟨pb, 0, none⟩ = some (.map (some m)) ∧ wr.drew.cell? ⟨bb, 0, none⟩ = some (.slice (some ⟨g, off, none⟩) L cp) ∧ wr.drew.cell? ⟨g, off + k, none⟩ = some (.int .u8 (x0 : Int)) ∧ wr.drew.cell? ⟨g, off + k + 1, none⟩ = some (.int .u8 (x1 : Int)) ∧ wr.drew.cell? ⟨g, off + k + 2, none⟩ = some (.int .u8 (x2 : Int)) ∧ wr.drew.cell? ⟨g, off + k + 3, none⟩ = some (.int .u8 (x3 : Int)) := ⟨ck, cpb, cbb, k0, k1, k2, k3⟩
      clear byte hpl o1 o2 o3 o4 o5 cell2 t2 hsr k0 k1 k2 k3
      go_wp2_with fail
      refine wp_region_held_drew (S := fun w' => w'.cell? ⟨kb, 0, none⟩ = some (.int .i64 (k : Int)) ∧ w'.cell? ⟨pb, 0, none⟩ = some (.map (some m)) ∧ w'.cell? ⟨bb, 0, none⟩ = some (.slice (some ⟨g, off, none⟩) L cp) ∧ w'.cell? ⟨g, off + k, none⟩ = some (.int .u8 (x0 : Int)) ∧ w'.cell? ⟨g, off + k + 1, none⟩ = some (.int .u8 (x1 : Int)) ∧ w'.cell? ⟨g, off + k + 2, none⟩ = some (.int .u8 (x2 : Int)) ∧ w'.cell? ⟨g, off + k + 3, none⟩ = some (.int .u8 (x3 : Int))) (by kernel_rfl) s0 (fun hHeld => ?_)
      clear s0
      refine wpAnyH_take (i := 0) (v := ?_) rfl (by kernel_rfl) (by kernel_rfl) (by kernel_rfl) (fun _ _ _ h => h) (Or.inl ⟨by rfl, ?_⟩) (by assumption) ?_
      rotate_left
      · intro w hSw
        (try dsimp only at hSw)
        (try (obtain ⟨_, _, _, _, _, _, _⟩ := hSw))
        (try (obtain ⟨_, _⟩ := hSw))
        go_simp
        (try with_reducible rfl)
      (try simp only [Act.put, List.setIfInBounds_toArray, List.set_cons_zero, List.set_cons_succ])
      refine wpAnyH_take (i := 1) (v := ?_) rfl (by kernel_rfl) (by kernel_rfl) (by kernel_rfl) (fun _ _ _ h => h) (Or.inl ⟨by rfl, ?_⟩) (by assumption) ?_
      rotate_left
      · intro w hSw
        (try dsimp only at hSw)
        (try (obtain ⟨_, _, _, _, _, _, _⟩ := hSw))
        (try (obtain ⟨_, _⟩ := hSw))
        go_simp
        (try with_reducible rfl)
      (try simp only [Act.put, List.setIfInBounds_toArray, List.set_cons_zero, List.set_cons_succ])
      refine wpAnyH_take (i := 2) (v := ?_) rfl (by kernel_rfl) (by kernel_rfl) (by kernel_rfl) (fun _ _ _ h => h) (Or.inl ⟨by rfl, ?_⟩) (by assumption) ?_
      rotate_left
      · intro w hSw
        (try dsimp only at hSw)
        (try (obtain ⟨_, _, _, _, _, _, _⟩ := hSw))
        (try (obtain ⟨_, _⟩ := hSw))
        go_simp
        (try with_reducible rfl)
      (try simp only [Act.put, List.setIfInBounds_toArray, List.set_cons_zero, List.set_cons_succ])
      refine wpAnyH_take (i := 3) (v := ?_) rfl (by kernel_rfl) (by kernel_rfl) (by kernel_rfl) (fun _ _ _ h => h) (Or.inl ⟨by rfl, ?_⟩) (by assumption) ?_
      rotate_left
      · intro w hSw
        (try dsimp only at hSw)
        (try (obtain ⟨_, _, _, _, _, _, _⟩ := hSw))
        (try (obtain ⟨_, _⟩ := hSw))
        go_simp
        (try with_reducible rfl)
      (try simp only [Act.put, List.setIfInBounds_toArray, List.set_cons_zero, List.set_cons_succ])
      refine wpAnyH_take (i := 4) (v := ?_) rfl (by kernel_rfl) (by kernel_rfl) (by kernel_rfl) (fun _ _ _ h => h) (Or.inl ⟨by rfl, ?_⟩) (by assumption) ?_
      rotate_left
      · intro w hSw
        (try dsimp only at hSw)
        (try (obtain ⟨_, _, _, _, _, _, _⟩ := hSw))
        (try (obtain ⟨_, _⟩ := hSw))
        go_simp
        (try with_reducible rfl)
      (try simp only [Act.put, List.setIfInBounds_toArray, List.set_cons_zero, List.set_cons_succ])
      refine wpAnyH_take (i := 5) (v := ?_) rfl (by kernel_rfl) (by kernel_rfl) (by kernel_rfl) (fun _ _ _ h => h) (Or.inl ⟨by rfl, ?_⟩) (by assumption) ?_
      rotate_left
      · intro w hSw
        (try dsimp only at hSw)
        (try (obtain ⟨_, _, _, _, _, _, _⟩ := hSw))
        (try (obtain ⟨_, _⟩ := hSw))
        go_simp
        (try with_reducible rfl)
      (try simp only [Act.put, List.setIfInBounds_toArray, List.set_cons_zero, List.set_cons_succ])
      refine wpAnyH_take (i := 6) (v := ?_) rfl (by kernel_rfl) (by kernel_rfl) (by kernel_rfl) (fun _ _ _ h => h) (Or.inl ⟨by rfl, ?_⟩) (by assumption) ?_
      rotate_left
      · intro w hSw
        (try dsimp only at hSw)
        (try (obtain ⟨_, _, _, _, _, _, _⟩ := hSw))
        (try (obtain ⟨_, _⟩ := hSw))
        go_simp
        (try with_reducible rfl)
      (try simp only [Act.put, List.setIfInBounds_toArray, List.set_cons_zero, List.set_cons_succ])
      refine wpAnyH_ready (rs := [7]) (by kernel_rfl) (by simp) ?_
      refine AllReadyH.cons rfl (fun K hK => ?_) AllReadyH.nil
      go_simp
      refine hK.out _ _ s2 (fun hHeld => ?_)
      clear hK K
      refine wpAnyH_done (by kernel_rfl) ?_ _
      go_wp2_with fail
      go_roundw
      case rel => exact ⟨k', by have := HK'.out; omega, HN.out.1, HN.out.2.1⟩
      case measure => rw [HI.out, HN.out.2.2]; have := HK'.out; omega
    · have hkp : k = p := by omega
      subst hkp
      have hge : ¬ (k : Int) < (k : Int) := by omega
      have byte : ∀ j, j < 4 → ∃ c, c < 256 ∧ wr.cell? ⟨g, off + k + j, none⟩ = some (.int .u8 ((c : Nat) : Int)) := by
        intro j hj
        obtain ⟨g', off', e, hc⟩ := src_at hsr (j := k + j) (by omega)
        cases e
        exact ⟨_, H8.out (k + j) (by omega), by rw [Nat.add_assoc]; exact hc⟩
      obtain ⟨x0, hx0, k0⟩ := byte 0 (by omega)
      obtain ⟨x1, hx1, k1⟩ := byte 1 (by omega)
      obtain ⟨x2, hx2, k2⟩ := byte 2 (by omega)
      obtain ⟨x3, hx3, k3⟩ := byte 3 (by omega)
      simp only [Nat.add_zero] at k0
      have hkc : (k : Int) ≤ (cp : Int) := by omega
      have hk4 : 4 ≤ L - k := by omega
      have hck : ¬ cp = k := by omega
      have har := fun W => run_arr W g (off + k) (L - k) (cp - k) hk4
      rcases places_look HC.out.m x0 x1 x2 x3 hx0 hx1 hx2 hx3 with hno | ⟨q, hq, hyes⟩
      · have hlk := fun n => hno (wr.drewN n) rfl
        clear byte hno
        go_wp2_with fail
        go_quiet (fail)
        go_wp2_with fail
        exact HK.out 0 0 _ (.inl ⟨rfl, rfl⟩) ⟨HC.out.k, HC.out.p, HC.out.b, HC.out.m⟩ (ht.trans (Two.drewN _ _ _ _))
      · have hlk := fun n => hyes (wr.drewN n) rfl
        have hqc : (q : Int) ≤ (cp : Int) := by omega
        have hqL : (q : Int) ≤ (L : Int) := by omega
        have hcq : ¬ cp = q := by omega
        obtain ⟨bk, hbk⟩ : ∃ bk, bk = k - q := ⟨_, rfl⟩
        have hbki : (k : Int) - (q : Int) = (bk : Int) := by omega
        have HBK : Hid (bk = k - q) := hbk
        have AL : ∀ W : World, W.heap = wr.heap → Calls Try.prog 35 #[.slice (some ⟨g, off + q, none⟩) (L - q) (cp - q), .slice (some ⟨g, off + k, none⟩) (L - k) (cp - k)] W fun e w' => e = .returned (.int .i64 (alikeN (bs.drop q) (bs.drop k) : Nat)) ∧ w' = W := by
          intro W hW
          have hsW := src_heap hsr hW
          have e1 : (bs.drop q).length = L - q := by rw [List.length_drop, HL.out]
          have e2 : (bs.drop k).length = L - k := by rw [List.length_drop, HL.out]
          have := alike_any W (some ⟨g, off + q, none⟩) (some ⟨g, off + k, none⟩) (bs.drop q) (bs.drop k) (cp - q) (cp - k) (by rw [e1]; exact src_drop hsW (by omega)) (by rw [e2]; exact src_drop hsW (by omega)) (by omega) (by omega)
          rw [e1, e2] at this
          exact this
        have HSS : Hid (∃ q', q' < k ∧ alikeN (bs.drop q) (bs.drop k) = alikeN (bs.drop q') (bs.drop k) ∧ bk = k - q') := ⟨q, hq, rfl, hbk⟩
        generalize alikeN (bs.drop q) (bs.drop k) = sz at *
        clear byte hyes hbk
        go_wp2_with fail
        go_quiet (fail)
        go_wp2_with fail
        have hqh : (wr.drewN nq).heap = wr.heap := rfl
        have HCq : Hid (Cop (wr.drewN nq) kb pb bb m k (some ⟨g, off, none⟩) L cp) := ⟨HC.out.k, HC.out.p, HC.out.b, HC.out.m⟩
        have HTq : Hid (Two kb m w (wr.drewN nq)) := ht.trans (Two.drewN _ _ _ _)
        have cbq : (wr.drewN nq).cell? ⟨bb, 0, none⟩ = some (.slice (some ⟨g, off, none⟩) L cp) := cbb
        generalize wr.drewN nq = wq at *
        have AL2 := fun n => AL (wq.drewN n) hqh
        clear AL hqh hlk ck fk cpb cbb HC ht hsr k0 k1 k2 k3 HI
        go_quiet ((go_at_call 35; exact Calls.quiet_of_same (AL2 _)))
        go_wp2_with fail
        exact HK.out sz bk _ (.inr HSS.out) ⟨HCq.out.k, HCq.out.p, HCq.out.b, HCq.out.m⟩ (HTq.out.trans (Two.drewN _ _ _ _))
end Go.Proofs.Ytkkignjenjdjiaa
