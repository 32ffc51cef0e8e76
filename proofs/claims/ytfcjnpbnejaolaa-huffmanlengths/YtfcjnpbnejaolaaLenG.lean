/-
  huffman.Lengths: refused.
-/
import Derived.Test.YtfcjnpbnejaolaaLenF
import Derived.Test.YtfcjnpbnejaolaaMathQ
namespace Go.Proofs.Ytfcjnpbnejaolaa
set_option linter.unusedVariables false
set_option linter.unusedSimpArgs false
open Go.RowKit Go.Shelf

attribute [local go_sem] Oper.semAt_some

set_option maxRecDepth 100000 in
set_option maxHeartbeats 2000000 in
theorem lengths_arg (w : World) (a : Option Addr) (len cap : Nat) (limit : Int) (h : limit < 1 ∨ 15 < limit) :
    Calls Try.prog 7 #[.slice a len cap, .int .i64 limit] w fun e w' => e = .returned (.tuple #[.slice none 0 0, .int .i64 2]) ∧ Below w.heap.size w w' := by
  refine (callsIn_wide (n := 4)).1 ?_
  refine callsIn_of_wp_marks Try.func7 rfl trivial ?_ rfl
  simp only [Try.ntmps7, List.size_toArray, List.length_cons, List.length_nil, Nat.reduceAdd, Nat.reduceSub, Array.replicate_succ, Array.replicate_zero, List.push_toArray, List.append_toArray, List.nil_append, List.cons_append]
  rcases h with h | h
  · gi_wp2
    exact ⟨_, by simp [results, Try.f7, go_sem], rfl, Below.refl _ _⟩
  · have h1 : ¬ limit < 1 := by omega
    gi_wp2
    exact ⟨_, by simp [results, Try.f7, go_sem], rfl, Below.refl _ _⟩

set_option maxRecDepth 100000 in
set_option maxHeartbeats 2000000 in
theorem lengths_ref (w : World) (a : Option Addr) (len cap : Nat) (l : List Int) (limit : Int) (hs : Src w a len cap (ci l)) (hlen : len ≤ 17592186044416) (h1 : 1 ≤ limit) (h2 : limit ≤ 15) (hno : refu 2147483647 l ≠ 0) :
    Calls Try.prog 7 #[.slice a len cap, .int .i64 limit] w fun e w' => e = .returned (.tuple #[.slice none 0 0, .int .i64 (refu 2147483647 l)]) ∧ Below w.heap.size w w' := by
  have K := refusal_any w a len cap l 2147483647 hs hlen
  generalize refu 2147483647 l = q at *
  have h0' : (q == 0) = false := by simpa using hno
  clear hno hs
  refine (callsIn_wide (n := 4)).1 ?_
  refine callsIn_of_wp_marks Try.func7 rfl trivial ?_ rfl
  simp only [Try.ntmps7, List.size_toArray, List.length_cons, List.length_nil, Nat.reduceAdd, Nat.reduceSub, Array.replicate_succ, Array.replicate_zero, List.push_toArray, List.append_toArray, List.nil_append, List.cons_append]
  gi_wp2_with (refine ⟨trivial, ?_⟩; gi_at_call 18; refine (callsIn_wide.2 K).mono ?_; rintro e wx ⟨rfl, hwx⟩; obtain rfl := hwx.symm)
  exact ⟨_, by simp [results, Try.f7, go_sem], rfl, Below.refl _ _⟩

theorem shl_wrap (L : Nat) (hL : L ≤ 15) : wrap64 ((2 : Int) ^ L) = ((2 ^ L : Nat) : Int) := by
  have h2 : 2 ^ L ≤ 2 ^ 15 := Nat.pow_le_pow_right (by omega) hL
  rw [show (2 : Int) ^ L = ((2 ^ L : Nat) : Int) from by simp]
  generalize 2 ^ L = q at *
  unfold wrap64
  omega
set_option maxRecDepth 100000 in
set_option maxHeartbeats 2000000 in
theorem lengths_full (w : World) (a : Option Addr) (len cap : Nat) (c : List Nat) (L : Nat) (hs : Src w a len cap (cn c)) (hlen : len ≤ 1000) (h1 : 1 ≤ L) (h2 : L ≤ 15) (hyes : refu 2147483647 (nm c) = 0) (hf : 2 ^ L < (syms c).length) :
    Calls Try.prog 7 #[.slice a len cap, .int .i64 L] w fun e w' => e = .returned (.tuple #[.slice none 0 0, .int .i64 150]) ∧ Below w.heap.size w w' := by
  have K := refusal_any w a len cap (nm c) 2147483647 hs (by omega)
  rw [hyes] at K
  have K2 := inOrder_any w a len cap c hs hlen
  have h1' : (1 : Int) ≤ (L : Int) := by omega
  have h2' : (L : Int) ≤ 15 := by omega
  have hsl := syms_len c
  have hsl2 := some1_len c c.length
  have hl : c.length = len := by have := hs.1; rwa [cn_len] at this
  generalize hq : (syms c).length = n at *
  have hf' : ((2 ^ L : Nat) : Int) < (n : Int) := by omega
  have hn' : (n : Int) ≤ 1000 := by omega
  have m1 := shl_wrap L h2
  generalize 2 ^ L = p at hf' hf m1
  clear hyes hs hsl hsl2 hl
  refine (callsIn_wide (n := 4)).1 ?_
  refine callsIn_of_wp_marks Try.func7 rfl trivial ?_ rfl
  simp only [Try.ntmps7, List.size_toArray, List.length_cons, List.length_nil, Nat.reduceAdd, Nat.reduceSub, Array.replicate_succ, Array.replicate_zero, List.push_toArray, List.append_toArray, List.nil_append, List.cons_append]
  gi_wp2_with (first | (refine ⟨trivial, ?_⟩; gi_at_call 18; refine (callsIn_wide.2 K).mono ?_; rintro e wx ⟨rfl, hwx⟩; obtain rfl := hwx.symm) | (refine ⟨trivial, ?_⟩; gi_at_call 19; refine (callsIn_wide.2 K2).mono ?_; rintro e w1 ⟨v, rfl, hown, hb⟩; obtain ⟨ad, cp, rfl⟩ := own_sl hown))
  gi_big_quiet_th (fail)
  simp only [m1]
  gi_wp2
  have hz := hb.size
  have B := hb.alloc hz (.cells #[.slice ad n cp] 22)
  exact ⟨_, by simp [results, Try.f7, go_sem], rfl, ⟨B.os, B.tape, B.output, B.size, B.block⟩⟩

/-- symbols have no counts but those -/
theorem syms_lt (c : List Nat) : ∀ x ∈ syms c, x < c.length := by
  intro x hx
  unfold syms at hx
  rw [List.mem_mergeSort] at hx
  exact some1_lt c _ x hx
theorem getD_zero (n i : Nat) : (List.replicate n 0).getD i 0 = 0 := by
  simp only [List.getD, List.getElem?_replicate]
  split <;> simp

set_option maxRecDepth 100000 in
set_option maxHeartbeats 4000000 in
theorem lengths_one (w : World) (a : Option Addr) (len cap : Nat) (c : List Nat) (L : Nat) (hs : Src w a len cap (cn c)) (hlen : len ≤ 1000) (h1 : 1 ≤ L) (h2 : L ≤ 15) (hyes : refu 2147483647 (nm c) = 0) (hf : (syms c).length < 2) :
    Calls Try.prog 7 #[.slice a len cap, .int .i64 L] w fun e w' => ∃ R, e = .returned (.tuple #[.slice (some ⟨R, 0, none⟩) len len, .int .i64 0]) ∧ Vec w' R (lng (List.replicate len 0) (syms c)) ∧ w.heap.size ≤ R ∧ Below w.heap.size w w' := by
  have K := refusal_any w a len cap (nm c) 2147483647 hs (by omega)
  rw [hyes] at K
  have K2 := inOrder_any w a len cap c hs hlen
  have h1' : (1 : Int) ≤ (L : Int) := by omega
  have h2' : (L : Int) ≤ 15 := by omega
  have hl : c.length = len := by have := hs.1; rwa [cn_len] at this
  have HSY : Hid (∀ x ∈ syms c, x < len) := fun x hx => by have := syms_lt c x hx; omega
  generalize hq : (syms c).length = n at *
  have hp2 : 2 ≤ 2 ^ L := by
    have : 2 ^ 1 ≤ 2 ^ L := Nat.pow_le_pow_right (by omega) h1
    omega
  have m1 := shl_wrap L h2
  generalize 2 ^ L = p at m1 hp2
  have hf' : ¬ (p : Int) < (n : Int) := by omega
  have hf2 : (n : Int) < 2 := by omega
  have hlen' : (len : Int) ≤ 1000 := by omega
  clear hyes hs hl hp2
  refine (callsIn_wide (n := 4)).1 ?_
  refine callsIn_of_wp_marks Try.func7 rfl trivial ?_ rfl
  simp only [Try.ntmps7, List.size_toArray, List.length_cons, List.length_nil, Nat.reduceAdd, Nat.reduceSub, Array.replicate_succ, Array.replicate_zero, List.push_toArray, List.append_toArray, List.nil_append, List.cons_append]
  gi_wp2_with (first | (refine ⟨trivial, ?_⟩; gi_at_call 18; refine (callsIn_wide.2 K).mono ?_; rintro e wx ⟨rfl, hwx⟩; obtain rfl := hwx.symm) | (refine ⟨trivial, ?_⟩; gi_at_call 19; refine (callsIn_wide.2 K2).mono ?_; rintro e w1 ⟨v, rfl, hown, hb⟩; obtain ⟨ad, cp, rfl⟩ := own_sl hown))
  gi_big_quiet_th (fail)
  simp only [m1]
  have hz := hb.size
  have B1 : Below w.heap.size w ((w1.alloc (.cells #[.slice ad n cp] 22)).drewN nq) := by
    have B := hb.alloc hz (.cells #[.slice ad n cp] 22)
    exact ⟨B.os, B.tape, B.output, B.size, B.block⟩
  have hs1 : Src ((w1.alloc (.cells #[.slice ad n cp] 22)).drewN nq) ad n cp (cn (syms c)) := by
    have h := (src_own hown).2.later (alloc_below w1 (.cells #[.slice ad n cp] 22))
    exact h
  have b7 : Boxed ((w1.alloc (.cells #[.slice ad n cp] 22)).drewN nq) w1.heap.size 22 (.slice ad n cp) := Boxed.new w1 22 _
  have hgl : ∀ g off, ad = some ⟨g, off, none⟩ → g < w1.heap.size + 1 := by
    intro g off e
    have := (hown.lt g (by rw [e]; rfl)).2
    omega
  have e2 : ((w1.alloc (.cells #[.slice ad n cp] 22)).drewN nq).heap.size = w1.heap.size + 1 := by simp [World.drewN]
  generalize (w1.alloc (.cells #[.slice ad n cp] 22)).drewN nq = W2 at *
  have k7 := b7.cell
  clear hown hb K K2 m1
  gi_wp2_with (gi_at_make; refine wpListIn_makeVec _ rfl _ _ rfl len rfl rfl (by omega) ?_; intro w3 hv3 hb3; have k73 := (hb3.cell (p := ⟨w1.heap.size, 0, none⟩) (by rw [e2]; simp)).trans k7; have hz3 := hb3.size; have hR3 := hv3.lt; have hl73 : w1.heap.size < w3.heap.size := by omega)
  rw [e2] at hv3 hR3 hz3
  have b03 : Below w.heap.size w w3 := B1.trans (hb3.mono (by omega))
  have B4 := b03.alloc (o := .cells #[.slice (some ⟨w1.heap.size + 1, 0, none⟩) len len] 22) (by omega)
  have hv4 : Vec (w3.alloc (.cells #[.slice (some ⟨w1.heap.size + 1, 0, none⟩) len len] 22)) (w1.heap.size + 1) (List.replicate len 0) := (Below.heap_alloc _ _ _ (by omega)).trans hv3
  have b8 : Boxed (w3.alloc (.cells #[.slice (some ⟨w1.heap.size + 1, 0, none⟩) len len] 22)) w3.heap.size 22 (.slice (some ⟨w1.heap.size + 1, 0, none⟩) len len) := Boxed.new w3 22 _
  have hs4 : Src (w3.alloc (.cells #[.slice (some ⟨w1.heap.size + 1, 0, none⟩) len len] 22)) ad n cp (cn (syms c)) := (hs1.later hb3).later (alloc_below w3 _)
  have KL := lengthen_any _ ad (w1.heap.size + 1) n cp len (List.replicate len 0) (syms c) hv4 (by simp) hs4 (fun _ g off e => by have := hgl g off e; omega) HSY.out (by omega) hlen 0 (fun i => by rw [getD_zero]; exact Nat.le_refl _) (by omega)
  refine ⟨trivial, (callsIn_wide.2 KL).mono ?_⟩
  rintro e W5 ⟨rfl, hv5, hg5⟩
  have b85 : Boxed W5 w3.heap.size 22 (.slice (some ⟨w1.heap.size + 1, 0, none⟩) len len) := (hg5.block _ (by simp) (by simp; omega)).trans b8
  have k8 := b85.cell
  have B5 := B4.grown hg5 (by simp; omega) (fun k hk => by cases hk; omega)
  gi_wp2
  exact ⟨_, by simp [results, Try.f7, go_sem], w1.heap.size + 1, rfl, hv5, by omega, B5⟩
end Go.Proofs.Ytfcjnpbnejaolaa
