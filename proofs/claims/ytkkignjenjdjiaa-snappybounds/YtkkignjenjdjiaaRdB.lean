/-
  The reader: bytes that follow, copies, parts.
-/
import Derived.Test.YtkkignjenjdjiaaRdA
import Derived.Deep.RegionWith
import Derived.Deep.RegionHeld3
import Derived.BigRegion
namespace Go.Proofs.Ytkkignjenjdjiaa
set_option linter.unusedVariables false
set_option linter.unusedSimpArgs false
open Go.ChangeShapes Go.WideShapes Go.ChangeAt Go.RowKit

/-- what an append and the store of its answer leave of the reader -/
theorem sd_append {w0 w W1 : World} {R : Nat} {bs made news : List Nat} {size : Nat} {a : Option Addr} {cp : Nat} {v v1 : Value} (h : Sd w0 w R bs made size)
    (h1 : w.heap[R]? = some (.cells #[.slice a bs.length cp, v, .int .i64 (size : Int)] 43 (0, 0))) (h2 : Src w0 a bs.length cp (c8 bs)) (h3 : bs.length ≤ cp) (h4 : w.ownsRow (R + 1) 5 1 v made.length (c8 made))
    (hown1 : W1.ownsRow (R + 1) 5 1 v1 (made.length + news.length) (c8 made ++ c8 news)) {wg : World} (hb : Below w.heap.size w wg) (hg : wg.grownBy W1 v.ownBlock) (hn : ∀ c ∈ news, c < 256) (hl : made.length + news.length ≤ 1048576) :
    Sd w0 (W1.setCell ⟨R, 1, none⟩ v1) R bs (made ++ news) size ∧ Below R w (W1.setCell ⟨R, 1, none⟩ v1) ∧ W1.cell? ⟨R, 1, none⟩ = some v ∧ W1.frozen? ⟨R, 1, none⟩ = false := by
  have hR : R < w.heap.size := lt_of_heap h1
  have hne : some R ≠ v.ownBlock := by
    rcases h4.2 with ⟨rfl, _⟩ | ⟨g, cap, cur, rfl, e1, _⟩
    · simp [Value.ownBlock]
    · simp only [Value.ownBlock, ne_eq, Option.some.injEq]; omega
  have hW1 : W1.heap[R]? = some (.cells #[.slice a bs.length cp, v, .int .i64 (size : Int)] 43 (0, 0)) := by rw [hg.block R (Nat.lt_of_lt_of_le hR hb.size) hne, hb.block R hR, h1]
  have hset := set_block (j := 1) (u := v1) hW1
  simp only [List.setIfInBounds_toArray, List.set_cons_zero, List.set_cons_succ] at hset
  have hB : Below R w W1 := (hb.mono (Nat.le_of_lt hR)).grown hg (Nat.le_trans (Nat.le_of_lt hR) hb.size) fun k hk => by
    rcases h4.2 with ⟨rfl, _⟩ | ⟨g, cap, cur, rfl, e1, _⟩
    · simp [Value.ownBlock] at hk
    · simp only [Value.ownBlock, Option.some.injEq] at hk; omega
  have hB2 : Below R w (W1.setCell ⟨R, 1, none⟩ v1) := hB.setCell (p := ⟨R, 1, none⟩) (Nat.le_refl _) _
  refine ⟨⟨⟨a, cp, v1, hset, h2, h3, ?_⟩, h.b8, ?_, h.len, by simpa using hl, h.old.trans (hB2.mono h.le), h.le⟩, hB2, cell_of_block hW1 rfl, frozen_of_block hW1⟩
  · rw [c8_append, List.length_append]
    exact ownsRow_setCell_below hown1 (Nat.lt_succ_self _) _
  · intro c hc
    rcases List.mem_append.1 hc with hc | hc
    · exact h.m8 c hc
    · exact hn c hc

/-- the append of bytes that can be read -/
theorem sd_grow {w0 w w2 : World} {R : Nat} {bs rest made news : List Nat} {size n : Nat} {a : Option Addr} {cp cp' g off : Nat} {v : Value} (h0 : Sd w0 w R bs made size) (h : Sd w0 w2 R rest made size) (h8 : ∀ c ∈ news, c < 256) (hs : Src w0 (some ⟨g, off, none⟩) n cp' (c8 news))
    (h1 : w2.heap[R]? = some (.cells #[.slice a rest.length cp, v, .int .i64 (size : Int)] 43 (0, 0))) (h2 : Src w0 a rest.length cp (c8 rest)) (h3 : rest.length ≤ cp) (h4 : w2.ownsRow (R + 1) 5 1 v made.length (c8 made)) (hl : made.length + n ≤ 1048576) (h100 : made.length + n ≤ 1048576) :
    ∃ v1 W1, (Builtin.append_ #[22, 22] 22 #[v, .slice (some ⟨g, off, none⟩) n cp']).run Try.prog w2 = .ok v1 W1 ∧ (∃ ad n cp, v1 = .slice ad n cp) ∧ Below R w2 (W1.setCell ⟨R, 1, none⟩ v1) ∧ Sd w0 (W1.setCell ⟨R, 1, none⟩ v1) R rest (made ++ news) size ∧ W1.cell? ⟨R, 1, none⟩ = some v ∧ W1.frozen? ⟨R, 1, none⟩ = false := by
  obtain ⟨i0, hi, hz0, hz1, hz2⟩ := info_parts infoU8
  have hsw := hs.later h.old
  have hln : news.length = n := by have := hs.1; rwa [c8_len] at this
  have hnews : ∀ j u, (c8 news)[j]? = some u → w2.cell? ((⟨g, off, none⟩ : Addr).add j) = some u := by
    rcases hsw.2 with ⟨e, _⟩ | ⟨p, e, hp⟩
    · cases e
    · cases e; exact hp
  obtain ⟨v1, W1, hrun, hown1, hg1, _⟩ := run_append_own (P := Try.prog) w2 (R + 1) 22 22 5 i0 (.int .u8 0) 1 1 Try.underlying22 hi hz0 hz1 hz2 rfl (by decide) v made.length (c8 made) h4 ⟨g, off, none⟩ n cp' (c8 news) (by simpa using hs.1) hnews (c8_one _) (by unfold maxLen; omega) (by omega) (by have := h.lt; omega)
  have hown1' : W1.ownsRow (R + 1) 5 1 v1 (made.length + news.length) (c8 made ++ c8 news) := by rw [hln]; exact hown1
  have HS := sd_append h h1 h2 h3 h4 hown1' (Below.refl _ _) hg1 h8 (by omega)
  obtain ⟨ad1, cp1, e1⟩ := own_sl hown1
  exact ⟨v1, W1, hrun, ⟨_, _, _, e1⟩, HS.2.1, HS.1, HS.2.2.1, HS.2.2.2⟩

/-- an append comes up in a region that draws -/
theorem ready_append {P : Program} {ops : Array Oper} {o : Oper} {a : Act} {w W : World} {K : Act → World → Prop} {Q : Exit → Act → World → Prop} (hg : o.guard = none) (s x : Operand) (t : TypeId)
    (hop : o.op = .call { callee := .builtin .append, args := #[s, x], argTypes := #[t, t] }) (u v r : Value) (hs : a.eval s = u) (hx : a.eval x = v) (hrun : (Builtin.append_ #[t, t] o.type #[u, v]).run P w = .ok r W) (hK : K (a.put o.dst r) W) :
    if Region.wanted o (yielded ops a.tmps) = true then Oper.wp P o a w K Q else K (a.put o.dst undef) w := by
  rw [if_pos (by simp [Region.wanted, hg])]
  unfold Oper.wp
  simp [execOp, hop, resolve, invoke, builtin, hs, hx, hrun, Result.andThen]
  exact hK

set_option maxRecDepth 100000 in
set_option maxHeartbeats 400000 in
theorem bytes_small (w0 w : World) (R : Nat) (bs made : List Nat) (size n : Nat) (hn : n < 60) (hm : made.length ≤ size) (hz : size ≤ 1048576) (h : Sd w0 w R bs made size) :
    Calls Try.prog 38 #[.pointer (some ⟨R, 0, none⟩), .int .i64 n] w fun e w' => Below R w w' ∧ match sBytes size made bs n with
      | .ok (m, r) => e = .returned (.tuple #[]) ∧ Sd w0 w' R r m size
      | .error c => e = gives c := by
  have hn' : (n : Int) < 60 := by omega
  unfold sBytes
  obtain ⟨m, hmm⟩ : ∃ m, m = n + 1 := ⟨_, rfl⟩
  rw [← hmm]
  have hmi : (n : Int) + 1 = (m : Int) := by omega
  have hm61 : m ≤ 60 := by omega
  have hm1 : 1 ≤ m := by omega
  clear hmm
  have hwm : IntKind.i64.wrap (m : Int) = (m : Int) := by rw [IntKind.wrap_i64]; omega
  have M := mustBeLeft_any w0 w R bs made size m hm (by omega) (by omega) h
  by_cases c1 : size < made.length + m
  · rw [if_pos c1] at M ⊢
    go_enter Try.func38, Try.ntmps38
    go_wp2_with fail
    refine Calls.mono M ?_
    rintro e wx ⟨⟨k, rfl⟩, rfl⟩
    unfold gives
    go_wp2_with fail
    exact ⟨rfl, drewN_below _ _ _, rfl⟩
  rw [if_neg c1] at M ⊢
  by_cases c2 : bs.length < m
  · rw [if_pos c2]
    go_enter Try.func38, Try.ntmps38
    go_wp2_with fail
    refine Calls.mono M ?_
    rintro e wx ⟨⟨k, rfl⟩, rfl⟩
    have hD := h.later (drewN_below w.heap.size w (k + 1))
    have K' := take_short w0 _ R bs made size m c2 hD
    obtain ⟨a, cp, v, h1, h2, h3, h4⟩ := hD.box
    have s0 : (w.drewN (k + 1)).cell? ⟨R, 1, none⟩ = some v := cell_of_block h1 rfl
    go_wp2_with fail
    refine wp_region_held_drew (S := fun w' => w'.cell? ⟨R, 1, none⟩ = some v) (by kernel_rfl) s0 (fun hHeld => ?_)
    refine wpAnyH_take (i := 0) (v := ?_) rfl (by kernel_rfl) (by kernel_rfl) (by kernel_rfl) (fun _ _ _ h => h) (Or.inl ⟨by rfl, ?_⟩) (by assumption) ?_
    rotate_left
    · intro w hSw
      (try dsimp only at hSw)
      (try (obtain ⟨_, _⟩ := hSw))
      go_simp
      (try with_reducible rfl)
    (try simp only [Act.put, List.setIfInBounds_toArray, List.set_cons_zero, List.set_cons_succ])
    refine wpAnyH_take (i := 1) (v := ?_) rfl (by kernel_rfl) (by kernel_rfl) (by kernel_rfl) (fun _ _ _ h => h) (Or.inl ⟨by rfl, ?_⟩) (by assumption) ?_
    rotate_left
    · intro w hSw
      (try dsimp only at hSw)
      (try (obtain ⟨_, _⟩ := hSw))
      go_simp
      (try with_reducible rfl)
    (try simp only [Act.put, List.setIfInBounds_toArray, List.set_cons_zero, List.set_cons_succ])
    refine wpAnyH_take (i := 2) (v := ?_) rfl (by kernel_rfl) (by kernel_rfl) (by kernel_rfl) (fun _ _ _ h => h) (Or.inl ⟨by rfl, ?_⟩) (by assumption) ?_
    rotate_left
    · intro w hSw
      (try dsimp only at hSw)
      (try (obtain ⟨_, _⟩ := hSw))
      go_simp
      (try with_reducible rfl)
    (try simp only [Act.put, List.setIfInBounds_toArray, List.set_cons_zero, List.set_cons_succ])
    refine wpAnyH_take (i := 3) (v := ?_) rfl (by kernel_rfl) (by kernel_rfl) (by kernel_rfl) (fun _ _ _ h => h) (Or.inl ⟨by rfl, ?_⟩) (by assumption) ?_
    rotate_left
    · intro w hSw
      (try dsimp only at hSw)
      (try (obtain ⟨_, _⟩ := hSw))
      go_simp
      (try with_reducible rfl)
    (try simp only [Act.put, List.setIfInBounds_toArray, List.set_cons_zero, List.set_cons_succ])
    refine wpAnyH_take (i := 4) (v := ?_) rfl (by kernel_rfl) (by kernel_rfl) (by kernel_rfl) (fun _ _ _ h => h) (Or.inl ⟨by rfl, ?_⟩) (by assumption) ?_
    rotate_left
    · intro w hSw
      (try dsimp only at hSw)
      (try (obtain ⟨_, _⟩ := hSw))
      go_simp
      (try with_reducible rfl)
    (try simp only [Act.put, List.setIfInBounds_toArray, List.set_cons_zero, List.set_cons_succ])
    refine wpAnyH_take (i := 5) (v := ?_) rfl (by kernel_rfl) (by kernel_rfl) (by kernel_rfl) (fun _ _ _ h => h) (Or.inl ⟨by rfl, ?_⟩) (by assumption) ?_
    rotate_left
    · intro w hSw
      (try dsimp only at hSw)
      (try (obtain ⟨_, _⟩ := hSw))
      go_simp
      (try with_reducible rfl)
    (try simp only [Act.put, List.setIfInBounds_toArray, List.set_cons_zero, List.set_cons_succ])
    refine wpAnyH_take (i := 6) (v := ?_) rfl (by kernel_rfl) (by kernel_rfl) (by kernel_rfl) (fun _ _ _ h => h) (Or.inl ⟨by rfl, ?_⟩) (by assumption) ?_
    rotate_left
    · intro w hSw
      (try dsimp only at hSw)
      (try (obtain ⟨_, _⟩ := hSw))
      go_simp
      (try with_reducible rfl)
    (try simp only [Act.put, List.setIfInBounds_toArray, List.set_cons_zero, List.set_cons_succ])
    refine wpAnyH_take (i := 7) (v := ?_) rfl (by kernel_rfl) (by kernel_rfl) (by kernel_rfl) (fun _ _ _ h => h) (Or.inl ⟨by rfl, ?_⟩) (by assumption) ?_
    rotate_left
    · intro w hSw
      (try dsimp only at hSw)
      (try (obtain ⟨_, _⟩ := hSw))
      go_simp
      (try with_reducible rfl)
    (try simp only [Act.put, List.setIfInBounds_toArray, List.set_cons_zero, List.set_cons_succ])
    refine wpAnyH_ready (rs := [8]) (by kernel_rfl) (by simp) ?_
    refine AllReadyH.cons rfl (fun K hK => ?_) AllReadyH.nil
    go_simp
    refine K'.mono ?_
    rintro e wx ⟨rfl, hwx⟩
    subst hwx
    unfold gives
    exact ⟨rfl, drewN_below _ _ _, rfl⟩
  rw [if_neg c2]
  go_enter Try.func38, Try.ntmps38
  go_wp2_with fail
  refine Calls.mono M ?_
  rintro e wx ⟨⟨k, rfl⟩, rfl⟩
  have hD := h.later (drewN_below w.heap.size w (k + 1))
  have K' := take_ok w0 _ R bs made size m (by omega) (by omega) hD
  obtain ⟨a, cp, v, h1, h2, h3, h4⟩ := hD.box
  have s0 : (w.drewN (k + 1)).cell? ⟨R, 1, none⟩ = some v := cell_of_block h1 rfl
  go_wp2_with fail
  refine wp_region_held_drew (S := fun _ => True) (by kernel_rfl) trivial (fun hHeld => ?_)
  refine wpAnyH_take (i := 0) (v := ?_) rfl (by kernel_rfl) (by kernel_rfl) (by kernel_rfl) (fun _ _ _ h => h) (Or.inl ⟨by rfl, ?_⟩) (by assumption) ?_
  rotate_left
  · intro w hSw
    (try dsimp only at hSw)
    (try (obtain ⟨_, _⟩ := hSw))
    go_simp
    (try with_reducible rfl)
  (try simp only [Act.put, List.setIfInBounds_toArray, List.set_cons_zero, List.set_cons_succ])
  refine wpAnyH_take (i := 1) (v := ?_) rfl (by kernel_rfl) (by kernel_rfl) (by kernel_rfl) (fun _ _ _ h => h) (Or.inl ⟨by rfl, ?_⟩) (by assumption) ?_
  rotate_left
  · intro w hSw
    (try dsimp only at hSw)
    (try (obtain ⟨_, _⟩ := hSw))
    go_simp
    (try with_reducible rfl)
  (try simp only [Act.put, List.setIfInBounds_toArray, List.set_cons_zero, List.set_cons_succ])
  refine wpAnyH_take (i := 2) (v := ?_) rfl (by kernel_rfl) (by kernel_rfl) (by kernel_rfl) (fun _ _ _ h => h) (Or.inl ⟨by rfl, ?_⟩) (by assumption) ?_
  rotate_left
  · intro w hSw
    (try dsimp only at hSw)
    (try (obtain ⟨_, _⟩ := hSw))
    go_simp
    (try with_reducible rfl)
  (try simp only [Act.put, List.setIfInBounds_toArray, List.set_cons_zero, List.set_cons_succ])
  refine wpAnyH_take (i := 3) (v := ?_) rfl (by kernel_rfl) (by kernel_rfl) (by kernel_rfl) (fun _ _ _ h => h) (Or.inl ⟨by rfl, ?_⟩) (by assumption) ?_
  rotate_left
  · intro w hSw
    (try dsimp only at hSw)
    (try (obtain ⟨_, _⟩ := hSw))
    go_simp
    (try with_reducible rfl)
  (try simp only [Act.put, List.setIfInBounds_toArray, List.set_cons_zero, List.set_cons_succ])
  refine wpAnyH_take (i := 5) (v := ?_) rfl (by kernel_rfl) (by kernel_rfl) (by kernel_rfl) (fun _ _ _ h => h) (Or.inl ⟨by rfl, ?_⟩) (by assumption) ?_
  rotate_left
  · intro w hSw
    (try dsimp only at hSw)
    (try (obtain ⟨_, _⟩ := hSw))
    go_simp
    (try with_reducible rfl)
  (try simp only [Act.put, List.setIfInBounds_toArray, List.set_cons_zero, List.set_cons_succ])
  refine wpAnyH_take (i := 6) (v := ?_) rfl (by kernel_rfl) (by kernel_rfl) (by kernel_rfl) (fun _ _ _ h => h) (Or.inl ⟨by rfl, ?_⟩) (by assumption) ?_
  rotate_left
  · intro w hSw
    (try dsimp only at hSw)
    (try (obtain ⟨_, _⟩ := hSw))
    go_simp
    (try with_reducible rfl)
  (try simp only [Act.put, List.setIfInBounds_toArray, List.set_cons_zero, List.set_cons_succ])
  refine wpAnyH_take (i := 7) (v := ?_) rfl (by kernel_rfl) (by kernel_rfl) (by kernel_rfl) (fun _ _ _ h => h) (Or.inl ⟨by rfl, ?_⟩) (by assumption) ?_
  rotate_left
  · intro w hSw
    (try dsimp only at hSw)
    (try (obtain ⟨_, _⟩ := hSw))
    go_simp
    (try with_reducible rfl)
  (try simp only [Act.put, List.setIfInBounds_toArray, List.set_cons_zero, List.set_cons_succ])
  refine wpAnyH_ready (rs := [4, 8]) (by kernel_rfl) (by simp) ?_
  refine AllReadyH.cons rfl (fun K hK => ?_) (AllReadyH.cons rfl (fun K hK => ?_) AllReadyH.nil)
  · -- the load first
    go_simp
    refine hK.out _ _ trivial (fun _ => ?_)
    clear hK K
    (try simp only [Act.put, List.setIfInBounds_toArray, List.set_cons_zero, List.set_cons_succ])
    refine wpAnyH_ready (rs := [8]) (by kernel_rfl) (by simp) ?_
    refine AllReadyH.cons rfl (fun K hK => ?_) AllReadyH.nil
    go_simp
    refine K'.mono ?_
    rintro e wx ⟨g, off, cp', rfl, hsrc, hd, hb, x, hx⟩
    obtain ⟨a2, cp2, v2, i1, i2, i3, i4⟩ := hd.box
    have s1 : wx.cell? ⟨R, 1, none⟩ = some v2 := cell_of_block i1 rfl
    have s1' : wx.cell? ⟨R, 1, none⟩ = some v := by
      rw [hx, World.cell?_setCell_other _ _ _ _ (by simp)]
      exact s0
    obtain rfl : v2 = v := by rw [s1] at s1'; exact Option.some.inj s1'
    clear hx s1'
    go_wp2_with fail
    refine hK.out _ _ trivial (fun _ => ?_)
    clear hK K
    (try simp only [Act.put, List.setIfInBounds_toArray, List.set_cons_zero, List.set_cons_succ])
    obtain ⟨i0, hi, hz0, hz1, hz2⟩ := info_parts infoU8
    obtain ⟨v1, W1, hrun, hown1, hB, hS, s2, f2⟩ := sd_grow h hd (fun c hc => h.b8 c (List.mem_of_mem_take hc)) hsrc i1 i2 i3 i4 (by omega) (by omega)
    obtain ⟨ad1, n1, cp1, rfl⟩ := hown1
    have HB : Hid (Below R w (W1.setCell ⟨R, 1, none⟩ (.slice ad1 n1 cp1))) := ((drewN_below R w (k + 1)).trans hb).trans hB
    have HD : Hid (Sd w0 (W1.setCell ⟨R, 1, none⟩ (.slice ad1 n1 cp1)) R (bs.drop m) (made ++ bs.take m) size) := hS
    clear hB hS i1 i2 i3 i4 h1 h4 hd hb hsrc h2 h3 hi hz0 hz1 hz2
    refine wpAnyH_ready (rs := [9]) (by kernel_rfl) (by simp) ?_
    refine AllReadyH.cons rfl (fun K hK => ?_) AllReadyH.nil
    refine ready_append rfl (.tmp 19) (.tmp 23) 22 rfl _ _ _ rfl rfl hrun ?_
    refine hK.out _ _ trivial (fun _ => ?_)
    clear hK K
    (try simp only [Act.put, List.setIfInBounds_toArray, List.set_cons_zero, List.set_cons_succ])
    refine wpAnyH_take (i := 10) (v := ?_) rfl (by kernel_rfl) (by kernel_rfl) (by kernel_rfl) (fun _ _ _ h => h) (Or.inl ⟨by rfl, ?_⟩) (by assumption) ?_
    rotate_left
    · intro w hSw
      (try dsimp only at hSw)
      (try (obtain ⟨_, _⟩ := hSw))
      go_simp
      (try with_reducible rfl)
    (try simp only [Act.put, List.setIfInBounds_toArray, List.set_cons_zero, List.set_cons_succ])
    refine wpAnyH_take (i := 11) (v := ?_) rfl (by kernel_rfl) (by kernel_rfl) (by kernel_rfl) (fun _ _ _ h => h) (Or.inl ⟨by rfl, ?_⟩) (by assumption) ?_
    rotate_left
    · intro w hSw
      (try dsimp only at hSw)
      (try (obtain ⟨_, _⟩ := hSw))
      go_simp
      (try with_reducible rfl)
    (try simp only [Act.put, List.setIfInBounds_toArray, List.set_cons_zero, List.set_cons_succ])
    refine wpAnyH_ready (rs := [12]) (by kernel_rfl) (by simp) ?_
    refine AllReadyH.cons rfl (fun K hK => ?_) AllReadyH.nil
    go_simp
    refine hK.out _ _ trivial (fun _ => ?_)
    clear hK K
    refine wpAnyH_done (by kernel_rfl) ?_ _
    go_wp2_with fail
    go_end0
    exact ⟨HB.out, rfl, HD.out⟩
  · -- the call first
    go_simp
    refine K'.mono ?_
    rintro e wx ⟨g, off, cp', rfl, hsrc, hd, hb, x, hx⟩
    obtain ⟨a2, cp2, v2, i1, i2, i3, i4⟩ := hd.box
    have s1 : wx.cell? ⟨R, 1, none⟩ = some v2 := cell_of_block i1 rfl
    have s1' : wx.cell? ⟨R, 1, none⟩ = some v := by
      rw [hx, World.cell?_setCell_other _ _ _ _ (by simp)]
      exact s0
    obtain rfl : v2 = v := by rw [s1] at s1'; exact Option.some.inj s1'
    clear hx s1'
    go_wp2_with fail
    refine hK.out _ _ trivial (fun _ => ?_)
    clear hK K
    (try simp only [Act.put, List.setIfInBounds_toArray, List.set_cons_zero, List.set_cons_succ])
    refine wpAnyH_ready (rs := [4]) (by kernel_rfl) (by simp) ?_
    refine AllReadyH.cons rfl (fun K hK => ?_) AllReadyH.nil
    go_simp
    refine hK.out _ _ trivial (fun _ => ?_)
    clear hK K
    (try simp only [Act.put, List.setIfInBounds_toArray, List.set_cons_zero, List.set_cons_succ])
    obtain ⟨i0, hi, hz0, hz1, hz2⟩ := info_parts infoU8
    obtain ⟨v1, W1, hrun, hown1, hB, hS, s2, f2⟩ := sd_grow h hd (fun c hc => h.b8 c (List.mem_of_mem_take hc)) hsrc i1 i2 i3 i4 (by omega) (by omega)
    obtain ⟨ad1, n1, cp1, rfl⟩ := hown1
    have HB : Hid (Below R w (W1.setCell ⟨R, 1, none⟩ (.slice ad1 n1 cp1))) := ((drewN_below R w (k + 1)).trans hb).trans hB
    have HD : Hid (Sd w0 (W1.setCell ⟨R, 1, none⟩ (.slice ad1 n1 cp1)) R (bs.drop m) (made ++ bs.take m) size) := hS
    clear hB hS i1 i2 i3 i4 h1 h4 hd hb hsrc h2 h3 hi hz0 hz1 hz2
    refine wpAnyH_ready (rs := [9]) (by kernel_rfl) (by simp) ?_
    refine AllReadyH.cons rfl (fun K hK => ?_) AllReadyH.nil
    refine ready_append rfl (.tmp 19) (.tmp 23) 22 rfl _ _ _ rfl rfl hrun ?_
    refine hK.out _ _ trivial (fun _ => ?_)
    clear hK K
    (try simp only [Act.put, List.setIfInBounds_toArray, List.set_cons_zero, List.set_cons_succ])
    refine wpAnyH_take (i := 10) (v := ?_) rfl (by kernel_rfl) (by kernel_rfl) (by kernel_rfl) (fun _ _ _ h => h) (Or.inl ⟨by rfl, ?_⟩) (by assumption) ?_
    rotate_left
    · intro w hSw
      (try dsimp only at hSw)
      (try (obtain ⟨_, _⟩ := hSw))
      go_simp
      (try with_reducible rfl)
    (try simp only [Act.put, List.setIfInBounds_toArray, List.set_cons_zero, List.set_cons_succ])
    refine wpAnyH_take (i := 11) (v := ?_) rfl (by kernel_rfl) (by kernel_rfl) (by kernel_rfl) (fun _ _ _ h => h) (Or.inl ⟨by rfl, ?_⟩) (by assumption) ?_
    rotate_left
    · intro w hSw
      (try dsimp only at hSw)
      (try (obtain ⟨_, _⟩ := hSw))
      go_simp
      (try with_reducible rfl)
    (try simp only [Act.put, List.setIfInBounds_toArray, List.set_cons_zero, List.set_cons_succ])
    refine wpAnyH_ready (rs := [12]) (by kernel_rfl) (by simp) ?_
    refine AllReadyH.cons rfl (fun K hK => ?_) AllReadyH.nil
    go_simp
    refine hK.out _ _ trivial (fun _ => ?_)
    clear hK K
    refine wpAnyH_done (by kernel_rfl) ?_ _
    go_wp2_with fail
    go_end0
    exact ⟨HB.out, rfl, HD.out⟩
set_option maxRecDepth 100000 in
set_option maxHeartbeats 400000 in
theorem bytes_big (w0 w00 : World) (R : Nat) (bs bs0 made : List Nat) (size n n0 : Nat) (hn0 : 60 ≤ n0) (hn3 : n0 ≤ 63) (hn : n ≤ 4294967295)
    (L : Calls Try.prog 40 #[.pointer (some ⟨R, 0, none⟩), .int .i64 ((n0 - 59 : Nat) : Int)] w00 fun e w' => e = .returned (.int .i64 (n : Nat)) ∧ Sd w0 w' R bs made size ∧ Below R w00 w') (hm : made.length ≤ size) (hz : size ≤ 1048576) (h8 : ∀ c ∈ bs, c < 256) :
    Calls Try.prog 38 #[.pointer (some ⟨R, 0, none⟩), .int .i64 n0] w00 fun e w' => Below R w00 w' ∧ match sBytes size made bs n with
      | .ok (m, r) => e = .returned (.tuple #[]) ∧ Sd w0 w' R r m size
      | .error c => e = gives c := by
  have hn' : (60 : Int) ≤ (n0 : Int) := by omega
  have hn3' : (n0 : Int) ≤ 63 := by omega
  have hnb : (n : Int) ≤ 4294967295 := by omega
  obtain ⟨q, hq⟩ : ∃ q, q = n0 - 59 := ⟨_, rfl⟩
  rw [← hq] at L
  have hqi : (n0 : Int) - 60 + 1 = (q : Int) := by omega
  clear hq
  unfold sBytes
  obtain ⟨m, hmm⟩ : ∃ m, m = n + 1 := ⟨_, rfl⟩
  rw [← hmm]
  have hmi : (n : Int) + 1 = (m : Int) := by omega
  have hm61 : m ≤ 4294967296 := by omega
  have hm1 : 1 ≤ m := by omega
  clear hmm
  have hwm : IntKind.i64.wrap (m : Int) = (m : Int) := by rw [IntKind.wrap_i64]; omega
  have M := fun w h => mustBeLeft_any w0 w R bs made size m hm (by omega) (by omega) h
  by_cases c1 : size < made.length + m
  · simp only [if_pos c1] at M ⊢
    go_enter Try.func38, Try.ntmps38
    go_wp2_with fail
    refine L.mono ?_
    rintro e w ⟨rfl, h, hB0⟩
    go_wp2_with fail
    refine (M w h).mono ?_
    rintro e wx ⟨⟨k, rfl⟩, rfl⟩
    unfold gives
    go_wp2_with fail
    exact ⟨rfl, hB0.trans (drewN_below _ _ _), rfl⟩
  simp only [if_neg c1] at M ⊢
  by_cases c2 : bs.length < m
  · rw [if_pos c2]
    go_enter Try.func38, Try.ntmps38
    go_wp2_with fail
    refine L.mono ?_
    rintro e w ⟨rfl, h, hB0⟩
    go_wp2_with fail
    refine (M w h).mono ?_
    rintro e wx ⟨⟨k, rfl⟩, rfl⟩
    have hD := h.later (drewN_below w.heap.size w (k + 1))
    have K' := take_short w0 _ R bs made size m c2 hD
    obtain ⟨a, cp, v, h1, h2, h3, h4⟩ := hD.box
    have s0 : (w.drewN (k + 1)).cell? ⟨R, 1, none⟩ = some v := cell_of_block h1 rfl
    go_wp2_with fail
    refine wp_region_held_drew (S := fun w' => w'.cell? ⟨R, 1, none⟩ = some v) (by kernel_rfl) s0 (fun hHeld => ?_)
    refine wpAnyH_take (i := 0) (v := ?_) rfl (by kernel_rfl) (by kernel_rfl) (by kernel_rfl) (fun _ _ _ h => h) (Or.inl ⟨by rfl, ?_⟩) (by assumption) ?_
    rotate_left
    · intro w hSw
      (try dsimp only at hSw)
      (try (obtain ⟨_, _⟩ := hSw))
      go_simp
      (try with_reducible rfl)
    (try simp only [Act.put, List.setIfInBounds_toArray, List.set_cons_zero, List.set_cons_succ])
    refine wpAnyH_take (i := 1) (v := ?_) rfl (by kernel_rfl) (by kernel_rfl) (by kernel_rfl) (fun _ _ _ h => h) (Or.inl ⟨by rfl, ?_⟩) (by assumption) ?_
    rotate_left
    · intro w hSw
      (try dsimp only at hSw)
      (try (obtain ⟨_, _⟩ := hSw))
      go_simp
      (try with_reducible rfl)
    (try simp only [Act.put, List.setIfInBounds_toArray, List.set_cons_zero, List.set_cons_succ])
    refine wpAnyH_take (i := 2) (v := ?_) rfl (by kernel_rfl) (by kernel_rfl) (by kernel_rfl) (fun _ _ _ h => h) (Or.inl ⟨by rfl, ?_⟩) (by assumption) ?_
    rotate_left
    · intro w hSw
      (try dsimp only at hSw)
      (try (obtain ⟨_, _⟩ := hSw))
      go_simp
      (try with_reducible rfl)
    (try simp only [Act.put, List.setIfInBounds_toArray, List.set_cons_zero, List.set_cons_succ])
    refine wpAnyH_take (i := 3) (v := ?_) rfl (by kernel_rfl) (by kernel_rfl) (by kernel_rfl) (fun _ _ _ h => h) (Or.inl ⟨by rfl, ?_⟩) (by assumption) ?_
    rotate_left
    · intro w hSw
      (try dsimp only at hSw)
      (try (obtain ⟨_, _⟩ := hSw))
      go_simp
      (try with_reducible rfl)
    (try simp only [Act.put, List.setIfInBounds_toArray, List.set_cons_zero, List.set_cons_succ])
    refine wpAnyH_take (i := 4) (v := ?_) rfl (by kernel_rfl) (by kernel_rfl) (by kernel_rfl) (fun _ _ _ h => h) (Or.inl ⟨by rfl, ?_⟩) (by assumption) ?_
    rotate_left
    · intro w hSw
      (try dsimp only at hSw)
      (try (obtain ⟨_, _⟩ := hSw))
      go_simp
      (try with_reducible rfl)
    (try simp only [Act.put, List.setIfInBounds_toArray, List.set_cons_zero, List.set_cons_succ])
    refine wpAnyH_take (i := 5) (v := ?_) rfl (by kernel_rfl) (by kernel_rfl) (by kernel_rfl) (fun _ _ _ h => h) (Or.inl ⟨by rfl, ?_⟩) (by assumption) ?_
    rotate_left
    · intro w hSw
      (try dsimp only at hSw)
      (try (obtain ⟨_, _⟩ := hSw))
      go_simp
      (try with_reducible rfl)
    (try simp only [Act.put, List.setIfInBounds_toArray, List.set_cons_zero, List.set_cons_succ])
    refine wpAnyH_take (i := 6) (v := ?_) rfl (by kernel_rfl) (by kernel_rfl) (by kernel_rfl) (fun _ _ _ h => h) (Or.inl ⟨by rfl, ?_⟩) (by assumption) ?_
    rotate_left
    · intro w hSw
      (try dsimp only at hSw)
      (try (obtain ⟨_, _⟩ := hSw))
      go_simp
      (try with_reducible rfl)
    (try simp only [Act.put, List.setIfInBounds_toArray, List.set_cons_zero, List.set_cons_succ])
    refine wpAnyH_take (i := 7) (v := ?_) rfl (by kernel_rfl) (by kernel_rfl) (by kernel_rfl) (fun _ _ _ h => h) (Or.inl ⟨by rfl, ?_⟩) (by assumption) ?_
    rotate_left
    · intro w hSw
      (try dsimp only at hSw)
      (try (obtain ⟨_, _⟩ := hSw))
      go_simp
      (try with_reducible rfl)
    (try simp only [Act.put, List.setIfInBounds_toArray, List.set_cons_zero, List.set_cons_succ])
    refine wpAnyH_ready (rs := [8]) (by kernel_rfl) (by simp) ?_
    refine AllReadyH.cons rfl (fun K hK => ?_) AllReadyH.nil
    go_simp
    refine K'.mono ?_
    rintro e wx ⟨rfl, hwx⟩
    subst hwx
    unfold gives
    exact ⟨rfl, hB0.trans (drewN_below _ _ _), rfl⟩
  rw [if_neg c2]
  go_enter Try.func38, Try.ntmps38
  go_wp2_with fail
  refine L.mono ?_
  rintro e w ⟨rfl, h, hB0⟩
  go_wp2_with fail
  refine (M w h).mono ?_
  rintro e wx ⟨⟨k, rfl⟩, rfl⟩
  have hD := h.later (drewN_below w.heap.size w (k + 1))
  have K' := take_ok w0 _ R bs made size m (by omega) (by omega) hD
  obtain ⟨a, cp, v, h1, h2, h3, h4⟩ := hD.box
  have s0 : (w.drewN (k + 1)).cell? ⟨R, 1, none⟩ = some v := cell_of_block h1 rfl
  go_wp2_with fail
  refine wp_region_held_drew (S := fun _ => True) (by kernel_rfl) trivial (fun hHeld => ?_)
  refine wpAnyH_take (i := 0) (v := ?_) rfl (by kernel_rfl) (by kernel_rfl) (by kernel_rfl) (fun _ _ _ h => h) (Or.inl ⟨by rfl, ?_⟩) (by assumption) ?_
  rotate_left
  · intro w hSw
    (try dsimp only at hSw)
    (try (obtain ⟨_, _⟩ := hSw))
    go_simp
    (try with_reducible rfl)
  (try simp only [Act.put, List.setIfInBounds_toArray, List.set_cons_zero, List.set_cons_succ])
  refine wpAnyH_take (i := 1) (v := ?_) rfl (by kernel_rfl) (by kernel_rfl) (by kernel_rfl) (fun _ _ _ h => h) (Or.inl ⟨by rfl, ?_⟩) (by assumption) ?_
  rotate_left
  · intro w hSw
    (try dsimp only at hSw)
    (try (obtain ⟨_, _⟩ := hSw))
    go_simp
    (try with_reducible rfl)
  (try simp only [Act.put, List.setIfInBounds_toArray, List.set_cons_zero, List.set_cons_succ])
  refine wpAnyH_take (i := 2) (v := ?_) rfl (by kernel_rfl) (by kernel_rfl) (by kernel_rfl) (fun _ _ _ h => h) (Or.inl ⟨by rfl, ?_⟩) (by assumption) ?_
  rotate_left
  · intro w hSw
    (try dsimp only at hSw)
    (try (obtain ⟨_, _⟩ := hSw))
    go_simp
    (try with_reducible rfl)
  (try simp only [Act.put, List.setIfInBounds_toArray, List.set_cons_zero, List.set_cons_succ])
  refine wpAnyH_take (i := 3) (v := ?_) rfl (by kernel_rfl) (by kernel_rfl) (by kernel_rfl) (fun _ _ _ h => h) (Or.inl ⟨by rfl, ?_⟩) (by assumption) ?_
  rotate_left
  · intro w hSw
    (try dsimp only at hSw)
    (try (obtain ⟨_, _⟩ := hSw))
    go_simp
    (try with_reducible rfl)
  (try simp only [Act.put, List.setIfInBounds_toArray, List.set_cons_zero, List.set_cons_succ])
  refine wpAnyH_take (i := 5) (v := ?_) rfl (by kernel_rfl) (by kernel_rfl) (by kernel_rfl) (fun _ _ _ h => h) (Or.inl ⟨by rfl, ?_⟩) (by assumption) ?_
  rotate_left
  · intro w hSw
    (try dsimp only at hSw)
    (try (obtain ⟨_, _⟩ := hSw))
    go_simp
    (try with_reducible rfl)
  (try simp only [Act.put, List.setIfInBounds_toArray, List.set_cons_zero, List.set_cons_succ])
  refine wpAnyH_take (i := 6) (v := ?_) rfl (by kernel_rfl) (by kernel_rfl) (by kernel_rfl) (fun _ _ _ h => h) (Or.inl ⟨by rfl, ?_⟩) (by assumption) ?_
  rotate_left
  · intro w hSw
    (try dsimp only at hSw)
    (try (obtain ⟨_, _⟩ := hSw))
    go_simp
    (try with_reducible rfl)
  (try simp only [Act.put, List.setIfInBounds_toArray, List.set_cons_zero, List.set_cons_succ])
  refine wpAnyH_take (i := 7) (v := ?_) rfl (by kernel_rfl) (by kernel_rfl) (by kernel_rfl) (fun _ _ _ h => h) (Or.inl ⟨by rfl, ?_⟩) (by assumption) ?_
  rotate_left
  · intro w hSw
    (try dsimp only at hSw)
    (try (obtain ⟨_, _⟩ := hSw))
    go_simp
    (try with_reducible rfl)
  (try simp only [Act.put, List.setIfInBounds_toArray, List.set_cons_zero, List.set_cons_succ])
  refine wpAnyH_ready (rs := [4, 8]) (by kernel_rfl) (by simp) ?_
  refine AllReadyH.cons rfl (fun K hK => ?_) (AllReadyH.cons rfl (fun K hK => ?_) AllReadyH.nil)
  · -- the load first
    go_simp
    refine hK.out _ _ trivial (fun _ => ?_)
    clear hK K
    (try simp only [Act.put, List.setIfInBounds_toArray, List.set_cons_zero, List.set_cons_succ])
    refine wpAnyH_ready (rs := [8]) (by kernel_rfl) (by simp) ?_
    refine AllReadyH.cons rfl (fun K hK => ?_) AllReadyH.nil
    go_simp
    refine K'.mono ?_
    rintro e wx ⟨g, off, cp', rfl, hsrc, hd, hb, x, hx⟩
    obtain ⟨a2, cp2, v2, i1, i2, i3, i4⟩ := hd.box
    have s1 : wx.cell? ⟨R, 1, none⟩ = some v2 := cell_of_block i1 rfl
    have s1' : wx.cell? ⟨R, 1, none⟩ = some v := by
      rw [hx, World.cell?_setCell_other _ _ _ _ (by simp)]
      exact s0
    obtain rfl : v2 = v := by rw [s1] at s1'; exact Option.some.inj s1'
    clear hx s1'
    go_wp2_with fail
    refine hK.out _ _ trivial (fun _ => ?_)
    clear hK K
    (try simp only [Act.put, List.setIfInBounds_toArray, List.set_cons_zero, List.set_cons_succ])
    obtain ⟨i0, hi, hz0, hz1, hz2⟩ := info_parts infoU8
    obtain ⟨v1, W1, hrun, hown1, hB, hS, s2, f2⟩ := sd_grow h hd (fun c hc => h.b8 c (List.mem_of_mem_take hc)) hsrc i1 i2 i3 i4 (by omega) (by omega)
    obtain ⟨ad1, n1, cp1, rfl⟩ := hown1
    have HB : Hid (Below R w (W1.setCell ⟨R, 1, none⟩ (.slice ad1 n1 cp1))) := ((drewN_below R w (k + 1)).trans hb).trans hB
    have HD : Hid (Sd w0 (W1.setCell ⟨R, 1, none⟩ (.slice ad1 n1 cp1)) R (bs.drop m) (made ++ bs.take m) size) := hS
    clear hB hS i1 i2 i3 i4 h1 h4 hd hb hsrc h2 h3 hi hz0 hz1 hz2
    refine wpAnyH_ready (rs := [9]) (by kernel_rfl) (by simp) ?_
    refine AllReadyH.cons rfl (fun K hK => ?_) AllReadyH.nil
    refine ready_append rfl (.tmp 19) (.tmp 23) 22 rfl _ _ _ rfl rfl hrun ?_
    refine hK.out _ _ trivial (fun _ => ?_)
    clear hK K
    (try simp only [Act.put, List.setIfInBounds_toArray, List.set_cons_zero, List.set_cons_succ])
    refine wpAnyH_take (i := 10) (v := ?_) rfl (by kernel_rfl) (by kernel_rfl) (by kernel_rfl) (fun _ _ _ h => h) (Or.inl ⟨by rfl, ?_⟩) (by assumption) ?_
    rotate_left
    · intro w hSw
      (try dsimp only at hSw)
      (try (obtain ⟨_, _⟩ := hSw))
      go_simp
      (try with_reducible rfl)
    (try simp only [Act.put, List.setIfInBounds_toArray, List.set_cons_zero, List.set_cons_succ])
    refine wpAnyH_take (i := 11) (v := ?_) rfl (by kernel_rfl) (by kernel_rfl) (by kernel_rfl) (fun _ _ _ h => h) (Or.inl ⟨by rfl, ?_⟩) (by assumption) ?_
    rotate_left
    · intro w hSw
      (try dsimp only at hSw)
      (try (obtain ⟨_, _⟩ := hSw))
      go_simp
      (try with_reducible rfl)
    (try simp only [Act.put, List.setIfInBounds_toArray, List.set_cons_zero, List.set_cons_succ])
    refine wpAnyH_ready (rs := [12]) (by kernel_rfl) (by simp) ?_
    refine AllReadyH.cons rfl (fun K hK => ?_) AllReadyH.nil
    go_simp
    refine hK.out _ _ trivial (fun _ => ?_)
    clear hK K
    refine wpAnyH_done (by kernel_rfl) ?_ _
    go_wp2_with fail
    go_end0
    exact ⟨hB0.trans HB.out, rfl, HD.out⟩
  · -- the call first
    go_simp
    refine K'.mono ?_
    rintro e wx ⟨g, off, cp', rfl, hsrc, hd, hb, x, hx⟩
    obtain ⟨a2, cp2, v2, i1, i2, i3, i4⟩ := hd.box
    have s1 : wx.cell? ⟨R, 1, none⟩ = some v2 := cell_of_block i1 rfl
    have s1' : wx.cell? ⟨R, 1, none⟩ = some v := by
      rw [hx, World.cell?_setCell_other _ _ _ _ (by simp)]
      exact s0
    obtain rfl : v2 = v := by rw [s1] at s1'; exact Option.some.inj s1'
    clear hx s1'
    go_wp2_with fail
    refine hK.out _ _ trivial (fun _ => ?_)
    clear hK K
    (try simp only [Act.put, List.setIfInBounds_toArray, List.set_cons_zero, List.set_cons_succ])
    refine wpAnyH_ready (rs := [4]) (by kernel_rfl) (by simp) ?_
    refine AllReadyH.cons rfl (fun K hK => ?_) AllReadyH.nil
    go_simp
    refine hK.out _ _ trivial (fun _ => ?_)
    clear hK K
    (try simp only [Act.put, List.setIfInBounds_toArray, List.set_cons_zero, List.set_cons_succ])
    obtain ⟨i0, hi, hz0, hz1, hz2⟩ := info_parts infoU8
    obtain ⟨v1, W1, hrun, hown1, hB, hS, s2, f2⟩ := sd_grow h hd (fun c hc => h.b8 c (List.mem_of_mem_take hc)) hsrc i1 i2 i3 i4 (by omega) (by omega)
    obtain ⟨ad1, n1, cp1, rfl⟩ := hown1
    have HB : Hid (Below R w (W1.setCell ⟨R, 1, none⟩ (.slice ad1 n1 cp1))) := ((drewN_below R w (k + 1)).trans hb).trans hB
    have HD : Hid (Sd w0 (W1.setCell ⟨R, 1, none⟩ (.slice ad1 n1 cp1)) R (bs.drop m) (made ++ bs.take m) size) := hS
    clear hB hS i1 i2 i3 i4 h1 h4 hd hb hsrc h2 h3 hi hz0 hz1 hz2
    refine wpAnyH_ready (rs := [9]) (by kernel_rfl) (by simp) ?_
    refine AllReadyH.cons rfl (fun K hK => ?_) AllReadyH.nil
    refine ready_append rfl (.tmp 19) (.tmp 23) 22 rfl _ _ _ rfl rfl hrun ?_
    refine hK.out _ _ trivial (fun _ => ?_)
    clear hK K
    (try simp only [Act.put, List.setIfInBounds_toArray, List.set_cons_zero, List.set_cons_succ])
    refine wpAnyH_take (i := 10) (v := ?_) rfl (by kernel_rfl) (by kernel_rfl) (by kernel_rfl) (fun _ _ _ h => h) (Or.inl ⟨by rfl, ?_⟩) (by assumption) ?_
    rotate_left
    · intro w hSw
      (try dsimp only at hSw)
      (try (obtain ⟨_, _⟩ := hSw))
      go_simp
      (try with_reducible rfl)
    (try simp only [Act.put, List.setIfInBounds_toArray, List.set_cons_zero, List.set_cons_succ])
    refine wpAnyH_take (i := 11) (v := ?_) rfl (by kernel_rfl) (by kernel_rfl) (by kernel_rfl) (fun _ _ _ h => h) (Or.inl ⟨by rfl, ?_⟩) (by assumption) ?_
    rotate_left
    · intro w hSw
      (try dsimp only at hSw)
      (try (obtain ⟨_, _⟩ := hSw))
      go_simp
      (try with_reducible rfl)
    (try simp only [Act.put, List.setIfInBounds_toArray, List.set_cons_zero, List.set_cons_succ])
    refine wpAnyH_ready (rs := [12]) (by kernel_rfl) (by simp) ?_
    refine AllReadyH.cons rfl (fun K hK => ?_) AllReadyH.nil
    go_simp
    refine hK.out _ _ trivial (fun _ => ?_)
    clear hK K
    refine wpAnyH_done (by kernel_rfl) ?_ _
    go_wp2_with fail
    go_end0
    exact ⟨hB0.trans HB.out, rfl, HD.out⟩

set_option maxRecDepth 100000 in
set_option maxHeartbeats 400000 in
theorem bytes_none (w0 w : World) (R : Nat) (bs made : List Nat) (size n : Nat) (hn0 : 60 ≤ n) (hn : n ≤ 63) (L : Calls Try.prog 40 #[.pointer (some ⟨R, 0, none⟩), .int .i64 ((n - 59 : Nat) : Int)] w fun e w' => e = gives 6 ∧ w' = w) :
    Calls Try.prog 38 #[.pointer (some ⟨R, 0, none⟩), .int .i64 n] w fun e w' => Below R w w' ∧ e = gives 6 := by
  have hn' : (60 : Int) ≤ (n : Int) := by omega
  have hn3' : (n : Int) ≤ 63 := by omega
  obtain ⟨q, hq⟩ : ∃ q, q = n - 59 := ⟨_, rfl⟩
  rw [← hq] at L
  have hqi : (n : Int) - 60 + 1 = (q : Int) := by omega
  clear hq
  go_enter Try.func38, Try.ntmps38
  go_wp2_with fail
  refine L.mono ?_
  rintro e wx ⟨rfl, hwx⟩
  obtain rfl := hwx.symm
  unfold gives
  go_wp2_with fail
  exact ⟨rfl, Below.refl _ _, rfl⟩

theorem bytes_any (w0 w : World) (R : Nat) (bs made : List Nat) (size n : Nat) (hn : n ≤ 63) (hm : made.length ≤ size) (hz : size ≤ 1048576) (h : Sd w0 w R bs made size) :
    Calls Try.prog 38 #[.pointer (some ⟨R, 0, none⟩), .int .i64 n] w fun e w' => Below R w w' ∧ match sMore size made n bs with
      | .ok (m, r) => e = .returned (.tuple #[]) ∧ Sd w0 w' R r m size
      | .error c => e = gives c := by
  unfold sMore
  by_cases hn6 : n < 60
  · rw [if_pos hn6]
    exact bytes_small w0 w R bs made size n hn6 hm hz h
  rw [if_neg hn6]
  by_cases hs : bs.length < n - 59
  · have e : sLow (n - 59) bs = .error 6 := by unfold sLow; rw [if_pos hs]
    rw [e]
    exact bytes_none w0 w R bs made size n (by omega) hn (low_short w0 w R bs made size (n - 59) hs h)
  · have e : sLow (n - 59) bs = .ok (little (bs.take (n - 59)), bs.drop (n - 59)) := by unfold sLow; rw [if_neg hs]
    rw [e]
    have h8 : ∀ c ∈ bs.take (n - 59), c < 256 := fun c hc => h.b8 c (List.mem_of_mem_take hc)
    have hl := little_lt _ h8
    have hl2 : (bs.take (n - 59)).length ≤ 4 := by rw [List.length_take]; omega
    have hp : (256 : Nat) ^ (bs.take (n - 59)).length ≤ 256 ^ 4 := Nat.pow_le_pow_right (by omega) hl2
    exact bytes_big w0 w R (bs.drop (n - 59)) bs made size _ n (by omega) hn (by omega) (low_ok w0 w R bs made size (n - 59) (by omega) (by omega) (by omega) h) hm hz fun c hc => h.b8 c (List.mem_of_mem_drop hc)
end Go.Proofs.Ytkkignjenjdjiaa
