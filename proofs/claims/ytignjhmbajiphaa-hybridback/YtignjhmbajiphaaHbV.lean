/-
  must; math/bits.Mul at 1; slices.Repeat of one number.
-/
import Derived.Test.YtignjhmbajiphaaHbE
import Derived.Test.YtignjhmbajiphaaApp
import Derived.Laws.CopyOwn
import Derived.Laws.Tables
namespace Go.Proofs.Ytignjhmbajiphaa
set_option linter.unusedVariables false
set_option linter.unusedSimpArgs false
open Go.ChangeShapes Go.WideShapes Go.ChangeAt Go.RowKit

/-- how reading is given up -/
def gives (c : Int) : Ending := .panicked [{ v := .iface 63 (.agg #[.int .i64 c]), recovered := false }]
set_option maxRecDepth 100000 in
theorem must_yes (c : Int) (w : World) : Calls Try.prog 36 #[.bool true, .int .i64 c] w fun e w' => e = .returned (.tuple #[]) ∧ w' = w := by
  go_enter Try.func36, Try.ntmps36
  go_wp2
  go_end0
  exact ⟨rfl, rfl⟩
set_option maxRecDepth 100000 in
theorem must_no (c : Int) (w : World) : Calls Try.prog 36 #[.bool false, .int .i64 c] w fun e w' => e = gives c ∧ w' = w := by
  unfold gives
  go_enter Try.func36, Try.ntmps36
  go_wp2
  exact ⟨rfl, rfl, rfl⟩

theorem and32 (n : Nat) (h : n < 4294967296) : bits .and .u64 (n : Int) 4294967295 = (n : Int) := by
  have e : n &&& 4294967295 = n := by
    rw [show (4294967295 : Nat) = 2 ^ 32 - 1 from rfl, Nat.and_two_pow_sub_one_eq_mod]
    exact Nat.mod_eq_of_lt h
  show IntKind.u64.wrap ((BitVec.ofInt 64 (n : Int) &&& BitVec.ofInt 64 4294967295).toNat : Int) = _
  rw [BitVec.toNat_and]
  have e1 : (BitVec.ofInt 64 (n : Int)).toNat = n := by
    rw [BitVec.toNat_ofInt]
    omega
  have e2 : (BitVec.ofInt 64 4294967295).toNat = 4294967295 := by decide
  rw [e1, e2, e, IntKind.wrap_u64]
  omega
set_option maxRecDepth 100000 in
set_option maxHeartbeats 2000000 in
theorem mul_one (n : Nat) (hn : n ≤ 70000) (w : World) : Calls Try.prog 65 #[.int .u64 1, .int .u64 n] w fun e w' => e = .returned (.tuple #[.int .u64 0, .int .u64 n]) ∧ w' = w := by
  have h1 : bits .and .u64 1 4294967295 = 1 := by decide
  have h2 := and32 n (by omega)
  have h0 : bits .and .u64 0 4294967295 = 0 := by decide
  have hq : (n : Int) / 4294967296 = 0 := by omega
  have hn' : (n : Int) ≤ 70000 := by omega
  go_enter Try.func65, Try.ntmps65
  go_wp2
  go_ret2
  exact ⟨rfl, rfl⟩
set_option maxRecDepth 100000 in
set_option maxHeartbeats 2000000 in
theorem mulw_one (n : Nat) (hn : n ≤ 70000) (w : World) : Calls Try.prog 62 #[.int .u64 1, .int .u64 n] w fun e w' => e = .returned (.tuple #[.int .u64 0, .int .u64 n]) ∧ w' = w := by
  have MC := fun W => mul_one n hn W
  go_enter Try.func62, Try.ntmps62
  go_wp2_with (go_at_call 65; refine (MC _).mono ?_; rintro e wx ⟨rfl, hwx⟩; obtain rfl := hwx.symm)
  go_ret2
  exact ⟨rfl, rfl⟩

theorem heap_of_made {w : World} {B g n : Nat} {e : TypeId} {xs : List Value} (h : w.ownsRow B e 1 (.slice (some ⟨g, 0, none⟩) n n) n xs) : w.heap[g]? = some (.cells xs.toArray e (0, 0)) := by
  rcases h.2 with ⟨h1, _⟩ | ⟨g', cap, cur, h1, h2, h3, h4, h5, h6, h7⟩
  · cases h1
  · cases h1
    rw [h3, ← h7]
    congr 2
    rw [List.take_of_length_le (by simp [h6])]
theorem own_of_heap {w : World} {B g n : Nat} {e : TypeId} {xs : List Value} (hg : w.heap[g]? = some (.cells xs.toArray e (0, 0))) (hB : B ≤ g) (hl : xs.length = n) (hm : n ≤ maxLen) : w.ownsRow B e 1 (.slice (some ⟨g, 0, none⟩) n n) n xs :=
  ⟨by simpa using hl, .inr ⟨g, n, xs.toArray, rfl, hB, hg, Nat.le_refl _, hm, by simpa using hl, by simp [← hl]⟩⟩
theorem ready_copy {P : Program} {ops : Array Oper} {o : Oper} {a : Act} {w W : World} {K : Act → World → Prop} {Q : Exit → Act → World → Prop} (hg : o.guard = none) (s x : Operand) (t u : TypeId)
    (hop : o.op = .call { callee := .builtin .copy, args := #[s, x], argTypes := #[t, u] }) (b v r : Value) (hs : a.eval s = b) (hx : a.eval x = v) (hrun : (Builtin.copy_ #[t, u] o.type #[b, v]).run P w = .ok r W) (hK : K (a.put o.dst r) W) :
    if Region.wanted o (yielded ops a.tmps) = true then Oper.wp P o a w K Q else K (a.put o.dst undef) w := by
  rw [if_pos (by simp [Region.wanted, hg])]
  unfold Oper.wp
  simp [execOp, hop, resolve, invoke, builtin, hs, hx, hrun, Result.andThen]
  exact hK
theorem wpList_copy_run {P : Program} {w W : World} {ops : Array Oper} {rest : List Oper} {o : Oper} {a : Act} {Q : Exit → Act → World → Prop} (hgd : o.guard = none) (s x : Operand) (t u : TypeId)
    (ho : o.op = .call { callee := .builtin .copy, args := #[s, x], argTypes := #[t, u] }) (b v r : Value) (hs : a.eval s = b) (hx : a.eval x = v) (hrun : (Builtin.copy_ #[t, u] o.type #[b, v]).run P w = .ok r W)
    (h : wpList P ops Q rest (a.put o.dst r) W) : wpList P ops Q (o :: rest) a w := by
  refine wpList_plain hgd fun K hK => ?_
  unfold Oper.wp
  simp [execOp, ho, resolve, invoke, builtin, hs, hx, hrun, Result.andThen]
  exact hK _ _ h
theorem splice_rep {x : Value} {n k m : Nat} (hmn : m ≤ n - k) :
    (List.replicate k x ++ List.replicate (n - k) (Value.int .i64 0)).take k ++ List.replicate m x ++ (List.replicate k x ++ List.replicate (n - k) (Value.int .i64 0)).drop (k + m) = List.replicate (k + m) x ++ List.replicate (n - (k + m)) (Value.int .i64 0) := by
  rw [List.take_left' (by simp), List.drop_append, List.drop_of_length_le (by simp), List.length_replicate, Nat.add_sub_cancel_left, List.drop_replicate, List.nil_append, List.replicate_append_replicate]
  congr 2
  omega
theorem rep_copy {w wr : World} {B G n k m : Nat} {x : Int} {ad : Addr} {sLen sCap : Nat} (hsz : (Try.prog.info? 3).map (·.size) = some 1)
    (hg : wr.heap[G]? = some (.cells (List.replicate k (Value.int .i64 x) ++ List.replicate (n - k) (Value.int .i64 0)).toArray 3 (0, 0))) (hB : B ≤ G) (hb : Below B w wr) (hk : k ≤ n) (hm : m = Nat.min sLen (n - k))
    (hsrc : ∀ j, j < m → wr.cell? (ad.add j) = some (Value.int .i64 x)) :
    ∃ w3, (∀ ty, (Builtin.copy_ #[22, 22] ty #[.slice (some ⟨G, k, none⟩) (n - k) (n - k), .slice (some ad) sLen sCap]).run Try.prog wr = .ok (.int .i64 m) w3) ∧
      Hid (w3.heap[G]? = some (.cells (List.replicate (k + m) (Value.int .i64 x) ++ List.replicate (n - (k + m)) (Value.int .i64 0)).toArray 3 (0, 0))) ∧ Below B w w3 := by
  have hmn : m ≤ n - k := by rw [hm]; exact Nat.min_le_right _ _
  refine ⟨_, fun ty => ?_, ?_, below_setRow hb hB ((List.replicate (k + m) (Value.int .i64 x) ++ List.replicate (n - (k + m)) (Value.int .i64 0)).toArray)⟩
  · have h := run_copy_row (P := Try.prog) wr 22 22 ty 3 G k (n - k) (n - k) ad sLen sCap _ 3 (List.replicate m (Value.int .i64 x)) Try.underlying22 hsz hg (by rw [List.length_replicate]; exact hm) (fun j v hj => by
      rw [List.getElem?_replicate] at hj
      split at hj
      · cases hj
        exact hsrc j (by assumption)
      · cases hj) (by simp; omega) (by intro v hv; rw [(List.mem_replicate.1 hv).2]; rfl)
    rw [List.length_replicate] at h
    have e := splice_rep (x := Value.int .i64 x) hmn
    rw [← e]
    exact h
  · exact setRow_heap _ _ _ _ _ _ hg
theorem rep_cells {w : World} {g n k j : Nat} {x : Value} {e : TypeId} (hg : w.heap[g]? = some (.cells (List.replicate k x ++ List.replicate (n - k) (Value.int .i64 0)).toArray e (0, 0))) (hj : j < k) : w.cell? ((⟨g, 0, none⟩ : Addr).add j) = some x := by
  rw [add0]
  refine cell_of_block hg ?_
  rw [List.getElem?_toArray, List.getElem?_append_left (by simpa using hj), List.getElem?_replicate, if_pos hj]
theorem infoIntV : (Try.prog.info? 3).map (fun i => (i.zero, i.size, i.bytes)) = some (some (.int .i64 0), 1, 8) := by kernel_rfl

set_option maxRecDepth 100000 in
set_option maxHeartbeats 4000000 in
theorem repeat_any (g off c n : Nat) (x : Int) (w : World) (hn1 : 1 ≤ n) (hn : n ≤ 70000) (hx : w.cell? ⟨g, off, none⟩ = some (.int .i64 x)) :
    Calls Try.prog 56 #[.slice (some ⟨g, off, none⟩) 1 c, .int .i64 n] w fun e w' => ∃ v, e = .returned v ∧ w'.ownsRow w.heap.size 3 1 v n (List.replicate n (.int .i64 x)) ∧ Below w.heap.size w w' := by
  obtain ⟨i0, hi, hz0, hz1, hz2⟩ := info_parts infoIntV
  have hsz : (Try.prog.info? 3).map (·.size) = some 1 := by rw [hi]; simp [hz1]
  have MC := fun W => mulw_one n hn W
  have hn' : (n : Int) ≤ 70000 := by omega
  have hn1' : (1 : Int) ≤ (n : Int) := by omega
  have hwn : IntKind.u64.wrap (n : Int) = (n : Int) := by rw [IntKind.wrap_u64]; omega
  have hwn2 : IntKind.i64.wrap (n : Int) = (n : Int) := by rw [IntKind.wrap_i64]; omega
  go_enter Try.func56, Try.ntmps56
  go_wp2_with (first | (go_at_call 62; refine (MC _).mono ?_; rintro e wx ⟨rfl, hwx⟩; obtain rfl := hwx.symm) | (at_make; go_loud (refine wpList_make_full _ rfl _ _ 22 rfl w.heap.size 3 i0 (.int .i64 0) 1 Try.underlying22 hi hz0 hz1 _ _ _ _ n rfl rfl rfl rfl (by rw [hz2]; omega) (by unfold maxLen; omega) (Nat.le_refl _) ?_); intro w1 hown1 hgrow1; rw [made_zero] at hown1; have HG1 : Hid (w1.heap[w.heap.size]? = some (.cells (List.replicate n (Value.int .i64 0)).toArray 3 (0, 0))) := heap_of_made hown1; have B1 : Below w.heap.size w w1 := (Below.refl _ _).grown hgrow1 (Nat.le_refl _) (fun _ e => by cases e); have hx1 := cell_later B1 hx; clear hown1 hgrow1))
  obtain ⟨w2, hcp, HG2, hB2⟩ := rep_copy (w := w) (B := w.heap.size) (n := n) (k := 0) (m := 1) (x := x) (ad := ⟨g, off, none⟩) (sLen := 1) (sCap := c) hsz (by simpa using HG1.out) (Nat.le_refl _) B1 (Nat.zero_le _) (by simp [Nat.min_def]; omega) (fun j hj => by
    obtain rfl : j = 0 := by omega
    simpa [Addr.add] using hx1)
  simp only [Nat.sub_zero, Nat.zero_add] at hcp HG2
  go_wp2_with fail
  rw [hcp]
  go_simp
  go_wp2_with fail
  go_loopw [8] (fun s wr => ∃ k : Nat, s = .int .i64 (k : Int) ∧ 1 ≤ k ∧ k ≤ n ∧ Hid (wr.heap[w.heap.size]? = some (.cells (List.replicate k (Value.int .i64 x) ++ List.replicate (n - k) (Value.int .i64 0)).toArray 3 (0, 0))) ∧ Below w.heap.size w wr) (fun s _ => n - (intOf s).toNat)
  case atStart => exact ⟨1, rfl, Nat.le_refl _, hn1, HG2, hB2⟩
  case round =>
    obtain ⟨k, rfl, hk1, hkn, HG, hb⟩ := hrel
    by_cases hlt : k < n
    · have hlt' : (k : Int) < (n : Int) := by omega
      have hk1' : (1 : Int) ≤ (k : Int) := by omega
      have hkne : ¬ n = k := by omega
      have hn0 : ¬ n = 0 := by omega
      have hkc : (k : Int) ≤ (n : Int) := by omega
      obtain ⟨m, HM⟩ : ∃ m, Hid (m = Nat.min k (n - k)) := ⟨_, rfl⟩
      have hm1 : 1 ≤ m ∧ m ≤ n - k ∧ m ≤ k := by
        have h := HM.out
        rcases Nat.le_total k (n - k) with h1 | h1
        · rw [show Nat.min k (n - k) = k from Nat.min_eq_left h1] at h; omega
        · rw [show Nat.min k (n - k) = n - k from Nat.min_eq_right h1] at h; omega
      have hkm : (k : Int) + (m : Int) ≤ 70000 := by omega
      have hwkm : IntKind.i64.wrap ((k : Int) + (m : Int)) = (k : Int) + (m : Int) := by rw [IntKind.wrap_i64]; omega
      have hgd : wr.drew.heap[w.heap.size]? = _ := HG.out
      obtain ⟨w3, hcp3, HG3, hB3⟩ := rep_copy (w := w) (B := w.heap.size) (wr := wr.drew) (n := n) (k := k) (m := m) (x := x) (ad := ⟨w.heap.size, 0, none⟩) (sLen := k) (sCap := n) hsz hgd (Nat.le_refl _) hb.drew hkn HM.out (fun j hj => rep_cells hgd (by omega))
      clear hcp
      go_wp2_with fail
      refine wp_region_held_drew (S := fun _ => True) (by kernel_rfl) trivial (fun hHeld => ?_)
      clear hHeld
      refine wpAnyH_take (i := 0) (v := ?_) rfl (by kernel_rfl) (by kernel_rfl) (by kernel_rfl) (fun _ _ _ h => h) (Or.inl ⟨by rfl, ?_⟩) (by assumption) ?_
      rotate_left
      · intro w hSw
        (try dsimp only at hSw)
        (try (obtain ⟨_, _, _, _, _, _, _⟩ := hSw))
        (try (obtain ⟨_, _⟩ := hSw))
        go_simp
        (try with_reducible rfl)
      (try simp only [Act.put, List.setIfInBounds_toArray, List.set_cons_zero, List.set_cons_succ])
      refine wpAnyH_take (i := 1) (v := ?_) rfl (by kernel_rfl) (by kernel_rfl) (by kernel_rfl) (fun _ _ _ h => h) (Or.inl ⟨by rfl, ?_⟩) (by assumption) ?_
      rotate_left
      · intro w hSw
        (try dsimp only at hSw)
        (try (obtain ⟨_, _, _, _, _, _, _⟩ := hSw))
        (try (obtain ⟨_, _⟩ := hSw))
        go_simp
        (try with_reducible rfl)
      (try simp only [Act.put, List.setIfInBounds_toArray, List.set_cons_zero, List.set_cons_succ])
      refine wpAnyH_take (i := 2) (v := ?_) rfl (by kernel_rfl) (by kernel_rfl) (by kernel_rfl) (fun _ _ _ h => h) (Or.inl ⟨by rfl, ?_⟩) (by assumption) ?_
      rotate_left
      · intro w hSw
        (try dsimp only at hSw)
        (try (obtain ⟨_, _, _, _, _, _, _⟩ := hSw))
        (try (obtain ⟨_, _⟩ := hSw))
        go_simp
        (try with_reducible rfl)
      (try simp only [Act.put, List.setIfInBounds_toArray, List.set_cons_zero, List.set_cons_succ])
      refine wpAnyH_take (i := 3) (v := ?_) rfl (by kernel_rfl) (by kernel_rfl) (by kernel_rfl) (fun _ _ _ h => h) (Or.inl ⟨by rfl, ?_⟩) (by assumption) ?_
      rotate_left
      · intro w hSw
        (try dsimp only at hSw)
        (try (obtain ⟨_, _, _, _, _, _, _⟩ := hSw))
        (try (obtain ⟨_, _⟩ := hSw))
        go_simp
        (try with_reducible rfl)
      (try simp only [Act.put, List.setIfInBounds_toArray, List.set_cons_zero, List.set_cons_succ])
      refine wpAnyH_take (i := 4) (v := ?_) rfl (by kernel_rfl) (by kernel_rfl) (by kernel_rfl) (fun _ _ _ h => h) (Or.inl ⟨by rfl, ?_⟩) (by assumption) ?_
      rotate_left
      · intro w hSw
        (try dsimp only at hSw)
        (try (obtain ⟨_, _, _, _, _, _, _⟩ := hSw))
        (try (obtain ⟨_, _⟩ := hSw))
        go_simp
        (try with_reducible rfl)
      (try simp only [Act.put, List.setIfInBounds_toArray, List.set_cons_zero, List.set_cons_succ])
      refine wpAnyH_take (i := 5) (v := ?_) rfl (by kernel_rfl) (by kernel_rfl) (by kernel_rfl) (fun _ _ _ h => h) (Or.inl ⟨by rfl, ?_⟩) (by assumption) ?_
      rotate_left
      · intro w hSw
        (try dsimp only at hSw)
        (try (obtain ⟨_, _, _, _, _, _, _⟩ := hSw))
        (try (obtain ⟨_, _⟩ := hSw))
        go_simp
        (try with_reducible rfl)
      (try simp only [Act.put, List.setIfInBounds_toArray, List.set_cons_zero, List.set_cons_succ])
      refine wpAnyH_take (i := 6) (v := ?_) rfl (by kernel_rfl) (by kernel_rfl) (by kernel_rfl) (fun _ _ _ h => h) (Or.inl ⟨by rfl, ?_⟩) (by assumption) ?_
      rotate_left
      · intro w hSw
        (try dsimp only at hSw)
        (try (obtain ⟨_, _, _, _, _, _, _⟩ := hSw))
        (try (obtain ⟨_, _⟩ := hSw))
        go_simp
        (try with_reducible rfl)
      (try simp only [Act.put, List.setIfInBounds_toArray, List.set_cons_zero, List.set_cons_succ])
      refine wpAnyH_ready (rs := [7]) (by kernel_rfl) (by simp) ?_
      refine AllReadyH.cons rfl (fun K hK => ?_) AllReadyH.nil
      go_simp
      refine hK.out _ _ trivial (fun _ => ?_)
      clear hK K
      (try simp only [Act.put, List.setIfInBounds_toArray, List.set_cons_zero, List.set_cons_succ])
      refine wpAnyH_take (i := 8) (v := ?_) rfl (by kernel_rfl) (by kernel_rfl) (by kernel_rfl) (fun _ _ _ h => h) (Or.inl ⟨by rfl, ?_⟩) (by assumption) ?_
      rotate_left
      · intro w hSw
        (try dsimp only at hSw)
        (try (obtain ⟨_, _, _, _, _, _, _⟩ := hSw))
        (try (obtain ⟨_, _⟩ := hSw))
        go_simp
        (try with_reducible rfl)
      (try simp only [Act.put, List.setIfInBounds_toArray, List.set_cons_zero, List.set_cons_succ])
      refine wpAnyH_ready (rs := [9]) (by kernel_rfl) (by simp) ?_
      refine AllReadyH.cons rfl (fun K hK => ?_) AllReadyH.nil
      go_simp
      refine hK.out _ _ trivial (fun _ => ?_)
      clear hK K
      refine wpAnyH_done (by kernel_rfl) ?_ _
      go_wp2_with fail
      go_roundw
      case rel => exact ⟨k + m, by go_num, by omega, by omega, HG3, hB3⟩
      case measure => simp [intOf]; omega
    · have hkn2 : k = n := by omega
      have hge : (n : Int) ≤ (k : Int) := by omega
      have HO : Hid (wr.ownsRow w.heap.size 3 1 (.slice (some ⟨w.heap.size, 0, none⟩) n n) n (List.replicate n (.int .i64 x))) := by
        have h := HG.out
        rw [hkn2, Nat.sub_self, List.replicate_zero, List.append_nil] at h
        exact own_of_heap h (Nat.le_refl _) (by simp) (by unfold maxLen; omega)
      clear hcp hkn2
      go_wp2_with fail
      go_ret
      exact ⟨_, rfl, HO.out, hb⟩
end Go.Proofs.Ytignjhmbajiphaa
