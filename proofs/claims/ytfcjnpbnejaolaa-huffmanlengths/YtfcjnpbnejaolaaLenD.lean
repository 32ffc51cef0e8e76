/-
  huffman.merge: two lists of packages as one.
-/
import Derived.Test.YtfcjnpbnejaolaaLenC
namespace Go.Proofs.Ytfcjnpbnejaolaa
set_option linter.unusedVariables false
set_option linter.unusedSimpArgs false
open Go.ChangeShapes Go.WideShapes Go.ChangeAt Go.RowKit Go.Sort Go.Shelf

/-- an append comes up in a region that draws -/
theorem ready_append {P : Program} {ops : Array Oper} {o : Oper} {a : Act} {w W : World} {K : Act → World → Prop} {Q : Exit → Act → World → Prop} (hg : o.guard = none) (s x : Operand) (t : TypeId)
    (hop : o.op = .call { callee := .builtin .append, args := #[s, x], argTypes := #[t, t] }) (u v r : Value) (hs : a.eval s = u) (hx : a.eval x = v) (hrun : (Builtin.append_ #[t, t] o.type #[u, v]).run P w = .ok r W) (hK : K (a.put o.dst r) W) :
    if Region.wanted o (yielded ops a.tmps) = true then Oper.wp P o a w K Q else K (a.put o.dst undef) w := by
  rw [if_pos (by simp [Region.wanted, hg])]
  unfold Oper.wp
  simp [execOp, hop, resolve, invoke, builtin, hs, hx, hrun, Result.andThen]
  exact hK

theorem PAt.cells {w : World} {g off : Nat} {l : List Pk} (h : PAt w g off l) : ∀ j u, (cp l)[j]? = some u → w.cell? ((⟨g, off, none⟩ : Addr).add j) = some u := by
  intro j u hj
  have hlt : j < (cp l).length := by
    rcases Nat.lt_or_ge j (cp l).length with h1 | h1
    · exact h1
    · rw [List.getElem?_eq_none h1] at hj; cases hj
  rw [cp_len] at hlt
  have hi : j / 2 < l.length := by omega
  have e := List.getElem?_eq_getElem hi
  have c := cp_get l (j / 2) _ e
  have m := h (j / 2) _ e
  have ea : (⟨g, off, none⟩ : Addr).add j = ⟨g, off + j, none⟩ := by unfold Addr.add; split <;> simp_all
  rw [ea]
  rcases Nat.mod_two_eq_zero_or_one j with h0 | h1
  · have ej : j / 2 * 2 = j := by omega
    rw [ej] at c m
    rw [c.1] at hj
    cases hj
    exact m.1
  · have ej : j / 2 * 2 + 1 = j := by omega
    rw [Nat.add_assoc, ej] at m
    rw [ej] at c
    rw [c.2] at hj
    cases hj
    exact m.2
def slLen : Value → Nat
  | .slice _ n _ => n
  | _ => 0
theorem PAt.below {w w' : World} {g off B : Nat} {l : List Pk} (h : PAt w g off l) (hb : Below B w w') (hg : 0 < l.length → g < B) : PAt w' g off l := by
  intro i p hi
  have hl : 0 < l.length := by
    cases l with
    | nil => simp at hi
    | cons x l => simp
  exact ⟨(hb.cell (p := ⟨g, off + i * 2, none⟩) (hg hl)).trans (h i p hi).1, (hb.cell (p := ⟨g, off + i * 2 + 1, none⟩) (hg hl)).trans (h i p hi).2⟩

/-- where merge's loop stands -/
structure MI (w wr : World) (A B : List Pk) (g1 o1 g2 o2 i j : Nat) (v : Value) : Prop where
  hi : i ≤ A.length
  hj : j ≤ B.length
  row : wr.ownsRow w.heap.size 60 2 v (i + j) (cp ((mrg A B).take (i + j)))
  rest : (mrg A B).drop (i + j) = mrg (A.drop i) (B.drop j)
  bel : Below w.heap.size w wr
theorem MI.later {w wr X : World} {A B : List Pk} {g1 o1 g2 o2 i j : Nat} {v : Value} (h : MI w wr A B g1 o1 g2 o2 i j v) (hb : Below wr.heap.size wr X) : MI w X A B g1 o1 g2 o2 i j v := by
  refine ⟨h.hi, h.hj, ?_, h.rest, h.bel.trans (hb.mono h.bel.size)⟩
  refine ⟨h.row.1, ?_⟩
  rcases h.row.2 with h1 | ⟨g, cap, cur, h1, h2, h3, h4⟩
  · exact .inl h1
  · exact .inr ⟨g, cap, cur, h1, h2, below_at hb h3, h4⟩
theorem drop_cons {l : List Pk} {i : Nat} (h : i < l.length) : ∃ p, l[i]? = some p ∧ l.drop i = p :: l.drop (i + 1) := ⟨l[i], List.getElem?_eq_getElem h, List.drop_eq_getElem_cons h⟩
theorem take_one {l : List Pk} {k : Nat} {p : Pk} {r : List Pk} (h : l.drop k = p :: r) : l.take (k + 1) = l.take k ++ [p] ∧ l.drop (k + 1) = r := by
  have hk : k < l.length := by
    rcases Nat.lt_or_ge k l.length with h1 | h1
    · exact h1
    · rw [List.drop_eq_nil_of_le h1] at h; cases h
  rw [List.drop_eq_getElem_cons hk] at h
  cases h
  exact ⟨List.take_succ_eq_append_getElem hk, rfl⟩
theorem mrg_ends (a b : List Pk) (h : a = [] ∨ b = []) : a ++ b = mrg a b := by
  rcases h with rfl | rfl
  · rfl
  · rw [mrg_nil2, List.append_nil]
/-- one package is laid -/
theorem MI.lay {w wr : World} {A B : List Pk} {g1 o1 g2 o2 i j : Nat} {v : Value} (h : MI w wr A B g1 o1 g2 o2 i j v) (hl : A.length + B.length ≤ 4000) (p : Pk) (r : List Pk) (ty : TypeId) (he : mrg (A.drop i) (B.drop j) = p :: r) :
    ∃ v' W', (Builtin.append_ #[46, 46] ty #[v, .slice (some ⟨wr.heap.size, 0, none⟩) 1 1]).run Try.prog (wr.alloc (.cells #[.int .i64 ((p.1 : Nat) : Int), .bool p.2] 60)) = .ok v' W' ∧
      W'.ownsRow w.heap.size 60 2 v' (i + j + 1) (cp ((mrg A B).take (i + j + 1))) ∧ (mrg A B).drop (i + j + 1) = r ∧ Below w.heap.size w W' ∧ Below w.heap.size wr W' := by
  obtain ⟨i0, hi, hz0, hz1, hz2⟩ := info_parts infoP
  have hz := h.bel.size
  have hk := take_one (l := mrg A B) (k := i + j) (p := p) (r := r) (by rw [h.rest, he])
  have hn : ∀ k u, (cp [p])[k]? = some u → (wr.alloc (.cells #[.int .i64 ((p.1 : Nat) : Int), .bool p.2] 60)).cell? ((⟨wr.heap.size, 0, none⟩ : Addr).add k) = some u := by
    intro k u hk
    rw [add0]
    exact alloc_cell wr _ _ _ (by simpa [cp] using hk)
  have := h.hi
  have := h.hj
  obtain ⟨v', W', r1, r2, r3, _⟩ := run_append_own (P := Try.prog) (wr.alloc (.cells #[.int .i64 ((p.1 : Nat) : Int), .bool p.2] 60)) w.heap.size 46 ty 60 i0 (.agg #[.int .i64 0, .bool false]) 2 16 Try.underlying46 hi hz0 hz1 hz2 rfl (by decide) v (i + j) (cp ((mrg A B).take (i + j))) (h.row.alloc _) ⟨wr.heap.size, 0, none⟩ 1 1 (cp [p]) rfl hn (cp_one _) (by unfold maxLen; omega) (by omega) (by simp; omega)
  refine ⟨v', W', r1, ?_, hk.2, ?_, ?_⟩
  · rw [hk.1, cp_append]; exact r2
  · exact (h.bel.alloc hz _).grown r3 (by simp; omega) (fun k hk => (h.row.lt k hk).1)
  · exact ((Below.refl _ wr).alloc hz _).grown r3 (by simp; omega) (fun k hk => (h.row.lt k hk).1)

set_option maxRecDepth 10000 in
set_option maxHeartbeats 4000000 in
theorem merge_any (w : World) (A B : List Pk) (g1 o1 c1 g2 o2 c2 n m : Nat) (hA : PAt w g1 o1 A) (hB : PAt w g2 o2 B) (hn : A.length = n) (hm : B.length = m) (hnm : n + m ≤ 4000) (hc1 : n ≤ c1) (hc2 : m ≤ c2) :
    Calls Try.prog 34 #[.slice (some ⟨g1, o1, none⟩) n c1, .slice (some ⟨g2, o2, none⟩) m c2, .func (.func 33) #[] #[]] w fun e w' => ∃ v, e = .returned v ∧ w'.ownsRow w.heap.size 60 2 v (mrg A B).length (cp (mrg A B)) ∧ Below w.heap.size w w' := by
  obtain ⟨i0, hi, hz0, hz1, hz2⟩ := info_parts infoP
  have hnm' : (n : Int) + (m : Int) ≤ 4000 := by omega
  obtain ⟨s, hs⟩ : ∃ s, s = n + m := ⟨_, rfl⟩
  have hsi : (n : Int) + (m : Int) = (s : Int) := by omega
  have HA : Hid (PAt w g1 o1 A) := hA
  have HB : Hid (PAt w g2 o2 B) := hB
  have HN : Hid (A.length = n ∧ B.length = m ∧ (mrg A B).length = n + m) := ⟨hn, hm, by rw [mrg_len, hn, hm]⟩
  have gA : Hid (0 < n → g1 < w.heap.size) := fun h => by
    have := hA 0 _ (List.getElem?_eq_getElem (by omega))
    exact World.block_lt_of_cell? _ _ this.1
  have gB : Hid (0 < m → g2 < w.heap.size) := fun h => by
    have := hB 0 _ (List.getElem?_eq_getElem (by omega))
    exact World.block_lt_of_cell? _ _ this.1
  have hs4 : s ≤ 4000 := by omega
  have HSS : Hid (s = n + m) := hs
  clear hA hB hn hm hs
  go_enter Try.func34, Try.ntmps34
  go_wp2_with (at_make; refine wpList_make_own _ rfl _ _ 46 rfl w.heap.size 60 i0 (.agg #[.int .i64 0, .bool false]) 2 Try.underlying46 hi hz0 hz1 _ _ _ s rfl rfl rfl (by rw [hz2]; omega) (by unfold maxLen; omega) (Nat.le_refl _) ?_; intro w1 hown1 hg1)
  have M1 : MI w w1 A B g1 o1 g2 o2 0 0 (.slice (some ⟨w.heap.size, 0, none⟩) 0 s) := ⟨Nat.zero_le _, Nat.zero_le _, by simpa [cp] using hown1, by simp, (Below.refl _ w).grown hg1 (Nat.le_refl _) (fun _ e => by cases e)⟩
  clear hown1 hg1
  go_loopw [0, 1, 7] (fun f t b wr => ∃ i j f1 f2 ri rj k1 k2 : Nat, f = .slice (some ⟨g1, f1, none⟩) ri k1 ∧ t = .slice (some ⟨g2, f2, none⟩) rj k2 ∧ Hid ((i ≤ n ∧ j ≤ m ∧ ri = n - i ∧ rj = m - j ∧ k1 = c1 - i ∧ k2 = c2 - j ∧ (0 < k1 → f1 = o1 + i * 2) ∧ (0 < k2 → f2 = o2 + j * 2)) ∧ MI w wr A B g1 o1 g2 o2 i j b)) (fun f t _ _ => slLen f + slLen t)
  case atStart => exact ⟨0, 0, o1, o2, n, m, c1, c2, rfl, rfl, ⟨Nat.zero_le _, Nat.zero_le _, rfl, rfl, rfl, rfl, fun _ => rfl, fun _ => rfl⟩, M1⟩
  case round =>
    clear M1
    obtain ⟨i, j, f1, f2, ri, rj, k1, k2, rfl, rfl, HREL⟩ := hrel
    obtain ⟨⟨hin, hjm, hri, hrj, hk1, hk2, hf1, hf2⟩, hMI⟩ := HREL.out
    obtain ⟨ad, cb, rfl⟩ := own_sl hMI.row
    have HMI : Hid (MI w wr A B g1 o1 g2 o2 i j (.slice ad (i + j) cb)) := hMI
    have hri4 : (ri : Int) ≤ 4000 := by omega
    have hrj4 : (rj : Int) ≤ 4000 := by omega
    by_cases hlt : 0 < ri ∧ 0 < rj
    · obtain ⟨l1, l2⟩ := hlt
      have l1' : (0 : Int) < (ri : Int) := by omega
      have l2' : (0 : Int) < (rj : Int) := by omega
      have l1'' : (1 : Int) ≤ (ri : Int) := by omega
      have l2'' : (1 : Int) ≤ (rj : Int) := by omega
      obtain ⟨⟨x, bx⟩, ep, edp⟩ := drop_cons (l := A) (i := i) (by rw [HN.out.1]; omega)
      obtain ⟨⟨y, by'⟩, eq, edq⟩ := drop_cons (l := B) (i := j) (by rw [HN.out.2.1]; omega)
      have bel := hMI.bel
      have p1 := HA.out i _ ep
      have p2 := HB.out j _ eq
      have gg1 := gA.out (by omega)
      have gg2 := gB.out (by omega)
      rw [← hf1 (by omega)] at p1
      rw [← hf2 (by omega)] at p2
      have a1 := (bel.cell (p := ⟨g1, f1, none⟩) gg1).trans p1.1
      have a2 := (bel.cell (p := ⟨g1, f1 + 1, none⟩) gg1).trans p1.2
      have b1 := (bel.cell (p := ⟨g2, f2, none⟩) gg2).trans p2.1
      have b2 := (bel.cell (p := ⟨g2, f2 + 1, none⟩) gg2).trans p2.2
      have hwz := bel.size
      have HG : Hid (∀ X : World, Below w.heap.size wr X → X.cell? ⟨g2, f2, none⟩ = some (.int .i64 (y : Int)) ∧ X.cell? ⟨g2, f2 + 1, none⟩ = some (.bool by') ∧ X.cell? ⟨g1, f1, none⟩ = some (.int .i64 (x : Int)) ∧ X.cell? ⟨g1, f1 + 1, none⟩ = some (.bool bx)) := fun X hX =>
        ⟨(hX.cell (p := ⟨g2, f2, none⟩) gg2).trans b1, (hX.cell (p := ⟨g2, f2 + 1, none⟩) gg2).trans b2, (hX.cell (p := ⟨g1, f1, none⟩) gg1).trans a1, (hX.cell (p := ⟨g1, f1 + 1, none⟩) gg1).trans a2⟩
      have HMG : Hid (mrg (A.drop i) (B.drop j) = if y < x then (y, by') :: mrg (A.drop i) (B.drop (j + 1)) else (x, bx) :: mrg (A.drop (i + 1)) (B.drop j)) := by
        show _ = _
        rw [edp, edq, mrg_cons, ← edp, ← edq]
      have HL2 : Hid (0 < ri ∧ 0 < rj) := ⟨l1, l2⟩
      have HIJ : Hid (i + 1 ≤ n ∧ j + 1 ≤ m) := ⟨by omega, by omega⟩
      have hk1' : (1 : Int) ≤ (k1 : Int) := by omega
      have hk2' : (1 : Int) ≤ (k2 : Int) := by omega
      have hr1 : (ri : Int) ≤ (k1 : Int) := by omega
      have hr2 : (rj : Int) ≤ (k2 : Int) := by omega
      clear hri hrj hMI edp edq ep eq p1 p2 a1 a2 b1 b2 l1 l2 hk1 hk2 hf1 hf2 bel hin hjm
      go_wp2_with fail
      have s0 := HG.out wr.drew (Below.refl _ wr).drew
      obtain ⟨tb, htb⟩ : ∃ tb, tb = decide (y < x) := ⟨_, rfl⟩
      have KL : Calls Try.prog 33 #[.agg #[.int .i64 (y : Int), .bool by'], .agg #[.int .i64 (x : Int), .bool bx]] wr.drew fun e w' => e = .returned (.bool tb) ∧ Below wr.drew.heap.size wr.drew w' := by rw [htb]; exact lighter_any wr.drew (y, by') (x, bx)
      have HTB : Hid _ := htb
      clear htb
      refine wp_region_held_drew (S := fun X => X.cell? ⟨g2, f2, none⟩ = some (.int .i64 (y : Int)) ∧ X.cell? ⟨g2, f2 + 1, none⟩ = some (.bool by') ∧ X.cell? ⟨g1, f1, none⟩ = some (.int .i64 (x : Int)) ∧ X.cell? ⟨g1, f1 + 1, none⟩ = some (.bool bx)) (by kernel_rfl) s0 (fun hHeld => ?_)
      refine wpAnyH_take (i := 0) (v := ?_) rfl (by kernel_rfl) (by kernel_rfl) (by kernel_rfl) (fun _ _ _ h => h) (Or.inl ⟨by rfl, ?_⟩) (by assumption) ?_
      rotate_left
      · intro w hSw
        (try dsimp only at hSw)
        (try (obtain ⟨_, _, _, _, _, _, _⟩ := hSw))
        (try (obtain ⟨_, _⟩ := hSw))
        go_simp
        (try with_reducible rfl)
      (try simp only [Act.put, List.setIfInBounds_toArray, List.set_cons_zero, List.set_cons_succ])
      refine wpAnyH_take (i := 1) (v := ?_) rfl (by kernel_rfl) (by kernel_rfl) (by kernel_rfl) (fun _ _ _ h => h) (Or.inl ⟨by rfl, ?_⟩) (by assumption) ?_
      rotate_left
      · intro w hSw
        (try dsimp only at hSw)
        (try (obtain ⟨_, _, _, _, _, _, _⟩ := hSw))
        (try (obtain ⟨_, _⟩ := hSw))
        go_simp
        (try with_reducible rfl)
      (try simp only [Act.put, List.setIfInBounds_toArray, List.set_cons_zero, List.set_cons_succ])
      refine wpAnyH_take (i := 2) (v := ?_) rfl (by kernel_rfl) (by kernel_rfl) (by kernel_rfl) (fun _ _ _ h => h) (Or.inl ⟨by rfl, ?_⟩) (by assumption) ?_
      rotate_left
      · intro w hSw
        (try dsimp only at hSw)
        (try (obtain ⟨_, _, _, _, _, _, _⟩ := hSw))
        (try (obtain ⟨_, _⟩ := hSw))
        go_simp
        (try with_reducible rfl)
      (try simp only [Act.put, List.setIfInBounds_toArray, List.set_cons_zero, List.set_cons_succ])
      refine wpAnyH_take (i := 3) (v := ?_) rfl (by kernel_rfl) (by kernel_rfl) (by kernel_rfl) (fun _ _ _ h => h) (Or.inl ⟨by rfl, ?_⟩) (by assumption) ?_
      rotate_left
      · intro w hSw
        (try dsimp only at hSw)
        (try (obtain ⟨_, _, _, _, _, _, _⟩ := hSw))
        (try (obtain ⟨_, _⟩ := hSw))
        go_simp
        (try with_reducible rfl)
      (try simp only [Act.put, List.setIfInBounds_toArray, List.set_cons_zero, List.set_cons_succ])
      refine wpAnyH_take (i := 4) (v := ?_) rfl (by kernel_rfl) (by kernel_rfl) (by kernel_rfl) (fun _ _ _ h => h) (Or.inl ⟨by rfl, ?_⟩) (by assumption) ?_
      rotate_left
      · intro w hSw
        (try dsimp only at hSw)
        (try (obtain ⟨_, _, _, _, _, _, _⟩ := hSw))
        (try (obtain ⟨_, _⟩ := hSw))
        go_simp
        (try with_reducible rfl)
      (try simp only [Act.put, List.setIfInBounds_toArray, List.set_cons_zero, List.set_cons_succ])
      refine wpAnyH_take (i := 5) (v := ?_) rfl (by kernel_rfl) (by kernel_rfl) (by kernel_rfl) (fun _ _ _ h => h) (Or.inl ⟨by rfl, ?_⟩) (by assumption) ?_
      rotate_left
      · intro w hSw
        (try dsimp only at hSw)
        (try (obtain ⟨_, _, _, _, _, _, _⟩ := hSw))
        (try (obtain ⟨_, _⟩ := hSw))
        go_simp
        (try with_reducible rfl)
      (try simp only [Act.put, List.setIfInBounds_toArray, List.set_cons_zero, List.set_cons_succ])
      refine wpAnyH_take (i := 6) (v := ?_) rfl (by kernel_rfl) (by kernel_rfl) (by kernel_rfl) (fun _ _ _ h => h) (Or.inl ⟨by rfl, ?_⟩) (by assumption) ?_
      rotate_left
      · intro w hSw
        (try dsimp only at hSw)
        (try (obtain ⟨_, _, _, _, _, _, _⟩ := hSw))
        (try (obtain ⟨_, _⟩ := hSw))
        go_simp
        (try with_reducible rfl)
      (try simp only [Act.put, List.setIfInBounds_toArray, List.set_cons_zero, List.set_cons_succ])
      refine wpAnyH_ready (rs := [7]) (by kernel_rfl) (by simp) ?_
      refine AllReadyH.cons rfl (fun K hK => ?_) AllReadyH.nil
      go_simp
      refine KL.mono ?_
      rintro e W2 ⟨rfl, hb2⟩
      have bw2 : Below w.heap.size wr W2 := (Below.refl _ wr).drew.trans (hb2.mono hwz)
      have M2 := HMI.out.later ((Below.refl _ wr).drew.trans hb2)
      clear hb2
      go_simp
      refine hK.out _ _ (HG.out W2 bw2) (fun _ => ?_)
      clear hK K
      refine wpAnyH_done (by kernel_rfl) ?_ _
      cases tb
      rotate_left
      · have hyx : y < x := by simpa using HTB.out
        have HT := HMG.out
        rw [if_pos hyx] at HT
        have HT2 : Hid _ := HT
        clear hyx HMG HT KL HMI HTB
        go_wp2_with fail
        have bw3 : Below w.heap.size wr W2.drew := bw2.drew
        have M3 := M2.later (Below.refl _ W2).drew
        have s3 := HG.out W2.drew bw3
        have hz3 : w.heap.size ≤ W2.drew.heap.size := M3.bel.size
        have s4 := HG.out (W2.drew.alloc (.cells #[.int .i64 (y : Int), .bool by'] 60)) (bw3.alloc hz3 _)
        obtain ⟨v', W', r1, r2, r3, r4, r5⟩ := M3.lay (by rw [HN.out.1, HN.out.2.1]; exact hnm) (y, by') _ 46 HT2.out
        have s5 := HG.out W' (bw3.trans r5)
        have HM4 : Hid (MI w W' A B g1 o1 g2 o2 i (j + 1) v') := ⟨by rw [HN.out.1]; exact HREL.out.1.1, by rw [HN.out.2.1]; exact HIJ.out.2, r2, r3, r4⟩
        clear r2 r3 r4 r5 M2 M3 bw2
        refine wp_region_held_drew (S := fun X => X.cell? ⟨g2, f2, none⟩ = some (.int .i64 (y : Int)) ∧ X.cell? ⟨g2, f2 + 1, none⟩ = some (.bool by') ∧ X.cell? ⟨g1, f1, none⟩ = some (.int .i64 (x : Int)) ∧ X.cell? ⟨g1, f1 + 1, none⟩ = some (.bool bx)) (by kernel_rfl) s3 (fun hHeld => ?_)
        refine wpAnyH_take (i := 0) (v := ?_) rfl (by kernel_rfl) (by kernel_rfl) (by kernel_rfl) (fun _ _ _ h => h) (Or.inl ⟨by rfl, ?_⟩) (by assumption) ?_
        rotate_left
        · intro w hSw
          (try dsimp only at hSw)
          (try (obtain ⟨_, _, _, _, _, _, _⟩ := hSw))
          (try (obtain ⟨_, _⟩ := hSw))
          go_simp
          (try with_reducible rfl)
        (try simp only [Act.put, List.setIfInBounds_toArray, List.set_cons_zero, List.set_cons_succ])
        refine wpAnyH_take (i := 1) (v := ?_) rfl (by kernel_rfl) (by kernel_rfl) (by kernel_rfl) (fun _ _ _ h => h) (Or.inl ⟨by rfl, ?_⟩) (by assumption) ?_
        rotate_left
        · intro w hSw
          (try dsimp only at hSw)
          (try (obtain ⟨_, _, _, _, _, _, _⟩ := hSw))
          (try (obtain ⟨_, _⟩ := hSw))
          go_simp
          (try with_reducible rfl)
        (try simp only [Act.put, List.setIfInBounds_toArray, List.set_cons_zero, List.set_cons_succ])
        refine wpAnyH_take (i := 2) (v := ?_) rfl (by kernel_rfl) (by kernel_rfl) (by kernel_rfl) (fun _ _ _ h => h) (Or.inl ⟨by rfl, ?_⟩) (by assumption) ?_
        rotate_left
        · intro w hSw
          (try dsimp only at hSw)
          (try (obtain ⟨_, _, _, _, _, _, _⟩ := hSw))
          (try (obtain ⟨_, _⟩ := hSw))
          go_simp
          (try with_reducible rfl)
        (try simp only [Act.put, List.setIfInBounds_toArray, List.set_cons_zero, List.set_cons_succ])
        refine wpAnyH_take (i := 3) (v := ?_) rfl (by kernel_rfl) (by kernel_rfl) (by kernel_rfl) (fun _ _ _ h => h) (Or.inl ⟨by rfl, ?_⟩) (by assumption) ?_
        rotate_left
        · intro w hSw
          (try dsimp only at hSw)
          (try (obtain ⟨_, _, _, _, _, _, _⟩ := hSw))
          (try (obtain ⟨_, _⟩ := hSw))
          go_simp
          (try with_reducible rfl)
        (try simp only [Act.put, List.setIfInBounds_toArray, List.set_cons_zero, List.set_cons_succ])
        refine wpAnyH_take (i := 6) (v := ?_) rfl (by kernel_rfl) (by kernel_rfl) (by kernel_rfl) (fun _ _ _ h => h) (Or.inl ⟨by rfl, ?_⟩) (by assumption) ?_
        rotate_left
        · intro w hSw
          (try dsimp only at hSw)
          (try (obtain ⟨_, _, _, _, _, _, _⟩ := hSw))
          (try (obtain ⟨_, _⟩ := hSw))
          go_simp
          (try with_reducible rfl)
        (try simp only [Act.put, List.setIfInBounds_toArray, List.set_cons_zero, List.set_cons_succ])
        refine wpAnyH_take (i := 7) (v := ?_) rfl (by kernel_rfl) (by kernel_rfl) (by kernel_rfl) (fun _ _ _ h => h) (Or.inl ⟨by rfl, ?_⟩) (by assumption) ?_
        rotate_left
        · intro w hSw
          (try dsimp only at hSw)
          (try (obtain ⟨_, _, _, _, _, _, _⟩ := hSw))
          (try (obtain ⟨_, _⟩ := hSw))
          go_simp
          (try with_reducible rfl)
        (try simp only [Act.put, List.setIfInBounds_toArray, List.set_cons_zero, List.set_cons_succ])
        refine wpAnyH_ready (rs := [4]) (by kernel_rfl) (by simp) ?_
        refine AllReadyH.cons rfl (fun K hK => ?_) AllReadyH.nil
        go_simp
        refine hK.out _ _ s4 (fun _ => ?_)
        clear hK K
        (try simp only [Act.put, List.setIfInBounds_toArray, List.set_cons_zero, List.set_cons_succ])
        refine wpAnyH_ready (rs := [5]) (by kernel_rfl) (by simp) ?_
        refine AllReadyH.cons rfl (fun K hK => ?_) AllReadyH.nil
        refine ready_append rfl (.tmp 30) (.tmp 34) 46 rfl _ _ _ rfl rfl r1 ?_
        refine hK.out _ _ s5 (fun _ => ?_)
        clear hK K
        (try simp only [Act.put, List.setIfInBounds_toArray, List.set_cons_zero, List.set_cons_succ])
        refine wpAnyH_take (i := 8) (v := ?_) rfl (by kernel_rfl) (by kernel_rfl) (by kernel_rfl) (fun _ _ _ h => h) (Or.inl ⟨by rfl, ?_⟩) (by assumption) ?_
        rotate_left
        · intro w hSw
          (try dsimp only at hSw)
          (try (obtain ⟨_, _, _, _, _, _, _⟩ := hSw))
          (try (obtain ⟨_, _⟩ := hSw))
          go_simp
          (try with_reducible rfl)
        (try simp only [Act.put, List.setIfInBounds_toArray, List.set_cons_zero, List.set_cons_succ])
        refine wpAnyH_ready (rs := [9]) (by kernel_rfl) (by simp) ?_
        refine AllReadyH.cons rfl (fun K hK => ?_) AllReadyH.nil
        go_simp
        refine hK.out _ _ s5 (fun _ => ?_)
        clear hK K
        refine wpAnyH_done (by kernel_rfl) ?_ _
        go_wp2_with fail
        go_roundw
        case rel =>
          obtain ⟨⟨q1, q2, q3, q4, q5, q6, q7, q8⟩, _⟩ := HREL.out
          exact ⟨i, j + 1, f1, if k2 = 1 then f2 else f2 + 2, ri, rj - 1, k1, k2 - 1, rfl, by by_cases h : k2 = 1 <;> simp [h], ⟨q1, HIJ.out.2, q3, by omega, q5, by omega, q7, fun h => by rw [if_neg (by omega), q8 (by omega)]; omega⟩, HM4.out⟩
        case measure =>
          have := HL2.out
          simp [slLen]
          omega
      · have hyx : ¬ y < x := by simpa using HTB.out
        have HT := HMG.out
        rw [if_neg hyx] at HT
        have HT2 : Hid _ := HT
        clear hyx HMG HT KL HMI HTB
        go_wp2_with fail
        have bw3 : Below w.heap.size wr W2.drew := bw2.drew
        have M3 := M2.later (Below.refl _ W2).drew
        have s3 := HG.out W2.drew bw3
        have hz3 : w.heap.size ≤ W2.drew.heap.size := M3.bel.size
        have s4 := HG.out (W2.drew.alloc (.cells #[.int .i64 (x : Int), .bool bx] 60)) (bw3.alloc hz3 _)
        obtain ⟨v', W', r1, r2, r3, r4, r5⟩ := M3.lay (by rw [HN.out.1, HN.out.2.1]; exact hnm) (x, bx) _ 46 HT2.out
        have s5 := HG.out W' (bw3.trans r5)
        have HM4 : Hid (MI w W' A B g1 o1 g2 o2 (i + 1) j v') := ⟨by rw [HN.out.1]; exact HIJ.out.1, by rw [HN.out.2.1]; exact HREL.out.1.2.1, by rw [show i + 1 + j = i + j + 1 from by omega]; exact r2, by rw [show i + 1 + j = i + j + 1 from by omega]; exact r3, r4⟩
        clear r2 r3 r4 r5 M2 M3 bw2
        refine wp_region_held_drew (S := fun X => X.cell? ⟨g2, f2, none⟩ = some (.int .i64 (y : Int)) ∧ X.cell? ⟨g2, f2 + 1, none⟩ = some (.bool by') ∧ X.cell? ⟨g1, f1, none⟩ = some (.int .i64 (x : Int)) ∧ X.cell? ⟨g1, f1 + 1, none⟩ = some (.bool bx)) (by kernel_rfl) s3 (fun hHeld => ?_)
        refine wpAnyH_take (i := 0) (v := ?_) rfl (by kernel_rfl) (by kernel_rfl) (by kernel_rfl) (fun _ _ _ h => h) (Or.inl ⟨by rfl, ?_⟩) (by assumption) ?_
        rotate_left
        · intro w hSw
          (try dsimp only at hSw)
          (try (obtain ⟨_, _, _, _, _, _, _⟩ := hSw))
          (try (obtain ⟨_, _⟩ := hSw))
          go_simp
          (try with_reducible rfl)
        (try simp only [Act.put, List.setIfInBounds_toArray, List.set_cons_zero, List.set_cons_succ])
        refine wpAnyH_take (i := 1) (v := ?_) rfl (by kernel_rfl) (by kernel_rfl) (by kernel_rfl) (fun _ _ _ h => h) (Or.inl ⟨by rfl, ?_⟩) (by assumption) ?_
        rotate_left
        · intro w hSw
          (try dsimp only at hSw)
          (try (obtain ⟨_, _, _, _, _, _, _⟩ := hSw))
          (try (obtain ⟨_, _⟩ := hSw))
          go_simp
          (try with_reducible rfl)
        (try simp only [Act.put, List.setIfInBounds_toArray, List.set_cons_zero, List.set_cons_succ])
        refine wpAnyH_take (i := 2) (v := ?_) rfl (by kernel_rfl) (by kernel_rfl) (by kernel_rfl) (fun _ _ _ h => h) (Or.inl ⟨by rfl, ?_⟩) (by assumption) ?_
        rotate_left
        · intro w hSw
          (try dsimp only at hSw)
          (try (obtain ⟨_, _, _, _, _, _, _⟩ := hSw))
          (try (obtain ⟨_, _⟩ := hSw))
          go_simp
          (try with_reducible rfl)
        (try simp only [Act.put, List.setIfInBounds_toArray, List.set_cons_zero, List.set_cons_succ])
        refine wpAnyH_take (i := 3) (v := ?_) rfl (by kernel_rfl) (by kernel_rfl) (by kernel_rfl) (fun _ _ _ h => h) (Or.inl ⟨by rfl, ?_⟩) (by assumption) ?_
        rotate_left
        · intro w hSw
          (try dsimp only at hSw)
          (try (obtain ⟨_, _, _, _, _, _, _⟩ := hSw))
          (try (obtain ⟨_, _⟩ := hSw))
          go_simp
          (try with_reducible rfl)
        (try simp only [Act.put, List.setIfInBounds_toArray, List.set_cons_zero, List.set_cons_succ])
        refine wpAnyH_take (i := 6) (v := ?_) rfl (by kernel_rfl) (by kernel_rfl) (by kernel_rfl) (fun _ _ _ h => h) (Or.inl ⟨by rfl, ?_⟩) (by assumption) ?_
        rotate_left
        · intro w hSw
          (try dsimp only at hSw)
          (try (obtain ⟨_, _, _, _, _, _, _⟩ := hSw))
          (try (obtain ⟨_, _⟩ := hSw))
          go_simp
          (try with_reducible rfl)
        (try simp only [Act.put, List.setIfInBounds_toArray, List.set_cons_zero, List.set_cons_succ])
        refine wpAnyH_take (i := 7) (v := ?_) rfl (by kernel_rfl) (by kernel_rfl) (by kernel_rfl) (fun _ _ _ h => h) (Or.inl ⟨by rfl, ?_⟩) (by assumption) ?_
        rotate_left
        · intro w hSw
          (try dsimp only at hSw)
          (try (obtain ⟨_, _, _, _, _, _, _⟩ := hSw))
          (try (obtain ⟨_, _⟩ := hSw))
          go_simp
          (try with_reducible rfl)
        (try simp only [Act.put, List.setIfInBounds_toArray, List.set_cons_zero, List.set_cons_succ])
        refine wpAnyH_ready (rs := [4]) (by kernel_rfl) (by simp) ?_
        refine AllReadyH.cons rfl (fun K hK => ?_) AllReadyH.nil
        go_simp
        refine hK.out _ _ s4 (fun _ => ?_)
        clear hK K
        (try simp only [Act.put, List.setIfInBounds_toArray, List.set_cons_zero, List.set_cons_succ])
        refine wpAnyH_ready (rs := [5]) (by kernel_rfl) (by simp) ?_
        refine AllReadyH.cons rfl (fun K hK => ?_) AllReadyH.nil
        refine ready_append rfl (.tmp 38) (.tmp 42) 46 rfl _ _ _ rfl rfl r1 ?_
        refine hK.out _ _ s5 (fun _ => ?_)
        clear hK K
        (try simp only [Act.put, List.setIfInBounds_toArray, List.set_cons_zero, List.set_cons_succ])
        refine wpAnyH_take (i := 8) (v := ?_) rfl (by kernel_rfl) (by kernel_rfl) (by kernel_rfl) (fun _ _ _ h => h) (Or.inl ⟨by rfl, ?_⟩) (by assumption) ?_
        rotate_left
        · intro w hSw
          (try dsimp only at hSw)
          (try (obtain ⟨_, _, _, _, _, _, _⟩ := hSw))
          (try (obtain ⟨_, _⟩ := hSw))
          go_simp
          (try with_reducible rfl)
        (try simp only [Act.put, List.setIfInBounds_toArray, List.set_cons_zero, List.set_cons_succ])
        refine wpAnyH_ready (rs := [9]) (by kernel_rfl) (by simp) ?_
        refine AllReadyH.cons rfl (fun K hK => ?_) AllReadyH.nil
        go_simp
        refine hK.out _ _ s5 (fun _ => ?_)
        clear hK K
        refine wpAnyH_done (by kernel_rfl) ?_ _
        go_wp2_with fail
        go_roundw
        case rel =>
          obtain ⟨⟨q1, q2, q3, q4, q5, q6, q7, q8⟩, _⟩ := HREL.out
          exact ⟨i + 1, j, if k1 = 1 then f1 else f1 + 2, f2, ri - 1, rj, k1 - 1, k2, by by_cases h : k1 = 1 <;> simp [h], rfl, ⟨HIJ.out.1, q2, by omega, q4, by omega, q6, fun h => by rw [if_neg (by omega), q7 (by omega)]; omega, q8⟩, HM4.out⟩
        case measure =>
          have := HL2.out
          simp [slLen]
          omega
    · have PA : PAt wr g1 f1 (A.drop i) := by
        rcases Nat.eq_zero_or_pos ri with h0 | h0
        · rw [List.drop_eq_nil_of_le (by rw [HN.out.1]; omega)]
          intro k p hk
          simp at hk
        · rw [hf1 (by omega)]
          exact (HA.out.drop i).below hMI.bel (fun _ => gA.out (by omega))
      have PB : PAt wr g2 f2 (B.drop j) := by
        rcases Nat.eq_zero_or_pos rj with h0 | h0
        · rw [List.drop_eq_nil_of_le (by rw [HN.out.2.1]; omega)]
          intro k p hk
          simp at hk
        · rw [hf2 (by omega)]
          exact (HB.out.drop j).below hMI.bel (fun _ => gB.out (by omega))
      have HPA : Hid _ := PA.cells
      have lA : Hid ((cp (A.drop i)).length = ri * 2) := by show _ = _; rw [cp_len, List.length_drop, HN.out.1, hri]
      have lB : Hid ((cp (B.drop j)).length = rj * 2) := by show _ = _; rw [cp_len, List.length_drop, HN.out.2.1, hrj]
      have HPB : Hid (∀ X, Below w.heap.size wr X → ∀ k u, (cp (B.drop j))[k]? = some u → X.cell? ((⟨g2, f2, none⟩ : Addr).add k) = some u) := fun X hX => (PB.below hX (fun h => gB.out (by rw [List.length_drop, HN.out.2.1] at h; omega))).cells
      have HB1 : Hid (i + j + ri ≤ maxLen ∧ (i + j + ri) * 16 ≤ 140737488355328 ∧ i + j + ri + rj ≤ maxLen ∧ (i + j + ri + rj) * 16 ≤ 140737488355328) := ⟨by unfold maxLen; omega, by omega, by unfold maxLen; omega, by omega⟩
      have HZ : Hid (w.heap.size ≤ wr.heap.size) := hMI.bel.size
      have HF : Hid (i + j + ri + rj = (mrg A B).length ∧ cp ((mrg A B).take (i + j)) ++ cp (A.drop i) ++ cp (B.drop j) = cp (mrg A B)) := by
        refine ⟨by rw [HN.out.2.2]; omega, ?_⟩
        rw [← cp_append, ← cp_append, List.append_assoc, mrg_ends (A.drop i) (B.drop j) (by
          rcases Nat.eq_zero_or_pos ri with h0 | h0
          · exact .inl (List.drop_eq_nil_of_le (by rw [HN.out.1]; omega))
          · exact .inr (List.drop_eq_nil_of_le (by rw [HN.out.2.1]; omega))), ← hMI.rest, List.take_append_drop]
      have hcase : ri = 0 ∨ (0 < ri ∧ rj = 0) := by omega
      clear PA PB hMI hri hrj hk1 hk2 hf1 hf2 hin hjm hlt HREL
      rcases hcase with h0 | ⟨h0, h1⟩
      · have h0' : ¬ (0 : Int) < (ri : Int) := by omega
        clear h0
        go_wp2_with (first | (at_builtin; refine wpList_append_own _ rfl (.tmp 46) (.tmp 47) 46 rfl w.heap.size 60 i0 (.agg #[.int .i64 0, .bool false]) 2 16 Try.underlying46 hi hz0 hz1 hz2 rfl (by decide) _ (i + j) (cp ((mrg A B).take (i + j))) rfl HMI.out.row ⟨g1, f1, none⟩ ri k1 (cp (A.drop i)) rfl lA.out HPA.out (cp_one _) HB1.out.1 HB1.out.2.1 HZ.out ?_; intro v2 W2 hown2 hg2 _; have HO2 : Hid (W2.ownsRow w.heap.size 60 2 v2 (i + j + ri) (cp ((mrg A B).take (i + j)) ++ cp (A.drop i))) := hown2; have HG2 : Hid (Below w.heap.size wr W2) := (Below.refl _ wr).grown hg2 HZ.out (fun k hk => (HMI.out.row.lt k hk).1); clear hown2 hg2) | (at_builtin; refine wpList_append_own _ rfl (.tmp 48) (.tmp 49) 46 rfl w.heap.size 60 i0 (.agg #[.int .i64 0, .bool false]) 2 16 Try.underlying46 hi hz0 hz1 hz2 rfl (by decide) _ (i + j + ri) (cp ((mrg A B).take (i + j)) ++ cp (A.drop i)) rfl HO2.out ⟨g2, f2, none⟩ rj k2 (cp (B.drop j)) rfl lB.out (HPB.out W2 HG2.out) (cp_one _) HB1.out.2.2.1 HB1.out.2.2.2 (Nat.le_trans HZ.out HG2.out.size) ?_; intro v3 W3 hown3 hg3 _; have HO3 : Hid (W3.ownsRow w.heap.size 60 2 v3 (i + j + ri + rj) (cp (mrg A B))) := by { show World.ownsRow _ _ _ _ _ _ _; rw [← HF.out.2, List.append_assoc]; rw [List.append_assoc] at hown3; exact hown3 }; have HG3 : Hid (Below w.heap.size wr W3) := HG2.out.trans ((Below.refl _ W2).grown hg3 (Nat.le_trans HZ.out HG2.out.size) (fun k hk => (HO2.out.lt k hk).1)); clear hown3 hg3))
        go_ret
        exact ⟨_, rfl, by rw [← HF.out.1]; exact HO3.out, HMI.out.bel.trans HG3.out⟩
      · have h0' : (0 : Int) < (ri : Int) := by omega
        have h1' : ¬ (0 : Int) < (rj : Int) := by omega
        clear h0 h1
        go_wp2_with (first | (at_builtin; refine wpList_append_own _ rfl (.tmp 46) (.tmp 47) 46 rfl w.heap.size 60 i0 (.agg #[.int .i64 0, .bool false]) 2 16 Try.underlying46 hi hz0 hz1 hz2 rfl (by decide) _ (i + j) (cp ((mrg A B).take (i + j))) rfl HMI.out.row ⟨g1, f1, none⟩ ri k1 (cp (A.drop i)) rfl lA.out HPA.out (cp_one _) HB1.out.1 HB1.out.2.1 HZ.out ?_; intro v2 W2 hown2 hg2 _; have HO2 : Hid (W2.ownsRow w.heap.size 60 2 v2 (i + j + ri) (cp ((mrg A B).take (i + j)) ++ cp (A.drop i))) := hown2; have HG2 : Hid (Below w.heap.size wr W2) := (Below.refl _ wr).grown hg2 HZ.out (fun k hk => (HMI.out.row.lt k hk).1); clear hown2 hg2) | (at_builtin; refine wpList_append_own _ rfl (.tmp 48) (.tmp 49) 46 rfl w.heap.size 60 i0 (.agg #[.int .i64 0, .bool false]) 2 16 Try.underlying46 hi hz0 hz1 hz2 rfl (by decide) _ (i + j + ri) (cp ((mrg A B).take (i + j)) ++ cp (A.drop i)) rfl HO2.out ⟨g2, f2, none⟩ rj k2 (cp (B.drop j)) rfl lB.out (HPB.out W2 HG2.out) (cp_one _) HB1.out.2.2.1 HB1.out.2.2.2 (Nat.le_trans HZ.out HG2.out.size) ?_; intro v3 W3 hown3 hg3 _; have HO3 : Hid (W3.ownsRow w.heap.size 60 2 v3 (i + j + ri + rj) (cp (mrg A B))) := by { show World.ownsRow _ _ _ _ _ _ _; rw [← HF.out.2, List.append_assoc]; rw [List.append_assoc] at hown3; exact hown3 }; have HG3 : Hid (Below w.heap.size wr W3) := HG2.out.trans ((Below.refl _ W2).grown hg3 (Nat.le_trans HZ.out HG2.out.size) (fun k hk => (HO2.out.lt k hk).1)); clear hown3 hg3))
        go_ret
        exact ⟨_, rfl, by rw [← HF.out.1]; exact HO3.out, HMI.out.bel.trans HG3.out⟩
end Go.Proofs.Ytfcjnpbnejaolaa
