/-
  The reference's sorted: the numbers above 0, the greatest ahead.
-/
import Derived.Test.YtfcjnpbnejaolaaLeaD
import Derived.Test.YtfcjnpbnejaolaaRefB
namespace Go.Proofs.Ytfcjnpbnejaolaa
set_option linter.unusedVariables false
set_option linter.unusedSimpArgs false
open Go.ChangeShapes Go.WideShapes Go.ChangeAt Go.RowKit Go.Sort Go.Shelf

/-- the numbers above 0, the greatest ahead -/
def Dsc (m acc : List Nat) : Prop := acc.Pairwise (fun x y => y ≤ x) ∧ acc.Perm (m.filter fun x => decide (0 < x))
theorem dsc_skip {m acc : List Nat} {i : Nat} (hi : i < m.length) (h : Dsc (m.take i) acc) (h0 : m.getD i 0 = 0) : Dsc (m.take (i + 1)) acc := by
  rw [Dsc, take_succ_getD m i hi, h0, List.filter_append]
  simpa [Dsc] using h
theorem dsc_put {m acc : List Nat} {i k : Nat} (hi : i < m.length) (h : Dsc (m.take i) acc) (h0 : 0 < m.getD i 0) (hk : k ≤ acc.length) (h1 : ∀ j, j < k → m.getD i 0 ≤ acc.getD j 0) (h2 : k < acc.length → acc.getD k 0 ≤ m.getD i 0) :
    Dsc (m.take (i + 1)) (acc.take k ++ [m.getD i 0] ++ acc.drop k) := by
  generalize hx : m.getD i 0 = x at *
  refine ⟨?_, ?_⟩
  · rw [List.append_assoc, List.pairwise_append]
    have hp := h.1
    refine ⟨List.Pairwise.sublist (List.take_sublist _ _) hp, ?_, ?_⟩
    · rw [List.singleton_append, List.pairwise_cons]
      refine ⟨fun y hy => ?_, List.Pairwise.sublist (List.drop_sublist _ _) hp⟩
      obtain ⟨j, hj, rfl⟩ := List.getElem_of_mem hy
      rw [List.length_drop] at hj
      have hkl : k < acc.length := by omega
      have h3 := h2 hkl
      rw [getD_eq hkl] at h3
      rw [List.getElem_drop]
      rcases Nat.eq_zero_or_pos j with h4 | h4
      · subst h4; exact h3
      · have := List.pairwise_iff_getElem.1 hp k (k + j) hkl (by omega) (by omega)
        omega
    · intro u hu y hy
      obtain ⟨j, hj, rfl⟩ := List.mem_take_iff_getElem.1 hu
      have hjl : j < acc.length := by omega
      have h3 := h1 j (by omega)
      rw [getD_eq hjl] at h3
      rcases List.mem_append.1 hy with h4 | h4
      · rw [List.mem_singleton.1 h4]; exact h3
      · obtain ⟨q, hq, rfl⟩ := List.getElem_of_mem h4
        rw [List.length_drop] at hq
        rw [List.getElem_drop]
        exact List.pairwise_iff_getElem.1 hp j (k + q) hjl (by omega) (by omega)
  · rw [take_succ_getD m i hi, hx, List.filter_append]
    have e : [x].filter (fun x => decide (0 < x)) = [x] := by simp [h0]
    rw [e]
    have h3 : (acc.take k ++ [x] ++ acc.drop k).Perm (acc ++ [x]) := by
      have h4 : (acc.take k ++ [x] ++ acc.drop k).Perm (acc.take k ++ (acc.drop k ++ [x])) := by
        rw [List.append_assoc]
        exact List.Perm.append_left _ List.perm_append_comm
      rw [← List.append_assoc, List.take_append_drop] at h4
      exact h4
    exact h3.trans (List.Perm.append_right _ h.2)
theorem own_later {W X : World} {B e s n : Nat} {v : Value} {xs : List Value} (h : W.ownsRow B e s v n xs) (hb : Below W.heap.size W X) : X.ownsRow B e s v n xs := by
  refine ⟨h.1, ?_⟩
  rcases h.2 with h1 | ⟨g, cap, cur, h1, h2, h3, h4⟩
  · exact .inl h1
  · refine .inr ⟨g, cap, cur, h1, h2, ?_, h4⟩
    have hlt : g < W.heap.size := (Array.getElem?_eq_some_iff.1 h3).1
    rw [hb.block g hlt, h3]
theorem one_own (W : World) (x : Nat) : (W.alloc (.cells #[.int .i64 (x : Int)] 3)).ownsRow W.heap.size 3 1 (.slice (some ⟨W.heap.size, 0, none⟩) 1 1) 1 (cn [x]) :=
  ⟨by simp [cn, ci, nm], .inr ⟨W.heap.size, 1, _, rfl, Nat.le_refl _, heap_new W _, Nat.le_refl _, by unfold maxLen; omega, rfl, by simp [cn, ci, nm]⟩⟩
theorem cut_src {W : World} {B n c k : Nat} {ad : Option Addr} {l : List Nat} (h : W.ownsRow B 3 1 (.slice ad n c) n (cn l)) (hk : k ≤ n) : Src W ad k c (cn (l.take k)) := by
  have h1 := (src_own h).2
  have h2 := src_take h1 hk
  rwa [show (cn l).take k = cn (l.take k) by unfold cn ci nm; rw [← List.map_take, ← List.map_take]] at h2
theorem tail_src {W : World} {B n c k g : Nat} {l : List Nat} (h : W.ownsRow B 3 1 (.slice (some ⟨g, 0, none⟩) n c) n (cn l)) : Src W (some ⟨g, k, none⟩) (n - k) (c - k) (cn (l.drop k)) := by
  have h1 := (src_own h).2
  have h2 := src_cut (n := k) h1
  rw [Nat.zero_add] at h2
  rwa [show (cn l).drop k = cn (l.drop k) by unfold cn ci nm; rw [← List.map_drop, ← List.map_drop]] at h2

theorem own_last {W : World} {B k M x : Nat} {v : Value} {acc : List Nat} (hM : acc.length = M) (hk : k ≤ M) (h : W.ownsRow B 3 1 v (k + 1 + (M - k)) (cn (acc.take k) ++ cn [x] ++ cn (acc.drop k))) : W.ownsRow B 3 1 v (acc.take k ++ [x] ++ acc.drop k).length (cn (acc.take k ++ [x] ++ acc.drop k)) := by
  rw [← cn_append, ← cn_append] at h
  have e : (acc.take k ++ [x] ++ acc.drop k).length = k + 1 + (M - k) := by simp; omega
  rw [e]
  exact h
theorem own_last2 {W : World} {B k x : Nat} {v : Value} {acc : List Nat} {n : Nat} (h : W.ownsRow B 3 1 v n (cn (acc.take k) ++ cn [x] ++ cn [])) : W.ownsRow B 3 1 v (acc.take k ++ [x]).length (cn (acc.take k ++ [x])) := by
  rw [← cn_append, ← cn_append, List.append_nil] at h
  have e : n = (acc.take k ++ [x]).length := by have := h.1; rw [cn_len] at this; omega
  rw [← e]
  exact h
theorem src_none (W : World) : Src W none 0 0 (cn []) := ⟨rfl, .inl ⟨rfl, rfl, rfl⟩⟩
theorem src_nil {W : World} {p : Addr} {n c : Nat} (h : n = 0) : Src W (some p) n c (cn []) := ⟨by rw [h]; rfl, .inr ⟨p, rfl, fun j u hj => by simp [cn, ci, nm] at hj⟩⟩
theorem src_nil_if {W : World} {P : Prop} [Decidable P] {a b : Addr} {c : Nat} : Src W (if P then some a else some b) 0 c (cn []) := by split <;> exact src_nil rfl
theorem own_plain {W : World} {B e n m c : Nat} {p : Addr} {xs : List Value} (h : W.ownsRow B e 1 (.slice (some p) n c) m xs) : ∃ g o, p = ⟨g, o, none⟩ := by
  rcases h.2 with ⟨h1, _⟩ | ⟨g, cap, cur, h1, _⟩
  · cases h1
  · cases h1; exact ⟨g, 0, rfl⟩
theorem drop_src {W : World} {g o n c k : Nat} {l : List Nat} (h : Src W (some ⟨g, o, none⟩) n c (cn l)) : Src W (some ⟨g, o + k, none⟩) (n - k) (c - k) (cn (l.drop k)) := by
  have h2 := src_cut (n := k) h
  rwa [show (cn l).drop k = cn (l.drop k) by unfold cn ci nm; rw [← List.map_drop, ← List.map_drop]] at h2
theorem drewN_below (B : Nat) (w : World) (k : Nat) : Below B w (w.drewN k) := ⟨rfl, rfl, rfl, Nat.le_refl _, fun _ _ => rfl⟩

set_option maxRecDepth 20000 in
set_option maxHeartbeats 8000000 in
theorem sorted_any (w : World) (a : Option Addr) (len cap : Nat) (m : List Nat) (hs : Src w a len cap (cn m)) (hlen : len ≤ 1000) (hm : ∀ x ∈ m, x ≤ 2147483647) :
    Calls Try.prog 24 #[.slice a len cap] w fun e w' => ∃ v acc, e = .returned v ∧ w'.ownsRow w.heap.size 3 1 v acc.length (cn acc) ∧ Dsc m acc ∧ Below w.heap.size w w' := by
  obtain ⟨i0, hi, hz0, hz1, hz2⟩ := info_parts infoI
  have hl : m.length = len := by have := hs.1; rwa [cn_len] at this
  have HL : Hid (m.length = len) := hl
  have hlen' : (len : Int) ≤ 1000 := by omega
  have HS : Hid (Src w a len cap (cn m)) := hs
  have HM : Hid (∀ j, m.getD j 0 ≤ 2147483647) := fun j => by
    rcases Nat.lt_or_ge j m.length with h | h
    · rw [getD_eq h]; exact hm _ (List.getElem_mem h)
    · simp [List.getD, List.getElem?_eq_none h]
  refine calls_of fun Q HQ => ?_
  have QOK : ∀ v acc w', Hid (w'.ownsRow w.heap.size 3 1 v acc.length (cn acc)) → Hid (Dsc m acc) → Below w.heap.size w w' → Q (.returned v) w' := fun v acc w' h1 h2 h3 => HQ _ _ ⟨v, acc, rfl, h1.out, h2.out, h3⟩
  clear hs hl hm HQ
  go_enter Try.func24, Try.ntmps24
  go_wp2_with fail
  go_loopw [3, 4] (fun ov iv wr => ∃ (i : Nat) (acc : List Nat), i ≤ len ∧ iv = .int .i64 (i : Int) ∧ Hid (wr.ownsRow w.heap.size 3 1 ov acc.length (cn acc)) ∧ Hid (Dsc (m.take i) acc ∧ acc.length ≤ i) ∧ Below w.heap.size w wr) (fun _ iv _ => len - (intOf iv).toNat)
  case atStart => exact ⟨0, [], Nat.zero_le _, rfl, World.ownsRow_nil _ _ _ _, ⟨⟨List.Pairwise.nil, by simp⟩, by simp⟩, Below.refl _ _⟩
  case round =>
    obtain ⟨i, acc, hil, rfl, HO, HD, hb⟩ := hrel
    obtain ⟨ad, cc, rfl⟩ := own_sl HO.out
    by_cases hlt : i < len
    · have hlt' : (i : Int) < (len : Int) := by omega
      obtain ⟨g, off, rfl, q0⟩ := src_atn HS.out hlt
      have d0 := (hb.cell (p := ⟨g, off + i, none⟩) (World.block_lt_of_cell? _ _ q0)).trans q0
      have hx := HM.out i
      by_cases h0 : m.getD i 0 = 0
      · have HD2 : Hid (Dsc (m.take (i + 1)) acc ∧ acc.length ≤ i + 1) := ⟨dsc_skip (by rw [HL.out]; exact hlt) HD.out.1 h0, by have := HD.out.2; omega⟩
        rw [h0] at d0
        clear q0 hx h0
        go_wp2_with fail
        go_roundw
        case rel => exact ⟨i + 1, acc, by omega, by go_num, HO, HD2, hb⟩
        case measure => simp [intOf]; omega
      · have HPUT : Hid (∀ k, k ≤ acc.length → (∀ j, j < k → m.getD i 0 ≤ acc.getD j 0) → (k < acc.length → acc.getD k 0 ≤ m.getD i 0) → Dsc (m.take (i + 1)) (acc.take k ++ [m.getD i 0] ++ acc.drop k)) := fun k hk h1 h2 => dsc_put (by rw [HL.out]; exact hlt) HD.out.1 (by omega) hk h1 h2
        have hacc := HD.out.2
        generalize m.getD i 0 = x at *
        have hx0 : (0 : Int) < (x : Int) := by omega
        have hx1 : (x : Int) ≤ 2147483647 := by omega
        have HMl : Hid (acc.length ≤ 1000) := by show _ ≤ _; omega
        obtain ⟨M, hM⟩ : ∃ M, acc.length = M := ⟨_, rfl⟩
        rw [hM] at HO hacc HMl HPUT ⊢
        have HML : Hid (acc.length = M) := hM
        clear q0 h0 hM HD
        go_wp2_with fail
        go_loopw [5] (fun av W => ∃ (k q : Nat), k ≤ M ∧ av = .int .i64 (k : Int) ∧ W = wr.drewN q ∧ Hid (∀ j, j < k → x ≤ acc.getD j 0)) (fun av _ => M - (intOf av).toNat)
        case atStart => exact ⟨0, 0, Nat.zero_le _, rfl, rfl, fun j hj => by omega⟩
        case round =>
          obtain ⟨k, q, hk, rfl, rfl, HK⟩ := hrel
          by_cases hkl : k < M
          · have hkl' : (k : Int) < (M : Int) := by omega
            obtain ⟨g2, o2, rfl, q1⟩ := src_atn (src_own HO.out).2 hkl
            have e1 : (wr.drewN q).cell? ⟨g2, o2 + k, none⟩ = some (.int .i64 ((acc.getD k 0 : Nat) : Int)) := q1
            have e2 : (wr.drewN q).cell? ⟨g, off + i, none⟩ = some (.int .i64 (x : Int)) := d0
            by_cases hge : x ≤ acc.getD k 0
            · have HK2 : Hid (∀ j, j < k + 1 → x ≤ acc.getD j 0) := fun j hj => by
                rcases Nat.lt_or_ge j k with h | h
                · exact HK.out j h
                · rw [show j = k by omega]; exact hge
              have hge' : decide ((x : Int) ≤ ((acc.getD k 0 : Nat) : Int)) = true := decide_eq_true (by omega)
              generalize acc.getD k 0 = y at *
              go_wp2_with fail
              go_big_quiet (fail)
              go_wp2_with fail
              go_roundw
              case rel => exact ⟨k + 1, _, by omega, by go_num, rfl, HK2⟩
              case measure => simp [intOf]; omega
            · have HP := HPUT.out k hk HK.out (fun _ => by omega)
              have HPX : Hid (Dsc (m.take (i + 1)) (acc.take k ++ [x] ++ acc.drop k)) := HP
              have hlt2 : decide ((x : Int) ≤ ((acc.getD k 0 : Nat) : Int)) = false := decide_eq_false (by omega)
              clear HP HPUT HK
              generalize acc.getD k 0 = y at *
              go_wp2_with fail
              go_big_quiet (fail)
              have hcap : M ≤ cc := by
                rcases HO.out.2 with ⟨e, e2⟩ | ⟨g9, cap9, cur9, e, _, _, e2, _⟩
                · first | (cases e; done) | (cases e; omega)
                · first | (cases e; done) | (cases e; exact e2)
              have hcap' : (M : Int) ≤ (cc : Int) := by omega
              have HWW : Hid (w.heap.size ≤ wr.heap.size) := hb.size
              have hMx : (M : Int) ≤ 1000 := by have := HMl.out; omega
              have HB0 : Hid (wr.heap.size ≤ (wr.drewN (q + nq)).heap.size) := Nat.le_refl _
              have HZ1 : Hid (0 + k ≤ maxLen ∧ (0 + k) * 8 ≤ 140737488355328) := ⟨by unfold maxLen; have := HMl.out; omega, by have := HMl.out; omega⟩
              have HZ2 : Hid (k + 1 ≤ maxLen ∧ (k + 1) * 8 ≤ 140737488355328) := ⟨by unfold maxLen; have := HMl.out; omega, by have := HMl.out; omega⟩
              have HZ3 : Hid (k + 1 + (M - k) ≤ maxLen ∧ (k + 1 + (M - k)) * 8 ≤ 140737488355328) := ⟨by unfold maxLen; have := HMl.out; omega, by have := HMl.out; omega⟩
              have HS1 : Hid (Src (wr.drewN (q + nq)) (some ⟨g2, o2, none⟩) k cc (cn (acc.take k))) := cut_src HO.out hk
              go_wp2_with (first | (at_builtin; (refine wpList_append_src rfl _ (.tmp 37) 22 rfl wr.heap.size 3 i0 (.int .i64 0) 8 Try.underlying22 hi hz0 hz1 hz2 rfl _ 0 [] rfl (World.ownsRow_nil _ _ _ _) _ _ _ _ rfl HS1.out (cn_one _) HZ1.out.1 HZ1.out.2 HB0.out ?_; intro v1 W1 hown1 hb1; rw [Nat.zero_add, List.nil_append] at hown1; have HO1 : Hid (W1.ownsRow wr.heap.size 3 1 v1 k (cn (acc.take k))) := hown1; have HB1 : Hid (Below wr.heap.size wr W1) := (drewN_below wr.heap.size wr _).trans hb1; have d1 : W1.cell? ⟨g, off + i, none⟩ = some (.int .i64 (x : Int)) := (HB1.out.cell (p := ⟨g, off + i, none⟩) (World.block_lt_of_cell? _ _ d0)).trans d0; have hg1 : g < W1.heap.size := World.block_lt_of_cell? _ _ d1; have HZW1 : Hid (wr.heap.size ≤ W1.heap.size) := HB1.out.size; clear hown1 hb1)) | (at_builtin; refine wpList_append_own _ rfl (.tmp 39) (.tmp 44) 22 rfl wr.heap.size 3 i0 (.int .i64 0) 1 8 Try.underlying22 hi hz0 hz1 hz2 rfl (by decide) _ k (cn (acc.take k)) rfl (HO1.out.alloc _) ⟨W1.heap.size, 0, none⟩ 1 1 [.int .i64 (x : Int)] rfl rfl (new_news W1 [.int .i64 (x : Int)] 3 (0, 0)) (cn_one [x]) HZ2.out.1 HZ2.out.2 (Nat.le_trans HZW1.out (by simp)) ?_; intro v2 W2 hown2 hg2 _; have HB2 : Hid (Below wr.heap.size wr W2) := (HB1.out.alloc HZW1.out _).grown hg2 (Nat.le_trans HZW1.out (by simp)) (fun k hk => (HO1.out.lt k hk).1); have HO2 : Hid (W2.ownsRow wr.heap.size 3 1 v2 (k + 1) (cn (acc.take k) ++ cn [x])) := hown2; have HZW2 : Hid (wr.heap.size ≤ W2.heap.size) := HB2.out.size; have HS3 : Hid (Src W2 (some ⟨g2, o2 + k, none⟩) (M - k) (cc - k) (cn (acc.drop k))) := drop_src ((src_own HO.out).2.later HB2.out); clear hown2 hg2) | (at_builtin; (refine wpList_append_src rfl (.tmp 46) (.tmp 49) 22 rfl wr.heap.size 3 i0 (.int .i64 0) 8 Try.underlying22 hi hz0 hz1 hz2 rfl _ _ _ rfl HO2.out _ _ _ _ rfl HS3.out (cn_one _) HZ3.out.1 HZ3.out.2 HZW2.out ?_; intro v3 W3 hown3 hb3; have HO3 : Hid (W3.ownsRow w.heap.size 3 1 v3 (acc.take k ++ [x] ++ acc.drop k).length (cn (acc.take k ++ [x] ++ acc.drop k))) := own_last HML.out hk (row_base hown3 HWW.out); have HB3 : Hid (Below w.heap.size w W3) := hb.trans ((HB2.out.trans hb3).mono hb.size); clear hown3 hb3)))
              all_goals (go_wp2_with fail
                         go_roundw
                         case rel => exact ⟨i + 1, _, by omega, by go_num, HO3, ⟨HPX.out, by have := HML.out; simp <;> omega⟩, HB3.out⟩
                         case measure => simp [intOf]; omega)
          · have HKM : Hid (k = M) := by show _ = _; omega
            have HP := HPUT.out k hk HK.out (fun h => by omega)
            rw [show acc.drop k = [] by rw [HKM.out, ← HML.out]; exact List.drop_length, List.append_nil] at HP
            have HPX : Hid (Dsc (m.take (i + 1)) (acc.take k ++ [x])) := HP
            have hge2 : decide ((k : Int) < (M : Int)) = false := decide_eq_false (by omega)
            have hge3 : decide (k < M) = false := decide_eq_false (by omega)
            have hMk : M ≤ k := by omega
            clear HP HPUT HK hkl
            cases ad with
            | none =>
              have h9 : M = 0 ∧ cc = 0 := by
                rcases HO.out.2 with ⟨e, e2⟩ | ⟨_, _, _, e, _⟩
                · cases e; exact ⟨rfl, rfl⟩
                · cases e
              obtain ⟨h91, h92⟩ := h9
              have h93 : k = 0 := by omega
              subst h91 h92 h93
              clear hge2 hge3 hMk
              go_wp2_with fail
              go_big_quiet (fail)
              have HWW : Hid (w.heap.size ≤ wr.heap.size) := hb.size
              have HB0 : Hid (wr.heap.size ≤ (wr.drewN (q + nq)).heap.size) := Nat.le_refl _
              have HZ1 : Hid (0 + 0 ≤ maxLen ∧ (0 + 0) * 8 ≤ 140737488355328) := ⟨by unfold maxLen; have := HMl.out; omega, by have := HMl.out; omega⟩
              have HZ2 : Hid (0 + 1 ≤ maxLen ∧ (0 + 1) * 8 ≤ 140737488355328) := ⟨by unfold maxLen; have := HMl.out; omega, by have := HMl.out; omega⟩
              have HZ3 : Hid (0 + 1 + (0 - 0) ≤ maxLen ∧ (0 + 1 + (0 - 0)) * 8 ≤ 140737488355328) := ⟨by unfold maxLen; have := HMl.out; omega, by have := HMl.out; omega⟩
              have HS1 : Hid (Src (wr.drewN (q + nq)) none 0 0 (cn (acc.take 0))) := cut_src HO.out hk
              go_wp2_with (first | (at_builtin; (refine wpList_append_src rfl _ (.tmp 37) 22 rfl wr.heap.size 3 i0 (.int .i64 0) 8 Try.underlying22 hi hz0 hz1 hz2 rfl _ 0 [] rfl (World.ownsRow_nil _ _ _ _) _ _ _ _ rfl HS1.out (cn_one _) HZ1.out.1 HZ1.out.2 HB0.out ?_; intro v1 W1 hown1 hb1; rw [Nat.zero_add, List.nil_append] at hown1; have HO1 : Hid (W1.ownsRow wr.heap.size 3 1 v1 0 (cn (acc.take 0))) := hown1; have HB1 : Hid (Below wr.heap.size wr W1) := (drewN_below wr.heap.size wr _).trans hb1; have d1 : W1.cell? ⟨g, off + i, none⟩ = some (.int .i64 (x : Int)) := (HB1.out.cell (p := ⟨g, off + i, none⟩) (World.block_lt_of_cell? _ _ d0)).trans d0; have hg1 : g < W1.heap.size := World.block_lt_of_cell? _ _ d1; have HZW1 : Hid (wr.heap.size ≤ W1.heap.size) := HB1.out.size; clear hown1 hb1)) | (at_builtin; refine wpList_append_own _ rfl (.tmp 39) (.tmp 44) 22 rfl wr.heap.size 3 i0 (.int .i64 0) 1 8 Try.underlying22 hi hz0 hz1 hz2 rfl (by decide) _ 0 (cn (acc.take 0)) rfl (HO1.out.alloc _) ⟨W1.heap.size, 0, none⟩ 1 1 [.int .i64 (x : Int)] rfl rfl (new_news W1 [.int .i64 (x : Int)] 3 (0, 0)) (cn_one [x]) HZ2.out.1 HZ2.out.2 (Nat.le_trans HZW1.out (by simp)) ?_; intro v2 W2 hown2 hg2 _; have HB2 : Hid (Below wr.heap.size wr W2) := (HB1.out.alloc HZW1.out _).grown hg2 (Nat.le_trans HZW1.out (by simp)) (fun k hk => (HO1.out.lt k hk).1); have HO2 : Hid (W2.ownsRow wr.heap.size 3 1 v2 (0 + 1) (cn (acc.take 0) ++ cn [x])) := hown2; have HZW2 : Hid (wr.heap.size ≤ W2.heap.size) := HB2.out.size;  clear hown2 hg2) | (at_builtin; (refine wpList_append_src rfl (.tmp 46) (.tmp 49) 22 rfl wr.heap.size 3 i0 (.int .i64 0) 8 Try.underlying22 hi hz0 hz1 hz2 rfl _ _ _ rfl HO2.out _ _ _ _ rfl (src_none _) (cn_one _) HZ3.out.1 HZ3.out.2 HZW2.out ?_; intro v3 W3 hown3 hb3; have HO3 : Hid (W3.ownsRow w.heap.size 3 1 v3 (acc.take 0 ++ [x]).length (cn (acc.take 0 ++ [x]))) := own_last2 (row_base hown3 HWW.out); have HB3 : Hid (Below w.heap.size w W3) := hb.trans ((HB2.out.trans hb3).mono hb.size); clear hown3 hb3)))
              all_goals (go_wp2_with fail
                         go_roundw
                         case rel => exact ⟨i + 1, _, by omega, by go_num, HO3, ⟨HPX.out, by have := HML.out; simp <;> omega⟩, HB3.out⟩
                         case measure => simp [intOf]; omega)
            | some p9 =>
              obtain ⟨g2, o2, h9⟩ : ∃ g2 o2, p9 = ⟨g2, o2, none⟩ := own_plain HO.out
              subst h9
              go_wp2_with fail
              go_big_quiet (fail)
              have hcap : M ≤ cc := by
                rcases HO.out.2 with ⟨e, e2⟩ | ⟨g9, cap9, cur9, e, _, _, e2, _⟩
                · first | (cases e; done) | (cases e; omega)
                · first | (cases e; done) | (cases e; exact e2)
              have hcap' : (M : Int) ≤ (cc : Int) := by omega
              have HWW : Hid (w.heap.size ≤ wr.heap.size) := hb.size
              have hMx : (M : Int) ≤ 1000 := by have := HMl.out; omega
              have HB0 : Hid (wr.heap.size ≤ (wr.drewN (q + nq)).heap.size) := Nat.le_refl _
              have HZ1 : Hid (0 + k ≤ maxLen ∧ (0 + k) * 8 ≤ 140737488355328) := ⟨by unfold maxLen; have := HMl.out; omega, by have := HMl.out; omega⟩
              have HZ2 : Hid (k + 1 ≤ maxLen ∧ (k + 1) * 8 ≤ 140737488355328) := ⟨by unfold maxLen; have := HMl.out; omega, by have := HMl.out; omega⟩
              have HZ3 : Hid (k + 1 + 0 ≤ maxLen ∧ (k + 1 + 0) * 8 ≤ 140737488355328) := ⟨by unfold maxLen; have := HMl.out; omega, by have := HMl.out; omega⟩
              have HS1 : Hid (Src (wr.drewN (q + nq)) (some ⟨g2, o2, none⟩) k cc (cn (acc.take k))) := cut_src HO.out hk
              go_wp2_with (first | (at_builtin; (refine wpList_append_src rfl _ (.tmp 37) 22 rfl wr.heap.size 3 i0 (.int .i64 0) 8 Try.underlying22 hi hz0 hz1 hz2 rfl _ 0 [] rfl (World.ownsRow_nil _ _ _ _) _ _ _ _ rfl HS1.out (cn_one _) HZ1.out.1 HZ1.out.2 HB0.out ?_; intro v1 W1 hown1 hb1; rw [Nat.zero_add, List.nil_append] at hown1; have HO1 : Hid (W1.ownsRow wr.heap.size 3 1 v1 k (cn (acc.take k))) := hown1; have HB1 : Hid (Below wr.heap.size wr W1) := (drewN_below wr.heap.size wr _).trans hb1; have d1 : W1.cell? ⟨g, off + i, none⟩ = some (.int .i64 (x : Int)) := (HB1.out.cell (p := ⟨g, off + i, none⟩) (World.block_lt_of_cell? _ _ d0)).trans d0; have hg1 : g < W1.heap.size := World.block_lt_of_cell? _ _ d1; have HZW1 : Hid (wr.heap.size ≤ W1.heap.size) := HB1.out.size; clear hown1 hb1)) | (at_builtin; refine wpList_append_own _ rfl (.tmp 39) (.tmp 44) 22 rfl wr.heap.size 3 i0 (.int .i64 0) 1 8 Try.underlying22 hi hz0 hz1 hz2 rfl (by decide) _ k (cn (acc.take k)) rfl (HO1.out.alloc _) ⟨W1.heap.size, 0, none⟩ 1 1 [.int .i64 (x : Int)] rfl rfl (new_news W1 [.int .i64 (x : Int)] 3 (0, 0)) (cn_one [x]) HZ2.out.1 HZ2.out.2 (Nat.le_trans HZW1.out (by simp)) ?_; intro v2 W2 hown2 hg2 _; have HB2 : Hid (Below wr.heap.size wr W2) := (HB1.out.alloc HZW1.out _).grown hg2 (Nat.le_trans HZW1.out (by simp)) (fun k hk => (HO1.out.lt k hk).1); have HO2 : Hid (W2.ownsRow wr.heap.size 3 1 v2 (k + 1) (cn (acc.take k) ++ cn [x])) := hown2; have HZW2 : Hid (wr.heap.size ≤ W2.heap.size) := HB2.out.size;  clear hown2 hg2) | (at_builtin; (refine wpList_append_src rfl (.tmp 46) (.tmp 49) 22 rfl wr.heap.size 3 i0 (.int .i64 0) 8 Try.underlying22 hi hz0 hz1 hz2 rfl _ _ _ rfl HO2.out _ _ _ _ rfl src_nil_if (cn_one _) HZ3.out.1 HZ3.out.2 HZW2.out ?_; intro v3 W3 hown3 hb3; have HO3 : Hid (W3.ownsRow w.heap.size 3 1 v3 (acc.take k ++ [x]).length (cn (acc.take k ++ [x]))) := own_last2 (row_base hown3 HWW.out); have HB3 : Hid (Below w.heap.size w W3) := hb.trans ((HB2.out.trans hb3).mono hb.size); clear hown3 hb3)))
              all_goals (go_wp2_with fail
                         go_roundw
                         case rel => exact ⟨i + 1, _, by omega, by go_num, HO3, ⟨HPX.out, by have := HML.out; simp <;> omega⟩, HB3.out⟩
                         case measure => simp [intOf]; omega)
    · have hge : (len : Int) ≤ (i : Int) := by omega
      have HE : Hid (Dsc m acc) := by
        have h := HD.out.1
        rw [List.take_of_length_le (by rw [HL.out]; omega)] at h
        exact h
      go_wp2_with fail
      exact QOK _ acc _ HO HE hb
end Go.Proofs.Ytfcjnpbnejaolaa
