/-
  hybrid.Write.
-/
import Derived.Test.YtlajjkpcgokinaaHbE
namespace Go.Proofs.Ytlajjkpcgokinaa
set_option linter.unusedVariables false
set_option linter.unusedSimpArgs false
open Go.ChangeShapes Go.WideShapes Go.ChangeAt Go.RowKit

theorem two_refuse {a : Value} {b c : Int} (h : b = c) : Ending.returned (.tuple #[a, .int .i64 b]) = .returned (.tuple #[a, .int .i64 c]) := by rw [h]
/-- what is refused, and why -/
def wErr (wd : Int) (zs : List Int) : Int := if ¬ (0 ≤ wd ∧ wd ≤ 32) ∨ zs.any (badN wd) = true then 2 else if 65536 < zs.length then 3 else 0
set_option maxRecDepth 100000 in
set_option maxHeartbeats 4000000 in
theorem write_no (ad : Option Addr) (L cap : Nat) (wd : Int) (zs : List Int) (w : World) (hL : L ≤ 1048576) (hs : SrcI w ad L cap zs) (hu : I64 zs) (hno : wErr wd zs ≠ 0) :
    Calls Try.prog 18 #[.int .i64 wd, .slice ad L cap] w fun e w' => e = .returned (.tuple #[.slice none 0 0, .int .i64 (wErr wd zs)]) ∧ Below w.heap.size w w' := by
  have hzl : zs.length = L := by simpa using hs.1
  have B0 := alloc_below w (.cells #[.int .i64 wd] 3)
  have WC := fun W' => isw_any wd W'
  have CC := wr_contains ad L cap w.heap.size wd zs (w.alloc (.cells #[.int .i64 wd] 3)) hL (hs.later B0) hu (by simp)
  by_cases c1 : 0 ≤ wd ∧ wd ≤ 32
  · rw [show decide (0 ≤ wd ∧ wd ≤ 32) = true by simp [c1]] at WC
    cases hb : zs.any (badN wd)
    · have hl : 65536 < L := by
        unfold wErr at hno
        rw [if_neg (by rw [hb]; simp [c1])] at hno
        rw [hzl] at hno
        split at hno
        · assumption
        · exact absurd rfl hno
      have HE : Hid (wErr wd zs = 3) := by show _ = _; unfold wErr; rw [if_neg (by rw [hb]; simp [c1]), hzl, if_pos hl]
      have hl' : (65536 : Int) < (L : Int) := by omega
      rw [hb] at CC
      clear hno hb c1
      go_enter Try.func18, Try.ntmps18
      go_wp2_with (first | (go_at_call 25; refine (WC _).mono ?_; rintro e wx ⟨rfl, hwx⟩; obtain rfl := hwx.symm) | (go_at_call 26; refine CC.mono ?_; rintro e w1 ⟨rfl, q, rfl⟩))
      go_ret2
      exact ⟨by rw [HE.out]; rfl, B0.trans (drewN_bel _ _ _)⟩
    · have HE : Hid (wErr wd zs = 2) := by show _ = _; unfold wErr; rw [if_pos (.inr hb)]
      rw [hb] at CC
      clear hno hb c1
      go_enter Try.func18, Try.ntmps18
      go_wp2_with (first | (go_at_call 25; refine (WC _).mono ?_; rintro e wx ⟨rfl, hwx⟩; obtain rfl := hwx.symm) | (go_at_call 26; refine CC.mono ?_; rintro e w1 ⟨rfl, q, rfl⟩))
      go_ret2
      exact ⟨by rw [HE.out]; rfl, B0.trans (drewN_bel _ _ _)⟩
  · rw [show decide (0 ≤ wd ∧ wd ≤ 32) = false by simp only [decide_eq_false_iff_not]; exact c1] at WC
    have HE : Hid (wErr wd zs = 2) := by show _ = _; unfold wErr; rw [if_pos (.inl c1)]
    clear hno c1 CC
    go_enter Try.func18, Try.ntmps18
    go_wp2_with (first | (go_at_call 25; refine (WC _).mono ?_; rintro e wx ⟨rfl, hwx⟩; obtain rfl := hwx.symm))
    go_ret2
    exact ⟨by rw [HE.out]; rfl, B0⟩

theorem cut_fit : ∀ (n : Nat) (l : List Int), l.length ≤ n → ∀ r ∈ cutR l, 1 ≤ r.2.length ∧ r.2.length ≤ l.length ∧ ∀ x ∈ r.2, x ∈ l
  | 0, l, h => by rw [cutR_nil (by omega)]; simp
  | n + 1, l, h => by
    by_cases h0 : l.length = 0
    · rw [cutR_nil h0]; simp
    · by_cases h8 : 8 ≤ sameN l
      · rw [cutR_same h8]
        have h1 := sameN_le l
        intro r hr
        rcases List.mem_cons.1 hr with rfl | hr
        · exact ⟨by simp [List.length_take]; omega, by simp [List.length_take]; omega, fun x hx => List.mem_of_mem_take hx⟩
        · obtain ⟨g1, g2, g3⟩ := cut_fit n (l.drop (sameN l)) (by rw [List.length_drop]; omega) r hr
          rw [List.length_drop] at g2
          exact ⟨g1, by omega, fun x hx => List.mem_of_mem_drop (g3 x hx)⟩
      · rw [cutR_pack (by omega) h8]
        have h1 : 1 ≤ packN l := packF_ge l.length 8 l (by omega) (by omega)
        have h2 : packN l ≤ l.length := packF_le _ _ _
        intro r hr
        rcases List.mem_cons.1 hr with rfl | hr
        · exact ⟨by simp [List.length_take]; omega, by simp [List.length_take]; omega, fun x hx => List.mem_of_mem_take hx⟩
        · obtain ⟨g1, g2, g3⟩ := cut_fit n (l.drop (packN l)) (by rw [List.length_drop]; omega) r hr
          rw [List.length_drop] at g2
          exact ⟨g1, by omega, fun x hx => List.mem_of_mem_drop (g3 x hx)⟩
/-- a run's bytes are few -/
theorem runB_small (W : Nat) (hW : W ≤ 32) (r : Bool × List Int) (h : r.2.length ≤ 70000) : (runB W r).length ≤ 300010 := by
  obtain ⟨b, l⟩ := r
  have h : l.length ≤ 70000 := h
  cases b
  · rw [runB_rep_len]
    have := vb_len ((2 * l.length : Nat) : Int)
    omega
  · rw [runB_pack_len]
    have := vb_len ((2 * grp l.length + 1 : Nat) : Int)
    have := Nat.mul_le_mul (show grp l.length ≤ 8751 by unfold grp; omega) hW
    omega
theorem runsB_small (W : Nat) (hW : W ≤ 32) : ∀ rs : List (Bool × List Int), (∀ r ∈ rs, r.2.length ≤ 70000) → (runsB W rs).length ≤ 300010 * rs.length
  | [], _ => by simp [runsB]
  | r :: rs, h => by
    have h1 := runB_small W hW r (h r List.mem_cons_self)
    have h2 := runsB_small W hW rs fun x hx => h x (List.mem_cons_of_mem _ hx)
    simp only [runsB, List.length_append, List.length_cons]
    omega
theorem run_at {B : Nat} {Ok : Option Addr → Nat → Nat → List Int → Prop} {w : World} {v : Value} {rs : List (Bool × List Int)} (h : Rs Ok B w v rs) {i : Nat} (hi : i < rs.length) :
    ∃ g cc, v = .slice (some ⟨g, 0, none⟩) rs.length cc ∧ B ≤ g ∧ ∃ a c, w.cell? ⟨g, i * 2, none⟩ = some (.bool rs[i].1) ∧ w.cell? ⟨g, i * 2 + 1, none⟩ = some (.slice a rs[i].2.length c) ∧ Ok a rs[i].2.length c rs[i].2 := by
  obtain ⟨ys, hown, hrc⟩ := h
  obtain ⟨a, c, e1, e2, e3⟩ := hrc.get rs ys i hi
  rcases hown.2 with ⟨_, h0⟩ | ⟨g, cap, cur, h1, h2, h3, h4⟩
  · omega
  · subst h1
    refine ⟨g, cap, rfl, h2, a, c, ?_, ?_, e3⟩
    · have := World.ownsRow.cells hown rfl (2 * i) _ e1
      rw [add0, Nat.mul_comm] at this
      exact this
    · have := World.ownsRow.cells hown rfl (2 * i + 1) _ e2
      rw [add0, Nat.mul_comm] at this
      exact this
theorem rs_below {Ok : Option Addr → Nat → Nat → List Int → Prop} {B : Nat} {w w' : World} {v : Value} {rs : List (Bool × List Int)} (h : Rs Ok B w v rs) (hb : Below w.heap.size w w') : Rs Ok B w' v rs := by
  obtain ⟨ys, h1, h2⟩ := h
  exact ⟨ys, own_below h1 hb, h2⟩

set_option maxRecDepth 100000 in
set_option maxHeartbeats 4000000 in
theorem write_yes (ad : Option Addr) (L cap W : Nat) (zs : List Int) (w : World) (hL : L ≤ 65536) (hc : L ≤ cap) (hW : W ≤ 32) (hs : SrcI w ad L cap zs) (hu : I64 zs) (hf : FitI W zs) :
    Calls Try.prog 18 #[.int .i64 W, .slice ad L cap] w fun e w' => ∃ v, e = .returned (.tuple #[v, .int .i64 0]) ∧ w'.ownsRow w.heap.size 5 1 v (told W zs).length ((told W zs).map (Value.int .u8)) ∧ Below w.heap.size w w' := by
  obtain ⟨i0, hi, hz0, hz1, hz2⟩ := info_parts Try.info5
  have hzl : zs.length = L := by simpa using hs.1
  have B0 := alloc_below w (.cells #[.int .i64 W] 3)
  have hX := heap_new w (.cells #[.int .i64 W] 3 (0, 0))
  have WC := fun W' => isw_any W W'
  rw [show decide (0 ≤ (W : Int) ∧ (W : Int) ≤ 32) = true by simp; omega] at WC
  have CC := wr_contains ad L cap w.heap.size W zs (w.alloc (.cells #[.int .i64 W] 3)) (by omega) (hs.later B0) hu (by simp)
  rw [any_of_fitI hW hf] at CC
  have hL' : (L : Int) ≤ 65536 := by omega
  have HCF : Hid (∀ r ∈ cutR zs, 1 ≤ r.2.length ∧ r.2.length ≤ 70000 ∧ FitI W r.2) := fun r hr => by
    obtain ⟨g1, g2, g3⟩ := cut_fit zs.length zs (Nat.le_refl _) r hr
    exact ⟨g1, by omega, fun x hx => hf x (g3 x hx)⟩
  have CU := fun W' hb => cut_any ad L cap zs W' (by omega) (hs.later hb) hc hu
  have HCL := cutR_len zs.length zs (Nat.le_refl _)
  go_enter Try.func18, Try.ntmps18
  go_wp2_with (first | (go_at_call 25; refine (WC _).mono ?_; rintro e wx ⟨rfl, hwx⟩; obtain rfl := hwx.symm) | (go_at_call 26; refine CC.mono ?_; rintro e w1 ⟨rfl, q, rfl⟩) | (go_at_call 27; refine (CU _ (B0.trans (drewN_bel _ _ _))).mono ?_; rintro e w2 ⟨v2, rfl, hr2, hb2⟩; obtain ⟨a2, c2, rfl⟩ := own_sl hr2.choose_spec.1))
  have hbc : Below w.heap.size w ((w.alloc (.cells #[.int .i64 W] 3)).drewN q) := B0.trans (drewN_bel _ _ _)
  have hXc : ((w.alloc (.cells #[.int .i64 W] 3)).drewN q).heap[w.heap.size]? = some (.cells #[.int .i64 W] 3 (0, 0)) := hX
  generalize (w.alloc (.cells #[.int .i64 W] 3)).drewN q = Wc at *
  have hbw2 : Below w.heap.size w w2 := hbc.trans (hb2.mono hbc.size)
  have hx2 : w2.heap[w.heap.size]? = some (.cells #[.int .i64 W] 3 (0, 0)) := (hb2.block _ (lt_of_heap hXc)).trans hXc
  have HR : Hid (Rs (SrcI Wc) Wc.heap.size w2 (.slice a2 (cutR zs).length c2) (cutR zs)) := hr2
  obtain ⟨rs, hrs⟩ : ∃ rs, rs = cutR zs := ⟨_, rfl⟩
  have HT : Hid (told W zs = runsB W rs) := by show _ = _; rw [hrs]; rfl
  rw [← hrs] at HR HCF HCL hr2
  rw [← hrs]
  have HLT : Hid ((runsB W rs).length ≤ 300010 * rs.length) := runsB_small W hW rs fun r hr => (HCF.out r hr).2.1
  clear hrs hr2 CU CC hXc
  have hrl : (rs.length : Int) ≤ 65536 := by omega
  go_loopw [7, 25] (fun o s wr => ∃ i : Nat, s = .int .i64 (i : Int) ∧ i ≤ rs.length ∧ Hid (wr.ownsRow w2.heap.size 5 1 o (runsB W (rs.take i)).length ((runsB W (rs.take i)).map (Value.int .u8))) ∧ Below w2.heap.size w2 wr) (fun _ s _ => rs.length - (intOf s).toNat)
  case atStart => exact ⟨0, rfl, Nat.zero_le _, World.ownsRow_nil _ _ _ _, Below.refl _ _⟩
  case round =>
    obtain ⟨i, rfl, hin, HO, hb⟩ := hrel
    obtain ⟨ao, co, rfl⟩ := own_sl HO.out
    have hxr := (hb.block _ (lt_of_heap hx2)).trans hx2
    have cw := cell_of_block hxr (j := 0) rfl
    have hwl : w.heap.size < wr.heap.size := lt_of_heap hxr
    by_cases hlt : i < rs.length
    · have hlt' : (i : Int) < (rs.length : Int) := by omega
      obtain ⟨g, cc, e, hg, a, c, k1, k2, k3⟩ := run_at (rs_below HR.out hb) hlt
      cases e
      have hmem := List.getElem_mem hlt
      obtain ⟨f1, f2, f3⟩ := HCF.out _ hmem
      have HTK : Hid (runsB W (rs.take (i + 1)) = runsB W (rs.take i) ++ runB W rs[i]) := by show _ = _; rw [List.take_succ_eq_append_getElem hlt, runsB_snoc]
      have hsm := runB_small W hW rs[i] f2
      have hpre : (runsB W (rs.take i)).length ≤ 300010 * i := by
        have h := runsB_small W hW (rs.take i) fun r hr => (HCF.out r (List.mem_of_mem_take hr)).2.1
        rwa [List.length_take, Nat.min_eq_left hin] at h
      have hbwr : Below Wc.heap.size Wc wr := hb2.trans (hb.mono hb2.size)
      have RC := fun W' (hbb : Below Wc.heap.size Wc W') => rby_any a rs[i].2.length c W rs[i].2 W' f1 f2 hW (Src.later k3 hbb) f3 rs[i].1
      have hbA := hbwr.alloc hbwr.size (.cells #[.bool rs[i].1, .slice a rs[i].2.length c] 62)
      have hsr : w2.heap.size ≤ wr.heap.size := hb.size
      clear f3 k3 hmem
      generalize hq : rs[i] = r at *
      obtain ⟨rb, rl'⟩ := r
      go_wp2_with (first | (go_at_call 28; go_loud (refine (RC _ hbA).mono ?_); rintro e w3 ⟨v3, rfl, hown3, hb3⟩; obtain ⟨a3, c3, rfl⟩ := own_sl hown3) | (at_builtin; go_loud (refine wpList_append_src rfl (.tmp 29) (.tmp 32) 34 rfl w2.heap.size 5 i0 (.int .u8 0) 1 Try.underlying34 hi hz0 hz1 hz2 rfl (.slice ao (runsB W (rs.take i)).length co) _ _ rfl (own_below (HO.out.alloc _) hb3) a3 _ c3 _ rfl (src_own hown3).2 (ints_one _ _) (by unfold maxLen; omega) (by omega) (by have := hb3.size; simp at this; omega) ?_); intro v4 w4 hown4 hb4))
      have hB4 : Below w2.heap.size w2 w4 := ((hb.alloc hsr (.cells #[.bool rb, .slice a rl'.length c] 62)).trans (hb3.mono (by simp; omega))).trans hb4
      have hO4 : w4.ownsRow w2.heap.size 5 1 v4 (runsB W (rs.take (i + 1))).length ((runsB W (rs.take (i + 1))).map (Value.int .u8)) := by
        rw [HTK.out, List.length_append, List.map_append]
        exact hown4
      exact ⟨⟨i + 1, by go_num, by omega, hO4, hB4⟩, by simp [intOf]; omega⟩
    · have hge : (rs.length : Int) ≤ (i : Int) := by omega
      have hO : wr.ownsRow w.heap.size 5 1 (.slice ao (runsB W (rs.take i)).length co) (told W zs).length ((told W zs).map (Value.int .u8)) := by
        have h := HO.out
        rw [List.take_of_length_le (by omega), ← HT.out] at h ⊢
        exact row_baseE h hbw2.size
      have HH : Hid _ := hO
      clear hO
      go_wp2_with fail
      go_ret2
      exact ⟨_, rfl, HH.out, hbw2.trans (hb.mono hbw2.size)⟩
end Go.Proofs.Ytlajjkpcgokinaa
