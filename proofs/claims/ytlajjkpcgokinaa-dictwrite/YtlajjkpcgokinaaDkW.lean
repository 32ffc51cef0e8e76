/-
  dict: Write, and the reference's.
-/
import Derived.Test.YtlajjkpcgokinaaDkA
namespace Go.Proofs.Ytlajjkpcgokinaa
set_option linter.unusedVariables false
set_option linter.unusedSimpArgs false
open Go.ChangeShapes Go.WideShapes Go.ChangeAt Go.RowKit Go.Sort

/-- what is wrong with numbers of a dictionary -/
def dErr (s : Int) (zs : List Int) : Int := if s < 0 ∨ allIn s zs = false then 2 else if 65536 < s then 3 else 0
theorem dErr_ok {s : Int} {zs : List Int} (h : dErr s zs = 0) : ∃ n : Nat, s = n ∧ n ≤ 65536 ∧ allIn (n : Int) zs = true := by
  unfold dErr at h
  split at h
  · cases h
  · rename_i h1
    split at h
    · cases h
    · obtain ⟨n, rfl⟩ := Int.eq_ofNat_of_zero_le (show 0 ≤ s by omega)
      refine ⟨n, rfl, by omega, ?_⟩
      by_cases ha : allIn (n : Int) zs = true
      · exact ha
      · exact absurd (.inr (by simpa using ha)) h1

set_option maxRecDepth 100000 in
set_option maxHeartbeats 4000000 in
theorem dwrite_no (ad : Option Addr) (L cap : Nat) (s : Int) (zs : List Int) (w : World) (hL : L ≤ 65536) (hs : SrcI w ad L cap zs) (hno : dErr s zs ≠ 0) :
    Calls Try.prog 10 #[.int .i64 s, .slice ad L cap] w fun e w' => e = .returned (.tuple #[.slice none 0 0, .int .i64 (dErr s zs)]) ∧ Below w.heap.size w w' := by
  have HC := fun W => hasAll_any ad L cap s zs W (by omega)
  by_cases h0 : s < 0
  · have HE : Hid (dErr s zs = 2) := by show _ = _; unfold dErr; rw [if_pos (.inl h0)]
    clear hno
    go_enter Try.func10, Try.ntmps10
    go_wp2_with fail
    go_ret2
    exact ⟨by rw [HE.out]; rfl, Below.refl _ _⟩
  · have HA := HC w hs
    by_cases ha : allIn s zs = true
    · have hbig : 65536 < s := by
        rcases Int.lt_or_le 65536 s with h | h
        · exact h
        · exact absurd (by unfold dErr; rw [if_neg (by simp [h0, ha]), if_neg (by omega)]) hno
      have HE : Hid (dErr s zs = 3) := by show _ = _; unfold dErr; rw [if_neg (by simp [h0, ha]), if_pos hbig]
      rw [ha] at HA
      clear hno ha
      go_enter Try.func10, Try.ntmps10
      go_wp2_with fail
      refine HA.mono ?_
      rintro e w1 ⟨rfl, hb1⟩
      go_wp2_with fail
      go_ret2
      exact ⟨by rw [HE.out]; rfl, hb1⟩
    · have ha' : allIn s zs = false := by simpa using ha
      have HE : Hid (dErr s zs = 2) := by show _ = _; unfold dErr; rw [if_pos (.inr ha')]
      rw [ha'] at HA
      clear hno ha ha'
      go_enter Try.func10, Try.ntmps10
      go_wp2_with fail
      refine HA.mono ?_
      rintro e w1 ⟨rfl, hb1⟩
      go_wp2_with fail
      go_ret2
      exact ⟨by rw [HE.out]; rfl, hb1⟩

theorem byte_wrap {W : Nat} (h : W ≤ 16) : IntKind.u8.wrap (W : Int) = (W : Int) := by rw [IntKind.wrap_u8]; omega
/-- the bytes of numbers of a dictionary -/
def dOut (s : Nat) (zs : List Int) : List Int := (dW s : Int) :: told (dW s) zs
set_option maxRecDepth 100000 in
set_option maxHeartbeats 4000000 in
theorem dwrite_yes (ad : Option Addr) (L cap s : Nat) (zs : List Int) (w : World) (hL : L ≤ 400) (hc : L ≤ cap) (hs : SrcI w ad L cap zs) (hu : I64 zs) (hn : s ≤ 65536) (ha : allIn (s : Int) zs = true) :
    Calls Try.prog 10 #[.int .i64 (s : Int), .slice ad L cap] w fun e w' => ∃ v, e = .returned (.tuple #[v, .int .i64 0]) ∧ w'.ownsRow w.heap.size 5 1 v (dOut s zs).length ((dOut s zs).map (Value.int .u8)) ∧ Below w.heap.size w w' := by
  obtain ⟨i0, hi, hz0, hz1, hz2⟩ := info_parts Try.info5
  have hzl : zs.length = L := by simpa using hs.1
  have HA := hasAll_any ad L cap (s : Int) zs w (by omega) hs
  rw [ha] at HA
  have WC := fun W => widthOf_any s W hn
  have hfit := dW_fit hn ha
  have hWl := dW_le hn
  have HW := fun W (h : Below w.heap.size w W) => write_yes ad L cap (dW s) zs W (by omega) hc (by omega) (Src.later hs h) hu hfit
  have htl := told_len (show dW s ≤ 32 by omega) (l := zs) (by omega)
  have hbw := byte_wrap hWl
  have hn' : (s : Int) ≤ 65536 := by omega
  have HO : Hid (dOut s zs = (dW s : Int) :: told (dW s) zs) := rfl
  generalize dOut s zs = O at *
  generalize hT : told (dW s) zs = T at *
  generalize dW s = W at *
  clear ha hfit hT
  go_enter Try.func10, Try.ntmps10
  go_wp2_with fail
  refine HA.mono ?_
  rintro e w1 ⟨rfl, hb1⟩
  go_wp2_with fail
  refine (WC _).mono ?_
  rintro e w2 ⟨rfl, hw2⟩
  obtain rfl := hw2.symm
  go_wp2_with fail
  refine (HW _ hb1).mono ?_
  rintro e w3 ⟨v3, rfl, hown3, hb3⟩
  have hb13 := hb1.trans (hb3.mono hb1.size)
  obtain ⟨a3, c3, rfl⟩ := own_sl hown3
  have hlit := World.ownsRow_lit (e := 5) (size := 1) w3 #[.int .u8 (W : Int)] 1 hb13.size (by decide) rfl
  go_wp2_with (at_builtin; go_loud (refine wpList_append_src rfl (.tmp 32) (.tmp 33) 34 rfl w.heap.size 5 i0 (.int .u8 0) 1 Try.underlying34 hi hz0 hz1 hz2 rfl _ _ _ rfl hlit a3 _ c3 _ rfl ((src_own hown3).2.later (alloc_below _ _)) (ints_one _ _) (by unfold maxLen; omega) (by omega) (by simp; have := hb13.size; omega) ?_); intro v4 w4 hown4 hb4)
  go_ret2
  refine ⟨_, rfl, ?_, (hb13.alloc hb13.size _).trans hb4⟩
  rw [HO.out]
  simpa [Nat.add_comm] using hown4

theorem wrap64_small (n : Nat) (h : n ≤ 644000) : wrap64 ((n : Int) + 1) = (n : Int) + 1 := by
  have h1 : (n : Int) + 1 ≤ 644001 := by omega
  have h2 : 0 ≤ (n : Int) + 1 := by omega
  generalize (n : Int) + 1 = m at *
  unfold wrap64
  omega
set_option maxRecDepth 100000 in
set_option maxHeartbeats 4000000 in
theorem rdwrite_any (ad : Option Addr) (L cap : Nat) (s : Int) (zs : List Int) (w : World) (hL : L ≤ 400) (hs : SrcI w ad L cap zs) (hu : I64 zs) :
    Calls Try.prog 11 #[.int .i64 s, .slice ad L cap] w fun e w' => Below w.heap.size w w' ∧ ∃ v, e = .returned (.tuple #[v, .int .i64 (dErr s zs)]) ∧
      ((dErr s zs ≠ 0 ∧ v = .slice none 0 0) ∨ ∃ n : Nat, s = n ∧ n ≤ 65536 ∧ dErr s zs = 0 ∧ w'.ownsRow w.heap.size 5 1 v (dOut n zs).length ((dOut n zs).map (Value.int .u8))) := by
  obtain ⟨i0, hi, hz0, hz1, hz2⟩ := info_parts Try.info5
  have hzl : zs.length = L := by simpa using hs.1
  have hL' : (L : Int) ≤ 400 := by omega
  by_cases c1 : s < 0
  · have HE : Hid (dErr s zs = 2) := by show _ = _; unfold dErr; rw [if_pos (.inl (by omega))]
    go_enter Try.func11, Try.ntmps11
    go_wp2_with fail
    go_ret2
    exact ⟨Below.refl _ _, _, by rw [HE.out]; rfl, .inl ⟨by rw [HE.out]; decide, rfl⟩⟩
  have c1' : decide (s < 0) = false := by simpa using c1
  go_enter Try.func11, Try.ntmps11
  go_wp2_with fail
  go_loopw [6] (fun c wr => ∃ i : Nat, c = .int .i64 (i : Int) ∧ i ≤ L ∧ Hid (allIn s (zs.take i) = true) ∧ Below w.heap.size w wr) (fun c _ => L - (intOf c).toNat)
  case atStart => exact ⟨0, rfl, Nat.zero_le _, rfl, Below.refl _ _⟩
  case round =>
    obtain ⟨i, rfl, hiL, H, hb⟩ := hrel
    by_cases hlt : i < L
    · have hlt' : (i : Int) < (L : Int) := by omega
      obtain ⟨g, off, rfl, hcz⟩ := src_atI (Src.later hs hb) hlt
      have HY : Hid (0 ≤ zs.getD i 0 ∧ zs.getD i 0 < s → allIn s (zs.take (i + 1)) = true) := allIn_take (by omega) H.out
      have HN : Hid (¬ (0 ≤ zs.getD i 0 ∧ zs.getD i 0 < s) → allIn s zs = false) := allIn_no (by omega)
      generalize zs.getD i 0 = z at *
      by_cases h0 : z < 0
      · have HE : Hid (dErr s zs = 2) := by show _ = _; unfold dErr; rw [if_pos (.inr (HN.out (by omega)))]
        go_wp2_with fail
        go_ret2
        exact ⟨hb, _, by rw [HE.out]; rfl, .inl ⟨by rw [HE.out]; decide, rfl⟩⟩
      · by_cases h1 : s ≤ z
        · have HE : Hid (dErr s zs = 2) := by show _ = _; unfold dErr; rw [if_pos (.inr (HN.out (by omega)))]
          go_wp2_with fail
          go_ret2
          exact ⟨hb, _, by rw [HE.out]; rfl, .inl ⟨by rw [HE.out]; decide, rfl⟩⟩
        · have HE : Hid (allIn s (zs.take (i + 1)) = true) := HY.out (by omega)
          go_wp2_with fail
          go_roundw
          case rel => exact ⟨i + 1, by go_num, by omega, HE.out, hb⟩
          case measure => simp [intOf]; omega
    · have hge : (L : Int) ≤ (i : Int) := by omega
      have ha : allIn s zs = true := by
        have h := H.out
        rw [List.take_of_length_le (by omega)] at h
        exact h
      by_cases hbig : 65536 < s
      · have HE : Hid (dErr s zs = 3) := by show _ = _; unfold dErr; rw [if_neg (by simp [c1, ha]), if_pos hbig]
        clear ha
        go_wp2_with fail
        go_ret2
        exact ⟨hb, _, by rw [HE.out]; rfl, .inl ⟨by rw [HE.out]; decide, rfl⟩⟩
      · have HE : Hid (dErr s zs = 0) := by show _ = _; unfold dErr; rw [if_neg (by simp [c1, ha]), if_neg hbig]
        obtain ⟨n, hsn⟩ := Int.eq_ofNat_of_zero_le (show 0 ≤ s by omega)
        have hn : n ≤ 65536 := by omega
        have hfit := dW_fit hn (by rw [← hsn]; exact ha)
        have hWl := dW_le hn
        have TC := fun W (h : Below w.heap.size w W) => rtold_any ad L cap (dW n) zs W hL (by omega) (Src.later hs h) hfit
        have htl := told_len (show dW n ≤ 32 by omega) (l := zs) (by omega)
        have hbw := byte_wrap hWl
        have HO : Hid (dOut n zs = (dW n : Int) :: told (dW n) zs) := rfl
        have hd0 : n = 0 → dW n = 0 := fun h => by subst h; rfl
        have WC : ∀ M : Int, s - 1 = M → 0 ≤ M → ∀ W, Calls Try.prog 19 #[.int .u64 M] W fun e w' => e = .returned (.int .i64 (dW n : Nat)) ∧ w' = W := fun M e h0 W => by
          have e2 : M.toNat = n - 1 := by omega
          have h := rwidth_any M W h0 (by omega)
          rw [e2] at h
          exact h
        generalize hT : told (dW n) zs = T at *
        generalize dW n = W at *
        obtain ⟨tn, htn⟩ : ∃ tn, T.length = tn := ⟨_, rfl⟩
        rw [htn] at htl TC
        have hQe := wrap64_small tn htl
        obtain ⟨Q1, hQ1⟩ : ∃ Q1 : Int, wrap64 ((tn : Int) + 1) = Q1 := ⟨_, rfl⟩
        rw [hQ1] at hQe
        have hQ2 : ¬ 1048576 < Q1 := by clear hQ1 TC HO hfit hT; omega
        have hQ3 : decide (1048576 < Q1) = false := by simpa using hQ2
        clear hQe
        have HTL : Hid (tn ≤ 644000 ∧ T.length = tn) := ⟨htl, htn⟩
        have HSN : Hid (s = (n : Nat)) := hsn
        have HN65 : Hid (n ≤ 65536) := hn
        clear ha hfit hT htl htn
        by_cases hn0 : n = 0
        · obtain rfl := hd0 hn0
          have hs0 : s = 0 := by omega
          subst hs0
          clear WC hsn hn hn0 hd0
          go_wp2_with fail
          refine (TC _ hb).mono ?_
          rintro e w3 ⟨v3, rfl, hown3, hb3⟩
          have hb13 := hb.trans (hb3.mono hb.size)
          obtain ⟨a3, c3, rfl⟩ := own_sl hown3
          have hlit := World.ownsRow_lit (e := 5) (size := 1) w3 #[.int .u8 0] 1 hb13.size (by decide) rfl
          go_wp2_with (at_builtin; go_loud (refine wpList_append_src rfl (.tmp 52) (.tmp 53) 34 rfl w.heap.size 5 i0 (.int .u8 0) 1 Try.underlying34 hi hz0 hz1 hz2 rfl _ _ _ rfl hlit a3 _ c3 _ rfl ((src_own hown3).2.later (alloc_below _ _)) (ints_one _ _) (by have := HTL.out; unfold maxLen; omega) (by have := HTL.out; omega) (by simp; have := hb13.size; omega) ?_); intro v4 w4 hown4 hb4)
          go_ret2
          refine ⟨(hb13.alloc hb13.size _).trans hb4, _, by rw [HE.out]; rfl, .inr ⟨n, HSN.out, HN65.out, HE.out, ?_⟩⟩
          rw [HO.out, List.length_cons, HTL.out.2]
          simpa [Nat.add_comm] using hown4
        · have hpos : 0 < s := by omega
          obtain ⟨M, hM⟩ : ∃ M, s - 1 = M := ⟨_, rfl⟩
          have hM0 : 0 ≤ M := by omega
          have hM1 : M ≤ 65535 := by omega
          have WC' := WC M hM hM0
          clear WC hd0 hsn hn hn0
          go_wp2_with fail
          refine (WC' _).mono ?_
          rintro e w2 ⟨rfl, hw2⟩
          obtain rfl := hw2.symm
          go_wp2_with fail
          refine (TC _ hb).mono ?_
          rintro e w3 ⟨v3, rfl, hown3, hb3⟩
          have hb13 := hb.trans (hb3.mono hb.size)
          obtain ⟨a3, c3, rfl⟩ := own_sl hown3
          have hlit := World.ownsRow_lit (e := 5) (size := 1) w3 #[.int .u8 (W : Int)] 1 hb13.size (by decide) rfl
          go_wp2_with (at_builtin; go_loud (refine wpList_append_src rfl (.tmp 52) (.tmp 53) 34 rfl w.heap.size 5 i0 (.int .u8 0) 1 Try.underlying34 hi hz0 hz1 hz2 rfl _ _ _ rfl hlit a3 _ c3 _ rfl ((src_own hown3).2.later (alloc_below _ _)) (ints_one _ _) (by have := HTL.out; unfold maxLen; omega) (by have := HTL.out; omega) (by simp; have := hb13.size; omega) ?_); intro v4 w4 hown4 hb4)
          go_ret2
          refine ⟨(hb13.alloc hb13.size _).trans hb4, _, by rw [HE.out]; rfl, .inr ⟨n, HSN.out, HN65.out, HE.out, ?_⟩⟩
          rw [HO.out, List.length_cons, HTL.out.2]
          simpa [Nat.add_comm] using hown4
end Go.Proofs.Ytlajjkpcgokinaa
