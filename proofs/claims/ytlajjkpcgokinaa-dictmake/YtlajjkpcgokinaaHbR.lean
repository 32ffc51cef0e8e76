/-
  The reference: same, packs.
-/
import Derived.Test.YtlajjkpcgokinaaHbF
import Derived.Lib.QuietBelow
import Derived.BigQuiet
namespace Go.Proofs.Ytlajjkpcgokinaa
set_option linter.unusedVariables false
set_option linter.unusedSimpArgs false
open Go.ChangeShapes Go.WideShapes Go.ChangeAt Go.RowKit Go.Sort

theorem sameN_at {l : List Int} {k : Nat} (hk : k < l.length) (h : ∀ x ∈ l.take k, (x == l.getD 0 0) = true) (hne : (l.getD k 0 == l.getD 0 0) = false) : sameN l = k := takeWhile_at l k hk h hne
theorem sameN_all {l : List Int} (h : ∀ x ∈ l, (x == l.getD 0 0) = true) : sameN l = l.length := by unfold sameN; rw [takeWhile_all l h]
theorem same_take_succ {l : List Int} {c : Int} {k : Nat} (hk : k < l.length) (h : ∀ x ∈ l.take k, (x == c) = true) (he : (l.getD k 0 == c) = true) : ∀ x ∈ l.take (k + 1), (x == c) = true := by
  intro x hx
  rw [List.take_succ_eq_append_getElem hk] at hx
  rcases List.mem_append.1 hx with h3 | h3
  · exact h x h3
  · simp [List.getD, List.getElem?_eq_getElem hk] at he h3
    rw [h3, he]
    simp
theorem getD_drop (l : List Int) (p k : Nat) : (l.drop p).getD k 0 = l.getD (p + k) 0 := by simp [List.getD]

set_option maxRecDepth 100000 in
set_option maxHeartbeats 2000000 in
theorem rsame_any (ad : Option Addr) (L cap p : Nat) (zs : List Int) (w : World) (hp : p < L) (hL : L ≤ 1048576) (hs : SrcI w ad L cap zs) :
    Calls Try.prog 29 #[.slice ad L cap, .int .i64 p] w fun e w' => e = .returned (.int .i64 (sameN (zs.drop p) : Nat)) ∧ Below w.heap.size w w' := by
  have hzl : zs.length = L := by simpa using hs.1
  have hL' : (L : Int) ≤ 1048576 := by omega
  have hdl : (zs.drop p).length = L - p := by rw [List.length_drop]; omega
  go_enter Try.func29, Try.ntmps29
  go_wp2_with fail
  go_loopw [5] (fun s wr => ∃ k : Nat, s = .int .i64 (k : Int) ∧ p + k ≤ L ∧ Hid (∀ x ∈ (zs.drop p).take k, (x == (zs.drop p).getD 0 0) = true) ∧ Below w.heap.size w wr) (fun s _ => L - (intOf s).toNat)
  case atStart => exact ⟨0, rfl, by omega, (fun x hx => by simp at hx), Below.refl _ _⟩
  case round =>
    obtain ⟨k, rfl, hk, H, hb⟩ := hrel
    obtain ⟨J, HJ⟩ : ∃ J, Hid (J = p + k) := ⟨_, rfl⟩
    have hJ := HJ.out
    have hJ2 : (p : Int) + (k : Int) = (J : Int) := by omega
    have hwJ : IntKind.i64.wrap (J : Int) = (J : Int) := by rw [IntKind.wrap_i64]; omega
    have HJK : Hid (p + k = J) := hJ.symm
    have hkJ : k ≤ J := by omega
    by_cases hlt : J < L
    · have hlt' : (J : Int) < (L : Int) := by omega
      have hpl : (p : Int) < (L : Int) := by omega
      obtain ⟨g, off, rfl, hcJ⟩ := src_atI (Src.later hs hb) hlt
      obtain ⟨g', off', e, hc0⟩ := src_atI (Src.later hs hb) hp
      cases e
      have HS : Hid (((zs.getD J 0 == zs.getD p 0) = true → ∀ x ∈ (zs.drop p).take (k + 1), (x == (zs.drop p).getD 0 0) = true) ∧ ((zs.getD J 0 == zs.getD p 0) = false → sameN (zs.drop p) = k)) := by
        have e1 : (zs.drop p).getD k 0 = zs.getD J 0 := by rw [getD_drop, hJ]
        have e2 : (zs.drop p).getD 0 0 = zs.getD p 0 := getD_drop zs p 0
        have h := H.out
        rw [← e1, ← e2]
        exact ⟨fun he => same_take_succ (by omega) h he, fun he => sameN_at (by omega) h he⟩
      have hkL : k < (zs.drop p).length := by omega
      have hcJ' := cell_regrown hcJ
      have hc0' := cell_regrown hc0
      clear hJ
      generalize zs.getD J 0 = y at *
      generalize zs.getD p 0 = x at *
      cases hyx : (y == x)
      · have HE : Hid (sameN (zs.drop p) = k) := HS.out.2 hyx
        go_wp2_with fail
        refine wp_region_quiet_below (by kernel_rfl) (by kernel_rfl) ?_
        repeat (go_big_quiet_step (fail))
        refine wpQuiet_nil ?_
        intro _ hw'
        obtain ⟨⟨dq, osq⟩, hw''⟩ := hw'
        subst hw''
        have hqq := below_regrown wr dq osq
        generalize grow (redrawn wr dq) osq = wq at *
        go_wp2_with fail
        go_ret
        exact ⟨by rw [HE.out]; rfl, hb.trans (hqq.mono hb.size)⟩
      · have HN : Hid _ := HS.out.1 hyx
        go_wp2_with fail
        refine wp_region_quiet_below (by kernel_rfl) (by kernel_rfl) ?_
        repeat (go_big_quiet_step (fail))
        refine wpQuiet_nil ?_
        intro _ hw'
        obtain ⟨⟨dq, osq⟩, hw''⟩ := hw'
        subst hw''
        have hqq := below_regrown wr dq osq
        generalize grow (redrawn wr dq) osq = wq at *
        go_wp2_with fail
        go_roundw
        case rel => exact ⟨k + 1, by go_num, by have := HJ.out; omega, HN.out, hb.trans (hqq.mono hb.size)⟩
        case measure => simp [intOf]; omega
    · have hge : (L : Int) ≤ (J : Int) := by omega
      have HE : Hid (sameN (zs.drop p) = k) := by
        have h := H.out
        rw [List.take_of_length_le (by omega)] at h
        show _ = _
        rw [sameN_all h, hdl]
        omega
      clear hJ
      go_wp2_with fail
      refine wp_region_quiet_below (by kernel_rfl) (by kernel_rfl) ?_
      repeat (go_big_quiet_step (fail))
      refine wpQuiet_nil ?_
      intro _ hw'
      obtain ⟨⟨dq, osq⟩, hw''⟩ := hw'
      subst hw''
      have hqq := below_regrown wr dq osq
      generalize grow (redrawn wr dq) osq = wq at *
      go_wp2_with fail
      go_ret
      exact ⟨by rw [HE.out]; rfl, hb.trans (hqq.mono hb.size)⟩

set_option maxRecDepth 100000 in
set_option maxHeartbeats 2000000 in
theorem rpacks_any (ad : Option Addr) (L cap p : Nat) (zs : List Int) (w : World) (hp : p < L) (hL : L ≤ 1048576) (hs : SrcI w ad L cap zs) :
    Calls Try.prog 32 #[.slice ad L cap, .int .i64 p] w fun e w' => e = .returned (.int .i64 (packN (zs.drop p) : Nat)) ∧ Below w.heap.size w w' := by
  have hzl : zs.length = L := by simpa using hs.1
  have hL' : (L : Int) ≤ 1048576 := by omega
  have hpl : (p : Int) < (L : Int) := by omega
  have hdl : (zs.drop p).length = L - p := by rw [List.length_drop]; omega
  go_enter Try.func32, Try.ntmps32
  go_wp2_with fail
  go_loopw [5] (fun s wr => ∃ f k : Nat, s = .int .i64 (k : Int) ∧ p + k < L ∧ Hid ((zs.drop p).length ≤ (k + 8) + 8 * f ∧ packF f (k + 8) (zs.drop p) = packN (zs.drop p)) ∧ Below w.heap.size w wr) (fun s _ => L - (intOf s).toNat)
  case atStart => exact ⟨(zs.drop p).length, 0, rfl, by omega, ⟨by omega, rfl⟩, Below.refl _ _⟩
  case round =>
    obtain ⟨f, k, rfl, hk, H, hb⟩ := hrel
    have hk' : (p : Int) + (k : Int) < (L : Int) := by omega
    by_cases hge : L ≤ p + (k + 8)
    · have hge' : (L : Int) ≤ (p : Int) + ((k : Int) + 8) := by omega
      have HE : Hid ((L : Int) - (p : Int) = (packN (zs.drop p) : Int)) := by
        show _ = _
        rw [← H.out.2, packF_end (by omega), hdl]
        omega
      go_wp2_with fail
      go_ret
      exact ⟨by rw [← HE.out]; rfl, hb⟩
    · obtain ⟨Q8, HQ8⟩ : ∃ q, Hid (q = p + (k + 8)) := ⟨_, rfl⟩
      have hQ8 := HQ8.out
      have hQ : (p : Int) + ((k : Int) + 8) = (Q8 : Int) := by omega
      have hlt' : (Q8 : Int) < (L : Int) := by omega
      have SC := rsame_any ad L cap Q8 zs wr (by omega) hL (Src.later hs hb)
      have hdd : zs.drop Q8 = (zs.drop p).drop (k + 8) := by rw [List.drop_drop, hQ8]
      rw [hdd] at SC
      clear hdd hQ8
      obtain ⟨M, HM⟩ : ∃ M, Hid (M = sameN ((zs.drop p).drop (k + 8))) := ⟨_, rfl⟩
      rw [← HM.out] at SC
      by_cases h8 : 8 ≤ M
      · have h8' : (8 : Int) ≤ (M : Int) := by omega
        have HE : Hid ((k : Int) + 8 = (packN (zs.drop p) : Int)) := by
          show _ = _
          rw [← H.out.2, packF_hit H.out.1 (by omega) (by rw [← HM.out]; exact h8)]
          omega
        go_wp2_with (go_at_call 29; refine SC.mono ?_; rintro e w1 ⟨rfl, hb1⟩)
        go_ret
        exact ⟨by rw [← HE.out]; rfl, hb.trans (hb1.mono hb.size)⟩
      · have h8' : ¬ (8 : Int) ≤ (M : Int) := by omega
        have HF2 : Hid ((zs.drop p).length ≤ (k + 8 + 8) + 8 * (f - 1) ∧ packF f (k + 8) (zs.drop p) = packF (f - 1) (k + 8 + 8) (zs.drop p)) := packF_step H.out.1 (by omega) (by rw [← HM.out]; exact h8)
        go_wp2_with (go_at_call 29; refine SC.mono ?_; rintro e w1 ⟨rfl, hb1⟩)
        go_roundw
        case rel => exact ⟨f - 1, k + 8, by go_num, by omega, ⟨HF2.out.1, by rw [← HF2.out.2]; exact H.out.2⟩, hb.trans (hb1.mono hb.size)⟩
        case measure => simp [intOf]; omega
end Go.Proofs.Ytlajjkpcgokinaa
