/-
  The reference: Write, SameInts.
-/
import Derived.Test.YtlajjkpcgokinaaHbT
namespace Go.Proofs.Ytlajjkpcgokinaa
set_option linter.unusedVariables false
set_option linter.unusedSimpArgs false
open Go.ChangeShapes Go.WideShapes Go.ChangeAt Go.RowKit Go.Sort

theorem infoInt : (Try.prog.info? 3).map (fun i => (i.zero, i.size, i.bytes)) = some (some (.int .i64 0), 1, 8) := by kernel_rfl
theorem own_cap {w : World} {B : Nat} {e : TypeId} {a : Option Addr} {n c : Nat} {xs : List Value} (h : w.ownsRow B e 1 (.slice a n c) n xs) : n ≤ c := by
  rcases h.2 with ⟨h1, rfl⟩ | ⟨g, cap, cur, h1, _, _, h4, _⟩
  · omega
  · cases h1
    exact h4
theorem wErr_ok {wd : Int} {zs : List Int} (hu : I64 zs) (h : wErr wd zs = 0) : ∃ W : Nat, wd = W ∧ W ≤ 32 ∧ FitI W zs := by
  unfold wErr at h
  split at h
  · cases h
  · rename_i hn
    have hb : ¬ zs.any (badN wd) = true := fun e => hn (.inr e)
    have hw : 0 ≤ wd ∧ wd ≤ 32 := by
      by_cases h1 : 0 ≤ wd ∧ wd ≤ 32
      · exact h1
      · exact absurd (.inl h1) hn
    obtain ⟨W, rfl⟩ := Int.eq_ofNat_of_zero_le hw.1
    exact ⟨W, rfl, by omega, fitI_of (by omega) hu (by simpa using hb)⟩
theorem any_of_getD {p : Int → Bool} {zs : List Int} {i : Nat} (h : i < zs.length) (hp : p (zs.getD i 0) = true) : zs.any p = true := List.any_eq_true.2 ⟨_, getD_mem h, hp⟩
theorem take_eq_succ {xs ys : List Int} {k : Nat} (hx : k < xs.length) (hy : k < ys.length) (h : xs.take k = ys.take k) (he : xs.getD k 0 = ys.getD k 0) : xs.take (k + 1) = ys.take (k + 1) := by
  rw [List.take_succ_eq_append_getElem hx, List.take_succ_eq_append_getElem hy, h]
  simp [List.getD, List.getElem?_eq_getElem hx, List.getElem?_eq_getElem hy] at he
  rw [he]
set_option maxRecDepth 100000 in
set_option maxHeartbeats 4000000 in
theorem rsi_any (a1 a2 : Option Addr) (n1 n2 c1 c2 : Nat) (xs ys : List Int) (w : World) (h1 : n1 ≤ 1048576) (h2 : n2 ≤ 1048576) (hx : SrcI w a1 n1 c1 xs) (hy : SrcI w a2 n2 c2 ys) :
    Calls Try.prog 14 #[.slice a1 n1 c1, .slice a2 n2 c2] w fun e w' => e = .returned (.bool (decide (xs = ys))) ∧ Below w.heap.size w w' := by
  have hxl : xs.length = n1 := by simpa using hx.1
  have hyl : ys.length = n2 := by simpa using hy.1
  by_cases hn : n1 = n2
  · subst hn
    go_enter Try.func14, Try.ntmps14
    go_wp2_with fail
    go_loopw [5] (fun c wr => ∃ i : Nat, c = .int .i64 (i : Int) ∧ i ≤ n1 ∧ Hid (xs.take i = ys.take i) ∧ Below w.heap.size w wr) (fun c _ => n1 - (intOf c).toNat)
    case atStart => exact ⟨0, rfl, Nat.zero_le _, by show _ = _; simp, Below.refl _ _⟩
    case round =>
      obtain ⟨i, rfl, hi, H, hb⟩ := hrel
      by_cases hlt : i < n1
      · have hlt' : (i : Int) < (n1 : Int) := by omega
        obtain ⟨g, off, rfl, hcx⟩ := src_atI (Src.later hx hb) hlt
        obtain ⟨g2, off2, rfl, hcy⟩ := src_atI (Src.later hy hb) hlt
        have r1 := cell_regrown hcx
        have r2 := cell_regrown hcy
        have HS : Hid ((xs.getD i 0 = ys.getD i 0 → xs.take (i + 1) = ys.take (i + 1)) ∧ (¬ xs.getD i 0 = ys.getD i 0 → ¬ xs = ys)) := by
          refine ⟨take_eq_succ (by omega) (by omega) H.out, fun hne he => hne (by rw [he])⟩
        generalize xs.getD i 0 = x at *
        generalize ys.getD i 0 = y at *
        by_cases hxy : x = y
        · have HN : Hid _ := HS.out.1 hxy
          subst hxy
          go_wp2_with fail
          refine wp_region_quiet_below (by kernel_rfl) (by kernel_rfl) ?_
          repeat (go_big_quiet_step (fail))
          refine wpQuiet_nil ?_
          intro _ hw'
          obtain ⟨⟨dq, osq⟩, hw''⟩ := hw'
          subst hw''
          have hqq := below_regrown wr dq osq
          generalize grow (redrawn wr dq) osq = wq at *
          go_wp2_with fail
          go_roundw
          case rel => exact ⟨i + 1, by go_num, by omega, HN.out, hb.trans (hqq.mono hb.size)⟩
          case measure => simp [intOf]; omega
        · have HE : Hid (decide (xs = ys) = false) := by show _ = _; simp [HS.out.2 hxy]
          have hxy' : (x == y) = false := by simp [hxy]
          go_wp2_with fail
          refine wp_region_quiet_below (by kernel_rfl) (by kernel_rfl) ?_
          repeat (go_big_quiet_step (fail))
          refine wpQuiet_nil ?_
          intro _ hw'
          obtain ⟨⟨dq, osq⟩, hw''⟩ := hw'
          subst hw''
          have hqq := below_regrown wr dq osq
          generalize grow (redrawn wr dq) osq = wq at *
          go_wp2_with fail
          go_ret
          exact ⟨by rw [HE.out]; rfl, hb.trans (hqq.mono hb.size)⟩
      · have hge : (n1 : Int) ≤ (i : Int) := by omega
        have HE : Hid (decide (xs = ys) = true) := by
          have h := H.out
          rw [List.take_of_length_le (by omega), List.take_of_length_le (by omega)] at h
          show _ = _
          simp [h]
        go_wp2_with fail
        go_ret
        exact ⟨by rw [HE.out]; rfl, hb⟩
  · have HE : Hid (decide (xs = ys) = false) := by
      show _ = _
      rw [decide_eq_false_iff_not]
      intro h
      rw [h] at hxl
      omega
    have hn' : ((n1 : Int) == (n2 : Int)) = false := by simp; omega
    have hn2 : ¬ (n1 : Int) = (n2 : Int) := by omega
    clear hxl hyl
    go_enter Try.func14, Try.ntmps14
    go_wp2_with fail
    go_ret
    exact ⟨by rw [HE.out]; rfl, Below.refl _ _⟩
end Go.Proofs.Ytlajjkpcgokinaa
