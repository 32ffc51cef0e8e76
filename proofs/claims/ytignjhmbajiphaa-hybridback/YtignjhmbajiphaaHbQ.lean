/-
  wholeRuns; Read and Part, whole.
-/
import Derived.Test.YtignjhmbajiphaaHbP
namespace Go.Proofs.Ytignjhmbajiphaa
set_option linter.unusedVariables false
set_option linter.unusedSimpArgs false
open Go.ChangeShapes Go.WideShapes Go.ChangeAt Go.RowKit

theorem rdA_ok {W : Nat} {zs : List Int} : ∀ (f t p : Nat) (rs rs' : List (Bool × List Int)) (q : Nat), t < f → p ≤ zs.length → rdA W zs f t p rs = .ok (rs', q) → (flatN rs').length = (flatN rs).length + t ∧ rs'.length ≤ rs.length + t ∧ q ≤ zs.length
  | 0, t, _, _, _, _, h, _, _ => by omega
  | f + 1, t, p, rs, rs', q, ht, hp, h => by
    rw [rdA] at h
    by_cases h0 : t = 0
    · rw [if_pos h0] at h
      cases h
      omega
    · rw [if_neg h0] at h
      cases hx : rdRun W (zs.drop p) t with
      | error e => rw [hx] at h; cases h
      | ok blk =>
        obtain ⟨b, l, k⟩ := blk
        rw [hx] at h
        have hro := rdRun_ok (by omega) hx
        rw [List.length_drop] at hro
        have ih := rdA_ok f (t - l.length) (p + k) (rs ++ [(b, l)]) rs' q (by omega) (by omega) h
        rw [flatN_snoc, List.length_append, List.length_append] at ih
        simp at ih
        omega
abbrev okArg (wd ct : Int) : Prop := 0 ≤ wd ∧ wd ≤ 32 ∧ 0 ≤ ct
/-- the runs with which bytes begin -/
def frontM (wd ct : Int) (zs : List Int) : Except Int (List (Bool × List Int) × Nat) := if okArg wd ct then rdA wd.toNat zs (ct.toNat + 1) ct.toNat 0 [] else .error 2
def readM (wd ct : Int) (zs : List Int) : Except Int (List Int) :=
  match frontM wd ct zs with
  | .error e => .error e
  | .ok (rs, p) => if p = zs.length then .ok (flatN rs) else .error 7

set_option maxRecDepth 100000 in
set_option maxHeartbeats 4000000 in
theorem front_any (ad : Option Addr) (L cap : Nat) (wd ct : Int) (zs : List Int) (w : World) (hL : L ≤ 1048576) (hlc : L ≤ cap) (hs : Src w ad L cap (zs.map (Value.int .u8))) (hby : Bytes zs) (hct : ct ≤ 65536) :
    Calls Try.prog 23 #[.slice ad L cap, .int .i64 wd, .int .i64 ct] w fun e w' => Below w.heap.size w w' ∧ match frontM wd ct zs with
      | .ok (rs, p) => ∃ v, e = .returned (.tuple #[v, .int .i64 p]) ∧ RsR (w.heap.size + 3) w' v rs
      | .error c => e = gives c := by
  unfold frontM
  by_cases hok : okArg wd ct
  · rw [if_pos hok]
    obtain ⟨W, rfl⟩ := Int.eq_ofNat_of_zero_le hok.1
    obtain ⟨C, rfl⟩ := Int.eq_ofNat_of_zero_le hok.2.2
    rw [Int.toNat_natCast, Int.toNat_natCast]
    exact front_main ad L cap W C zs w hL hlc hs hby (by have := hok.2.1; omega) (by omega)
  · rw [if_neg hok]
    have hok : ¬ (0 ≤ wd ∧ wd ≤ 32 ∧ 0 ≤ ct) := hok
    have WC := fun W' => isw_any wd W'
    by_cases c1 : 0 ≤ wd ∧ wd ≤ 32
    · rw [show decide (0 ≤ wd ∧ wd ≤ 32) = true by simp [c1]] at WC
      have hc : ct < 0 := by omega
      have hd : decide ((0 : Int) ≤ ct) = false := by simp; omega
      unfold gives
      go_enter Try.func23, Try.ntmps23
      go_wp2_with fail
      refine (WC _).mono ?_
      rintro e wx ⟨rfl, hwx⟩
      obtain rfl := hwx.symm
      go_wp2_with fail
      refine (must_no 2 _).mono ?_
      rintro e wx ⟨rfl, hwx⟩
      obtain rfl := hwx.symm
      unfold gives
      go_wp2_with fail
      exact ⟨rfl, Below.refl _ _, rfl⟩
    · rw [show decide (0 ≤ wd ∧ wd ≤ 32) = false by simp only [decide_eq_false_iff_not]; exact c1] at WC
      unfold gives
      go_enter Try.func23, Try.ntmps23
      go_wp2_with fail
      refine (WC _).mono ?_
      rintro e wx ⟨rfl, hwx⟩
      obtain rfl := hwx.symm
      go_wp2_with fail
      refine (must_no 2 _).mono ?_
      rintro e wx ⟨rfl, hwx⟩
      obtain rfl := hwx.symm
      unfold gives
      go_wp2_with fail
      exact ⟨rfl, Below.refl _ _, rfl⟩

def wholeM (wd ct : Int) (zs : List Int) : Except Int (List (Bool × List Int)) :=
  match frontM wd ct zs with
  | .error e => .error e
  | .ok (rs, p) => if p = zs.length then .ok rs else .error 7
set_option maxRecDepth 100000 in
set_option maxHeartbeats 4000000 in
theorem whole_any (ad : Option Addr) (L cap : Nat) (wd ct : Int) (zs : List Int) (w : World) (hL : L ≤ 1048576) (hlc : L ≤ cap) (hs : Src w ad L cap (zs.map (Value.int .u8))) (hby : Bytes zs) (hct : ct ≤ 65536) :
    Calls Try.prog 21 #[.slice ad L cap, .int .i64 wd, .int .i64 ct] w fun e w' => Below w.heap.size w w' ∧ match wholeM wd ct zs with
      | .ok rs => ∃ v, e = .returned v ∧ RsR (w.heap.size + 3) w' v rs
      | .error c => e = gives c := by
  have hzl : zs.length = L := by simpa using hs.1
  have FA := front_any ad L cap wd ct zs w hL hlc hs hby hct
  cases hx : frontM wd ct zs with
  | error c =>
    rw [hx] at FA
    have HE : Hid (wholeM wd ct zs = .error c) := by show _ = _; unfold wholeM; rw [hx]
    rw [HE.out]
    unfold gives at FA ⊢
    go_enter Try.func21, Try.ntmps21
    go_wp2_with fail
    refine FA.mono ?_
    rintro e w1 ⟨hb1, rfl⟩
    go_wp2_with fail
    exact ⟨rfl, hb1, rfl⟩
  | ok rp =>
    obtain ⟨rs, p⟩ := rp
    rw [hx] at FA
    have HE : Hid (wholeM wd ct zs = if p = L then .ok rs else .error 7) := by show _ = _; unfold wholeM; rw [hx, hzl]
    rw [HE.out]
    by_cases hp : p = L
    · rw [if_pos hp]
      have he : ((p : Int) == (L : Int)) = true := by simp; omega
      clear hzl
      subst hp
      go_enter Try.func21, Try.ntmps21
      go_wp2_with fail
      refine FA.mono ?_
      rintro e w1 ⟨hb1, v, rfl, hr⟩
      obtain ⟨va, vc, rfl⟩ : ∃ va vc, v = Value.slice va rs.length vc := by obtain ⟨ys, h1, _⟩ := hr; exact own_sl h1
      go_wp2_with fail
      try rw [show ((p : Int) == (p : Int)) = true by simp]
      refine (must_yes 7 _).mono ?_
      rintro e wx ⟨rfl, hwx⟩
      obtain rfl := hwx.symm
      go_wp2_with fail
      go_ret
      exact ⟨hb1, _, rfl, hr⟩
    · rw [if_neg hp]
      have he : ((p : Int) == (L : Int)) = false := by simp; omega
      unfold gives
      go_enter Try.func21, Try.ntmps21
      go_wp2_with fail
      refine FA.mono ?_
      rintro e w1 ⟨hb1, v, rfl, hr⟩
      obtain ⟨va, vc, rfl⟩ : ∃ va vc, v = Value.slice va rs.length vc := by obtain ⟨ys, h1, _⟩ := hr; exact own_sl h1
      go_wp2_with fail
      try rw [he]
      refine (must_no 7 _).mono ?_
      rintro e wx ⟨rfl, hwx⟩
      obtain rfl := hwx.symm
      unfold gives
      go_wp2_with fail
      exact ⟨rfl, hb1, rfl⟩
end Go.Proofs.Ytignjhmbajiphaa
