/-
  bits.Pack's closure, and slices.ContainsFunc with it: whether a number needs more bits than the width.
-/
import Derived.Test.YtdglobonbhkheaaBB
import Derived.Test.YtdglobonbhkheaaBWidth
import Derived.Deep.QuietTactic
import Derived.BigQuiet
namespace Go.Proofs.Ytdglobonbhkheaa
open Go.ChangeShapes Go.WideShapes Go.ChangeAt Go.RowKit

def U64 (zs : List Int) : Prop := ∀ z ∈ zs, 0 ≤ z ∧ z ≤ 18446744073709551615
def wide1 (wd z : Int) : Bool := decide (wd < Lib.bitLen z.toNat)
def wide (wd : Int) (zs : List Int) : Bool := zs.any (wide1 wd)

set_option maxRecDepth 100000 in
set_option maxHeartbeats 1000000 in
theorem wide_call (z wd : Int) (Bw : Nat) (w : World) (h0 : 0 ≤ z) (h1 : z ≤ 18446744073709551615) (hc : w.cell? ⟨Bw, 0, none⟩ = some (.int .i64 wd)) :
    Calls Try.prog 81 #[.int .u64 z, .pointer (some ⟨Bw, 0, none⟩)] w fun e w' => e = .returned (.bool (wide1 wd z)) ∧ ∃ q, w' = w.drewN q := by
  go_enter Try.func81, Try.ntmps81
  go_wp2
  go_quiet ((go_at_call 82; exact Calls.quiet_of_same (width_any _ _ h0 h1)))
  go_wp2
  go_ret
  exact ⟨rfl, _, rfl⟩

theorem any_take_succ (wd : Int) (zs : List Int) (j : Nat) (h : j < zs.length) : wide wd (zs.take (j + 1)) = (wide wd (zs.take j) || wide1 wd (zs.getD j 0)) := by
  unfold wide
  rw [List.take_succ_eq_append_getElem h, List.any_append]
  simp [List.getD, List.getElem?_eq_getElem h]
theorem any_of_take (wd : Int) (zs : List Int) (j : Nat) (h : j < zs.length) (hw : wide1 wd (zs.getD j 0) = true) : wide wd zs = true := by
  unfold wide
  exact List.any_eq_true.2 ⟨_, getD_mem h, hw⟩

set_option maxRecDepth 100000 in
set_option maxHeartbeats 2000000 in
theorem index_any (ad : Option Addr) (L cap Bw : Nat) (wd : Int) (zs : List Int) (w : World) (hL : L ≤ 1048576) (hs : Src w ad L cap (zs.map (Value.int .u64))) (hu : U64 zs) (hc : w.cell? ⟨Bw, 0, none⟩ = some (.int .i64 wd)) :
    Calls Try.prog 91 #[.slice ad L cap, .func (.func 81) #[] #[.pointer (some ⟨Bw, 0, none⟩)]] w fun e w' => ∃ r : Int, e = .returned (.int .i64 r) ∧ decide (0 ≤ r) = wide wd zs ∧ ∃ q, w' = w.drewN q := by
  have HZ : Hid (zs.length = L) := by show _ = _; simpa using hs.1
  go_enter Try.func91, Try.ntmps91
  go_wp2
  go_loopw [8] (fun c wr => ∃ j q : Nat, c = .int .i64 j ∧ j ≤ L ∧ Hid (wide wd (zs.take j) = false) ∧ wr = w.drewN q)
    (fun c _ => L - (intOf c).toNat)
  case atStart => exact ⟨0, 0, rfl, Nat.zero_le _, by simp [Hid, wide], rfl⟩
  case round =>
    obtain ⟨j, q, rfl, hj, H, rfl⟩ := hrel
    by_cases hlt : j < L
    · have hlt' : (j : Int) < (L : Int) := by omega
      obtain ⟨g, off, rfl, hcz⟩ := src_atI hs hlt
      have hb := hu _ (getD_mem (zs := zs) (i := j) (by have := HZ.out; omega))
      have HS : Hid _ := any_take_succ wd zs j (by have := HZ.out; omega)
      have HA : Hid _ := any_of_take wd zs j (by have := HZ.out; omega)
      generalize zs.getD j 0 = z at *
      have hcz' : (w.drewN q).cell? ⟨g, off + j, none⟩ = some (.int .u64 z) := hcz
      have hc' : (w.drewN q).cell? ⟨Bw, 0, none⟩ = some (.int .i64 wd) := hc
      cases hw : wide1 wd z
      · go_wp2_with (go_at_call 81; refine (wide_call z wd Bw _ hb.1 hb.2 hc').mono ?_; rintro e w1 ⟨rfl, q1, rfl⟩; rw [hw])
        go_roundw
        case rel => exact ⟨j + 1, q + q1, by go_num, by omega, by show _ = _; rw [HS.out, H.out, hw]; rfl, by simp [World.drewN]; try omega⟩
        case measure => simp [intOf]; omega
      · go_wp2_with (go_at_call 81; refine (wide_call z wd Bw _ hb.1 hb.2 hc').mono ?_; rintro e w1 ⟨rfl, q1, rfl⟩; rw [hw])
        go_ret
        exact ⟨_, rfl, by rw [HA.out hw]; simp, q + q1, by simp [World.drewN]; try omega⟩
    · have hlt' : (L : Int) ≤ (j : Int) := by omega
      go_wp2
      go_ret
      refine ⟨_, rfl, ?_, q, rfl⟩
      have e := H.out
      rw [List.take_of_length_le (by have := HZ.out; omega)] at e
      rw [e]
      rfl

set_option maxRecDepth 100000 in
set_option maxHeartbeats 1000000 in
theorem contains_any (ad : Option Addr) (L cap Bw : Nat) (wd : Int) (zs : List Int) (w : World) (hL : L ≤ 1048576) (hs : Src w ad L cap (zs.map (Value.int .u64))) (hu : U64 zs) (hc : w.cell? ⟨Bw, 0, none⟩ = some (.int .i64 wd)) :
    Calls Try.prog 83 #[.slice ad L cap, .func (.func 81) #[] #[.pointer (some ⟨Bw, 0, none⟩)]] w fun e w' => e = .returned (.bool (wide wd zs)) ∧ ∃ q, w' = w.drewN q := by
  go_enter Try.func83, Try.ntmps83
  go_wp2_with (go_at_call 91; refine (index_any ad L cap Bw wd zs w hL hs hu hc).mono ?_; rintro e w1 ⟨r, rfl, hr, q, rfl⟩)
  go_ret
  exact ⟨by rw [← hr]; rfl, q, rfl⟩
end Go.Proofs.Ytdglobonbhkheaa
