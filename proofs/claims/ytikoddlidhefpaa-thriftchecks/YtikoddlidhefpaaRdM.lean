/-
  A map: the ways on which no value is taken.
-/
import Derived.Test.YtikoddlidhefpaaRdL
namespace Go.Proofs.Ytikoddlidhefpaa
set_option linter.unusedVariables false
open Go.ChangeShapes Go.WideShapes Go.ChangeAt Go.RowKit Go.Deep

theorem dict_pay (y k : Nat) (hy : y < 16) (hk : k < 16) : PayOk ⟨11, y, k, 0, noText, []⟩ := by
  have z0 : i64ok 0 := ⟨by omega, by omega⟩
  have z9 : i64ok 11 := ⟨by omega, by omega⟩
  have zy : i64ok (y : Int) := ⟨by omega, by omega⟩
  have zk : i64ok (k : Int) := ⟨by omega, by omega⟩
  exact ⟨z9, zy, zk, z0, Nat.zero_le _, Nat.zero_le _, fun _ h => by cases h⟩
/-- the two boxes that it lays first -/
theorem dict_boxes (w : World) : Below w.heap.size w ((zbox w).alloc (.cells #[.int .i64 11, .int .i64 0, .int .i64 0, .int .i64 0, .string { data := #[] }, .slice none 0 0, .slice none 0 0] 26)) ∧ ((zbox w).alloc (.cells #[.int .i64 11, .int .i64 0, .int .i64 0, .int .i64 0, .string { data := #[] }, .slice none 0 0, .slice none 0 0] 26)).heap[w.heap.size]? = some (.cells #[.int .i64 0, .int .i64 0, .int .i64 0, .int .i64 0, .string { data := #[] }, .slice none 0 0, .slice none 0 0] 26 (0, 0)) ∧ ((zbox w).alloc (.cells #[.int .i64 11, .int .i64 0, .int .i64 0, .int .i64 0, .string { data := #[] }, .slice none 0 0, .slice none 0 0] 26)).heap[w.heap.size + 1]? = some (.cells #[.int .i64 11, .int .i64 0, .int .i64 0, .int .i64 0, .string { data := #[] }, .slice none 0 0, .slice none 0 0] 26 (0, 0)) := by
  have hs : (zbox w).heap.size = w.heap.size + 1 := by simp [zbox]
  have h1 := alloc_below (zbox w) (.cells #[.int .i64 11, .int .i64 0, .int .i64 0, .int .i64 0, .string { data := #[] }, .slice none 0 0, .slice none 0 0] 26)
  rw [hs] at h1
  refine ⟨Below.trans (alloc_below w _) (h1.mono (Nat.le_succ _)), ?_, ?_⟩
  · rw [h1.block _ (Nat.lt_succ_self _)]
    exact heap_new w _
  · have := heap_new (zbox w) (.cells #[.int .i64 11, .int .i64 0, .int .i64 0, .int .i64 0, .string { data := #[] }, .slice none 0 0, .slice none 0 0] 26)
    rwa [hs] at this

set_option maxRecDepth 10000 in
set_option maxHeartbeats 1000000 in
theorem dict_easy (w0 w : World) (R m : Nat) (bs : List Nat) (room : Int) (P : Int → List Nat → RV) (h : Rd w0 w R m bs room) (hE : ∀ n r, rNum 0 65536 bs = .ok (n, r) → ¬ n = 0 → r = []) : TakesV 84 #[.pointer (some ⟨R, 0, none⟩)] w0 w R m room (rDict room P bs) := by
  intro Q QOK QNO
  obtain ⟨hab, hbz, hbv⟩ := dict_boxes w
  have hR := h.lt
  have hz := h.later hab
  have TN := takeNumber_any w0 _ R m bs room 0 65536 (by omega) (by omega) hz
  cases hnum : rNum 0 65536 bs with
  | error s =>
    have TN1 := TN.no hnum
    have q := fun w' hf => QNO s w' (by unfold rDict; rw [hnum]) ((RF.of_below hab).trans hf)
    obtain ⟨ch, hch⟩ : ∃ ch, gives s = .panicked ch := ⟨_, rfl⟩
    rw [hch] at q TN1
    clear hch QOK QNO TN hz hbz hbv
    go_enter Try.func84, Try.ntmps84
    go_wp2_with fail
    refine TN1.mono ?_
    rintro e W1 ⟨rfl, hf1⟩
    have q1 := q W1 hf1
    go_wp2_with fail
    exact ⟨rfl, q1⟩
  | ok v =>
    obtain ⟨n, r⟩ := v
    have TN1 := TN.ok hnum
    have hn := rNum_le hnum
    have hn' : (n : Int) ≤ 65536 := by omega
    by_cases hn0 : n = 0
    · subst hn0
      have he : rDict room P bs = .ok ((⟨11, 0, 0, 0, { data := #[] }, []⟩, .nil), r) := by unfold rDict; rw [hnum]; rfl
      clear QNO TN
      go_enter Try.func84, Try.ntmps84
      go_wp2_with fail
      refine TN1.mono ?_
      rintro e W1 ⟨rfl, hrd1, hf1⟩
      have b1 := hf1.box hbv (by omega)
      have z1 := hf1.box hbz (by omega)
      have hff := (RF.of_below hab).trans hf1
      obtain ⟨⟨b0, b1', b2, b3, b4, b5, b6⟩, c0, c1, c2, c3, c4, c5, c6⟩ := blk7 b1
      obtain ⟨⟨z0, z1', z2, z3, z4, z5, z6⟩, g0, g1, g2, g3, g4, g5, g6⟩ := blk7 z1
      clear hbv hbz hz b1
      go_wp2_with fail
      refine finish (p := ⟨11, 0, 0, 0, { data := #[] }, []⟩) (c := .nil) (rest := r) (W := W1) (iv := .slice none 0 0) (lv := .slice none 0 0) rfl QOK rfl z1 hR he hff hrd1 ?_
      exact vx_leaf (dict_pay 0 0 (by omega) (by omega)) rfl
    · have hr := hE n r hnum hn0
      subst hr
      have hn0' : ¬ (n : Int) = 0 := by omega
      have q := fun w' hf => QNO true w' (by unfold rDict; rw [hnum]; simp only [if_neg hn0]; rfl) hf
      clear QOK QNO TN
      go_enter Try.func84, Try.ntmps84
      go_wp2_with fail
      refine TN1.mono ?_
      rintro e W1 ⟨rfl, hrd1, hf1⟩
      have TH := (takeHalves_any w0 W1 R m [] room hrd1).no (s := true) rfl
      clear hbz hbv hz
      go_wp2_with fail
      refine TH.mono ?_
      rintro e W2 ⟨rfl, hf2⟩
      have q1 := q W2 (((RF.of_below hab).trans hf1).trans hf2)
      unfold gives at q1 ⊢
      go_wp2_with fail
      exact ⟨rfl, q1⟩
end Go.Proofs.Ytikoddlidhefpaa
