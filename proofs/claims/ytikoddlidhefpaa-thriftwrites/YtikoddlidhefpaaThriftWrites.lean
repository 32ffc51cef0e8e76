/-
For any value (of at most 3000 values, numbers and bytes; else the law asks one structure alone): thrift.Write answers the bytes that the reference's Bytes answers, or refuses what may not be or is no structure; it stays. No condition.
-/
import Derived.Test.YtikoddlidhefpaaRows
import Derived.Test.YtikoddlidhefpaaJ1
import Derived.Test.YtikoddlidhefpaaFrameT
import Derived.Test.YtikoddlidhefpaaLawC
import Derived.Test.YtikoddlidhefpaaJ16
import Derived.WalkKit
import Derived.ProofKit
import Derived.OpenShut
import Derived.ShutString
import Derived.ChangeOld
import Derived.Below
import Derived.Lib.QuietBelow
import Derived.BigQuiet
namespace Go.Proofs.Ytikoddlidhefpaa.thriftWrites
open Go.ChangeShapes Go.WideShapes Go.ChangeAt Go.RowKit Go.Deep Go.Sort
set_option linter.unusedVariables false
set_option linter.unusedSimpArgs false

set_option maxRecDepth 100000 in
set_option maxHeartbeats 20000000 in
theorem walk (y0 : Pay) (c0 : Fo) (ia0 : Option Addr) (ic0 : Nat) (la0 : Option Addr) (lc0 : Nat) (w : World) (w0 : VIn w y0 c0 ia0 ic0 la0 lc0) :
    Calls Try.prog 4 #[val y0 c0 ia0 ic0 la0 lc0] w fun e w' => e = .returned (.bool true) ∧ Below w.heap.size w w' := by
  have HV0 : Hid (VIn w y0 c0 ia0 ic0 la0 lc0) := w0
  have hx : (bx w y0 c0 ia0 ic0 la0 lc0).heap[w.heap.size]? = some (.cells #[.int .i64 y0.kind, .int .i64 y0.key, .int .i64 y0.elem, .int .i64 y0.num, .string y0.text, .slice ia0 y0.ids.length ic0, .slice la0 (flen c0) lc0] 26 (0, 0)) := heap_new w _
  have hb0 : Below w.heap.size w (bx w y0 c0 ia0 ic0 la0 lc0) := alloc_below w _
  clear w0
  have SZ0 := size_any y0 c0 (bx w y0 c0 ia0 ic0 la0 lc0) ia0 ic0 la0 lc0 3000 (HV0.out.later hb0) (by omega) (by omega)
  obtain ⟨s0, HS0⟩ : ∃ s, Hid (szL c0 (1 + y0.text.size + y0.ids.length) 3000 = s) := ⟨_, rfl⟩
  rw [HS0.out] at SZ0
  have HX : Hid ((bx w y0 c0 ia0 ic0 la0 lc0).heap[w.heap.size]? = some (.cells #[.int .i64 y0.kind, .int .i64 y0.key, .int .i64 y0.elem, .int .i64 y0.num, .string y0.text, .slice ia0 y0.ids.length ic0, .slice la0 (flen c0) lc0] 26 (0, 0))) := hx
  have HB : Hid (Below w.heap.size w (bx w y0 c0 ia0 ic0 la0 lc0)) := hb0
  clear hx hb0
  go_enter Try.func4, Try.ntmps4
  go_wp2_with fail
  refine SZ0.mono ?_
  rintro e W1 ⟨rfl, hbx⟩
  have hb1 := HB.out.trans (hbx.mono HB.out.size)
  have hx1 := below_at hbx HX.out
  clear SZ0 hbx HX HB
  by_cases c : 3000 < s0
  · go_wp2_with fail
    refine (works_any _).mono ?_
    rintro e W9 ⟨rfl, hb9⟩
    go_wp2_with fail
    go_ret
    exact ⟨rfl, hb1.trans (hb9.mono hb1.size)⟩
  have c' : s0 ≤ 3000 := by omega
  have HBD := sz_bound (p := y0) (c := c0) (by rw [HS0.out]; exact c')
  have hcnt : cntF c0 ≤ 1000000 := by have := cntF_tot c0; omega
  have CP := copied_any y0 c0 W1 ia0 ic0 la0 lc0 (HV0.out.later hb1) (by omega)
  obtain ⟨⟨p0, p1, p2, p3, p4, p5, p6⟩, _⟩ := blk7 hx1
  clear c
  go_wp2_with fail
  refine CP.mono ?_
  rintro e W2 ⟨v2, rfl, hvm, hbx⟩
  obtain ⟨ja, jc, ka, kc, rfl, hmv⟩ := hvm.mv
  have hb2 := hb1.trans (hbx.mono hb1.size)
  have hx2 := below_at hbx hx1
  have hbm := alloc_below W2 (.cells #[.int .i64 y0.kind, .int .i64 y0.key, .int .i64 y0.elem, .int .i64 y0.num, .string y0.text, .slice ja y0.ids.length jc, .slice ka (flen c0) kc] 26)
  have hm3 := heap_new W2 (.cells #[.int .i64 y0.kind, .int .i64 y0.key, .int .i64 y0.elem, .int .i64 y0.num, .string y0.text, .slice ja y0.ids.length jc, .slice ka (flen c0) kc] 26)
  have hb3 := hb2.trans (hbm.mono hb2.size)
  have hx3 := below_at hbm hx2
  have hmv3 := hmv.later hbm
  have hlt2 := lt_of_heap hx2
  clear p0 p1 p2 p3 p4 p5 p6 CP hx1 hbx hvm hmv
  have WR := write_some y0 c0 (W2.alloc (.cells #[.int .i64 y0.kind, .int .i64 y0.key, .int .i64 y0.elem, .int .i64 y0.num, .string y0.text, .slice ja y0.ids.length jc, .slice ka (flen c0) kc] 26)) ja jc ka kc hmv3.vin (by have := HBD.2; omega)
  go_wp2_with fail
  generalize W2.alloc (.cells #[.int .i64 y0.kind, .int .i64 y0.key, .int .i64 y0.elem, .int .i64 y0.num, .string y0.text, .slice ja y0.ids.length jc, .slice ka (flen c0) kc] 26) = W3 at *
  refine WR.mono ?_
  rintro e W4 ⟨hbx, hcase⟩
  have hb4 := hb3.trans (hbx.mono hb3.size)
  have hx4 := below_at hbx hx3
  have hm4 := below_at hbx hm3
  have hmv4 := hmv3.later hbx
  clear WR hx3 hm3 hmv3
  have MY := rMay_any y0 c0 W4 ia0 ic0 la0 lc0 (HV0.out.later hb4)
  have HME : Hid (rmayV y0 c0 32 = mayV y0 c0 32) := may_eq y0 c0 32 (by omega)
  rw [HME.out] at MY
  obtain ⟨⟨p0, p1, p2, p3, p4, p5, p6⟩, _⟩ := blk7 hx4
  rcases hcase with ⟨hk, hm, ba, bc, rfl, hsb, hbc⟩ | ⟨hno, rfl⟩
  · have HOK : Hid (OkV y0 c0) := ⟨32, hm⟩
    have HK : Hid (y0.kind = 12) := hk
    have HLN : Hid ((valB y0 c0).length ≤ 200000) := HBD.2
    rw [hm] at MY
    have h8 := valB_b8 HV0.out hm
    clear hk hm
    clear hbx
    go_wp2_with fail
    refine MY.mono ?_
    rintro e W5 ⟨rfl, hbx⟩
    have hb5 := hb4.trans (hbx.mono hb4.size)
    have hx5 := below_at hbx hx4
    have hm5 := below_at hbx hm4
    have hmv5 := hmv4.later hbx
    have hsb5 := hsb.later hbx
    clear MY hbx hx4 hm4 hmv4 p0 p1 p2 p3 p4 p5 p6 hsb
    have p0' : W5.cell? ⟨w.heap.size, 0, none⟩ = some (.int .i64 12) := by rw [(blk7 hx5).1.1, HK.out]
    go_wp2_with fail
    clear p0'
    have HF : Hid (∀ W, Below W5.heap.size W5 W → (W.cell? ⟨w.heap.size, 0, none⟩ = some (.int .i64 y0.kind) ∧ W.cell? ⟨w.heap.size, 1, none⟩ = some (.int .i64 y0.key) ∧ W.cell? ⟨w.heap.size, 2, none⟩ = some (.int .i64 y0.elem) ∧ W.cell? ⟨w.heap.size, 3, none⟩ = some (.int .i64 y0.num) ∧ W.cell? ⟨w.heap.size, 4, none⟩ = some (.string y0.text) ∧ W.cell? ⟨w.heap.size, 5, none⟩ = some (.slice ia0 y0.ids.length ic0) ∧ W.cell? ⟨w.heap.size, 6, none⟩ = some (.slice la0 (flen c0) lc0)) ∧ (W.cell? ⟨W2.heap.size, 0, none⟩ = some (.int .i64 y0.kind) ∧ W.cell? ⟨W2.heap.size, 1, none⟩ = some (.int .i64 y0.key) ∧ W.cell? ⟨W2.heap.size, 2, none⟩ = some (.int .i64 y0.elem) ∧ W.cell? ⟨W2.heap.size, 3, none⟩ = some (.int .i64 y0.num) ∧ W.cell? ⟨W2.heap.size, 4, none⟩ = some (.string y0.text) ∧ W.cell? ⟨W2.heap.size, 5, none⟩ = some (.slice ja y0.ids.length jc) ∧ W.cell? ⟨W2.heap.size, 6, none⟩ = some (.slice ka (flen c0) kc)) ∧ Sem.run Try.prog (convert 37 9 (.slice ba (valB y0 c0).length bc)) W = .ok (.string (txt (valB y0 c0))) W) := fun W h => ⟨(blk7 (below_at h hx5)).1, (blk7 (below_at h hm5)).1, str_src (hsb5.later h)⟩
    have BY := rby_any y0 c0 w W5.drew ia0 ic0 la0 lc0 HOK.out HV0.out hb5.drew (by have := HLN.out; omega)
    have HBY : Hid (∀ ad c W, W.ownsRow W5.drew.heap.size 5 1 (.slice ad (valB y0 c0).length c) (valB y0 c0).length (c8 (valB y0 c0)) → Sem.run Try.prog (convert 37 9 (.slice ad (valB y0 c0).length c)) W = .ok (.string (txt (valB y0 c0))) W) := fun ad c W h => str_src (src_own h).2
    generalize txt (valB y0 c0) = T at *
    clear HK HOK hsb5 hbc h8 HLN
    have hS0 : Below W5.heap.size W5 W5.drew := (Below.refl _ _).drew
    refine wp_region_held_drew (S := fun W => Below W5.heap.size W5 W) (by kernel_rfl) hS0 (fun hHeld => ?_)
    refine wpAnyH_take (i := 0) (v := ?_) rfl (by kernel_rfl) (by kernel_rfl) (by kernel_rfl) (fun _ _ _ h => h) (Or.inl ⟨by rfl, ?_⟩) (by assumption) ?_
    rotate_left
    · intro w hSw
      have hFW := HF.out w hSw
      go_split_ands
      go_simp
      (try with_reducible rfl)
    (try simp only [Act.put, List.setIfInBounds_toArray, List.set_cons_zero, List.set_cons_succ])
    refine wpAnyH_take (i := 1) (v := ?_) rfl (by kernel_rfl) (by kernel_rfl) (by kernel_rfl) (fun _ _ _ h => h) (Or.inl ⟨by rfl, ?_⟩) (by assumption) ?_
    rotate_left
    · intro w hSw
      have hFW := HF.out w hSw
      go_split_ands
      go_simp
      (try with_reducible rfl)
    (try simp only [Act.put, List.setIfInBounds_toArray, List.set_cons_zero, List.set_cons_succ])
    refine wpAnyH_take (i := 2) (v := ?_) rfl (by kernel_rfl) (by kernel_rfl) (by kernel_rfl) (fun _ _ _ h => h) (Or.inl ⟨by rfl, ?_⟩) (by assumption) ?_
    rotate_left
    · intro w hSw
      have hFW := HF.out w hSw
      go_split_ands
      go_simp
      (try with_reducible rfl)
    (try simp only [Act.put, List.setIfInBounds_toArray, List.set_cons_zero, List.set_cons_succ])
    refine wpAnyH_ready (rs := [3]) (by kernel_rfl) (by simp) ?_
    refine AllReadyH.cons rfl (fun K hK => ?_) AllReadyH.nil
    go_simp
    refine BY.mono ?_
    rintro e W6 ⟨ad6, c6, rfl, hO6, hB6⟩
    have hS6 : Below W5.heap.size W5 W6 := hS0.trans hB6
    have hr6 := HBY.out _ _ _ hO6
    clear hO6 hB6 BY HBY
    go_simp
    refine hK.out _ _ hS6 (fun _ => ?_)
    clear hK K
    (try simp only [Act.put, List.setIfInBounds_toArray, List.set_cons_zero, List.set_cons_succ])
    refine wpAnyH_ready (rs := [4]) (by kernel_rfl) (by simp) ?_
    refine AllReadyH.cons rfl (fun K hK => ?_) AllReadyH.nil
    go_simp
    refine hK.out _ _ hS6 (fun _ => ?_)
    clear hK K hr6
    (try simp only [Act.put, List.setIfInBounds_toArray, List.set_cons_zero, List.set_cons_succ])
    refine wpAnyH_take (i := 5) (v := ?_) rfl (by kernel_rfl) (by kernel_rfl) (by kernel_rfl) (fun _ _ _ h => h) (Or.inl ⟨by rfl, ?_⟩) (by assumption) ?_
    rotate_left
    · intro w hSw
      have hFW := HF.out w hSw
      go_split_ands
      go_simp
      (try with_reducible rfl)
    (try simp only [Act.put, List.setIfInBounds_toArray, List.set_cons_zero, List.set_cons_succ])
    refine wpAnyH_take (i := 6) (v := ?_) rfl (by kernel_rfl) (by kernel_rfl) (by kernel_rfl) (fun _ _ _ h => h) (Or.inl ⟨by rfl, ?_⟩) (by assumption) ?_
    rotate_left
    · intro w hSw
      have hFW := HF.out w hSw
      go_split_ands
      go_simp
      (try with_reducible rfl)
    (try simp only [Act.put, List.setIfInBounds_toArray, List.set_cons_zero, List.set_cons_succ])
    refine wpAnyH_take (i := 7) (v := ?_) rfl (by kernel_rfl) (by kernel_rfl) (by kernel_rfl) (fun _ _ _ h => h) (Or.inl ⟨by rfl, ?_⟩) (by assumption) ?_
    rotate_left
    · intro w hSw
      have hFW := HF.out w hSw
      go_split_ands
      go_simp
      (try with_reducible rfl)
    (try simp only [Act.put, List.setIfInBounds_toArray, List.set_cons_zero, List.set_cons_succ])
    refine wpAnyH_ready (rs := [8]) (by kernel_rfl) (by simp) ?_
    refine AllReadyH.cons rfl (fun K hK => ?_) AllReadyH.nil
    go_simp
    refine (num_any 0 _).mono ?_
    rintro e wx ⟨rfl, hwx⟩
    obtain rfl := hwx.symm
    go_simp
    refine hK.out _ _ hS6 (fun _ => ?_)
    clear hK K
    (try simp only [Act.put, List.setIfInBounds_toArray, List.set_cons_zero, List.set_cons_succ])
    refine wpAnyH_take (i := 9) (v := ?_) rfl (by kernel_rfl) (by kernel_rfl) (by kernel_rfl) (fun _ _ _ h => h) (Or.inl ⟨by rfl, ?_⟩) (by assumption) ?_
    rotate_left
    · intro w hSw
      have hFW := HF.out w hSw
      go_split_ands
      go_simp
      (try with_reducible rfl)
    (try simp only [Act.put, List.setIfInBounds_toArray, List.set_cons_zero, List.set_cons_succ])
    refine wpAnyH_take (i := 10) (v := ?_) rfl (by kernel_rfl) (by kernel_rfl) (by kernel_rfl) (fun _ _ _ h => h) (Or.inl ⟨by rfl, ?_⟩) (by assumption) ?_
    rotate_left
    · intro w hSw
      have hFW := HF.out w hSw
      go_split_ands
      go_simp
      (try with_reducible rfl)
    (try simp only [Act.put, List.setIfInBounds_toArray, List.set_cons_zero, List.set_cons_succ])
    refine wpAnyH_take (i := 11) (v := ?_) rfl (by kernel_rfl) (by kernel_rfl) (by kernel_rfl) (fun _ _ _ h => h) (Or.inl ⟨by rfl, ?_⟩) (by assumption) ?_
    rotate_left
    · intro w hSw
      have hFW := HF.out w hSw
      go_split_ands
      go_simp
      (try with_reducible rfl)
    (try simp only [Act.put, List.setIfInBounds_toArray, List.set_cons_zero, List.set_cons_succ])
    refine wpAnyH_take (i := 12) (v := ?_) rfl (by kernel_rfl) (by kernel_rfl) (by kernel_rfl) (fun _ _ _ h => h) (Or.inl ⟨by rfl, ?_⟩) (by assumption) ?_
    rotate_left
    · intro w hSw
      have hFW := HF.out w hSw
      go_split_ands
      go_simp
      (try with_reducible rfl)
    (try simp only [Act.put, List.setIfInBounds_toArray, List.set_cons_zero, List.set_cons_succ])
    refine wpAnyH_take (i := 13) (v := ?_) rfl (by kernel_rfl) (by kernel_rfl) (by kernel_rfl) (fun _ _ _ h => h) (Or.inl ⟨by rfl, ?_⟩) (by assumption) ?_
    rotate_left
    · intro w hSw
      have hFW := HF.out w hSw
      go_split_ands
      go_simp
      (try with_reducible rfl)
    (try simp only [Act.put, List.setIfInBounds_toArray, List.set_cons_zero, List.set_cons_succ])
    have KP := kept_any y0 c0 W6 ja jc ka kc ia0 ic0 la0 lc0 (hmv5.later hS6) (HV0.out.later (hb5.trans (hS6.mono hb5.size)))
    refine wpAnyH_ready (rs := [14]) (by kernel_rfl) (by simp) ?_
    refine AllReadyH.cons rfl (fun K hK => ?_) AllReadyH.nil
    go_simp
    refine KP.mono ?_
    rintro e W7 ⟨rfl, hbx⟩
    have hS7 : Below W5.heap.size W5 W7 := hS6.trans (hbx.mono hS6.size)
    clear KP hbx
    go_simp
    refine hK.out _ _ hS7 (fun _ => ?_)
    clear hK K
    (try simp only [Act.put, List.setIfInBounds_toArray, List.set_cons_zero, List.set_cons_succ])
    refine wpAnyH_take (i := 15) (v := ?_) rfl (by kernel_rfl) (by kernel_rfl) (by kernel_rfl) (fun _ _ _ h => h) (Or.inl ⟨by rfl, ?_⟩) (by assumption) ?_
    rotate_left
    · intro w hSw
      have hFW := HF.out w hSw
      go_split_ands
      go_simp
      (try with_reducible rfl)
    (try simp only [Act.put, List.setIfInBounds_toArray, List.set_cons_zero, List.set_cons_succ])
    refine wpAnyH_take (i := 16) (v := ?_) rfl (by kernel_rfl) (by kernel_rfl) (by kernel_rfl) (fun _ _ _ h => h) (Or.inl ⟨by rfl, ?_⟩) (by assumption) ?_
    rotate_left
    · intro w hSw
      have hFW := HF.out w hSw
      go_split_ands
      go_simp
      (try with_reducible rfl)
    (try simp only [Act.put, List.setIfInBounds_toArray, List.set_cons_zero, List.set_cons_succ])
    refine wpAnyH_ready (rs := [17]) (by kernel_rfl) (by simp) ?_
    refine AllReadyH.cons rfl (fun K hK => ?_) AllReadyH.nil
    go_simp
    refine (works_any _).mono ?_
    rintro e W8 ⟨rfl, hbz⟩
    have hS8 : Below W5.heap.size W5 W8 := hS7.trans (hbz.mono hS7.size)
    clear hbz
    go_simp
    refine hK.out _ _ hS8 (fun _ => ?_)
    clear hK K
    (try simp only [Act.put, List.setIfInBounds_toArray, List.set_cons_zero, List.set_cons_succ])
    refine wpAnyH_take (i := 18) (v := ?_) rfl (by kernel_rfl) (by kernel_rfl) (by kernel_rfl) (fun _ _ _ h => h) (Or.inl ⟨by rfl, ?_⟩) (by assumption) ?_
    rotate_left
    · intro w hSw
      have hFW := HF.out w hSw
      go_split_ands
      go_simp
      (try with_reducible rfl)
    (try simp only [Act.put, List.setIfInBounds_toArray, List.set_cons_zero, List.set_cons_succ])
    refine wpAnyH_ready (rs := [19]) (by kernel_rfl) (by simp) ?_
    refine AllReadyH.cons rfl (fun K hK => ?_) AllReadyH.nil
    go_simp
    refine hK.out _ _ hS8 (fun _ => ?_)
    clear hK K
    refine wpAnyH_done (by kernel_rfl) ?_ _
    go_wp2_with fail
    go_ret
    exact ⟨rfl, hb5.trans (hS8.mono hb5.size)⟩
  · clear hbx
    obtain ⟨t, HT⟩ : ∃ t, Hid (mayV y0 c0 32 = t) := ⟨_, rfl⟩
    rw [HT.out] at MY
    cases t
    · go_wp2_with fail
      refine MY.mono ?_
      rintro e W5 ⟨rfl, hbx⟩
      have hb5 := hb4.trans (hbx.mono hb4.size)
      have hx5 := below_at hbx hx4
      have hm5 := below_at hbx hm4
      have hmv5 := hmv4.later hbx
      clear MY hbx hx4 hm4 hmv4 p0 p1 p2 p3 p4 p5 p6
      obtain ⟨⟨p0, p1, p2, p3, p4, p5, p6⟩, _⟩ := blk7 hm5
      obtain ⟨⟨q0, q1, q2, q3, q4, q5, q6⟩, _⟩ := blk7 hx5
      go_wp2_with fail
      refine (num_any 2 _).mono ?_
      rintro e wx ⟨rfl, hwx⟩
      obtain rfl := hwx.symm
      go_wp2_with fail
      have KP := kept_any y0 c0 W5 ja jc ka kc ia0 ic0 la0 lc0 hmv5 (HV0.out.later hb5)
      refine KP.mono ?_
      rintro e W6 ⟨rfl, hbx⟩
      have hb6 := hb5.trans (hbx.mono hb5.size)
      go_wp2_with fail
      refine (works_any _).mono ?_
      rintro e W7 ⟨rfl, hbz⟩
      go_wp2_with fail
      go_ret
      exact ⟨rfl, hb6.trans (hbz.mono hb6.size)⟩
    · have hkn : (y0.kind != 12) = true := by
        have h := HT.out
        simp only [bne_iff_ne, ne_eq]
        exact fun h2 => hno ⟨h2, h⟩
      have hkn2 : ¬ y0.kind = 12 := by simpa using hkn
      clear hno
      go_wp2_with fail
      refine MY.mono ?_
      rintro e W5 ⟨rfl, hbx⟩
      have hb5 := hb4.trans (hbx.mono hb4.size)
      have hx5 := below_at hbx hx4
      have hm5 := below_at hbx hm4
      have hmv5 := hmv4.later hbx
      clear MY hbx hx4 hm4 hmv4 p0 p1 p2 p3 p4 p5 p6
      obtain ⟨⟨p0, p1, p2, p3, p4, p5, p6⟩, _⟩ := blk7 hm5
      obtain ⟨⟨q0, q1, q2, q3, q4, q5, q6⟩, _⟩ := blk7 hx5
      go_wp2_with fail
      refine (num_any 2 _).mono ?_
      rintro e wx ⟨rfl, hwx⟩
      obtain rfl := hwx.symm
      go_wp2_with fail
      have KP := kept_any y0 c0 W5 ja jc ka kc ia0 ic0 la0 lc0 hmv5 (HV0.out.later hb5)
      refine KP.mono ?_
      rintro e W6 ⟨rfl, hbx⟩
      have hb6 := hb5.trans (hbx.mono hb5.size)
      go_wp2_with fail
      refine (works_any _).mono ?_
      rintro e W7 ⟨rfl, hbz⟩
      go_wp2_with fail
      go_ret
      exact ⟨rfl, hb6.trans (hbz.mono hb6.size)⟩

set_option maxRecDepth 100000 in
theorem lifted (os : Os) (started : os.Started) (H : Type) (enc : TypeId × Value → H) :
    ReturnsInHanded {} Try.checked os 4 .any (Rows.thriftWritesSpec.pre6 enc Try.prog Try.f4 Rows.thriftWritesRow.domain false) (Rows.thriftWritesSpec.post enc Try.prog Try.f4 false true false false) := by
  refine returnsInHanded_of_change_sized (C := Try.checked) own started (by kernel_rfl) Try.func4
    (ChangeSpec.witness6 (enc := enc) (C := Try.checked) false ⟨#[], #[.agg #[.int .i64 0, .int .i64 0, .int .i64 0, .int .i64 0, .string { data := #[] }, .slice none 0 0, .slice none 0 0]], []⟩ 8 (by kernel_rfl) (by kernel_rfl) (by kernel_rfl) (by kernel_rfl)) ?_
  intro W base args ds gs before hval0 hW hcnd hsz0 _
  have hsz : (DataW.weightsEach Try.prog (Try.f4.params.toList ++ Rows.thriftWritesSpec.plain.varTypes Try.prog) (ds ++ gs)).all (· ≤ reachBytes) = true := hsz0
  clear hsz0
  have hval : ∀ (j : Nat) t v, Try.f4.params[j]? = some t → args[j]? = some v → Value.okWide Try.prog W .any base t v := hval0
  have hW' := hW
  obtain ⟨p, q, hA0, hV, rfl, hfz, hnd⟩ := hW
  have hA : DataW.TrodAll enc Try.prog W 0 (fun _ => true) true Try.f4.params.toList args.toList ds p := hA0
  rw [Try.params4] at hA hval hsz
  obtain ⟨v0, vs0, d0, ds0, p0, q0, hargs, rfl, rfl, h0, r0⟩ := trodAll_cons hA
  obtain ⟨rfl, rfl, rfl⟩ := trodAll_nil r0
  obtain rfl : args = #[v0] := by cases args; simp_all
  obtain ⟨rfl, rfl⟩ := trodVars_none hV
  have k0 := h0
  have lt0 : ∀ x ∈ p0, x.block < W.heap.size := by obtain ⟨m, hm⟩ := k0; exact DataW.trod_lt m _ _ _ hm
  obtain ⟨y0, c0, ia0, ic0, la0, lc0, rfl, w0⟩ := arg_th hsz 0 rfl rfl (hval 0 26 v0 rfl rfl) h0
  clear hA0 hval0
  refine (walk y0 c0 ia0 ic0 la0 lc0 W w0).mono fun e W' ⟨he, bel⟩ => ?_
  subst he
  exact ⟨_, rfl, _, _, _, [], _, [], hW', trodAll_mk1 (shut_bool Try.underlying4 _), (trodAll_cons_mk (Below.trod laidOut (by kernel_rfl) (of_decide_eq_true (by kernel_rfl)) k0 bel lt0) trodAll_mk0), rfl, bel.frame _, fun h => by cases h⟩

theorem over : Rows.thriftWritesRow.holds Try.pinned (OpenSpec.ofChange Rows.thriftWritesSpec) :=
  OpenClaim.holds_of_wide 4 Try.f4 rfl rfl rfl rfl rfl rfl rfl ⟨rfl, rfl, rfl, rfl, rfl⟩ rfl rfl rfl rfl rfl (by kernel_rfl) Try.func4 (by kernel_rfl)
    (of_decide_eq_true (by kernel_rfl)) (by unfold Func.isWrapper; first | (rw [if_pos (by decide +kernel)]; kernel_rfl) | (rw [if_neg (by decide +kernel)]; exact ⟨rfl, rfl⟩))
    (fun os started H enc _ => lifted os started H enc)

theorem proved : Rows.ThriftWritesSaid := over
#print axioms proved
end Go.Proofs.Ytikoddlidhefpaa.thriftWrites
namespace Go.Proofs.Ytikoddlidhefpaa
theorem thriftWrites_holds : Rows.ThriftWritesSaid := thriftWrites.proved
end Go.Proofs.Ytikoddlidhefpaa
