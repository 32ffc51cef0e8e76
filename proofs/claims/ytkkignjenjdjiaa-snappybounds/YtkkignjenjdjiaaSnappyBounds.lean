/-
Of 1048576 noughts snappy.Squeeze makes a block of no more bytes than Most tells, which Open makes them of again by the bound 1048576, ErrLong by one less, ErrArg by one more; of one byte more Squeeze is ErrLong and Most 0. No condition.
-/
import Derived.Test.YtkkignjenjdjiaaRows
import Derived.Test.YtkkignjenjdjiaaFrame
import Derived.Test.YtkkignjenjdjiaaWorks
import Derived.WalkKit
import Derived.ProofKit
import Derived.OpenShut
import Derived.ShutString
import Derived.ChangeOld
import Derived.Below
namespace Go.Proofs.Ytkkignjenjdjiaa.snappyBounds
open Go.ChangeShapes Go.WideShapes Go.ChangeAt Go.RowKit
set_option linter.unusedVariables false
set_option linter.unusedSimpArgs false

set_option maxRecDepth 100000 in
set_option maxHeartbeats 4000000 in
theorem walk  (w : World)  :
    Calls Try.prog 6 #[] w fun e w' => e = .returned (.bool true) ∧ Below w.heap.size w w' := by
  obtain ⟨i0, hi0, hz0, hz1, hz2⟩ := info_parts infoU8
  obtain ⟨N, hN⟩ : ∃ N : Nat, N = 1048577 := ⟨_, rfl⟩
  have HN : Hid (N = 1048577) := hN
  have HNi : Hid ((1048577 : Int) = (N : Int)) := by show _ = _; omega
  have hN1 : (1048576 : Int) ≤ (N : Int) := by omega
  have HB : Hid (i0.bytes * N ≤ 281474976710656 ∧ N ≤ maxLen) := ⟨by rw [hz2]; omega, by unfold maxLen; omega⟩
  obtain ⟨n, hn⟩ : ∃ n : Nat, n = 1048576 := ⟨_, rfl⟩
  have HSQ : ∀ W ad, Src W ad N N (List.replicate N (.int .u8 0)) → Calls Try.prog 18 #[.slice ad n N] W fun e w' => ∃ b c ad2 cc2, e = .returned (.tuple #[.slice ad2 c.length cc2, .int .i64 0]) ∧ Src w' ad2 c.length cc2 (c8 c) ∧ c.length ≤ cc2 ∧ b.length = n ∧ Sqz b c ∧ Below W.heap.size W w' := by
    intro W ad h
    obtain ⟨b, hbl, hb8, hbs⟩ : ∃ b : List Nat, b.length = n ∧ (∀ c ∈ b, c < 256) ∧ Src W ad n N (c8 b) := by
      refine ⟨List.replicate n 0, List.length_replicate, fun c hc => by have := (List.mem_replicate.1 hc).2; omega, ?_⟩
      have e : List.replicate N (Value.int .u8 0) = c8 (List.replicate N 0) := by unfold c8; rw [List.map_replicate]; rfl
      rw [e] at h
      have := src_take h (n := n) (by omega)
      rwa [List.take_replicate, show min n N = n by omega] at this
    have Z := squeeze_src W ad b N (by rw [hbl]; exact hbs) hb8 (by omega) (by omega)
    rw [hbl] at Z
    exact Z.mono fun e w' ⟨c, ad2, cc2, q1, q2, q3, q4, q5⟩ => ⟨b, c, ad2, cc2, q1, q2, q3, hbl, q4, q5⟩
  have HQ : Hid _ := HSQ
  have SL := fun W ad => squeeze_long W ad N N (by omega)
  have MO := fun W => most_in n W (by omega)
  have hmo : ((n + n / 6 + 32 : Nat) : Int) = 1223370 := by omega
  rw [hmo] at MO
  have hni : (n : Int) = 1048576 := by omega
  rw [hni] at MO
  have MO2 := fun W => most_out 1048577 W (by omega)
  have Hn : Hid (n = 1048576) := hn
  have Hn2 : Hid ((1048576 : Int) = (n : Int)) := by show _ = _; omega
  clear hN HSQ hmo hni
  go_enter Try.func6, Try.ntmps6
  go_wp2_with (refine wpList_make_full _ rfl (.const (.int .i64 1048577)) (.const (.int .i64 1048577)) 22 rfl w.heap.size 5 i0 (.int .u8 0) 1 Try.underlying22 hi0 hz0 hz1 .i64 .i64 _ _ N rfl rfl HNi.out HNi.out HB.out.1 HB.out.2 (Nat.le_refl _) ?_; intro W1 hown1 hg1; have HO1 : Hid _ := hown1; have hb1 : Below w.heap.size w W1 := (Below.refl _ w).grown hg1 (Nat.le_refl _) (fun k hk => by cases hk); clear hown1 hg1)
  have hsrc : Src W1 (some ⟨w.heap.size, 0, none⟩) N N (List.replicate N (.int .u8 0)) := by
    have h0 := (src_own HO1.out).2
    rw [show (Value.int IntKind.u8 0).cells = #[.int .u8 0] from rfl, Nat.mul_one, toList_madeCells_one] at h0
    exact h0
  have SQ := HQ.out W1 _ hsrc
  rw [Hn.out] at SQ
  clear hsrc HO1 HQ hn
  refine SQ.mono ?_
  rintro e W2 ⟨b, k, ad2, cc2, rfl, hs2, hc2, hbl, hq, hb2⟩
  have hb02 := hb1.trans (hb2.mono hb1.size)
  have hkl := sqz_len hq (by rw [hbl]; exact Nat.le_refl _)
  have hso := fun m : Int => sqz_open hq (by rw [hbl]; exact Nat.le_refl _) m
  rw [hbl] at hkl hso
  have O1 := open_ok W2 ad2 k b cc2 1048576 hs2 hc2 hq.b8 (by omega) (by rw [hso, if_neg (by omega), if_neg (by omega)])
  rw [hbl] at O1
  have O2 := fun W (h : Below W2.heap.size W2 W) => open_no W ad2 k cc2 1048575 3 (hs2.later h) hc2 hq.b8 (by omega) (by rw [hso, if_neg (by omega), if_pos (by omega)])
  have O3 := fun W (h : Below W2.heap.size W2 W) => open_no W ad2 k cc2 1048577 2 (hs2.later h) hc2 hq.b8 (by omega) (by rw [hso, if_pos (by omega)])
  obtain ⟨kl, hkd⟩ : ∃ kl, kl = k.length := ⟨_, rfl⟩
  obtain ⟨K, hK⟩ : ∃ K : Int, K = (kl : Int) := ⟨_, rfl⟩
  have hKi : (kl : Int) = K := hK.symm
  have hK2 : K ≤ 1223370 := by omega
  rw [← hkd] at O1 O2 O3 ⊢
  clear SQ hkl hso hs2 hq hkd hK hbl hc2
  go_wp2_with fail
  refine O1.mono ?_
  rintro e W3 ⟨hb3, ad3, cc3, rfl, hs3⟩
  have hb23 := hb3
  have hb03 := hb02.trans (hb3.mono hb02.size)
  clear hs3 O1
  go_wp2_with fail
  refine (O2 W3 hb23).mono ?_
  rintro e W4 ⟨hb4, rfl⟩
  have hb24 := hb23.trans (hb4.mono hb23.size)
  have hb04 := hb03.trans (hb4.mono hb03.size)
  clear O2
  go_wp2_with fail
  refine (SL W4 _).mono ?_
  rintro e wx ⟨rfl, hwx⟩
  obtain rfl := hwx.symm
  go_wp2_with fail
  refine (O3 W4 hb24).mono ?_
  rintro e W5 ⟨hb5, rfl⟩
  have hb05 := hb04.trans (hb5.mono hb04.size)
  clear O3 SL
  go_wp2_with fail
  refine (num_any 0 W5).mono ?_
  rintro e wx ⟨rfl, hwx⟩
  obtain rfl := hwx.symm
  go_wp2_with fail
  refine (MO W5).mono ?_
  rintro e wx ⟨rfl, hwx⟩
  obtain rfl := hwx.symm
  go_wp2_with fail
  refine (num_any 0 W5).mono ?_
  rintro e wx ⟨rfl, hwx⟩
  obtain rfl := hwx.symm
  go_wp2_with fail
  refine (num_any 3 W5).mono ?_
  rintro e wx ⟨rfl, hwx⟩
  obtain rfl := hwx.symm
  go_wp2_with fail
  refine (num_any 3 W5).mono ?_
  rintro e wx ⟨rfl, hwx⟩
  obtain rfl := hwx.symm
  go_wp2_with fail
  refine (num_any 2 W5).mono ?_
  rintro e wx ⟨rfl, hwx⟩
  obtain rfl := hwx.symm
  go_wp2_with fail
  refine (MO2 W5).mono ?_
  rintro e wx ⟨rfl, hwx⟩
  obtain rfl := hwx.symm
  go_wp2_with fail
  refine (works_any W5).mono ?_
  rintro e W6 ⟨rfl, hb6⟩
  go_wp2_with fail
  go_ret
  exact ⟨rfl, hb05.trans (hb6.mono hb05.size)⟩

set_option maxRecDepth 100000 in
theorem lifted (os : Os) (started : os.Started) (H : Type) (enc : TypeId × Value → H) :
    ReturnsInHanded {} Try.checked os 6 .any (Rows.snappyBoundsSpec.pre6 enc Try.prog Try.f6 Rows.snappyBoundsRow.domain false) (Rows.snappyBoundsSpec.post enc Try.prog Try.f6 false true false false) := by
  refine returnsInHanded_of_change (C := Try.checked) own started (by kernel_rfl) Try.func6
    (ChangeSpec.witness6 (enc := enc) (C := Try.checked) false ⟨#[], #[], []⟩ 8 (by kernel_rfl) (by kernel_rfl) (by kernel_rfl) (by kernel_rfl)) ?_
  intro W base args ds gs before hval0 hW hcnd _
  have hval : ∀ (j : Nat) t v, Try.f6.params[j]? = some t → args[j]? = some v → Value.okWide Try.prog W .any base t v := hval0
  have hW' := hW
  obtain ⟨p, q, hA0, hV, rfl, hfz, hnd⟩ := hW
  have hA : DataW.TrodAll enc Try.prog W 0 (fun _ => true) true Try.f6.params.toList args.toList ds p := hA0
  rw [Try.params6] at hA hval
  obtain ⟨hargs, rfl, rfl⟩ := trodAll_nil hA
  obtain rfl : args = #[] := by cases args; simp_all
  obtain ⟨rfl, rfl⟩ := trodVars_none hV
  clear hA0 hval0
  refine (walk  W ).mono fun e W' ⟨he, bel⟩ => ?_
  subst he
  exact ⟨_, rfl, _, _, _, [], _, [], hW', trodAll_mk1 (shut_bool Try.underlying4 _), trodAll_mk0, rfl, bel.frame _, fun h => by cases h⟩

theorem over : Rows.snappyBoundsRow.holds Try.pinned (OpenSpec.ofChange Rows.snappyBoundsSpec) :=
  OpenClaim.holds_of_wide 6 Try.f6 rfl rfl rfl rfl rfl rfl rfl ⟨rfl, rfl, rfl, rfl, rfl⟩ rfl rfl rfl rfl rfl (by kernel_rfl) Try.func6 (by kernel_rfl)
    (of_decide_eq_true (by kernel_rfl)) (by unfold Func.isWrapper; first | (rw [if_pos (by decide +kernel)]; kernel_rfl) | (rw [if_neg (by decide +kernel)]; exact ⟨rfl, rfl⟩))
    (fun os started H enc _ => lifted os started H enc)

theorem proved : Rows.SnappyBoundsSaid := over
#print axioms proved
end Go.Proofs.Ytkkignjenjdjiaa.snappyBounds
namespace Go.Proofs.Ytkkignjenjdjiaa
theorem snappyBounds_holds : Rows.SnappyBoundsSaid := snappyBounds.proved
end Go.Proofs.Ytkkignjenjdjiaa
