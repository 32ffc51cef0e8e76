/-
For any bytes (of at most 6000; else, and where they say to make more than 100000, the law asks the examples alone) what snappy.Open makes has the length that Length tells, and a block that is opened is ErrExtra with any byte more and ErrShort with its last byte left out; bytes that are not opened make nothing. No condition.
-/
import Derived.Test.YtkkignjenjdjiaaRows
import Derived.Test.YtkkignjenjdjiaaFrame
import Derived.Test.YtkkignjenjdjiaaWorks
import Derived.Test.YtkkignjenjdjiaaWhole
import Derived.WalkKit
import Derived.ProofKit
import Derived.OpenShut
import Derived.ShutString
import Derived.ChangeOld
import Derived.Below
namespace Go.Proofs.Ytkkignjenjdjiaa.snappyWhole
open Go.ChangeShapes Go.WideShapes Go.ChangeAt Go.RowKit
set_option linter.unusedVariables false
set_option linter.unusedSimpArgs false

set_option maxRecDepth 100000 in
set_option maxHeartbeats 4000000 in
theorem walk (a0 : Option Addr) (len0 cap0 : Nat) (z0 : List Int) (a1 : Int) (w : World) (w0 : IsRow .u8 w a0 len0 cap0 z0) (w1 : (Lit.int .u8 a1).wf = true) :
    Calls Try.prog 8 #[.slice a0 len0 cap0, .int .u8 a1] w fun e w' => e = .returned (.bool true) ∧ Below w.heap.size w w' := by
  by_cases c : 6000 < len0
  · have c' : (6000 : Int) < (len0 : Int) := by omega
    go_enter Try.func8, Try.ntmps8
    go_wp2_with fail
    refine (works_any w).mono ?_
    rintro e W1 ⟨rfl, hb1⟩
    go_wp2
    go_ret
    exact ⟨rfl, hb1⟩
  have c' : (len0 : Int) ≤ 6000 := by omega
  obtain ⟨l, hl, hB, hs⟩ := row_nat w0
  have hcap : len0 ≤ cap0 := by have := w0.len_le; omega
  have LA := length_any w a0 l cap0 (by rw [hl]; exact hs) (by omega) hB (by omega)
  rw [hl] at LA
  cases hn : sNum l with
  | error x =>
    rw [hn] at LA
    have hx : ¬ x = 0 := sNum_err0 hn
    clear w0 w1 hl hB hs hn
    go_enter Try.func8, Try.ntmps8
    go_wp2_with fail
    refine LA.mono ?_
    rintro e W1 ⟨hb1, rfl⟩
    go_wp2_with fail
    refine (num_any x W1).mono ?_
    rintro e wx ⟨rfl, hwx⟩
    obtain rfl := hwx.symm
    go_wp2_with fail
    refine (works_any W1).mono ?_
    rintro e W2 ⟨rfl, hb2⟩
    go_wp2_with fail
    go_ret
    exact ⟨rfl, hb1.trans (hb2.mono hb1.size)⟩
  | ok nr =>
    obtain ⟨n, r⟩ := nr
    simp only [hn] at LA
    by_cases hbig : 100000 < n
    · have hbig' : (100000 : Int) < (n : Int) := by omega
      obtain ⟨M, hM⟩ : ∃ M : Int, M = (n : Int) := ⟨_, rfl⟩
      rw [← hM] at LA hbig'
      clear w0 w1 hl hB hs hn hM
      go_enter Try.func8, Try.ntmps8
      go_wp2_with fail
      refine LA.mono ?_
      rintro e W1 ⟨hb1, rfl⟩
      go_wp2_with fail
      refine (num_any 0 W1).mono ?_
      rintro e wx ⟨rfl, hwx⟩
      obtain rfl := hwx.symm
      go_wp2_with fail
      refine (works_any W1).mono ?_
      rintro e W2 ⟨rfl, hb2⟩
      go_wp2_with fail
      go_ret
      exact ⟨rfl, hb1.trans (hb2.mono hb1.size)⟩
    have hsm : (n : Int) ≤ 100000 := by omega
    have hso : ∀ k : List Nat, sOpen k 100000 = sBlock 100000 k := fun k => by unfold sOpen; rw [if_neg (by omega)]; rfl
    cases ho : sBlock 100000 l with
    | error x =>
      have hx : ¬ x = 0 := sBlock_err ho
      have OA := fun W (h : Below w.heap.size w W) => open_no W a0 l cap0 100000 x (by rw [hl]; exact hs.later h) (by omega) hB (by omega) (by rw [hso, ho])
      rw [hl] at OA
      obtain ⟨M, hM⟩ : ∃ M : Int, M = (n : Int) := ⟨_, rfl⟩
      rw [← hM] at LA hsm
      clear w0 w1 hl hB hs hn hM hso ho
      go_enter Try.func8, Try.ntmps8
      go_wp2_with fail
      refine LA.mono ?_
      rintro e W1 ⟨hb1, rfl⟩
      go_wp2_with fail
      refine (num_any 0 W1).mono ?_
      rintro e wx ⟨rfl, hwx⟩
      obtain rfl := hwx.symm
      go_wp2_with fail
      refine (OA W1 hb1).mono ?_
      rintro e W2 ⟨hb2, rfl⟩
      have hb02 := hb1.trans (hb2.mono hb1.size)
      go_wp2_with fail
      refine (num_any x W2).mono ?_
      rintro e wx ⟨rfl, hwx⟩
      obtain rfl := hwx.symm
      go_wp2_with fail
      refine (works_any W2).mono ?_
      rintro e W3 ⟨rfl, hb3⟩
      go_wp2_with fail
      go_ret
      exact ⟨rfl, hb02.trans (hb3.mono hb02.size)⟩
    | ok d =>
      have OA := fun W (h : Below w.heap.size w W) => open_ok W a0 l d cap0 100000 (by rw [hl]; exact hs.later h) (by omega) hB (by omega) (by rw [hso, ho])
      rw [hl] at OA
      obtain ⟨n', r', hn', _, _, hdl⟩ := sBlock_ok ho
      rw [hn] at hn'
      cases hn'
      rw [hdl] at OA
      have hl0 : 0 < len0 := by
        rcases Nat.eq_zero_or_pos len0 with h | h
        · have : l = [] := List.length_eq_zero_iff.1 (by omega)
          rw [this] at hn
          cases hn
        · exact h
      obtain ⟨y, rfl⟩ : ∃ y : Nat, a1 = (y : Int) := by
        have : 0 ≤ a1 ∧ a1 ≤ 255 := by simpa [Lit.wf, IntKind.min, IntKind.max, IntKind.signed, IntKind.bits] using w1
        exact ⟨a1.toNat, by omega⟩
      have hy : y < 256 := by
        have : 0 ≤ (y : Int) ∧ (y : Int) ≤ 255 := by simpa [Lit.wf, IntKind.min, IntKind.max, IntKind.signed, IntKind.bits] using w1
        omega
      have hmore := sBlock_more (c := y) ho
      have OM : ∀ W ad cc, Src W ad (len0 + 1) cc (c8 (l ++ [y])) → len0 + 1 ≤ cc → _ := fun W ad cc h1 h2 => open_no W ad (l ++ [y]) cc 100000 7 (by rw [List.length_append, hl]; exact h1) (by rw [List.length_append, hl]; exact h2) (fun q hq => by
        rcases List.mem_append.1 hq with h | h
        · exact hB q h
        · rw [List.mem_singleton.1 h]; exact hy) (by simp; omega) (by rw [hso, hmore])
      rw [show (l ++ [y]).length = len0 + 1 by simp [hl]] at OM
      obtain ⟨l0, z, hlz⟩ : ∃ l0 z, l = l0 ++ [z] := ⟨l.dropLast, l.getLast (by intro h; rw [h] at hl; simp at hl; omega), (List.dropLast_concat_getLast _).symm⟩
      have hl0l : l0.length = len0 - 1 := by rw [hlz] at hl; simp at hl; omega
      have hless : sBlock 100000 l0 = .error 6 := sBlock_less (c := z) (by rw [← hlz]; exact ho)
      have hs0 : Src w a0 (len0 - 1) cap0 (c8 l0) := by
        have := src_take hs (n := len0 - 1) (by omega)
        rwa [hlz, List.take_left' hl0l] at this
      have OL := fun W (h : Below w.heap.size w W) => open_no W a0 l0 cap0 100000 6 (by rw [hl0l]; exact hs0.later h) (by omega) (fun q hq => hB q (by rw [hlz]; exact List.mem_append_left _ hq)) (by omega) (by rw [hso, hless])
      rw [hl0l] at OL
      obtain ⟨i0, hi0, hz0, hz1, hz2⟩ := info_parts infoU8
      obtain ⟨g0, off0, ha0, _⟩ := src_at hs hl0
      have HS : Hid (Src w a0 len0 cap0 (c8 l)) := hs
      have HM : Hid (0 + len0 ≤ maxLen ∧ (0 + len0) * 1 ≤ 140737488355328 ∧ 0 + len0 + 1 ≤ maxLen ∧ (0 + len0 + 1) * 1 ≤ 140737488355328) := ⟨by unfold maxLen; omega, by omega, by unfold maxLen; omega, by omega⟩
      have HOM : Hid _ := OM
      have HOL : Hid _ := OL
      obtain ⟨M, hM⟩ : ∃ M : Int, M = (n : Int) := ⟨_, rfl⟩
      have hl0' : ¬ (len0 : Int) = 0 := by omega
      obtain ⟨lm, hlm⟩ : ∃ lm, lm = len0 - 1 := ⟨_, rfl⟩
      have hlmi : (len0 : Int) - 1 = (lm : Int) := by omega
      have hlmc : (lm : Int) ≤ (cap0 : Int) := by omega
      have hlml : (lm : Int) ≤ 6000 := by omega
      rw [← hlm] at HOL
      rw [← hM] at LA hsm
      have HMN : Hid ((n : Int) = M) := hM.symm
      have HNN : Hid (n ≤ 100000) := by show _ ≤ _; omega
      subst ha0
      clear w0 w1 hB hs hn hM hso ho hdl hmore hless hs0 OM OL hlz hl0l hlm hl hy
      go_enter Try.func8, Try.ntmps8
      go_wp2_with fail
      refine LA.mono ?_
      rintro e W1 ⟨hb1, rfl⟩
      go_wp2_with fail
      refine (num_any 0 W1).mono ?_
      rintro e wx ⟨rfl, hwx⟩
      obtain rfl := hwx.symm
      go_wp2_with fail
      refine (OA W1 hb1).mono ?_
      rintro e W2 ⟨hb2, ad2, cc2, rfl, hs2⟩
      have hb02 := hb1.trans (hb2.mono hb1.size)
      go_wp2_with fail
      refine (num_any 0 W2).mono ?_
      rintro e wx ⟨rfl, hwx⟩
      obtain rfl := hwx.symm
      have HB2 : Hid (w.heap.size ≤ W2.heap.size) := hb02.size
      have HA : Hid (∀ W3 : World, Below w.heap.size w W3 → w.heap.size ≤ (W3.alloc (.cells #[.int .u8 (y : Int)] 5)).heap.size) := fun W3 h => by have := h.size; simp; omega
      go_wp2_with (first | (at_builtin; refine wpList_append_src rfl (.tmp 48) (.tmp 49) 22 rfl w.heap.size 5 i0 (.int .u8 0) 1 Try.underlying22 hi0 hz0 hz1 hz2 rfl _ _ _ rfl (World.ownsRow_made _ _ 0 HB2.out (Nat.zero_le _) rfl) _ _ _ (c8 l) rfl (HS.out.later (hb02.alloc HB2.out _)) (c8_one l) HM.out.1 HM.out.2.1 (Nat.le_trans HB2.out (by simp)) ?_; intro v3 W3 hown3 hb3; have hb03 : Below w.heap.size w W3 := (hb02.alloc HB2.out _).trans hb3) | (at_builtin; refine wpList_append_own _ rfl (.tmp 50) (.tmp 52) 22 rfl w.heap.size 5 i0 (.int .u8 0) 1 1 Try.underlying22 hi0 hz0 hz1 hz2 rfl (by decide) _ _ _ rfl (hown3.alloc _) ⟨W3.heap.size, 0, none⟩ 1 1 [.int .u8 (y : Int)] rfl rfl (new_news W3 [.int .u8 (y : Int)] 5 (0, 0)) (c8_one [y]) HM.out.2.2.1 HM.out.2.2.2 (HA.out W3 hb03) ?_; intro v4 W4 hown4 hg4 _; obtain ⟨g4, cc4, rfl⟩ := own_some hown4 (Nat.le_add_left _ _); have HO4 : Hid _ := hown4; have HG4 : Hid (Below w.heap.size w W4) := (hb03.alloc hb03.size _).grown hg4 (HA.out W3 hb03) (fun k hk => (hown3.lt k hk).1); clear hown4 hg4))
      have hs4 := (src_own HO4.out).2
      have hcc4 := own_cap HO4.out
      rw [Nat.zero_add, List.nil_append] at hs4
      rw [Nat.zero_add] at hcc4
      have hs4' : Src W4 (some ⟨g4, 0, none⟩) (len0 + 1) cc4 (c8 (l ++ [y])) := by rw [c8_append]; exact hs4
      refine (HOM.out W4 _ cc4 hs4' hcc4).mono ?_
      rintro e W5 ⟨hb5, rfl⟩
      have hb05 := HG4.out.trans (hb5.mono HG4.out.size)
      clear hs4 hs4' HO4 hown3
      go_wp2_with fail
      refine (HOL.out W5 hb05).mono ?_
      rintro e W6 ⟨hb6, rfl⟩
      have hb06 := hb05.trans (hb6.mono hb05.size)
      have hMe := HMN.out
      clear HOM HOL hs2
      go_wp2_with fail
      refine (num_any 7 W6).mono ?_
      rintro e wx ⟨rfl, hwx⟩
      obtain rfl := hwx.symm
      go_wp2_with fail
      refine (num_any 6 W6).mono ?_
      rintro e wx ⟨rfl, hwx⟩
      obtain rfl := hwx.symm
      go_wp2_with fail
      refine (works_any W6).mono ?_
      rintro e W7 ⟨rfl, hb7⟩
      go_wp2_with fail
      go_ret
      exact ⟨rfl, hb06.trans (hb7.mono hb06.size)⟩

set_option maxRecDepth 100000 in
theorem lifted (os : Os) (started : os.Started) (H : Type) (enc : TypeId × Value → H) :
    ReturnsInHanded {} Try.checked os 8 .any (Rows.snappyWholeSpec.pre6 enc Try.prog Try.f8 Rows.snappyWholeRow.domain false) (Rows.snappyWholeSpec.post enc Try.prog Try.f8 false true false false) := by
  refine returnsInHanded_of_change (C := Try.checked) own started (by kernel_rfl) Try.func8
    (ChangeSpec.witness6 (enc := enc) (C := Try.checked) false ⟨#[], #[.slice none 0 0, .int .u8 0], []⟩ 8 (by kernel_rfl) (by kernel_rfl) (by kernel_rfl) (by kernel_rfl)) ?_
  intro W base args ds gs before hval0 hW hcnd _
  have hval : ∀ (j : Nat) t v, Try.f8.params[j]? = some t → args[j]? = some v → Value.okWide Try.prog W .any base t v := hval0
  have hW' := hW
  obtain ⟨p, q, hA0, hV, rfl, hfz, hnd⟩ := hW
  have hA : DataW.TrodAll enc Try.prog W 0 (fun _ => true) true Try.f8.params.toList args.toList ds p := hA0
  rw [Try.params8] at hA hval
  obtain ⟨v0, vs0, d0, ds0, p0, q0, hargs, rfl, rfl, h0, r0⟩ := trodAll_cons hA
  obtain ⟨v1, vs1, d1, ds1, p1, q1, rfl, rfl, rfl, h1, r1⟩ := trodAll_cons r0
  obtain ⟨rfl, rfl, rfl⟩ := trodAll_nil r1
  obtain rfl : args = #[v0, v1] := by cases args; simp_all
  obtain ⟨rfl, rfl⟩ := trodVars_none hV
  obtain ⟨a0, len0, cap0, rfl⟩ := okWide_slice Try.underlying22 (hval 0 22 v0 rfl rfl)
  have k0 := h0
  have lt0 : ∀ x ∈ p0, x.block < W.heap.size := by obtain ⟨m, hm⟩ := k0; exact DataW.trod_lt m _ _ _ hm
  obtain ⟨z0, w0⟩ := row_open h0
  obtain ⟨a1, rfl, rfl, rfl, w1⟩ := open_int Try.underlying5 (hval 1 5 v1 rfl rfl) h1
  clear hA0 hval0
  refine (walk a0 len0 cap0 z0 a1 W w0 w1).mono fun e W' ⟨he, bel⟩ => ?_
  subst he
  exact ⟨_, rfl, _, _, _, [], _, [], hW', trodAll_mk1 (shut_bool Try.underlying4 _), (trodAll_cons_mk (Below.trod laidOut (by kernel_rfl) (of_decide_eq_true (by kernel_rfl)) k0 bel lt0) (trodAll_cons_mk (shut_int Try.underlying5 w1) trodAll_mk0)), rfl, bel.frame _, fun h => by cases h⟩

theorem over : Rows.snappyWholeRow.holds Try.pinned (OpenSpec.ofChange Rows.snappyWholeSpec) :=
  OpenClaim.holds_of_wide 8 Try.f8 rfl rfl rfl rfl rfl rfl rfl ⟨rfl, rfl, rfl, rfl, rfl⟩ rfl rfl rfl rfl rfl (by kernel_rfl) Try.func8 (by kernel_rfl)
    (of_decide_eq_true (by kernel_rfl)) (by unfold Func.isWrapper; first | (rw [if_pos (by decide +kernel)]; kernel_rfl) | (rw [if_neg (by decide +kernel)]; exact ⟨rfl, rfl⟩))
    (fun os started H enc _ => lifted os started H enc)

theorem proved : Rows.SnappyWholeSaid := over
#print axioms proved
end Go.Proofs.Ytkkignjenjdjiaa.snappyWhole
namespace Go.Proofs.Ytkkignjenjdjiaa
theorem snappyWhole_holds : Rows.SnappyWholeSaid := snappyWhole.proved
end Go.Proofs.Ytkkignjenjdjiaa
