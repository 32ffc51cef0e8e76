/-
For any type, any data (at most 200, of at most 2000 bytes together), any bytes (at most 2000) and any count: what Write writes, Read reads as it was; what Read reads of any bytes, Write writes as the same bytes. No condition.
-/
import Derived.Test.YtfocmlajeflenaaRows
import Derived.Test.YtfocmlajeflenaaFrame
import Derived.Test.YtfocmlajeflenaaPlBo
import Derived.Test.YtfocmlajeflenaaPlC
import Derived.Test.YtfocmlajeflenaaPlH
import Derived.Test.YtfocmlajeflenaaSm
import Derived.WalkKit
import Derived.ProofKit
import Derived.OpenShut
import Derived.ShutString
import Derived.ChangeOld
import Derived.ChangeMaps5
import Derived.Below
namespace Go.Proofs.Ytfocmlajeflenaa.plainBack
open Go.ChangeShapes Go.WideShapes Go.ChangeAt Go.RowKit Go.Deep Go.Sort
set_option linter.unusedVariables false
set_option linter.unusedSimpArgs false

set_option maxRecDepth 100000 in
set_option maxHeartbeats 8000000 in
theorem walk (k0 n0 : Int) (a1 : Option Addr) (len1 cap1 : Nat) (l1 : List Dat) (a2 : Option Addr) (len2 cap2 : Nat) (l2 : List Nat) (n2 : Int) (w : World) (g0 : (Lit.int .i64 k0).wf = true) (w0 : (Lit.int .i64 n0).wf = true) (w1 : Data w a1 len1 cap1 l1) (w2 : ByteRow w a2 len2 cap2 l2) (g2 : (Lit.int .i64 n2).wf = true) :
    Calls Try.prog 5 #[.agg #[.int .i64 k0, .int .i64 n0], .slice a1 len1 cap1, .agg #[.slice a2 len2 cap2, .int .i64 n2]] w fun e w' => e = .returned (.bool true) ∧ Below w.heap.size w w' := by
  have ab0 := alloc_below w (.cells #[.int .i64 k0, .int .i64 n0] 24 (0, 0))
  have hx0 := heap_new w (.cells #[.int .i64 k0, .int .i64 n0] 24 (0, 0))
  have ab1 := alloc_below (w.alloc (.cells #[.int .i64 k0, .int .i64 n0] 24 (0, 0))) (.cells #[.slice a2 len2 cap2, .int .i64 n2] 42 (0, 0))
  have hX := heap_new (w.alloc (.cells #[.int .i64 k0, .int .i64 n0] 24 (0, 0))) (.cells #[.slice a2 len2 cap2, .int .i64 n2] 42 (0, 0))
  have hsz : (w.alloc (.cells #[.int .i64 k0, .int .i64 n0] 24 (0, 0))).heap.size = w.heap.size + 1 := Array.size_push _
  rw [hsz] at hX
  have hT := below_at ab1 hx0
  have B0 := ab0.trans (ab1.mono ab0.size)
  have HV := fun W (hb : Below w.heap.size w W) => heavy_any k0 n0 W a1 len1 cap1 l1 (w1.later hb)
  have hl1 := w1.1
  have hln2 := w2.ln
  go_enter Try.func5, Try.ntmps5
  go_wp2_with fail
  refine (HV _ B0).mono ?_
  rintro e W1 ⟨v, rfl, ⟨hv, rfl, hle⟩, hb1⟩
  have b1 := B0.trans (hb1.mono B0.size)
  have hT1 := below_at hb1 hT
  have hX1 := below_at hb1 hX
  clear HV hb1 hT hX hx0 ab0 ab1 B0 hsz
  cases hv
  case true =>
    go_wp2_with fail
    go_ret
    exact ⟨rfl, b1⟩
  have hl200 := hle rfl
  clear hle
  obtain ⟨⟨t0, t1⟩, _⟩ := blk2 hT1
  obtain ⟨⟨x0, x1⟩, _⟩ := blk2 hX1
  by_cases hbig : 2000 < len2
  · have hbig' : (2000 : Int) < (len2 : Int) := by omega
    go_wp2_with fail
    go_ret
    exact ⟨rfl, b1⟩
  have hbig' : (len2 : Int) ≤ 2000 := by omega
  have hby := w2.byt (by omega)
  obtain ⟨er, l, hok, RP⟩ := read_prog k0 n0 len2 l2 n2 hln2 w2.lt (by omega) (i64_wf g2).1 (i64_wf g2).2
  obtain ⟨hwf, hlen⟩ := rdok_wf hok (by omega) w2.lt
  have hend : (er = 0 ∧ wNo k0 n0 l = 0 ∧ wRes k0 n0 l = l2) ∨ (er ≠ 0 ∧ l = []) := by
    rcases hok with h | h
    · have h0 := h.1
      subst h0
      exact .inl ⟨rfl, wrote_read (.inl h) (by omega) w2.lt⟩
    · exact .inr h
  have RPW := fun W (h : Below w.heap.size w W) => RP W a2 cap2 (hby.later h)
  have PW := pwrite_any k0 n0 W1 a1 len1 cap1 l1 (w1.later b1)
  clear RP hok w2
  by_cases hno1 : wNo k0 n0 l1 = 0
  · rw [hno1, show wRes k0 n0 l1 = wOut k0 l1 from by unfold wRes; rw [if_pos hno1]] at PW
    have RW := read_wrote hno1
    rw [hl1] at RW
    go_wp2_with fail
    refine PW.mono ?_
    rintro e W2 ⟨v2, rfl, ho2, hb2⟩
    obtain ⟨x2, y2, rfl⟩ := own_sl ho2
    have hby2 := wrote_byt hno1 ho2
    have b2 := b1.trans (hb2.mono b1.size)
    have hT2 := below_at hb2 hT1
    have hX2 := below_at hb2 hX1
    clear PW ho2 hT1 hX1 t0 t1 x0 x1
    obtain ⟨⟨t0, t1⟩, _⟩ := blk2 hT2
    obtain ⟨⟨x0, x1⟩, _⟩ := blk2 hX2
    have RW2 := RW W2 x2 y2 hby2
    clear RW
    generalize (wOut k0 l1).length = m2 at *
    go_wp2_with fail
    refine RW2.mono ?_
    rintro e W3 ⟨v3, rfl, ho3, hb3⟩
    obtain ⟨x3, y3, rfl, hd3⟩ := own_data ho3 w1.2.2.2.1 (by omega)
    have b3 := b2.trans (hb3.mono b2.size)
    have hT3 := below_at hb3 hT2
    have hX3 := below_at hb3 hX2
    rw [hl1] at hd3
    have SA := rsameAll_any W3 x3 a1 len1 y3 len1 cap1 l1 l1 hd3 (w1.later b3)
    rw [sameL_refl] at SA
    clear RW2 ho3 hT2 hX2 t0 t1 x0 x1 hby2
    go_wp2_with fail
    refine SA.mono ?_
    rintro e W4 ⟨rfl, hb4⟩
    have b4 := b3.trans (hb4.mono b3.size)
    have hT4 := below_at hb4 hT3
    have hX4 := below_at hb4 hX3
    clear SA hd3 hT3 hX3
    obtain ⟨⟨t0, t1⟩, _⟩ := blk2 hT4
    obtain ⟨⟨x0, x1⟩, _⟩ := blk2 hX4
    go_wp2_with fail
    refine (RPW _ b4).mono ?_
    rintro e W5 ⟨v5, rfl, ho5, hb5⟩
    have b5 := b4.trans (hb5.mono b4.size)
    have hT5 := below_at hb5 hT4
    have hX5 := below_at hb5 hX4
    clear RPW hT4 hX4 t0 t1 x0 x1
    obtain ⟨⟨t0, t1⟩, _⟩ := blk2 hT5
    obtain ⟨⟨x0, x1⟩, _⟩ := blk2 hX5
    rcases hend with ⟨rfl, hno, hres⟩ | ⟨hz, rfl⟩
    · obtain ⟨x5, y5, rfl, hd5⟩ := own_data ho5 hwf (by omega)
      have PW5 := pwrite_any k0 n0 W5 x5 l.length y5 l hd5
      rw [hno, hres] at PW5
      clear ho5
      go_wp2_with fail
      refine PW5.mono ?_
      rintro e W6 ⟨v6, rfl, ho6, hb6⟩
      have b6 := b5.trans (hb6.mono b5.size)
      have s6 := strAt_own ho6
      obtain ⟨x6, y6, rfl⟩ := own_sl ho6
      have q6 := s6 W6 (Below.refl _ _)
      rw [hln2] at q6
      have q7 : Sem.run Try.prog (convert 27 9 (.slice a2 len2 cap2)) W6 = .ok (.string (strOfNums (ints l2))) W6 := str_src (hby.later b6).src
      have hX6 := below_at hb6 hX5
      clear x0 x1 t0 t1
      obtain ⟨⟨x0, x1⟩, _⟩ := blk2 hX6
      clear PW5 ho6 s6
      go_wp2_with fail
      go_ret
      exact ⟨rfl, b6⟩
    · obtain ⟨x5, y5, rfl⟩ := own_sl ho5
      have hz1 : (er == 0) = false := by simpa using hz
      clear ho5
      go_wp2_with fail
      go_ret
      exact ⟨rfl, b5⟩
  · have h1 : (wNo k0 n0 l1 == 0) = false := by simpa using hno1
    go_wp2_with fail
    refine PW.mono ?_
    rintro e W4 ⟨v2, rfl, ho2, hb2⟩
    obtain ⟨x2, y2, rfl⟩ := own_sl ho2
    have b4 := b1.trans (hb2.mono b1.size)
    have hT4 := below_at hb2 hT1
    have hX4 := below_at hb2 hX1
    clear PW ho2 hT1 hX1 t0 t1 x0 x1
    generalize wNo k0 n0 l1 = er1 at *
    obtain ⟨⟨t0, t1⟩, _⟩ := blk2 hT4
    obtain ⟨⟨x0, x1⟩, _⟩ := blk2 hX4
    go_wp2_with fail
    refine (RPW _ b4).mono ?_
    rintro e W5 ⟨v5, rfl, ho5, hb5⟩
    have b5 := b4.trans (hb5.mono b4.size)
    have hT5 := below_at hb5 hT4
    have hX5 := below_at hb5 hX4
    clear RPW hT4 hX4 t0 t1 x0 x1
    obtain ⟨⟨t0, t1⟩, _⟩ := blk2 hT5
    obtain ⟨⟨x0, x1⟩, _⟩ := blk2 hX5
    rcases hend with ⟨rfl, hno, hres⟩ | ⟨hz, rfl⟩
    · obtain ⟨x5, y5, rfl, hd5⟩ := own_data ho5 hwf (by omega)
      have PW5 := pwrite_any k0 n0 W5 x5 l.length y5 l hd5
      rw [hno, hres] at PW5
      clear ho5
      go_wp2_with fail
      refine PW5.mono ?_
      rintro e W6 ⟨v6, rfl, ho6, hb6⟩
      have b6 := b5.trans (hb6.mono b5.size)
      have s6 := strAt_own ho6
      obtain ⟨x6, y6, rfl⟩ := own_sl ho6
      have q6 := s6 W6 (Below.refl _ _)
      rw [hln2] at q6
      have q7 : Sem.run Try.prog (convert 27 9 (.slice a2 len2 cap2)) W6 = .ok (.string (strOfNums (ints l2))) W6 := str_src (hby.later b6).src
      have hX6 := below_at hb6 hX5
      clear x0 x1 t0 t1
      obtain ⟨⟨x0, x1⟩, _⟩ := blk2 hX6
      clear PW5 ho6 s6
      go_wp2_with fail
      go_ret
      exact ⟨rfl, b6⟩
    · obtain ⟨x5, y5, rfl⟩ := own_sl ho5
      have hz1 : (er == 0) = false := by simpa using hz
      clear ho5
      go_wp2_with fail
      go_ret
      exact ⟨rfl, b5⟩

set_option maxRecDepth 100000 in
theorem lifted (os : Os) (started : os.Started) (H : Type) (enc : TypeId × Value → H) :
    ReturnsInHanded {} Try.checked os 5 .any (Rows.plainBackSpec.pre6 enc Try.prog Try.f5 Rows.plainBackRow.domain false) (Rows.plainBackSpec.post enc Try.prog Try.f5 false true false false) := by
  refine returnsInHanded_of_change_sized (C := Try.checked) own started (by kernel_rfl) Try.func5
    (ChangeSpec.witness6 (enc := enc) (C := Try.checked) false ⟨#[], #[.agg #[.int .i64 0, .int .i64 0], .slice none 0 0, .agg #[.slice none 0 0, .int .i64 0]], []⟩ 8 (by kernel_rfl) (by kernel_rfl) (by kernel_rfl) (by kernel_rfl)) ?_
  intro W base args ds gs before hval0 hW hcnd hsz0 _
  have hsz : (DataW.weightsEach Try.prog (Try.f5.params.toList ++ Rows.plainBackSpec.plain.varTypes Try.prog) (ds ++ gs)).all (· ≤ reachBytes) = true := hsz0
  clear hsz0
  have hval : ∀ (j : Nat) t v, Try.f5.params[j]? = some t → args[j]? = some v → Value.okWide Try.prog W .any base t v := hval0
  have hW' := hW
  obtain ⟨p, q, hA0, hV, rfl, hfz, hnd⟩ := hW
  have hA : DataW.TrodAll enc Try.prog W 0 (fun _ => true) true Try.f5.params.toList args.toList ds p := hA0
  rw [Try.params5] at hA hval hsz
  obtain ⟨v0, vs0, d0, ds0, p0, q0, hargs, rfl, rfl, h0, r0⟩ := trodAll_cons hA
  obtain ⟨v1, vs1, d1, ds1, p1, q1, rfl, rfl, rfl, h1, r1⟩ := trodAll_cons r0
  obtain ⟨v2, vs2, d2, ds2, p2, q2, rfl, rfl, rfl, h2, r2⟩ := trodAll_cons r1
  obtain ⟨rfl, rfl, rfl⟩ := trodAll_nil r2
  obtain rfl : args = #[v0, v1, v2] := by cases args; simp_all
  obtain ⟨rfl, rfl⟩ := trodVars_none hV
  have e0 := h0
  have lt0 : ∀ x ∈ p0, x.block < W.heap.size := by obtain ⟨m, hm⟩ := e0; exact DataW.trod_lt m _ _ _ hm
  obtain ⟨k0, n0, rfl, g0, w0⟩ := arg_type (hval 0 24 v0 rfl rfl) h0
  have e1 := h1
  have lt1 : ∀ x ∈ p1, x.block < W.heap.size := by obtain ⟨m, hm⟩ := e1; exact DataW.trod_lt m _ _ _ hm
  obtain ⟨a1, len1, cap1, l1, rfl, w1⟩ := arg_data hsz 1 rfl rfl (hval 1 25 v1 rfl rfl) h1
  have e2 := h2
  have lt2 : ∀ x ∈ p2, x.block < W.heap.size := by obtain ⟨m, hm⟩ := e2; exact DataW.trod_lt m _ _ _ hm
  obtain ⟨a2, len2, cap2, l2, n2, rfl, w2, g2⟩ := arg_pb (hval 2 42 v2 rfl rfl) h2
  clear hA0 hval0
  refine (walk k0 n0 a1 len1 cap1 l1 a2 len2 cap2 l2 n2 W g0 w0 w1 w2 g2).mono fun e W' ⟨he, bel⟩ => ?_
  subst he
  exact ⟨_, rfl, _, _, _, [], _, [], hW', trodAll_mk1 (shut_bool Try.underlying4 _), (trodAll_cons_mk (Below.trod laidOut (by kernel_rfl) (of_decide_eq_true (by kernel_rfl)) e0 bel lt0) (trodAll_cons_mk (Below.trod laidOut (by kernel_rfl) (of_decide_eq_true (by kernel_rfl)) e1 bel lt1) (trodAll_cons_mk (Below.trod laidOut (by kernel_rfl) (of_decide_eq_true (by kernel_rfl)) e2 bel lt2) trodAll_mk0))), rfl, bel.frame _, fun h => by cases h⟩

theorem over : Rows.plainBackRow.holds Try.pinned (OpenSpec.ofChange Rows.plainBackSpec) :=
  OpenClaim.holds_of_wide 5 Try.f5 rfl rfl rfl rfl rfl rfl rfl ⟨rfl, rfl, rfl, rfl, rfl⟩ rfl rfl rfl rfl rfl (by kernel_rfl) Try.func5 (by kernel_rfl)
    (of_decide_eq_true (by kernel_rfl)) (by unfold Func.isWrapper; first | (rw [if_pos (by decide +kernel)]; kernel_rfl) | (rw [if_neg (by decide +kernel)]; exact ⟨rfl, rfl⟩))
    (fun os started H enc _ => lifted os started H enc)

theorem proved : Rows.PlainBackSaid := over
#print axioms proved
end Go.Proofs.Ytfocmlajeflenaa.plainBack
namespace Go.Proofs.Ytfocmlajeflenaa
theorem plainBack_holds : Rows.PlainBackSaid := plainBack.proved
end Go.Proofs.Ytfocmlajeflenaa
