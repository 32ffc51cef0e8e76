/-
  For every width, any numbers and any bytes (of at most 500 each; else the law says nothing) and any count: what bits.Pack packs bits.Unpack unpacks as it was, and what bits.Unpack unpacks bits.Pack packs as it was. No condition.
-/
import Derived.Test.YtkbjohkijajcgabRows
import Derived.Test.YtkbjohkijajcgabBack
import Derived.WalkKit
import Derived.ProofKit
import Derived.OpenShut
import Derived.ChangeOld
import Derived.Below
import Derived.Deep.QuietTactic
import Derived.BigQuiet
import Derived.Lib.SmallJoins
import Derived.WalkSmall
namespace Go.Proofs.Ytkbjohkijajcgab.bitsPackBack
open Go.ChangeShapes Go.WideShapes Go.ChangeAt Go.RowKit Go.Joins
set_option linter.unusedVariables false

theorem own : ownKnob Try.prog.godebug = none := by kernel_rfl
theorem laidOut : laidOutB Try.prog = true := by kernel_rfl
theorem cells44 : Try.prog.cellsOf 44 = 4 := by kernel_rfl
theorem row_u64 {w : World} {a : Option Addr} {l c : Nat} {z : List Int} (h : IsRow .u64 w a l c z) : U64 (z.take l) := by
  intro x hx
  have hx' := List.mem_of_mem_take hx
  rcases h with ⟨_, _, _, rfl⟩ | ⟨_, _, _, _, _, _, hw⟩
  · cases hx'
  · simpa [Lit.wf, IntKind.min, IntKind.max, IntKind.signed, IntKind.bits] using hw x hx'

set_option maxRecDepth 100000 in
set_option maxHeartbeats 4000000 in
theorem walk (wd : Int) (al : Option Addr) (ll cl : Nat) (zl : List Int) (ab : Option Addr) (lb cb : Nat) (zb : List Int) (ct : Int) (w : World) (ww : (Lit.int .i64 wd).wf = true) (hrl : IsRow .u64 w al ll cl zl) (hrb : IsRow .u8 w ab lb cb zb) (wc : (Lit.int .i64 ct).wf = true) :
    Calls Try.prog 7 #[.agg #[.int .i64 wd, .slice al ll cl, .slice ab lb cb, .int .i64 ct]] w fun e w' => e = .returned (.bool true) ∧ Below w.heap.size w w' := by
  by_cases c1 : 500 < ll
  · have c1' : (500 : Int) < (ll : Int) := by omega
    go_enter Try.func7, Try.ntmps7
    go_wp2
    go_quiet (fail)
    go_wp2
    go_ret
    exact ⟨rfl, below_drewN ((Below.refl _ w).alloc (Nat.le_refl _) _) nq⟩
  have c1' : (ll : Int) ≤ 500 := by omega
  by_cases c2 : 500 < lb
  · have c2' : (500 : Int) < (lb : Int) := by omega
    go_enter Try.func7, Try.ntmps7
    go_wp2
    go_quiet (fail)
    go_wp2
    go_ret
    exact ⟨rfl, below_drewN ((Below.refl _ w).alloc (Nat.le_refl _) _) nq⟩
  have c2' : (lb : Int) ≤ 500 := by omega
  have sl := hrl.src
  have hu := row_u64 hrl
  have hlen : Hid ((zl.take ll).length = ll) := by have := hrl.len_le; show (zl.take ll).length = ll; rw [List.length_take]; omega
  generalize zl.take ll = zs at sl hu hlen
  obtain ⟨B, hBl, sb⟩ := row_num8 hrb
  obtain ⟨er, L, hE, hQ, _⟩ := unpack_any lb B wd ct (by omega) hBl (i64_wf ww).1 (i64_wf ww).2 (i64_wf wc).1 (i64_wf wc).2
  have HE : Hid _ := hE
  have HQ : Hid _ := hQ
  clear hE hQ hBl hrl hrb ww wc
  by_cases hno : pkNo wd zs
  · go_enter Try.func7, Try.ntmps7
    go_wp2
    go_quiet (fail)
    have hb0 : Below w.heap.size w ((w.alloc (.cells #[.int .i64 wd, .slice al ll cl, .slice ab lb cb, .int .i64 ct] 44)).drewN nq) := below_drewN ((Below.refl _ w).alloc (Nat.le_refl _) _) nq
    generalize (w.alloc (.cells #[.int .i64 wd, .slice al ll cl, .slice ab lb cb, .int .i64 ct] 44)).drewN nq = W0 at hb0 ⊢
    go_wp2_with fail
    refine (pack_no al ll cl wd zs W0 (by omega) (sl.later hb0) hu hno).mono ?_
    rintro e W1 ⟨rfl, hb1⟩
    have hb01 : Below w.heap.size w W1 := hb0.trans (hb1.mono hb0.size)
    go_wp2_with fail
    refine (HQ.out W1 ab cb (sb.later hb01)).mono ?_
    rintro e W6 ⟨v6, rfl, o6, hb6⟩
    obtain ⟨ay, cy, rfl⟩ := own_sl o6
    have hb06 : Below w.heap.size w W6 := hb01.trans (hb6.mono hb01.size)
    have sy := (src_own o6).2
    clear o6 hb6
    rcases HE.out with ⟨rfl, W', c, hW', _, hsz', hl', hok, rfl⟩ | ⟨hne, rfl⟩
    · obtain rfl := hW'
      rw [upk_len] at sy ⊢
      have HL : Hid _ := hl'
      clear hl'
      go_wp2_with fail
      refine (back2 ay cy W' c B lb W6 sy hok hsz' HL.out).mono ?_
      rintro e W7 ⟨v7, rfl, st7, hb7⟩
      have hb07 : Below w.heap.size w W7 := hb06.trans (hb7.mono hb06.size)
      have s1 := st7 W7 (Below.refl _ _)
      have s2 := str_src sb W7 hb07
      go_wp2
      go_ret
      exact ⟨by simp, hb07⟩
    · have hne' : (er == 0) = false := by simpa using hne
      go_wp2
      go_ret
      exact ⟨rfl, hb06⟩
  · have h0 : 0 ≤ wd ∧ wd ≤ 64 ∧ wide wd zs = false := by
      unfold pkNo at hno
      refine ⟨by omega, by omega, ?_⟩
      cases hw : wide wd zs
      · rfl
      · exact absurd (Or.inr (Or.inr hw)) hno
    obtain ⟨W, rfl⟩ := Int.eq_ofNat_of_zero_le h0.1
    have HW : Hid (wide W zs = false) := h0.2.2
    have HZ : Hid (sze W ll = 0) := sze_small (by omega) (by omega)
    clear h0 hno
    go_enter Try.func7, Try.ntmps7
    go_wp2
    go_quiet (fail)
    have hb0 : Below w.heap.size w ((w.alloc (.cells #[.int .i64 W, .slice al ll cl, .slice ab lb cb, .int .i64 ct] 44)).drewN nq) := below_drewN ((Below.refl _ w).alloc (Nat.le_refl _) _) nq
    generalize (w.alloc (.cells #[.int .i64 W, .slice al ll cl, .slice ab lb cb, .int .i64 ct] 44)).drewN nq = W0 at hb0 ⊢
    go_wp2_with fail
    refine (pack_yes al ll cl W _ zs W0 (sl.later hb0) hu HW.out HZ.out rfl).mono ?_
    rintro e W1 ⟨v1, rfl, o1, hb1⟩
    have hb01 : Below w.heap.size w W1 := hb0.trans (hb1.mono hb0.size)
    obtain ⟨ap, cp, rfl⟩ := own_sl o1
    have sp := (src_own o1).2
    clear o1 hb1
    go_wp2_with fail
    refine (back1 ap _ cp W ll zs W1 sp hu HW.out hlen.out HZ.out rfl).mono ?_
    rintro e W3 ⟨v3, rfl, o3, hb3⟩
    obtain ⟨ax, cx, rfl⟩ := own_sl o3
    have hb03 : Below w.heap.size w W3 := hb01.trans (hb3.mono hb01.size)
    have m3 := (src_own o3).2
    have n3 := sl.later hb03
    clear o3 hb3 sp
    go_wp2_with fail
    go_loopw [11] (fun c wr => ∃ j q : Nat, c = .int .i64 j ∧ j ≤ ll ∧ wr = W3.drewN q) (fun c _ => ll - (intOf c).toNat)
    case atStart => exact ⟨0, 0, rfl, Nat.zero_le _, rfl⟩
    case round =>
      obtain ⟨j, q, rfl, hj, rfl⟩ := hrel
      by_cases hlt : j < ll
      · have hlt' : (j : Int) < (ll : Int) := by omega
        obtain ⟨gm, om, rfl, hcm⟩ := src_at m3 hlt
        obtain ⟨g1, o1, rfl, hc1⟩ := src_at n3 hlt
        have hcm' : (W3.drewN q).cell? ⟨gm, om + j, none⟩ = some (.int .u64 (zs.getD j 0)) := hcm
        have hc1' : (W3.drewN q).cell? ⟨g1, o1 + j, none⟩ = some (.int .u64 (zs.getD j 0)) := hc1
        generalize zs.getD j 0 = z at *
        go_wp2
        go_quiet (fail)
        go_wp2
        exact ⟨⟨j + 1, q + nq, by go_num, by omega, rfl⟩, by simp [intOf]; omega⟩
      · have hlt' : (ll : Int) ≤ (j : Int) := by omega
        have hb4 : Below w.heap.size w (W3.drewN q) := below_drewN hb03 q
        clear m3 n3
        generalize W3.drewN q = W4 at hb4 ⊢
        go_wp2_with fail
        refine (HQ.out W4 ab cb (sb.later hb4)).mono ?_
        rintro e W6 ⟨v6, rfl, o6, hb6⟩
        obtain ⟨ay, cy, rfl⟩ := own_sl o6
        have hb06 : Below w.heap.size w W6 := hb4.trans (hb6.mono hb4.size)
        have sy := (src_own o6).2
        clear o6 hb6
        rcases HE.out with ⟨rfl, W', c, hW', _, hsz', hl', hok, rfl⟩ | ⟨hne, rfl⟩
        · obtain rfl : W' = W := by omega
          rw [upk_len] at sy ⊢
          have HL : Hid _ := hl'
          clear hl'
          go_wp2_with fail
          refine (back2 ay cy W' c B lb W6 sy hok hsz' HL.out).mono ?_
          rintro e W7 ⟨v7, rfl, st7, hb7⟩
          have hb07 : Below w.heap.size w W7 := hb06.trans (hb7.mono hb06.size)
          have s1 := st7 W7 (Below.refl _ _)
          have s2 := str_src sb W7 hb07
          go_wp2
          go_ret
          exact ⟨by simp, hb07⟩
        · have hne' : (er == 0) = false := by simpa using hne
          go_wp2
          go_ret
          exact ⟨rfl, hb06⟩

set_option maxRecDepth 100000 in
theorem lifted (os : Os) (started : os.Started) (H : Type) (enc : TypeId × Value → H) :
    ReturnsInHanded {} Try.checked os 7 .any (Rows.bitsPackBackSpec.pre6 enc Try.prog Try.f7 Rows.bitsPackBackRow.domain false) (Rows.bitsPackBackSpec.post enc Try.prog Try.f7 false true false false) := by
  refine returnsInHanded_of_change (C := Try.checked) own started (by kernel_rfl) Try.func7
    (ChangeSpec.witness6 (enc := enc) (C := Try.checked) false ⟨#[], #[.agg #[.int .i64 0, .slice none 0 0, .slice none 0 0, .int .i64 0]], []⟩ 8 (by kernel_rfl) (by kernel_rfl) (by kernel_rfl) (by kernel_rfl)) ?_
  intro W base args ds gs before hval0 hW hcnd _
  have hval : ∀ (j : Nat) t v, Try.f7.params[j]? = some t → args[j]? = some v → Value.okWide Try.prog W .any base t v := hval0
  have hW' := hW
  obtain ⟨p, q, hA0, hV, rfl, hfz, hnd⟩ := hW
  have hA : DataW.TrodAll enc Try.prog W 0 (fun _ => true) true Try.f7.params.toList args.toList ds p := hA0
  rw [Try.params7] at hA hval
  obtain ⟨v0, vs0, d0, ds0, p0, q0, hargs, rfl, rfl, h0, r0⟩ := trodAll_cons hA
  obtain ⟨rfl, rfl, rfl⟩ := trodAll_nil r0
  obtain rfl : args = #[v0] := by cases args; simp_all
  obtain ⟨rfl, rfl⟩ := trodVars_none hV
  have k0 := h0
  have lt0 : ∀ x ∈ p0, x.block < W.heap.size := by obtain ⟨m, hm⟩ := k0; exact DataW.trod_lt m _ _ _ hm
  obtain ⟨u0, u1, u2, u3, y0, y1, y2, y3, m, rfl, rfl, rfl, hy0, hy1, hy2, hy3⟩ := open_agg4 Try.underlying44 (by kernel_rfl) cells44 (hval 0 44 v0 rfl rfl) h0
  obtain ⟨n, e0, _, wn⟩ := DataW.trod_int Try.underlying3 hy0
  obtain ⟨al, ll, cl, e1⟩ := slice_form Try.underlying31 hy1
  obtain ⟨a, l, c, e2⟩ := slice_form Try.underlying32 hy2
  obtain ⟨p, e3, _, wp⟩ := DataW.trod_int Try.underlying3 hy3
  simp only [List.cons.injEq, and_true] at e0 e1 e2 e3
  subst e0 e1 e2 e3
  obtain ⟨zl, hrl⟩ : ∃ zs, IsRow .u64 W al ll cl zs := by
    rcases open_ints Try.underlying31 Try.underlying22 (by kernel_rfl) hy1 with ⟨hcs, _⟩ | ⟨x, l', c', zs, hcs, _, hl, hm, hz, _, hcell, hwz⟩
    · simp at hcs
      obtain ⟨rfl, rfl, rfl⟩ := hcs
      exact ⟨[], .inl ⟨rfl, rfl, rfl, rfl⟩⟩
    · simp at hcs
      obtain ⟨rfl, rfl, rfl⟩ := hcs
      exact ⟨zs, .inr ⟨_, rfl, hl, hm, by simpa using hz, hcell, hwz⟩⟩
  obtain ⟨z, hr⟩ : ∃ zs, IsRow .u8 W a l c zs := by
    rcases open_ints Try.underlying32 Try.underlying5 (by kernel_rfl) hy2 with ⟨hcs, _⟩ | ⟨x, l', c', zs, hcs, _, hl, hm, hz, _, hcell, hwz⟩
    · simp at hcs
      obtain ⟨rfl, rfl, rfl⟩ := hcs
      exact ⟨[], .inl ⟨rfl, rfl, rfl, rfl⟩⟩
    · simp at hcs
      obtain ⟨rfl, rfl, rfl⟩ := hcs
      exact ⟨zs, .inr ⟨_, rfl, hl, hm, by simpa using hz, hcell, hwz⟩⟩
  clear hA0 hval0
  refine (walk n al ll cl zl a l c z p W wn hrl hr wp).mono fun e W' ⟨he, bel⟩ => ?_
  subst he
  exact ⟨_, rfl, _, _, _, [], _, [], hW', trodAll_mk1 (shut_bool Try.underlying4 _), (trodAll_cons_mk (Below.trod laidOut (by kernel_rfl) (of_decide_eq_true (by kernel_rfl)) k0 bel lt0) trodAll_mk0), rfl, bel.frame _, fun h => by cases h⟩

theorem over : Rows.bitsPackBackRow.holds Try.pinned (OpenSpec.ofChange Rows.bitsPackBackSpec) :=
  OpenClaim.holds_of_wide 7 Try.f7 rfl rfl rfl rfl rfl rfl rfl ⟨rfl, rfl, rfl, rfl, rfl⟩ rfl rfl rfl rfl rfl (by kernel_rfl) Try.func7 (by kernel_rfl)
    (of_decide_eq_true (by kernel_rfl)) (by unfold Func.isWrapper; first | (rw [if_pos (by decide +kernel)]; kernel_rfl) | (rw [if_neg (by decide +kernel)]; exact ⟨rfl, rfl⟩))
    (fun os started H enc _ => lifted os started H enc)
end Go.Proofs.Ytkbjohkijajcgab.bitsPackBack
namespace Go.Proofs.Ytkbjohkijajcgab
theorem bitsPackBack_holds : Rows.BitsPackBackSaid := bitsPackBack.over
#print axioms bitsPackBack_holds
end Go.Proofs.Ytkbjohkijajcgab
