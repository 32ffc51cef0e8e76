/-
  For every number, every count of bytes, any bytes (of at most 2000; else the law says nothing) and any place: bits.Little and bits.ReadLittle answer what the reference's answer, refusals too, and the bytes of a number are read as the number. No condition.
-/
import Derived.Test.YtkbjohkijajcgaaRows
import Derived.Test.YtkbjohkijajcgaaLittle
import Derived.Test.YtkbjohkijajcgaaReadL
import Derived.WalkKit
import Derived.ProofKit
import Derived.OpenShut
import Derived.ChangeOld
import Derived.Below
import Derived.Deep.QuietTactic
import Derived.BigQuiet
import Derived.Lib.SmallJoins
import Derived.WalkSmall
namespace Go.Proofs.Ytkbjohkijajcgaa.bitsLittle
open Go.ChangeShapes Go.WideShapes Go.ChangeAt Go.RowKit Go.Joins
set_option linter.unusedVariables false

theorem own : ownKnob Try.prog.godebug = none := by kernel_rfl
theorem laidOut : laidOutB Try.prog = true := by kernel_rfl
theorem cells25 : Try.prog.cellsOf 25 = 4 := by kernel_rfl

theorem lt_pow_bl : ∀ (f x : Nat), x < 2 ^ f → f ≤ 64 → x < 2 ^ Lib.bitLen x
  | 0, x, h, _ => by
    have : x = 0 := by simpa using h
    subst this
    decide
  | f + 1, x, h, hf => by
    by_cases h0 : x = 0
    · subst h0; decide
    · have h64 : x < 2 ^ 64 := Nat.lt_of_lt_of_le h (Nat.pow_le_pow_right (by omega) hf)
      have ih := lt_pow_bl f (x / 2) (by rw [Nat.pow_succ] at h; omega) (by omega)
      rw [Lib.bitLen_half x h0 h64, Nat.add_comm, Nat.pow_succ]
      omega
theorem lt_256 (n : Int) (k : Nat) (h0 : 0 ≤ n) (h1 : n ≤ 18446744073709551615) (h : (Lib.bitLen n.toNat : Int) ≤ 8 * k) : n < 256 ^ k := by
  have a := lt_pow_bl 64 n.toNat (by omega) (by omega)
  have b : 2 ^ Lib.bitLen n.toNat ≤ 2 ^ (8 * k) := Nat.pow_le_pow_right (by omega) (by omega)
  have e : (256 : Int) ^ k = ((2 ^ (8 * k) : Nat) : Int) := by rw [Nat.pow_mul]; simp
  rw [e]
  omega
theorem rl_lb : ∀ (k : Nat) (n : Int), 0 ≤ n → n < 256 ^ k → rl (lb k n) = n
  | 0, n, h0, h => by simp at h; simp [lb, rl]; omega
  | k + 1, n, h0, h => by
    have ih := rl_lb k (n / 256) (by omega) (by
      rw [Int.pow_succ] at h
      generalize (256 : Int) ^ k = p at h ⊢
      omega)
    simp only [lb, rl, ih]
    omega
theorem lb_bytes : ∀ (k : Nat) (n : Int), Bytes (lb k n)
  | 0, n => by intro c hc; simp [lb] at hc
  | k + 1, n => by
    intro c hc
    simp only [lb, List.mem_cons] at hc
    rcases hc with rfl | hc
    · omega
    · exact lb_bytes k (n / 256) c hc
theorem row_bytes {w : World} {a : Option Addr} {l c : Nat} {z : List Int} (h : IsRow .u8 w a l c z) : Bytes (z.take l) := by
  intro x hx
  have hx' := List.mem_of_mem_take hx
  rcases h with ⟨_, _, _, rfl⟩ | ⟨_, _, _, _, _, _, hw⟩
  · cases hx'
  · simpa [Lit.wf, IntKind.min, IntKind.max, IntKind.signed, IntKind.bits] using hw x hx'
theorem own_slice {w : World} {B : Nat} {e : TypeId} {s : Nat} {v : Value} {n : Nat} {xs : List Value} (h : w.ownsRow B e s v n xs) : ∃ ad c, v = .slice ad n c := by
  rcases h.2 with ⟨h0, rfl⟩ | ⟨g, cap, cur, h1, _⟩
  · exact ⟨none, 0, h0⟩
  · exact ⟨_, cap, h1⟩
theorem back_ok (k : Nat) (n : Int) (hk : k ≤ 8) (h0 : 0 ≤ n) (h1 : n < 256 ^ k) : rlv (lb k n) 0 k = n ∧ rle k 0 k = 0 := by
  have e := rle_ok (zs := lb k n) (L := (k : Int)) (p := 0) (k := k) (by rw [lb_len]) (by omega) (by omega)
  refine ⟨?_, e.1⟩
  rw [e.2]
  simp only [Int.toNat_zero, List.drop_zero, Int.toNat_natCast]
  rw [List.take_of_length_le (by rw [lb_len]; exact Nat.le_refl _)]
  exact rl_lb k n h0 h1

set_option maxHeartbeats 4000000 in
theorem walk (n k : Int) (a : Option Addr) (l c : Nat) (z : List Int) (p : Int) (w : World) (wn : (Lit.int .u64 n).wf = true) (wk : (Lit.int .i64 k).wf = true) (hr : IsRow .u8 w a l c z) (wp : (Lit.int .i64 p).wf = true) :
    Calls Try.prog 3 #[.agg #[.int .u64 n, .int .i64 k, .slice a l c, .int .i64 p]] w fun e w' => e = .returned (.bool true) ∧ Below w.heap.size w w' := by
  obtain ⟨h0, h1⟩ : 0 ≤ n ∧ n ≤ 18446744073709551615 := by simpa [Lit.wf, IntKind.min, IntKind.max, IntKind.signed, IntKind.bits] using wn
  by_cases c1 : 2000 < l
  · have c1' : (2000 : Int) < (l : Int) := by omega
    go_enter Try.func3, Try.ntmps3
    go_wp2
    go_quiet (fail)
    go_wp2
    go_ret
    exact ⟨rfl, below_drewN ((Below.refl _ w).alloc (Nat.le_refl _) _) nq⟩
  have c1' : (l : Int) ≤ 2000 := by omega
  have hsrc := hr.src
  have hby := row_bytes hr
  have hl : Hid ((z.take l).length = l) := by have := hr.len_le; show (z.take l).length = l; rw [List.length_take]; omega
  generalize z.take l = zs at hsrc hby hl
  by_cases hno : ltlNo n k
  · go_enter Try.func3, Try.ntmps3
    go_wp2
    go_quiet (fail)
    have hb0 : Below w.heap.size w ((w.alloc (.cells #[.int .u64 n, .int .i64 k, .slice a l c, .int .i64 p] 25)).drewN nq) := below_drewN ((Below.refl _ w).alloc (Nat.le_refl _) _) nq
    generalize (w.alloc (.cells #[.int .u64 n, .int .i64 k, .slice a l c, .int .i64 p] 25)).drewN nq = W0 at hb0 ⊢
    go_wp2_with fail
    refine (little_no _ _ _ h0 h1 hno).mono ?_
    rintro e wx ⟨rfl, hwx⟩
    obtain rfl := hwx.symm
    go_wp2_with fail
    refine (rlittle_no _ _ _ h0 h1 hno).mono ?_
    rintro e wx ⟨rfl, hwx⟩
    obtain rfl := hwx.symm
    have s1 := fun W => run_convert_bytes_nil (P := Try.prog) W 23 5 Try.underlying23 Try.underlying5 0 0 9 Try.underlying9
    go_wp2_with fail
    refine (readl_any _ _ _ _ _ zs _ (by omega) (hsrc.later hb0) hby).mono ?_
    rintro e W1 ⟨rfl, hb1⟩
    have hb01 := hb0.trans (hb1.mono hb0.size)
    go_wp2_with fail
    refine (rreadl_any _ _ _ _ _ zs _ (by omega) (hsrc.later hb01) hby).mono ?_
    rintro e wx ⟨rfl, hwx⟩
    obtain rfl := hwx.symm
    go_wp2_with fail
    refine (readl_any none 0 0 0 0 [] _ (by omega) ⟨rfl, .inl ⟨rfl, rfl, rfl⟩⟩ (fun _ h => by cases h)).mono ?_
    rintro e W2 ⟨rfl, hb2⟩
    have hb02 := hb01.trans (hb2.mono hb01.size)
    go_wp2
    go_ret
    exact ⟨rfl, hb02⟩
  · have hk0 : 0 ≤ k ∧ k ≤ 8 ∧ (Lib.bitLen n.toNat : Int) ≤ 8 * k := by unfold ltlNo at hno; omega
    obtain ⟨K, rfl⟩ := Int.eq_ofNat_of_zero_le hk0.1
    have BK := back_ok K n (by omega) h0 (lt_256 n K h0 h1 hk0.2.2)
    have BKh : Hid _ := BK
    clear BK hk0
    have hK8 : (K : Int) ≤ 8 := by unfold ltlNo at hno; omega
    go_enter Try.func3, Try.ntmps3
    go_wp2
    go_quiet (fail)
    have hb0 : Below w.heap.size w ((w.alloc (.cells #[.int .u64 n, .int .i64 K, .slice a l c, .int .i64 p] 25)).drewN nq) := below_drewN ((Below.refl _ w).alloc (Nat.le_refl _) _) nq
    generalize (w.alloc (.cells #[.int .u64 n, .int .i64 K, .slice a l c, .int .i64 p] 25)).drewN nq = W0 at hb0 ⊢
    go_wp2_with fail
    refine (little_yes _ _ _ h0 h1 hno).mono ?_
    rintro e W1 ⟨v1, rfl, hown1, hb1⟩
    have hb01 := hb0.trans (hb1.mono hb0.size)
    go_wp2_with fail
    refine (rlittle_yes _ _ _ h0 h1 hno).mono ?_
    rintro e W2 ⟨v2, rfl, hown2, hb2⟩
    have hb02 := hb01.trans (hb2.mono hb01.size)
    have s1 := str_own (own_below hown1 hb2)
    have s2 := str_own hown2
    obtain ⟨ad2, c2, rfl⟩ := own_slice hown2
    have sr2 := (src_own hown2).2
    clear hown1 hown2
    go_wp2_with fail
    refine (readl_any _ _ _ _ _ zs _ (by omega) (hsrc.later hb02) hby).mono ?_
    rintro e W3 ⟨rfl, hb3⟩
    have hb03 := hb02.trans (hb3.mono hb02.size)
    go_wp2_with fail
    refine (rreadl_any _ _ _ _ _ zs _ (by omega) (hsrc.later hb03) hby).mono ?_
    rintro e wx ⟨rfl, hwx⟩
    obtain rfl := hwx.symm
    go_wp2_with fail
    refine (readl_any ad2 K c2 0 K (lb K n) _ (by omega) (sr2.later hb3) (lb_bytes K n)).mono ?_
    rintro e W4 ⟨rfl, hb4⟩
    have hb04 := hb03.trans (hb4.mono hb03.size)
    rw [BKh.out.1, BKh.out.2]
    go_wp2
    go_ret
    exact ⟨by simp, hb04⟩

set_option maxRecDepth 100000 in
theorem lifted (os : Os) (started : os.Started) (H : Type) (enc : TypeId × Value → H) :
    ReturnsInHanded {} Try.checked os 3 .any (Rows.bitsLittleSpec.pre6 enc Try.prog Try.f3 Rows.bitsLittleRow.domain false) (Rows.bitsLittleSpec.post enc Try.prog Try.f3 false true false false) := by
  refine returnsInHanded_of_change (C := Try.checked) own started (by kernel_rfl) Try.func3
    (ChangeSpec.witness6 (enc := enc) (C := Try.checked) false ⟨#[], #[.agg #[.int .u64 0, .int .i64 0, .slice none 0 0, .int .i64 0]], []⟩ 8 (by kernel_rfl) (by kernel_rfl) (by kernel_rfl) (by kernel_rfl)) ?_
  intro W base args ds gs before hval0 hW hcnd _
  have hval : ∀ (j : Nat) t v, Try.f3.params[j]? = some t → args[j]? = some v → Value.okWide Try.prog W .any base t v := hval0
  have hW' := hW
  obtain ⟨p, q, hA0, hV, rfl, hfz, hnd⟩ := hW
  have hA : DataW.TrodAll enc Try.prog W 0 (fun _ => true) true Try.f3.params.toList args.toList ds p := hA0
  rw [Try.params3] at hA hval
  obtain ⟨v0, vs0, d0, ds0, p0, q0, hargs, rfl, rfl, h0, r0⟩ := trodAll_cons hA
  obtain ⟨rfl, rfl, rfl⟩ := trodAll_nil r0
  obtain rfl : args = #[v0] := by cases args; simp_all
  obtain ⟨rfl, rfl⟩ := trodVars_none hV
  have k0 := h0
  have lt0 : ∀ x ∈ p0, x.block < W.heap.size := by obtain ⟨m, hm⟩ := k0; exact DataW.trod_lt m _ _ _ hm
  obtain ⟨u0, u1, u2, u3, y0, y1, y2, y3, m, rfl, rfl, rfl, hy0, hy1, hy2, hy3⟩ := open_agg4 Try.underlying25 (by kernel_rfl) cells25 (hval 0 25 v0 rfl rfl) h0
  obtain ⟨n, e0, _, wn⟩ := DataW.trod_int Try.underlying22 hy0
  obtain ⟨k, e1, _, wk⟩ := DataW.trod_int Try.underlying3 hy1
  obtain ⟨a, l, c, e2⟩ := slice_form Try.underlying23 hy2
  obtain ⟨p, e3, _, wp⟩ := DataW.trod_int Try.underlying3 hy3
  simp only [List.cons.injEq, and_true] at e0 e1 e2 e3
  subst e0 e1 e2 e3
  obtain ⟨z, hr⟩ : ∃ zs, IsRow .u8 W a l c zs := by
    rcases open_ints Try.underlying23 Try.underlying5 (by kernel_rfl) hy2 with ⟨hcs, _⟩ | ⟨x, l', c', zs, hcs, _, hl, hm, hz, _, hcell, hwz⟩
    · simp at hcs
      obtain ⟨rfl, rfl, rfl⟩ := hcs
      exact ⟨[], .inl ⟨rfl, rfl, rfl, rfl⟩⟩
    · simp at hcs
      obtain ⟨rfl, rfl, rfl⟩ := hcs
      exact ⟨zs, .inr ⟨_, rfl, hl, hm, by simpa using hz, hcell, hwz⟩⟩
  clear hA0 hval0
  refine (walk n k a l c z p W wn wk hr wp).mono fun e W' ⟨he, bel⟩ => ?_
  subst he
  exact ⟨_, rfl, _, _, _, [], _, [], hW', trodAll_mk1 (shut_bool Try.underlying4 _), (trodAll_cons_mk (Below.trod laidOut (by kernel_rfl) (of_decide_eq_true (by kernel_rfl)) k0 bel lt0) trodAll_mk0), rfl, bel.frame _, fun h => by cases h⟩

theorem over : Rows.bitsLittleRow.holds Try.pinned (OpenSpec.ofChange Rows.bitsLittleSpec) :=
  OpenClaim.holds_of_wide 3 Try.f3 rfl rfl rfl rfl rfl rfl rfl ⟨rfl, rfl, rfl, rfl, rfl⟩ rfl rfl rfl rfl rfl (by kernel_rfl) Try.func3 (by kernel_rfl)
    (of_decide_eq_true (by kernel_rfl)) (by unfold Func.isWrapper; first | (rw [if_pos (by decide +kernel)]; kernel_rfl) | (rw [if_neg (by decide +kernel)]; exact ⟨rfl, rfl⟩))
    (fun os started H enc _ => lifted os started H enc)
end Go.Proofs.Ytkbjohkijajcgaa.bitsLittle
namespace Go.Proofs.Ytkbjohkijajcgaa
theorem bitsLittle_holds : Rows.BitsLittleSaid := bitsLittle.over
#print axioms bitsLittle_holds
end Go.Proofs.Ytkbjohkijajcgaa
