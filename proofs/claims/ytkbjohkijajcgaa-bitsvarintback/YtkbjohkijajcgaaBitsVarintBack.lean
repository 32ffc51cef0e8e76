/-
  For every number of 64 bits without a sign, with any bytes ahead and behind (of at most 2000 each; else the law says nothing), the varint of the number is read as that number, wherever it stands, by bits.ReadVarint. No condition.
-/
import Derived.Test.YtkbjohkijajcgaaRows
import Derived.WalkKit
import Derived.ProofKit
import Derived.OpenShut
import Derived.ShutString
import Derived.ChangeOld
import Derived.Below
import Derived.Test.YtkbjohkijajcgaaBase
import Derived.Test.YtkbjohkijajcgaaRead
namespace Go.Proofs.Ytkbjohkijajcgaa.bitsVarintBack
open Go.ChangeShapes Go.WideShapes Go.ChangeAt Go.RowKit
open Go.ChangeMaps (open_string shut_string)
set_option linter.unusedVariables false

theorem own : ownKnob Try.prog.godebug = none := by kernel_rfl
theorem laidOut : laidOutB Try.prog = true := by kernel_rfl

theorem walk (a0 : Int) (a1 : Option Addr) (len1 cap1 : Nat) (z1 : List Int) (a2 : Option Addr) (len2 cap2 : Nat) (z2 : List Int) (w : World) (w0 : (Lit.int .u64 a0).wf = true) (w1 : IsRow .u8 w a1 len1 cap1 z1) (w2 : IsRow .u8 w a2 len2 cap2 z2) :
    Calls Try.prog 5 #[.int .u64 a0, .slice a1 len1 cap1, .slice a2 len2 cap2] w fun e w' => e = .returned (.bool true) ∧ Below w.heap.size w w' := by
  obtain ⟨h1, h2⟩ : 0 ≤ a0 ∧ a0 ≤ 18446744073709551615 := by simpa [Lit.wf, IntKind.min, IntKind.max, IntKind.signed, IntKind.bits] using w0
  by_cases c1 : 2000 < len1
  · have c1' : (2000 : Int) < (len1 : Int) := by omega
    go_enter Try.func5, Try.ntmps5
    go_wp2
    go_ret
    exact ⟨rfl, Below.refl _ _⟩
  by_cases c2 : 2000 < len2
  · have c1' : (len1 : Int) ≤ 2000 := by omega
    have c2' : (2000 : Int) < (len2 : Int) := by omega
    go_enter Try.func5, Try.ntmps5
    go_wp2
    go_ret
    exact ⟨rfl, Below.refl _ _⟩
  have c1' : (len1 : Int) ≤ 2000 := by omega
  have c2' : (len2 : Int) ≤ 2000 := by omega
  obtain ⟨N, rfl⟩ := Int.eq_ofNat_of_zero_le h1
  obtain ⟨i0, hi, hz0, hz1, hz2⟩ := info_parts Try.info5
  have s1 := w1.src
  have s2 := w2.src
  have lv := vb_len N
  have hl1 := w1.len_le
  have hl2 := w2.len_le
  generalize hza : (z1.take len1).map (Value.int .u8) = za at s1
  generalize hzb : (z2.take len2).map (Value.int .u8) = zb at s2
  have oa : ∀ u ∈ za, u.oneCell' = true := by subst hza; exact ints_one .u8 (z1.take len1)
  have ob : ∀ u ∈ zb, u.oneCell' = true := by subst hzb; exact ints_one .u8 (z2.take len2)
  have ov : ∀ u ∈ (vb N).map (Value.int .u8), u.oneCell' = true := ints_one _ _
  clear hza hzb w1 w2 hl1 hl2
  go_enter Try.func5, Try.ntmps5
  go_wp2_with fail
  refine (varint_any _ _ h1 h2).mono ?_
  rintro e W1 ⟨v, rfl, hown1, hb1⟩
  obtain ⟨gv, cv, rfl⟩ := own_some hown1 lv.1
  have sv := (src_own hown1).2
  clear hown1
  go_wp2_with (first | (at_builtin; refine wpList_append_src rfl (.const (.slice none 0 0)) (.tmp 22) 23 rfl W1.heap.size 5 i0 (.int .u8 0) 1 Try.underlying23 hi hz0 hz1 hz2 rfl _ _ _ rfl (World.ownsRow_nil _ _ _ _) _ _ _ za rfl (s1.later hb1) oa (by unfold maxLen; omega) (by omega) (Nat.le_refl _) ?_; intro v1 W2 hown2 hb2) | (at_builtin; refine wpList_append_src rfl (.tmp 23) (.tmp 24) 23 rfl W1.heap.size 5 i0 (.int .u8 0) 1 Try.underlying23 hi hz0 hz1 hz2 rfl _ _ _ rfl hown2 _ _ _ ((vb N).map (Value.int .u8)) rfl (sv.later hb2) ov (by unfold maxLen; omega) (by omega) hb2.size ?_; intro v2 W3 hown3 hb3) | (at_builtin; refine wpList_append_src rfl (.tmp 25) (.tmp 26) 23 rfl W1.heap.size 5 i0 (.int .u8 0) 1 Try.underlying23 hi hz0 hz1 hz2 rfl _ _ _ rfl hown3 _ _ _ zb rfl (s2.later (hb1.trans ((hb2.trans hb3).mono hb1.size))) ob (by unfold maxLen; omega) (by omega) (hb2.trans hb3).size ?_; intro v3 W4 hown4 hb4; obtain ⟨g, c, rfl⟩ := own_some hown4 (by omega)))
  rw [Nat.zero_add, List.nil_append] at hown4
  have hcell : ∀ j, j < (vb N).length → W4.cell? ⟨g, len1 + j, none⟩ = some (.int .u8 ((vb N).getD j 0)) := by
    intro j hj
    have e1 := s1.1
    rw [hown4.cellAt (len1 + j) (by omega), List.append_assoc, List.getElem?_append_right (by omega), show len1 + j - za.length = j from by omega, List.getElem?_append_left (by simpa using hj)]
    simp [List.getD, List.getElem?_eq_getElem hj]
  refine (readv_any g (len1 + (vb N).length + len2) c len1 N W4 (by omega) (by omega) (by omega) (hown4.lt g rfl).2 hcell).mono ?_
  rintro e W5 ⟨rfl, hb5⟩
  have B4 : Below w.heap.size w W4 := hb1.trans (((hb2.trans hb3).trans hb4).mono hb1.size)
  have B5 : Below w.heap.size w W5 := B4.trans (hb5.mono B4.size)
  clear hcell hown4 hown3 hown2 hb2 hb3 hb4 B4 hb5 hb1 sv s1 s2 oa ob ov
  go_wp2
  go_ret
  exact ⟨by simp, B5⟩

set_option maxRecDepth 100000 in
theorem lifted (os : Os) (started : os.Started) (H : Type) (enc : TypeId × Value → H) :
    ReturnsInHanded {} Try.checked os 5 .any (Rows.bitsVarintBackSpec.pre6 enc Try.prog Try.f5 Rows.bitsVarintBackRow.domain false) (Rows.bitsVarintBackSpec.post enc Try.prog Try.f5 false true false false) := by
  refine returnsInHanded_of_change (C := Try.checked) own started (by kernel_rfl) Try.func5
    (ChangeSpec.witness6 (enc := enc) (C := Try.checked) false ⟨#[], #[.int .u64 0, .slice none 0 0, .slice none 0 0], []⟩ 8 (by kernel_rfl) (by kernel_rfl) (by kernel_rfl) (by kernel_rfl)) ?_
  intro W base args ds gs before hval0 hW hcnd _
  have hval : ∀ (j : Nat) t v, Try.f5.params[j]? = some t → args[j]? = some v → Value.okWide Try.prog W .any base t v := hval0
  have hW' := hW
  obtain ⟨p, q, hA0, hV, rfl, hfz, hnd⟩ := hW
  have hA : DataW.TrodAll enc Try.prog W 0 (fun _ => true) true Try.f5.params.toList args.toList ds p := hA0
  rw [Try.params5] at hA hval
  obtain ⟨v0, vs0, d0, ds0, p0, q0, hargs, rfl, rfl, h0, r0⟩ := trodAll_cons hA
  obtain ⟨v1, vs1, d1, ds1, p1, q1, rfl, rfl, rfl, h1, r1⟩ := trodAll_cons r0
  obtain ⟨v2, vs2, d2, ds2, p2, q2, rfl, rfl, rfl, h2, r2⟩ := trodAll_cons r1
  obtain ⟨rfl, rfl, rfl⟩ := trodAll_nil r2
  obtain rfl : args = #[v0, v1, v2] := by cases args; simp_all
  obtain ⟨rfl, rfl⟩ := trodVars_none hV
  obtain ⟨a0, rfl, rfl, rfl, w0⟩ := open_int Try.underlying22 (hval 0 22 v0 rfl rfl) h0
  obtain ⟨a1, len1, cap1, rfl⟩ := okWide_slice Try.underlying23 (hval 1 23 v1 rfl rfl)
  have k1 := h1
  have lt1 : ∀ x ∈ p1, x.block < W.heap.size := by obtain ⟨m, hm⟩ := k1; exact DataW.trod_lt m _ _ _ hm
  obtain ⟨z1, w1⟩ : ∃ zs, IsRow .u8 W a1 len1 cap1 zs := by
    obtain ⟨fuel, hf⟩ := h1
    rcases open_ints Try.underlying23 Try.underlying5 (by kernel_rfl) hf with ⟨hcs, _⟩ | ⟨x, l, c, zs, hcs, _, hl, hm, hz, _, hcell, hwz⟩
    · simp [Value.cells] at hcs
      obtain ⟨rfl, rfl, rfl⟩ := hcs
      exact ⟨[], .inl ⟨rfl, rfl, rfl, rfl⟩⟩
    · simp [Value.cells] at hcs
      obtain ⟨rfl, rfl, rfl⟩ := hcs
      exact ⟨zs, .inr ⟨_, rfl, hl, hm, by simpa using hz, hcell, hwz⟩⟩
  obtain ⟨a2, len2, cap2, rfl⟩ := okWide_slice Try.underlying23 (hval 2 23 v2 rfl rfl)
  have k2 := h2
  have lt2 : ∀ x ∈ p2, x.block < W.heap.size := by obtain ⟨m, hm⟩ := k2; exact DataW.trod_lt m _ _ _ hm
  obtain ⟨z2, w2⟩ : ∃ zs, IsRow .u8 W a2 len2 cap2 zs := by
    obtain ⟨fuel, hf⟩ := h2
    rcases open_ints Try.underlying23 Try.underlying5 (by kernel_rfl) hf with ⟨hcs, _⟩ | ⟨x, l, c, zs, hcs, _, hl, hm, hz, _, hcell, hwz⟩
    · simp [Value.cells] at hcs
      obtain ⟨rfl, rfl, rfl⟩ := hcs
      exact ⟨[], .inl ⟨rfl, rfl, rfl, rfl⟩⟩
    · simp [Value.cells] at hcs
      obtain ⟨rfl, rfl, rfl⟩ := hcs
      exact ⟨zs, .inr ⟨_, rfl, hl, hm, by simpa using hz, hcell, hwz⟩⟩
  clear hA0 hval0
  refine (walk a0 a1 len1 cap1 z1 a2 len2 cap2 z2 W w0 w1 w2).mono fun e W' ⟨he, bel⟩ => ?_
  subst he
  exact ⟨_, rfl, _, _, _, [], _, [], hW', trodAll_mk1 (shut_bool Try.underlying4 _), (trodAll_cons_mk (shut_int Try.underlying22 w0) (trodAll_cons_mk (Below.trod laidOut (by kernel_rfl) (of_decide_eq_true (by kernel_rfl)) k1 bel lt1) (trodAll_cons_mk (Below.trod laidOut (by kernel_rfl) (of_decide_eq_true (by kernel_rfl)) k2 bel lt2) trodAll_mk0))), rfl, bel.frame _, fun h => by cases h⟩

theorem over : Rows.bitsVarintBackRow.holds Try.pinned (OpenSpec.ofChange Rows.bitsVarintBackSpec) :=
  OpenClaim.holds_of_wide 5 Try.f5 rfl rfl rfl rfl rfl rfl rfl ⟨rfl, rfl, rfl, rfl, rfl⟩ rfl rfl rfl rfl rfl (by kernel_rfl) Try.func5 (by kernel_rfl)
    (of_decide_eq_true (by kernel_rfl)) (by unfold Func.isWrapper; first | (rw [if_pos (by decide +kernel)]; kernel_rfl) | (rw [if_neg (by decide +kernel)]; exact ⟨rfl, rfl⟩))
    (fun os started H enc _ => lifted os started H enc)

theorem proved : Rows.BitsVarintBackSaid := over
#print axioms proved
end Go.Proofs.Ytkbjohkijajcgaa.bitsVarintBack
namespace Go.Proofs.Ytkbjohkijajcgaa
theorem bitsVarintBack_holds : Rows.BitsVarintBackSaid := bitsVarintBack.proved
end Go.Proofs.Ytkbjohkijajcgaa
