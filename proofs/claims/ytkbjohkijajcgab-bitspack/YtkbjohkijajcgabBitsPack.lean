/-
  For every width and any numbers (of at most 500; else the law says nothing), bits.Pack answers the bytes that the reference's Pack answers, or the same refusal, and leaves what it is handed as it was. No condition.
-/
import Derived.Test.YtkbjohkijajcgabRows
import Derived.WalkKit
import Derived.ProofKit
import Derived.OpenShut
import Derived.ShutString
import Derived.ChangeOld
import Derived.Below
import Derived.Deep.QuietTactic
import Derived.BigQuiet
import Derived.Test.YtkbjohkijajcgabPackAny
namespace Go.Proofs.Ytkbjohkijajcgab.bitsPack
open Go.ChangeShapes Go.WideShapes Go.ChangeAt Go.RowKit
open Go.ChangeMaps (open_string shut_string)
set_option linter.unusedVariables false

theorem own : ownKnob Try.prog.godebug = none := by kernel_rfl
theorem laidOut : laidOutB Try.prog = true := by kernel_rfl

theorem info22 : (Try.prog.info? 22).map (fun i => (i.zero, i.size, i.bytes)) = some (some (.int .u64 0), 1, 8) := by kernel_rfl
theorem row_u64 {w : World} {a : Option Addr} {l c : Nat} {z : List Int} (h : IsRow .u64 w a l c z) : U64 (z.take l) := by
  intro x hx
  have hx' := List.mem_of_mem_take hx
  rcases h with ⟨_, _, _, rfl⟩ | ⟨_, _, _, _, _, _, hw⟩
  · cases hx'
  · simpa [Lit.wf, IntKind.min, IntKind.max, IntKind.signed, IntKind.bits] using hw x hx'
theorem own_slice {w : World} {B : Nat} {e : TypeId} {s : Nat} {v : Value} {n : Nat} {xs : List Value} (h : w.ownsRow B e s v n xs) : ∃ ad c, v = .slice ad n c := by
  rcases h.2 with ⟨h0, rfl⟩ | ⟨g, cap, cur, h1, _⟩
  · exact ⟨none, 0, h0⟩
  · exact ⟨_, cap, h1⟩

set_option maxHeartbeats 2000000 in
theorem walk (a0 : Int) (a1 : Option Addr) (len1 cap1 : Nat) (z1 : List Int) (w : World) (w0 : (Lit.int .i64 a0).wf = true) (w1 : IsRow .u64 w a1 len1 cap1 z1) :
    Calls Try.prog 5 #[.int .i64 a0, .slice a1 len1 cap1] w fun e w' => e = .returned (.bool true) ∧ Below w.heap.size w w' := by
  by_cases c1 : 500 < len1
  · have c1' : (500 : Int) < (len1 : Int) := by omega
    go_enter Try.func5, Try.ntmps5
    go_wp2
    go_ret
    exact ⟨rfl, Below.refl _ _⟩
  have c1' : (len1 : Int) ≤ 500 := by omega
  obtain ⟨i0, hi, hz0, hz1, hz2⟩ := info_parts info22
  have s1 := w1.src
  have hu := row_u64 w1
  have hl : Hid ((z1.take len1).length = len1) := by have := w1.len_le; show (z1.take len1).length = len1; rw [List.length_take]; omega
  generalize z1.take len1 = zs at s1 hu hl
  clear w1
  obtain ⟨er, T, hR, hP⟩ := pack_any a1 len1 cap1 a0 zs (by omega) hu
  have HR : Hid _ := hR
  have HP : Hid _ := hP
  clear hR hP
  have oz : ∀ u ∈ zs.map (Value.int .u64), u.oneCell' = true := ints_one _ _
  go_enter Try.func5, Try.ntmps5
  go_wp2_with (at_builtin; refine wpList_append_src rfl (.const (.slice none 0 0)) (.tmp 14) 31 rfl w.heap.size 22 i0 (.int .u64 0) 8 Try.underlying31 hi hz0 hz1 hz2 rfl _ _ _ rfl (World.ownsRow_nil _ _ _ _) _ _ _ (zs.map (Value.int .u64)) rfl s1 oz (by unfold maxLen; omega) (by omega) (Nat.le_refl _) ?_; intro v1 W1 hown1 hb1; rw [Nat.zero_add, List.nil_append] at hown1; obtain ⟨am, cm, rfl⟩ := own_slice hown1)
  have sm := (src_own hown1).2
  clear hown1
  refine (HP.out W1 am cm sm).mono ?_
  rintro e W2 ⟨vp, rfl, sp, hb2⟩
  go_wp2_with fail
  refine (HR.out W2 (s1.later (hb1.trans (hb2.mono hb1.size)))).mono ?_
  rintro e W3 ⟨vr, rfl, sr, hb3⟩
  have SP : Hid _ := fun q => sp (W3.drewN q) (below_drewN hb3 q)
  have SR : Hid _ := fun q => sr (W3.drewN q) (below_drewN (Below.refl _ _) q)
  have hb13 : Below W1.heap.size W1 W3 := hb2.trans (hb3.mono hb2.size)
  have hb03 : Below w.heap.size w W3 := hb1.trans (hb13.mono hb1.size)
  have sm3 := sm.later hb13
  have s13 := s1.later hb03
  clear sp sr hb1 hb2 hb3 sm s1 HR HP
  go_wp2_with fail
  go_loopw [10] (fun c wr => ∃ j q : Nat, c = .int .i64 j ∧ j ≤ len1 ∧ wr = W3.drewN q) (fun c _ => len1 - (intOf c).toNat)
  case atStart => exact ⟨0, 0, rfl, Nat.zero_le _, rfl⟩
  case round =>
    obtain ⟨j, q, rfl, hj, rfl⟩ := hrel
    by_cases hlt : j < len1
    · have hlt' : (j : Int) < (len1 : Int) := by omega
      obtain ⟨gm, om, rfl, hcm⟩ := src_at sm3 hlt
      obtain ⟨g1, o1, rfl, hc1⟩ := src_at s13 hlt
      have hcm' : (W3.drewN q).cell? ⟨gm, om + j, none⟩ = some (.int .u64 (zs.getD j 0)) := hcm
      have hc1' : (W3.drewN q).cell? ⟨g1, o1 + j, none⟩ = some (.int .u64 (zs.getD j 0)) := hc1
      generalize zs.getD j 0 = z at *
      go_wp2
      go_quiet (fail)
      go_wp2
      exact ⟨⟨j + 1, q + nq, by go_num, by omega, rfl⟩, by simp [intOf]; omega⟩
    · have hlt' : (len1 : Int) ≤ (j : Int) := by omega
      have f1 := SP.out q
      have f2 := SR.out q
      go_wp2
      go_ret
      exact ⟨by simp, below_drewN hb03 q⟩

set_option maxRecDepth 100000 in
theorem lifted (os : Os) (started : os.Started) (H : Type) (enc : TypeId × Value → H) :
    ReturnsInHanded {} Try.checked os 5 .any (Rows.bitsPackSpec.pre6 enc Try.prog Try.f5 Rows.bitsPackRow.domain false) (Rows.bitsPackSpec.post enc Try.prog Try.f5 false true false false) := by
  refine returnsInHanded_of_change (C := Try.checked) own started (by kernel_rfl) Try.func5
    (ChangeSpec.witness6 (enc := enc) (C := Try.checked) false ⟨#[], #[.int .i64 0, .slice none 0 0], []⟩ 8 (by kernel_rfl) (by kernel_rfl) (by kernel_rfl) (by kernel_rfl)) ?_
  intro W base args ds gs before hval0 hW hcnd _
  have hval : ∀ (j : Nat) t v, Try.f5.params[j]? = some t → args[j]? = some v → Value.okWide Try.prog W .any base t v := hval0
  have hW' := hW
  obtain ⟨p, q, hA0, hV, rfl, hfz, hnd⟩ := hW
  have hA : DataW.TrodAll enc Try.prog W 0 (fun _ => true) true Try.f5.params.toList args.toList ds p := hA0
  rw [Try.params5] at hA hval
  obtain ⟨v0, vs0, d0, ds0, p0, q0, hargs, rfl, rfl, h0, r0⟩ := trodAll_cons hA
  obtain ⟨v1, vs1, d1, ds1, p1, q1, rfl, rfl, rfl, h1, r1⟩ := trodAll_cons r0
  obtain ⟨rfl, rfl, rfl⟩ := trodAll_nil r1
  obtain rfl : args = #[v0, v1] := by cases args; simp_all
  obtain ⟨rfl, rfl⟩ := trodVars_none hV
  obtain ⟨a0, rfl, rfl, rfl, w0⟩ := open_int Try.underlying3 (hval 0 3 v0 rfl rfl) h0
  obtain ⟨a1, len1, cap1, rfl⟩ := okWide_slice Try.underlying31 (hval 1 31 v1 rfl rfl)
  have k1 := h1
  have lt1 : ∀ x ∈ p1, x.block < W.heap.size := by obtain ⟨m, hm⟩ := k1; exact DataW.trod_lt m _ _ _ hm
  obtain ⟨z1, w1⟩ : ∃ zs, IsRow .u64 W a1 len1 cap1 zs := by
    obtain ⟨fuel, hf⟩ := h1
    rcases open_ints Try.underlying31 Try.underlying22 (by kernel_rfl) hf with ⟨hcs, _⟩ | ⟨x, l, c, zs, hcs, _, hl, hm, hz, _, hcell, hwz⟩
    · simp [Value.cells] at hcs
      obtain ⟨rfl, rfl, rfl⟩ := hcs
      exact ⟨[], .inl ⟨rfl, rfl, rfl, rfl⟩⟩
    · simp [Value.cells] at hcs
      obtain ⟨rfl, rfl, rfl⟩ := hcs
      exact ⟨zs, .inr ⟨_, rfl, hl, hm, by simpa using hz, hcell, hwz⟩⟩
  clear hA0 hval0
  refine (walk a0 a1 len1 cap1 z1 W w0 w1).mono fun e W' ⟨he, bel⟩ => ?_
  subst he
  exact ⟨_, rfl, _, _, _, [], _, [], hW', trodAll_mk1 (shut_bool Try.underlying4 _), (trodAll_cons_mk (shut_int Try.underlying3 w0) (trodAll_cons_mk (Below.trod laidOut (by kernel_rfl) (of_decide_eq_true (by kernel_rfl)) k1 bel lt1) trodAll_mk0)), rfl, bel.frame _, fun h => by cases h⟩

theorem over : Rows.bitsPackRow.holds Try.pinned (OpenSpec.ofChange Rows.bitsPackSpec) :=
  OpenClaim.holds_of_wide 5 Try.f5 rfl rfl rfl rfl rfl rfl rfl ⟨rfl, rfl, rfl, rfl, rfl⟩ rfl rfl rfl rfl rfl (by kernel_rfl) Try.func5 (by kernel_rfl)
    (of_decide_eq_true (by kernel_rfl)) (by unfold Func.isWrapper; first | (rw [if_pos (by decide +kernel)]; kernel_rfl) | (rw [if_neg (by decide +kernel)]; exact ⟨rfl, rfl⟩))
    (fun os started H enc _ => lifted os started H enc)

theorem proved : Rows.BitsPackSaid := over
#print axioms proved
end Go.Proofs.Ytkbjohkijajcgab.bitsPack
namespace Go.Proofs.Ytkbjohkijajcgab
theorem bitsPack_holds : Rows.BitsPackSaid := bitsPack.proved
end Go.Proofs.Ytkbjohkijajcgab
