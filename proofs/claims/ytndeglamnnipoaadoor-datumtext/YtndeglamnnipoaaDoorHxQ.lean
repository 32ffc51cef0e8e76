/-
  quoted.
-/
import Derived.Test.YtndeglamnnipoaaDoorHxB
namespace Go.Proofs.YtndeglamnnipoaaDoor
set_option linter.unusedVariables false
set_option linter.unusedSimpArgs false
open Go.ChangeShapes Go.WideShapes Go.ChangeAt Go.RowKit

/-- what is laid for a text, but for the end -/
def qo (l : List Nat) : List Nat := [34] ++ qs l
theorem u64_small (y : UInt8) : IntKind.u64.wrap (y.toNat : Int) = ((y.toNat : Nat) : Int) := by
  have := y.toNat_lt
  simp [IntKind.wrap, IntKind.signed, IntKind.bits]
  omega
theorem bs_cells : Lib.strCells { data := #[92, 120] } = c8 [92, 120] := by rfl
theorem bs_size : ({ data := #[92, 120] } : ByteArray).size = 2 := by rfl
theorem one_below {B : Nat} (w : World) (x : Nat) (h : B ≤ w.heap.size) : Below B w (w.alloc (.cells #[.int .u8 (x : Int)] 5)) := (Below.refl _ _).alloc h _
theorem fin_str {w : World} {B : Nat} {ad : Option Addr} {n c : Nat} {l m : List Nat} (h : w.ownsRow B 5 1 (.slice ad n c) n (c8 l ++ c8 m)) : Sem.run Tryd.prog (convert 28 9 (.slice ad n c)) w = .ok (.string (tx (l ++ m))) w := by
  have h2 := (src_own h).2
  rw [← c8_append] at h2
  exact str_src h2
set_option maxRecDepth 100000 in
set_option maxHeartbeats 4000000 in
theorem quoted_any (s : ByteArray) (w : World) (hs : s.size ≤ 2000) (ht : Tabd w) (h0 : 0 < w.heap.size) : Calls Tryd.prog 9 #[.string s] w fun e w' => e = .returned (.string (tx (qo (nb s) ++ [34]))) ∧ Below w.heap.size w w' := by
  obtain ⟨i0, hi, hz0, hz1, hz2⟩ := info_parts infoU8
  have hs' : (s.size : Int) ≤ 2000 := by omega
  have HT : Hid (Tabd w) := ht
  have HH : Hid (0 < w.heap.size ∧ s.size ≤ 2000) := ⟨h0, hs⟩
  clear ht h0 hs
  go_enter Tryd.func9, Tryd.ntmps9
  go_wp2_with (first | (at_make; refine wpList_make_own _ rfl _ _ 28 rfl w.heap.size 5 i0 (.int .u8 0) 1 Tryd.underlying28 hi hz0 hz1 _ _ _ (s.size + 2) rfl rfl (by simp) (by rw [hz2]; have := HH.out.2; omega) (by have := HH.out.2; unfold maxLen; omega) (Nat.le_refl _) ?_; intro w1 hown1 hg1; have HO1 : Hid (w1.ownsRow w.heap.size 5 1 (.slice (some ⟨w.heap.size, 0, none⟩) 0 (s.size + 2)) 0 (c8 []) ∧ Below w.heap.size w w1) := ⟨hown1, (Below.refl _ w).grown hg1 (Nat.le_refl _) (fun _ e => by cases e)⟩; clear hown1 hg1) | (at_builtin; refine wpList_append_src rfl (.tmp 10) (.tmp 11) 28 rfl w.heap.size 5 i0 (.int .u8 0) 1 Tryd.underlying28 hi hz0 hz1 hz2 rfl _ _ _ rfl (HO1.out.1.alloc _) _ _ _ (c8 [34]) rfl (one_src _ 34) (c8_one _) (by unfold maxLen; omega) (by omega) (by have h2 := HO1.out.2.size; simp; omega) ?_; intro v2 w2 ho2 hbx))
  have hb2 : Below w.heap.size w w2 := (HO1.out.2.trans (one_below w1 34 HO1.out.2.size)).trans hbx
  have HO2 : Hid (w2.ownsRow w.heap.size 5 1 v2 (qo ((nb s).take 0)).length (c8 (qo ((nb s).take 0)))) := ho2
  clear hbx HO1 ho2
  go_loopw [3, 15] (fun ov iv wr => ∃ i : Nat, i ≤ s.size ∧ iv = .int .i64 (i : Int) ∧ Hid (wr.ownsRow w.heap.size 5 1 ov (qo ((nb s).take i)).length (c8 (qo ((nb s).take i)))) ∧ Below w.heap.size w wr) (fun _ iv _ => s.size - (intOf iv).toNat)
  case atStart => exact ⟨0, by omega, rfl, HO2.out, hb2⟩
  case round =>
    clear HO2 hb2
    obtain ⟨i, hi2, rfl, HL, hb⟩ := hrel
    have HTr : Hid (Tabd wr) := HT.out.later hb HH.out.1
    have hql : (qo ((nb s).take i)).length ≤ 8001 := by
      have h1 := qs_len ((nb s).take i)
      have h2 : ((nb s).take i).length ≤ s.size := by rw [List.length_take, nb_len]; omega
      have h3 := HH.out.2
      unfold qo
      simp only [List.length_append, List.length_singleton]
      omega
    by_cases hlt : i < s.size
    · have hlt' : (i : Int) < (s.size : Int) := by omega
      have hnt := nb_take s i hlt
      obtain ⟨y, hy⟩ : ∃ y, s[i]'hlt = y := ⟨_, rfl⟩
      rw [hy] at hnt
      have hc := shows_any y.toNat
      have HN : Hid (qo ((nb s).take (i + 1)) = (qo ((nb s).take i)) ++ qb y.toNat) := by
        show _ = _
        unfold qo
        rw [hnt, qs_append, List.append_assoc]
        simp [qs]
      obtain ⟨L, hLd⟩ : ∃ L, qo ((nb s).take i) = L := ⟨_, rfl⟩
      have HLd : Hid (qo ((nb s).take i) = L) := hLd
      clear hLd
      rw [HLd.out] at HL HN hql
      have HQL : Hid (L.length ≤ 8001) := hql
      have HQ : Hid (qb y.toNat = if shB y.toNat = true then [y.toNat] else [92, 120] ++ hx 2 y.toNat) := rfl
      generalize shB y.toNat = t at *
      clear hnt hql
      go_wp2_with fail
      refine (hc _).mono ?_
      rintro e wx ⟨rfl, hwx⟩
      obtain rfl := hwx.symm
      cases t
      · have HQ' : Hid (qb y.toNat = [92, 120] ++ hx 2 y.toNat) := HQ.out
        clear HQ
        go_wp2_with (at_builtin; refine Lib.wpList_append_own_string _ rfl (.tmp 27) _ 28 9 rfl w.heap.size 5 i0 Tryd.underlying28 Tryd.underlying9 hi hz0 hz1 hz2 _ _ _ rfl HL.out { data := #[92, 120] } rfl (by have := HQL.out; rw [bs_size]; unfold maxLen; omega) (by have := HQL.out; rw [bs_size]; omega) hb.size ?_; intro v3 w3 ho3 hg3 _)
        have hbx : Below w.heap.size wr w3 := (Below.refl _ wr).grown hg3 hb.size (fun k hk => (HL.out.lt k hk).1)
        have ho4 : w3.ownsRow w.heap.size 5 1 v3 (L ++ [92, 120]).length (c8 (L ++ [92, 120])) := by
          rw [c8_append, List.length_append]; exact ho3
        have hb3 := hb.trans hbx
        have AX : Calls Tryd.prog 8 #[v3, .int .u64 (IntKind.u64.wrap (y.toNat : Int)), .int .i64 2] w3 fun e w' => ∃ v', e = .returned v' ∧ w'.ownsRow w.heap.size 5 1 v' ((L ++ [92, 120]) ++ hx 2 y.toNat).length (c8 ((L ++ [92, 120]) ++ hx 2 y.toNat)) ∧ Below w.heap.size w3 w' := appendHex_any w3 w.heap.size v3 (L ++ [92, 120]) (IntKind.u64.wrap (y.toNat : Int)) y.toNat 2 (u64_small y) (by rw [u64_small]; have := y.toNat_lt; omega) (by omega) ho4 hb3.size (by have := HQL.out; simp; omega) (HT.out.later hb3 HH.out.1) HH.out.1
        clear ho3 ho4 hg3 hbx hb
        refine AX.mono ?_
        rintro e w4 ⟨v4, rfl, ho5, hb4⟩
        clear AX
        go_wp2_with fail
        refine ⟨⟨i + 1, by omega, by simp, ?_, hb3.trans hb4⟩, by simp [intOf]; omega⟩
        show World.ownsRow _ _ _ _ _ _ _
        rw [HN.out, HQ'.out, ← List.append_assoc]
        exact ho5
      · have HQ' : Hid (qb y.toNat = [y.toNat]) := HQ.out
        clear HQ
        go_wp2_with (at_builtin; refine wpList_append_src rfl (.tmp 23) (.tmp 25) 28 rfl w.heap.size 5 i0 (.int .u8 0) 1 Tryd.underlying28 hi hz0 hz1 hz2 rfl _ _ _ rfl (HL.out.alloc _) _ _ _ (c8 [y.toNat]) rfl (one_src _ y.toNat) (c8_one _) (by have := HQL.out; unfold maxLen; omega) (by have := HQL.out; omega) (by have h2 := hb.size; simp; omega) ?_; intro v3 w3 ho3 hbx)
        have hb3 : Below w.heap.size w w3 := (hb.trans (one_below wr y.toNat hb.size)).trans hbx
        refine ⟨⟨i + 1, by omega, by simp, ?_, hb3⟩, by simp [intOf]; omega⟩
        show World.ownsRow _ _ _ _ _ _ _
        rw [HN.out, HQ'.out, c8_append, List.length_append]
        exact ho3
    · have hlt' : ¬ (i : Int) < (s.size : Int) := by omega
      have e : (nb s).take i = nb s := List.take_of_length_le (by rw [nb_len]; omega)
      rw [e] at HL hql
      obtain ⟨L, hLd⟩ : ∃ L, qo (nb s) = L := ⟨_, rfl⟩
      rw [hLd] at HL hql
      have HLd : Hid (qo (nb s) = L) := hLd
      have HQL : Hid (L.length ≤ 8001) := hql
      clear hLd hql e
      go_wp2_with (at_builtin; refine wpList_append_src rfl (.tmp 33) (.tmp 34) 28 rfl w.heap.size 5 i0 (.int .u8 0) 1 Tryd.underlying28 hi hz0 hz1 hz2 rfl _ _ _ rfl (HL.out.alloc _) _ _ _ (c8 [34]) rfl (one_src _ 34) (c8_one _) (by have := HQL.out; unfold maxLen; omega) (by have := HQL.out; omega) (by have h2 := hb.size; simp; omega) ?_; intro v3 w3 ho3 hbx; obtain ⟨ad3, cp3, rfl⟩ := own_sl ho3; have R3 := fin_str ho3)
      go_ret
      exact ⟨by rw [HLd.out]; rfl, (hb.trans (one_below wr 34 hb.size)).trans hbx⟩
end Go.Proofs.YtndeglamnnipoaaDoor
