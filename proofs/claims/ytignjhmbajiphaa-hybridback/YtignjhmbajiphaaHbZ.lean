/-
  readPacked.
-/
import Derived.Test.YtignjhmbajiphaaHbY
namespace Go.Proofs.Ytignjhmbajiphaa
set_option linter.unusedVariables false
set_option linter.unusedSimpArgs false
open Go.ChangeShapes Go.WideShapes Go.ChangeAt Go.RowKit

theorem src64_drop {w : World} {g off len cap n : Nat} {l : List Nat} (h : Src w (some ⟨g, off, none⟩) len cap (c64 l)) (hn : n ≤ len) : Src w (some ⟨g, off + n, none⟩) (len - n) (cap - n) ((ints (l.drop n)).map (Value.int .u64)) := by
  rw [c64_ints] at h
  have hl : (ints l).length = len := by have := h.1; rwa [List.length_map] at this
  rw [show ints (l.drop n) = (ints l).drop n by simp [ints, List.map_drop]]
  generalize ints l = z at *
  refine ⟨by rw [List.length_map, List.length_drop]; omega, .inr ⟨_, rfl, fun j u hj => ?_⟩⟩
  rcases h.2 with ⟨h1, _⟩ | ⟨p, h1, h2⟩
  · cases h1
  · cases h1
    have := h2 (n + j) u (by
      rw [List.map_drop, List.getElem?_drop] at hj
      exact hj)
    rw [← this]
    congr 1
    unfold Addr.add
    split <;> simp_all
    omega
theorem own_capZ {w : World} {B : Nat} {e : TypeId} {a : Option Addr} {n c : Nat} {xs : List Value} (h : w.ownsRow B e 1 (.slice a n c) n xs) : n ≤ c := by
  rcases h.2 with ⟨h1, rfl⟩ | ⟨g, cap, cur, h1, _, _, h4, _⟩
  · omega
  · cases h1
    exact h4
set_option maxRecDepth 100000 in
set_option maxHeartbeats 4000000 in
theorem rdP_any (a : Option Addr) (M c W : Nat) (zs : List Int) (n : Int) (toCome : Nat) (w : World) (hM : M ≤ 1048576) (hW : W ≤ 32) (hs : Src w a M c (zs.map (Value.int .u8))) (hby : Bytes zs) (hn0 : 0 ≤ n) (hn1 : n ≤ 18446744073709551615) (ht : toCome ≤ 65536) :
    Calls Try.prog 47 #[.slice a M c, .int .i64 W, .int .u64 n, .int .i64 toCome] w fun e w' => Below w.heap.size w w' ∧ match rdP W zs n toCome with
      | .ok (l, k) => ∃ v, e = .returned (.tuple #[.agg #[.bool true, v], .int .i64 k]) ∧ w'.ownsRow w.heap.size 3 1 v l.length (l.map (Value.int .i64))
      | .error c => e = gives c := by
  have hzl : zs.length = M := by simpa using hs.1
  refine calls_ofQ fun Q HQ => ?_
  obtain ⟨R, HR⟩ : ∃ R, Hid (rdP W zs n toCome = R) := ⟨_, rfl⟩
  have QOK : Hid (∀ l k v w', R = .ok (l, k) → Below w.heap.size w w' → w'.ownsRow w.heap.size 3 1 v l.length (l.map (Value.int .i64)) → Q (.returned (.tuple #[.agg #[.bool true, v], .int .i64 (k : Nat)])) w') := fun l k v w' e h1 h2 => HQ _ _ ⟨h1, by rw [HR.out, e]; exact ⟨v, rfl, h2⟩⟩
  have QNO : Hid (∀ c w', R = .error c → Below w.heap.size w w' → Q (gives c) w') := fun c w' e h => HQ _ _ ⟨h, by rw [HR.out, e]⟩
  clear HQ
  have ht' : (toCome : Int) ≤ 65536 := by omega
  have B0 := alloc_below w (.cells #[.bool false, .slice none 0 0] 45 (0, 0))
  have hX := heap_new w (.cells #[.bool false, .slice none 0 0] 45 (0, 0))
  have hg : ∀ c, gives c = .panicked [{ v := .iface 63 (.agg #[.int .i64 c]), recovered := false }] := fun _ => rfl
  have GC := fun W' => groupsOf_any toCome (by omega) W'
  obtain ⟨G, HG⟩ : ∃ G, Hid (G = grp toCome) := ⟨_, rfl⟩
  have hGl : G ≤ 8192 := by rw [HG.out]; unfold grp; omega
  have hG8 : 8 * G ≤ toCome + 7 := by rw [HG.out]; unfold grp; omega
  rw [← HG.out] at GC
  have hwG : IntKind.u64.wrap (G : Int) = (G : Int) := by rw [IntKind.wrap_u64]; omega
  by_cases c1 : n = 0
  · have HE : Hid (R = .error 8) := by show _ = _; rw [← HR.out]; unfold rdP; rw [if_pos (.inl c1)]
    subst c1
    have q2 := QNO.out 8 _ HE.out B0
    rw [hg] at q2
    clear hg HR QOK hs
    go_enter Try.func47, Try.ntmps47
    go_wp2_with fail
    refine (must_no 8 _).mono ?_
    rintro e wx ⟨rfl, hwx⟩
    obtain rfl := hwx.symm
    unfold gives
    go_wp2_with fail
    exact ⟨rfl, q2⟩
  have c1' : 0 < n := by omega
  by_cases c2 : (G : Int) < n
  · have HE : Hid (R = .error 8) := by show _ = _; rw [← HR.out]; unfold rdP; rw [← HG.out, if_pos (.inr c2)]
    have q2 := QNO.out 8 _ HE.out B0
    rw [hg] at q2
    have hd1 : decide (n ≤ (G : Int)) = false := by simp; omega
    clear hg HR QOK hs
    go_enter Try.func47, Try.ntmps47
    go_wp2_with fail
    refine (GC _).mono ?_
    rintro e wx ⟨rfl, hwx⟩
    obtain rfl := hwx.symm
    go_wp2_with fail
    refine (must_no 8 _).mono ?_
    rintro e wx ⟨rfl, hwx⟩
    obtain rfl := hwx.symm
    unfold gives
    go_wp2_with fail
    exact ⟨rfl, q2⟩
  have c2' : n ≤ (G : Int) := by omega
  obtain ⟨N, rfl⟩ := Int.eq_ofNat_of_zero_le hn0
  obtain ⟨S, HS⟩ : ∃ S, Hid (S = N * W) := ⟨_, rfl⟩
  obtain ⟨C8, HC8⟩ : ∃ C8, Hid (C8 = 8 * N) := ⟨_, rfl⟩
  obtain ⟨OW, HOW⟩ : ∃ OW, Hid (OW = min C8 toCome) := ⟨_, rfl⟩
  obtain ⟨U, HU⟩ : ∃ U, Hid (U = upk W C8 (pk 8 (nats (padB S zs)))) := ⟨_, rfl⟩
  have hUl : U.length = C8 := by rw [HU.out, upk_len]
  have HR2 : Hid (R = if (U.drop OW).any (fun x => x != 0) = true then .error 8 else if M < S then .error 6 else .ok (ints (U.take OW), S)) := by
    show _ = _
    rw [← HR.out, HU.out, HOW.out, HC8.out, HS.out]
    unfold rdP
    rw [if_neg (by rw [← HG.out]; omega), Int.toNat_natCast, hzl]
  have hNG : N ≤ G := by omega
  have hN8 : 8 * N ≤ 70000 := by omega
  have hSl : S ≤ 300000 := by rw [HS.out]; have := Nat.mul_le_mul (show N ≤ 8192 by omega) hW; omega
  have hSe : S = (C8 * W + 7) / 8 := by rw [HS.out, HC8.out, Nat.mul_assoc]; omega
  have CS := fun wx => size_ok (sze_of (L := C8) hW (by rw [HC8.out]; omega)) hSe wx
  have hC8 : 8 * (N : Int) = (C8 : Int) := by have := HC8.out; omega
  have hC8l : C8 ≤ 70000 := by have := HC8.out; omega
  have hOW : OW ≤ C8 ∧ OW ≤ toCome := by rw [HOW.out]; omega
  have hOWm : OW = C8 ∨ OW = toCome := by rw [HOW.out]; omega
  have hC81 : 8 ≤ C8 := by have := HC8.out; omega
  have hwN : IntKind.i64.wrap (N : Int) = (N : Int) := by rw [IntKind.wrap_i64]; omega
  obtain ⟨i0, hi, hz0, hz1, hz2⟩ := info_parts Try.info5
  obtain ⟨j0, hj, jz0, jz1, jz2⟩ := info_parts infoIntV
  have hsz8 : (Try.prog.info? 5).map (·.size) = some 1 := by rw [hi]; simp [hz1]
  have hpl := padB_len S zs
  have hpb := padB_bytes (S := S) hby
  clear HR hSe
  go_enter Try.func47, Try.ntmps47
  go_wp2_with fail
  refine (GC _).mono ?_
  rintro e wx ⟨rfl, hwx⟩
  obtain rfl := hwx.symm
  go_wp2_with fail
  refine (must_yes 8 _).mono ?_
  rintro e wx ⟨rfl, hwx⟩
  obtain rfl := hwx.symm
  go_wp2_with fail
  refine (CS _).mono ?_
  rintro e wx ⟨rfl, hwx⟩
  obtain rfl := hwx.symm
  have hsS : (S : Int) ≤ 300000 := by omega
  go_wp2_with (at_make; go_loud (refine wpList_make_full _ rfl _ _ 23 rfl (w.heap.size + 1) 5 i0 (.int .u8 0) 1 Try.underlying23 hi hz0 hz1 _ _ _ _ S rfl rfl rfl rfl (by rw [hz2]; omega) (by unfold maxLen; omega) (by simp) ?_); intro w1 hown1 hgrow1; rw [made_zero] at hown1; have hown1' : w1.ownsRow (w.heap.size + 1) 5 1 (.slice (some ⟨w.heap.size + 1, 0, none⟩) S S) S (List.replicate S (Value.int .u8 0)) := (by simpa using hown1); have HG1 : Hid (w1.heap[w.heap.size + 1]? = some (.cells (List.replicate S (Value.int .u8 0)).toArray 5 (0, 0))) := heap_of_made hown1'; have B1 : Below (w.heap.size + 1) (w.alloc (.cells #[.bool false, .slice none 0 0] 45 (0, 0))) w1 := (Below.refl _ _).grown hgrow1 (by simp) (fun _ e => by cases e); clear hown1 hown1' hgrow1)
  have b01 : Below w.heap.size w w1 := B0.trans (B1.mono (Nat.le_succ _))
  have hX1 : w1.heap[w.heap.size]? = some (.cells #[.bool false, .slice none 0 0] 45 (0, 0)) := (B1.block _ (Nat.lt_succ_self _)).trans hX
  have hsz1 : w.heap.size + 1 ≤ w1.heap.size := by have := B1.size; simpa using this
  obtain ⟨w2, hcp, hG2, hB2⟩ := copy_pad (w := w1) (B := w.heap.size + 1) hsz8 HG1.out (Nat.le_refl _) (Below.refl _ _) (hs.later b01)
  obtain ⟨TH, HTH⟩ : ∃ t, Hid (t = Nat.min M S) := ⟨_, rfl⟩
  rw [← HTH.out] at hcp
  rw [hcp]
  go_simp
  have b02 : Below w.heap.size w w2 := b01.trans (hB2.mono (Nat.le_succ _))
  have hX2 := (hB2.block _ (Nat.lt_succ_self _)).trans hX1
  have hsz2 : w.heap.size + 1 ≤ w2.heap.size := Nat.le_trans hsz1 hB2.size
  have hown2 : w2.ownsRow (w.heap.size + 1) 5 1 (.slice (some ⟨w.heap.size + 1, 0, none⟩) S S) S ((padB S zs).map (Value.int .u8)) := own_of_heap hG2 (Nat.le_refl _) (by rw [List.length_map, hpl]) (by unfold maxLen; omega)
  have UA := unp_all (w := w2) hW hN8 HS.out hpl hpb (src_own hown2).2
  rw [← HC8.out, ← HU.out] at UA
  have hTHe : (TH = S ∧ ¬ M < S) ∨ (TH ≠ S ∧ M < S) := by
    rw [HTH.out]
    rcases Nat.le_total M S with h | h
    · rw [show Nat.min M S = M from Nat.min_eq_left h]; omega
    · rw [show Nat.min M S = S from Nat.min_eq_right h]; omega
  clear hcp HG1 B0 B1 hX hX1 hs hG2 GC CS hown2
  go_wp2_with fail
  refine UA.mono ?_
  rintro e w3 ⟨v3, rfl, hown3, hb3⟩
  obtain ⟨g3, c3, rfl⟩ := own_some hown3 (by omega)
  have hc3 := own_capZ hown3
  have b03 : Below w.heap.size w w3 := b02.trans (hb3.mono b02.size)
  have hX3 := below_at hb3 hX2
  have hsU := (src_own hown3).2
  have hmin : min (C8 : Int) (toCome : Int) = (OW : Int) := by rw [HOW.out]; omega
  have hOWc : (OW : Int) ≤ (C8 : Int) := by omega
  have hsz3 : w.heap.size + 1 ≤ w3.heap.size := Nat.le_trans hsz2 hb3.size
  have HR3 := HR2.out
  clear UA hb3 hX2 HR2
  rcases Nat.lt_or_ge OW c3 with hq | hq
  · have hq1 : ¬ c3 = OW := by omega
    go_wp2_with fail
    refine (nz_contains _ _ _ (ints (U.drop OW)) _ (by omega) ?_).mono ?_
    · have h := src64_drop hsU (n := OW) (by omega)
      simpa using h
    rintro e wx ⟨rfl, hwx⟩
    obtain rfl := hwx.symm
    rw [any_ints]
    cases hbad : (U.drop OW).any fun x => x != 0
    · rw [hbad, if_neg (by decide)] at HR3
      have HR4 : Hid _ := HR3
      clear HR3 hbad
      go_wp2_with fail
      refine (must_yes 8 _).mono ?_
      rintro e wx ⟨rfl, hwx⟩
      obtain rfl := hwx.symm
      go_wp2_with fail
      rcases hTHe with ⟨hT1, hT2⟩ | ⟨hT1, hT2⟩
      · subst hT1
        have HE : Hid (R = .ok (ints (U.take OW), TH)) := by show _ = _; rw [HR4.out, if_neg hT2]
        clear HR4 QNO
        rw [show ((TH : Int) == (TH : Int)) = true by simp]
        refine (must_yes 6 _).mono ?_
        rintro e wx ⟨rfl, hwx⟩
        obtain rfl := hwx.symm
        go_wp2_with (at_make; go_loud (refine wpList_make_full _ rfl _ _ 22 rfl w3.heap.size 3 j0 (.int .i64 0) 1 Try.underlying22 hj jz0 jz1 _ _ _ _ OW rfl rfl rfl rfl (by rw [jz2]; omega) (by unfold maxLen; omega) (Nat.le_refl _) ?_); intro w5 hown5 hgrow5)
        rw [made_zero] at hown5
        have B5 : Below w3.heap.size w3 w5 := (Below.refl _ _).grown hgrow5 (Nat.le_refl _) (fun _ e => by cases e)
        have b05 : Below w.heap.size w w5 := b03.trans (B5.mono b03.size)
        have hX5 := below_at B5 hX3
        have hown5' : w5.ownsRow w3.heap.size 3 1 (.slice (some ⟨w3.heap.size, 0, none⟩) OW OW) OW (((ints (U.take OW)).take 0 ++ List.replicate (OW - 0) 0).map (Value.int .i64)) := by simpa using hown5
        have hUO : (ints (U.take OW)).length = OW := by simp [ints]; omega
        have HUG : Hid (∀ i, i < OW → (ints (U.take OW)).getD i 0 = ((U.getD i 0 : Nat) : Int) ∧ ((U.getD i 0 : Nat) : Int) < 4294967296) := fun i hi => by
          have hiU : i < U.length := by omega
          constructor
          · simp [ints, List.getD, List.getElem?_take, hi, List.getElem?_eq_getElem hiU]
          · have hf := upk_fit W C8 (pk 8 (nats (padB (N * W) zs)))
            have hm : U.getD i 0 ∈ U := by simp [List.getD, List.getElem?_eq_getElem hiU]
            have hp : 2 ^ W ≤ 2 ^ 32 := Nat.pow_le_pow_right (by omega) hW
            have hfU : Fit W U := by rw [HU.out]; exact upk_fit _ _ _
            have := hfU _ hm
            omega
        clear hown5 hgrow5
        rw [c64_ints] at hsU
        go_loopw [70] (fun s wr => ∃ i : Nat, s = .int .i64 (i : Int) ∧ i ≤ OW ∧ Hid (wr.ownsRow w3.heap.size 3 1 (.slice (some ⟨w3.heap.size, 0, none⟩) OW OW) OW (((ints (U.take OW)).take i ++ List.replicate (OW - i) 0).map (Value.int .i64))) ∧ Below w3.heap.size w5 wr) (fun s _ => OW - (intOf s).toNat)
        case atStart => exact ⟨0, rfl, Nat.zero_le _, hown5', Below.refl _ _⟩
        case round =>
          obtain ⟨i, rfl, hin, HO, hb⟩ := hrel
          clear hown5'
          have hb3r := B5.trans hb
          by_cases hlt : i < OW
          · have hlt' : (i : Int) < (OW : Int) := by omega
            have hltC : (i : Int) < (C8 : Int) := by omega
            obtain ⟨g', off', e, hcz⟩ := src_atI (hsU.later hb3r) (i := i) (by omega)
            cases e
            have hgz : (ints U).getD i 0 = ((U.getD i 0 : Nat) : Int) := by
              simp [ints, List.getD, List.getElem?_eq_getElem (show i < U.length by omega)]
            rw [hgz, Nat.zero_add] at hcz
            have hug := HUG.out i hlt
            have hcj : wr.cell? ⟨w3.heap.size, i, none⟩ = some (.int .i64 0) := by
              rw [HO.out.cellAt i (by omega)]
              rw [List.getElem?_map, List.getElem?_append_right (by rw [List.length_take]; omega), List.length_take, Nat.min_eq_left (by omega), Nat.sub_self, List.getElem?_replicate, if_pos (by omega)]
              rfl
            have hfj := HO.out.frozenAt i
            have RR := fill_k (j := i) (N := OW) (by omega) (by omega) HO.out hb (Nat.le_refl _)
            rw [hug.1] at RR
            have RH : Hid _ := RR
            clear RR hgz
            generalize U.getD i 0 = y at *
            have hwy : IntKind.i64.wrap (y : Int) = (y : Int) := by rw [IntKind.wrap_i64]; have := hug.2; omega
            clear hug
            go_wp2_with fail
            go_roundw
            case rel => exact ⟨i + 1, by go_num, by omega, RH.out.1, RH.out.2⟩
            case measure => simp [intOf]; omega
          · have hge : (OW : Int) ≤ (i : Int) := by omega
            have hio : i = OW := by omega
            have hOr := HO.out
            rw [hio, List.take_of_length_le (by omega), Nat.sub_self, List.replicate_zero, List.append_nil] at hOr
            have hXr := (hb.block _ (lt_of_heap hX3)).trans hX5
            have hbr := b05.trans (hb.mono b03.size)
            obtain ⟨s1, s2⟩ := store2 hXr (.bool true) (.slice (some ⟨w3.heap.size, 0, none⟩) OW OW)
            obtain ⟨_, f0, f1⟩ := blk2 hXr
            have hbF := hbr.trans (s2.below (Nat.le_refl _))
            obtain ⟨⟨d0, d1⟩, _⟩ := blk2 s1
            have hO4 := row_baseE (own_only hOr s2 (by omega)) (show w.heap.size ≤ w3.heap.size by omega)
            rw [show OW = (ints (U.take OW)).length from hUO.symm] at hO4
            have q2 := QOK.out _ _ _ _ HE.out hbF (by rw [hUO] at hO4 ⊢; exact hO4)
            clear QOK hO4 hio HO hOr
            go_wp2_with fail
            refine bodyPost_ret (v := .tuple #[.agg #[.bool true, .slice (some ⟨w3.heap.size, 0, none⟩) OW OW], .int .i64 TH]) (by simp [results, Try.results47, go_sem, Try.underlying45, d0, d1]) rfl ?_
            exact q2
      · have HE : Hid (R = .error 6) := by show _ = _; rw [HR4.out, if_pos hT2]
        have hTS : ((TH : Int) == (S : Int)) = false := by simp; omega
        have hTS2 : (TH == S) = false := by simp; omega
        have q2 := QNO.out 6 _ HE.out b03
        rw [hg] at q2
        clear hg HR4 QOK
        rw [hTS]
        refine (must_no 6 _).mono ?_
        rintro e wx ⟨rfl, hwx⟩
        obtain rfl := hwx.symm
        unfold gives
        go_wp2_with fail
        exact ⟨rfl, q2⟩
    · rw [hbad, if_pos rfl] at HR3
      have q2 := QNO.out 8 _ HR3 b03
      rw [hg] at q2
      clear hg QOK HR3 hbad
      go_wp2_with fail
      refine (must_no 8 _).mono ?_
      rintro e wx ⟨rfl, hwx⟩
      obtain rfl := hwx.symm
      unfold gives
      go_wp2_with fail
      exact ⟨rfl, q2⟩
  · have hq1 : c3 = OW := by omega
    have hq2 : C8 = OW := by omega
    subst hq1
    subst hq2
    go_wp2_with fail
    refine (nz_contains _ _ _ (ints (U.drop C8)) _ (by omega) ?_).mono ?_
    · have e : ints (U.drop C8) = [] := by rw [List.drop_of_length_le (by omega)]; rfl
      rw [e]
      exact ⟨by simp, .inr ⟨_, rfl, fun j u hj => by simp at hj⟩⟩
    rintro e wx ⟨rfl, hwx⟩
    obtain rfl := hwx.symm
    rw [any_ints]
    cases hbad : (U.drop C8).any fun x => x != 0
    · rw [hbad, if_neg (by decide)] at HR3
      have HR4 : Hid _ := HR3
      clear HR3 hbad
      go_wp2_with fail
      refine (must_yes 8 _).mono ?_
      rintro e wx ⟨rfl, hwx⟩
      obtain rfl := hwx.symm
      go_wp2_with fail
      rcases hTHe with ⟨hT1, hT2⟩ | ⟨hT1, hT2⟩
      · subst hT1
        have HE : Hid (R = .ok (ints (U.take C8), TH)) := by show _ = _; rw [HR4.out, if_neg hT2]
        clear HR4 QNO
        rw [show ((TH : Int) == (TH : Int)) = true by simp]
        refine (must_yes 6 _).mono ?_
        rintro e wx ⟨rfl, hwx⟩
        obtain rfl := hwx.symm
        go_wp2_with (at_make; go_loud (refine wpList_make_full _ rfl _ _ 22 rfl w3.heap.size 3 j0 (.int .i64 0) 1 Try.underlying22 hj jz0 jz1 _ _ _ _ C8 rfl rfl rfl rfl (by rw [jz2]; omega) (by unfold maxLen; omega) (Nat.le_refl _) ?_); intro w5 hown5 hgrow5)
        rw [made_zero] at hown5
        have B5 : Below w3.heap.size w3 w5 := (Below.refl _ _).grown hgrow5 (Nat.le_refl _) (fun _ e => by cases e)
        have b05 : Below w.heap.size w w5 := b03.trans (B5.mono b03.size)
        have hX5 := below_at B5 hX3
        have hown5' : w5.ownsRow w3.heap.size 3 1 (.slice (some ⟨w3.heap.size, 0, none⟩) C8 C8) C8 (((ints (U.take C8)).take 0 ++ List.replicate (C8 - 0) 0).map (Value.int .i64)) := by simpa using hown5
        have hUO : (ints (U.take C8)).length = C8 := by simp [ints]; omega
        have HUG : Hid (∀ i, i < C8 → (ints (U.take C8)).getD i 0 = ((U.getD i 0 : Nat) : Int) ∧ ((U.getD i 0 : Nat) : Int) < 4294967296) := fun i hi => by
          have hiU : i < U.length := by omega
          constructor
          · simp [ints, List.getD, List.getElem?_take, hi, List.getElem?_eq_getElem hiU]
          · have hf := upk_fit W C8 (pk 8 (nats (padB (N * W) zs)))
            have hm : U.getD i 0 ∈ U := by simp [List.getD, List.getElem?_eq_getElem hiU]
            have hp : 2 ^ W ≤ 2 ^ 32 := Nat.pow_le_pow_right (by omega) hW
            have hfU : Fit W U := by rw [HU.out]; exact upk_fit _ _ _
            have := hfU _ hm
            omega
        clear hown5 hgrow5
        rw [c64_ints] at hsU
        go_loopw [70] (fun s wr => ∃ i : Nat, s = .int .i64 (i : Int) ∧ i ≤ C8 ∧ Hid (wr.ownsRow w3.heap.size 3 1 (.slice (some ⟨w3.heap.size, 0, none⟩) C8 C8) C8 (((ints (U.take C8)).take i ++ List.replicate (C8 - i) 0).map (Value.int .i64))) ∧ Below w3.heap.size w5 wr) (fun s _ => C8 - (intOf s).toNat)
        case atStart => exact ⟨0, rfl, Nat.zero_le _, hown5', Below.refl _ _⟩
        case round =>
          obtain ⟨i, rfl, hin, HO, hb⟩ := hrel
          clear hown5'
          have hb3r := B5.trans hb
          by_cases hlt : i < C8
          · have hlt' : (i : Int) < (C8 : Int) := by omega
            have hltC : (i : Int) < (C8 : Int) := by omega
            obtain ⟨g', off', e, hcz⟩ := src_atI (hsU.later hb3r) (i := i) (by omega)
            cases e
            have hgz : (ints U).getD i 0 = ((U.getD i 0 : Nat) : Int) := by
              simp [ints, List.getD, List.getElem?_eq_getElem (show i < U.length by omega)]
            rw [hgz, Nat.zero_add] at hcz
            have hug := HUG.out i hlt
            have hcj : wr.cell? ⟨w3.heap.size, i, none⟩ = some (.int .i64 0) := by
              rw [HO.out.cellAt i (by omega)]
              rw [List.getElem?_map, List.getElem?_append_right (by rw [List.length_take]; omega), List.length_take, Nat.min_eq_left (by omega), Nat.sub_self, List.getElem?_replicate, if_pos (by omega)]
              rfl
            have hfj := HO.out.frozenAt i
            have RR := fill_k (j := i) (N := C8) (by omega) (by omega) HO.out hb (Nat.le_refl _)
            rw [hug.1] at RR
            have RH : Hid _ := RR
            clear RR hgz
            generalize U.getD i 0 = y at *
            have hwy : IntKind.i64.wrap (y : Int) = (y : Int) := by rw [IntKind.wrap_i64]; have := hug.2; omega
            clear hug
            go_wp2_with fail
            go_roundw
            case rel => exact ⟨i + 1, by go_num, by omega, RH.out.1, RH.out.2⟩
            case measure => simp [intOf]; omega
          · have hge : (C8 : Int) ≤ (i : Int) := by omega
            have hio : i = C8 := by omega
            have hOr := HO.out
            rw [hio, List.take_of_length_le (by omega), Nat.sub_self, List.replicate_zero, List.append_nil] at hOr
            have hXr := (hb.block _ (lt_of_heap hX3)).trans hX5
            have hbr := b05.trans (hb.mono b03.size)
            obtain ⟨s1, s2⟩ := store2 hXr (.bool true) (.slice (some ⟨w3.heap.size, 0, none⟩) C8 C8)
            obtain ⟨_, f0, f1⟩ := blk2 hXr
            have hbF := hbr.trans (s2.below (Nat.le_refl _))
            obtain ⟨⟨d0, d1⟩, _⟩ := blk2 s1
            have hO4 := row_baseE (own_only hOr s2 (by omega)) (show w.heap.size ≤ w3.heap.size by omega)
            rw [show C8 = (ints (U.take C8)).length from hUO.symm] at hO4
            have q2 := QOK.out _ _ _ _ HE.out hbF (by rw [hUO] at hO4 ⊢; exact hO4)
            clear QOK hO4 hio HO hOr
            go_wp2_with fail
            refine bodyPost_ret (v := .tuple #[.agg #[.bool true, .slice (some ⟨w3.heap.size, 0, none⟩) C8 C8], .int .i64 TH]) (by simp [results, Try.results47, go_sem, Try.underlying45, d0, d1]) rfl ?_
            exact q2
      · have HE : Hid (R = .error 6) := by show _ = _; rw [HR4.out, if_pos hT2]
        have hTS : ((TH : Int) == (S : Int)) = false := by simp; omega
        have hTS2 : (TH == S) = false := by simp; omega
        have q2 := QNO.out 6 _ HE.out b03
        rw [hg] at q2
        clear hg HR4 QOK
        rw [hTS]
        refine (must_no 6 _).mono ?_
        rintro e wx ⟨rfl, hwx⟩
        obtain rfl := hwx.symm
        unfold gives
        go_wp2_with fail
        exact ⟨rfl, q2⟩
    · rw [hbad, if_pos rfl] at HR3
      have q2 := QNO.out 8 _ HR3 b03
      rw [hg] at q2
      clear hg QOK HR3 hbad
      go_wp2_with fail
      refine (must_no 8 _).mono ?_
      rintro e wx ⟨rfl, hwx⟩
      obtain rfl := hwx.symm
      unfold gives
      go_wp2_with fail
      exact ⟨rfl, q2⟩
end Go.Proofs.Ytignjhmbajiphaa
