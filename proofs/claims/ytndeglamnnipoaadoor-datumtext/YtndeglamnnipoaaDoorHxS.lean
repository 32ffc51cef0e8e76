/-
  The reference's Text: bytes between quotes.
-/
import Derived.Test.YtndeglamnnipoaaDoorHxT
import Derived.Test.YtndeglamnnipoaaDoorChk
namespace Go.Proofs.YtndeglamnnipoaaDoor
set_option linter.unusedVariables false
set_option linter.unusedSimpArgs false
open Go.ChangeShapes Go.WideShapes Go.ChangeAt Go.RowKit

theorem strCells_tx (l : List Nat) (h : ∀ x ∈ l, x < 256) : Lib.strCells (tx l) = c8 l := by
  unfold Lib.strCells c8
  rw [tx_data, List.map_map]
  refine List.map_congr_left fun x hx => ?_
  have : x.toUInt8.toNat = x := by simp [Nat.toUInt8]; have := h x hx; omega
  show Value.int .u8 (x.toUInt8.toNat : Int) = _
  rw [this]
theorem hx_256 (c n : Nat) : ∀ x ∈ hx c n, x < 256 := fun x h => by have := hx_lt c n x h; omega
theorem bs256 (m : Nat) : ∀ x ∈ [92, 120] ++ hx 2 m, x < 256 := by
  intro x h
  rcases List.mem_append.1 h with h | h
  · simp at h; omega
  · exact hx_256 _ _ x h
theorem add_bs (m : List Nat) : ({ data := #[92, 120] } : ByteArray) ++ tx m = tx ([92, 120] ++ m) := tx_add [92, 120] m
theorem add_x (m : List Nat) : ({ data := #[120] } : ByteArray) ++ tx m = tx ([120] ++ m) := tx_add [120] m
set_option maxRecDepth 100000 in
set_option maxHeartbeats 2000000 in
theorem rquo_any (k n : Int) (s : ByteArray) (w : World) (hk : k = 6 ∨ k = 7) (hf : fineB k n s.size = true) (hw : (Lit.int .i64 n).wf = true) (hs : s.size ≤ 2000) (ht : Tabs w) : Calls Tryd.prog 5 #[.agg #[.int .i64 k, .int .i64 n, .string s]] w fun e w' => e = .returned (.string (tx (qo (nb s) ++ [34]))) ∧ Below w.heap.size w w' := by
  obtain ⟨i0, hi, hz0, hz1, hz2⟩ := info_parts infoU8
  have hx0 : (w.alloc (.cells #[.int .i64 k, .int .i64 n, .string s] 24)).heap[w.heap.size]? = some (.cells #[.int .i64 k, .int .i64 n, .string s] 24 (0, 0)) := heap_new _ _
  have b0 : Below w.heap.size w (w.alloc (.cells #[.int .i64 k, .int .i64 n, .string s] 24)) := alloc_below _ _
  have CF := fun W => rfine_any k n s hw W
  rw [hf] at CF
  have HS : Hid (s.size ≤ 2000) := hs
  obtain ⟨T, hT⟩ : ∃ T, tx (qo (nb s) ++ [34]) = T := ⟨_, rfl⟩
  rw [hT]
  have HTt : Hid (tx (qo (nb s) ++ [34]) = T) := hT
  clear hT hf hw hs ht
  rcases hk with rfl | rfl
  · go_enter Tryd.func5, Tryd.ntmps5
    go_wp2_with fail
    generalize w.alloc (.cells #[.int .i64 6, .int .i64 n, .string s] 24) = W0 at *
    refine (CF W0).mono ?_
    rintro e W1 ⟨rfl, hb1⟩
    have hx1 := below_at hb1 hx0
    obtain ⟨⟨c0, c1, c2⟩, _⟩ := blk3 hx1
    have b1 := b0.trans (hb1.mono b0.size)
    clear hx0 b0 hb1 CF
    have hba : Below W1.heap.size W1 (W1.alloc (.cells #[.int .u8 34] 5)) := alloc_below _ _
    have hx2 := below_at hba hx1
    have ho2 : (W1.alloc (.cells #[.int .u8 34] 5)).ownsRow W1.heap.size 5 1 (.slice (some ⟨W1.heap.size, 0, none⟩) 1 1) 1 (c8 [34]) := own_one W1 34
    go_wp2_with fail
    have b2 := b1.trans (hba.mono b1.size)
    generalize W1.alloc (.cells #[.int .u8 34] 5) = W2 at *
    have HO2 : Hid (W2.ownsRow W1.heap.size 5 1 (.slice (some ⟨W1.heap.size, 0, none⟩) 1 1) (qo ((nb s).take 0)).length (c8 (qo ((nb s).take 0)))) := ho2
    have HX1 : Hid (W1.heap[w.heap.size]? = (some (.cells #[.int .i64 6, .int .i64 n, .string s] 24 (0, 0)))) := hx1
    clear ho2 hx2 hx1 c0 c1 c2
    go_loopw [3, 4] (fun ov iv wr => ∃ i : Nat, i ≤ s.size ∧ iv = .int .i64 (i : Int) ∧ Hid (wr.ownsRow W1.heap.size 5 1 ov (qo ((nb s).take i)).length (c8 (qo ((nb s).take i)))) ∧ Below W1.heap.size W1 wr) (fun _ iv _ => s.size - (intOf iv).toNat)
    case atStart => exact ⟨0, by omega, rfl, HO2.out, hba⟩
    case round =>
      clear HO2 hba b2
      obtain ⟨i, hi2, rfl, HL, hb⟩ := hrel
      have hxr := below_at hb HX1.out
      obtain ⟨⟨c0, c1, c2⟩, _⟩ := blk3 hxr
      have hs' : (s.size : Int) ≤ 2000 := by have := HS.out; omega
      have hql : (qo ((nb s).take i)).length ≤ 8001 := by
        have h1 := qs_len ((nb s).take i)
        have h2 : ((nb s).take i).length ≤ s.size := by rw [List.length_take, nb_len]; omega
        have h3 := HS.out
        unfold qo
        simp only [List.length_append, List.length_singleton]
        omega
      by_cases hlt : i < s.size
      · have hlt' : (i : Int) < (s.size : Int) := by omega
        have hnt := nb_take s i hlt
        obtain ⟨y, hy⟩ : ∃ y, s[i]'hlt = y := ⟨_, rfl⟩
        rw [hy] at hnt
        have HN2 : Hid (qo ((nb s).take (i + 1)) = qo ((nb s).take i) ++ qb y.toNat) := by
          show _ = _
          unfold qo
          rw [hnt, qs_append, List.append_assoc]
          simp [qs]
        obtain ⟨L, hLd⟩ : ∃ L, qo ((nb s).take i) = L := ⟨_, rfl⟩
        rw [hLd] at HL HN2 hql
        have HQL : Hid (L.length ≤ 8001) := hql
        clear hLd hnt hql
        by_cases q4 : (y.toNat : Int) < 32
        · have HQ : Hid (qb y.toNat = [92, 120] ++ hx 2 y.toNat) := by show _ = _; unfold qb; rw [if_neg (by simp [shB]; omega)]
          have RH : Calls Tryd.prog 12 #[.int .u64 (IntKind.u64.wrap (y.toNat : Int)), .int .i64 2] wr fun e w' => e = .returned (.string (tx (hx 2 y.toNat))) ∧ w' = wr := rhex_any (IntKind.u64.wrap (y.toNat : Int)) y.toNat 2 (u64_small y) (by rw [u64_small]; have := y.toNat_lt; omega) (by omega) wr
          have RHb : Calls Tryd.prog 12 #[.int .u64 (y.toNat : Int), .int .i64 2] wr fun e w' => e = .returned (.string (tx (hx 2 y.toNat))) ∧ w' = wr := rhex_any (y.toNat : Int) y.toNat 2 rfl (by have := y.toNat_lt; omega) (by omega) wr
          have R2 : ¬ 9223372036854775807 < ({ data := #[92, 120] } : ByteArray).size + (tx (hx 2 y.toNat)).size := by rw [tx_size, hx_len]; exact fun h => absurd h (by decide)
          have HBS : Hid ((({ data := #[92, 120] } : ByteArray) ++ tx (hx 2 y.toNat)).size = 4 ∧ Lib.strCells (({ data := #[92, 120] } : ByteArray) ++ tx (hx 2 y.toNat)) = c8 ([92, 120] ++ hx 2 y.toNat)) := by
            rw [add_bs]
            exact ⟨by rw [tx_size]; simp [hx_len], strCells_tx _ (bs256 _)⟩
          generalize tx (hx 2 y.toNat) = H at *
          go_wp2_with fail
          first | (with_reducible refine RH.mono ?_) | (with_reducible refine RHb.mono ?_)
          rintro e wx ⟨rfl, hwx⟩
          obtain rfl := hwx.symm
          go_wp2_with (at_builtin; refine Lib.wpList_append_own_string _ rfl (.tmp 59) (.tmp 63) 28 9 rfl W1.heap.size 5 i0 Tryd.underlying28 Tryd.underlying9 hi hz0 hz1 hz2 _ _ _ rfl HL.out _ rfl (by have := HQL.out; have h2 := HBS.out.1; rw [h2]; unfold maxLen; omega) (by have := HQL.out; have h2 := HBS.out.1; rw [h2]; omega) hb.size ?_; intro v3 w3 ho3 hg3 _)
          have hbx : Below W1.heap.size wr w3 := (Below.refl _ wr).grown hg3 hb.size (fun k hk => (HL.out.lt k hk).1)
          refine ⟨⟨i + 1, by omega, by simp, ?_, hb.trans hbx⟩, by simp [intOf]; omega⟩
          show World.ownsRow _ _ _ _ _ _ _
          rw [HBS.out.1, HBS.out.2] at ho3
          rw [HN2.out, HQ.out, c8_append, List.length_append, show (([92, 120] : List Nat) ++ hx 2 y.toNat).length = 4 from by simp [hx_len]]
          exact ho3
        · by_cases q3 : (126 : Int) < (y.toNat : Int)
          · have HQ : Hid (qb y.toNat = [92, 120] ++ hx 2 y.toNat) := by show _ = _; unfold qb; rw [if_neg (by simp [shB]; omega)]
            have RH : Calls Tryd.prog 12 #[.int .u64 (IntKind.u64.wrap (y.toNat : Int)), .int .i64 2] wr fun e w' => e = .returned (.string (tx (hx 2 y.toNat))) ∧ w' = wr := rhex_any (IntKind.u64.wrap (y.toNat : Int)) y.toNat 2 (u64_small y) (by rw [u64_small]; have := y.toNat_lt; omega) (by omega) wr
            have RHb : Calls Tryd.prog 12 #[.int .u64 (y.toNat : Int), .int .i64 2] wr fun e w' => e = .returned (.string (tx (hx 2 y.toNat))) ∧ w' = wr := rhex_any (y.toNat : Int) y.toNat 2 rfl (by have := y.toNat_lt; omega) (by omega) wr
            have R2 : ¬ 9223372036854775807 < ({ data := #[92, 120] } : ByteArray).size + (tx (hx 2 y.toNat)).size := by rw [tx_size, hx_len]; exact fun h => absurd h (by decide)
            have HBS : Hid ((({ data := #[92, 120] } : ByteArray) ++ tx (hx 2 y.toNat)).size = 4 ∧ Lib.strCells (({ data := #[92, 120] } : ByteArray) ++ tx (hx 2 y.toNat)) = c8 ([92, 120] ++ hx 2 y.toNat)) := by
              rw [add_bs]
              exact ⟨by rw [tx_size]; simp [hx_len], strCells_tx _ (bs256 _)⟩
            generalize tx (hx 2 y.toNat) = H at *
            go_wp2_with fail
            first | (with_reducible refine RH.mono ?_) | (with_reducible refine RHb.mono ?_)
            rintro e wx ⟨rfl, hwx⟩
            obtain rfl := hwx.symm
            go_wp2_with (at_builtin; refine Lib.wpList_append_own_string _ rfl (.tmp 59) (.tmp 63) 28 9 rfl W1.heap.size 5 i0 Tryd.underlying28 Tryd.underlying9 hi hz0 hz1 hz2 _ _ _ rfl HL.out _ rfl (by have := HQL.out; have h2 := HBS.out.1; rw [h2]; unfold maxLen; omega) (by have := HQL.out; have h2 := HBS.out.1; rw [h2]; omega) hb.size ?_; intro v3 w3 ho3 hg3 _)
            have hbx : Below W1.heap.size wr w3 := (Below.refl _ wr).grown hg3 hb.size (fun k hk => (HL.out.lt k hk).1)
            refine ⟨⟨i + 1, by omega, by simp, ?_, hb.trans hbx⟩, by simp [intOf]; omega⟩
            show World.ownsRow _ _ _ _ _ _ _
            rw [HBS.out.1, HBS.out.2] at ho3
            rw [HN2.out, HQ.out, c8_append, List.length_append, show (([92, 120] : List Nat) ++ hx 2 y.toNat).length = 4 from by simp [hx_len]]
            exact ho3
          · by_cases q2 : (y.toNat : Int) = 34
            · have HQ : Hid (qb y.toNat = [92, 120] ++ hx 2 y.toNat) := by show _ = _; unfold qb; rw [if_neg (by simp [shB]; omega)]
              have RH : Calls Tryd.prog 12 #[.int .u64 (IntKind.u64.wrap (y.toNat : Int)), .int .i64 2] wr fun e w' => e = .returned (.string (tx (hx 2 y.toNat))) ∧ w' = wr := rhex_any (IntKind.u64.wrap (y.toNat : Int)) y.toNat 2 (u64_small y) (by rw [u64_small]; have := y.toNat_lt; omega) (by omega) wr
              have RHc : Calls Tryd.prog 12 #[.int .u64 34, .int .i64 2] wr fun e w' => e = .returned (.string (tx (hx 2 y.toNat))) ∧ w' = wr := rhex_any 34 y.toNat 2 (by omega) (by omega) (by omega) wr
              have RHb : Calls Tryd.prog 12 #[.int .u64 (y.toNat : Int), .int .i64 2] wr fun e w' => e = .returned (.string (tx (hx 2 y.toNat))) ∧ w' = wr := rhex_any (y.toNat : Int) y.toNat 2 rfl (by have := y.toNat_lt; omega) (by omega) wr
              have R2 : ¬ 9223372036854775807 < ({ data := #[92, 120] } : ByteArray).size + (tx (hx 2 y.toNat)).size := by rw [tx_size, hx_len]; exact fun h => absurd h (by decide)
              have HBS : Hid ((({ data := #[92, 120] } : ByteArray) ++ tx (hx 2 y.toNat)).size = 4 ∧ Lib.strCells (({ data := #[92, 120] } : ByteArray) ++ tx (hx 2 y.toNat)) = c8 ([92, 120] ++ hx 2 y.toNat)) := by
                rw [add_bs]
                exact ⟨by rw [tx_size]; simp [hx_len], strCells_tx _ (bs256 _)⟩
              generalize tx (hx 2 y.toNat) = H at *
              go_wp2_with fail
              first | (with_reducible refine RH.mono ?_) | (with_reducible refine RHb.mono ?_) | (with_reducible refine RHc.mono ?_)
              rintro e wx ⟨rfl, hwx⟩
              obtain rfl := hwx.symm
              go_wp2_with (at_builtin; refine Lib.wpList_append_own_string _ rfl (.tmp 59) (.tmp 63) 28 9 rfl W1.heap.size 5 i0 Tryd.underlying28 Tryd.underlying9 hi hz0 hz1 hz2 _ _ _ rfl HL.out _ rfl (by have := HQL.out; have h2 := HBS.out.1; rw [h2]; unfold maxLen; omega) (by have := HQL.out; have h2 := HBS.out.1; rw [h2]; omega) hb.size ?_; intro v3 w3 ho3 hg3 _)
              have hbx : Below W1.heap.size wr w3 := (Below.refl _ wr).grown hg3 hb.size (fun k hk => (HL.out.lt k hk).1)
              refine ⟨⟨i + 1, by omega, by simp, ?_, hb.trans hbx⟩, by simp [intOf]; omega⟩
              show World.ownsRow _ _ _ _ _ _ _
              rw [HBS.out.1, HBS.out.2] at ho3
              rw [HN2.out, HQ.out, c8_append, List.length_append, show (([92, 120] : List Nat) ++ hx 2 y.toNat).length = 4 from by simp [hx_len]]
              exact ho3
            · have q2' : ((y.toNat : Int) == 34) = false := by simpa using q2
              by_cases q1 : (y.toNat : Int) = 92
              · have HQ : Hid (qb y.toNat = [92, 120] ++ hx 2 y.toNat) := by show _ = _; unfold qb; rw [if_neg (by simp [shB]; omega)]
                have RH : Calls Tryd.prog 12 #[.int .u64 (IntKind.u64.wrap (y.toNat : Int)), .int .i64 2] wr fun e w' => e = .returned (.string (tx (hx 2 y.toNat))) ∧ w' = wr := rhex_any (IntKind.u64.wrap (y.toNat : Int)) y.toNat 2 (u64_small y) (by rw [u64_small]; have := y.toNat_lt; omega) (by omega) wr
                have RHc : Calls Tryd.prog 12 #[.int .u64 92, .int .i64 2] wr fun e w' => e = .returned (.string (tx (hx 2 y.toNat))) ∧ w' = wr := rhex_any 92 y.toNat 2 (by omega) (by omega) (by omega) wr
                have RHb : Calls Tryd.prog 12 #[.int .u64 (y.toNat : Int), .int .i64 2] wr fun e w' => e = .returned (.string (tx (hx 2 y.toNat))) ∧ w' = wr := rhex_any (y.toNat : Int) y.toNat 2 rfl (by have := y.toNat_lt; omega) (by omega) wr
                have R2 : ¬ 9223372036854775807 < ({ data := #[92, 120] } : ByteArray).size + (tx (hx 2 y.toNat)).size := by rw [tx_size, hx_len]; exact fun h => absurd h (by decide)
                have HBS : Hid ((({ data := #[92, 120] } : ByteArray) ++ tx (hx 2 y.toNat)).size = 4 ∧ Lib.strCells (({ data := #[92, 120] } : ByteArray) ++ tx (hx 2 y.toNat)) = c8 ([92, 120] ++ hx 2 y.toNat)) := by
                  rw [add_bs]
                  exact ⟨by rw [tx_size]; simp [hx_len], strCells_tx _ (bs256 _)⟩
                generalize tx (hx 2 y.toNat) = H at *
                go_wp2_with fail
                first | (with_reducible refine RH.mono ?_) | (with_reducible refine RHb.mono ?_) | (with_reducible refine RHc.mono ?_)
                rintro e wx ⟨rfl, hwx⟩
                obtain rfl := hwx.symm
                go_wp2_with (at_builtin; refine Lib.wpList_append_own_string _ rfl (.tmp 59) (.tmp 63) 28 9 rfl W1.heap.size 5 i0 Tryd.underlying28 Tryd.underlying9 hi hz0 hz1 hz2 _ _ _ rfl HL.out _ rfl (by have := HQL.out; have h2 := HBS.out.1; rw [h2]; unfold maxLen; omega) (by have := HQL.out; have h2 := HBS.out.1; rw [h2]; omega) hb.size ?_; intro v3 w3 ho3 hg3 _)
                have hbx : Below W1.heap.size wr w3 := (Below.refl _ wr).grown hg3 hb.size (fun k hk => (HL.out.lt k hk).1)
                refine ⟨⟨i + 1, by omega, by simp, ?_, hb.trans hbx⟩, by simp [intOf]; omega⟩
                show World.ownsRow _ _ _ _ _ _ _
                rw [HBS.out.1, HBS.out.2] at ho3
                rw [HN2.out, HQ.out, c8_append, List.length_append, show (([92, 120] : List Nat) ++ hx 2 y.toNat).length = 4 from by simp [hx_len]]
                exact ho3
              · have q1' : ((y.toNat : Int) == 92) = false := by simpa using q1
                have HQ : Hid (qb y.toNat = [y.toNat]) := by show _ = _; unfold qb; rw [if_pos (by simp [shB]; omega)]
                go_wp2_with (at_builtin; refine wpList_append_src rfl (.tmp 65) (.tmp 67) 28 rfl W1.heap.size 5 i0 (.int .u8 0) 1 Tryd.underlying28 hi hz0 hz1 hz2 rfl _ _ _ rfl (HL.out.alloc _) _ _ _ (c8 [y.toNat]) rfl (one_src _ y.toNat) (c8_one _) (by have := HQL.out; unfold maxLen; omega) (by have := HQL.out; omega) (by have h2 := hb.size; simp; omega) ?_; intro v3 w3 ho3 hbx)
                refine ⟨⟨i + 1, by omega, by simp, ?_, (hb.trans (one_below wr y.toNat hb.size)).trans hbx⟩, by simp [intOf]; omega⟩
                show World.ownsRow _ _ _ _ _ _ _
                rw [HN2.out, HQ.out, c8_append, List.length_append]
                exact ho3
      · have hlt' : ¬ (i : Int) < (s.size : Int) := by omega
        have e : (nb s).take i = nb s := List.take_of_length_le (by rw [nb_len]; omega)
        rw [e] at HL hql
        obtain ⟨L, hLd⟩ : ∃ L, qo (nb s) = L := ⟨_, rfl⟩
        rw [hLd] at HL hql
        have HLd : Hid (qo (nb s) = L) := hLd
        have HQL : Hid (L.length ≤ 8001) := hql
        clear hLd hql e
        go_wp2_with (at_builtin; refine wpList_append_src rfl (.tmp 69) (.tmp 70) 28 rfl W1.heap.size 5 i0 (.int .u8 0) 1 Tryd.underlying28 hi hz0 hz1 hz2 rfl _ _ _ rfl (HL.out.alloc _) _ _ _ (c8 [34]) rfl (one_src _ 34) (c8_one _) (by have := HQL.out; unfold maxLen; omega) (by have := HQL.out; omega) (by have h2 := hb.size; simp; omega) ?_; intro v3 w3 ho3 hbx; obtain ⟨ad3, cp3, rfl⟩ := own_sl ho3; have R3 := fin_str ho3)
        go_ret
        exact ⟨by rw [← HTt.out, HLd.out]; rfl, b1.trans (((hb.trans (one_below wr 34 hb.size)).trans hbx).mono b1.size)⟩
  · go_enter Tryd.func5, Tryd.ntmps5
    go_wp2_with fail
    generalize w.alloc (.cells #[.int .i64 7, .int .i64 n, .string s] 24) = W0 at *
    refine (CF W0).mono ?_
    rintro e W1 ⟨rfl, hb1⟩
    have hx1 := below_at hb1 hx0
    obtain ⟨⟨c0, c1, c2⟩, _⟩ := blk3 hx1
    have b1 := b0.trans (hb1.mono b0.size)
    clear hx0 b0 hb1 CF
    have hba : Below W1.heap.size W1 (W1.alloc (.cells #[.int .u8 34] 5)) := alloc_below _ _
    have hx2 := below_at hba hx1
    have ho2 : (W1.alloc (.cells #[.int .u8 34] 5)).ownsRow W1.heap.size 5 1 (.slice (some ⟨W1.heap.size, 0, none⟩) 1 1) 1 (c8 [34]) := own_one W1 34
    go_wp2_with fail
    have b2 := b1.trans (hba.mono b1.size)
    generalize W1.alloc (.cells #[.int .u8 34] 5) = W2 at *
    have HO2 : Hid (W2.ownsRow W1.heap.size 5 1 (.slice (some ⟨W1.heap.size, 0, none⟩) 1 1) (qo ((nb s).take 0)).length (c8 (qo ((nb s).take 0)))) := ho2
    have HX1 : Hid (W1.heap[w.heap.size]? = (some (.cells #[.int .i64 7, .int .i64 n, .string s] 24 (0, 0)))) := hx1
    clear ho2 hx2 hx1 c0 c1 c2
    go_loopw [3, 4] (fun ov iv wr => ∃ i : Nat, i ≤ s.size ∧ iv = .int .i64 (i : Int) ∧ Hid (wr.ownsRow W1.heap.size 5 1 ov (qo ((nb s).take i)).length (c8 (qo ((nb s).take i)))) ∧ Below W1.heap.size W1 wr) (fun _ iv _ => s.size - (intOf iv).toNat)
    case atStart => exact ⟨0, by omega, rfl, HO2.out, hba⟩
    case round =>
      clear HO2 hba b2
      obtain ⟨i, hi2, rfl, HL, hb⟩ := hrel
      have hxr := below_at hb HX1.out
      obtain ⟨⟨c0, c1, c2⟩, _⟩ := blk3 hxr
      have hs' : (s.size : Int) ≤ 2000 := by have := HS.out; omega
      have hql : (qo ((nb s).take i)).length ≤ 8001 := by
        have h1 := qs_len ((nb s).take i)
        have h2 : ((nb s).take i).length ≤ s.size := by rw [List.length_take, nb_len]; omega
        have h3 := HS.out
        unfold qo
        simp only [List.length_append, List.length_singleton]
        omega
      by_cases hlt : i < s.size
      · have hlt' : (i : Int) < (s.size : Int) := by omega
        have hnt := nb_take s i hlt
        obtain ⟨y, hy⟩ : ∃ y, s[i]'hlt = y := ⟨_, rfl⟩
        rw [hy] at hnt
        have HN2 : Hid (qo ((nb s).take (i + 1)) = qo ((nb s).take i) ++ qb y.toNat) := by
          show _ = _
          unfold qo
          rw [hnt, qs_append, List.append_assoc]
          simp [qs]
        obtain ⟨L, hLd⟩ : ∃ L, qo ((nb s).take i) = L := ⟨_, rfl⟩
        rw [hLd] at HL HN2 hql
        have HQL : Hid (L.length ≤ 8001) := hql
        clear hLd hnt hql
        by_cases q4 : (y.toNat : Int) < 32
        · have HQ : Hid (qb y.toNat = [92, 120] ++ hx 2 y.toNat) := by show _ = _; unfold qb; rw [if_neg (by simp [shB]; omega)]
          have RH : Calls Tryd.prog 12 #[.int .u64 (IntKind.u64.wrap (y.toNat : Int)), .int .i64 2] wr fun e w' => e = .returned (.string (tx (hx 2 y.toNat))) ∧ w' = wr := rhex_any (IntKind.u64.wrap (y.toNat : Int)) y.toNat 2 (u64_small y) (by rw [u64_small]; have := y.toNat_lt; omega) (by omega) wr
          have RHb : Calls Tryd.prog 12 #[.int .u64 (y.toNat : Int), .int .i64 2] wr fun e w' => e = .returned (.string (tx (hx 2 y.toNat))) ∧ w' = wr := rhex_any (y.toNat : Int) y.toNat 2 rfl (by have := y.toNat_lt; omega) (by omega) wr
          have R2 : ¬ 9223372036854775807 < ({ data := #[92, 120] } : ByteArray).size + (tx (hx 2 y.toNat)).size := by rw [tx_size, hx_len]; exact fun h => absurd h (by decide)
          have HBS : Hid ((({ data := #[92, 120] } : ByteArray) ++ tx (hx 2 y.toNat)).size = 4 ∧ Lib.strCells (({ data := #[92, 120] } : ByteArray) ++ tx (hx 2 y.toNat)) = c8 ([92, 120] ++ hx 2 y.toNat)) := by
            rw [add_bs]
            exact ⟨by rw [tx_size]; simp [hx_len], strCells_tx _ (bs256 _)⟩
          generalize tx (hx 2 y.toNat) = H at *
          go_wp2_with fail
          first | (with_reducible refine RH.mono ?_) | (with_reducible refine RHb.mono ?_)
          rintro e wx ⟨rfl, hwx⟩
          obtain rfl := hwx.symm
          go_wp2_with (at_builtin; refine Lib.wpList_append_own_string _ rfl (.tmp 59) (.tmp 63) 28 9 rfl W1.heap.size 5 i0 Tryd.underlying28 Tryd.underlying9 hi hz0 hz1 hz2 _ _ _ rfl HL.out _ rfl (by have := HQL.out; have h2 := HBS.out.1; rw [h2]; unfold maxLen; omega) (by have := HQL.out; have h2 := HBS.out.1; rw [h2]; omega) hb.size ?_; intro v3 w3 ho3 hg3 _)
          have hbx : Below W1.heap.size wr w3 := (Below.refl _ wr).grown hg3 hb.size (fun k hk => (HL.out.lt k hk).1)
          refine ⟨⟨i + 1, by omega, by simp, ?_, hb.trans hbx⟩, by simp [intOf]; omega⟩
          show World.ownsRow _ _ _ _ _ _ _
          rw [HBS.out.1, HBS.out.2] at ho3
          rw [HN2.out, HQ.out, c8_append, List.length_append, show (([92, 120] : List Nat) ++ hx 2 y.toNat).length = 4 from by simp [hx_len]]
          exact ho3
        · by_cases q3 : (126 : Int) < (y.toNat : Int)
          · have HQ : Hid (qb y.toNat = [92, 120] ++ hx 2 y.toNat) := by show _ = _; unfold qb; rw [if_neg (by simp [shB]; omega)]
            have RH : Calls Tryd.prog 12 #[.int .u64 (IntKind.u64.wrap (y.toNat : Int)), .int .i64 2] wr fun e w' => e = .returned (.string (tx (hx 2 y.toNat))) ∧ w' = wr := rhex_any (IntKind.u64.wrap (y.toNat : Int)) y.toNat 2 (u64_small y) (by rw [u64_small]; have := y.toNat_lt; omega) (by omega) wr
            have RHb : Calls Tryd.prog 12 #[.int .u64 (y.toNat : Int), .int .i64 2] wr fun e w' => e = .returned (.string (tx (hx 2 y.toNat))) ∧ w' = wr := rhex_any (y.toNat : Int) y.toNat 2 rfl (by have := y.toNat_lt; omega) (by omega) wr
            have R2 : ¬ 9223372036854775807 < ({ data := #[92, 120] } : ByteArray).size + (tx (hx 2 y.toNat)).size := by rw [tx_size, hx_len]; exact fun h => absurd h (by decide)
            have HBS : Hid ((({ data := #[92, 120] } : ByteArray) ++ tx (hx 2 y.toNat)).size = 4 ∧ Lib.strCells (({ data := #[92, 120] } : ByteArray) ++ tx (hx 2 y.toNat)) = c8 ([92, 120] ++ hx 2 y.toNat)) := by
              rw [add_bs]
              exact ⟨by rw [tx_size]; simp [hx_len], strCells_tx _ (bs256 _)⟩
            generalize tx (hx 2 y.toNat) = H at *
            go_wp2_with fail
            first | (with_reducible refine RH.mono ?_) | (with_reducible refine RHb.mono ?_)
            rintro e wx ⟨rfl, hwx⟩
            obtain rfl := hwx.symm
            go_wp2_with (at_builtin; refine Lib.wpList_append_own_string _ rfl (.tmp 59) (.tmp 63) 28 9 rfl W1.heap.size 5 i0 Tryd.underlying28 Tryd.underlying9 hi hz0 hz1 hz2 _ _ _ rfl HL.out _ rfl (by have := HQL.out; have h2 := HBS.out.1; rw [h2]; unfold maxLen; omega) (by have := HQL.out; have h2 := HBS.out.1; rw [h2]; omega) hb.size ?_; intro v3 w3 ho3 hg3 _)
            have hbx : Below W1.heap.size wr w3 := (Below.refl _ wr).grown hg3 hb.size (fun k hk => (HL.out.lt k hk).1)
            refine ⟨⟨i + 1, by omega, by simp, ?_, hb.trans hbx⟩, by simp [intOf]; omega⟩
            show World.ownsRow _ _ _ _ _ _ _
            rw [HBS.out.1, HBS.out.2] at ho3
            rw [HN2.out, HQ.out, c8_append, List.length_append, show (([92, 120] : List Nat) ++ hx 2 y.toNat).length = 4 from by simp [hx_len]]
            exact ho3
          · by_cases q2 : (y.toNat : Int) = 34
            · have HQ : Hid (qb y.toNat = [92, 120] ++ hx 2 y.toNat) := by show _ = _; unfold qb; rw [if_neg (by simp [shB]; omega)]
              have RH : Calls Tryd.prog 12 #[.int .u64 (IntKind.u64.wrap (y.toNat : Int)), .int .i64 2] wr fun e w' => e = .returned (.string (tx (hx 2 y.toNat))) ∧ w' = wr := rhex_any (IntKind.u64.wrap (y.toNat : Int)) y.toNat 2 (u64_small y) (by rw [u64_small]; have := y.toNat_lt; omega) (by omega) wr
              have RHc : Calls Tryd.prog 12 #[.int .u64 34, .int .i64 2] wr fun e w' => e = .returned (.string (tx (hx 2 y.toNat))) ∧ w' = wr := rhex_any 34 y.toNat 2 (by omega) (by omega) (by omega) wr
              have RHb : Calls Tryd.prog 12 #[.int .u64 (y.toNat : Int), .int .i64 2] wr fun e w' => e = .returned (.string (tx (hx 2 y.toNat))) ∧ w' = wr := rhex_any (y.toNat : Int) y.toNat 2 rfl (by have := y.toNat_lt; omega) (by omega) wr
              have R2 : ¬ 9223372036854775807 < ({ data := #[92, 120] } : ByteArray).size + (tx (hx 2 y.toNat)).size := by rw [tx_size, hx_len]; exact fun h => absurd h (by decide)
              have HBS : Hid ((({ data := #[92, 120] } : ByteArray) ++ tx (hx 2 y.toNat)).size = 4 ∧ Lib.strCells (({ data := #[92, 120] } : ByteArray) ++ tx (hx 2 y.toNat)) = c8 ([92, 120] ++ hx 2 y.toNat)) := by
                rw [add_bs]
                exact ⟨by rw [tx_size]; simp [hx_len], strCells_tx _ (bs256 _)⟩
              generalize tx (hx 2 y.toNat) = H at *
              go_wp2_with fail
              first | (with_reducible refine RH.mono ?_) | (with_reducible refine RHb.mono ?_) | (with_reducible refine RHc.mono ?_)
              rintro e wx ⟨rfl, hwx⟩
              obtain rfl := hwx.symm
              go_wp2_with (at_builtin; refine Lib.wpList_append_own_string _ rfl (.tmp 59) (.tmp 63) 28 9 rfl W1.heap.size 5 i0 Tryd.underlying28 Tryd.underlying9 hi hz0 hz1 hz2 _ _ _ rfl HL.out _ rfl (by have := HQL.out; have h2 := HBS.out.1; rw [h2]; unfold maxLen; omega) (by have := HQL.out; have h2 := HBS.out.1; rw [h2]; omega) hb.size ?_; intro v3 w3 ho3 hg3 _)
              have hbx : Below W1.heap.size wr w3 := (Below.refl _ wr).grown hg3 hb.size (fun k hk => (HL.out.lt k hk).1)
              refine ⟨⟨i + 1, by omega, by simp, ?_, hb.trans hbx⟩, by simp [intOf]; omega⟩
              show World.ownsRow _ _ _ _ _ _ _
              rw [HBS.out.1, HBS.out.2] at ho3
              rw [HN2.out, HQ.out, c8_append, List.length_append, show (([92, 120] : List Nat) ++ hx 2 y.toNat).length = 4 from by simp [hx_len]]
              exact ho3
            · have q2' : ((y.toNat : Int) == 34) = false := by simpa using q2
              by_cases q1 : (y.toNat : Int) = 92
              · have HQ : Hid (qb y.toNat = [92, 120] ++ hx 2 y.toNat) := by show _ = _; unfold qb; rw [if_neg (by simp [shB]; omega)]
                have RH : Calls Tryd.prog 12 #[.int .u64 (IntKind.u64.wrap (y.toNat : Int)), .int .i64 2] wr fun e w' => e = .returned (.string (tx (hx 2 y.toNat))) ∧ w' = wr := rhex_any (IntKind.u64.wrap (y.toNat : Int)) y.toNat 2 (u64_small y) (by rw [u64_small]; have := y.toNat_lt; omega) (by omega) wr
                have RHc : Calls Tryd.prog 12 #[.int .u64 92, .int .i64 2] wr fun e w' => e = .returned (.string (tx (hx 2 y.toNat))) ∧ w' = wr := rhex_any 92 y.toNat 2 (by omega) (by omega) (by omega) wr
                have RHb : Calls Tryd.prog 12 #[.int .u64 (y.toNat : Int), .int .i64 2] wr fun e w' => e = .returned (.string (tx (hx 2 y.toNat))) ∧ w' = wr := rhex_any (y.toNat : Int) y.toNat 2 rfl (by have := y.toNat_lt; omega) (by omega) wr
                have R2 : ¬ 9223372036854775807 < ({ data := #[92, 120] } : ByteArray).size + (tx (hx 2 y.toNat)).size := by rw [tx_size, hx_len]; exact fun h => absurd h (by decide)
                have HBS : Hid ((({ data := #[92, 120] } : ByteArray) ++ tx (hx 2 y.toNat)).size = 4 ∧ Lib.strCells (({ data := #[92, 120] } : ByteArray) ++ tx (hx 2 y.toNat)) = c8 ([92, 120] ++ hx 2 y.toNat)) := by
                  rw [add_bs]
                  exact ⟨by rw [tx_size]; simp [hx_len], strCells_tx _ (bs256 _)⟩
                generalize tx (hx 2 y.toNat) = H at *
                go_wp2_with fail
                first | (with_reducible refine RH.mono ?_) | (with_reducible refine RHb.mono ?_) | (with_reducible refine RHc.mono ?_)
                rintro e wx ⟨rfl, hwx⟩
                obtain rfl := hwx.symm
                go_wp2_with (at_builtin; refine Lib.wpList_append_own_string _ rfl (.tmp 59) (.tmp 63) 28 9 rfl W1.heap.size 5 i0 Tryd.underlying28 Tryd.underlying9 hi hz0 hz1 hz2 _ _ _ rfl HL.out _ rfl (by have := HQL.out; have h2 := HBS.out.1; rw [h2]; unfold maxLen; omega) (by have := HQL.out; have h2 := HBS.out.1; rw [h2]; omega) hb.size ?_; intro v3 w3 ho3 hg3 _)
                have hbx : Below W1.heap.size wr w3 := (Below.refl _ wr).grown hg3 hb.size (fun k hk => (HL.out.lt k hk).1)
                refine ⟨⟨i + 1, by omega, by simp, ?_, hb.trans hbx⟩, by simp [intOf]; omega⟩
                show World.ownsRow _ _ _ _ _ _ _
                rw [HBS.out.1, HBS.out.2] at ho3
                rw [HN2.out, HQ.out, c8_append, List.length_append, show (([92, 120] : List Nat) ++ hx 2 y.toNat).length = 4 from by simp [hx_len]]
                exact ho3
              · have q1' : ((y.toNat : Int) == 92) = false := by simpa using q1
                have HQ : Hid (qb y.toNat = [y.toNat]) := by show _ = _; unfold qb; rw [if_pos (by simp [shB]; omega)]
                go_wp2_with (at_builtin; refine wpList_append_src rfl (.tmp 65) (.tmp 67) 28 rfl W1.heap.size 5 i0 (.int .u8 0) 1 Tryd.underlying28 hi hz0 hz1 hz2 rfl _ _ _ rfl (HL.out.alloc _) _ _ _ (c8 [y.toNat]) rfl (one_src _ y.toNat) (c8_one _) (by have := HQL.out; unfold maxLen; omega) (by have := HQL.out; omega) (by have h2 := hb.size; simp; omega) ?_; intro v3 w3 ho3 hbx)
                refine ⟨⟨i + 1, by omega, by simp, ?_, (hb.trans (one_below wr y.toNat hb.size)).trans hbx⟩, by simp [intOf]; omega⟩
                show World.ownsRow _ _ _ _ _ _ _
                rw [HN2.out, HQ.out, c8_append, List.length_append]
                exact ho3
      · have hlt' : ¬ (i : Int) < (s.size : Int) := by omega
        have e : (nb s).take i = nb s := List.take_of_length_le (by rw [nb_len]; omega)
        rw [e] at HL hql
        obtain ⟨L, hLd⟩ : ∃ L, qo (nb s) = L := ⟨_, rfl⟩
        rw [hLd] at HL hql
        have HLd : Hid (qo (nb s) = L) := hLd
        have HQL : Hid (L.length ≤ 8001) := hql
        clear hLd hql e
        go_wp2_with (at_builtin; refine wpList_append_src rfl (.tmp 69) (.tmp 70) 28 rfl W1.heap.size 5 i0 (.int .u8 0) 1 Tryd.underlying28 hi hz0 hz1 hz2 rfl _ _ _ rfl (HL.out.alloc _) _ _ _ (c8 [34]) rfl (one_src _ 34) (c8_one _) (by have := HQL.out; unfold maxLen; omega) (by have := HQL.out; omega) (by have h2 := hb.size; simp; omega) ?_; intro v3 w3 ho3 hbx; obtain ⟨ad3, cp3, rfl⟩ := own_sl ho3; have R3 := fin_str ho3)
        go_ret
        exact ⟨by rw [← HTt.out, HLd.out]; rfl, b1.trans (((hb.trans (one_below wr 34 hb.size)).trans hbx).mono b1.size)⟩
end Go.Proofs.YtndeglamnnipoaaDoor
