/-
For any width, any whole numbers (at most 400), any bytes (at most 1000; else the law says nothing) and any count up to 4000: what Write tells Read reads as it was, and Part too, with bytes behind it; what Read reads of any bytes, written, is read as the same. No condition.
-/
import Derived.Test.YtignjhmbajiphaaRows
import Derived.Test.YtignjhmbajiphaaFrame
import Derived.Test.YtignjhmbajiphaaHbBk
import Derived.Deep.RegionHeld3
import Derived.WalkKit
import Derived.ProofKit
import Derived.OpenShut
import Derived.ShutString
import Derived.ChangeOld
import Derived.ChangeMaps5
import Derived.Below
namespace Go.Proofs.Ytignjhmbajiphaa.hybridBack
open Go.ChangeShapes Go.WideShapes Go.ChangeAt Go.RowKit Go.Deep Go.Sort
set_option linter.unusedVariables false
set_option linter.unusedSimpArgs false

set_option maxRecDepth 100000 in
set_option maxHeartbeats 8000000 in
theorem walk (a0 : Int) (a1 : Option Addr) (len1 cap1 : Nat) (l1 : List Int) (a2 : Option Addr) (len2 cap2 B2 : Nat) (n2 : Int) (w : World) (w0 : (Lit.int .i64 a0).wf = true) (w1 : IntRow w a1 len1 cap1 l1) (w2 : ByteRow w a2 len2 cap2 B2) (g2 : (Lit.int .i64 n2).wf = true) :
    Calls Try.prog 4 #[.int .i64 a0, .slice a1 len1 cap1, .agg #[.slice a2 len2 cap2, .int .i64 n2]] w fun e w' => e = .returned (.bool true) ∧ Below w.heap.size w w' := by
  have B0 := alloc_below w (.cells #[.slice a2 len2 cap2, .int .i64 n2] 32 (0, 0))
  have hX := heap_new w (.cells #[.slice a2 len2 cap2, .int .i64 n2] 32 (0, 0))
  by_cases hb1 : 400 < len1
  · have hb1' : (400 : Int) < (len1 : Int) := by omega
    go_enter Try.func4, Try.ntmps4
    go_wp2_with fail
    go_ret
    exact ⟨rfl, B0⟩
  have hb1' : (len1 : Int) ≤ 400 := by omega
  by_cases hb2 : 1000 < len2
  · have hb2' : (1000 : Int) < (len2 : Int) := by omega
    go_enter Try.func4, Try.ntmps4
    go_wp2_with fail
    go_ret
    exact ⟨rfl, B0⟩
  have hb2' : (len2 : Int) ≤ 1000 := by omega
  by_cases hb3 : 4000 < n2
  · go_enter Try.func4, Try.ntmps4
    go_wp2_with fail
    go_ret
    exact ⟨rfl, B0⟩
  have hb3' : n2 ≤ 4000 := by omega
  have hsrc := w1.src
  have hi64 := w1.i64
  have hln := w1.ln
  have hu := i64_wf w0
  have hs2 : Src w a2 len2 cap2 ((ints (upk 8 len2 B2)).map (Value.int .u8)) := by rw [← c8_ints]; exact w2.src
  have hby2 : Bytes (ints (upk 8 len2 B2)) := bytes_ints
  have hl2 : (ints (upk 8 len2 B2)).length = len2 := by rw [ints, List.length_map, upk_len]
  have hrm2 := w2.room
  have hrm1 := w1.room
  clear w2
  generalize ints (upk 8 len2 B2) = zs2 at *
  by_cases hno : wErr a0 l1 = 0
  · obtain ⟨W, rfl, hW, hfit⟩ := wErr_ok hi64 hno
    have hWY := fun W' h => write_yes a1 len1 cap1 W l1 W' (by omega) hrm1 hW (Src.later hsrc h) hi64 hfit
    have hTl := told_le hW l1
    have hTb := told_byte W (l := l1) (by omega)
    have hRT := read_told hW hfit (by omega)
    have hPT := part_told (more := zs2) hW hfit (by omega)
    rw [hln] at hRT hPT
    go_enter Try.func4, Try.ntmps4
    go_wp2_with fail
    refine (hWY _ B0).mono ?_
    rintro e W2 ⟨v2, rfl, hown2, hbb2⟩
    obtain ⟨ab, cb, rfl⟩ := own_sl hown2
    have hcb := own_cap hown2
    have hsb := (src_own hown2).2
    have b2 := B0.trans (hbb2.mono B0.size)
    have hX2 := below_at hbb2 hX
    have RA := read_any ab _ cb W len1 (told W l1) W2 (by omega) hcb hsb hTb (by omega)
    rw [hRT] at RA
    clear hWY hRT hown2 hX B0
    go_wp2_with fail
    refine RA.mono ?_
    rintro e W3 ⟨hbb3, v3, rfl, hown3⟩
    obtain ⟨ax, cx, rfl⟩ := own_sl hown3
    have b3 := b2.trans (hbb3.mono b2.size)
    have hX3 := below_at hbb3 hX2
    have hsb3 := hsb.later hbb3
    clear RA hX2
    go_wp2_with fail
    obtain ⟨⟨x0, x1⟩, _⟩ := blk2 hX3
    have hS0 : W3.drew.cell? ⟨w.heap.size, 0, none⟩ = some (.slice a2 len2 cap2) := x0
    have hX4 : W3.drew.heap[w.heap.size]? = _ := hX3
    have b4 : Below w.heap.size w W3.drew := b3.drew
    have hsb4 := hsb3.later (Below.refl _ W3).drew
    have hsx4 : SrcI W3.drew ax l1.length cx l1 := Src.later (src_own hown3).2 (Below.refl _ W3).drew
    refine wp_region_held_drew (S := fun W => W.cell? ⟨w.heap.size, 0, none⟩ = some (.slice a2 len2 cap2)) (by kernel_rfl) hS0 (fun hHeld => ?_)
    clear hHeld hX3 x0 x1 hsb3 hsb hown3 b3
    generalize W3.drew = D at *
    refine wpAnyH_take (i := 0) (v := ?_) rfl (by kernel_rfl) (by kernel_rfl) (by kernel_rfl) (fun _ _ _ h => h) (Or.inl ⟨by rfl, ?_⟩) (by assumption) ?_
    rotate_left
    · intro w hSw
      (try dsimp only at hSw)
      (try (obtain ⟨_, _, _, _, _, _, _⟩ := hSw))
      (try (obtain ⟨_, _⟩ := hSw))
      go_simp
      (try with_reducible rfl)
    (try simp only [Act.put, List.setIfInBounds_toArray, List.set_cons_zero, List.set_cons_succ])
    refine wpAnyH_take (i := 2) (v := ?_) rfl (by kernel_rfl) (by kernel_rfl) (by kernel_rfl) (fun _ _ _ h => h) (Or.inl ⟨by rfl, ?_⟩) (by assumption) ?_
    rotate_left
    · intro w hSw
      (try dsimp only at hSw)
      (try (obtain ⟨_, _, _, _, _, _, _⟩ := hSw))
      (try (obtain ⟨_, _⟩ := hSw))
      go_simp
      (try with_reducible rfl)
    (try simp only [Act.put, List.setIfInBounds_toArray, List.set_cons_zero, List.set_cons_succ])
    refine wpAnyH_take (i := 3) (v := ?_) rfl (by kernel_rfl) (by kernel_rfl) (by kernel_rfl) (fun _ _ _ h => h) (Or.inl ⟨by rfl, ?_⟩) (by assumption) ?_
    rotate_left
    · intro w hSw
      (try dsimp only at hSw)
      (try (obtain ⟨_, _, _, _, _, _, _⟩ := hSw))
      (try (obtain ⟨_, _⟩ := hSw))
      go_simp
      (try with_reducible rfl)
    (try simp only [Act.put, List.setIfInBounds_toArray, List.set_cons_zero, List.set_cons_succ])
    obtain ⟨v5, W5, hr5, ho5, hb5⟩ := run_app_any (World.ownsRow_nil D D.heap.size 5 1) hsb4 (Nat.le_refl _) (by omega)
    have hs25 := hs2.later (b4.trans (hb5.mono b4.size))
    have hX5 := below_at hb5 hX4
    obtain ⟨v6, W6, hr6, ho6, hb6⟩ := run_app_any ho5 hs25 hb5.size (by omega)
    have hbD6 := hb5.trans hb6
    have hX6 := below_at hbD6 hX4
    have ho6' : W6.ownsRow D.heap.size 5 1 v6 ((told W l1).length + len2) ((told W l1 ++ zs2).map (Value.int .u8)) := by
      rw [List.map_append]
      simpa using ho6
    obtain ⟨a6, c6, rfl⟩ := own_sl ho6'
    have hc6 := own_cap ho6'
    have hs6 := (src_own ho6').2
    have b6 := b4.trans (hbD6.mono b4.size)
    have PA := part_any a6 _ c6 W len1 (told W l1 ++ zs2) W6 (by omega) hc6 hs6 (fun x hx => by
      rcases List.mem_append.1 hx with h | h
      · exact hTb x h
      · exact hby2 x h) (by omega)
    rw [hPT] at PA
    have hsx6 := Src.later hsx4 hbD6
    clear ho5 ho6 ho6' hb5 hb6 hs25 hs6
    obtain ⟨⟨p0, _⟩, _⟩ := blk2 hX5
    obtain ⟨⟨q0, q1⟩, _⟩ := blk2 hX6
    refine wpAnyH_ready (rs := [1]) (by kernel_rfl) (by simp) ?_
    refine AllReadyH.cons rfl (fun K hK => ?_) AllReadyH.nil
    refine ready_append2 rfl (.const (.slice none 0 0)) (.tmp 51) 23 23 rfl _ _ _ rfl rfl hr5 ?_
    refine hK.out _ _ p0 (fun _ => ?_)
    clear hK K
    (try simp only [Act.put, List.setIfInBounds_toArray, List.set_cons_zero, List.set_cons_succ])
    refine wpAnyH_ready (rs := [4]) (by kernel_rfl) (by simp) ?_
    refine AllReadyH.cons rfl (fun K hK => ?_) AllReadyH.nil
    refine ready_append2 rfl (.tmp 52) (.tmp 54) 23 23 rfl _ _ _ rfl rfl hr6 ?_
    refine hK.out _ _ q0 (fun _ => ?_)
    clear hK K
    (try simp only [Act.put, List.setIfInBounds_toArray, List.set_cons_zero, List.set_cons_succ])
    refine wpAnyH_ready (rs := [5]) (by kernel_rfl) (by simp) ?_
    refine AllReadyH.cons rfl (fun K hK => ?_) AllReadyH.nil
    go_simp
    refine hK.out _ _ q0 (fun _ => ?_)
    clear hK K
    refine wpAnyH_done (by kernel_rfl) ?_ _
    clear p0 q0 q1 hS0 hX4 hX5 hr5 hr6
    go_wp2_with fail
    with_reducible refine PA.mono ?_
    rintro e W7 ⟨hbb7, v7, rfl, hown7⟩
    obtain ⟨a7, c7, rfl⟩ := own_sl hown7
    have b7 := b6.trans (hbb7.mono b6.size)
    have hX7 := below_at hbb7 hX6
    have hsx7 : SrcI W7 ax len1 cx l1 := by have h := Src.later hsx6 hbb7; rw [hln] at h; exact h
    have hsy7 : SrcI W7 a7 len1 c7 l1 := by have h := (src_own hown7).2; rw [hln] at h; exact h
    have hsl7 : SrcI W7 a1 len1 cap1 l1 := Src.later hsrc b7
    have S1 := rsi_any ax a1 len1 len1 cx cap1 l1 l1 W7 (by omega) (by omega) hsx7 hsl7
    have S2 := fun W' (h : Below W7.heap.size W7 W') => rsi_any a7 a1 len1 len1 c7 cap1 l1 l1 W' (by omega) (by omega) (Src.later hsy7 h) (Src.later hsl7 h)
    rw [show decide (l1 = l1) = true by simp] at S1
    simp only [show decide (l1 = l1) = true by simp] at S2
    have hTT : (((told W l1).length : Int) == ((told W l1).length : Int)) = true := by simp
    clear PA hX6 hown7
    go_wp2_with fail
    with_reducible refine S1.mono ?_
    rintro e W7a ⟨rfl, hb7a⟩
    go_wp2_with fail
    with_reducible refine (S2 _ hb7a).mono ?_
    rintro e W8 ⟨rfl, hb7b⟩
    have b8 := (b7.trans (hb7a.mono b7.size)).trans (hb7b.mono (Nat.le_trans b7.size hb7a.size))
    have hX8 := below_at hb7b (below_at hb7a hX7)
    obtain ⟨⟨y0, y1⟩, _⟩ := blk2 hX8
    clear S1 S2 hX7
    go_wp2_with fail
    clear hPT hTl hTT hsb4 hsx4 hsx6 hsx7 hsy7 hsl7
    have RB := read_any a2 len2 cap2 (W: Int) n2 zs2 W8 (by omega) hrm2 (hs2.later b8) hby2 (by omega)
    cases hr : readM (W: Int) n2 zs2 with
    | error c =>
      rw [hr] at RB
      have hc0 : (c == 0) = false := by simpa using readM_err hr
      clear hr
      with_reducible refine RB.mono ?_
      rintro e W9 ⟨hbb9, rfl⟩
      go_wp2_with fail
      go_ret
      exact ⟨rfl, b8.trans (hbb9.mono b8.size)⟩
    | ok l =>
      rw [hr] at RB
      obtain ⟨W9', hwd, hW9, hf9, hl9⟩ := readM_fit hby2 (by omega) hr
      obtain rfl : W = W9' := by omega
      have hl9n : l.length ≤ 4000 := by omega
      have hi9 := fit_i64 hW9 hf9
      have hTl9 := told_le hW9 l
      have hTb9 := told_byte W (l := l) (by omega)
      have hRT9 := read_told hW9 hf9 (by omega)
      clear hr
      with_reducible refine RB.mono ?_
      rintro e W9 ⟨hbb9, v9, rfl, hown9⟩
      obtain ⟨a9, c9, rfl⟩ := own_sl hown9
      have hc9 := own_cap hown9
      have b9 := b8.trans (hbb9.mono b8.size)
      have hX9 := below_at hbb9 hX8
      have hs9 : SrcI W9 a9 l.length c9 l := (src_own hown9).2
      obtain ⟨⟨_, y1⟩, _⟩ := blk2 hX9
      have WY := write_yes a9 l.length c9 W l W9 (by omega) hc9 hW9 hs9 hi9 hf9
      clear RB hX8 hown9 hbb9
      go_wp2_with fail
      with_reducible refine WY.mono ?_
      rintro e W10 ⟨v10, rfl, hown10, hbb10⟩
      obtain ⟨a10, c10, rfl⟩ := own_sl hown10
      have hc10 := own_cap hown10
      have b10 := b9.trans (hbb10.mono b9.size)
      have hX10 := below_at hbb10 hX9
      have RC := read_any a10 _ c10 W l.length (told W l) W10 (by omega) hc10 (src_own hown10).2 hTb9 (by omega)
      rw [hRT9] at RC
      rw [hl9] at RC
      have HL9 : Hid ((l.length : Int) = n2) := hl9
      clear hl9
      obtain ⟨⟨_, z1⟩, _⟩ := blk2 hX10
      have hs10 := Src.later hs9 hbb10
      clear WY hown10 hX9 y1
      go_wp2_with fail
      with_reducible refine RC.mono ?_
      rintro e W11 ⟨hbb11, v11, rfl, hown11⟩
      obtain ⟨a11, c11, rfl⟩ := own_sl hown11
      have b11 := b10.trans (hbb11.mono b10.size)
      have hX11 := below_at hbb11 hX10
      obtain ⟨⟨_, t1⟩, _⟩ := blk2 hX11
      have SI := rsi_any a9 a11 l.length l.length c9 c11 l l W11 (by omega) (by omega) (Src.later hs10 hbb11) (src_own hown11).2
      rw [show decide (l = l) = true by simp] at SI
      clear RC hX10 hown11 z1
      go_wp2_with fail
      with_reducible refine SI.mono ?_
      rintro e W12 ⟨rfl, hbb12⟩
      have hX12 := below_at hbb12 hX11
      obtain ⟨⟨_, u1⟩, _⟩ := blk2 hX12
      have hle : ((l.length : Int) == n2) = true := by rw [HL9.out]; simp
      go_wp2_with fail
      go_ret
      exact ⟨by first | rfl | simp [hle], b11.trans (hbb12.mono b11.size)⟩
  · have hWN := fun W' h => write_no a1 len1 cap1 a0 l1 W' (by omega) (Src.later hsrc h) hi64 hno
    have hno2 : (wErr a0 l1 == 0) = false := by simpa using hno
    generalize wErr a0 l1 = er at *
    clear hno
    go_enter Try.func4, Try.ntmps4
    go_wp2_with fail
    refine (hWN _ B0).mono ?_
    rintro e W8 ⟨rfl, hbb8⟩
    have b8 := B0.trans (hbb8.mono B0.size)
    have hX8 := below_at hbb8 hX
    obtain ⟨⟨y0, y1⟩, _⟩ := blk2 hX8
    clear hWN hX B0 hu w0
    go_wp2_with fail
    have RB := read_any a2 len2 cap2 a0 n2 zs2 W8 (by omega) hrm2 (hs2.later b8) hby2 (by omega)
    cases hr : readM a0 n2 zs2 with
    | error c =>
      rw [hr] at RB
      have hc0 : (c == 0) = false := by simpa using readM_err hr
      clear hr
      with_reducible refine RB.mono ?_
      rintro e W9 ⟨hbb9, rfl⟩
      go_wp2_with fail
      go_ret
      exact ⟨rfl, b8.trans (hbb9.mono b8.size)⟩
    | ok l =>
      rw [hr] at RB
      obtain ⟨W9', hwd, hW9, hf9, hl9⟩ := readM_fit hby2 (by omega) hr
      subst hwd
      have hl9n : l.length ≤ 4000 := by omega
      have hi9 := fit_i64 hW9 hf9
      have hTl9 := told_le hW9 l
      have hTb9 := told_byte W9' (l := l) (by omega)
      have hRT9 := read_told hW9 hf9 (by omega)
      clear hr
      with_reducible refine RB.mono ?_
      rintro e W9 ⟨hbb9, v9, rfl, hown9⟩
      obtain ⟨a9, c9, rfl⟩ := own_sl hown9
      have hc9 := own_cap hown9
      have b9 := b8.trans (hbb9.mono b8.size)
      have hX9 := below_at hbb9 hX8
      have hs9 : SrcI W9 a9 l.length c9 l := (src_own hown9).2
      obtain ⟨⟨_, y1⟩, _⟩ := blk2 hX9
      have WY := write_yes a9 l.length c9 W9' l W9 (by omega) hc9 hW9 hs9 hi9 hf9
      clear RB hX8 hown9 hbb9
      go_wp2_with fail
      with_reducible refine WY.mono ?_
      rintro e W10 ⟨v10, rfl, hown10, hbb10⟩
      obtain ⟨a10, c10, rfl⟩ := own_sl hown10
      have hc10 := own_cap hown10
      have b10 := b9.trans (hbb10.mono b9.size)
      have hX10 := below_at hbb10 hX9
      have RC := read_any a10 _ c10 W9' l.length (told W9' l) W10 (by omega) hc10 (src_own hown10).2 hTb9 (by omega)
      rw [hRT9] at RC
      rw [hl9] at RC
      have HL9 : Hid ((l.length : Int) = n2) := hl9
      clear hl9
      obtain ⟨⟨_, z1⟩, _⟩ := blk2 hX10
      have hs10 := Src.later hs9 hbb10
      clear WY hown10 hX9 y1
      go_wp2_with fail
      with_reducible refine RC.mono ?_
      rintro e W11 ⟨hbb11, v11, rfl, hown11⟩
      obtain ⟨a11, c11, rfl⟩ := own_sl hown11
      have b11 := b10.trans (hbb11.mono b10.size)
      have hX11 := below_at hbb11 hX10
      obtain ⟨⟨_, t1⟩, _⟩ := blk2 hX11
      have SI := rsi_any a9 a11 l.length l.length c9 c11 l l W11 (by omega) (by omega) (Src.later hs10 hbb11) (src_own hown11).2
      rw [show decide (l = l) = true by simp] at SI
      clear RC hX10 hown11 z1
      go_wp2_with fail
      with_reducible refine SI.mono ?_
      rintro e W12 ⟨rfl, hbb12⟩
      have hX12 := below_at hbb12 hX11
      obtain ⟨⟨_, u1⟩, _⟩ := blk2 hX12
      have hle : ((l.length : Int) == n2) = true := by rw [HL9.out]; simp
      go_wp2_with fail
      go_ret
      exact ⟨by first | rfl | simp [hle], b11.trans (hbb12.mono b11.size)⟩

set_option maxRecDepth 100000 in
theorem lifted (os : Os) (started : os.Started) (H : Type) (enc : TypeId × Value → H) :
    ReturnsInHanded {} Try.checked os 4 .any (Rows.hybridBackSpec.pre6 enc Try.prog Try.f4 Rows.hybridBackRow.domain false) (Rows.hybridBackSpec.post enc Try.prog Try.f4 false true false false) := by
  refine returnsInHanded_of_change_sized (C := Try.checked) own started (by kernel_rfl) Try.func4
    (ChangeSpec.witness6 (enc := enc) (C := Try.checked) false ⟨#[], #[.int .i64 0, .slice none 0 0, .agg #[.slice none 0 0, .int .i64 0]], []⟩ 8 (by kernel_rfl) (by kernel_rfl) (by kernel_rfl) (by kernel_rfl)) ?_
  intro W base args ds gs before hval0 hW hcnd hsz0 _
  have hsz : (DataW.weightsEach Try.prog (Try.f4.params.toList ++ Rows.hybridBackSpec.plain.varTypes Try.prog) (ds ++ gs)).all (· ≤ reachBytes) = true := hsz0
  clear hsz0
  have hval : ∀ (j : Nat) t v, Try.f4.params[j]? = some t → args[j]? = some v → Value.okWide Try.prog W .any base t v := hval0
  have hW' := hW
  obtain ⟨p, q, hA0, hV, rfl, hfz, hnd⟩ := hW
  have hA : DataW.TrodAll enc Try.prog W 0 (fun _ => true) true Try.f4.params.toList args.toList ds p := hA0
  rw [Try.params4] at hA hval hsz
  obtain ⟨v0, vs0, d0, ds0, p0, q0, hargs, rfl, rfl, h0, r0⟩ := trodAll_cons hA
  obtain ⟨v1, vs1, d1, ds1, p1, q1, rfl, rfl, rfl, h1, r1⟩ := trodAll_cons r0
  obtain ⟨v2, vs2, d2, ds2, p2, q2, rfl, rfl, rfl, h2, r2⟩ := trodAll_cons r1
  obtain ⟨rfl, rfl, rfl⟩ := trodAll_nil r2
  obtain rfl : args = #[v0, v1, v2] := by cases args; simp_all
  obtain ⟨rfl, rfl⟩ := trodVars_none hV
  have e0 := h0
  have lt0 : ∀ x ∈ p0, x.block < W.heap.size := by obtain ⟨m, hm⟩ := e0; exact DataW.trod_lt m _ _ _ hm
  obtain ⟨a0, rfl, _, _, w0⟩ := open_int Try.underlying3 (hval 0 3 v0 rfl rfl) h0
  have e1 := h1
  have lt1 : ∀ x ∈ p1, x.block < W.heap.size := by obtain ⟨m, hm⟩ := e1; exact DataW.trod_lt m _ _ _ hm
  obtain ⟨a1, len1, cap1, l1, rfl, w1⟩ := arg_ints (hval 1 22 v1 rfl rfl) h1
  have e2 := h2
  have lt2 : ∀ x ∈ p2, x.block < W.heap.size := by obtain ⟨m, hm⟩ := e2; exact DataW.trod_lt m _ _ _ hm
  obtain ⟨a2, len2, cap2, B2, n2, rfl, w2, g2⟩ := arg_hb (hval 2 32 v2 rfl rfl) h2
  clear hA0 hval0
  refine (walk a0 a1 len1 cap1 l1 a2 len2 cap2 B2 n2 W w0 w1 w2 g2).mono fun e W' ⟨he, bel⟩ => ?_
  subst he
  exact ⟨_, rfl, _, _, _, [], _, [], hW', trodAll_mk1 (shut_bool Try.underlying4 _), (trodAll_cons_mk (Below.trod laidOut (by kernel_rfl) (of_decide_eq_true (by kernel_rfl)) e0 bel lt0) (trodAll_cons_mk (Below.trod laidOut (by kernel_rfl) (of_decide_eq_true (by kernel_rfl)) e1 bel lt1) (trodAll_cons_mk (Below.trod laidOut (by kernel_rfl) (of_decide_eq_true (by kernel_rfl)) e2 bel lt2) trodAll_mk0))), rfl, bel.frame _, fun h => by cases h⟩

theorem over : Rows.hybridBackRow.holds Try.pinned (OpenSpec.ofChange Rows.hybridBackSpec) :=
  OpenClaim.holds_of_wide 4 Try.f4 rfl rfl rfl rfl rfl rfl rfl ⟨rfl, rfl, rfl, rfl, rfl⟩ rfl rfl rfl rfl rfl (by kernel_rfl) Try.func4 (by kernel_rfl)
    (of_decide_eq_true (by kernel_rfl)) (by unfold Func.isWrapper; first | (rw [if_pos (by decide +kernel)]; kernel_rfl) | (rw [if_neg (by decide +kernel)]; exact ⟨rfl, rfl⟩))
    (fun os started H enc _ => lifted os started H enc)

theorem proved : Rows.HybridBackSaid := over
#print axioms proved
end Go.Proofs.Ytignjhmbajiphaa.hybridBack
namespace Go.Proofs.Ytignjhmbajiphaa
theorem hybridBack_holds : Rows.HybridBackSaid := hybridBack.proved
end Go.Proofs.Ytignjhmbajiphaa
