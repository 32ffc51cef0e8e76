/-
  The reference's Write.
-/
import Derived.Test.YtfocmlajeflenaaPlRb
import Derived.Test.YtfocmlajeflenaaPlWr
import Derived.Lib.QuietBelow
import Derived.BigQuiet
namespace Go.Proofs.Ytfocmlajeflenaa
set_option linter.unusedVariables false
set_option linter.unusedSimpArgs false
open Go.ChangeShapes Go.WideShapes Go.ChangeAt Go.RowKit Go.Deep Go.Sort

/-- what asked answers -/
def askN (k z : Int) (l : List Dat) : Int := if (chkB k z && wAll k z l) = false then 2 else if 65536 < l.length then 3 else 0
set_option maxRecDepth 100000 in
set_option maxHeartbeats 4000000 in
theorem asked_any (k z : Int) (w : World) (a : Option Addr) (len cap : Nat) (l : List Dat) (h : Data w a len cap l) :
    Calls Try.prog 22 #[.agg #[.int .i64 k, .int .i64 z], .slice a len cap] w fun e w' => e = .returned (.int .i64 (askN k z l)) ∧ Below w.heap.size w w' := by
  have HL : Hid (l.length = len) := h.1
  have hlen := h.2.2.1
  have ab := alloc_below w (.cells #[.int .i64 k, .int .i64 z] 24 (0, 0))
  have hx := heap_new w (.cells #[.int .i64 k, .int .i64 z] 24 (0, 0))
  have CK := fun W => rcheck_any k z W
  cases hc : chkB k z
  · have HE : Hid (askN k z l = 2) := by show _ = _; simp [askN, hc]
    rw [hc] at CK
    clear hc h
    go_enter Try.func22, Try.ntmps22
    go_wp2_with fail
    refine (CK _).mono ?_
    rintro e W1 ⟨rfl, hb1⟩
    go_wp2_with fail
    go_ret
    exact ⟨by rw [HE.out]; rfl, ab.trans (hb1.mono ab.size)⟩
  rw [hc] at CK
  have HC : Hid (chkB k z = true) := hc
  clear hc
  go_enter Try.func22, Try.ntmps22
  go_wp2_with fail
  refine (CK _).mono ?_
  rintro e W1 ⟨rfl, hb1⟩
  have b1 := ab.trans (hb1.mono ab.size)
  have hx1 := below_at hb1 hx
  clear CK hb1 hx ab
  go_wp2_with fail
  go_loopw [5] (fun iv wr => ∃ i : Nat, i ≤ len ∧ iv = .int .i64 (i : Int) ∧ Hid (wAll k z (l.drop i) = wAll k z l) ∧ Below W1.heap.size W1 wr) (fun iv _ => len - (intOf iv).toNat)
  case atStart => exact ⟨0, Nat.zero_le _, rfl, rfl, Below.refl _ _⟩
  case round =>
    obtain ⟨i, hi, rfl, H, hb⟩ := hrel
    have hbw := b1.trans (hb.mono b1.size)
    by_cases hlt : i < len
    · have hlt' : (i : Int) < (len : Int) := by omega
      obtain ⟨d, g, o, hd, wd, rfl, hg, y0, y1, y2⟩ := data_at (h.later hbw) hlt
      have HS : Hid ((ofB d.k d.n d.s.size k z && wAll k z (l.drop (i + 1))) = wAll k z l) := by
        show _ = _
        rw [← H.out, wAll_step hd]
      have R : ∀ x os, Calls Try.prog 34 #[.agg #[.int .i64 d.k, .int .i64 d.n, .string d.s], .agg #[.int .i64 k, .int .i64 z]] (grow (redrawn wr x) os) fun r w'' => r = .returned (.bool (ofB d.k d.n d.s.size k z)) ∧ ∃ p : Regrown, w'' = grow (redrawn wr p.d) p.os := fun x os => Calls.regrown_of (rof_any d.k d.n d.s k z wd.2.1 _)
      obtain ⟨⟨t0, t1⟩, _⟩ := blk2 (below_at hb hx1)
      have r0 := cell_regrown y0; have r1 := cell_regrown y1; have r2 := cell_regrown y2; have r3 := cell_regrown t0; have r4 := cell_regrown t1
      generalize ofB d.k d.n d.s.size k z = t at *
      clear H hd wd
      go_wp2_with fail
      refine wp_region_quiet_below (by kernel_rfl) (by kernel_rfl) ?_
      repeat (go_big_quiet_step (with_reducible exact R _ _))
      refine wpQuiet_nil ?_
      intro _ hw'
      obtain ⟨⟨dq, osq⟩, hw''⟩ := hw'
      subst hw''
      have hqq := below_regrown wr dq osq
      generalize grow (redrawn wr dq) osq = wq at *
      clear r0 r1 r2 r3 r4 R y0 y1 y2 t0 t1
      have hb3 := hb.trans (hqq.mono hb.size)
      cases t
      · have HE : Hid (askN k z l = 2) := by show _ = _; simp [askN, ← HS.out]
        go_wp2_with fail
        go_ret
        exact ⟨by rw [HE.out]; rfl, b1.trans (hb3.mono b1.size)⟩
      · have HE : Hid (wAll k z (l.drop (i + 1)) = wAll k z l) := by show _ = _; rw [← HS.out]; rfl
        go_wp2_with fail
        go_roundw
        case rel => exact ⟨i + 1, by omega, by go_num, HE, hb3⟩
        case measure => simp [intOf]; omega
    · have hlt' : (len : Int) ≤ (i : Int) := by omega
      have HA : Hid (wAll k z l = true) := by
        show _ = _
        rw [← H.out, List.drop_eq_nil_of_le (by have := HL.out; omega)]
        rfl
      by_cases hm : len ≤ 65536
      · have hm' : (len : Int) ≤ 65536 := by omega
        have HE : Hid (askN k z l = 0) := by
          show _ = _
          simp only [askN, HC.out, HA.out, Bool.and_self]
          rw [if_neg (by decide), if_neg (by have := HL.out; omega)]
        go_wp2_with fail
        go_ret
        exact ⟨by rw [HE.out]; rfl, hbw⟩
      · have hm' : (65536 : Int) < (len : Int) := by omega
        have HE : Hid (askN k z l = 3) := by
          show _ = _
          simp only [askN, HC.out, HA.out, Bool.and_self]
          rw [if_neg (by decide), if_pos (by have := HL.out; omega)]
        go_wp2_with fail
        go_ret
        exact ⟨by rw [HE.out]; rfl, hbw⟩

theorem wNo_ask (k z : Int) (l : List Dat) : wNo k z l = if askN k z l = 0 then (if 1048576 < wSz k l then 3 else 0) else askN k z l := by
  unfold wNo askN
  by_cases h1 : (chkB k z && wAll k z l) = false
  · rw [if_pos h1, if_pos h1, if_neg (by decide)]
  · rw [if_neg h1, if_neg h1]
    by_cases h2 : 65536 < l.length
    · rw [if_pos h2, if_pos h2, if_neg (by decide)]
    · rw [if_neg h2, if_neg h2, if_pos rfl]
theorem ask_ok {k z : Int} {l : List Dat} (h : askN k z l = 0) : chkB k z = true ∧ wAll k z l = true ∧ l.length ≤ 65536 := by
  unfold askN at h
  split at h
  · cases h
  · rename_i h1
    simp only [Bool.not_eq_false, Bool.and_eq_true] at h1
    split at h
    · cases h
    · exact ⟨h1.1, h1.2, by omega⟩
theorem ask_cases (k z : Int) (l : List Dat) : askN k z l = 0 ∨ askN k z l = 2 ∨ askN k z l = 3 := by
  unfold askN
  split
  · exact .inr (.inl rfl)
  · split
    · exact .inr (.inr rfl)
    · exact .inl rfl

set_option maxRecDepth 100000 in
set_option maxHeartbeats 4000000 in
theorem rwrite_any (k z : Int) (w : World) (a : Option Addr) (len cap : Nat) (l : List Dat) (h : Data w a len cap l) :
    Calls Try.prog 10 #[.agg #[.int .i64 k, .int .i64 z], .slice a len cap] w fun e w' => ∃ v, e = .returned (.tuple #[v, .int .i64 (wNo k z l)]) ∧ w'.ownsRow w.heap.size 5 1 v (wRes k z l).length (c8 (wRes k z l)) ∧ Below w.heap.size w w' := by
  have HL : Hid (l.length = len) := h.1
  have ab := alloc_below w (.cells #[.int .i64 k, .int .i64 z] 24 (0, 0))
  have hx := heap_new w (.cells #[.int .i64 k, .int .i64 z] 24 (0, 0))
  have AK := fun W (hb : Below w.heap.size w W) => asked_any k z W a len cap l (h.later hb)
  have hno := wNo_ask k z l
  by_cases h0 : askN k z l = 0
  · obtain ⟨hc, hw, hm⟩ := ask_ok h0
    rw [h0] at AK
    rw [if_pos h0] at hno
    have HNO : Hid (wNo k z l = if 1048576 < wSz k l then 3 else 0) := hno
    have HW : Hid (wAll k z l = true) := hw
    have hlen' : (len : Int) ≤ 65536 := by have := HL.out; omega
    have HM : Hid (len ≤ 65536) := by have := HL.out; show _ ≤ _; omega
    clear hno hc hw hm h0
    by_cases hk : k = 0
    · have HE : Hid (wNo k z l = 0 ∧ wRes k z l = upk 8 ((len + 7) / 8) (pk 1 (tbits l)) ∧ (wRes k z l).length = (len + 7) / 8) := by
        have e0 : wNo k z l = 0 := by
          rw [HNO.out, if_neg]
          unfold wSz
          rw [if_pos hk, HL.out]
          have := HM.out
          omega
        have e1 : wRes k z l = upk 8 ((len + 7) / 8) (pk 1 (tbits l)) := by
          unfold wRes wOut
          rw [if_pos e0, if_pos hk, HL.out]
        exact ⟨e0, e1, by rw [e1, upk_len]⟩
      have HW0 : Hid (wAll 0 z l = true) := by show _ = _; rw [← hk]; exact HW.out
      obtain ⟨i0, hi, hz0, hz1, hz2⟩ := info_parts Try.info65
      obtain ⟨n, HN⟩ : ∃ n, Hid (wNo k z l = n) := ⟨_, rfl⟩
      subst hk
      go_enter Try.func10, Try.ntmps10
      go_wp2_with fail
      refine (AK _ ab).mono ?_
      rintro e W1 ⟨rfl, hb1⟩
      have b1 := ab.trans (hb1.mono ab.size)
      obtain ⟨⟨t0, t1⟩, _⟩ := blk2 (below_at hb1 hx)
      clear AK hb1 hx ab
      go_wp2_with fail
      go_loopw [8, 9] (fun lv iv wr => ∃ i : Nat, i ≤ len ∧ iv = .int .i64 (i : Int) ∧ wr.ownsRow W1.heap.size 65 1 lv i (((ns l).take i).map (Value.int .u64)) ∧ Below W1.heap.size W1 wr) (fun _ iv _ => len - (intOf iv).toNat)
      case atStart => exact ⟨0, Nat.zero_le _, rfl, World.ownsRow_nil _ _ _ _, Below.refl _ _⟩
      case round =>
        obtain ⟨i, hi', rfl, hown, hb⟩ := hrel
        have hbw := b1.trans (hb.mono b1.size)
        by_cases hlt : i < len
        · have hlt' : (i : Int) < (len : Int) := by omega
          obtain ⟨d, g, o, hd, wd, rfl, hg, y0, y1, y2⟩ := data_at (h.later hbw) hlt
          have hn := truth_n (all_at HW0.out hd)
          have hwr : IntKind.u64.wrap d.n = d.n := by rw [IntKind.wrap_u64]; omega
          have HNX : Hid (((ns l).take (i + 1)).map (Value.int .u64) = ((ns l).take i).map (Value.int .u64) ++ [Value.int .u64 d.n]) := by show _ = _; rw [ns_next hd]; simp
          have hbs := hb.size
          clear hd wd
          go_wp2_with (at_builtin; refine wpList_append_own _ rfl _ _ 64 rfl W1.heap.size 65 i0 (.int .u64 0) 1 8 Try.underlying64 hi hz0 hz1 hz2 rfl (by decide) _ _ _ rfl (hown.alloc _) ⟨wr.heap.size, 0, none⟩ 1 1 [.int .u64 d.n] rfl rfl (cell_one_new _ _ _) (by simp [Value.oneCell']) (by unfold maxLen; omega) (by omega) (by simp; omega) ?_; intro v' w2 hown2 hgrow2 _)
          have hb2 : Below W1.heap.size W1 w2 := (hb.alloc hbs _).grown hgrow2 (by simp; omega) (fun k e => (hown.lt k e).1)
          rw [← HNX.out] at hown2
          clear hown hgrow2
          go_wp2_with fail
          go_roundw
          case rel => exact ⟨i + 1, by omega, by go_num, hown2, hb2⟩
          case measure => simp [intOf]; omega
        · have hlt' : (len : Int) ≤ (i : Int) := by omega
          have hil : i = len := by omega
          rw [hil, List.take_of_length_le (by have := HL.out; simp [ns]; omega)] at hown
          obtain ⟨la, lc, rfl⟩ := own_sl hown
          have P := rpack_yes la len lc 1 ((len + 7) / 8) (ns l) wr (src_own hown).2 (truths_u HW0.out) (truths_w HW0.out) (sze1 HM.out) (by omega)
          rw [ns_nats] at P
          have hbs := hbw.size
          clear hown hil
          go_wp2_with fail
          refine P.mono ?_
          rintro e W3 ⟨v, rfl, hown3, hb3⟩
          clear P
          go_wp2_with fail
          go_ret2
          exact ⟨_, by rw [HE.out.1]; rfl, by rw [HE.out.2.2, HE.out.2.1]; exact own_mono hown3 hbs, hbw.trans (hb3.mono hbs)⟩
    · have hkk : (k == 0) = false := by simpa using hk
      have HSZ : Hid (wSz k l = (eb l).length) := by show _ = _; unfold wSz; rw [if_neg hk]
      obtain ⟨i0, hi, hz0, hz1, hz2⟩ := info_parts infoU8
      have HMh : Hid (∀ i, (eb (l.take i)).length ≤ 1048580 * i) := all_len HW.out hk
      have HKN : Hid (k ≠ 0) := hk
      clear hk
      go_enter Try.func10, Try.ntmps10
      go_wp2_with fail
      refine (AK _ ab).mono ?_
      rintro e W1 ⟨rfl, hb1⟩
      have b1 := ab.trans (hb1.mono ab.size)
      obtain ⟨⟨t0, t1⟩, _⟩ := blk2 (below_at hb1 hx)
      clear AK hb1 hx ab
      have hk0 : ¬ k = 0 := HKN.out
      go_wp2_with fail
      clear hk0 hkk
      go_loopw [7, 10] (fun ov iv wr => ∃ i n : Nat, i ≤ len ∧ iv = .int .i64 (i : Int) ∧ Hid (n = (eb (l.take i)).length) ∧ wr.ownsRow W1.heap.size 5 1 ov n (c8 (eb (l.take i))) ∧ Below W1.heap.size W1 wr) (fun _ iv _ => len - (intOf iv).toNat)
      case atStart => exact ⟨0, 0, Nat.zero_le _, rfl, rfl, World.ownsRow_nil _ _ _ _, Below.refl _ _⟩
      case round =>
        obtain ⟨i, n, hi', rfl, H, hown, hb⟩ := hrel
        have hbw := b1.trans (hb.mono b1.size)
        by_cases hlt : i < len
        · have hlt' : (i : Int) < (len : Int) := by omega
          obtain ⟨d, g, o, hd, wd, rfl, hg, y0, y1, y2⟩ := data_at (h.later hbw) hlt
          obtain ⟨he1, he2⟩ := eb_next HW.out HKN.out hd
          have hod := all_at HW.out hd
          have hdz := (of_size hod).1
          have hn : n ≤ 1048580 * 65536 := by
            have h1 := H.out
            have h2 := HMh.out i
            have h3 : 1048580 * i ≤ 1048580 * 65536 := Nat.mul_le_mul_left _ (by have := HM.out; omega)
            omega
          have C := rbytes_any d.k d.n d.s (size_of_ok hod) wr
          rw [show (⟨d.k, d.n, d.s⟩ : Dat) = d from rfl] at C
          have HN : Hid (n + (db d).length = (eb (l.take (i + 1))).length ∧ c8 (eb (l.take (i + 1))) = c8 (eb (l.take i)) ++ c8 (db d) ∧ (db d).length ≤ 1048580) := by
            have := H.out
            refine ⟨?_, by rw [he1, c8_append], by omega⟩
            rw [he1, List.length_append]
            omega
          have hbs := hb.size
          clear he1 he2 hod hd wd H
          go_wp2_with fail
          refine C.mono ?_
          rintro e W2 ⟨ad, m, c, rfl, hm, hsrc, hb2⟩
          have hown2 := own_below hown hb2
          have hb3 := hb.trans (hb2.mono hbs)
          have hbs3 := hb3.size
          have HM2 : Hid (m = (db d).length) := hm
          have hm64 : m ≤ 1048580 := by have := HN.out.2.2; omega
          clear C hb2 hown hm
          go_wp2_with (at_builtin; refine wpList_append_src rfl (.tmp 45) (.tmp 50) 27 rfl W1.heap.size 5 i0 (.int .u8 0) 1 Try.underlying27 hi hz0 hz1 hz2 rfl _ _ _ rfl hown2 ad m c _ rfl hsrc (c8_one _) (by unfold maxLen; omega) (by omega) hbs3 ?_; intro v1 w3 hown3 hb4)
          clear hown2 hsrc
          have HO3 : Hid (w3.ownsRow W1.heap.size 5 1 v1 (n + m) (c8 (eb (l.take (i + 1))))) := by rw [HN.out.2.1]; exact hown3
          clear hown3
          go_wp2_with fail
          go_roundw
          case rel => exact ⟨i + 1, n + m, by omega, by go_num, by show _ = _; rw [HM2.out]; exact HN.out.1, HO3.out, hb3.trans hb4⟩
          case measure => simp [intOf]; omega
        · have hlt' : (len : Int) ≤ (i : Int) := by omega
          have HE : Hid (n = (eb l).length ∧ wr.ownsRow W1.heap.size 5 1 u7 n (c8 (eb l))) := by
            have h1 := H.out
            rw [List.take_of_length_le (by have := HL.out; omega)] at h1 hown
            exact ⟨h1, hown⟩
          obtain ⟨oa, oc, rfl⟩ := own_sl hown
          have hbs := b1.size
          clear hown H
          by_cases hbig : 1048576 < n
          · have hbig' : (1048576 : Int) < (n : Int) := by omega
            have HF : Hid (wNo k z l = 3 ∧ wRes k z l = []) := by
              have e : wNo k z l = 3 := by rw [HNO.out, if_pos (by rw [HSZ.out, ← HE.out.1]; exact hbig)]
              exact ⟨e, by unfold wRes; rw [e, if_neg (by decide)]⟩
            go_wp2_with fail
            go_ret2
            exact ⟨_, by rw [HF.out.1]; rfl, by rw [HF.out.2]; exact World.ownsRow_nil _ _ _ _, hbw⟩
          · have hbig' : (n : Int) ≤ 1048576 := by omega
            have HF : Hid (wNo k z l = 0 ∧ wRes k z l = eb l) := by
              have e : wNo k z l = 0 := by rw [HNO.out, if_neg (by rw [HSZ.out, ← HE.out.1]; exact hbig)]
              exact ⟨e, by unfold wRes wOut; rw [if_pos e, if_neg HKN.out]⟩
            go_wp2_with fail
            go_ret2
            exact ⟨_, by rw [HF.out.1]; rfl, by rw [HF.out.2, ← HE.out.1]; exact own_mono HE.out.2 hbs, hbw⟩
  · have hcs := ask_cases k z l
    rw [if_neg h0] at hno
    obtain ⟨n, HE⟩ : ∃ n, Hid (askN k z l = n) := ⟨_, rfl⟩
    have HR : Hid (wRes k z l = []) := by
      show _ = _
      unfold wRes
      rw [hno, if_neg h0]
    rw [HE.out] at AK h0 hcs hno
    have HNO : Hid (wNo k z l = n) := hno
    have hcs' : n = 2 ∨ n = 3 := by omega
    clear hcs h0 h hno
    rcases hcs' with rfl | rfl
    all_goals
      go_enter Try.func10, Try.ntmps10
      go_wp2_with fail
      refine (AK _ ab).mono ?_
      rintro e W1 ⟨rfl, hb1⟩
      go_wp2_with fail
      go_ret2
      exact ⟨_, by rw [HNO.out]; rfl, by rw [HR.out]; exact World.ownsRow_nil _ _ _ _, ab.trans (hb1.mono ab.size)⟩
end Go.Proofs.Ytfocmlajeflenaa
