/-
For any bytes (at most 500; else the law says nothing), any type and any number of rounds: All goes over the whole values with their places, from the front, as often as one likes, and may be left. No condition.
-/
import Derived.Test.YtdglobonbhkheaaRows
import Derived.Test.YtdglobonbhkheaaFrame
import Derived.Test.YtdglobonbhkheaaPlAd
import Derived.WalkKit
import Derived.ProofKit
import Derived.OpenShut
import Derived.ShutString
import Derived.ChangeOld
import Derived.ChangeMaps5
import Derived.Below
namespace Go.Proofs.Ytdglobonbhkheaa.plainAll
open Go.ChangeShapes Go.WideShapes Go.ChangeAt Go.RowKit Go.Deep Go.Sort
set_option linter.unusedVariables false
set_option linter.unusedSimpArgs false
attribute [local go_sem] Oper.semAt_some
set_option maxRecDepth 100000 in
set_option maxHeartbeats 8000000 in
theorem walk (a0 : Option Addr) (len0 cap0 : Nat) (l0 : List Nat) (k1 n1 : Int) (a2 : Int) (w : World) (w0 : ByteRow w a0 len0 cap0 l0) (g1 : (Lit.int .i64 k1).wf = true) (w1 : (Lit.int .i64 n1).wf = true) (w2 : (Lit.int .i64 a2).wf = true) :
    Calls Try.prog 6 #[.slice a0 len0 cap0, .agg #[.int .i64 k1, .int .i64 n1], .int .i64 a2] w fun e w' => e = .returned (.bool true) ∧ Below w.heap.size w w' := by
  have HN := w0.ln
  by_cases hbig : 500 < len0
  · have hbig' : (500 : Int) < (len0 : Int) := by omega
    have b4 := (((alloc_below w (.cells #[.slice a0 len0 cap0] 27 (0, 0))).alloc (by simp) (.cells #[.int .i64 k1, .int .i64 n1] 24 (0, 0))).alloc (by simp; omega) (.cells #[.int .i64 a2] 3 (0, 0))).alloc (by simp; omega) (.cells #[.bool true] 4 (0, 0))
    clear w0 HN hbig
    go_enter Try.func6, Try.ntmps6
    go_wp2_with fail
    exact bodyPost_ret (v := .bool true) (by simp [results, Try.results6, go_sem]) rfl ⟨rfl, b4⟩
  have hlen : (len0 : Int) ≤ 500 := by omega
  have hB := w0.byt (by omega)
  obtain ⟨W4, hW4⟩ : ∃ W4, W4 = (((w.alloc (.cells #[.slice a0 len0 cap0] 27 (0, 0))).alloc (.cells #[.int .i64 k1, .int .i64 n1] 24 (0, 0))).alloc (.cells #[.int .i64 a2] 3 (0, 0))).alloc (.cells #[.bool false] 4 (0, 0)) := ⟨_, rfl⟩
  have b4 : Below w.heap.size w W4 := by rw [hW4]; exact (((alloc_below w _).alloc (by simp) _).alloc (by simp; omega) _).alloc (by simp; omega) _
  have s4 : W4.heap.size = w.heap.size + 4 := by rw [hW4]; simp
  have q0 : W4.heap[w.heap.size]? = some (.cells #[.slice a0 len0 cap0] 27 (0, 0)) := by rw [hW4]; exact below_at (alloc_below _ _) (below_at (alloc_below _ _) (below_at (alloc_below _ _) (heap_new w _)))
  have q1 : W4.heap[w.heap.size + 1]? = some (.cells #[.int .i64 k1, .int .i64 n1] 24 (0, 0)) := by rw [hW4]; exact below_at (alloc_below _ _) (below_at (alloc_below _ _) (heap2_new w _ _))
  have q2 : W4.heap[w.heap.size + 1 + 1]? = some (.cells #[.int .i64 a2] 3 (0, 0)) := by
    rw [hW4]
    have h := heap_new ((w.alloc (.cells #[.slice a0 len0 cap0] 27 (0, 0))).alloc (.cells #[.int .i64 k1, .int .i64 n1] 24 (0, 0))) (.cells #[.int .i64 a2] 3 (0, 0))
    simp only [World.size_alloc] at h
    exact below_at (alloc_below _ _) h
  have q3 : W4.heap[w.heap.size + 1 + 1 + 1]? = some (.cells #[.bool false] 4 (0, 0)) := by
    rw [hW4]
    have h := heap_new (((w.alloc (.cells #[.slice a0 len0 cap0] 27 (0, 0))).alloc (.cells #[.int .i64 k1, .int .i64 n1] 24 (0, 0))).alloc (.cells #[.int .i64 a2] 3 (0, 0))) (.cells #[.bool false] 4 (0, 0))
    simp only [World.size_alloc] at h
    exact h
  have PA := pall_any k1 n1 a0 len0 cap0 l0 W4 (hB.later b4)
  refine (callsIn_wide (n := 12)).1 ?_
  refine callsIn_of_wp_marks Try.func6 rfl trivial ?_ rfl
  simp only [Try.ntmps6, List.size_toArray, List.length_cons, List.length_nil, Nat.reduceAdd, Nat.reduceSub, Array.replicate_succ, Array.replicate_zero, List.push_toArray, List.append_toArray, List.nil_append, List.cons_append]
  gi_wp2
  rw [← hW4]
  refine ⟨trivial, (callsIn_wide.2 PA).mono ?_⟩
  rintro e W5 ⟨v, rfl, hit, hb5⟩
  have b5 := b4.trans (hb5.mono b4.size)
  obtain ⟨gf, lb, Pre, rfl, hen, hsq, hpre⟩ := hit
  have r0 := below_at hb5 q0
  have r1 := below_at hb5 q1
  have r2 := below_at hb5 q2
  have r3 := below_at hb5 q3
  have s5 := hb5.size
  rw [s4] at s5
  have EF := fun W => eqfn W gf lb
  clear q0 q1 q2 q3 hW4 PA hb5
  gi_wp2
  obtain ⟨N, hNe⟩ : ∃ N, N = W5.heap.size := ⟨_, rfl⟩
  obtain ⟨W7, hW7⟩ : ∃ W7, W7 = (W5.alloc (.cells #[.int .i64 0] 3 (0, 0))).alloc (.cells #[.int .i64 0] 3 (0, 0)) := ⟨_, rfl⟩
  have b7 : Below W5.heap.size W5 W7 := by rw [hW7]; exact (alloc_below W5 _).alloc (by simp) _
  have s7 : W7.heap.size = N + 2 := by rw [hW7, hNe]; simp
  have ra : W7.heap[N]? = some (.cells #[.int .i64 0] 3 (0, 0)) := by rw [hW7, hNe]; exact below_at (alloc_below _ _) (heap_new W5 _)
  have rn : W7.heap[N + 1]? = some (.cells #[.int .i64 0] 3 (0, 0)) := by rw [hW7, hNe]; exact heap2_new W5 _ _
  have i7 : AI w.heap.size N w W5 a0 len0 cap0 k1 n1 a2 (allV k1 n1 l0) [] (fun _ => False) W7 := ⟨below_at b7 r0, below_at b7 r1, below_at b7 r2, below_at b7 r3, by rw [show ((atF k1 n1 [] : Nat) : Int) = 0 by unfold atF; split <;> rfl]; exact ra, rn, List.nil_prefix, fun b hb => hb.elim, fun b hb => hb.elim, b5.trans (b7.mono b5.size), by omega, by omega, by rw [hNe]; exact b7⟩
  rw [← hW7, ← hNe]
  have hN1 : N ≤ W5.heap.size ∧ W5.heap.size ≤ N := by omega
  have hs7 : N + 2 ≤ W7.heap.size ∧ W7.heap.size ≤ N + 2 := by omega
  clear r0 r1 r2 r3 ra rn hNe hW7 s7
  refine range_e (by omega) (gf := gf) rfl hen (hsq 11 (by omega)) (fun V hV => hpre V (b7.trans (hV.mono (by omega)))) b7 (fun _ => rfl)
    (AI w.heap.size N w W5 a0 len0 cap0 k1 n1 a2 (allV k1 n1 l0)) (fun _ _ _ => False) (fun s X A C h hb => h.stab (by omega) hb) (fun c s V b o o' h _ _ _ => h.elim) (fun s X X' A h hs => h.sub hs) (fun s X A h => h.bd) i7
    (AA N (alAct w.heap.size N a0 len0 cap0 k1 n1 a2 gf lb)) (fun x X a1 V b o o' h _ ho hc => h.put ho hc) ?assign ?body ?done ?stop
  case assign =>
    rintro l pre x X V K hi hK
    have bAl := alloc_below V (.cells #[.int .i64 x.2.k, .int .i64 x.2.n, .string x.2.s] 48 (0, 0))
    have hne := heap_new V (.cells #[.int .i64 x.2.k, .int .i64 x.2.n, .string x.2.s] 48 (0, 0))
    have hnx : ¬ X V.heap.size := fun h => by have := hi.bd _ h; omega
    have hsz := hi.sz
    obtain ⟨B, hBe⟩ : ∃ B, V.heap.size = B := ⟨_, rfl⟩
    simp only [dval]
    gi_wp2
    rw [hBe] at hne hnx
    have hBn : N + 2 ≤ B := by omega
    exact hK _ _ bAl ⟨⟨B, rfl, hne, hnx, hBn⟩⟩
  case body =>
    rintro pre x X a1 V hsz hnD hnD1 hi ⟨⟨B, rfl, hB1, hB2, hB3⟩⟩ hx
    have hc : chkB k1 n1 = true := by
      cases hq : chkB k1 n1
      · rw [allV, if_pos hq] at hx
        simp at hx
      · rfl
    have RC := fun W => rcheck_any k1 n1 W
    rw [hc] at RC
    obtain ⟨ct0, ct1⟩ := (blk2 hi.bt).1
    have bV := hi.bel
    unfold alAct
    gi_wp2
    refine ⟨trivial, (CallsIn.inRound _ (callsIn_wide.2 (RC _))).mono ?_⟩
    rintro e V2 ⟨rfl, hb2⟩
    have hi2 := (hi.stab (n := N + 2) (Nat.le_refl _) (Chg.of_below hb2)).sub (fun b hb => .inl hb)
    have bt2 := below_at hb2 hi.bt
    obtain ⟨⟨dt0, dt1⟩, _⟩ := blk2 bt2
    have hB12 := below_at hb2 hB1
    by_cases hk : k1 = 0
    · subst hk
      have hvs : allV 0 n1 l0 = trP (upto (bt (pk 8 l0)) (8 * len0)) := by unfold allV; rw [if_neg (by rw [hc]; simp), if_pos rfl, HN]
      have hlt : pre.length < 8 * len0 := by
        have h := (List.getElem?_eq_some_iff.1 hx).1
        rw [hvs, trP_len, upto_length] at h
        exact h
      have hxe : x = (pre.length, tD (bt (pk 8 l0) pre.length)) := by
        rw [hvs, trP_at hlt] at hx
        exact (Option.some.inj hx).symm
      have HI : Hid (AI w.heap.size N w W5 a0 len0 cap0 0 n1 a2 (allV 0 n1 l0) pre X V) := hi
      have HX : Hid ((allV 0 n1 l0)[pre.length]? = some x) := hx
      have HB2 : Hid (Below V.heap.size V V2) := hb2
      have HN2 : Hid (V2.heap[N + 1]? = some (.cells #[.int .i64 ((pre.length : Nat) : Int)] 3 (0, 0)) ∧ V2.heap[N]? = some (.cells #[.int .i64 0] 3 (0, 0))) := ⟨hi2.bn, hi2.ba⟩
      obtain ⟨cb2, _⟩ := blk1 hi2.bb
      obtain ⟨cn2, fn2⟩ := blk1 hi2.bn
      obtain ⟨⟨cd0, cd1, cd2⟩, _⟩ := blk3 hB12
      obtain ⟨j, hj⟩ : ∃ j, j = pre.length / 8 := ⟨_, rfl⟩
      obtain ⟨i, hi9⟩ : ∃ i, i = pre.length % 8 := ⟨_, rfl⟩
      have hm : pre.length = 8 * j + i := by omega
      have hi8 : i < 8 := by omega
      have hjl : j < len0 := by omega
      obtain ⟨g, off, rfl, hcz⟩ := src_at ((hB.later hi2.bel).src) hjl
      have hby : ((l0.getD j 0 : Nat) : Int) = ((pk 8 l0 / 2 ^ (8 * j) % 256 : Nat) : Int) := by
        have h := upk_get 8 len0 (pk 8 l0) j hjl
        rw [show upk 8 len0 (pk 8 l0) = l0 by rw [← HN, upk_pk 8 l0 (fun x hx => by have := hB.lt x hx; simpa using this)]] at h
        simp [List.getD, h]
      have hbit := byte_bit (pk 8 l0) j i hi8
      rw [← hm, ← hby] at hbit
      have hq : ((l0.getD j 0 : Nat) : Int) ≤ 255 := by
        have : l0.getD j 0 < 256 := hB.lt _ (by rw [List.getD, List.getElem?_eq_getElem (by omega)]; exact List.getElem_mem _)
        omega
      have hbi : bi (bt (pk 8 l0) pre.length) = 0 ∨ bi (bt (pk 8 l0) pre.length) = 1 := by unfold bi; split <;> simp
      subst hxe
      simp only [tD] at cd0 cd1 cd2
      generalize bi (bt (pk 8 l0) pre.length) = u at *
      generalize l0.getD j 0 = y at *
      obtain ⟨m, hmm⟩ : ∃ m : Nat, pre.length = m := ⟨_, rfl⟩
      rw [hmm] at cn2 HN2
      simp only [hmm]
      have HM : Hid (pre.length = m) := hmm
      have e1 : (m : Int) / 8 = (j : Int) := by omega
      have e2 : (m : Int) % 8 = (i : Int) := by omega
      have e3 : (m : Int) < 8 * (len0 : Int) := by omega
      have e4 : (m : Int) ≤ 4000 := by omega
      have d1 : decide (8 * (len0 : Int) ≤ (m : Int)) = false := by simp; omega
      have d2 : decide (8 * len0 ≤ m) = false := by simp; omega
      have hjl' : (j : Int) < (len0 : Int) := by omega
      have hi8' : (i : Int) < 8 := by omega
      clear hm hj hi9 hmm hlt hi hi2 hx hby hb2 hB12 hB1 bt2
      gi_wp2
      refine round_quiet _ (by kernel_rfl) (by kernel_rfl) (by intro i o c ho hc; rcases i with _|_|_|_|_|_|_|_|_|_|_|_|_|_|_|_|_|_|_|_|_|_|_|_|_|_|_|_|_|_|_|_|_|_|_|_|_|i <;> simp at ho <;> subst ho <;> cases hc) ?_
      repeat (gi_big_quiet_step (fail))
      refine wpQuietIn_nil ?_
      rintro _ ⟨nq, rfl⟩
      gi_wp2
      obtain ⟨s1, s2⟩ := store1 (w := V2.drewN nq) HN2.out.1 (.int .i64 ((m : Int) + 1))
      refine AI.step HI.out HX.out (s2.os.trans HB2.out.os) (s2.tape.trans HB2.out.tape) (s2.output.trans HB2.out.output) (by rw [← s2.size]; exact HB2.out.size) (fun b hb h1 h2 => (s2.block b h2).trans (HB2.out.block b hb)) ?_ (by rw [HM.out]; exact s1) (by omega) (by omega) (by omega)
      exact (s2.block N (by omega)).trans HN2.out.2
    · have hvs : allV k1 n1 l0 = vals k1 n1 l0 0 := by unfold allV; rw [if_neg (by rw [hc]; simp), if_neg hk]
      have hkk : (k1 == 0) = false := by simpa using hk
      have hkd : decide (k1 = 0) = false := by simpa using hk
      obtain ⟨xp, ⟨xk, xn, xs⟩⟩ := x
      obtain ⟨hx1, hx2, hx3, hx4⟩ := vals_next hc hk (by rw [← hvs]; exact hi.pf) (by rw [← hvs]; exact hx)
      obtain ⟨p, hpe⟩ : ∃ p, p = endF k1 n1 0 pre := ⟨_, rfl⟩
      have hat : atF k1 n1 pre = p := by rw [atF, if_neg hk, hpe]
      simp only [← hpe] at hx1 hx2 hx3 hx4
      rw [HN] at hx3
      have hpl : p ≤ len0 := by omega
      have hml : pre.length ≤ 501 := by
        have h1 := (List.getElem?_eq_some_iff.1 hx).1
        have h2 := valsF_len k1 n1 l0 (l0.length + 1 - 0) 0
        rw [hvs] at h1
        unfold vals at h1
        omega
      obtain ⟨m, hmm⟩ : ∃ m : Nat, pre.length = m := ⟨_, rfl⟩
      have HM : Hid (pre.length = m) := hmm
      have HI : Hid (AI w.heap.size N w W5 a0 len0 cap0 k1 n1 a2 (allV k1 n1 l0) pre X V) := hi
      have HX : Hid ((allV k1 n1 l0)[pre.length]? = some (xp, ⟨xk, xn, xs⟩)) := hx
      have HB2 : Hid (Below V.heap.size V V2) := hb2
      have HN2 : Hid (V2.heap[N + 1]? = some (.cells #[.int .i64 ((m : Nat) : Int)] 3 (0, 0)) ∧ V2.heap[N]? = some (.cells #[.int .i64 ((p : Nat) : Int)] 3 (0, 0))) := ⟨by rw [← hmm]; exact hi2.bn, by rw [← hat]; exact hi2.ba⟩
      have HBB : Hid (V2.heap[B]? = some (.cells #[.int .i64 xk, .int .i64 xn, .string xs] 48 (0, 0))) := hB12
      have HFR : Hid (front k1 n1 (l0.drop p) = some ⟨xk, xn, xs⟩) := hx2
      have HSZ : Hid (p + dsz k1 n1 ⟨xk, xn, xs⟩ ≤ len0 ∧ 1 ≤ dsz k1 n1 ⟨xk, xn, xs⟩) := ⟨hx3, hx4⟩
      have HXP : Hid (xp = p) := hx1
      have hb2w := hi2.bel
      have FR : ∀ W, Below V2.heap.size V2 W → RF k1 n1 (l0.drop p) (if cap0 = p then a0 else Option.map (fun x => x.add p) a0) (len0 - p) (cap0 - p) W := fun W h => rfront_any k1 n1 hc hk (byt_drop (hB.later (hb2w.trans (h.mono hb2w.size))) p hpl)
      unfold RF at FR
      have bb2 := hi2.bb
      have hsz2 := hi2.sz
      have hS0 : Below V2.heap.size V2 V2.drew := (Below.refl _ _).drew
      have HF : Hid (∀ W, Below V2.heap.size V2 W → W.cell? ⟨w.heap.size, 0, none⟩ = some (.slice a0 len0 cap0) ∧ W.cell? ⟨N, 0, none⟩ = some (.int .i64 (p : Int)) ∧ W.cell? ⟨w.heap.size + 1, 0, none⟩ = some (.int .i64 k1) ∧ W.cell? ⟨w.heap.size + 1, 1, none⟩ = some (.int .i64 n1)) := fun W h => ⟨(blk1 (below_at h bb2)).1, (blk1 (below_at h HN2.out.2)).1, (blk2 (below_at h bt2)).1⟩
      have hpl' : (p : Int) ≤ (len0 : Int) := by omega
      have hml' : (m : Int) ≤ 501 := by omega
      have hsn := hi2.sn
      have hxe : p = xp := hx1.symm
      subst hxe
      clear hx1 hx2 hx3 hx4 hpe hat hi hi2 hx hmm hml hB12 hB1 hb2 bt2 ct0 ct1 RC hvs
      gi_wp2
      clear dt0 dt1
      refine round_held (S := fun W => Below V2.heap.size V2 W) _ (by kernel_rfl) (by intro i o c ho hc; rcases i with _|_|_|_|_|_|_|_|_|_|_|i <;> simp at ho <;> subst ho <;> cases hc) ?lets hS0 (fun hHeld => ?_)
      case lets =>
        rintro ⟨a', w', h⟩
        exact h
      clear hHeld
      generalize V2.drew = Wd at *
      refine wpAnyH_take (i := 0) (v := ?_) rfl (by kernel_rfl) (by kernel_rfl) (by kernel_rfl) (fun _ _ _ h => h) (Or.inl ⟨by rfl, ?_⟩) (by assumption) ?_
      rotate_left
      · intro w hSw
        have hSx := HF.out w hSw
        (try (obtain ⟨_, _, _, _, _, _, _, _⟩ := hSx))
        (try (obtain ⟨_, _, _, _⟩ := hSx))
        (try (obtain ⟨_, _, _⟩ := hSx))
        (try (obtain ⟨_, _⟩ := hSx))
        go_simp
        (try with_reducible rfl)
      (try simp only [Act.put, List.setIfInBounds_toArray, List.set_cons_zero, List.set_cons_succ])
      refine wpAnyH_take (i := 1) (v := ?_) rfl (by kernel_rfl) (by kernel_rfl) (by kernel_rfl) (fun _ _ _ h => h) (Or.inl ⟨by rfl, ?_⟩) (by assumption) ?_
      rotate_left
      · intro w hSw
        have hSx := HF.out w hSw
        (try (obtain ⟨_, _, _, _, _, _, _, _⟩ := hSx))
        (try (obtain ⟨_, _, _, _⟩ := hSx))
        (try (obtain ⟨_, _, _⟩ := hSx))
        (try (obtain ⟨_, _⟩ := hSx))
        go_simp
        (try with_reducible rfl)
      (try simp only [Act.put, List.setIfInBounds_toArray, List.set_cons_zero, List.set_cons_succ])
      refine wpAnyH_take (i := 2) (v := ?_) rfl (by kernel_rfl) (by kernel_rfl) (by kernel_rfl) (fun _ _ _ h => h) (Or.inl ⟨by rfl, ?_⟩) (by assumption) ?_
      rotate_left
      · intro w hSw
        have hSx := HF.out w hSw
        (try (obtain ⟨_, _, _, _, _, _, _, _⟩ := hSx))
        (try (obtain ⟨_, _, _, _⟩ := hSx))
        (try (obtain ⟨_, _, _⟩ := hSx))
        (try (obtain ⟨_, _⟩ := hSx))
        go_simp
        (try with_reducible rfl)
      (try simp only [Act.put, List.setIfInBounds_toArray, List.set_cons_zero, List.set_cons_succ])
      refine wpAnyH_take (i := 3) (v := ?_) rfl (by kernel_rfl) (by kernel_rfl) (by kernel_rfl) (fun _ _ _ h => h) (Or.inl ⟨by rfl, ?_⟩) (by assumption) ?_
      rotate_left
      · intro w hSw
        have hSx := HF.out w hSw
        (try (obtain ⟨_, _, _, _, _, _, _, _⟩ := hSx))
        (try (obtain ⟨_, _, _, _⟩ := hSx))
        (try (obtain ⟨_, _, _⟩ := hSx))
        (try (obtain ⟨_, _⟩ := hSx))
        go_simp
        (try with_reducible rfl)
      (try simp only [Act.put, List.setIfInBounds_toArray, List.set_cons_zero, List.set_cons_succ])
      generalize (if cap0 = p then a0 else Option.map (fun x => x.add p) a0) = a' at *
      refine wpAnyH_ready (rs := [4, 8]) (by kernel_rfl) (by simp) ?_
      refine AllReadyH.cons rfl (fun K hK => ?_) (AllReadyH.cons rfl (fun K hK => ?_) AllReadyH.nil)
      · go_simp
        refine (FR Wd hS0).mono ?_
        rintro e W2 ⟨⟨dk, dn, ds⟩, n, rfl, hcase, hb2'⟩
        have hS2 := hS0.trans (hb2'.mono hS0.size)
        have hBl := hS2.size
        have hS3 : Below V2.heap.size V2 (W2.alloc (.cells #[.int .i64 0, .int .i64 0, .string { data := #[] }] 48 (0, 0))) := hS2.alloc hBl _
        have hxb := heap_new W2 (.cells #[.int .i64 0, .int .i64 0, .string { data := #[] }] 48 (0, 0))
        unfold dval
        go_simp
        refine hK.out _ _ hS2 (fun _ => ?_)
        clear hK K
        (try simp only [Act.put, List.setIfInBounds_toArray, List.set_cons_zero, List.set_cons_succ])
        refine wpAnyH_take (i := 5) (v := ?_) rfl (by kernel_rfl) (by kernel_rfl) (by kernel_rfl) (fun _ _ _ h => h) (Or.inl ⟨by rfl, ?_⟩) (by assumption) ?_
        rotate_left
        · intro w hSw
          have hSx := HF.out w hSw
          (try (obtain ⟨_, _, _, _, _, _, _, _⟩ := hSx))
          (try (obtain ⟨_, _, _, _⟩ := hSx))
          (try (obtain ⟨_, _, _⟩ := hSx))
          (try (obtain ⟨_, _⟩ := hSx))
          go_simp
          (try with_reducible rfl)
        (try simp only [Act.put, List.setIfInBounds_toArray, List.set_cons_zero, List.set_cons_succ])
        refine wpAnyH_take (i := 6) (v := ?_) rfl (by kernel_rfl) (by kernel_rfl) (by kernel_rfl) (fun _ _ _ h => h) (Or.inl ⟨by rfl, ?_⟩) (by assumption) ?_
        rotate_left
        · intro w hSw
          have hSx := HF.out w hSw
          (try (obtain ⟨_, _, _, _, _, _, _, _⟩ := hSx))
          (try (obtain ⟨_, _, _, _⟩ := hSx))
          (try (obtain ⟨_, _, _⟩ := hSx))
          (try (obtain ⟨_, _⟩ := hSx))
          go_simp
          (try with_reducible rfl)
        (try simp only [Act.put, List.setIfInBounds_toArray, List.set_cons_zero, List.set_cons_succ])
        refine wpAnyH_take (i := 7) (v := ?_) rfl (by kernel_rfl) (by kernel_rfl) (by kernel_rfl) (fun _ _ _ h => h) (Or.inl ⟨by rfl, ?_⟩) (by assumption) ?_
        rotate_left
        · intro w hSw
          have hSx := HF.out w hSw
          (try (obtain ⟨_, _, _, _, _, _, _, _⟩ := hSx))
          (try (obtain ⟨_, _, _, _⟩ := hSx))
          (try (obtain ⟨_, _, _⟩ := hSx))
          (try (obtain ⟨_, _⟩ := hSx))
          go_simp
          (try with_reducible rfl)
        (try simp only [Act.put, List.setIfInBounds_toArray, List.set_cons_zero, List.set_cons_succ])
        refine wpAnyH_ready (rs := [8]) (by kernel_rfl) (by simp) ?_
        refine AllReadyH.cons rfl (fun K hK => ?_) AllReadyH.nil
        go_simp
        refine hK.out _ _ hS3 (fun _ => ?_)
        clear hK K hS2
        (try simp only [Act.put, List.setIfInBounds_toArray, List.set_cons_zero, List.set_cons_succ])
        generalize W2.alloc (.cells #[.int .i64 0, .int .i64 0, .string { data := #[] }] 48 (0, 0)) = W3 at *
        obtain ⟨_, f0, f1, f2⟩ := blk3 hxb
        obtain ⟨X5, HXX, c0, c1, c2, hbX⟩ := box_dat hxb ⟨dk, dn, ds⟩
        have hS4 := hS3.trans (hbX.mono hBl)
        clear hbX hS0 FR hxb HF
        refine wpAnyH_ready (rs := [9]) (by kernel_rfl) (by simp) ?_
        refine AllReadyH.cons rfl (fun K hK => ?_) AllReadyH.nil
        go_simp
        try rw [HXX]
        refine hK.out _ _ hS4 (fun _ => ?_)
        clear hK K
        (try simp only [Act.put, List.setIfInBounds_toArray, List.set_cons_zero, List.set_cons_succ])
        refine wpAnyH_ready (rs := [10]) (by kernel_rfl) (by simp) ?_
        refine AllReadyH.cons rfl (fun K hK => ?_) AllReadyH.nil
        go_simp
        refine hK.out _ _ hS4 (fun _ => ?_)
        clear hK K
        refine wpAnyH_done (by kernel_rfl) ?_ _
        obtain ⟨hdx, hnx⟩ : (⟨dk, dn, ds⟩ : Dat) = ⟨xk, xn, xs⟩ ∧ n = dsz k1 n1 ⟨xk, xn, xs⟩ := by
          rcases hcase with ⟨h, _⟩ | ⟨h, h'⟩
          · rw [HFR.out] at h; cases h
          · rw [HFR.out] at h; cases h; exact ⟨rfl, h'⟩
        cases hdx
        have hp1 : p + n ≤ 500 := by rw [hnx]; have := HSZ.out.1; omega
        have hn1 : 1 ≤ n := by rw [hnx]; exact HSZ.out.2
        have HNX : Hid (n = dsz k1 n1 ⟨xk, xn, xs⟩) := hnx
        have hn1' : (1 : Int) ≤ (n : Int) := by omega
        have hn0 : ((n : Int) == 0) = false := by simp; omega
        have hn2 : decide ((n : Int) = 0) = false := by simp; omega
        have hn3 : decide (n = 0) = false := by simp; omega
        have hn4 : (n == 0) = false := by simp; omega
        have hn5 : n ≠ 0 := by omega
        have hpn' : (p : Int) + (n : Int) ≤ 500 := by omega
        have RE : ∀ W, _ := fun W => run_neD ⟨xk, xn, xs⟩ ⟨xk, xn, xs⟩ W
        rw [sameD_refl] at RE
        have ba5 := below_at hS4 HN2.out.2
        have bn5 := below_at hS4 HN2.out.1
        obtain ⟨ca5, fa5⟩ := blk1 ba5
        obtain ⟨cn5, fn5⟩ := blk1 bn5
        obtain ⟨⟨cb50, cb51, cb52⟩, _⟩ := blk3 (below_at hS4 HBB.out)
        obtain ⟨s1, s2⟩ := store1 ba5 (.int .i64 ((p : Int) + (n : Int)))
        obtain ⟨t1, t2⟩ := store1 (s2.at bn5 (by omega)) (.int .i64 ((m : Int) + 1))
        have HFIN : Hid _ := AI.step HI.out HX.out ((t2.os.trans s2.os).trans (hS4.os.trans HB2.out.os)) ((t2.tape.trans s2.tape).trans (hS4.tape.trans HB2.out.tape)) ((t2.output.trans s2.output).trans (hS4.output.trans HB2.out.output)) (by rw [← t2.size, ← s2.size]; exact Nat.le_trans HB2.out.size hS4.size) (fun b hb h1 h2 => (t2.block b h2).trans ((s2.block b h1).trans ((hS4.block b (by have := HB2.out.size; omega)).trans (HB2.out.block b hb)))) ((t2.at s1 (by omega)).trans (by rw [atF, if_neg hk, endF_snoc, HNX.out]; simp)) (by rw [HM.out]; exact t1) (M := W5.heap.size) (D := W7.heap.size) (by omega) (by omega) (by omega)
        clear hp1 hn1 hnx hcase ba5 bn5 s1 s2 t1 t2 hS4 hS3 HXX
        gi_wp2
        exact HFIN.out
      · have hBl := hS0.size
        have hSa : Below V2.heap.size V2 (Wd.alloc (.cells #[.int .i64 0, .int .i64 0, .string { data := #[] }] 48 (0, 0))) := hS0.alloc hBl _
        have hxa := heap_new Wd (.cells #[.int .i64 0, .int .i64 0, .string { data := #[] }] 48 (0, 0))
        go_simp
        refine hK.out _ _ hSa (fun _ => ?_)
        clear hK K
        (try simp only [Act.put, List.setIfInBounds_toArray, List.set_cons_zero, List.set_cons_succ])
        refine wpAnyH_ready (rs := [4]) (by kernel_rfl) (by simp) ?_
        refine AllReadyH.cons rfl (fun K hK => ?_) AllReadyH.nil
        go_simp
        refine (FR _ hSa).mono ?_
        rintro e W3 ⟨⟨dk, dn, ds⟩, n, rfl, hcase, hb2'⟩
        have hS3 := hSa.trans (hb2'.mono hSa.size)
        have hxb := below_at hb2' hxa
        unfold dval
        go_simp
        refine hK.out _ _ hS3 (fun _ => ?_)
        clear hK K hxa hSa
        (try simp only [Act.put, List.setIfInBounds_toArray, List.set_cons_zero, List.set_cons_succ])
        refine wpAnyH_take (i := 5) (v := ?_) rfl (by kernel_rfl) (by kernel_rfl) (by kernel_rfl) (fun _ _ _ h => h) (Or.inl ⟨by rfl, ?_⟩) (by assumption) ?_
        rotate_left
        · intro w hSw
          have hSx := HF.out w hSw
          (try (obtain ⟨_, _, _, _, _, _, _, _⟩ := hSx))
          (try (obtain ⟨_, _, _, _⟩ := hSx))
          (try (obtain ⟨_, _, _⟩ := hSx))
          (try (obtain ⟨_, _⟩ := hSx))
          go_simp
          (try with_reducible rfl)
        (try simp only [Act.put, List.setIfInBounds_toArray, List.set_cons_zero, List.set_cons_succ])
        refine wpAnyH_take (i := 6) (v := ?_) rfl (by kernel_rfl) (by kernel_rfl) (by kernel_rfl) (fun _ _ _ h => h) (Or.inl ⟨by rfl, ?_⟩) (by assumption) ?_
        rotate_left
        · intro w hSw
          have hSx := HF.out w hSw
          (try (obtain ⟨_, _, _, _, _, _, _, _⟩ := hSx))
          (try (obtain ⟨_, _, _, _⟩ := hSx))
          (try (obtain ⟨_, _, _⟩ := hSx))
          (try (obtain ⟨_, _⟩ := hSx))
          go_simp
          (try with_reducible rfl)
        (try simp only [Act.put, List.setIfInBounds_toArray, List.set_cons_zero, List.set_cons_succ])
        refine wpAnyH_take (i := 7) (v := ?_) rfl (by kernel_rfl) (by kernel_rfl) (by kernel_rfl) (fun _ _ _ h => h) (Or.inl ⟨by rfl, ?_⟩) (by assumption) ?_
        rotate_left
        · intro w hSw
          have hSx := HF.out w hSw
          (try (obtain ⟨_, _, _, _, _, _, _, _⟩ := hSx))
          (try (obtain ⟨_, _, _, _⟩ := hSx))
          (try (obtain ⟨_, _, _⟩ := hSx))
          (try (obtain ⟨_, _⟩ := hSx))
          go_simp
          (try with_reducible rfl)
        (try simp only [Act.put, List.setIfInBounds_toArray, List.set_cons_zero, List.set_cons_succ])
        obtain ⟨_, f0, f1, f2⟩ := blk3 hxb
        obtain ⟨X5, HXX, c0, c1, c2, hbX⟩ := box_dat hxb ⟨dk, dn, ds⟩
        have hS4 := hS3.trans (hbX.mono hBl)
        clear hbX hS0 FR hxb HF
        refine wpAnyH_ready (rs := [9]) (by kernel_rfl) (by simp) ?_
        refine AllReadyH.cons rfl (fun K hK => ?_) AllReadyH.nil
        go_simp
        try rw [HXX]
        refine hK.out _ _ hS4 (fun _ => ?_)
        clear hK K
        (try simp only [Act.put, List.setIfInBounds_toArray, List.set_cons_zero, List.set_cons_succ])
        refine wpAnyH_ready (rs := [10]) (by kernel_rfl) (by simp) ?_
        refine AllReadyH.cons rfl (fun K hK => ?_) AllReadyH.nil
        go_simp
        refine hK.out _ _ hS4 (fun _ => ?_)
        clear hK K
        refine wpAnyH_done (by kernel_rfl) ?_ _
        obtain ⟨hdx, hnx⟩ : (⟨dk, dn, ds⟩ : Dat) = ⟨xk, xn, xs⟩ ∧ n = dsz k1 n1 ⟨xk, xn, xs⟩ := by
          rcases hcase with ⟨h, _⟩ | ⟨h, h'⟩
          · rw [HFR.out] at h; cases h
          · rw [HFR.out] at h; cases h; exact ⟨rfl, h'⟩
        cases hdx
        have hp1 : p + n ≤ 500 := by rw [hnx]; have := HSZ.out.1; omega
        have hn1 : 1 ≤ n := by rw [hnx]; exact HSZ.out.2
        have HNX : Hid (n = dsz k1 n1 ⟨xk, xn, xs⟩) := hnx
        have hn1' : (1 : Int) ≤ (n : Int) := by omega
        have hn0 : ((n : Int) == 0) = false := by simp; omega
        have hn2 : decide ((n : Int) = 0) = false := by simp; omega
        have hn3 : decide (n = 0) = false := by simp; omega
        have hn4 : (n == 0) = false := by simp; omega
        have hn5 : n ≠ 0 := by omega
        have hpn' : (p : Int) + (n : Int) ≤ 500 := by omega
        have RE : ∀ W, _ := fun W => run_neD ⟨xk, xn, xs⟩ ⟨xk, xn, xs⟩ W
        rw [sameD_refl] at RE
        have ba5 := below_at hS4 HN2.out.2
        have bn5 := below_at hS4 HN2.out.1
        obtain ⟨ca5, fa5⟩ := blk1 ba5
        obtain ⟨cn5, fn5⟩ := blk1 bn5
        obtain ⟨⟨cb50, cb51, cb52⟩, _⟩ := blk3 (below_at hS4 HBB.out)
        obtain ⟨s1, s2⟩ := store1 ba5 (.int .i64 ((p : Int) + (n : Int)))
        obtain ⟨t1, t2⟩ := store1 (s2.at bn5 (by omega)) (.int .i64 ((m : Int) + 1))
        have HFIN : Hid _ := AI.step HI.out HX.out ((t2.os.trans s2.os).trans (hS4.os.trans HB2.out.os)) ((t2.tape.trans s2.tape).trans (hS4.tape.trans HB2.out.tape)) ((t2.output.trans s2.output).trans (hS4.output.trans HB2.out.output)) (by rw [← t2.size, ← s2.size]; exact Nat.le_trans HB2.out.size hS4.size) (fun b hb h1 h2 => (t2.block b h2).trans ((s2.block b h1).trans ((hS4.block b (by have := HB2.out.size; omega)).trans (HB2.out.block b hb)))) ((t2.at s1 (by omega)).trans (by rw [atF, if_neg hk, endF_snoc, HNX.out]; simp)) (by rw [HM.out]; exact t1) (M := W5.heap.size) (D := W7.heap.size) (by omega) (by omega) (by omega)
        clear hp1 hn1 hnx hcase ba5 bn5 s1 s2 t1 t2 hS4 hS3 HXX
        gi_wp2
        exact HFIN.out
  case done =>
    rintro D xs X V hD rfl hi hDf
    have RC := fun W => rcheck_any k1 n1 W
    obtain ⟨vs, hvs⟩ : ∃ vs, allV k1 n1 l0 = vs := ⟨_, rfl⟩
    have hvl : (vs.length : Int) ≤ 4000 := by have := allV_len k1 n1 l0 (by omega); rw [hvs] at this; omega
    rw [hvs] at hi
    have HSQ : Hid (∀ n, 8 ≤ n → SeqE n Try.prog gf lb (fun x : Nat × Dat => #[.int .i64 ((x.1 : Nat) : Int), dval x.2]) (fun ys => ys = vs) (fun pre => pre <+: vs) (fun pre x => vs[pre.length]? = some x) (fun _ => False) Pre W5) := by rw [← hvs]; exact hsq
    have HEN : Hid _ := hen
    have HPRE : Hid _ := hpre
    clear hsq hen hpre i7 b7
    obtain ⟨ct0, ct1⟩ := (blk2 hi.bt).1
    cases hc : chkB k1 n1
    · rw [hc] at RC
      gi_wp2
      refine ⟨trivial, (callsIn_wide.2 (RC _)).mono ?_⟩
      rintro e V2 ⟨rfl, hb2⟩
      have hi2 := (hi.stab (n := N + 2) (Nat.le_refl _) (Chg.of_below hb2)).sub (fun b hb => .inl hb)
      have hDf2 := below_at hb2 hDf
      have hsV2 := hb2.size
      clear hi hDf ct0 ct1
      obtain ⟨ct0, ct1⟩ := (blk2 hi2.bt).1
      gi_wp2
      refine ⟨trivial, (callsIn_wide.2 (RC _)).mono ?_⟩
      rintro e V3 ⟨rfl, hb3⟩
      have hi3 := (hi2.stab (n := N + 2) (Nat.le_refl _) (Chg.of_below hb3)).sub (fun b hb => .inl hb)
      have hDf3 := below_at hb3 hDf2
      have hsV3 := hb3.size
      clear hi2 hDf2 ct0 ct1
      clear hb2 RC
      obtain ⟨L, hLe⟩ : ∃ L, L = V3.heap.size := ⟨_, rfl⟩
      gi_wp2
      obtain ⟨Va, hVa⟩ : ∃ Va, Va = V3.alloc (.cells #[.int .i64 0] 3 (0, 0)) := ⟨_, rfl⟩
      have ba : Below V3.heap.size V3 Va := by rw [hVa]; exact alloc_below V3 _
      have sa : Va.heap.size = L + 1 := by rw [hVa, hLe]; simp
      have ra : Va.heap[L]? = some (.cells #[.int .i64 0] 3 (0, 0)) := by rw [hVa, hLe]; exact heap_new V3 _
      have hDL : D < L := by rw [hLe]; exact lt_of_heap hDf3
      have il : LI w.heap.size N L D w a2 ((vs.length : Nat) : Int) vs [] (fun _ => False) Va := ⟨below_at ba hi3.bl, below_at ba hi3.br, below_at ba hi3.bn, by simpa using ra, below_at ba hDf3, List.nil_prefix, .inr (by simp), fun b hb => hb.elim, fun b hb => hb.elim, hi3.bel.trans (ba.mono hi3.bel.size), by omega, ⟨hi3.sn, by omega, by omega⟩⟩
      have hbu : Below W5.heap.size W5 Va := (hi3.bu.mono (by omega)).trans (ba.mono (by have := hi3.bu.size; omega))
      have hLW : W5.heap.size ≤ L := by have := hi3.bu.size; omega
      rw [← hVa]
      try rw [← hLe]
      have hLs : L + 1 ≤ Va.heap.size ∧ Va.heap.size ≤ L + 1 := by omega
      clear ba ra sa hLe hVa hi3 hDf3
      refine range_e1 (by omega) (gf := gf) rfl HEN.out (HSQ.out 11 (by omega)) (fun V hV => HPRE.out V (hbu.trans (hV.mono hbu.size))) hbu (fun _ => rfl)
        (LI w.heap.size N L D w a2 ((vs.length : Nat) : Int) vs) (fun c pre V => c = .exit 2 ∧ LJ w.heap.size N L D w a2 ((vs.length : Nat) : Int) vs pre V) (fun s X A C h hb => h.stab (by omega) hb) (fun c s V b o o' h hl _ _ => ⟨h.1, h.2.put (by omega) o'⟩) (fun s X X' A h hs => h.sub hs) (fun s X A h => h.bd) il ?_ ?_ ?_ ?_
      · intro l x V K hK
        exact wpIn_skip hK
      · intro pre x X2 V4 hsz hnD hnD1 hi4 hx
        have hpl : (pre.length : Int) ≤ 4000 := by have := hi4.pf.length_le; omega
        obtain ⟨cL, fL⟩ := blk1 hi4.bL
        have cl := (blk1 hi4.bl).1
        have hsn4 := hi4.sn
        obtain ⟨s1, s2⟩ := store1 hi4.bL (.int .i64 (((pre.length : Nat) : Int) + 1))
        have cL5 := (blk1 s1).1
        have cl5 := (blk1 ((s2.block _ (by omega)).trans hi4.bl)).1
        have ST0 := LI.step hi4 hx s2.os s2.tape s2.output (Nat.le_of_eq s2.size) (fun b hb h => s2.block b h) s1 (M := W5.heap.size) (E := Va.heap.size) hLW (by omega) hsz
        obtain ⟨m, hm⟩ : ∃ m : Nat, pre.length = m := ⟨_, rfl⟩
        have HM : Hid (pre.length = m) := hm
        rw [hm] at cL cL5 hpl
        simp only [hm] at cl5 ST0
        have ST : Hid _ := ST0
        clear s1 s2 hi4 hx ST0
        by_cases hlv : a2 ≤ (m : Int) + 1
        · have d1 : decide (a2 ≤ (m : Int) + 1) = true := by simpa using hlv
          gi_wp2
          exact ⟨ST.out.1, rfl, ST.out.2.2 hlv⟩
        · have d1 : decide (a2 ≤ (m : Int) + 1) = false := by simpa using hlv
          gi_wp2
          exact ⟨ST.out.1, ST.out.2.1 (by omega)⟩
      · intro D2 xs X2 V4 hD2 hxs hi4 hDf4
        rw [hxs] at hi4
        have cL := (blk1 hi4.bL).1
        have cl := (blk1 hi4.bl).1
        have cn := (blk1 hi4.bn).1
        obtain ⟨cr, fr⟩ := blk1 hi4.br
        have hsn4 := hi4.sn
        have hlt4 := hi4.lt
        obtain ⟨s1, s2⟩ := store1 hi4.br (.bool true)
        have HE : Hid _ := fun (t : Array Value) ht => pa_end (t := t) s1 ((s2.block _ (by omega)).trans hi4.bD) ((s2.block _ (by omega)).trans hDf4) (by omega) (by omega) (hi4.bel.trans ⟨s2.os, s2.tape, s2.output, Nat.le_of_eq s2.size, fun b hb => s2.block b (by omega)⟩) ht
        generalize vs.length = tl at *
        clear s1 s2 hDf4 hi4
        gi_wp2
        rw [show ((tl : Int) == min (tl : Int) (max 1 a2)) = true from by simp; omega]
        exact HE.out _ rfl
      · rintro D2 c pre V4 hD2 hpp ⟨rfl, hj⟩ hDf4
        have cL := (blk1 hj.bL).1
        have cl := (blk1 hj.bl).1
        have cn := (blk1 hj.bn).1
        obtain ⟨cr, fr⟩ := blk1 hj.br
        have hsn4 := hj.sn
        have hlt4 := hj.lt
        have hge4 := hj.ge
        have hpo4 := hj.po
        have hpf4 := hj.pf.length_le
        obtain ⟨s1, s2⟩ := store1 hj.br (.bool true)
        have HE : Hid _ := fun (t : Array Value) ht => pa_end (t := t) s1 ((s2.block _ (by omega)).trans hj.bD) ((s2.block _ (by omega)).trans hDf4) (by omega) (by omega) (hj.bel.trans ⟨s2.os, s2.tape, s2.output, Nat.le_of_eq s2.size, fun b hb => s2.block b (by omega)⟩) ht
        generalize vs.length = tl at *
        generalize pre.length = m at *
        clear s1 s2 hDf4 hj
        gi_wp2
        rw [show ((m : Int) == min (tl : Int) (max 1 a2)) = true from by simp; omega]
        exact HE.out _ rfl
    · rw [hc] at RC
      by_cases hk : k1 = 0
      · subst hk
        have htl : (vs.length : Int) = 8 * (len0 : Int) := by
          rw [← hvs, allV, if_neg (by rw [hc]; simp), if_pos rfl, trP_len, upto_length]
          omega
        have htl1 : ((vs.length : Int) == 8 * (len0 : Int)) = true := by simpa using htl
        have htl2 : decide ((vs.length : Int) = 8 * (len0 : Int)) = true := by simpa using htl
        have HTL : Hid ((vs.length : Int) = 8 * (len0 : Int)) := htl
        have cn := (blk1 hi.bn).1
        have cb := (blk1 hi.bb).1
        gi_wp2
        refine ⟨trivial, (callsIn_wide.2 (RC _)).mono ?_⟩
        rintro e V2 ⟨rfl, hb2⟩
        have hi2 := (hi.stab (n := N + 2) (Nat.le_refl _) (Chg.of_below hb2)).sub (fun b hb => .inl hb)
        have hDf2 := below_at hb2 hDf
        have hsV2 := hb2.size
        clear hi hDf ct0 ct1 cn cb htl
        obtain ⟨ct0, ct1⟩ := (blk2 hi2.bt).1
        have cn := (blk1 hi2.bn).1
        have cb := (blk1 hi2.bb).1
        gi_wp2
        refine ⟨trivial, (callsIn_wide.2 (RC _)).mono ?_⟩
        rintro e V3 ⟨rfl, hb3⟩
        have hi3 := (hi2.stab (n := N + 2) (Nat.le_refl _) (Chg.of_below hb3)).sub (fun b hb => .inl hb)
        have hDf3 := below_at hb3 hDf2
        have hsV3 := hb3.size
        clear hi2 hDf2 ct0 ct1 cn cb htl1 htl2
        obtain ⟨ct0, ct1⟩ := (blk2 hi3.bt).1
        clear hb2 RC
        obtain ⟨L, hLe⟩ : ∃ L, L = V3.heap.size := ⟨_, rfl⟩
        gi_wp2
        obtain ⟨Va, hVa⟩ : ∃ Va, Va = V3.alloc (.cells #[.int .i64 0] 3 (0, 0)) := ⟨_, rfl⟩
        have ba : Below V3.heap.size V3 Va := by rw [hVa]; exact alloc_below V3 _
        have sa : Va.heap.size = L + 1 := by rw [hVa, hLe]; simp
        have ra : Va.heap[L]? = some (.cells #[.int .i64 0] 3 (0, 0)) := by rw [hVa, hLe]; exact heap_new V3 _
        have hDL : D < L := by rw [hLe]; exact lt_of_heap hDf3
        have il : LI w.heap.size N L D w a2 ((vs.length : Nat) : Int) vs [] (fun _ => False) Va := ⟨below_at ba hi3.bl, below_at ba hi3.br, below_at ba hi3.bn, by simpa using ra, below_at ba hDf3, List.nil_prefix, .inr (by simp), fun b hb => hb.elim, fun b hb => hb.elim, hi3.bel.trans (ba.mono hi3.bel.size), by omega, ⟨hi3.sn, by omega, by omega⟩⟩
        have hbu : Below W5.heap.size W5 Va := (hi3.bu.mono (by omega)).trans (ba.mono (by have := hi3.bu.size; omega))
        have hLW : W5.heap.size ≤ L := by have := hi3.bu.size; omega
        rw [← hVa]
        try rw [← hLe]
        have hLs : L + 1 ≤ Va.heap.size ∧ Va.heap.size ≤ L + 1 := by omega
        clear ba ra sa hLe hVa hi3 hDf3
        refine range_e1 (by omega) (gf := gf) rfl HEN.out (HSQ.out 11 (by omega)) (fun V hV => HPRE.out V (hbu.trans (hV.mono hbu.size))) hbu (fun _ => rfl)
          (LI w.heap.size N L D w a2 ((vs.length : Nat) : Int) vs) (fun c pre V => c = .exit 2 ∧ LJ w.heap.size N L D w a2 ((vs.length : Nat) : Int) vs pre V) (fun s X A C h hb => h.stab (by omega) hb) (fun c s V b o o' h hl _ _ => ⟨h.1, h.2.put (by omega) o'⟩) (fun s X X' A h hs => h.sub hs) (fun s X A h => h.bd) il ?_ ?_ ?_ ?_
        · intro l x V K hK
          exact wpIn_skip hK
        · intro pre x X2 V4 hsz hnD hnD1 hi4 hx
          have hpl : (pre.length : Int) ≤ 4000 := by have := hi4.pf.length_le; omega
          obtain ⟨cL, fL⟩ := blk1 hi4.bL
          have cl := (blk1 hi4.bl).1
          have hsn4 := hi4.sn
          obtain ⟨s1, s2⟩ := store1 hi4.bL (.int .i64 (((pre.length : Nat) : Int) + 1))
          have cL5 := (blk1 s1).1
          have cl5 := (blk1 ((s2.block _ (by omega)).trans hi4.bl)).1
          have ST0 := LI.step hi4 hx s2.os s2.tape s2.output (Nat.le_of_eq s2.size) (fun b hb h => s2.block b h) s1 (M := W5.heap.size) (E := Va.heap.size) hLW (by omega) hsz
          obtain ⟨m, hm⟩ : ∃ m : Nat, pre.length = m := ⟨_, rfl⟩
          have HM : Hid (pre.length = m) := hm
          rw [hm] at cL cL5 hpl
          simp only [hm] at cl5 ST0
          have ST : Hid _ := ST0
          clear s1 s2 hi4 hx ST0
          by_cases hlv : a2 ≤ (m : Int) + 1
          · have d1 : decide (a2 ≤ (m : Int) + 1) = true := by simpa using hlv
            gi_wp2
            exact ⟨ST.out.1, rfl, ST.out.2.2 hlv⟩
          · have d1 : decide (a2 ≤ (m : Int) + 1) = false := by simpa using hlv
            gi_wp2
            exact ⟨ST.out.1, ST.out.2.1 (by omega)⟩
        · intro D2 xs X2 V4 hD2 hxs hi4 hDf4
          rw [hxs] at hi4
          have cL := (blk1 hi4.bL).1
          have cl := (blk1 hi4.bl).1
          have cn := (blk1 hi4.bn).1
          obtain ⟨cr, fr⟩ := blk1 hi4.br
          have hsn4 := hi4.sn
          have hlt4 := hi4.lt
          obtain ⟨s1, s2⟩ := store1 hi4.br (.bool true)
          have HE : Hid _ := fun (t : Array Value) ht => pa_end (t := t) s1 ((s2.block _ (by omega)).trans hi4.bD) ((s2.block _ (by omega)).trans hDf4) (by omega) (by omega) (hi4.bel.trans ⟨s2.os, s2.tape, s2.output, Nat.le_of_eq s2.size, fun b hb => s2.block b (by omega)⟩) ht
          generalize vs.length = tl at *
          clear s1 s2 hDf4 hi4
          gi_wp2
          rw [show ((tl : Int) == min (tl : Int) (max 1 a2)) = true from by simp; omega]
          exact HE.out _ rfl
        · rintro D2 c pre V4 hD2 hpp ⟨rfl, hj⟩ hDf4
          have cL := (blk1 hj.bL).1
          have cl := (blk1 hj.bl).1
          have cn := (blk1 hj.bn).1
          obtain ⟨cr, fr⟩ := blk1 hj.br
          have hsn4 := hj.sn
          have hlt4 := hj.lt
          have hge4 := hj.ge
          have hpo4 := hj.po
          have hpf4 := hj.pf.length_le
          obtain ⟨s1, s2⟩ := store1 hj.br (.bool true)
          have HE : Hid _ := fun (t : Array Value) ht => pa_end (t := t) s1 ((s2.block _ (by omega)).trans hj.bD) ((s2.block _ (by omega)).trans hDf4) (by omega) (by omega) (hj.bel.trans ⟨s2.os, s2.tape, s2.output, Nat.le_of_eq s2.size, fun b hb => s2.block b (by omega)⟩) ht
          generalize vs.length = tl at *
          generalize pre.length = m at *
          clear s1 s2 hDf4 hj
          gi_wp2
          rw [show ((m : Int) == min (tl : Int) (max 1 a2)) = true from by simp; omega]
          exact HE.out _ rfl
      · have hkk : (k1 == 0) = false := by simpa using hk
        have hkd : decide (k1 = 0) = false := by simpa using hk
        obtain ⟨p, hpe⟩ : ∃ p, p = endF k1 n1 0 vs := ⟨_, rfl⟩
        have hve : vs = vals k1 n1 l0 0 := by rw [← hvs, allV, if_neg (by rw [hc]; simp), if_neg hk]
        obtain ⟨hfr, hpl⟩ := vals_last (bs := l0) hc hk
        rw [← hve, ← hpe, HN] at hpl
        rw [← hve, ← hpe] at hfr
        have HAT : Hid (atF k1 n1 vs = p) := by show _ = _; rw [atF, if_neg hk, hpe]
        have HFR : Hid (front k1 n1 (l0.drop p) = none) := hfr
        have hkn : (k1 != 0) = true := by simpa using hk
        clear hpe hve hfr
        have hpl' : (p : Int) ≤ (len0 : Int) := by omega
        gi_wp2
        refine ⟨trivial, (callsIn_wide.2 (RC _)).mono ?_⟩
        rintro e V2 ⟨rfl, hb2⟩
        have hi2 := (hi.stab (n := N + 2) (Nat.le_refl _) (Chg.of_below hb2)).sub (fun b hb => .inl hb)
        have hDf2 := below_at hb2 hDf
        have hsV2 := hb2.size
        clear hi hDf ct0 ct1
        obtain ⟨ct0, ct1⟩ := (blk2 hi2.bt).1
        gi_wp2
        refine ⟨trivial, (callsIn_wide.2 (RC _)).mono ?_⟩
        rintro e V3 ⟨rfl, hb3⟩
        have hi3 := (hi2.stab (n := N + 2) (Nat.le_refl _) (Chg.of_below hb3)).sub (fun b hb => .inl hb)
        have hDf3 := below_at hb3 hDf2
        have hsV3 := hb3.size
        clear hi2 hDf2 ct0 ct1
        obtain ⟨ct0, ct1⟩ := (blk2 hi3.bt).1
        have cb := (blk1 hi3.bb).1
        have ca := (blk1 hi3.ba).1
        rw [HAT.out] at ca
        by_cases hpL : p < len0
        · have hpL' : (p : Int) < (len0 : Int) := by omega
          have hpd : decide ((p : Int) < (len0 : Int)) = true := by simpa using hpL
          have hpd2 : decide (p < len0) = true := by simpa using hpL
          gi_wp2
          have hbw := hi3.bel
          have FR : ∀ W, Below V3.heap.size V3 W → RF k1 n1 (l0.drop p) (if cap0 = p then a0 else Option.map (fun x => x.add p) a0) (len0 - p) (cap0 - p) W := fun W h => rfront_any k1 n1 hc hk (byt_drop (hB.later (hbw.trans (h.mono hbw.size))) p hpl)
          unfold RF at FR
          have bb3 := hi3.bb
          have bt3 := hi3.bt
          have ba3 : V3.heap[N]? = some (.cells #[.int .i64 ((p : Nat) : Int)] 3 (0, 0)) := by rw [← HAT.out]; exact hi3.ba
          have hS0 : Below V3.heap.size V3 V3.drew := (Below.refl _ _).drew
          have HF : Hid (∀ W, Below V3.heap.size V3 W → W.cell? ⟨w.heap.size, 0, none⟩ = some (.slice a0 len0 cap0) ∧ W.cell? ⟨N, 0, none⟩ = some (.int .i64 (p : Int)) ∧ W.cell? ⟨w.heap.size + 1, 0, none⟩ = some (.int .i64 k1) ∧ W.cell? ⟨w.heap.size + 1, 1, none⟩ = some (.int .i64 n1)) := fun W h => ⟨(blk1 (below_at h bb3)).1, (blk1 (below_at h ba3)).1, (blk2 (below_at h bt3)).1⟩
          have hsz3 := hi3.sz
          have HI3 : Hid _ := hi3
          have HD3 : Hid _ := hDf3
          clear ct0 ct1 ca cb hi3 hDf3
          refine wide_only (S := fun W => Below V3.heap.size V3 W) (by kernel_rfl) (by intro i o c ho hc; rcases i with _|_|_|_|_|_|_|_|_|_|_|i <;> simp at ho <;> subst ho <;> cases hc) hS0 (fun hHeld => ?_)
          clear hHeld
          generalize V3.drew = Wd at *
          refine wpAnyH_take (i := 0) (v := ?_) rfl (by kernel_rfl) (by kernel_rfl) (by kernel_rfl) (fun _ _ _ h => h) (Or.inl ⟨by rfl, ?_⟩) (by assumption) ?_
          rotate_left
          · intro w hSw
            have hSx := HF.out w hSw
            (try (obtain ⟨_, _, _, _, _, _, _, _⟩ := hSx))
            (try (obtain ⟨_, _, _, _⟩ := hSx))
            (try (obtain ⟨_, _, _⟩ := hSx))
            (try (obtain ⟨_, _⟩ := hSx))
            go_simp
            (try with_reducible rfl)
          (try simp only [Act.put, List.setIfInBounds_toArray, List.set_cons_zero, List.set_cons_succ])
          refine wpAnyH_take (i := 1) (v := ?_) rfl (by kernel_rfl) (by kernel_rfl) (by kernel_rfl) (fun _ _ _ h => h) (Or.inl ⟨by rfl, ?_⟩) (by assumption) ?_
          rotate_left
          · intro w hSw
            have hSx := HF.out w hSw
            (try (obtain ⟨_, _, _, _, _, _, _, _⟩ := hSx))
            (try (obtain ⟨_, _, _, _⟩ := hSx))
            (try (obtain ⟨_, _, _⟩ := hSx))
            (try (obtain ⟨_, _⟩ := hSx))
            go_simp
            (try with_reducible rfl)
          (try simp only [Act.put, List.setIfInBounds_toArray, List.set_cons_zero, List.set_cons_succ])
          refine wpAnyH_take (i := 2) (v := ?_) rfl (by kernel_rfl) (by kernel_rfl) (by kernel_rfl) (fun _ _ _ h => h) (Or.inl ⟨by rfl, ?_⟩) (by assumption) ?_
          rotate_left
          · intro w hSw
            have hSx := HF.out w hSw
            (try (obtain ⟨_, _, _, _, _, _, _, _⟩ := hSx))
            (try (obtain ⟨_, _, _, _⟩ := hSx))
            (try (obtain ⟨_, _, _⟩ := hSx))
            (try (obtain ⟨_, _⟩ := hSx))
            go_simp
            (try with_reducible rfl)
          (try simp only [Act.put, List.setIfInBounds_toArray, List.set_cons_zero, List.set_cons_succ])
          refine wpAnyH_take (i := 3) (v := ?_) rfl (by kernel_rfl) (by kernel_rfl) (by kernel_rfl) (fun _ _ _ h => h) (Or.inl ⟨by rfl, ?_⟩) (by assumption) ?_
          rotate_left
          · intro w hSw
            have hSx := HF.out w hSw
            (try (obtain ⟨_, _, _, _, _, _, _, _⟩ := hSx))
            (try (obtain ⟨_, _, _, _⟩ := hSx))
            (try (obtain ⟨_, _, _⟩ := hSx))
            (try (obtain ⟨_, _⟩ := hSx))
            go_simp
            (try with_reducible rfl)
          (try simp only [Act.put, List.setIfInBounds_toArray, List.set_cons_zero, List.set_cons_succ])
          generalize (if cap0 = p then a0 else Option.map (fun x => x.add p) a0) = a' at *
          refine wpAnyH_ready (rs := [4, 8]) (by kernel_rfl) (by simp) ?_
          refine AllReadyH.cons rfl (fun K hK => ?_) (AllReadyH.cons rfl (fun K hK => ?_) AllReadyH.nil)
          · go_simp
            refine (FR Wd hS0).mono ?_
            rintro e W2 ⟨⟨dk, dn, ds⟩, n, rfl, hcase, hb2'⟩
            have hS2 := hS0.trans (hb2'.mono hS0.size)
            have hBl := hS2.size
            have hS3 : Below V3.heap.size V3 (W2.alloc (.cells #[.int .i64 0, .int .i64 0, .string { data := #[] }] 48 (0, 0))) := hS2.alloc hBl _
            have hxb := heap_new W2 (.cells #[.int .i64 0, .int .i64 0, .string { data := #[] }] 48 (0, 0))
            unfold dval
            go_simp
            refine hK.out _ _ hS2 (fun _ => ?_)
            clear hK K
            (try simp only [Act.put, List.setIfInBounds_toArray, List.set_cons_zero, List.set_cons_succ])
            refine wpAnyH_take (i := 5) (v := ?_) rfl (by kernel_rfl) (by kernel_rfl) (by kernel_rfl) (fun _ _ _ h => h) (Or.inl ⟨by rfl, ?_⟩) (by assumption) ?_
            rotate_left
            · intro w hSw
              have hSx := HF.out w hSw
              (try (obtain ⟨_, _, _, _, _, _, _, _⟩ := hSx))
              (try (obtain ⟨_, _, _, _⟩ := hSx))
              (try (obtain ⟨_, _, _⟩ := hSx))
              (try (obtain ⟨_, _⟩ := hSx))
              go_simp
              (try with_reducible rfl)
            (try simp only [Act.put, List.setIfInBounds_toArray, List.set_cons_zero, List.set_cons_succ])
            refine wpAnyH_take (i := 6) (v := ?_) rfl (by kernel_rfl) (by kernel_rfl) (by kernel_rfl) (fun _ _ _ h => h) (Or.inl ⟨by rfl, ?_⟩) (by assumption) ?_
            rotate_left
            · intro w hSw
              have hSx := HF.out w hSw
              (try (obtain ⟨_, _, _, _, _, _, _, _⟩ := hSx))
              (try (obtain ⟨_, _, _, _⟩ := hSx))
              (try (obtain ⟨_, _, _⟩ := hSx))
              (try (obtain ⟨_, _⟩ := hSx))
              go_simp
              (try with_reducible rfl)
            (try simp only [Act.put, List.setIfInBounds_toArray, List.set_cons_zero, List.set_cons_succ])
            refine wpAnyH_take (i := 7) (v := ?_) rfl (by kernel_rfl) (by kernel_rfl) (by kernel_rfl) (fun _ _ _ h => h) (Or.inl ⟨by rfl, ?_⟩) (by assumption) ?_
            rotate_left
            · intro w hSw
              have hSx := HF.out w hSw
              (try (obtain ⟨_, _, _, _, _, _, _, _⟩ := hSx))
              (try (obtain ⟨_, _, _, _⟩ := hSx))
              (try (obtain ⟨_, _, _⟩ := hSx))
              (try (obtain ⟨_, _⟩ := hSx))
              go_simp
              (try with_reducible rfl)
            (try simp only [Act.put, List.setIfInBounds_toArray, List.set_cons_zero, List.set_cons_succ])
            refine wpAnyH_ready (rs := [8]) (by kernel_rfl) (by simp) ?_
            refine AllReadyH.cons rfl (fun K hK => ?_) AllReadyH.nil
            go_simp
            refine hK.out _ _ hS3 (fun _ => ?_)
            clear hK K hS2
            (try simp only [Act.put, List.setIfInBounds_toArray, List.set_cons_zero, List.set_cons_succ])
            generalize W2.alloc (.cells #[.int .i64 0, .int .i64 0, .string { data := #[] }] 48 (0, 0)) = W3 at *
            obtain ⟨_, f0, f1, f2⟩ := blk3 hxb
            obtain ⟨X5, HXX, c0, c1, c2, hbX⟩ := box_dat hxb ⟨dk, dn, ds⟩
            have hS4 := hS3.trans (hbX.mono hBl)
            clear hbX hS0 FR hxb HF
            refine wpAnyH_ready (rs := [9]) (by kernel_rfl) (by simp) ?_
            refine AllReadyH.cons rfl (fun K hK => ?_) AllReadyH.nil
            go_simp
            try rw [HXX]
            refine hK.out _ _ hS4 (fun _ => ?_)
            clear hK K
            (try simp only [Act.put, List.setIfInBounds_toArray, List.set_cons_zero, List.set_cons_succ])
            refine wpAnyH_ready (rs := [10]) (by kernel_rfl) (by simp) ?_
            refine AllReadyH.cons rfl (fun K hK => ?_) AllReadyH.nil
            go_simp
            refine hK.out _ _ hS4 (fun _ => ?_)
            clear hK K
            refine wpAnyH_done (by kernel_rfl) ?_ _
            rw [show ∀ (Q : Exit → Act → World → Prop) a w, onlyN Q .normal a w = Q .normal a w from fun _ _ _ => rfl]
            obtain hnx : n = 0 := by
              rcases hcase with ⟨_, h⟩ | ⟨h, _⟩
              · first | exact h | exact h.1 | exact h.2 | omega
              · rw [HFR.out] at h; cases h
            subst hnx
            have hi9 := (HI3.out.stab (n := N + 2) (Nat.le_refl _) (Chg.of_below hS4)).sub (fun b hb => .inl hb)
            have hDf9 := below_at hS4 HD3.out
            have hsz9 := hS4.size
            clear hcase hS4 hS3 HXX
            clear hb2 RC
            obtain ⟨L, hLe⟩ : ∃ L, L = X5.heap.size := ⟨_, rfl⟩
            gi_wp2
            obtain ⟨Va, hVa⟩ : ∃ Va, Va = X5.alloc (.cells #[.int .i64 0] 3 (0, 0)) := ⟨_, rfl⟩
            have ba : Below X5.heap.size X5 Va := by rw [hVa]; exact alloc_below X5 _
            have sa : Va.heap.size = L + 1 := by rw [hVa, hLe]; simp
            have ra : Va.heap[L]? = some (.cells #[.int .i64 0] 3 (0, 0)) := by rw [hVa, hLe]; exact heap_new X5 _
            have hDL : D < L := by rw [hLe]; exact lt_of_heap hDf9
            have il : LI w.heap.size N L D w a2 ((vs.length : Nat) : Int) vs [] (fun _ => False) Va := ⟨below_at ba hi9.bl, below_at ba hi9.br, below_at ba hi9.bn, by simpa using ra, below_at ba hDf9, List.nil_prefix, .inr (by simp), fun b hb => hb.elim, fun b hb => hb.elim, hi9.bel.trans (ba.mono hi9.bel.size), by omega, ⟨hi9.sn, by omega, by omega⟩⟩
            have hbu : Below W5.heap.size W5 Va := (hi9.bu.mono (by omega)).trans (ba.mono (by have := hi9.bu.size; omega))
            have hLW : W5.heap.size ≤ L := by have := hi9.bu.size; omega
            rw [← hVa]
            try rw [← hLe]
            have hLs : L + 1 ≤ Va.heap.size ∧ Va.heap.size ≤ L + 1 := by omega
            clear ba ra sa hLe hVa hi9 hDf9
            refine range_e1 (by omega) (gf := gf) rfl HEN.out (HSQ.out 11 (by omega)) (fun V hV => HPRE.out V (hbu.trans (hV.mono hbu.size))) hbu (fun _ => rfl)
              (LI w.heap.size N L D w a2 ((vs.length : Nat) : Int) vs) (fun c pre V => c = .exit 2 ∧ LJ w.heap.size N L D w a2 ((vs.length : Nat) : Int) vs pre V) (fun s X A C h hb => h.stab (by omega) hb) (fun c s V b o o' h hl _ _ => ⟨h.1, h.2.put (by omega) o'⟩) (fun s X X' A h hs => h.sub hs) (fun s X A h => h.bd) il ?_ ?_ ?_ ?_
            · intro l x V K hK
              exact wpIn_skip hK
            · intro pre x X2 V4 hsz hnD hnD1 hi4 hx
              have hpl : (pre.length : Int) ≤ 4000 := by have := hi4.pf.length_le; omega
              obtain ⟨cL, fL⟩ := blk1 hi4.bL
              have cl := (blk1 hi4.bl).1
              have hsn4 := hi4.sn
              obtain ⟨s1, s2⟩ := store1 hi4.bL (.int .i64 (((pre.length : Nat) : Int) + 1))
              have cL5 := (blk1 s1).1
              have cl5 := (blk1 ((s2.block _ (by omega)).trans hi4.bl)).1
              have ST0 := LI.step hi4 hx s2.os s2.tape s2.output (Nat.le_of_eq s2.size) (fun b hb h => s2.block b h) s1 (M := W5.heap.size) (E := Va.heap.size) hLW (by omega) hsz
              obtain ⟨m, hm⟩ : ∃ m : Nat, pre.length = m := ⟨_, rfl⟩
              have HM : Hid (pre.length = m) := hm
              rw [hm] at cL cL5 hpl
              simp only [hm] at cl5 ST0
              have ST : Hid _ := ST0
              clear s1 s2 hi4 hx ST0
              by_cases hlv : a2 ≤ (m : Int) + 1
              · have d1 : decide (a2 ≤ (m : Int) + 1) = true := by simpa using hlv
                gi_wp2
                exact ⟨ST.out.1, rfl, ST.out.2.2 hlv⟩
              · have d1 : decide (a2 ≤ (m : Int) + 1) = false := by simpa using hlv
                gi_wp2
                exact ⟨ST.out.1, ST.out.2.1 (by omega)⟩
            · intro D2 xs X2 V4 hD2 hxs hi4 hDf4
              rw [hxs] at hi4
              have cL := (blk1 hi4.bL).1
              have cl := (blk1 hi4.bl).1
              have cn := (blk1 hi4.bn).1
              obtain ⟨cr, fr⟩ := blk1 hi4.br
              have hsn4 := hi4.sn
              have hlt4 := hi4.lt
              obtain ⟨s1, s2⟩ := store1 hi4.br (.bool true)
              have HE : Hid _ := fun (t : Array Value) ht => pa_end (t := t) s1 ((s2.block _ (by omega)).trans hi4.bD) ((s2.block _ (by omega)).trans hDf4) (by omega) (by omega) (hi4.bel.trans ⟨s2.os, s2.tape, s2.output, Nat.le_of_eq s2.size, fun b hb => s2.block b (by omega)⟩) ht
              generalize vs.length = tl at *
              clear s1 s2 hDf4 hi4
              gi_wp2
              rw [show ((tl : Int) == min (tl : Int) (max 1 a2)) = true from by simp; omega]
              exact HE.out _ rfl
            · rintro D2 c pre V4 hD2 hpp ⟨rfl, hj⟩ hDf4
              have cL := (blk1 hj.bL).1
              have cl := (blk1 hj.bl).1
              have cn := (blk1 hj.bn).1
              obtain ⟨cr, fr⟩ := blk1 hj.br
              have hsn4 := hj.sn
              have hlt4 := hj.lt
              have hge4 := hj.ge
              have hpo4 := hj.po
              have hpf4 := hj.pf.length_le
              obtain ⟨s1, s2⟩ := store1 hj.br (.bool true)
              have HE : Hid _ := fun (t : Array Value) ht => pa_end (t := t) s1 ((s2.block _ (by omega)).trans hj.bD) ((s2.block _ (by omega)).trans hDf4) (by omega) (by omega) (hj.bel.trans ⟨s2.os, s2.tape, s2.output, Nat.le_of_eq s2.size, fun b hb => s2.block b (by omega)⟩) ht
              generalize vs.length = tl at *
              generalize pre.length = m at *
              clear s1 s2 hDf4 hj
              gi_wp2
              rw [show ((m : Int) == min (tl : Int) (max 1 a2)) = true from by simp; omega]
              exact HE.out _ rfl
          · have hBl := hS0.size
            have hSa : Below V3.heap.size V3 (Wd.alloc (.cells #[.int .i64 0, .int .i64 0, .string { data := #[] }] 48 (0, 0))) := hS0.alloc hBl _
            have hxa := heap_new Wd (.cells #[.int .i64 0, .int .i64 0, .string { data := #[] }] 48 (0, 0))
            go_simp
            refine hK.out _ _ hSa (fun _ => ?_)
            clear hK K
            (try simp only [Act.put, List.setIfInBounds_toArray, List.set_cons_zero, List.set_cons_succ])
            refine wpAnyH_ready (rs := [4]) (by kernel_rfl) (by simp) ?_
            refine AllReadyH.cons rfl (fun K hK => ?_) AllReadyH.nil
            go_simp
            refine (FR _ hSa).mono ?_
            rintro e W3 ⟨⟨dk, dn, ds⟩, n, rfl, hcase, hb2'⟩
            have hS3 := hSa.trans (hb2'.mono hSa.size)
            have hxb := below_at hb2' hxa
            unfold dval
            go_simp
            refine hK.out _ _ hS3 (fun _ => ?_)
            clear hK K hxa hSa
            (try simp only [Act.put, List.setIfInBounds_toArray, List.set_cons_zero, List.set_cons_succ])
            refine wpAnyH_take (i := 5) (v := ?_) rfl (by kernel_rfl) (by kernel_rfl) (by kernel_rfl) (fun _ _ _ h => h) (Or.inl ⟨by rfl, ?_⟩) (by assumption) ?_
            rotate_left
            · intro w hSw
              have hSx := HF.out w hSw
              (try (obtain ⟨_, _, _, _, _, _, _, _⟩ := hSx))
              (try (obtain ⟨_, _, _, _⟩ := hSx))
              (try (obtain ⟨_, _, _⟩ := hSx))
              (try (obtain ⟨_, _⟩ := hSx))
              go_simp
              (try with_reducible rfl)
            (try simp only [Act.put, List.setIfInBounds_toArray, List.set_cons_zero, List.set_cons_succ])
            refine wpAnyH_take (i := 6) (v := ?_) rfl (by kernel_rfl) (by kernel_rfl) (by kernel_rfl) (fun _ _ _ h => h) (Or.inl ⟨by rfl, ?_⟩) (by assumption) ?_
            rotate_left
            · intro w hSw
              have hSx := HF.out w hSw
              (try (obtain ⟨_, _, _, _, _, _, _, _⟩ := hSx))
              (try (obtain ⟨_, _, _, _⟩ := hSx))
              (try (obtain ⟨_, _, _⟩ := hSx))
              (try (obtain ⟨_, _⟩ := hSx))
              go_simp
              (try with_reducible rfl)
            (try simp only [Act.put, List.setIfInBounds_toArray, List.set_cons_zero, List.set_cons_succ])
            refine wpAnyH_take (i := 7) (v := ?_) rfl (by kernel_rfl) (by kernel_rfl) (by kernel_rfl) (fun _ _ _ h => h) (Or.inl ⟨by rfl, ?_⟩) (by assumption) ?_
            rotate_left
            · intro w hSw
              have hSx := HF.out w hSw
              (try (obtain ⟨_, _, _, _, _, _, _, _⟩ := hSx))
              (try (obtain ⟨_, _, _, _⟩ := hSx))
              (try (obtain ⟨_, _, _⟩ := hSx))
              (try (obtain ⟨_, _⟩ := hSx))
              go_simp
              (try with_reducible rfl)
            (try simp only [Act.put, List.setIfInBounds_toArray, List.set_cons_zero, List.set_cons_succ])
            obtain ⟨_, f0, f1, f2⟩ := blk3 hxb
            obtain ⟨X5, HXX, c0, c1, c2, hbX⟩ := box_dat hxb ⟨dk, dn, ds⟩
            have hS4 := hS3.trans (hbX.mono hBl)
            clear hbX hS0 FR hxb HF
            refine wpAnyH_ready (rs := [9]) (by kernel_rfl) (by simp) ?_
            refine AllReadyH.cons rfl (fun K hK => ?_) AllReadyH.nil
            go_simp
            try rw [HXX]
            refine hK.out _ _ hS4 (fun _ => ?_)
            clear hK K
            (try simp only [Act.put, List.setIfInBounds_toArray, List.set_cons_zero, List.set_cons_succ])
            refine wpAnyH_ready (rs := [10]) (by kernel_rfl) (by simp) ?_
            refine AllReadyH.cons rfl (fun K hK => ?_) AllReadyH.nil
            go_simp
            refine hK.out _ _ hS4 (fun _ => ?_)
            clear hK K
            refine wpAnyH_done (by kernel_rfl) ?_ _
            rw [show ∀ (Q : Exit → Act → World → Prop) a w, onlyN Q .normal a w = Q .normal a w from fun _ _ _ => rfl]
            obtain hnx : n = 0 := by
              rcases hcase with ⟨_, h⟩ | ⟨h, _⟩
              · first | exact h | exact h.1 | exact h.2 | omega
              · rw [HFR.out] at h; cases h
            subst hnx
            have hi9 := (HI3.out.stab (n := N + 2) (Nat.le_refl _) (Chg.of_below hS4)).sub (fun b hb => .inl hb)
            have hDf9 := below_at hS4 HD3.out
            have hsz9 := hS4.size
            clear hcase hS4 hS3 HXX
            clear hb2 RC
            obtain ⟨L, hLe⟩ : ∃ L, L = X5.heap.size := ⟨_, rfl⟩
            gi_wp2
            obtain ⟨Va, hVa⟩ : ∃ Va, Va = X5.alloc (.cells #[.int .i64 0] 3 (0, 0)) := ⟨_, rfl⟩
            have ba : Below X5.heap.size X5 Va := by rw [hVa]; exact alloc_below X5 _
            have sa : Va.heap.size = L + 1 := by rw [hVa, hLe]; simp
            have ra : Va.heap[L]? = some (.cells #[.int .i64 0] 3 (0, 0)) := by rw [hVa, hLe]; exact heap_new X5 _
            have hDL : D < L := by rw [hLe]; exact lt_of_heap hDf9
            have il : LI w.heap.size N L D w a2 ((vs.length : Nat) : Int) vs [] (fun _ => False) Va := ⟨below_at ba hi9.bl, below_at ba hi9.br, below_at ba hi9.bn, by simpa using ra, below_at ba hDf9, List.nil_prefix, .inr (by simp), fun b hb => hb.elim, fun b hb => hb.elim, hi9.bel.trans (ba.mono hi9.bel.size), by omega, ⟨hi9.sn, by omega, by omega⟩⟩
            have hbu : Below W5.heap.size W5 Va := (hi9.bu.mono (by omega)).trans (ba.mono (by have := hi9.bu.size; omega))
            have hLW : W5.heap.size ≤ L := by have := hi9.bu.size; omega
            rw [← hVa]
            try rw [← hLe]
            have hLs : L + 1 ≤ Va.heap.size ∧ Va.heap.size ≤ L + 1 := by omega
            clear ba ra sa hLe hVa hi9 hDf9
            refine range_e1 (by omega) (gf := gf) rfl HEN.out (HSQ.out 11 (by omega)) (fun V hV => HPRE.out V (hbu.trans (hV.mono hbu.size))) hbu (fun _ => rfl)
              (LI w.heap.size N L D w a2 ((vs.length : Nat) : Int) vs) (fun c pre V => c = .exit 2 ∧ LJ w.heap.size N L D w a2 ((vs.length : Nat) : Int) vs pre V) (fun s X A C h hb => h.stab (by omega) hb) (fun c s V b o o' h hl _ _ => ⟨h.1, h.2.put (by omega) o'⟩) (fun s X X' A h hs => h.sub hs) (fun s X A h => h.bd) il ?_ ?_ ?_ ?_
            · intro l x V K hK
              exact wpIn_skip hK
            · intro pre x X2 V4 hsz hnD hnD1 hi4 hx
              have hpl : (pre.length : Int) ≤ 4000 := by have := hi4.pf.length_le; omega
              obtain ⟨cL, fL⟩ := blk1 hi4.bL
              have cl := (blk1 hi4.bl).1
              have hsn4 := hi4.sn
              obtain ⟨s1, s2⟩ := store1 hi4.bL (.int .i64 (((pre.length : Nat) : Int) + 1))
              have cL5 := (blk1 s1).1
              have cl5 := (blk1 ((s2.block _ (by omega)).trans hi4.bl)).1
              have ST0 := LI.step hi4 hx s2.os s2.tape s2.output (Nat.le_of_eq s2.size) (fun b hb h => s2.block b h) s1 (M := W5.heap.size) (E := Va.heap.size) hLW (by omega) hsz
              obtain ⟨m, hm⟩ : ∃ m : Nat, pre.length = m := ⟨_, rfl⟩
              have HM : Hid (pre.length = m) := hm
              rw [hm] at cL cL5 hpl
              simp only [hm] at cl5 ST0
              have ST : Hid _ := ST0
              clear s1 s2 hi4 hx ST0
              by_cases hlv : a2 ≤ (m : Int) + 1
              · have d1 : decide (a2 ≤ (m : Int) + 1) = true := by simpa using hlv
                gi_wp2
                exact ⟨ST.out.1, rfl, ST.out.2.2 hlv⟩
              · have d1 : decide (a2 ≤ (m : Int) + 1) = false := by simpa using hlv
                gi_wp2
                exact ⟨ST.out.1, ST.out.2.1 (by omega)⟩
            · intro D2 xs X2 V4 hD2 hxs hi4 hDf4
              rw [hxs] at hi4
              have cL := (blk1 hi4.bL).1
              have cl := (blk1 hi4.bl).1
              have cn := (blk1 hi4.bn).1
              obtain ⟨cr, fr⟩ := blk1 hi4.br
              have hsn4 := hi4.sn
              have hlt4 := hi4.lt
              obtain ⟨s1, s2⟩ := store1 hi4.br (.bool true)
              have HE : Hid _ := fun (t : Array Value) ht => pa_end (t := t) s1 ((s2.block _ (by omega)).trans hi4.bD) ((s2.block _ (by omega)).trans hDf4) (by omega) (by omega) (hi4.bel.trans ⟨s2.os, s2.tape, s2.output, Nat.le_of_eq s2.size, fun b hb => s2.block b (by omega)⟩) ht
              generalize vs.length = tl at *
              clear s1 s2 hDf4 hi4
              gi_wp2
              rw [show ((tl : Int) == min (tl : Int) (max 1 a2)) = true from by simp; omega]
              exact HE.out _ rfl
            · rintro D2 c pre V4 hD2 hpp ⟨rfl, hj⟩ hDf4
              have cL := (blk1 hj.bL).1
              have cl := (blk1 hj.bl).1
              have cn := (blk1 hj.bn).1
              obtain ⟨cr, fr⟩ := blk1 hj.br
              have hsn4 := hj.sn
              have hlt4 := hj.lt
              have hge4 := hj.ge
              have hpo4 := hj.po
              have hpf4 := hj.pf.length_le
              obtain ⟨s1, s2⟩ := store1 hj.br (.bool true)
              have HE : Hid _ := fun (t : Array Value) ht => pa_end (t := t) s1 ((s2.block _ (by omega)).trans hj.bD) ((s2.block _ (by omega)).trans hDf4) (by omega) (by omega) (hj.bel.trans ⟨s2.os, s2.tape, s2.output, Nat.le_of_eq s2.size, fun b hb => s2.block b (by omega)⟩) ht
              generalize vs.length = tl at *
              generalize pre.length = m at *
              clear s1 s2 hDf4 hj
              gi_wp2
              rw [show ((m : Int) == min (tl : Int) (max 1 a2)) = true from by simp; omega]
              exact HE.out _ rfl
        · have hpd : decide ((p : Int) < (len0 : Int)) = false := by simp; omega
          have hpd2 : decide (p < len0) = false := by simp; omega
          clear hb2 RC
          obtain ⟨L, hLe⟩ : ∃ L, L = V3.heap.size := ⟨_, rfl⟩
          gi_wp2
          obtain ⟨Va, hVa⟩ : ∃ Va, Va = V3.alloc (.cells #[.int .i64 0] 3 (0, 0)) := ⟨_, rfl⟩
          have ba : Below V3.heap.size V3 Va := by rw [hVa]; exact alloc_below V3 _
          have sa : Va.heap.size = L + 1 := by rw [hVa, hLe]; simp
          have ra : Va.heap[L]? = some (.cells #[.int .i64 0] 3 (0, 0)) := by rw [hVa, hLe]; exact heap_new V3 _
          have hDL : D < L := by rw [hLe]; exact lt_of_heap hDf3
          have il : LI w.heap.size N L D w a2 ((vs.length : Nat) : Int) vs [] (fun _ => False) Va := ⟨below_at ba hi3.bl, below_at ba hi3.br, below_at ba hi3.bn, by simpa using ra, below_at ba hDf3, List.nil_prefix, .inr (by simp), fun b hb => hb.elim, fun b hb => hb.elim, hi3.bel.trans (ba.mono hi3.bel.size), by omega, ⟨hi3.sn, by omega, by omega⟩⟩
          have hbu : Below W5.heap.size W5 Va := (hi3.bu.mono (by omega)).trans (ba.mono (by have := hi3.bu.size; omega))
          have hLW : W5.heap.size ≤ L := by have := hi3.bu.size; omega
          rw [← hVa]
          try rw [← hLe]
          have hLs : L + 1 ≤ Va.heap.size ∧ Va.heap.size ≤ L + 1 := by omega
          clear ba ra sa hLe hVa hi3 hDf3
          refine range_e1 (by omega) (gf := gf) rfl HEN.out (HSQ.out 11 (by omega)) (fun V hV => HPRE.out V (hbu.trans (hV.mono hbu.size))) hbu (fun _ => rfl)
            (LI w.heap.size N L D w a2 ((vs.length : Nat) : Int) vs) (fun c pre V => c = .exit 2 ∧ LJ w.heap.size N L D w a2 ((vs.length : Nat) : Int) vs pre V) (fun s X A C h hb => h.stab (by omega) hb) (fun c s V b o o' h hl _ _ => ⟨h.1, h.2.put (by omega) o'⟩) (fun s X X' A h hs => h.sub hs) (fun s X A h => h.bd) il ?_ ?_ ?_ ?_
          · intro l x V K hK
            exact wpIn_skip hK
          · intro pre x X2 V4 hsz hnD hnD1 hi4 hx
            have hpl : (pre.length : Int) ≤ 4000 := by have := hi4.pf.length_le; omega
            obtain ⟨cL, fL⟩ := blk1 hi4.bL
            have cl := (blk1 hi4.bl).1
            have hsn4 := hi4.sn
            obtain ⟨s1, s2⟩ := store1 hi4.bL (.int .i64 (((pre.length : Nat) : Int) + 1))
            have cL5 := (blk1 s1).1
            have cl5 := (blk1 ((s2.block _ (by omega)).trans hi4.bl)).1
            have ST0 := LI.step hi4 hx s2.os s2.tape s2.output (Nat.le_of_eq s2.size) (fun b hb h => s2.block b h) s1 (M := W5.heap.size) (E := Va.heap.size) hLW (by omega) hsz
            obtain ⟨m, hm⟩ : ∃ m : Nat, pre.length = m := ⟨_, rfl⟩
            have HM : Hid (pre.length = m) := hm
            rw [hm] at cL cL5 hpl
            simp only [hm] at cl5 ST0
            have ST : Hid _ := ST0
            clear s1 s2 hi4 hx ST0
            by_cases hlv : a2 ≤ (m : Int) + 1
            · have d1 : decide (a2 ≤ (m : Int) + 1) = true := by simpa using hlv
              gi_wp2
              exact ⟨ST.out.1, rfl, ST.out.2.2 hlv⟩
            · have d1 : decide (a2 ≤ (m : Int) + 1) = false := by simpa using hlv
              gi_wp2
              exact ⟨ST.out.1, ST.out.2.1 (by omega)⟩
          · intro D2 xs X2 V4 hD2 hxs hi4 hDf4
            rw [hxs] at hi4
            have cL := (blk1 hi4.bL).1
            have cl := (blk1 hi4.bl).1
            have cn := (blk1 hi4.bn).1
            obtain ⟨cr, fr⟩ := blk1 hi4.br
            have hsn4 := hi4.sn
            have hlt4 := hi4.lt
            obtain ⟨s1, s2⟩ := store1 hi4.br (.bool true)
            have HE : Hid _ := fun (t : Array Value) ht => pa_end (t := t) s1 ((s2.block _ (by omega)).trans hi4.bD) ((s2.block _ (by omega)).trans hDf4) (by omega) (by omega) (hi4.bel.trans ⟨s2.os, s2.tape, s2.output, Nat.le_of_eq s2.size, fun b hb => s2.block b (by omega)⟩) ht
            generalize vs.length = tl at *
            clear s1 s2 hDf4 hi4
            gi_wp2
            rw [show ((tl : Int) == min (tl : Int) (max 1 a2)) = true from by simp; omega]
            exact HE.out _ rfl
          · rintro D2 c pre V4 hD2 hpp ⟨rfl, hj⟩ hDf4
            have cL := (blk1 hj.bL).1
            have cl := (blk1 hj.bl).1
            have cn := (blk1 hj.bn).1
            obtain ⟨cr, fr⟩ := blk1 hj.br
            have hsn4 := hj.sn
            have hlt4 := hj.lt
            have hge4 := hj.ge
            have hpo4 := hj.po
            have hpf4 := hj.pf.length_le
            obtain ⟨s1, s2⟩ := store1 hj.br (.bool true)
            have HE : Hid _ := fun (t : Array Value) ht => pa_end (t := t) s1 ((s2.block _ (by omega)).trans hj.bD) ((s2.block _ (by omega)).trans hDf4) (by omega) (by omega) (hj.bel.trans ⟨s2.os, s2.tape, s2.output, Nat.le_of_eq s2.size, fun b hb => s2.block b (by omega)⟩) ht
            generalize vs.length = tl at *
            generalize pre.length = m at *
            clear s1 s2 hDf4 hj
            gi_wp2
            rw [show ((m : Int) == min (tl : Int) (max 1 a2)) = true from by simp; omega]
            exact HE.out _ rfl
  case stop =>
    rintro D c pre V hD _ hI _
    exact hI.elim

set_option maxRecDepth 100000 in
theorem lifted (os : Os) (started : os.Started) (H : Type) (enc : TypeId × Value → H) :
    ReturnsInHanded {} Try.checked os 6 .any (Rows.plainAllSpec.pre6 enc Try.prog Try.f6 Rows.plainAllRow.domain false) (Rows.plainAllSpec.post enc Try.prog Try.f6 false true false false) := by
  refine returnsInHanded_of_change_sized (C := Try.checked) own started (by kernel_rfl) Try.func6
    (ChangeSpec.witness6 (enc := enc) (C := Try.checked) false ⟨#[], #[.slice none 0 0, .agg #[.int .i64 0, .int .i64 0], .int .i64 0], []⟩ 8 (by kernel_rfl) (by kernel_rfl) (by kernel_rfl) (by kernel_rfl)) ?_
  intro W base args ds gs before hval0 hW hcnd hsz0 _
  have hsz : (DataW.weightsEach Try.prog (Try.f6.params.toList ++ Rows.plainAllSpec.plain.varTypes Try.prog) (ds ++ gs)).all (· ≤ reachBytes) = true := hsz0
  clear hsz0
  have hval : ∀ (j : Nat) t v, Try.f6.params[j]? = some t → args[j]? = some v → Value.okWide Try.prog W .any base t v := hval0
  have hW' := hW
  obtain ⟨p, q, hA0, hV, rfl, hfz, hnd⟩ := hW
  have hA : DataW.TrodAll enc Try.prog W 0 (fun _ => true) true Try.f6.params.toList args.toList ds p := hA0
  rw [Try.params6] at hA hval hsz
  obtain ⟨v0, vs0, d0, ds0, p0, q0, hargs, rfl, rfl, h0, r0⟩ := trodAll_cons hA
  obtain ⟨v1, vs1, d1, ds1, p1, q1, rfl, rfl, rfl, h1, r1⟩ := trodAll_cons r0
  obtain ⟨v2, vs2, d2, ds2, p2, q2, rfl, rfl, rfl, h2, r2⟩ := trodAll_cons r1
  obtain ⟨rfl, rfl, rfl⟩ := trodAll_nil r2
  obtain rfl : args = #[v0, v1, v2] := by cases args; simp_all
  obtain ⟨rfl, rfl⟩ := trodVars_none hV
  have e0 := h0
  have lt0 : ∀ x ∈ p0, x.block < W.heap.size := by obtain ⟨m, hm⟩ := e0; exact DataW.trod_lt m _ _ _ hm
  obtain ⟨a0, len0, cap0, l0, rfl, w0⟩ := arg_bytes (hval 0 27 v0 rfl rfl) h0
  have e1 := h1
  have lt1 : ∀ x ∈ p1, x.block < W.heap.size := by obtain ⟨m, hm⟩ := e1; exact DataW.trod_lt m _ _ _ hm
  obtain ⟨k1, n1, rfl, g1, w1⟩ := arg_type (hval 1 24 v1 rfl rfl) h1
  have e2 := h2
  have lt2 : ∀ x ∈ p2, x.block < W.heap.size := by obtain ⟨m, hm⟩ := e2; exact DataW.trod_lt m _ _ _ hm
  obtain ⟨a2, rfl, _, _, w2⟩ := open_int Try.underlying3 (hval 2 3 v2 rfl rfl) h2
  clear hA0 hval0
  refine (walk a0 len0 cap0 l0 k1 n1 a2 W w0 g1 w1 w2).mono fun e W' ⟨he, bel⟩ => ?_
  subst he
  exact ⟨_, rfl, _, _, _, [], _, [], hW', trodAll_mk1 (shut_bool Try.underlying4 _), (trodAll_cons_mk (Below.trod laidOut (by kernel_rfl) (of_decide_eq_true (by kernel_rfl)) e0 bel lt0) (trodAll_cons_mk (Below.trod laidOut (by kernel_rfl) (of_decide_eq_true (by kernel_rfl)) e1 bel lt1) (trodAll_cons_mk (Below.trod laidOut (by kernel_rfl) (of_decide_eq_true (by kernel_rfl)) e2 bel lt2) trodAll_mk0))), rfl, bel.frame _, fun h => by cases h⟩

theorem over : Rows.plainAllRow.holds Try.pinned (OpenSpec.ofChange Rows.plainAllSpec) :=
  OpenClaim.holds_of_wide 6 Try.f6 rfl rfl rfl rfl rfl rfl rfl ⟨rfl, rfl, rfl, rfl, rfl⟩ rfl rfl rfl rfl rfl (by kernel_rfl) Try.func6 (by kernel_rfl)
    (of_decide_eq_true (by kernel_rfl)) (by unfold Func.isWrapper; first | (rw [if_pos (by decide +kernel)]; kernel_rfl) | (rw [if_neg (by decide +kernel)]; exact ⟨rfl, rfl⟩))
    (fun os started H enc _ => lifted os started H enc)

theorem proved : Rows.PlainAllSaid := over
#print axioms proved
end Go.Proofs.Ytdglobonbhkheaa.plainAll
namespace Go.Proofs.Ytdglobonbhkheaa
theorem plainAll_holds : Rows.PlainAllSaid := plainAll.proved
end Go.Proofs.Ytdglobonbhkheaa
