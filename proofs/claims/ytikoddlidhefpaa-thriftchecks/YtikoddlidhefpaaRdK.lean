/-
  Rounds of values: takeRounds.
-/
import Derived.Test.YtikoddlidhefpaaRdJ
namespace Go.Proofs.Ytikoddlidhefpaa
set_option linter.unusedVariables false
open Go.ChangeShapes Go.WideShapes Go.ChangeAt Go.RowKit Go.Deep

/-- a function value that takes a value as q says, in any later world -/
def WayOf (w0 w : World) (R m : Nat) (room : Int) (v : Value) (q : List Nat → RV) : Prop :=
  ∃ f fa fb, v = .func (.func f) fa fb ∧ (∀ args W, (callFunc f args).run Try.prog W = .ok (.enter f args) W) ∧ ∀ W bs, RF R w W → Rd w0 W R m bs room → TakesV f (fa ++ fb) w0 W R m room (q bs)

theorem any_at {w : World} {ad : Option Addr} {len cap : Nat} {l : List Value} (h : Src w ad len cap l) {j : Nat} {u : Value} (hj : l[j]? = some u) :
    ∃ g off, ad = some ⟨g, off, none⟩ ∧ w.cell? ⟨g, off + j, none⟩ = some u := by
  have hlt : j < l.length := by
    rcases Nat.lt_or_ge j l.length with hh | hh
    · exact hh
    · rw [List.getElem?_eq_none hh] at hj; cases hj
  have hl := h.1
  rcases h.2 with ⟨_, h1, _⟩ | ⟨p, h1, h2⟩
  · omega
  · obtain ⟨g, off, spot⟩ := p
    have hc := h2 j _ hj
    have hc0 := h2 0 _ (List.getElem?_eq_getElem (by omega))
    have hspot : spot = none := by simpa [Addr.add] using World.cell?_spot hc0
    subst hspot
    refine ⟨g, off, h1, ?_⟩
    rw [← hc]
    by_cases hj0 : j = 0
    · subst hj0; simp [Addr.add]
    · simp [Addr.add, hj0]

/-- what is left of a round, and of the rounds behind it -/
def rRest (qs : List (List Nat → RV)) (k : Nat) (l : List (List Nat → RV)) (f : Fo) (bs : List Nat) : Except Bool (Fo × List Nat) := match rEach l f bs with
  | .error s => .error s
  | .ok (g, r) => rRounds qs k g r
theorem rRounds_rest (qs : List (List Nat → RV)) (k : Nat) (f : Fo) (bs : List Nat) : rRounds qs (k + 1) f bs = rRest qs k qs f bs := rfl
theorem rRest_nil (qs : List (List Nat → RV)) (k : Nat) (f : Fo) (bs : List Nat) : rRest qs k [] f bs = rRounds qs k f bs := rfl
theorem rRest_err {qs l : List (List Nat → RV)} {q : List Nat → RV} {k : Nat} {f : Fo} {bs : List Nat} {s : Bool} (h : q bs = .error s) : rRest qs k (q :: l) f bs = .error s := by
  unfold rRest
  simp only [rEach, h]
theorem rRest_ok {qs l : List (List Nat → RV)} {q : List Nat → RV} {k : Nat} {f : Fo} {bs r : List Nat} {p : Pay} {c : Fo} (h : q bs = .ok ((p, c), r)) : rRest qs k (q :: l) f bs = rRest qs k l (fsnoc f p c) r := by
  unfold rRest
  simp only [rEach, h]
theorem drop_of {α : Type} {l : List α} {j : Nat} {x : α} (h : l[j]? = some x) : l.drop j = x :: l.drop (j + 1) := by
  obtain ⟨h1, h2⟩ := List.getElem?_eq_some_iff.1 h
  rw [← h2]
  exact List.drop_eq_getElem_cons h1

set_option maxRecDepth 10000 in
set_option maxHeartbeats 2000000 in
theorem rounds_any (w0 w : World) (R m n : Nat) (bs : List Nat) (room : Int) (wa : Option Addr) (L wc : Nat) (gs : List Value) (qs : List (List Nat → RV)) (hn : n ≤ 65536) (hL : L ≤ 2) (hg : gs.length = L) (hq : qs.length = L) (h : Rd w0 w R m bs room)
    (hs : Src w wa L wc gs) (hsb : ∀ b o, wa = some ⟨b, o, none⟩ → b ≠ R) (hw : ∀ (i : Nat) (g : Value) (q : List Nat → RV), gs[i]? = some g → qs[i]? = some q → WayOf w0 w R m room g q) (Q : Ending → World → Prop)
    (QOK : ∀ f rest w' v, rRounds qs n .nil bs = .ok (f, rest) → RF R w w' → Rd w0 w' R m rest room → RowX w.heap.size w' f v → flen f ≤ 2 * n → Q (.returned v) w')
    (QNO : ∀ s w', rRounds qs n .nil bs = .error s → RF R w w' → Q (gives s) w') : Calls Try.prog 98 #[.int .i64 n, .slice wa L wc] w Q := by
  obtain ⟨i0, hi0, hz0, hz1, hz2⟩ := infoTh'
  have hR := h.lt
  obtain ⟨B, hB⟩ : ∃ B, B = w.heap.size := ⟨_, rfl⟩
  have HB : Hid (B = w.heap.size) := hB
  rw [← hB] at QOK hR
  clear hB
  obtain ⟨all, hall⟩ : ∃ a, a = rRounds qs n .nil bs := ⟨_, rfl⟩
  rw [← hall] at QOK QNO
  have HALL : Hid (rRounds qs n .nil bs = all) := hall.symm
  clear hall
  have HG : Hid (gs.length = L ∧ qs.length = L) := ⟨hg, hq⟩
  have HSS : Hid (Src w wa L wc gs) := hs
  have HSB : Hid (∀ b o, wa = some ⟨b, o, none⟩ → b ≠ R) := hsb
  have HW : Hid (∀ (i : Nat) (g : Value) (q : List Nat → RV), gs[i]? = some g → qs[i]? = some q → WayOf w0 w R m room g q) := hw
  have H0 : Hid (Rd w0 w R m bs room) := h
  clear hg hq hs hsb hw h
  have hn' : (n : Int) ≤ 65536 := by omega
  go_enter Try.func98, Try.ntmps98
  go_wp2
  go_loopw [5, 9] (fun lv iv wr => ∃ (i : Nat) (f : Fo) (r : List Nat), i ≤ n ∧ iv = .int .i64 (i : Int) ∧ flen f ≤ 2 * i ∧ RF R w wr ∧ Hid (RowX B wr f lv ∧ Rd w0 wr R m r room ∧ rRounds qs (n - i) f r = all)) (fun _ iv _ => n - (intOf iv).toNat)
  case atStart => exact ⟨0, .nil, bs, Nat.zero_le _, rfl, Nat.zero_le _, RF.refl _ _, RowX.nil _ _, H0.out, HALL.out⟩
  case round =>
    obtain ⟨i, f, r, hi, rfl, hf, hrf, H⟩ := hrel
    obtain ⟨ad, cc, rfl⟩ := own_sl (H.out.1.choose_spec).1
    by_cases hlt : i < n
    · have hlt' : (i : Int) < (n : Int) := by omega
      have HI : Hid (RowX B wr f (.slice ad (flen f) cc) ∧ Rd w0 wr R m r room ∧ rRest qs (n - (i + 1)) (qs.drop 0) f r = all) := by
        obtain ⟨h1, h2, h3⟩ := H.out
        refine ⟨h1, h2, ?_⟩
        rw [← h3, show n - i = n - (i + 1) + 1 by omega, rRounds_rest]
        rfl
      clear H
      have hf2 : flen f ≤ 2 * i := hf
      go_wp2
      go_loopw [5, 13] (fun lv jv wi => ∃ (j : Nat) (f : Fo) (r : List Nat), j ≤ L ∧ jv = .int .i64 (j : Int) ∧ flen f ≤ 2 * i + j ∧ RF R w wi ∧ Hid (RowX B wi f lv ∧ Rd w0 wi R m r room ∧ rRest qs (n - (i + 1)) (qs.drop j) f r = all)) (fun _ jv _ => L - (intOf jv).toNat)
      case atStart => exact ⟨0, f, r, Nat.zero_le _, rfl, hf2, hrf, HI⟩
      case round =>
        obtain ⟨j, f, r, hj, rfl, hf, hrf, H⟩ := hrel
        obtain ⟨ad, cc, rfl⟩ := own_sl (H.out.1.choose_spec).1
        by_cases hlj : j < L
        · have hlj' : (j : Int) < (L : Int) := by omega
          obtain ⟨gv, hgv⟩ : ∃ g, gs[j]? = some g := ⟨_, List.getElem?_eq_getElem (by have := HG.out.1; omega)⟩
          obtain ⟨q, hqv⟩ : ∃ q, qs[j]? = some q := ⟨_, List.getElem?_eq_getElem (by have := HG.out.2; omega)⟩
          obtain ⟨fn, fa, fb, rfl, eg, G⟩ := HW.out j _ q hgv hqv
          obtain ⟨b, o, rfl, k1⟩ := any_at HSS.out hgv
          have hbR := HSB.out b o rfl
          have k2 : wr.cell? ⟨b, o + j, none⟩ = some (.func (.func fn) fa fb) := by
            rw [← k1]
            have hbl := block_lt_of_cell k1
            simp only [World.cell?, hrf.block b hbl hbR]
          have GG := G wr r hrf H.out.2.1
          have HDR : Hid (qs.drop j = q :: qs.drop (j + 1)) := drop_of hqv
          clear G hgv hqv
          have HD : Hid (qs.drop j = q :: qs.drop (j + 1)) := HDR.out
          clear HDR
          go_wp2_with fail
          refine GG _ ?_ ?_
          · intro p c rest W2 v he hf2 hrd2 hvx
            obtain ⟨iv, lv, rfl, hp, hlc, hi', zs, hy, hel⟩ := hvx
            obtain ⟨ia, ic, rfl⟩ := own_sl hi'.1
            obtain ⟨la, lc, rfl⟩ := own_sl hy.1
            have hrf2 : RF R w W2 := hrf.trans hf2
            have hBW : B ≤ W2.heap.size := by have := hrf2.size; have := HB.out; omega
            have hrow1 := H.out.1
            have HOWN := hrow1.own
            obtain ⟨ys, y1, y2⟩ := hrow1.rf (by omega) hf2
            have HADD : Hid _ := RowX.add (w2 := W2.alloc (.cells #[.int .i64 p.kind, .int .i64 p.key, .int .i64 p.elem, .int .i64 p.num, .string p.text, .slice ia p.ids.length ic, .slice la (flen c) lc] 26)) y1 y2 (N := wr.heap.size) (fun g hg => (HOWN g hg).2) (by have := hrf.size; have := HB.out; omega) ⟨_, _, rfl, hp, hlc, hi', zs, hy, hel⟩ (alloc_below _ _) hBW
            have HY : Hid (W2.ownsRow B 26 7 (.slice ad (flen f) cc) (flen f) ys) := y1
            have HM : Hid (flen f + 1 ≤ maxLen ∧ (flen f + 1) * i0.bytes ≤ 140737488355328) := by
              have h131 : flen f + 1 ≤ 140000 := by omega
              exact ⟨by unfold maxLen; omega, Nat.le_trans (Nat.mul_le_mul h131 hz2) (by omega)⟩
            have HR2 : Hid (Rd w0 W2 R m rest room) := hrd2
            have HRest : Hid (rRest qs (n - (i + 1)) (qs.drop (j + 1)) (fsnoc f p c) rest = all) := by
              show _ = _
              rw [← H.out.2.2, HD.out, rRest_ok he]
            have HFL : Hid (flen (fsnoc f p c) ≤ 2 * i + (j + 1)) := by show _ ≤ _; rw [flen_snoc]; omega
            have HBB : Hid (B ≤ (W2.alloc (.cells #[.int .i64 p.kind, .int .i64 p.key, .int .i64 p.elem, .int .i64 p.num, .string p.text, .slice ia p.ids.length ic, .slice la (flen c) lc] 26)).heap.size) := by show _ ≤ _; simp; omega
            clear hi' hy hel hp hlc y1 y2 H hrow1 HOWN hrd2 GG
            go_wp2_with (at_builtin; refine wpList_append_fresh rfl (.tmp 17) (.tmp 20) 24 rfl B 26 i0 _ 7 i0.bytes Try.underlying24 hi0 hz0 hz1 rfl rfl (by decide) _ (flen f) ys rfl (HY.out.alloc _) ⟨W2.heap.size, 0, none⟩ 1 1 [.int .i64 p.kind, .int .i64 p.key, .int .i64 p.elem, .int .i64 p.num, .string p.text, .slice ia p.ids.length ic, .slice la (flen c) lc] rfl rfl (fun j u hj => by rw [add0]; exact alloc_cell W2 _ 26 (0, 0) (by simpa using hj)) (by intro u hu; simp at hu; rcases hu with rfl | rfl | rfl | rfl | rfl | rfl | rfl <;> rfl) HM.out.1 HM.out.2 HBB.out ?_; intro v3 W3 q1 q2 q3; have HS3 : Hid _ := HADD.out v3 W3 q1 q2 q3; clear q1 q2 q3; obtain ⟨ad3, cc3, rfl⟩ := own_sl (HS3.out.1.choose_spec).1)
            go_roundw
            case rel => exact ⟨j + 1, fsnoc f p c, rest, by omega, by go_num, HFL.out, ⟨HS3.out.2.os.trans hrf2.os, HS3.out.2.tape.trans hrf2.tape, HS3.out.2.output.trans hrf2.output, Nat.le_trans hrf2.size HS3.out.2.size, fun k h1 h2 => by rw [HS3.out.2.block k (by have := HB.out; omega), hrf2.block k h1 h2]⟩, HS3.out.1, HR2.out.below (by omega) HS3.out.2, HRest.out⟩
            case measure => simp [intOf]; omega
          · intro s W2 he hf2
            have q := QNO s W2 (by rw [← H.out.2.2, HD.out, rRest_err he]) (hrf.trans hf2)
            obtain ⟨ch, hch⟩ : ∃ ch, gives s = .panicked ch := ⟨_, rfl⟩
            rw [hch] at q ⊢
            clear hch GG H
            go_wp2_with fail
            exact ⟨rfl, q⟩
        · have hj' : j = L := by omega
          subst hj'
          have hge : ¬ (j : Int) < (j : Int) := by omega
          have HN : Hid (RowX B wr f (.slice ad (flen f) cc) ∧ Rd w0 wr R m r room ∧ rRounds qs (n - (i + 1)) f r = all) := by
            obtain ⟨h1, h2, h3⟩ := H.out
            refine ⟨h1, h2, ?_⟩
            rw [← h3, List.drop_eq_nil_of_le (by have := HG.out.2; omega), rRest_nil]
          clear H
          go_wp2_with fail
          go_roundw
          case rel => exact ⟨i + 1, f, r, by omega, by go_num, by omega, hrf, HN⟩
          case measure => simp [intOf]; omega
    · have hi' : i = n := by omega
      subst hi'
      have hge : ¬ (i : Int) < (i : Int) := by omega
      obtain ⟨h1, h2, h3⟩ := H.out
      rw [Nat.sub_self] at h3
      have q := QOK f r wr _ h3.symm hrf h2 h1 hf
      clear H h1 h2 h3
      go_wp2_with fail
      first | exact q | exact ⟨rfl, q⟩
end Go.Proofs.Ytikoddlidhefpaa
