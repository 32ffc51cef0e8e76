/-
  The reader: a part; a whole block.
-/
import Derived.Test.YtkkignjenjdjiaaRdC
namespace Go.Proofs.Ytkkignjenjdjiaa
set_option linter.unusedVariables false
set_option linter.unusedSimpArgs false
open Go.ChangeShapes Go.WideShapes Go.ChangeAt Go.RowKit

theorem low_bound {k : Nat} {l r : List Nat} {n : Nat} (h : sLow k l = .ok (n, r)) (h8 : ∀ c ∈ l, c < 256) (hk : k ≤ 4) : n ≤ 4294967295 := by
  obtain ⟨_, rfl, _⟩ := sLow_ok h
  have hl := little_lt (l.take k) fun c hc => h8 c (List.mem_of_mem_take hc)
  have hl2 : (l.take k).length ≤ 4 := by rw [List.length_take]; omega
  have hp : (256 : Nat) ^ (l.take k).length ≤ 256 ^ 4 := Nat.pow_le_pow_right (by omega) hl2
  omega
theorem low1_bound {l r : List Nat} {n : Nat} (h : sLow 1 l = .ok (n, r)) (h8 : ∀ c ∈ l, c < 256) : n ≤ 255 := by
  obtain ⟨_, rfl, h1⟩ := sLow_ok h
  have hl := little_lt (l.take 1) fun c hc => h8 c (List.mem_of_mem_take hc)
  have hl2 : (l.take 1).length = 1 := by rw [List.length_take]; omega
  rw [hl2] at hl
  omega

set_option maxRecDepth 100000 in
set_option maxHeartbeats 1000000 in
theorem part_any (w0 w : World) (R : Nat) (bs made : List Nat) (size : Nat) (hm : made.length ≤ size) (hz : size ≤ 1048576) (h : Sd w0 w R bs made size) :
    Calls Try.prog 31 #[.pointer (some ⟨R, 0, none⟩)] w fun e w' => Below R w w' ∧ match sPart size made bs with
      | .ok (m, r) => e = .returned (.tuple #[]) ∧ Sd w0 w' R r m size
      | .error c => e = gives c := by
  refine calls_of fun Q HQ => ?_
  obtain ⟨res, HR⟩ : ∃ r, Hid (sPart size made bs = r) := ⟨_, rfl⟩
  have QOK : ∀ m r w', res = .ok (m, r) → Below R w w' → Sd w0 w' R r m size → Q (.returned (.tuple #[])) w' := fun x r w' e h1 h2 => HQ _ _ ⟨h1, by rw [HR.out, e]; exact ⟨rfl, h2⟩⟩
  have QNO : ∀ c w', res = .error c → Below R w w' → Q (gives c) w' := fun c w' e h1 => HQ _ _ ⟨h1, by rw [HR.out, e]⟩
  clear HQ
  cases bs with
  | nil =>
    have K := take_none w0 w R made size h
    have HE : Hid (res = .error 6) := by show _ = _; rw [← HR.out]; rfl
    go_enter Try.func31, Try.ntmps31
    go_wp2_with fail
    refine K.mono ?_
    rintro e wx ⟨rfl, hwx⟩
    obtain rfl := hwx.symm
    unfold gives
    go_wp2_with fail
    exact ⟨rfl, QNO 6 _ HE.out (Below.refl _ _)⟩
  | cons b bs =>
    have K := take_one w0 w R b bs made size h
    have h8 : ∀ c ∈ bs, c < 256 := fun c hc => h.b8 c (List.mem_cons_of_mem _ hc)
    have hb := h.b8 b (by simp)
    have hb' : (b : Int) < 256 := by omega
    have HX := HR.out
    simp only [sPart] at HX
    obtain ⟨q, hq⟩ : ∃ q, q = b / 4 := ⟨_, rfl⟩
    have hqi : (b : Int) / 4 = (q : Int) := by omega
    have hq63 : q ≤ 63 := by omega
    have hq63' : (q : Int) ≤ 63 := by omega
    rw [← hq] at HX
    have H8 : Hid (∀ c ∈ bs, c < 256) := h8
    clear h8
    by_cases r0 : b % 4 = 0
    · rw [if_pos r0] at HX
      have r0' : (b : Int) % 4 = 0 := by omega
      have B := fun w1 h1 => bytes_any w0 w1 R bs made size q hq63 hm hz h1
      simp only [HX] at B
      clear HX HR r0 hq h
      go_enter Try.func31, Try.ntmps31
      go_wp2_with fail
      refine K.mono ?_
      rintro e wx ⟨g, off, cp, rfl, hcell, hrd, hfx⟩
      go_wp2_with fail
      refine (B wx hrd).mono ?_
      rintro e wy ⟨hby, hy⟩
      cases res with
      | error c =>
        obtain rfl : e = gives c := hy
        have q2 := QNO c wy rfl (hfx.trans hby)
        unfold gives at q2 ⊢
        go_wp2_with fail
        exact ⟨rfl, q2⟩
      | ok mr =>
        obtain ⟨m, r⟩ := mr
        obtain ⟨rfl, hd⟩ := hy
        go_wp2_with fail
        go_end0
        exact QOK m r wy rfl (hfx.trans hby) hd
    rw [if_neg r0] at HX
    by_cases r1 : b % 4 = 1
    · rw [if_pos r1] at HX
      have r1' : (b : Int) % 4 = 1 := by omega
      clear r0
      obtain ⟨q8, hq8⟩ : ∃ q8, q8 = q % 8 := ⟨_, rfl⟩
      obtain ⟨nn, hnn⟩ : ∃ nn, nn = q8 + 4 := ⟨_, rfl⟩
      obtain ⟨qd, hqd⟩ : ∃ qd, qd = q / 8 := ⟨_, rfl⟩
      obtain ⟨qm, hqm⟩ : ∃ qm, qm = qd * 256 := ⟨_, rfl⟩
      rw [← hq8, ← hqd, ← hqm, ← hnn] at HX
      have hq8i : (q : Int) % 8 = (q8 : Int) := by omega
      have hqdi : (q : Int) / 8 = (qd : Int) := by omega
      have hqdl : (qd : Int) ≤ 7 := by omega
      have hqmi : (qd : Int) * 256 = (qm : Int) := by omega
      have hnni : (q8 : Int) + 4 = (nn : Int) := by omega
      have hq8l : (q8 : Int) ≤ 7 := by omega
      clear hq8 hqd hqm
      have LW := fun w1 h1 => low_any w0 w1 R bs made size 1 (by omega) (by omega) h1
      cases hl : sLow 1 bs with
      | error c =>
        have HE : Hid (res = .error c) := by show _ = _; rw [← HX]; unfold sFrom; rw [hl]
        simp only [hl] at LW
        clear HX HR hq h hl hnn
        go_enter Try.func31, Try.ntmps31
        go_wp2_with fail
        refine K.mono ?_
        rintro e wx ⟨g, off, cp, rfl, hcell, hrd, hfx⟩
        go_wp2_with fail
        refine (LW wx hrd).mono ?_
        rintro e wy ⟨hby, rfl⟩
        have q2 := QNO c wy HE.out (hfx.trans hby)
        unfold gives at q2 ⊢
        go_wp2_with fail
        exact ⟨rfl, q2⟩
      | ok cr =>
        obtain ⟨c, r⟩ := cr
        have hcb := low1_bound hl H8.out
        simp only [hl] at LW
        obtain ⟨far, hfar⟩ : ∃ far, far = qm + c := ⟨_, rfl⟩
        have CW := fun w1 h1 => copy_any w0 w1 R r made size nn far (by omega) (by omega) hm hz h1
        have HE : Hid (res = match sCopy size made nn far with
          | .error e => .error e
          | .ok m => .ok (m, r)) := by show _ = _; rw [← HX]; unfold sFrom; rw [hl, hfar]; rfl
        have hfi : (qm : Int) + (c : Int) = (far : Int) := by omega
        clear HX HR hq h hl hfar hnn
        go_enter Try.func31, Try.ntmps31
        go_wp2_with fail
        refine K.mono ?_
        rintro e wx ⟨g, off, cp, rfl, hcell, hrd, hfx⟩
        go_wp2_with fail
        refine (LW wx hrd).mono ?_
        rintro e wy ⟨hby, rfl, hrd2⟩
        go_wp2_with fail
        refine (CW wy hrd2).mono ?_
        rintro e wz ⟨hbz, hy⟩
        cases hs : sCopy size made nn far with
        | error c2 =>
          rw [hs] at hy
          obtain rfl : e = gives c2 := hy
          have q2 := QNO c2 wz (by rw [HE.out, hs]) ((hfx.trans hby).trans hbz)
          unfold gives at q2 ⊢
          go_wp2_with fail
          exact ⟨rfl, q2⟩
        | ok m2 =>
          rw [hs] at hy
          obtain ⟨rfl, hd⟩ := hy
          go_wp2_with fail
          go_end0
          exact QOK m2 r wz (by rw [HE.out, hs]) ((hfx.trans hby).trans hbz) hd
    rw [if_neg r1] at HX
    by_cases r2 : b % 4 = 2
    · rw [if_pos r2] at HX
      have r2' : (b : Int) % 4 = 2 := by omega
      clear r0 r1
      obtain ⟨nn, hnn⟩ : ∃ nn, nn = q + 1 := ⟨_, rfl⟩
      rw [← hnn] at HX
      have hnni : (q : Int) + 1 = (nn : Int) := by omega
      have LW := fun w1 h1 => low_any w0 w1 R bs made size 2 (by omega) (by omega) h1
      cases hl : sLow 2 bs with
      | error c =>
        have HE : Hid (res = .error c) := by show _ = _; rw [← HX]; unfold sFrom; rw [hl]
        simp only [hl] at LW
        clear HX HR hq h hl hnn
        go_enter Try.func31, Try.ntmps31
        go_wp2_with fail
        refine K.mono ?_
        rintro e wx ⟨g, off, cp, rfl, hcell, hrd, hfx⟩
        go_wp2_with fail
        refine (LW wx hrd).mono ?_
        rintro e wy ⟨hby, rfl⟩
        have q2 := QNO c wy HE.out (hfx.trans hby)
        unfold gives at q2 ⊢
        go_wp2_with fail
        exact ⟨rfl, q2⟩
      | ok cr =>
        obtain ⟨c, r⟩ := cr
        have hcb := low_bound hl H8.out (by omega)
        simp only [hl] at LW
        obtain ⟨far, hfar⟩ : ∃ far, far = 0 + c := ⟨_, rfl⟩
        have CW := fun w1 h1 => copy_any w0 w1 R r made size nn far (by omega) (by omega) hm hz h1
        have HE : Hid (res = match sCopy size made nn far with
          | .error e => .error e
          | .ok m => .ok (m, r)) := by show _ = _; rw [← HX]; unfold sFrom; rw [hl, hfar]; rfl
        have hfi : far = c := by omega
        subst hfi
        clear HX HR hq h hl hfar hnn
        go_enter Try.func31, Try.ntmps31
        go_wp2_with fail
        refine K.mono ?_
        rintro e wx ⟨g, off, cp, rfl, hcell, hrd, hfx⟩
        go_wp2_with fail
        refine (LW wx hrd).mono ?_
        rintro e wy ⟨hby, rfl, hrd2⟩
        go_wp2_with fail
        refine (CW wy hrd2).mono ?_
        rintro e wz ⟨hbz, hy⟩
        cases hs : sCopy size made nn far with
        | error c2 =>
          rw [hs] at hy
          obtain rfl : e = gives c2 := hy
          have q2 := QNO c2 wz (by rw [HE.out, hs]) ((hfx.trans hby).trans hbz)
          unfold gives at q2 ⊢
          go_wp2_with fail
          exact ⟨rfl, q2⟩
        | ok m2 =>
          rw [hs] at hy
          obtain ⟨rfl, hd⟩ := hy
          go_wp2_with fail
          go_end0
          exact QOK m2 r wz (by rw [HE.out, hs]) ((hfx.trans hby).trans hbz) hd
    · rw [if_neg r2] at HX
      have r3' : (b : Int) % 4 = 3 := by omega
      clear r0 r1 r2
      obtain ⟨nn, hnn⟩ : ∃ nn, nn = q + 1 := ⟨_, rfl⟩
      rw [← hnn] at HX
      have hnni : (q : Int) + 1 = (nn : Int) := by omega
      have LW := fun w1 h1 => low_any w0 w1 R bs made size 4 (by omega) (by omega) h1
      cases hl : sLow 4 bs with
      | error c =>
        have HE : Hid (res = .error c) := by show _ = _; rw [← HX]; unfold sFrom; rw [hl]
        simp only [hl] at LW
        clear HX HR hq h hl hnn
        go_enter Try.func31, Try.ntmps31
        go_wp2_with fail
        refine K.mono ?_
        rintro e wx ⟨g, off, cp, rfl, hcell, hrd, hfx⟩
        go_wp2_with fail
        refine (LW wx hrd).mono ?_
        rintro e wy ⟨hby, rfl⟩
        have q2 := QNO c wy HE.out (hfx.trans hby)
        unfold gives at q2 ⊢
        go_wp2_with fail
        exact ⟨rfl, q2⟩
      | ok cr =>
        obtain ⟨c, r⟩ := cr
        have hcb := low_bound hl H8.out (by omega)
        simp only [hl] at LW
        obtain ⟨far, hfar⟩ : ∃ far, far = 0 + c := ⟨_, rfl⟩
        have CW := fun w1 h1 => copy_any w0 w1 R r made size nn far (by omega) (by omega) hm hz h1
        have HE : Hid (res = match sCopy size made nn far with
          | .error e => .error e
          | .ok m => .ok (m, r)) := by show _ = _; rw [← HX]; unfold sFrom; rw [hl, hfar]; rfl
        have hfi : far = c := by omega
        subst hfi
        clear HX HR hq h hl hfar hnn
        go_enter Try.func31, Try.ntmps31
        go_wp2_with fail
        refine K.mono ?_
        rintro e wx ⟨g, off, cp, rfl, hcell, hrd, hfx⟩
        go_wp2_with fail
        refine (LW wx hrd).mono ?_
        rintro e wy ⟨hby, rfl, hrd2⟩
        go_wp2_with fail
        refine (CW wy hrd2).mono ?_
        rintro e wz ⟨hbz, hy⟩
        cases hs : sCopy size made nn far with
        | error c2 =>
          rw [hs] at hy
          obtain rfl : e = gives c2 := hy
          have q2 := QNO c2 wz (by rw [HE.out, hs]) ((hfx.trans hby).trans hbz)
          unfold gives at q2 ⊢
          go_wp2_with fail
          exact ⟨rfl, q2⟩
        | ok m2 =>
          rw [hs] at hy
          obtain ⟨rfl, hd⟩ := hy
          go_wp2_with fail
          go_end0
          exact QOK m2 r wz (by rw [HE.out, hs]) ((hfx.trans hby).trans hbz) hd
end Go.Proofs.Ytkkignjenjdjiaa
