/-
  The reader's numbers of fields, and their ways.
-/
import Derived.Test.YtikoddlidhefpaaRdF
namespace Go.Proofs.Ytikoddlidhefpaa
set_option linter.unusedVariables false
set_option linter.unusedSimpArgs false
open Go.ChangeShapes Go.WideShapes Go.ChangeAt Go.RowKit Go.Deep

def rFar (least : Nat) (bs : List Nat) : Except Bool (Nat × List Nat) :=
  if 32767 < least then .error false else match bs with
    | [] => .error true
    | c :: l => if c % 2 = 1 then .error false else match rNum (2 * least) 65534 (c :: l) with
      | .error s => .error s
      | .ok (n, r) => .ok (n / 2, r)
set_option maxRecDepth 10000 in
set_option maxHeartbeats 1000000 in
theorem farID_any (w0 w : World) (R m : Nat) (bs : List Nat) (room : Int) (least : Nat) (hl : least ≤ 100000) (h : Rd w0 w R m bs room) : Takes 104 #[.pointer (some ⟨R, 0, none⟩), .int .i64 least] w0 w R m room (rFar least bs) (fun n : Nat => .int .i64 n) := by
  refine takes_of fun Q QOK QNO => ?_
  have hl' : (least : Int) ≤ 100000 := by omega
  by_cases h1 : 32767 < least
  · have HE : Hid (rFar least bs = .error false) := by show _ = _; simp [rFar, h1]
    have h1' : (32767 : Int) < (least : Int) := by omega
    go_enter Try.func104, Try.ntmps104
    go_wp2_with fail
    exact ⟨rfl, QNO false _ HE.out (RF.refl _ _)⟩
  have h1' : (least : Int) ≤ 32767 := by omega
  cases bs with
  | nil =>
    have HE : Hid (rFar least [] = .error true) := by show _ = _; simp [rFar, h1]
    have K := peek_nil w0 w R m room h
    go_enter Try.func104, Try.ntmps104
    go_wp2_with fail
    refine K.mono ?_
    rintro e wx ⟨rfl, hwx⟩
    obtain rfl := hwx.symm
    unfold gives
    go_wp2_with fail
    exact ⟨rfl, QNO true _ HE.out (RF.refl _ _)⟩
  | cons c l =>
    have K := peek_cons w0 w R m c l room h
    have hc := h.b8 c (by simp)
    have hc' : (c : Int) < 256 := by omega
    by_cases h2 : c % 2 = 1
    · have HE : Hid (rFar least (c :: l) = .error false) := by show _ = _; simp [rFar, h1, h2]
      have h2' : (c : Int) % 2 = 1 := by omega
      clear h2
      go_enter Try.func104, Try.ntmps104
      go_wp2_with fail
      refine K.mono ?_
      rintro e wx ⟨rfl, hwx⟩
      obtain rfl := hwx.symm
      go_wp2_with fail
      exact ⟨rfl, QNO false _ HE.out (RF.refl _ _)⟩
    · have h2' : (c : Int) % 2 = 0 := by omega
      obtain ⟨L2, hL2⟩ : ∃ L : Nat, L = 2 * least := ⟨_, rfl⟩
      have T := takeNumber_any w0 w R m (c :: l) room L2 65534 (by omega) (by omega) h
      have hL2' : (2 : Int) * (least : Int) = (L2 : Int) := by omega
      cases hn : rNum (2 * least) 65534 (c :: l) with
      | error s =>
        have HE : Hid (rFar least (c :: l) = .error s) := by show _ = _; simp [rFar, h1, h2, hn]
        rw [← hL2] at hn
        have T' := T.no hn
        clear hn hL2 T h2
        go_enter Try.func104, Try.ntmps104
        go_wp2_with fail
        refine K.mono ?_
        rintro e wx ⟨rfl, hwx⟩
        obtain rfl := hwx.symm
        go_wp2_with fail
        refine T'.mono ?_
        rintro e wy ⟨rfl, hf⟩
        have q := QNO s wy HE.out hf
        obtain ⟨ch, hch⟩ : ∃ ch, gives s = .panicked ch := ⟨_, rfl⟩
        rw [hch] at q ⊢
        clear hch
        go_wp2_with fail
        exact ⟨rfl, q⟩
      | ok nr =>
        obtain ⟨n, r⟩ := nr
        have hle := rNum_le hn
        obtain ⟨n2, hn2⟩ : ∃ x : Nat, x = n / 2 := ⟨_, rfl⟩
        have HE : Hid (rFar least (c :: l) = .ok (n2, r)) := by show _ = _; simp [rFar, h1, h2, hn, hn2]
        have hn2' : (n : Int) / 2 = (n2 : Int) := by omega
        have hle' : (n2 : Int) ≤ 32767 := by omega
        rw [← hL2] at hn
        have T' := T.ok hn
        clear hn hL2 T h2 hn2
        go_enter Try.func104, Try.ntmps104
        go_wp2_with fail
        refine K.mono ?_
        rintro e wx ⟨rfl, hwx⟩
        obtain rfl := hwx.symm
        go_wp2_with fail
        refine T'.mono ?_
        rintro e wy ⟨rfl, hrd, hf⟩
        go_wp2_with fail
        exact QOK n2 r _ HE.out hf hrd

def rID (ahead step : Nat) (bs : List Nat) : Except Bool (Nat × List Nat) :=
  if step = 0 then rFar (ahead + 16) bs else if 32767 < ahead + step then .error false else .ok (ahead + step, bs)
set_option maxRecDepth 10000 in
set_option maxHeartbeats 1000000 in
theorem fieldID_any (w0 w : World) (R m : Nat) (bs : List Nat) (room : Int) (ahead step : Nat) (ha : ahead ≤ 32767) (hs : step ≤ 15) (h : Rd w0 w R m bs room) : Takes 100 #[.pointer (some ⟨R, 0, none⟩), .int .i64 ahead, .int .i64 step] w0 w R m room (rID ahead step bs) (fun n : Nat => .int .i64 n) := by
  refine takes_of fun Q QOK QNO => ?_
  have ha' : (ahead : Int) ≤ 32767 := by omega
  have hs' : (step : Int) ≤ 15 := by omega
  by_cases h0 : step = 0
  · subst h0
    obtain ⟨L, hL⟩ : ∃ L : Nat, L = ahead + 16 := ⟨_, rfl⟩
    have hL' : (ahead : Int) + 15 + 1 = (L : Int) := by omega
    have F := farID_any w0 w R m bs room L (by omega) h
    cases hn : rFar L bs with
    | error s =>
      have HE : Hid (rID ahead 0 bs = .error s) := by show _ = _; simp [rID, ← hL, hn]
      have F' := F.no hn
      clear F hn hL
      go_enter Try.func100, Try.ntmps100
      go_wp2_with fail
      refine F'.mono ?_
      rintro e wy ⟨rfl, hf⟩
      have q := QNO s wy HE.out hf
      obtain ⟨ch, hch⟩ : ∃ ch, gives s = .panicked ch := ⟨_, rfl⟩
      rw [hch] at q ⊢
      clear hch
      go_wp2_with fail
      exact ⟨rfl, q⟩
    | ok nr =>
      obtain ⟨n, r⟩ := nr
      have HE : Hid (rID ahead 0 bs = .ok (n, r)) := by show _ = _; simp [rID, ← hL, hn]
      have F' := F.ok hn
      clear F hn hL
      go_enter Try.func100, Try.ntmps100
      go_wp2_with fail
      refine F'.mono ?_
      rintro e wy ⟨rfl, hrd, hf⟩
      go_wp2_with fail
      exact QOK n r _ HE.out hf hrd
  · have h0' : ¬ (step : Int) = 0 := by omega
    obtain ⟨N, hN⟩ : ∃ N : Nat, N = ahead + step := ⟨_, rfl⟩
    have hN' : (ahead : Int) + (step : Int) = (N : Int) := by omega
    by_cases h1 : 32767 < N
    · have HE : Hid (rID ahead step bs = .error false) := by show _ = _; simp [rID, h0, ← hN, h1]
      have h1' : (32767 : Int) < (N : Int) := by omega
      clear hN
      go_enter Try.func100, Try.ntmps100
      go_wp2_with fail
      exact ⟨rfl, QNO false _ HE.out (RF.refl _ _)⟩
    · have HE : Hid (rID ahead step bs = .ok (N, bs)) := by show _ = _; simp [rID, h0, ← hN, h1]
      have h1' : (N : Int) ≤ 32767 := by omega
      clear hN
      go_enter Try.func100, Try.ntmps100
      go_wp2_with fail
      exact QOK N bs _ HE.out (RF.refl _ _) h
end Go.Proofs.Ytikoddlidhefpaa
