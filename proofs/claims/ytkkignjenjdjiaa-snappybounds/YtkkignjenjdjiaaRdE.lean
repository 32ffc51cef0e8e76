/-
  The reader: a whole block; why reading was given up; Open, Length.
-/
import Derived.Test.YtkkignjenjdjiaaRdD
import Derived.Defers
import Derived.Recover
namespace Go.Proofs.Ytkkignjenjdjiaa
set_option linter.unusedVariables false
set_option linter.unusedSimpArgs false
open Go.ChangeShapes Go.WideShapes Go.ChangeAt Go.RowKit

/-- all blocks but b are as they were -/
structure Only (b : Nat) (w w' : World) : Prop where
  os : w'.os = w.os
  tape : w'.tape = w.tape
  output : w'.output = w.output
  size : w.heap.size = w'.heap.size
  block : ∀ k, k ≠ b → w'.heap[k]? = w.heap[k]?
theorem Only.set {b : Nat} {w w' : World} (h : Only b w w') (j : Nat) (u : Value) : Only b w (w'.setCell ⟨b, j, none⟩ u) :=
  ⟨h.os, h.tape, h.output, by simp [World.setCell, h.size], fun k hk => by rw [Below.heap_setCell _ _ _ _ hk, h.block k hk]⟩
theorem Only.refl (b : Nat) (w : World) : Only b w w := ⟨rfl, rfl, rfl, rfl, fun _ _ => rfl⟩

theorem sd_size {w0 w : World} {R : Nat} {bs made : List Nat} {size : Nat} (h : Sd w0 w R bs made size) (n : Nat) : Sd w0 (w.setCell ⟨R, 2, none⟩ (.int .i64 (n : Int))) R bs made n := by
  obtain ⟨a0, c0, v, h1, h2, h3, h4⟩ := h.box
  have hset := set_block (j := 2) (u := .int .i64 (n : Int)) h1
  simp only [List.setIfInBounds_toArray, List.set_cons_zero, List.set_cons_succ] at hset
  exact ⟨⟨a0, c0, v, hset, h2, h3, ownsRow_setCell_below h4 (Nat.lt_succ_self _) _⟩, h.b8, h.m8, h.len, h.mlen, h.old.setCell h.le _, h.le⟩

theorem sNumF_le : ∀ (l : List Nat) (n j : Nat) {x : Nat} {r : List Nat}, sNumF n j l = .ok (x, r) → x ≤ 4294967295
  | [], _, _, _, _, h => by cases h
  | c :: l, n, j, x, r, h => by
    simp only [sNumF] at h
    by_cases hc : 4294967295 < n + c % 128 * 2 ^ (7 * j) + (if 128 ≤ c then 128 * 2 ^ (7 * j) else 0) ∨ (c = 0 ∧ 0 < j)
    · rw [if_pos hc] at h
      cases h
    · rw [if_neg hc] at h
      by_cases h2 : c < 128
      · rw [if_pos h2] at h
        cases h
        rw [if_neg (by omega)] at hc
        omega
      · rw [if_neg h2] at h
        exact sNumF_le l _ _ h
theorem sNum_le {l : List Nat} {x : Nat} {r : List Nat} (h : sNum l = .ok (x, r)) : x ≤ 4294967295 := sNumF_le l 0 0 h

theorem reason_nil (w : World) : Calls Try.prog 20 #[.nilIface] w fun e w' => e = .returned (.int .i64 0) ∧ w' = w := by
  go_enter Try.func20, Try.ntmps20
  go_wp2
  go_ret
  exact ⟨rfl, rfl⟩
theorem reason_why (w : World) (c : Int) : Calls Try.prog 20 #[.iface 57 (.agg #[.int .i64 c])] w fun e w' => e = .returned (.int .i64 c) ∧ Below w.heap.size w w' := by
  have ht : ∀ (v : Value) (w : World), (Instr.typeAssert (.iface 57 v) 20 57 true).run Try.prog w = .ok (.tuple #[v, .bool true]) w := by
    intro v w
    simp [Instr.typeAssert, run_underlying Try.underlying57, go_sem, Result.andThen]
  go_enter Try.func20, Try.ntmps20
  go_wp2
  go_ret
  exact ⟨rfl, by first | exact alloc_below _ _ | exact (alloc_below _ _).setCell (p := ⟨w.heap.size, 0, none⟩) (Nat.le_refl _) _⟩

set_option maxRecDepth 100000 in
set_option maxHeartbeats 1000000 in
theorem block_any (w0 w : World) (R : Nat) (bs : List Nat) (most : Nat) (hmost : most ≤ 1048576) (h : Sd w0 w R bs [] 0) :
    Calls Try.prog 21 #[.pointer (some ⟨R, 0, none⟩), .int .i64 most] w fun e w' => Below R w w' ∧ match sBlock most bs with
      | .ok m => ∃ ad cp, e = .returned (.slice ad m.length cp) ∧ w'.ownsRow (R + 1) 5 1 (.slice ad m.length cp) m.length (c8 m)
      | .error c => e = gives c := by
  refine calls_of fun Q HQ => ?_
  obtain ⟨res, HR⟩ : ∃ r, Hid (sBlock most bs = r) := ⟨_, rfl⟩
  have QOK : ∀ m w' ad cp, res = .ok m → Below R w w' → w'.ownsRow (R + 1) 5 1 (.slice ad m.length cp) m.length (c8 m) → Q (.returned (.slice ad m.length cp)) w' := fun x w' ad cp e h1 h2 => HQ _ _ ⟨h1, by rw [HR.out, e]; exact ⟨_, _, rfl, h2⟩⟩
  have QNO : ∀ c w', res = .error c → Below R w w' → Q (gives c) w' := fun c w' e h1 => HQ _ _ ⟨h1, by rw [HR.out, e]⟩
  clear HQ
  have N := number_any w0 w R bs [] 0 h
  cases hn : sNum bs with
  | error c =>
    rw [hn] at N
    have HE : Hid (res = .error c) := by show _ = _; rw [← HR.out]; unfold sBlock; rw [hn]
    clear HR
    go_enter Try.func21, Try.ntmps21
    go_wp2_with fail
    refine N.mono ?_
    rintro e wx ⟨hb, rfl⟩
    have q2 := QNO c wx HE.out hb
    unfold gives at q2 ⊢
    go_wp2_with fail
    exact ⟨rfl, q2⟩
  | ok nr =>
    obtain ⟨n, r⟩ := nr
    rw [hn] at N
    have hnl := sNum_le hn
    have hnl' : (n : Int) ≤ 4294967295 := by omega
    have HX : Hid (res = if most < n then .error 3 else sEnd (sParts n (n + 1) [] r)) := by show _ = _; rw [← HR.out]; unfold sBlock; rw [hn]
    clear HR hn h
    by_cases hmn : most < n
    · have HE : Hid (res = .error 3) := by show _ = _; rw [HX.out, if_pos hmn]
      have hmn' : (most : Int) < (n : Int) := by omega
      clear HX
      go_enter Try.func21, Try.ntmps21
      go_wp2_with fail
      refine N.mono ?_
      rintro e wx ⟨hb, rfl, hd⟩
      obtain ⟨a, cp, v, h1, _⟩ := hd.box
      have c2 : wx.cell? ⟨R, 2, none⟩ = some (.int .i64 ((0 : Nat) : Int)) := cell_of_block h1 rfl
      have f2 : wx.frozen? ⟨R, 2, none⟩ = false := frozen_of_block h1
      go_wp2_with fail
      exact ⟨rfl, QNO 3 _ HE.out (hb.setCell (p := ⟨R, 2, none⟩) (Nat.le_refl _) _)⟩
    · obtain ⟨all, HA⟩ : ∃ all, Hid (sParts n (n + 1) [] r = all) := ⟨_, rfl⟩
      have HY : Hid (res = sEnd all) := by show _ = _; rw [HX.out, if_neg hmn, HA.out]
      have hmn' : (n : Int) ≤ (most : Int) := by omega
      clear HX
      go_enter Try.func21, Try.ntmps21
      go_wp2_with fail
      refine N.mono ?_
      rintro e wx ⟨hb, rfl, hd⟩
      obtain ⟨a, cp, v, h1, _⟩ := hd.box
      have c2 : wx.cell? ⟨R, 2, none⟩ = some (.int .i64 ((0 : Nat) : Int)) := cell_of_block h1 rfl
      have f2 : wx.frozen? ⟨R, 2, none⟩ = false := frozen_of_block h1
      have HD0 : Hid (Sd w0 (wx.setCell ⟨R, 2, none⟩ (.int .i64 (n : Int))) R r [] n) := sd_size hd n
      have hb0 : Below R w (wx.setCell ⟨R, 2, none⟩ (.int .i64 (n : Int))) := hb.setCell (p := ⟨R, 2, none⟩) (Nat.le_refl _) _
      clear h1 hd
      go_wp2_with fail
      go_loopw [] (fun wr => ∃ f made l, Hid (Sd w0 wr R l made n) ∧ made.length ≤ n ∧ Hid (n < made.length + f ∧ sParts n f made l = all) ∧ Below R w wr) (fun wr => n - madeLen wr R)
      case atStart => exact ⟨n + 1, [], r, HD0, Nat.zero_le _, ⟨by simp, HA.out⟩, hb0⟩
      case round =>
        obtain ⟨f, made, l, HD, hle, HP, hbr⟩ := hrel
        obtain ⟨a', cp', v', i1, i2, i3, i4⟩ := HD.out.box
        obtain ⟨ad, cc, rfl⟩ := own_sl i4
        have d1 : wr.cell? ⟨R, 1, none⟩ = some (.slice ad made.length cc) := cell_of_block i1 rfl
        have d2 : wr.cell? ⟨R, 2, none⟩ = some (.int .i64 (n : Int)) := cell_of_block i1 rfl
        have d0 : wr.cell? ⟨R, 0, none⟩ = some (.slice a' l.length cp') := cell_of_block i1 rfl
        have HM : Hid (madeLen wr R = made.length) := HD.out.madeLen
        have HO : Hid (wr.ownsRow (R + 1) 5 1 (.slice ad made.length cc) made.length (c8 made)) := i4
        have PA := fun w2 h2 => part_any w0 w2 R l made n hle (by omega) h2
        clear i1 i2 i3 i4
        by_cases hlt : made.length < n
        · have hlt' : (made.length : Int) < (n : Int) := by omega
          obtain ⟨f', hf'⟩ : ∃ f', f = f' + 1 := ⟨f - 1, by have := HP.out.1; omega⟩
          have hs := HP.out.2
          rw [hf'] at hs
          simp only [sParts] at hs
          rw [if_neg (by omega)] at hs
          cases hp : sPart n made l with
          | error c =>
            rw [hp] at hs
            have HE : Hid (res = .error c) := by show _ = _; rw [HY.out, ← hs]; rfl
            simp only [hp] at PA
            clear hs hp
            go_wp2_with fail
            go_quiet (fail)
            go_wp2_with fail
            refine (PA _ (HD.out.later (drewN_below _ _ _))).mono ?_
            rintro e wy ⟨hby, rfl⟩
            have q2 := QNO c wy HE.out ((hbr.trans (drewN_below _ _ _)).trans hby)
            unfold gives at q2 ⊢
            go_wp2_with fail
            exact ⟨rfl, q2⟩
          | ok ml =>
            obtain ⟨m2, l2⟩ := ml
            rw [hp] at hs
            have hk := sPart_ok hp
            have HS : Hid (n < m2.length + f' ∧ sParts n f' m2 l2 = all) := ⟨by have := HP.out.1; omega, hs⟩
            simp only [hp] at PA
            clear hs hp
            go_wp2_with fail
            go_quiet (fail)
            go_wp2_with fail
            refine (PA _ (HD.out.later (drewN_below _ _ _))).mono ?_
            rintro e wy ⟨hby, rfl, hd⟩
            have HM2 : Hid (madeLen wy R = m2.length) := hd.madeLen
            go_wp2_with fail
            go_roundw
            case rel => exact ⟨f', m2, l2, hd, by omega, HS, (hbr.trans (drewN_below _ _ _)).trans hby⟩
            case measure => rw [HM.out, HM2.out]; omega
        · have hlt' : (n : Int) ≤ (made.length : Int) := by omega
          obtain ⟨f', hf'⟩ : ∃ f', f = f' + 1 := ⟨f - 1, by have := HP.out.1; omega⟩
          have hs := HP.out.2
          rw [hf'] at hs
          simp only [sParts] at hs
          rw [if_pos (by omega)] at hs
          cases l with
          | nil =>
            have HE : Hid (res = .ok made) := by show _ = _; rw [HY.out, ← hs]; rfl
            clear hs
            go_wp2_with fail
            go_quiet (fail)
            go_wp2_with fail
            exact QOK made _ ad cc HE.out (hbr.trans (drewN_below _ _ _)) HO.out
          | cons x l =>
            have HE : Hid (res = .error 7) := by show _ = _; rw [HY.out, ← hs]; simp only [sEnd]
            clear hs
            obtain ⟨ll, hll⟩ : ∃ ll, ll = (x :: l).length := ⟨_, rfl⟩
            rw [← hll] at d0
            have hll' : (0 : Int) < (ll : Int) := by rw [hll]; simp
            clear hll
            go_wp2_with fail
            go_quiet (fail)
            go_wp2_with fail
            exact ⟨rfl, QNO 7 _ HE.out (hbr.trans (drewN_below _ _ _))⟩

/-- the deferred closures, of a frame that panics, and of one that returns -/
theorem catch_panic (f : FuncId) (hf : f = 19 ∨ f = 23) (b : Nat) (x : Value) (c : Int) (w : World) (hb : w.heap[b]? = some (.cells #[x] 25 (0, 0))) :
    CallsD Try.prog f #[.pointer (some ⟨b, 0, none⟩)] (.panicking [{ v := .iface 57 (.agg #[.int .i64 c]), recovered := false }]) w fun e u' w' =>
      e = .returned (.tuple #[]) ∧ u' = .panicking [{ v := .iface 57 (.agg #[.int .i64 c]), recovered := true }] ∧ Below b w w' ∧ w'.heap[b]? = some (.cells #[.int .i64 c] 25 (0, 0)) := by
  rcases hf with rfl | rfl
  · refine callsD_of_wpS Try.func19 rfl fun c₀ cs hu => ?_
    apply wpS_region
    simp [wpOpsS, go_sem, recoverD, hu, Try.ntmps19, Exit.thenS]
    refine (reason_why w c).mono ?_
    rintro e wx ⟨rfl, hbx⟩
    have hbb := below_at hbx hb
    have c0 : wx.cell? ⟨b, 0, none⟩ = some x := cell_of_block hbb rfl
    have f0 : wx.frozen? ⟨b, 0, none⟩ = false := frozen_of_block hbb
    have hlt := lt_of_heap hb
    simp [go_sem, c0, f0, bodyPostS, results, Try.results19]
    exact ⟨(hbx.mono (Nat.le_of_lt hlt)).setCell (p := ⟨b, 0, none⟩) (Nat.le_refl _) _, one_setCell hbb⟩
  · refine callsD_of_wpS Try.func23 rfl fun c₀ cs hu => ?_
    apply wpS_region
    simp [wpOpsS, go_sem, recoverD, hu, Try.ntmps23, Exit.thenS]
    refine (reason_why w c).mono ?_
    rintro e wx ⟨rfl, hbx⟩
    have hbb := below_at hbx hb
    have c0 : wx.cell? ⟨b, 0, none⟩ = some x := cell_of_block hbb rfl
    have f0 : wx.frozen? ⟨b, 0, none⟩ = false := frozen_of_block hbb
    have hlt := lt_of_heap hb
    simp [go_sem, c0, f0, bodyPostS, results, Try.results23]
    exact ⟨(hbx.mono (Nat.le_of_lt hlt)).setCell (p := ⟨b, 0, none⟩) (Nat.le_refl _) _, one_setCell hbb⟩
theorem catch_idle (f : FuncId) (hf : f = 19 ∨ f = 23) (b : Nat) (x : Value) (w : World) (hb : w.heap[b]? = some (.cells #[x] 25 (0, 0))) :
    CallsD Try.prog f #[.pointer (some ⟨b, 0, none⟩)] .returning w fun e u' w' =>
      e = .returned (.tuple #[]) ∧ u' = .returning ∧ Only b w w' ∧ w'.heap[b]? = some (.cells #[.int .i64 0] 25 (0, 0)) := by
  rcases hf with rfl | rfl
  · refine callsD_of_wpS Try.func19 rfl fun c₀ cs hu => ?_
    apply wpS_region
    simp [wpOpsS, go_sem, recoverD, hu, Try.ntmps19, Exit.thenS]
    refine (reason_nil w).mono ?_
    rintro e wx ⟨rfl, hwx⟩
    subst hwx
    have c0 : wx.cell? ⟨b, 0, none⟩ = some x := cell_of_block hb rfl
    have f0 : wx.frozen? ⟨b, 0, none⟩ = false := frozen_of_block hb
    cases c₀
    simp_all [go_sem, c0, f0, bodyPostS, results, Try.results19]
    exact ⟨(Only.refl _ _).set _ _, one_setCell hb⟩
  · refine callsD_of_wpS Try.func23 rfl fun c₀ cs hu => ?_
    apply wpS_region
    simp [wpOpsS, go_sem, recoverD, hu, Try.ntmps23, Exit.thenS]
    refine (reason_nil w).mono ?_
    rintro e wx ⟨rfl, hwx⟩
    subst hwx
    have c0 : wx.cell? ⟨b, 0, none⟩ = some x := cell_of_block hb rfl
    have f0 : wx.frozen? ⟨b, 0, none⟩ = false := frozen_of_block hb
    cases c₀
    simp_all [go_sem, c0, f0, bodyPostS, results, Try.results23]
    exact ⟨(Only.refl _ _).set _ _, one_setCell hb⟩
end Go.Proofs.Ytkkignjenjdjiaa
