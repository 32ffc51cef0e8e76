/-
  The reader's ways: looked up, or given up.
-/
import Derived.Test.YtikoddlidhefpaaRdE
namespace Go.Proofs.Ytikoddlidhefpaa
set_option linter.unusedVariables false
set_option linter.unusedSimpArgs false
open Go.ChangeShapes Go.WideShapes Go.ChangeAt Go.RowKit Go.Deep

theorem Ways.rf {w w' : World} {R M : Nat} (h : Ways w R M) (hf : RF R w w') : Ways w' R M := h.kept fun b hb hl => hf.block b hl (by omega)

set_option maxRecDepth 10000 in
set_option maxHeartbeats 1000000 in
theorem way_yes (w0 w : World) (R m : Nat) (bs : List Nat) (room : Int) (k : Int) (fn : Fn) (fa fb : Array Value) (h : Rd w0 w R m bs room) (hl : (Instr.lookup 70 (.map (some m)) (.int .i64 k) true).run Try.prog w = .ok (.tuple #[.func fn fa fb, .bool true]) w) (hn : nestsB k = true → ¬ room = 0) :
    Calls Try.prog 39 #[.pointer (some ⟨R, 0, none⟩), .int .i64 k] w fun e w' => e = .returned (.func fn fa fb) ∧ w' = w := by
  obtain ⟨a, cp, h1, _⟩ := h.box
  have c2 : w.cell? ⟨R, 2, none⟩ = some (.map (some m)) := cell_of_block h1 rfl
  have c1 : w.cell? ⟨R, 1, none⟩ = some (.int .i64 room) := cell_of_block h1 rfl
  have N := nests_any k w
  obtain ⟨t, HT⟩ : ∃ t, Hid (nestsB k = t) := ⟨_, rfl⟩
  rw [HT.out] at N hn
  clear h1 h
  cases t
  · go_enter Try.func39, Try.ntmps39
    go_wp2_with fail
    refine N.mono ?_
    rintro e wx ⟨rfl, hwx⟩
    obtain rfl := hwx.symm
    go_wp2_with fail
    go_ret
    exact ⟨rfl, rfl⟩
  · have hr : ¬ room = 0 := hn rfl
    clear hn
    go_enter Try.func39, Try.ntmps39
    go_wp2_with fail
    refine N.mono ?_
    rintro e wx ⟨rfl, hwx⟩
    obtain rfl := hwx.symm
    go_wp2_with fail
    go_ret
    exact ⟨rfl, rfl⟩
set_option maxRecDepth 10000 in
set_option maxHeartbeats 1000000 in
theorem way_deep (w0 w : World) (R m : Nat) (bs : List Nat) (k : Int) (fn : Fn) (fa fb : Array Value) (h : Rd w0 w R m bs 0) (hl : (Instr.lookup 70 (.map (some m)) (.int .i64 k) true).run Try.prog w = .ok (.tuple #[.func fn fa fb, .bool true]) w) (hn : nestsB k = true) :
    Calls Try.prog 39 #[.pointer (some ⟨R, 0, none⟩), .int .i64 k] w fun e w' => e = gives false ∧ w' = w := by
  obtain ⟨a, cp, h1, _⟩ := h.box
  have c2 : w.cell? ⟨R, 2, none⟩ = some (.map (some m)) := cell_of_block h1 rfl
  have c1 : w.cell? ⟨R, 1, none⟩ = some (.int .i64 0) := cell_of_block h1 rfl
  have N := nests_any k w
  rw [hn] at N
  clear h1 h hn
  go_enter Try.func39, Try.ntmps39
  go_wp2_with fail
  refine N.mono ?_
  rintro e wx ⟨rfl, hwx⟩
  obtain rfl := hwx.symm
  go_wp2_with fail
  exact ⟨rfl, rfl, rfl⟩
set_option maxRecDepth 10000 in
set_option maxHeartbeats 1000000 in
theorem way_no (w0 w : World) (R m : Nat) (bs : List Nat) (room : Int) (k : Int) (h : Rd w0 w R m bs room) (hl : (Instr.lookup 70 (.map (some m)) (.int .i64 k) true).run Try.prog w = .ok (.tuple #[.nilFunc, .bool false]) w) :
    Calls Try.prog 39 #[.pointer (some ⟨R, 0, none⟩), .int .i64 k] w fun e w' => e = gives false ∧ w' = w := by
  obtain ⟨a, cp, h1, _⟩ := h.box
  have c2 : w.cell? ⟨R, 2, none⟩ = some (.map (some m)) := cell_of_block h1 rfl
  clear h1 h
  go_enter Try.func39, Try.ntmps39
  go_wp2_with fail
  exact ⟨rfl, rfl, rfl⟩

/-- the way of a Kind -/
def WayIs (w : World) (R : Nat) (k : Int) (v : Value) : Prop :=
  (k = 1 ∧ v = .func (.func 77) #[.pointer (some ⟨R, 0, none⟩)] #[]) ∨ (k = 3 ∧ v = .func (.func 78) #[.pointer (some ⟨R, 0, none⟩)] #[]) ∨ (k = 4 ∧ SBox w R 4 65535 v) ∨ (k = 5 ∧ SBox w R 5 4294967295 v) ∨ (k = 6 ∧ SBox w R 6 18446744073709551615 v) ∨
  (k = 7 ∧ v = .func (.func 80) #[.pointer (some ⟨R, 0, none⟩)] #[]) ∨ (k = 8 ∧ v = .func (.func 81) #[.pointer (some ⟨R, 0, none⟩)] #[]) ∨ (k = 9 ∧ NBox w R 83 v) ∨ (k = 11 ∧ NBox w R 84 v) ∨ (k = 12 ∧ NBox w R 85 v)
theorem SBox.func {w : World} {R : Nat} {k : Int} {most : Nat} {v : Value} (h : SBox w R k most v) : ∃ fn fa fb, v = .func fn fa fb := by
  obtain ⟨b1, b2, b3, h1, _⟩ := h.is
  exact ⟨_, _, _, h1⟩
theorem NBox.func {w : World} {R : Nat} {g : FuncId} {v : Value} (h : NBox w R g v) : ∃ fn fa fb, v = .func fn fa fb := by
  obtain ⟨b1, b2, h1, _⟩ := h.is
  exact ⟨_, _, _, h1⟩
/-- the look-up -/
theorem ways_look {w : World} {R M : Nat} (h : Ways w R M) (k : Int) (hk : knownB k = true) : ∃ fn fa fb, (Instr.lookup 70 (.map (some M)) (.int .i64 k) true).run Try.prog w = .ok (.tuple #[.func fn fa fb, .bool true]) w ∧ WayIs w R k (.func fn fa fb) := by
  obtain ⟨v4, v5, v6, v9, v11, v12, h0, h4, h5, h6, h9, h11, h12⟩ := h.is
  obtain ⟨f4, a4, b4, rfl⟩ := h4.func
  obtain ⟨f5, a5, b5, rfl⟩ := h5.func
  obtain ⟨f6, a6, b6, rfl⟩ := h6.func
  obtain ⟨f9, a9, b9, rfl⟩ := h9.func
  obtain ⟨f11, a11, b11, rfl⟩ := h11.func
  obtain ⟨f12, a12, b12, rfl⟩ := h12.func
  rw [known_true] at hk
  have hkk : k = 1 ∨ k = 3 ∨ k = 4 ∨ k = 5 ∨ k = 6 ∨ k = 7 ∨ k = 8 ∨ k = 9 ∨ k = 11 ∨ k = 12 := by omega
  rcases hkk with rfl | rfl | rfl | rfl | rfl | rfl | rfl | rfl | rfl | rfl
  · exact ⟨_, _, _, run_look h0 1 (i := 0) rfl, .inl ⟨rfl, rfl⟩⟩
  · exact ⟨_, _, _, run_look h0 3 (i := 1) rfl, .inr (.inl ⟨rfl, rfl⟩)⟩
  · exact ⟨_, _, _, run_look h0 4 (i := 2) rfl, .inr (.inr (.inl ⟨rfl, h4⟩))⟩
  · exact ⟨_, _, _, run_look h0 5 (i := 3) rfl, .inr (.inr (.inr (.inl ⟨rfl, h5⟩)))⟩
  · exact ⟨_, _, _, run_look h0 6 (i := 4) rfl, .inr (.inr (.inr (.inr (.inl ⟨rfl, h6⟩))))⟩
  · exact ⟨_, _, _, run_look h0 7 (i := 5) rfl, .inr (.inr (.inr (.inr (.inr (.inl ⟨rfl, rfl⟩)))))⟩
  · exact ⟨_, _, _, run_look h0 8 (i := 6) rfl, .inr (.inr (.inr (.inr (.inr (.inr (.inl ⟨rfl, rfl⟩))))))⟩
  · exact ⟨_, _, _, run_look h0 9 (i := 7) rfl, .inr (.inr (.inr (.inr (.inr (.inr (.inr (.inl ⟨rfl, h9⟩)))))))⟩
  · exact ⟨_, _, _, run_look h0 11 (i := 8) rfl, .inr (.inr (.inr (.inr (.inr (.inr (.inr (.inr (.inl ⟨rfl, h11⟩))))))))⟩
  · exact ⟨_, _, _, run_look h0 12 (i := 9) rfl, .inr (.inr (.inr (.inr (.inr (.inr (.inr (.inr (.inr ⟨rfl, h12⟩))))))))⟩
theorem ways_look_no {w : World} {R M : Nat} (h : Ways w R M) (k : Int) (hk : knownB k = false) : (Instr.lookup 70 (.map (some M)) (.int .i64 k) true).run Try.prog w = .ok (.tuple #[.nilFunc, .bool false]) w := by
  obtain ⟨v4, v5, v6, v9, v11, v12, h0, _⟩ := h.is
  refine run_look_no h0 k ?_
  have hn : ¬ (k = 1 ∨ (3 ≤ k ∧ k ≤ 9) ∨ k = 11 ∨ k = 12) := by rw [← known_true, hk]; simp
  have n1 : (k == 1) = false := by simp; omega
  have n3 : (k == 3) = false := by simp; omega
  have n4 : (k == 4) = false := by simp; omega
  have n5 : (k == 5) = false := by simp; omega
  have n6 : (k == 6) = false := by simp; omega
  have n7 : (k == 7) = false := by simp; omega
  have n8 : (k == 8) = false := by simp; omega
  have n9 : (k == 9) = false := by simp; omega
  have n11 : (k == 11) = false := by simp; omega
  have n12 : (k == 12) = false := by simp; omega
  simp [esOf, Instr.findNow, Instr.sameNow, n1, n3, n4, n5, n6, n7, n8, n9, n11, n12]
/-- way: how a value of a Kind is taken, if the Kind is one and there is room -/
def wayOk (k room : Int) : Bool := knownB k && !(nestsB k && room == 0)
theorem way_ok (w0 w : World) (R m : Nat) (bs : List Nat) (room k : Int) (h : Rd w0 w R m bs room) (hw : Ways w R m) (ho : wayOk k room = true) :
    Calls Try.prog 39 #[.pointer (some ⟨R, 0, none⟩), .int .i64 k] w fun e w' => (∃ fn fa fb, e = .returned (.func fn fa fb) ∧ WayIs w R k (.func fn fa fb)) ∧ w' = w := by
  simp only [wayOk, Bool.and_eq_true, Bool.not_eq_true', Bool.and_eq_false_iff] at ho
  obtain ⟨fn, fa, fb, hl, hi⟩ := ways_look hw k ho.1
  refine (way_yes w0 w R m bs room k fn fa fb h hl (fun hn hr => ?_)).mono fun e w' ⟨h1, h2⟩ => ⟨⟨fn, fa, fb, h1, hi⟩, h2⟩
  rcases ho.2 with h1 | h1
  · rw [hn] at h1; cases h1
  · subst hr; simp at h1
theorem way_bad (w0 w : World) (R m : Nat) (bs : List Nat) (room k : Int) (h : Rd w0 w R m bs room) (hw : Ways w R m) (ho : wayOk k room = false) :
    Calls Try.prog 39 #[.pointer (some ⟨R, 0, none⟩), .int .i64 k] w fun e w' => e = gives false ∧ w' = w := by
  cases hk : knownB k
  · exact way_no w0 w R m bs room k h (ways_look_no hw k hk)
  · obtain ⟨fn, fa, fb, hl, hi⟩ := ways_look hw k hk
    simp only [wayOk, hk, Bool.true_and, Bool.not_eq_false', Bool.and_eq_true] at ho
    have hr : room = 0 := by simpa using ho.2
    subst hr
    exact way_deep w0 w R m bs k fn fa fb h hl ho.1
end Go.Proofs.Ytikoddlidhefpaa
