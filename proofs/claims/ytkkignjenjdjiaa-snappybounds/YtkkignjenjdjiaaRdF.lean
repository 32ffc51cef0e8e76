/-
  Open and Length, whole.
-/
import Derived.Test.YtkkignjenjdjiaaRdE
namespace Go.Proofs.Ytkkignjenjdjiaa
set_option linter.unusedVariables false
set_option linter.unusedSimpArgs false
open Go.ChangeShapes Go.WideShapes Go.ChangeAt Go.RowKit

def sOpen (bs : List Nat) (most : Int) : Except Int (List Nat) := if most < 0 ∨ 1048576 < most then .error 2 else sBlock most.toNat bs

set_option maxRecDepth 100000 in
set_option maxHeartbeats 1000000 in
theorem open_arg (w : World) (a : Option Addr) (bs : List Nat) (cp : Nat) (most : Int) (hm : most < 0 ∨ 1048576 < most) :
    Calls Try.prog 11 #[.slice a bs.length cp, .int .i64 most] w fun e w' => Below w.heap.size w w' ∧ e = .returned (.tuple #[.slice none 0 0, .int .i64 2]) := by
  have hmf : ∀ (fn : Fn) (first cap : Array Value) (w : World), (Instr.makeFunc fn first cap).run Try.prog w = .ok (.func fn first cap) w := fun _ _ _ _ => rfl
  generalize bs.length = L
  rcases hm with hm | hm
  · go_enter_defers Try.func11, Try.ntmps11
    go_wp2_with fail
    simp [bodyPostD, Leaves, settle, results, Try.results11, go_sem]
    exact alloc_below _ _
  · have hm0 : ¬ most < 0 := by omega
    go_enter_defers Try.func11, Try.ntmps11
    go_wp2_with fail
    simp [bodyPostD, Leaves, settle, results, Try.results11, go_sem]
    exact alloc_below _ _

theorem sd_new (w : World) (o : Obj) (a : Option Addr) (bs : List Nat) (cp : Nat) (hs : Src w a bs.length cp (c8 bs)) (hc : bs.length ≤ cp) (h8 : ∀ c ∈ bs, c < 256) (hl : bs.length ≤ 140737488355328) :
    Sd w ((w.alloc o).alloc (.cells #[.slice a bs.length cp, .slice none 0 0, .int .i64 0] 43)) (w.heap.size + 1) bs [] 0 :=
  ⟨⟨a, cp, .slice none 0 0, heap2_new _ _ _, hs, hc, World.ownsRow_nil _ _ _ _⟩, h8, (fun c hc => by cases hc), hl, Nat.zero_le _, (alloc_below w _).alloc (by simp) _, by omega⟩
theorem heap_first (w : World) (o p : Obj) : ((w.alloc o).alloc p).heap[w.heap.size]? = some o := by
  rw [(alloc_below (w.alloc o) p).block _ (by simp)]
  exact heap_new _ _

set_option maxRecDepth 100000 in
set_option maxHeartbeats 1000000 in
theorem open_in (w : World) (a : Option Addr) (bs : List Nat) (cp most : Nat) (hm : most ≤ 1048576) (hs : Src w a bs.length cp (c8 bs)) (hc : bs.length ≤ cp) (h8 : ∀ c ∈ bs, c < 256) (hl : bs.length ≤ 140737488355328) :
    Calls Try.prog 11 #[.slice a bs.length cp, .int .i64 most] w fun e w' => Below w.heap.size w w' ∧ match sBlock most bs with
      | .ok m => ∃ ad cp, e = .returned (.tuple #[.slice ad m.length cp, .int .i64 0]) ∧ w'.ownsRow w.heap.size 5 1 (.slice ad m.length cp) m.length (c8 m)
      | .error c => e = .returned (.tuple #[.slice none 0 0, .int .i64 c]) := by
  have hmf : ∀ (fn : Fn) (first cap : Array Value) (w : World), (Instr.makeFunc fn first cap).run Try.prog w = .ok (.func fn first cap) w := fun _ _ _ _ => rfl
  have hm' : (most : Int) ≤ 1048576 := by omega
  obtain ⟨L, hL⟩ : ∃ L, L = bs.length := ⟨_, rfl⟩
  have HL : Hid (L = bs.length) := hL
  rw [← hL]
  clear hL
  have hN : Sd w ((w.alloc (.cells #[.int .i64 0] 25)).alloc (.cells #[.slice a L cp, .slice none 0 0, .int .i64 0] 43)) (w.heap.size + 1) bs [] 0 := by rw [HL.out]; exact sd_new w _ a bs cp hs hc h8 hl
  have h1 := heap_first w (.cells #[.int .i64 0] 25) (.cells #[.slice a L cp, .slice none 0 0, .int .i64 0] 43)
  have hb0 : Below w.heap.size w ((w.alloc (.cells #[.int .i64 0] 25)).alloc (.cells #[.slice a L cp, .slice none 0 0, .int .i64 0] 43)) := (alloc_below w _).alloc (by simp) _
  have B := block_any w _ (w.heap.size + 1) bs most hm hN
  cases hB : sBlock most bs with
  | error c =>
    rw [hB] at B
    go_enter_defers Try.func11, Try.ntmps11
    go_wp2_with fail
    refine B.mono ?_
    rintro e wx ⟨hbx, rfl⟩
    have hbox : wx.heap[w.heap.size]? = some (.cells #[.int .i64 0] 25 (0, 0)) := by rw [hbx.block _ (by omega), h1]
    unfold gives
    go_wp2_with fail
    refine leaves_cons (f := 19) (args := #[.pointer (some ⟨w.heap.size, 0, none⟩)]) (by simp) (by simp [go_sem]) ?_
    refine (catch_panic 19 (.inl rfl) w.heap.size _ c wx hbox).mono ?_
    rintro e u' w'' ⟨rfl, rfl, hb2, hbox2⟩
    have c0 : w''.cell? ⟨w.heap.size, 0, none⟩ = some (.int .i64 c) := cell_of_block hbox2 rfl
    simp [Leaves, settle, results, Try.results11, go_sem, c0]
    exact (hb0.trans (hbx.mono (by omega))).trans hb2
  | ok m =>
    rw [hB] at B
    go_enter_defers Try.func11, Try.ntmps11
    go_wp2_with fail
    refine B.mono ?_
    rintro e wx ⟨hbx, ad, cc, rfl, hown⟩
    have hbox : wx.heap[w.heap.size]? = some (.cells #[.int .i64 0] 25 (0, 0)) := by rw [hbx.block _ (by omega), h1]
    have c0 : wx.cell? ⟨w.heap.size, 0, none⟩ = some (.int .i64 0) := cell_of_block hbox rfl
    have f0 : wx.frozen? ⟨w.heap.size, 0, none⟩ = false := frozen_of_block hbox
    go_wp2_with fail
    refine leaves_cons (f := 19) (args := #[.pointer (some ⟨w.heap.size, 0, none⟩)]) (by simp) (by simp [go_sem]) ?_
    refine (catch_idle 19 (.inl rfl) w.heap.size _ _ (one_setCell hbox)).mono ?_
    rintro e u' w'' ⟨rfl, rfl, ho, hbox2⟩
    have c1 : w''.cell? ⟨w.heap.size, 0, none⟩ = some (.int .i64 0) := cell_of_block hbox2 rfl
    have hown2 : w''.ownsRow (w.heap.size + 1 + 1) 5 1 (.slice ad m.length cc) m.length (c8 m) := by
      refine own_kept (ownsRow_setCell_below (a := ⟨w.heap.size, 0, none⟩) hown (by simp; omega) _) fun k hk1 hk2 => ho.block k (by omega)
    have hown3 : w''.ownsRow w.heap.size 5 1 (.slice ad m.length cc) m.length (c8 m) := by
      refine ⟨hown2.1, ?_⟩
      rcases hown2.2 with h | ⟨g, cap, cur, e1, e2, e3⟩
      · exact .inl h
      · exact .inr ⟨g, cap, cur, e1, by omega, e3⟩
    have hbf : Below w.heap.size w w'' := by
      have h5 : Below w.heap.size w (wx.setCell ⟨w.heap.size, 0, none⟩ (.int .i64 0)) := (hb0.trans (hbx.mono (by omega))).setCell (p := ⟨w.heap.size, 0, none⟩) (Nat.le_refl _) _
      exact ⟨ho.os.trans h5.os, ho.tape.trans h5.tape, ho.output.trans h5.output, by rw [← ho.size]; exact h5.size, fun k hk => by rw [ho.block k (by omega), h5.block k hk]⟩
    simp [Leaves, settle, results, Try.results11, go_sem, c1]
    exact ⟨hbf, ad, cc, ⟨rfl, rfl⟩, hown3⟩

theorem open_any (w : World) (a : Option Addr) (bs : List Nat) (cp : Nat) (most : Int) (hs : Src w a bs.length cp (c8 bs)) (hc : bs.length ≤ cp) (h8 : ∀ c ∈ bs, c < 256) (hl : bs.length ≤ 140737488355328) :
    Calls Try.prog 11 #[.slice a bs.length cp, .int .i64 most] w fun e w' => Below w.heap.size w w' ∧ match sOpen bs most with
      | .ok m => ∃ ad cp, e = .returned (.tuple #[.slice ad m.length cp, .int .i64 0]) ∧ w'.ownsRow w.heap.size 5 1 (.slice ad m.length cp) m.length (c8 m)
      | .error c => e = .returned (.tuple #[.slice none 0 0, .int .i64 c]) := by
  unfold sOpen
  by_cases hm : most < 0 ∨ 1048576 < most
  · rw [if_pos hm]
    exact open_arg w a bs cp most hm
  · rw [if_neg hm]
    obtain ⟨n, rfl⟩ := Int.eq_ofNat_of_zero_le (show 0 ≤ most by omega)
    exact open_in w a bs cp n (by omega) hs hc h8 hl

set_option maxRecDepth 100000 in
set_option maxHeartbeats 1000000 in
theorem length_any (w : World) (a : Option Addr) (bs : List Nat) (cp : Nat) (hs : Src w a bs.length cp (c8 bs)) (hc : bs.length ≤ cp) (h8 : ∀ c ∈ bs, c < 256) (hl : bs.length ≤ 140737488355328) :
    Calls Try.prog 15 #[.slice a bs.length cp] w fun e w' => Below w.heap.size w w' ∧ match sNum bs with
      | .ok (m, _) => e = .returned (.tuple #[.int .i64 (m : Int), .int .i64 0])
      | .error c => e = .returned (.tuple #[.int .i64 0, .int .i64 c]) := by
  have hmf : ∀ (fn : Fn) (first cap : Array Value) (w : World), (Instr.makeFunc fn first cap).run Try.prog w = .ok (.func fn first cap) w := fun _ _ _ _ => rfl
  obtain ⟨L, hL⟩ : ∃ L, L = bs.length := ⟨_, rfl⟩
  have HL : Hid (L = bs.length) := hL
  rw [← hL]
  clear hL
  have hN : Sd w ((w.alloc (.cells #[.int .i64 0] 25)).alloc (.cells #[.slice a L cp, .slice none 0 0, .int .i64 0] 43)) (w.heap.size + 1) bs [] 0 := by rw [HL.out]; exact sd_new w _ a bs cp hs hc h8 hl
  have h1 := heap_first w (.cells #[.int .i64 0] 25) (.cells #[.slice a L cp, .slice none 0 0, .int .i64 0] 43)
  have hb0 : Below w.heap.size w ((w.alloc (.cells #[.int .i64 0] 25)).alloc (.cells #[.slice a L cp, .slice none 0 0, .int .i64 0] 43)) := (alloc_below w _).alloc (by simp) _
  have B := number_any w _ (w.heap.size + 1) bs [] 0 hN
  cases hB : sNum bs with
  | error c =>
    rw [hB] at B
    go_enter_defers Try.func15, Try.ntmps15
    go_wp2_with fail
    refine B.mono ?_
    rintro e wx ⟨hbx, rfl⟩
    have hbox : wx.heap[w.heap.size]? = some (.cells #[.int .i64 0] 25 (0, 0)) := by rw [hbx.block _ (by omega), h1]
    unfold gives
    go_wp2_with fail
    refine leaves_cons (f := 23) (args := #[.pointer (some ⟨w.heap.size, 0, none⟩)]) (by simp) (by simp [go_sem]) ?_
    refine (catch_panic 23 (.inr rfl) w.heap.size _ c wx hbox).mono ?_
    rintro e u' w'' ⟨rfl, rfl, hb2, hbox2⟩
    have c0 : w''.cell? ⟨w.heap.size, 0, none⟩ = some (.int .i64 c) := cell_of_block hbox2 rfl
    simp [Leaves, settle, results, Try.results15, go_sem, c0]
    exact (hb0.trans (hbx.mono (by omega))).trans hb2
  | ok mr =>
    obtain ⟨m, r⟩ := mr
    rw [hB] at B
    go_enter_defers Try.func15, Try.ntmps15
    go_wp2_with fail
    refine B.mono ?_
    rintro e wx ⟨hbx, rfl, hown⟩
    have hbox : wx.heap[w.heap.size]? = some (.cells #[.int .i64 0] 25 (0, 0)) := by rw [hbx.block _ (by omega), h1]
    have c0 : wx.cell? ⟨w.heap.size, 0, none⟩ = some (.int .i64 0) := cell_of_block hbox rfl
    have f0 : wx.frozen? ⟨w.heap.size, 0, none⟩ = false := frozen_of_block hbox
    go_wp2_with fail
    refine leaves_cons (f := 23) (args := #[.pointer (some ⟨w.heap.size, 0, none⟩)]) (by simp) (by simp [go_sem]) ?_
    refine (catch_idle 23 (.inr rfl) w.heap.size _ _ (one_setCell hbox)).mono ?_
    rintro e u' w'' ⟨rfl, rfl, ho, hbox2⟩
    have c1 : w''.cell? ⟨w.heap.size, 0, none⟩ = some (.int .i64 0) := cell_of_block hbox2 rfl
    have hbf : Below w.heap.size w w'' := by
      have h5 : Below w.heap.size w (wx.setCell ⟨w.heap.size, 0, none⟩ (.int .i64 0)) := (hb0.trans (hbx.mono (by omega))).setCell (p := ⟨w.heap.size, 0, none⟩) (Nat.le_refl _) _
      exact ⟨ho.os.trans h5.os, ho.tape.trans h5.tape, ho.output.trans h5.output, by rw [← ho.size]; exact h5.size, fun k hk => by rw [ho.block k (by omega), h5.block k hk]⟩
    simp [Leaves, settle, results, Try.results15, go_sem, c1]
    exact hbf
end Go.Proofs.Ytkkignjenjdjiaa
