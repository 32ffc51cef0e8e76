/-
  Write.
-/
import Derived.Test.YtfocmlajeflenaaPlZ
namespace Go.Proofs.Ytfocmlajeflenaa
set_option linter.unusedVariables false
set_option linter.unusedSimpArgs false
open Go.ChangeShapes Go.WideShapes Go.ChangeAt Go.RowKit Go.Deep
attribute [local go_sem] way_fd0 way_fd1 way_fd2 way_fd3

/-- what is answered -/
def wRes (k z : Int) (l : List Dat) : List Nat := if wNo k z l = 0 then wOut k l else []
theorem wNo_ok {k z : Int} {l : List Dat} (h : wNo k z l = 0) : chkB k z = true ∧ wAll k z l = true ∧ l.length ≤ 65536 ∧ wSz k l ≤ 1048576 := by
  unfold wNo at h
  split at h
  · cases h
  · rename_i h1
    simp only [Bool.not_eq_false, Bool.and_eq_true] at h1
    split at h
    · cases h
    · split at h
      · cases h
      · exact ⟨h1.1, h1.2, by omega, by omega⟩
theorem wNo_cases (k z : Int) (l : List Dat) : wNo k z l = 0 ∨ wNo k z l = 2 ∨ wNo k z l = 3 := by
  unfold wNo
  split
  · exact .inr (.inl rfl)
  · split
    · exact .inr (.inr rfl)
    · split
      · exact .inr (.inr rfl)
      · exact .inl rfl

set_option maxRecDepth 100000 in
set_option maxHeartbeats 2000000 in
theorem pwrite_any (k z : Int) (w : World) (a : Option Addr) (len cap : Nat) (l : List Dat) (h : Data w a len cap l) :
    Calls Try.prog 8 #[.agg #[.int .i64 k, .int .i64 z], .slice a len cap] w fun e w' => ∃ v, e = .returned (.tuple #[v, .int .i64 (wNo k z l)]) ∧ w'.ownsRow w.heap.size 5 1 v (wRes k z l).length (c8 (wRes k z l)) ∧ Below w.heap.size w w' := by
  have HL : Hid (l.length = len) := h.1
  have ab := alloc_below w (.cells #[.int .i64 k, .int .i64 z] 24 (0, 0))
  have hx := heap_new w (.cells #[.int .i64 k, .int .i64 z] 24 (0, 0))
  have HH : Hid (∀ W, Below w.heap.size w W → Data W a len cap l) := fun W hb => h.later hb
  have SZ := fun W (hb : Below w.heap.size w W) => psize_any k z W a len cap l (h.later hb)
  by_cases hno : wNo k z l = 0
  · obtain ⟨hc, hw, hm, hs⟩ := wNo_ok hno
    have HE : Hid (wNo k z l = 0) := hno
    have HR : Hid (wRes k z l = wOut k l) := by show _ = _; unfold wRes; rw [if_pos hno]
    have HW : Hid (wAll k z l = true ∧ len ≤ 65536 ∧ wSz k l ≤ 1048576) := ⟨hw, by have := HL.out; omega, hs⟩
    rw [hno, if_pos rfl] at SZ
    have WO := fun W => wayOf_any k z hc W
    generalize (wSz k l : Int) = sI at SZ
    clear hc hw hm hs hno h
    go_enter Try.func8, Try.ntmps8
    go_wp2_with fail
    refine (SZ _ ab).mono ?_
    rintro e W1 ⟨rfl, hb1⟩
    have b1 := ab.trans (hb1.mono ab.size)
    obtain ⟨⟨c0, c1⟩, _⟩ := blk2 (below_at hb1 hx)
    clear SZ hb1 hx ab
    go_wp2_with fail
    refine (WO _).mono ?_
    rintro e W3 ⟨v, rfl, hway, hb3⟩
    have b3 := b1.trans (hb3.mono b1.size)
    have hsz := b3.size
    clear c0 c1 hb3 WO b1
    rcases hway with ⟨h0, rfl⟩ | ⟨h0, p, hp, rfl⟩
    · have HK : Hid (k = 0) := h0
      have LT := layTruths_any W3 a len cap z l (HH.out W3 b3) (by rw [← HK.out]; exact HW.out.1) HW.out.2.1
      have HR2 : Hid (wRes k z l = upk 8 ((len + 7) / 8) (pk 1 (tbits l)) ∧ (wRes k z l).length = (len + 7) / 8) := by
        have e : wRes k z l = upk 8 ((len + 7) / 8) (pk 1 (tbits l)) := by rw [HR.out]; unfold wOut; rw [if_pos HK.out, HL.out]
        exact ⟨e, by rw [e, upk_len]⟩
      clear h0
      unfold truthV
      go_wp2_with fail
      refine LT.mono ?_
      rintro e W4 ⟨u, rfl, hown, hb4⟩
      clear LT
      go_wp2_with fail
      go_ret2
      exact ⟨_, by rw [HE.out]; rfl, by rw [HR2.out.2, HR2.out.1]; exact own_mono hown hsz, b3.trans (hb4.mono hsz)⟩
    · have HR2 : Hid (wRes k z l = eb l ∧ wSz k l = (eb l).length) := ⟨by rw [HR.out]; unfold wOut; rw [if_neg h0], by unfold wSz; rw [if_neg h0]⟩
      have LT := layAll_any W3 p k z hp h0 a len cap l (HH.out W3 b3) HW.out.1 HW.out.2.1 (by rw [← HR2.out.2]; exact HW.out.2.2)
      clear h0 hp
      unfold rowV
      go_wp2_with fail
      refine LT.mono ?_
      rintro e W4 ⟨u, rfl, hown, hb4⟩
      clear LT
      go_wp2_with fail
      go_ret2
      exact ⟨_, by rw [HE.out]; rfl, by rw [HR2.out.1]; exact own_mono hown hsz, b3.trans (hb4.mono hsz)⟩
  · have HR : Hid (wRes k z l = []) := by show _ = _; unfold wRes; rw [if_neg hno]
    rw [if_neg hno] at SZ
    have hcs := wNo_cases k z l
    obtain ⟨n, HE⟩ : ∃ n, Hid (wNo k z l = n) := ⟨_, rfl⟩
    rw [HE.out] at SZ hno hcs
    have hcs' : n = 2 ∨ n = 3 := by omega
    clear hcs hno h
    rcases hcs' with rfl | rfl
    all_goals
      go_enter Try.func8, Try.ntmps8
      go_wp2_with fail
      refine (SZ _ ab).mono ?_
      rintro e W1 ⟨rfl, hb1⟩
      go_wp2_with fail
      go_ret2
      exact ⟨_, by rw [HE.out]; rfl, by rw [HR.out]; exact World.ownsRow_nil _ _ _ _, ab.trans (hb1.mono ab.size)⟩
end Go.Proofs.Ytfocmlajeflenaa
