/-
  The reader, whole: the ways at each room.
-/
import Derived.Test.YtikoddlidhefpaaRdP
namespace Go.Proofs.Ytikoddlidhefpaa
set_option linter.unusedVariables false
set_option linter.unusedSimpArgs false
open Go.ChangeShapes Go.WideShapes Go.ChangeAt Go.RowKit Go.Deep

theorem enter_1 (args : Array Value) (W : World) : (callFunc 77 args).run Try.prog W = .ok (.enter 77 args) W := enters_of Try.func77 (by kernel_rfl) rfl args W
theorem enter_3 (args : Array Value) (W : World) : (callFunc 78 args).run Try.prog W = .ok (.enter 78 args) W := enters_of Try.func78 (by kernel_rfl) rfl args W
theorem enter_4 (args : Array Value) (W : World) : (callFunc 93 args).run Try.prog W = .ok (.enter 93 args) W := enters_of Try.func93 (by kernel_rfl) rfl args W
theorem enter_7 (args : Array Value) (W : World) : (callFunc 80 args).run Try.prog W = .ok (.enter 80 args) W := enters_of Try.func80 (by kernel_rfl) rfl args W
theorem enter_8 (args : Array Value) (W : World) : (callFunc 81 args).run Try.prog W = .ok (.enter 81 args) W := enters_of Try.func81 (by kernel_rfl) rfl args W
theorem enter_n (args : Array Value) (W : World) : (callFunc 96 args).run Try.prog W = .ok (.enter 96 args) W := enters_of Try.func96 (by kernel_rfl) rfl args W
theorem enter_9 (args : Array Value) (W : World) : (callFunc 83 args).run Try.prog W = .ok (.enter 83 args) W := enters_of Try.func83 (by kernel_rfl) rfl args W
theorem enter_11 (args : Array Value) (W : World) : (callFunc 84 args).run Try.prog W = .ok (.enter 84 args) W := enters_of Try.func84 (by kernel_rfl) rfl args W
theorem enter_12 (args : Array Value) (W : World) : (callFunc 85 args).run Try.prog W = .ok (.enter 85 args) W := enters_of Try.func85 (by kernel_rfl) rfl args W

theorem rVal_leaf (r : Nat) (k : Int) (h9 : ¬ k = 9) (h11 : ¬ k = 11) (h12 : ¬ k = 12) (bs : List Nat) : rVal r k bs = rLeaf k bs := by
  cases r with
  | zero => rfl
  | succ r => simp only [rVal, if_neg h9, if_neg h11, if_neg h12]

theorem way_signed {w0 W : World} {R m : Nat} {room : Int} {k : Int} {most : Nat} {v : Value} (hk : i64ok k) (hm : most ≤ 18446744073709551615) (h : SBox W R k most v) : WayOf w0 W R m room v (rSigned k most) := by
  obtain ⟨b1, b2, b3, rfl, ⟨r1, r2, r3⟩, h1, h2, h3⟩ := h.is
  refine ⟨_, _, _, rfl, enter_4, fun W' bs hf hrd => ?_⟩
  exact signed1_any w0 W' R m bs room b1 b2 b3 k most hk hm hrd (cell_of_block (hf.box h1 (by omega)) rfl) (cell_of_block (hf.box h2 (by omega)) rfl) (cell_of_block (hf.box h3 (by omega)) rfl) (by omega) (by omega) (by omega)
theorem way_nested {w0 W : World} {R m r : Nat} {g : FuncId} {v : Value} {q : List Nat → RV} (hr : r ≤ 999) (hW : Ways W R m) (h : NBox W R g v) (eg : ∀ args W, (callFunc g args).run Try.prog W = .ok (.enter g args) W)
    (G : ∀ W bs, Rd w0 W R m bs (r : Int) → Ways W R m → TakesV g #[.pointer (some ⟨R, 0, none⟩)] w0 W R m (r : Int) (q bs)) : WayOf w0 W R m ((r + 1 : Nat) : Int) v q := by
  obtain ⟨b1, b2, rfl, ⟨r1, r2⟩, h1, h2⟩ := h.is
  refine ⟨_, _, _, rfl, enter_n, fun W' bs hf hrd => ?_⟩
  refine nested1_any w0 W' R m bs ((r + 1 : Nat) : Int) b1 b2 g (q bs) (by omega) (by omega) hrd (hW.rf hf) (hf.box h1 (by omega)) (hf.box h2 (by omega)) r1 r2 eg fun W'' h3 h4 => ?_
  have e : ((r + 1 : Nat) : Int) - 1 = (r : Int) := by omega
  rw [e] at h3 ⊢
  exact G W'' bs h3 h4

/-- a value of a Kind is taken as the parse says, wherever there is room -/
theorem ways_all (w0 : World) (R m : Nat) : ∀ (r : Nat), r ≤ 999 → ∀ (k : Int) (v : Value) (W : World), wayOk k (r : Int) = true → Ways W R m → WayIs W R k v → WayOf w0 W R m (r : Int) v (rVal r k) := by
  intro r
  induction r with
  | zero =>
    intro _ k v W ho hW hi
    have leaf : ∀ {q : List Nat → RV}, ¬ k = 9 → ¬ k = 11 → ¬ k = 12 → (∀ bs, q bs = rLeaf k bs) → WayOf w0 W R m ((0 : Nat) : Int) v q → WayOf w0 W R m ((0 : Nat) : Int) v (rVal 0 k) := fun a b c e h => by
      have : rVal 0 k = _ := funext fun bs => (rVal_leaf 0 k a b c bs).trans (e bs).symm
      rw [this]; exact h
    rcases hi with ⟨rfl, rfl⟩ | ⟨rfl, rfl⟩ | ⟨rfl, hs⟩ | ⟨rfl, hs⟩ | ⟨rfl, hs⟩ | ⟨rfl, rfl⟩ | ⟨rfl, rfl⟩ | ⟨rfl, hs⟩ | ⟨rfl, hs⟩ | ⟨rfl, hs⟩
    · exact leaf (q := rTruth) (by omega) (by omega) (by omega) (fun _ => rfl) ⟨_, _, _, rfl, enter_1, fun W' bs _ hrd => truth_any w0 W' R m bs _ hrd⟩
    · exact leaf (q := rSmall) (by omega) (by omega) (by omega) (fun _ => rfl) ⟨_, _, _, rfl, enter_3, fun W' bs _ hrd => small_any w0 W' R m bs _ hrd⟩
    · exact leaf (by omega) (by omega) (by omega) (fun _ => rfl) (way_signed ⟨by omega, by omega⟩ (by omega) hs)
    · exact leaf (by omega) (by omega) (by omega) (fun _ => rfl) (way_signed ⟨by omega, by omega⟩ (by omega) hs)
    · exact leaf (by omega) (by omega) (by omega) (fun _ => rfl) (way_signed ⟨by omega, by omega⟩ (by omega) hs)
    · exact leaf (q := rDouble) (by omega) (by omega) (by omega) (fun _ => rfl) ⟨_, _, _, rfl, enter_7, fun W' bs _ hrd => double_any w0 W' R m bs _ hrd⟩
    · exact leaf (q := rTextV) (by omega) (by omega) (by omega) (fun _ => rfl) ⟨_, _, _, rfl, enter_8, fun W' bs _ hrd => text_any w0 W' R m bs _ hrd⟩
    · exact absurd ho (by decide)
    · exact absurd ho (by decide)
    · exact absurd ho (by decide)
  | succ r ih =>
    intro hr k v W ho hW hi
    have HP := ih (by omega)
    have leaf : ∀ {q : List Nat → RV}, ¬ k = 9 → ¬ k = 11 → ¬ k = 12 → (∀ bs, q bs = rLeaf k bs) → WayOf w0 W R m ((r + 1 : Nat) : Int) v q → WayOf w0 W R m ((r + 1 : Nat) : Int) v (rVal (r + 1) k) := fun a b c e h => by
      have : rVal (r + 1) k = _ := funext fun bs => (rVal_leaf (r + 1) k a b c bs).trans (e bs).symm
      rw [this]; exact h
    rcases hi with ⟨rfl, rfl⟩ | ⟨rfl, rfl⟩ | ⟨rfl, hs⟩ | ⟨rfl, hs⟩ | ⟨rfl, hs⟩ | ⟨rfl, rfl⟩ | ⟨rfl, rfl⟩ | ⟨rfl, hs⟩ | ⟨rfl, hs⟩ | ⟨rfl, hs⟩
    · exact leaf (q := rTruth) (by omega) (by omega) (by omega) (fun _ => rfl) ⟨_, _, _, rfl, enter_1, fun W' bs _ hrd => truth_any w0 W' R m bs _ hrd⟩
    · exact leaf (q := rSmall) (by omega) (by omega) (by omega) (fun _ => rfl) ⟨_, _, _, rfl, enter_3, fun W' bs _ hrd => small_any w0 W' R m bs _ hrd⟩
    · exact leaf (by omega) (by omega) (by omega) (fun _ => rfl) (way_signed ⟨by omega, by omega⟩ (by omega) hs)
    · exact leaf (by omega) (by omega) (by omega) (fun _ => rfl) (way_signed ⟨by omega, by omega⟩ (by omega) hs)
    · exact leaf (by omega) (by omega) (by omega) (fun _ => rfl) (way_signed ⟨by omega, by omega⟩ (by omega) hs)
    · exact leaf (q := rDouble) (by omega) (by omega) (by omega) (fun _ => rfl) ⟨_, _, _, rfl, enter_7, fun W' bs _ hrd => double_any w0 W' R m bs _ hrd⟩
    · exact leaf (q := rTextV) (by omega) (by omega) (by omega) (fun _ => rfl) ⟨_, _, _, rfl, enter_8, fun W' bs _ hrd => text_any w0 W' R m bs _ hrd⟩
    · have e : rVal (r + 1) 9 = rList r (rVal r) := funext fun bs => rfl
      rw [e]
      exact way_nested (by omega) hW hs enter_9 fun W' bs hrd hw' => list_any w0 W' R m bs r (rVal r) hrd hw' HP
    · have e : rVal (r + 1) 11 = rDict r (rVal r) := funext fun bs => rfl
      rw [e]
      exact way_nested (by omega) hW hs enter_11 fun W' bs hrd hw' => dict_any w0 W' R m bs r (rVal r) hrd hw' HP
    · have e : rVal (r + 1) 12 = rStruct r (rVal r) := funext fun bs => rfl
      rw [e]
      exact way_nested (by omega) hW hs enter_12 fun W' bs hrd hw' => structure_any w0 W' R m bs r (rVal r) hrd hw' (good_val r) HP
end Go.Proofs.Ytikoddlidhefpaa
