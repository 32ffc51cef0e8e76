/-
  Part, whole.
-/
import Derived.Test.YtignjhmbajiphaaHbS
namespace Go.Proofs.Ytignjhmbajiphaa
set_option linter.unusedVariables false
set_option linter.unusedSimpArgs false
open Go.ChangeShapes Go.WideShapes Go.ChangeAt Go.RowKit

def partM (wd ct : Int) (zs : List Int) : Except Int (List Int × Nat) :=
  match frontM wd ct zs with
  | .error e => .error e
  | .ok (rs, p) => .ok (flatN rs, p)
set_option maxRecDepth 100000 in
set_option maxHeartbeats 4000000 in
theorem part_any (ad : Option Addr) (L cap : Nat) (wd ct : Int) (zs : List Int) (w : World) (hL : L ≤ 1048576) (hlc : L ≤ cap) (hs : Src w ad L cap (zs.map (Value.int .u8))) (hby : Bytes zs) (hct : ct ≤ 65536) :
    Calls Try.prog 9 #[.slice ad L cap, .int .i64 wd, .int .i64 ct] w fun e w' => Below w.heap.size w w' ∧ match partM wd ct zs with
      | .ok (l, p) => ∃ v, e = .returned (.tuple #[v, .int .i64 (p : Nat), .int .i64 0]) ∧ w'.ownsRow w.heap.size 3 1 v l.length (l.map (Value.int .i64))
      | .error c => e = .returned (.tuple #[.slice none 0 0, .int .i64 0, .int .i64 c]) := by
  refine calls_ofQ fun Q HQ => ?_
  have QOK : Hid (∀ l p v w', partM wd ct zs = .ok (l, p) → Below w.heap.size w w' → w'.ownsRow w.heap.size 3 1 v l.length (l.map (Value.int .i64)) → Q (.returned (.tuple #[v, .int .i64 (p : Nat), .int .i64 0])) w') := fun l p v w' e h1 h2 => HQ _ _ ⟨h1, by rw [e]; exact ⟨v, rfl, h2⟩⟩
  have QNO : Hid (∀ c w', partM wd ct zs = .error c → Below w.heap.size w w' → Q (.returned (.tuple #[.slice none 0 0, .int .i64 0, .int .i64 c])) w') := fun c w' e h1 => HQ _ _ ⟨h1, by rw [e]⟩
  clear HQ
  have hmf : ∀ (fn : Fn) (first cap : Array Value) (w : World), (Instr.makeFunc fn first cap).run Try.prog w = .ok (.func fn first cap) w := fun _ _ _ _ => rfl
  have hb0 := alloc_below w (.cells #[.int .i64 0] 24 (0, 0))
  have h1 := heap_new w (.cells #[.int .i64 0] 24 (0, 0))
  have WA := front_any ad L cap wd ct zs (w.alloc (.cells #[.int .i64 0] 24 (0, 0))) hL hlc (hs.later hb0) hby hct
  cases hx : frontM wd ct zs with
  | error c =>
    rw [hx] at WA
    have HE : Hid (partM wd ct zs = .error c) := by show _ = _; unfold partM; rw [hx]
    go_enter_defers Try.func9, Try.ntmps9
    go_wp2_with fail
    refine WA.mono ?_
    rintro e wx ⟨hbx, rfl⟩
    have hbox := below_at hbx h1
    unfold gives
    go_wp2_with fail
    refine leaves_cons (f := 22) (args := #[.pointer (some ⟨w.heap.size, 0, none⟩)]) (by simp) (by simp [go_sem]) ?_
    refine (pt_panic w.heap.size _ c wx hbox).mono ?_
    rintro e u' w'' ⟨rfl, rfl, hb2, hbox2⟩
    have c0 : w''.cell? ⟨w.heap.size, 0, none⟩ = some (.int .i64 c) := cell_of_block hbox2 rfl
    have q2 := QNO.out c _ HE.out ((hb0.trans (hbx.mono (by simp))).trans hb2)
    simp [Leaves, settle, results, Try.results9, go_sem, c0]
    exact q2
  | ok rp =>
    obtain ⟨rs, p⟩ := rp
    have hfo := frontM_ok hct hx
    have hzl : zs.length = L := by simpa using hs.1
    have hpI : (p : Int) ≤ 1048576 := by omega
    have hfl : (flatN rs).length ≤ 65536 := by omega
    have hrl := hfo.2.2.1
    rw [hx] at WA
    have HE : Hid (partM wd ct zs = .ok (flatN rs, p)) := by show _ = _; unfold partM; rw [hx]
    clear hx hfo hzl
    go_enter_defers Try.func9, Try.ntmps9
    go_wp2_with fail
    refine WA.mono ?_
    rintro e w1 ⟨hbx, v, rfl, hr⟩
    obtain ⟨va, vc, rfl⟩ : ∃ va vc, v = Value.slice va rs.length vc := by obtain ⟨ys, h1, _⟩ := hr; exact own_sl h1
    have hbox1 := below_at hbx h1
    have NA := numbers_any va vc rs _ w1 hr.rs (by omega) (by omega)
    clear WA hr
    go_wp2_with fail
    refine NA.mono ?_
    rintro e wx ⟨v2, rfl, hown, hb2⟩
    obtain ⟨va2, vc2, rfl⟩ := own_sl hown
    have hbox := below_at hb2 hbox1
    obtain ⟨c0, f0⟩ := blk1 hbox
    have hsz1 := lt_of_heap hbox1
    have hb02 : Below w.heap.size w wx := (hb0.trans (hbx.mono (by simp))).trans (hb2.mono (Nat.le_of_lt hsz1))
    go_wp2_with fail
    obtain ⟨s1, o1⟩ := store1 hbox (.int .i64 0)
    refine leaves_cons (f := 22) (args := #[.pointer (some ⟨w.heap.size, 0, none⟩)]) (by simp) (by simp [go_sem]) ?_
    refine (pt_idle w.heap.size _ _ s1).mono ?_
    rintro e u' w'' ⟨rfl, rfl, ho, hbox2⟩
    have c1 : w''.cell? ⟨w.heap.size, 0, none⟩ = some (.int .i64 0) := cell_of_block hbox2 rfl
    have hown2 := row_baseE (own_only (own_only hown o1 hsz1) ho hsz1) (Nat.le_of_lt hsz1)
    have hbf : Below w.heap.size w w'' := (hb02.trans (o1.below (Nat.le_refl _))).trans (ho.below (Nat.le_refl _))
    have q2 := QOK.out _ _ _ _ HE.out hbf hown2
    simp [Leaves, settle, results, Try.results9, go_sem, c1]
    exact q2
end Go.Proofs.Ytignjhmbajiphaa
