/-
  Check, Size, isStructure: which values may be, how many there are, how deep.
-/
import Derived.Test.YtikoddlidhefpaaCheckB
namespace Go.Proofs.Ytikoddlidhefpaa
open Go.ChangeShapes Go.WideShapes Go.ChangeAt Go.RowKit Go.Deep

/-- the room that is left in a value -/
def rm (p : Pay) (room : Int) : Int := if nestsB p.kind = true then room - 1 else room
def mayF : Fo → Int → Bool
  | .nil, _ => true
  | .node _ _ p c r, room => (decide (0 ≤ rm p room) && inOrderB p c && mayF c (rm p room)) && mayF r room
def mayV (p : Pay) (c : Fo) (room : Int) : Bool := decide (0 ≤ rm p room) && inOrderB p c && mayF c (rm p room)
theorem mayF_node (b o : Nat) (p : Pay) (c r : Fo) (room : Int) : mayF (.node b o p c r) room = (mayV p c room && mayF r room) := rfl

def MayC (p : Pay) (c : Fo) : Prop := ∀ (w : World) (ia : Option Addr) (ic : Nat) (la : Option Addr) (lc : Nat) (room : Int), VIn w p c ia ic la lc → -1000 ≤ room → room ≤ 1000 →
  Calls Try.prog 28 #[val p c ia ic la lc, .int .i64 room] w fun e w' => e = .returned (.bool (mayV p c room)) ∧ Below w.heap.size w w'

set_option maxHeartbeats 1000000 in
theorem mayBe_step (p : Pay) (c : Fo) (ih : ∀ x ∈ elems c, MayC x.1 x.2) : MayC p c := by
  intro w ia ic la lc room hv hr0 hr1
  have t3 := hv.len
  have t3' : (flen c : Int) ≤ 140737488355328 := by omega
  have hb0 : Below (w.heap.size + 1) (bx w p c ia ic la lc) (bx w p c ia ic la lc) := Below.refl _ _
  have N := nests_any p.kind (bx w p c ia ic la lc)
  have O := isInOrder_any p c (bx w p c ia ic la lc) ia ic la lc (hv.later (alloc_below _ _))
  obtain ⟨t, HT⟩ : ∃ t, Hid (nestsB p.kind = t) := ⟨_, rfl⟩
  obtain ⟨q, HQ⟩ : ∃ q, Hid (inOrderB p c = q) := ⟨_, rfl⟩
  rw [HT.out] at N
  rw [HQ.out] at O
  obtain ⟨R, hR1, hR2, HR⟩ : ∃ R, -1001 ≤ R ∧ R ≤ 1000 ∧ Hid (rm p room = R) := by
    refine ⟨rm p room, ?_, ?_, rfl⟩ <;> (unfold rm; split <;> omega)
  have HR' : Hid (R = if t = true then room - 1 else room) := by show _ = _; rw [← HR.out, ← HT.out]; rfl
  go_enter Try.func28, Try.ntmps28
  go_wp2_with fail
  refine N.mono ?_
  rintro e wx ⟨rfl, hwx⟩
  obtain rfl := hwx.symm
  have HV : Hid (mayV p c room = (decide (0 ≤ R) && q && mayF c R)) := by show _ = _; unfold mayV; rw [HR.out, HQ.out]
  clear N
  have fin : ∀ (K : Act → World → Prop), True := fun _ => trivial
  cases t
  · have hRR : R = room := by simpa using HR'.out
    subst hRR
    clear HR HR' HT fin
    by_cases hneg : R < 0
    · have HN : Hid (mayV p c R = false) := by show _ = _; rw [HV.out]; simp; intro h; omega
      go_wp2_with fail
      go_ret
      exact ⟨by rw [HN.out]; rfl, box_below hb0⟩
    · have hneg' : 0 ≤ R := by omega
      go_wp2_with fail
      refine O.mono ?_
      rintro e wx ⟨rfl, hwx⟩
      rw [bx_size] at hwx
      clear O
      obtain ⟨y0, y1, y2, y3, y4, y5, y6⟩ := bx_cells hwx
      cases q
      · have HN : Hid (mayV p c R = false) := by show _ = _; rw [HV.out]; simp
        go_wp2_with fail
        go_ret
        exact ⟨by rw [HN.out]; rfl, box_below hwx⟩
      · have HM : Hid (mayV p c R = mayF c R) := by show _ = _; rw [HV.out]; simp [hneg']
        clear HV HQ
        go_wp2_with fail
        go_loopw [22] (fun iv wr => ∃ i : Nat, i ≤ flen c ∧ iv = .int .i64 i ∧ Hid (mayF (fdrop c i) R = mayF c R) ∧ Below (w.heap.size + 1) (bx w p c ia ic la lc) wr) (fun iv _ => flen c - (intOf iv).toNat)
        case atStart => exact ⟨0, Nat.zero_le _, rfl, by cases c <;> rfl, hwx⟩
        case round =>
          obtain ⟨i, hi, rfl, H, hb⟩ := hrel
          by_cases hlt : i < flen c
          · have hlt' : (i : Int) < (flen c : Int) := by omega
            obtain ⟨q, d, b, o, ja, jc, na, nc, bt, ot, _, hm, ef, rfl, hbl, hv', d0, d1, d2, d3, d4, d5, d6⟩ := row_at (hv.list.later (box_below hb)) hlt
            have hab := alloc_below wr (.cells #[.int .i64 q.kind, .int .i64 q.key, .int .i64 q.elem, .int .i64 q.num, .string q.text, .slice ja q.ids.length jc, .slice na (flen d) nc] 26)
            have K := ih _ hm _ ja jc na nc R (hv'.later hab) (by omega) (by omega)
            simp only at K
            have HS : Hid ((mayV q d R && mayF (fdrop c (i + 1)) R) = mayF c R) := by show _ = _; rw [← H.out, ef, mayF_node]
            clear H ef
            generalize mayV q d R = s at *
            go_wp2_with fail
            refine K.mono ?_
            rintro e wz ⟨rfl, hwz⟩
            have hb2 := hb.trans ((hab.trans (hwz.mono hab.size)).mono (box_size hb))
            clear K hwz hab
            cases s
            · have HN : Hid (mayV p c R = false) := by show _ = _; rw [HM.out, ← HS.out]; simp
              go_wp2_with fail
              go_ret
              exact ⟨by rw [HN.out]; rfl, box_below hb2⟩
            · have HN : Hid (mayF (fdrop c (i + 1)) R = mayF c R) := by show _ = _; rw [← HS.out]; simp
              go_wp2_with fail
              go_roundw
              case rel => exact ⟨i + 1, by omega, by go_num, HN, hb2⟩
              case measure => simp [intOf]; omega
          · have hlt' : (flen c : Int) ≤ (i : Int) := by omega
            have HN : Hid (mayV p c R = true) := by
              show _ = _
              rw [HM.out, ← H.out, show i = flen c by omega, fdrop_end]
              rfl
            go_wp2_with fail
            go_ret
            exact ⟨by rw [HN.out]; rfl, box_below hb⟩
  · have hRR : R = room - 1 := by simpa using HR'.out
    have HRR : Hid (R = room - 1) := hRR
    have e1 : room - 1 = R := hRR.symm
    clear HR HR' HT fin
    by_cases hneg : R < 0
    · have HN : Hid (mayV p c room = false) := by show _ = _; rw [HV.out]; simp; intro h; omega
      clear hRR
      go_wp2_with fail
      go_ret
      exact ⟨by rw [HN.out]; rfl, box_below hb0⟩
    · have hneg' : 0 ≤ R := by omega
      clear hRR
      go_wp2_with fail
      refine O.mono ?_
      rintro e wx ⟨rfl, hwx⟩
      rw [bx_size] at hwx
      clear O
      obtain ⟨y0, y1, y2, y3, y4, y5, y6⟩ := bx_cells hwx
      cases q
      · have HN : Hid (mayV p c room = false) := by show _ = _; rw [HV.out]; simp
        go_wp2_with fail
        go_ret
        exact ⟨by rw [HN.out]; rfl, box_below hwx⟩
      · have HM : Hid (mayV p c room = mayF c R) := by show _ = _; rw [HV.out]; simp [hneg']
        clear HV HQ
        go_wp2_with fail
        go_loopw [22] (fun iv wr => ∃ i : Nat, i ≤ flen c ∧ iv = .int .i64 i ∧ Hid (mayF (fdrop c i) R = mayF c R) ∧ Below (w.heap.size + 1) (bx w p c ia ic la lc) wr) (fun iv _ => flen c - (intOf iv).toNat)
        case atStart => exact ⟨0, Nat.zero_le _, rfl, by cases c <;> rfl, hwx⟩
        case round =>
          obtain ⟨i, hi, rfl, H, hb⟩ := hrel
          by_cases hlt : i < flen c
          · have hlt' : (i : Int) < (flen c : Int) := by omega
            obtain ⟨q, d, b, o, ja, jc, na, nc, bt, ot, _, hm, ef, rfl, hbl, hv', d0, d1, d2, d3, d4, d5, d6⟩ := row_at (hv.list.later (box_below hb)) hlt
            have hab := alloc_below wr (.cells #[.int .i64 q.kind, .int .i64 q.key, .int .i64 q.elem, .int .i64 q.num, .string q.text, .slice ja q.ids.length jc, .slice na (flen d) nc] 26)
            have K := ih _ hm _ ja jc na nc R (hv'.later hab) (by omega) (by omega)
            simp only at K
            have HS : Hid ((mayV q d R && mayF (fdrop c (i + 1)) R) = mayF c R) := by show _ = _; rw [← H.out, ef, mayF_node]
            clear H ef
            generalize mayV q d R = s at *
            go_wp2_with fail
            refine K.mono ?_
            rintro e wz ⟨rfl, hwz⟩
            have hb2 := hb.trans ((hab.trans (hwz.mono hab.size)).mono (box_size hb))
            clear K hwz hab
            cases s
            · have HN : Hid (mayV p c room = false) := by show _ = _; rw [HM.out, ← HS.out]; simp
              go_wp2_with fail
              go_ret
              exact ⟨by rw [HN.out]; rfl, box_below hb2⟩
            · have HN : Hid (mayF (fdrop c (i + 1)) R = mayF c R) := by show _ = _; rw [← HS.out]; simp
              go_wp2_with fail
              go_roundw
              case rel => exact ⟨i + 1, by omega, by go_num, HN, hb2⟩
              case measure => simp [intOf]; omega
          · have hlt' : (flen c : Int) ≤ (i : Int) := by omega
            have HN : Hid (mayV p c room = true) := by
              show _ = _
              rw [HM.out, ← H.out, show i = flen c by omega, fdrop_end]
              rfl
            go_wp2_with fail
            go_ret
            exact ⟨by rw [HN.out]; rfl, box_below hb⟩

theorem mayBe_any (p : Pay) (c : Fo) : MayC p c := every_value mayBe_step p c

theorem check_any (p : Pay) (c : Fo) (w : World) (ia : Option Addr) (ic : Nat) (la : Option Addr) (lc : Nat) (hv : VIn w p c ia ic la lc) :
    Calls Try.prog 13 #[val p c ia ic la lc] w fun e w' => e = .returned (.int .i64 (if mayV p c 32 = true then 0 else 2)) ∧ Below w.heap.size w w' := by
  have M := mayBe_any p c (bx w p c ia ic la lc) ia ic la lc 32 (hv.later (alloc_below _ _)) (by omega) (by omega)
  have hb0 : Below w.heap.size w (bx w p c ia ic la lc) := alloc_below _ _
  generalize mayV p c 32 = t at *
  go_enter Try.func13, Try.ntmps13
  go_wp2_with fail
  refine M.mono ?_
  rintro e wx ⟨rfl, hwx⟩
  have hb := hb0.trans (hwx.mono hb0.size)
  cases t
  · go_wp2_with fail
    go_ret
    exact ⟨rfl, hb⟩
  · go_wp2_with fail
    go_ret
    exact ⟨rfl, hb⟩

theorem isStructure_any (p : Pay) (c : Fo) (w : World) (ia : Option Addr) (ic : Nat) (la : Option Addr) (lc : Nat) (hv : VIn w p c ia ic la lc) :
    Calls Try.prog 32 #[val p c ia ic la lc] w fun e w' => e = .returned (.bool (decide (p.kind = 12) && mayV p c 32)) ∧ Below w.heap.size w w' := by
  have M := check_any p c (bx w p c ia ic la lc) ia ic la lc (hv.later (alloc_below _ _))
  have hb0 : Below w.heap.size w (bx w p c ia ic la lc) := alloc_below _ _
  generalize mayV p c 32 = t at *
  by_cases hk : p.kind = 12
  · have e : (decide (p.kind = 12) && t) = t := by simp [hk]
    rw [e]
    clear e
    unfold bx val at M
    unfold bx at hb0
    rw [hk] at M hb0
    go_enter Try.func32, Try.ntmps32
    go_wp2_with fail
    refine M.mono ?_
    rintro e wx ⟨rfl, hwx⟩
    have hb := hb0.trans (hwx.mono hb0.size)
    cases t
    · go_wp2_with fail
      go_ret
      exact ⟨rfl, hb⟩
    · go_wp2_with fail
      go_ret
      exact ⟨rfl, hb⟩
  · have e : (decide (p.kind = 12) && t) = false := by simp [hk]
    rw [e]
    clear e
    go_enter Try.func32, Try.ntmps32
    go_wp2_with fail
    go_ret
    exact ⟨rfl, hb0⟩

end Go.Proofs.Ytikoddlidhefpaa
