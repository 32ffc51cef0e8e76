/-
  readTruths: so many truths of bytes.
-/
import Derived.Test.YtfocmlajeflenaaPlRd
import Derived.Test.YtfocmlajeflenaaJ4
import Derived.Test.YtfocmlajeflenaaJ2
import Derived.Test.YtfocmlajeflenaaJ5
namespace Go.Proofs.Ytfocmlajeflenaa
set_option linter.unusedVariables false
set_option linter.unusedSimpArgs false
open Go.ChangeShapes Go.WideShapes Go.ChangeAt Go.RowKit Go.Deep

/-- a bit as a truth -/
def tr (x : Nat) : Dat := ⟨0, (x : Int), { data := #[] }⟩
def trs (L : List Nat) : List Dat := L.map tr
def d0 : Dat := ⟨0, 0, { data := #[] }⟩
theorem made_dat (n : Nat) : (madeCells (Value.agg #[.int .i64 0, .int .i64 0, .string { data := #[] }]).cells (n * 3)).toList = dcs (List.replicate n d0) := by
  have e0 : (Value.agg #[.int .i64 0, .int .i64 0, .string { data := #[] }]).cells = #[.int .i64 0, .int .i64 0, .string { data := #[] }] := rfl
  rw [e0]
  apply List.ext_getElem?
  intro j
  by_cases hj : j < n * 3
  · have hi : j / 3 < n := by omega
    have hd : (List.replicate n d0)[j / 3]? = some d0 := by rw [List.getElem?_replicate, if_pos hi]
    obtain ⟨h0, h1, h2⟩ := dcs_at _ _ _ hd
    have hc : j % 3 = 0 ∨ j % 3 = 1 ∨ j % 3 = 2 := by omega
    rcases hc with hc | hc | hc
    · rw [show j / 3 * 3 = j from by omega] at h0
      rw [h0]
      simp [madeCells, hj, hc, d0]
    · rw [show j / 3 * 3 + 1 = j from by omega] at h1
      rw [h1]
      simp [madeCells, hj, hc, d0]
    · rw [show j / 3 * 3 + 2 = j from by omega] at h2
      rw [h2]
      simp [madeCells, hj, hc, d0]
  · rw [List.getElem?_eq_none (l := dcs _) (by rw [dcs_len, List.length_replicate]; omega), List.getElem?_eq_none (by simp [madeCells]; omega)]
/-- the i-th of a row of one's own is set -/
theorem dcs_set : ∀ (l : List Dat) (i : Nat) (d : Dat), i < l.length → (((dcs l).set (i * 3) (.int .i64 d.k)).set (i * 3 + 1) (.int .i64 d.n)).set (i * 3 + 2) (.string d.s) = dcs (l.set i d)
  | [], i, d, h => by simp at h
  | x :: l, 0, d, h => by simp [dcs, dcells]
  | x :: l, i + 1, d, h => by
    have ih := dcs_set l i d (by simpa using h)
    rw [List.set_cons_succ, dcs, dcs, ← ih]
    rw [show (i + 1) * 3 = i * 3 + 3 from by omega, show i * 3 + 3 + 1 = i * 3 + 1 + 3 from by omega, show i * 3 + 3 + 2 = i * 3 + 2 + 3 from by omega]
    simp [dcells]
theorem trs_next {L : List Nat} {i n : Nat} {x : Nat} (hx : L[i]? = some x) (hn : L.length = n) : ((trs (L.take i)) ++ List.replicate (n - i) d0).set i (tr x) = trs (L.take (i + 1)) ++ List.replicate (n - (i + 1)) d0 := by
  obtain ⟨h1, h2⟩ := List.getElem?_eq_some_iff.1 hx
  rw [show n - i = (n - (i + 1)) + 1 from by omega, set_mid2 _ _ _ _ i (by simp [trs]; omega), List.take_succ_eq_append_getElem h1, h2]
  simp [trs]

theorem dat_store {w : World} {B g n c i : Nat} {l : List Dat} (h : w.ownsRow B 48 3 (.slice (some ⟨g, 0, none⟩) n c) n (dcs l)) (hi : i < l.length) (d : Dat) :
    (((w.setCell ⟨g, i * 3, none⟩ (.int .i64 d.k)).setCell ⟨g, i * 3 + 1, none⟩ (.int .i64 d.n)).setCell ⟨g, i * 3 + 2, none⟩ (.string d.s)).ownsRow B 48 3 (.slice (some ⟨g, 0, none⟩) n c) n (dcs (l.set i d)) := by
  have h1 := (((h.stored (i * 3) (.int .i64 d.k)).1.stored (i * 3 + 1) (.int .i64 d.n)).1.stored (i * 3 + 2) (.string d.s)).1
  rw [dcs_set l i d hi] at h1
  exact h1
theorem dat_cell {w : World} {B g n c i : Nat} {l : List Dat} (h : w.ownsRow B 48 3 (.slice (some ⟨g, 0, none⟩) n c) n (dcs l)) (hi : i < n) (hl : l.length = n) : ∃ u0 u1 u2, w.cell? ⟨g, i * 3, none⟩ = some u0 ∧ w.cell? ⟨g, i * 3 + 1, none⟩ = some u1 ∧ w.cell? ⟨g, i * 3 + 2, none⟩ = some u2 := by
  obtain ⟨h0, h1, h2⟩ := dcs_at l i _ (List.getElem?_eq_getElem (by omega))
  exact ⟨_, _, _, (h.cellAt _ (by omega)).trans h0, (h.cellAt _ (by omega)).trans h1, (h.cellAt _ (by omega)).trans h2⟩

set_option maxRecDepth 100000 in
set_option maxHeartbeats 4000000 in
theorem readTruths_any (w : World) (a : Option Addr) (len cap : Nat) (B : Nat) (ct er : Int) (L : List Nat) (h3 : -9223372036854775808 ≤ ct) (h4 : ct ≤ 65536)
    (hU : Calls Try.prog 56 #[.slice a len cap, .int .i64 1, .int .i64 ct] w fun e w' => ∃ v, e = .returned (.tuple #[v, .int .i64 er]) ∧ w'.ownsRow w.heap.size 65 1 v L.length (c64 L) ∧ Below w.heap.size w w')
    (hR : (er = 0 ∧ ct = (L.length : Int) ∧ ∀ x ∈ L, x < 2) ∨ (er ≠ 0 ∧ L = [])) :
    Calls Try.prog 42 #[.slice a len cap, .int .i64 ct] w fun e w' => ∃ v, e = .returned (.tuple #[v, .int .i64 er]) ∧ w'.ownsRow w.heap.size 48 3 v (trs L).length (dcs (trs L)) ∧ Below w.heap.size w w' := by
  rcases hR with ⟨rfl, rfl, hx⟩ | ⟨h0, rfl⟩
  · obtain ⟨i0, hi, hz0, hz1, hz2⟩ := info_parts infoD
    have hL : L.length ≤ 65536 := by omega
    have HX : Hid (∀ x ∈ L, x < 2) := hx
    clear hx
    go_enter Try.func42, Try.ntmps42
    go_wp2_with fail
    refine hU.mono ?_
    rintro e W1 ⟨v, rfl, hown, hb1⟩
    obtain ⟨va, vc, rfl⟩ := own_sl hown
    clear hU
    go_wp2_with (at_make; refine wpList_make_full _ rfl _ _ 25 rfl W1.heap.size 48 i0 _ 3 Try.underlying25 hi hz0 hz1 _ _ _ _ L.length rfl rfl rfl rfl (by rw [hz2]; omega) (by unfold maxLen; omega) (Nat.le_refl _) ?_; intro w1 hown1 hgrow1)
    rw [made_dat] at hown1
    have hgb : Below W1.heap.size W1 w1 := (Below.refl _ W1).grown hgrow1 (Nat.le_refl _) (fun _ e => by cases e)
    clear hgrow1
    have hsz1 := hb1.size
    have hnx : ∀ wr, Below W1.heap.size W1 wr → wr.ownsRow w.heap.size 65 1 (.slice va L.length vc) L.length (c64 L) := fun wr hb => own_below hown hb
    have HB1 : Hid (Below w.heap.size w W1) := hb1
    clear hown hb1
    go_loopw [24] (fun iv wr => ∃ i : Nat, i ≤ L.length ∧ iv = .int .i64 (i : Int) ∧ wr.ownsRow W1.heap.size 48 3 (.slice (some ⟨W1.heap.size, 0, none⟩) L.length L.length) L.length (dcs (trs (L.take i) ++ List.replicate (L.length - i) d0)) ∧ Below W1.heap.size W1 wr) (fun iv _ => L.length - (intOf iv).toNat)
    case atStart => exact ⟨0, Nat.zero_le _, rfl, by simpa [trs] using hown1, hgb⟩
    case round =>
      obtain ⟨i, hi', rfl, hown, hb⟩ := hrel
      clear hown1 hgb
      by_cases hlt : i < L.length
      · have hlt' : (i : Int) < (L.length : Int) := by omega
        obtain ⟨x, hx⟩ : ∃ x, L[i]? = some x := ⟨_, List.getElem?_eq_getElem hlt⟩
        have hx2 := HX.out x (List.mem_of_getElem? hx)
        have HXI : Hid (L[i]? = some x) := hx
        have ho := hnx wr hb
        obtain ⟨g, cp, hv⟩ : ∃ g cp, Value.slice va L.length vc = .slice (some ⟨g, 0, none⟩) L.length cp := by
          rcases ho.2 with ⟨_, h⟩ | ⟨g, cp, cur, h, _⟩
          · omega
          · exact ⟨g, cp, h⟩
        simp only [Value.slice.injEq, true_and] at hv
        obtain ⟨rfl, rfl⟩ := hv
        have cx : wr.cell? ⟨g, i, none⟩ = some (.int .u64 (x : Int)) := by
          rw [ho.cellAt i (by omega)]
          simp [c64, hx]
        have hll : (trs (L.take i) ++ List.replicate (L.length - i) d0).length = L.length := by simp [trs]; omega
        have HNX : Hid ((trs (L.take i) ++ List.replicate (L.length - i) d0).set i (tr x) = trs (L.take (i + 1)) ++ List.replicate (L.length - (i + 1)) d0) := trs_next hx rfl
        have HHB : Hid (Below W1.heap.size W1 wr) := hb
        have hbs := hb.size
        clear hx ho hb
        have hxc : x = 0 ∨ x = 1 := by omega
        rcases hxc with rfl | rfl
        · have BT := bool_f wr
          go_wp2_with fail
          refine BT.mono ?_
          rintro e W2 ⟨rfl, hb2⟩
          have hown2 := own_below hown hb2
          obtain ⟨u0, u1, u2, c0, c1, c2⟩ := dat_cell hown2 hlt hll
          have f0 := hown2.frozenAt (i * 3)
          have f1 := hown2.frozenAt (i * 3 + 1)
          have f2 := hown2.frozenAt (i * 3 + 2)
          have HST : Hid ((((W2.setCell ⟨W1.heap.size, i * 3, none⟩ (.int .i64 0)).setCell ⟨W1.heap.size, i * 3 + 1, none⟩ (.int .i64 0)).setCell ⟨W1.heap.size, i * 3 + 2, none⟩ (.string { data := #[] })).ownsRow W1.heap.size 48 3 (.slice (some ⟨W1.heap.size, 0, none⟩) L.length L.length) L.length (dcs (trs (L.take (i + 1)) ++ List.replicate (L.length - (i + 1)) d0))) := by
            have h := dat_store hown2 (i := i) (by omega) (tr 0)
            rw [HNX.out] at h
            exact h
          have HB2 : Hid (Below W1.heap.size W1 (((W2.setCell ⟨W1.heap.size, i * 3, none⟩ (.int .i64 0)).setCell ⟨W1.heap.size, i * 3 + 1, none⟩ (.int .i64 0)).setCell ⟨W1.heap.size, i * 3 + 2, none⟩ (.string { data := #[] }))) :=
            (((HHB.out.trans (hb2.mono hbs)).setCell (p := ⟨W1.heap.size, i * 3, none⟩) (Nat.le_refl _) _).setCell (p := ⟨W1.heap.size, i * 3 + 1, none⟩) (Nat.le_refl _) _).setCell (p := ⟨W1.heap.size, i * 3 + 2, none⟩) (Nat.le_refl _) _
          clear hown hown2 hb2 BT
          go_wp2_with fail
          go_roundw
          case rel => exact ⟨i + 1, by omega, by go_num, HST.out, HB2.out⟩
          case measure => simp [intOf]; omega
        · have BT := bool_t wr
          go_wp2_with fail
          refine BT.mono ?_
          rintro e W2 ⟨rfl, hb2⟩
          have hown2 := own_below hown hb2
          obtain ⟨u0, u1, u2, c0, c1, c2⟩ := dat_cell hown2 hlt hll
          have f0 := hown2.frozenAt (i * 3)
          have f1 := hown2.frozenAt (i * 3 + 1)
          have f2 := hown2.frozenAt (i * 3 + 2)
          have HST : Hid ((((W2.setCell ⟨W1.heap.size, i * 3, none⟩ (.int .i64 0)).setCell ⟨W1.heap.size, i * 3 + 1, none⟩ (.int .i64 1)).setCell ⟨W1.heap.size, i * 3 + 2, none⟩ (.string { data := #[] })).ownsRow W1.heap.size 48 3 (.slice (some ⟨W1.heap.size, 0, none⟩) L.length L.length) L.length (dcs (trs (L.take (i + 1)) ++ List.replicate (L.length - (i + 1)) d0))) := by
            have h := dat_store hown2 (i := i) (by omega) (tr 1)
            rw [HNX.out] at h
            exact h
          have HB2 : Hid (Below W1.heap.size W1 (((W2.setCell ⟨W1.heap.size, i * 3, none⟩ (.int .i64 0)).setCell ⟨W1.heap.size, i * 3 + 1, none⟩ (.int .i64 1)).setCell ⟨W1.heap.size, i * 3 + 2, none⟩ (.string { data := #[] }))) :=
            (((HHB.out.trans (hb2.mono hbs)).setCell (p := ⟨W1.heap.size, i * 3, none⟩) (Nat.le_refl _) _).setCell (p := ⟨W1.heap.size, i * 3 + 1, none⟩) (Nat.le_refl _) _).setCell (p := ⟨W1.heap.size, i * 3 + 2, none⟩) (Nat.le_refl _) _
          clear hown hown2 hb2 BT
          go_wp2_with fail
          go_roundw
          case rel => exact ⟨i + 1, by omega, by go_num, HST.out, HB2.out⟩
          case measure => simp [intOf]; omega
      · have hlt' : (L.length : Int) ≤ (i : Int) := by omega
        have HO : Hid (wr.ownsRow W1.heap.size 48 3 (.slice (some ⟨W1.heap.size, 0, none⟩) L.length L.length) (trs L).length (dcs (trs L))) := by
          have hil : i = L.length := by omega
          rw [hil, Nat.sub_self, List.take_of_length_le (Nat.le_refl _)] at hown
          simp only [List.replicate_zero, List.append_nil] at hown
          show World.ownsRow _ _ _ _ _ _ _
          rw [show (trs L).length = L.length from by simp [trs]]
          exact hown
        clear hown
        go_wp2_with fail
        go_ret2
        exact ⟨_, rfl, own_mono HO.out hsz1, HB1.out.trans (hb.mono hsz1)⟩
  · have h1 : (er == 0) = false := by simpa using h0
    go_enter Try.func42, Try.ntmps42
    go_wp2_with fail
    refine hU.mono ?_
    rintro e W1 ⟨v, rfl, hown, hb1⟩
    obtain ⟨va, vc, rfl⟩ := own_sl hown
    clear hU
    go_wp2_with fail
    go_ret2
    exact ⟨_, rfl, World.ownsRow_nil _ _ _ _, hb1⟩
end Go.Proofs.Ytfocmlajeflenaa
