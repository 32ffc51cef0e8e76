/-
  What holds others: the room is taken and given back.
-/
import Derived.Test.YtikoddlidhefpaaRdG
namespace Go.Proofs.Ytikoddlidhefpaa
set_option linter.unusedVariables false
set_option linter.unusedSimpArgs false
open Go.ChangeShapes Go.WideShapes Go.ChangeAt Go.RowKit Go.Deep

theorem rd_room {w0 w : World} {R m : Nat} {bs : List Nat} {room : Int} (h : Rd w0 w R m bs room) (x : Int) : Rd w0 (w.setCell ⟨R, 1, none⟩ (.int .i64 x)) R m bs x := by
  obtain ⟨a, cp, h1, h2⟩ := h.box
  refine ⟨⟨a, cp, ?_, h2⟩, h.b8, h.len, h.old.trans ((RF.setCell w 1 _).below (Nat.le_of_lt h.lt) |>.mono h.le), h.le⟩
  have e := set_block (j := 1) (u := .int .i64 x) h1
  simp only [List.setIfInBounds_toArray, List.set_cons_zero, List.set_cons_succ] at e
  exact e

/-- the end of a taker, with one more box laid -/
theorem finish_alloc {fn : Func} {tm : Tmp} (hfn : fn.results = #[.cell tm 26]) {Q : Ending → World → Prop} {tmps : Array Value} {w0 w W : World} {R m : Nat} {room : Int} {res : RV} {rest : List Nat} {p : Pay} {c : Fo} {x0 x1 x2 x3 x4 x5 x6 iv lv : Value} {o : Obj}
    (QOK : ∀ p c rest w' v, res = .ok ((p, c), rest) → RF R w w' → Rd w0 w' R m rest room → VX (fun b => w.heap.size ≤ b) w' p c v → Q (.returned v) w')
    (hp : tmps.getD tm undef = .pointer (some ⟨w.heap.size, 0, none⟩)) (hb : W.heap[w.heap.size]? = some (.cells #[x0, x1, x2, x3, x4, x5, x6] 26 (0, 0))) (hR : R < w.heap.size)
    (he : res = .ok ((p, c), rest)) (hf : RF R w W) (hrd : Rd w0 W R m rest room) (hx : VX (fun b => w.heap.size < b) W p c (.agg #[.int .i64 p.kind, .int .i64 p.key, .int .i64 p.elem, .int .i64 p.num, .string p.text, iv, lv])) :
    bodyPost Try.prog fn Q .ret { tmps := tmps, defers := [] } ((((((((W.setCell ⟨w.heap.size, 0, none⟩ (.int .i64 p.kind)).setCell ⟨w.heap.size, 1, none⟩ (.int .i64 p.key)).setCell ⟨w.heap.size, 2, none⟩ (.int .i64 p.elem)).setCell ⟨w.heap.size, 3, none⟩ (.int .i64 p.num)).setCell ⟨w.heap.size, 4, none⟩ (.string p.text)).setCell ⟨w.heap.size, 5, none⟩ iv).setCell ⟨w.heap.size, 6, none⟩ lv).alloc o) := by
  obtain ⟨s1, s2⟩ := store7 hb (.int .i64 p.kind) (.int .i64 p.key) (.int .i64 p.elem) (.int .i64 p.num) (.string p.text) iv lv
  have hab := alloc_below (((((((W.setCell ⟨w.heap.size, 0, none⟩ (.int .i64 p.kind)).setCell ⟨w.heap.size, 1, none⟩ (.int .i64 p.key)).setCell ⟨w.heap.size, 2, none⟩ (.int .i64 p.elem)).setCell ⟨w.heap.size, 3, none⟩ (.int .i64 p.num)).setCell ⟨w.heap.size, 4, none⟩ (.string p.text)).setCell ⟨w.heap.size, 5, none⟩ iv).setCell ⟨w.heap.size, 6, none⟩ lv) o
  refine bodyPost_ret (results_val hfn _ _ _ _ hp _ rfl (cells_of_block (below_at hab s1))) rfl ?_
  refine QOK p c rest _ _ he ((hf.only s2 (Nat.le_refl _)).trans (RF.of_below hab)) ((hrd.only s2 hR).later hab) ?_
  exact ((hx.kept fun k h1 h2 => s2.block k (by omega)).kept fun k h1 _ => hab.block k h1).mono fun b h => Nat.le_of_lt h

set_option maxRecDepth 10000 in
set_option maxHeartbeats 2000000 in
theorem nested1_any (w0 w : World) (R m : Nat) (bs : List Nat) (room : Int) (b1 b2 : Nat) (g : FuncId) (res : RV) (hr0 : 0 ≤ room) (hr1 : room ≤ 1000) (h : Rd w0 w R m bs room) (hw : Ways w R m)
    (k1 : w.heap[b1]? = some (.cells #[.pointer (some ⟨R, 0, none⟩)] 65 (0, 0))) (k2 : w.heap[b2]? = some (.cells #[.func (.func g) #[.pointer (some ⟨R, 0, none⟩)] #[]] 67 (0, 0))) (n1 : R < b1) (n2 : R < b2)
    (eg : ∀ args W, (callFunc g args).run Try.prog W = .ok (.enter g args) W) (G : ∀ W, Rd w0 W R m bs (room - 1) → Ways W R m → TakesV g #[.pointer (some ⟨R, 0, none⟩)] w0 W R m (room - 1) res) :
    TakesV 96 #[.pointer (some ⟨b1, 0, none⟩), .pointer (some ⟨b2, 0, none⟩)] w0 w R m room res := by
  intro Q QOK QNO
  have hab : Below w.heap.size w (zbox w) := alloc_below w _
  have hR := h.lt
  have hz := h.later hab
  have c1 : w.cell? ⟨b1, 0, none⟩ = some (.pointer (some ⟨R, 0, none⟩)) := cell_of_block k1 rfl
  have c2 : w.cell? ⟨b2, 0, none⟩ = some (.func (.func g) #[.pointer (some ⟨R, 0, none⟩)] #[]) := cell_of_block k2 rfl
  have l1 : b1 < w.heap.size := block_lt_of_cell c1
  have l2 : b2 < w.heap.size := block_lt_of_cell c2
  obtain ⟨a, cp, hx, _⟩ := h.box
  have cr : w.cell? ⟨R, 1, none⟩ = some (.int .i64 room) := cell_of_block hx rfl
  have fr : w.frozen? ⟨R, 1, none⟩ = false := frozen_of_block hx
  have hab1 := alloc_below (w.setCell ⟨R, 1, none⟩ (.int .i64 (room - 1))) (.cells #[.int .i64 0, .int .i64 0, .int .i64 0, .int .i64 0, .string { data := #[] }, .slice none 0 0, .slice none 0 0] 26)
  have hrd := (rd_room h (room - 1)).later hab1
  have hf0 := (RF.setCell (R := R) w 1 (.int .i64 (room - 1))).trans (RF.of_below hab1)
  have hww := hw.rf hf0
  have GG := G _ hrd hww
  have hsz : (w.setCell ⟨R, 1, none⟩ (.int .i64 (room - 1))).heap.size = w.heap.size := by simp [World.setCell]
  have hbz := heap_new (w.setCell ⟨R, 1, none⟩ (.int .i64 (room - 1))) (.cells #[.int .i64 0, .int .i64 0, .int .i64 0, .int .i64 0, .string { data := #[] }, .slice none 0 0, .slice none 0 0] 26)
  rw [hsz] at hbz
  have k1' := hf0.box k1 (by omega)
  have hne : b2 ≠ R := by omega
  have hne1 : b1 ≠ R := by omega
  obtain ⟨R1, HR1⟩ : ∃ r, r = room - 1 := ⟨_, rfl⟩
  have hR1 : R1 + 1 = room := by omega
  rw [← HR1] at GG hrd hf0 hww hbz k1' hsz hab1
  have hR1' : room - 1 = R1 := HR1.symm
  clear hx HR1 G
  go_enter Try.func96, Try.ntmps96
  go_wp2_with fail
  refine GG _ ?_ ?_
  · intro p c rest W2 v he hf2 hrd2 hvx
    obtain ⟨iv, lv, rfl, hp, hlc, hi, ys, hy, hel⟩ := hvx
    obtain ⟨ia, ic, rfl⟩ := own_sl hi.1
    obtain ⟨la, lc, rfl⟩ := own_sl hy.1
    have hR2 := hrd2.lt
    have hbz2 := hf2.box hbz (by omega)
    have hw2 : w.heap.size < W2.heap.size := by
      rcases Nat.lt_or_ge w.heap.size W2.heap.size with h1 | h1
      · exact h1
      · rw [Array.getElem?_eq_none h1] at hbz2; cases hbz2
    obtain ⟨⟨z0, z1, z2, z3, z4, z5, z6⟩, f0, f1, f2, f3, f4, f5, f6⟩ := blk7 hbz2
    have d1 : W2.cell? ⟨b1, 0, none⟩ = some (.pointer (some ⟨R, 0, none⟩)) := cell_of_block (hf2.box k1' hne1) rfl
    have m1 : b1 < W2.heap.size := block_lt_of_cell d1
    obtain ⟨a2, cp2, hx2, _⟩ := hrd2.box
    have cr2 : W2.cell? ⟨R, 1, none⟩ = some (.int .i64 R1) := cell_of_block hx2 rfl
    have fr2 : W2.frozen? ⟨R, 1, none⟩ = false := frozen_of_block hx2
    have hRw : R ≠ w.heap.size := by omega
    have hs2 := (rd_room hrd2 room)
    have hbz3 := (RF.setCell (R := R) W2 1 (.int .i64 room)).box hbz2 (by omega)
    have HVX : Hid (VX (fun b => w.heap.size < b) (W2.setCell ⟨R, 1, none⟩ (.int .i64 room)) p c (.agg #[.int .i64 p.kind, .int .i64 p.key, .int .i64 p.elem, .int .i64 p.num, .string p.text, .slice ia p.ids.length ic, .slice la (flen c) lc])) := by
      have hx : VX (fun b => w.heap.size < b) W2 p c (.agg #[.int .i64 p.kind, .int .i64 p.key, .int .i64 p.elem, .int .i64 p.num, .string p.text, .slice ia p.ids.length ic, .slice la (flen c) lc]) := by
        refine VX.mono (S := fun b => ((w.setCell ⟨R, 1, none⟩ (.int .i64 R1)).alloc (.cells #[.int .i64 0, .int .i64 0, .int .i64 0, .int .i64 0, .string { data := #[] }, .slice none 0 0, .slice none 0 0] 26)).heap.size ≤ b) ⟨_, _, rfl, hp, hlc, hi, ys, hy, hel⟩ fun b hb => ?_
        have hb' : w.heap.size + 1 ≤ b := by simpa [World.setCell] using hb
        omega
      refine hx.kept fun k h1 h2 => Below.heap_setCell _ _ _ _ (by show k ≠ R; omega)
    have HF : Hid (RF R w (W2.setCell ⟨R, 1, none⟩ (.int .i64 room))) := (hf0.trans hf2).trans (RF.setCell _ _ _)
    clear hi hy hel hp hlc
    go_wp2_with fail
    exact finish_alloc rfl QOK rfl hbz3 hR he HF.out hs2 HVX.out
  · intro s W2 he hf2
    have q := QNO s W2 he (hf0.trans hf2)
    obtain ⟨ch, hch⟩ : ∃ ch, gives s = .panicked ch := ⟨_, rfl⟩
    rw [hch] at q ⊢
    clear hch
    go_wp2_with fail
    exact ⟨rfl, q⟩
end Go.Proofs.Ytikoddlidhefpaa
