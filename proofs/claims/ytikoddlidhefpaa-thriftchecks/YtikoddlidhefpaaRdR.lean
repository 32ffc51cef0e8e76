/-
  Read.
-/
import Derived.Test.YtikoddlidhefpaaRdQ
import Derived.BigRegion
import Derived.Defers
import Derived.Recover
namespace Go.Proofs.Ytikoddlidhefpaa
set_option linter.unusedVariables false
set_option linter.unusedSimpArgs false
open Go.ChangeShapes Go.WideShapes Go.ChangeAt Go.RowKit Go.Deep

theorem one_setCell {w : World} {b : Nat} {x u : Value} {t : TypeId} (h : w.heap[b]? = some (.cells #[x] t (0, 0))) : (w.setCell ⟨b, 0, none⟩ u).heap[b]? = some (.cells #[u] t (0, 0)) := by
  have e := set_block (j := 0) (u := u) h
  simpa using e
theorem lt_of_heap {w : World} {b : Nat} {o : Obj} (h : w.heap[b]? = some o) : b < w.heap.size := (Array.getElem?_eq_some_iff.1 h).1

set_option maxRecDepth 10000 in
set_option maxHeartbeats 1000000 in
theorem catch_ends (b : Nat) (x : Value) (w : World) (hb : w.heap[b]? = some (.cells #[x] 30 (0, 0))) :
    CallsD Try.prog 37 #[.pointer (some ⟨b, 0, none⟩)] (.panicking [{ v := .iface 63 (.agg #[]), recovered := false }]) w fun e u' w' =>
      e = .returned (.tuple #[]) ∧ u' = .panicking [{ v := .iface 63 (.agg #[]), recovered := true }] ∧ Below b w w' ∧ w'.heap[b]? = some (.cells #[.int .i64 6] 30 (0, 0)) := by
  have c0 : w.cell? ⟨b, 0, none⟩ = some x := cell_of_block hb rfl
  have f0 : w.frozen? ⟨b, 0, none⟩ = false := frozen_of_block hb
  have hlt := lt_of_heap hb
  have t1 : ∀ W : World, (Instr.typeAssert (.iface 63 (.agg #[])) 20 63 true).run Try.prog W = .ok (.tuple #[.agg #[], .bool true]) W := fun W => by kernel_rfl
  refine callsD_of_wpS Try.func37 rfl fun c₀ cs hu => ?_
  apply wpS_seq
  apply wpS_region
  simp [wpOpsS, go_sem, recoverD, hu, Try.ntmps37, Exit.thenS, Array.replicate, List.replicate]
  refine wpS_of_wp ?_
  go_wp2
  simp [bodyPostS, results, Try.results37]
  exact ⟨((Below.refl b w).setCell (p := ⟨b, 0, none⟩) (Nat.le_refl _) _).alloc (by simp [World.setCell]; omega) _, by rw [(alloc_below _ _).block b (by simp [World.setCell]; omega)]; exact one_setCell hb⟩
set_option maxRecDepth 10000 in
set_option maxHeartbeats 1000000 in
theorem catch_not (b : Nat) (x : Value) (w : World) (hb : w.heap[b]? = some (.cells #[x] 30 (0, 0))) :
    CallsD Try.prog 37 #[.pointer (some ⟨b, 0, none⟩)] (.panicking [{ v := .iface 64 (.agg #[]), recovered := false }]) w fun e u' w' =>
      e = .returned (.tuple #[]) ∧ u' = .panicking [{ v := .iface 64 (.agg #[]), recovered := true }] ∧ Below b w w' ∧ w'.heap[b]? = some (.cells #[.int .i64 8] 30 (0, 0)) := by
  have c0 : w.cell? ⟨b, 0, none⟩ = some x := cell_of_block hb rfl
  have f0 : w.frozen? ⟨b, 0, none⟩ = false := frozen_of_block hb
  have hlt := lt_of_heap hb
  have t0 : ∀ W : World, (Instr.typeAssert (.iface 64 (.agg #[])) 20 63 true).run Try.prog W = .ok (.tuple #[.agg #[], .bool false]) W := fun W => by kernel_rfl
  have t1 : ∀ W : World, (Instr.typeAssert (.iface 64 (.agg #[])) 20 64 true).run Try.prog W = .ok (.tuple #[.agg #[], .bool true]) W := fun W => by kernel_rfl
  refine callsD_of_wpS Try.func37 rfl fun c₀ cs hu => ?_
  apply wpS_seq
  apply wpS_region
  simp [wpOpsS, go_sem, recoverD, hu, Try.ntmps37, Exit.thenS, Array.replicate, List.replicate]
  refine wpS_of_wp ?_
  go_wp2
  simp [bodyPostS, results, Try.results37]
  exact ⟨((Below.refl b w).setCell (p := ⟨b, 0, none⟩) (Nat.le_refl _) _).alloc (by simp [World.setCell]; omega) _, by rw [(alloc_below _ _).block b (by simp [World.setCell]; omega)]; exact one_setCell hb⟩
set_option maxRecDepth 10000 in
set_option maxHeartbeats 1000000 in
theorem catch_idle (b : Nat) (w : World) :
    CallsD Try.prog 37 #[.pointer (some ⟨b, 0, none⟩)] .returning w fun e u' w' => e = .returned (.tuple #[]) ∧ u' = .returning ∧ w' = w := by
  refine callsD_of_wpS Try.func37 rfl fun c₀ cs hu => ?_
  apply wpS_seq
  apply wpS_region
  simp [wpOpsS, go_sem, recoverD, hu, Try.ntmps37, Exit.thenS, Array.replicate, List.replicate]
  refine wpS_of_wp ?_
  go_wp2
  cases c₀
  simp_all [bodyPostS, results, Try.results37]

/-- why it was given up, as a number -/
def why (s : Bool) : Int := if s then 6 else 8
theorem catch_any (b : Nat) (x : Value) (w : World) (s : Bool) (hb : w.heap[b]? = some (.cells #[x] 30 (0, 0))) :
    CallsD Try.prog 37 #[.pointer (some ⟨b, 0, none⟩)] (.panicking [{ v := .iface (if s then 63 else 64) (.agg #[]), recovered := false }]) w fun e u' w' =>
      e = .returned (.tuple #[]) ∧ u' = .panicking [{ v := .iface (if s then 63 else 64) (.agg #[]), recovered := true }] ∧ Below b w w' ∧ w'.heap[b]? = some (.cells #[.int .i64 (why s)] 30 (0, 0)) := by
  cases s
  · exact catch_not b x w hb
  · exact catch_ends b x w hb
theorem read_boxes (w : World) : Below w.heap.size w ((zbox w).alloc (.cells #[.int .i64 0] 30)) ∧ ((zbox w).alloc (.cells #[.int .i64 0] 30)).heap[w.heap.size]? = some (.cells #[.int .i64 0, .int .i64 0, .int .i64 0, .int .i64 0, .string { data := #[] }, .slice none 0 0, .slice none 0 0] 26 (0, 0)) ∧
    ((zbox w).alloc (.cells #[.int .i64 0] 30)).heap[w.heap.size + 1]? = some (.cells #[.int .i64 0] 30 (0, 0)) ∧ ((zbox w).alloc (.cells #[.int .i64 0] 30)).heap.size = w.heap.size + 2 := by
  have hs : (zbox w).heap.size = w.heap.size + 1 := by simp [zbox]
  have h1 := alloc_below (zbox w) (.cells #[.int .i64 0] 30)
  rw [hs] at h1
  refine ⟨Below.trans (alloc_below w _) (h1.mono (Nat.le_succ _)), ?_, ?_, by simp [zbox]⟩
  · rw [h1.block _ (Nat.lt_succ_self _)]
    exact heap_new w _
  · have := heap_new (zbox w) (.cells #[.int .i64 0] 30)
    rwa [hs] at this
/-- the three results of Read -/
theorem results_read (tmps : Array Value) (w : World) (b d : Nat) (x : Int) (hp : tmps.getD 2 undef = .pointer (some ⟨b, 0, none⟩)) (hx : tmps.getD 3 undef = .int .i64 x) (hd : tmps.getD 4 undef = .pointer (some ⟨d, 0, none⟩)) (cs : List Value) (hl : cs.length = 7)
    (hc : ∀ j u, cs[j]? = some u → w.cell? ⟨b, 0 + j, none⟩ = some u) (e : Value) (he : w.cell? ⟨d, 0, none⟩ = some e) : (results Try.f21 tmps).run Try.prog w = .ok (.tuple #[.agg cs.toArray, .int .i64 x, e]) w := by
  have hp' : tmps[2]?.getD undef = .pointer (some ⟨b, 0, none⟩) := by simpa using hp
  have hx' : tmps[3]?.getD undef = .int .i64 x := by simpa using hx
  have hd' : tmps[4]?.getD undef = .pointer (some ⟨d, 0, none⟩) := by simpa using hd
  have hld : (loadCells ⟨b, 0, none⟩ cs.length).run Try.prog w = .ok cs.toArray w :=
    run_loadCells_list (P := Try.prog) w ⟨b, 0, none⟩ cs (fun j v hv => by
      have hadd : (⟨b, 0, none⟩ : Addr).add j = ⟨b, 0 + j, none⟩ := by unfold Addr.add; split <;> simp_all
      rw [hadd]
      exact hc j v hv)
  rw [hl] at hld
  have hagg : (isAgg 26).run Try.prog w = .ok true w := by
    unfold isAgg
    rw [Sem.run_bind, run_underlying Try.underlying26 w]
    simp
  have hi := infoTh
  cases hq : Try.prog.info? 26 with
  | none => simp [hq] at hi
  | some i =>
    have hs : i.size = 7 := by simpa [hq] using hi
    have hr : Try.f21.results = #[.cell 2 26, .tmp 3, .cell 4 30] := rfl
    have hl7 : (loadVar 26 ⟨b, 0, none⟩).run Try.prog w = .ok (.agg cs.toArray) w := by simp [loadVar, Sem.run_bind, hagg, sizeOf, typeInfo, hq, hs, hld]
    have hle : (loadVar 30 ⟨d, 0, none⟩).run Try.prog w = .ok e w := by simp [loadVar, go_sem, he]
    simp [results, hr, hp', hx', hd', asAddr, hl7, hle, Sem.run_bind]
theorem gives_ends (s : Bool) : gives s = .panicked [{ v := .iface (if s then 63 else 64) (.agg #[]), recovered := false }] := rfl
set_option maxRecDepth 10000 in
set_option maxHeartbeats 1000000 in
theorem read_q (w : World) (a : Option Addr) (bs : List Nat) (cp : Nat) (hs : Src w a bs.length cp (c8 bs)) (hc : bs.length ≤ cp) (hl : bs.length ≤ 140737488355328) (h8 : ∀ c ∈ bs, c < 256) (Q : Ending → World → Prop)
    (QOK : ∀ p c rest v w', rRead bs = .ok ((p, c), rest) → Below w.heap.size w w' → VX (fun b => w.heap.size ≤ b) w' p c v → Q (.returned (.tuple #[v, .int .i64 ((bs.length : Int) - (rest.length : Int)), .int .i64 0])) w')
    (QNO : ∀ s w', rRead bs = .error s → Below w.heap.size w w' → Q (.returned (.tuple #[.agg #[.int .i64 0, .int .i64 0, .int .i64 0, .int .i64 0, .string { data := #[] }, .slice none 0 0, .slice none 0 0], .int .i64 0, .int .i64 (why s)])) w') :
    Calls Try.prog 21 #[.slice a bs.length cp] w Q := by
  have hmf : ∀ (fn : Fn) (first cap : Array Value) (w : World), (Instr.makeFunc fn first cap).run Try.prog w = .ok (.func fn first cap) w := fun _ _ _ _ => rfl
  obtain ⟨hab, hbz, hbe, hbs⟩ := read_boxes w
  have N := newReader_any ((zbox w).alloc (.cells #[.int .i64 0] 30)) a bs cp (hs.later hab) hc hl h8
  rw [hbs] at N
  obtain ⟨L, hL⟩ : ∃ L, L = bs.length := ⟨_, rfl⟩
  have HL : Hid (L = bs.length) := hL
  rw [← hL] at N hl hc QOK ⊢
  clear hL hs
  have HZ : Hid (((zbox w).alloc (.cells #[.int .i64 0] 30)).heap[w.heap.size]? = some (.cells #[.int .i64 0, .int .i64 0, .int .i64 0, .int .i64 0, .string { data := #[] }, .slice none 0 0, .slice none 0 0] 26 (0, 0))) := hbz
  have HE : Hid (((zbox w).alloc (.cells #[.int .i64 0] 30)).heap[w.heap.size + 1]? = some (.cells #[.int .i64 0] 30 (0, 0))) := hbe
  clear hbz hbe
  go_enter_defers Try.func21, Try.ntmps21
  go_wp2_with fail
  refine N.mono ?_
  rintro e W1 ⟨m, rfl, hrd, hW, hb1⟩
  have WO := way_ok _ W1 _ m bs 32 12 hrd hW rfl
  have z1 := by have h := HZ.out; rw [← hb1.block _ (by omega)] at h; exact h
  have e1 := by have h := HE.out; rw [← hb1.block _ (by omega)] at h; exact h
  have hbw : Below w.heap.size w W1 := hab.trans (hb1.mono (by omega))
  clear HZ HE N
  generalize (zbox w).alloc (.cells #[.int .i64 0] 30) = W0 at *
  go_wp2_with fail
  refine WO.mono ?_
  rintro e wx ⟨⟨fn, fa, fb, rfl, hwi⟩, hwx⟩
  obtain rfl := hwx.symm
  obtain ⟨f, fa', fb', ef, eg, G⟩ := ways_all W0 (w.heap.size + 2) m 32 (by omega) 12 _ W1 rfl hW hwi
  cases ef
  have GG := G W1 bs (RF.refl _ _) hrd
  clear G WO hwi
  go_wp2_with fail
  refine GG _ ?_ ?_
  · intro p c rest W2 v he hf2 hrd2 hvx
    have he' : rRead bs = .ok ((p, c), rest) := he
    have z2 := hf2.box z1 (by omega)
    have e2 := hf2.box e1 (by omega)
    have hbw2 : Below w.heap.size w W2 := hbw.trans ((hf2.below (Nat.le_of_lt hrd.lt)).mono (by omega))
    obtain ⟨iv, lv, rfl, hp, hlc, hi, ys, hy, hel⟩ := hvx
    obtain ⟨ia, ic, rfl⟩ := own_sl hi.1
    obtain ⟨la, lc, rfl⟩ := own_sl hy.1
    obtain ⟨⟨q0, q1, q2, q3, q4, q5, q6⟩, g0, g1, g2, g3, g4, g5, g6⟩ := blk7 z2
    obtain ⟨s1, s2⟩ := store7 z2 (.int .i64 p.kind) (.int .i64 p.key) (.int .i64 p.elem) (.int .i64 p.num) (.string p.text) (.slice ia p.ids.length ic) (.slice la (flen c) lc)
    have HX : Hid (VX (fun b => w.heap.size + 1 < b) W2 p c (.agg #[.int .i64 p.kind, .int .i64 p.key, .int .i64 p.elem, .int .i64 p.num, .string p.text, .slice ia p.ids.length ic, .slice la (flen c) lc])) := VX.mono ⟨_, _, rfl, hp, hlc, hi, ys, hy, hel⟩ (fun b hb => by have := hbw.size; have := hb1.size; omega)
    have HRL : Hid (rest.length ≤ bs.length) := good_len good_read he'
    clear GG hrd hW hp hlc hi hy hel
    go_wp2_with fail
    generalize hW3 : ((((((W2.setCell ⟨w.heap.size, 0, none⟩ (.int .i64 p.kind)).setCell ⟨w.heap.size, 1, none⟩ (.int .i64 p.key)).setCell ⟨w.heap.size, 2, none⟩ (.int .i64 p.elem)).setCell ⟨w.heap.size, 3, none⟩ (.int .i64 p.num)).setCell ⟨w.heap.size, 4, none⟩ (.string p.text)).setCell ⟨w.heap.size, 5, none⟩ (.slice ia p.ids.length ic)).setCell ⟨w.heap.size, 6, none⟩ (.slice la (flen c) lc) = W3 at *
    have e3 : W3.heap[w.heap.size + 1]? = some (.cells #[.int .i64 0] 30 (0, 0)) := by rw [s2.block _ (by omega)]; exact e2
    obtain ⟨ra, rc, hbox2, _⟩ := hrd2.box
    have hbox := (s2.block (w.heap.size + 2) (by omega)).trans hbox2
    have hbw3 : Below w.heap.size w W3 := ⟨s2.os.trans hbw2.os, s2.tape.trans hbw2.tape, s2.output.trans hbw2.output, by rw [← s2.size]; exact hbw2.size, fun k hk => by rw [s2.block k (by omega), hbw2.block k hk]⟩
    clear hW3 q0 q1 q2 q3 q4 q5 q6 g0 g1 g2 g3 g4 g5 g6 z2 e2 hrd2
    obtain ⟨⟨q0, q1, q2, q3, q4, q5, q6⟩, g0, g1, g2, g3, g4, g5, g6⟩ := blk7 s1
    have r0 : W3.cell? ⟨w.heap.size + 2, 0, none⟩ = some (.slice ra rest.length rc) := cell_of_block hbox rfl
    have x0 : W3.cell? ⟨w.heap.size + 1, 0, none⟩ = some (.int .i64 0) := cell_of_block e3 rfl
    have y0 : W3.frozen? ⟨w.heap.size + 1, 0, none⟩ = false := frozen_of_block e3
    have hrl : (rest.length : Int) ≤ L := by have := HRL.out; have := HL.out; omega
    have hL' : (L : Int) ≤ 140737488355328 := by omega
    obtain ⟨s3, s4⟩ := store7 s1 (.int .i64 p.kind) (.int .i64 p.key) (.int .i64 p.elem) (.int .i64 p.num) (.string p.text) (.slice ia p.ids.length ic) (.slice la (flen c) lc)
    go_region
    clear q0 q1 q2 q3 q4 q5 q6 g0 g1 g2 g3 g4 g5 g6 r0 x0 y0 hbox
    generalize hW4 : ((((((W3.setCell ⟨w.heap.size, 0, none⟩ (.int .i64 p.kind)).setCell ⟨w.heap.size, 1, none⟩ (.int .i64 p.key)).setCell ⟨w.heap.size, 2, none⟩ (.int .i64 p.elem)).setCell ⟨w.heap.size, 3, none⟩ (.int .i64 p.num)).setCell ⟨w.heap.size, 4, none⟩ (.string p.text)).setCell ⟨w.heap.size, 5, none⟩ (.slice ia p.ids.length ic)).setCell ⟨w.heap.size, 6, none⟩ (.slice la (flen c) lc) = W4 at *
    have O5 : Only (w.heap.size + 1) W4 (W4.setCell ⟨w.heap.size + 1, 0, none⟩ (.int .i64 0)) := (Only.refl _ _).set _ _
    have e4 : W4.heap[w.heap.size + 1]? = some (.cells #[.int .i64 0] 30 (0, 0)) := by rw [s4.block _ (by omega)]; exact e3
    have e5 := one_setCell (u := .int .i64 0) e4
    have z5 := (O5.block w.heap.size (by omega)).trans s3
    have HX5 : Hid (VX (fun b => w.heap.size ≤ b) (W4.setCell ⟨w.heap.size + 1, 0, none⟩ (.int .i64 0)).drew p c (.agg #[.int .i64 p.kind, .int .i64 p.key, .int .i64 p.elem, .int .i64 p.num, .string p.text, .slice ia p.ids.length ic, .slice la (flen c) lc])) := by
      have k0 : VX (fun b => w.heap.size + 1 < b) W2 p c (.agg #[.int .i64 p.kind, .int .i64 p.key, .int .i64 p.elem, .int .i64 p.num, .string p.text, .slice ia p.ids.length ic, .slice la (flen c) lc]) := HX.out
      have k1 := k0.kept (w' := W3) fun k h1 h2 => s2.block k (by omega)
      have k2 := k1.kept (w' := W4) fun k h1 h2 => s4.block k (by omega)
      have k3 := k2.kept (w' := W4.setCell ⟨w.heap.size + 1, 0, none⟩ (.int .i64 0)) fun k h1 h2 => O5.block k (by omega)
      exact (k3.kept (w' := (W4.setCell ⟨w.heap.size + 1, 0, none⟩ (.int .i64 0)).drew) fun k h1 h2 => rfl).mono fun b hb => by omega
    have hbw5 : Below w.heap.size w (W4.setCell ⟨w.heap.size + 1, 0, none⟩ (.int .i64 0)).drew := by
      have h4 : Below w.heap.size w W4 := ⟨s4.os.trans hbw3.os, s4.tape.trans hbw3.tape, s4.output.trans hbw3.output, by rw [← s4.size]; exact hbw3.size, fun k hk => by rw [s4.block k (by omega), hbw3.block k hk]⟩
      exact (h4.setCell (p := ⟨w.heap.size + 1, 0, none⟩) (Nat.le_succ _) _).drew
    have q := QOK p c rest _ _ he' hbw5 HX5.out
    generalize W4.setCell ⟨w.heap.size + 1, 0, none⟩ (.int .i64 0) = W5 at *
    clear QOK QNO HX HX5
    go_wp2_with fail
    refine leaves_cons (f := 37) (args := #[.pointer (some ⟨w.heap.size + 1, 0, none⟩)]) (by simp) (by simp [go_sem]) ?_
    refine (catch_idle (w.heap.size + 1) W5.drew).mono ?_
    rintro e u' W6 ⟨rfl, rfl, hw6⟩
    obtain rfl := hw6.symm
    exact ⟨_, results_read _ W5.drew w.heap.size (w.heap.size + 1) _ rfl rfl rfl _ rfl (cells_of_block (show W5.drew.heap[w.heap.size]? = _ from z5)) _ (cell_of_block (show W5.drew.heap[w.heap.size + 1]? = _ from e5) rfl), q⟩
  · intro s W2 he hf2
    have z2 := hf2.box z1 (by omega)
    have e2 := hf2.box e1 (by omega)
    have hbw2 : Below w.heap.size w W2 := hbw.trans ((hf2.below (Nat.le_of_lt hrd.lt)).mono (by omega))
    clear GG hrd hW
    cases s
    · have C := catch_not (w.heap.size + 1) _ W2 e2
      have q := fun w' hb => QNO false w' he hb
      clear QOK QNO
      unfold gives
      go_wp2_with fail
      refine leaves_cons (f := 37) (args := #[.pointer (some ⟨w.heap.size + 1, 0, none⟩)]) (by simp) (by simp [go_sem]) ?_
      refine C.mono ?_
      rintro e u' W3 ⟨rfl, rfl, hb3, e3⟩
      have z3 : W3.heap[w.heap.size]? = some (.cells #[.int .i64 0, .int .i64 0, .int .i64 0, .int .i64 0, .string { data := #[] }, .slice none 0 0, .slice none 0 0] 26 (0, 0)) := (hb3.block w.heap.size (by omega)).trans z2
      have q1 := q W3 (hbw2.trans (hb3.mono (by omega)))
      exact ⟨_, results_read _ W3 w.heap.size (w.heap.size + 1) 0 rfl rfl rfl _ rfl (cells_of_block z3) _ (cell_of_block e3 rfl), q1⟩
    · have C := catch_ends (w.heap.size + 1) _ W2 e2
      have q := fun w' hb => QNO true w' he hb
      clear QOK QNO
      unfold gives
      go_wp2_with fail
      refine leaves_cons (f := 37) (args := #[.pointer (some ⟨w.heap.size + 1, 0, none⟩)]) (by simp) (by simp [go_sem]) ?_
      refine C.mono ?_
      rintro e u' W3 ⟨rfl, rfl, hb3, e3⟩
      have z3 : W3.heap[w.heap.size]? = some (.cells #[.int .i64 0, .int .i64 0, .int .i64 0, .int .i64 0, .string { data := #[] }, .slice none 0 0, .slice none 0 0] 26 (0, 0)) := (hb3.block w.heap.size (by omega)).trans z2
      have q1 := q W3 (hbw2.trans (hb3.mono (by omega)))
      exact ⟨_, results_read _ W3 w.heap.size (w.heap.size + 1) 0 rfl rfl rfl _ rfl (cells_of_block z3) _ (cell_of_block e3 rfl), q1⟩
end Go.Proofs.Ytikoddlidhefpaa
