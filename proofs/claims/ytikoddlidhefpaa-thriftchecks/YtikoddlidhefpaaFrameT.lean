/-
  A value that came in, opened: it lies as a tree.
-/
import Derived.Test.YtikoddlidhefpaaJ1
import Derived.SizedLaws
import Derived.Lib.SmallJoins
namespace Go.Proofs.Ytikoddlidhefpaa
set_option linter.unusedVariables false
open Go.ChangeShapes Go.WideShapes Go.ChangeAt Go.RowKit Go.Deep

theorem weightsAll_mem {H : Type} {P : Program} {e : TypeId} : ∀ {l : List (DataW H)} {i : Nat} {d : DataW H}, l[i]? = some d → ∀ n ∈ d.weights P e, n ∈ DataW.weightsAll P e l
  | [], _, _, h, _, _ => by simp at h
  | x :: l, 0, d, h, n, hn => by
    simp only [List.getElem?_cons_zero, Option.some.injEq] at h
    subst h
    simp only [DataW.weightsAll, List.mem_append]
    exact .inl hn
  | x :: l, i + 1, d, h, n, hn => by
    simp only [List.getElem?_cons_succ] at h
    simp only [DataW.weightsAll, List.mem_append]
    exact .inr (weightsAll_mem h n hn)
/-- the values of a row, one by one -/
theorem build_row (W : World) (b : Nat) : ∀ (n o : Nat), (∀ i, i < n → ∃ p c ia ic la lc, (∀ j u, (cells7 p ia ic la (flen c) lc)[j]? = some u → W.cell? ⟨b, o + i * 7 + j, none⟩ = some u) ∧ VIn W p c ia ic la lc) → (0 < n → b < W.heap.size) → ∃ f : Fo, flen f = n ∧ FAt W f (some ⟨b, o, none⟩)
  | 0, o, _, _ => ⟨.nil, rfl, trivial⟩
  | n + 1, o, h, hb => by
    obtain ⟨p, c, ia, ic, la, lc, h1, h2⟩ := h 0 (by omega)
    obtain ⟨f, f1, f2⟩ := build_row W b n (o + 7) (fun i hi => by
      obtain ⟨p, c, ia, ic, la, lc, h1, h2⟩ := h (i + 1) (by omega)
      exact ⟨p, c, ia, ic, la, lc, fun j u hj => by rw [← h1 j u hj]; congr 2; omega, h2⟩) (fun _ => hb (by omega))
    refine ⟨.node 0 0 p c f, by simp [flen, f1], b, o, rfl, hb (by omega), h2.ok, h2.len, ⟨ia, ic, la, lc, fun j u hj => ?_, h2.ids, h2.list⟩, f2⟩
    have := h1 j u hj
    simpa using this
theorem cells1 : Try.prog.cellsOf 22 = 1 ∧ Try.prog.cellsOf 2 = 1 ∧ Try.prog.cellsOf 9 = 1 ∧ Try.prog.cellsOf 23 = 1 ∧ Try.prog.cellsOf 24 = 1 ∧ Try.prog.cellsOf 26 = 7 := ⟨by kernel_rfl, by kernel_rfl, by kernel_rfl, by kernel_rfl, by kernel_rfl, by kernel_rfl⟩
theorem bytesTh : 1 ≤ Try.prog.bytesOf 26 := by
  have : Try.prog.bytesOf 26 = 96 := by kernel_rfl
  omega
theorem i64_of_wf {n : Int} (h : (Lit.int .i64 n).wf = true) : i64ok n := by
  simp [Lit.wf, IntKind.min, IntKind.max, IntKind.signed, IntKind.bits] at h
  exact ⟨by simpa using h.1, by simpa using h.2⟩
theorem list7 {α : Type} {l : List α} (h : l.length = 7) : ∃ a0 a1 a2 a3 a4 a5 a6, l = [a0, a1, a2, a3, a4, a5, a6] := by
  rcases l with _ | ⟨a0, _ | ⟨a1, _ | ⟨a2, _ | ⟨a3, _ | ⟨a4, _ | ⟨a5, _ | ⟨a6, _ | ⟨a7, l⟩⟩⟩⟩⟩⟩⟩⟩
  all_goals first | exact ⟨_, _, _, _, _, _, _, rfl⟩ | (simp at h)
theorem weights_th {H : Type} (y0 y1 y2 y3 y4 y5 y6 : DataW H) : DataW.weights Try.prog 26 (.agg [y0, y1, y2, y3, y4, y5, y6]) = DataW.weightsEach Try.prog [22, 22, 22, 2, 9, 23, 24] [y0, y1, y2, y3, y4, y5, y6] := by
  rw [DataW.weights, Try.underlying26]
  rfl
set_option maxRecDepth 10000 in
theorem open_th {H : Type} {enc : TypeId × Value → H} {W : World} {base : Nat} {held : Bool} : ∀ (fuel : Nat) (cs : List Value) (x : DataW H × List MemPlace), DataW.trod enc Try.prog W base (fun _ => true) held fuel 26 cs = some x → (∀ n ∈ x.1.weights Try.prog 26, n ≤ reachBytes) →
    ∃ p c ia ic la lc, cs = cells7 p ia ic la (flen c) lc ∧ VIn W p c ia ic la lc := by
  intro fuel
  induction fuel using Nat.strongRecOn with
  | ind fuel ih =>
    intro cs x h hw
    obtain ⟨xs, n, hfu, rfl, hcl, hxl, hf⟩ := DataW.trod_struct Try.underlying26 h
    obtain ⟨k1, k2, k3, k4, k5, k6⟩ := cells1
    rw [k6] at hcl
    have hxl7 : xs.length = 7 := hxl
    obtain ⟨c0, c1, c2, c3, c4, c5, c6, rfl⟩ := list7 hcl
    obtain ⟨y0, y1, y2, y3, y4, y5, y6, rfl⟩ := list7 hxl7
    have t0 : DataW.trod enc Try.prog W base (fun _ => true) held n 22 [c0] = some y0 := by simpa [k1] using hf 0 _ rfl
    have t1 : DataW.trod enc Try.prog W base (fun _ => true) held n 22 [c1] = some y1 := by simpa [k1] using hf 1 _ rfl
    have t2 : DataW.trod enc Try.prog W base (fun _ => true) held n 22 [c2] = some y2 := by simpa [k1] using hf 2 _ rfl
    have t3 : DataW.trod enc Try.prog W base (fun _ => true) held n 2 [c3] = some y3 := by simpa [k2] using hf 3 _ rfl
    have t4 : DataW.trod enc Try.prog W base (fun _ => true) held n 9 [c4] = some y4 := by simpa [k3] using hf 4 _ rfl
    have t5 : DataW.trod enc Try.prog W base (fun _ => true) held n 23 [c5] = some y5 := by simpa [k4] using hf 5 _ rfl
    have t6 : DataW.trod enc Try.prog W base (fun _ => true) held n 24 [c6] = some y6 := by simpa [k5] using hf 6 _ rfl
    have hw' : ∀ n ∈ DataW.weightsEach Try.prog [22, 22, 22, 2, 9, 23, 24] [y0.1, y1.1, y2.1, y3.1, y4.1, y5.1, y6.1], n ≤ reachBytes := by
      intro m hm
      refine hw m ?_
      simp only [List.map_cons, List.map_nil]
      rw [weights_th]
      exact hm
    obtain ⟨z0, e0, _, g0⟩ := DataW.trod_int Try.underlying22 t0
    obtain ⟨z1, e1, _, g1⟩ := DataW.trod_int Try.underlying22 t1
    obtain ⟨z2, e2, _, g2⟩ := DataW.trod_int Try.underlying22 t2
    obtain ⟨z3, e3, _, g3⟩ := DataW.trod_int Try.underlying2 t3
    obtain ⟨z4, e4, d4, g4⟩ := DataW.trod_string Try.underlying9 t4
    simp only [List.cons.injEq, and_true] at e0 e1 e2 e3 e4
    subst e0 e1 e2 e3 e4
    have hr : reachBytes ≤ 140737488355328 := by decide
    have hx4 : z4.size ≤ 140737488355328 := by
      have := hw' z4.data.toList.length (DataW.weights_mem_each (j := 4) (t := 9) (d := y4.1) rfl rfl _ (by rw [d4]; simp [DataW.weights]))
      simp at this
      have e : z4.size = z4.data.size := rfl
      omega
    obtain ⟨ids, ia, ic, e5, l5, n5, s5⟩ : ∃ (ids : List Int) (ia : Option Addr) (ic : Nat), c5 = .slice ia ids.length ic ∧ ids.length ≤ 140737488355328 ∧ (∀ n ∈ ids, i64ok n) ∧ Src W ia ids.length ic (c64 ids) := by
      rcases open_ints Try.underlying23 Try.underlying3 (by kernel_rfl) t5 with ⟨hcs, _⟩ | ⟨a, l, c, zs, hcs, _, hl, hm, hz, hx, hcell, hwz⟩
      · simp only [List.cons.injEq, and_true] at hcs
        exact ⟨[], none, 0, hcs, Nat.zero_le _, (fun n hn => by cases hn), rfl, .inl ⟨rfl, rfl, rfl⟩⟩
      · simp only [List.cons.injEq, and_true] at hcs
        subst hcs
        simp only [if_true] at hz
        have hlz : (zs.take l).length = l := by rw [List.length_take]; omega
        have hb8 : Try.prog.bytesOf 3 = 8 := by kernel_rfl
        have hwt := hw' (zs.length * 8) (DataW.weights_mem_each (j := 5) (t := 23) (d := y5.1) rfl rfl _ (by
          rw [hx]
          simp only [DataW.weights, Try.underlying23, hb8, lits, List.length_map, List.length_take, List.length_drop]
          rw [show min l zs.length + (zs.length - l) = zs.length by omega]
          exact List.mem_cons_self ..))
        refine ⟨zs.take l, some a, c, by rw [hlz], by omega, fun n hn => i64_of_wf (hwz n (List.mem_of_mem_take hn)), c64_len _, .inr ⟨a, rfl, fun j u hj => ?_⟩⟩
        have hjl : j < (zs.take l).length := by
          rcases Nat.lt_or_ge j (c64 (zs.take l)).length with hh | hh
          · rwa [c64_len] at hh
          · rw [List.getElem?_eq_none hh] at hj; cases hj
        rw [hcell j (by omega)]
        rw [c64_get hjl] at hj
        rw [← hj]
        congr 2
        simp only [List.getD, List.getElem?_take]
        rw [if_pos (by omega)]
    subst e5
    obtain ⟨c, la, lc, e6, l6, s6⟩ : ∃ (c : Fo) (la : Option Addr) (lc : Nat), c6 = .slice la (flen c) lc ∧ flen c ≤ 140737488355328 ∧ FAt W c la := by
      rcases DataW.trod_slice Try.underlying24 t6 with ⟨hcs, _⟩ | ⟨a, len, cap, elems, rest, n', hfu', hcs, hx, hb, hl, hm, hlen, hel, hsp, hns⟩
      · simp only [List.cons.injEq, and_true] at hcs
        exact ⟨.nil, none, 0, hcs, Nat.zero_le _, trivial⟩
      · simp only [List.cons.injEq, and_true] at hcs
        subst hcs
        have hwl : ∀ m ∈ y6.1.weights Try.prog 24, m ≤ reachBytes := fun m hm => hw' m (DataW.weights_mem_each (j := 6) (t := 24) (d := y6.1) rfl rfl _ hm)
        rw [hx] at hwl
        simp only [DataW.weights, Try.underlying24, List.length_map, List.mem_cons, List.mem_append] at hwl
        have hlen' : len ≤ 140737488355328 := by
          have h1 := hwl _ (.inl rfl)
          have h2 := bytesTh
          have h3 : len * 1 ≤ (elems.length + rest.length) * Try.prog.bytesOf 26 := Nat.mul_le_mul (by omega) h2
          omega
        have elem : ∀ i, i < len → ∃ cs', W.cells? base (a.add (i * 7)) 7 = some cs' ∧ ∃ p c ia ic la lc, cs' = cells7 p ia ic la (flen c) lc ∧ VIn W p c ia ic la lc := by
          intro i hi
          have he := hel i hi
          rw [k6, List.getElem?_eq_getElem (by omega)] at he
          obtain ⟨cs', hc1, hc2⟩ := Option.bind_eq_some_iff.1 he
          refine ⟨cs', hc1, ih n' (by omega) cs' _ hc2 fun m hm => ?_⟩
          refine hwl m (.inr (.inl (weightsAll_mem (i := i) (d := (elems[i]'(by omega)).1) ?_ m hm)))
          rw [List.getElem?_map, List.getElem?_eq_getElem (by omega)]
          rfl
        by_cases h0 : len = 0
        · subst h0
          exact ⟨.nil, some a, cap, rfl, Nat.zero_le _, trivial⟩
        · obtain ⟨b, o, sp⟩ := a
          obtain ⟨cs0, hc0, p0, c0, ia0, ic0, la0, lc0, rfl, _⟩ := elem 0 (by omega)
          obtain ⟨_, _, hcc⟩ := World.cells?_some hc0
          have hcell0 := hcc 0 (by omega)
          rw [show ((⟨b, o, sp⟩ : Addr).add (0 * 7)).add 0 = ⟨b, o, sp⟩ by simp [Addr.add]] at hcell0
          have hsp0 : sp = none := by
            have := World.cell?_spot (w := W) (a := ⟨b, o, sp⟩) (v := .int .i64 p0.kind) (by rw [hcell0]; rfl)
            simpa using this
          subst hsp0
          have hbl : b < W.heap.size := block_lt_of_cell (a := ⟨b, o, none⟩) (v := .int .i64 p0.kind) (by rw [hcell0]; rfl)
          obtain ⟨f, f1, f2⟩ := build_row W b len o (fun i hi => by
            obtain ⟨cs', hc1, p, c, ia, ic, la, lc, rfl, hv⟩ := elem i hi
            refine ⟨p, c, ia, ic, la, lc, fun j u hj => ?_, hv⟩
            obtain ⟨_, _, hcc⟩ := World.cells?_some hc1
            have hj7 : j < 7 := by
              rcases Nat.lt_or_ge j (cells7 p ia ic la (flen c) lc).length with hh | hh
              · simpa [cells7] using hh
              · rw [List.getElem?_eq_none hh] at hj; cases hj
            have := hcc j hj7
            rw [hj, show ((⟨b, o, none⟩ : Addr).add (i * 7)).add j = ⟨b, o + i * 7 + j, none⟩ by simp only [Addr.add]; split <;> split <;> simp_all] at this
            exact this) (fun _ => hbl)
          exact ⟨f, some ⟨b, o, none⟩, cap, by rw [f1], by rw [f1]; exact hlen', f2⟩
    subst e6
    exact ⟨⟨z0, z1, z2, z3, z4, ids⟩, c, ia, ic, la, lc, rfl, ⟨i64_of_wf g0, i64_of_wf g1, i64_of_wf g2, i64_of_wf g3, hx4, l5, n5⟩, l6, s5, s6⟩
set_option maxRecDepth 10000 in
/-- an argument -/
theorem arg_th {H : Type} {enc : TypeId × Value → H} {W : World} {base b0 : Nat} {held : Bool} {r : Reach} {v : Value} {d : DataW H} {p : List MemPlace} {ts : List TypeId} {ds : List (DataW H)}
    (hsz : (DataW.weightsEach Try.prog ts ds).all (· ≤ reachBytes) = true) (j : Nat) (ht : ts[j]? = some 26) (hd : ds[j]? = some d) (hv : Value.okWide Try.prog W r b0 26 v)
    (h : ∃ fuel, DataW.trod enc Try.prog W base (fun _ => true) held fuel 26 v.cells.toList = some (d, p)) : ∃ q c ia ic la lc, v = val q c ia ic la lc ∧ VIn W q c ia ic la lc := by
  obtain ⟨fuel, hf⟩ := h
  obtain ⟨cs, rfl, hcs⟩ := okWide_struct Try.underlying26 hv
  obtain ⟨q, c, ia, ic, la, lc, e, hin⟩ := open_th fuel _ _ hf (fun n hn => by
    have := List.all_eq_true.1 hsz n (DataW.weights_mem_each ht hd n hn)
    simpa using this)
  refine ⟨q, c, ia, ic, la, lc, ?_, hin⟩
  have e' : cs.toList = cells7 q ia ic la (flen c) lc := by simpa [Value.cells] using e
  have : cs = (cells7 q ia ic la (flen c) lc).toArray := by rw [← e']
  rw [this]
  rfl
end Go.Proofs.Ytikoddlidhefpaa
