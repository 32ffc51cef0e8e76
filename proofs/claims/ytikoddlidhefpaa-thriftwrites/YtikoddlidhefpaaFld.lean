/-
  copyOf of a value that holds no others; Field.
-/
import Derived.Test.YtikoddlidhefpaaJ5
import Derived.Test.YtikoddlidhefpaaBin
import Derived.Test.YtikoddlidhefpaaBound
namespace Go.Proofs.Ytikoddlidhefpaa
set_option linter.unusedVariables false
set_option linter.unusedSimpArgs false
open Go.ChangeShapes Go.WideShapes Go.ChangeAt Go.RowKit Go.Deep

theorem run_append_none {P : Program} {w : World} (base : Nat) (t ty e : TypeId) (i : TypeInfo) (size k : Nat) (ht : P.underlying t = some (.slice e)) (hi : P.info? e = some i) (v : Value) (n : Nat) (xs : List Value) (hown : w.ownsRow base e size v n xs) :
    (Builtin.append_ #[t, t] ty #[v, .slice none 0 k]).run P w = .ok v w := by
  rcases hown.2 with ⟨rfl, rfl⟩ | ⟨g, cap, cur, rfl, _, _, hnc, _⟩
  · simp [Builtin.append_, run_underlying ht, sizeOf, typeInfo, hi, Builtin.lenOf, Builtin.firstCells]
  · simp [Builtin.append_, run_underlying ht, sizeOf, typeInfo, hi, Builtin.lenOf, Builtin.firstCells, hnc, storeCells]
/-- an append of cells that can be read off a slice, of elements of any size -/
theorem wpList_append_srcN {P : Program} {w : World} {ops : Array Oper} {rest : List Oper} {o : Oper} {a : Act} {Q : Exit → Act → World → Prop} (hgd : o.guard = none) (s x : Operand) (t : TypeId)
    (ho : o.op = .call { callee := .builtin .append, args := #[s, x], argTypes := #[t, t] })
    (base : Nat) (e : TypeId) (i : TypeInfo) (z : Value) (size bytes : Nat) (ht : P.underlying t = some (.slice e)) (hi : P.info? e = some i) (hz : i.zero = some z)
    (hsize : i.size = size) (hby : i.bytes = bytes) (hzs : z.cells.size = size) (hsz : 0 < size)
    (v : Value) (n : Nat) (xs : List Value) (hs : a.eval s = v) (hown : w.ownsRow base e size v n xs)
    (ad : Option Addr) (m c : Nat) (news : List Value) (hx : a.eval x = .slice ad m c) (hl : news.length = m * size) (hsrc : (ad = none ∧ m = 0) ∨ ∃ p, ad = some p ∧ ∀ j u, news[j]? = some u → w.cell? (p.add j) = some u) (h1 : ∀ u ∈ news, u.oneCell' = true)
    (h63 : n + m ≤ maxLen) (hbytes : (n + m) * bytes ≤ 140737488355328) (hbase : base ≤ w.heap.size)
    (h : ∀ v' w', w'.ownsRow base e size v' (n + m) (xs ++ news) → Below base w w' → wpList P ops Q rest (a.put o.dst v') w') : wpList P ops Q (o :: rest) a w := by
  rcases hsrc with ⟨rfl, rfl⟩ | ⟨p, rfl, h2⟩
  · have hn : news = [] := List.length_eq_zero_iff.1 (by simpa using hl)
    subst hn
    refine wpList_plain hgd fun K hK => ?_
    have hrun := run_append_none (P := P) (w := w) base t o.type e i size c ht hi v n xs hown
    unfold Oper.wp
    simp [execOp, ho, resolve, invoke, builtin, hs, hx, hrun, Result.andThen]
    exact hK _ _ (h v w (by simpa using hown) (Below.refl _ _))
  · refine wpList_append_own w hgd s x t ho base e i z size bytes ht hi hz hsize hby hzs hsz v n xs hs hown p m c news hx hl h2 h1 h63 hbytes hbase ?_
    intro v' w' ho' hg _
    exact h v' w' ho' ((Below.refl base w).grown hg hbase (fun k hk => (hown.lt k hk).1))

theorem set5 {w : World} {b : Nat} {x0 x1 x2 x3 x4 x5 x6 : Value} {t : TypeId} (h : w.heap[b]? = some (.cells #[x0, x1, x2, x3, x4, x5, x6] t (0, 0))) (u : Value) : (w.setCell ⟨b, 5, none⟩ u).heap[b]? = some (.cells #[x0, x1, x2, x3, x4, u, x6] t (0, 0)) := by
  have e := set_block (j := 5) (u := u) h
  simp only [List.setIfInBounds_toArray, List.set_cons_zero, List.set_cons_succ] at e
  exact e
theorem set6 {w : World} {b : Nat} {x0 x1 x2 x3 x4 x5 x6 : Value} {t : TypeId} (h : w.heap[b]? = some (.cells #[x0, x1, x2, x3, x4, x5, x6] t (0, 0))) (u : Value) : (w.setCell ⟨b, 6, none⟩ u).heap[b]? = some (.cells #[x0, x1, x2, x3, x4, x5, u] t (0, 0)) := by
  have e := set_block (j := 6) (u := u) h
  simp only [List.setIfInBounds_toArray, List.set_cons_zero, List.set_cons_succ] at e
  exact e
/-- a copy of a value: it lies apart -/
def CopyC (p : Pay) (c : Fo) : Prop := ∀ (w : World) (ia : Option Addr) (ic : Nat) (la : Option Addr) (lc : Nat), VIn w p c ia ic la lc → (p.ids.length : Int) + totF c ≤ 1000000 →
  Calls Try.prog 42 #[val p c ia ic la lc] w fun e w' => ∃ v, e = .returned v ∧ VX (fun b => w.heap.size ≤ b) w' p c v ∧ Below w.heap.size w w'

theorem copy_boxes (w : World) (p : Pay) (c : Fo) (ia : Option Addr) (ic : Nat) (la : Option Addr) (lc : Nat) : Below w.heap.size w (zbox (bx w p c ia ic la lc)) ∧ (zbox (bx w p c ia ic la lc)).heap[w.heap.size]? = some (.cells #[.int .i64 p.kind, .int .i64 p.key, .int .i64 p.elem, .int .i64 p.num, .string p.text, .slice ia p.ids.length ic, .slice la (flen c) lc] 26 (0, 0)) ∧
    (zbox (bx w p c ia ic la lc)).heap[w.heap.size + 1]? = some (.cells #[.int .i64 0, .int .i64 0, .int .i64 0, .int .i64 0, .string { data := #[] }, .slice none 0 0, .slice none 0 0] 26 (0, 0)) ∧ (zbox (bx w p c ia ic la lc)).heap.size = w.heap.size + 2 := by
  have hs : (bx w p c ia ic la lc).heap.size = w.heap.size + 1 := by simp
  have h1 := alloc_below (bx w p c ia ic la lc) (.cells #[.int .i64 0, .int .i64 0, .int .i64 0, .int .i64 0, .string { data := #[] }, .slice none 0 0, .slice none 0 0] 26)
  rw [hs] at h1
  refine ⟨Below.trans (alloc_below w _) (h1.mono (Nat.le_succ _)), ?_, ?_, by simp [zbox]⟩
  · rw [h1.block _ (Nat.lt_succ_self _)]
    exact heap_new w _
  · have := heap_new (bx w p c ia ic la lc) (.cells #[.int .i64 0, .int .i64 0, .int .i64 0, .int .i64 0, .string { data := #[] }, .slice none 0 0, .slice none 0 0] 26)
    rwa [hs] at this
set_option maxRecDepth 10000 in
set_option maxHeartbeats 1000000 in
theorem copy_leaf (p : Pay) (hi : p.ids = []) : CopyC p .nil := by
  intro w ia ic la lc hv _
  obtain ⟨i0, hi0, hz0, hz1, hz2⟩ := infoTh'
  obtain ⟨j0, hj0, jz0, jz1, jz2⟩ := infoInt'
  obtain ⟨hab, hbx, hbz, hbs⟩ := copy_boxes w p .nil ia ic la lc
  have hsi : ∀ (W : World), (ia = none ∧ 0 = 0) ∨ ∃ q, ia = some q ∧ ∀ j u, ([] : List Value)[j]? = some u → W.cell? (q.add j) = some u := by
    intro W
    cases ia with
    | none => exact .inl ⟨rfl, rfl⟩
    | some q => exact .inr ⟨q, rfl, fun j u hj => by simp at hj⟩
  have hsl : ∀ (W : World), (la = none ∧ 0 = 0) ∨ ∃ q, la = some q ∧ ∀ j u, ([] : List Value)[j]? = some u → W.cell? (q.add j) = some u := by
    intro W
    cases la with
    | none => exact .inl ⟨rfl, rfl⟩
    | some q => exact .inr ⟨q, rfl, fun j u hj => by simp at hj⟩
  have HSI : Hid (∀ (W : World), (ia = none ∧ 0 = 0) ∨ ∃ q, ia = some q ∧ ∀ j u, ([] : List Value)[j]? = some u → W.cell? (q.add j) = some u) := hsi
  have HSL : Hid (∀ (W : World), (la = none ∧ 0 = 0) ∨ ∃ q, la = some q ∧ ∀ j u, ([] : List Value)[j]? = some u → W.cell? (q.add j) = some u) := hsl
  clear hsi hsl
  obtain ⟨k, y, z, n, x, l⟩ := p
  simp only at hi
  subst hi
  have hok := hv.ok
  obtain ⟨⟨b0, b1, b2, b3, b4, b5, b6⟩, c0, c1, c2, c3, c4, c5, c6⟩ := blk7 hbx
  have HBX : Hid ((zbox (bx w ⟨k, y, z, n, x, []⟩ .nil ia ic la lc)).heap[w.heap.size]? = some (.cells #[.int .i64 k, .int .i64 y, .int .i64 z, .int .i64 n, .string x, .slice ia 0 ic, .slice la 0 lc] 26 (0, 0))) := hbx
  have HBZ : Hid ((zbox (bx w ⟨k, y, z, n, x, []⟩ .nil ia ic la lc)).heap[w.heap.size + 1]? = some (.cells #[.int .i64 0, .int .i64 0, .int .i64 0, .int .i64 0, .string { data := #[] }, .slice none 0 0, .slice none 0 0] 26 (0, 0))) := hbz
  clear hbx hbz hv
  unfold val
  have HB0 : Hid (w.heap.size + 2 ≤ (zbox (bx w ⟨k, y, z, n, x, []⟩ .nil ia ic la lc)).heap.size) := Nat.le_of_eq hbs.symm
  have HAB : Hid (Below w.heap.size w (zbox (bx w ⟨k, y, z, n, x, []⟩ .nil ia ic la lc))) := hab
  clear hab hbs
  go_enter Try.func42, Try.ntmps42
  go_wp2_with (first | (at_builtin; refine wpList_append_srcN rfl (.const (.slice none 0 0)) (.tmp 6) 23 rfl (w.heap.size + 2) 3 j0 _ 1 j0.bytes Try.underlying23 hj0 jz0 jz1 rfl rfl (by decide) (.slice none 0 0) 0 [] rfl (World.ownsRow_nil _ _ _ _) ia 0 ic [] rfl rfl (HSI.out _) (fun u hu => by cases hu) (by unfold maxLen; omega) (by omega) HB0.out ?_; intro v1 W1 q1 q2; have HQ1 : Hid (W1.ownsRow (w.heap.size + 2) 3 1 v1 0 [] ∧ Below (w.heap.size + 2) (zbox (bx w ⟨k, y, z, n, x, []⟩ .nil ia ic la lc)) W1) := ⟨q1, q2⟩; clear q1 q2; obtain ⟨ia1, ic1, rfl⟩ := own_sl HQ1.out.1; have hv1 : W1.heap[w.heap.size]? = some (.cells #[.int .i64 k, .int .i64 y, .int .i64 z, .int .i64 n, .string x, .slice ia 0 ic, .slice la 0 lc] 26 (0, 0)) := (HQ1.out.2.block _ (by omega)).trans HBX.out; have hz1' : W1.heap[w.heap.size + 1]? = _ := (HQ1.out.2.block _ (by omega)).trans HBZ.out; have hl1 : w.heap.size + 2 ≤ W1.heap.size := Nat.le_trans HB0.out HQ1.out.2.size; clear b0 b1 b2 b3 b4 b5 b6 c0 c1 c2 c3 c4 c5 c6; obtain ⟨⟨b0, b1, b2, b3, b4, b5, b6⟩, c0, c1, c2, c3, c4, c5, c6⟩ := blk7 hv1) | (at_builtin; refine wpList_append_srcN rfl (.const (.slice none 0 0)) (.tmp 10) 24 rfl W1.heap.size 26 i0 _ 7 i0.bytes Try.underlying24 hi0 hz0 hz1 rfl rfl (by decide) (.slice none 0 0) 0 [] rfl (World.ownsRow_nil _ _ _ _) la 0 lc [] rfl rfl (HSL.out _) (fun u hu => by cases hu) (by unfold maxLen; omega) (by omega) (by simp [World.setCell]) ?_; intro v2 W2 q1 q2; have HQ2 : Hid (W2.ownsRow W1.heap.size 26 7 v2 0 [] ∧ Below W1.heap.size (W1.setCell ⟨w.heap.size, 5, none⟩ (.slice ia1 0 ic1)) W2) := ⟨q1, q2⟩; clear q1 q2; obtain ⟨la1, lc1, rfl⟩ := own_sl HQ2.out.1; have hv2 : W2.heap[w.heap.size]? = some (.cells #[.int .i64 k, .int .i64 y, .int .i64 z, .int .i64 n, .string x, .slice ia1 0 ic1, .slice la 0 lc] 26 (0, 0)) := (HQ2.out.2.block _ (by omega)).trans (set5 hv1 _); have hz2' : W2.heap[w.heap.size + 1]? = some (.cells #[.int .i64 0, .int .i64 0, .int .i64 0, .int .i64 0, .string { data := #[] }, .slice none 0 0, .slice none 0 0] 26 (0, 0)) := (HQ2.out.2.block _ (by omega)).trans ((Below.heap_setCell _ _ _ _ (by show w.heap.size + 1 ≠ w.heap.size; omega)).trans hz1'); have hl2 : w.heap.size + 2 ≤ W2.heap.size := Nat.le_trans (by simp only [World.setCell, Array.size_modify]; exact hl1) HQ2.out.2.size; clear b0 b1 b2 b3 b4 b5 b6 c0 c1 c2 c3 c4 c5 c6; obtain ⟨⟨b0, b1, b2, b3, b4, b5, b6⟩, c0, c1, c2, c3, c4, c5, c6⟩ := blk7 hv2))
  have HE : Hid (VX (fun b => w.heap.size + 1 < b) (W2.setCell ⟨w.heap.size, 6, none⟩ (.slice la1 0 lc1)) ⟨k, y, z, n, x, []⟩ .nil (.agg #[.int .i64 k, .int .i64 y, .int .i64 z, .int .i64 n, .string x, .slice ia1 0 ic1, .slice la1 0 lc1])) := by
    have h1 : (W2.setCell ⟨w.heap.size, 6, none⟩ (.slice la1 0 lc1)).ownsRow (w.heap.size + 2) 3 1 (.slice ia1 0 ic1) 0 [] := row_kept HQ1.out.1 fun g hg => by
      have := row_own HQ1.out.1 g hg
      rw [Below.heap_setCell _ _ _ _ (by show g ≠ w.heap.size; omega), HQ2.out.2.block g (by omega), Below.heap_setCell _ _ _ _ (by show g ≠ w.heap.size; omega)]
    have h2 : (W2.setCell ⟨w.heap.size, 6, none⟩ (.slice la1 0 lc1)).ownsRow W1.heap.size 26 7 (.slice la1 0 lc1) 0 [] := row_kept HQ2.out.1 fun g hg => by
      have := row_own HQ2.out.1 g hg
      rw [Below.heap_setCell _ _ _ _ (by show g ≠ w.heap.size; omega)]
    exact ⟨_, _, rfl, hok, Nat.zero_le _, ⟨row_zero h1, fun g hg => by have := row_own h1 g hg; omega⟩, [], ⟨row_zero h2, fun g hg => by have := row_own h2 g hg; omega⟩, rfl⟩
  have HBF : Hid (Below w.heap.size w (W2.setCell ⟨w.heap.size, 6, none⟩ (.slice la1 0 lc1))) := by
    have k1 := HAB.out.trans (HQ1.out.2.mono (by omega))
    have k2 := k1.setCell (p := ⟨w.heap.size, 5, none⟩) (Nat.le_refl _) (.slice ia1 0 ic1)
    have k3 := k2.trans (HQ2.out.2.mono (by omega))
    exact k3.setCell (p := ⟨w.heap.size, 6, none⟩) (Nat.le_refl _) _
  have hv3 := set6 hv2 (.slice la1 0 lc1)
  have hz3 : (W2.setCell ⟨w.heap.size, 6, none⟩ (.slice la1 0 lc1)).heap[w.heap.size + 1]? = some (.cells #[.int .i64 0, .int .i64 0, .int .i64 0, .int .i64 0, .string { data := #[] }, .slice none 0 0, .slice none 0 0] 26 (0, 0)) := (Below.heap_setCell _ _ _ _ (by show w.heap.size + 1 ≠ w.heap.size; omega)).trans hz2'
  generalize W2.setCell ⟨w.heap.size, 6, none⟩ (.slice la1 0 lc1) = W3 at *
  clear b0 b1 b2 b3 b4 b5 b6 c0 c1 c2 c3 c4 c5 c6 hv1 hv2 hz1' hz2' HQ1 HQ2
  obtain ⟨⟨b0, b1, b2, b3, b4, b5, b6⟩, c0, c1, c2, c3, c4, c5, c6⟩ := blk7 hv3
  obtain ⟨⟨z0, z1, z2, z3, z4, z5, z6⟩, g0, g1, g2, g3, g4, g5, g6⟩ := blk7 hz3
  go_loop [16] (fun iv => iv = .int .i64 0) (fun _ => 0)
  case atStart => rfl
  case round =>
    subst hrel
    go_wp2_with fail
    obtain ⟨s1, s2⟩ := store7 hz3 (.int .i64 k) (.int .i64 y) (.int .i64 z) (.int .i64 n) (.string x) (.slice ia1 0 ic1) (.slice la1 0 lc1)
    refine bodyPost_ret (results_val rfl _ _ _ _ rfl _ rfl (cells_of_block s1)) rfl ?_
    refine ⟨_, rfl, (HE.out.kept fun k h1 h2 => s2.block k (by omega)).mono fun b hb => by omega, ?_⟩
    exact ⟨s2.os.trans HBF.out.os, s2.tape.trans HBF.out.tape, s2.output.trans HBF.out.output, by rw [← s2.size]; exact HBF.out.size, fun k hk => by rw [s2.block k (by omega), HBF.out.block k hk]⟩
/-- the two results of Field -/
theorem results_fld (tmps : Array Value) (w : World) (b : Nat) (x : Bool) (hp : tmps.getD 4 undef = .pointer (some ⟨b, 0, none⟩)) (hx : tmps.getD 5 undef = .bool x) (cs : List Value) (hl : cs.length = 7)
    (hc : ∀ j u, cs[j]? = some u → w.cell? ⟨b, 0 + j, none⟩ = some u) : (results Try.f25 tmps).run Try.prog w = .ok (.tuple #[.agg cs.toArray, .bool x]) w := by
  have hp' : tmps[4]?.getD undef = .pointer (some ⟨b, 0, none⟩) := by simpa using hp
  have hx' : tmps[5]?.getD undef = .bool x := by simpa using hx
  have hld : (loadCells ⟨b, 0, none⟩ cs.length).run Try.prog w = .ok cs.toArray w :=
    run_loadCells_list (P := Try.prog) w ⟨b, 0, none⟩ cs (fun j v hv => by
      have hadd : (⟨b, 0, none⟩ : Addr).add j = ⟨b, 0 + j, none⟩ := by unfold Addr.add; split <;> simp_all
      rw [hadd]
      exact hc j v hv)
  rw [hl] at hld
  have hagg : (isAgg 26).run Try.prog w = .ok true w := by
    unfold isAgg
    rw [Sem.run_bind, run_underlying Try.underlying26 w]
    simp
  have hi := infoTh
  cases hq : Try.prog.info? 26 with
  | none => simp [hq] at hi
  | some i =>
    have hs : i.size = 7 := by simpa [hq] using hi
    have hr : Try.f25.results = #[.cell 4 26, .tmp 5] := rfl
    have hl7 : (loadVar 26 ⟨b, 0, none⟩).run Try.prog w = .ok (.agg cs.toArray) w := by simp [loadVar, Sem.run_bind, hagg, sizeOf, typeInfo, hq, hs, hld]
    simp [results, hr, hp', hx', asAddr, hl7, Sem.run_bind]

set_option maxRecDepth 10000 in
set_option maxHeartbeats 1000000 in
theorem field_none (p : Pay) (c : Fo) (w : World) (ia : Option Addr) (ic : Nat) (la : Option Addr) (lc : Nat) (id : Int) (hv : VIn w p c ia ic la lc) (hno : (decide (p.kind = 12) && mayV p c 32) = false) :
    Calls Try.prog 25 #[val p c ia ic la lc, .int .i64 id] w fun e w' => e = .returned (.tuple #[.agg #[.int .i64 0, .int .i64 0, .int .i64 0, .int .i64 0, .string { data := #[] }, .slice none 0 0, .slice none 0 0], .bool false]) ∧ Below w.heap.size w w' := by
  obtain ⟨hab, hbx, hbz, hbs⟩ := copy_boxes w p c ia ic la lc
  have M := isStructure_any p c (zbox (bx w p c ia ic la lc)) ia ic la lc (hv.later hab)
  rw [hno, hbs] at M
  clear hno hv
  have HBZ : Hid ((zbox (bx w p c ia ic la lc)).heap[w.heap.size + 1]? = some (.cells #[.int .i64 0, .int .i64 0, .int .i64 0, .int .i64 0, .string { data := #[] }, .slice none 0 0, .slice none 0 0] 26 (0, 0))) := hbz
  have HAB : Hid (Below w.heap.size w (zbox (bx w p c ia ic la lc))) := hab
  clear hab hbs hbz hbx
  go_enter Try.func25, Try.ntmps25
  go_wp2_with fail
  refine M.mono ?_
  rintro e wx ⟨rfl, hwx⟩
  have hz : wx.heap[w.heap.size + 1]? = some (.cells #[.int .i64 0, .int .i64 0, .int .i64 0, .int .i64 0, .string { data := #[] }, .slice none 0 0, .slice none 0 0] 26 (0, 0)) := (hwx.block _ (by omega)).trans HBZ.out
  obtain ⟨⟨z0, z1, z2, z3, z4, z5, z6⟩, g0, g1, g2, g3, g4, g5, g6⟩ := blk7 hz
  have hb := HAB.out.trans (hwx.mono (by omega))
  go_wp2_with fail
  obtain ⟨s1, s2⟩ := store7 hz (.int .i64 0) (.int .i64 0) (.int .i64 0) (.int .i64 0) (.string { data := #[] }) (.slice none 0 0) (.slice none 0 0)
  refine bodyPost_ret (results_fld _ _ _ _ rfl rfl _ rfl (cells_of_block s1)) rfl ⟨rfl, ?_⟩
  exact ⟨s2.os.trans hb.os, s2.tape.trans hb.tape, s2.output.trans hb.output, by rw [← s2.size]; exact hb.size, fun k hk => by rw [s2.block k (by omega), hb.block k hk]⟩

set_option maxRecDepth 10000 in
set_option maxHeartbeats 1000000 in
theorem field_miss (p : Pay) (c : Fo) (w : World) (ia : Option Addr) (ic : Nat) (la : Option Addr) (lc : Nat) (id : Int) (hv : VIn w p c ia ic la lc) (hyes : (decide (p.kind = 12) && mayV p c 32) = true) (hm : id ∉ p.ids) :
    Calls Try.prog 25 #[val p c ia ic la lc, .int .i64 id] w fun e w' => e = .returned (.tuple #[.agg #[.int .i64 0, .int .i64 0, .int .i64 0, .int .i64 0, .string { data := #[] }, .slice none 0 0, .slice none 0 0], .bool false]) ∧ Below w.heap.size w w' := by
  obtain ⟨hab, hbx, hbz, hbs⟩ := copy_boxes w p c ia ic la lc
  have M := isStructure_any p c (zbox (bx w p c ia ic la lc)) ia ic la lc (hv.later hab)
  have HRI : Hid (risingB p.ids 0 = true ∧ flen c = p.ids.length) := by
    rw [Bool.and_eq_true, decide_eq_true_eq] at hyes
    have hk := OkV.kind ⟨_, hyes.2⟩
    have hk' : (decide (flen c = p.ids.length) && risingB p.ids 0) = true := by
      have e := hk
      unfold kindB at e
      simpa [hyes.1] using e
    rw [Bool.and_eq_true, decide_eq_true_eq] at hk'
    exact ⟨hk'.2, hk'.1⟩
  rw [hyes, hbs] at M
  have HBX : Hid ((zbox (bx w p c ia ic la lc)).heap[w.heap.size]? = some (.cells #[.int .i64 p.kind, .int .i64 p.key, .int .i64 p.elem, .int .i64 p.num, .string p.text, .slice ia p.ids.length ic, .slice la (flen c) lc] 26 (0, 0))) := hbx
  have HBZ : Hid ((zbox (bx w p c ia ic la lc)).heap[w.heap.size + 1]? = some (.cells #[.int .i64 0, .int .i64 0, .int .i64 0, .int .i64 0, .string { data := #[] }, .slice none 0 0, .slice none 0 0] 26 (0, 0))) := hbz
  have HAB : Hid (Below w.heap.size w (zbox (bx w p c ia ic la lc))) := hab
  have HV : Hid (VIn w p c ia ic la lc) := hv
  clear hyes hab hbs hbz hbx hv
  go_enter Try.func25, Try.ntmps25
  go_wp2_with fail
  refine M.mono ?_
  rintro e wx ⟨rfl, hwx⟩
  have hx : wx.heap[w.heap.size]? = some (.cells #[.int .i64 p.kind, .int .i64 p.key, .int .i64 p.elem, .int .i64 p.num, .string p.text, .slice ia p.ids.length ic, .slice la (flen c) lc] 26 (0, 0)) := (hwx.block _ (by omega)).trans HBX.out
  have hz : wx.heap[w.heap.size + 1]? = some (.cells #[.int .i64 0, .int .i64 0, .int .i64 0, .int .i64 0, .string { data := #[] }, .slice none 0 0, .slice none 0 0] 26 (0, 0)) := (hwx.block _ (by omega)).trans HBZ.out
  obtain ⟨⟨z0, z1, z2, z3, z4, z5, z6⟩, g0, g1, g2, g3, g4, g5, g6⟩ := blk7 hz
  obtain ⟨⟨b0, b1, b2, b3, b4, b5, b6⟩, _⟩ := blk7 hx
  have hb := HAB.out.trans (hwx.mono (by omega))
  have B := bin_any wx ia ic p.ids id HV.out.ok.ids (HV.out.ids.later hb) HRI.out.1
  go_wp2_with fail
  refine B.mono ?_
  rintro e wy ⟨hwy, i', hi', rfl, k1, k2⟩
  obtain rfl := hwy.symm
  have hd : decide (i' < p.ids.length ∧ p.ids.getD i' 0 = id) = false := by
    rw [decide_eq_false_iff_not]
    rintro ⟨h1, h2⟩
    refine hm ?_
    rw [← h2]
    simp [List.getD, List.getElem?_eq_getElem h1]
  rw [hd]
  go_wp2_with fail
  obtain ⟨s1, s2⟩ := store7 hz (.int .i64 0) (.int .i64 0) (.int .i64 0) (.int .i64 0) (.string { data := #[] }) (.slice none 0 0) (.slice none 0 0)
  refine bodyPost_ret (results_fld _ _ _ _ rfl rfl _ rfl (cells_of_block s1)) rfl ⟨rfl, ?_⟩
  exact ⟨s2.os.trans hb.os, s2.tape.trans hb.tape, s2.output.trans hb.output, by rw [← s2.size]; exact hb.size, fun k hk => by rw [s2.block k (by omega), hb.block k hk]⟩

set_option maxRecDepth 10000 in
set_option maxHeartbeats 1000000 in
theorem field_yes (p : Pay) (c : Fo) (w : World) (ia : Option Addr) (ic : Nat) (la : Option Addr) (lc : Nat) (id : Int) (i : Nat) (q : Pay) (d : Fo) (hv : VIn w p c ia ic la lc) (hyes : (decide (p.kind = 12) && mayV p c 32) = true) (hi : i < p.ids.length) (hid : p.ids.getD i 0 = id) (hq : (elems c)[i]? = some (q, d)) (CQ : CopyC q d) (hsz : (q.ids.length : Int) + totF d ≤ 1000000) :
    Calls Try.prog 25 #[val p c ia ic la lc, .int .i64 id] w fun e w' => ∃ v, e = .returned (.tuple #[v, .bool true]) ∧ VX (fun b => w.heap.size ≤ b) w' q d v ∧ Below w.heap.size w w' := by
  obtain ⟨hab, hbx, hbz, hbs⟩ := copy_boxes w p c ia ic la lc
  have M := isStructure_any p c (zbox (bx w p c ia ic la lc)) ia ic la lc (hv.later hab)
  have HRI : Hid (risingB p.ids 0 = true ∧ flen c = p.ids.length) := by
    rw [Bool.and_eq_true, decide_eq_true_eq] at hyes
    have hk := OkV.kind ⟨_, hyes.2⟩
    have hk' : (decide (flen c = p.ids.length) && risingB p.ids 0) = true := by
      have e := hk
      unfold kindB at e
      simpa [hyes.1] using e
    rw [Bool.and_eq_true, decide_eq_true_eq] at hk'
    exact ⟨hk'.2, hk'.1⟩
  rw [hyes, hbs] at M
  have HBX : Hid ((zbox (bx w p c ia ic la lc)).heap[w.heap.size]? = some (.cells #[.int .i64 p.kind, .int .i64 p.key, .int .i64 p.elem, .int .i64 p.num, .string p.text, .slice ia p.ids.length ic, .slice la (flen c) lc] 26 (0, 0))) := hbx
  have HBZ : Hid ((zbox (bx w p c ia ic la lc)).heap[w.heap.size + 1]? = some (.cells #[.int .i64 0, .int .i64 0, .int .i64 0, .int .i64 0, .string { data := #[] }, .slice none 0 0, .slice none 0 0] 26 (0, 0))) := hbz
  have HAB : Hid (Below w.heap.size w (zbox (bx w p c ia ic la lc))) := hab
  have HV : Hid (VIn w p c ia ic la lc) := hv
  clear hyes hab hbs hbz hbx hv
  go_enter Try.func25, Try.ntmps25
  go_wp2_with fail
  refine M.mono ?_
  rintro e wx ⟨rfl, hwx⟩
  have hx : wx.heap[w.heap.size]? = some (.cells #[.int .i64 p.kind, .int .i64 p.key, .int .i64 p.elem, .int .i64 p.num, .string p.text, .slice ia p.ids.length ic, .slice la (flen c) lc] 26 (0, 0)) := (hwx.block _ (by omega)).trans HBX.out
  have hz : wx.heap[w.heap.size + 1]? = some (.cells #[.int .i64 0, .int .i64 0, .int .i64 0, .int .i64 0, .string { data := #[] }, .slice none 0 0, .slice none 0 0] 26 (0, 0)) := (hwx.block _ (by omega)).trans HBZ.out
  obtain ⟨⟨z0, z1, z2, z3, z4, z5, z6⟩, g0, g1, g2, g3, g4, g5, g6⟩ := blk7 hz
  obtain ⟨⟨b0, b1, b2, b3, b4, b5, b6⟩, _⟩ := blk7 hx
  have hb := HAB.out.trans (hwx.mono (by omega))
  have B := bin_any wx ia ic p.ids id HV.out.ok.ids (HV.out.ids.later hb) HRI.out.1
  go_wp2_with fail
  refine B.mono ?_
  rintro e wy ⟨hwy, i', hi', rfl, k1, k2⟩
  obtain rfl := hwy.symm
  have hii : i' = i := by
    rcases Nat.lt_trichotomy i' i with h | h | h
    · have a1 := rising_lt HRI.out.1 h hi
      have a2 := k2 i' (Nat.le_refl _) (by omega)
      omega
    · exact h
    · have a1 := k1 i h
      omega
  subst hii
  have hd : decide (i' < p.ids.length ∧ p.ids.getD i' 0 = id) = true := by rw [decide_eq_true_eq]; exact ⟨hi, hid⟩
  rw [hd]
  obtain ⟨b, o, ja, jc, ka, kc, e1, e2, e3, e4⟩ := (HV.out.list.later hb).at hq
  subst e1
  obtain ⟨r0, r1, r2, r3, r4, r5, r6⟩ := cell7 e3
  have hif : (i' : Int) < (flen c : Int) := by have := HRI.out.2; omega
  have hfl : (flen c : Int) ≤ 140737488355328 := by have := HV.out.len; omega
  have C := CQ wx ja jc ka kc e4 hsz
  clear k1 k2 hd e3 e4 hwx
  go_wp2_with fail
  refine C.mono ?_
  rintro e wz ⟨v, rfl, hvx, hbz⟩
  obtain ⟨iv, lv, rfl, hp, hlc, hi', ys, hy, hel⟩ := hvx
  obtain ⟨ia3, ic3, rfl⟩ := own_sl hi'.1
  obtain ⟨la3, lc3, rfl⟩ := own_sl hy.1
  have HX : Hid (VX (fun b => wx.heap.size ≤ b) wz q d (.agg #[.int .i64 q.kind, .int .i64 q.key, .int .i64 q.elem, .int .i64 q.num, .string q.text, .slice ia3 q.ids.length ic3, .slice la3 (flen d) lc3])) := ⟨_, _, rfl, hp, hlc, hi', ys, hy, hel⟩
  have hz3 := below_at hbz hz
  have hb3 := hb.trans (hbz.mono hb.size)
  have hlt := lt_of_heap hz
  clear z0 z1 z2 z3 z4 z5 z6 g0 g1 g2 g3 g4 g5 g6 hp hlc hi' hy hel
  obtain ⟨⟨z0, z1, z2, z3, z4, z5, z6⟩, g0, g1, g2, g3, g4, g5, g6⟩ := blk7 hz3
  go_wp2_with fail
  obtain ⟨s1, s2⟩ := store7 hz3 (.int .i64 q.kind) (.int .i64 q.key) (.int .i64 q.elem) (.int .i64 q.num) (.string q.text) (.slice ia3 q.ids.length ic3) (.slice la3 (flen d) lc3)
  refine bodyPost_ret (results_fld _ _ _ _ rfl rfl _ rfl (cells_of_block s1)) rfl ⟨_, rfl, (HX.out.kept fun k h1 h2 => s2.block k (by omega)).mono fun b hb => by omega, ?_⟩
  exact ⟨s2.os.trans hb3.os, s2.tape.trans hb3.tape, s2.output.trans hb3.output, by rw [← s2.size]; exact hb3.size, fun k hk => by rw [s2.block k (by omega), hb3.block k hk]⟩
end Go.Proofs.Ytikoddlidhefpaa
