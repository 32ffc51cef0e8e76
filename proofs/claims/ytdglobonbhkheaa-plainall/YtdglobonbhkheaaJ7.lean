/-
  The parts as the program makes them, and the rows' ways.
-/
import Derived.Test.YtdglobonbhkheaaJ6
import Derived.Test.YtdglobonbhkheaaPlV
import Derived.Shelf.Abstract
import Derived.Test.YtdglobonbhkheaaJ3
namespace Go.Proofs.Ytdglobonbhkheaa
set_option linter.unusedVariables false
set_option linter.unusedSimpArgs false
open Go.ChangeShapes Go.WideShapes Go.ChangeAt Go.RowKit Go.Deep

theorem ent_numbers1 : Ent 64 := fun args W => Go.Proofs.enters_of Try.func64 (by kernel_rfl) rfl args W
theorem ent_numbers2 : Ent 65 := fun args W => Go.Proofs.enters_of Try.func65 (by kernel_rfl) rfl args W
theorem ent_numbers3 : Ent 67 := fun args W => Go.Proofs.enters_of Try.func67 (by kernel_rfl) rfl args W
theorem ent_texts1 : Ent 71 := fun args W => Go.Proofs.enters_of Try.func71 (by kernel_rfl) rfl args W
theorem ent_texts2 : Ent 72 := fun args W => Go.Proofs.enters_of Try.func72 (by kernel_rfl) rfl args W
theorem ent_texts3 : Ent 73 := fun args W => Go.Proofs.enters_of Try.func73 (by kernel_rfl) rfl args W
theorem ent_fixed1 : Ent 76 := fun args W => Go.Proofs.enters_of Try.func76 (by kernel_rfl) rfl args W
theorem ent_fixed2 : Ent 77 := fun args W => Go.Proofs.enters_of Try.func77 (by kernel_rfl) rfl args W
theorem ent_fixed3 : Ent 78 := fun args W => Go.Proofs.enters_of Try.func78 (by kernel_rfl) rfl args W

theorem run_store_fn {P : Program} (w : World) (a : Addr) (m : Mode) (f : Fn) (x y : Array Value) : (store a (.func f x y) m).run P w = stored P w a (.func f x y) m := run_store P w a _ m rfl
attribute [local go_sem] run_store_fn
/-- a number's part, by its boxes -/
def numV (B : Nat) : Value := .agg #[.func (.func 64) #[] #[.pointer (some ⟨B, 0, none⟩)], .func (.func 65) #[] #[.pointer (some ⟨B + 3, 0, none⟩), .pointer (some ⟨B, 0, none⟩)], .func (.func 67) #[] #[.pointer (some ⟨B, 0, none⟩), .pointer (some ⟨B + 1, 0, none⟩)]]
def textV : Value := .agg #[.func (.func 71) #[] #[], .func (.func 72) #[] #[], .func (.func 73) #[] #[]]
def fixV (B : Nat) : Value := .agg #[.func (.func 76) #[] #[.pointer (some ⟨B, 0, none⟩)], .func (.func 77) #[] #[], .func (.func 78) #[] #[.pointer (some ⟨B, 0, none⟩)]]
def rowV (p : Value) : Value := .agg #[.func (.func 60) #[p] #[], .func (.func 61) #[p] #[], .func (.func 62) #[p] #[], .func (.func 63) #[p] #[]]
def truthV : Value := .agg #[.func (.func 40) #[] #[], .func (.func 41) #[] #[], .func (.func 42) #[] #[], .func (.func 43) #[] #[]]
/-- a number's boxes -/
def NumB (w : World) (B nb : Nat) (fn : FuncId) : Prop := w.cell? ⟨B, 0, none⟩ = some (.int .i64 nb) ∧ w.cell? ⟨B + 3, 0, none⟩ = some (.int .i64 (64 - 8 * (nb : Int))) ∧ w.cell? ⟨B + 1, 0, none⟩ = some (.func (.func fn) #[] #[])
theorem NumB.later {w w' : World} {B nb : Nat} {fn : FuncId} (h : NumB w B nb fn) (hb : Below w.heap.size w w') : NumB w' B nb fn := ⟨cell_later hb h.1, cell_later hb h.2.1, cell_later hb h.2.2⟩
theorem NumB.kept {w w' : World} {B nb m : Nat} {fn : FuncId} (h : NumB w B nb fn) (hg : w.grownBy w' (some m)) (hm : m < B) : NumB w' B nb fn :=
  ⟨hg.cell h.1 (by simp; omega), hg.cell h.2.1 (by simp; omega), hg.cell h.2.2 (by simp; omega)⟩
theorem part_1 {w : World} {B : Nat} (h : NumB w B 4 46) (z : Int) : Part w (numV B) 1 z := by
  refine ⟨_, _, _, _, _, _, rfl, ent_numbers1, ent_numbers2, ent_numbers3, fun W hW d hd => ?_, fun W hW d base u n xs ho hown h1 h2 h3 => ?_, fun W hW a len cap p bs hb hp => ?_⟩
  · have e : dsz 1 z d = 4 := by simp [dsz]
    rw [e]
    exact num1_any d B 4 W (cell_later hW h.1)
  · have e : db d = upk 8 4 (d.n % 4294967296).toNat := by
      unfold db
      rw [(of_parts ho).1]
      simp
    rw [e, upk_len]
    exact num2_4 d (B + 3) B W (cell_later hW h.2.1) (cell_later hW h.1) base u n xs hown h2 h3
  · exact num3_1 B (B + 1) W (cell_later hW h.1) (cell_later hW h.2.2) a len cap p bs hb hp z
theorem part_2 {w : World} {B : Nat} (h : NumB w B 8 47) (z : Int) : Part w (numV B) 2 z := by
  refine ⟨_, _, _, _, _, _, rfl, ent_numbers1, ent_numbers2, ent_numbers3, fun W hW d hd => ?_, fun W hW d base u n xs ho hown h1 h2 h3 => ?_, fun W hW a len cap p bs hb hp => ?_⟩
  · have e : dsz 2 z d = 8 := by simp [dsz]
    rw [e]
    exact num1_any d B 8 W (cell_later hW h.1)
  · have e : db d = upk 8 8 (d.n % 18446744073709551616).toNat := by
      unfold db
      rw [(of_parts ho).1]
      simp
    rw [e, upk_len]
    exact num2_8 d (B + 3) B W (cell_later hW h.2.1) (cell_later hW h.1) base u n xs hown h2 h3
  · exact num3_2 B (B + 1) W (cell_later hW h.1) (cell_later hW h.2.2) a len cap p bs hb hp z
theorem part_4 {w : World} {B : Nat} (h : NumB w B 4 48) (z : Int) : Part w (numV B) 4 z := by
  refine ⟨_, _, _, _, _, _, rfl, ent_numbers1, ent_numbers2, ent_numbers3, fun W hW d hd => ?_, fun W hW d base u n xs ho hown h1 h2 h3 => ?_, fun W hW a len cap p bs hb hp => ?_⟩
  · have e : dsz 4 z d = 4 := by simp [dsz]
    rw [e]
    exact num1_any d B 4 W (cell_later hW h.1)
  · have e : db d = upk 8 4 (d.n % 4294967296).toNat := by
      unfold db
      rw [(of_parts ho).1]
      simp
    rw [e, upk_len]
    exact num2_4 d (B + 3) B W (cell_later hW h.2.1) (cell_later hW h.1) base u n xs hown h2 h3
  · exact num3_4 B (B + 1) W (cell_later hW h.1) (cell_later hW h.2.2) a len cap p bs hb hp z
theorem part_5 {w : World} {B : Nat} (h : NumB w B 8 49) (z : Int) : Part w (numV B) 5 z := by
  refine ⟨_, _, _, _, _, _, rfl, ent_numbers1, ent_numbers2, ent_numbers3, fun W hW d hd => ?_, fun W hW d base u n xs ho hown h1 h2 h3 => ?_, fun W hW a len cap p bs hb hp => ?_⟩
  · have e : dsz 5 z d = 8 := by simp [dsz]
    rw [e]
    exact num1_any d B 8 W (cell_later hW h.1)
  · have e : db d = upk 8 8 (d.n % 18446744073709551616).toNat := by
      unfold db
      rw [(of_parts ho).1]
      simp
    rw [e, upk_len]
    exact num2_8 d (B + 3) B W (cell_later hW h.2.1) (cell_later hW h.1) base u n xs hown h2 h3
  · exact num3_5 B (B + 1) W (cell_later hW h.1) (cell_later hW h.2.2) a len cap p bs hb hp z
theorem size_of_ok {k z : Int} {d : Dat} (h : ofB d.k d.n d.s.size k z = true) : d.s.size ≤ 1048576 := by
  have := (fine_parts (of_parts h).2.2.1).2.2.2.2
  have hb5 : bo d.k 5 ≤ 1048576 := by simp only [bo]; split <;> omega
  omega
theorem part_6 (w : World) (z : Int) : Part w textV 6 z := by
  refine ⟨_, _, _, _, _, _, rfl, ent_texts1, ent_texts2, ent_texts3, fun W hW d hd => ?_, fun W hW d base u n xs ho hown h1 h2 h3 => ?_, fun W hW a len cap p bs hb hp => ?_⟩
  · have e : dsz 6 z d = 4 + d.s.size := by simp [dsz]
    rw [e]
    exact text1_any d hd W
  · have e : db d = upk 8 4 d.s.size ++ tb d.s := by
      unfold db
      rw [(of_parts ho).1]
      simp
    rw [e]
    exact text2_any d W base u n xs hown h2 h3 (size_of_ok ho)
  · exact text3_any W a len cap p bs hb hp z
theorem part_7 {w : World} {B : Nat} {z : Int} (h : w.cell? ⟨B, 0, none⟩ = some (.int .i64 z)) (hz : 1 ≤ z) (hz2 : z ≤ 1048576) : Part w (fixV B) 7 z := by
  obtain ⟨Z, rfl⟩ := Int.eq_ofNat_of_zero_le (show 0 ≤ z by omega)
  refine ⟨_, _, _, _, _, _, rfl, ent_fixed1, ent_fixed2, ent_fixed3, fun W hW d hd => ?_, fun W hW d base u n xs ho hown h1 h2 h3 => ?_, fun W hW a len cap p bs hb hp => ?_⟩
  · have e : dsz 7 (Z : Int) d = Z := by simp [dsz]
    rw [e]
    exact fix1_any d B Z W (cell_later hW h)
  · have e : db d = tb d.s := by
      unfold db
      rw [(of_parts ho).1]
      simp
    rw [e]
    exact fix2_any d W base u n xs hown h2 h3 (size_of_ok ho)
  · exact fix3_any B Z W (cell_later hW h) (by omega) a len cap p bs hb hp

theorem alloc4_cell (w : World) (o1 o2 o3 : Obj) (C : Array Value) (t : TypeId) (fr : Nat × Nat) {j : Nat} {u : Value} (hj : C[j]? = some u) : ((((w.alloc o1).alloc o2).alloc o3).alloc (.cells C t fr)).cell? ⟨w.heap.size + 3, j, none⟩ = some u := by
  have h := alloc_cell (((w.alloc o1).alloc o2).alloc o3) C t fr hj
  have e : (((w.alloc o1).alloc o2).alloc o3).heap.size = w.heap.size + 3 := by simp
  rwa [e] at h
set_option maxRecDepth 100000 in
set_option maxHeartbeats 1000000 in
theorem numbers_any (nb : Nat) (hnb : nb ≤ 8) (fn : FuncId) (w : World) : Calls Try.prog 45 #[.int .i64 nb, .func (.func fn) #[] #[]] w fun e w' => e = .returned (numV w.heap.size) ∧ NumB w' w.heap.size nb fn ∧ Below w.heap.size w w' := by
  have hnb' : (nb : Int) ≤ 8 := by omega
  go_enter Try.func45, Try.ntmps45
  go_wp2_with fail
  refine bodyPost_ret (v := numV w.heap.size) (by simp [numV, textV, fixV, rowV, results, Try.results45, go_sem, Try.underlying96]) rfl ?_
  refine ⟨rfl, ?_, ?_⟩
  · refine ⟨cell_later (alloc_below _ _) (cell_later (alloc_below _ _) (cell_later (alloc_below _ _) (alloc_cell w _ _ _ rfl))), ?_, cell_later (alloc_below _ _) (cell_later (alloc_below _ _) (alloc2_cell w _ _ _ _ rfl))⟩
    exact alloc4_cell w _ _ _ _ _ _ rfl
  · exact ((((alloc_below _ _).alloc (by simp) _).alloc (by simp; omega) _).alloc (by simp; omega) _)
set_option maxRecDepth 100000 in
set_option maxHeartbeats 1000000 in
theorem texts_any (w : World) : Calls Try.prog 50 #[] w fun e w' => e = .returned textV ∧ Below w.heap.size w w' := by
  go_enter Try.func50, Try.ntmps50
  go_wp2_with fail
  refine bodyPost_ret (v := textV) (by simp [numV, textV, fixV, rowV, results, Try.results50, go_sem, Try.underlying96]) rfl ?_
  exact ⟨rfl, alloc_below _ _⟩
set_option maxRecDepth 100000 in
set_option maxHeartbeats 1000000 in
theorem fixed_p (z : Int) (w : World) : Calls Try.prog 51 #[.int .i64 z] w fun e w' => e = .returned (fixV w.heap.size) ∧ w'.cell? ⟨w.heap.size, 0, none⟩ = some (.int .i64 z) ∧ Below w.heap.size w w' := by
  go_enter Try.func51, Try.ntmps51
  go_wp2_with fail
  refine bodyPost_ret (v := fixV w.heap.size) (by simp [numV, textV, fixV, rowV, results, Try.results51, go_sem, Try.underlying96]) rfl ?_
  exact ⟨rfl, by simp, (alloc_below _ _).alloc (by simp) _⟩
set_option maxRecDepth 100000 in
set_option maxHeartbeats 1000000 in
theorem inRow_any (v1 v2 v3 : Value) (w : World) : Calls Try.prog 44 #[.agg #[v1, v2, v3]] w fun e w' => e = .returned (rowV (.agg #[v1, v2, v3])) ∧ Below w.heap.size w w' := by
  go_enter Try.func44, Try.ntmps44
  go_wp2_with fail
  refine bodyPost_ret (v := rowV (.agg #[v1, v2, v3])) (by simp [numV, textV, fixV, rowV, results, Try.results44, go_sem, Try.underlying57]) rfl ?_
  exact ⟨rfl, (alloc_below _ _).alloc (by simp) _⟩
end Go.Proofs.Ytdglobonbhkheaa

/-
  The map of the ways, and the way of a type.
-/
namespace Go.Proofs.Ytdglobonbhkheaa
set_option linter.unusedVariables false
set_option linter.unusedSimpArgs false
open Go.ChangeShapes Go.WideShapes Go.ChangeAt Go.RowKit Go.Deep
attribute [local go_sem] run_store_fn

theorem wy_check (e : Bool) (n : Nat) (k : Int) (w : World) : (Instr.checkKey e (n + 1) 22 (.int .i64 k)).run Try.prog w = .ok () w := by
  unfold Instr.checkKey
  rw [Sem.run_bind, run_underlying Try.underlying22 w]
  rfl
theorem wy_find {es : Array MapEntry} {k : Int} {r : Option (Nat × Value)} (hf : Instr.findNow (.int .i64) (.int .i64 k) es.toList 0 = some r) (w : World) : (Instr.findKey 22 (.int .i64 k) es.toList).run Try.prog w = .ok r w := by
  unfold Instr.findKey
  rw [Sem.run_bind, run_underlying Try.underlying22 w]
  simp [hf]
theorem wy_look {w : World} {m : Nat} {es : Array MapEntry} {clock : Nat} (h : w.heap[m]? = some (.map es clock)) (k : Int) {i : Nat} {v : Value} (hf : Instr.findNow (.int .i64) (.int .i64 k) es.toList 0 = some (some (i, v))) :
    (Instr.lookup 74 (.map (some m)) (.int .i64 k) false).run Try.prog w = .ok v w := by
  have hc : ∀ e, (Instr.checkKey e 10000 22 (.int .i64 k)).run Try.prog w = .ok () w := fun e => wy_check e 9999 k w
  simp [Instr.lookup, run_underlying Try.underlying74, MapKept.run_getObj_map h, hc, wy_find hf, Result.andThen]
theorem wy_put {w : World} {m : Nat} {es : Array MapEntry} {clock : Nat} (h : w.heap[m]? = some (.map es clock)) (k : Int) (v : Value) (hf : Instr.findNow (.int .i64) (.int .i64 k) es.toList 0 = some none) :
    (Instr.mapUpdate 74 (.map (some m)) (.int .i64 k) v).run Try.prog w = .ok () { w with heap := w.heap.setIfInBounds m (.map (es.push { key := .int .i64 k, val := v, born := clock }) (clock + 1)) } := by
  have hc : ∀ e, (Instr.checkKey e 10000 22 (.int .i64 k)).run Try.prog w = .ok () w := fun e => wy_check e 9999 k w
  simp [Instr.mapUpdate, run_underlying Try.underlying74, MapKept.run_getObj_map h, hc, wy_find hf, MapKept.run_setObj_map _ h, Result.andThen]
theorem wy_insert {w : World} {ops : Array Oper} {rest : List Oper} {o : Oper} {a : Act} {Q : Exit → Act → World → Prop} (hg : o.guard = none) (mo ko vo : Operand) (hop : o.op = Op.insert 74 mo ko vo)
    (m : Nat) (k : Int) (v : Value) (es : Array MapEntry) (clock : Nat) (hm : a.eval mo = .map (some m)) (hk : a.eval ko = .int .i64 k) (hv : a.eval vo = v) (hh : w.heap[m]? = some (.map es clock)) (hf : Instr.findNow (.int .i64) (.int .i64 k) es.toList 0 = some none)
    (hK : ∀ w', w'.heap[m]? = some (.map (es.push { key := .int .i64 k, val := v, born := clock }) (clock + 1)) → w.grownBy w' (some m) → wpList Try.prog ops Q rest (a.put o.dst undef) w') : wpList Try.prog ops Q (o :: rest) a w := by
  refine wpList_plain hg fun K' hK' => ?_
  have hrun := wy_put hh k v hf
  unfold Oper.wp
  simp [execOp, hop, hm, hk, hv, hrun, Result.andThen]
  refine hK' _ _ (hK _ ?_ ⟨rfl, rfl, rfl, by simp, fun i hi hne => ?_⟩)
  · have hlt : m < w.heap.size := by
      rcases Nat.lt_or_ge m w.heap.size with h1 | h1
      · exact h1
      · rw [Array.getElem?_eq_none h1] at hh; cases hh
    simp [hlt]
  · have : m ≠ i := fun e => hne (by rw [e])
    simp [this]


/-- the map's entries, by the blocks of the parts' boxes -/
def waysE (b1 b2 b4 b5 b7 : Nat) : Array MapEntry :=
  #[⟨.int .i64 0, truthV, 0⟩, ⟨.int .i64 1, rowV (numV b1), 1⟩, ⟨.int .i64 2, rowV (numV b2), 2⟩, ⟨.int .i64 4, rowV (numV b4), 3⟩, ⟨.int .i64 5, rowV (numV b5), 4⟩, ⟨.int .i64 6, rowV textV, 5⟩, ⟨.int .i64 7, rowV (fixV b7), 6⟩]

/-- the boxes of all parts, behind block m -/
def WaysB (W : World) (m b1 b2 b4 b5 b7 : Nat) (z : Int) : Prop := NumB W b1 4 46 ∧ NumB W b2 8 47 ∧ NumB W b4 4 48 ∧ NumB W b5 8 49 ∧ W.cell? ⟨b7, 0, none⟩ = some (.int .i64 z) ∧ m < b1 ∧ m < b2 ∧ m < b4 ∧ m < b5 ∧ m < b7
theorem WaysB.kept {W X : World} {m n b1 b2 b4 b5 b7 : Nat} {z : Int} (h : WaysB W m b1 b2 b4 b5 b7 z) (hg : W.grownBy X (some n)) (hn : n ≤ m) : WaysB X m b1 b2 b4 b5 b7 z := by
  obtain ⟨c1, c2, c4, c5, c7, l1, l2, l4, l5, l7⟩ := h
  exact ⟨c1.kept hg (by omega), c2.kept hg (by omega), c4.kept hg (by omega), c5.kept hg (by omega), hg.cell c7 (by simp; omega), l1, l2, l4, l5, l7⟩
theorem lt_at {W : World} {b : Nat} {o : Obj} (h : W.heap[b]? = some o) : b < W.heap.size := by
  rcases Nat.lt_or_ge b W.heap.size with h1 | h1
  · exact h1
  · rw [Array.getElem?_eq_none h1] at h; cases h
theorem inRow_numV (B : Nat) (W : World) : Calls Try.prog 44 #[numV B] W fun e w' => e = .returned (rowV (numV B)) ∧ Below W.heap.size W w' := inRow_any _ _ _ W
theorem inRow_fixV (B : Nat) (W : World) : Calls Try.prog 44 #[fixV B] W fun e w' => e = .returned (rowV (fixV B)) ∧ Below W.heap.size W w' := inRow_any _ _ _ W
theorem inRow_textV (W : World) : Calls Try.prog 44 #[textV] W fun e w' => e = .returned (rowV textV) ∧ Below W.heap.size W w' := inRow_any _ _ _ W
set_option maxRecDepth 100000 in
set_option maxHeartbeats 4000000 in
theorem ways_any (z : Int) (w : World) : Calls Try.prog 29 #[.int .i64 z] w fun e w' => ∃ b1 b2 b4 b5 b7, e = .returned (.map (some w.heap.size)) ∧ w'.heap[w.heap.size]? = some (.map (waysE b1 b2 b4 b5 b7) 7) ∧
    WaysB w' w.heap.size b1 b2 b4 b5 b7 z ∧ Below w.heap.size w w' := by
  have hmm := @run_makeMap Try.prog
  have N1 := fun W => numbers_any 4 (by omega) 46 W
  have N2 := fun W => numbers_any 8 (by omega) 47 W
  have N4 := fun W => numbers_any 4 (by omega) 48 W
  have N5 := fun W => numbers_any 8 (by omega) 49 W
  have NT := fun W => texts_any W
  have NF := fun W => fixed_p z W
  have hm0 : (w.alloc (.map #[] 0)).heap[w.heap.size]? = some (.map #[] 0) := heap_new _ _
  have b0 : Below w.heap.size w (w.alloc (.map #[] 0)) := alloc_below _ _
  go_enter Try.func29, Try.ntmps29
  go_wp2_with (refine wy_insert rfl (.tmp 3) (.const (.int .i64 0)) (.tmp 4) rfl w.heap.size 0 truthV _ 0 rfl rfl rfl hm0 rfl ?_; intro W0 hm1 g1)
  replace b0 : Below w.heap.size w W0 := b0.grown g1 b0.size (fun k e => by cases e; exact Nat.le_refl _)
  clear hm0 g1 hmm
  have l0 := lt_at hm1
  refine (N1 W0).mono ?_
  rintro e A0 ⟨rfl, c1, ha⟩
  replace hm1 := below_at ha hm1
  have s0 := b0.size
  replace b0 := b0.trans (ha.mono b0.size)
  clear ha
  have lt0 : w.heap.size < W0.heap.size := l0
  go_wp2_with fail
  refine (inRow_numV W0.heap.size _).mono ?_
  rintro e B0 ⟨rfl, ha⟩
  replace hm1 := below_at ha hm1
  replace c1 := c1.later ha
  replace b0 := b0.trans (ha.mono b0.size)
  clear ha
  go_wp2_with (refine wy_insert rfl (.tmp 3) (.const (.int .i64 1)) (.tmp 6) rfl w.heap.size 1 (rowV (numV W0.heap.size)) _ 1 rfl rfl rfl hm1 rfl ?_; intro W1 hm2 g1)
  replace c1 := c1.kept g1 lt0
  replace b0 := b0.grown g1 b0.size (fun k e => by cases e; exact Nat.le_refl _)
  clear hm1 g1
  have hm1 := hm2
  clear hm2
  have l0 := lt_at hm1
  refine (N2 W1).mono ?_
  rintro e A1 ⟨rfl, c2, ha⟩
  replace hm1 := below_at ha hm1
  replace c1 := c1.later ha
  have s1 := b0.size
  replace b0 := b0.trans (ha.mono b0.size)
  clear ha
  have lt1 : w.heap.size < W1.heap.size := l0
  go_wp2_with fail
  refine (inRow_numV W1.heap.size _).mono ?_
  rintro e B1 ⟨rfl, ha⟩
  replace hm1 := below_at ha hm1
  replace c1 := c1.later ha
  replace c2 := c2.later ha
  replace b0 := b0.trans (ha.mono b0.size)
  clear ha
  go_wp2_with (refine wy_insert rfl (.tmp 3) (.const (.int .i64 2)) (.tmp 8) rfl w.heap.size 2 (rowV (numV W1.heap.size)) _ 2 rfl rfl rfl hm1 rfl ?_; intro W2 hm2 g1)
  replace c1 := c1.kept g1 lt0
  replace c2 := c2.kept g1 lt1
  replace b0 := b0.grown g1 b0.size (fun k e => by cases e; exact Nat.le_refl _)
  clear hm1 g1
  have hm1 := hm2
  clear hm2
  have l0 := lt_at hm1
  refine (N4 W2).mono ?_
  rintro e A2 ⟨rfl, c4, ha⟩
  replace hm1 := below_at ha hm1
  replace c1 := c1.later ha
  replace c2 := c2.later ha
  have s2 := b0.size
  replace b0 := b0.trans (ha.mono b0.size)
  clear ha
  have lt2 : w.heap.size < W2.heap.size := l0
  go_wp2_with fail
  refine (inRow_numV W2.heap.size _).mono ?_
  rintro e B2 ⟨rfl, ha⟩
  replace hm1 := below_at ha hm1
  replace c1 := c1.later ha
  replace c2 := c2.later ha
  replace c4 := c4.later ha
  replace b0 := b0.trans (ha.mono b0.size)
  clear ha
  go_wp2_with (refine wy_insert rfl (.tmp 3) (.const (.int .i64 4)) (.tmp 10) rfl w.heap.size 4 (rowV (numV W2.heap.size)) _ 3 rfl rfl rfl hm1 rfl ?_; intro W3 hm2 g1)
  replace c1 := c1.kept g1 lt0
  replace c2 := c2.kept g1 lt1
  replace c4 := c4.kept g1 lt2
  replace b0 := b0.grown g1 b0.size (fun k e => by cases e; exact Nat.le_refl _)
  clear hm1 g1
  have hm1 := hm2
  clear hm2
  have l0 := lt_at hm1
  refine (N5 W3).mono ?_
  rintro e A3 ⟨rfl, c5, ha⟩
  replace hm1 := below_at ha hm1
  replace c1 := c1.later ha
  replace c2 := c2.later ha
  replace c4 := c4.later ha
  have s3 := b0.size
  replace b0 := b0.trans (ha.mono b0.size)
  clear ha
  have lt3 : w.heap.size < W3.heap.size := l0
  go_wp2_with fail
  refine (inRow_numV W3.heap.size _).mono ?_
  rintro e B3 ⟨rfl, ha⟩
  replace hm1 := below_at ha hm1
  replace c1 := c1.later ha
  replace c2 := c2.later ha
  replace c4 := c4.later ha
  replace c5 := c5.later ha
  replace b0 := b0.trans (ha.mono b0.size)
  clear ha
  go_wp2_with (refine wy_insert rfl (.tmp 3) (.const (.int .i64 5)) (.tmp 12) rfl w.heap.size 5 (rowV (numV W3.heap.size)) _ 4 rfl rfl rfl hm1 rfl ?_; intro W4 hm2 g1)
  replace c1 := c1.kept g1 lt0
  replace c2 := c2.kept g1 lt1
  replace c4 := c4.kept g1 lt2
  replace c5 := c5.kept g1 lt3
  replace b0 := b0.grown g1 b0.size (fun k e => by cases e; exact Nat.le_refl _)
  clear hm1 g1
  have hm1 := hm2
  clear hm2
  have l0 := lt_at hm1
  refine (NT W4).mono ?_
  rintro e A4 ⟨rfl, ha⟩
  replace hm1 := below_at ha hm1
  replace c1 := c1.later ha
  replace c2 := c2.later ha
  replace c4 := c4.later ha
  replace c5 := c5.later ha
  have s4 := b0.size
  replace b0 := b0.trans (ha.mono b0.size)
  clear ha
  go_wp2_with fail
  refine (inRow_textV _).mono ?_
  rintro e B4 ⟨rfl, ha⟩
  replace hm1 := below_at ha hm1
  replace c1 := c1.later ha
  replace c2 := c2.later ha
  replace c4 := c4.later ha
  replace c5 := c5.later ha
  replace b0 := b0.trans (ha.mono b0.size)
  clear ha
  go_wp2_with (refine wy_insert rfl (.tmp 3) (.const (.int .i64 6)) (.tmp 14) rfl w.heap.size 6 (rowV textV) _ 5 rfl rfl rfl hm1 rfl ?_; intro W5 hm2 g1)
  replace c1 := c1.kept g1 lt0
  replace c2 := c2.kept g1 lt1
  replace c4 := c4.kept g1 lt2
  replace c5 := c5.kept g1 lt3
  replace b0 := b0.grown g1 b0.size (fun k e => by cases e; exact Nat.le_refl _)
  clear hm1 g1
  have hm1 := hm2
  clear hm2
  have l0 := lt_at hm1
  refine (NF W5).mono ?_
  rintro e A5 ⟨rfl, c7, ha⟩
  replace hm1 := below_at ha hm1
  replace c1 := c1.later ha
  replace c2 := c2.later ha
  replace c4 := c4.later ha
  replace c5 := c5.later ha
  have s5 := b0.size
  replace b0 := b0.trans (ha.mono b0.size)
  clear ha
  have lt5 : w.heap.size < W5.heap.size := l0
  go_wp2_with fail
  refine (inRow_fixV W5.heap.size _).mono ?_
  rintro e B5 ⟨rfl, ha⟩
  replace hm1 := below_at ha hm1
  replace c1 := c1.later ha
  replace c2 := c2.later ha
  replace c4 := c4.later ha
  replace c5 := c5.later ha
  replace c7 := cell_later ha c7
  replace b0 := b0.trans (ha.mono b0.size)
  clear ha
  go_wp2_with (refine wy_insert rfl (.tmp 3) (.const (.int .i64 7)) (.tmp 17) rfl w.heap.size 7 (rowV (fixV W5.heap.size)) _ 6 rfl rfl rfl hm1 rfl ?_; intro W6 hm2 g1)
  replace c1 := c1.kept g1 lt0
  replace c2 := c2.kept g1 lt1
  replace c4 := c4.kept g1 lt2
  replace c5 := c5.kept g1 lt3
  replace c7 := g1.cell c7 (by simp; omega)
  replace b0 := b0.grown g1 b0.size (fun k e => by cases e; exact Nat.le_refl _)
  clear hm1 g1
  have hm1 := hm2
  clear hm2
  have l0 := lt_at hm1
  go_wp2_with fail
  go_ret
  exact ⟨_, _, _, _, _, rfl, hm1, ⟨c1, c2, c4, c5, c7, lt0, lt1, lt2, lt3, lt5⟩, b0⟩

/-- the way of a type, as the program holds it -/
def IsWay (W : World) (v : Value) (k z : Int) : Prop := (k = 0 ∧ v = truthV) ∨ (k ≠ 0 ∧ ∃ p, Part W p k z ∧ v = rowV p)
theorem IsWay.later {W X : World} {v : Value} {k z : Int} (h : IsWay W v k z) (hb : Below W.heap.size W X) : IsWay X v k z := by
  rcases h with h | ⟨h0, p, hp, hv⟩
  · exact .inl h
  · exact .inr ⟨h0, p, hp.later hb, hv⟩
theorem IsWay.agg {W : World} {v : Value} {k z : Int} (h : IsWay W v k z) : ∃ g1 g2 g3 g4 a, v = .agg #[.func g1 a #[], .func g2 a #[], .func g3 a #[], .func g4 a #[]] := by
  rcases h with ⟨_, rfl⟩ | ⟨_, p, _, rfl⟩
  · exact ⟨_, _, _, _, _, rfl⟩
  · exact ⟨_, _, _, _, _, rfl⟩
def wayV (b1 b2 b4 b5 b7 : Nat) (k : Int) : Value := if k = 0 then truthV else if k = 1 then rowV (numV b1) else if k = 2 then rowV (numV b2) else if k = 4 then rowV (numV b4) else if k = 5 then rowV (numV b5) else if k = 6 then rowV textV else rowV (fixV b7)
theorem ways_is {W : World} {m b1 b2 b4 b5 b7 : Nat} {k z : Int} (h : WaysB W m b1 b2 b4 b5 b7 z) (hc : chkB k z = true) : IsWay W (wayV b1 b2 b4 b5 b7 k) k z := by
  obtain ⟨c1, c2, c4, c5, c7, _⟩ := h
  obtain ⟨hk, h0, h1⟩ := chk_parts hc
  rcases kn_cases hk with rfl | rfl | rfl | rfl | rfl | rfl | rfl
  · exact .inl ⟨rfl, rfl⟩
  · exact .inr ⟨by decide, _, part_1 c1 z, rfl⟩
  · exact .inr ⟨by decide, _, part_2 c2 z, rfl⟩
  · exact .inr ⟨by decide, _, part_4 c4 z, rfl⟩
  · exact .inr ⟨by decide, _, part_5 c5 z, rfl⟩
  · exact .inr ⟨by decide, _, part_6 W z, rfl⟩
  · exact .inr ⟨by decide, _, part_7 c7 (by simpa [bo] using h0) (by simpa [bo] using h1), rfl⟩
theorem ways_look {W : World} {m : Nat} {b1 b2 b4 b5 b7 : Nat} (h : W.heap[m]? = some (.map (waysE b1 b2 b4 b5 b7) 7)) (k : Int) (hk : kn k = true) : (Instr.lookup 74 (.map (some m)) (.int .i64 k) false).run Try.prog W = .ok (wayV b1 b2 b4 b5 b7 k) W := by
  rcases kn_cases hk with rfl | rfl | rfl | rfl | rfl | rfl | rfl
  · exact wy_look h 0 rfl
  · exact wy_look h 1 rfl
  · exact wy_look h 2 rfl
  · exact wy_look h 4 rfl
  · exact wy_look h 5 rfl
  · exact wy_look h 6 rfl
  · exact wy_look h 7 rfl
theorem Only.grown {b : Nat} {w w' : World} (h : Only b w w') : w.grownBy w' (some b) := ⟨h.os, h.tape, h.output, Nat.le_of_eq h.size, fun i hi hne => h.block i (fun e => hne (by rw [e]))⟩

set_option maxRecDepth 100000 in
set_option maxHeartbeats 2000000 in
theorem wayOf_any (k z : Int) (hc : chkB k z = true) (w : World) : Calls Try.prog 17 #[.agg #[.int .i64 k, .int .i64 z]] w fun e w' => ∃ v, e = .returned v ∧ IsWay w' v k z ∧ Below w.heap.size w w' := by
  have b1 := alloc_below w (.cells #[.int .i64 k, .int .i64 z] 24 (0, 0))
  have WA := fun W => ways_any z W
  go_enter Try.func17, Try.ntmps17
  go_wp2_with fail
  have hx1 : ((w.alloc (.cells #[.int .i64 k, .int .i64 z] 24 (0, 0))).alloc (.cells #[.nilFunc, .nilFunc, .nilFunc, .nilFunc] 57 (0, 0))).heap[w.heap.size]? = some (.cells #[.int .i64 k, .int .i64 z] 24 (0, 0)) := below_at (alloc_below _ _) (heap_new _ _)
  have hy1 : ((w.alloc (.cells #[.int .i64 k, .int .i64 z] 24 (0, 0))).alloc (.cells #[.nilFunc, .nilFunc, .nilFunc, .nilFunc] 57 (0, 0))).heap[w.heap.size + 1]? = some (.cells #[.nilFunc, .nilFunc, .nilFunc, .nilFunc] 57 (0, 0)) := heap2_new _ _ _
  have b2 : Below w.heap.size w ((w.alloc (.cells #[.int .i64 k, .int .i64 z] 24 (0, 0))).alloc (.cells #[.nilFunc, .nilFunc, .nilFunc, .nilFunc] 57 (0, 0))) := b1.trans ((alloc_below _ _).mono b1.size)
  have hsz : ((w.alloc (.cells #[.int .i64 k, .int .i64 z] 24 (0, 0))).alloc (.cells #[.nilFunc, .nilFunc, .nilFunc, .nilFunc] 57 (0, 0))).heap.size = w.heap.size + 2 := by simp
  generalize ((w.alloc (.cells #[.int .i64 k, .int .i64 z] 24 (0, 0))).alloc (.cells #[.nilFunc, .nilFunc, .nilFunc, .nilFunc] 57 (0, 0))) = W0 at *
  have HF : Hid (∀ W, Below (w.heap.size + 1) W0 W → W.cell? ⟨w.heap.size, 0, none⟩ = some (.int .i64 k) ∧ W.cell? ⟨w.heap.size, 1, none⟩ = some (.int .i64 z)) := fun W h => by
    have e : W.heap[w.heap.size]? = _ := (h.block w.heap.size (by omega)).trans hx1
    exact (blk2 e).1
  have hS0 : Below (w.heap.size + 1) W0 W0.drew := (Below.refl _ _).drew
  have b3 := b2.trans (hS0.mono (Nat.le_succ _))
  have hy2 := below_at (Below.refl _ W0).drew hy1
  have hsz2 : W0.drew.heap.size = w.heap.size + 2 := by simpa using hsz
  clear hx1 hy1 b1 b2 hsz
  refine wp_region_held_drew (S := fun W => Below (w.heap.size + 1) W0 W) (by kernel_rfl) hS0 (fun hHeld => ?_)
  clear hHeld
  generalize W0.drew = D at *
  refine wpAnyH_take (i := 0) (v := ?_) rfl (by kernel_rfl) (by kernel_rfl) (by kernel_rfl) (fun _ _ _ h => h) (Or.inl ⟨by rfl, ?_⟩) (by assumption) ?_
  rotate_left
  · intro w hSw
    have hSx := HF.out w hSw
    (try (obtain ⟨_, _, _, _, _, _, _, _⟩ := hSx))
    (try (obtain ⟨_, _, _, _⟩ := hSx))
    (try (obtain ⟨_, _, _⟩ := hSx))
    (try (obtain ⟨_, _⟩ := hSx))
    go_simp
    (try with_reducible rfl)
  (try simp only [Act.put, List.setIfInBounds_toArray, List.set_cons_zero, List.set_cons_succ])
  refine wpAnyH_take (i := 1) (v := ?_) rfl (by kernel_rfl) (by kernel_rfl) (by kernel_rfl) (fun _ _ _ h => h) (Or.inl ⟨by rfl, ?_⟩) (by assumption) ?_
  rotate_left
  · intro w hSw
    have hSx := HF.out w hSw
    (try (obtain ⟨_, _, _, _, _, _, _, _⟩ := hSx))
    (try (obtain ⟨_, _, _, _⟩ := hSx))
    (try (obtain ⟨_, _, _⟩ := hSx))
    (try (obtain ⟨_, _⟩ := hSx))
    go_simp
    (try with_reducible rfl)
  (try simp only [Act.put, List.setIfInBounds_toArray, List.set_cons_zero, List.set_cons_succ])
  refine wpAnyH_take (i := 3) (v := ?_) rfl (by kernel_rfl) (by kernel_rfl) (by kernel_rfl) (fun _ _ _ h => h) (Or.inl ⟨by rfl, ?_⟩) (by assumption) ?_
  rotate_left
  · intro w hSw
    have hSx := HF.out w hSw
    (try (obtain ⟨_, _, _, _, _, _, _, _⟩ := hSx))
    (try (obtain ⟨_, _, _, _⟩ := hSx))
    (try (obtain ⟨_, _, _⟩ := hSx))
    (try (obtain ⟨_, _⟩ := hSx))
    go_simp
    (try with_reducible rfl)
  (try simp only [Act.put, List.setIfInBounds_toArray, List.set_cons_zero, List.set_cons_succ])
  refine wpAnyH_take (i := 4) (v := ?_) rfl (by kernel_rfl) (by kernel_rfl) (by kernel_rfl) (fun _ _ _ h => h) (Or.inl ⟨by rfl, ?_⟩) (by assumption) ?_
  rotate_left
  · intro w hSw
    have hSx := HF.out w hSw
    (try (obtain ⟨_, _, _, _, _, _, _, _⟩ := hSx))
    (try (obtain ⟨_, _, _, _⟩ := hSx))
    (try (obtain ⟨_, _, _⟩ := hSx))
    (try (obtain ⟨_, _⟩ := hSx))
    go_simp
    (try with_reducible rfl)
  (try simp only [Act.put, List.setIfInBounds_toArray, List.set_cons_zero, List.set_cons_succ])
  refine wpAnyH_ready (rs := [2]) (by kernel_rfl) (by simp) ?_
  refine AllReadyH.cons rfl (fun K hK => ?_) AllReadyH.nil
  go_simp
  refine (WA D).mono ?_
  rintro e W1 ⟨c1, c2, c4, c5, c7, rfl, hm, hB, hb⟩
  have hS1 : Below (w.heap.size + 1) W0 W1 := hS0.trans (hb.mono (by omega))
  have hy3 := below_at hb hy2
  have hw := ways_look hm k (chk_parts hc).1
  have hsz1 := hb.size
  have b4 := b3.trans (hb.mono (by omega))
  obtain ⟨g1, g2, g3, g4, aa, hv⟩ := (ways_is hB hc).agg
  have HI : Hid (wayV c1 c2 c4 c5 c7 k = .agg #[.func g1 aa #[], .func g2 aa #[], .func g3 aa #[], .func g4 aa #[]]) := hv
  have HB2 : Hid (WaysB W1 D.heap.size c1 c2 c4 c5 c7 z) := hB
  rw [hv, hsz2] at hw
  clear hB hb hv hy2 hm b3
  go_simp
  refine hK.out _ _ hS1 (fun _ => ?_)
  clear hK K
  (try simp only [Act.put, List.setIfInBounds_toArray, List.set_cons_zero, List.set_cons_succ])
  refine wpAnyH_ready (rs := [5]) (by kernel_rfl) (by simp) ?_
  refine AllReadyH.cons rfl (fun K hK => ?_) AllReadyH.nil
  go_simp
  refine hK.out _ _ hS1 (fun _ => ?_)
  clear hK K
  (try simp only [Act.put, List.setIfInBounds_toArray, List.set_cons_zero, List.set_cons_succ])
  obtain ⟨_, f0, f1, f2, f3⟩ := blk4 hy3
  obtain ⟨s1, s2⟩ := store4 hy3 (.func g1 aa #[]) (.func g2 aa #[]) (.func g3 aa #[]) (.func g4 aa #[])
  have hS2 := hS1.trans (s2.below (Nat.le_refl _))
  have HW : Hid (IsWay ((((W1.setCell ⟨w.heap.size + 1, 0, none⟩ (.func g1 aa #[])).setCell ⟨w.heap.size + 1, 1, none⟩ (.func g2 aa #[])).setCell ⟨w.heap.size + 1, 2, none⟩ (.func g3 aa #[])).setCell ⟨w.heap.size + 1, 3, none⟩ (.func g4 aa #[])) (wayV c1 c2 c4 c5 c7 k) k z) := ways_is (HB2.out.kept s2.grown (by omega)) hc
  have HS : Hid _ := s1
  have hbF := b4.trans (s2.below (Nat.le_succ _))
  clear s1 s2
  refine wpAnyH_ready (rs := [6]) (by kernel_rfl) (by simp) ?_
  refine AllReadyH.cons rfl (fun K hK => ?_) AllReadyH.nil
  go_simp
  refine hK.out _ _ hS2 (fun _ => ?_)
  clear hK K
  refine wpAnyH_done (by kernel_rfl) ?_ _
  go_wp2_with fail
  generalize ((((W1.setCell ⟨w.heap.size + 1, 0, none⟩ (.func g1 aa #[])).setCell ⟨w.heap.size + 1, 1, none⟩ (.func g2 aa #[])).setCell ⟨w.heap.size + 1, 2, none⟩ (.func g3 aa #[])).setCell ⟨w.heap.size + 1, 3, none⟩ (.func g4 aa #[])) = X at *
  obtain ⟨⟨d0, d1, d2, d3⟩, _⟩ := blk4 HS.out
  refine bodyPost_ret (v := .agg #[.func g1 aa #[], .func g2 aa #[], .func g3 aa #[], .func g4 aa #[]]) (by simp [results, Try.results17, go_sem, Try.underlying57, d0, d1, d2, d3]) rfl ?_
  exact ⟨_, rfl, by rw [← HI.out]; exact HW.out, hbF⟩
end Go.Proofs.Ytdglobonbhkheaa
