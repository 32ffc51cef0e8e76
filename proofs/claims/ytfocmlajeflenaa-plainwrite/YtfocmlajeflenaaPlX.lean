/-
  The parts as the program makes them, and the rows' ways.
-/
import Derived.Test.YtfocmlajeflenaaPlQ
import Derived.Test.YtfocmlajeflenaaPlP
import Derived.Test.YtfocmlajeflenaaPlT
import Derived.Test.YtfocmlajeflenaaPlU
import Derived.Test.YtfocmlajeflenaaPlV
import Derived.Shelf.Abstract
namespace Go.Proofs.Ytfocmlajeflenaa
set_option linter.unusedVariables false
set_option linter.unusedSimpArgs false
open Go.ChangeShapes Go.WideShapes Go.ChangeAt Go.RowKit Go.Deep

theorem ent_numbers1 : Ent 64 := fun args W => Go.Proofs.enters_of Try.func64 (by kernel_rfl) rfl args W
theorem ent_numbers2 : Ent 65 := fun args W => Go.Proofs.enters_of Try.func65 (by kernel_rfl) rfl args W
theorem ent_numbers3 : Ent 67 := fun args W => Go.Proofs.enters_of Try.func67 (by kernel_rfl) rfl args W
theorem ent_texts1 : Ent 71 := fun args W => Go.Proofs.enters_of Try.func71 (by kernel_rfl) rfl args W
theorem ent_texts2 : Ent 72 := fun args W => Go.Proofs.enters_of Try.func72 (by kernel_rfl) rfl args W
theorem ent_texts3 : Ent 73 := fun args W => Go.Proofs.enters_of Try.func73 (by kernel_rfl) rfl args W
theorem ent_fixed1 : Ent 76 := fun args W => Go.Proofs.enters_of Try.func76 (by kernel_rfl) rfl args W
theorem ent_fixed2 : Ent 77 := fun args W => Go.Proofs.enters_of Try.func77 (by kernel_rfl) rfl args W
theorem ent_fixed3 : Ent 78 := fun args W => Go.Proofs.enters_of Try.func78 (by kernel_rfl) rfl args W

theorem run_store_fn {P : Program} (w : World) (a : Addr) (m : Mode) (f : Fn) (x y : Array Value) : (store a (.func f x y) m).run P w = stored P w a (.func f x y) m := run_store P w a _ m rfl
attribute [local go_sem] run_store_fn
/-- a number's part, by its boxes -/
def numV (B : Nat) : Value := .agg #[.func (.func 64) #[] #[.pointer (some ⟨B, 0, none⟩)], .func (.func 65) #[] #[.pointer (some ⟨B + 3, 0, none⟩), .pointer (some ⟨B, 0, none⟩)], .func (.func 67) #[] #[.pointer (some ⟨B, 0, none⟩), .pointer (some ⟨B + 1, 0, none⟩)]]
def textV : Value := .agg #[.func (.func 71) #[] #[], .func (.func 72) #[] #[], .func (.func 73) #[] #[]]
def fixV (B : Nat) : Value := .agg #[.func (.func 76) #[] #[.pointer (some ⟨B, 0, none⟩)], .func (.func 77) #[] #[], .func (.func 78) #[] #[.pointer (some ⟨B, 0, none⟩)]]
def rowV (p : Value) : Value := .agg #[.func (.func 60) #[p] #[], .func (.func 61) #[p] #[], .func (.func 62) #[p] #[], .func (.func 63) #[p] #[]]
def truthV : Value := .agg #[.func (.func 40) #[] #[], .func (.func 41) #[] #[], .func (.func 42) #[] #[], .func (.func 43) #[] #[]]
/-- a number's boxes -/
def NumB (w : World) (B nb : Nat) (fn : FuncId) : Prop := w.cell? ⟨B, 0, none⟩ = some (.int .i64 nb) ∧ w.cell? ⟨B + 3, 0, none⟩ = some (.int .i64 (64 - 8 * (nb : Int))) ∧ w.cell? ⟨B + 1, 0, none⟩ = some (.func (.func fn) #[] #[])
theorem NumB.later {w w' : World} {B nb : Nat} {fn : FuncId} (h : NumB w B nb fn) (hb : Below w.heap.size w w') : NumB w' B nb fn := ⟨cell_later hb h.1, cell_later hb h.2.1, cell_later hb h.2.2⟩
theorem NumB.kept {w w' : World} {B nb m : Nat} {fn : FuncId} (h : NumB w B nb fn) (hg : w.grownBy w' (some m)) (hm : m < B) : NumB w' B nb fn :=
  ⟨hg.cell h.1 (by simp; omega), hg.cell h.2.1 (by simp; omega), hg.cell h.2.2 (by simp; omega)⟩
theorem part_1 {w : World} {B : Nat} (h : NumB w B 4 46) (z : Int) : Part w (numV B) 1 z := by
  refine ⟨_, _, _, _, _, _, rfl, ent_numbers1, ent_numbers2, ent_numbers3, fun W hW d hd => ?_, fun W hW d base u n xs ho hown h1 h2 h3 => ?_, fun W hW a len cap p bs hb hp => ?_⟩
  · have e : dsz 1 z d = 4 := by simp [dsz]
    rw [e]
    exact num1_any d B 4 W (cell_later hW h.1)
  · have e : db d = upk 8 4 (d.n % 4294967296).toNat := by
      unfold db
      rw [(of_parts ho).1]
      simp
    rw [e, upk_len]
    exact num2_4 d (B + 3) B W (cell_later hW h.2.1) (cell_later hW h.1) base u n xs hown h2 h3
  · exact num3_1 B (B + 1) W (cell_later hW h.1) (cell_later hW h.2.2) a len cap p bs hb hp z
theorem part_2 {w : World} {B : Nat} (h : NumB w B 8 47) (z : Int) : Part w (numV B) 2 z := by
  refine ⟨_, _, _, _, _, _, rfl, ent_numbers1, ent_numbers2, ent_numbers3, fun W hW d hd => ?_, fun W hW d base u n xs ho hown h1 h2 h3 => ?_, fun W hW a len cap p bs hb hp => ?_⟩
  · have e : dsz 2 z d = 8 := by simp [dsz]
    rw [e]
    exact num1_any d B 8 W (cell_later hW h.1)
  · have e : db d = upk 8 8 (d.n % 18446744073709551616).toNat := by
      unfold db
      rw [(of_parts ho).1]
      simp
    rw [e, upk_len]
    exact num2_8 d (B + 3) B W (cell_later hW h.2.1) (cell_later hW h.1) base u n xs hown h2 h3
  · exact num3_2 B (B + 1) W (cell_later hW h.1) (cell_later hW h.2.2) a len cap p bs hb hp z
theorem part_4 {w : World} {B : Nat} (h : NumB w B 4 48) (z : Int) : Part w (numV B) 4 z := by
  refine ⟨_, _, _, _, _, _, rfl, ent_numbers1, ent_numbers2, ent_numbers3, fun W hW d hd => ?_, fun W hW d base u n xs ho hown h1 h2 h3 => ?_, fun W hW a len cap p bs hb hp => ?_⟩
  · have e : dsz 4 z d = 4 := by simp [dsz]
    rw [e]
    exact num1_any d B 4 W (cell_later hW h.1)
  · have e : db d = upk 8 4 (d.n % 4294967296).toNat := by
      unfold db
      rw [(of_parts ho).1]
      simp
    rw [e, upk_len]
    exact num2_4 d (B + 3) B W (cell_later hW h.2.1) (cell_later hW h.1) base u n xs hown h2 h3
  · exact num3_4 B (B + 1) W (cell_later hW h.1) (cell_later hW h.2.2) a len cap p bs hb hp z
theorem part_5 {w : World} {B : Nat} (h : NumB w B 8 49) (z : Int) : Part w (numV B) 5 z := by
  refine ⟨_, _, _, _, _, _, rfl, ent_numbers1, ent_numbers2, ent_numbers3, fun W hW d hd => ?_, fun W hW d base u n xs ho hown h1 h2 h3 => ?_, fun W hW a len cap p bs hb hp => ?_⟩
  · have e : dsz 5 z d = 8 := by simp [dsz]
    rw [e]
    exact num1_any d B 8 W (cell_later hW h.1)
  · have e : db d = upk 8 8 (d.n % 18446744073709551616).toNat := by
      unfold db
      rw [(of_parts ho).1]
      simp
    rw [e, upk_len]
    exact num2_8 d (B + 3) B W (cell_later hW h.2.1) (cell_later hW h.1) base u n xs hown h2 h3
  · exact num3_5 B (B + 1) W (cell_later hW h.1) (cell_later hW h.2.2) a len cap p bs hb hp z
theorem size_of_ok {k z : Int} {d : Dat} (h : ofB d.k d.n d.s.size k z = true) : d.s.size ≤ 1048576 := by
  have := (fine_parts (of_parts h).2.2.1).2.2.2.2
  have hb5 : bo d.k 5 ≤ 1048576 := by simp only [bo]; split <;> omega
  omega
theorem part_6 (w : World) (z : Int) : Part w textV 6 z := by
  refine ⟨_, _, _, _, _, _, rfl, ent_texts1, ent_texts2, ent_texts3, fun W hW d hd => ?_, fun W hW d base u n xs ho hown h1 h2 h3 => ?_, fun W hW a len cap p bs hb hp => ?_⟩
  · have e : dsz 6 z d = 4 + d.s.size := by simp [dsz]
    rw [e]
    exact text1_any d hd W
  · have e : db d = upk 8 4 d.s.size ++ tb d.s := by
      unfold db
      rw [(of_parts ho).1]
      simp
    rw [e]
    exact text2_any d W base u n xs hown h2 h3 (size_of_ok ho)
  · exact text3_any W a len cap p bs hb hp z
theorem part_7 {w : World} {B : Nat} {z : Int} (h : w.cell? ⟨B, 0, none⟩ = some (.int .i64 z)) (hz : 1 ≤ z) (hz2 : z ≤ 1048576) : Part w (fixV B) 7 z := by
  obtain ⟨Z, rfl⟩ := Int.eq_ofNat_of_zero_le (show 0 ≤ z by omega)
  refine ⟨_, _, _, _, _, _, rfl, ent_fixed1, ent_fixed2, ent_fixed3, fun W hW d hd => ?_, fun W hW d base u n xs ho hown h1 h2 h3 => ?_, fun W hW a len cap p bs hb hp => ?_⟩
  · have e : dsz 7 (Z : Int) d = Z := by simp [dsz]
    rw [e]
    exact fix1_any d B Z W (cell_later hW h)
  · have e : db d = tb d.s := by
      unfold db
      rw [(of_parts ho).1]
      simp
    rw [e]
    exact fix2_any d W base u n xs hown h2 h3 (size_of_ok ho)
  · exact fix3_any B Z W (cell_later hW h) (by omega) a len cap p bs hb hp

theorem alloc4_cell (w : World) (o1 o2 o3 : Obj) (C : Array Value) (t : TypeId) (fr : Nat × Nat) {j : Nat} {u : Value} (hj : C[j]? = some u) : ((((w.alloc o1).alloc o2).alloc o3).alloc (.cells C t fr)).cell? ⟨w.heap.size + 3, j, none⟩ = some u := by
  have h := alloc_cell (((w.alloc o1).alloc o2).alloc o3) C t fr hj
  have e : (((w.alloc o1).alloc o2).alloc o3).heap.size = w.heap.size + 3 := by simp
  rwa [e] at h
set_option maxRecDepth 100000 in
set_option maxHeartbeats 1000000 in
theorem numbers_any (nb : Nat) (hnb : nb ≤ 8) (fn : FuncId) (w : World) : Calls Try.prog 45 #[.int .i64 nb, .func (.func fn) #[] #[]] w fun e w' => e = .returned (numV w.heap.size) ∧ NumB w' w.heap.size nb fn ∧ Below w.heap.size w w' := by
  have hnb' : (nb : Int) ≤ 8 := by omega
  go_enter Try.func45, Try.ntmps45
  go_wp2_with fail
  refine bodyPost_ret (v := numV w.heap.size) (by simp [numV, textV, fixV, rowV, results, Try.results45, go_sem, Try.underlying96]) rfl ?_
  refine ⟨rfl, ?_, ?_⟩
  · refine ⟨cell_later (alloc_below _ _) (cell_later (alloc_below _ _) (cell_later (alloc_below _ _) (alloc_cell w _ _ _ rfl))), ?_, cell_later (alloc_below _ _) (cell_later (alloc_below _ _) (alloc2_cell w _ _ _ _ rfl))⟩
    exact alloc4_cell w _ _ _ _ _ _ rfl
  · exact ((((alloc_below _ _).alloc (by simp) _).alloc (by simp; omega) _).alloc (by simp; omega) _)
set_option maxRecDepth 100000 in
set_option maxHeartbeats 1000000 in
theorem texts_any (w : World) : Calls Try.prog 50 #[] w fun e w' => e = .returned textV ∧ Below w.heap.size w w' := by
  go_enter Try.func50, Try.ntmps50
  go_wp2_with fail
  refine bodyPost_ret (v := textV) (by simp [numV, textV, fixV, rowV, results, Try.results50, go_sem, Try.underlying96]) rfl ?_
  exact ⟨rfl, alloc_below _ _⟩
set_option maxRecDepth 100000 in
set_option maxHeartbeats 1000000 in
theorem fixed_p (z : Int) (w : World) : Calls Try.prog 51 #[.int .i64 z] w fun e w' => e = .returned (fixV w.heap.size) ∧ w'.cell? ⟨w.heap.size, 0, none⟩ = some (.int .i64 z) ∧ Below w.heap.size w w' := by
  go_enter Try.func51, Try.ntmps51
  go_wp2_with fail
  refine bodyPost_ret (v := fixV w.heap.size) (by simp [numV, textV, fixV, rowV, results, Try.results51, go_sem, Try.underlying96]) rfl ?_
  exact ⟨rfl, by simp, (alloc_below _ _).alloc (by simp) _⟩
set_option maxRecDepth 100000 in
set_option maxHeartbeats 1000000 in
theorem inRow_any (v1 v2 v3 : Value) (w : World) : Calls Try.prog 44 #[.agg #[v1, v2, v3]] w fun e w' => e = .returned (rowV (.agg #[v1, v2, v3])) ∧ Below w.heap.size w w' := by
  go_enter Try.func44, Try.ntmps44
  go_wp2_with fail
  refine bodyPost_ret (v := rowV (.agg #[v1, v2, v3])) (by simp [numV, textV, fixV, rowV, results, Try.results44, go_sem, Try.underlying57]) rfl ?_
  exact ⟨rfl, (alloc_below _ _).alloc (by simp) _⟩
end Go.Proofs.Ytfocmlajeflenaa
