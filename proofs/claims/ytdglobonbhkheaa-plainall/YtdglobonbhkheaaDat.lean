/-
  Rows of data in memory, and one that came in, opened.
-/
import Derived.Test.YtdglobonbhkheaaBase
import Derived.ProofKit
import Derived.OpenShut
import Derived.SizedLaws
import Derived.Lib.SmallJoins
import Derived.ChangeMaps5
namespace Go.Proofs.Ytdglobonbhkheaa
set_option linter.unusedVariables false
open Go.ChangeShapes Go.WideShapes Go.ChangeAt Go.RowKit Go.Joins

structure Dat where
  k : Int
  n : Int
  s : ByteArray
def dcells (d : Dat) : List Value := [.int .i64 d.k, .int .i64 d.n, .string d.s]
def Dat.wf (d : Dat) : Prop := (Lit.int .i64 d.k).wf = true ∧ (Lit.int .i64 d.n).wf = true ∧ d.s.size ≤ maxLen
def dval (d : Dat) : Value := .agg #[.int .i64 d.k, .int .i64 d.n, .string d.s]
/-- the cells of a row of data -/
def DRow (w : World) (b o : Nat) (l : List Dat) : Prop := ∀ i d, l[i]? = some d → w.cell? ⟨b, o + i * 3, none⟩ = some (.int .i64 d.k) ∧ w.cell? ⟨b, o + i * 3 + 1, none⟩ = some (.int .i64 d.n) ∧ w.cell? ⟨b, o + i * 3 + 2, none⟩ = some (.string d.s)
def Data (w : World) (a : Option Addr) (len cap : Nat) (l : List Dat) : Prop :=
  l.length = len ∧ (len ≤ cap ∧ (a = none → cap = 0)) ∧ len ≤ 140737488355328 ∧ (∀ d ∈ l, d.wf) ∧ (0 < len → ∃ b o, a = some ⟨b, o, none⟩ ∧ b < w.heap.size ∧ DRow w b o l)
theorem DRow.later {w w' : World} {b o : Nat} {l : List Dat} (h : DRow w b o l) (hb : Below w.heap.size w w') : DRow w' b o l :=
  fun i d hi => ⟨cell_later hb (h i d hi).1, cell_later hb (h i d hi).2.1, cell_later hb (h i d hi).2.2⟩
theorem Data.later {w w' : World} {a : Option Addr} {len cap : Nat} {l : List Dat} (h : Data w a len cap l) (hb : Below w.heap.size w w') : Data w' a len cap l := by
  obtain ⟨h1, h2, h3, h4, h5⟩ := h
  refine ⟨h1, h2, h3, h4, fun h0 => ?_⟩
  obtain ⟨b, o, e, hl, hr⟩ := h5 h0
  exact ⟨b, o, e, Nat.lt_of_lt_of_le hl hb.size, hr.later hb⟩
theorem data_at {w : World} {a : Option Addr} {len cap i : Nat} {l : List Dat} (h : Data w a len cap l) (hi : i < len) : ∃ d b o, l[i]? = some d ∧ d.wf ∧ a = some ⟨b, o, none⟩ ∧ b < w.heap.size ∧
    w.cell? ⟨b, o + i * 3, none⟩ = some (.int .i64 d.k) ∧ w.cell? ⟨b, o + i * 3 + 1, none⟩ = some (.int .i64 d.n) ∧ w.cell? ⟨b, o + i * 3 + 2, none⟩ = some (.string d.s) := by
  obtain ⟨h1, h2, h3, h4, h5⟩ := h
  obtain ⟨b, o, e, hl, hr⟩ := h5 (by omega)
  have hd : l[i]? = some (l[i]'(by omega)) := List.getElem?_eq_getElem _
  obtain ⟨c0, c1, c2⟩ := hr i _ hd
  exact ⟨_, b, o, hd, h4 _ (List.getElem_mem _), e, hl, c0, c1, c2⟩

/-- are two data the same? -/
def sameD (d e : Dat) : Bool := decide (d.k = e.k ∧ d.n = e.n ∧ d.s.toList = e.s.toList)
def sameL : List Dat → List Dat → Bool
  | [], [] => true
  | d :: l, e :: m => sameD d e && sameL l m
  | _, _ => false
theorem sameL_len : ∀ {l m : List Dat}, l.length ≠ m.length → sameL l m = false
  | [], [], h => absurd rfl h
  | [], _ :: _, _ => rfl
  | _ :: _, [], _ => rfl
  | d :: l, e :: m, h => by
    rw [sameL, sameL_len (l := l) (m := m) (fun e => h (by simp [e])), Bool.and_false]
theorem sameD_refl (d : Dat) : sameD d d = true := by simp [sameD]
theorem sameL_refl : ∀ l : List Dat, sameL l l = true
  | [] => rfl
  | d :: l => by rw [sameL, sameD_refl, sameL_refl l]; rfl
theorem sameL_drop {l m : List Dat} {i : Nat} {d e : Dat} (hd : l[i]? = some d) (he : m[i]? = some e) : sameL (l.drop i) (m.drop i) = (sameD d e && sameL (l.drop (i + 1)) (m.drop (i + 1))) := by
  obtain ⟨h1, h2⟩ := List.getElem?_eq_some_iff.1 hd
  obtain ⟨h3, h4⟩ := List.getElem?_eq_some_iff.1 he
  rw [List.drop_eq_getElem_cons h1, List.drop_eq_getElem_cons h3, h2, h4]
  rfl
theorem sameL_end {l m : List Dat} {i : Nat} (h : l.length = m.length) (hi : l.length ≤ i) : sameL (l.drop i) (m.drop i) = true := by
  rw [List.drop_eq_nil_of_le hi, List.drop_eq_nil_of_le (by omega)]
  rfl

theorem wAll_mem {H : Type} {P : Program} {e : TypeId} : ∀ {l : List (DataW H)} {i : Nat} {d : DataW H}, l[i]? = some d → ∀ n ∈ d.weights P e, n ∈ DataW.weightsAll P e l
  | [], _, _, h, _, _ => by simp at h
  | x :: l, 0, d, h, n, hn => by
    simp only [List.getElem?_cons_zero, Option.some.injEq] at h
    subst h
    simp only [DataW.weightsAll, List.mem_append]
    exact .inl hn
  | x :: l, i + 1, d, h, n, hn => by
    simp only [List.getElem?_cons_succ] at h
    simp only [DataW.weightsAll, List.mem_append]
    exact .inr (wAll_mem h n hn)
theorem cellsD : Try.prog.cellsOf 22 = 1 ∧ Try.prog.cellsOf 2 = 1 ∧ Try.prog.cellsOf 9 = 1 ∧ Try.prog.cellsOf 48 = 3 := ⟨by kernel_rfl, by kernel_rfl, by kernel_rfl, by kernel_rfl⟩
theorem bytesD : Try.prog.bytesOf 48 = 32 := by kernel_rfl
theorem list3 {α : Type} {l : List α} (h : l.length = 3) : ∃ a0 a1 a2, l = [a0, a1, a2] := by
  rcases l with _ | ⟨a0, _ | ⟨a1, _ | ⟨a2, _ | ⟨a3, l⟩⟩⟩⟩
  all_goals first | exact ⟨_, _, _, rfl⟩ | (simp at h)
set_option maxRecDepth 100000 in
theorem open_dat {H : Type} {enc : TypeId × Value → H} {W : World} {base : Nat} {held : Bool} (fuel : Nat) (cs : List Value) (x : DataW H × List MemPlace) (h : DataW.trod enc Try.prog W base (fun _ => true) held fuel 48 cs = some x) :
    ∃ d : Dat, cs = dcells d ∧ d.wf := by
  obtain ⟨xs, n, hfu, rfl, hcl, hxl, hf⟩ := DataW.trod_struct Try.underlying48 h
  obtain ⟨k1, k2, k3, k4⟩ := cellsD
  rw [k4] at hcl
  have hxl3 : xs.length = 3 := hxl
  obtain ⟨c0, c1, c2, rfl⟩ := list3 hcl
  obtain ⟨y0, y1, y2, rfl⟩ := list3 hxl3
  have t0 : DataW.trod enc Try.prog W base (fun _ => true) held n 22 [c0] = some y0 := by simpa [k1] using hf 0 _ rfl
  have t1 : DataW.trod enc Try.prog W base (fun _ => true) held n 2 [c1] = some y1 := by simpa [k2] using hf 1 _ rfl
  have t2 : DataW.trod enc Try.prog W base (fun _ => true) held n 9 [c2] = some y2 := by simpa [k3] using hf 2 _ rfl
  obtain ⟨z0, e0, _, g0⟩ := DataW.trod_int Try.underlying22 t0
  obtain ⟨z1, e1, _, g1⟩ := DataW.trod_int Try.underlying2 t1
  obtain ⟨z2, e2, _, g2⟩ := DataW.trod_string Try.underlying9 t2
  simp only [List.cons.injEq, and_true] at e0 e1 e2
  subst e0 e1 e2
  exact ⟨⟨z0, z1, z2⟩, rfl, g0, g1, g2⟩
set_option maxRecDepth 100000 in
/-- an argument -/
theorem arg_data {H : Type} {enc : TypeId × Value → H} {W : World} {base b0 : Nat} {held : Bool} {r : Reach} {v : Value} {d : DataW H} {p : List MemPlace} {ts : List TypeId} {ds : List (DataW H)}
    (hsz : (DataW.weightsEach Try.prog ts ds).all (· ≤ reachBytes) = true) (j : Nat) (ht : ts[j]? = some 25) (hd : ds[j]? = some d) (hv : Value.okWide Try.prog W r b0 25 v)
    (h : ∃ fuel, DataW.trod enc Try.prog W base (fun _ => true) held fuel 25 v.cells.toList = some (d, p)) : ∃ (a : Option Addr) (len cap : Nat) (l : List Dat), v = .slice a len cap ∧ Data W a len cap l := by
  obtain ⟨fuel, hf⟩ := h
  obtain ⟨a0, l0, c0, rfl, _⟩ := okWide_slice Try.underlying25 hv
  have hw : ∀ n ∈ d.weights Try.prog 25, n ≤ reachBytes := fun n hn => by
    have := List.all_eq_true.1 hsz n (DataW.weights_mem_each ht hd n hn)
    simpa using this
  have hr : reachBytes ≤ 140737488355328 := by decide
  rcases DataW.trod_slice Try.underlying25 hf with ⟨hcs, _⟩ | ⟨a, len, cap, elems, rest, n', hfu', hcs, hx, hb, hl, hm, hlen, hel, hsp, hns⟩
  · simp [Value.cells] at hcs
    obtain ⟨rfl, rfl, rfl⟩ := hcs
    exact ⟨none, 0, 0, [], rfl, rfl, ⟨Nat.le_refl _, fun _ => rfl⟩, Nat.zero_le _, (fun d hd => by cases hd), fun h => absurd h (by omega)⟩
  · simp [Value.cells] at hcs
    obtain ⟨rfl, rfl, rfl⟩ := hcs
    have hx0 := congrArg Prod.fst hx
    simp only at hx0
    rw [hx0] at hw
    simp only [DataW.weights, Try.underlying25, List.length_map, List.mem_cons, List.mem_append] at hw
    have hlen' : l0 ≤ 140737488355328 := by
      have h1 := hw _ (.inl rfl)
      rw [bytesD] at h1
      omega
    obtain ⟨k1, k2, k3, k4⟩ := cellsD
    have elem : ∀ i, i < l0 → ∃ cs', W.cells? base (a.add (i * 3)) 3 = some cs' ∧ ∃ d : Dat, cs' = dcells d ∧ d.wf := by
      intro i hi
      have he := hel i hi
      rw [k4, List.getElem?_eq_getElem (by omega)] at he
      obtain ⟨cs', hc1, hc2⟩ := Option.bind_eq_some_iff.1 he
      exact ⟨cs', hc1, open_dat n' cs' _ hc2⟩
    by_cases h0 : l0 = 0
    · subst h0
      exact ⟨some a, 0, c0, [], rfl, rfl, ⟨Nat.zero_le _, fun h => by cases h⟩, Nat.zero_le _, (fun d hd => by cases hd), fun h => absurd h (by omega)⟩
    · obtain ⟨b, o, sp⟩ := a
      obtain ⟨cs0, hc0, d0, rfl, _⟩ := elem 0 (by omega)
      obtain ⟨_, _, hcc⟩ := World.cells?_some hc0
      have hcell0 := hcc 0 (by omega)
      rw [show ((⟨b, o, sp⟩ : Addr).add (0 * 3)).add 0 = ⟨b, o, sp⟩ by simp [Addr.add]] at hcell0
      have hsp0 : sp = none := by
        have := World.cell?_spot (w := W) (a := ⟨b, o, sp⟩) (v := .int .i64 d0.k) (by rw [hcell0]; rfl)
        simpa using this
      subst hsp0
      have hbl : b < W.heap.size := block_lt_of_cell (a := ⟨b, o, none⟩) (v := .int .i64 d0.k) (by rw [hcell0]; rfl)
      have pick : ∀ i : Fin l0, ∃ d : Dat, d.wf ∧ W.cell? ⟨b, o + i * 3, none⟩ = some (.int .i64 d.k) ∧ W.cell? ⟨b, o + i * 3 + 1, none⟩ = some (.int .i64 d.n) ∧ W.cell? ⟨b, o + i * 3 + 2, none⟩ = some (.string d.s) := by
        intro i
        obtain ⟨cs', hc1, d, rfl, hd⟩ := elem i i.2
        obtain ⟨_, _, hcc⟩ := World.cells?_some hc1
        have at_ : ∀ j, j < 3 → W.cell? ⟨b, o + i * 3 + j, none⟩ = (dcells d)[j]? := fun j hj => by
          have h := hcc j hj
          rw [← h]
          congr 1
          simp only [Addr.add]
          split <;> split <;> simp_all
        exact ⟨d, hd, at_ 0 (by omega), at_ 1 (by omega), at_ 2 (by omega)⟩
      refine ⟨some ⟨b, o, none⟩, l0, c0, List.ofFn fun i => (pick i).choose, rfl, by simp, ⟨hl, fun h => by cases h⟩, hlen', ?_, fun _ => ⟨b, o, rfl, hbl, ?_⟩⟩
      · intro d hd
        obtain ⟨i, rfl⟩ := List.mem_ofFn.1 hd
        exact (pick i).choose_spec.1
      · intro i d hi
        obtain ⟨h1, h2⟩ := List.getElem?_eq_some_iff.1 hi
        rw [List.getElem_ofFn] at h2
        subst h2
        exact (pick ⟨i, by simpa using h1⟩).choose_spec.2
end Go.Proofs.Ytdglobonbhkheaa
