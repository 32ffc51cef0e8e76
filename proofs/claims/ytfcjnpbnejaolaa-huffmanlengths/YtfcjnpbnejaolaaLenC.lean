/-
  huffman: packages in memory: pairsAmong, lengthen, the closure that tells the lighter one, pairsOf.
-/
import Derived.Test.YtfcjnpbnejaolaaLenB
import Derived.Test.YtfcjnpbnejaolaaMathP
import Derived.Test.YtfcjnpbnejaolaaVec
namespace Go.Proofs.Ytfcjnpbnejaolaa
set_option linter.unusedVariables false
set_option linter.unusedSimpArgs false
open Go.ChangeShapes Go.WideShapes Go.ChangeAt Go.RowKit Go.Sort Go.Shelf

theorem infoP : (Try.prog.info? 60).map (fun i => (i.zero, i.size, i.bytes)) = some (some (.agg #[.int .i64 0, .bool false]), 2, 16) := by kernel_rfl
/-- packages, as cells -/
def cp : List Pk → List Value
  | [] => []
  | p :: l => .int .i64 ((p.1 : Nat) : Int) :: .bool p.2 :: cp l
theorem cp_len : ∀ l : List Pk, (cp l).length = l.length * 2
  | [] => rfl
  | p :: l => by simp [cp, cp_len l]; omega
theorem cp_append : ∀ a b : List Pk, cp (a ++ b) = cp a ++ cp b
  | [], b => rfl
  | p :: a, b => by simp [cp, cp_append a b]
theorem cp_one : ∀ (l : List Pk), ∀ u ∈ cp l, u.oneCell' = true
  | [], u, h => by simp [cp] at h
  | p :: l, u, h => by
    rw [cp, List.mem_cons, List.mem_cons] at h
    rcases h with rfl | rfl | h
    · rfl
    · rfl
    · exact cp_one l u h
theorem cp_get : ∀ (l : List Pk) (i : Nat) (p : Pk), l[i]? = some p → (cp l)[i * 2]? = some (.int .i64 ((p.1 : Nat) : Int)) ∧ (cp l)[i * 2 + 1]? = some (.bool p.2)
  | [], i, p, h => by simp at h
  | q :: l, 0, p, h => by
    simp at h
    subst h
    exact ⟨rfl, rfl⟩
  | q :: l, i + 1, p, h => by
    have := cp_get l i p (by simpa using h)
    rw [show (i + 1) * 2 = i * 2 + 1 + 1 from by omega]
    simpa [cp] using this
/-- packages that can be read off a slice -/
def PAt (w : World) (g off : Nat) (l : List Pk) : Prop := ∀ i p, l[i]? = some p → w.cell? ⟨g, off + i * 2, none⟩ = some (.int .i64 ((p.1 : Nat) : Int)) ∧ w.cell? ⟨g, off + i * 2 + 1, none⟩ = some (.bool p.2)
theorem PAt.later {w w' : World} {g off : Nat} {l : List Pk} (h : PAt w g off l) (hb : Below w.heap.size w w') : PAt w' g off l := fun i p hi => ⟨cell_later hb (h i p hi).1, cell_later hb (h i p hi).2⟩
theorem PAt.drop {w : World} {g off : Nat} {l : List Pk} (h : PAt w g off l) (n : Nat) : PAt w g (off + n * 2) (l.drop n) := by
  intro i p hi
  rw [List.getElem?_drop] at hi
  have := h (n + i) p hi
  rw [show off + n * 2 + i * 2 = off + (n + i) * 2 from by omega]
  exact this
theorem PAt.take {w : World} {g off : Nat} {l : List Pk} (h : PAt w g off l) (n : Nat) : PAt w g off (l.take n) := by
  intro i p hi
  rw [List.getElem?_take] at hi
  split at hi
  · exact h i p hi
  · cases hi
theorem PAt.own {w : World} {B n : Nat} {v : Value} {l : List Pk} (h : w.ownsRow B 60 2 v n (cp l)) : ∃ g c, v = .slice (some ⟨g, 0, none⟩) n c ∧ PAt w g 0 l ∧ B ≤ g ∧ n ≤ c ∨ v = .slice none 0 0 ∧ n = 0 := by
  rcases h.2 with ⟨h1, h2⟩ | ⟨g, cap, cur, h1, hb, h2, h3, h4⟩
  · exact ⟨0, 0, .inr ⟨h1, h2⟩⟩
  · subst h1
    refine ⟨g, cap, .inl ⟨rfl, fun i p hi => ?_, hb, h3⟩⟩
    have hc := cp_get l i p hi
    have c1 := World.ownsRow.cells h rfl (i * 2) _ hc.1
    have c2 := World.ownsRow.cells h rfl (i * 2 + 1) _ hc.2
    rw [add0] at c1 c2
    rw [Nat.zero_add]
    exact ⟨c1, c2⟩

set_option maxHeartbeats 1000000 in
theorem pairsAmong_any (w : World) (g off n c : Nat) (l : List Pk) (hl : l.length = n) (hn : n ≤ 2000) (h : PAt w g off l) :
    Calls Try.prog 23 #[.slice (some ⟨g, off, none⟩) n c] w fun e w' => e = .returned (.int .i64 (cntP l : Nat)) ∧ Below w.heap.size w w' := by
  have hn' : (n : Int) ≤ 2000 := by omega
  have HP : Hid (∀ k, k < n → ∃ p : Pk, l.take (k + 1) = l.take k ++ [p] ∧ w.cell? ⟨g, off + k * 2, none⟩ = some (.int .i64 ((p.1 : Nat) : Int)) ∧ w.cell? ⟨g, off + k * 2 + 1, none⟩ = some (.bool p.2) ∧ g < w.heap.size) := by
    intro k hk
    have e : l[k]? = some (l[k]'(by omega)) := List.getElem?_eq_getElem (by omega)
    have hh := h k _ e
    exact ⟨_, List.take_succ_eq_append_getElem (by omega), hh.1, hh.2, World.block_lt_of_cell? _ _ hh.1⟩
  have HL : Hid (l.length = n) := hl
  clear h hl
  go_enter Try.func23, Try.ntmps23
  go_wp2_with fail
  go_loopw [3, 8] (fun s k wr => ∃ j : Nat, j ≤ n ∧ k = .int .i64 j ∧ s = .int .i64 ((cntP (l.take j) : Nat) : Int) ∧ Below w.heap.size w wr) (fun _ k _ => n - (intOf k).toNat)
  case atStart => exact ⟨0, Nat.zero_le _, rfl, rfl, Below.refl _ _⟩
  case round =>
    obtain ⟨j, hj, rfl, rfl, bel⟩ := hrel
    by_cases hlt : j < n
    · have hlt' : (j : Int) < (n : Int) := by omega
      obtain ⟨⟨x, b⟩, e, c1, c2, hg⟩ := HP.out j hlt
      have d1 := (bel.cell (p := ⟨g, off + j * 2, none⟩) hg).trans c1
      have d2 := (bel.cell (p := ⟨g, off + j * 2 + 1, none⟩) hg).trans c2
      have HC : Hid (cntP (l.take (j + 1)) = cntP (l.take j) + if b then 1 else 0) := by
        show _ = _
        rw [e, cntP_append]
        cases b <;> rfl
      have hcl := cntP_le (l.take j)
      have hcl2 : (cntP (l.take j) : Int) ≤ 2000 := by
        rw [List.length_take] at hcl
        omega
      generalize cntP (l.take j) = q at *
      clear c1 c2 e hcl
      cases b
      · go_wp2_with fail
        go_roundw
        case rel => exact ⟨j + 1, by omega, by go_num, by rw [HC.out]; rfl, bel.alloc (bel.size) _⟩
        case measure => simp [intOf]; omega
      · go_wp2_with fail
        go_roundw
        case rel => exact ⟨j + 1, by omega, by go_num, by rw [HC.out]; go_num, bel.alloc (bel.size) _⟩
        case measure => simp [intOf]; omega
    · have hge : (n : Int) ≤ (j : Int) := by omega
      have HJ : Hid (l.take j = l) := List.take_of_length_le (by rw [HL.out]; omega)
      go_wp2_with fail
      go_ret
      exact ⟨by rw [HJ.out]; rfl, bel⟩

set_option maxHeartbeats 1000000 in
theorem lighter_any (w : World) (p q : Pk) :
    Calls Try.prog 33 #[.agg #[.int .i64 ((p.1 : Nat) : Int), .bool p.2], .agg #[.int .i64 ((q.1 : Nat) : Int), .bool q.2]] w fun e w' => e = .returned (.bool (decide (p.1 < q.1))) ∧ Below w.heap.size w w' := by
  go_enter Try.func33, Try.ntmps33
  go_wp2
  go_ret
  exact ⟨by simp, ((Below.refl _ w).alloc (Nat.le_refl _) _).alloc (by simp) _⟩

set_option maxHeartbeats 1000000 in
theorem lengthen_any (w : World) (ad : Option Addr) (R n c len : Nat) (ls sy : List Nat) (hv : Vec w R ls) (hls : ls.length = len) (hs : Src w ad n c (cn sy)) (hgR : 0 < n → ∀ g off, ad = some ⟨g, off, none⟩ → g ≠ R) (hsy : ∀ x ∈ sy, x < len) (hn : n ≤ 1000) (hlen : len ≤ 1000) (M : Nat) (hM : ∀ i, ls.getD i 0 ≤ M) (hM2 : M ≤ 100000) :
    Calls Try.prog 20 #[.slice (some ⟨R, 0, none⟩) len len, .slice ad n c] w fun e w' => e = .returned (.tuple #[]) ∧ Vec w' R (lng ls sy) ∧ w.grownBy w' (some R) := by
  have hl : sy.length = n := by have := hs.1; rwa [cn_len] at this
  have hn' : (n : Int) ≤ 1000 := by omega
  have hlen' : (len : Int) ≤ 1000 := by omega
  have HS : Hid (∀ k, k < n → ∃ g off, ad = some ⟨g, off, none⟩ ∧ w.cell? ⟨g, off + k, none⟩ = some (.int .i64 ((sy.getD k 0 : Nat) : Int)) ∧ sy.getD k 0 < len ∧ sy.take (k + 1) = sy.take k ++ [sy.getD k 0] ∧ g ≠ R ∧ g < w.heap.size) := fun k hk => by
    obtain ⟨g, off, e, hc⟩ := src_atn hs hk
    refine ⟨g, off, e, hc, ?_, take_succ_getD sy k (by omega), hgR (by omega) g off e, World.block_lt_of_cell? _ _ hc⟩
    rw [getD_eq (by omega)]
    exact hsy _ (List.getElem_mem _)
  have HB : Hid (∀ k i, k ≤ n → (lng ls (sy.take k)).getD i 0 ≤ 110000) := fun k i hk => by
    have := lng_bound (sy.take k) M ls hM i
    rw [List.length_take] at this
    omega
  have HL : Hid (sy.length = n) := hl
  have HLS : Hid (ls.length = len) := hls
  clear hs hl hM hsy hls
  go_enter Try.func20, Try.ntmps20
  go_wp2_with fail
  go_loopw [8] (fun k wr => ∃ j : Nat, j ≤ n ∧ k = .int .i64 j ∧ Hid (Vec wr R (lng ls (sy.take j)) ∧ w.grownBy wr (some R))) (fun k _ => n - (intOf k).toNat)
  case atStart => exact ⟨0, Nat.zero_le _, rfl, by simpa [lng] using hv, ⟨rfl, rfl, rfl, Nat.le_refl _, fun _ _ _ => rfl⟩⟩
  case round =>
    clear hv
    obtain ⟨j, hj, rfl, HV⟩ := hrel
    by_cases hlt : j < n
    · have hlt' : (j : Int) < (n : Int) := by omega
      obtain ⟨g, off, rfl, c1, hx, et, hne, hglt⟩ := HS.out j hlt
      have d1 : wr.cell? ⟨g, off + j, none⟩ = some (.int .i64 ((sy.getD j 0 : Nat) : Int)) := (World.cell?_of_block (a := ⟨g, off + j, none⟩) (HV.out.2.block g hglt (fun e => hne (Option.some.inj e)))).trans c1
      have HE : Hid (lng ls (sy.take (j + 1)) = (lng ls (sy.take j)).set (sy.getD j 0) ((lng ls (sy.take j)).getD (sy.getD j 0) 0 + 1)) := by show _ = _; rw [et, lng_snoc]
      have hb := HB.out j (sy.getD j 0) hj
      generalize sy.getD j 0 = x at *
      have hx' : (x : Int) < (len : Int) := by omega
      have d2 := HV.out.1.cell (j := x) (by rw [lng_len, HLS.out]; exact hx)
      have f2 := HV.out.1.frozen x
      have HN : Hid (∀ M : Int, M = (((lng ls (sy.take j)).getD x 0 + 1 : Nat) : Int) → Vec (wr.setCell ⟨R, x, none⟩ (.int .i64 M)) R (lng ls (sy.take (j + 1))) ∧ w.grownBy (wr.setCell ⟨R, x, none⟩ (.int .i64 M)) (some R)) := by
        rintro M rfl
        rw [HE.out]
        refine ⟨HV.out.1.set x _, ?_⟩
        have hg := HV.out.2
        exact ⟨hg.os, hg.tape, hg.output, Nat.le_trans hg.size (KeepsOthers.setCell wr ⟨R, x, none⟩ _).size, fun k h1 h2 => (Below.heap_setCell wr ⟨R, x, none⟩ _ k (fun e => h2 (by rw [e]))).trans (hg.block k h1 h2)⟩
      generalize (lng ls (sy.take j)).getD x 0 = q at *
      have hq : (q : Int) ≤ 110000 := by omega
      clear c1 et HV hb HE
      go_wp2_with fail
      go_roundw
      case rel => exact ⟨j + 1, by omega, by go_num, HN.out _ (by omega)⟩
      case measure => simp [intOf]; omega
    · have hge : (n : Int) ≤ (j : Int) := by omega
      have HJ : Hid (sy.take j = sy) := List.take_of_length_le (by rw [HL.out]; omega)
      have HE := HV.out
      rw [HJ.out] at HE
      go_wp2_with fail
      go_end0
      exact ⟨rfl, HE⟩
/-- packages as a whole block -/
def PVec (W : World) (R : Nat) (l : List Pk) : Prop := W.heap[R]? = some (.cells (cp l).toArray 60 (0, 0))
theorem PVec.at {W : World} {R : Nat} {l : List Pk} (h : PVec W R l) : PAt W R 0 l := by
  intro i p hi
  have hc := cp_get l i p hi
  rw [Nat.zero_add]
  exact ⟨cell_of_block h (by simpa using hc.1), cell_of_block h (by simpa using hc.2)⟩
theorem PVec.lt {W : World} {R : Nat} {l : List Pk} (h : PVec W R l) : R < W.heap.size := (Array.getElem?_eq_some_iff.1 h).1
theorem PVec.frozen {W : World} {R : Nat} {l : List Pk} (h : PVec W R l) (j : Nat) : W.frozen? ⟨R, j, none⟩ = false := frozen_of_block h
theorem cp_set : ∀ (l : List Pk) (i : Nat) (p : Pk), ((cp l).set (i * 2) (.int .i64 ((p.1 : Nat) : Int))).set (i * 2 + 1) (.bool p.2) = cp (l.set i p)
  | [], i, p => rfl
  | q :: l, 0, p => rfl
  | q :: l, i + 1, p => by
    rw [show (i + 1) * 2 = i * 2 + 1 + 1 from by omega]
    simp only [cp, List.set_cons_succ]
    rw [cp_set l i p]
theorem PVec.set {W : World} {R : Nat} {l : List Pk} (h : PVec W R l) (i : Nat) (p : Pk) : PVec ((W.setCell ⟨R, i * 2, none⟩ (.int .i64 ((p.1 : Nat) : Int))).setCell ⟨R, i * 2 + 1, none⟩ (.bool p.2)) R (l.set i p) := by
  unfold PVec at *
  rw [set_block (set_block h), ← cp_set]
  simp
theorem PVec.own {W : World} {R B n : Nat} {l : List Pk} (h : PVec W R l) (hl : l.length = n) (hB : B ≤ R) (hn : n ≤ 100000) : W.ownsRow B 60 2 (.slice (some ⟨R, 0, none⟩) n n) n (cp l) := by
  refine ⟨by rw [cp_len, hl], .inr ⟨R, n, (cp l).toArray, rfl, hB, h, Nat.le_refl _, by unfold maxLen; omega, by rw [List.size_toArray, cp_len, hl], ?_⟩⟩
  rw [List.take_of_length_le (by rw [cp_len, hl]; exact Nat.le_refl _)]
theorem own_whole2 {W : World} {B e g n : Nat} {xs : List Value} (h : W.ownsRow B e 2 (.slice (some ⟨g, 0, none⟩) n n) n xs) : W.heap[g]? = some (.cells xs.toArray e (0, 0)) := by
  rcases h.2 with ⟨h1, _⟩ | ⟨g', cap, cur, h1, _, h2, h3, h4, h5, h6⟩
  · cases h1
  · cases h1
    have : cur.toList = xs := by rw [← h6, List.take_of_length_le (by simp [h5])]
    rw [h2, ← this]
theorem cp_zero : ∀ n : Nat, (madeCells (Value.agg #[.int .i64 0, .bool false]).cells (n * 2)).toList = cp (List.replicate n (0, false)) := by
  intro n
  have e : (Value.agg #[.int .i64 0, .bool false]).cells = #[Value.int .i64 0, .bool false] := rfl
  rw [e]
  unfold madeCells
  have h : ∀ n : Nat, (List.range (n * 2)).map (fun x => (#[Value.int .i64 0, .bool false] : Array Value)[x % 2]!) = cp (List.replicate n (0, false)) := by
    intro n
    induction n with
    | zero => rfl
    | succ n ih =>
      rw [show (n + 1) * 2 = n * 2 + 1 + 1 from by omega, List.range_succ, List.range_succ, List.map_append, List.map_append, ih, List.replicate_succ', cp_append]
      have h1 : n * 2 % 2 = 0 := by omega
      have h2 : (n * 2 + 1) % 2 = 1 := by omega
      simp [h1, h2, cp]
  have := h n
  simpa using this
theorem wpList_makeP (w : World) {ops : Array Oper} {rest : List Oper} {o : Oper} {a : Act} {Q : Exit → Act → World → Prop}
    (hg : o.guard = none) (l c : Operand) (hop : o.op = Op.makeSlice 46 l c) (m : Nat) (hl : a.eval l = .int .i64 (m : Int)) (hc : a.eval c = .int .i64 (m : Int)) (b2 : m ≤ 100000)
    (hK : ∀ w', PVec w' w.heap.size (List.replicate m (0, false)) → Below w.heap.size w w' → wpList Try.prog ops Q rest (a.put o.dst (.slice (some ⟨w.heap.size, 0, none⟩) m m)) w') :
    wpList Try.prog ops Q (o :: rest) a w := by
  obtain ⟨i0, hi, hz0, hz1, hz2⟩ := info_parts infoP
  refine wpList_make_full _ hg l c 46 hop w.heap.size 60 i0 (.agg #[.int .i64 0, .bool false]) 2 Try.underlying46 hi hz0 hz1 _ _ _ _ m hl hc rfl rfl (by rw [hz2]; omega) (by unfold maxLen; omega) (Nat.le_refl _) ?_
  intro w1 r1 r2
  have hv := own_whole2 r1
  rw [cp_zero] at hv
  exact hK _ hv ((Below.refl _ w).grown r2 (Nat.le_refl _) (fun _ e => by cases e))

/-- the pairs so far -/
def prsK (l : List Pk) (k : Nat) : List Pk := (prs l).take k ++ List.replicate ((prs l).length - k) (0, false)
theorem prsK_zero (l : List Pk) : prsK l 0 = List.replicate (prs l).length (0, false) := by simp [prsK]
theorem prsK_end (l : List Pk) : prsK l (prs l).length = prs l := by simp [prsK]
theorem prsK_succ (l : List Pk) (k : Nat) (p : Pk) (hk : k < (prs l).length) (hp : (prs l)[k]? = some p) : (prsK l k).set k p = prsK l (k + 1) := by
  unfold prsK
  have hlk : ((prs l).take k).length = k := by rw [List.length_take]; omega
  rw [List.set_append_right _ _ (by omega), hlk, Nat.sub_self, show (prs l).length - k = ((prs l).length - (k + 1)) + 1 from by omega, List.replicate_succ, List.set_cons_zero]
  rw [List.getElem?_eq_getElem hk] at hp
  cases hp
  conv => rhs; rw [List.take_succ_eq_append_getElem hk]
  rw [List.append_assoc]
  rfl
set_option maxRecDepth 10000 in
set_option maxHeartbeats 2000000 in
theorem pairsOf_any (w : World) (g off n c : Nat) (l : List Pk) (hl : l.length = n) (hn : n ≤ 2000) (h : PAt w g off l) (M : Nat) (hM : ∀ p ∈ l, p.1 ≤ M) (hM2 : M ≤ 140737488355328) :
    Calls Try.prog 35 #[.slice (some ⟨g, off, none⟩) n c] w fun e w' => ∃ R, e = .returned (.slice (some ⟨R, 0, none⟩) (prs l).length (prs l).length) ∧ PVec w' R (prs l) ∧ w.heap.size ≤ R ∧ Below w.heap.size w w' := by
  have hn' : (n : Int) ≤ 2000 := by omega
  obtain ⟨d, hd⟩ : ∃ d, d = n / 2 := ⟨_, rfl⟩
  have hdi : (n : Int) / 2 = (d : Int) := by omega
  have hpl : (prs l).length = d := by rw [prs_len, hl, hd]
  have hd' : (d : Int) ≤ 1000 := by omega
  have HP : Hid (∀ k, k < d → ∃ x y : Nat, (prs l)[k]? = some (x + y, true) ∧ w.cell? ⟨g, off + 2 * k * 2, none⟩ = some (.int .i64 (x : Int)) ∧ w.cell? ⟨g, off + (2 * k + 1) * 2, none⟩ = some (.int .i64 (y : Int)) ∧ x ≤ M ∧ y ≤ M ∧ g < w.heap.size) := by
    intro k hk
    have e1 : l[2 * k]? = some (l[2 * k]'(by omega)) := List.getElem?_eq_getElem (by omega)
    have e2 : l[2 * k + 1]? = some (l[2 * k + 1]'(by omega)) := List.getElem?_eq_getElem (by omega)
    have h1 := h _ _ e1
    have h2 := h _ _ e2
    refine ⟨_, _, prs_get l k (by omega), ?_, ?_, ?_, ?_, World.block_lt_of_cell? _ _ h1.1⟩
    · rw [h1.1]; simp [List.getD, e1]
    · rw [h2.1]; simp [List.getD, e2]
    · simp only [List.getD, e1, Option.getD_some]; exact hM _ (List.getElem_mem _)
    · simp only [List.getD, e2, Option.getD_some]; exact hM _ (List.getElem_mem _)
  have HPL : Hid ((prs l).length = d) := hpl
  have HDN : Hid (2 * d ≤ n) := by show _ ≤ _; omega
  clear h hl hM hd hpl
  rw [HPL.out]
  go_enter Try.func35, Try.ntmps35
  go_wp2_with (at_make; refine wpList_makeP _ rfl _ _ rfl d rfl rfl (by omega) ?_; intro w1 hv1 hb1)
  have hz := hb1.size
  go_loopw [11] (fun k wr => ∃ j : Nat, j ≤ d ∧ k = .int .i64 j ∧ Hid (PVec wr w.heap.size (prsK l j)) ∧ Below w.heap.size w wr) (fun k _ => d - (intOf k).toNat)
  case atStart => exact ⟨0, Nat.zero_le _, rfl, by show PVec _ _ _; rw [prsK_zero, HPL.out]; exact hv1, hb1⟩
  case round =>
    clear hv1 hb1
    obtain ⟨j, hj, rfl, HV, bel⟩ := hrel
    by_cases hlt : j < d
    · have hlt' : (j : Int) < (d : Int) := by omega
      obtain ⟨x, y, hp, c1, c2, hx, hy, hg⟩ := HP.out j hlt
      have d1 := (bel.cell (p := ⟨g, off + 2 * j * 2, none⟩) hg).trans c1
      have d2 := (bel.cell (p := ⟨g, off + (2 * j + 1) * 2, none⟩) hg).trans c2
      have HN : Hid (∀ X : Int, X = ((x + y : Nat) : Int) → PVec ((wr.setCell ⟨w.heap.size, j * 2, none⟩ (.int .i64 X)).setCell ⟨w.heap.size, j * 2 + 1, none⟩ (.bool true)) w.heap.size (prsK l (j + 1))) := by
        rintro X rfl
        have h := HV.out.set j (x + y, true)
        rw [prsK_succ l j _ (by rw [HPL.out]; exact hlt) hp] at h
        exact h
      have hx' : (x : Int) ≤ 140737488355328 := by omega
      have hy' : (y : Int) ≤ 140737488355328 := by omega
      have hdn := HDN.out
      obtain ⟨i0, hi0⟩ : ∃ i0, i0 = 2 * j := ⟨_, rfl⟩
      obtain ⟨i1, hi1⟩ : ∃ i1, i1 = 2 * j + 1 := ⟨_, rfl⟩
      obtain ⟨s, hs⟩ : ∃ s, s = x + y := ⟨_, rfl⟩
      rw [← hi0] at d1
      rw [← hi1] at d2
      have m0 : IntKind.i64.wrap (2 * (j : Int)) = (i0 : Int) := by rw [IntKind.wrap_i64]; omega
      have m1 : IntKind.i64.wrap ((i0 : Int) + 1) = (i1 : Int) := by rw [IntKind.wrap_i64]; omega
      have m2 : IntKind.i64.wrap ((x : Int) + (y : Int)) = (s : Int) := by rw [IntKind.wrap_i64]; omega
      have l0 : (i0 : Int) < (n : Int) := by omega
      have l1 : (i1 : Int) < (n : Int) := by omega
      have HNs := HN.out (s : Int) (by rw [hs])
      have v1 := HV.out
      have hps : j * 2 + 1 < (cp (prsK l j)).length := by
        rw [cp_len]
        have : (prsK l j).length = d := by unfold prsK; rw [List.length_append, List.length_take, List.length_replicate, HPL.out]; omega
        omega
      obtain ⟨u0, e0⟩ : ∃ u, wr.drew.cell? ⟨w.heap.size, j * 2, none⟩ = some u := ⟨_, (cell_of_block v1 (Array.getElem?_eq_getElem (by rw [List.size_toArray]; omega)) : wr.cell? _ = _)⟩
      obtain ⟨u1, e1⟩ : ∃ u, wr.drew.cell? ⟨w.heap.size, j * 2 + 1, none⟩ = some u := ⟨_, (cell_of_block v1 (Array.getElem?_eq_getElem (by rw [List.size_toArray]; omega)) : wr.cell? _ = _)⟩
      have f0 : wr.drew.frozen? ⟨w.heap.size, j * 2, none⟩ = false := v1.frozen _
      have f1 : wr.drew.frozen? ⟨w.heap.size, j * 2 + 1, none⟩ = false := v1.frozen _
      have hne : g ≠ w.heap.size := by omega
      have s0 : wr.drew.cell? ⟨g, off + i0 * 2, none⟩ = some (.int .i64 (x : Int)) ∧ wr.drew.cell? ⟨g, off + i1 * 2, none⟩ = some (.int .i64 (y : Int)) := ⟨d1, d2⟩
      have B2 := (bel.setCell (p := ⟨w.heap.size, j * 2, none⟩) (Nat.le_refl _) (.int .i64 (s : Int))).setCell (p := ⟨w.heap.size, j * 2 + 1, none⟩) (Nat.le_refl _) (.bool true)
      clear c1 c2 hp hi0 hi1 hs v1 hps HV HN d1 d2 hx hy
      go_wp2_with fail
      refine wp_region_held_drew (S := fun w' => w'.cell? ⟨g, off + i0 * 2, none⟩ = some (.int .i64 (x : Int)) ∧ w'.cell? ⟨g, off + i1 * 2, none⟩ = some (.int .i64 (y : Int))) (by kernel_rfl) s0 (fun hHeld => ?_)
      generalize hW : wr.drew = Wd at *
      refine wpAnyH_take (i := 0) (v := ?_) rfl (by kernel_rfl) (by kernel_rfl) (by kernel_rfl) (fun _ _ _ h => h) (Or.inl ⟨by rfl, ?_⟩) (by assumption) ?_
      rotate_left
      · intro w hSw
        (try dsimp only at hSw)
        (try (obtain ⟨_, _, _, _, _, _, _⟩ := hSw))
        (try (obtain ⟨_, _⟩ := hSw))
        go_simp
        (try with_reducible rfl)
      (try simp only [Act.put, List.setIfInBounds_toArray, List.set_cons_zero, List.set_cons_succ])
      refine wpAnyH_take (i := 1) (v := ?_) rfl (by kernel_rfl) (by kernel_rfl) (by kernel_rfl) (fun _ _ _ h => h) (Or.inl ⟨by rfl, ?_⟩) (by assumption) ?_
      rotate_left
      · intro w hSw
        (try dsimp only at hSw)
        (try (obtain ⟨_, _, _, _, _, _, _⟩ := hSw))
        (try (obtain ⟨_, _⟩ := hSw))
        go_simp
        (try with_reducible rfl)
      (try simp only [Act.put, List.setIfInBounds_toArray, List.set_cons_zero, List.set_cons_succ])
      refine wpAnyH_take (i := 2) (v := ?_) rfl (by kernel_rfl) (by kernel_rfl) (by kernel_rfl) (fun _ _ _ h => h) (Or.inl ⟨by rfl, ?_⟩) (by assumption) ?_
      rotate_left
      · intro w hSw
        (try dsimp only at hSw)
        (try (obtain ⟨_, _, _, _, _, _, _⟩ := hSw))
        (try (obtain ⟨_, _⟩ := hSw))
        go_simp
        (try with_reducible rfl)
      (try simp only [Act.put, List.setIfInBounds_toArray, List.set_cons_zero, List.set_cons_succ])
      refine wpAnyH_take (i := 3) (v := ?_) rfl (by kernel_rfl) (by kernel_rfl) (by kernel_rfl) (fun _ _ _ h => h) (Or.inl ⟨by rfl, ?_⟩) (by assumption) ?_
      rotate_left
      · intro w hSw
        (try dsimp only at hSw)
        (try (obtain ⟨_, _, _, _, _, _, _⟩ := hSw))
        (try (obtain ⟨_, _⟩ := hSw))
        go_simp
        (try with_reducible rfl)
      (try simp only [Act.put, List.setIfInBounds_toArray, List.set_cons_zero, List.set_cons_succ])
      refine wpAnyH_take (i := 4) (v := ?_) rfl (by kernel_rfl) (by kernel_rfl) (by kernel_rfl) (fun _ _ _ h => h) (Or.inl ⟨by rfl, ?_⟩) (by assumption) ?_
      rotate_left
      · intro w hSw
        (try dsimp only at hSw)
        (try (obtain ⟨_, _, _, _, _, _, _⟩ := hSw))
        (try (obtain ⟨_, _⟩ := hSw))
        go_simp
        (try with_reducible rfl)
      (try simp only [Act.put, List.setIfInBounds_toArray, List.set_cons_zero, List.set_cons_succ])
      refine wpAnyH_take (i := 5) (v := ?_) rfl (by kernel_rfl) (by kernel_rfl) (by kernel_rfl) (fun _ _ _ h => h) (Or.inl ⟨by rfl, ?_⟩) (by assumption) ?_
      rotate_left
      · intro w hSw
        (try dsimp only at hSw)
        (try (obtain ⟨_, _, _, _, _, _, _⟩ := hSw))
        (try (obtain ⟨_, _⟩ := hSw))
        go_simp
        (try with_reducible rfl)
      (try simp only [Act.put, List.setIfInBounds_toArray, List.set_cons_zero, List.set_cons_succ])
      refine wpAnyH_take (i := 6) (v := ?_) rfl (by kernel_rfl) (by kernel_rfl) (by kernel_rfl) (fun _ _ _ h => h) (Or.inl ⟨by rfl, ?_⟩) (by assumption) ?_
      rotate_left
      · intro w hSw
        (try dsimp only at hSw)
        (try (obtain ⟨_, _, _, _, _, _, _⟩ := hSw))
        (try (obtain ⟨_, _⟩ := hSw))
        go_simp
        (try with_reducible rfl)
      (try simp only [Act.put, List.setIfInBounds_toArray, List.set_cons_zero, List.set_cons_succ])
      refine wpAnyH_take (i := 7) (v := ?_) rfl (by kernel_rfl) (by kernel_rfl) (by kernel_rfl) (fun _ _ _ h => h) (Or.inl ⟨by rfl, ?_⟩) (by assumption) ?_
      rotate_left
      · intro w hSw
        (try dsimp only at hSw)
        (try (obtain ⟨_, _, _, _, _, _, _⟩ := hSw))
        (try (obtain ⟨_, _⟩ := hSw))
        go_simp
        (try with_reducible rfl)
      (try simp only [Act.put, List.setIfInBounds_toArray, List.set_cons_zero, List.set_cons_succ])
      refine wpAnyH_take (i := 8) (v := ?_) rfl (by kernel_rfl) (by kernel_rfl) (by kernel_rfl) (fun _ _ _ h => h) (Or.inl ⟨by rfl, ?_⟩) (by assumption) ?_
      rotate_left
      · intro w hSw
        (try dsimp only at hSw)
        (try (obtain ⟨_, _, _, _, _, _, _⟩ := hSw))
        (try (obtain ⟨_, _⟩ := hSw))
        go_simp
        (try with_reducible rfl)
      (try simp only [Act.put, List.setIfInBounds_toArray, List.set_cons_zero, List.set_cons_succ])
      refine wpAnyH_take (i := 9) (v := ?_) rfl (by kernel_rfl) (by kernel_rfl) (by kernel_rfl) (fun _ _ _ h => h) (Or.inl ⟨by rfl, ?_⟩) (by assumption) ?_
      rotate_left
      · intro w hSw
        (try dsimp only at hSw)
        (try (obtain ⟨_, _, _, _, _, _, _⟩ := hSw))
        (try (obtain ⟨_, _⟩ := hSw))
        go_simp
        (try with_reducible rfl)
      (try simp only [Act.put, List.setIfInBounds_toArray, List.set_cons_zero, List.set_cons_succ])
      refine wpAnyH_take (i := 10) (v := ?_) rfl (by kernel_rfl) (by kernel_rfl) (by kernel_rfl) (fun _ _ _ h => h) (Or.inl ⟨by rfl, ?_⟩) (by assumption) ?_
      rotate_left
      · intro w hSw
        (try dsimp only at hSw)
        (try (obtain ⟨_, _, _, _, _, _, _⟩ := hSw))
        (try (obtain ⟨_, _⟩ := hSw))
        go_simp
        (try with_reducible rfl)
      (try simp only [Act.put, List.setIfInBounds_toArray, List.set_cons_zero, List.set_cons_succ])
      refine wpAnyH_take (i := 11) (v := ?_) rfl (by kernel_rfl) (by kernel_rfl) (by kernel_rfl) (fun _ _ _ h => h) (Or.inl ⟨by rfl, ?_⟩) (by assumption) ?_
      rotate_left
      · intro w hSw
        (try dsimp only at hSw)
        (try (obtain ⟨_, _, _, _, _, _, _⟩ := hSw))
        (try (obtain ⟨_, _⟩ := hSw))
        go_simp
        (try with_reducible rfl)
      (try simp only [Act.put, List.setIfInBounds_toArray, List.set_cons_zero, List.set_cons_succ])
      refine wpAnyH_take (i := 12) (v := ?_) rfl (by kernel_rfl) (by kernel_rfl) (by kernel_rfl) (fun _ _ _ h => h) (Or.inl ⟨by rfl, ?_⟩) (by assumption) ?_
      rotate_left
      · intro w hSw
        (try dsimp only at hSw)
        (try (obtain ⟨_, _, _, _, _, _, _⟩ := hSw))
        (try (obtain ⟨_, _⟩ := hSw))
        go_simp
        (try with_reducible rfl)
      (try simp only [Act.put, List.setIfInBounds_toArray, List.set_cons_zero, List.set_cons_succ])
      refine wpAnyH_take (i := 13) (v := ?_) rfl (by kernel_rfl) (by kernel_rfl) (by kernel_rfl) (fun _ _ _ h => h) (Or.inl ⟨by rfl, ?_⟩) (by assumption) ?_
      rotate_left
      · intro w hSw
        (try dsimp only at hSw)
        (try (obtain ⟨_, _, _, _, _, _, _⟩ := hSw))
        (try (obtain ⟨_, _⟩ := hSw))
        go_simp
        (try with_reducible rfl)
      (try simp only [Act.put, List.setIfInBounds_toArray, List.set_cons_zero, List.set_cons_succ])
      refine wpAnyH_take (i := 14) (v := ?_) rfl (by kernel_rfl) (by kernel_rfl) (by kernel_rfl) (fun _ _ _ h => h) (Or.inl ⟨by rfl, ?_⟩) (by assumption) ?_
      rotate_left
      · intro w hSw
        (try dsimp only at hSw)
        (try (obtain ⟨_, _, _, _, _, _, _⟩ := hSw))
        (try (obtain ⟨_, _⟩ := hSw))
        go_simp
        (try with_reducible rfl)
      (try simp only [Act.put, List.setIfInBounds_toArray, List.set_cons_zero, List.set_cons_succ])
      refine wpAnyH_take (i := 15) (v := ?_) rfl (by kernel_rfl) (by kernel_rfl) (by kernel_rfl) (fun _ _ _ h => h) (Or.inl ⟨by rfl, ?_⟩) (by assumption) ?_
      rotate_left
      · intro w hSw
        (try dsimp only at hSw)
        (try (obtain ⟨_, _, _, _, _, _, _⟩ := hSw))
        (try (obtain ⟨_, _⟩ := hSw))
        go_simp
        (try with_reducible rfl)
      (try simp only [Act.put, List.setIfInBounds_toArray, List.set_cons_zero, List.set_cons_succ])
      refine wpAnyH_take (i := 16) (v := ?_) rfl (by kernel_rfl) (by kernel_rfl) (by kernel_rfl) (fun _ _ _ h => h) (Or.inl ⟨by rfl, ?_⟩) (by assumption) ?_
      rotate_left
      · intro w hSw
        (try dsimp only at hSw)
        (try (obtain ⟨_, _, _, _, _, _, _⟩ := hSw))
        (try (obtain ⟨_, _⟩ := hSw))
        go_simp
        (try with_reducible rfl)
      (try simp only [Act.put, List.setIfInBounds_toArray, List.set_cons_zero, List.set_cons_succ])
      refine wpAnyH_take (i := 17) (v := ?_) rfl (by kernel_rfl) (by kernel_rfl) (by kernel_rfl) (fun _ _ _ h => h) (Or.inl ⟨by rfl, ?_⟩) (by assumption) ?_
      rotate_left
      · intro w hSw
        (try dsimp only at hSw)
        (try (obtain ⟨_, _, _, _, _, _, _⟩ := hSw))
        (try (obtain ⟨_, _⟩ := hSw))
        go_simp
        (try with_reducible rfl)
      (try simp only [Act.put, List.setIfInBounds_toArray, List.set_cons_zero, List.set_cons_succ])
      have s1 : ((Wd.setCell ⟨w.heap.size, j * 2, none⟩ (.int .i64 (s : Int))).setCell ⟨w.heap.size, j * 2 + 1, none⟩ (.bool true)).cell? ⟨g, off + i0 * 2, none⟩ = some (.int .i64 (x : Int)) ∧ ((Wd.setCell ⟨w.heap.size, j * 2, none⟩ (.int .i64 (s : Int))).setCell ⟨w.heap.size, j * 2 + 1, none⟩ (.bool true)).cell? ⟨g, off + i1 * 2, none⟩ = some (.int .i64 (y : Int)) := by
        refine ⟨?_, ?_⟩
        · rw [World.cell?_setCell_other _ _ _ _ (by simp [hne]), World.cell?_setCell_other _ _ _ _ (by simp [hne])]; exact s0.1
        · rw [World.cell?_setCell_other _ _ _ _ (by simp [hne]), World.cell?_setCell_other _ _ _ _ (by simp [hne])]; exact s0.2
      refine wpAnyH_ready (rs := [18]) (by kernel_rfl) (by simp) ?_
      refine AllReadyH.cons rfl (fun K hK => ?_) AllReadyH.nil
      go_simp
      refine hK.out _ _ s1 (fun _ => ?_)
      clear hK K
      refine wpAnyH_done (by kernel_rfl) ?_ _
      subst hW
      go_wp2_with fail
      go_roundw
      case rel => exact ⟨j + 1, by omega, by go_num, HNs, ⟨B2.os, B2.tape, B2.output, B2.size, B2.block⟩⟩
      case measure => simp [intOf]; omega
    · have hge : (d : Int) ≤ (j : Int) := by omega
      have HE := HV.out
      rw [show j = (prs l).length by rw [HPL.out]; omega, prsK_end] at HE
      go_wp2_with fail
      go_ret
      exact ⟨_, rfl, HE, Nat.le_refl _, bel⟩
end Go.Proofs.Ytfcjnpbnejaolaa
