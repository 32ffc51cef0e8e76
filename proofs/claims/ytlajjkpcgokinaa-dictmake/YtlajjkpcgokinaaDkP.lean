/-
  dict: rows of data as whole blocks; Pick.
-/
import Derived.Test.YtlajjkpcgokinaaDkA
import Derived.Test.YtlajjkpcgokinaaSm
import Derived.Test.YtlajjkpcgokinaaPlC
namespace Go.Proofs.Ytlajjkpcgokinaa
set_option linter.unusedVariables false
set_option linter.unusedSimpArgs false
open Go.ChangeShapes Go.WideShapes Go.ChangeAt Go.RowKit Go.Sort Go.Deep

theorem sameD_iff (d e : Dat) : sameD d e = true ↔ d = e := by
  unfold sameD
  rw [decide_eq_true_eq]
  constructor
  · rintro ⟨h1, h2, h3⟩
    obtain ⟨k, n, s⟩ := d
    obtain ⟨k', n', s'⟩ := e
    rw [Go.ByteArray.toList_eq, Go.ByteArray.toList_eq] at h3
    simp only at h1 h2 h3
    rw [h1, h2, Go.WideShapes.bytes_inj h3]
  · rintro rfl
    exact ⟨rfl, rfl, rfl⟩
theorem sameD_ne {d e : Dat} (h : sameD d e = false) : d ≠ e := fun he => by rw [(sameD_iff d e).2 he] at h; cases h
theorem sameL_iff : ∀ l m : List Dat, sameL l m = true ↔ l = m
  | [], [] => by simp [sameL]
  | [], _ :: _ => by simp [sameL]
  | _ :: _, [] => by simp [sameL]
  | d :: l, e :: m => by
    rw [sameL, Bool.and_eq_true, sameD_iff, sameL_iff l m, List.cons.injEq]

def zd : Dat := ⟨0, 0, { data := #[] }⟩
/-- a row of data as a whole block -/
def DVec (W : World) (R : Nat) (l : List Dat) : Prop := W.heap[R]? = some (.cells (dcs l).toArray 28 (0, 0))
theorem DVec.row {W : World} {R : Nat} {l : List Dat} (h : DVec W R l) : DRow W R 0 l := by
  intro i d hi
  have hc := dcs_at l i d hi
  rw [Nat.zero_add]
  exact ⟨cell_of_block h (by simpa using hc.1), cell_of_block h (by simpa using hc.2.1), cell_of_block h (by simpa using hc.2.2)⟩
theorem DVec.lt {W : World} {R : Nat} {l : List Dat} (h : DVec W R l) : R < W.heap.size := lt_of_heap h
theorem DVec.frozen {W : World} {R : Nat} {l : List Dat} (h : DVec W R l) (j : Nat) : W.frozen? ⟨R, j, none⟩ = false := frozen_of_block h
theorem DVec.data {W : World} {R : Nat} {l : List Dat} (h : DVec W R l) (hw : ∀ d ∈ l, d.wf) (hl : l.length ≤ 140737488355328) : Data W (some ⟨R, 0, none⟩) l.length l.length l :=
  ⟨rfl, ⟨Nat.le_refl _, fun h => by cases h⟩, hl, hw, fun _ => ⟨R, 0, rfl, h.lt, h.row⟩⟩
theorem dcs_set : ∀ (l : List Dat) (i : Nat) (p : Dat), (((dcs l).set (i * 3) (.int .i64 p.k)).set (i * 3 + 1) (.int .i64 p.n)).set (i * 3 + 2) (.string p.s) = dcs (l.set i p)
  | [], i, p => rfl
  | q :: l, 0, p => rfl
  | q :: l, i + 1, p => by
    rw [show (i + 1) * 3 = i * 3 + 1 + 1 + 1 from by omega]
    simp only [dcs, dcells, List.cons_append, List.nil_append, List.set_cons_succ]
    rw [dcs_set l i p]
theorem DVec.set {W : World} {R : Nat} {l : List Dat} (h : DVec W R l) (i : Nat) (p : Dat) :
    DVec (((W.setCell ⟨R, i * 3, none⟩ (.int .i64 p.k)).setCell ⟨R, i * 3 + 1, none⟩ (.int .i64 p.n)).setCell ⟨R, i * 3 + 2, none⟩ (.string p.s)) R (l.set i p) := by
  unfold DVec at *
  rw [set_block (set_block (set_block h)), ← dcs_set]
  simp
theorem own_whole3 {W : World} {B e g n : Nat} {xs : List Value} (h : W.ownsRow B e 3 (.slice (some ⟨g, 0, none⟩) n n) n xs) : W.heap[g]? = some (.cells xs.toArray e (0, 0)) := by
  rcases h.2 with ⟨h1, _⟩ | ⟨g', cap, cur, h1, _, h2, h3, h4, h5, h6⟩
  · cases h1
  · cases h1
    have : cur.toList = xs := by rw [← h6, List.take_of_length_le (by simp [h5])]
    rw [h2, ← this]
theorem dcs_zero : ∀ n : Nat, (madeCells (Value.agg #[.int .i64 0, .int .i64 0, .string { data := #[] }]).cells (n * 3)).toList = dcs (List.replicate n zd) := by
  intro n
  have e : (Value.agg #[.int .i64 0, .int .i64 0, .string { data := #[] }]).cells = #[Value.int .i64 0, .int .i64 0, .string { data := #[] }] := rfl
  rw [e]
  unfold madeCells
  have h : ∀ n : Nat, (List.range (n * 3)).map (fun x => (#[Value.int .i64 0, .int .i64 0, .string { data := #[] }] : Array Value)[x % 3]!) = dcs (List.replicate n zd) := by
    intro n
    induction n with
    | zero => rfl
    | succ n ih =>
      rw [show (n + 1) * 3 = n * 3 + 1 + 1 + 1 from by omega, List.range_succ, List.range_succ, List.range_succ, List.map_append, List.map_append, List.map_append, ih, List.replicate_succ', dcs_append]
      have h1 : n * 3 % 3 = 0 := by omega
      have h2 : (n * 3 + 1) % 3 = 1 := by omega
      have h3 : (n * 3 + 1 + 1) % 3 = 2 := by omega
      simp [h1, h2, h3, dcs, dcells, zd]
  have := h n
  simpa using this
theorem wpList_makeD (w : World) {ops : Array Oper} {rest : List Oper} {o : Oper} {a : Act} {Q : Exit → Act → World → Prop}
    (hg : o.guard = none) (l c : Operand) (hop : o.op = Op.makeSlice 22 l c) (m : Nat) (hl : a.eval l = .int .i64 (m : Int)) (hc : a.eval c = .int .i64 (m : Int)) (b2 : m ≤ 1048576)
    (hK : ∀ w', DVec w' w.heap.size (List.replicate m zd) → Below w.heap.size w w' → wpList Try.prog ops Q rest (a.put o.dst (.slice (some ⟨w.heap.size, 0, none⟩) m m)) w') :
    wpList Try.prog ops Q (o :: rest) a w := by
  obtain ⟨i0, hi, hz0, hz1, hz2⟩ := info_parts infoD
  refine wpList_make_full _ hg l c 22 hop w.heap.size 28 i0 (.agg #[.int .i64 0, .int .i64 0, .string { data := #[] }]) 3 Try.underlying22 hi hz0 hz1 _ _ _ _ m hl hc rfl rfl (by rw [hz2]; omega) (by unfold maxLen; omega) (Nat.le_refl _) ?_
  intro w1 r1 r2
  have hv := own_whole3 r1
  rw [dcs_zero] at hv
  exact hK _ hv ((Below.refl _ w).grown r2 (Nat.le_refl _) (fun _ e => by cases e))

/-- the values of numbers -/
def pkD (D : List Dat) (zs : List Int) : List Dat := zs.map fun z => D.getD z.toNat zd
/-- those of the first, and room for the others -/
def pkT (D : List Dat) (zs : List Int) (k : Nat) : List Dat := (pkD D zs).take k ++ List.replicate (zs.length - k) zd
theorem pkD_len (D : List Dat) (zs : List Int) : (pkD D zs).length = zs.length := by simp [pkD]
theorem pkT_zero (D : List Dat) (zs : List Int) : pkT D zs 0 = List.replicate zs.length zd := by simp [pkT]
theorem pkT_end (D : List Dat) (zs : List Int) : pkT D zs zs.length = pkD D zs := by simp [pkT, ← pkD_len D zs]
theorem pkT_succ (D : List Dat) (zs : List Int) (k : Nat) (hk : k < zs.length) : (pkT D zs k).set k (D.getD (zs.getD k 0).toNat zd) = pkT D zs (k + 1) := by
  unfold pkT
  have hlk : ((pkD D zs).take k).length = k := by rw [List.length_take, pkD_len]; omega
  rw [List.set_append_right _ _ (by omega), hlk, Nat.sub_self, show zs.length - k = (zs.length - (k + 1)) + 1 from by omega, List.replicate_succ, List.set_cons_zero]
  conv => rhs; rw [List.take_succ_eq_append_getElem (by rw [pkD_len]; exact hk)]
  rw [List.append_assoc]
  congr 1
  simp [pkD, List.getD, List.getElem?_eq_getElem hk]
theorem getD_of {D : List Dat} {i : Nat} {d : Dat} (h : D[i]? = some d) : D.getD i zd = d := by simp [List.getD, h]
theorem pkD_wf {D : List Dat} {zs : List Int} (h : ∀ d ∈ D, d.wf) (ha : allIn (D.length : Int) zs = true) : ∀ d ∈ pkD D zs, d.wf := by
  intro d hd
  obtain ⟨z, hz, rfl⟩ := List.mem_map.1 hd
  have := List.all_eq_true.1 ha z hz
  simp only [decide_eq_true_eq] at this
  have hi : z.toNat < D.length := by omega
  rw [getD_of (List.getElem?_eq_getElem hi)]
  exact h _ (List.getElem_mem _)

set_option maxRecDepth 100000 in
set_option maxHeartbeats 4000000 in
theorem pick_no (da : Option Addr) (dl dc : Nat) (D : List Dat) (ad : Option Addr) (L cap : Nat) (zs : List Int) (w : World) (hD : Data w da dl dc D) (hL : L ≤ 1048576) (hs : SrcI w ad L cap zs) (hno : allIn (dl : Int) zs = false) :
    Calls Try.prog 9 #[.slice da dl dc, .slice ad L cap] w fun e w' => e = .returned (.tuple #[.slice none 0 0, .int .i64 4]) ∧ Below w.heap.size w w' := by
  have HA := hasAll_any ad L cap (dl : Int) zs w hL hs
  rw [hno] at HA
  have hdl : (dl : Int) ≤ 140737488355328 := by have := hD.2.2.1; omega
  clear hD hno
  go_enter Try.func9, Try.ntmps9
  go_wp2_with fail
  refine HA.mono ?_
  rintro e w1 ⟨rfl, hb1⟩
  go_wp2_with fail
  go_ret2
  exact ⟨rfl, hb1⟩

set_option maxRecDepth 100000 in
set_option maxHeartbeats 4000000 in
theorem pick_yes (da : Option Addr) (dl dc : Nat) (D : List Dat) (ad : Option Addr) (L cap : Nat) (zs : List Int) (w : World) (hD : Data w da dl dc D) (hL : L ≤ 1048576) (hs : SrcI w ad L cap zs) (ha : allIn (dl : Int) zs = true) :
    Calls Try.prog 9 #[.slice da dl dc, .slice ad L cap] w fun e w' => ∃ R, e = .returned (.tuple #[.slice (some ⟨R, 0, none⟩) L L, .int .i64 0]) ∧ DVec w' R (pkD D zs) ∧ w.heap.size ≤ R ∧ Below w.heap.size w w' := by
  have hzl : zs.length = L := by simpa using hs.1
  have HA := hasAll_any ad L cap (dl : Int) zs w hL hs
  rw [ha] at HA
  have hdl : (dl : Int) ≤ 140737488355328 := by have := hD.2.2.1; omega
  have hL' : (L : Int) ≤ 1048576 := by omega
  have HIN : Hid (allIn (dl : Int) zs = true) := ha
  have HZL : Hid (zs.length = L) := hzl
  clear ha hzl
  go_enter Try.func9, Try.ntmps9
  go_wp2_with fail
  refine HA.mono ?_
  rintro e w1 ⟨rfl, hb1⟩
  go_wp2_with (at_make; refine wpList_makeD _ rfl _ _ rfl L rfl rfl (by omega) ?_; intro w2 hv2 hb2)
  have hb12 := hb1.trans (hb2.mono hb1.size)
  have hR1 := hb1.size
  obtain ⟨R, hR⟩ : ∃ R, R = w1.heap.size := ⟨_, rfl⟩
  rw [← hR] at hv2 ⊢
  have HR1 : Hid (w.heap.size ≤ R) := by show _ ≤ _; omega
  clear hb1 hb2 hR1 hR
  go_loopw [19] (fun k wr => ∃ j : Nat, j ≤ L ∧ k = .int .i64 j ∧ Hid (DVec wr R (pkT D zs j)) ∧ Below w.heap.size w wr) (fun k _ => L - (intOf k).toNat)
  case atStart => exact ⟨0, Nat.zero_le _, rfl, by show DVec _ _ _; rw [pkT_zero, HZL.out]; exact hv2, hb12⟩
  case round =>
    clear hv2 hb12
    obtain ⟨j, hj, rfl, HV, bel⟩ := hrel
    by_cases hlt : j < L
    · have hlt' : (j : Int) < (L : Int) := by omega
      obtain ⟨g, off, rfl, hcz⟩ := src_atI (Src.later hs bel) hlt
      have hin := allIn_at HIN.out (i := j) (by rw [HZL.out]; exact hlt)
      have HN0 : Hid ((pkT D zs j).set j (D.getD (zs.getD j 0).toNat zd) = pkT D zs (j + 1)) := pkT_succ D zs j (by rw [HZL.out]; exact hlt)
      generalize zs.getD j 0 = z at *
      obtain ⟨q, rfl⟩ := Int.eq_ofNat_of_zero_le hin.1
      have hq : q < dl := by omega
      have hq' : (q : Int) < (dl : Int) := by omega
      obtain ⟨d, gd, o, hd, wd, rfl, hg, c0, c1, c2⟩ := data_at (hD.later bel) hq
      have hgR : gd < w.heap.size := by
        obtain ⟨b, o', e, h1, _⟩ := hD.2.2.2.2 (by omega)
        cases e
        exact h1
      have HN : Hid (DVec (((wr.setCell ⟨R, j * 3, none⟩ (.int .i64 d.k)).setCell ⟨R, j * 3 + 1, none⟩ (.int .i64 d.n)).setCell ⟨R, j * 3 + 2, none⟩ (.string d.s)) R (pkT D zs (j + 1))) := by
        have h := HV.out.set j d
        rw [show d = D.getD ((q : Int)).toNat zd by rw [Int.toNat_natCast, getD_of hd]] at h
        rw [HN0.out] at h
        rwa [show D.getD ((q : Int)).toNat zd = d by rw [Int.toNat_natCast, getD_of hd]] at h
      have v1 := HV.out
      have hps : j * 3 + 2 < (dcs (pkT D zs j)).length := by
        rw [dcs_len]
        have : (pkT D zs j).length = L := by unfold pkT; rw [List.length_append, List.length_take, List.length_replicate, pkD_len, HZL.out]; omega
        omega
      obtain ⟨u0, e0⟩ : ∃ u, wr.cell? ⟨R, j * 3, none⟩ = some u := ⟨_, cell_of_block v1 (Array.getElem?_eq_getElem (by rw [List.size_toArray]; omega))⟩
      obtain ⟨u1, e1⟩ : ∃ u, wr.cell? ⟨R, j * 3 + 1, none⟩ = some u := ⟨_, cell_of_block v1 (Array.getElem?_eq_getElem (by rw [List.size_toArray]; omega))⟩
      obtain ⟨u2, e2⟩ : ∃ u, wr.cell? ⟨R, j * 3 + 2, none⟩ = some u := ⟨_, cell_of_block v1 (Array.getElem?_eq_getElem (by rw [List.size_toArray]; omega))⟩
      have f0 : wr.frozen? ⟨R, j * 3, none⟩ = false := v1.frozen _
      have f1 : wr.frozen? ⟨R, j * 3 + 1, none⟩ = false := v1.frozen _
      have f2 : wr.frozen? ⟨R, j * 3 + 2, none⟩ = false := v1.frozen _
      have B2 := ((bel.setCell (p := ⟨R, j * 3, none⟩) HR1.out (.int .i64 d.k)).setCell (p := ⟨R, j * 3 + 1, none⟩) HR1.out (.int .i64 d.n)).setCell (p := ⟨R, j * 3 + 2, none⟩) HR1.out (.string d.s)
      clear HN0 v1 hps hin hd wd HV
      go_wp2_with fail
      go_roundw
      case rel => exact ⟨j + 1, by omega, by go_num, HN.out, B2⟩
      case measure => simp [intOf]; omega
    · have hge : (L : Int) ≤ (j : Int) := by omega
      have HE : Hid (DVec wr R (pkD D zs)) := by
        have h := HV.out
        rw [show j = zs.length by rw [HZL.out]; omega, pkT_end] at h
        exact h
      go_wp2_with fail
      go_ret2
      exact ⟨R, rfl, HE.out, HR1.out, bel⟩
end Go.Proofs.Ytlajjkpcgokinaa
