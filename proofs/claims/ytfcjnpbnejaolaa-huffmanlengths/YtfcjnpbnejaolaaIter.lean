/-
  huffman.codesOf: its iterator hands on the symbols that have codes, by their numbers, with the codes.
-/
import Derived.Test.YtfcjnpbnejaolaaRng
namespace Go.Proofs.Ytfcjnpbnejaolaa
set_option linter.unusedVariables false
set_option linter.unusedSimpArgs false
open Go.RowKit Go.Shelf

attribute [local go_sem] Oper.semAt_some

/-- a symbol and its code -/
abbrev Sy (n : Nat) := { x : Nat × Nat // x.1 < n ∧ x.2 ≤ 131073000 }
abbrev vals {n : Nat} (l : List (Sy n)) : List (Nat × Nat) := l.map (·.1)
/-- the symbols with codes below k -/
def upv (m : List Nat) : Nat → List (Nat × Nat)
  | 0 => []
  | k + 1 => if m.getD k 0 = 0 then upv m k else upv m k ++ [(k, cod m k)]
theorem upv_len (m : List Nat) : ∀ k, (upv m k).length ≤ k
  | 0 => Nat.le_refl _
  | k + 1 => by
    have := upv_len m k
    rw [upv]
    split
    · omega
    · simp; omega
/-- the next codes behind k symbols -/
def nxL (m : List Nat) (k : Nat) : List Nat := (List.range 16).map fun j => 2 * hor m j + if j = 0 then 0 else (m.take k).count j
theorem nxL_len (m : List Nat) (k : Nat) : (nxL m k).length = 16 := by simp [nxL]
theorem nxL_zero (m : List Nat) : nxL m 0 = fstL m := by
  unfold nxL fstL
  exact List.map_congr_left fun j hj => by simp
theorem nxL_getD (m : List Nat) (k : Nat) (h0 : m.getD k 0 ≠ 0) (h15 : m.getD k 0 ≤ 15) : (nxL m k).getD (m.getD k 0) 0 = cod m k := by
  unfold nxL
  rw [range_getD _ 16 _ (by omega), if_neg h0]
  rfl
theorem nxL_skip (m : List Nat) (k : Nat) (hk : k < m.length) (h0 : m.getD k 0 = 0) : nxL m (k + 1) = nxL m k := by
  unfold nxL
  refine List.map_congr_left fun j hj => ?_
  by_cases e : j = 0
  · simp [e]
  · rw [if_neg e, if_neg e, rank_succ m k j hk, if_neg (by omega)]
    rfl
theorem nxL_succ (m : List Nat) (k : Nat) (hk : k < m.length) (h0 : m.getD k 0 ≠ 0) (h15 : m.getD k 0 ≤ 15) : (nxL m k).set (m.getD k 0) (cod m k + 1) = nxL m (k + 1) := by
  have hr := fun j => rank_succ m k j hk
  unfold cod
  unfold nxL
  generalize m.getD k 0 = x at *
  apply List.ext_getElem?
  intro j
  rw [List.getElem?_set]
  by_cases hj : j < 16
  · by_cases e : x = j
    · subst e
      simp [hj, h0, hr]
      omega
    · simp [e, hj, hr]
  · by_cases e : x = j
    · omega
    · simp [e, hj]

/-- cells stand as they stood, but for the block R -/
def Kp (R : Nat) (A B : World) : Prop := A.heap.size ≤ B.heap.size ∧ ∀ b C t fr, b ≠ R → A.heap[b]? = some (.cells C t fr) → B.heap[b]? = some (.cells C t fr)
theorem Kp.refl (R : Nat) (A : World) : Kp R A A := ⟨Nat.le_refl _, fun _ _ _ _ _ h => h⟩
theorem Kp.trans {R : Nat} {A B C : World} (h : Kp R A B) (k : Kp R B C) : Kp R A C := ⟨Nat.le_trans h.1 k.1, fun b D t fr hb x => k.2 b D t fr hb (h.2 b D t fr hb x)⟩
theorem Kp.put (R : Nat) (W : World) (l : Nat) (o o' : Obj) (h : W.heap[l]? = some o) (hc : o.isCells = false) : Kp R W (W.putObj l o') := by
  refine ⟨by simp, fun b C t fr hb x => ?_⟩
  have hne : b ≠ l := by
    intro e
    subst e
    rw [h] at x
    cases x
    cases hc
  exact (World.putObj_heap_other hne).trans x
theorem Kp.set (W : World) (R j : Nat) (v : Value) : Kp R W (W.setCell ⟨R, j, none⟩ v) :=
  ⟨(KeepsOthers.setCell W ⟨R, j, none⟩ v).size, fun b C t fr hb x => (Below.heap_setCell W ⟨R, j, none⟩ v b hb).trans x⟩
/-- .. and those below B -/
def KpB (B R : Nat) (V A : World) : Prop := V.heap.size ≤ A.heap.size ∧ ∀ b C t fr, b < B → b ≠ R → V.heap[b]? = some (.cells C t fr) → A.heap[b]? = some (.cells C t fr)
theorem KpB.then {B R : Nat} {V A C : World} (h : KpB B R V A) (k : Kp R A C) : KpB B R V C := ⟨Nat.le_trans h.1 k.1, fun b D t fr h1 h2 x => k.2 b D t fr h2 (h.2 b D t fr h1 h2 x)⟩
theorem KpB.below {B R : Nat} {V A C : World} (h : KpB B R V A) (k : Below B A C) : KpB B R V C := ⟨Nat.le_trans h.1 k.size, fun b D t fr h1 h2 x => (k.block b h1).trans (h.2 b D t fr h1 h2 x)⟩
theorem cell_inv {W : World} {g j : Nat} {v : Value} (h : W.cell? ⟨g, j, none⟩ = some v) : ∃ C t fr, W.heap[g]? = some (.cells C t fr) ∧ C[j]? = some v := by
  unfold World.cell? at h
  simp only at h
  cases hg : W.heap[g]? with
  | none => rw [hg] at h; simp at h
  | some o =>
    rw [hg] at h
    cases o with
    | cells C t fr => exact ⟨C, t, fr, rfl, by simpa using h⟩
    | _ => simp at h
theorem KpB.cell {B R : Nat} {V A : World} (h : KpB B R V A) {g j : Nat} {v : Value} (hc : V.cell? ⟨g, j, none⟩ = some v) (hB : g < B) (hR : g ≠ R) : A.cell? ⟨g, j, none⟩ = some v := by
  obtain ⟨C, t, fr, h1, h2⟩ := cell_inv hc
  exact cell_of_block (h.2 g C t fr hB hR h1) h2

theorem store16 {l : List Nat} (hl : l.length = 16) (W : World) : (storeCells ⟨W.heap.size, 0, none⟩ (cn l)).run Try.prog (W.alloc (.cells #[.int .i64 0, .int .i64 0, .int .i64 0, .int .i64 0, .int .i64 0, .int .i64 0, .int .i64 0, .int .i64 0, .int .i64 0, .int .i64 0, .int .i64 0, .int .i64 0, .int .i64 0, .int .i64 0, .int .i64 0, .int .i64 0] 65)) = .ok () (W.alloc (.cells (cn l).toArray 65)) :=
  run_storeCells_new W 65 _ (cn l).toArray (info16 hl) (by simp [cn_len, hl]) (cn_all l)

set_option maxRecDepth 100000 in
set_option maxHeartbeats 2000000 in
theorem codes1_in (n : Nat) (hn : 1 ≤ n) (l Bs R len cap : Nat) (ad : Option Addr) (m : List Nat) (hlm : m.length = len) (hlen : len ≤ 1000) (h15 : ∀ x ∈ m, x ≤ 15) (J Jx : List (Sy len) → World → Prop) (W : World)
    (hJs : ∀ s A C, J s A → Below W.heap.size A C → J s C)
    (hY : ∀ pre x V, J pre V → pre.length < len → YieldAt Fence.wide (n - 1) Try.prog l #[.int .i64 ((x.1.1 : Nat) : Int), .int .i64 ((x.1.2 : Nat) : Int)] V fun e V' =>
      (e = .returned (.bool true) ∧ J (pre ++ [x]) V' ∧ Kp R V V') ∨ (e = .returned (.bool false) ∧ Jx (pre ++ [x]) V'))
    (hBs : W.cell? ⟨Bs, 0, none⟩ = some (.slice ad len cap)) (hBR : Bs ≠ R) (hs : Src W ad len cap (cn m)) (hgR : 0 < len → ∀ g off, ad = some ⟨g, off, none⟩ → g ≠ R) (hR : R < W.heap.size) (h0 : J [] W) :
    CallsIn Fence.wide n Try.prog 36 #[.func (.yield l) #[] #[], .pointer (some ⟨Bs, 0, none⟩)] W fun e W' => (∃ v, e = .returned v) ∧
      ((∃ ys, vals ys = upv m len ∧ J ys W') ∨ (∃ pre, (∃ k, k ≤ len ∧ vals pre = upv m k) ∧ Jx pre W')) := by
  have K := firstCodes_any W ad len cap m hs h15 hlen
  have hst := store16 (fstL_len m)
  have hBlt : Bs < W.heap.size := World.block_lt_of_cell? _ _ hBs
  have HS : Hid (∀ k, k < len → ∃ g off, ad = some ⟨g, off, none⟩ ∧ g < W.heap.size ∧ g ≠ R ∧ W.cell? ⟨g, off + k, none⟩ = some (.int .i64 ((m.getD k 0 : Nat) : Int))) := fun k hk => by
    obtain ⟨g, off, e, hc⟩ := src_atn hs hk
    exact ⟨g, off, e, World.block_lt_of_cell? _ _ hc, hgR (by omega) g off e, hc⟩
  have H15 : Hid (∀ k, m.getD k 0 ≤ 15) := fun k => by
    rcases Nat.lt_or_ge k m.length with h | h
    · rw [getD_eq h]; exact h15 _ (List.getElem_mem h)
    · simp [List.getD, List.getElem?_eq_none h]
  have HC : Hid (∀ k, cod m k ≤ 131073000) := fun k => cod_small m (by omega) k (H15.out k)
  have HLM : Hid (m.length = len) := hlm
  have hlen' : (len : Int) ≤ 1000 := by omega
  have c1 := hBs
  clear hs hgR h15 hlm
  refine callsIn_of_wp Try.func36 rfl trivial ?_ rfl
  simp only [Try.ntmps36, List.size_toArray, List.length_cons, List.length_nil, Nat.reduceAdd, Nat.reduceSub, Array.replicate_succ, Array.replicate_zero, List.push_toArray, List.append_toArray, List.nil_append, List.cons_append]
  gi_wp2_with (refine ⟨trivial, ?_⟩; gi_at_call 37; refine (callsIn_wide.2 K).mono ?_; rintro e w1 ⟨rfl, hb1⟩; have c2 := (hb1.cell (p := ⟨Bs, 0, none⟩) hBlt).trans hBs; have hzB : Bs < w1.heap.size := Nat.lt_of_lt_of_le hBlt hb1.size)
  have hz1 := hb1.size
  have A0 : Arr (w1.alloc (.cells (cn (fstL m)).toArray 65)) w1.heap.size (nxL m 0) := by rw [nxL_zero]; exact heap_new w1 _
  have B0 : Below W.heap.size W (w1.alloc (.cells (cn (fstL m)).toArray 65)) := hb1.alloc hz1 _
  generalize w1.alloc (.cells (cn (fstL m)).toArray 65) = W2 at A0 B0 ⊢
  generalize w1.heap.size = Bn at *
  clear K hst c2 hb1 c1
  gi_loopw [10] (fun c wr => ∃ k : Nat, k ≤ len ∧ c = .int .i64 k ∧ (∃ pre, vals pre = upv m k ∧ J pre wr) ∧ Hid (Arr wr Bn (nxL m k)) ∧ KpB W.heap.size R W wr) (fun c _ => len - (intOf c).toNat)
  case atStart => exact ⟨0, Nat.zero_le _, rfl, ⟨[], rfl, hJs _ _ _ h0 B0⟩, A0, ⟨B0.size, fun b C t fr h1 _ x => (B0.block b h1).trans x⟩⟩
  case round =>
    clear A0 B0
    obtain ⟨k, hk, rfl, ⟨pre, hpre, hJ⟩, HA, hB⟩ := hrel
    by_cases hlt : k < len
    · have hlt' : (k : Int) < (len : Int) := by omega
      obtain ⟨g, off, rfl, hg, hgR, hc⟩ := HS.out k hlt
      have hcx := hB.cell hc hg hgR
      have hx := H15.out k
      by_cases h0 : m.getD k 0 = 0
      · have HN : Hid (Arr wr Bn (nxL m (k + 1))) := by
          show Arr _ _ _
          rw [nxL_skip m k (by rw [HLM.out]; exact hlt) h0]
          exact HA.out
        have HU : Hid (vals pre = upv m (k + 1)) := by show _ = _; rw [hpre, upv, if_pos h0]
        rw [h0] at hcx
        clear hc hpre HA h0 hx
        gi_wp2
        go_roundw
        case rel => exact ⟨k + 1, by omega, by go_num, ⟨pre, HU.out, hJ⟩, HN, hB⟩
        case measure => simp [intOf]; omega
      · have hlp : pre.length < len := by
          have h1 : (vals pre).length = (upv m k).length := by rw [hpre]
          have h2 := upv_len m k
          rw [List.length_map] at h1
          omega
        have hcd := HC.out k
        obtain ⟨fn, tmps, assign, body, hy, hR⟩ := hY pre ⟨(k, cod m k), hlt, hcd⟩ wr hJ hlp
        have ca := HA.out.cell (j := m.getD k 0) (by rw [nxL_len]; omega)
        rw [nxL_getD m k h0 hx] at ca
        have HU : Hid (∀ (h : k < len ∧ cod m k ≤ 131073000), vals (pre ++ [⟨(k, cod m k), h⟩]) = upv m (k + 1)) := by
          intro h
          rw [upv, if_neg h0, ← hpre]
          simp [vals]
        have HN : Hid (∀ V : World, Arr V Bn (nxL m k) → Arr (V.setCell ⟨Bn, m.getD k 0, none⟩ (.int .i64 ((cod m k : Int) + 1))) Bn (nxL m (k + 1))) := by
          intro V hV
          have h := hV.set (m.getD k 0) (cod m k + 1)
          rw [nxL_succ m k (by rw [HLM.out]; exact hlt) h0 hx] at h
          exact h
        have HAr : Hid (∀ V : World, Arr V Bn (nxL m k) → V.cell? ⟨Bn, m.getD k 0, none⟩ = some (.int .i64 ((cod m k : Nat) : Int)) ∧ V.frozen? ⟨Bn, m.getD k 0, none⟩ = false) := by
          intro V hV
          have h := hV.cell (j := m.getD k 0) (by rw [nxL_len]; omega)
          rw [nxL_getD m k h0 hx] at h
          exact ⟨h, hV.frozen _⟩
        have HBn : Hid (Bn ≠ R) := by show Bn ≠ R; omega
        clear hc hpre
        generalize m.getD k 0 = x at *
        have hx' : (x : Int) < 16 := by omega
        have h0' : ((x : Int) == 0) = false := by simp; omega
        have hxp : (0 : Int) < (x : Int) := by omega
        generalize cod m k = q at *
        have hq' : (q : Int) ≤ 131073000 := by omega
        clear h0
        gi_wp2
        refine hR.mono ?_
        rintro e V3 (⟨rfl, hJ3, hk3⟩ | ⟨rfl, hJx3⟩)
        · have A3 : Arr V3 Bn (nxL m k) := hk3.2 _ _ _ _ HBn.out HA.out
          obtain ⟨d1, d2⟩ := HAr.out V3 A3
          gi_wp2
          go_roundw
          case rel => exact ⟨k + 1, by omega, by go_num, ⟨_, HU.out _, hJs _ _ _ hJ3 ((Below.refl _ _).setCell (p := ⟨Bn, x, none⟩) hz1 _)⟩, HN.out V3 A3, (hB.then hk3).below ((Below.refl _ _).setCell (p := ⟨Bn, x, none⟩) hz1 _)⟩
          case measure => simp [intOf]; omega
        · gi_wp2
          refine bodyPost_ret (results_none rfl _ _ _) rfl ?_
          exact ⟨⟨_, rfl⟩, .inr ⟨_, ⟨k + 1, by omega, HU.out _⟩, hJx3⟩⟩
    · have hlt' : (len : Int) ≤ (k : Int) := by omega
      have HJ : Hid (k = len) := by show _ = _; omega
      gi_wp2
      go_end0
      exact ⟨⟨_, rfl⟩, .inl ⟨pre, by rw [hpre, HJ.out], hJ⟩⟩

theorem codes_seq (n : Nat) (hn : 1 ≤ n) (Bs R len cap : Nat) (ad : Option Addr) (m : List Nat) (hlm : m.length = len) (hlen : len ≤ 1000) (h15 : ∀ x ∈ m, x ≤ 15) (w : World)
    (hBs : w.cell? ⟨Bs, 0, none⟩ = some (.slice ad len cap)) (hBR : Bs ≠ R) (hs : Src w ad len cap (cn m)) (hgR : 0 < len → ∀ g off, ad = some ⟨g, off, none⟩ → g ≠ R) (hR : R < w.heap.size) :
    SeqC n Try.prog 36 #[.pointer (some ⟨Bs, 0, none⟩)] (fun x : Sy len => #[.int .i64 ((x.1.1 : Nat) : Int), .int .i64 ((x.1.2 : Nat) : Int)]) (Kp R) (fun ys => vals ys = upv m len) (fun pre => ∃ k, k ≤ len ∧ vals pre = upv m k) (fun pre _ => pre.length < len) w := fun l J Jx W hW hJs hY h0 =>
  codes1_in n hn l Bs R len cap ad m hlm hlen h15 J Jx W hJs hY ((hW.cell (p := ⟨Bs, 0, none⟩) (World.block_lt_of_cell? _ _ hBs)).trans hBs) hBR (hs.later hW) hgR (Nat.lt_of_lt_of_le hR hW.size) h0

set_option maxHeartbeats 1000000 in
theorem codesOf_any (ad : Option Addr) (len cap : Nat) (w : World) :
    Calls Try.prog 26 #[.slice ad len cap] w fun e w' => e = .returned (.func (.func 36) #[] #[.pointer (some ⟨w.heap.size, 0, none⟩)]) ∧ w' = w.alloc (.cells #[.slice ad len cap] 22) := by
  go_enter Try.func26, Try.ntmps26
  go_wp2
  go_ret
  exact ⟨rfl, rfl⟩
end Go.Proofs.Ytfcjnpbnejaolaa
