/-
  The walk of the law BitsAll: both ranges over bits.Bits.
-/
import Derived.Test.YtkbjohkijajcgabClone
namespace Go.Proofs.Ytkbjohkijajcgab
open Go.RowKit Go.Shelf

attribute [local go_sem] Oper.semAt_some

theorem below3 (w : World) (a b c : Obj) : Below w.heap.size w (((w.alloc a).alloc b).alloc c) :=
  (((Below.refl _ w).alloc (Nat.le_refl _) a).alloc (by simp) b).alloc (by simp; omega) c

set_option maxRecDepth 100000 in
set_option maxHeartbeats 2000000 in
theorem all_long (ad : Option Addr) (len cap : Nat) (lv : Int) (w : World) (hl : 500 < len) :
    Calls Try.prog 8 #[.slice ad len cap, .int .i64 lv] w fun e w' => e = .returned (.bool true) ∧ Below w.heap.size w w' := by
  have hl' : (500 : Int) < (len : Int) := by omega
  refine (callsIn_wide (n := 5)).1 ?_
  refine callsIn_of_wp_marks Try.func8 rfl trivial ?_ rfl
  simp only [Try.ntmps8, List.size_toArray, List.length_cons, List.length_nil, Nat.reduceAdd, Nat.reduceSub, Array.replicate_succ, Array.replicate_zero, List.push_toArray, List.append_toArray, List.nil_append, List.cons_append]
  gi_wp2
  exact ⟨_, by simp [results, Try.f8, go_sem], rfl, below3 w _ _ _⟩

theorem row_num {w : World} {a : Option Addr} {l c : Nat} {z : List Int} (h : IsRow .u8 w a l c z) : ∃ B : Nat, Src w a l c (c8 (upk 8 l B)) := by
  have hb : ∀ x ∈ z.take l, 0 ≤ x ∧ x ≤ 255 := by
    intro x hx
    have hx' := List.mem_of_mem_take hx
    rcases h with ⟨_, _, _, rfl⟩ | ⟨_, _, _, _, _, _, hw⟩
    · cases hx'
    · simpa [Lit.wf, IntKind.min, IntKind.max, IntKind.signed, IntKind.bits] using hw x hx'
  have hl : (z.take l).length = l := by have := h.len_le; rw [List.length_take]; omega
  have s := h.src
  generalize z.take l = zs at *
  refine ⟨pk 8 (zs.map Int.toNat), ?_⟩
  have e : upk 8 l (pk 8 (zs.map Int.toNat)) = zs.map Int.toNat := by
    rw [← hl, ← List.length_map (f := Int.toNat)]
    refine upk_pk 8 _ ?_
    intro n hn
    obtain ⟨x, hx, rfl⟩ := List.mem_map.1 hn
    have := hb x hx
    omega
  rw [e]
  unfold c8
  rw [List.map_map]
  rw [show zs.map ((fun b : Nat => Value.int .u8 (b : Int)) ∘ Int.toNat) = zs.map (Value.int .u8) from List.map_congr_left (fun x hx => by
    have := hb x hx
    show Value.int .u8 ((x.toNat : Nat) : Int) = _
    rw [Int.toNat_of_nonneg this.1])]
  exact s

theorem boxed_kept {A C : World} {b : Nat} {t : TypeId} {v : Value} {row : Option Nat} (h : Boxed A b t v) (hg : A.grownBy C row) (hr : ∀ r, row = some r → ∃ o : Obj, A.heap[r]? = some o ∧ o.isCells = false) : Boxed C b t v :=
  (grownBy_keeps_cells hg hr h rfl).trans h
theorem boxed_later {A C : World} {n b : Nat} {t : TypeId} {v : Value} (h : Boxed A b t v) (hb : Below n A C) (hlt : b < n) : Boxed C b t v := (hb.block b hlt).trans h
theorem eqfn (W : World) (Bs : Nat) : (binOp .eql 47 (.func (.func 29) #[] #[.pointer (some ⟨Bs,0,none⟩)]) .nilFunc).run Try.prog W = .ok (.bool false) W := by kernel_rfl

/-- what stands while the first range goes -/
structure A1 (w w1 W' : World) (ad : Option Addr) (len cap : Nat) (lv : Int) (n : Nat) : Prop where
  bb : Boxed W' w.heap.size 32 (.slice ad len cap)
  bl : Boxed W' (w.heap.size + 1) 3 (.int .i64 lv)
  br : Boxed W' (w.heap.size + 1 + 1) 4 (.bool false)
  bn : Boxed W' w1.heap.size 3 (.int .i64 n)
  hw : w.heap.size + 1 + 1 + 1 ≤ w1.heap.size
  hB : Below w.heap.size w W'
  hN : Below w1.heap.size w1 W'
theorem A1.kept {w w1 A C : World} {ad : Option Addr} {len cap n B : Nat} {lv : Int} {row : Option Nat} (h : A1 w w1 A ad len cap lv n) (hB : w1.heap.size ≤ B) (hg : A.grownBy C row) (hr : ∀ r, row = some r → B ≤ r ∧ ∃ o : Obj, A.heap[r]? = some o ∧ o.isCells = false) : A1 w w1 C ad len cap lv n := by
  have hr' := fun r e => (hr r e).2
  have hw := h.hw
  exact ⟨boxed_kept h.bb hg hr', boxed_kept h.bl hg hr', boxed_kept h.br hg hr', boxed_kept h.bn hg hr', hw,
    ownFrom_below (β := Unit) (Nat.le_refl _) (by omega) () A C row h.hB hg hr, ownFrom_below (β := Unit) (Nat.le_refl _) hB () A C row h.hN hg hr⟩
theorem A1.next {w w1 A : World} {ad : Option Addr} {len cap n : Nat} {lv : Int} (h : A1 w w1 A ad len cap lv n) (m : Nat) (M : Int) (hM : M = (m : Int)) : A1 w w1 (A.setCell ⟨w1.heap.size, 0, none⟩ (.int .i64 M)) ad len cap lv m := by
  subst hM
  have hw := h.hw
  exact ⟨h.bb.other (by omega) _, h.bl.other (by omega) _, h.br.other (by omega) _, Boxed.set _ h.bn, hw, h.hB.setCell (p := ⟨w1.heap.size, 0, none⟩) (by simp; omega) _, h.hN.setCell (p := ⟨w1.heap.size, 0, none⟩) (by simp) _⟩
/-- .. and the second -/
structure A2 (w w1 W' : World) (ad : Option Addr) (len cap : Nat) (lv : Int) (n L D k : Nat) : Prop where
  a1 : A1 w w1 W' ad len cap lv n
  bk : Boxed W' L 3 (.int .i64 k)
  hL : w1.heap.size < L
  hD : W'.heap[D]? = some (.deferred (some []))
theorem A2.kept {w w1 A C : World} {ad : Option Addr} {len cap n L D k B : Nat} {lv : Int} {row : Option Nat} (h : A2 w w1 A ad len cap lv n L D k) (hB : w1.heap.size ≤ B) (hDB : D < B) (hg : A.grownBy C row) (hr : ∀ r, row = some r → B ≤ r ∧ ∃ o : Obj, A.heap[r]? = some o ∧ o.isCells = false) : A2 w w1 C ad len cap lv n L D k := by
  refine ⟨h.a1.kept hB hg hr, boxed_kept h.bk hg (fun r e => (hr r e).2), h.hL, (hg.block D (Array.getElem?_eq_some_iff.1 h.hD).1 ?_).trans h.hD⟩
  intro e
  have := (hr D e.symm).1
  omega
theorem A2.next {w w1 A : World} {ad : Option Addr} {len cap n L D k : Nat} {lv : Int} (h : A2 w w1 A ad len cap lv n L D k) (m : Nat) (M : Int) (hM : M = (m : Int)) : A2 w w1 (A.setCell ⟨L, 0, none⟩ (.int .i64 M)) ad len cap lv n L D m := by
  subst hM
  have hw := h.a1.hw
  have hL := h.hL
  have a := h.a1
  refine ⟨⟨a.bb.other (by omega) _, a.bl.other (by omega) _, a.br.other (by omega) _, a.bn.other (by omega) _, hw, a.hB.setCell (p := ⟨L, 0, none⟩) (by simp; omega) _, a.hN.setCell (p := ⟨L, 0, none⟩) (by simp; omega) _⟩, Boxed.set _ h.bk, hL, ?_⟩
  exact (KeepsOthers.setCell A ⟨L, 0, none⟩ _).same D _ h.hD rfl

theorem upto_grow {B : Nat} {pre : List Bool} {x : Bool} (h : pre = upto (bt B) pre.length) (hx : x = bt B pre.length) : pre ++ [x] = upto (bt B) (pre ++ [x]).length := by
  rw [List.length_append, List.length_singleton, upto_succ, ← h, ← hx]
theorem upto_wrong {B : Nat} {pre : List Bool} {x : Bool} (hx : x ≠ bt B pre.length) : pre ++ [x] ≠ upto (bt B) (pre ++ [x]).length := by
  intro e
  rw [List.length_append, List.length_singleton, upto_succ] at e
  have := List.append_inj_right e (by rw [upto_length])
  simp at this
  exact hx this
theorem bi_inj {a b : Bool} (h : bi a = bi b) : a = b := by cases a <;> cases b <;> simp [bi] at h ⊢

theorem all_end {w w1 X : World} {ad : Option Addr} {len cap n L D D2 k : Nat} {lv : Int} {t : Array Value} (us : A2 w w1 X ad len cap lv n L D k) (hK : X.heap[D2]? = some (.deferred (some []))) (hne : D < D2) (hw1 : w.heap.size ≤ D)
    (ht : t[4]? = some (.pointer (some ⟨w.heap.size + 1 + 1, 0, none⟩))) :
    bodyPostM Fence.wide 5 Try.prog Try.f8 (fun e w' => e = .returned (.bool true) ∧ Below w.heap.size w w') .ret { tmps := t, defers := [{ target := .collected D2, args := #[] }, { target := .collected D, args := #[] }] } (X.setCell ⟨w.heap.size + 1 + 1, 0, none⟩ (.bool true)) := by
  have hb := us.a1.hw
  have br := Boxed.set (.bool true) us.a1.br
  have hK1 := (KeepsOthers.setCell X ⟨w.heap.size + 1 + 1, 0, none⟩ (.bool true)).same D2 _ hK rfl
  have hK2 := (KeepsOthers.setCell X ⟨w.heap.size + 1 + 1, 0, none⟩ (.bool true)).same D _ us.hD rfl
  have hB := us.a1.hB.setCell (p := ⟨w.heap.size + 1 + 1, 0, none⟩) (by simp; omega) (.bool true)
  generalize X.setCell ⟨w.heap.size + 1 + 1, 0, none⟩ (.bool true) = Y at *
  refine ⟨by simp, .inl ⟨_, _, rfl, run_takeDeferred hK1, ?_⟩⟩
  have hK3 : (Y.putObj D2 (.deferred none)).heap[D]? = some (.deferred (some [])) := (World.putObj_heap_other (by omega)).trans hK2
  refine ⟨by simp, .inl ⟨_, _, rfl, run_takeDeferred hK3, ?_⟩⟩
  have b1 := boxed_kept br (grownBy_putObj' Y D2 (.deferred none)) (fun r e => by cases e; exact ⟨_, hK1, rfl⟩)
  have b2 := boxed_kept b1 (grownBy_putObj' _ D (.deferred none)) (fun r e => by cases e; exact ⟨_, hK3, rfl⟩)
  have hc := b2.cell
  refine ⟨.bool true, ?_, rfl, (hB.trans (belowK_b (w := w) (Nat.le_refl _) _ D2 _ _ (by omega) hK1 rfl rfl)).trans (belowK_b (w := w) (Nat.le_refl _) _ D _ _ (by omega) hK3 rfl rfl)⟩
  simp [results, Try.f8, go_sem, hc, ht]

set_option maxRecDepth 100000 in
set_option maxHeartbeats 4000000 in
theorem all_walk (ad : Option Addr) (len cap B : Nat) (lv : Int) (w : World) (hl : len ≤ 500) (hs : Src w ad len cap (c8 (upk 8 len B))) :
    Calls Try.prog 8 #[.slice ad len cap, .int .i64 lv] w fun e w' => e = .returned (.bool true) ∧ Below w.heap.size w w' := by
  have hl' : (len : Int) ≤ 500 := by omega
  have B3 := below3 w (.cells #[.slice ad len cap] 32) (.cells #[.int .i64 lv] 3) (.cells #[.bool false] 4)
  have q1 : Boxed (((w.alloc (.cells #[.slice ad len cap] 32)).alloc (.cells #[.int .i64 lv] 3)).alloc (.cells #[.bool false] 4)) w.heap.size 32 (.slice ad len cap) := ((Boxed.new w 32 _).alloc _).alloc _
  have q2 : Boxed (((w.alloc (.cells #[.slice ad len cap] 32)).alloc (.cells #[.int .i64 lv] 3)).alloc (.cells #[.bool false] 4)) (w.heap.size + 1) 3 (.int .i64 lv) := by
    have h := (Boxed.new (w.alloc (.cells #[.slice ad len cap] 32)) 3 (.int .i64 lv)).alloc (.cells #[.bool false] 4)
    simpa using h
  have q3 : Boxed (((w.alloc (.cells #[.slice ad len cap] 32)).alloc (.cells #[.int .i64 lv] 3)).alloc (.cells #[.bool false] 4)) (w.heap.size + 1 + 1) 4 (.bool false) := by
    have h := Boxed.new ((w.alloc (.cells #[.slice ad len cap] 32)).alloc (.cells #[.int .i64 lv] 3)) 4 (.bool false)
    simpa using h
  have e3 : (((w.alloc (.cells #[.slice ad len cap] 32)).alloc (.cells #[.int .i64 lv] 3)).alloc (.cells #[.bool false] 4)).heap.size = w.heap.size + 1 + 1 + 1 := by simp
  have hf := eqfn
  refine (callsIn_wide (n := 5)).1 ?_
  refine callsIn_of_wp_marks Try.func8 rfl trivial ?_ rfl
  simp only [Try.ntmps8, List.size_toArray, List.length_cons, List.length_nil, Nat.reduceAdd, Nat.reduceSub, Array.replicate_succ, Array.replicate_zero, List.push_toArray, List.append_toArray, List.nil_append, List.cons_append]
  gi_wp2_with (refine ⟨trivial, ?_⟩; gi_at_call 17; refine (callsIn_wide.2 (bits_any ad len cap B _ (by omega) (hs.later B3))).mono ?_; rintro e w1 ⟨Bs, cap', ad', rfl, hbs, hN1, hB1⟩)
  clear hf
  generalize (((w.alloc (.cells #[.slice ad len cap] 32)).alloc (.cells #[.int .i64 lv] 3)).alloc (.cells #[.bool false] 4)) = W3 at *
  rw [e3] at hB1
  have hsz : w.heap.size + 1 + 1 + 1 ≤ w1.heap.size := by rw [← e3]; exact hB1.size
  have hBs : Bs < w1.heap.size := World.block_lt_of_cell? _ _ hbs
  have BB : BytesAt w1.heap.size w1 ad' len B := bytesAt_num hN1 (Nat.le_refl _)
  have hB0 : Below w.heap.size w w1 := B3.trans (hB1.mono (by omega))
  have a1 : A1 w w1 (w1.alloc (.cells #[.int .i64 0] 3)) ad len cap lv 0 := by
    refine ⟨(boxed_later q1 hB1 (by omega)).alloc _, (boxed_later q2 hB1 (by omega)).alloc _, (boxed_later q3 hB1 (by omega)).alloc _, Boxed.new w1 3 _, hsz, hB0.alloc (by omega) _, (Below.refl _ w1).alloc (Nat.le_refl _) _⟩
  have hbb : (w1.alloc (.cells #[.int .i64 0] 3)).cell? ⟨Bs, 0, none⟩ = some (.slice ad' len cap') := (a1.hN.cell (p := ⟨Bs, 0, none⟩) hBs).trans hbs
  have e4 : (w1.alloc (.cells #[.int .i64 0] 3)).heap.size = w1.heap.size + 1 := by simp
  generalize w1.alloc (.cells #[.int .i64 0] 3) = W4 at a1 hbb e4 ⊢
  refine wpIn_rangeFunc_ownF rfl (by omega) (gf := 29) (lb := #[.pointer (some ⟨Bs, 0, none⟩)]) rfl trivial (enters_of Try.func29 (by kernel_rfl) rfl)
    (bits_stops Fence.wide 4 trivial rfl (by omega) Bs w1.heap.size B len cap' ad' (by omega) W4 (by omega) (by omega) hbb (BB.below a1.hN)) belowK_t (belowK_b (by omega)) (Below.refl _ _) (fun _ => rfl)
    (fun pre X => pre = upto (bt B) pre.length ∧ A1 w w1 X ad len cap lv pre.length) (fun cd pre X => pre ≠ upto (bt B) pre.length)
    (fun s A C row hs hg hr => ⟨hs.1, hs.2.kept (by omega) hg hr⟩) (fun cd s A C row hs hg hr => hs) ⟨rfl, a1⟩ ?act ?assign ?body ?done ?stop
  case assign =>
    intro l x X K hK
    gi_wp2
    exact hK
  case body =>
    rintro l pre x X ⟨hpre, us⟩ hlt
    have k1 := us.bb.cell
    have k2 := us.bn.cell
    have k3 := us.br.cell
    have f2 := us.bn.frozen
    have f3 := us.br.frozen
    have R := rbit_any ad len cap B pre.length X (by omega) (num_src (hs.later us.hB)) hlt
    rw [← bi_bt] at R
    have hlt' : (pre.length : Int) < 8 * (len : Int) := by omega
    have hbx : 0 ≤ bi x ∧ bi x ≤ 1 := by unfold bi; split <;> omega
    have HP : Hid _ := hpre
    have HUS : Hid _ := us
    have HX : Hid (bi x = bi (bt B pre.length) → x = bt B pre.length) := bi_inj
    clear us hpre
    obtain ⟨y, hy⟩ : ∃ y, y = bi (bt B pre.length) := ⟨_, rfl⟩
    rw [← hy] at R
    have HY : Hid _ := hy
    clear hy
    by_cases hxy : bi x = y
    · rw [← hxy] at R
      gi_wp2_with (refine ⟨trivial, ?_⟩; gi_at_call 18; refine (CallsIn.inRound l (callsIn_wide.2 R)).mono ?_; rintro e wx ⟨rfl, hwx⟩; obtain rfl := hwx.symm)
      exact ⟨KeepsOthers.setCell _ _ _, (Below.refl _ _).setCell (p := ⟨w1.heap.size, 0, none⟩) (by simp) _, upto_grow HP.out (HX.out (hxy.trans HY.out)), HUS.out.next _ _ (by simp)⟩
    · have hxy' : (bi x != y) = true := by simpa using hxy
      gi_wp2_with (refine ⟨trivial, ?_⟩; gi_at_call 18; refine (CallsIn.inRound l (callsIn_wide.2 R)).mono ?_; rintro e wx ⟨rfl, hwx⟩; obtain rfl := hwx.symm)
      exact ⟨KeepsOthers.setCell _ _ _, upto_wrong (fun e => hxy (by rw [HY.out, ← e]))⟩
  case done =>
    rintro D xs X hD rfl ⟨_, us⟩ hK
    rw [upto_length] at us
    gi_wp2
    have hDX : D < X.heap.size := (Array.getElem?_eq_some_iff.1 hK).1
    have a2 : A2 w w1 (X.alloc (.cells #[.int .i64 0] 3)) ad len cap lv (8 * len) X.heap.size D 0 := by
      have hsz1 := us.bn.lt
      refine ⟨⟨us.bb.alloc _, us.bl.alloc _, us.br.alloc _, us.bn.alloc _, hsz, us.hB.alloc (by omega) _, us.hN.alloc (by omega) _⟩, Boxed.new X 3 _, hsz1, ?_⟩
      exact (Below.heap_alloc X _ D hDX).trans hK
    have hbb2 : (X.alloc (.cells #[.int .i64 0] 3)).cell? ⟨Bs, 0, none⟩ = some (.slice ad' len cap') := (a2.a1.hN.cell (p := ⟨Bs, 0, none⟩) hBs).trans hbs
    have e5 : (X.alloc (.cells #[.int .i64 0] 3)).heap.size = X.heap.size + 1 := by simp
    generalize X.alloc (.cells #[.int .i64 0] 3) = W5 at a2 hbb2 e5 ⊢
    have hL := a2.hL
    have hDw : w.heap.size ≤ D := by omega
    clear us hK a1 hbb hD
    generalize X.heap.size = L at *
    refine wpIn_rangeFunc_ownF rfl (by omega) (gf := 29) (lb := #[.pointer (some ⟨Bs, 0, none⟩)]) rfl trivial (enters_of Try.func29 (by kernel_rfl) rfl)
      (bits_stops Fence.wide 4 trivial rfl (by omega) Bs w1.heap.size B len cap' ad' (by omega) W5 (by omega) (by omega) hbb2 (BB.below a2.a1.hN)) belowK_t (belowK_b (by omega)) (Below.refl _ _) (fun _ => rfl)
      (fun pre X => (pre.length = 0 ∨ (pre.length : Int) < lv) ∧ A2 w w1 X ad len cap lv (8 * len) L D pre.length) (fun cd pre X => cd = .exit 2 ∧ (pre.length : Int) = max 1 lv ∧ A2 w w1 X ad len cap lv (8 * len) L D pre.length)
      (fun s A C row hs hg hr => ⟨hs.1, hs.2.kept (by omega) (by omega) hg hr⟩) (fun cd s A C row hs hg hr => ⟨hs.1, hs.2.1, hs.2.2.kept (by omega) (by omega) hg hr⟩) ⟨.inl rfl, a2⟩ ?act2 ?assign2 ?body2 ?done2 ?stop2
    case assign2 =>
      intro l x X K hK
      gi_wp2
      exact hK
    case body2 =>
      rintro l pre x X ⟨hpre, us⟩ hlt
      have k1 := us.a1.bl.cell
      have k2 := us.bk.cell
      have f2 := us.bk.frozen
      have HUS : Hid _ := us.next (pre.length + 1) (pre.length + 1) (by simp)
      have HP : Hid _ := hpre
      have hne : w.heap.size + 1 ≠ L := by omega
      have k3 : (X.setCell ⟨L, 0, none⟩ (.int .i64 (pre.length + 1))).cell? ⟨w.heap.size + 1, 0, none⟩ = some (.int .i64 lv) := HUS.out.a1.bl.cell
      clear us hpre
      by_cases hge : lv ≤ (pre.length : Int) + 1
      · gi_wp2
        refine ⟨KeepsOthers.setCell _ _ _, rfl, ?_, by simpa using HUS.out⟩
        have := HP.out
        simp
        omega
      · gi_wp2
        refine ⟨KeepsOthers.setCell _ _ _, (Below.refl _ _).setCell (p := ⟨L, 0, none⟩) (by simp; omega) _, .inr ?_, by simpa using HUS.out⟩
        simp
        omega
    case done2 =>
      rintro D2 xs X hD2 rfl ⟨hk, us⟩ hK
      rw [upto_length] at us hk
      have k1 := us.a1.bl.cell
      have k2 := us.bk.cell
      have k3 := us.a1.bn.cell
      have k4 := us.a1.bb.cell
      have k5 := us.a1.br.cell
      have f5 := us.a1.br.frozen
      gi_wp2
      rw [show ((8 * (len : Int)) == min (8 * (len : Int)) (max 1 lv)) = true from by simp; omega]
      exact all_end us hK (by omega) hDw rfl
    case stop2 =>
      rintro D2 c pre X hD2 ⟨k, hk, rfl⟩ ⟨rfl, hm, us⟩ hK
      rw [upto_length] at us hm
      have k1 := us.a1.bl.cell
      have k2 := us.bk.cell
      have k3 := us.a1.bn.cell
      have k4 := us.a1.bb.cell
      have k5 := us.a1.br.cell
      have f5 := us.a1.br.frozen
      gi_wp2
      rw [show (max 1 lv == min (8 * (len : Int)) (max 1 lv)) = true from by simp; omega]
      exact all_end us hK (by omega) hDw rfl
  case stop =>
    rintro D c pre X hD ⟨k, hk, rfl⟩ hne hK
    exact absurd (by rw [upto_length]) hne
end Go.Proofs.Ytkbjohkijajcgab
