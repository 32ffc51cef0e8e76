/-
  works: a structure, there and back.
-/
import Derived.Test.YtikoddlidhefpaaFld
import Derived.Test.YtikoddlidhefpaaBackB
import Derived.Test.YtikoddlidhefpaaRSame
namespace Go.Proofs.Ytikoddlidhefpaa
set_option linter.unusedVariables false
set_option linter.unusedSimpArgs false
open Go.ChangeShapes Go.WideShapes Go.ChangeAt Go.RowKit Go.Deep

def wkT : ByteArray := { data := #[97, 98] }
def wkP : Pay := ⟨12, 0, 0, 0, noText, [1, 2, 20]⟩
def wkC : Fo := .node 0 0 (scal 5 1) .nil (.node 0 0 (scal 1 1) .nil (.node 0 0 ⟨8, 0, 0, 0, wkT, []⟩ .nil .nil))
theorem wk_bytes : valB wkP wkC = [21, 2, 17, 8, 40, 2, 97, 98, 0] := by rfl
theorem wk_may : (decide (wkP.kind = 12) && mayV wkP wkC 32) = true := by decide +kernel
theorem wk_read : rRead [21, 2, 17, 8, 40, 2, 97, 98, 0, 7] = .ok ((wkP, wkC), [7]) := by
  have h1 := wk_may
  rw [Bool.and_eq_true] at h1
  have z0 : i64ok 0 := ⟨by omega, by omega⟩
  have z1 : i64ok 1 := ⟨by omega, by omega⟩
  have := back_all 32 wkP wkC [7] h1.2 z0 ⟨⟨z1, trivial⟩, ⟨z1, trivial⟩, ⟨z0, trivial⟩, trivial⟩
  rw [wk_bytes] at this
  exact this
theorem wk_not : rRead [1, 2] = .error false := by rfl
theorem wk_short : rRead [17, 1] = .error true := by rfl
theorem zeros_src (w : World) : Src w none 0 0 (c64 []) := ⟨rfl, .inl ⟨rfl, rfl, rfl⟩⟩
theorem wk_in {W : World} {A B : Nat} (ha : W.heap[A]? = some (.cells #[.int .i64 1, .int .i64 2, .int .i64 20] 3 (0, 0)))
    (hb : W.heap[B]? = some (.cells #[.int .i64 5, .int .i64 0, .int .i64 0, .int .i64 1, .string { data := #[] }, .slice none 0 0, .slice none 0 0, .int .i64 1, .int .i64 0, .int .i64 0, .int .i64 1, .string { data := #[] }, .slice none 0 0, .slice none 0 0, .int .i64 8, .int .i64 0, .int .i64 0, .int .i64 0, .string { data := #[97, 98] }, .slice none 0 0, .slice none 0 0] 26 (0, 0))) :
    VIn W wkP wkC (some ⟨A, 0, none⟩) 3 (some ⟨B, 0, none⟩) 3 := by
  have z0 : i64ok 0 := ⟨by omega, by omega⟩
  have z1 : i64ok 1 := ⟨by omega, by omega⟩
  have z2 : i64ok 2 := ⟨by omega, by omega⟩
  have z5 : i64ok 5 := ⟨by omega, by omega⟩
  have z8 : i64ok 8 := ⟨by omega, by omega⟩
  have z12 : i64ok 12 := ⟨by omega, by omega⟩
  have z20 : i64ok 20 := ⟨by omega, by omega⟩
  have hlt := lt_of_heap hb
  refine ⟨⟨z12, z0, z0, z0, Nat.zero_le _, by decide, ?_⟩, by decide, ⟨rfl, .inr ⟨_, rfl, fun j u hj => ?_⟩⟩, ?_⟩
  · intro n hn
    simp [wkP] at hn
    rcases hn with rfl | rfl | rfl
    · exact z1
    · exact z2
    · exact z20
  · rw [add0]
    exact cell_of_block ha (by simpa [c64, wkP] using hj)
  · refine ⟨B, 0, rfl, hlt, scal_ok z5 z1, Nat.zero_le _, ⟨none, 0, none, 0, fun j u hj => ?_, zeros_src _, trivial⟩, B, 7, rfl, hlt, scal_ok z1 z1, Nat.zero_le _, ⟨none, 0, none, 0, fun j u hj => ?_, zeros_src _, trivial⟩, B, 14, rfl, hlt, ⟨z8, z0, z0, z0, by decide, Nat.zero_le _, fun _ h => by cases h⟩, Nat.zero_le _, ⟨none, 0, none, 0, fun j u hj => ?_, zeros_src _, trivial⟩, trivial⟩
    · match j, hj with
      | 0, hj => cases hj; exact cell_of_block hb rfl
      | 1, hj => cases hj; exact cell_of_block hb rfl
      | 2, hj => cases hj; exact cell_of_block hb rfl
      | 3, hj => cases hj; exact cell_of_block hb rfl
      | 4, hj => cases hj; exact cell_of_block hb rfl
      | 5, hj => cases hj; exact cell_of_block hb rfl
      | 6, hj => cases hj; exact cell_of_block hb rfl
      | j + 7, hj => simp [cells7] at hj
    · match j, hj with
      | 0, hj => cases hj; exact cell_of_block hb rfl
      | 1, hj => cases hj; exact cell_of_block hb rfl
      | 2, hj => cases hj; exact cell_of_block hb rfl
      | 3, hj => cases hj; exact cell_of_block hb rfl
      | 4, hj => cases hj; exact cell_of_block hb rfl
      | 5, hj => cases hj; exact cell_of_block hb rfl
      | 6, hj => cases hj; exact cell_of_block hb rfl
      | j + 7, hj => simp [cells7] at hj
    · match j, hj with
      | 0, hj => cases hj; exact cell_of_block hb rfl
      | 1, hj => cases hj; exact cell_of_block hb rfl
      | 2, hj => cases hj; exact cell_of_block hb rfl
      | 3, hj => cases hj; exact cell_of_block hb rfl
      | 4, hj => cases hj; exact cell_of_block hb rfl
      | 5, hj => cases hj; exact cell_of_block hb rfl
      | 6, hj => cases hj; exact cell_of_block hb rfl
      | j + 7, hj => simp [cells7] at hj
end Go.Proofs.Ytikoddlidhefpaa

/-
  works, walked.
-/
namespace Go.Proofs.Ytikoddlidhefpaa
set_option linter.unusedVariables false
set_option linter.unusedSimpArgs false
open Go.ChangeShapes Go.WideShapes Go.ChangeAt Go.RowKit Go.Deep

theorem own_cap {w : World} {B : Nat} {e : TypeId} {s n c m : Nat} {a : Option Addr} {xs : List Value} (h : w.ownsRow B e s (.slice a m c) n xs) : n ≤ c := by
  rcases h.2 with ⟨e1, e2⟩ | ⟨g, cap, cur, e1, _, _, e2, _⟩
  · omega
  · cases e1; exact e2
theorem infoU8' : ∃ i, Try.prog.info? 5 = some i ∧ i.zero = some (.int .u8 0) ∧ i.size = 1 ∧ i.bytes = 1 := by
  have hq : (Try.prog.info? 5).map (fun i => (i.zero, i.size, i.bytes)) = some (some (.int .u8 0), 1, 1) := by kernel_rfl
  cases h : Try.prog.info? 5 with
  | none => rw [h] at hq; cases hq
  | some i =>
    rw [h] at hq
    simp only [Option.map_some, Option.some.injEq, Prod.mk.injEq] at hq
    exact ⟨i, rfl, hq.1, hq.2.1, hq.2.2⟩
theorem src_new8 (w : World) (l : List Nat) (fr : Nat × Nat) (c : Nat) : Src (w.alloc (.cells (c8 l).toArray 5 fr)) (some ⟨w.heap.size, 0, none⟩) l.length c (c8 l) := by
  refine ⟨c8_len l, .inr ⟨_, rfl, fun j u hj => ?_⟩⟩
  rw [add0]
  exact alloc_cell w _ _ _ (by simpa using hj)
/-- Write of the structure -/
theorem wk_write (W : World) (A B : Nat) (h : VIn W wkP wkC (some ⟨A, 0, none⟩) 3 (some ⟨B, 0, none⟩) 3) :
    Calls Try.prog 19 #[.agg #[.int .i64 12, .int .i64 0, .int .i64 0, .int .i64 0, .string { data := #[] }, .slice (some ⟨A, 0, none⟩) 3 3, .slice (some ⟨B, 0, none⟩) 3 3]] W fun e w' => ∃ v, e = .returned (.tuple #[v, .int .i64 0]) ∧ w'.ownsRow W.heap.size 5 1 v 9 (c8 [21, 2, 17, 8, 40, 2, 97, 98, 0]) ∧ Below W.heap.size W w' := by
  have := write_yes wkP wkC W _ _ _ _ h wk_may (by rw [wk_bytes]; decide)
  rw [wk_bytes] at this
  exact this
/-- Read of bytes that are none -/
theorem wk_read_no (w : World) (b : Nat) (hb0 : b = w.heap.size) (l : List Nat) (s : Bool) (hl : l.length = 2) (h8 : ∀ c ∈ l, c < 256) (he : rRead l = .error s) :
    Calls Try.prog 21 #[.slice (some ⟨b, 0, none⟩) 2 2] (w.alloc (.cells (c8 l).toArray 5)) fun e w' => e = .returned (.tuple #[.agg #[.int .i64 0, .int .i64 0, .int .i64 0, .int .i64 0, .string { data := #[] }, .slice none 0 0, .slice none 0 0], .int .i64 0, .int .i64 (why s)]) ∧ Below w.heap.size w w' := by
  subst hb0
  have hs := src_new8 w l (0, 0) 2
  have hb := alloc_below w (.cells (c8 l).toArray 5)
  rw [← hl]
  refine read_q _ _ l l.length (by rw [hl]; exact hl ▸ hs) (Nat.le_refl _) (by omega) h8 _ (fun p c rest v w' h _ _ => by rw [he] at h; cases h) (fun s' w' h hb' => ?_)
  rw [he] at h
  cases h
  exact ⟨rfl, hb.trans (hb'.mono (by simp))⟩
theorem wk_field (W : World) (A B : Nat) (h : VIn W wkP wkC (some ⟨A, 0, none⟩) 3 (some ⟨B, 0, none⟩) 3) :
    Calls Try.prog 25 #[.agg #[.int .i64 12, .int .i64 0, .int .i64 0, .int .i64 0, .string { data := #[] }, .slice (some ⟨A, 0, none⟩) 3 3, .slice (some ⟨B, 0, none⟩) 3 3], .int .i64 20] W fun e w' => ∃ ia ic la lc, e = .returned (.tuple #[.agg #[.int .i64 8, .int .i64 0, .int .i64 0, .int .i64 0, .string { data := #[97, 98] }, .slice ia 0 ic, .slice la 0 lc], .bool true]) ∧ Below W.heap.size W w' := by
  have := field_yes wkP wkC W _ _ _ _ 20 2 ⟨8, 0, 0, 0, wkT, []⟩ .nil h wk_may (by decide) rfl rfl (copy_leaf _ rfl) (by decide)
  refine this.mono ?_
  rintro e w' ⟨v, rfl, hvx, hb⟩
  obtain ⟨ia, ic, la, lc, rfl, _⟩ := hvx.vin
  exact ⟨ia, ic, la, lc, rfl, hb⟩
/-- the bytes of the structure, as a text -/
theorem txt_wk : (txt [21, 2, 17, 8, 40, 2, 97, 98, 0]).toList = [21, 2, 17, 8, 40, 2, 97, 98, 0] := by decide +kernel

theorem three_boxes (w : World) (x y z : Obj) : Below w.heap.size w (((w.alloc x).alloc y).alloc z) ∧ (((w.alloc x).alloc y).alloc z).heap[w.heap.size]? = some x ∧ (((w.alloc x).alloc y).alloc z).heap[w.heap.size + 1]? = some y ∧ (((w.alloc x).alloc y).alloc z).heap[w.heap.size + 1 + 1]? = some z ∧ (((w.alloc x).alloc y).alloc z).heap.size = w.heap.size + 3 := by
  refine ⟨((alloc_below _ _).alloc (by simp) _).alloc (by simp; omega) _, ?_, ?_, ?_, by simp⟩
  · rw [(alloc_below _ _).block _ (by simp; omega), (alloc_below _ _).block _ (by simp)]; exact heap_new _ _
  · rw [(alloc_below _ _).block _ (by simp)]; exact heap2_new _ _ _
  · have := heap2_new (w.alloc x) y z
    simpa using this
/-- Read of the structure's bytes with one more behind -/
theorem wk_read_yes (w : World) (a : Option Addr) (cp : Nat) (hs : Src w a 10 cp (c8 [21, 2, 17, 8, 40, 2, 97, 98, 0, 7])) (hc : 10 ≤ cp) :
    Calls Try.prog 21 #[.slice a 10 cp] w fun e w' => ∃ ja jc ka kc, e = .returned (.tuple #[.agg #[.int .i64 12, .int .i64 0, .int .i64 0, .int .i64 0, .string { data := #[] }, .slice ja 3 jc, .slice ka 3 kc], .int .i64 9, .int .i64 0]) ∧ VIn w' wkP wkC ja jc ka kc ∧ Below w.heap.size w w' := by
  refine read_q w a [21, 2, 17, 8, 40, 2, 97, 98, 0, 7] cp hs hc (by decide) (by decide) _ (fun p c rest v w' h hb hvx => ?_) (fun s w' h _ => by rw [wk_read] at h; cases h)
  rw [wk_read] at h
  cases h
  obtain ⟨ja, jc, ka, kc, rfl, hin⟩ := hvx.vin
  exact ⟨ja, jc, ka, kc, rfl, hin, hb⟩
theorem wk_same (w : World) (ia : Option Addr) (ic : Nat) (la : Option Addr) (lc : Nat) (ja : Option Addr) (jc : Nat) (ka : Option Addr) (kc : Nat) (h1 : VIn w wkP wkC ia ic la lc) (h2 : VIn w wkP wkC ja jc ka kc) :
    Calls Try.prog 23 #[.agg #[.int .i64 12, .int .i64 0, .int .i64 0, .int .i64 0, .string { data := #[] }, .slice ia 3 ic, .slice la 3 lc], .agg #[.int .i64 12, .int .i64 0, .int .i64 0, .int .i64 0, .string { data := #[] }, .slice ja 3 jc, .slice ka 3 kc]] w fun e w' => e = .returned (.bool true) ∧ Below w.heap.size w w' := by
  have := rsame_any wkP wkC w ia ic la lc wkP wkC ja jc ka kc h1 h2
  have e : (sameP wkP wkP && sameF wkC wkC) = true := by decide +kernel
  rw [e] at this
  exact this
set_option maxRecDepth 100000 in
set_option maxHeartbeats 2000000 in
theorem works_any (w : World) : Calls Try.prog 11 #[] w fun e w' => e = .returned (.bool true) ∧ Below w.heap.size w w' := by
  obtain ⟨i0, hi, hz0, hz1, hz2⟩ := infoU8'
  obtain ⟨hb0, ha, hl, hx, hs0⟩ := three_boxes w (.cells #[.int .i64 1, .int .i64 2, .int .i64 20] 3) (.cells #[.int .i64 5, .int .i64 0, .int .i64 0, .int .i64 1, .string { data := #[] }, .slice none 0 0, .slice none 0 0, .int .i64 1, .int .i64 0, .int .i64 0, .int .i64 1, .string { data := #[] }, .slice none 0 0, .slice none 0 0, .int .i64 8, .int .i64 0, .int .i64 0, .int .i64 0, .string { data := #[97, 98] }, .slice none 0 0, .slice none 0 0] 26) (.cells #[.int .i64 12, .int .i64 0, .int .i64 0, .int .i64 0, .string { data := #[] }, .slice (some ⟨w.heap.size, 0, none⟩) 3 3, .slice (some ⟨w.heap.size + 1, 0, none⟩) 3 3] 26)
  have V0 := wk_in ha hl
  go_enter Try.func11, Try.ntmps11
  go_wp2_with fail
  generalize ((w.alloc (.cells #[.int .i64 1, .int .i64 2, .int .i64 20] 3)).alloc (.cells #[.int .i64 5, .int .i64 0, .int .i64 0, .int .i64 1, .string { data := #[] }, .slice none 0 0, .slice none 0 0, .int .i64 1, .int .i64 0, .int .i64 0, .int .i64 1, .string { data := #[] }, .slice none 0 0, .slice none 0 0, .int .i64 8, .int .i64 0, .int .i64 0, .int .i64 0, .string { data := #[97, 98] }, .slice none 0 0, .slice none 0 0] 26)).alloc (.cells #[.int .i64 12, .int .i64 0, .int .i64 0, .int .i64 0, .string { data := #[] }, .slice (some ⟨w.heap.size, 0, none⟩) 3 3, .slice (some ⟨w.heap.size + 1, 0, none⟩) 3 3] 26) = W0 at *
  have W := wk_write W0 _ _ V0
  refine W.mono ?_
  rintro e W1 ⟨v1, rfl, ho1, hb1⟩
  obtain ⟨ba, bc, rfl⟩ := own_sl ho1
  have HS1 : Hid (Src W1 ba 9 bc (c8 [21, 2, 17, 8, 40, 2, 97, 98, 0])) := (src_own ho1).2
  have hx1 := below_at hb1 hx
  have hbw1 := hb0.trans (hb1.mono hb0.size)
  obtain ⟨⟨y0, y1, y2, y3, y4, y5, y6⟩, _⟩ := blk7 hx1
  clear W ho1
  have HA : Hid (∀ W2 : World, Below W1.heap.size W1 W2 → W1.heap.size ≤ (W2.alloc (.cells #[.int .u8 7] 5)).heap.size) := fun W2 h => by have := h.size; simp; omega
  go_wp2_with (first | (at_builtin; refine wpList_append_src rfl (.tmp 27) (.tmp 28) 37 rfl W1.heap.size 5 i0 (.int .u8 0) 1 Try.underlying37 hi hz0 hz1 hz2 rfl _ _ _ rfl (World.ownsRow_made _ _ 0 (Nat.le_refl _) (Nat.zero_le _) rfl) _ _ _ (c8 [21, 2, 17, 8, 40, 2, 97, 98, 0]) rfl (HS1.out.later ((Below.refl _ W1).alloc (Nat.le_refl _) _)) (c8_one _) (by unfold maxLen; omega) (by omega) (by simp) ?_; intro v2 W2 hown2 hb2; have hb02 : Below W1.heap.size W1 W2 := ((Below.refl _ W1).alloc (Nat.le_refl _) _).trans hb2) | (at_builtin; refine wpList_append_own _ rfl (.tmp 29) (.tmp 30) 37 rfl W1.heap.size 5 i0 (.int .u8 0) 1 1 Try.underlying37 hi hz0 hz1 hz2 rfl (by decide) _ _ _ rfl (hown2.alloc _) ⟨W2.heap.size, 0, none⟩ 1 1 [.int .u8 7] rfl rfl (new_news W2 [.int .u8 7] 5 (0, 0)) (c8_one [7]) (by unfold maxLen; omega) (by omega) (HA.out W2 hb02) ?_; intro v3 W3 hown3 hg3 _; have HG3 : Hid (Below W1.heap.size W1 W3) := (hb02.alloc hb02.size _).grown hg3 (HA.out W2 hb02) (fun k hk => (hown2.lt k hk).1); obtain ⟨g, cc, rfl⟩ := own_some hown3 (Nat.le_add_left _ _); have HO3 : Hid (Src W3 (some ⟨g, 0, none⟩) 10 cc (c8 [21, 2, 17, 8, 40, 2, 97, 98, 0, 7]) ∧ 10 ≤ cc) := ⟨(src_own hown3).2, own_cap hown3⟩; clear hown3 hg3))
  refine (wk_read_yes W3 _ cc HO3.out.1 HO3.out.2).mono ?_
  rintro e W4 ⟨ja, jc, ka, kc, rfl, hin4, hb4⟩
  have hbw3 := hbw1.trans (HG3.out.mono hbw1.size)
  have hbw4 := hbw3.trans (hb4.mono hbw3.size)
  have HS4 : Hid (Src W4 ba 9 bc (c8 [21, 2, 17, 8, 40, 2, 97, 98, 0])) := (HS1.out.later HG3.out).later hb4
  have hx4 := below_at hb4 (below_at HG3.out hx1)
  have V4 := ((V0.later hb1).later HG3.out).later hb4
  have hb5 := alloc_below W4 (.cells #[.int .i64 12, .int .i64 0, .int .i64 0, .int .i64 0, .string { data := #[] }, .slice ja 3 jc, .slice ka 3 kc] 26)
  have hq5 := heap_new W4 (.cells #[.int .i64 12, .int .i64 0, .int .i64 0, .int .i64 0, .string { data := #[] }, .slice ja 3 jc, .slice ka 3 kc] 26)
  have hbw5 := hbw4.trans (hb5.mono hbw4.size)
  have HS5 : Hid (Src (W4.alloc (.cells #[.int .i64 12, .int .i64 0, .int .i64 0, .int .i64 0, .string { data := #[] }, .slice ja 3 jc, .slice ka 3 kc] 26)) ba 9 bc (c8 [21, 2, 17, 8, 40, 2, 97, 98, 0])) := HS4.out.later hb5
  have hx5 := below_at hb5 hx4
  have V5 := V4.later hb5
  have Vx5 := hin4.later hb5
  clear HO3 HS4 HS1 HA hb02 hown2 hb2 hx1 hx y0 y1 y2 y3 y4 y5 y6 ha hl V0 hx4 V4 hin4
  have HZ5 : Hid (W4.heap.size + 1 = (W4.alloc (.cells #[.int .i64 12, .int .i64 0, .int .i64 0, .int .i64 0, .string { data := #[] }, .slice ja 3 jc, .slice ka 3 kc] 26)).heap.size) := by show _ = _; simp
  go_wp2_with fail
  generalize W4.alloc (.cells #[.int .i64 12, .int .i64 0, .int .i64 0, .int .i64 0, .string { data := #[] }, .slice ja 3 jc, .slice ka 3 kc] 26) = W5 at *
  refine (wk_read_no W5 _ HZ5.out [1, 2] false rfl (by decide) wk_not).mono ?_
  rintro e W6 ⟨rfl, hb6⟩
  have hb7 := hb6.trans ((alloc_below W6 (.cells #[.int .i64 0, .int .i64 0, .int .i64 0, .int .i64 0, .string { data := #[] }, .slice none 0 0, .slice none 0 0] 26)).mono hb6.size)
  have hbw7 := hbw5.trans (hb7.mono hbw5.size)
  have HS7 : Hid (Src (W6.alloc (.cells #[.int .i64 0, .int .i64 0, .int .i64 0, .int .i64 0, .string { data := #[] }, .slice none 0 0, .slice none 0 0] 26)) ba 9 bc (c8 [21, 2, 17, 8, 40, 2, 97, 98, 0])) := HS5.out.later hb7
  have hx7 := below_at hb7 hx5
  have hq7 := below_at hb7 hq5
  have V7 := V5.later hb7
  have Vx7 := Vx5.later hb7
  clear HS5 hx5 hq5 V5 Vx5
  have HZ7 : Hid (W6.heap.size + 1 = (W6.alloc (.cells #[.int .i64 0, .int .i64 0, .int .i64 0, .int .i64 0, .string { data := #[] }, .slice none 0 0, .slice none 0 0] 26)).heap.size) := by show _ = _; simp
  go_wp2_with fail
  generalize W6.alloc (.cells #[.int .i64 0, .int .i64 0, .int .i64 0, .int .i64 0, .string { data := #[] }, .slice none 0 0, .slice none 0 0] 26) = W7 at *
  refine (wk_read_no W7 _ HZ7.out [17, 1] true rfl (by decide) wk_short).mono ?_
  rintro e W8 ⟨rfl, hb8⟩
  have hb9 := hb8.trans ((alloc_below W8 (.cells #[.int .i64 0, .int .i64 0, .int .i64 0, .int .i64 0, .string { data := #[] }, .slice none 0 0, .slice none 0 0] 26)).mono hb8.size)
  have hbw9 := hbw7.trans (hb9.mono hbw7.size)
  have HS9 : Hid (Src (W8.alloc (.cells #[.int .i64 0, .int .i64 0, .int .i64 0, .int .i64 0, .string { data := #[] }, .slice none 0 0, .slice none 0 0] 26)) ba 9 bc (c8 [21, 2, 17, 8, 40, 2, 97, 98, 0])) := HS7.out.later hb9
  have hx7' := hx7
  have hx9 := below_at hb9 hx7
  have hq9 := below_at hb9 hq7
  have V9 := V7.later hb9
  have Vx9 := Vx7.later hb9
  clear HS7 hx7 hq7 V7 Vx7
  obtain ⟨⟨y0, y1, y2, y3, y4, y5, y6⟩, _⟩ := blk7 (below_at hb8 hx7')
  have hlx : w.heap.size + 1 + 1 < W8.heap.size := lt_of_heap (below_at hb8 hx7')
  go_wp2_with fail
  generalize W8.alloc (.cells #[.int .i64 0, .int .i64 0, .int .i64 0, .int .i64 0, .string { data := #[] }, .slice none 0 0, .slice none 0 0] 26) = W9 at *
  refine (wk_field W9 _ _ V9).mono ?_
  rintro e WA ⟨fa1, fc1, fl1, fm1, rfl, hbA⟩
  have hb10 := hbA.trans ((alloc_below WA (.cells #[.int .i64 8, .int .i64 0, .int .i64 0, .int .i64 0, .string { data := #[97, 98] }, .slice fa1 0 fc1, .slice fl1 0 fm1] 26)).mono hbA.size)
  have hbwB := hbw9.trans (hb10.mono hbw9.size)
  have S1 : Sem.run Try.prog (convert 37 9 (.slice ba 9 bc)) (WA.alloc (.cells #[.int .i64 8, .int .i64 0, .int .i64 0, .int .i64 0, .string { data := #[97, 98] }, .slice fa1 0 fc1, .slice fl1 0 fm1] 26)) = .ok (.string (txt [21, 2, 17, 8, 40, 2, 97, 98, 0])) (WA.alloc (.cells #[.int .i64 8, .int .i64 0, .int .i64 0, .int .i64 0, .string { data := #[97, 98] }, .slice fa1 0 fc1, .slice fl1 0 fm1] 26)) := str_src (HS9.out.later hb10)
  have hxB := below_at hb10 hx9
  have hqB := below_at hb10 hq9
  have VB := V9.later hb10
  have VxB := Vx9.later hb10
  have hlA := lt_of_heap (below_at hbA hx9)
  have hqA := lt_of_heap (below_at hbA hq9)
  obtain ⟨⟨x0, x1, x2, x3, x4, x5, x6⟩, _⟩ := blk7 (below_at hbA hx9)
  obtain ⟨⟨p0, p1, p2, p3, p4, p5, p6⟩, _⟩ := blk7 (below_at hbA hq9)
  have t9 := txt_wk
  generalize txt [21, 2, 17, 8, 40, 2, 97, 98, 0] = T9 at *
  have SM := wk_same _ _ _ _ _ _ _ _ _ VxB VB
  clear y0 y1 y2 y3 y4 y5 y6 hx7' hx9 hq9 V9 Vx9 HS9 hxB hqB VB VxB
  go_wp2_with fail
  refine (num_any 0 _).mono ?_
  rintro e wx ⟨rfl, hwx⟩
  obtain rfl := hwx.symm
  go_wp2_with fail
  refine (num_any 0 _).mono ?_
  rintro e wx ⟨rfl, hwx⟩
  obtain rfl := hwx.symm
  go_wp2_with fail
  refine SM.mono ?_
  rintro e WC ⟨rfl, hbC⟩
  have yC := below_at hbC (heap_new WA (.cells #[.int .i64 8, .int .i64 0, .int .i64 0, .int .i64 0, .string { data := #[97, 98] }, .slice fa1 0 fc1, .slice fl1 0 fm1] 26))
  obtain ⟨⟨q0, q1, q2, q3, q4, q5, q6⟩, _⟩ := blk7 yC
  have hbwC := hbwB.trans (hbC.mono hbwB.size)
  go_wp2_with fail
  refine (num_any 8 _).mono ?_
  rintro e wx ⟨rfl, hwx⟩
  obtain rfl := hwx.symm
  go_wp2_with fail
  refine (num_any 6 _).mono ?_
  rintro e wx ⟨rfl, hwx⟩
  obtain rfl := hwx.symm
  go_wp2_with fail
  go_ret
  exact ⟨rfl, hbwC⟩
end Go.Proofs.Ytikoddlidhefpaa
