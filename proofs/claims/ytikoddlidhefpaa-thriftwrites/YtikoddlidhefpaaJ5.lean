/-
  A structure's two rows while it is taken; the way of a field.
-/
import Derived.Test.YtikoddlidhefpaaJ4
import Derived.Shelf.Abstract
import Derived.BigRegion
import Derived.Defers
import Derived.Recover
namespace Go.Proofs.Ytikoddlidhefpaa
set_option linter.unusedVariables false
set_option linter.unusedSimpArgs false
open Go.ChangeShapes Go.WideShapes Go.ChangeAt Go.RowKit Go.Deep

theorem row_own {B : Nat} {w : World} {e : TypeId} {s : Nat} {v : Value} {n : Nat} {xs : List Value} (h : w.ownsRow B e s v n xs) : ∀ g, v.ownBlock = some g → B ≤ g ∧ g < w.heap.size := by
  intro g hg
  rcases h.2 with ⟨rfl, _⟩ | ⟨g', cap, cur, rfl, e2, e3, _⟩
  · cases hg
  · cases hg
    exact ⟨e2, (Array.getElem?_eq_some_iff.1 e3).1⟩
theorem row_kept {B : Nat} {w w' : World} {e : TypeId} {s : Nat} {v : Value} {n : Nat} {xs : List Value} (h : w.ownsRow B e s v n xs) (hk : ∀ g, v.ownBlock = some g → w'.heap[g]? = w.heap[g]?) : w'.ownsRow B e s v n xs := by
  refine ⟨h.1, ?_⟩
  rcases h.2 with h3 | ⟨g, cap, cur, rfl, e2, e3, rest⟩
  · exact .inl h3
  · exact .inr ⟨g, cap, cur, rfl, e2, by rw [hk g rfl, e3], rest⟩
theorem row_zero {B : Nat} {w : World} {e : TypeId} {s : Nat} {v : Value} {n : Nat} {xs : List Value} (h : w.ownsRow B e s v n xs) : w.ownsRow 0 e s v n xs := by
  refine ⟨h.1, ?_⟩
  rcases h.2 with h3 | ⟨g, cap, cur, e1, e2, rest⟩
  · exact .inl h3
  · exact .inr ⟨g, cap, cur, e1, Nat.zero_le _, rest⟩

/-- a structure's rows, of its numbers and of its values: none lies in a block of another -/
structure StX (B : Nat) (w : World) (ids : List Int) (iv : Value) (f : Fo) (lv : Value) : Prop where
  idn : w.ownsRow B 3 1 iv ids.length (c64 ids)
  row : ∃ ys, w.ownsRow B 26 7 lv (flen f) ys ∧ ElemsX (fun b => (B ≤ b ∧ lv.ownBlock ≠ some b ∧ iv.ownBlock ≠ some b) ∧ b < w.heap.size) w f ys
  ne : ∀ g, iv.ownBlock = some g → lv.ownBlock ≠ some g
theorem StX.nil (B : Nat) (w : World) : StX B w [] (.slice none 0 0) .nil (.slice none 0 0) := ⟨World.ownsRow_nil _ _ _ _, ⟨[], World.ownsRow_nil _ _ _ _, rfl⟩, fun g h => by cases h⟩
theorem StX.kept {B : Nat} {w w' : World} {ids : List Int} {iv lv : Value} {f : Fo} (h : StX B w ids iv f lv) (hs : w.heap.size ≤ w'.heap.size) (hk : ∀ k, k < w.heap.size → B ≤ k → w'.heap[k]? = w.heap[k]?) : StX B w' ids iv f lv := by
  obtain ⟨ys, h1, h2⟩ := h.row
  exact ⟨row_kept h.idn fun g hg => hk g (row_own h.idn g hg).2 (row_own h.idn g hg).1, ⟨ys, row_kept h1 fun g hg => hk g (row_own h1 g hg).2 (row_own h1 g hg).1, (h2.kept fun k e1 e2 => hk k e1 e2.1.1).mono fun b hb => ⟨hb.1, Nat.lt_of_lt_of_le hb.2 hs⟩⟩, h.ne⟩
theorem StX.rf {B R : Nat} {w w' : World} {ids : List Int} {iv lv : Value} {f : Fo} (h : StX B w ids iv f lv) (hR : R < B) (hf : RF R w w') : StX B w' ids iv f lv := h.kept hf.size fun k h1 h2 => hf.block k h1 (by omega)
theorem StX.only {B b : Nat} {w w' : World} {ids : List Int} {iv lv : Value} {f : Fo} (h : StX B w ids iv f lv) (hb : b < B) (ho : Only b w w') : StX B w' ids iv f lv := h.kept (Nat.le_of_eq ho.size) fun k h1 h2 => ho.block k (by omega)

/-- one number more -/
theorem StX.addId {B : Nat} {w w1 : World} {ids : List Int} {iv lv : Value} {f : Fo} {i : Int} (h : StX B w ids iv f lv) (hb : Below w.heap.size w w1) (hB : B ≤ w.heap.size) :
    ∀ v' w2, w2.ownsRow B 3 1 v' (ids.length + 1) (c64 ids ++ [.int .i64 i]) → w1.grownBy w2 iv.ownBlock → (v'.ownBlock = iv.ownBlock ∨ w2.ownsRow w1.heap.size 3 1 v' (ids.length + 1) (c64 ids ++ [.int .i64 i])) →
      StX B w2 (ids ++ [i]) v' f lv ∧ Below B w w2 ∧ ∀ k, k < w.heap.size → iv.ownBlock ≠ some k → w2.heap[k]? = w.heap[k]? := by
  intro v' w2 g1 hg g2
  obtain ⟨ys, h1, h2⟩ := h.row
  have hs : w.heap.size ≤ w2.heap.size := Nat.le_trans hb.size hg.size
  have hk : ∀ k, k < w.heap.size → iv.ownBlock ≠ some k → w2.heap[k]? = w.heap[k]? := fun k e1 e2 => by rw [hg.block k (Nat.lt_of_lt_of_le e1 hb.size) (fun e => e2 e.symm), hb.block k e1]
  have hnew : ∀ b, b < w.heap.size → iv.ownBlock ≠ some b → v'.ownBlock ≠ some b := by
    intro b hb1 hne e
    rcases g2 with g2 | g2
    · exact hne (g2 ▸ e)
    · have := (row_own g2 b e).1
      have := hb.size
      omega
  refine ⟨⟨?_, ⟨ys, row_kept h1 fun g hg => hk g (row_own h1 g hg).2 fun e => h.ne g e hg, (h2.kept fun k e1 e2 => hk k e1 e2.1.2.2).mono fun b hb' => ⟨⟨hb'.1.1, hb'.1.2.1, hnew b hb'.2 hb'.1.2.2⟩, Nat.lt_of_lt_of_le hb'.2 hs⟩⟩, fun g e1 e2 => ?_⟩, ?_, hk⟩
  · have e : c64 (ids ++ [i]) = c64 ids ++ [.int .i64 i] := by simp [c64]
    rw [e, List.length_append]
    exact g1
  · have hgl := (row_own h1 g e2).2
    refine hnew g hgl (fun e => h.ne g e e2) e1
  · refine ⟨hg.os.trans hb.os, hg.tape.trans hb.tape, hg.output.trans hb.output, hs, fun k hk' => ?_⟩
    exact hk k (by omega) fun e => by have := (row_own h.idn k e).1; omega
/-- one value more: its rows lie from N on -/
theorem StX.addVal {B N : Nat} {w1 w2 : World} {ids : List Int} {iv lv : Value} {f : Fo} {p : Pay} {c : Fo} {jv kv : Value} {ys : List Value} (h : StX B w1 ids iv f lv) (h1 : w1.ownsRow B 26 7 lv (flen f) ys) (h2 : ElemsX (fun b => (B ≤ b ∧ lv.ownBlock ≠ some b ∧ iv.ownBlock ≠ some b) ∧ b < w1.heap.size) w1 f ys)
    (hNi : ∀ g, iv.ownBlock = some g → g < N) (hNl : ∀ g, lv.ownBlock = some g → g < N) (hBN : B ≤ N)
    (hx : VX (fun b => N ≤ b) w1 p c (.agg #[.int .i64 p.kind, .int .i64 p.key, .int .i64 p.elem, .int .i64 p.num, .string p.text, jv, kv])) (hb : Below w1.heap.size w1 w2) (hBs : B ≤ w1.heap.size) :
    ∀ v' w3, w3.ownsRow B 26 7 v' (flen f + 1) (ys ++ [.int .i64 p.kind, .int .i64 p.key, .int .i64 p.elem, .int .i64 p.num, .string p.text, jv, kv]) → w2.grownBy w3 lv.ownBlock →
      (v'.ownBlock = lv.ownBlock ∨ w3.ownsRow w2.heap.size 26 7 v' (flen f + 1) (ys ++ [.int .i64 p.kind, .int .i64 p.key, .int .i64 p.elem, .int .i64 p.num, .string p.text, jv, kv])) → StX B w3 ids iv (fsnoc f p c) v' ∧ Below B w1 w3 := by
  intro v' w3 g1 hg g2
  have hs13 : w1.heap.size ≤ w3.heap.size := Nat.le_trans hb.size hg.size
  have hnew : ∀ b, b < w1.heap.size → lv.ownBlock ≠ some b → v'.ownBlock ≠ some b := by
    intro b hb1 hne e
    rcases g2 with g2 | g2
    · exact hne (g2 ▸ e)
    · have := (row_own g2 b e).1
      have := hb.size
      omega
  have hk : ∀ k, k < w1.heap.size → lv.ownBlock ≠ some k → w3.heap[k]? = w1.heap[k]? := fun k e1 e2 => by rw [hg.block k (Nat.lt_of_lt_of_le e1 hb.size) (fun e => e2 e.symm), hb.block k e1]
  refine ⟨⟨row_kept h.idn fun g hg' => hk g (row_own h.idn g hg').2 (h.ne g hg'), ⟨_, by rw [flen_snoc]; exact g1, ?_⟩, fun g e1 => hnew g (row_own h.idn g e1).2 (h.ne g e1)⟩, ?_⟩
  · have k2 : ElemsX (fun b => (B ≤ b ∧ v'.ownBlock ≠ some b ∧ iv.ownBlock ≠ some b) ∧ b < w3.heap.size) w3 f ys :=
      (h2.kept fun k e1 e2 => hk k e1 e2.1.2.1).mono fun b hb' => ⟨⟨hb'.1.1, hnew b hb'.2 hb'.1.2.1, hb'.1.2.2⟩, Nat.lt_of_lt_of_le hb'.2 hs13⟩
    obtain ⟨iv', lv', e, hp, hc, hi, zs, hy, hel⟩ := hx
    cases e
    have hm : ∀ b, N ≤ b ∧ b < w1.heap.size → (B ≤ b ∧ v'.ownBlock ≠ some b ∧ iv.ownBlock ≠ some b) ∧ b < w3.heap.size := fun b hb' =>
      ⟨⟨by omega, hnew b hb'.2 fun e => (by have := hNl b e; omega), fun e => (by have := hNi b e; omega)⟩, Nat.lt_of_lt_of_le hb'.2 hs13⟩
    have hk' : ∀ k, k < w1.heap.size → (N ≤ k ∧ k < w1.heap.size) → w3.heap[k]? = w1.heap[k]? := fun k e1 e2 => hk k e1 fun e => by have := hNl k e; omega
    exact ElemsX.snoc hp hc ((hi.live.kept hk').mono hm) ((hy.live.kept hk').mono hm) ((hel.live.kept hk').mono hm) k2
  · refine ⟨hg.os.trans hb.os, hg.tape.trans hb.tape, hg.output.trans hb.output, hs13, fun k hk' => ?_⟩
    exact hk k (by omega) fun e => by have := (row_own h1 k e).1; omega
theorem StX.vx {B : Nat} {S : Nat → Prop} {w : World} {ids : List Int} {iv lv : Value} {f : Fo} {p : Pay} (h : StX B w ids iv f lv) (hp : PayOk p) (hi : p.ids = ids) (hl : flen f ≤ 140737488355328) (hS : ∀ b, B ≤ b → S b) :
    VX S w p f (.agg #[.int .i64 p.kind, .int .i64 p.key, .int .i64 p.elem, .int .i64 p.num, .string p.text, iv, lv]) := by
  obtain ⟨ys, h1, h2⟩ := h.row
  refine ⟨_, _, rfl, hp, hl, ⟨?_, fun g hg => hS g (row_own h.idn g hg).1⟩, ys, ⟨row_zero h1, fun g hg => hS g (row_own h1 g hg).1⟩, h2.mono fun b hb => hS b hb.1.1⟩
  rw [hi]
  exact row_zero h.idn

/-- the way of a field -/
def fldP (P : Int → List Nat → RV) (k : Nat) : List Nat → RV := if k = 1 ∨ k = 2 then fun bs => .ok ((scal 1 (if k = 1 then 1 else 0), .nil), bs) else P k
theorem structF_field {room : Int} {P : Int → List Nat → RV} {n : Nat} {ids : List Int} {f : Fo} {id : Nat} {b : Nat} {r : List Nat} (h0 : ¬ (b / 16 = 0 ∧ b % 16 = 0)) (hw : (b % 16 = 1 ∨ b % 16 = 2) ∨ wayOk (b % 16 : Nat) room = true) :
    rStructF room P (n + 1) ids f id (b :: r) = bnd (rID id (b / 16)) (fun i => bnd (fldP P (b % 16)) fun pc => rStructF room P n (ids ++ [(i : Int)]) (fsnoc f pc.1 pc.2) i) r := by
  rw [rStructF_succ, bnd_ok (show rHalves (b :: r) = .ok ((b / 16, b % 16), r) from rfl)]
  dsimp only
  rw [if_neg h0, if_neg (fun h => by rcases hw with hw | hw; exact h.1 hw; rw [h.2] at hw; cases hw)]
  congr 1
  funext i bs
  unfold fldP
  by_cases h3 : b % 16 = 1 ∨ b % 16 = 2
  · simp only [if_pos h3, bnd]
  · simp only [if_neg h3]
theorem enter_fw (args : Array Value) (W : World) : (callFunc 103 args).run Try.prog W = .ok (.enter 103 args) W := by
  exact enters_of Try.func103 (by kernel_rfl) rfl args W
/-- the look-up in the map, by what its ways were at first -/
theorem ways_look2 {w wb : World} {R M : Nat} (h : Ways wb R M) (hm : w.heap[M]? = wb.heap[M]?) (k : Int) (hk : knownB k = true) : ∃ fn fa fb, (Instr.lookup 70 (.map (some M)) (.int .i64 k) true).run Try.prog w = .ok (.tuple #[.func fn fa fb, .bool true]) w ∧ WayIs wb R k (.func fn fa fb) := by
  obtain ⟨v4, v5, v6, v9, v11, v12, h0, h4, h5, h6, h9, h11, h12⟩ := h.is
  rw [← hm] at h0
  obtain ⟨f4, a4, b4, rfl⟩ := h4.func
  obtain ⟨f5, a5, b5, rfl⟩ := h5.func
  obtain ⟨f6, a6, b6, rfl⟩ := h6.func
  obtain ⟨f9, a9, b9, rfl⟩ := h9.func
  obtain ⟨f11, a11, b11, rfl⟩ := h11.func
  obtain ⟨f12, a12, b12, rfl⟩ := h12.func
  rw [known_true] at hk
  have hkk : k = 1 ∨ k = 3 ∨ k = 4 ∨ k = 5 ∨ k = 6 ∨ k = 7 ∨ k = 8 ∨ k = 9 ∨ k = 11 ∨ k = 12 := by omega
  rcases hkk with rfl | rfl | rfl | rfl | rfl | rfl | rfl | rfl | rfl | rfl
  · exact ⟨_, _, _, run_look h0 1 (i := 0) rfl, .inl ⟨rfl, rfl⟩⟩
  · exact ⟨_, _, _, run_look h0 3 (i := 1) rfl, .inr (.inl ⟨rfl, rfl⟩)⟩
  · exact ⟨_, _, _, run_look h0 4 (i := 2) rfl, .inr (.inr (.inl ⟨rfl, h4⟩))⟩
  · exact ⟨_, _, _, run_look h0 5 (i := 3) rfl, .inr (.inr (.inr (.inl ⟨rfl, h5⟩)))⟩
  · exact ⟨_, _, _, run_look h0 6 (i := 4) rfl, .inr (.inr (.inr (.inr (.inl ⟨rfl, h6⟩))))⟩
  · exact ⟨_, _, _, run_look h0 7 (i := 5) rfl, .inr (.inr (.inr (.inr (.inr (.inl ⟨rfl, rfl⟩)))))⟩
  · exact ⟨_, _, _, run_look h0 8 (i := 6) rfl, .inr (.inr (.inr (.inr (.inr (.inr (.inl ⟨rfl, rfl⟩))))))⟩
  · exact ⟨_, _, _, run_look h0 9 (i := 7) rfl, .inr (.inr (.inr (.inr (.inr (.inr (.inr (.inl ⟨rfl, h9⟩)))))))⟩
  · exact ⟨_, _, _, run_look h0 11 (i := 8) rfl, .inr (.inr (.inr (.inr (.inr (.inr (.inr (.inr (.inl ⟨rfl, h11⟩))))))))⟩
  · exact ⟨_, _, _, run_look h0 12 (i := 9) rfl, .inr (.inr (.inr (.inr (.inr (.inr (.inr (.inr (.inr ⟨rfl, h12⟩))))))))⟩
theorem Ways.lt {w : World} {R M : Nat} (h : Ways w R M) : M < w.heap.size := by
  obtain ⟨v4, v5, v6, v9, v11, v12, h0, _⟩ := h.is
  exact (Array.getElem?_eq_some_iff.1 h0).1
theorem way_ok2 (w0 wb w : World) (R m : Nat) (bs : List Nat) (room k : Int) (h : Rd w0 w R m bs room) (hw : Ways wb R m) (hf : RF R wb w) (ho : wayOk k room = true) :
    Calls Try.prog 39 #[.pointer (some ⟨R, 0, none⟩), .int .i64 k] w fun e w' => (∃ fn fa fb, e = .returned (.func fn fa fb) ∧ WayIs wb R k (.func fn fa fb)) ∧ w' = w := by
  simp only [wayOk, Bool.and_eq_true, Bool.not_eq_true', Bool.and_eq_false_iff] at ho
  obtain ⟨fn, fa, fb, hl, hi⟩ := ways_look2 hw (hf.block m hw.lt (Nat.ne_of_gt hw.gt)) k ho.1
  refine (way_yes w0 w R m bs room k fn fa fb h hl (fun hn hr => ?_)).mono fun e w' ⟨h1, h2⟩ => ⟨⟨fn, fa, fb, h1, hi⟩, h2⟩
  rcases ho.2 with h1 | h1
  · rw [hn] at h1; cases h1
  · subst hr; simp at h1
set_option maxRecDepth 10000 in
set_option maxHeartbeats 1000000 in
theorem fieldWay_ok2 (w0 wb w : World) (R m : Nat) (bs : List Nat) (room k : Int) (h1 : ¬ k = 1) (h2 : ¬ k = 2) (h : Rd w0 w R m bs room) (hw : Ways wb R m) (hf : RF R wb w) (ho : wayOk k room = true) :
    Calls Try.prog 99 #[.pointer (some ⟨R, 0, none⟩), .int .i64 k] w fun e w' => (∃ fn fa fb, e = .returned (.func fn fa fb) ∧ WayIs wb R k (.func fn fa fb)) ∧ w' = w.alloc (.cells #[.int .i64 k] 3) := by
  have e12 : (k == 1 || k == 2) = false := by simp; omega
  have hab := alloc_below w (.cells #[.int .i64 k] 3)
  have K := way_ok2 w0 wb _ R m bs room k (h.later hab) hw (hf.trans (RF.of_below hab)) ho
  go_enter Try.func99, Try.ntmps99
  go_wp2_with fail
  refine K.mono ?_
  rintro e wx ⟨⟨fn, fa, fb, rfl, hi⟩, hwx⟩
  subst hwx
  go_wp2_with fail
  go_ret
  exact ⟨⟨fn, fa, fb, rfl, hi⟩, rfl⟩
theorem fieldWay_any (w0 wb w : World) (R m : Nat) (bs : List Nat) (room : Int) (P : Int → List Nat → RV) (k : Nat) (h : Rd w0 w R m bs room) (hw : Ways wb R m) (hf : RF R wb w)
    (HP : ∀ (k : Int) (v : Value) (W : World), wayOk k room = true → Ways W R m → WayIs W R k v → WayOf w0 W R m room v (P k)) (ho : (k = 1 ∨ k = 2) ∨ wayOk k room = true) :
    Calls Try.prog 99 #[.pointer (some ⟨R, 0, none⟩), .int .i64 k] w fun e w' => ∃ fn fa fb, e = .returned (.func (.func fn) fa fb) ∧ (∀ args W, (callFunc fn args).run Try.prog W = .ok (.enter fn args) W) ∧
      (∀ W bs, RF R wb W → W.heap[w.heap.size]? = some (.cells #[.int .i64 (k : Int)] 3 (0, 0)) → Rd w0 W R m bs room → TakesV fn (fa ++ fb) w0 W R m room (fldP P k bs)) ∧ w' = w.alloc (.cells #[.int .i64 k] 3) := by
  by_cases hk : k = 1 ∨ k = 2
  · refine (fieldWay_truth w0 w R m bs room k (by omega) h).mono ?_
    rintro e w' ⟨rfl, rfl⟩
    refine ⟨_, _, _, rfl, enter_fw, fun W bs hf hb hrd => ?_, rfl⟩
    have T := fieldWay1_any w0 W R m bs room w.heap.size k (by omega) hrd hb
    have e : fldP P k bs = .ok ((scal 1 (if (k : Int) = 1 then 1 else 0), .nil), bs) := by
      unfold fldP
      rw [if_pos hk]
      rcases hk with rfl | rfl <;> rfl
    rw [e]
    exact T
  · have ho' : wayOk k room = true := ho.resolve_left hk
    refine (fieldWay_ok2 w0 wb w R m bs room k (by omega) (by omega) h hw hf ho').mono ?_
    rintro e w' ⟨⟨fn, fa, fb, rfl, hi⟩, rfl⟩
    obtain ⟨f, fa', fb', e1, e2, e3⟩ := HP k _ _ ho' hw hi
    cases e1
    refine ⟨f, fa, fb, rfl, e2, fun W bs hf _ hrd => ?_, rfl⟩
    have e : fldP P k bs = P k bs := by unfold fldP; rw [if_neg hk]
    rw [e]
    exact e3 W bs hf hrd
theorem RF.belowB {R B : Nat} {w wr wr' : World} (h : RF R w wr) (hb : Below B wr wr') (hB : w.heap.size ≤ B) : RF R w wr' :=
  ⟨hb.os.trans h.os, hb.tape.trans h.tape, hb.output.trans h.output, Nat.le_trans h.size hb.size, fun k h1 h2 => by rw [hb.block k (by omega), h.block k h1 h2]⟩
theorem rFar_le {least : Nat} {bs r : List Nat} {i : Nat} (h : rFar least bs = .ok (i, r)) : least ≤ i ∧ i ≤ 32767 := by
  unfold rFar at h
  split at h
  · cases h
  · cases bs with
    | nil => cases h
    | cons c l =>
      dsimp only at h
      split at h
      · cases h
      · cases e : rNum (2 * least) 65534 (c :: l) with
        | error s => rw [e] at h; cases h
        | ok v =>
          obtain ⟨n, q⟩ := v
          rw [e] at h
          cases h
          have := rNum_le e
          have := rNum_ge e
          omega
theorem rID_le {id step : Nat} {bs r : List Nat} {i : Nat} (h : rID id step bs = .ok (i, r)) : id < i ∧ i ≤ 32767 := by
  unfold rID at h
  split at h
  · have := rFar_le h; omega
  · split at h
    · cases h
    · cases h; omega
/-- an append comes up in a region that draws -/
theorem ready_append {P : Program} {ops : Array Oper} {o : Oper} {a : Act} {w W : World} {K : Act → World → Prop} {Q : Exit → Act → World → Prop} (hg : o.guard = none) (s x : Operand) (t : TypeId)
    (hop : o.op = .call { callee := .builtin .append, args := #[s, x], argTypes := #[t, t] }) (u v r : Value) (hs : a.eval s = u) (hx : a.eval x = v) (hrun : (Builtin.append_ #[t, t] o.type #[u, v]).run P w = .ok r W) (hK : K (a.put o.dst r) W) :
    if Region.wanted o (yielded ops a.tmps) = true then Oper.wp P o a w K Q else K (a.put o.dst undef) w := by
  rw [if_pos (by simp [Region.wanted, hg])]
  unfold Oper.wp
  simp [execOp, hop, resolve, invoke, builtin, hs, hx, hrun, Result.andThen]
  exact hK
theorem struct_pay (ids : List Int) (h : ids.length ≤ 140737488355328) (hn : ∀ n ∈ ids, i64ok n) : PayOk ⟨12, 0, 0, 0, noText, ids⟩ := by
  have z0 : i64ok 0 := ⟨by omega, by omega⟩
  have z9 : i64ok 12 := ⟨by omega, by omega⟩
  exact ⟨z9, z0, z0, z0, Nat.zero_le _, h, hn⟩
theorem infoInt' : ∃ i, Try.prog.info? 3 = some i ∧ i.zero = some (.int .i64 0) ∧ i.size = 1 ∧ i.bytes ≤ 8 := by
  have hq : (Try.prog.info? 3).map (fun i => (i.zero, i.size, decide (i.bytes ≤ 8))) = some (some (.int .i64 0), 1, true) := by kernel_rfl
  cases h : Try.prog.info? 3 with
  | none => rw [h] at hq; cases hq
  | some i =>
    rw [h] at hq
    simp only [Option.map_some, Option.some.injEq, Prod.mk.injEq, decide_eq_true_eq] at hq
    exact ⟨i, rfl, hq.1, hq.2.1, hq.2.2⟩
theorem struct_boxes (w : World) : Below w.heap.size w ((zbox w).alloc (.cells #[.int .i64 12, .int .i64 0, .int .i64 0, .int .i64 0, .string { data := #[] }, .slice none 0 0, .slice none 0 0] 26)) ∧ ((zbox w).alloc (.cells #[.int .i64 12, .int .i64 0, .int .i64 0, .int .i64 0, .string { data := #[] }, .slice none 0 0, .slice none 0 0] 26)).heap[w.heap.size]? = some (.cells #[.int .i64 0, .int .i64 0, .int .i64 0, .int .i64 0, .string { data := #[] }, .slice none 0 0, .slice none 0 0] 26 (0, 0)) ∧
    ((zbox w).alloc (.cells #[.int .i64 12, .int .i64 0, .int .i64 0, .int .i64 0, .string { data := #[] }, .slice none 0 0, .slice none 0 0] 26)).heap[w.heap.size + 1]? = some (.cells #[.int .i64 12, .int .i64 0, .int .i64 0, .int .i64 0, .string { data := #[] }, .slice none 0 0, .slice none 0 0] 26 (0, 0)) ∧ ((zbox w).alloc (.cells #[.int .i64 12, .int .i64 0, .int .i64 0, .int .i64 0, .string { data := #[] }, .slice none 0 0, .slice none 0 0] 26)).heap.size = w.heap.size + 2 := by
  have hs : (zbox w).heap.size = w.heap.size + 1 := by simp [zbox]
  have h1 := alloc_below (zbox w) (.cells #[.int .i64 12, .int .i64 0, .int .i64 0, .int .i64 0, .string { data := #[] }, .slice none 0 0, .slice none 0 0] 26)
  rw [hs] at h1
  refine ⟨Below.trans (alloc_below w _) (h1.mono (Nat.le_succ _)), ?_, ?_, by simp [zbox]⟩
  · rw [h1.block _ (Nat.lt_succ_self _)]
    exact heap_new w _
  · have := heap_new (zbox w) (.cells #[.int .i64 12, .int .i64 0, .int .i64 0, .int .i64 0, .string { data := #[] }, .slice none 0 0, .slice none 0 0] 26)
    rwa [hs] at this
end Go.Proofs.Ytikoddlidhefpaa

/-
  A structure.
-/
namespace Go.Proofs.Ytikoddlidhefpaa
set_option linter.unusedVariables false
set_option linter.unusedSimpArgs false
open Go.ChangeShapes Go.WideShapes Go.ChangeAt Go.RowKit Go.Deep

/-- what stands in memory while a structure is taken: the answer's box at A, the structure's at A + 1, its rows behind -/
structure StIn (w0 w wr : World) (R m : Nat) (room : Int) (ids : List Int) (f : Fo) (r : List Nat) (iv lv : Value) : Prop where
  rf : RF R w wr
  z : wr.heap[w.heap.size]? = some (.cells #[.int .i64 0, .int .i64 0, .int .i64 0, .int .i64 0, .string { data := #[] }, .slice none 0 0, .slice none 0 0] 26 (0, 0))
  v : wr.heap[w.heap.size + 1]? = some (.cells #[.int .i64 12, .int .i64 0, .int .i64 0, .int .i64 0, .string { data := #[] }, iv, lv] 26 (0, 0))
  st : StX (w.heap.size + 2) wr ids iv f lv
  rd : Rd w0 wr R m r room
  sz : w.heap.size + 2 ≤ wr.heap.size
theorem StIn.step {w0 w wr wr' : World} {R m : Nat} {room : Int} {ids : List Int} {f : Fo} {r r' : List Nat} {iv lv : Value} (h : StIn w0 w wr R m room ids f r iv lv) (hR : R < w.heap.size) (hf : RF R wr wr') (hd : Rd w0 wr' R m r' room) : StIn w0 w wr' R m room ids f r' iv lv :=
  ⟨h.rf.trans hf, hf.box h.z (by omega), hf.box h.v (by omega), h.st.rf (by omega) hf, hd, Nat.le_trans h.sz hf.size⟩

/-- one value more in the structure -/
theorem st_grow {w0 w W7 : World} {R m N : Nat} {room : Int} {ids : List Int} {f : Fo} {rest : List Nat} {iv : Value} {la : Option Addr} {lc : Nat} {p : Pay} {c : Fo} {ja : Option Addr} {jc : Nat} {ka : Option Addr} {kc : Nat} (h : StIn w0 w W7 R m room ids f rest iv (.slice la (flen f) lc)) (hR : R < w.heap.size)
    (hNi : ∀ g, iv.ownBlock = some g → g < N) (hNl : ∀ g, (Value.slice la (flen f) lc).ownBlock = some g → g < N) (hBN : w.heap.size + 2 ≤ N) (hx : VX (fun b => N ≤ b) W7 p c (val p c ja jc ka kc)) (hfl : flen f + 1 ≤ 140000) :
    ∃ la9 lc9 W9, (Builtin.append_ #[24, 24] 24 #[.slice la (flen f) lc, .slice (some ⟨W7.heap.size, 0, none⟩) 1 1]).run Try.prog (bx W7 p c ja jc ka kc) = .ok (.slice la9 (flen f + 1) lc9) W9 ∧ W9.cell? ⟨w.heap.size + 1, 6, none⟩ = some (.slice la (flen f) lc) ∧ W9.frozen? ⟨w.heap.size + 1, 6, none⟩ = false ∧
      StIn w0 w (W9.setCell ⟨w.heap.size + 1, 6, none⟩ (.slice la9 (flen f + 1) lc9)) R m room ids (fsnoc f p c) rest iv (.slice la9 (flen f + 1) lc9) := by
  obtain ⟨i0, hi0, hz0, hz1, hz2⟩ := infoTh'
  obtain ⟨ys, y1, y2⟩ := h.st.row
  have hsz := h.sz
  obtain ⟨v9, W9, hrun, o1, o2, o3⟩ := run_append_fresh (P := Try.prog) (bx W7 p c ja jc ka kc) (w.heap.size + 2) 24 24 26 i0 _ 7 i0.bytes Try.underlying24 hi0 hz0 hz1 rfl rfl (by decide) (.slice la (flen f) lc) (flen f) ys (y1.alloc _) ⟨W7.heap.size, 0, none⟩ 1 1 [.int .i64 p.kind, .int .i64 p.key, .int .i64 p.elem, .int .i64 p.num, .string p.text, .slice ja p.ids.length jc, .slice ka (flen c) kc] rfl
    (fun j u hj => by rw [add0]; exact alloc_cell W7 _ 26 (0, 0) (by simpa using hj)) (by intro u hu; simp at hu; rcases hu with rfl | rfl | rfl | rfl | rfl | rfl | rfl <;> rfl) (by unfold maxLen; omega) (Nat.le_trans (Nat.mul_le_mul hfl hz2) (by omega)) (by simp; omega)
  obtain ⟨g1, g2⟩ := h.st.addVal y1 y2 hNi hNl hBN hx (alloc_below W7 _) hsz v9 W9 o1 o2 o3
  obtain ⟨la9, lc9, rfl⟩ := own_sl o1
  have hv : W9.heap[w.heap.size + 1]? = some (.cells #[.int .i64 12, .int .i64 0, .int .i64 0, .int .i64 0, .string { data := #[] }, iv, .slice la (flen f) lc] 26 (0, 0)) := by rw [g2.block _ (by omega)]; exact h.v
  have O5 : Only (w.heap.size + 1) W9 (W9.setCell ⟨w.heap.size + 1, 6, none⟩ (.slice la9 (flen f + 1) lc9)) := (Only.refl _ _).set _ _
  have hV5 := set_block (j := 6) (u := .slice la9 (flen f + 1) lc9) hv
  simp only [List.setIfInBounds_toArray, List.set_cons_zero, List.set_cons_succ] at hV5
  refine ⟨la9, lc9, W9, hrun, cell_of_block hv rfl, frozen_of_block hv, ?_⟩
  exact ⟨(h.rf.belowB g2 (by omega)).only O5 (by omega), by rw [O5.block _ (by omega), g2.block _ (by omega)]; exact h.z, hV5, g1.only (by omega) O5, (h.rd.below (by omega) g2).only O5 (by omega), by rw [← O5.size]; exact Nat.le_trans hsz g2.size⟩

set_option maxRecDepth 10000 in
set_option maxHeartbeats 4000000 in
theorem structure_any (w0 w : World) (R m : Nat) (bs : List Nat) (room : Int) (P : Int → List Nat → RV) (h : Rd w0 w R m bs room) (hw : Ways w R m) (hG : ∀ k, Good (P k))
    (HP : ∀ (k : Int) (v : Value) (W : World), wayOk k room = true → Ways W R m → WayIs W R k v → WayOf w0 W R m room v (P k)) : TakesV 85 #[.pointer (some ⟨R, 0, none⟩)] w0 w R m room (rStruct room P bs) := by
  intro Q QOK QNO
  obtain ⟨i0, hi0, hz0, hz1, hz2⟩ := infoTh'
  obtain ⟨j0, hj0, jz0, jz1, jz2⟩ := infoInt'
  obtain ⟨hab, hbz, hbv, hbs⟩ := struct_boxes w
  have hR := h.lt
  have HST : Hid (StIn w0 w ((zbox w).alloc (.cells #[.int .i64 12, .int .i64 0, .int .i64 0, .int .i64 0, .string { data := #[] }, .slice none 0 0, .slice none 0 0] 26)) R m room [] .nil bs (.slice none 0 0) (.slice none 0 0)) :=
    ⟨RF.of_below hab, hbz, hbv, StX.nil _ _, h.later hab, Nat.le_of_eq hbs.symm⟩
  obtain ⟨all, hall⟩ : ∃ a, a = rStruct room P bs := ⟨_, rfl⟩
  rw [← hall] at QOK QNO
  have HALL : Hid (rStructF room P (bs.length + 1) [] .nil 0 bs = all) := hall.symm
  have HG : Hid (∀ k, Good (P k)) := hG
  have HPP : Hid (∀ (k : Int) (v : Value) (W : World), wayOk k room = true → Ways W R m → WayIs W R k v → WayOf w0 W R m room v (P k)) := HP
  have HW : Hid (Ways w R m) := hw
  clear hall hG HP hw hab hbz hbv hbs h
  go_enter Try.func85, Try.ntmps85
  go_wp2_with fail
  go_loopw [4] (fun idv wr => ∃ (id n : Nat) (ids : List Int) (f : Fo) (r : List Nat) (iv lv : Value), idv = .int .i64 (id : Int) ∧ id ≤ 32767 ∧ Hid (StIn w0 w wr R m room ids f r iv lv ∧ r.length < n ∧ flen f = ids.length ∧ ids.length ≤ id ∧ (∀ x ∈ ids, i64ok x) ∧ rStructF room P n ids f id r = all)) (fun idv _ => 32767 - (intOf idv).toNat)
  case atStart => exact ⟨0, bs.length + 1, [], .nil, bs, _, _, rfl, Nat.zero_le _, HST.out, Nat.lt_succ_self _, rfl, Nat.zero_le _, (fun x hx => by cases hx), HALL.out⟩
  case round =>
    clear HST HALL
    obtain ⟨id, n, ids, f, r, iv, lv, rfl, hid, H⟩ := hrel
    have hid' : (id : Int) ≤ 32767 := by omega
    obtain ⟨ia, ic, rfl⟩ := own_sl (H.out.1.st.idn)
    obtain ⟨la, lc, rfl⟩ := own_sl (H.out.1.st.row.choose_spec).1
    have hrd := H.out.1.rd
    have hRr : R < wr.heap.size := hrd.lt
    have TH := takeHalves_any w0 wr R m r room hrd
    obtain ⟨n, rfl⟩ : ∃ k, n = k + 1 := ⟨n - 1, by have := H.out.2.1; omega⟩
    cases r with
    | nil =>
      have TH1 := TH.no (s := true) rfl
      have q := fun w' hf => QNO true w' (by rw [← H.out.2.2.2.2.2]; rfl) (H.out.1.rf.trans hf)
      clear TH H QOK QNO hrd
      go_wp2_with fail
      refine TH1.mono ?_
      rintro e wx ⟨rfl, hf⟩
      have q1 := q wx hf
      unfold gives at q1 ⊢
      go_wp2_with fail
      exact ⟨rfl, q1⟩
    | cons b r1 =>
      have TH1 := TH.ok (a := (b / 16, b % 16)) (rest := r1) rfl
      have hb256 : b < 256 := hrd.b8 b (List.mem_cons_self ..)
      obtain ⟨st, hst⟩ : ∃ n, n = b / 16 := ⟨_, rfl⟩
      obtain ⟨k, hk⟩ : ∃ k, k = b % 16 := ⟨_, rfl⟩
      have hst16 : st < 16 := by omega
      have hk16 : k < 16 := by omega
      dsimp only at TH1
      rw [← hst, ← hk] at TH1
      by_cases h0 : st = 0 ∧ k = 0
      · obtain ⟨rfl, rfl⟩ := h0
        have he : all = .ok ((⟨12, 0, 0, 0, { data := #[] }, ids⟩, f), r1) := by
          rw [← H.out.2.2.2.2.2, rStructF_succ, bnd_ok (show rHalves (b :: r1) = .ok ((b / 16, b % 16), r1) from rfl), ← hst, ← hk]
          rfl
        clear TH hst hk QNO
        go_wp2_with fail
        refine TH1.mono ?_
        rintro e W1 ⟨rfl, hrd1, hf1⟩
        have S1 := H.out.1.step hR hf1 hrd1
        have hp := struct_pay ids (by have := H.out.2.2.2.1; omega) H.out.2.2.2.2.1
        have hfl : flen f ≤ 140737488355328 := by have := H.out.2.2.2.1; have := H.out.2.2.1; omega
        obtain ⟨⟨b0, b1, b2, b3, b4, b5, b6⟩, c0, c1, c2, c3, c4, c5, c6⟩ := blk7 S1.v
        obtain ⟨⟨z0, z1, z2, z3, z4, z5, z6⟩, g0, g1, g2, g3, g4, g5, g6⟩ := blk7 S1.z
        have HX : Hid (VX (fun b => w.heap.size < b) W1 ⟨12, 0, 0, 0, noText, ids⟩ f (.agg #[.int .i64 12, .int .i64 0, .int .i64 0, .int .i64 0, .string noText, .slice ia ids.length ic, .slice la (flen f) lc])) := S1.st.vx hp rfl hfl fun b hb => by omega
        have hz := S1.z
        have hrf := S1.rf
        clear S1 H hp hrd
        go_wp2_with fail
        refine finish (p := ⟨12, 0, 0, 0, { data := #[] }, ids⟩) (c := f) (rest := r1) (W := W1) (iv := .slice ia ids.length ic) (lv := .slice la (flen f) lc) rfl QOK rfl hz hR he hrf hrd1 ?_
        exact HX.out
      have hne0 : ¬ (st = 0 ∧ k = 0) := h0
      by_cases hwy : (k = 1 ∨ k = 2) ∨ wayOk k room = true
      · have HF : Hid (all = bnd (rID id st) (fun i => bnd (fldP P k) fun pc => rStructF room P n (ids ++ [(i : Int)]) (fsnoc f pc.1 pc.2) i) r1) := by
          show _ = _
          rw [hst, hk] at h0
          rw [← H.out.2.2.2.2.2, structF_field h0 (by rw [← hk]; exact hwy), hst, hk]
        clear hst hk TH
        rcases Nat.eq_zero_or_pos st with hs0 | hs0
        · subst hs0
          have hk0 : ¬ (k : Int) = 0 := by omega
          go_wp2_with fail
          refine TH1.mono ?_
          rintro e W1 ⟨rfl, hrd1, hf1⟩
          have S1 := H.out.1.step hR hf1 hrd1
          have FW := fieldWay_any w0 w W1 R m r1 room P k hrd1 HW.out S1.rf HPP.out hwy
          have hb2 := alloc_below W1 (.cells #[.int .i64 (k : Int)] 3)
          have S2 := S1.step hR (RF.of_below hb2) (hrd1.later hb2)
          have FI := fieldID_any w0 _ R m r1 room id 0 hid (by omega) S2.rd
          generalize hW2 : W1.alloc (.cells #[.int .i64 (k : Int)] 3) = W2 at *
          cases hidr : rID id 0 r1 with
          | error s =>
            have FI1 := FI.no hidr
            have q := fun w' hf => QNO s w' (by rw [HF.out, bnd_err hidr]) (S2.rf.trans hf)
            clear S1 S2 H hrd HG HW HPP HF FI hidr hW2 hb2
            go_wp2_with fail
            refine FW.mono ?_
            rintro e wx ⟨fn, fa, fb, rfl, eg, G, hwx⟩
            obtain rfl := hwx.symm
            clear G
            go_wp2_with fail
            refine FI1.mono ?_
            rintro e W3 ⟨rfl, hf3⟩
            have q1 := q W3 hf3
            obtain ⟨ch, hch⟩ : ∃ ch, gives s = .panicked ch := ⟨_, rfl⟩
            rw [hch] at q1 ⊢
            clear hch
            go_wp2_with fail
            exact ⟨rfl, q1⟩
          | ok v =>
            obtain ⟨i, r3⟩ := v
            have FI1 := FI.ok hidr
            have hile := rID_le hidr
            have hi' : (i : Int) ≤ 32767 := by omega
            have HF2 : Hid (all = bnd (fldP P k) (fun pc => rStructF room P n (ids ++ [(i : Int)]) (fsnoc f pc.1 pc.2) i) r3) := by show _ = _; rw [HF.out, bnd_ok hidr]
            have HL3 : Hid (r3.length ≤ r1.length) := good_len (good_id _ _) hidr
            have HS2 : Hid (StIn w0 w W2 R m room ids f r1 (.slice ia ids.length ic) (.slice la (flen f) lc)) := S2
            have HK2 : Hid (W2.heap[W1.heap.size]? = some (.cells #[.int .i64 (k : Int)] 3 (0, 0)) ∧ (∀ g, (Value.slice ia ids.length ic).ownBlock = some g → g < W1.heap.size) ∧ w.heap.size + 2 ≤ W1.heap.size) := ⟨by rw [← hW2]; exact heap_new W1 _, fun g hg => (row_own S1.st.idn g hg).2, S1.sz⟩
            clear S1 S2 hrd HW HPP HF FI hidr hW2 hb2
            go_wp2_with fail
            refine FW.mono ?_
            rintro e wx ⟨fn, fa, fb, rfl, eg, G, hwx⟩
            obtain rfl := hwx.symm
            go_wp2_with fail
            refine FI1.mono ?_
            rintro e W3 ⟨rfl, hrd3, hf3⟩
            have HS3 : Hid (StIn w0 w W3 R m room ids f r3 (.slice ia ids.length ic) (.slice la (flen f) lc)) := HS2.out.step hR hf3 hrd3
            have HK3 : Hid (W3.heap[W1.heap.size]? = some (.cells #[.int .i64 (k : Int)] 3 (0, 0))) := hf3.box HK2.out.1 (by have := HK2.out.2.2; omega)
            obtain ⟨⟨b0, b1, b2, b3, b4, b5, b6⟩, c0, c1, c2, c3, c4, c5, c6⟩ := blk7 HS3.out.v
            have HADD : Hid (∀ v' w2, w2.ownsRow (w.heap.size + 2) 3 1 v' (ids.length + 1) (c64 ids ++ [.int .i64 (i : Int)]) → (W3.alloc (.cells #[.int .i64 (i : Int)] 3)).grownBy w2 (Value.slice ia ids.length ic).ownBlock → (v'.ownBlock = (Value.slice ia ids.length ic).ownBlock ∨ w2.ownsRow (W3.alloc (.cells #[.int .i64 (i : Int)] 3)).heap.size 3 1 v' (ids.length + 1) (c64 ids ++ [.int .i64 (i : Int)])) →
                StX (w.heap.size + 2) w2 (ids ++ [(i : Int)]) v' f (.slice la (flen f) lc) ∧ Below (w.heap.size + 2) W3 w2 ∧ ∀ k, k < W3.heap.size → (Value.slice ia ids.length ic).ownBlock ≠ some k → w2.heap[k]? = W3.heap[k]?) := HS3.out.st.addId (alloc_below _ _) HS3.out.sz
            have HOWN : Hid (W3.ownsRow (w.heap.size + 2) 3 1 (.slice ia ids.length ic) ids.length (c64 ids)) := HS3.out.st.idn
            have HIL : Hid (ids.length ≤ id) := H.out.2.2.2.1
            have HM : Hid (ids.length + 1 ≤ maxLen ∧ (ids.length + 1) * j0.bytes ≤ 140737488355328) := by
              have h131 : ids.length + 1 ≤ 140000 := by have := HIL.out; omega
              exact ⟨by unfold maxLen; omega, Nat.le_trans (Nat.mul_le_mul h131 jz2) (by omega)⟩
            have HBB : Hid (w.heap.size + 2 ≤ (W3.alloc (.cells #[.int .i64 (i : Int)] 3)).heap.size) := by show _ ≤ _; have := HS3.out.sz; simp; omega
            clear hrd3 hf3 HS2 FW TH1 FI1
            go_wp2_with (at_builtin; refine wpList_append_fresh rfl (.tmp 31) (.tmp 33) 23 rfl (w.heap.size + 2) 3 j0 _ 1 j0.bytes Try.underlying23 hj0 jz0 jz1 rfl rfl (by decide) _ ids.length (c64 ids) rfl (HOWN.out.alloc _) ⟨W3.heap.size, 0, none⟩ 1 1 [.int .i64 (i : Int)] rfl rfl (fun j u hj => by rw [add0]; exact alloc_cell W3 _ 3 (0, 0) (by simpa using hj)) (by intro u hu; simp at hu; subst hu; rfl) HM.out.1 HM.out.2 HBB.out ?_; intro v4 W4 q1 q2 q3; have HS4 : Hid (StX (w.heap.size + 2) W4 (ids ++ [(i : Int)]) v4 f (.slice la (flen f) lc) ∧ Below (w.heap.size + 2) W3 W4 ∧ ∀ k, k < W3.heap.size → (Value.slice ia ids.length ic).ownBlock ≠ some k → W4.heap[k]? = W3.heap[k]?) := HADD.out v4 W4 q1 q2 q3; clear q1 q2 q3; obtain ⟨ia4, ic4, rfl⟩ := own_sl HS4.out.1.idn; have HV4 : W4.heap[w.heap.size + 1]? = some (.cells #[.int .i64 12, .int .i64 0, .int .i64 0, .int .i64 0, .string { data := #[] }, .slice ia ids.length ic, .slice la (flen f) lc] 26 (0, 0)) := (by rw [HS4.out.2.1.block _ (by omega)]; exact HS3.out.v); obtain ⟨⟨b0, b1, b2, b3, b4, b5, b6⟩, c0, c1, c2, c3, c4, c5, c6⟩ := blk7 HV4)
            have HS4X : StX (w.heap.size + 2) W4 (ids ++ [(i : Int)]) (.slice ia4 (ids.length + 1) ic4) f (.slice la (flen f) lc) := by have h5 := HS4.out.1; rwa [List.length_append] at h5
            have O5 : Only (w.heap.size + 1) W4 (W4.setCell ⟨w.heap.size + 1, 5, none⟩ (.slice ia4 (ids.length + 1) ic4)) := (Only.refl _ _).set _ _
            have hV5 := set_block (j := 5) (u := .slice ia4 (ids.length + 1) ic4) HV4
            simp only [List.setIfInBounds_toArray, List.set_cons_zero, List.set_cons_succ] at hV5
            have HS5 : Hid (StIn w0 w (W4.setCell ⟨w.heap.size + 1, 5, none⟩ (.slice ia4 (ids.length + 1) ic4)) R m room (ids ++ [(i : Int)]) f r3 (.slice ia4 (ids.length + 1) ic4) (.slice la (flen f) lc)) :=
              ⟨(HS3.out.rf.belowB HS4.out.2.1 (by omega)).only O5 (by omega), by rw [O5.block _ (by omega), HS4.out.2.1.block _ (by omega)]; exact HS3.out.z, hV5, HS4X.only (by omega) O5, (HS3.out.rd.below (by omega) HS4.out.2.1).only O5 (by omega), by rw [← O5.size]; exact Nat.le_trans HS3.out.sz HS4.out.2.1.size⟩
            have HK5 : Hid ((W4.setCell ⟨w.heap.size + 1, 5, none⟩ (.slice ia4 (ids.length + 1) ic4)).heap[W1.heap.size]? = some (.cells #[.int .i64 (k : Int)] 3 (0, 0))) := by
              show _ = _
              rw [O5.block _ (by have := HK2.out.2.2; omega), HS4.out.2.2 _ (Array.getElem?_eq_some_iff.1 HK3.out).1 (fun e => by have := HK2.out.2.1 _ e; omega)]
              exact HK3.out
            generalize W4.setCell ⟨w.heap.size + 1, 5, none⟩ (.slice ia4 (ids.length + 1) ic4) = W5 at *
            have HN : Hid ((ids ++ [(i : Int)]).length ≤ i ∧ (∀ x ∈ ids ++ [(i : Int)], i64ok x) ∧ flen f + 1 = (ids ++ [(i : Int)]).length ∧ r1.length < n ∧ flen f + 1 ≤ 140000) := by
              refine ⟨by have := HIL.out; simp; omega, fun x hx => ?_, by have := H.out.2.2.1; simp; omega, by have := H.out.2.1; simp at this; omega, by have := H.out.2.2.1; have := HIL.out; omega⟩
              rcases List.mem_append.1 hx with hx | hx
              · exact H.out.2.2.2.2.1 x hx
              · rw [List.mem_singleton.1 hx]; exact ⟨by omega, by omega⟩
            generalize ids ++ [(i : Int)] = ids5 at *
            generalize ids.length + 1 = L5 at *
            clear HS4 HS4X HV4 O5 hV5 HADD HOWN HM HBB HS3 HK3 HK2 b0 b1 b2 b3 b4 b5 b6 c0 c1 c2 c3 c4 c5 c6 H
            have s0 : W5.drew.cell? ⟨w.heap.size + 1, 6, none⟩ = some (.slice la (flen f) lc) := cell_of_block HS5.out.v rfl
            refine wp_region_held_drew (S := fun _ => True) (by kernel_rfl) trivial (fun hHeld => ?_)
            have hbd : Below W5.heap.size W5 W5.drew := (Below.refl _ W5).drew
            have HS6 : Hid (StIn w0 w W5.drew R m room ids5 f r3 (.slice ia4 L5 ic4) (.slice la (flen f) lc)) := HS5.out.step hR (RF.of_below hbd) (HS5.out.rd.later hbd)
            have GG := G W5.drew r3 HS6.out.rf HK5.out HS6.out.rd
            clear G HK5 HS5 hbd
            refine wpAnyH_take (i := 0) (v := ?_) rfl (by kernel_rfl) (by kernel_rfl) (by kernel_rfl) (fun _ _ _ h => h) (Or.inl ⟨by rfl, ?_⟩) (by assumption) ?_
            rotate_left
            · intro w hSw
              (try dsimp only at hSw)
              (try (obtain ⟨_, _, _, _, _, _, _, _, _, _⟩ := hSw))
              (try (obtain ⟨_, _, _, _, _, _, _⟩ := hSw))
              (try (obtain ⟨_, _⟩ := hSw))
              go_simp
              (try with_reducible rfl)
            (try simp only [Act.put, List.setIfInBounds_toArray, List.set_cons_zero, List.set_cons_succ])
            refine wpAnyH_take (i := 2) (v := ?_) rfl (by kernel_rfl) (by kernel_rfl) (by kernel_rfl) (fun _ _ _ h => h) (Or.inl ⟨by rfl, ?_⟩) (by assumption) ?_
            rotate_left
            · intro w hSw
              (try dsimp only at hSw)
              (try (obtain ⟨_, _, _, _, _, _, _, _, _, _⟩ := hSw))
              (try (obtain ⟨_, _, _, _, _, _, _⟩ := hSw))
              (try (obtain ⟨_, _⟩ := hSw))
              go_simp
              (try with_reducible rfl)
            (try simp only [Act.put, List.setIfInBounds_toArray, List.set_cons_zero, List.set_cons_succ])
            refine wpAnyH_ready (rs := [1, 3]) (by kernel_rfl) (by simp) ?_
            refine AllReadyH.cons rfl (fun K hK => ?_) (AllReadyH.cons rfl (fun K hK => ?_) AllReadyH.nil)
            · go_simp
              refine hK.out _ _ trivial (fun _ => ?_)
              clear hK K
              (try simp only [Act.put, List.setIfInBounds_toArray, List.set_cons_zero, List.set_cons_succ])
              refine wpAnyH_ready (rs := [3]) (by kernel_rfl) (by simp) ?_
              refine AllReadyH.cons rfl (fun K hK => ?_) AllReadyH.nil
              go_simp
              refine GG _ ?_ ?_
              · intro p c rest W7 v he hf7 hrd7 hvx
                obtain ⟨jv, kv, rfl, hp, hlc, hi', zs, hy, hel⟩ := hvx
                obtain ⟨ja, jc, rfl⟩ := own_sl hi'.1
                obtain ⟨ka, kc, rfl⟩ := own_sl hy.1
                have HS7 : Hid (StIn w0 w W7 R m room ids5 f rest (.slice ia4 L5 ic4) (.slice la (flen f) lc)) := HS6.out.step hR hf7 hrd7
                have s7 : W7.cell? ⟨w.heap.size + 1, 6, none⟩ = some (.slice la (flen f) lc) := cell_of_block HS7.out.v rfl
                have l7 : w.heap.size + 1 < W7.heap.size := block_lt_of_cell s7
                obtain ⟨la9, lc9, W9, hrun, s9, f9, hst9⟩ := st_grow HS7.out hR (N := W5.drew.heap.size) (fun g hg => (row_own HS6.out.st.idn g hg).2) (fun g hg => (row_own (HS6.out.st.row.choose_spec).1 g hg).2) HS6.out.sz ⟨_, _, rfl, hp, hlc, hi', zs, hy, hel⟩ HN.out.2.2.2.2
                have HS9 : Hid (StIn w0 w (W9.setCell ⟨w.heap.size + 1, 6, none⟩ (.slice la9 (flen f + 1) lc9)) R m room ids5 (fsnoc f p c) rest (.slice ia4 L5 ic4) (.slice la9 (flen f + 1) lc9)) := hst9
                have HE9 : Hid (rStructF room P n ids5 (fsnoc f p c) i rest = all ∧ rest.length ≤ r3.length) := ⟨by rw [HF2.out, bnd_ok he], by unfold fldP at he; split at he; exact good_len (good_ok _) he; exact good_len (HG.out _) he⟩
                clear hst9 hi' hy hel hp hlc HS6 HS7 GG he hf7 hrd7
                go_simp
                refine hK.out _ _ trivial (fun _ => ?_)
                clear hK K
                (try simp only [Act.put, List.setIfInBounds_toArray, List.set_cons_zero, List.set_cons_succ])
                refine wpAnyH_ready (rs := [4]) (by kernel_rfl) (by simp) ?_
                refine AllReadyH.cons rfl (fun K hK => ?_) AllReadyH.nil
                go_simp
                refine hK.out _ _ trivial (fun _ => ?_)
                clear hK K
                (try simp only [Act.put, List.setIfInBounds_toArray, List.set_cons_zero, List.set_cons_succ])
                refine wpAnyH_ready (rs := [5]) (by kernel_rfl) (by simp) ?_
                refine AllReadyH.cons rfl (fun K hK => ?_) AllReadyH.nil
                refine ready_append rfl (.tmp 37) (.tmp 40) 24 rfl _ _ _ rfl rfl hrun ?_
                refine hK.out _ _ trivial (fun _ => ?_)
                clear hK K
                (try simp only [Act.put, List.setIfInBounds_toArray, List.set_cons_zero, List.set_cons_succ])
                refine wpAnyH_take (i := 6) (v := ?_) rfl (by kernel_rfl) (by kernel_rfl) (by kernel_rfl) (fun _ _ _ h => h) (Or.inl ⟨by rfl, ?_⟩) (by assumption) ?_
                rotate_left
                · intro w hSw
                  (try dsimp only at hSw)
                  (try (obtain ⟨_, _, _, _, _, _, _, _, _, _⟩ := hSw))
                  (try (obtain ⟨_, _, _, _, _, _, _⟩ := hSw))
                  (try (obtain ⟨_, _⟩ := hSw))
                  go_simp
                  (try with_reducible rfl)
                (try simp only [Act.put, List.setIfInBounds_toArray, List.set_cons_zero, List.set_cons_succ])
                refine wpAnyH_ready (rs := [7]) (by kernel_rfl) (by simp) ?_
                refine AllReadyH.cons rfl (fun K hK => ?_) AllReadyH.nil
                go_simp
                refine hK.out _ _ trivial (fun _ => ?_)
                clear hK K
                refine wpAnyH_done (by kernel_rfl) ?_ _
                go_wp2_with fail
                go_roundw
                case rel => exact ⟨i, n, ids5, fsnoc f p c, rest, _, _, rfl, hile.2, HS9.out, by have := HE9.out.2; have := HL3.out; have := HN.out.2.2.2.1; omega, by rw [flen_snoc]; exact HN.out.2.2.1, HN.out.1, HN.out.2.1, HE9.out.1⟩
                case measure => simp [intOf]; omega
              · intro s W7 he hf7
                have q := QNO s W7 (by rw [HF2.out, bnd_err he]) (HS6.out.rf.trans hf7)
                obtain ⟨ch, hch⟩ : ∃ ch, gives s = .panicked ch := ⟨_, rfl⟩
                rw [hch] at q ⊢
                exact ⟨rfl, q⟩
            · go_simp
              refine GG _ ?_ ?_
              · intro p c rest W7 v he hf7 hrd7 hvx
                obtain ⟨jv, kv, rfl, hp, hlc, hi', zs, hy, hel⟩ := hvx
                obtain ⟨ja, jc, rfl⟩ := own_sl hi'.1
                obtain ⟨ka, kc, rfl⟩ := own_sl hy.1
                have HS7 : Hid (StIn w0 w W7 R m room ids5 f rest (.slice ia4 L5 ic4) (.slice la (flen f) lc)) := HS6.out.step hR hf7 hrd7
                have s7 : W7.cell? ⟨w.heap.size + 1, 6, none⟩ = some (.slice la (flen f) lc) := cell_of_block HS7.out.v rfl
                have l7 : w.heap.size + 1 < W7.heap.size := block_lt_of_cell s7
                obtain ⟨la9, lc9, W9, hrun, s9, f9, hst9⟩ := st_grow HS7.out hR (N := W5.drew.heap.size) (fun g hg => (row_own HS6.out.st.idn g hg).2) (fun g hg => (row_own (HS6.out.st.row.choose_spec).1 g hg).2) HS6.out.sz ⟨_, _, rfl, hp, hlc, hi', zs, hy, hel⟩ HN.out.2.2.2.2
                have HS9 : Hid (StIn w0 w (W9.setCell ⟨w.heap.size + 1, 6, none⟩ (.slice la9 (flen f + 1) lc9)) R m room ids5 (fsnoc f p c) rest (.slice ia4 L5 ic4) (.slice la9 (flen f + 1) lc9)) := hst9
                have HE9 : Hid (rStructF room P n ids5 (fsnoc f p c) i rest = all ∧ rest.length ≤ r3.length) := ⟨by rw [HF2.out, bnd_ok he], by unfold fldP at he; split at he; exact good_len (good_ok _) he; exact good_len (HG.out _) he⟩
                clear hst9 hi' hy hel hp hlc HS6 HS7 GG he hf7 hrd7
                go_simp
                refine hK.out _ _ trivial (fun _ => ?_)
                clear hK K
                (try simp only [Act.put, List.setIfInBounds_toArray, List.set_cons_zero, List.set_cons_succ])
                refine wpAnyH_ready (rs := [1, 4]) (by kernel_rfl) (by simp) ?_
                refine AllReadyH.cons rfl (fun K hK => ?_) (AllReadyH.cons rfl (fun K hK => ?_) AllReadyH.nil)
                · go_simp
                  refine hK.out _ _ trivial (fun _ => ?_)
                  clear hK K
                  (try simp only [Act.put, List.setIfInBounds_toArray, List.set_cons_zero, List.set_cons_succ])
                  refine wpAnyH_ready (rs := [4]) (by kernel_rfl) (by simp) ?_
                  refine AllReadyH.cons rfl (fun K hK => ?_) AllReadyH.nil
                  go_simp
                  refine hK.out _ _ trivial (fun _ => ?_)
                  clear hK K
                  (try simp only [Act.put, List.setIfInBounds_toArray, List.set_cons_zero, List.set_cons_succ])
                  refine wpAnyH_ready (rs := [5]) (by kernel_rfl) (by simp) ?_
                  refine AllReadyH.cons rfl (fun K hK => ?_) AllReadyH.nil
                  refine ready_append rfl (.tmp 37) (.tmp 40) 24 rfl _ _ _ rfl rfl hrun ?_
                  refine hK.out _ _ trivial (fun _ => ?_)
                  clear hK K
                  (try simp only [Act.put, List.setIfInBounds_toArray, List.set_cons_zero, List.set_cons_succ])
                  refine wpAnyH_take (i := 6) (v := ?_) rfl (by kernel_rfl) (by kernel_rfl) (by kernel_rfl) (fun _ _ _ h => h) (Or.inl ⟨by rfl, ?_⟩) (by assumption) ?_
                  rotate_left
                  · intro w hSw
                    (try dsimp only at hSw)
                    (try (obtain ⟨_, _, _, _, _, _, _, _, _, _⟩ := hSw))
                    (try (obtain ⟨_, _, _, _, _, _, _⟩ := hSw))
                    (try (obtain ⟨_, _⟩ := hSw))
                    go_simp
                    (try with_reducible rfl)
                  (try simp only [Act.put, List.setIfInBounds_toArray, List.set_cons_zero, List.set_cons_succ])
                  refine wpAnyH_ready (rs := [7]) (by kernel_rfl) (by simp) ?_
                  refine AllReadyH.cons rfl (fun K hK => ?_) AllReadyH.nil
                  go_simp
                  refine hK.out _ _ trivial (fun _ => ?_)
                  clear hK K
                  refine wpAnyH_done (by kernel_rfl) ?_ _
                  go_wp2_with fail
                  go_roundw
                  case rel => exact ⟨i, n, ids5, fsnoc f p c, rest, _, _, rfl, hile.2, HS9.out, by have := HE9.out.2; have := HL3.out; have := HN.out.2.2.2.1; omega, by rw [flen_snoc]; exact HN.out.2.2.1, HN.out.1, HN.out.2.1, HE9.out.1⟩
                  case measure => simp [intOf]; omega
                · go_simp
                  refine hK.out _ _ trivial (fun _ => ?_)
                  clear hK K
                  (try simp only [Act.put, List.setIfInBounds_toArray, List.set_cons_zero, List.set_cons_succ])
                  have s8 : (bx W7 p c ja jc ka kc).cell? ⟨w.heap.size + 1, 6, none⟩ = some (.slice la (flen f) lc) := cell_later (alloc_below _ _) s7
                  refine wpAnyH_ready (rs := [1]) (by kernel_rfl) (by simp) ?_
                  refine AllReadyH.cons rfl (fun K hK => ?_) AllReadyH.nil
                  go_simp
                  refine hK.out _ _ trivial (fun _ => ?_)
                  clear hK K
                  (try simp only [Act.put, List.setIfInBounds_toArray, List.set_cons_zero, List.set_cons_succ])
                  refine wpAnyH_ready (rs := [5]) (by kernel_rfl) (by simp) ?_
                  refine AllReadyH.cons rfl (fun K hK => ?_) AllReadyH.nil
                  refine ready_append rfl (.tmp 37) (.tmp 40) 24 rfl _ _ _ rfl rfl hrun ?_
                  refine hK.out _ _ trivial (fun _ => ?_)
                  clear hK K
                  (try simp only [Act.put, List.setIfInBounds_toArray, List.set_cons_zero, List.set_cons_succ])
                  refine wpAnyH_take (i := 6) (v := ?_) rfl (by kernel_rfl) (by kernel_rfl) (by kernel_rfl) (fun _ _ _ h => h) (Or.inl ⟨by rfl, ?_⟩) (by assumption) ?_
                  rotate_left
                  · intro w hSw
                    (try dsimp only at hSw)
                    (try (obtain ⟨_, _, _, _, _, _, _, _, _, _⟩ := hSw))
                    (try (obtain ⟨_, _, _, _, _, _, _⟩ := hSw))
                    (try (obtain ⟨_, _⟩ := hSw))
                    go_simp
                    (try with_reducible rfl)
                  (try simp only [Act.put, List.setIfInBounds_toArray, List.set_cons_zero, List.set_cons_succ])
                  refine wpAnyH_ready (rs := [7]) (by kernel_rfl) (by simp) ?_
                  refine AllReadyH.cons rfl (fun K hK => ?_) AllReadyH.nil
                  go_simp
                  refine hK.out _ _ trivial (fun _ => ?_)
                  clear hK K
                  refine wpAnyH_done (by kernel_rfl) ?_ _
                  go_wp2_with fail
                  go_roundw
                  case rel => exact ⟨i, n, ids5, fsnoc f p c, rest, _, _, rfl, hile.2, HS9.out, by have := HE9.out.2; have := HL3.out; have := HN.out.2.2.2.1; omega, by rw [flen_snoc]; exact HN.out.2.2.1, HN.out.1, HN.out.2.1, HE9.out.1⟩
                  case measure => simp [intOf]; omega
              · intro s W7 he hf7
                have q := QNO s W7 (by rw [HF2.out, bnd_err he]) (HS6.out.rf.trans hf7)
                obtain ⟨ch, hch⟩ : ∃ ch, gives s = .panicked ch := ⟨_, rfl⟩
                rw [hch] at q ⊢
                exact ⟨rfl, q⟩
        · have hs0' : ¬ (st : Int) = 0 := by omega
          go_wp2_with fail
          refine TH1.mono ?_
          rintro e W1 ⟨rfl, hrd1, hf1⟩
          have S1 := H.out.1.step hR hf1 hrd1
          have FW := fieldWay_any w0 w W1 R m r1 room P k hrd1 HW.out S1.rf HPP.out hwy
          have hb2 := alloc_below W1 (.cells #[.int .i64 (k : Int)] 3)
          have S2 := S1.step hR (RF.of_below hb2) (hrd1.later hb2)
          have FI := fieldID_any w0 _ R m r1 room id st hid (by omega) S2.rd
          generalize hW2 : W1.alloc (.cells #[.int .i64 (k : Int)] 3) = W2 at *
          cases hidr : rID id st r1 with
          | error s =>
            have FI1 := FI.no hidr
            have q := fun w' hf => QNO s w' (by rw [HF.out, bnd_err hidr]) (S2.rf.trans hf)
            clear S1 S2 H hrd HG HW HPP HF FI hidr hW2 hb2
            go_wp2_with fail
            refine FW.mono ?_
            rintro e wx ⟨fn, fa, fb, rfl, eg, G, hwx⟩
            obtain rfl := hwx.symm
            clear G
            go_wp2_with fail
            refine FI1.mono ?_
            rintro e W3 ⟨rfl, hf3⟩
            have q1 := q W3 hf3
            obtain ⟨ch, hch⟩ : ∃ ch, gives s = .panicked ch := ⟨_, rfl⟩
            rw [hch] at q1 ⊢
            clear hch
            go_wp2_with fail
            exact ⟨rfl, q1⟩
          | ok v =>
            obtain ⟨i, r3⟩ := v
            have FI1 := FI.ok hidr
            have hile := rID_le hidr
            have hi' : (i : Int) ≤ 32767 := by omega
            have HF2 : Hid (all = bnd (fldP P k) (fun pc => rStructF room P n (ids ++ [(i : Int)]) (fsnoc f pc.1 pc.2) i) r3) := by show _ = _; rw [HF.out, bnd_ok hidr]
            have HL3 : Hid (r3.length ≤ r1.length) := good_len (good_id _ _) hidr
            have HS2 : Hid (StIn w0 w W2 R m room ids f r1 (.slice ia ids.length ic) (.slice la (flen f) lc)) := S2
            have HK2 : Hid (W2.heap[W1.heap.size]? = some (.cells #[.int .i64 (k : Int)] 3 (0, 0)) ∧ (∀ g, (Value.slice ia ids.length ic).ownBlock = some g → g < W1.heap.size) ∧ w.heap.size + 2 ≤ W1.heap.size) := ⟨by rw [← hW2]; exact heap_new W1 _, fun g hg => (row_own S1.st.idn g hg).2, S1.sz⟩
            clear S1 S2 hrd HW HPP HF FI hidr hW2 hb2
            go_wp2_with fail
            refine FW.mono ?_
            rintro e wx ⟨fn, fa, fb, rfl, eg, G, hwx⟩
            obtain rfl := hwx.symm
            go_wp2_with fail
            refine FI1.mono ?_
            rintro e W3 ⟨rfl, hrd3, hf3⟩
            have HS3 : Hid (StIn w0 w W3 R m room ids f r3 (.slice ia ids.length ic) (.slice la (flen f) lc)) := HS2.out.step hR hf3 hrd3
            have HK3 : Hid (W3.heap[W1.heap.size]? = some (.cells #[.int .i64 (k : Int)] 3 (0, 0))) := hf3.box HK2.out.1 (by have := HK2.out.2.2; omega)
            obtain ⟨⟨b0, b1, b2, b3, b4, b5, b6⟩, c0, c1, c2, c3, c4, c5, c6⟩ := blk7 HS3.out.v
            have HADD : Hid (∀ v' w2, w2.ownsRow (w.heap.size + 2) 3 1 v' (ids.length + 1) (c64 ids ++ [.int .i64 (i : Int)]) → (W3.alloc (.cells #[.int .i64 (i : Int)] 3)).grownBy w2 (Value.slice ia ids.length ic).ownBlock → (v'.ownBlock = (Value.slice ia ids.length ic).ownBlock ∨ w2.ownsRow (W3.alloc (.cells #[.int .i64 (i : Int)] 3)).heap.size 3 1 v' (ids.length + 1) (c64 ids ++ [.int .i64 (i : Int)])) →
                StX (w.heap.size + 2) w2 (ids ++ [(i : Int)]) v' f (.slice la (flen f) lc) ∧ Below (w.heap.size + 2) W3 w2 ∧ ∀ k, k < W3.heap.size → (Value.slice ia ids.length ic).ownBlock ≠ some k → w2.heap[k]? = W3.heap[k]?) := HS3.out.st.addId (alloc_below _ _) HS3.out.sz
            have HOWN : Hid (W3.ownsRow (w.heap.size + 2) 3 1 (.slice ia ids.length ic) ids.length (c64 ids)) := HS3.out.st.idn
            have HIL : Hid (ids.length ≤ id) := H.out.2.2.2.1
            have HM : Hid (ids.length + 1 ≤ maxLen ∧ (ids.length + 1) * j0.bytes ≤ 140737488355328) := by
              have h131 : ids.length + 1 ≤ 140000 := by have := HIL.out; omega
              exact ⟨by unfold maxLen; omega, Nat.le_trans (Nat.mul_le_mul h131 jz2) (by omega)⟩
            have HBB : Hid (w.heap.size + 2 ≤ (W3.alloc (.cells #[.int .i64 (i : Int)] 3)).heap.size) := by show _ ≤ _; have := HS3.out.sz; simp; omega
            clear hrd3 hf3 HS2 FW TH1 FI1
            go_wp2_with (at_builtin; refine wpList_append_fresh rfl (.tmp 31) (.tmp 33) 23 rfl (w.heap.size + 2) 3 j0 _ 1 j0.bytes Try.underlying23 hj0 jz0 jz1 rfl rfl (by decide) _ ids.length (c64 ids) rfl (HOWN.out.alloc _) ⟨W3.heap.size, 0, none⟩ 1 1 [.int .i64 (i : Int)] rfl rfl (fun j u hj => by rw [add0]; exact alloc_cell W3 _ 3 (0, 0) (by simpa using hj)) (by intro u hu; simp at hu; subst hu; rfl) HM.out.1 HM.out.2 HBB.out ?_; intro v4 W4 q1 q2 q3; have HS4 : Hid (StX (w.heap.size + 2) W4 (ids ++ [(i : Int)]) v4 f (.slice la (flen f) lc) ∧ Below (w.heap.size + 2) W3 W4 ∧ ∀ k, k < W3.heap.size → (Value.slice ia ids.length ic).ownBlock ≠ some k → W4.heap[k]? = W3.heap[k]?) := HADD.out v4 W4 q1 q2 q3; clear q1 q2 q3; obtain ⟨ia4, ic4, rfl⟩ := own_sl HS4.out.1.idn; have HV4 : W4.heap[w.heap.size + 1]? = some (.cells #[.int .i64 12, .int .i64 0, .int .i64 0, .int .i64 0, .string { data := #[] }, .slice ia ids.length ic, .slice la (flen f) lc] 26 (0, 0)) := (by rw [HS4.out.2.1.block _ (by omega)]; exact HS3.out.v); obtain ⟨⟨b0, b1, b2, b3, b4, b5, b6⟩, c0, c1, c2, c3, c4, c5, c6⟩ := blk7 HV4)
            have HS4X : StX (w.heap.size + 2) W4 (ids ++ [(i : Int)]) (.slice ia4 (ids.length + 1) ic4) f (.slice la (flen f) lc) := by have h5 := HS4.out.1; rwa [List.length_append] at h5
            have O5 : Only (w.heap.size + 1) W4 (W4.setCell ⟨w.heap.size + 1, 5, none⟩ (.slice ia4 (ids.length + 1) ic4)) := (Only.refl _ _).set _ _
            have hV5 := set_block (j := 5) (u := .slice ia4 (ids.length + 1) ic4) HV4
            simp only [List.setIfInBounds_toArray, List.set_cons_zero, List.set_cons_succ] at hV5
            have HS5 : Hid (StIn w0 w (W4.setCell ⟨w.heap.size + 1, 5, none⟩ (.slice ia4 (ids.length + 1) ic4)) R m room (ids ++ [(i : Int)]) f r3 (.slice ia4 (ids.length + 1) ic4) (.slice la (flen f) lc)) :=
              ⟨(HS3.out.rf.belowB HS4.out.2.1 (by omega)).only O5 (by omega), by rw [O5.block _ (by omega), HS4.out.2.1.block _ (by omega)]; exact HS3.out.z, hV5, HS4X.only (by omega) O5, (HS3.out.rd.below (by omega) HS4.out.2.1).only O5 (by omega), by rw [← O5.size]; exact Nat.le_trans HS3.out.sz HS4.out.2.1.size⟩
            have HK5 : Hid ((W4.setCell ⟨w.heap.size + 1, 5, none⟩ (.slice ia4 (ids.length + 1) ic4)).heap[W1.heap.size]? = some (.cells #[.int .i64 (k : Int)] 3 (0, 0))) := by
              show _ = _
              rw [O5.block _ (by have := HK2.out.2.2; omega), HS4.out.2.2 _ (Array.getElem?_eq_some_iff.1 HK3.out).1 (fun e => by have := HK2.out.2.1 _ e; omega)]
              exact HK3.out
            generalize W4.setCell ⟨w.heap.size + 1, 5, none⟩ (.slice ia4 (ids.length + 1) ic4) = W5 at *
            have HN : Hid ((ids ++ [(i : Int)]).length ≤ i ∧ (∀ x ∈ ids ++ [(i : Int)], i64ok x) ∧ flen f + 1 = (ids ++ [(i : Int)]).length ∧ r1.length < n ∧ flen f + 1 ≤ 140000) := by
              refine ⟨by have := HIL.out; simp; omega, fun x hx => ?_, by have := H.out.2.2.1; simp; omega, by have := H.out.2.1; simp at this; omega, by have := H.out.2.2.1; have := HIL.out; omega⟩
              rcases List.mem_append.1 hx with hx | hx
              · exact H.out.2.2.2.2.1 x hx
              · rw [List.mem_singleton.1 hx]; exact ⟨by omega, by omega⟩
            generalize ids ++ [(i : Int)] = ids5 at *
            generalize ids.length + 1 = L5 at *
            clear HS4 HS4X HV4 O5 hV5 HADD HOWN HM HBB HS3 HK3 HK2 b0 b1 b2 b3 b4 b5 b6 c0 c1 c2 c3 c4 c5 c6 H
            have s0 : W5.drew.cell? ⟨w.heap.size + 1, 6, none⟩ = some (.slice la (flen f) lc) := cell_of_block HS5.out.v rfl
            refine wp_region_held_drew (S := fun _ => True) (by kernel_rfl) trivial (fun hHeld => ?_)
            have hbd : Below W5.heap.size W5 W5.drew := (Below.refl _ W5).drew
            have HS6 : Hid (StIn w0 w W5.drew R m room ids5 f r3 (.slice ia4 L5 ic4) (.slice la (flen f) lc)) := HS5.out.step hR (RF.of_below hbd) (HS5.out.rd.later hbd)
            have GG := G W5.drew r3 HS6.out.rf HK5.out HS6.out.rd
            clear G HK5 HS5 hbd
            refine wpAnyH_take (i := 0) (v := ?_) rfl (by kernel_rfl) (by kernel_rfl) (by kernel_rfl) (fun _ _ _ h => h) (Or.inl ⟨by rfl, ?_⟩) (by assumption) ?_
            rotate_left
            · intro w hSw
              (try dsimp only at hSw)
              (try (obtain ⟨_, _, _, _, _, _, _, _, _, _⟩ := hSw))
              (try (obtain ⟨_, _, _, _, _, _, _⟩ := hSw))
              (try (obtain ⟨_, _⟩ := hSw))
              go_simp
              (try with_reducible rfl)
            (try simp only [Act.put, List.setIfInBounds_toArray, List.set_cons_zero, List.set_cons_succ])
            refine wpAnyH_take (i := 2) (v := ?_) rfl (by kernel_rfl) (by kernel_rfl) (by kernel_rfl) (fun _ _ _ h => h) (Or.inl ⟨by rfl, ?_⟩) (by assumption) ?_
            rotate_left
            · intro w hSw
              (try dsimp only at hSw)
              (try (obtain ⟨_, _, _, _, _, _, _, _, _, _⟩ := hSw))
              (try (obtain ⟨_, _, _, _, _, _, _⟩ := hSw))
              (try (obtain ⟨_, _⟩ := hSw))
              go_simp
              (try with_reducible rfl)
            (try simp only [Act.put, List.setIfInBounds_toArray, List.set_cons_zero, List.set_cons_succ])
            refine wpAnyH_ready (rs := [1, 3]) (by kernel_rfl) (by simp) ?_
            refine AllReadyH.cons rfl (fun K hK => ?_) (AllReadyH.cons rfl (fun K hK => ?_) AllReadyH.nil)
            · go_simp
              refine hK.out _ _ trivial (fun _ => ?_)
              clear hK K
              (try simp only [Act.put, List.setIfInBounds_toArray, List.set_cons_zero, List.set_cons_succ])
              refine wpAnyH_ready (rs := [3]) (by kernel_rfl) (by simp) ?_
              refine AllReadyH.cons rfl (fun K hK => ?_) AllReadyH.nil
              go_simp
              refine GG _ ?_ ?_
              · intro p c rest W7 v he hf7 hrd7 hvx
                obtain ⟨jv, kv, rfl, hp, hlc, hi', zs, hy, hel⟩ := hvx
                obtain ⟨ja, jc, rfl⟩ := own_sl hi'.1
                obtain ⟨ka, kc, rfl⟩ := own_sl hy.1
                have HS7 : Hid (StIn w0 w W7 R m room ids5 f rest (.slice ia4 L5 ic4) (.slice la (flen f) lc)) := HS6.out.step hR hf7 hrd7
                have s7 : W7.cell? ⟨w.heap.size + 1, 6, none⟩ = some (.slice la (flen f) lc) := cell_of_block HS7.out.v rfl
                have l7 : w.heap.size + 1 < W7.heap.size := block_lt_of_cell s7
                obtain ⟨la9, lc9, W9, hrun, s9, f9, hst9⟩ := st_grow HS7.out hR (N := W5.drew.heap.size) (fun g hg => (row_own HS6.out.st.idn g hg).2) (fun g hg => (row_own (HS6.out.st.row.choose_spec).1 g hg).2) HS6.out.sz ⟨_, _, rfl, hp, hlc, hi', zs, hy, hel⟩ HN.out.2.2.2.2
                have HS9 : Hid (StIn w0 w (W9.setCell ⟨w.heap.size + 1, 6, none⟩ (.slice la9 (flen f + 1) lc9)) R m room ids5 (fsnoc f p c) rest (.slice ia4 L5 ic4) (.slice la9 (flen f + 1) lc9)) := hst9
                have HE9 : Hid (rStructF room P n ids5 (fsnoc f p c) i rest = all ∧ rest.length ≤ r3.length) := ⟨by rw [HF2.out, bnd_ok he], by unfold fldP at he; split at he; exact good_len (good_ok _) he; exact good_len (HG.out _) he⟩
                clear hst9 hi' hy hel hp hlc HS6 HS7 GG he hf7 hrd7
                go_simp
                refine hK.out _ _ trivial (fun _ => ?_)
                clear hK K
                (try simp only [Act.put, List.setIfInBounds_toArray, List.set_cons_zero, List.set_cons_succ])
                refine wpAnyH_ready (rs := [4]) (by kernel_rfl) (by simp) ?_
                refine AllReadyH.cons rfl (fun K hK => ?_) AllReadyH.nil
                go_simp
                refine hK.out _ _ trivial (fun _ => ?_)
                clear hK K
                (try simp only [Act.put, List.setIfInBounds_toArray, List.set_cons_zero, List.set_cons_succ])
                refine wpAnyH_ready (rs := [5]) (by kernel_rfl) (by simp) ?_
                refine AllReadyH.cons rfl (fun K hK => ?_) AllReadyH.nil
                refine ready_append rfl (.tmp 37) (.tmp 40) 24 rfl _ _ _ rfl rfl hrun ?_
                refine hK.out _ _ trivial (fun _ => ?_)
                clear hK K
                (try simp only [Act.put, List.setIfInBounds_toArray, List.set_cons_zero, List.set_cons_succ])
                refine wpAnyH_take (i := 6) (v := ?_) rfl (by kernel_rfl) (by kernel_rfl) (by kernel_rfl) (fun _ _ _ h => h) (Or.inl ⟨by rfl, ?_⟩) (by assumption) ?_
                rotate_left
                · intro w hSw
                  (try dsimp only at hSw)
                  (try (obtain ⟨_, _, _, _, _, _, _, _, _, _⟩ := hSw))
                  (try (obtain ⟨_, _, _, _, _, _, _⟩ := hSw))
                  (try (obtain ⟨_, _⟩ := hSw))
                  go_simp
                  (try with_reducible rfl)
                (try simp only [Act.put, List.setIfInBounds_toArray, List.set_cons_zero, List.set_cons_succ])
                refine wpAnyH_ready (rs := [7]) (by kernel_rfl) (by simp) ?_
                refine AllReadyH.cons rfl (fun K hK => ?_) AllReadyH.nil
                go_simp
                refine hK.out _ _ trivial (fun _ => ?_)
                clear hK K
                refine wpAnyH_done (by kernel_rfl) ?_ _
                go_wp2_with fail
                go_roundw
                case rel => exact ⟨i, n, ids5, fsnoc f p c, rest, _, _, rfl, hile.2, HS9.out, by have := HE9.out.2; have := HL3.out; have := HN.out.2.2.2.1; omega, by rw [flen_snoc]; exact HN.out.2.2.1, HN.out.1, HN.out.2.1, HE9.out.1⟩
                case measure => simp [intOf]; omega
              · intro s W7 he hf7
                have q := QNO s W7 (by rw [HF2.out, bnd_err he]) (HS6.out.rf.trans hf7)
                obtain ⟨ch, hch⟩ : ∃ ch, gives s = .panicked ch := ⟨_, rfl⟩
                rw [hch] at q ⊢
                exact ⟨rfl, q⟩
            · go_simp
              refine GG _ ?_ ?_
              · intro p c rest W7 v he hf7 hrd7 hvx
                obtain ⟨jv, kv, rfl, hp, hlc, hi', zs, hy, hel⟩ := hvx
                obtain ⟨ja, jc, rfl⟩ := own_sl hi'.1
                obtain ⟨ka, kc, rfl⟩ := own_sl hy.1
                have HS7 : Hid (StIn w0 w W7 R m room ids5 f rest (.slice ia4 L5 ic4) (.slice la (flen f) lc)) := HS6.out.step hR hf7 hrd7
                have s7 : W7.cell? ⟨w.heap.size + 1, 6, none⟩ = some (.slice la (flen f) lc) := cell_of_block HS7.out.v rfl
                have l7 : w.heap.size + 1 < W7.heap.size := block_lt_of_cell s7
                obtain ⟨la9, lc9, W9, hrun, s9, f9, hst9⟩ := st_grow HS7.out hR (N := W5.drew.heap.size) (fun g hg => (row_own HS6.out.st.idn g hg).2) (fun g hg => (row_own (HS6.out.st.row.choose_spec).1 g hg).2) HS6.out.sz ⟨_, _, rfl, hp, hlc, hi', zs, hy, hel⟩ HN.out.2.2.2.2
                have HS9 : Hid (StIn w0 w (W9.setCell ⟨w.heap.size + 1, 6, none⟩ (.slice la9 (flen f + 1) lc9)) R m room ids5 (fsnoc f p c) rest (.slice ia4 L5 ic4) (.slice la9 (flen f + 1) lc9)) := hst9
                have HE9 : Hid (rStructF room P n ids5 (fsnoc f p c) i rest = all ∧ rest.length ≤ r3.length) := ⟨by rw [HF2.out, bnd_ok he], by unfold fldP at he; split at he; exact good_len (good_ok _) he; exact good_len (HG.out _) he⟩
                clear hst9 hi' hy hel hp hlc HS6 HS7 GG he hf7 hrd7
                go_simp
                refine hK.out _ _ trivial (fun _ => ?_)
                clear hK K
                (try simp only [Act.put, List.setIfInBounds_toArray, List.set_cons_zero, List.set_cons_succ])
                refine wpAnyH_ready (rs := [1, 4]) (by kernel_rfl) (by simp) ?_
                refine AllReadyH.cons rfl (fun K hK => ?_) (AllReadyH.cons rfl (fun K hK => ?_) AllReadyH.nil)
                · go_simp
                  refine hK.out _ _ trivial (fun _ => ?_)
                  clear hK K
                  (try simp only [Act.put, List.setIfInBounds_toArray, List.set_cons_zero, List.set_cons_succ])
                  refine wpAnyH_ready (rs := [4]) (by kernel_rfl) (by simp) ?_
                  refine AllReadyH.cons rfl (fun K hK => ?_) AllReadyH.nil
                  go_simp
                  refine hK.out _ _ trivial (fun _ => ?_)
                  clear hK K
                  (try simp only [Act.put, List.setIfInBounds_toArray, List.set_cons_zero, List.set_cons_succ])
                  refine wpAnyH_ready (rs := [5]) (by kernel_rfl) (by simp) ?_
                  refine AllReadyH.cons rfl (fun K hK => ?_) AllReadyH.nil
                  refine ready_append rfl (.tmp 37) (.tmp 40) 24 rfl _ _ _ rfl rfl hrun ?_
                  refine hK.out _ _ trivial (fun _ => ?_)
                  clear hK K
                  (try simp only [Act.put, List.setIfInBounds_toArray, List.set_cons_zero, List.set_cons_succ])
                  refine wpAnyH_take (i := 6) (v := ?_) rfl (by kernel_rfl) (by kernel_rfl) (by kernel_rfl) (fun _ _ _ h => h) (Or.inl ⟨by rfl, ?_⟩) (by assumption) ?_
                  rotate_left
                  · intro w hSw
                    (try dsimp only at hSw)
                    (try (obtain ⟨_, _, _, _, _, _, _, _, _, _⟩ := hSw))
                    (try (obtain ⟨_, _, _, _, _, _, _⟩ := hSw))
                    (try (obtain ⟨_, _⟩ := hSw))
                    go_simp
                    (try with_reducible rfl)
                  (try simp only [Act.put, List.setIfInBounds_toArray, List.set_cons_zero, List.set_cons_succ])
                  refine wpAnyH_ready (rs := [7]) (by kernel_rfl) (by simp) ?_
                  refine AllReadyH.cons rfl (fun K hK => ?_) AllReadyH.nil
                  go_simp
                  refine hK.out _ _ trivial (fun _ => ?_)
                  clear hK K
                  refine wpAnyH_done (by kernel_rfl) ?_ _
                  go_wp2_with fail
                  go_roundw
                  case rel => exact ⟨i, n, ids5, fsnoc f p c, rest, _, _, rfl, hile.2, HS9.out, by have := HE9.out.2; have := HL3.out; have := HN.out.2.2.2.1; omega, by rw [flen_snoc]; exact HN.out.2.2.1, HN.out.1, HN.out.2.1, HE9.out.1⟩
                  case measure => simp [intOf]; omega
                · go_simp
                  refine hK.out _ _ trivial (fun _ => ?_)
                  clear hK K
                  (try simp only [Act.put, List.setIfInBounds_toArray, List.set_cons_zero, List.set_cons_succ])
                  have s8 : (bx W7 p c ja jc ka kc).cell? ⟨w.heap.size + 1, 6, none⟩ = some (.slice la (flen f) lc) := cell_later (alloc_below _ _) s7
                  refine wpAnyH_ready (rs := [1]) (by kernel_rfl) (by simp) ?_
                  refine AllReadyH.cons rfl (fun K hK => ?_) AllReadyH.nil
                  go_simp
                  refine hK.out _ _ trivial (fun _ => ?_)
                  clear hK K
                  (try simp only [Act.put, List.setIfInBounds_toArray, List.set_cons_zero, List.set_cons_succ])
                  refine wpAnyH_ready (rs := [5]) (by kernel_rfl) (by simp) ?_
                  refine AllReadyH.cons rfl (fun K hK => ?_) AllReadyH.nil
                  refine ready_append rfl (.tmp 37) (.tmp 40) 24 rfl _ _ _ rfl rfl hrun ?_
                  refine hK.out _ _ trivial (fun _ => ?_)
                  clear hK K
                  (try simp only [Act.put, List.setIfInBounds_toArray, List.set_cons_zero, List.set_cons_succ])
                  refine wpAnyH_take (i := 6) (v := ?_) rfl (by kernel_rfl) (by kernel_rfl) (by kernel_rfl) (fun _ _ _ h => h) (Or.inl ⟨by rfl, ?_⟩) (by assumption) ?_
                  rotate_left
                  · intro w hSw
                    (try dsimp only at hSw)
                    (try (obtain ⟨_, _, _, _, _, _, _, _, _, _⟩ := hSw))
                    (try (obtain ⟨_, _, _, _, _, _, _⟩ := hSw))
                    (try (obtain ⟨_, _⟩ := hSw))
                    go_simp
                    (try with_reducible rfl)
                  (try simp only [Act.put, List.setIfInBounds_toArray, List.set_cons_zero, List.set_cons_succ])
                  refine wpAnyH_ready (rs := [7]) (by kernel_rfl) (by simp) ?_
                  refine AllReadyH.cons rfl (fun K hK => ?_) AllReadyH.nil
                  go_simp
                  refine hK.out _ _ trivial (fun _ => ?_)
                  clear hK K
                  refine wpAnyH_done (by kernel_rfl) ?_ _
                  go_wp2_with fail
                  go_roundw
                  case rel => exact ⟨i, n, ids5, fsnoc f p c, rest, _, _, rfl, hile.2, HS9.out, by have := HE9.out.2; have := HL3.out; have := HN.out.2.2.2.1; omega, by rw [flen_snoc]; exact HN.out.2.2.1, HN.out.1, HN.out.2.1, HE9.out.1⟩
                  case measure => simp [intOf]; omega
              · intro s W7 he hf7
                have q := QNO s W7 (by rw [HF2.out, bnd_err he]) (HS6.out.rf.trans hf7)
                obtain ⟨ch, hch⟩ : ∃ ch, gives s = .panicked ch := ⟨_, rfl⟩
                rw [hch] at q ⊢
                exact ⟨rfl, q⟩
      · have n1 : ¬ (k : Int) = 1 := by omega
        have n2 : ¬ (k : Int) = 2 := by omega
        have ho : wayOk k room = false := by
          cases hh : wayOk k room
          · rfl
          · exact absurd (.inr hh) hwy
        have q := fun w' hf => QNO false w' (by
          rw [← H.out.2.2.2.2.2, rStructF_succ, bnd_ok (show rHalves (b :: r1) = .ok ((b / 16, b % 16), r1) from rfl), ← hst, ← hk]
          dsimp only
          rw [if_neg h0, if_pos ⟨fun hx => hwy (.inl hx), ho⟩]) hf
        clear QOK QNO TH hst hk HPP
        rcases Nat.eq_zero_or_pos st with hs0 | hs0
        · subst hs0
          have hk0 : ¬ (k : Int) = 0 := by omega
          go_wp2_with fail
          refine TH1.mono ?_
          rintro e W1 ⟨rfl, hrd1, hf1⟩
          have S1 := H.out.1.step hR hf1 hrd1
          have FB := fieldWay_bad w0 W1 R m r1 room k n1 n2 hrd1 (HW.out.rf S1.rf) ho
          have q1 := q _ (S1.rf.trans (RF.of_below (alloc_below W1 (.cells #[.int .i64 (k : Int)] 3))))
          clear S1 H hrd HG HW
          go_wp2_with fail
          refine FB.mono ?_
          rintro e wx ⟨rfl, hwx⟩
          subst hwx
          unfold gives at q1 ⊢
          go_wp2_with fail
          exact ⟨rfl, q1⟩
        · have hs0' : ¬ (st : Int) = 0 := by omega
          go_wp2_with fail
          refine TH1.mono ?_
          rintro e W1 ⟨rfl, hrd1, hf1⟩
          have S1 := H.out.1.step hR hf1 hrd1
          have FB := fieldWay_bad w0 W1 R m r1 room k n1 n2 hrd1 (HW.out.rf S1.rf) ho
          have q1 := q _ (S1.rf.trans (RF.of_below (alloc_below W1 (.cells #[.int .i64 (k : Int)] 3))))
          clear S1 H hrd HG HW
          go_wp2_with fail
          refine FB.mono ?_
          rintro e wx ⟨rfl, hwx⟩
          subst hwx
          unfold gives at q1 ⊢
          go_wp2_with fail
          exact ⟨rfl, q1⟩
end Go.Proofs.Ytikoddlidhefpaa

/-
  The reader, whole: the ways at each room.
-/
namespace Go.Proofs.Ytikoddlidhefpaa
set_option linter.unusedVariables false
set_option linter.unusedSimpArgs false
open Go.ChangeShapes Go.WideShapes Go.ChangeAt Go.RowKit Go.Deep

theorem enter_1 (args : Array Value) (W : World) : (callFunc 77 args).run Try.prog W = .ok (.enter 77 args) W := enters_of Try.func77 (by kernel_rfl) rfl args W
theorem enter_3 (args : Array Value) (W : World) : (callFunc 78 args).run Try.prog W = .ok (.enter 78 args) W := enters_of Try.func78 (by kernel_rfl) rfl args W
theorem enter_4 (args : Array Value) (W : World) : (callFunc 93 args).run Try.prog W = .ok (.enter 93 args) W := enters_of Try.func93 (by kernel_rfl) rfl args W
theorem enter_7 (args : Array Value) (W : World) : (callFunc 80 args).run Try.prog W = .ok (.enter 80 args) W := enters_of Try.func80 (by kernel_rfl) rfl args W
theorem enter_8 (args : Array Value) (W : World) : (callFunc 81 args).run Try.prog W = .ok (.enter 81 args) W := enters_of Try.func81 (by kernel_rfl) rfl args W
theorem enter_n (args : Array Value) (W : World) : (callFunc 96 args).run Try.prog W = .ok (.enter 96 args) W := enters_of Try.func96 (by kernel_rfl) rfl args W
theorem enter_9 (args : Array Value) (W : World) : (callFunc 83 args).run Try.prog W = .ok (.enter 83 args) W := enters_of Try.func83 (by kernel_rfl) rfl args W
theorem enter_11 (args : Array Value) (W : World) : (callFunc 84 args).run Try.prog W = .ok (.enter 84 args) W := enters_of Try.func84 (by kernel_rfl) rfl args W
theorem enter_12 (args : Array Value) (W : World) : (callFunc 85 args).run Try.prog W = .ok (.enter 85 args) W := enters_of Try.func85 (by kernel_rfl) rfl args W

theorem rVal_leaf (r : Nat) (k : Int) (h9 : ¬ k = 9) (h11 : ¬ k = 11) (h12 : ¬ k = 12) (bs : List Nat) : rVal r k bs = rLeaf k bs := by
  cases r with
  | zero => rfl
  | succ r => simp only [rVal, if_neg h9, if_neg h11, if_neg h12]

theorem way_signed {w0 W : World} {R m : Nat} {room : Int} {k : Int} {most : Nat} {v : Value} (hk : i64ok k) (hm : most ≤ 18446744073709551615) (h : SBox W R k most v) : WayOf w0 W R m room v (rSigned k most) := by
  obtain ⟨b1, b2, b3, rfl, ⟨r1, r2, r3⟩, h1, h2, h3⟩ := h.is
  refine ⟨_, _, _, rfl, enter_4, fun W' bs hf hrd => ?_⟩
  exact signed1_any w0 W' R m bs room b1 b2 b3 k most hk hm hrd (cell_of_block (hf.box h1 (by omega)) rfl) (cell_of_block (hf.box h2 (by omega)) rfl) (cell_of_block (hf.box h3 (by omega)) rfl) (by omega) (by omega) (by omega)
theorem way_nested {w0 W : World} {R m r : Nat} {g : FuncId} {v : Value} {q : List Nat → RV} (hr : r ≤ 999) (hW : Ways W R m) (h : NBox W R g v) (eg : ∀ args W, (callFunc g args).run Try.prog W = .ok (.enter g args) W)
    (G : ∀ W bs, Rd w0 W R m bs (r : Int) → Ways W R m → TakesV g #[.pointer (some ⟨R, 0, none⟩)] w0 W R m (r : Int) (q bs)) : WayOf w0 W R m ((r + 1 : Nat) : Int) v q := by
  obtain ⟨b1, b2, rfl, ⟨r1, r2⟩, h1, h2⟩ := h.is
  refine ⟨_, _, _, rfl, enter_n, fun W' bs hf hrd => ?_⟩
  refine nested1_any w0 W' R m bs ((r + 1 : Nat) : Int) b1 b2 g (q bs) (by omega) (by omega) hrd (hW.rf hf) (hf.box h1 (by omega)) (hf.box h2 (by omega)) r1 r2 eg fun W'' h3 h4 => ?_
  have e : ((r + 1 : Nat) : Int) - 1 = (r : Int) := by omega
  rw [e] at h3 ⊢
  exact G W'' bs h3 h4

/-- a value of a Kind is taken as the parse says, wherever there is room -/
theorem ways_all (w0 : World) (R m : Nat) : ∀ (r : Nat), r ≤ 999 → ∀ (k : Int) (v : Value) (W : World), wayOk k (r : Int) = true → Ways W R m → WayIs W R k v → WayOf w0 W R m (r : Int) v (rVal r k) := by
  intro r
  induction r with
  | zero =>
    intro _ k v W ho hW hi
    have leaf : ∀ {q : List Nat → RV}, ¬ k = 9 → ¬ k = 11 → ¬ k = 12 → (∀ bs, q bs = rLeaf k bs) → WayOf w0 W R m ((0 : Nat) : Int) v q → WayOf w0 W R m ((0 : Nat) : Int) v (rVal 0 k) := fun a b c e h => by
      have : rVal 0 k = _ := funext fun bs => (rVal_leaf 0 k a b c bs).trans (e bs).symm
      rw [this]; exact h
    rcases hi with ⟨rfl, rfl⟩ | ⟨rfl, rfl⟩ | ⟨rfl, hs⟩ | ⟨rfl, hs⟩ | ⟨rfl, hs⟩ | ⟨rfl, rfl⟩ | ⟨rfl, rfl⟩ | ⟨rfl, hs⟩ | ⟨rfl, hs⟩ | ⟨rfl, hs⟩
    · exact leaf (q := rTruth) (by omega) (by omega) (by omega) (fun _ => rfl) ⟨_, _, _, rfl, enter_1, fun W' bs _ hrd => truth_any w0 W' R m bs _ hrd⟩
    · exact leaf (q := rSmall) (by omega) (by omega) (by omega) (fun _ => rfl) ⟨_, _, _, rfl, enter_3, fun W' bs _ hrd => small_any w0 W' R m bs _ hrd⟩
    · exact leaf (by omega) (by omega) (by omega) (fun _ => rfl) (way_signed ⟨by omega, by omega⟩ (by omega) hs)
    · exact leaf (by omega) (by omega) (by omega) (fun _ => rfl) (way_signed ⟨by omega, by omega⟩ (by omega) hs)
    · exact leaf (by omega) (by omega) (by omega) (fun _ => rfl) (way_signed ⟨by omega, by omega⟩ (by omega) hs)
    · exact leaf (q := rDouble) (by omega) (by omega) (by omega) (fun _ => rfl) ⟨_, _, _, rfl, enter_7, fun W' bs _ hrd => double_any w0 W' R m bs _ hrd⟩
    · exact leaf (q := rTextV) (by omega) (by omega) (by omega) (fun _ => rfl) ⟨_, _, _, rfl, enter_8, fun W' bs _ hrd => text_any w0 W' R m bs _ hrd⟩
    · exact absurd ho (by decide)
    · exact absurd ho (by decide)
    · exact absurd ho (by decide)
  | succ r ih =>
    intro hr k v W ho hW hi
    have HP := ih (by omega)
    have leaf : ∀ {q : List Nat → RV}, ¬ k = 9 → ¬ k = 11 → ¬ k = 12 → (∀ bs, q bs = rLeaf k bs) → WayOf w0 W R m ((r + 1 : Nat) : Int) v q → WayOf w0 W R m ((r + 1 : Nat) : Int) v (rVal (r + 1) k) := fun a b c e h => by
      have : rVal (r + 1) k = _ := funext fun bs => (rVal_leaf (r + 1) k a b c bs).trans (e bs).symm
      rw [this]; exact h
    rcases hi with ⟨rfl, rfl⟩ | ⟨rfl, rfl⟩ | ⟨rfl, hs⟩ | ⟨rfl, hs⟩ | ⟨rfl, hs⟩ | ⟨rfl, rfl⟩ | ⟨rfl, rfl⟩ | ⟨rfl, hs⟩ | ⟨rfl, hs⟩ | ⟨rfl, hs⟩
    · exact leaf (q := rTruth) (by omega) (by omega) (by omega) (fun _ => rfl) ⟨_, _, _, rfl, enter_1, fun W' bs _ hrd => truth_any w0 W' R m bs _ hrd⟩
    · exact leaf (q := rSmall) (by omega) (by omega) (by omega) (fun _ => rfl) ⟨_, _, _, rfl, enter_3, fun W' bs _ hrd => small_any w0 W' R m bs _ hrd⟩
    · exact leaf (by omega) (by omega) (by omega) (fun _ => rfl) (way_signed ⟨by omega, by omega⟩ (by omega) hs)
    · exact leaf (by omega) (by omega) (by omega) (fun _ => rfl) (way_signed ⟨by omega, by omega⟩ (by omega) hs)
    · exact leaf (by omega) (by omega) (by omega) (fun _ => rfl) (way_signed ⟨by omega, by omega⟩ (by omega) hs)
    · exact leaf (q := rDouble) (by omega) (by omega) (by omega) (fun _ => rfl) ⟨_, _, _, rfl, enter_7, fun W' bs _ hrd => double_any w0 W' R m bs _ hrd⟩
    · exact leaf (q := rTextV) (by omega) (by omega) (by omega) (fun _ => rfl) ⟨_, _, _, rfl, enter_8, fun W' bs _ hrd => text_any w0 W' R m bs _ hrd⟩
    · have e : rVal (r + 1) 9 = rList r (rVal r) := funext fun bs => rfl
      rw [e]
      exact way_nested (by omega) hW hs enter_9 fun W' bs hrd hw' => list_any w0 W' R m bs r (rVal r) hrd hw' HP
    · have e : rVal (r + 1) 11 = rDict r (rVal r) := funext fun bs => rfl
      rw [e]
      exact way_nested (by omega) hW hs enter_11 fun W' bs hrd hw' => dict_any w0 W' R m bs r (rVal r) hrd hw' HP
    · have e : rVal (r + 1) 12 = rStruct r (rVal r) := funext fun bs => rfl
      rw [e]
      exact way_nested (by omega) hW hs enter_12 fun W' bs hrd hw' => structure_any w0 W' R m bs r (rVal r) hrd hw' (good_val r) HP
end Go.Proofs.Ytikoddlidhefpaa

/-
  Read.
-/
namespace Go.Proofs.Ytikoddlidhefpaa
set_option linter.unusedVariables false
set_option linter.unusedSimpArgs false
open Go.ChangeShapes Go.WideShapes Go.ChangeAt Go.RowKit Go.Deep

theorem one_setCell {w : World} {b : Nat} {x u : Value} {t : TypeId} (h : w.heap[b]? = some (.cells #[x] t (0, 0))) : (w.setCell ⟨b, 0, none⟩ u).heap[b]? = some (.cells #[u] t (0, 0)) := by
  have e := set_block (j := 0) (u := u) h
  simpa using e
theorem lt_of_heap {w : World} {b : Nat} {o : Obj} (h : w.heap[b]? = some o) : b < w.heap.size := (Array.getElem?_eq_some_iff.1 h).1

set_option maxRecDepth 10000 in
set_option maxHeartbeats 1000000 in
theorem catch_ends (b : Nat) (x : Value) (w : World) (hb : w.heap[b]? = some (.cells #[x] 30 (0, 0))) :
    CallsD Try.prog 37 #[.pointer (some ⟨b, 0, none⟩)] (.panicking [{ v := .iface 63 (.agg #[]), recovered := false }]) w fun e u' w' =>
      e = .returned (.tuple #[]) ∧ u' = .panicking [{ v := .iface 63 (.agg #[]), recovered := true }] ∧ Below b w w' ∧ w'.heap[b]? = some (.cells #[.int .i64 6] 30 (0, 0)) := by
  have c0 : w.cell? ⟨b, 0, none⟩ = some x := cell_of_block hb rfl
  have f0 : w.frozen? ⟨b, 0, none⟩ = false := frozen_of_block hb
  have hlt := lt_of_heap hb
  have t1 : ∀ W : World, (Instr.typeAssert (.iface 63 (.agg #[])) 20 63 true).run Try.prog W = .ok (.tuple #[.agg #[], .bool true]) W := fun W => by kernel_rfl
  refine callsD_of_wpS Try.func37 rfl fun c₀ cs hu => ?_
  apply wpS_seq
  apply wpS_region
  simp [wpOpsS, go_sem, recoverD, hu, Try.ntmps37, Exit.thenS, Array.replicate, List.replicate]
  refine wpS_of_wp ?_
  go_wp2
  simp [bodyPostS, results, Try.results37]
  exact ⟨((Below.refl b w).setCell (p := ⟨b, 0, none⟩) (Nat.le_refl _) _).alloc (by simp [World.setCell]; omega) _, by rw [(alloc_below _ _).block b (by simp [World.setCell]; omega)]; exact one_setCell hb⟩
set_option maxRecDepth 10000 in
set_option maxHeartbeats 1000000 in
theorem catch_not (b : Nat) (x : Value) (w : World) (hb : w.heap[b]? = some (.cells #[x] 30 (0, 0))) :
    CallsD Try.prog 37 #[.pointer (some ⟨b, 0, none⟩)] (.panicking [{ v := .iface 64 (.agg #[]), recovered := false }]) w fun e u' w' =>
      e = .returned (.tuple #[]) ∧ u' = .panicking [{ v := .iface 64 (.agg #[]), recovered := true }] ∧ Below b w w' ∧ w'.heap[b]? = some (.cells #[.int .i64 8] 30 (0, 0)) := by
  have c0 : w.cell? ⟨b, 0, none⟩ = some x := cell_of_block hb rfl
  have f0 : w.frozen? ⟨b, 0, none⟩ = false := frozen_of_block hb
  have hlt := lt_of_heap hb
  have t0 : ∀ W : World, (Instr.typeAssert (.iface 64 (.agg #[])) 20 63 true).run Try.prog W = .ok (.tuple #[.agg #[], .bool false]) W := fun W => by kernel_rfl
  have t1 : ∀ W : World, (Instr.typeAssert (.iface 64 (.agg #[])) 20 64 true).run Try.prog W = .ok (.tuple #[.agg #[], .bool true]) W := fun W => by kernel_rfl
  refine callsD_of_wpS Try.func37 rfl fun c₀ cs hu => ?_
  apply wpS_seq
  apply wpS_region
  simp [wpOpsS, go_sem, recoverD, hu, Try.ntmps37, Exit.thenS, Array.replicate, List.replicate]
  refine wpS_of_wp ?_
  go_wp2
  simp [bodyPostS, results, Try.results37]
  exact ⟨((Below.refl b w).setCell (p := ⟨b, 0, none⟩) (Nat.le_refl _) _).alloc (by simp [World.setCell]; omega) _, by rw [(alloc_below _ _).block b (by simp [World.setCell]; omega)]; exact one_setCell hb⟩
set_option maxRecDepth 10000 in
set_option maxHeartbeats 1000000 in
theorem catch_idle (b : Nat) (w : World) :
    CallsD Try.prog 37 #[.pointer (some ⟨b, 0, none⟩)] .returning w fun e u' w' => e = .returned (.tuple #[]) ∧ u' = .returning ∧ w' = w := by
  refine callsD_of_wpS Try.func37 rfl fun c₀ cs hu => ?_
  apply wpS_seq
  apply wpS_region
  simp [wpOpsS, go_sem, recoverD, hu, Try.ntmps37, Exit.thenS, Array.replicate, List.replicate]
  refine wpS_of_wp ?_
  go_wp2
  cases c₀
  simp_all [bodyPostS, results, Try.results37]

/-- why it was given up, as a number -/
def why (s : Bool) : Int := if s then 6 else 8
theorem catch_any (b : Nat) (x : Value) (w : World) (s : Bool) (hb : w.heap[b]? = some (.cells #[x] 30 (0, 0))) :
    CallsD Try.prog 37 #[.pointer (some ⟨b, 0, none⟩)] (.panicking [{ v := .iface (if s then 63 else 64) (.agg #[]), recovered := false }]) w fun e u' w' =>
      e = .returned (.tuple #[]) ∧ u' = .panicking [{ v := .iface (if s then 63 else 64) (.agg #[]), recovered := true }] ∧ Below b w w' ∧ w'.heap[b]? = some (.cells #[.int .i64 (why s)] 30 (0, 0)) := by
  cases s
  · exact catch_not b x w hb
  · exact catch_ends b x w hb
theorem read_boxes (w : World) : Below w.heap.size w ((zbox w).alloc (.cells #[.int .i64 0] 30)) ∧ ((zbox w).alloc (.cells #[.int .i64 0] 30)).heap[w.heap.size]? = some (.cells #[.int .i64 0, .int .i64 0, .int .i64 0, .int .i64 0, .string { data := #[] }, .slice none 0 0, .slice none 0 0] 26 (0, 0)) ∧
    ((zbox w).alloc (.cells #[.int .i64 0] 30)).heap[w.heap.size + 1]? = some (.cells #[.int .i64 0] 30 (0, 0)) ∧ ((zbox w).alloc (.cells #[.int .i64 0] 30)).heap.size = w.heap.size + 2 := by
  have hs : (zbox w).heap.size = w.heap.size + 1 := by simp [zbox]
  have h1 := alloc_below (zbox w) (.cells #[.int .i64 0] 30)
  rw [hs] at h1
  refine ⟨Below.trans (alloc_below w _) (h1.mono (Nat.le_succ _)), ?_, ?_, by simp [zbox]⟩
  · rw [h1.block _ (Nat.lt_succ_self _)]
    exact heap_new w _
  · have := heap_new (zbox w) (.cells #[.int .i64 0] 30)
    rwa [hs] at this
/-- the three results of Read -/
theorem results_read (tmps : Array Value) (w : World) (b d : Nat) (x : Int) (hp : tmps.getD 2 undef = .pointer (some ⟨b, 0, none⟩)) (hx : tmps.getD 3 undef = .int .i64 x) (hd : tmps.getD 4 undef = .pointer (some ⟨d, 0, none⟩)) (cs : List Value) (hl : cs.length = 7)
    (hc : ∀ j u, cs[j]? = some u → w.cell? ⟨b, 0 + j, none⟩ = some u) (e : Value) (he : w.cell? ⟨d, 0, none⟩ = some e) : (results Try.f21 tmps).run Try.prog w = .ok (.tuple #[.agg cs.toArray, .int .i64 x, e]) w := by
  have hp' : tmps[2]?.getD undef = .pointer (some ⟨b, 0, none⟩) := by simpa using hp
  have hx' : tmps[3]?.getD undef = .int .i64 x := by simpa using hx
  have hd' : tmps[4]?.getD undef = .pointer (some ⟨d, 0, none⟩) := by simpa using hd
  have hld : (loadCells ⟨b, 0, none⟩ cs.length).run Try.prog w = .ok cs.toArray w :=
    run_loadCells_list (P := Try.prog) w ⟨b, 0, none⟩ cs (fun j v hv => by
      have hadd : (⟨b, 0, none⟩ : Addr).add j = ⟨b, 0 + j, none⟩ := by unfold Addr.add; split <;> simp_all
      rw [hadd]
      exact hc j v hv)
  rw [hl] at hld
  have hagg : (isAgg 26).run Try.prog w = .ok true w := by
    unfold isAgg
    rw [Sem.run_bind, run_underlying Try.underlying26 w]
    simp
  have hi := infoTh
  cases hq : Try.prog.info? 26 with
  | none => simp [hq] at hi
  | some i =>
    have hs : i.size = 7 := by simpa [hq] using hi
    have hr : Try.f21.results = #[.cell 2 26, .tmp 3, .cell 4 30] := rfl
    have hl7 : (loadVar 26 ⟨b, 0, none⟩).run Try.prog w = .ok (.agg cs.toArray) w := by simp [loadVar, Sem.run_bind, hagg, sizeOf, typeInfo, hq, hs, hld]
    have hle : (loadVar 30 ⟨d, 0, none⟩).run Try.prog w = .ok e w := by simp [loadVar, go_sem, he]
    simp [results, hr, hp', hx', hd', asAddr, hl7, hle, Sem.run_bind]
theorem gives_ends (s : Bool) : gives s = .panicked [{ v := .iface (if s then 63 else 64) (.agg #[]), recovered := false }] := rfl
set_option maxRecDepth 10000 in
set_option maxHeartbeats 1000000 in
theorem read_q (w : World) (a : Option Addr) (bs : List Nat) (cp : Nat) (hs : Src w a bs.length cp (c8 bs)) (hc : bs.length ≤ cp) (hl : bs.length ≤ 140737488355328) (h8 : ∀ c ∈ bs, c < 256) (Q : Ending → World → Prop)
    (QOK : ∀ p c rest v w', rRead bs = .ok ((p, c), rest) → Below w.heap.size w w' → VX (fun b => w.heap.size ≤ b) w' p c v → Q (.returned (.tuple #[v, .int .i64 ((bs.length : Int) - (rest.length : Int)), .int .i64 0])) w')
    (QNO : ∀ s w', rRead bs = .error s → Below w.heap.size w w' → Q (.returned (.tuple #[.agg #[.int .i64 0, .int .i64 0, .int .i64 0, .int .i64 0, .string { data := #[] }, .slice none 0 0, .slice none 0 0], .int .i64 0, .int .i64 (why s)])) w') :
    Calls Try.prog 21 #[.slice a bs.length cp] w Q := by
  have hmf : ∀ (fn : Fn) (first cap : Array Value) (w : World), (Instr.makeFunc fn first cap).run Try.prog w = .ok (.func fn first cap) w := fun _ _ _ _ => rfl
  obtain ⟨hab, hbz, hbe, hbs⟩ := read_boxes w
  have N := newReader_any ((zbox w).alloc (.cells #[.int .i64 0] 30)) a bs cp (hs.later hab) hc hl h8
  rw [hbs] at N
  obtain ⟨L, hL⟩ : ∃ L, L = bs.length := ⟨_, rfl⟩
  have HL : Hid (L = bs.length) := hL
  rw [← hL] at N hl hc QOK ⊢
  clear hL hs
  have HZ : Hid (((zbox w).alloc (.cells #[.int .i64 0] 30)).heap[w.heap.size]? = some (.cells #[.int .i64 0, .int .i64 0, .int .i64 0, .int .i64 0, .string { data := #[] }, .slice none 0 0, .slice none 0 0] 26 (0, 0))) := hbz
  have HE : Hid (((zbox w).alloc (.cells #[.int .i64 0] 30)).heap[w.heap.size + 1]? = some (.cells #[.int .i64 0] 30 (0, 0))) := hbe
  clear hbz hbe
  go_enter_defers Try.func21, Try.ntmps21
  go_wp2_with fail
  refine N.mono ?_
  rintro e W1 ⟨m, rfl, hrd, hW, hb1⟩
  have WO := way_ok _ W1 _ m bs 32 12 hrd hW rfl
  have z1 := by have h := HZ.out; rw [← hb1.block _ (by omega)] at h; exact h
  have e1 := by have h := HE.out; rw [← hb1.block _ (by omega)] at h; exact h
  have hbw : Below w.heap.size w W1 := hab.trans (hb1.mono (by omega))
  clear HZ HE N
  generalize (zbox w).alloc (.cells #[.int .i64 0] 30) = W0 at *
  go_wp2_with fail
  refine WO.mono ?_
  rintro e wx ⟨⟨fn, fa, fb, rfl, hwi⟩, hwx⟩
  obtain rfl := hwx.symm
  obtain ⟨f, fa', fb', ef, eg, G⟩ := ways_all W0 (w.heap.size + 2) m 32 (by omega) 12 _ W1 rfl hW hwi
  cases ef
  have GG := G W1 bs (RF.refl _ _) hrd
  clear G WO hwi
  go_wp2_with fail
  refine GG _ ?_ ?_
  · intro p c rest W2 v he hf2 hrd2 hvx
    have he' : rRead bs = .ok ((p, c), rest) := he
    have z2 := hf2.box z1 (by omega)
    have e2 := hf2.box e1 (by omega)
    have hbw2 : Below w.heap.size w W2 := hbw.trans ((hf2.below (Nat.le_of_lt hrd.lt)).mono (by omega))
    obtain ⟨iv, lv, rfl, hp, hlc, hi, ys, hy, hel⟩ := hvx
    obtain ⟨ia, ic, rfl⟩ := own_sl hi.1
    obtain ⟨la, lc, rfl⟩ := own_sl hy.1
    obtain ⟨⟨q0, q1, q2, q3, q4, q5, q6⟩, g0, g1, g2, g3, g4, g5, g6⟩ := blk7 z2
    obtain ⟨s1, s2⟩ := store7 z2 (.int .i64 p.kind) (.int .i64 p.key) (.int .i64 p.elem) (.int .i64 p.num) (.string p.text) (.slice ia p.ids.length ic) (.slice la (flen c) lc)
    have HX : Hid (VX (fun b => w.heap.size + 1 < b) W2 p c (.agg #[.int .i64 p.kind, .int .i64 p.key, .int .i64 p.elem, .int .i64 p.num, .string p.text, .slice ia p.ids.length ic, .slice la (flen c) lc])) := VX.mono ⟨_, _, rfl, hp, hlc, hi, ys, hy, hel⟩ (fun b hb => by have := hbw.size; have := hb1.size; omega)
    have HRL : Hid (rest.length ≤ bs.length) := good_len good_read he'
    clear GG hrd hW hp hlc hi hy hel
    go_wp2_with fail
    generalize hW3 : ((((((W2.setCell ⟨w.heap.size, 0, none⟩ (.int .i64 p.kind)).setCell ⟨w.heap.size, 1, none⟩ (.int .i64 p.key)).setCell ⟨w.heap.size, 2, none⟩ (.int .i64 p.elem)).setCell ⟨w.heap.size, 3, none⟩ (.int .i64 p.num)).setCell ⟨w.heap.size, 4, none⟩ (.string p.text)).setCell ⟨w.heap.size, 5, none⟩ (.slice ia p.ids.length ic)).setCell ⟨w.heap.size, 6, none⟩ (.slice la (flen c) lc) = W3 at *
    have e3 : W3.heap[w.heap.size + 1]? = some (.cells #[.int .i64 0] 30 (0, 0)) := by rw [s2.block _ (by omega)]; exact e2
    obtain ⟨ra, rc, hbox2, _⟩ := hrd2.box
    have hbox := (s2.block (w.heap.size + 2) (by omega)).trans hbox2
    have hbw3 : Below w.heap.size w W3 := ⟨s2.os.trans hbw2.os, s2.tape.trans hbw2.tape, s2.output.trans hbw2.output, by rw [← s2.size]; exact hbw2.size, fun k hk => by rw [s2.block k (by omega), hbw2.block k hk]⟩
    clear hW3 q0 q1 q2 q3 q4 q5 q6 g0 g1 g2 g3 g4 g5 g6 z2 e2 hrd2
    obtain ⟨⟨q0, q1, q2, q3, q4, q5, q6⟩, g0, g1, g2, g3, g4, g5, g6⟩ := blk7 s1
    have r0 : W3.cell? ⟨w.heap.size + 2, 0, none⟩ = some (.slice ra rest.length rc) := cell_of_block hbox rfl
    have x0 : W3.cell? ⟨w.heap.size + 1, 0, none⟩ = some (.int .i64 0) := cell_of_block e3 rfl
    have y0 : W3.frozen? ⟨w.heap.size + 1, 0, none⟩ = false := frozen_of_block e3
    have hrl : (rest.length : Int) ≤ L := by have := HRL.out; have := HL.out; omega
    have hL' : (L : Int) ≤ 140737488355328 := by omega
    obtain ⟨s3, s4⟩ := store7 s1 (.int .i64 p.kind) (.int .i64 p.key) (.int .i64 p.elem) (.int .i64 p.num) (.string p.text) (.slice ia p.ids.length ic) (.slice la (flen c) lc)
    go_region
    clear q0 q1 q2 q3 q4 q5 q6 g0 g1 g2 g3 g4 g5 g6 r0 x0 y0 hbox
    generalize hW4 : ((((((W3.setCell ⟨w.heap.size, 0, none⟩ (.int .i64 p.kind)).setCell ⟨w.heap.size, 1, none⟩ (.int .i64 p.key)).setCell ⟨w.heap.size, 2, none⟩ (.int .i64 p.elem)).setCell ⟨w.heap.size, 3, none⟩ (.int .i64 p.num)).setCell ⟨w.heap.size, 4, none⟩ (.string p.text)).setCell ⟨w.heap.size, 5, none⟩ (.slice ia p.ids.length ic)).setCell ⟨w.heap.size, 6, none⟩ (.slice la (flen c) lc) = W4 at *
    have O5 : Only (w.heap.size + 1) W4 (W4.setCell ⟨w.heap.size + 1, 0, none⟩ (.int .i64 0)) := (Only.refl _ _).set _ _
    have e4 : W4.heap[w.heap.size + 1]? = some (.cells #[.int .i64 0] 30 (0, 0)) := by rw [s4.block _ (by omega)]; exact e3
    have e5 := one_setCell (u := .int .i64 0) e4
    have z5 := (O5.block w.heap.size (by omega)).trans s3
    have HX5 : Hid (VX (fun b => w.heap.size ≤ b) (W4.setCell ⟨w.heap.size + 1, 0, none⟩ (.int .i64 0)).drew p c (.agg #[.int .i64 p.kind, .int .i64 p.key, .int .i64 p.elem, .int .i64 p.num, .string p.text, .slice ia p.ids.length ic, .slice la (flen c) lc])) := by
      have k0 : VX (fun b => w.heap.size + 1 < b) W2 p c (.agg #[.int .i64 p.kind, .int .i64 p.key, .int .i64 p.elem, .int .i64 p.num, .string p.text, .slice ia p.ids.length ic, .slice la (flen c) lc]) := HX.out
      have k1 := k0.kept (w' := W3) fun k h1 h2 => s2.block k (by omega)
      have k2 := k1.kept (w' := W4) fun k h1 h2 => s4.block k (by omega)
      have k3 := k2.kept (w' := W4.setCell ⟨w.heap.size + 1, 0, none⟩ (.int .i64 0)) fun k h1 h2 => O5.block k (by omega)
      exact (k3.kept (w' := (W4.setCell ⟨w.heap.size + 1, 0, none⟩ (.int .i64 0)).drew) fun k h1 h2 => rfl).mono fun b hb => by omega
    have hbw5 : Below w.heap.size w (W4.setCell ⟨w.heap.size + 1, 0, none⟩ (.int .i64 0)).drew := by
      have h4 : Below w.heap.size w W4 := ⟨s4.os.trans hbw3.os, s4.tape.trans hbw3.tape, s4.output.trans hbw3.output, by rw [← s4.size]; exact hbw3.size, fun k hk => by rw [s4.block k (by omega), hbw3.block k hk]⟩
      exact (h4.setCell (p := ⟨w.heap.size + 1, 0, none⟩) (Nat.le_succ _) _).drew
    have q := QOK p c rest _ _ he' hbw5 HX5.out
    generalize W4.setCell ⟨w.heap.size + 1, 0, none⟩ (.int .i64 0) = W5 at *
    clear QOK QNO HX HX5
    go_wp2_with fail
    refine leaves_cons (f := 37) (args := #[.pointer (some ⟨w.heap.size + 1, 0, none⟩)]) (by simp) (by simp [go_sem]) ?_
    refine (catch_idle (w.heap.size + 1) W5.drew).mono ?_
    rintro e u' W6 ⟨rfl, rfl, hw6⟩
    obtain rfl := hw6.symm
    exact ⟨_, results_read _ W5.drew w.heap.size (w.heap.size + 1) _ rfl rfl rfl _ rfl (cells_of_block (show W5.drew.heap[w.heap.size]? = _ from z5)) _ (cell_of_block (show W5.drew.heap[w.heap.size + 1]? = _ from e5) rfl), q⟩
  · intro s W2 he hf2
    have z2 := hf2.box z1 (by omega)
    have e2 := hf2.box e1 (by omega)
    have hbw2 : Below w.heap.size w W2 := hbw.trans ((hf2.below (Nat.le_of_lt hrd.lt)).mono (by omega))
    clear GG hrd hW
    cases s
    · have C := catch_not (w.heap.size + 1) _ W2 e2
      have q := fun w' hb => QNO false w' he hb
      clear QOK QNO
      unfold gives
      go_wp2_with fail
      refine leaves_cons (f := 37) (args := #[.pointer (some ⟨w.heap.size + 1, 0, none⟩)]) (by simp) (by simp [go_sem]) ?_
      refine C.mono ?_
      rintro e u' W3 ⟨rfl, rfl, hb3, e3⟩
      have z3 : W3.heap[w.heap.size]? = some (.cells #[.int .i64 0, .int .i64 0, .int .i64 0, .int .i64 0, .string { data := #[] }, .slice none 0 0, .slice none 0 0] 26 (0, 0)) := (hb3.block w.heap.size (by omega)).trans z2
      have q1 := q W3 (hbw2.trans (hb3.mono (by omega)))
      exact ⟨_, results_read _ W3 w.heap.size (w.heap.size + 1) 0 rfl rfl rfl _ rfl (cells_of_block z3) _ (cell_of_block e3 rfl), q1⟩
    · have C := catch_ends (w.heap.size + 1) _ W2 e2
      have q := fun w' hb => QNO true w' he hb
      clear QOK QNO
      unfold gives
      go_wp2_with fail
      refine leaves_cons (f := 37) (args := #[.pointer (some ⟨w.heap.size + 1, 0, none⟩)]) (by simp) (by simp [go_sem]) ?_
      refine C.mono ?_
      rintro e u' W3 ⟨rfl, rfl, hb3, e3⟩
      have z3 : W3.heap[w.heap.size]? = some (.cells #[.int .i64 0, .int .i64 0, .int .i64 0, .int .i64 0, .string { data := #[] }, .slice none 0 0, .slice none 0 0] 26 (0, 0)) := (hb3.block w.heap.size (by omega)).trans z2
      have q1 := q W3 (hbw2.trans (hb3.mono (by omega)))
      exact ⟨_, results_read _ W3 w.heap.size (w.heap.size + 1) 0 rfl rfl rfl _ rfl (cells_of_block z3) _ (cell_of_block e3 rfl), q1⟩
end Go.Proofs.Ytikoddlidhefpaa
