/-
  A structure's two rows while it is taken; the way of a field.
-/
import Derived.Test.YtikoddlidhefpaaRdN
import Derived.Test.YtikoddlidhefpaaGood
import Derived.Shelf.Abstract
namespace Go.Proofs.Ytikoddlidhefpaa
set_option linter.unusedVariables false
set_option linter.unusedSimpArgs false
open Go.ChangeShapes Go.WideShapes Go.ChangeAt Go.RowKit Go.Deep

theorem row_own {B : Nat} {w : World} {e : TypeId} {s : Nat} {v : Value} {n : Nat} {xs : List Value} (h : w.ownsRow B e s v n xs) : ∀ g, v.ownBlock = some g → B ≤ g ∧ g < w.heap.size := by
  intro g hg
  rcases h.2 with ⟨rfl, _⟩ | ⟨g', cap, cur, rfl, e2, e3, _⟩
  · cases hg
  · cases hg
    exact ⟨e2, (Array.getElem?_eq_some_iff.1 e3).1⟩
theorem row_kept {B : Nat} {w w' : World} {e : TypeId} {s : Nat} {v : Value} {n : Nat} {xs : List Value} (h : w.ownsRow B e s v n xs) (hk : ∀ g, v.ownBlock = some g → w'.heap[g]? = w.heap[g]?) : w'.ownsRow B e s v n xs := by
  refine ⟨h.1, ?_⟩
  rcases h.2 with h3 | ⟨g, cap, cur, rfl, e2, e3, rest⟩
  · exact .inl h3
  · exact .inr ⟨g, cap, cur, rfl, e2, by rw [hk g rfl, e3], rest⟩
theorem row_zero {B : Nat} {w : World} {e : TypeId} {s : Nat} {v : Value} {n : Nat} {xs : List Value} (h : w.ownsRow B e s v n xs) : w.ownsRow 0 e s v n xs := by
  refine ⟨h.1, ?_⟩
  rcases h.2 with h3 | ⟨g, cap, cur, e1, e2, rest⟩
  · exact .inl h3
  · exact .inr ⟨g, cap, cur, e1, Nat.zero_le _, rest⟩

/-- a structure's rows, of its numbers and of its values: none lies in a block of another -/
structure StX (B : Nat) (w : World) (ids : List Int) (iv : Value) (f : Fo) (lv : Value) : Prop where
  idn : w.ownsRow B 3 1 iv ids.length (c64 ids)
  row : ∃ ys, w.ownsRow B 26 7 lv (flen f) ys ∧ ElemsX (fun b => (B ≤ b ∧ lv.ownBlock ≠ some b ∧ iv.ownBlock ≠ some b) ∧ b < w.heap.size) w f ys
  ne : ∀ g, iv.ownBlock = some g → lv.ownBlock ≠ some g
theorem StX.nil (B : Nat) (w : World) : StX B w [] (.slice none 0 0) .nil (.slice none 0 0) := ⟨World.ownsRow_nil _ _ _ _, ⟨[], World.ownsRow_nil _ _ _ _, rfl⟩, fun g h => by cases h⟩
theorem StX.kept {B : Nat} {w w' : World} {ids : List Int} {iv lv : Value} {f : Fo} (h : StX B w ids iv f lv) (hs : w.heap.size ≤ w'.heap.size) (hk : ∀ k, k < w.heap.size → B ≤ k → w'.heap[k]? = w.heap[k]?) : StX B w' ids iv f lv := by
  obtain ⟨ys, h1, h2⟩ := h.row
  exact ⟨row_kept h.idn fun g hg => hk g (row_own h.idn g hg).2 (row_own h.idn g hg).1, ⟨ys, row_kept h1 fun g hg => hk g (row_own h1 g hg).2 (row_own h1 g hg).1, (h2.kept fun k e1 e2 => hk k e1 e2.1.1).mono fun b hb => ⟨hb.1, Nat.lt_of_lt_of_le hb.2 hs⟩⟩, h.ne⟩
theorem StX.rf {B R : Nat} {w w' : World} {ids : List Int} {iv lv : Value} {f : Fo} (h : StX B w ids iv f lv) (hR : R < B) (hf : RF R w w') : StX B w' ids iv f lv := h.kept hf.size fun k h1 h2 => hf.block k h1 (by omega)
theorem StX.only {B b : Nat} {w w' : World} {ids : List Int} {iv lv : Value} {f : Fo} (h : StX B w ids iv f lv) (hb : b < B) (ho : Only b w w') : StX B w' ids iv f lv := h.kept (Nat.le_of_eq ho.size) fun k h1 h2 => ho.block k (by omega)

/-- one number more -/
theorem StX.addId {B : Nat} {w w1 : World} {ids : List Int} {iv lv : Value} {f : Fo} {i : Int} (h : StX B w ids iv f lv) (hb : Below w.heap.size w w1) (hB : B ≤ w.heap.size) :
    ∀ v' w2, w2.ownsRow B 3 1 v' (ids.length + 1) (c64 ids ++ [.int .i64 i]) → w1.grownBy w2 iv.ownBlock → (v'.ownBlock = iv.ownBlock ∨ w2.ownsRow w1.heap.size 3 1 v' (ids.length + 1) (c64 ids ++ [.int .i64 i])) →
      StX B w2 (ids ++ [i]) v' f lv ∧ Below B w w2 ∧ ∀ k, k < w.heap.size → iv.ownBlock ≠ some k → w2.heap[k]? = w.heap[k]? := by
  intro v' w2 g1 hg g2
  obtain ⟨ys, h1, h2⟩ := h.row
  have hs : w.heap.size ≤ w2.heap.size := Nat.le_trans hb.size hg.size
  have hk : ∀ k, k < w.heap.size → iv.ownBlock ≠ some k → w2.heap[k]? = w.heap[k]? := fun k e1 e2 => by rw [hg.block k (Nat.lt_of_lt_of_le e1 hb.size) (fun e => e2 e.symm), hb.block k e1]
  have hnew : ∀ b, b < w.heap.size → iv.ownBlock ≠ some b → v'.ownBlock ≠ some b := by
    intro b hb1 hne e
    rcases g2 with g2 | g2
    · exact hne (g2 ▸ e)
    · have := (row_own g2 b e).1
      have := hb.size
      omega
  refine ⟨⟨?_, ⟨ys, row_kept h1 fun g hg => hk g (row_own h1 g hg).2 fun e => h.ne g e hg, (h2.kept fun k e1 e2 => hk k e1 e2.1.2.2).mono fun b hb' => ⟨⟨hb'.1.1, hb'.1.2.1, hnew b hb'.2 hb'.1.2.2⟩, Nat.lt_of_lt_of_le hb'.2 hs⟩⟩, fun g e1 e2 => ?_⟩, ?_, hk⟩
  · have e : c64 (ids ++ [i]) = c64 ids ++ [.int .i64 i] := by simp [c64]
    rw [e, List.length_append]
    exact g1
  · have hgl := (row_own h1 g e2).2
    refine hnew g hgl (fun e => h.ne g e e2) e1
  · refine ⟨hg.os.trans hb.os, hg.tape.trans hb.tape, hg.output.trans hb.output, hs, fun k hk' => ?_⟩
    exact hk k (by omega) fun e => by have := (row_own h.idn k e).1; omega
/-- one value more: its rows lie from N on -/
theorem StX.addVal {B N : Nat} {w1 w2 : World} {ids : List Int} {iv lv : Value} {f : Fo} {p : Pay} {c : Fo} {jv kv : Value} {ys : List Value} (h : StX B w1 ids iv f lv) (h1 : w1.ownsRow B 26 7 lv (flen f) ys) (h2 : ElemsX (fun b => (B ≤ b ∧ lv.ownBlock ≠ some b ∧ iv.ownBlock ≠ some b) ∧ b < w1.heap.size) w1 f ys)
    (hNi : ∀ g, iv.ownBlock = some g → g < N) (hNl : ∀ g, lv.ownBlock = some g → g < N) (hBN : B ≤ N)
    (hx : VX (fun b => N ≤ b) w1 p c (.agg #[.int .i64 p.kind, .int .i64 p.key, .int .i64 p.elem, .int .i64 p.num, .string p.text, jv, kv])) (hb : Below w1.heap.size w1 w2) (hBs : B ≤ w1.heap.size) :
    ∀ v' w3, w3.ownsRow B 26 7 v' (flen f + 1) (ys ++ [.int .i64 p.kind, .int .i64 p.key, .int .i64 p.elem, .int .i64 p.num, .string p.text, jv, kv]) → w2.grownBy w3 lv.ownBlock →
      (v'.ownBlock = lv.ownBlock ∨ w3.ownsRow w2.heap.size 26 7 v' (flen f + 1) (ys ++ [.int .i64 p.kind, .int .i64 p.key, .int .i64 p.elem, .int .i64 p.num, .string p.text, jv, kv])) → StX B w3 ids iv (fsnoc f p c) v' ∧ Below B w1 w3 := by
  intro v' w3 g1 hg g2
  have hs13 : w1.heap.size ≤ w3.heap.size := Nat.le_trans hb.size hg.size
  have hnew : ∀ b, b < w1.heap.size → lv.ownBlock ≠ some b → v'.ownBlock ≠ some b := by
    intro b hb1 hne e
    rcases g2 with g2 | g2
    · exact hne (g2 ▸ e)
    · have := (row_own g2 b e).1
      have := hb.size
      omega
  have hk : ∀ k, k < w1.heap.size → lv.ownBlock ≠ some k → w3.heap[k]? = w1.heap[k]? := fun k e1 e2 => by rw [hg.block k (Nat.lt_of_lt_of_le e1 hb.size) (fun e => e2 e.symm), hb.block k e1]
  refine ⟨⟨row_kept h.idn fun g hg' => hk g (row_own h.idn g hg').2 (h.ne g hg'), ⟨_, by rw [flen_snoc]; exact g1, ?_⟩, fun g e1 => hnew g (row_own h.idn g e1).2 (h.ne g e1)⟩, ?_⟩
  · have k2 : ElemsX (fun b => (B ≤ b ∧ v'.ownBlock ≠ some b ∧ iv.ownBlock ≠ some b) ∧ b < w3.heap.size) w3 f ys :=
      (h2.kept fun k e1 e2 => hk k e1 e2.1.2.1).mono fun b hb' => ⟨⟨hb'.1.1, hnew b hb'.2 hb'.1.2.1, hb'.1.2.2⟩, Nat.lt_of_lt_of_le hb'.2 hs13⟩
    obtain ⟨iv', lv', e, hp, hc, hi, zs, hy, hel⟩ := hx
    cases e
    have hm : ∀ b, N ≤ b ∧ b < w1.heap.size → (B ≤ b ∧ v'.ownBlock ≠ some b ∧ iv.ownBlock ≠ some b) ∧ b < w3.heap.size := fun b hb' =>
      ⟨⟨by omega, hnew b hb'.2 fun e => (by have := hNl b e; omega), fun e => (by have := hNi b e; omega)⟩, Nat.lt_of_lt_of_le hb'.2 hs13⟩
    have hk' : ∀ k, k < w1.heap.size → (N ≤ k ∧ k < w1.heap.size) → w3.heap[k]? = w1.heap[k]? := fun k e1 e2 => hk k e1 fun e => by have := hNl k e; omega
    exact ElemsX.snoc hp hc ((hi.live.kept hk').mono hm) ((hy.live.kept hk').mono hm) ((hel.live.kept hk').mono hm) k2
  · refine ⟨hg.os.trans hb.os, hg.tape.trans hb.tape, hg.output.trans hb.output, hs13, fun k hk' => ?_⟩
    exact hk k (by omega) fun e => by have := (row_own h1 k e).1; omega
theorem StX.vx {B : Nat} {S : Nat → Prop} {w : World} {ids : List Int} {iv lv : Value} {f : Fo} {p : Pay} (h : StX B w ids iv f lv) (hp : PayOk p) (hi : p.ids = ids) (hl : flen f ≤ 140737488355328) (hS : ∀ b, B ≤ b → S b) :
    VX S w p f (.agg #[.int .i64 p.kind, .int .i64 p.key, .int .i64 p.elem, .int .i64 p.num, .string p.text, iv, lv]) := by
  obtain ⟨ys, h1, h2⟩ := h.row
  refine ⟨_, _, rfl, hp, hl, ⟨?_, fun g hg => hS g (row_own h.idn g hg).1⟩, ys, ⟨row_zero h1, fun g hg => hS g (row_own h1 g hg).1⟩, h2.mono fun b hb => hS b hb.1.1⟩
  rw [hi]
  exact row_zero h.idn

/-- the way of a field -/
def fldP (P : Int → List Nat → RV) (k : Nat) : List Nat → RV := if k = 1 ∨ k = 2 then fun bs => .ok ((scal 1 (if k = 1 then 1 else 0), .nil), bs) else P k
theorem structF_field {room : Int} {P : Int → List Nat → RV} {n : Nat} {ids : List Int} {f : Fo} {id : Nat} {b : Nat} {r : List Nat} (h0 : ¬ (b / 16 = 0 ∧ b % 16 = 0)) (hw : (b % 16 = 1 ∨ b % 16 = 2) ∨ wayOk (b % 16 : Nat) room = true) :
    rStructF room P (n + 1) ids f id (b :: r) = bnd (rID id (b / 16)) (fun i => bnd (fldP P (b % 16)) fun pc => rStructF room P n (ids ++ [(i : Int)]) (fsnoc f pc.1 pc.2) i) r := by
  rw [rStructF_succ, bnd_ok (show rHalves (b :: r) = .ok ((b / 16, b % 16), r) from rfl)]
  dsimp only
  rw [if_neg h0, if_neg (fun h => by rcases hw with hw | hw; exact h.1 hw; rw [h.2] at hw; cases hw)]
  congr 1
  funext i bs
  unfold fldP
  by_cases h3 : b % 16 = 1 ∨ b % 16 = 2
  · simp only [if_pos h3, bnd]
  · simp only [if_neg h3]
theorem enter_fw (args : Array Value) (W : World) : (callFunc 103 args).run Try.prog W = .ok (.enter 103 args) W := by
  exact enters_of Try.func103 (by kernel_rfl) rfl args W
/-- the look-up in the map, by what its ways were at first -/
theorem ways_look2 {w wb : World} {R M : Nat} (h : Ways wb R M) (hm : w.heap[M]? = wb.heap[M]?) (k : Int) (hk : knownB k = true) : ∃ fn fa fb, (Instr.lookup 70 (.map (some M)) (.int .i64 k) true).run Try.prog w = .ok (.tuple #[.func fn fa fb, .bool true]) w ∧ WayIs wb R k (.func fn fa fb) := by
  obtain ⟨v4, v5, v6, v9, v11, v12, h0, h4, h5, h6, h9, h11, h12⟩ := h.is
  rw [← hm] at h0
  obtain ⟨f4, a4, b4, rfl⟩ := h4.func
  obtain ⟨f5, a5, b5, rfl⟩ := h5.func
  obtain ⟨f6, a6, b6, rfl⟩ := h6.func
  obtain ⟨f9, a9, b9, rfl⟩ := h9.func
  obtain ⟨f11, a11, b11, rfl⟩ := h11.func
  obtain ⟨f12, a12, b12, rfl⟩ := h12.func
  rw [known_true] at hk
  have hkk : k = 1 ∨ k = 3 ∨ k = 4 ∨ k = 5 ∨ k = 6 ∨ k = 7 ∨ k = 8 ∨ k = 9 ∨ k = 11 ∨ k = 12 := by omega
  rcases hkk with rfl | rfl | rfl | rfl | rfl | rfl | rfl | rfl | rfl | rfl
  · exact ⟨_, _, _, run_look h0 1 (i := 0) rfl, .inl ⟨rfl, rfl⟩⟩
  · exact ⟨_, _, _, run_look h0 3 (i := 1) rfl, .inr (.inl ⟨rfl, rfl⟩)⟩
  · exact ⟨_, _, _, run_look h0 4 (i := 2) rfl, .inr (.inr (.inl ⟨rfl, h4⟩))⟩
  · exact ⟨_, _, _, run_look h0 5 (i := 3) rfl, .inr (.inr (.inr (.inl ⟨rfl, h5⟩)))⟩
  · exact ⟨_, _, _, run_look h0 6 (i := 4) rfl, .inr (.inr (.inr (.inr (.inl ⟨rfl, h6⟩))))⟩
  · exact ⟨_, _, _, run_look h0 7 (i := 5) rfl, .inr (.inr (.inr (.inr (.inr (.inl ⟨rfl, rfl⟩)))))⟩
  · exact ⟨_, _, _, run_look h0 8 (i := 6) rfl, .inr (.inr (.inr (.inr (.inr (.inr (.inl ⟨rfl, rfl⟩))))))⟩
  · exact ⟨_, _, _, run_look h0 9 (i := 7) rfl, .inr (.inr (.inr (.inr (.inr (.inr (.inr (.inl ⟨rfl, h9⟩)))))))⟩
  · exact ⟨_, _, _, run_look h0 11 (i := 8) rfl, .inr (.inr (.inr (.inr (.inr (.inr (.inr (.inr (.inl ⟨rfl, h11⟩))))))))⟩
  · exact ⟨_, _, _, run_look h0 12 (i := 9) rfl, .inr (.inr (.inr (.inr (.inr (.inr (.inr (.inr (.inr ⟨rfl, h12⟩))))))))⟩
theorem Ways.lt {w : World} {R M : Nat} (h : Ways w R M) : M < w.heap.size := by
  obtain ⟨v4, v5, v6, v9, v11, v12, h0, _⟩ := h.is
  exact (Array.getElem?_eq_some_iff.1 h0).1
theorem way_ok2 (w0 wb w : World) (R m : Nat) (bs : List Nat) (room k : Int) (h : Rd w0 w R m bs room) (hw : Ways wb R m) (hf : RF R wb w) (ho : wayOk k room = true) :
    Calls Try.prog 39 #[.pointer (some ⟨R, 0, none⟩), .int .i64 k] w fun e w' => (∃ fn fa fb, e = .returned (.func fn fa fb) ∧ WayIs wb R k (.func fn fa fb)) ∧ w' = w := by
  simp only [wayOk, Bool.and_eq_true, Bool.not_eq_true', Bool.and_eq_false_iff] at ho
  obtain ⟨fn, fa, fb, hl, hi⟩ := ways_look2 hw (hf.block m hw.lt (Nat.ne_of_gt hw.gt)) k ho.1
  refine (way_yes w0 w R m bs room k fn fa fb h hl (fun hn hr => ?_)).mono fun e w' ⟨h1, h2⟩ => ⟨⟨fn, fa, fb, h1, hi⟩, h2⟩
  rcases ho.2 with h1 | h1
  · rw [hn] at h1; cases h1
  · subst hr; simp at h1
set_option maxRecDepth 10000 in
set_option maxHeartbeats 1000000 in
theorem fieldWay_ok2 (w0 wb w : World) (R m : Nat) (bs : List Nat) (room k : Int) (h1 : ¬ k = 1) (h2 : ¬ k = 2) (h : Rd w0 w R m bs room) (hw : Ways wb R m) (hf : RF R wb w) (ho : wayOk k room = true) :
    Calls Try.prog 99 #[.pointer (some ⟨R, 0, none⟩), .int .i64 k] w fun e w' => (∃ fn fa fb, e = .returned (.func fn fa fb) ∧ WayIs wb R k (.func fn fa fb)) ∧ w' = w.alloc (.cells #[.int .i64 k] 3) := by
  have e12 : (k == 1 || k == 2) = false := by simp; omega
  have hab := alloc_below w (.cells #[.int .i64 k] 3)
  have K := way_ok2 w0 wb _ R m bs room k (h.later hab) hw (hf.trans (RF.of_below hab)) ho
  go_enter Try.func99, Try.ntmps99
  go_wp2_with fail
  refine K.mono ?_
  rintro e wx ⟨⟨fn, fa, fb, rfl, hi⟩, hwx⟩
  subst hwx
  go_wp2_with fail
  go_ret
  exact ⟨⟨fn, fa, fb, rfl, hi⟩, rfl⟩
theorem fieldWay_any (w0 wb w : World) (R m : Nat) (bs : List Nat) (room : Int) (P : Int → List Nat → RV) (k : Nat) (h : Rd w0 w R m bs room) (hw : Ways wb R m) (hf : RF R wb w)
    (HP : ∀ (k : Int) (v : Value) (W : World), wayOk k room = true → Ways W R m → WayIs W R k v → WayOf w0 W R m room v (P k)) (ho : (k = 1 ∨ k = 2) ∨ wayOk k room = true) :
    Calls Try.prog 99 #[.pointer (some ⟨R, 0, none⟩), .int .i64 k] w fun e w' => ∃ fn fa fb, e = .returned (.func (.func fn) fa fb) ∧ (∀ args W, (callFunc fn args).run Try.prog W = .ok (.enter fn args) W) ∧
      (∀ W bs, RF R wb W → W.heap[w.heap.size]? = some (.cells #[.int .i64 (k : Int)] 3 (0, 0)) → Rd w0 W R m bs room → TakesV fn (fa ++ fb) w0 W R m room (fldP P k bs)) ∧ w' = w.alloc (.cells #[.int .i64 k] 3) := by
  by_cases hk : k = 1 ∨ k = 2
  · refine (fieldWay_truth w0 w R m bs room k (by omega) h).mono ?_
    rintro e w' ⟨rfl, rfl⟩
    refine ⟨_, _, _, rfl, enter_fw, fun W bs hf hb hrd => ?_, rfl⟩
    have T := fieldWay1_any w0 W R m bs room w.heap.size k (by omega) hrd hb
    have e : fldP P k bs = .ok ((scal 1 (if (k : Int) = 1 then 1 else 0), .nil), bs) := by
      unfold fldP
      rw [if_pos hk]
      rcases hk with rfl | rfl <;> rfl
    rw [e]
    exact T
  · have ho' : wayOk k room = true := ho.resolve_left hk
    refine (fieldWay_ok2 w0 wb w R m bs room k (by omega) (by omega) h hw hf ho').mono ?_
    rintro e w' ⟨⟨fn, fa, fb, rfl, hi⟩, rfl⟩
    obtain ⟨f, fa', fb', e1, e2, e3⟩ := HP k _ _ ho' hw hi
    cases e1
    refine ⟨f, fa, fb, rfl, e2, fun W bs hf _ hrd => ?_, rfl⟩
    have e : fldP P k bs = P k bs := by unfold fldP; rw [if_neg hk]
    rw [e]
    exact e3 W bs hf hrd
theorem RF.belowB {R B : Nat} {w wr wr' : World} (h : RF R w wr) (hb : Below B wr wr') (hB : w.heap.size ≤ B) : RF R w wr' :=
  ⟨hb.os.trans h.os, hb.tape.trans h.tape, hb.output.trans h.output, Nat.le_trans h.size hb.size, fun k h1 h2 => by rw [hb.block k (by omega), h.block k h1 h2]⟩
theorem rFar_le {least : Nat} {bs r : List Nat} {i : Nat} (h : rFar least bs = .ok (i, r)) : least ≤ i ∧ i ≤ 32767 := by
  unfold rFar at h
  split at h
  · cases h
  · cases bs with
    | nil => cases h
    | cons c l =>
      dsimp only at h
      split at h
      · cases h
      · cases e : rNum (2 * least) 65534 (c :: l) with
        | error s => rw [e] at h; cases h
        | ok v =>
          obtain ⟨n, q⟩ := v
          rw [e] at h
          cases h
          have := rNum_le e
          have := rNum_ge e
          omega
theorem rID_le {id step : Nat} {bs r : List Nat} {i : Nat} (h : rID id step bs = .ok (i, r)) : id < i ∧ i ≤ 32767 := by
  unfold rID at h
  split at h
  · have := rFar_le h; omega
  · split at h
    · cases h
    · cases h; omega
/-- an append comes up in a region that draws -/
theorem ready_append {P : Program} {ops : Array Oper} {o : Oper} {a : Act} {w W : World} {K : Act → World → Prop} {Q : Exit → Act → World → Prop} (hg : o.guard = none) (s x : Operand) (t : TypeId)
    (hop : o.op = .call { callee := .builtin .append, args := #[s, x], argTypes := #[t, t] }) (u v r : Value) (hs : a.eval s = u) (hx : a.eval x = v) (hrun : (Builtin.append_ #[t, t] o.type #[u, v]).run P w = .ok r W) (hK : K (a.put o.dst r) W) :
    if Region.wanted o (yielded ops a.tmps) = true then Oper.wp P o a w K Q else K (a.put o.dst undef) w := by
  rw [if_pos (by simp [Region.wanted, hg])]
  unfold Oper.wp
  simp [execOp, hop, resolve, invoke, builtin, hs, hx, hrun, Result.andThen]
  exact hK
theorem struct_pay (ids : List Int) (h : ids.length ≤ 140737488355328) (hn : ∀ n ∈ ids, i64ok n) : PayOk ⟨12, 0, 0, 0, noText, ids⟩ := by
  have z0 : i64ok 0 := ⟨by omega, by omega⟩
  have z9 : i64ok 12 := ⟨by omega, by omega⟩
  exact ⟨z9, z0, z0, z0, Nat.zero_le _, h, hn⟩
theorem infoInt' : ∃ i, Try.prog.info? 3 = some i ∧ i.zero = some (.int .i64 0) ∧ i.size = 1 ∧ i.bytes ≤ 8 := by
  have hq : (Try.prog.info? 3).map (fun i => (i.zero, i.size, decide (i.bytes ≤ 8))) = some (some (.int .i64 0), 1, true) := by kernel_rfl
  cases h : Try.prog.info? 3 with
  | none => rw [h] at hq; cases hq
  | some i =>
    rw [h] at hq
    simp only [Option.map_some, Option.some.injEq, Prod.mk.injEq, decide_eq_true_eq] at hq
    exact ⟨i, rfl, hq.1, hq.2.1, hq.2.2⟩
theorem struct_boxes (w : World) : Below w.heap.size w ((zbox w).alloc (.cells #[.int .i64 12, .int .i64 0, .int .i64 0, .int .i64 0, .string { data := #[] }, .slice none 0 0, .slice none 0 0] 26)) ∧ ((zbox w).alloc (.cells #[.int .i64 12, .int .i64 0, .int .i64 0, .int .i64 0, .string { data := #[] }, .slice none 0 0, .slice none 0 0] 26)).heap[w.heap.size]? = some (.cells #[.int .i64 0, .int .i64 0, .int .i64 0, .int .i64 0, .string { data := #[] }, .slice none 0 0, .slice none 0 0] 26 (0, 0)) ∧
    ((zbox w).alloc (.cells #[.int .i64 12, .int .i64 0, .int .i64 0, .int .i64 0, .string { data := #[] }, .slice none 0 0, .slice none 0 0] 26)).heap[w.heap.size + 1]? = some (.cells #[.int .i64 12, .int .i64 0, .int .i64 0, .int .i64 0, .string { data := #[] }, .slice none 0 0, .slice none 0 0] 26 (0, 0)) ∧ ((zbox w).alloc (.cells #[.int .i64 12, .int .i64 0, .int .i64 0, .int .i64 0, .string { data := #[] }, .slice none 0 0, .slice none 0 0] 26)).heap.size = w.heap.size + 2 := by
  have hs : (zbox w).heap.size = w.heap.size + 1 := by simp [zbox]
  have h1 := alloc_below (zbox w) (.cells #[.int .i64 12, .int .i64 0, .int .i64 0, .int .i64 0, .string { data := #[] }, .slice none 0 0, .slice none 0 0] 26)
  rw [hs] at h1
  refine ⟨Below.trans (alloc_below w _) (h1.mono (Nat.le_succ _)), ?_, ?_, by simp [zbox]⟩
  · rw [h1.block _ (Nat.lt_succ_self _)]
    exact heap_new w _
  · have := heap_new (zbox w) (.cells #[.int .i64 12, .int .i64 0, .int .i64 0, .int .i64 0, .string { data := #[] }, .slice none 0 0, .slice none 0 0] 26)
    rwa [hs] at this
end Go.Proofs.Ytikoddlidhefpaa
