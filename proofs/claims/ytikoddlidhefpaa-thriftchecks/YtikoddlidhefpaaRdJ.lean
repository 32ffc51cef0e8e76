/-
  Rows of values that a call lays itself: one more value, appended.
-/
import Derived.Test.YtikoddlidhefpaaRdI
import Derived.Test.YtikoddlidhefpaaParse
namespace Go.Proofs.Ytikoddlidhefpaa
set_option linter.unusedVariables false
open Go.ChangeShapes Go.WideShapes Go.ChangeAt Go.RowKit Go.Deep

theorem ownsS.live {S : Nat → Prop} {w : World} {e : TypeId} {size : Nat} {v : Value} {n : Nat} {xs : List Value} (h : ownsS S w e size v n xs) : ownsS (fun b => S b ∧ b < w.heap.size) w e size v n xs := by
  refine ⟨h.1, fun g hg => ⟨h.2 g hg, ?_⟩⟩
  rcases h.1.2 with ⟨rfl, _⟩ | ⟨g', cap, cur, rfl, hb, hg', rest⟩
  · cases hg
  · cases hg
    exact (Array.getElem?_eq_some_iff.1 hg').1
theorem ElemsX.live {S : Nat → Prop} {w : World} : ∀ {f : Fo} {xs : List Value}, ElemsX S w f xs → ElemsX (fun b => S b ∧ b < w.heap.size) w f xs
  | .nil, _, h => h
  | .node _ _ p c r, xs, h => by
    obtain ⟨iv, lv, rest, h1, h2, h3, h4, ⟨ys, h5, h6⟩, h7⟩ := h
    exact ⟨iv, lv, rest, h1, h2, h3, h4.live, ⟨ys, h5.live, ElemsX.live h6⟩, ElemsX.live h7⟩

/-- a row of values that lies behind B; its own block holds none of their rows -/
def RowX (B : Nat) (w : World) (f : Fo) (v : Value) : Prop :=
  ∃ ys, w.ownsRow B 26 7 v (flen f) ys ∧ ElemsX (fun b => (B ≤ b ∧ v.ownBlock ≠ some b) ∧ b < w.heap.size) w f ys
theorem RowX.nil (B : Nat) (w : World) : RowX B w .nil (.slice none 0 0) := ⟨[], World.ownsRow_nil _ _ _ _, rfl⟩
theorem RowX.kept {B : Nat} {w w' : World} {f : Fo} {v : Value} (h : RowX B w f v) (hs : w.heap.size ≤ w'.heap.size) (hk : ∀ k, k < w.heap.size → B ≤ k → w'.heap[k]? = w.heap[k]?) : RowX B w' f v := by
  obtain ⟨ys, h1, h2⟩ := h
  refine ⟨ys, ⟨h1.1, ?_⟩, (h2.kept fun k e1 e2 => hk k e1 e2.1.1).mono fun b hb => ⟨hb.1, Nat.lt_of_lt_of_le hb.2 hs⟩⟩
  rcases h1.2 with h3 | ⟨g, cap, cur, e1, e2, e3, rest⟩
  · exact .inl h3
  · refine .inr ⟨g, cap, cur, e1, e2, ?_, rest⟩
    rw [hk g (Array.getElem?_eq_some_iff.1 e3).1 e2, e3]
theorem RowX.rf {B R : Nat} {w w' : World} {f : Fo} {v : Value} (h : RowX B w f v) (hR : R < B) (hf : RF R w w') : RowX B w' f v := h.kept hf.size fun k h1 h2 => hf.block k h1 (by omega)
/-- the blocks of a row lie there -/
theorem RowX.own {B : Nat} {w : World} {f : Fo} {v : Value} (h : RowX B w f v) : ∀ g, v.ownBlock = some g → B ≤ g ∧ g < w.heap.size := by
  obtain ⟨ys, h1, _⟩ := h
  intro g hg
  rcases h1.2 with ⟨rfl, _⟩ | ⟨g', cap, cur, rfl, e2, e3, _⟩
  · cases hg
  · cases hg
    exact ⟨e2, (Array.getElem?_eq_some_iff.1 e3).1⟩
theorem Rd.below {w0 w w' : World} {R m B : Nat} {bs : List Nat} {room : Int} (h : Rd w0 w R m bs room) (hR : R < B) (hb : Below B w w') : Rd w0 w' R m bs room := by
  obtain ⟨a, cp, h1, h2⟩ := h.box
  have := h.le
  exact ⟨⟨a, cp, by rw [hb.block R hR, h1], h2⟩, h.b8, h.len, h.old.trans (hb.mono (by omega)), h.le⟩

theorem infoTh' : ∃ i, Try.prog.info? 26 = some i ∧ i.zero = some (.agg #[.int .i64 0, .int .i64 0, .int .i64 0, .int .i64 0, .string { data := #[] }, .slice none 0 0, .slice none 0 0]) ∧ i.size = 7 ∧ i.bytes ≤ 1000 := by
  have hq : (Try.prog.info? 26).map (fun i => (i.zero, i.size, decide (i.bytes ≤ 1000))) = some (some (.agg #[.int .i64 0, .int .i64 0, .int .i64 0, .int .i64 0, .string { data := #[] }, .slice none 0 0, .slice none 0 0]), 7, true) := by kernel_rfl
  cases h : Try.prog.info? 26 with
  | none => rw [h] at hq; cases hq
  | some i =>
    rw [h] at hq
    simp only [Option.map_some, Option.some.injEq, Prod.mk.injEq, decide_eq_true_eq] at hq
    exact ⟨i, rfl, hq.1, hq.2.1, hq.2.2⟩

theorem wpList_append_fresh {P : Program} {w : World} {ops : Array Oper} {rest : List Oper} {o : Oper} {a : Act} {Q : Exit → Act → World → Prop} (hgd : o.guard = none) (s x : Operand) (t : TypeId)
    (ho : o.op = .call { callee := .builtin .append, args := #[s, x], argTypes := #[t, t] })
    (base : Nat) (e : TypeId) (i : TypeInfo) (z : Value) (size bytes : Nat) (ht : P.underlying t = some (.slice e)) (hi : P.info? e = some i) (hz : i.zero = some z)
    (hsize : i.size = size) (hby : i.bytes = bytes) (hzs : z.cells.size = size) (hsz : 0 < size)
    (v : Value) (n : Nat) (xs : List Value) (hs : a.eval s = v) (hown : w.ownsRow base e size v n xs)
    (ad : Addr) (m c : Nat) (news : List Value) (hx : a.eval x = .slice (some ad) m c) (hl : news.length = m * size) (hnews : ∀ j u, news[j]? = some u → w.cell? (ad.add j) = some u) (h1 : ∀ u ∈ news, u.oneCell' = true)
    (h63 : n + m ≤ maxLen) (hbytes : (n + m) * bytes ≤ 140737488355328) (hbase : base ≤ w.heap.size)
    (h : ∀ v' w', w'.ownsRow base e size v' (n + m) (xs ++ news) → w.grownBy w' v.ownBlock → (v'.ownBlock = v.ownBlock ∨ w'.ownsRow w.heap.size e size v' (n + m) (xs ++ news)) → wpList P ops Q rest (a.put o.dst v') w') : wpList P ops Q (o :: rest) a w := by
  refine wpList_plain hgd fun K hK' => ?_
  obtain ⟨v', w', hrun, r1, r2, r3⟩ := run_append_fresh (P := P) w base t o.type e i z size bytes ht hi hz hsize hby hzs hsz v n xs hown ad m c news hl hnews h1 h63 hbytes hbase
  unfold Oper.wp
  simp [execOp, ho, resolve, invoke, builtin, hs, hx, hrun, Result.andThen]
  exact hK' _ _ (h v' w' r1 r2 r3)

/-- one more value in the row: w0 the world ahead of the value, w1 that with it, w2 that with a block for the append, w3 that behind it -/
theorem RowX.add {B N : Nat} {w1 w2 : World} {f : Fo} {v : Value} {ys : List Value} {p : Pay} {c : Fo} {iv lv : Value} (h1 : w1.ownsRow B 26 7 v (flen f) ys) (h2 : ElemsX (fun b => (B ≤ b ∧ v.ownBlock ≠ some b) ∧ b < w1.heap.size) w1 f ys) (hN : ∀ g, v.ownBlock = some g → g < N) (hBN : B ≤ N)
    (hx : VX (fun b => N ≤ b) w1 p c (.agg #[.int .i64 p.kind, .int .i64 p.key, .int .i64 p.elem, .int .i64 p.num, .string p.text, iv, lv])) (hb : Below w1.heap.size w1 w2) (hBs : B ≤ w1.heap.size) :
    ∀ v' w3, w3.ownsRow B 26 7 v' (flen f + 1) (ys ++ [.int .i64 p.kind, .int .i64 p.key, .int .i64 p.elem, .int .i64 p.num, .string p.text, iv, lv]) → w2.grownBy w3 v.ownBlock →
      (v'.ownBlock = v.ownBlock ∨ w3.ownsRow w2.heap.size 26 7 v' (flen f + 1) (ys ++ [.int .i64 p.kind, .int .i64 p.key, .int .i64 p.elem, .int .i64 p.num, .string p.text, iv, lv])) → RowX B w3 (fsnoc f p c) v' ∧ Below B w1 w3 := by
  intro v' w3 g1 hg g2
  have hown := RowX.own ⟨ys, h1, h2⟩
  refine ⟨⟨_, by rw [flen_snoc]; exact g1, ?_⟩, ?_⟩
  · have hs13 : w1.heap.size ≤ w3.heap.size := Nat.le_trans hb.size hg.size
    have hnew : ∀ b, b < w1.heap.size → v.ownBlock ≠ some b → v'.ownBlock ≠ some b := by
      intro b hb1 hne e
      rcases g2 with g2 | g2
      · exact hne (g2 ▸ e)
      · rcases g2.2 with ⟨rfl, _⟩ | ⟨g', _, _, rfl, e2, _⟩
        · cases e
        · cases e
          have hb1' : g' < w1.heap.size := hb1
          have := hb.size
          omega
    have hk : ∀ k, k < w1.heap.size → v.ownBlock ≠ some k → w3.heap[k]? = w1.heap[k]? := fun k e1 e2 => by rw [hg.block k (Nat.lt_of_lt_of_le e1 hb.size) (fun e => e2 e.symm), hb.block k e1]
    have k2 : ElemsX (fun b => (B ≤ b ∧ v'.ownBlock ≠ some b) ∧ b < w3.heap.size) w3 f ys :=
      (h2.kept fun k e1 e2 => hk k e1 e2.1.2).mono fun b hb' => ⟨⟨hb'.1.1, hnew b hb'.2 hb'.1.2⟩, Nat.lt_of_lt_of_le hb'.2 hs13⟩
    obtain ⟨iv', lv', e, hp, hc, hi, zs, hy, hel⟩ := hx
    cases e
    have hm : ∀ b, N ≤ b ∧ b < w1.heap.size → (B ≤ b ∧ v'.ownBlock ≠ some b) ∧ b < w3.heap.size := fun b hb' =>
      ⟨⟨by omega, hnew b hb'.2 fun e => by have := hN b e; omega⟩, Nat.lt_of_lt_of_le hb'.2 hs13⟩
    have hk' : ∀ k, k < w1.heap.size → (N ≤ k ∧ k < w1.heap.size) → w3.heap[k]? = w1.heap[k]? := fun k e1 e2 => hk k e1 fun e => by have := hN k e; omega
    exact ElemsX.snoc hp hc ((hi.live.kept hk').mono hm) ((hy.live.kept hk').mono hm) ((hel.live.kept hk').mono hm) k2
  · refine ⟨hg.os.trans hb.os, hg.tape.trans hb.tape, hg.output.trans hb.output, Nat.le_trans hb.size hg.size, fun k hk => ?_⟩
    rw [hg.block k (by have := hb.size; omega) ?_, hb.block k (by omega)]
    intro e
    have := hown k e.symm
    omega
end Go.Proofs.Ytikoddlidhefpaa
