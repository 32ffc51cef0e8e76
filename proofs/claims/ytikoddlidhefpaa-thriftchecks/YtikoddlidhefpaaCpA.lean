/-
  Values in memory of their own, with a mark behind each of their lists.
-/
import Derived.Test.YtikoddlidhefpaaOrd
import Derived.Test.YtikoddlidhefpaaFld
import Derived.Test.YtikoddlidhefpaaLawA
namespace Go.Proofs.Ytikoddlidhefpaa
set_option linter.unusedVariables false
set_option linter.unusedSimpArgs false
open Go.ChangeShapes Go.WideShapes Go.ChangeAt Go.RowKit Go.Deep

/-- the mark behind a row of numbers, and behind a row of values -/
def IMark (w : World) (a : Option Addr) (n c : Nat) : Prop := ∃ g, a = some ⟨g, 0, none⟩ ∧ n + 1 ≤ c ∧ w.cell? ⟨g, n, none⟩ = some (.int .i64 77)
def LMark (w : World) (a : Option Addr) (n c : Nat) : Prop := ∃ g, a = some ⟨g, 0, none⟩ ∧ n + 1 ≤ c ∧ w.cell? ⟨g, n * 7, none⟩ = some (.int .i64 77)
theorem IMark.later {w w' : World} {a : Option Addr} {n c : Nat} (h : IMark w a n c) (hb : Below w.heap.size w w') : IMark w' a n c := by
  obtain ⟨g, h1, h2, h3⟩ := h
  exact ⟨g, h1, h2, cell_later hb h3⟩
theorem LMark.later {w w' : World} {a : Option Addr} {n c : Nat} (h : LMark w a n c) (hb : Below w.heap.size w w') : LMark w' a n c := by
  obtain ⟨g, h1, h2, h3⟩ := h
  exact ⟨g, h1, h2, cell_later hb h3⟩
/-- a row of values each of which is marked -/
def MF (w : World) : Fo → Option Addr → Prop
  | .nil, _ => True
  | .node _ _ p c r, a => ∃ b o, a = some ⟨b, o, none⟩ ∧ b < w.heap.size ∧ PayOk p ∧ flen c ≤ 140737488355328 ∧
      (∃ ia ic la lc, (∀ j u, (cells7 p ia ic la (flen c) lc)[j]? = some u → w.cell? ⟨b, o + j, none⟩ = some u) ∧ Src w ia p.ids.length ic (c64 p.ids) ∧ IMark w ia p.ids.length ic ∧ LMark w la (flen c) lc ∧ MF w c la) ∧
      MF w r (some ⟨b, o + 7, none⟩)
theorem MF.later {w w' : World} (hb : Below w.heap.size w w') : ∀ {f : Fo} {a : Option Addr}, MF w f a → MF w' f a
  | .nil, _, _ => trivial
  | .node _ _ p c r, a, h => by
    obtain ⟨b, o, h1, h2, h3, h4, ⟨ia, ic, la, lc, h5, h6, h7, h8, h9⟩, h10⟩ := h
    exact ⟨b, o, h1, Nat.lt_of_lt_of_le h2 hb.size, h3, h4, ⟨ia, ic, la, lc, fun j u hj => by rw [hb.cell h2]; exact h5 j u hj, h6.later hb, h7.later hb, h8.later hb, MF.later hb h9⟩, MF.later hb h10⟩
theorem MF.fat {w : World} : ∀ {f : Fo} {a : Option Addr}, MF w f a → FAt w f a
  | .nil, _, _ => trivial
  | .node _ _ p c r, a, h => by
    obtain ⟨b, o, h1, h2, h3, h4, ⟨ia, ic, la, lc, h5, h6, h7, h8, h9⟩, h10⟩ := h
    exact ⟨b, o, h1, h2, h3, h4, ⟨ia, ic, la, lc, h5, h6, h9.fat⟩, h10.fat⟩
/-- a marked value -/
structure MV (w : World) (p : Pay) (c : Fo) (ia : Option Addr) (ic : Nat) (la : Option Addr) (lc : Nat) : Prop where
  ok : PayOk p
  len : flen c ≤ 140737488355328
  ids : Src w ia p.ids.length ic (c64 p.ids)
  im : IMark w ia p.ids.length ic
  lm : LMark w la (flen c) lc
  list : MF w c la
theorem MV.later {w w' : World} {p : Pay} {c : Fo} {ia : Option Addr} {ic : Nat} {la : Option Addr} {lc : Nat} (h : MV w p c ia ic la lc) (hb : Below w.heap.size w w') : MV w' p c ia ic la lc := ⟨h.ok, h.len, h.ids.later hb, h.im.later hb, h.lm.later hb, h.list.later hb⟩
theorem MV.vin {w : World} {p : Pay} {c : Fo} {ia : Option Addr} {ic : Nat} {la : Option Addr} {lc : Nat} (h : MV w p c ia ic la lc) : VIn w p c ia ic la lc := ⟨h.ok, h.len, h.ids, h.list.fat⟩


/-- the cells of marked values, one behind the other; their rows, with the marks, lie in blocks of the set -/
def EM (S : Nat → Prop) (w : World) : Fo → List Value → Prop
  | .nil, xs => xs = []
  | .node _ _ p c r, xs => ∃ g ic h lc rest, xs = [.int .i64 p.kind, .int .i64 p.key, .int .i64 p.elem, .int .i64 p.num, .string p.text, .slice (some ⟨g, 0, none⟩) p.ids.length ic, .slice (some ⟨h, 0, none⟩) (flen c) lc] ++ rest ∧ PayOk p ∧ flen c ≤ 140737488355328 ∧
      ownsS S w 3 1 (.slice (some ⟨g, 0, none⟩) (p.ids.length + 1) ic) (p.ids.length + 1) (c64 p.ids ++ [.int .i64 77]) ∧ (∃ ys mk, ownsS S w 26 7 (.slice (some ⟨h, 0, none⟩) (flen c + 1) lc) (flen c + 1) (ys ++ .int .i64 77 :: mk) ∧ ys.length = flen c * 7 ∧ EM S w c ys) ∧ EM S w r rest
/-- a marked value -/
def VM (S : Nat → Prop) (w : World) (p : Pay) (c : Fo) (v : Value) : Prop :=
  ∃ g ic h lc, v = .agg #[.int .i64 p.kind, .int .i64 p.key, .int .i64 p.elem, .int .i64 p.num, .string p.text, .slice (some ⟨g, 0, none⟩) p.ids.length ic, .slice (some ⟨h, 0, none⟩) (flen c) lc] ∧ PayOk p ∧ flen c ≤ 140737488355328 ∧
      ownsS S w 3 1 (.slice (some ⟨g, 0, none⟩) (p.ids.length + 1) ic) (p.ids.length + 1) (c64 p.ids ++ [.int .i64 77]) ∧ ∃ ys mk, ownsS S w 26 7 (.slice (some ⟨h, 0, none⟩) (flen c + 1) lc) (flen c + 1) (ys ++ .int .i64 77 :: mk) ∧ ys.length = flen c * 7 ∧ EM S w c ys
theorem EM.mono {S T : Nat → Prop} {w : World} (hST : ∀ b, S b → T b) : ∀ {f : Fo} {xs : List Value}, EM S w f xs → EM T w f xs
  | .nil, _, h => h
  | .node _ _ p c r, xs, h => by
    obtain ⟨g, ic, hh, lc, rest, h1, h2, h3, h4, ⟨ys, mk, h5, h6, h7⟩, h8⟩ := h
    exact ⟨g, ic, hh, lc, rest, h1, h2, h3, h4.mono hST, ⟨ys, mk, h5.mono hST, h6, EM.mono hST h7⟩, EM.mono hST h8⟩
theorem EM.kept {S : Nat → Prop} {w w' : World} (hk : ∀ k, k < w.heap.size → S k → w'.heap[k]? = w.heap[k]?) : ∀ {f : Fo} {xs : List Value}, EM S w f xs → EM S w' f xs
  | .nil, _, h => h
  | .node _ _ p c r, xs, h => by
    obtain ⟨g, ic, hh, lc, rest, h1, h2, h3, h4, ⟨ys, mk, h5, h6, h7⟩, h8⟩ := h
    exact ⟨g, ic, hh, lc, rest, h1, h2, h3, h4.kept hk, ⟨ys, mk, h5.kept hk, h6, EM.kept hk h7⟩, EM.kept hk h8⟩
theorem EM.live {S : Nat → Prop} {w : World} : ∀ {f : Fo} {xs : List Value}, EM S w f xs → EM (fun b => S b ∧ b < w.heap.size) w f xs
  | .nil, _, h => h
  | .node _ _ p c r, xs, h => by
    obtain ⟨g, ic, hh, lc, rest, h1, h2, h3, h4, ⟨ys, mk, h5, h6, h7⟩, h8⟩ := h
    exact ⟨g, ic, hh, lc, rest, h1, h2, h3, h4.live, ⟨ys, mk, h5.live, h6, EM.live h7⟩, EM.live h8⟩
theorem EM.len {S : Nat → Prop} {w : World} : ∀ {f : Fo} {xs : List Value}, EM S w f xs → xs.length = flen f * 7
  | .nil, _, h => by rw [show _ = [] from h]; rfl
  | .node _ _ p c r, xs, h => by
    obtain ⟨g, ic, hh, lc, rest, rfl, _, _, _, _, h8⟩ := h
    have := EM.len h8
    simp [flen, this]
    omega
theorem EM.snoc {S : Nat → Prop} {w : World} {p : Pay} {c : Fo} {g ic h lc : Nat} (hp : PayOk p) (hc : flen c ≤ 140737488355328) (hi : ownsS S w 3 1 (.slice (some ⟨g, 0, none⟩) (p.ids.length + 1) ic) (p.ids.length + 1) (c64 p.ids ++ [.int .i64 77]))
    (hl : ∃ ys mk, ownsS S w 26 7 (.slice (some ⟨h, 0, none⟩) (flen c + 1) lc) (flen c + 1) (ys ++ .int .i64 77 :: mk) ∧ ys.length = flen c * 7 ∧ EM S w c ys) : ∀ {f : Fo} {xs : List Value}, EM S w f xs → EM S w (fsnoc f p c) (xs ++ [.int .i64 p.kind, .int .i64 p.key, .int .i64 p.elem, .int .i64 p.num, .string p.text, .slice (some ⟨g, 0, none⟩) p.ids.length ic, .slice (some ⟨h, 0, none⟩) (flen c) lc])
  | .nil, xs, e => by
    rw [show xs = [] from e]
    exact ⟨g, ic, h, lc, [], by simp, hp, hc, hi, hl, rfl⟩
  | .node _ _ q d r, xs, e => by
    obtain ⟨g', ic', h', lc', rest, rfl, h2, h3, h4, h5, h6⟩ := e
    exact ⟨g', ic', h', lc', _, by simp, h2, h3, h4, h5, EM.snoc hp hc hi hl h6⟩
theorem EM.congr {S : Nat → Prop} {w : World} : ∀ {f g : Fo} {xs : List Value}, elems f = elems g → EM S w f xs → EM S w g xs
  | .nil, .nil, _, _, h => h
  | .nil, .node _ _ _ _ _, _, e, _ => by simp [elems] at e
  | .node _ _ _ _ _, .nil, _, e, _ => by simp [elems] at e
  | .node _ _ p c r, .node _ _ q d s, xs, e, h => by
    simp only [elems, List.cons.injEq, Prod.mk.injEq] at e
    obtain ⟨⟨rfl, rfl⟩, e2⟩ := e
    obtain ⟨g, ic, hh, lc, rest, h1, h2, h3, h4, h5, h8⟩ := h
    exact ⟨g, ic, hh, lc, rest, h1, h2, h3, h4, h5, EM.congr e2 h8⟩
theorem elems_snoc : ∀ (f : Fo) (p : Pay) (c : Fo), elems (fsnoc f p c) = elems f ++ [(p, c)]
  | .nil, _, _ => rfl
  | .node _ _ _ _ r, p, c => by simp [fsnoc, elems, elems_snoc r p c]
theorem imark_of {S : Nat → Prop} {w : World} {g n ic : Nat} {l : List Int} (hl : l.length = n) (h : ownsS S w 3 1 (.slice (some ⟨g, 0, none⟩) (n + 1) ic) (n + 1) (c64 l ++ [.int .i64 77])) : Src w (some ⟨g, 0, none⟩) n ic (c64 l) ∧ IMark w (some ⟨g, 0, none⟩) n ic := by
  have hc : ∀ j u, (c64 l ++ [.int .i64 77])[j]? = some u → w.cell? ((⟨g, 0, none⟩ : Addr).add j) = some u := fun j u hj => World.ownsRow.cells h.1 rfl j u hj
  refine ⟨⟨by rw [c64_len, hl], .inr ⟨_, rfl, fun j u hj => hc j u ?_⟩⟩, g, rfl, own_cap h.1, ?_⟩
  · rw [List.getElem?_append_left]
    · exact hj
    · rcases Nat.lt_or_ge j (c64 l).length with hh | hh
      · exact hh
      · rw [List.getElem?_eq_none hh] at hj; cases hj
  · have := hc n (.int .i64 77) (by rw [List.getElem?_append_right (by rw [c64_len]; omega), c64_len, hl]; simp)
    rwa [add0] at this
theorem lmark_of {S : Nat → Prop} {w : World} {h n lc : Nat} {ys mk : List Value} (hl : ys.length = n * 7) (ho : ownsS S w 26 7 (.slice (some ⟨h, 0, none⟩) (n + 1) lc) (n + 1) (ys ++ .int .i64 77 :: mk)) : LMark w (some ⟨h, 0, none⟩) n lc ∧ h < w.heap.size ∧ ∀ j u, ys[j]? = some u → w.cell? ⟨h, 0 + j, none⟩ = some u := by
  have hc : ∀ j u, (ys ++ .int .i64 77 :: mk)[j]? = some u → w.cell? ((⟨h, 0, none⟩ : Addr).add j) = some u := fun j u hj => World.ownsRow.cells ho.1 rfl j u hj
  refine ⟨⟨h, rfl, own_cap ho.1, ?_⟩, (row_own ho.1 h rfl).2, fun j u hj => ?_⟩
  · have := hc (n * 7) (.int .i64 77) (by rw [List.getElem?_append_right (by omega), hl]; simp)
    rwa [add0] at this
  · have := hc j u (by
      rw [List.getElem?_append_left]
      · exact hj
      · rcases Nat.lt_or_ge j ys.length with hh | hh
        · exact hh
        · rw [List.getElem?_eq_none hh] at hj; cases hj)
    rw [add0] at this
    rwa [Nat.zero_add]
theorem EM.mf {S : Nat → Prop} {w : World} : ∀ {f : Fo} {xs : List Value} {b o : Nat}, EM S w f xs → b < w.heap.size → (∀ j u, xs[j]? = some u → w.cell? ⟨b, o + j, none⟩ = some u) → MF w f (some ⟨b, o, none⟩)
  | .nil, _, _, _, _, _, _ => trivial
  | .node _ _ p c r, xs, b, o, h, hb, hc => by
    obtain ⟨g, ic, hh, lc, rest, rfl, h2, h3, h4, ⟨ys, mk, h5, h6, h7⟩, h8⟩ := h
    obtain ⟨i1, i2⟩ := imark_of rfl h4
    obtain ⟨l1, l2, l3⟩ := lmark_of h6 h5
    refine ⟨b, o, rfl, hb, h2, h3, ⟨_, _, _, _, fun j u hj => hc j u ?_, i1, i2, l1, EM.mf h7 l2 l3⟩, EM.mf h8 hb fun j u hj => ?_⟩
    · have hlt : j < (cells7 p (some ⟨g, 0, none⟩) ic (some ⟨hh, 0, none⟩) (flen c) lc).length := by
        rcases Nat.lt_or_ge j (cells7 p (some ⟨g, 0, none⟩) ic (some ⟨hh, 0, none⟩) (flen c) lc).length with h | h
        · exact h
        · rw [List.getElem?_eq_none h] at hj; cases hj
      rw [List.getElem?_append_left (by simpa [cells7] using hlt)]
      exact hj
    · have := hc (7 + j) u (by rw [List.getElem?_append_right (by simp)]; simpa using hj)
      rw [← this]
      congr 2
      omega
theorem VM.mv {S : Nat → Prop} {w : World} {p : Pay} {c : Fo} {v : Value} (h : VM S w p c v) : ∃ ia ic la lc, v = val p c ia ic la lc ∧ MV w p c ia ic la lc := by
  obtain ⟨g, ic, hh, lc, rfl, h2, h3, h4, ys, mk, h5, h6, h7⟩ := h
  obtain ⟨i1, i2⟩ := imark_of rfl h4
  obtain ⟨l1, l2, l3⟩ := lmark_of h6 h5
  exact ⟨_, _, _, _, rfl, h2, h3, i1, i2, l1, h7.mf l2 l3⟩
/-- a row of marked values that lies behind B; its own block holds none of their rows -/
def RowM (B : Nat) (w : World) (f : Fo) (v : Value) : Prop :=
  ∃ ys, w.ownsRow B 26 7 v (flen f) ys ∧ EM (fun b => (B ≤ b ∧ v.ownBlock ≠ some b) ∧ b < w.heap.size) w f ys
theorem RowM.nil (B : Nat) (w : World) : RowM B w .nil (.slice none 0 0) := ⟨[], World.ownsRow_nil _ _ _ _, rfl⟩
theorem RowM.kept {B : Nat} {w w' : World} {f : Fo} {v : Value} (h : RowM B w f v) (hs : w.heap.size ≤ w'.heap.size) (hk : ∀ k, k < w.heap.size → B ≤ k → w'.heap[k]? = w.heap[k]?) : RowM B w' f v := by
  obtain ⟨ys, h1, h2⟩ := h
  exact ⟨ys, row_kept h1 fun g hg => hk g (row_own h1 g hg).2 (row_own h1 g hg).1, (h2.kept fun k e1 e2 => hk k e1 e2.1.1).mono fun b hb => ⟨hb.1, Nat.lt_of_lt_of_le hb.2 hs⟩⟩
theorem RowM.add {B N : Nat} {w1 w2 : World} {f : Fo} {v : Value} {ys : List Value} {p : Pay} {c : Fo} {g ic h lc : Nat} (h1 : w1.ownsRow B 26 7 v (flen f) ys) (h2 : EM (fun b => (B ≤ b ∧ v.ownBlock ≠ some b) ∧ b < w1.heap.size) w1 f ys) (hN : ∀ g, v.ownBlock = some g → g < N) (hBN : B ≤ N)
    (hx : VM (fun b => N ≤ b) w1 p c (.agg #[.int .i64 p.kind, .int .i64 p.key, .int .i64 p.elem, .int .i64 p.num, .string p.text, .slice (some ⟨g, 0, none⟩) p.ids.length ic, .slice (some ⟨h, 0, none⟩) (flen c) lc])) (hb : Below w1.heap.size w1 w2) (hBs : B ≤ w1.heap.size) :
    ∀ v' w3, w3.ownsRow B 26 7 v' (flen f + 1) (ys ++ [.int .i64 p.kind, .int .i64 p.key, .int .i64 p.elem, .int .i64 p.num, .string p.text, .slice (some ⟨g, 0, none⟩) p.ids.length ic, .slice (some ⟨h, 0, none⟩) (flen c) lc]) → w2.grownBy w3 v.ownBlock →
      (v'.ownBlock = v.ownBlock ∨ w3.ownsRow w2.heap.size 26 7 v' (flen f + 1) (ys ++ [.int .i64 p.kind, .int .i64 p.key, .int .i64 p.elem, .int .i64 p.num, .string p.text, .slice (some ⟨g, 0, none⟩) p.ids.length ic, .slice (some ⟨h, 0, none⟩) (flen c) lc])) → RowM B w3 (fsnoc f p c) v' ∧ Below B w1 w3 ∧ ∀ k, k < w1.heap.size → v.ownBlock ≠ some k → w3.heap[k]? = w1.heap[k]? := by
  intro v' w3 g1 hg g2
  have hs13 : w1.heap.size ≤ w3.heap.size := Nat.le_trans hb.size hg.size
  have hnew : ∀ b, b < w1.heap.size → v.ownBlock ≠ some b → v'.ownBlock ≠ some b := by
    intro b hb1 hne e
    rcases g2 with g2 | g2
    · exact hne (g2 ▸ e)
    · have := (row_own g2 b e).1
      have := hb.size
      omega
  have hk : ∀ k, k < w1.heap.size → v.ownBlock ≠ some k → w3.heap[k]? = w1.heap[k]? := fun k e1 e2 => by rw [hg.block k (Nat.lt_of_lt_of_le e1 hb.size) (fun e => e2 e.symm), hb.block k e1]
  refine ⟨⟨_, by rw [flen_snoc]; exact g1, ?_⟩, ?_, hk⟩
  · have k2 : EM (fun b => (B ≤ b ∧ v'.ownBlock ≠ some b) ∧ b < w3.heap.size) w3 f ys :=
      (h2.kept fun k e1 e2 => hk k e1 e2.1.2).mono fun b hb' => ⟨⟨hb'.1.1, hnew b hb'.2 hb'.1.2⟩, Nat.lt_of_lt_of_le hb'.2 hs13⟩
    obtain ⟨g', ic', h', lc', e, hp, hc, hi, zs, mk, hy, hyl, hel⟩ := hx
    cases e
    have hm : ∀ b, N ≤ b ∧ b < w1.heap.size → (B ≤ b ∧ v'.ownBlock ≠ some b) ∧ b < w3.heap.size := fun b hb' =>
      ⟨⟨by omega, hnew b hb'.2 fun e => by have := hN b e; omega⟩, Nat.lt_of_lt_of_le hb'.2 hs13⟩
    have hk' : ∀ k, k < w1.heap.size → (N ≤ k ∧ k < w1.heap.size) → w3.heap[k]? = w1.heap[k]? := fun k e1 e2 => hk k e1 fun e => by have := hN k e; omega
    exact EM.snoc hp hc ((hi.live.kept hk').mono hm) ⟨zs, mk, (hy.live.kept hk').mono hm, hyl, (hel.live.kept hk').mono hm⟩ k2
  · refine ⟨hg.os.trans hb.os, hg.tape.trans hb.tape, hg.output.trans hb.output, hs13, fun k hk' => ?_⟩
    exact hk k (by omega) fun e => by have := (row_own h1 k e).1; omega
end Go.Proofs.Ytikoddlidhefpaa
