/-
  Values in memory of their own, with a mark behind each of their lists.
-/
import Derived.Test.YtikoddlidhefpaaOrd
import Derived.Test.YtikoddlidhefpaaFld
import Derived.Test.YtikoddlidhefpaaJ10
import Derived.Lib.QuietBelow
import Derived.BigQuiet
namespace Go.Proofs.Ytikoddlidhefpaa
set_option linter.unusedVariables false
set_option linter.unusedSimpArgs false
open Go.ChangeShapes Go.WideShapes Go.ChangeAt Go.RowKit Go.Deep

/-- the mark behind a row of numbers, and behind a row of values -/
def IMark (w : World) (a : Option Addr) (n c : Nat) : Prop := ∃ g, a = some ⟨g, 0, none⟩ ∧ n + 1 ≤ c ∧ w.cell? ⟨g, n, none⟩ = some (.int .i64 77)
def LMark (w : World) (a : Option Addr) (n c : Nat) : Prop := ∃ g, a = some ⟨g, 0, none⟩ ∧ n + 1 ≤ c ∧ w.cell? ⟨g, n * 7, none⟩ = some (.int .i64 77)
theorem IMark.later {w w' : World} {a : Option Addr} {n c : Nat} (h : IMark w a n c) (hb : Below w.heap.size w w') : IMark w' a n c := by
  obtain ⟨g, h1, h2, h3⟩ := h
  exact ⟨g, h1, h2, cell_later hb h3⟩
theorem LMark.later {w w' : World} {a : Option Addr} {n c : Nat} (h : LMark w a n c) (hb : Below w.heap.size w w') : LMark w' a n c := by
  obtain ⟨g, h1, h2, h3⟩ := h
  exact ⟨g, h1, h2, cell_later hb h3⟩
/-- a row of values each of which is marked -/
def MF (w : World) : Fo → Option Addr → Prop
  | .nil, _ => True
  | .node _ _ p c r, a => ∃ b o, a = some ⟨b, o, none⟩ ∧ b < w.heap.size ∧ PayOk p ∧ flen c ≤ 140737488355328 ∧
      (∃ ia ic la lc, (∀ j u, (cells7 p ia ic la (flen c) lc)[j]? = some u → w.cell? ⟨b, o + j, none⟩ = some u) ∧ Src w ia p.ids.length ic (c64 p.ids) ∧ IMark w ia p.ids.length ic ∧ LMark w la (flen c) lc ∧ MF w c la) ∧
      MF w r (some ⟨b, o + 7, none⟩)
theorem MF.later {w w' : World} (hb : Below w.heap.size w w') : ∀ {f : Fo} {a : Option Addr}, MF w f a → MF w' f a
  | .nil, _, _ => trivial
  | .node _ _ p c r, a, h => by
    obtain ⟨b, o, h1, h2, h3, h4, ⟨ia, ic, la, lc, h5, h6, h7, h8, h9⟩, h10⟩ := h
    exact ⟨b, o, h1, Nat.lt_of_lt_of_le h2 hb.size, h3, h4, ⟨ia, ic, la, lc, fun j u hj => by rw [hb.cell h2]; exact h5 j u hj, h6.later hb, h7.later hb, h8.later hb, MF.later hb h9⟩, MF.later hb h10⟩
theorem MF.fat {w : World} : ∀ {f : Fo} {a : Option Addr}, MF w f a → FAt w f a
  | .nil, _, _ => trivial
  | .node _ _ p c r, a, h => by
    obtain ⟨b, o, h1, h2, h3, h4, ⟨ia, ic, la, lc, h5, h6, h7, h8, h9⟩, h10⟩ := h
    exact ⟨b, o, h1, h2, h3, h4, ⟨ia, ic, la, lc, h5, h6, h9.fat⟩, h10.fat⟩
/-- a marked value -/
structure MV (w : World) (p : Pay) (c : Fo) (ia : Option Addr) (ic : Nat) (la : Option Addr) (lc : Nat) : Prop where
  ok : PayOk p
  len : flen c ≤ 140737488355328
  ids : Src w ia p.ids.length ic (c64 p.ids)
  im : IMark w ia p.ids.length ic
  lm : LMark w la (flen c) lc
  list : MF w c la
theorem MV.later {w w' : World} {p : Pay} {c : Fo} {ia : Option Addr} {ic : Nat} {la : Option Addr} {lc : Nat} (h : MV w p c ia ic la lc) (hb : Below w.heap.size w w') : MV w' p c ia ic la lc := ⟨h.ok, h.len, h.ids.later hb, h.im.later hb, h.lm.later hb, h.list.later hb⟩
theorem MV.vin {w : World} {p : Pay} {c : Fo} {ia : Option Addr} {ic : Nat} {la : Option Addr} {lc : Nat} (h : MV w p c ia ic la lc) : VIn w p c ia ic la lc := ⟨h.ok, h.len, h.ids, h.list.fat⟩


/-- the cells of marked values, one behind the other; their rows, with the marks, lie in blocks of the set -/
def EM (S : Nat → Prop) (w : World) : Fo → List Value → Prop
  | .nil, xs => xs = []
  | .node _ _ p c r, xs => ∃ g ic h lc rest, xs = [.int .i64 p.kind, .int .i64 p.key, .int .i64 p.elem, .int .i64 p.num, .string p.text, .slice (some ⟨g, 0, none⟩) p.ids.length ic, .slice (some ⟨h, 0, none⟩) (flen c) lc] ++ rest ∧ PayOk p ∧ flen c ≤ 140737488355328 ∧
      ownsS S w 3 1 (.slice (some ⟨g, 0, none⟩) (p.ids.length + 1) ic) (p.ids.length + 1) (c64 p.ids ++ [.int .i64 77]) ∧ (∃ ys mk, ownsS S w 26 7 (.slice (some ⟨h, 0, none⟩) (flen c + 1) lc) (flen c + 1) (ys ++ .int .i64 77 :: mk) ∧ ys.length = flen c * 7 ∧ EM S w c ys) ∧ EM S w r rest
/-- a marked value -/
def VM (S : Nat → Prop) (w : World) (p : Pay) (c : Fo) (v : Value) : Prop :=
  ∃ g ic h lc, v = .agg #[.int .i64 p.kind, .int .i64 p.key, .int .i64 p.elem, .int .i64 p.num, .string p.text, .slice (some ⟨g, 0, none⟩) p.ids.length ic, .slice (some ⟨h, 0, none⟩) (flen c) lc] ∧ PayOk p ∧ flen c ≤ 140737488355328 ∧
      ownsS S w 3 1 (.slice (some ⟨g, 0, none⟩) (p.ids.length + 1) ic) (p.ids.length + 1) (c64 p.ids ++ [.int .i64 77]) ∧ ∃ ys mk, ownsS S w 26 7 (.slice (some ⟨h, 0, none⟩) (flen c + 1) lc) (flen c + 1) (ys ++ .int .i64 77 :: mk) ∧ ys.length = flen c * 7 ∧ EM S w c ys
theorem EM.mono {S T : Nat → Prop} {w : World} (hST : ∀ b, S b → T b) : ∀ {f : Fo} {xs : List Value}, EM S w f xs → EM T w f xs
  | .nil, _, h => h
  | .node _ _ p c r, xs, h => by
    obtain ⟨g, ic, hh, lc, rest, h1, h2, h3, h4, ⟨ys, mk, h5, h6, h7⟩, h8⟩ := h
    exact ⟨g, ic, hh, lc, rest, h1, h2, h3, h4.mono hST, ⟨ys, mk, h5.mono hST, h6, EM.mono hST h7⟩, EM.mono hST h8⟩
theorem EM.kept {S : Nat → Prop} {w w' : World} (hk : ∀ k, k < w.heap.size → S k → w'.heap[k]? = w.heap[k]?) : ∀ {f : Fo} {xs : List Value}, EM S w f xs → EM S w' f xs
  | .nil, _, h => h
  | .node _ _ p c r, xs, h => by
    obtain ⟨g, ic, hh, lc, rest, h1, h2, h3, h4, ⟨ys, mk, h5, h6, h7⟩, h8⟩ := h
    exact ⟨g, ic, hh, lc, rest, h1, h2, h3, h4.kept hk, ⟨ys, mk, h5.kept hk, h6, EM.kept hk h7⟩, EM.kept hk h8⟩
theorem EM.live {S : Nat → Prop} {w : World} : ∀ {f : Fo} {xs : List Value}, EM S w f xs → EM (fun b => S b ∧ b < w.heap.size) w f xs
  | .nil, _, h => h
  | .node _ _ p c r, xs, h => by
    obtain ⟨g, ic, hh, lc, rest, h1, h2, h3, h4, ⟨ys, mk, h5, h6, h7⟩, h8⟩ := h
    exact ⟨g, ic, hh, lc, rest, h1, h2, h3, h4.live, ⟨ys, mk, h5.live, h6, EM.live h7⟩, EM.live h8⟩
theorem EM.len {S : Nat → Prop} {w : World} : ∀ {f : Fo} {xs : List Value}, EM S w f xs → xs.length = flen f * 7
  | .nil, _, h => by rw [show _ = [] from h]; rfl
  | .node _ _ p c r, xs, h => by
    obtain ⟨g, ic, hh, lc, rest, rfl, _, _, _, _, h8⟩ := h
    have := EM.len h8
    simp [flen, this]
    omega
theorem EM.snoc {S : Nat → Prop} {w : World} {p : Pay} {c : Fo} {g ic h lc : Nat} (hp : PayOk p) (hc : flen c ≤ 140737488355328) (hi : ownsS S w 3 1 (.slice (some ⟨g, 0, none⟩) (p.ids.length + 1) ic) (p.ids.length + 1) (c64 p.ids ++ [.int .i64 77]))
    (hl : ∃ ys mk, ownsS S w 26 7 (.slice (some ⟨h, 0, none⟩) (flen c + 1) lc) (flen c + 1) (ys ++ .int .i64 77 :: mk) ∧ ys.length = flen c * 7 ∧ EM S w c ys) : ∀ {f : Fo} {xs : List Value}, EM S w f xs → EM S w (fsnoc f p c) (xs ++ [.int .i64 p.kind, .int .i64 p.key, .int .i64 p.elem, .int .i64 p.num, .string p.text, .slice (some ⟨g, 0, none⟩) p.ids.length ic, .slice (some ⟨h, 0, none⟩) (flen c) lc])
  | .nil, xs, e => by
    rw [show xs = [] from e]
    exact ⟨g, ic, h, lc, [], by simp, hp, hc, hi, hl, rfl⟩
  | .node _ _ q d r, xs, e => by
    obtain ⟨g', ic', h', lc', rest, rfl, h2, h3, h4, h5, h6⟩ := e
    exact ⟨g', ic', h', lc', _, by simp, h2, h3, h4, h5, EM.snoc hp hc hi hl h6⟩
theorem EM.congr {S : Nat → Prop} {w : World} : ∀ {f g : Fo} {xs : List Value}, elems f = elems g → EM S w f xs → EM S w g xs
  | .nil, .nil, _, _, h => h
  | .nil, .node _ _ _ _ _, _, e, _ => by simp [elems] at e
  | .node _ _ _ _ _, .nil, _, e, _ => by simp [elems] at e
  | .node _ _ p c r, .node _ _ q d s, xs, e, h => by
    simp only [elems, List.cons.injEq, Prod.mk.injEq] at e
    obtain ⟨⟨rfl, rfl⟩, e2⟩ := e
    obtain ⟨g, ic, hh, lc, rest, h1, h2, h3, h4, h5, h8⟩ := h
    exact ⟨g, ic, hh, lc, rest, h1, h2, h3, h4, h5, EM.congr e2 h8⟩
theorem elems_snoc : ∀ (f : Fo) (p : Pay) (c : Fo), elems (fsnoc f p c) = elems f ++ [(p, c)]
  | .nil, _, _ => rfl
  | .node _ _ _ _ r, p, c => by simp [fsnoc, elems, elems_snoc r p c]
theorem imark_of {S : Nat → Prop} {w : World} {g n ic : Nat} {l : List Int} (hl : l.length = n) (h : ownsS S w 3 1 (.slice (some ⟨g, 0, none⟩) (n + 1) ic) (n + 1) (c64 l ++ [.int .i64 77])) : Src w (some ⟨g, 0, none⟩) n ic (c64 l) ∧ IMark w (some ⟨g, 0, none⟩) n ic := by
  have hc : ∀ j u, (c64 l ++ [.int .i64 77])[j]? = some u → w.cell? ((⟨g, 0, none⟩ : Addr).add j) = some u := fun j u hj => World.ownsRow.cells h.1 rfl j u hj
  refine ⟨⟨by rw [c64_len, hl], .inr ⟨_, rfl, fun j u hj => hc j u ?_⟩⟩, g, rfl, own_cap h.1, ?_⟩
  · rw [List.getElem?_append_left]
    · exact hj
    · rcases Nat.lt_or_ge j (c64 l).length with hh | hh
      · exact hh
      · rw [List.getElem?_eq_none hh] at hj; cases hj
  · have := hc n (.int .i64 77) (by rw [List.getElem?_append_right (by rw [c64_len]; omega), c64_len, hl]; simp)
    rwa [add0] at this
theorem lmark_of {S : Nat → Prop} {w : World} {h n lc : Nat} {ys mk : List Value} (hl : ys.length = n * 7) (ho : ownsS S w 26 7 (.slice (some ⟨h, 0, none⟩) (n + 1) lc) (n + 1) (ys ++ .int .i64 77 :: mk)) : LMark w (some ⟨h, 0, none⟩) n lc ∧ h < w.heap.size ∧ ∀ j u, ys[j]? = some u → w.cell? ⟨h, 0 + j, none⟩ = some u := by
  have hc : ∀ j u, (ys ++ .int .i64 77 :: mk)[j]? = some u → w.cell? ((⟨h, 0, none⟩ : Addr).add j) = some u := fun j u hj => World.ownsRow.cells ho.1 rfl j u hj
  refine ⟨⟨h, rfl, own_cap ho.1, ?_⟩, (row_own ho.1 h rfl).2, fun j u hj => ?_⟩
  · have := hc (n * 7) (.int .i64 77) (by rw [List.getElem?_append_right (by omega), hl]; simp)
    rwa [add0] at this
  · have := hc j u (by
      rw [List.getElem?_append_left]
      · exact hj
      · rcases Nat.lt_or_ge j ys.length with hh | hh
        · exact hh
        · rw [List.getElem?_eq_none hh] at hj; cases hj)
    rw [add0] at this
    rwa [Nat.zero_add]
theorem EM.mf {S : Nat → Prop} {w : World} : ∀ {f : Fo} {xs : List Value} {b o : Nat}, EM S w f xs → b < w.heap.size → (∀ j u, xs[j]? = some u → w.cell? ⟨b, o + j, none⟩ = some u) → MF w f (some ⟨b, o, none⟩)
  | .nil, _, _, _, _, _, _ => trivial
  | .node _ _ p c r, xs, b, o, h, hb, hc => by
    obtain ⟨g, ic, hh, lc, rest, rfl, h2, h3, h4, ⟨ys, mk, h5, h6, h7⟩, h8⟩ := h
    obtain ⟨i1, i2⟩ := imark_of rfl h4
    obtain ⟨l1, l2, l3⟩ := lmark_of h6 h5
    refine ⟨b, o, rfl, hb, h2, h3, ⟨_, _, _, _, fun j u hj => hc j u ?_, i1, i2, l1, EM.mf h7 l2 l3⟩, EM.mf h8 hb fun j u hj => ?_⟩
    · have hlt : j < (cells7 p (some ⟨g, 0, none⟩) ic (some ⟨hh, 0, none⟩) (flen c) lc).length := by
        rcases Nat.lt_or_ge j (cells7 p (some ⟨g, 0, none⟩) ic (some ⟨hh, 0, none⟩) (flen c) lc).length with h | h
        · exact h
        · rw [List.getElem?_eq_none h] at hj; cases hj
      rw [List.getElem?_append_left (by simpa [cells7] using hlt)]
      exact hj
    · have := hc (7 + j) u (by rw [List.getElem?_append_right (by simp)]; simpa using hj)
      rw [← this]
      congr 2
      omega
theorem VM.mv {S : Nat → Prop} {w : World} {p : Pay} {c : Fo} {v : Value} (h : VM S w p c v) : ∃ ia ic la lc, v = val p c ia ic la lc ∧ MV w p c ia ic la lc := by
  obtain ⟨g, ic, hh, lc, rfl, h2, h3, h4, ys, mk, h5, h6, h7⟩ := h
  obtain ⟨i1, i2⟩ := imark_of rfl h4
  obtain ⟨l1, l2, l3⟩ := lmark_of h6 h5
  exact ⟨_, _, _, _, rfl, h2, h3, i1, i2, l1, h7.mf l2 l3⟩
/-- a row of marked values that lies behind B; its own block holds none of their rows -/
def RowM (B : Nat) (w : World) (f : Fo) (v : Value) : Prop :=
  ∃ ys, w.ownsRow B 26 7 v (flen f) ys ∧ EM (fun b => (B ≤ b ∧ v.ownBlock ≠ some b) ∧ b < w.heap.size) w f ys
theorem RowM.nil (B : Nat) (w : World) : RowM B w .nil (.slice none 0 0) := ⟨[], World.ownsRow_nil _ _ _ _, rfl⟩
theorem RowM.kept {B : Nat} {w w' : World} {f : Fo} {v : Value} (h : RowM B w f v) (hs : w.heap.size ≤ w'.heap.size) (hk : ∀ k, k < w.heap.size → B ≤ k → w'.heap[k]? = w.heap[k]?) : RowM B w' f v := by
  obtain ⟨ys, h1, h2⟩ := h
  exact ⟨ys, row_kept h1 fun g hg => hk g (row_own h1 g hg).2 (row_own h1 g hg).1, (h2.kept fun k e1 e2 => hk k e1 e2.1.1).mono fun b hb => ⟨hb.1, Nat.lt_of_lt_of_le hb.2 hs⟩⟩
theorem RowM.add {B N : Nat} {w1 w2 : World} {f : Fo} {v : Value} {ys : List Value} {p : Pay} {c : Fo} {g ic h lc : Nat} (h1 : w1.ownsRow B 26 7 v (flen f) ys) (h2 : EM (fun b => (B ≤ b ∧ v.ownBlock ≠ some b) ∧ b < w1.heap.size) w1 f ys) (hN : ∀ g, v.ownBlock = some g → g < N) (hBN : B ≤ N)
    (hx : VM (fun b => N ≤ b) w1 p c (.agg #[.int .i64 p.kind, .int .i64 p.key, .int .i64 p.elem, .int .i64 p.num, .string p.text, .slice (some ⟨g, 0, none⟩) p.ids.length ic, .slice (some ⟨h, 0, none⟩) (flen c) lc])) (hb : Below w1.heap.size w1 w2) (hBs : B ≤ w1.heap.size) :
    ∀ v' w3, w3.ownsRow B 26 7 v' (flen f + 1) (ys ++ [.int .i64 p.kind, .int .i64 p.key, .int .i64 p.elem, .int .i64 p.num, .string p.text, .slice (some ⟨g, 0, none⟩) p.ids.length ic, .slice (some ⟨h, 0, none⟩) (flen c) lc]) → w2.grownBy w3 v.ownBlock →
      (v'.ownBlock = v.ownBlock ∨ w3.ownsRow w2.heap.size 26 7 v' (flen f + 1) (ys ++ [.int .i64 p.kind, .int .i64 p.key, .int .i64 p.elem, .int .i64 p.num, .string p.text, .slice (some ⟨g, 0, none⟩) p.ids.length ic, .slice (some ⟨h, 0, none⟩) (flen c) lc])) → RowM B w3 (fsnoc f p c) v' ∧ Below B w1 w3 ∧ ∀ k, k < w1.heap.size → v.ownBlock ≠ some k → w3.heap[k]? = w1.heap[k]? := by
  intro v' w3 g1 hg g2
  have hs13 : w1.heap.size ≤ w3.heap.size := Nat.le_trans hb.size hg.size
  have hnew : ∀ b, b < w1.heap.size → v.ownBlock ≠ some b → v'.ownBlock ≠ some b := by
    intro b hb1 hne e
    rcases g2 with g2 | g2
    · exact hne (g2 ▸ e)
    · have := (row_own g2 b e).1
      have := hb.size
      omega
  have hk : ∀ k, k < w1.heap.size → v.ownBlock ≠ some k → w3.heap[k]? = w1.heap[k]? := fun k e1 e2 => by rw [hg.block k (Nat.lt_of_lt_of_le e1 hb.size) (fun e => e2 e.symm), hb.block k e1]
  refine ⟨⟨_, by rw [flen_snoc]; exact g1, ?_⟩, ?_, hk⟩
  · have k2 : EM (fun b => (B ≤ b ∧ v'.ownBlock ≠ some b) ∧ b < w3.heap.size) w3 f ys :=
      (h2.kept fun k e1 e2 => hk k e1 e2.1.2).mono fun b hb' => ⟨⟨hb'.1.1, hnew b hb'.2 hb'.1.2⟩, Nat.lt_of_lt_of_le hb'.2 hs13⟩
    obtain ⟨g', ic', h', lc', e, hp, hc, hi, zs, mk, hy, hyl, hel⟩ := hx
    cases e
    have hm : ∀ b, N ≤ b ∧ b < w1.heap.size → (B ≤ b ∧ v'.ownBlock ≠ some b) ∧ b < w3.heap.size := fun b hb' =>
      ⟨⟨by omega, hnew b hb'.2 fun e => by have := hN b e; omega⟩, Nat.lt_of_lt_of_le hb'.2 hs13⟩
    have hk' : ∀ k, k < w1.heap.size → (N ≤ k ∧ k < w1.heap.size) → w3.heap[k]? = w1.heap[k]? := fun k e1 e2 => hk k e1 fun e => by have := hN k e; omega
    exact EM.snoc hp hc ((hi.live.kept hk').mono hm) ⟨zs, mk, (hy.live.kept hk').mono hm, hyl, (hel.live.kept hk').mono hm⟩ k2
  · refine ⟨hg.os.trans hb.os, hg.tape.trans hb.tape, hg.output.trans hb.output, hs13, fun k hk' => ?_⟩
    exact hk k (by omega) fun e => by have := (row_own h1 k e).1; omega
end Go.Proofs.Ytikoddlidhefpaa

/-
  The law's copied: a value in memory of its own, with spare room behind its lists.
-/
namespace Go.Proofs.Ytikoddlidhefpaa
set_option linter.unusedVariables false
set_option linter.unusedSimpArgs false
open Go.ChangeShapes Go.WideShapes Go.ChangeAt Go.RowKit Go.Deep

def CopiedC (p : Pay) (c : Fo) : Prop := ∀ (w : World) (ia : Option Addr) (ic : Nat) (la : Option Addr) (lc : Nat), VIn w p c ia ic la lc → (p.ids.length : Int) + totF c ≤ 1000000 →
  Calls Try.prog 12 #[val p c ia ic la lc] w fun e w' => ∃ v, e = .returned v ∧ VM (fun b => w.heap.size ≤ b) w' p c v ∧ Below w.heap.size w w'
theorem totF_mem : ∀ {f : Fo} {x : Pay × Fo}, x ∈ elems f → (x.1.ids.length : Int) + totF x.2 ≤ totF f
  | .nil, x, h => by simp [elems] at h
  | .node _ _ p c r, x, h => by
    have h1 := totF_ge c
    have h2 := totF_ge r
    simp only [elems, List.mem_cons] at h
    rcases h with rfl | h
    · simp only [totF]; omega
    · have := totF_mem h
      simp only [totF]; omega
theorem flen_tot : ∀ f : Fo, (flen f : Int) ≤ totF f
  | .nil => by simp [flen, totF]
  | .node _ _ p c r => by
    have h1 := totF_ge c
    have := flen_tot r
    simp only [flen, totF]; omega
/-- the mark behind a row of values -/
theorem mark_row {B : Nat} {W : World} {f : Fo} {v : Value} (h : RowM B W f v) (hfl : flen f ≤ 1000000) (hB : B ≤ W.heap.size) :
    ∃ hb cap ys X, (Builtin.append_ #[24, 24] 24 #[v, .slice (some ⟨W.heap.size, 0, none⟩) 1 1]).run Try.prog (W.alloc (.cells #[.int .i64 77, .int .i64 0, .int .i64 0, .int .i64 0, .string { data := #[] }, .slice none 0 0, .slice none 0 0] 26)) = .ok (.slice (some ⟨hb, 0, none⟩) (flen f + 1) cap) X ∧ flen f + 1 ≤ cap ∧ X.ownsRow B 26 7 (.slice (some ⟨hb, 0, none⟩) (flen f + 1) cap) (flen f + 1) (ys ++ .int .i64 77 :: [.int .i64 0, .int .i64 0, .int .i64 0, .string { data := #[] }, .slice none 0 0, .slice none 0 0]) ∧ ys.length = flen f * 7 ∧ EM (fun b => B ≤ b) X f ys ∧ Below B W X ∧ ∀ k, k < W.heap.size → v.ownBlock ≠ some k → X.heap[k]? = W.heap[k]? := by
  obtain ⟨i0, hi0, hz0, hz1, hz2⟩ := infoTh'
  obtain ⟨ys, h1, h2⟩ := h
  obtain ⟨v', X, hr, o1, o2, _⟩ := run_append_own (P := Try.prog) (W.alloc (.cells #[.int .i64 77, .int .i64 0, .int .i64 0, .int .i64 0, .string { data := #[] }, .slice none 0 0, .slice none 0 0] 26)) B 24 24 26 i0 _ 7 i0.bytes Try.underlying24 hi0 hz0 hz1 rfl rfl (by decide) v (flen f) ys (h1.alloc _) ⟨W.heap.size, 0, none⟩ 1 1 [.int .i64 77, .int .i64 0, .int .i64 0, .int .i64 0, .string { data := #[] }, .slice none 0 0, .slice none 0 0] rfl
    (fun j u hj => by rw [add0]; exact alloc_cell W _ 26 (0, 0) (by simpa using hj)) (by intro u hu; simp at hu; rcases hu with rfl | rfl | rfl | rfl | rfl | rfl | rfl <;> rfl) (by unfold maxLen; omega) (Nat.le_trans (Nat.mul_le_mul (show flen f + 1 ≤ 1000001 by omega) hz2) (by omega)) (by simp; omega)
  obtain ⟨g, cap, rfl⟩ := own_some o1 (Nat.le_add_left _ _)
  have hk : ∀ k, k < W.heap.size → v.ownBlock ≠ some k → X.heap[k]? = W.heap[k]? := fun k e1 e2 => by rw [o2.block k (by simp; omega) (fun e => e2 e.symm), (alloc_below W _).block k e1]
  refine ⟨g, cap, ys, X, hr, own_cap o1, o1, h2.len, (h2.kept fun k e1 e2 => hk k e1 e2.1.2).mono fun b hb => hb.1.1, ?_, hk⟩
  refine ⟨o2.os, o2.tape, o2.output, Nat.le_trans (by simp) o2.size, fun k hk' => ?_⟩
  exact hk k (by omega) fun e => by have := (row_own h1 k e).1; omega
theorem ne_of_types {w : World} {B B' n m : Nat} {v : Value} {xs ys : List Value} {g c : Nat} (h1 : w.ownsRow B 3 1 (.slice (some ⟨g, 0, none⟩) n c) n xs) (h2 : w.ownsRow B' 26 7 v m ys) : v.ownBlock ≠ some g := by
  intro e
  rcases h2.2 with ⟨rfl, _⟩ | ⟨g', cap, cur, rfl, _, hg, _⟩
  · cases e
  · cases e
    rcases h1.2 with ⟨h, _⟩ | ⟨g2, cap2, cur2, h, _, hg2, _⟩
    · cases h
    · cases h
      rw [hg] at hg2
      cases hg2
/-- an append of numbers -/
theorem ap_ids (X : World) (B : Nat) (v : Value) (n : Nat) (xs : List Value) (hown : X.ownsRow B 3 1 v n xs) (ad : Option Addr) (m c : Nat) (news : List Value) (hl : news.length = m) (hsrc : (ad = none ∧ m = 0) ∨ ∃ q, ad = some q ∧ ∀ j u, news[j]? = some u → X.cell? (q.add j) = some u)
    (h1 : ∀ u ∈ news, u.oneCell' = true) (hb : n + m ≤ 2000000) (hB : B ≤ X.heap.size) : ∃ v' X', (Builtin.append_ #[23, 23] 23 #[v, .slice ad m c]).run Try.prog X = .ok v' X' ∧ X'.ownsRow B 3 1 v' (n + m) (xs ++ news) ∧ Below B X X' ∧ ∀ k, k < X.heap.size → v.ownBlock ≠ some k → X'.heap[k]? = X.heap[k]? := by
  obtain ⟨j0, hj0, jz0, jz1, jz2⟩ := infoInt'
  rcases hsrc with ⟨rfl, rfl⟩ | ⟨q, rfl, hq⟩
  · have hn : news = [] := List.length_eq_zero_iff.1 hl
    subst hn
    exact ⟨v, X, run_append_none B 23 23 3 j0 1 c Try.underlying23 hj0 v n xs hown, by simpa using hown, Below.refl _ _, fun _ _ _ => rfl⟩
  · obtain ⟨v', X', hr, h2, h3, _⟩ := run_append_own (P := Try.prog) X B 23 23 3 j0 _ 1 j0.bytes Try.underlying23 hj0 jz0 jz1 rfl rfl (by decide) v n xs hown q m c news (by simpa using hl) hq h1 (by unfold maxLen; omega) (Nat.le_trans (Nat.mul_le_mul hb jz2) (by omega)) hB
    exact ⟨v', X', hr, h2, (Below.refl B X).grown h3 hB (fun k hk => (hown.lt k hk).1), fun k e1 e2 => h3.block k e1 (fun e => e2 e.symm)⟩
theorem src_or {w : World} {ad : Option Addr} {m c : Nat} {news : List Value} (h : Src w ad m c news) : (ad = none ∧ m = 0) ∨ ∃ q, ad = some q ∧ ∀ j u, news[j]? = some u → w.cell? (q.add j) = some u := h.2.imp (fun h => ⟨h.1, h.2.1⟩) id
theorem made_i (w : World) (o : Obj) {B : Nat} (hB : B ≤ w.heap.size) : ((w.alloc o).alloc (.cells #[] 3)).ownsRow B 3 1 (.slice (some ⟨w.heap.size + 1, 0, none⟩) 0 0) 0 [] := by
  have h := World.ownsRow_made (base := B) (e := 3) (size := 1) (w.alloc o) #[] 0 (by simp; omega) (Nat.zero_le _) rfl
  have e : (w.alloc o).heap.size = w.heap.size + 1 := by simp
  rwa [e] at h

set_option maxRecDepth 10000 in
set_option maxHeartbeats 4000000 in
theorem copied_step (p : Pay) (c : Fo) (ih : ∀ x ∈ elems c, CopiedC x.1 x.2) : CopiedC p c := by
  intro w ia ic la lc hv hsz
  have hids : p.ids.length ≤ 1000000 := by have := totF_ge c; omega
  have hidl : (p.ids.length : Int) ≤ 1000000 := by omega
  have HIH : Hid (∀ x ∈ elems c, CopiedC x.1 x.2) := ih
  have HSZ : Hid (totF c ≤ 1000000) := by show _ ≤ _; omega
  clear ih hsz
  obtain ⟨hab, hbx, hbz, hbs⟩ := copy_boxes w p c ia ic la lc
  have HDX : Hid ((zbox (bx w p c ia ic la lc)).drew.heap[w.heap.size]? = some (.cells #[.int .i64 p.kind, .int .i64 p.key, .int .i64 p.elem, .int .i64 p.num, .string p.text, .slice ia p.ids.length ic, .slice la (flen c) lc] 26 (0, 0))) := hbx
  have HDZ : Hid ((zbox (bx w p c ia ic la lc)).drew.heap[w.heap.size + 1]? = some (.cells #[.int .i64 0, .int .i64 0, .int .i64 0, .int .i64 0, .string { data := #[] }, .slice none 0 0, .slice none 0 0] 26 (0, 0))) := hbz
  have HDB : Hid (Below w.heap.size w (zbox (bx w p c ia ic la lc)).drew) := hab.drew
  have HDS : Hid (w.heap.size + 2 ≤ (zbox (bx w p c ia ic la lc)).drew.heap.size) := Nat.le_of_eq hbs.symm
  have HV : Hid (VIn w p c ia ic la lc) := hv
  clear hab hbx hbz hbs hv
  go_enter Try.func12, Try.ntmps12
  go_wp2_with fail
  rename_i Qx Kx ax
  have key : ∀ (s5 s6 s7 s8 s9 s10 s11 s12 s13 s14 s15 : Value) (X : World) (g cap : Nat), X.heap[w.heap.size]? = some (.cells #[.int .i64 p.kind, .int .i64 p.key, .int .i64 p.elem, .int .i64 p.num, .string p.text, .slice (some ⟨g, 0, none⟩) p.ids.length cap, .slice la (flen c) lc] 26 (0, 0)) →
      X.heap[w.heap.size + 1]? = some (.cells #[.int .i64 0, .int .i64 0, .int .i64 0, .int .i64 0, .string { data := #[] }, .slice none 0 0, .slice none 0 0] 26 (0, 0)) → X.ownsRow (w.heap.size + 2) 3 1 (.slice (some ⟨g, 0, none⟩) (p.ids.length + 1) cap) (p.ids.length + 1) (c64 p.ids ++ [.int .i64 77]) → Below w.heap.size w X →
      Exit.then Kx Qx .normal { tmps := #[val p c ia ic la lc, .pointer (some ⟨w.heap.size, 0, none⟩), .pointer (some ⟨w.heap.size + 1, 0, none⟩), undef, undef, s5, s6, s7, s8, s9, s10, s11, s12, s13, s14, s15, undef, undef, undef, undef, undef, undef, undef, undef, undef, undef, undef, undef, undef, undef, undef, undef, undef, undef, undef, undef, undef, undef, undef, undef, undef, undef], defers := [] } X := by
    intro s5 s6 s7 s8 s9 s10 s11 s12 s13 s14 s15 X g cap hx hz ho hbX
    obtain ⟨i0, hi0, hz0, hz1, hz2⟩ := infoTh'
    have hXs : w.heap.size + 2 ≤ X.heap.size := by have := lt_of_heap hz; omega
    have hfl : flen c ≤ 1000000 := by have := flen_tot c; have := HSZ.out; omega
    have hfl' : (flen c : Int) ≤ 1000000 := by omega
    have HST : Hid (RowM (w.heap.size + 2) X .nil (.slice none 0 0) ∧ elems .nil = (elems c).take 0 ∧ X.heap[w.heap.size]? = some (.cells #[.int .i64 p.kind, .int .i64 p.key, .int .i64 p.elem, .int .i64 p.num, .string p.text, .slice (some ⟨g, 0, none⟩) p.ids.length cap, .slice la (flen c) lc] 26 (0, 0)) ∧ X.heap[w.heap.size + 1]? = some (.cells #[.int .i64 0, .int .i64 0, .int .i64 0, .int .i64 0, .string { data := #[] }, .slice none 0 0, .slice none 0 0] 26 (0, 0)) ∧ X.ownsRow (w.heap.size + 2) 3 1 (.slice (some ⟨g, 0, none⟩) (p.ids.length + 1) cap) (p.ids.length + 1) (c64 p.ids ++ [.int .i64 77]) ∧ Below w.heap.size w X ∧ w.heap.size + 2 ≤ X.heap.size) := ⟨RowM.nil _ _, rfl, hx, hz, ho, hbX, hXs⟩
    clear hx hz ho hbX hXs HDX HDZ HDB HDS
    go_wp2_with fail
    go_loopw [3, 4] (fun lv iv wr => ∃ (i : Nat) (f : Fo), i ≤ flen c ∧ iv = .int .i64 (i : Int) ∧ Hid (RowM (w.heap.size + 2) wr f lv ∧ elems f = (elems c).take i ∧ wr.heap[w.heap.size]? = some (.cells #[.int .i64 p.kind, .int .i64 p.key, .int .i64 p.elem, .int .i64 p.num, .string p.text, .slice (some ⟨g, 0, none⟩) p.ids.length cap, .slice la (flen c) lc] 26 (0, 0)) ∧ wr.heap[w.heap.size + 1]? = some (.cells #[.int .i64 0, .int .i64 0, .int .i64 0, .int .i64 0, .string { data := #[] }, .slice none 0 0, .slice none 0 0] 26 (0, 0)) ∧ wr.ownsRow (w.heap.size + 2) 3 1 (.slice (some ⟨g, 0, none⟩) (p.ids.length + 1) cap) (p.ids.length + 1) (c64 p.ids ++ [.int .i64 77]) ∧ Below w.heap.size w wr ∧ w.heap.size + 2 ≤ wr.heap.size)) (fun _ iv _ => flen c - (intOf iv).toNat)
    case atStart => exact ⟨0, .nil, Nat.zero_le _, rfl, HST.out⟩
    case round =>
      clear HST
      obtain ⟨i, f, hi, rfl, H⟩ := hrel
      obtain ⟨ad, cc, rfl⟩ := own_sl (H.out.1.choose_spec).1
      have HFF : Hid (flen f = i) := by
        show _ = _
        have := congrArg List.length H.out.2.1
        rw [elems_len, List.length_take, elems_len] at this
        omega
      obtain ⟨⟨b0, b1, b2, b3, b4, b5, b6⟩, c0, c1, c2, c3, c4, c5, c6⟩ := blk7 H.out.2.2.1
      by_cases hlt : i < flen c
      · have hlt' : (i : Int) < (flen c : Int) := by omega
        obtain ⟨q, d, b, o, ja, jc, ka, kc, bt, ot, eq, mem, efd, rfl, hbl, hin, y0, y1, y2, y3, y4, y5, y6⟩ := row_at (HV.out.list.later H.out.2.2.2.2.2.1) hlt
        have CC := HIH.out _ mem wr ja jc ka kc hin (by have h1 := totF_mem mem; have := HSZ.out; omega)
        have HQ : Hid ((elems c)[i]? = some (q, d)) := eq
        clear eq mem efd
        go_wp2_with fail
        refine CC.mono ?_
        rintro e W1 ⟨v1, rfl, hvm, hb1⟩
        obtain ⟨g1, ic1, h1', lc1, rfl, hp1, hl1, hi1, zs, mk, hy1, hyl, hel⟩ := hvm
        obtain ⟨ys, r1, r2⟩ := H.out.1.kept hb1.size fun k e1 _ => hb1.block k e1
        have HOW : Hid (∀ g, (Value.slice ad (flen f) cc).ownBlock = some g → g < wr.heap.size) := fun g hg => (row_own (H.out.1.choose_spec).1 g hg).2
        have HADD : Hid (∀ v' w3, w3.ownsRow (w.heap.size + 2) 26 7 v' (flen f + 1) (ys ++ [.int .i64 q.kind, .int .i64 q.key, .int .i64 q.elem, .int .i64 q.num, .string q.text, .slice (some ⟨g1, 0, none⟩) q.ids.length ic1, .slice (some ⟨h1', 0, none⟩) (flen d) lc1]) → (W1.alloc (.cells #[.int .i64 q.kind, .int .i64 q.key, .int .i64 q.elem, .int .i64 q.num, .string q.text, .slice (some ⟨g1, 0, none⟩) q.ids.length ic1, .slice (some ⟨h1', 0, none⟩) (flen d) lc1] 26)).grownBy w3 (Value.slice ad (flen f) cc).ownBlock →
          (v'.ownBlock = (Value.slice ad (flen f) cc).ownBlock ∨ w3.ownsRow (W1.alloc (.cells #[.int .i64 q.kind, .int .i64 q.key, .int .i64 q.elem, .int .i64 q.num, .string q.text, .slice (some ⟨g1, 0, none⟩) q.ids.length ic1, .slice (some ⟨h1', 0, none⟩) (flen d) lc1] 26)).heap.size 26 7 v' (flen f + 1) (ys ++ [.int .i64 q.kind, .int .i64 q.key, .int .i64 q.elem, .int .i64 q.num, .string q.text, .slice (some ⟨g1, 0, none⟩) q.ids.length ic1, .slice (some ⟨h1', 0, none⟩) (flen d) lc1])) → RowM (w.heap.size + 2) w3 (fsnoc f q d) v' ∧ Below (w.heap.size + 2) W1 w3 ∧ ∀ k, k < W1.heap.size → (Value.slice ad (flen f) cc).ownBlock ≠ some k → w3.heap[k]? = W1.heap[k]?) :=
          RowM.add r1 r2 HOW.out H.out.2.2.2.2.2.2 ⟨_, _, _, _, rfl, hp1, hl1, hi1, zs, mk, hy1, hyl, hel⟩ (alloc_below _ _) (Nat.le_trans H.out.2.2.2.2.2.2 hb1.size)
        have HO1 : Hid (W1.ownsRow (w.heap.size + 2) 26 7 (.slice ad (flen f) cc) (flen f) ys) := r1
        have HM : Hid (flen f + 1 ≤ maxLen ∧ (flen f + 1) * i0.bytes ≤ 140737488355328) := ⟨by have := HFF.out; unfold maxLen; omega, Nat.le_trans (Nat.mul_le_mul (show flen f + 1 ≤ 1000001 by have := HFF.out; omega) hz2) (by omega)⟩
        have HBB : Hid (w.heap.size + 2 ≤ (W1.alloc (.cells #[.int .i64 q.kind, .int .i64 q.key, .int .i64 q.elem, .int .i64 q.num, .string q.text, .slice (some ⟨g1, 0, none⟩) q.ids.length ic1, .slice (some ⟨h1', 0, none⟩) (flen d) lc1] 26)).heap.size) := by show _ ≤ _; have := H.out.2.2.2.2.2.2; have := hb1.size; simp; omega
        have HR1 : Hid (W1.heap[w.heap.size]? = some (.cells #[.int .i64 p.kind, .int .i64 p.key, .int .i64 p.elem, .int .i64 p.num, .string p.text, .slice (some ⟨g, 0, none⟩) p.ids.length cap, .slice (some ⟨b, o, none⟩) (flen c) lc] 26 (0, 0)) ∧ W1.heap[w.heap.size + 1]? = some (.cells #[.int .i64 0, .int .i64 0, .int .i64 0, .int .i64 0, .string { data := #[] }, .slice none 0 0, .slice none 0 0] 26 (0, 0)) ∧ W1.ownsRow (w.heap.size + 2) 3 1 (.slice (some ⟨g, 0, none⟩) (p.ids.length + 1) cap) (p.ids.length + 1) (c64 p.ids ++ [.int .i64 77]) ∧ Below w.heap.size w W1 ∧ w.heap.size + 2 ≤ W1.heap.size) :=
          ⟨below_at hb1 H.out.2.2.1, below_at hb1 H.out.2.2.2.1, row_kept H.out.2.2.2.2.1 fun g hg => hb1.block g (row_own H.out.2.2.2.2.1 g hg).2, H.out.2.2.2.2.2.1.trans (hb1.mono H.out.2.2.2.2.2.1.size), Nat.le_trans H.out.2.2.2.2.2.2 hb1.size⟩
        have HEL : Hid (elems (fsnoc f q d) = (elems c).take (i + 1)) := by
          show _ = _
          rw [elems_snoc, H.out.2.1, List.take_add_one, HQ.out]
          rfl
        clear hp1 hl1 hi1 hy1 hyl hel r1 r2 H CC HQ HOW b0 b1 b2 b3 b4 b5 b6 c0 c1 c2 c3 c4 c5 c6
        go_wp2_with (at_builtin; refine wpList_append_fresh rfl (.tmp 23) (.tmp 30) 24 rfl (w.heap.size + 2) 26 i0 _ 7 i0.bytes Try.underlying24 hi0 hz0 hz1 rfl rfl (by decide) _ (flen f) ys rfl (HO1.out.alloc _) ⟨W1.heap.size, 0, none⟩ 1 1 [.int .i64 q.kind, .int .i64 q.key, .int .i64 q.elem, .int .i64 q.num, .string q.text, .slice (some ⟨g1, 0, none⟩) q.ids.length ic1, .slice (some ⟨h1', 0, none⟩) (flen d) lc1] rfl rfl (fun j u hj => by rw [add0]; exact alloc_cell W1 _ 26 (0, 0) (by simpa using hj)) (by intro u hu; simp at hu; rcases hu with rfl | rfl | rfl | rfl | rfl | rfl | rfl <;> rfl) HM.out.1 HM.out.2 HBB.out ?_; intro v3 W3 q1 q2 q3; have HS3 : Hid (RowM (w.heap.size + 2) W3 (fsnoc f q d) v3 ∧ Below (w.heap.size + 2) W1 W3 ∧ ∀ k, k < W1.heap.size → (Value.slice ad (flen f) cc).ownBlock ≠ some k → W3.heap[k]? = W1.heap[k]?) := HADD.out v3 W3 q1 q2 q3; clear q1 q2 q3)
        go_roundw
        case rel => exact ⟨i + 1, fsnoc f q d, by omega, by go_num, HS3.out.1, HEL.out, (HS3.out.2.1.block _ (by omega)).trans HR1.out.1, (HS3.out.2.1.block _ (by omega)).trans HR1.out.2.1, row_kept HR1.out.2.2.1 fun g' hg' => HS3.out.2.2 g' (row_own HR1.out.2.2.1 g' hg').2 (by cases hg'; exact ne_of_types HR1.out.2.2.1 HO1.out), HR1.out.2.2.2.1.trans (HS3.out.2.1.mono (by omega)), Nat.le_trans HR1.out.2.2.2.2 HS3.out.2.1.size⟩
        case measure => simp [intOf]; omega
      · have hi' : i = flen c := by omega
        have hge : ¬ (i : Int) < (flen c : Int) := by omega
        have HEQ : Hid (elems f = elems c) := by show _ = _; rw [H.out.2.1, hi', ← elems_len, List.take_length]
        have hfc : flen f = flen c := by rw [HFF.out, hi']
        obtain ⟨h, lcap, ys, X3, hrun, hlc, o3, yl, em, bX, kX⟩ := mark_row (W := wr.drew) (H.out.1.kept (w' := wr.drew) (Nat.le_refl _) fun _ _ _ => rfl) (by have := HFF.out; omega) H.out.2.2.2.2.2.2
        have HMR : Hid (X3.ownsRow (w.heap.size + 2) 26 7 (.slice (some ⟨h, 0, none⟩) (flen c + 1) lcap) (flen c + 1) (ys ++ .int .i64 77 :: [.int .i64 0, .int .i64 0, .int .i64 0, .string { data := #[] }, .slice none 0 0, .slice none 0 0]) ∧ ys.length = flen c * 7 ∧ EM (fun b => w.heap.size + 2 ≤ b) X3 c ys ∧ Below (w.heap.size + 2) wr.drew X3) := by
          rw [hfc] at o3 yl
          exact ⟨o3, yl, em.congr HEQ.out, bX⟩
        have HIX : Hid (X3.ownsRow (w.heap.size + 2) 3 1 (.slice (some ⟨g, 0, none⟩) (p.ids.length + 1) cap) (p.ids.length + 1) (c64 p.ids ++ [.int .i64 77])) := row_kept H.out.2.2.2.2.1 fun g' hg' => kX g' (row_own H.out.2.2.2.2.1 g' hg').2 (by cases hg'; exact ne_of_types H.out.2.2.2.2.1 (H.out.1.choose_spec).1)
        have HXX : Hid (X3.heap[w.heap.size]? = some (.cells #[.int .i64 p.kind, .int .i64 p.key, .int .i64 p.elem, .int .i64 p.num, .string p.text, .slice (some ⟨g, 0, none⟩) p.ids.length cap, .slice la (flen c) lc] 26 (0, 0)) ∧ X3.heap[w.heap.size + 1]? = some (.cells #[.int .i64 0, .int .i64 0, .int .i64 0, .int .i64 0, .string { data := #[] }, .slice none 0 0, .slice none 0 0] 26 (0, 0)) ∧ Below w.heap.size w X3) := ⟨(bX.block _ (by omega)).trans H.out.2.2.1, (bX.block _ (by omega)).trans H.out.2.2.2.1, (H.out.2.2.2.2.2.1.drew).trans (bX.mono (by omega))⟩
        have s0 : wr.drew.cell? ⟨w.heap.size, 6, none⟩ = some (.slice la (flen c) lc) := cell_of_block (show wr.drew.heap[w.heap.size]? = _ from H.out.2.2.1) rfl
        have hlcap : (flen c : Int) ≤ (lcap : Int) := by omega
        have hok := HV.out.ok
        have hlen := HV.out.len
        clear o3 yl em bX kX H
        clear HFF
        rw [hfc] at hrun
        go_wp2_with fail
        refine wp_region_last 9 (fun w' => w'.cell? ⟨w.heap.size, 6, none⟩ = some (.slice la (flen c) lc)) (by kernel_rfl) s0 (fun hHeld => ?_)
        generalize wr.drew = D2 at *
        refine wpAnyL_take (i := 0) (v := ?_) rfl (by kernel_rfl) (by kernel_rfl) (by kernel_rfl) (by kernel_rfl) (fun _ _ _ h => h) (Or.inl ⟨by rfl, ?_⟩) (by assumption) ?_
        rotate_left
        · intro w hSw
          (try dsimp only at hSw)
          go_simp
          (try with_reducible rfl)
        (try simp only [Act.put, List.setIfInBounds_toArray, List.set_cons_zero, List.set_cons_succ])
        refine wpAnyL_take (i := 1) (v := ?_) rfl (by kernel_rfl) (by kernel_rfl) (by kernel_rfl) (by kernel_rfl) (fun _ _ _ h => h) (Or.inl ⟨by rfl, ?_⟩) (by assumption) ?_
        rotate_left
        · intro w hSw
          (try dsimp only at hSw)
          go_simp
          (try with_reducible rfl)
        (try simp only [Act.put, List.setIfInBounds_toArray, List.set_cons_zero, List.set_cons_succ])
        refine wpAnyL_take (i := 4) (v := ?_) rfl (by kernel_rfl) (by kernel_rfl) (by kernel_rfl) (by kernel_rfl) (fun _ _ _ h => h) (Or.inl ⟨by rfl, ?_⟩) (by assumption) ?_
        rotate_left
        · intro w hSw
          (try dsimp only at hSw)
          go_simp
          (try with_reducible rfl)
        (try simp only [Act.put, List.setIfInBounds_toArray, List.set_cons_zero, List.set_cons_succ])
        refine wpAnyL_take (i := 5) (v := ?_) rfl (by kernel_rfl) (by kernel_rfl) (by kernel_rfl) (by kernel_rfl) (fun _ _ _ h => h) (Or.inl ⟨by rfl, ?_⟩) (by assumption) ?_
        rotate_left
        · intro w hSw
          (try dsimp only at hSw)
          go_simp
          (try with_reducible rfl)
        (try simp only [Act.put, List.setIfInBounds_toArray, List.set_cons_zero, List.set_cons_succ])
        refine wpAnyL_take (i := 6) (v := ?_) rfl (by kernel_rfl) (by kernel_rfl) (by kernel_rfl) (by kernel_rfl) (fun _ _ _ h => h) (Or.inl ⟨by rfl, ?_⟩) (by assumption) ?_
        rotate_left
        · intro w hSw
          (try dsimp only at hSw)
          go_simp
          (try with_reducible rfl)
        (try simp only [Act.put, List.setIfInBounds_toArray, List.set_cons_zero, List.set_cons_succ])
        refine wpAnyL_ready (rs := [2]) (by kernel_rfl) (by simp) ?_
        refine AllReadyL.cons rfl (fun K hK => ?_) AllReadyL.nil
        go_simp
        refine hK.out _ _ (fun _ => cell_later (alloc_below D2 _) s0) ?_
        clear hK K
        (try simp only [Act.put, List.setIfInBounds_toArray, List.set_cons_zero, List.set_cons_succ])
        have x3 := HXX.out.1
        have s3 : X3.cell? ⟨w.heap.size, 6, none⟩ = some (.slice la (flen c) lc) := cell_of_block x3 rfl
        have f3 : X3.frozen? ⟨w.heap.size, 6, none⟩ = false := frozen_of_block x3
        refine wpAnyL_ready (rs := [3]) (by kernel_rfl) (by simp) ?_
        refine AllReadyL.cons rfl (fun K hK => ?_) AllReadyL.nil
        refine ready_append rfl (.tmp 32) (.tmp 34) 24 rfl _ _ _ rfl rfl hrun ?_
        refine hK.out _ _ (fun _ => s3) ?_
        clear hK K
        (try simp only [Act.put, List.setIfInBounds_toArray, List.set_cons_zero, List.set_cons_succ])
        refine wpAnyL_take (i := 7) (v := ?_) rfl (by kernel_rfl) (by kernel_rfl) (by kernel_rfl) (by kernel_rfl) (fun _ _ _ h => h) (Or.inl ⟨by rfl, ?_⟩) (by assumption) ?_
        rotate_left
        · intro w hSw
          (try dsimp only at hSw)
          go_simp
          (try with_reducible rfl)
        (try simp only [Act.put, List.setIfInBounds_toArray, List.set_cons_zero, List.set_cons_succ])
        refine wpAnyL_take (i := 8) (v := ?_) rfl (by kernel_rfl) (by kernel_rfl) (by kernel_rfl) (by kernel_rfl) (fun _ _ _ h => h) (Or.inl ⟨by rfl, ?_⟩) (by assumption) ?_
        rotate_left
        · intro w hSw
          (try dsimp only at hSw)
          go_simp
          (try with_reducible rfl)
        (try simp only [Act.put, List.setIfInBounds_toArray, List.set_cons_zero, List.set_cons_succ])
        refine wpAnyL_ready (rs := [9]) (by kernel_rfl) (by simp) ?_
        refine AllReadyL.cons rfl (fun K hK => ?_) AllReadyL.nil
        go_simp
        refine hK.out _ _ (fun h => absurd rfl h) ?_
        clear hK K
        refine wpAnyL_done (by kernel_rfl) ?_ _
        have x4 := set6 x3 (.slice (some ⟨h, 0, none⟩) (flen c) lcap)
        have z4 : (X3.setCell ⟨w.heap.size, 6, none⟩ (.slice (some ⟨h, 0, none⟩) (flen c) lcap)).heap[w.heap.size + 1]? = some (.cells #[.int .i64 0, .int .i64 0, .int .i64 0, .int .i64 0, .string { data := #[] }, .slice none 0 0, .slice none 0 0] 26 (0, 0)) := (Below.heap_setCell _ _ _ _ (by show w.heap.size + 1 ≠ w.heap.size; omega)).trans HXX.out.2.1
        have HVM : Hid (VM (fun b => w.heap.size + 1 < b) (X3.setCell ⟨w.heap.size, 6, none⟩ (.slice (some ⟨h, 0, none⟩) (flen c) lcap)) p c (.agg #[.int .i64 p.kind, .int .i64 p.key, .int .i64 p.elem, .int .i64 p.num, .string p.text, .slice (some ⟨g, 0, none⟩) p.ids.length cap, .slice (some ⟨h, 0, none⟩) (flen c) lcap])) := by
          have hk : ∀ k, w.heap.size + 2 ≤ k → (X3.setCell ⟨w.heap.size, 6, none⟩ (.slice (some ⟨h, 0, none⟩) (flen c) lcap)).heap[k]? = X3.heap[k]? := fun k hk => Below.heap_setCell _ _ _ _ (by show k ≠ w.heap.size; omega)
          have r1 := row_kept HIX.out fun g' hg' => hk g' (row_own HIX.out g' hg').1
          have r2 := row_kept HMR.out.1 fun g' hg' => hk g' (row_own HMR.out.1 g' hg').1
          exact ⟨g, cap, h, lcap, rfl, hok, hlen, ⟨row_zero r1, fun g' hg' => by have := (row_own r1 g' hg').1; omega⟩, ys, _, ⟨row_zero r2, fun g' hg' => by have := (row_own r2 g' hg').1; omega⟩, HMR.out.2.1, (HMR.out.2.2.1.kept fun k _ h2 => hk k h2).mono fun b hb => by omega⟩
        have HBF : Hid (Below w.heap.size w (X3.setCell ⟨w.heap.size, 6, none⟩ (.slice (some ⟨h, 0, none⟩) (flen c) lcap))) := HXX.out.2.2.setCell (p := ⟨w.heap.size, 6, none⟩) (Nat.le_refl _) _
        generalize X3.setCell ⟨w.heap.size, 6, none⟩ (.slice (some ⟨h, 0, none⟩) (flen c) lcap) = X4 at *
        clear hrun s3 f3 x3 HXX HMR HIX
        obtain ⟨⟨e0, e1, e2, e3, e4, e5, e6⟩, _⟩ := blk7 x4
        obtain ⟨⟨z0, z1, z2, z3, z4', z5, z6⟩, g0, g1, g2, g3, g4, g5, g6⟩ := blk7 z4
        go_wp2_with fail
        obtain ⟨s1, s2⟩ := store7 z4 (.int .i64 p.kind) (.int .i64 p.key) (.int .i64 p.elem) (.int .i64 p.num) (.string p.text) (.slice (some ⟨g, 0, none⟩) p.ids.length cap) (.slice (some ⟨h, 0, none⟩) (flen c) lcap)
        refine bodyPost_ret (results_val rfl _ _ _ _ rfl _ rfl (cells_of_block s1)) rfl ?_
        refine ⟨_, rfl, ?_, ⟨s2.os.trans HBF.out.os, s2.tape.trans HBF.out.tape, s2.output.trans HBF.out.output, by rw [← s2.size]; exact HBF.out.size, fun k hk => by rw [s2.block k (by omega), HBF.out.block k hk]⟩⟩
        obtain ⟨g', ic', h', lc', e, k1, k2, k3, ys', mk', k4, k5, k6⟩ := HVM.out
        have hk : ∀ k, k < X4.heap.size → w.heap.size + 1 < k → _ := fun k _ h2 => s2.block k (by omega)
        exact ⟨g', ic', h', lc', e, k1, k2, (k3.kept hk).mono fun b hb => by omega, ys', mk', (k4.kept hk).mono fun b hb => by omega, k5, (k6.kept hk).mono fun b hb => by omega⟩
  have s0 : (zbox (bx w p c ia ic la lc)).drew.cell? ⟨w.heap.size, 5, none⟩ = some (.slice ia p.ids.length ic) := cell_of_block HDX.out rfl
  refine wp_region_last 11 (fun w' => w'.cell? ⟨w.heap.size, 5, none⟩ = some (.slice ia p.ids.length ic)) (by kernel_rfl) s0 (fun hHeld => ?_)
  clear ax
  generalize (zbox (bx w p c ia ic la lc)).drew = D at *
  refine wpAnyL_take (i := 1) (v := ?_) rfl (by kernel_rfl) (by kernel_rfl) (by kernel_rfl) (by kernel_rfl) (fun _ _ _ h => h) (Or.inl ⟨by rfl, ?_⟩) (by assumption) ?_
  rotate_left
  · intro w hSw
    (try dsimp only at hSw)
    go_simp
    (try with_reducible rfl)
  (try simp only [Act.put, List.setIfInBounds_toArray, List.set_cons_zero, List.set_cons_succ])
  refine wpAnyL_take (i := 2) (v := ?_) rfl (by kernel_rfl) (by kernel_rfl) (by kernel_rfl) (by kernel_rfl) (fun _ _ _ h => h) (Or.inl ⟨by rfl, ?_⟩) (by assumption) ?_
  rotate_left
  · intro w hSw
    (try dsimp only at hSw)
    go_simp
    (try with_reducible rfl)
  (try simp only [Act.put, List.setIfInBounds_toArray, List.set_cons_zero, List.set_cons_succ])
  refine wpAnyL_take (i := 6) (v := ?_) rfl (by kernel_rfl) (by kernel_rfl) (by kernel_rfl) (by kernel_rfl) (fun _ _ _ h => h) (Or.inl ⟨by rfl, ?_⟩) (by assumption) ?_
  rotate_left
  · intro w hSw
    (try dsimp only at hSw)
    go_simp
    (try with_reducible rfl)
  (try simp only [Act.put, List.setIfInBounds_toArray, List.set_cons_zero, List.set_cons_succ])
  refine wpAnyL_take (i := 7) (v := ?_) rfl (by kernel_rfl) (by kernel_rfl) (by kernel_rfl) (by kernel_rfl) (fun _ _ _ h => h) (Or.inl ⟨by rfl, ?_⟩) (by assumption) ?_
  rotate_left
  · intro w hSw
    (try dsimp only at hSw)
    go_simp
    (try with_reducible rfl)
  (try simp only [Act.put, List.setIfInBounds_toArray, List.set_cons_zero, List.set_cons_succ])
  refine wpAnyL_take (i := 8) (v := ?_) rfl (by kernel_rfl) (by kernel_rfl) (by kernel_rfl) (by kernel_rfl) (fun _ _ _ h => h) (Or.inl ⟨by rfl, ?_⟩) (by assumption) ?_
  rotate_left
  · intro w hSw
    (try dsimp only at hSw)
    go_simp
    (try with_reducible rfl)
  (try simp only [Act.put, List.setIfInBounds_toArray, List.set_cons_zero, List.set_cons_succ])
  have HDS' : w.heap.size + 2 ≤ D.heap.size := HDS.out
  refine wpAnyL_ready (rs := [0, 4]) (by kernel_rfl) (by simp) ?_
  refine AllReadyL.cons rfl (fun K hK => ?_) (AllReadyL.cons rfl (fun K hK => ?_) AllReadyL.nil)
  · go_simp
    refine hK.out _ _ (fun _ => cell_later (alloc_below D _) s0) ?_
    clear hK K
    (try simp only [Act.put, List.setIfInBounds_toArray, List.set_cons_zero, List.set_cons_succ])
    refine wpAnyL_ready (rs := [3, 4]) (by kernel_rfl) (by simp) ?_
    refine AllReadyL.cons rfl (fun K hK => ?_) (AllReadyL.cons rfl (fun K hK => ?_) AllReadyL.nil)
    · obtain ⟨v1, X1, hrun1, o1, b1, k1⟩ := ap_ids (D.alloc (.cells #[] 3)) (w.heap.size + 2) (.slice (some ⟨D.heap.size, 0, none⟩) 0 0) 0 [] (World.ownsRow_made D #[] 0 HDS.out (Nat.zero_le _) rfl) ia p.ids.length ic (c64 p.ids) (c64_len _) (src_or (HV.out.ids.later (HDB.out.trans ((alloc_below D _).mono (by omega))))) (c64_one _) (by omega) (by simp; omega)
      rw [Nat.zero_add, List.nil_append] at o1
      refine ready_append rfl (.tmp 5) (.tmp 7) 23 rfl _ _ _ rfl rfl hrun1 ?_
      have b01 : Below (w.heap.size + 2) D X1 := ((alloc_below D _).mono HDS.out).trans b1
      have sx1 : X1.cell? ⟨w.heap.size, 5, none⟩ = some (.slice ia p.ids.length ic) := by rw [b01.cell (p := ⟨w.heap.size, 5, none⟩) (by show w.heap.size < w.heap.size + 2; omega)]; exact s0
      refine hK.out _ _ (fun _ => sx1) ?_
      clear hK K
      (try simp only [Act.put, List.setIfInBounds_toArray, List.set_cons_zero, List.set_cons_succ])
      refine wpAnyL_ready (rs := [4]) (by kernel_rfl) (by simp) ?_
      refine AllReadyL.cons rfl (fun K hK => ?_) AllReadyL.nil
      go_simp
      have sx2 : (X1.alloc (.cells #[.int .i64 77] 3)).cell? ⟨w.heap.size, 5, none⟩ = some (.slice ia p.ids.length ic) := cell_later (alloc_below X1 _) sx1
      refine hK.out _ _ (fun _ => sx2) ?_
      clear hK K
      (try simp only [Act.put, List.setIfInBounds_toArray, List.set_cons_zero, List.set_cons_succ])
      obtain ⟨v3, X3, hrun3, o3, b13, k3⟩ := ap_ids (X1.alloc (.cells #[.int .i64 77] 3)) (w.heap.size + 2) v1 p.ids.length (c64 p.ids) (o1.alloc _) (some ⟨X1.heap.size, 0, none⟩) 1 1 [.int .i64 77] rfl (.inr ⟨_, rfl, new_news X1 [.int .i64 77] 3 (0, 0)⟩) (c64_one [77]) (by omega) (by have := b01.size; simp; omega)
      have b3 : Below (w.heap.size + 2) D X3 := (b01.trans ((alloc_below X1 _).mono (by have := b01.size; omega))).trans b13
      refine wpAnyL_ready (rs := [5]) (by kernel_rfl) (by simp) ?_
      refine AllReadyL.cons rfl (fun K hK => ?_) AllReadyL.nil
      refine ready_append rfl (.tmp 8) (.tmp 9) 23 rfl _ _ _ rfl rfl hrun3 ?_
      obtain ⟨g, cap, rfl⟩ := own_some o3 (Nat.le_add_left _ _)
      have hcap : p.ids.length + 1 ≤ cap := own_cap o3
      have hcap' : (p.ids.length : Int) ≤ (cap : Int) := by omega
      have x3 : X3.heap[w.heap.size]? = some (.cells #[.int .i64 p.kind, .int .i64 p.key, .int .i64 p.elem, .int .i64 p.num, .string p.text, .slice ia p.ids.length ic, .slice la (flen c) lc] 26 (0, 0)) := (b3.block _ (by omega)).trans HDX.out
      have z3 : X3.heap[w.heap.size + 1]? = _ := (b3.block _ (by omega)).trans HDZ.out
      have s3 : X3.cell? ⟨w.heap.size, 5, none⟩ = some (.slice ia p.ids.length ic) := cell_of_block x3 rfl
      have f3 : X3.frozen? ⟨w.heap.size, 5, none⟩ = false := frozen_of_block x3
      refine hK.out _ _ (fun _ => s3) ?_
      clear hK K
      (try simp only [Act.put, List.setIfInBounds_toArray, List.set_cons_zero, List.set_cons_succ])
      refine wpAnyL_take (i := 9) (v := ?_) rfl (by kernel_rfl) (by kernel_rfl) (by kernel_rfl) (by kernel_rfl) (fun _ _ _ h => h) (Or.inl ⟨by rfl, ?_⟩) (by assumption) ?_
      rotate_left
      · intro w hSw
        (try dsimp only at hSw)
        go_simp
        (try with_reducible rfl)
      (try simp only [Act.put, List.setIfInBounds_toArray, List.set_cons_zero, List.set_cons_succ])
      refine wpAnyL_take (i := 10) (v := ?_) rfl (by kernel_rfl) (by kernel_rfl) (by kernel_rfl) (by kernel_rfl) (fun _ _ _ h => h) (Or.inl ⟨by rfl, ?_⟩) (by assumption) ?_
      rotate_left
      · intro w hSw
        (try dsimp only at hSw)
        go_simp
        (try with_reducible rfl)
      (try simp only [Act.put, List.setIfInBounds_toArray, List.set_cons_zero, List.set_cons_succ])
      refine wpAnyL_ready (rs := [11]) (by kernel_rfl) (by simp) ?_
      refine AllReadyL.cons rfl (fun K hK => ?_) AllReadyL.nil
      go_simp
      refine hK.out _ _ (fun h => absurd rfl h) ?_
      clear hK K
      refine wpAnyL_done (by kernel_rfl) ?_ _
      refine key _ _ _ _ _ _ _ _ _ _ _ _ g cap (set5 x3 _) ((Below.heap_setCell _ _ _ _ (by show w.heap.size + 1 ≠ w.heap.size; omega)).trans z3) (ownsRow_setCell_below (a := ⟨w.heap.size, 5, none⟩) o3 (by show w.heap.size < w.heap.size + 2; omega) _) ?_
      exact (HDB.out.trans (b3.mono (by omega))).setCell (p := ⟨w.heap.size, 5, none⟩) (Nat.le_refl _) _
    · go_simp
      have sx1 : ((D.alloc (.cells #[] 3)).alloc (.cells #[.int .i64 77] 3)).cell? ⟨w.heap.size, 5, none⟩ = some (.slice ia p.ids.length ic) := cell_later (alloc_below _ _) (cell_later (alloc_below D _) s0)
      refine hK.out _ _ (fun _ => sx1) ?_
      clear hK K
      (try simp only [Act.put, List.setIfInBounds_toArray, List.set_cons_zero, List.set_cons_succ])
      obtain ⟨v1, X1, hrun1, o1, b1, k1⟩ := ap_ids ((D.alloc (.cells #[] 3)).alloc (.cells #[.int .i64 77] 3)) (w.heap.size + 2) (.slice (some ⟨D.heap.size, 0, none⟩) 0 0) 0 [] ((World.ownsRow_made D #[] 0 HDS.out (Nat.zero_le _) rfl).alloc _) ia p.ids.length ic (c64 p.ids) (c64_len _) (src_or (HV.out.ids.later ((HDB.out.trans ((alloc_below D _).mono (by omega))).alloc (by simp; omega) _))) (c64_one _) (by omega) (by simp; omega)
      rw [Nat.zero_add, List.nil_append] at o1
      refine wpAnyL_ready (rs := [3]) (by kernel_rfl) (by simp) ?_
      refine AllReadyL.cons rfl (fun K hK => ?_) AllReadyL.nil
      refine ready_append rfl (.tmp 5) (.tmp 7) 23 rfl _ _ _ rfl rfl hrun1 ?_
      have b01 : Below (w.heap.size + 2) D X1 := (((alloc_below D _).mono HDS.out).alloc (by simp; omega) _).trans b1
      have sx2 : X1.cell? ⟨w.heap.size, 5, none⟩ = some (.slice ia p.ids.length ic) := by rw [b01.cell (p := ⟨w.heap.size, 5, none⟩) (by show w.heap.size < w.heap.size + 2; omega)]; exact s0
      refine hK.out _ _ (fun _ => sx2) ?_
      clear hK K
      (try simp only [Act.put, List.setIfInBounds_toArray, List.set_cons_zero, List.set_cons_succ])
      have h77 : X1.heap[D.heap.size + 1]? = some (.cells #[.int .i64 77] 3 (0, 0)) := (k1 _ (by simp) (by simp [Value.ownBlock])).trans (heap2_new D _ _)
      obtain ⟨v3, X3, hrun3, o3, b13, k3⟩ := ap_ids X1 (w.heap.size + 2) v1 p.ids.length (c64 p.ids) o1 (some ⟨D.heap.size + 1, 0, none⟩) 1 1 [.int .i64 77] rfl (.inr ⟨_, rfl, fun j u hj => by rw [add0]; exact cell_of_block h77 (by simpa using hj)⟩) (c64_one [77]) (by omega) (Nat.le_trans HDS.out b01.size)
      have b3 : Below (w.heap.size + 2) D X3 := b01.trans b13
      refine wpAnyL_ready (rs := [5]) (by kernel_rfl) (by simp) ?_
      refine AllReadyL.cons rfl (fun K hK => ?_) AllReadyL.nil
      refine ready_append rfl (.tmp 8) (.tmp 9) 23 rfl _ _ _ rfl rfl hrun3 ?_
      obtain ⟨g, cap, rfl⟩ := own_some o3 (Nat.le_add_left _ _)
      have hcap : p.ids.length + 1 ≤ cap := own_cap o3
      have hcap' : (p.ids.length : Int) ≤ (cap : Int) := by omega
      have x3 : X3.heap[w.heap.size]? = some (.cells #[.int .i64 p.kind, .int .i64 p.key, .int .i64 p.elem, .int .i64 p.num, .string p.text, .slice ia p.ids.length ic, .slice la (flen c) lc] 26 (0, 0)) := (b3.block _ (by omega)).trans HDX.out
      have z3 : X3.heap[w.heap.size + 1]? = _ := (b3.block _ (by omega)).trans HDZ.out
      have s3 : X3.cell? ⟨w.heap.size, 5, none⟩ = some (.slice ia p.ids.length ic) := cell_of_block x3 rfl
      have f3 : X3.frozen? ⟨w.heap.size, 5, none⟩ = false := frozen_of_block x3
      refine hK.out _ _ (fun _ => s3) ?_
      clear hK K
      (try simp only [Act.put, List.setIfInBounds_toArray, List.set_cons_zero, List.set_cons_succ])
      refine wpAnyL_take (i := 9) (v := ?_) rfl (by kernel_rfl) (by kernel_rfl) (by kernel_rfl) (by kernel_rfl) (fun _ _ _ h => h) (Or.inl ⟨by rfl, ?_⟩) (by assumption) ?_
      rotate_left
      · intro w hSw
        (try dsimp only at hSw)
        go_simp
        (try with_reducible rfl)
      (try simp only [Act.put, List.setIfInBounds_toArray, List.set_cons_zero, List.set_cons_succ])
      refine wpAnyL_take (i := 10) (v := ?_) rfl (by kernel_rfl) (by kernel_rfl) (by kernel_rfl) (by kernel_rfl) (fun _ _ _ h => h) (Or.inl ⟨by rfl, ?_⟩) (by assumption) ?_
      rotate_left
      · intro w hSw
        (try dsimp only at hSw)
        go_simp
        (try with_reducible rfl)
      (try simp only [Act.put, List.setIfInBounds_toArray, List.set_cons_zero, List.set_cons_succ])
      refine wpAnyL_ready (rs := [11]) (by kernel_rfl) (by simp) ?_
      refine AllReadyL.cons rfl (fun K hK => ?_) AllReadyL.nil
      go_simp
      refine hK.out _ _ (fun h => absurd rfl h) ?_
      clear hK K
      refine wpAnyL_done (by kernel_rfl) ?_ _
      refine key _ _ _ _ _ _ _ _ _ _ _ _ g cap (set5 x3 _) ((Below.heap_setCell _ _ _ _ (by show w.heap.size + 1 ≠ w.heap.size; omega)).trans z3) (ownsRow_setCell_below (a := ⟨w.heap.size, 5, none⟩) o3 (by show w.heap.size < w.heap.size + 2; omega) _) ?_
      exact (HDB.out.trans (b3.mono (by omega))).setCell (p := ⟨w.heap.size, 5, none⟩) (Nat.le_refl _) _
  · go_simp
    refine hK.out _ _ (fun _ => cell_later (alloc_below D _) s0) ?_
    clear hK K
    (try simp only [Act.put, List.setIfInBounds_toArray, List.set_cons_zero, List.set_cons_succ])
    refine wpAnyL_ready (rs := [0]) (by kernel_rfl) (by simp) ?_
    refine AllReadyL.cons rfl (fun K hK => ?_) AllReadyL.nil
    go_simp
    have sx1 : ((D.alloc (.cells #[.int .i64 77] 3)).alloc (.cells #[] 3)).cell? ⟨w.heap.size, 5, none⟩ = some (.slice ia p.ids.length ic) := cell_later (alloc_below _ _) (cell_later (alloc_below D _) s0)
    refine hK.out _ _ (fun _ => sx1) ?_
    clear hK K
    (try simp only [Act.put, List.setIfInBounds_toArray, List.set_cons_zero, List.set_cons_succ])
    obtain ⟨v1, X1, hrun1, o1, b1, k1⟩ := ap_ids ((D.alloc (.cells #[.int .i64 77] 3)).alloc (.cells #[] 3)) (w.heap.size + 2) (.slice (some ⟨D.heap.size + 1, 0, none⟩) 0 0) 0 [] (made_i D _ HDS.out) ia p.ids.length ic (c64 p.ids) (c64_len _) (src_or (HV.out.ids.later ((HDB.out.trans ((alloc_below D _).mono (by omega))).alloc (by simp; omega) _))) (c64_one _) (by omega) (by simp; omega)
    rw [Nat.zero_add, List.nil_append] at o1
    refine wpAnyL_ready (rs := [3]) (by kernel_rfl) (by simp) ?_
    refine AllReadyL.cons rfl (fun K hK => ?_) AllReadyL.nil
    refine ready_append rfl (.tmp 5) (.tmp 7) 23 rfl _ _ _ rfl rfl hrun1 ?_
    have b01 : Below (w.heap.size + 2) D X1 := (((alloc_below D _).mono HDS.out).alloc (by simp; omega) _).trans b1
    have sx2 : X1.cell? ⟨w.heap.size, 5, none⟩ = some (.slice ia p.ids.length ic) := by rw [b01.cell (p := ⟨w.heap.size, 5, none⟩) (by show w.heap.size < w.heap.size + 2; omega)]; exact s0
    refine hK.out _ _ (fun _ => sx2) ?_
    clear hK K
    (try simp only [Act.put, List.setIfInBounds_toArray, List.set_cons_zero, List.set_cons_succ])
    have h77 : X1.heap[D.heap.size]? = some (.cells #[.int .i64 77] 3 (0, 0)) := (k1 _ (by simp; omega) (by simp [Value.ownBlock])).trans (((alloc_below (D.alloc (.cells #[.int .i64 77] 3)) _).block _ (by simp)).trans (heap_new D _))
    obtain ⟨v3, X3, hrun3, o3, b13, k3⟩ := ap_ids X1 (w.heap.size + 2) v1 p.ids.length (c64 p.ids) o1 (some ⟨D.heap.size, 0, none⟩) 1 1 [.int .i64 77] rfl (.inr ⟨_, rfl, fun j u hj => by rw [add0]; exact cell_of_block h77 (by simpa using hj)⟩) (c64_one [77]) (by omega) (Nat.le_trans HDS.out b01.size)
    have b3 : Below (w.heap.size + 2) D X3 := b01.trans b13
    refine wpAnyL_ready (rs := [5]) (by kernel_rfl) (by simp) ?_
    refine AllReadyL.cons rfl (fun K hK => ?_) AllReadyL.nil
    refine ready_append rfl (.tmp 8) (.tmp 9) 23 rfl _ _ _ rfl rfl hrun3 ?_
    obtain ⟨g, cap, rfl⟩ := own_some o3 (Nat.le_add_left _ _)
    have hcap : p.ids.length + 1 ≤ cap := own_cap o3
    have hcap' : (p.ids.length : Int) ≤ (cap : Int) := by omega
    have x3 : X3.heap[w.heap.size]? = some (.cells #[.int .i64 p.kind, .int .i64 p.key, .int .i64 p.elem, .int .i64 p.num, .string p.text, .slice ia p.ids.length ic, .slice la (flen c) lc] 26 (0, 0)) := (b3.block _ (by omega)).trans HDX.out
    have z3 : X3.heap[w.heap.size + 1]? = _ := (b3.block _ (by omega)).trans HDZ.out
    have s3 : X3.cell? ⟨w.heap.size, 5, none⟩ = some (.slice ia p.ids.length ic) := cell_of_block x3 rfl
    have f3 : X3.frozen? ⟨w.heap.size, 5, none⟩ = false := frozen_of_block x3
    refine hK.out _ _ (fun _ => s3) ?_
    clear hK K
    (try simp only [Act.put, List.setIfInBounds_toArray, List.set_cons_zero, List.set_cons_succ])
    refine wpAnyL_take (i := 9) (v := ?_) rfl (by kernel_rfl) (by kernel_rfl) (by kernel_rfl) (by kernel_rfl) (fun _ _ _ h => h) (Or.inl ⟨by rfl, ?_⟩) (by assumption) ?_
    rotate_left
    · intro w hSw
      (try dsimp only at hSw)
      go_simp
      (try with_reducible rfl)
    (try simp only [Act.put, List.setIfInBounds_toArray, List.set_cons_zero, List.set_cons_succ])
    refine wpAnyL_take (i := 10) (v := ?_) rfl (by kernel_rfl) (by kernel_rfl) (by kernel_rfl) (by kernel_rfl) (fun _ _ _ h => h) (Or.inl ⟨by rfl, ?_⟩) (by assumption) ?_
    rotate_left
    · intro w hSw
      (try dsimp only at hSw)
      go_simp
      (try with_reducible rfl)
    (try simp only [Act.put, List.setIfInBounds_toArray, List.set_cons_zero, List.set_cons_succ])
    refine wpAnyL_ready (rs := [11]) (by kernel_rfl) (by simp) ?_
    refine AllReadyL.cons rfl (fun K hK => ?_) AllReadyL.nil
    go_simp
    refine hK.out _ _ (fun h => absurd rfl h) ?_
    clear hK K
    refine wpAnyL_done (by kernel_rfl) ?_ _
    refine key _ _ _ _ _ _ _ _ _ _ _ _ g cap (set5 x3 _) ((Below.heap_setCell _ _ _ _ (by show w.heap.size + 1 ≠ w.heap.size; omega)).trans z3) (ownsRow_setCell_below (a := ⟨w.heap.size, 5, none⟩) o3 (by show w.heap.size < w.heap.size + 2; omega) _) ?_
    exact (HDB.out.trans (b3.mono (by omega))).setCell (p := ⟨w.heap.size, 5, none⟩) (Nat.le_refl _) _
theorem copied_any (p : Pay) (c : Fo) : CopiedC p c := every_value copied_step p c
end Go.Proofs.Ytikoddlidhefpaa

/-
  The law's kept: a marked value is as it was.
-/
namespace Go.Proofs.Ytikoddlidhefpaa
set_option linter.unusedVariables false
set_option linter.unusedSimpArgs false
open Go.ChangeShapes Go.WideShapes Go.ChangeAt Go.RowKit Go.Deep Go.Sort

theorem MF.at {w : World} : ∀ {f : Fo} {a : Option Addr} {i : Nat} {p : Pay} {c : Fo}, MF w f a → (elems f)[i]? = some (p, c) →
    ∃ b o ia ic la lc, a = some ⟨b, o, none⟩ ∧ b < w.heap.size ∧ (∀ j u, (cells7 p ia ic la (flen c) lc)[j]? = some u → w.cell? ⟨b, o + i * 7 + j, none⟩ = some u) ∧ MV w p c ia ic la lc
  | .nil, _, _, _, _, _, h => by simp [elems] at h
  | .node _ _ p' c' r, a, 0, p, c, h, e => by
    obtain ⟨b, o, h1, h2, h3, h4, ⟨ia, ic, la, lc, h5, h6, h7, h8, h9⟩, h10⟩ := h
    simp [elems] at e
    obtain ⟨rfl, rfl⟩ := e
    exact ⟨b, o, ia, ic, la, lc, h1, h2, by simpa using h5, h3, h4, h6, h7, h8, h9⟩
  | .node _ _ p' c' r, a, i + 1, p, c, h, e => by
    obtain ⟨b, o, h1, h2, h3, h4, _, h8⟩ := h
    simp [elems] at e
    obtain ⟨b', o', ia, ic, la, lc, k1, k2, k3, k4⟩ := MF.at h8 e
    cases k1
    exact ⟨b, o, ia, ic, la, lc, h1, h2, fun j u hj => by have := k3 j u hj; rw [← this]; congr 2; omega, k4⟩
def KeptC (p : Pay) (c : Fo) : Prop := ∀ (w : World) (ia : Option Addr) (ic : Nat) (la : Option Addr) (lc : Nat) (ja : Option Addr) (jc : Nat) (ka : Option Addr) (kc : Nat), MV w p c ia ic la lc → VIn w p c ja jc ka kc →
  Calls Try.prog 17 #[val p c ia ic la lc, val p c ja jc ka kc] w fun e w' => e = .returned (.bool true) ∧ Below w.heap.size w w'

set_option maxRecDepth 10000 in
set_option maxHeartbeats 4000000 in
theorem kept_step (p : Pay) (c : Fo) (ih : ∀ x ∈ elems c, KeptC x.1 x.2) : KeptC p c := by
  intro w ia ic la lc ja jc ka kc hm hv
  have HIH : Hid (∀ x ∈ elems c, KeptC x.1 x.2) := ih
  have HM : Hid (MV w p c ia ic la lc) := hm
  have HV : Hid (VIn w p c ja jc ka kc) := hv
  have hb0 : Below w.heap.size w (bx2 w p c ia ic la lc p c ja jc ka kc) := (alloc_below w _).alloc (by simp) _
  obtain ⟨g, e1, hic, hg⟩ := hm.im
  obtain ⟨h, e2, hlc, hh⟩ := hm.lm
  subst e1 e2
  have hn1 : (p.ids.length : Int) ≤ 140737488355328 := by have := hm.ok.ids; omega
  have hf1 : (flen c : Int) ≤ 140737488355328 := by have := hm.len; omega
  have hn2 : (p.ids.length : Int) + 1 ≤ (ic : Int) := by omega
  have hf2 : (flen c : Int) + 1 ≤ (lc : Int) := by omega
  have rA := cell_regrown (cell_later hb0 hg)
  have rB := cell_regrown (cell_later hb0 hh)
  have hx0 : (bx2 w p c (some ⟨g, 0, none⟩) ic (some ⟨h, 0, none⟩) lc p c ja jc ka kc).heap[w.heap.size]? = some (.cells #[.int .i64 p.kind, .int .i64 p.key, .int .i64 p.elem, .int .i64 p.num, .string p.text, .slice (some ⟨g, 0, none⟩) p.ids.length ic, .slice (some ⟨h, 0, none⟩) (flen c) lc] 26 (0, 0)) := by
    rw [(alloc_below _ _).block _ (by simp)]; exact heap_new w _
  have hx1 : (bx2 w p c (some ⟨g, 0, none⟩) ic (some ⟨h, 0, none⟩) lc p c ja jc ka kc).heap[w.heap.size + 1]? = some (.cells #[.int .i64 p.kind, .int .i64 p.key, .int .i64 p.elem, .int .i64 p.num, .string p.text, .slice ja p.ids.length jc, .slice ka (flen c) kc] 26 (0, 0)) := heap2_new _ _ _
  obtain ⟨⟨a0, a1, a2, a3, a4, a5, a6⟩, _⟩ := blk7 hx0
  obtain ⟨⟨b0, b1, b2, b3, b4, b5, b6⟩, _⟩ := blk7 hx1
  have r0 := cell_regrown a0; have r1 := cell_regrown a1; have r2 := cell_regrown a2; have r3 := cell_regrown a3; have r4 := cell_regrown a4; have r5 := cell_regrown a5; have r6 := cell_regrown a6
  have t0 := cell_regrown b0; have t1 := cell_regrown b1; have t2 := cell_regrown b2; have t3 := cell_regrown b3; have t4 := cell_regrown b4; have t5 := cell_regrown b5; have t6 := cell_regrown b6
  have SA : ∀ d os, Calls Try.prog 23 #[val p c (some ⟨g, 0, none⟩) ic (some ⟨h, 0, none⟩) lc, val p c ja jc ka kc] (grow (redrawn (bx2 w p c (some ⟨g, 0, none⟩) ic (some ⟨h, 0, none⟩) lc p c ja jc ka kc) d) os) fun e w'' => e = .returned (.bool true) ∧ ∃ q : Regrown, w'' = grow (redrawn (bx2 w p c (some ⟨g, 0, none⟩) ic (some ⟨h, 0, none⟩) lc p c ja jc ka kc) q.d) q.os := fun d os => by
    have hs := rsame_any p c (grow (redrawn (bx2 w p c (some ⟨g, 0, none⟩) ic (some ⟨h, 0, none⟩) lc p c ja jc ka kc) d) os) (some ⟨g, 0, none⟩) ic (some ⟨h, 0, none⟩) lc p c ja jc ka kc ((HM.out.vin.later hb0).later (below_regrown _ d os)) ((HV.out.later hb0).later (below_regrown _ d os))
    rw [sameP_refl, sameF_refl] at hs
    exact Calls.regrown_of hs
  clear a0 a1 a2 a3 a4 a5 a6 b0 b1 b2 b3 b4 b5 b6 hm hv hg hh ih
  have HX0 : Hid ((bx2 w p c (some ⟨g, 0, none⟩) ic (some ⟨h, 0, none⟩) lc p c ja jc ka kc).heap[w.heap.size]? = some (.cells #[.int .i64 p.kind, .int .i64 p.key, .int .i64 p.elem, .int .i64 p.num, .string p.text, .slice (some ⟨g, 0, none⟩) p.ids.length ic, .slice (some ⟨h, 0, none⟩) (flen c) lc] 26 (0, 0))) := hx0
  have HX1 : Hid ((bx2 w p c (some ⟨g, 0, none⟩) ic (some ⟨h, 0, none⟩) lc p c ja jc ka kc).heap[w.heap.size + 1]? = some (.cells #[.int .i64 p.kind, .int .i64 p.key, .int .i64 p.elem, .int .i64 p.num, .string p.text, .slice ja p.ids.length jc, .slice ka (flen c) kc] 26 (0, 0))) := hx1
  have HB0 : Hid (Below w.heap.size w (bx2 w p c (some ⟨g, 0, none⟩) ic (some ⟨h, 0, none⟩) lc p c ja jc ka kc)) := hb0
  clear hx0 hx1 hb0
  go_enter Try.func17, Try.ntmps17
  go_wp2_with fail
  refine wp_region_quiet_below (by kernel_rfl) (by kernel_rfl) ?_
  repeat (go_big_quiet_step (with_reducible exact SA _ _))
  refine wpQuiet_nil ?_
  intro _ hw'
  obtain ⟨⟨dq, osq⟩, hw''⟩ := hw'
  subst hw''
  have hbq := below_regrown (bx2 w p c (some ⟨g, 0, none⟩) ic (some ⟨h, 0, none⟩) lc p c ja jc ka kc) dq osq
  have hy0 := below_at hbq HX0.out
  have hy1 := below_at hbq HX1.out
  have hbw := HB0.out.trans (hbq.mono HB0.out.size)
  generalize grow (redrawn (bx2 w p c (some ⟨g, 0, none⟩) ic (some ⟨h, 0, none⟩) lc p c ja jc ka kc) dq) osq = wq at *
  clear r0 r1 r2 r3 r4 r5 r6 t0 t1 t2 t3 t4 t5 t6 rA rB SA HX0 HX1 HB0 hbq
  go_wp2_with fail
  go_loopw [5] (fun iv wr => ∃ (i : Nat), i ≤ flen c ∧ iv = .int .i64 (i : Int) ∧ Hid (wr.heap[w.heap.size]? = some (.cells #[.int .i64 p.kind, .int .i64 p.key, .int .i64 p.elem, .int .i64 p.num, .string p.text, .slice (some ⟨g, 0, none⟩) p.ids.length ic, .slice (some ⟨h, 0, none⟩) (flen c) lc] 26 (0, 0)) ∧ wr.heap[w.heap.size + 1]? = some (.cells #[.int .i64 p.kind, .int .i64 p.key, .int .i64 p.elem, .int .i64 p.num, .string p.text, .slice ja p.ids.length jc, .slice ka (flen c) kc] 26 (0, 0)) ∧ Below w.heap.size w wr)) (fun iv _ => flen c - (intOf iv).toNat)
  case atStart => exact ⟨0, Nat.zero_le _, rfl, hy0, hy1, hbw⟩
  case round =>
    clear hy0 hy1 hbw
    obtain ⟨i, hi, rfl, H⟩ := hrel
    have hbw := H.out.2.2
    obtain ⟨⟨a0, a1, a2, a3, a4, a5, a6⟩, _⟩ := blk7 H.out.1
    obtain ⟨⟨b0, b1, b2, b3, b4, b5, b6⟩, _⟩ := blk7 H.out.2.1
    by_cases hlt : i < flen c
    · have hlt' : (i : Int) < (flen c : Int) := by omega
      have hlt2 : (i : Int) < (lc : Int) := by omega
      obtain ⟨q, d, b, o, ja', jc', ka', kc', bt, ot, eq, mem, efd, rfl, hbl, hin, y0, y1, y2, y3, y4, y5, y6⟩ := row_at (HV.out.list.later hbw) hlt
      obtain ⟨bm, om, im, icm, lm, lcm, em, hblm, hcm, hmv⟩ := (HM.out.list.later hbw).at eq
      cases em
      obtain ⟨z0, z1, z2, z3, z4, z5, z6⟩ := cell7 hcm
      have KI : ∀ d' os, Calls Try.prog 17 #[val q d im icm lm lcm, val q d ja' jc' ka' kc'] (grow (redrawn wr d') os) fun e w'' => e = .returned (.bool true) ∧ ∃ x : Regrown, w'' = grow (redrawn wr x.d) x.os := fun d' os => Calls.regrown_of (HIH.out _ mem _ _ _ _ _ _ _ _ _ (hmv.later (below_regrown wr d' os)) (hin.later (below_regrown wr d' os)))
      have r5 := cell_regrown a6; have t5 := cell_regrown b6
      have k0 := cell_regrown y0; have k1 := cell_regrown y1; have k2 := cell_regrown y2; have k3 := cell_regrown y3; have k4 := cell_regrown y4; have k5 := cell_regrown y5; have k6 := cell_regrown y6
      have n0 := cell_regrown z0; have n1 := cell_regrown z1; have n2 := cell_regrown z2; have n3 := cell_regrown z3; have n4 := cell_regrown z4; have n5 := cell_regrown z5; have n6 := cell_regrown z6
      simp only [Nat.zero_add] at n0 n1 n2 n3 n4 n5 n6
      clear eq mem efd y0 y1 y2 y3 y4 y5 y6 z0 z1 z2 z3 z4 z5 z6 hcm hmv hin a0 a1 a2 a3 a4 a5 b0 b1 b2 b3 b4 b5
      go_wp2_with fail
      refine wp_region_quiet_below (by kernel_rfl) (by kernel_rfl) ?_
      repeat (go_big_quiet_step (with_reducible exact KI _ _))
      refine wpQuiet_nil ?_
      intro _ hw'
      obtain ⟨⟨dq, osq⟩, hw''⟩ := hw'
      subst hw''
      have hbq := below_regrown wr dq osq
      have hy0 := below_at hbq H.out.1
      have hy1 := below_at hbq H.out.2.1
      have hbx := hbw.trans (hbq.mono hbw.size)
      generalize grow (redrawn wr dq) osq = wq2 at *
      go_wp2_with fail
      go_roundw
      case rel => exact ⟨i + 1, by omega, by go_num, hy0, hy1, hbx⟩
      case measure => simp [intOf]; omega
    · have hge : ¬ (i : Int) < (flen c : Int) := by omega
      go_wp2_with fail
      go_ret
      exact ⟨rfl, hbw⟩
theorem kept_any (p : Pay) (c : Fo) : KeptC p c := every_value kept_step p c
end Go.Proofs.Ytikoddlidhefpaa
