/-
  Memory that a call itself made: rows in blocks of a set, values whose rows lie there; append tells whether its row is the old one or a new one.
-/
import Derived.Test.YtikoddlidhefpaaRdB
import Derived.ArgAppend
namespace Go.Proofs.Ytikoddlidhefpaa
set_option linter.unusedVariables false
open Go.ChangeShapes Go.WideShapes Go.ChangeAt Go.RowKit Go.Deep

theorem run_append_fresh {P : Program} (w : World) (base : Nat) (t ty e : TypeId) (i : TypeInfo) (z : Value) (size bytes : Nat) (ht : P.underlying t = some (.slice e)) (hi : P.info? e = some i) (hz : i.zero = some z)
    (hsize : i.size = size) (hby : i.bytes = bytes) (hzs : z.cells.size = size) (hsz : 0 < size)
    (v : Value) (n : Nat) (xs : List Value) (hown : w.ownsRow base e size v n xs)
    (a : Addr) (m c : Nat) (news : List Value) (hl : news.length = m * size) (hnews : ∀ j u, news[j]? = some u → w.cell? (a.add j) = some u) (h1 : ∀ u ∈ news, u.oneCell' = true)
    (h63 : n + m ≤ maxLen) (hbytes : (n + m) * bytes ≤ 140737488355328) (hbase : base ≤ w.heap.size) :
    ∃ v' w', (Builtin.append_ #[t, t] ty #[v, .slice (some a) m c]).run P w = .ok v' w' ∧ w'.ownsRow base e size v' (n + m) (xs ++ news) ∧ w.grownBy w' v.ownBlock ∧
      (v'.ownBlock = v.ownBlock ∨ w'.ownsRow w.heap.size e size v' (n + m) (xs ++ news)) := by
  obtain ⟨v', w', hr, h2, h3, _⟩ := run_append_own (P := P) w base t ty e i z size bytes ht hi hz hsize hby hzs hsz v n xs hown a m c news hl hnews h1 h63 hbytes hbase
  refine ⟨v', w', hr, h2, h3, ?_⟩
  rcases hown.2 with ⟨rfl, rfl⟩ | ⟨g, cap, cur, rfl, hb, hg, hn, hm, hcs, htk⟩
  · have hx : xs = [] := by have := hown.1; simpa using this
    subst hx
    obtain ⟨v2, w2, hr2, k2, _⟩ := run_append_own (P := P) w w.heap.size t ty e i z size bytes ht hi hz hsize hby hzs hsz (.slice none 0 0) 0 [] (World.ownsRow_nil w _ e size) a m c news hl hnews h1 h63 hbytes (Nat.le_refl _)
    rw [hr] at hr2
    cases hr2
    exact .inr k2
  · by_cases hroom : n + m ≤ cap
    · left
      subst hsize
      have hcell : ∀ j, j < news.length → (w.cell? ⟨g, 0 + n * i.size + j, none⟩).isSome = true := by
        intro j hj
        have hlt : 0 + n * i.size + j < cur.size := by
          have : (n + m) * i.size ≤ cap * i.size := Nat.mul_le_mul_right _ hroom
          rw [Nat.add_mul] at this
          omega
        rw [cell_of_block hg (Array.getElem?_eq_getElem hlt)]
        rfl
      have hr2 := run_append_room_cells (P := P) w t ty e i ht hi g 0 n cap a m c news hl hnews h1 hroom hcell (fun j hj => frozen_of_block hg)
      rw [hr] at hr2
      cases hr2
      rfl
    · right
      obtain ⟨v2, w2, hr2, k2, _⟩ := run_append_arg_grows (P := P) w t ty e i z size bytes ht hi hz hsize hby hzs hsz ⟨g, 0, none⟩ n cap xs hown.1 (fun j u hj => World.ownsRow.cells hown rfl j u hj) a m c news hl hnews (by omega) h63 hbytes
      rw [hr] at hr2
      cases hr2
      exact k2

/-- a row in a block of the set -/
def ownsS (S : Nat → Prop) (w : World) (e : TypeId) (size : Nat) (v : Value) (n : Nat) (xs : List Value) : Prop := w.ownsRow 0 e size v n xs ∧ ∀ g, v.ownBlock = some g → S g
theorem ownsS.mono {S T : Nat → Prop} {w : World} {e : TypeId} {size : Nat} {v : Value} {n : Nat} {xs : List Value} (h : ownsS S w e size v n xs) (hST : ∀ b, S b → T b) : ownsS T w e size v n xs := ⟨h.1, fun g hg => hST g (h.2 g hg)⟩
/-- it stays where the set's blocks stay -/
theorem ownsS.kept {S : Nat → Prop} {w w' : World} {e : TypeId} {size : Nat} {v : Value} {n : Nat} {xs : List Value} (h : ownsS S w e size v n xs) (hk : ∀ k, k < w.heap.size → S k → w'.heap[k]? = w.heap[k]?) : ownsS S w' e size v n xs := by
  refine ⟨⟨h.1.1, ?_⟩, h.2⟩
  rcases h.1.2 with h1 | ⟨g, cap, cur, rfl, hb, hg, rest⟩
  · exact .inl h1
  · refine .inr ⟨g, cap, cur, rfl, hb, ?_, rest⟩
    rw [hk g (Array.getElem?_eq_some_iff.1 hg).1 (h.2 g rfl), hg]

/-- the values of a row, cell by cell; their own rows lie in blocks of the set -/
def ElemsX (S : Nat → Prop) (w : World) : Fo → List Value → Prop
  | .nil, xs => xs = []
  | .node _ _ p c r, xs => ∃ iv lv rest, xs = [.int .i64 p.kind, .int .i64 p.key, .int .i64 p.elem, .int .i64 p.num, .string p.text, iv, lv] ++ rest ∧ PayOk p ∧ flen c ≤ 140737488355328 ∧ ownsS S w 3 1 iv p.ids.length (c64 p.ids) ∧ (∃ ys, ownsS S w 26 7 lv (flen c) ys ∧ ElemsX S w c ys) ∧ ElemsX S w r rest
/-- a value -/
def VX (S : Nat → Prop) (w : World) (p : Pay) (c : Fo) (v : Value) : Prop :=
  ∃ iv lv, v = .agg #[.int .i64 p.kind, .int .i64 p.key, .int .i64 p.elem, .int .i64 p.num, .string p.text, iv, lv] ∧ PayOk p ∧ flen c ≤ 140737488355328 ∧ ownsS S w 3 1 iv p.ids.length (c64 p.ids) ∧ ∃ ys, ownsS S w 26 7 lv (flen c) ys ∧ ElemsX S w c ys

theorem ElemsX.mono {S T : Nat → Prop} {w : World} (hST : ∀ b, S b → T b) : ∀ {f : Fo} {xs : List Value}, ElemsX S w f xs → ElemsX T w f xs
  | .nil, _, h => h
  | .node _ _ p c r, xs, h => by
    obtain ⟨iv, lv, rest, h1, h2, h3, h4, ⟨ys, h5, h6⟩, h7⟩ := h
    exact ⟨iv, lv, rest, h1, h2, h3, h4.mono hST, ⟨ys, h5.mono hST, ElemsX.mono hST h6⟩, ElemsX.mono hST h7⟩
theorem ElemsX.kept {S : Nat → Prop} {w w' : World} (hk : ∀ k, k < w.heap.size → S k → w'.heap[k]? = w.heap[k]?) : ∀ {f : Fo} {xs : List Value}, ElemsX S w f xs → ElemsX S w' f xs
  | .nil, _, h => h
  | .node _ _ p c r, xs, h => by
    obtain ⟨iv, lv, rest, h1, h2, h3, h4, ⟨ys, h5, h6⟩, h7⟩ := h
    exact ⟨iv, lv, rest, h1, h2, h3, h4.kept hk, ⟨ys, h5.kept hk, ElemsX.kept hk h6⟩, ElemsX.kept hk h7⟩
theorem VX.mono {S T : Nat → Prop} {w : World} {p : Pay} {c : Fo} {v : Value} (h : VX S w p c v) (hST : ∀ b, S b → T b) : VX T w p c v := by
  obtain ⟨iv, lv, h1, h2, h3, h4, ys, h5, h6⟩ := h
  exact ⟨iv, lv, h1, h2, h3, h4.mono hST, ys, h5.mono hST, h6.mono hST⟩
theorem VX.kept {S : Nat → Prop} {w w' : World} {p : Pay} {c : Fo} {v : Value} (h : VX S w p c v) (hk : ∀ k, k < w.heap.size → S k → w'.heap[k]? = w.heap[k]?) : VX S w' p c v := by
  obtain ⟨iv, lv, h1, h2, h3, h4, ys, h5, h6⟩ := h
  exact ⟨iv, lv, h1, h2, h3, h4.kept hk, ys, h5.kept hk, h6.kept hk⟩
/-- one more at the end of a row -/
def fsnoc : Fo → Pay → Fo → Fo
  | .nil, p, c => .node 0 0 p c .nil
  | .node b o q d r, p, c => .node b o q d (fsnoc r p c)
theorem flen_snoc : ∀ (f : Fo) (p : Pay) (c : Fo), flen (fsnoc f p c) = flen f + 1
  | .nil, _, _ => rfl
  | .node _ _ _ _ r, p, c => by simp [fsnoc, flen, flen_snoc r p c]
theorem ElemsX.snoc {S : Nat → Prop} {w : World} {p : Pay} {c : Fo} {iv lv : Value} {ys : List Value} (hp : PayOk p) (hl : flen c ≤ 140737488355328) (hi : ownsS S w 3 1 iv p.ids.length (c64 p.ids)) (hy : ownsS S w 26 7 lv (flen c) ys) (he : ElemsX S w c ys) :
    ∀ {f : Fo} {xs : List Value}, ElemsX S w f xs → ElemsX S w (fsnoc f p c) (xs ++ [.int .i64 p.kind, .int .i64 p.key, .int .i64 p.elem, .int .i64 p.num, .string p.text, iv, lv])
  | .nil, xs, h => by
    have h : xs = [] := h
    subst h
    exact ⟨iv, lv, [], by simp, hp, hl, hi, ⟨ys, hy, he⟩, rfl⟩
  | .node _ _ q d r, xs, h => by
    obtain ⟨jv, mv, rest, h1, h2, h3, h4, h5, h7⟩ := h
    exact ⟨jv, mv, rest ++ _, by rw [h1, List.append_assoc], h2, h3, h4, h5, ElemsX.snoc hp hl hi hy he h7⟩
theorem ElemsX.len {S : Nat → Prop} {w : World} : ∀ {f : Fo} {xs : List Value}, ElemsX S w f xs → xs.length = flen f * 7
  | .nil, xs, h => by have h : xs = [] := h; subst h; rfl
  | .node _ _ q d r, xs, h => by
    obtain ⟨jv, mv, rest, h1, _, _, _, _, h7⟩ := h
    have := ElemsX.len h7
    subst h1
    simp [flen, this]
    omega

/-- such values can be read -/
theorem fat_of {S : Nat → Prop} {w : World} : ∀ {f : Fo} {xs : List Value} {b o : Nat}, ElemsX S w f xs → b < w.heap.size → (∀ j u, xs[j]? = some u → w.cell? ⟨b, o + j, none⟩ = some u) → FAt w f (some ⟨b, o, none⟩)
  | .nil, _, _, _, _, _, _ => trivial
  | .node _ _ p c r, xs, b, o, h, hb, hc => by
    obtain ⟨iv, lv, rest, h1, h2, h3, h4, ⟨ys, h5, h6⟩, h7⟩ := h
    subst h1
    obtain ⟨ia, ic, rfl⟩ := own_sl h4.1
    obtain ⟨la, lc, rfl⟩ := own_sl h5.1
    refine ⟨b, o, rfl, hb, h2, h3, ⟨ia, ic, la, lc, fun j u hj => hc j u ?_, (src_own h4.1).2, ?_⟩, ?_⟩
    · have hlt : j < (cells7 p ia ic la (flen c) lc).length := by
        rcases Nat.lt_or_ge j (cells7 p ia ic la (flen c) lc).length with hh | hh
        · exact hh
        · rw [List.getElem?_eq_none hh] at hj; cases hj
      rw [List.getElem?_append_left (by simpa [cells7] using hlt)]
      exact hj
    · rcases h5.1.2 with ⟨e1, e2⟩ | ⟨g, cap, cur, e1, e2, e3, _⟩
      · cases c with
        | nil => trivial
        | node _ _ _ _ r => simp [flen] at e2
      · cases e1
        refine fat_of h6 (Array.getElem?_eq_some_iff.1 e3).1 fun j u hj => ?_
        have := World.ownsRow.cells h5.1 rfl j u hj
        rw [add0] at this
        rwa [Nat.zero_add]
    · refine fat_of h7 hb fun j u hj => ?_
      have := hc (7 + j) u (by rw [List.getElem?_append_right (by simp)]; simpa using hj)
      rw [← this]
      congr 2
      omega
theorem VX.vin {S : Nat → Prop} {w : World} {p : Pay} {c : Fo} {v : Value} (h : VX S w p c v) : ∃ ia ic la lc, v = val p c ia ic la lc ∧ VIn w p c ia ic la lc := by
  obtain ⟨iv, lv, h1, h2, h3, h4, ys, h5, h6⟩ := h
  obtain ⟨ia, ic, rfl⟩ := own_sl h4.1
  obtain ⟨la, lc, rfl⟩ := own_sl h5.1
  refine ⟨ia, ic, la, lc, h1, h2, h3, (src_own h4.1).2, ?_⟩
  rcases h5.1.2 with ⟨e1, e2⟩ | ⟨g, cap, cur, e1, e2, e3, _⟩
  · cases c with
    | nil => trivial
    | node _ _ _ _ r => simp [flen] at e2
  · cases e1
    refine fat_of h6 (Array.getElem?_eq_some_iff.1 e3).1 fun j u hj => ?_
    have := World.ownsRow.cells h5.1 rfl j u hj
    rw [add0] at this
    rwa [Nat.zero_add]
end Go.Proofs.Ytikoddlidhefpaa
