/-
  The law's copied: a value in memory of its own, with spare room behind its lists.
-/
import Derived.Test.YtikoddlidhefpaaCpA
namespace Go.Proofs.Ytikoddlidhefpaa
set_option linter.unusedVariables false
set_option linter.unusedSimpArgs false
open Go.ChangeShapes Go.WideShapes Go.ChangeAt Go.RowKit Go.Deep

def CopiedC (p : Pay) (c : Fo) : Prop := ∀ (w : World) (ia : Option Addr) (ic : Nat) (la : Option Addr) (lc : Nat), VIn w p c ia ic la lc → (p.ids.length : Int) + totF c ≤ 1000000 →
  Calls Try.prog 12 #[val p c ia ic la lc] w fun e w' => ∃ v, e = .returned v ∧ VM (fun b => w.heap.size ≤ b) w' p c v ∧ Below w.heap.size w w'
theorem totF_mem : ∀ {f : Fo} {x : Pay × Fo}, x ∈ elems f → (x.1.ids.length : Int) + totF x.2 ≤ totF f
  | .nil, x, h => by simp [elems] at h
  | .node _ _ p c r, x, h => by
    have h1 := totF_ge c
    have h2 := totF_ge r
    simp only [elems, List.mem_cons] at h
    rcases h with rfl | h
    · simp only [totF]; omega
    · have := totF_mem h
      simp only [totF]; omega
theorem flen_tot : ∀ f : Fo, (flen f : Int) ≤ totF f
  | .nil => by simp [flen, totF]
  | .node _ _ p c r => by
    have h1 := totF_ge c
    have := flen_tot r
    simp only [flen, totF]; omega
/-- the mark behind a row of values -/
theorem mark_row {B : Nat} {W : World} {f : Fo} {v : Value} (h : RowM B W f v) (hfl : flen f ≤ 1000000) (hB : B ≤ W.heap.size) :
    ∃ hb cap ys X, (Builtin.append_ #[24, 24] 24 #[v, .slice (some ⟨W.heap.size, 0, none⟩) 1 1]).run Try.prog (W.alloc (.cells #[.int .i64 77, .int .i64 0, .int .i64 0, .int .i64 0, .string { data := #[] }, .slice none 0 0, .slice none 0 0] 26)) = .ok (.slice (some ⟨hb, 0, none⟩) (flen f + 1) cap) X ∧ flen f + 1 ≤ cap ∧ X.ownsRow B 26 7 (.slice (some ⟨hb, 0, none⟩) (flen f + 1) cap) (flen f + 1) (ys ++ .int .i64 77 :: [.int .i64 0, .int .i64 0, .int .i64 0, .string { data := #[] }, .slice none 0 0, .slice none 0 0]) ∧ ys.length = flen f * 7 ∧ EM (fun b => B ≤ b) X f ys ∧ Below B W X ∧ ∀ k, k < W.heap.size → v.ownBlock ≠ some k → X.heap[k]? = W.heap[k]? := by
  obtain ⟨i0, hi0, hz0, hz1, hz2⟩ := infoTh'
  obtain ⟨ys, h1, h2⟩ := h
  obtain ⟨v', X, hr, o1, o2, _⟩ := run_append_own (P := Try.prog) (W.alloc (.cells #[.int .i64 77, .int .i64 0, .int .i64 0, .int .i64 0, .string { data := #[] }, .slice none 0 0, .slice none 0 0] 26)) B 24 24 26 i0 _ 7 i0.bytes Try.underlying24 hi0 hz0 hz1 rfl rfl (by decide) v (flen f) ys (h1.alloc _) ⟨W.heap.size, 0, none⟩ 1 1 [.int .i64 77, .int .i64 0, .int .i64 0, .int .i64 0, .string { data := #[] }, .slice none 0 0, .slice none 0 0] rfl
    (fun j u hj => by rw [add0]; exact alloc_cell W _ 26 (0, 0) (by simpa using hj)) (by intro u hu; simp at hu; rcases hu with rfl | rfl | rfl | rfl | rfl | rfl | rfl <;> rfl) (by unfold maxLen; omega) (Nat.le_trans (Nat.mul_le_mul (show flen f + 1 ≤ 1000001 by omega) hz2) (by omega)) (by simp; omega)
  obtain ⟨g, cap, rfl⟩ := own_some o1 (Nat.le_add_left _ _)
  have hk : ∀ k, k < W.heap.size → v.ownBlock ≠ some k → X.heap[k]? = W.heap[k]? := fun k e1 e2 => by rw [o2.block k (by simp; omega) (fun e => e2 e.symm), (alloc_below W _).block k e1]
  refine ⟨g, cap, ys, X, hr, own_cap o1, o1, h2.len, (h2.kept fun k e1 e2 => hk k e1 e2.1.2).mono fun b hb => hb.1.1, ?_, hk⟩
  refine ⟨o2.os, o2.tape, o2.output, Nat.le_trans (by simp) o2.size, fun k hk' => ?_⟩
  exact hk k (by omega) fun e => by have := (row_own h1 k e).1; omega
theorem ne_of_types {w : World} {B B' n m : Nat} {v : Value} {xs ys : List Value} {g c : Nat} (h1 : w.ownsRow B 3 1 (.slice (some ⟨g, 0, none⟩) n c) n xs) (h2 : w.ownsRow B' 26 7 v m ys) : v.ownBlock ≠ some g := by
  intro e
  rcases h2.2 with ⟨rfl, _⟩ | ⟨g', cap, cur, rfl, _, hg, _⟩
  · cases e
  · cases e
    rcases h1.2 with ⟨h, _⟩ | ⟨g2, cap2, cur2, h, _, hg2, _⟩
    · cases h
    · cases h
      rw [hg] at hg2
      cases hg2
/-- an append of numbers -/
theorem ap_ids (X : World) (B : Nat) (v : Value) (n : Nat) (xs : List Value) (hown : X.ownsRow B 3 1 v n xs) (ad : Option Addr) (m c : Nat) (news : List Value) (hl : news.length = m) (hsrc : (ad = none ∧ m = 0) ∨ ∃ q, ad = some q ∧ ∀ j u, news[j]? = some u → X.cell? (q.add j) = some u)
    (h1 : ∀ u ∈ news, u.oneCell' = true) (hb : n + m ≤ 2000000) (hB : B ≤ X.heap.size) : ∃ v' X', (Builtin.append_ #[23, 23] 23 #[v, .slice ad m c]).run Try.prog X = .ok v' X' ∧ X'.ownsRow B 3 1 v' (n + m) (xs ++ news) ∧ Below B X X' ∧ ∀ k, k < X.heap.size → v.ownBlock ≠ some k → X'.heap[k]? = X.heap[k]? := by
  obtain ⟨j0, hj0, jz0, jz1, jz2⟩ := infoInt'
  rcases hsrc with ⟨rfl, rfl⟩ | ⟨q, rfl, hq⟩
  · have hn : news = [] := List.length_eq_zero_iff.1 hl
    subst hn
    exact ⟨v, X, run_append_none B 23 23 3 j0 1 c Try.underlying23 hj0 v n xs hown, by simpa using hown, Below.refl _ _, fun _ _ _ => rfl⟩
  · obtain ⟨v', X', hr, h2, h3, _⟩ := run_append_own (P := Try.prog) X B 23 23 3 j0 _ 1 j0.bytes Try.underlying23 hj0 jz0 jz1 rfl rfl (by decide) v n xs hown q m c news (by simpa using hl) hq h1 (by unfold maxLen; omega) (Nat.le_trans (Nat.mul_le_mul hb jz2) (by omega)) hB
    exact ⟨v', X', hr, h2, (Below.refl B X).grown h3 hB (fun k hk => (hown.lt k hk).1), fun k e1 e2 => h3.block k e1 (fun e => e2 e.symm)⟩
theorem src_or {w : World} {ad : Option Addr} {m c : Nat} {news : List Value} (h : Src w ad m c news) : (ad = none ∧ m = 0) ∨ ∃ q, ad = some q ∧ ∀ j u, news[j]? = some u → w.cell? (q.add j) = some u := h.2.imp (fun h => ⟨h.1, h.2.1⟩) id
theorem made_i (w : World) (o : Obj) {B : Nat} (hB : B ≤ w.heap.size) : ((w.alloc o).alloc (.cells #[] 3)).ownsRow B 3 1 (.slice (some ⟨w.heap.size + 1, 0, none⟩) 0 0) 0 [] := by
  have h := World.ownsRow_made (base := B) (e := 3) (size := 1) (w.alloc o) #[] 0 (by simp; omega) (Nat.zero_le _) rfl
  have e : (w.alloc o).heap.size = w.heap.size + 1 := by simp
  rwa [e] at h

set_option maxRecDepth 10000 in
set_option maxHeartbeats 4000000 in
theorem copied_step (p : Pay) (c : Fo) (ih : ∀ x ∈ elems c, CopiedC x.1 x.2) : CopiedC p c := by
  intro w ia ic la lc hv hsz
  have hids : p.ids.length ≤ 1000000 := by have := totF_ge c; omega
  have hidl : (p.ids.length : Int) ≤ 1000000 := by omega
  have HIH : Hid (∀ x ∈ elems c, CopiedC x.1 x.2) := ih
  have HSZ : Hid (totF c ≤ 1000000) := by show _ ≤ _; omega
  clear ih hsz
  obtain ⟨hab, hbx, hbz, hbs⟩ := copy_boxes w p c ia ic la lc
  have HDX : Hid ((zbox (bx w p c ia ic la lc)).drew.heap[w.heap.size]? = some (.cells #[.int .i64 p.kind, .int .i64 p.key, .int .i64 p.elem, .int .i64 p.num, .string p.text, .slice ia p.ids.length ic, .slice la (flen c) lc] 26 (0, 0))) := hbx
  have HDZ : Hid ((zbox (bx w p c ia ic la lc)).drew.heap[w.heap.size + 1]? = some (.cells #[.int .i64 0, .int .i64 0, .int .i64 0, .int .i64 0, .string { data := #[] }, .slice none 0 0, .slice none 0 0] 26 (0, 0))) := hbz
  have HDB : Hid (Below w.heap.size w (zbox (bx w p c ia ic la lc)).drew) := hab.drew
  have HDS : Hid (w.heap.size + 2 ≤ (zbox (bx w p c ia ic la lc)).drew.heap.size) := Nat.le_of_eq hbs.symm
  have HV : Hid (VIn w p c ia ic la lc) := hv
  clear hab hbx hbz hbs hv
  go_enter Try.func12, Try.ntmps12
  go_wp2_with fail
  rename_i Qx Kx ax
  have key : ∀ (s5 s6 s7 s8 s9 s10 s11 s12 s13 s14 s15 : Value) (X : World) (g cap : Nat), X.heap[w.heap.size]? = some (.cells #[.int .i64 p.kind, .int .i64 p.key, .int .i64 p.elem, .int .i64 p.num, .string p.text, .slice (some ⟨g, 0, none⟩) p.ids.length cap, .slice la (flen c) lc] 26 (0, 0)) →
      X.heap[w.heap.size + 1]? = some (.cells #[.int .i64 0, .int .i64 0, .int .i64 0, .int .i64 0, .string { data := #[] }, .slice none 0 0, .slice none 0 0] 26 (0, 0)) → X.ownsRow (w.heap.size + 2) 3 1 (.slice (some ⟨g, 0, none⟩) (p.ids.length + 1) cap) (p.ids.length + 1) (c64 p.ids ++ [.int .i64 77]) → Below w.heap.size w X →
      Exit.then Kx Qx .normal { tmps := #[val p c ia ic la lc, .pointer (some ⟨w.heap.size, 0, none⟩), .pointer (some ⟨w.heap.size + 1, 0, none⟩), undef, undef, s5, s6, s7, s8, s9, s10, s11, s12, s13, s14, s15, undef, undef, undef, undef, undef, undef, undef, undef, undef, undef, undef, undef, undef, undef, undef, undef, undef, undef, undef, undef, undef, undef, undef, undef, undef, undef], defers := [] } X := by
    intro s5 s6 s7 s8 s9 s10 s11 s12 s13 s14 s15 X g cap hx hz ho hbX
    obtain ⟨i0, hi0, hz0, hz1, hz2⟩ := infoTh'
    have hXs : w.heap.size + 2 ≤ X.heap.size := by have := lt_of_heap hz; omega
    have hfl : flen c ≤ 1000000 := by have := flen_tot c; have := HSZ.out; omega
    have hfl' : (flen c : Int) ≤ 1000000 := by omega
    have HST : Hid (RowM (w.heap.size + 2) X .nil (.slice none 0 0) ∧ elems .nil = (elems c).take 0 ∧ X.heap[w.heap.size]? = some (.cells #[.int .i64 p.kind, .int .i64 p.key, .int .i64 p.elem, .int .i64 p.num, .string p.text, .slice (some ⟨g, 0, none⟩) p.ids.length cap, .slice la (flen c) lc] 26 (0, 0)) ∧ X.heap[w.heap.size + 1]? = some (.cells #[.int .i64 0, .int .i64 0, .int .i64 0, .int .i64 0, .string { data := #[] }, .slice none 0 0, .slice none 0 0] 26 (0, 0)) ∧ X.ownsRow (w.heap.size + 2) 3 1 (.slice (some ⟨g, 0, none⟩) (p.ids.length + 1) cap) (p.ids.length + 1) (c64 p.ids ++ [.int .i64 77]) ∧ Below w.heap.size w X ∧ w.heap.size + 2 ≤ X.heap.size) := ⟨RowM.nil _ _, rfl, hx, hz, ho, hbX, hXs⟩
    clear hx hz ho hbX hXs HDX HDZ HDB HDS
    go_wp2_with fail
    go_loopw [3, 4] (fun lv iv wr => ∃ (i : Nat) (f : Fo), i ≤ flen c ∧ iv = .int .i64 (i : Int) ∧ Hid (RowM (w.heap.size + 2) wr f lv ∧ elems f = (elems c).take i ∧ wr.heap[w.heap.size]? = some (.cells #[.int .i64 p.kind, .int .i64 p.key, .int .i64 p.elem, .int .i64 p.num, .string p.text, .slice (some ⟨g, 0, none⟩) p.ids.length cap, .slice la (flen c) lc] 26 (0, 0)) ∧ wr.heap[w.heap.size + 1]? = some (.cells #[.int .i64 0, .int .i64 0, .int .i64 0, .int .i64 0, .string { data := #[] }, .slice none 0 0, .slice none 0 0] 26 (0, 0)) ∧ wr.ownsRow (w.heap.size + 2) 3 1 (.slice (some ⟨g, 0, none⟩) (p.ids.length + 1) cap) (p.ids.length + 1) (c64 p.ids ++ [.int .i64 77]) ∧ Below w.heap.size w wr ∧ w.heap.size + 2 ≤ wr.heap.size)) (fun _ iv _ => flen c - (intOf iv).toNat)
    case atStart => exact ⟨0, .nil, Nat.zero_le _, rfl, HST.out⟩
    case round =>
      clear HST
      obtain ⟨i, f, hi, rfl, H⟩ := hrel
      obtain ⟨ad, cc, rfl⟩ := own_sl (H.out.1.choose_spec).1
      have HFF : Hid (flen f = i) := by
        show _ = _
        have := congrArg List.length H.out.2.1
        rw [elems_len, List.length_take, elems_len] at this
        omega
      obtain ⟨⟨b0, b1, b2, b3, b4, b5, b6⟩, c0, c1, c2, c3, c4, c5, c6⟩ := blk7 H.out.2.2.1
      by_cases hlt : i < flen c
      · have hlt' : (i : Int) < (flen c : Int) := by omega
        obtain ⟨q, d, b, o, ja, jc, ka, kc, bt, ot, eq, mem, efd, rfl, hbl, hin, y0, y1, y2, y3, y4, y5, y6⟩ := row_at (HV.out.list.later H.out.2.2.2.2.2.1) hlt
        have CC := HIH.out _ mem wr ja jc ka kc hin (by have h1 := totF_mem mem; have := HSZ.out; omega)
        have HQ : Hid ((elems c)[i]? = some (q, d)) := eq
        clear eq mem efd
        go_wp2_with fail
        refine CC.mono ?_
        rintro e W1 ⟨v1, rfl, hvm, hb1⟩
        obtain ⟨g1, ic1, h1', lc1, rfl, hp1, hl1, hi1, zs, mk, hy1, hyl, hel⟩ := hvm
        obtain ⟨ys, r1, r2⟩ := H.out.1.kept hb1.size fun k e1 _ => hb1.block k e1
        have HOW : Hid (∀ g, (Value.slice ad (flen f) cc).ownBlock = some g → g < wr.heap.size) := fun g hg => (row_own (H.out.1.choose_spec).1 g hg).2
        have HADD : Hid (∀ v' w3, w3.ownsRow (w.heap.size + 2) 26 7 v' (flen f + 1) (ys ++ [.int .i64 q.kind, .int .i64 q.key, .int .i64 q.elem, .int .i64 q.num, .string q.text, .slice (some ⟨g1, 0, none⟩) q.ids.length ic1, .slice (some ⟨h1', 0, none⟩) (flen d) lc1]) → (W1.alloc (.cells #[.int .i64 q.kind, .int .i64 q.key, .int .i64 q.elem, .int .i64 q.num, .string q.text, .slice (some ⟨g1, 0, none⟩) q.ids.length ic1, .slice (some ⟨h1', 0, none⟩) (flen d) lc1] 26)).grownBy w3 (Value.slice ad (flen f) cc).ownBlock →
          (v'.ownBlock = (Value.slice ad (flen f) cc).ownBlock ∨ w3.ownsRow (W1.alloc (.cells #[.int .i64 q.kind, .int .i64 q.key, .int .i64 q.elem, .int .i64 q.num, .string q.text, .slice (some ⟨g1, 0, none⟩) q.ids.length ic1, .slice (some ⟨h1', 0, none⟩) (flen d) lc1] 26)).heap.size 26 7 v' (flen f + 1) (ys ++ [.int .i64 q.kind, .int .i64 q.key, .int .i64 q.elem, .int .i64 q.num, .string q.text, .slice (some ⟨g1, 0, none⟩) q.ids.length ic1, .slice (some ⟨h1', 0, none⟩) (flen d) lc1])) → RowM (w.heap.size + 2) w3 (fsnoc f q d) v' ∧ Below (w.heap.size + 2) W1 w3 ∧ ∀ k, k < W1.heap.size → (Value.slice ad (flen f) cc).ownBlock ≠ some k → w3.heap[k]? = W1.heap[k]?) :=
          RowM.add r1 r2 HOW.out H.out.2.2.2.2.2.2 ⟨_, _, _, _, rfl, hp1, hl1, hi1, zs, mk, hy1, hyl, hel⟩ (alloc_below _ _) (Nat.le_trans H.out.2.2.2.2.2.2 hb1.size)
        have HO1 : Hid (W1.ownsRow (w.heap.size + 2) 26 7 (.slice ad (flen f) cc) (flen f) ys) := r1
        have HM : Hid (flen f + 1 ≤ maxLen ∧ (flen f + 1) * i0.bytes ≤ 140737488355328) := ⟨by have := HFF.out; unfold maxLen; omega, Nat.le_trans (Nat.mul_le_mul (show flen f + 1 ≤ 1000001 by have := HFF.out; omega) hz2) (by omega)⟩
        have HBB : Hid (w.heap.size + 2 ≤ (W1.alloc (.cells #[.int .i64 q.kind, .int .i64 q.key, .int .i64 q.elem, .int .i64 q.num, .string q.text, .slice (some ⟨g1, 0, none⟩) q.ids.length ic1, .slice (some ⟨h1', 0, none⟩) (flen d) lc1] 26)).heap.size) := by show _ ≤ _; have := H.out.2.2.2.2.2.2; have := hb1.size; simp; omega
        have HR1 : Hid (W1.heap[w.heap.size]? = some (.cells #[.int .i64 p.kind, .int .i64 p.key, .int .i64 p.elem, .int .i64 p.num, .string p.text, .slice (some ⟨g, 0, none⟩) p.ids.length cap, .slice (some ⟨b, o, none⟩) (flen c) lc] 26 (0, 0)) ∧ W1.heap[w.heap.size + 1]? = some (.cells #[.int .i64 0, .int .i64 0, .int .i64 0, .int .i64 0, .string { data := #[] }, .slice none 0 0, .slice none 0 0] 26 (0, 0)) ∧ W1.ownsRow (w.heap.size + 2) 3 1 (.slice (some ⟨g, 0, none⟩) (p.ids.length + 1) cap) (p.ids.length + 1) (c64 p.ids ++ [.int .i64 77]) ∧ Below w.heap.size w W1 ∧ w.heap.size + 2 ≤ W1.heap.size) :=
          ⟨below_at hb1 H.out.2.2.1, below_at hb1 H.out.2.2.2.1, row_kept H.out.2.2.2.2.1 fun g hg => hb1.block g (row_own H.out.2.2.2.2.1 g hg).2, H.out.2.2.2.2.2.1.trans (hb1.mono H.out.2.2.2.2.2.1.size), Nat.le_trans H.out.2.2.2.2.2.2 hb1.size⟩
        have HEL : Hid (elems (fsnoc f q d) = (elems c).take (i + 1)) := by
          show _ = _
          rw [elems_snoc, H.out.2.1, List.take_add_one, HQ.out]
          rfl
        clear hp1 hl1 hi1 hy1 hyl hel r1 r2 H CC HQ HOW b0 b1 b2 b3 b4 b5 b6 c0 c1 c2 c3 c4 c5 c6
        go_wp2_with (at_builtin; refine wpList_append_fresh rfl (.tmp 23) (.tmp 30) 24 rfl (w.heap.size + 2) 26 i0 _ 7 i0.bytes Try.underlying24 hi0 hz0 hz1 rfl rfl (by decide) _ (flen f) ys rfl (HO1.out.alloc _) ⟨W1.heap.size, 0, none⟩ 1 1 [.int .i64 q.kind, .int .i64 q.key, .int .i64 q.elem, .int .i64 q.num, .string q.text, .slice (some ⟨g1, 0, none⟩) q.ids.length ic1, .slice (some ⟨h1', 0, none⟩) (flen d) lc1] rfl rfl (fun j u hj => by rw [add0]; exact alloc_cell W1 _ 26 (0, 0) (by simpa using hj)) (by intro u hu; simp at hu; rcases hu with rfl | rfl | rfl | rfl | rfl | rfl | rfl <;> rfl) HM.out.1 HM.out.2 HBB.out ?_; intro v3 W3 q1 q2 q3; have HS3 : Hid (RowM (w.heap.size + 2) W3 (fsnoc f q d) v3 ∧ Below (w.heap.size + 2) W1 W3 ∧ ∀ k, k < W1.heap.size → (Value.slice ad (flen f) cc).ownBlock ≠ some k → W3.heap[k]? = W1.heap[k]?) := HADD.out v3 W3 q1 q2 q3; clear q1 q2 q3)
        go_roundw
        case rel => exact ⟨i + 1, fsnoc f q d, by omega, by go_num, HS3.out.1, HEL.out, (HS3.out.2.1.block _ (by omega)).trans HR1.out.1, (HS3.out.2.1.block _ (by omega)).trans HR1.out.2.1, row_kept HR1.out.2.2.1 fun g' hg' => HS3.out.2.2 g' (row_own HR1.out.2.2.1 g' hg').2 (by cases hg'; exact ne_of_types HR1.out.2.2.1 HO1.out), HR1.out.2.2.2.1.trans (HS3.out.2.1.mono (by omega)), Nat.le_trans HR1.out.2.2.2.2 HS3.out.2.1.size⟩
        case measure => simp [intOf]; omega
      · have hi' : i = flen c := by omega
        have hge : ¬ (i : Int) < (flen c : Int) := by omega
        have HEQ : Hid (elems f = elems c) := by show _ = _; rw [H.out.2.1, hi', ← elems_len, List.take_length]
        have hfc : flen f = flen c := by rw [HFF.out, hi']
        obtain ⟨h, lcap, ys, X3, hrun, hlc, o3, yl, em, bX, kX⟩ := mark_row (W := wr.drew) (H.out.1.kept (w' := wr.drew) (Nat.le_refl _) fun _ _ _ => rfl) (by have := HFF.out; omega) H.out.2.2.2.2.2.2
        have HMR : Hid (X3.ownsRow (w.heap.size + 2) 26 7 (.slice (some ⟨h, 0, none⟩) (flen c + 1) lcap) (flen c + 1) (ys ++ .int .i64 77 :: [.int .i64 0, .int .i64 0, .int .i64 0, .string { data := #[] }, .slice none 0 0, .slice none 0 0]) ∧ ys.length = flen c * 7 ∧ EM (fun b => w.heap.size + 2 ≤ b) X3 c ys ∧ Below (w.heap.size + 2) wr.drew X3) := by
          rw [hfc] at o3 yl
          exact ⟨o3, yl, em.congr HEQ.out, bX⟩
        have HIX : Hid (X3.ownsRow (w.heap.size + 2) 3 1 (.slice (some ⟨g, 0, none⟩) (p.ids.length + 1) cap) (p.ids.length + 1) (c64 p.ids ++ [.int .i64 77])) := row_kept H.out.2.2.2.2.1 fun g' hg' => kX g' (row_own H.out.2.2.2.2.1 g' hg').2 (by cases hg'; exact ne_of_types H.out.2.2.2.2.1 (H.out.1.choose_spec).1)
        have HXX : Hid (X3.heap[w.heap.size]? = some (.cells #[.int .i64 p.kind, .int .i64 p.key, .int .i64 p.elem, .int .i64 p.num, .string p.text, .slice (some ⟨g, 0, none⟩) p.ids.length cap, .slice la (flen c) lc] 26 (0, 0)) ∧ X3.heap[w.heap.size + 1]? = some (.cells #[.int .i64 0, .int .i64 0, .int .i64 0, .int .i64 0, .string { data := #[] }, .slice none 0 0, .slice none 0 0] 26 (0, 0)) ∧ Below w.heap.size w X3) := ⟨(bX.block _ (by omega)).trans H.out.2.2.1, (bX.block _ (by omega)).trans H.out.2.2.2.1, (H.out.2.2.2.2.2.1.drew).trans (bX.mono (by omega))⟩
        have s0 : wr.drew.cell? ⟨w.heap.size, 6, none⟩ = some (.slice la (flen c) lc) := cell_of_block (show wr.drew.heap[w.heap.size]? = _ from H.out.2.2.1) rfl
        have hlcap : (flen c : Int) ≤ (lcap : Int) := by omega
        have hok := HV.out.ok
        have hlen := HV.out.len
        clear o3 yl em bX kX H
        clear HFF
        rw [hfc] at hrun
        go_wp2_with fail
        refine wp_region_last 9 (fun w' => w'.cell? ⟨w.heap.size, 6, none⟩ = some (.slice la (flen c) lc)) (by kernel_rfl) s0 (fun hHeld => ?_)
        generalize wr.drew = D2 at *
        refine wpAnyL_take (i := 0) (v := ?_) rfl (by kernel_rfl) (by kernel_rfl) (by kernel_rfl) (by kernel_rfl) (fun _ _ _ h => h) (Or.inl ⟨by rfl, ?_⟩) (by assumption) ?_
        rotate_left
        · intro w hSw
          (try dsimp only at hSw)
          go_simp
          (try with_reducible rfl)
        (try simp only [Act.put, List.setIfInBounds_toArray, List.set_cons_zero, List.set_cons_succ])
        refine wpAnyL_take (i := 1) (v := ?_) rfl (by kernel_rfl) (by kernel_rfl) (by kernel_rfl) (by kernel_rfl) (fun _ _ _ h => h) (Or.inl ⟨by rfl, ?_⟩) (by assumption) ?_
        rotate_left
        · intro w hSw
          (try dsimp only at hSw)
          go_simp
          (try with_reducible rfl)
        (try simp only [Act.put, List.setIfInBounds_toArray, List.set_cons_zero, List.set_cons_succ])
        refine wpAnyL_take (i := 4) (v := ?_) rfl (by kernel_rfl) (by kernel_rfl) (by kernel_rfl) (by kernel_rfl) (fun _ _ _ h => h) (Or.inl ⟨by rfl, ?_⟩) (by assumption) ?_
        rotate_left
        · intro w hSw
          (try dsimp only at hSw)
          go_simp
          (try with_reducible rfl)
        (try simp only [Act.put, List.setIfInBounds_toArray, List.set_cons_zero, List.set_cons_succ])
        refine wpAnyL_take (i := 5) (v := ?_) rfl (by kernel_rfl) (by kernel_rfl) (by kernel_rfl) (by kernel_rfl) (fun _ _ _ h => h) (Or.inl ⟨by rfl, ?_⟩) (by assumption) ?_
        rotate_left
        · intro w hSw
          (try dsimp only at hSw)
          go_simp
          (try with_reducible rfl)
        (try simp only [Act.put, List.setIfInBounds_toArray, List.set_cons_zero, List.set_cons_succ])
        refine wpAnyL_take (i := 6) (v := ?_) rfl (by kernel_rfl) (by kernel_rfl) (by kernel_rfl) (by kernel_rfl) (fun _ _ _ h => h) (Or.inl ⟨by rfl, ?_⟩) (by assumption) ?_
        rotate_left
        · intro w hSw
          (try dsimp only at hSw)
          go_simp
          (try with_reducible rfl)
        (try simp only [Act.put, List.setIfInBounds_toArray, List.set_cons_zero, List.set_cons_succ])
        refine wpAnyL_ready (rs := [2]) (by kernel_rfl) (by simp) ?_
        refine AllReadyL.cons rfl (fun K hK => ?_) AllReadyL.nil
        go_simp
        refine hK.out _ _ (fun _ => cell_later (alloc_below D2 _) s0) ?_
        clear hK K
        (try simp only [Act.put, List.setIfInBounds_toArray, List.set_cons_zero, List.set_cons_succ])
        have x3 := HXX.out.1
        have s3 : X3.cell? ⟨w.heap.size, 6, none⟩ = some (.slice la (flen c) lc) := cell_of_block x3 rfl
        have f3 : X3.frozen? ⟨w.heap.size, 6, none⟩ = false := frozen_of_block x3
        refine wpAnyL_ready (rs := [3]) (by kernel_rfl) (by simp) ?_
        refine AllReadyL.cons rfl (fun K hK => ?_) AllReadyL.nil
        refine ready_append rfl (.tmp 32) (.tmp 34) 24 rfl _ _ _ rfl rfl hrun ?_
        refine hK.out _ _ (fun _ => s3) ?_
        clear hK K
        (try simp only [Act.put, List.setIfInBounds_toArray, List.set_cons_zero, List.set_cons_succ])
        refine wpAnyL_take (i := 7) (v := ?_) rfl (by kernel_rfl) (by kernel_rfl) (by kernel_rfl) (by kernel_rfl) (fun _ _ _ h => h) (Or.inl ⟨by rfl, ?_⟩) (by assumption) ?_
        rotate_left
        · intro w hSw
          (try dsimp only at hSw)
          go_simp
          (try with_reducible rfl)
        (try simp only [Act.put, List.setIfInBounds_toArray, List.set_cons_zero, List.set_cons_succ])
        refine wpAnyL_take (i := 8) (v := ?_) rfl (by kernel_rfl) (by kernel_rfl) (by kernel_rfl) (by kernel_rfl) (fun _ _ _ h => h) (Or.inl ⟨by rfl, ?_⟩) (by assumption) ?_
        rotate_left
        · intro w hSw
          (try dsimp only at hSw)
          go_simp
          (try with_reducible rfl)
        (try simp only [Act.put, List.setIfInBounds_toArray, List.set_cons_zero, List.set_cons_succ])
        refine wpAnyL_ready (rs := [9]) (by kernel_rfl) (by simp) ?_
        refine AllReadyL.cons rfl (fun K hK => ?_) AllReadyL.nil
        go_simp
        refine hK.out _ _ (fun h => absurd rfl h) ?_
        clear hK K
        refine wpAnyL_done (by kernel_rfl) ?_ _
        have x4 := set6 x3 (.slice (some ⟨h, 0, none⟩) (flen c) lcap)
        have z4 : (X3.setCell ⟨w.heap.size, 6, none⟩ (.slice (some ⟨h, 0, none⟩) (flen c) lcap)).heap[w.heap.size + 1]? = some (.cells #[.int .i64 0, .int .i64 0, .int .i64 0, .int .i64 0, .string { data := #[] }, .slice none 0 0, .slice none 0 0] 26 (0, 0)) := (Below.heap_setCell _ _ _ _ (by show w.heap.size + 1 ≠ w.heap.size; omega)).trans HXX.out.2.1
        have HVM : Hid (VM (fun b => w.heap.size + 1 < b) (X3.setCell ⟨w.heap.size, 6, none⟩ (.slice (some ⟨h, 0, none⟩) (flen c) lcap)) p c (.agg #[.int .i64 p.kind, .int .i64 p.key, .int .i64 p.elem, .int .i64 p.num, .string p.text, .slice (some ⟨g, 0, none⟩) p.ids.length cap, .slice (some ⟨h, 0, none⟩) (flen c) lcap])) := by
          have hk : ∀ k, w.heap.size + 2 ≤ k → (X3.setCell ⟨w.heap.size, 6, none⟩ (.slice (some ⟨h, 0, none⟩) (flen c) lcap)).heap[k]? = X3.heap[k]? := fun k hk => Below.heap_setCell _ _ _ _ (by show k ≠ w.heap.size; omega)
          have r1 := row_kept HIX.out fun g' hg' => hk g' (row_own HIX.out g' hg').1
          have r2 := row_kept HMR.out.1 fun g' hg' => hk g' (row_own HMR.out.1 g' hg').1
          exact ⟨g, cap, h, lcap, rfl, hok, hlen, ⟨row_zero r1, fun g' hg' => by have := (row_own r1 g' hg').1; omega⟩, ys, _, ⟨row_zero r2, fun g' hg' => by have := (row_own r2 g' hg').1; omega⟩, HMR.out.2.1, (HMR.out.2.2.1.kept fun k _ h2 => hk k h2).mono fun b hb => by omega⟩
        have HBF : Hid (Below w.heap.size w (X3.setCell ⟨w.heap.size, 6, none⟩ (.slice (some ⟨h, 0, none⟩) (flen c) lcap))) := HXX.out.2.2.setCell (p := ⟨w.heap.size, 6, none⟩) (Nat.le_refl _) _
        generalize X3.setCell ⟨w.heap.size, 6, none⟩ (.slice (some ⟨h, 0, none⟩) (flen c) lcap) = X4 at *
        clear hrun s3 f3 x3 HXX HMR HIX
        obtain ⟨⟨e0, e1, e2, e3, e4, e5, e6⟩, _⟩ := blk7 x4
        obtain ⟨⟨z0, z1, z2, z3, z4', z5, z6⟩, g0, g1, g2, g3, g4, g5, g6⟩ := blk7 z4
        go_wp2_with fail
        obtain ⟨s1, s2⟩ := store7 z4 (.int .i64 p.kind) (.int .i64 p.key) (.int .i64 p.elem) (.int .i64 p.num) (.string p.text) (.slice (some ⟨g, 0, none⟩) p.ids.length cap) (.slice (some ⟨h, 0, none⟩) (flen c) lcap)
        refine bodyPost_ret (results_val rfl _ _ _ _ rfl _ rfl (cells_of_block s1)) rfl ?_
        refine ⟨_, rfl, ?_, ⟨s2.os.trans HBF.out.os, s2.tape.trans HBF.out.tape, s2.output.trans HBF.out.output, by rw [← s2.size]; exact HBF.out.size, fun k hk => by rw [s2.block k (by omega), HBF.out.block k hk]⟩⟩
        obtain ⟨g', ic', h', lc', e, k1, k2, k3, ys', mk', k4, k5, k6⟩ := HVM.out
        have hk : ∀ k, k < X4.heap.size → w.heap.size + 1 < k → _ := fun k _ h2 => s2.block k (by omega)
        exact ⟨g', ic', h', lc', e, k1, k2, (k3.kept hk).mono fun b hb => by omega, ys', mk', (k4.kept hk).mono fun b hb => by omega, k5, (k6.kept hk).mono fun b hb => by omega⟩
  have s0 : (zbox (bx w p c ia ic la lc)).drew.cell? ⟨w.heap.size, 5, none⟩ = some (.slice ia p.ids.length ic) := cell_of_block HDX.out rfl
  refine wp_region_last 11 (fun w' => w'.cell? ⟨w.heap.size, 5, none⟩ = some (.slice ia p.ids.length ic)) (by kernel_rfl) s0 (fun hHeld => ?_)
  clear ax
  generalize (zbox (bx w p c ia ic la lc)).drew = D at *
  refine wpAnyL_take (i := 1) (v := ?_) rfl (by kernel_rfl) (by kernel_rfl) (by kernel_rfl) (by kernel_rfl) (fun _ _ _ h => h) (Or.inl ⟨by rfl, ?_⟩) (by assumption) ?_
  rotate_left
  · intro w hSw
    (try dsimp only at hSw)
    go_simp
    (try with_reducible rfl)
  (try simp only [Act.put, List.setIfInBounds_toArray, List.set_cons_zero, List.set_cons_succ])
  refine wpAnyL_take (i := 2) (v := ?_) rfl (by kernel_rfl) (by kernel_rfl) (by kernel_rfl) (by kernel_rfl) (fun _ _ _ h => h) (Or.inl ⟨by rfl, ?_⟩) (by assumption) ?_
  rotate_left
  · intro w hSw
    (try dsimp only at hSw)
    go_simp
    (try with_reducible rfl)
  (try simp only [Act.put, List.setIfInBounds_toArray, List.set_cons_zero, List.set_cons_succ])
  refine wpAnyL_take (i := 6) (v := ?_) rfl (by kernel_rfl) (by kernel_rfl) (by kernel_rfl) (by kernel_rfl) (fun _ _ _ h => h) (Or.inl ⟨by rfl, ?_⟩) (by assumption) ?_
  rotate_left
  · intro w hSw
    (try dsimp only at hSw)
    go_simp
    (try with_reducible rfl)
  (try simp only [Act.put, List.setIfInBounds_toArray, List.set_cons_zero, List.set_cons_succ])
  refine wpAnyL_take (i := 7) (v := ?_) rfl (by kernel_rfl) (by kernel_rfl) (by kernel_rfl) (by kernel_rfl) (fun _ _ _ h => h) (Or.inl ⟨by rfl, ?_⟩) (by assumption) ?_
  rotate_left
  · intro w hSw
    (try dsimp only at hSw)
    go_simp
    (try with_reducible rfl)
  (try simp only [Act.put, List.setIfInBounds_toArray, List.set_cons_zero, List.set_cons_succ])
  refine wpAnyL_take (i := 8) (v := ?_) rfl (by kernel_rfl) (by kernel_rfl) (by kernel_rfl) (by kernel_rfl) (fun _ _ _ h => h) (Or.inl ⟨by rfl, ?_⟩) (by assumption) ?_
  rotate_left
  · intro w hSw
    (try dsimp only at hSw)
    go_simp
    (try with_reducible rfl)
  (try simp only [Act.put, List.setIfInBounds_toArray, List.set_cons_zero, List.set_cons_succ])
  have HDS' : w.heap.size + 2 ≤ D.heap.size := HDS.out
  refine wpAnyL_ready (rs := [0, 4]) (by kernel_rfl) (by simp) ?_
  refine AllReadyL.cons rfl (fun K hK => ?_) (AllReadyL.cons rfl (fun K hK => ?_) AllReadyL.nil)
  · go_simp
    refine hK.out _ _ (fun _ => cell_later (alloc_below D _) s0) ?_
    clear hK K
    (try simp only [Act.put, List.setIfInBounds_toArray, List.set_cons_zero, List.set_cons_succ])
    refine wpAnyL_ready (rs := [3, 4]) (by kernel_rfl) (by simp) ?_
    refine AllReadyL.cons rfl (fun K hK => ?_) (AllReadyL.cons rfl (fun K hK => ?_) AllReadyL.nil)
    · obtain ⟨v1, X1, hrun1, o1, b1, k1⟩ := ap_ids (D.alloc (.cells #[] 3)) (w.heap.size + 2) (.slice (some ⟨D.heap.size, 0, none⟩) 0 0) 0 [] (World.ownsRow_made D #[] 0 HDS.out (Nat.zero_le _) rfl) ia p.ids.length ic (c64 p.ids) (c64_len _) (src_or (HV.out.ids.later (HDB.out.trans ((alloc_below D _).mono (by omega))))) (c64_one _) (by omega) (by simp; omega)
      rw [Nat.zero_add, List.nil_append] at o1
      refine ready_append rfl (.tmp 5) (.tmp 7) 23 rfl _ _ _ rfl rfl hrun1 ?_
      have b01 : Below (w.heap.size + 2) D X1 := ((alloc_below D _).mono HDS.out).trans b1
      have sx1 : X1.cell? ⟨w.heap.size, 5, none⟩ = some (.slice ia p.ids.length ic) := by rw [b01.cell (p := ⟨w.heap.size, 5, none⟩) (by show w.heap.size < w.heap.size + 2; omega)]; exact s0
      refine hK.out _ _ (fun _ => sx1) ?_
      clear hK K
      (try simp only [Act.put, List.setIfInBounds_toArray, List.set_cons_zero, List.set_cons_succ])
      refine wpAnyL_ready (rs := [4]) (by kernel_rfl) (by simp) ?_
      refine AllReadyL.cons rfl (fun K hK => ?_) AllReadyL.nil
      go_simp
      have sx2 : (X1.alloc (.cells #[.int .i64 77] 3)).cell? ⟨w.heap.size, 5, none⟩ = some (.slice ia p.ids.length ic) := cell_later (alloc_below X1 _) sx1
      refine hK.out _ _ (fun _ => sx2) ?_
      clear hK K
      (try simp only [Act.put, List.setIfInBounds_toArray, List.set_cons_zero, List.set_cons_succ])
      obtain ⟨v3, X3, hrun3, o3, b13, k3⟩ := ap_ids (X1.alloc (.cells #[.int .i64 77] 3)) (w.heap.size + 2) v1 p.ids.length (c64 p.ids) (o1.alloc _) (some ⟨X1.heap.size, 0, none⟩) 1 1 [.int .i64 77] rfl (.inr ⟨_, rfl, new_news X1 [.int .i64 77] 3 (0, 0)⟩) (c64_one [77]) (by omega) (by have := b01.size; simp; omega)
      have b3 : Below (w.heap.size + 2) D X3 := (b01.trans ((alloc_below X1 _).mono (by have := b01.size; omega))).trans b13
      refine wpAnyL_ready (rs := [5]) (by kernel_rfl) (by simp) ?_
      refine AllReadyL.cons rfl (fun K hK => ?_) AllReadyL.nil
      refine ready_append rfl (.tmp 8) (.tmp 9) 23 rfl _ _ _ rfl rfl hrun3 ?_
      obtain ⟨g, cap, rfl⟩ := own_some o3 (Nat.le_add_left _ _)
      have hcap : p.ids.length + 1 ≤ cap := own_cap o3
      have hcap' : (p.ids.length : Int) ≤ (cap : Int) := by omega
      have x3 : X3.heap[w.heap.size]? = some (.cells #[.int .i64 p.kind, .int .i64 p.key, .int .i64 p.elem, .int .i64 p.num, .string p.text, .slice ia p.ids.length ic, .slice la (flen c) lc] 26 (0, 0)) := (b3.block _ (by omega)).trans HDX.out
      have z3 : X3.heap[w.heap.size + 1]? = _ := (b3.block _ (by omega)).trans HDZ.out
      have s3 : X3.cell? ⟨w.heap.size, 5, none⟩ = some (.slice ia p.ids.length ic) := cell_of_block x3 rfl
      have f3 : X3.frozen? ⟨w.heap.size, 5, none⟩ = false := frozen_of_block x3
      refine hK.out _ _ (fun _ => s3) ?_
      clear hK K
      (try simp only [Act.put, List.setIfInBounds_toArray, List.set_cons_zero, List.set_cons_succ])
      refine wpAnyL_take (i := 9) (v := ?_) rfl (by kernel_rfl) (by kernel_rfl) (by kernel_rfl) (by kernel_rfl) (fun _ _ _ h => h) (Or.inl ⟨by rfl, ?_⟩) (by assumption) ?_
      rotate_left
      · intro w hSw
        (try dsimp only at hSw)
        go_simp
        (try with_reducible rfl)
      (try simp only [Act.put, List.setIfInBounds_toArray, List.set_cons_zero, List.set_cons_succ])
      refine wpAnyL_take (i := 10) (v := ?_) rfl (by kernel_rfl) (by kernel_rfl) (by kernel_rfl) (by kernel_rfl) (fun _ _ _ h => h) (Or.inl ⟨by rfl, ?_⟩) (by assumption) ?_
      rotate_left
      · intro w hSw
        (try dsimp only at hSw)
        go_simp
        (try with_reducible rfl)
      (try simp only [Act.put, List.setIfInBounds_toArray, List.set_cons_zero, List.set_cons_succ])
      refine wpAnyL_ready (rs := [11]) (by kernel_rfl) (by simp) ?_
      refine AllReadyL.cons rfl (fun K hK => ?_) AllReadyL.nil
      go_simp
      refine hK.out _ _ (fun h => absurd rfl h) ?_
      clear hK K
      refine wpAnyL_done (by kernel_rfl) ?_ _
      refine key _ _ _ _ _ _ _ _ _ _ _ _ g cap (set5 x3 _) ((Below.heap_setCell _ _ _ _ (by show w.heap.size + 1 ≠ w.heap.size; omega)).trans z3) (ownsRow_setCell_below (a := ⟨w.heap.size, 5, none⟩) o3 (by show w.heap.size < w.heap.size + 2; omega) _) ?_
      exact (HDB.out.trans (b3.mono (by omega))).setCell (p := ⟨w.heap.size, 5, none⟩) (Nat.le_refl _) _
    · go_simp
      have sx1 : ((D.alloc (.cells #[] 3)).alloc (.cells #[.int .i64 77] 3)).cell? ⟨w.heap.size, 5, none⟩ = some (.slice ia p.ids.length ic) := cell_later (alloc_below _ _) (cell_later (alloc_below D _) s0)
      refine hK.out _ _ (fun _ => sx1) ?_
      clear hK K
      (try simp only [Act.put, List.setIfInBounds_toArray, List.set_cons_zero, List.set_cons_succ])
      obtain ⟨v1, X1, hrun1, o1, b1, k1⟩ := ap_ids ((D.alloc (.cells #[] 3)).alloc (.cells #[.int .i64 77] 3)) (w.heap.size + 2) (.slice (some ⟨D.heap.size, 0, none⟩) 0 0) 0 [] ((World.ownsRow_made D #[] 0 HDS.out (Nat.zero_le _) rfl).alloc _) ia p.ids.length ic (c64 p.ids) (c64_len _) (src_or (HV.out.ids.later ((HDB.out.trans ((alloc_below D _).mono (by omega))).alloc (by simp; omega) _))) (c64_one _) (by omega) (by simp; omega)
      rw [Nat.zero_add, List.nil_append] at o1
      refine wpAnyL_ready (rs := [3]) (by kernel_rfl) (by simp) ?_
      refine AllReadyL.cons rfl (fun K hK => ?_) AllReadyL.nil
      refine ready_append rfl (.tmp 5) (.tmp 7) 23 rfl _ _ _ rfl rfl hrun1 ?_
      have b01 : Below (w.heap.size + 2) D X1 := (((alloc_below D _).mono HDS.out).alloc (by simp; omega) _).trans b1
      have sx2 : X1.cell? ⟨w.heap.size, 5, none⟩ = some (.slice ia p.ids.length ic) := by rw [b01.cell (p := ⟨w.heap.size, 5, none⟩) (by show w.heap.size < w.heap.size + 2; omega)]; exact s0
      refine hK.out _ _ (fun _ => sx2) ?_
      clear hK K
      (try simp only [Act.put, List.setIfInBounds_toArray, List.set_cons_zero, List.set_cons_succ])
      have h77 : X1.heap[D.heap.size + 1]? = some (.cells #[.int .i64 77] 3 (0, 0)) := (k1 _ (by simp) (by simp [Value.ownBlock])).trans (heap2_new D _ _)
      obtain ⟨v3, X3, hrun3, o3, b13, k3⟩ := ap_ids X1 (w.heap.size + 2) v1 p.ids.length (c64 p.ids) o1 (some ⟨D.heap.size + 1, 0, none⟩) 1 1 [.int .i64 77] rfl (.inr ⟨_, rfl, fun j u hj => by rw [add0]; exact cell_of_block h77 (by simpa using hj)⟩) (c64_one [77]) (by omega) (Nat.le_trans HDS.out b01.size)
      have b3 : Below (w.heap.size + 2) D X3 := b01.trans b13
      refine wpAnyL_ready (rs := [5]) (by kernel_rfl) (by simp) ?_
      refine AllReadyL.cons rfl (fun K hK => ?_) AllReadyL.nil
      refine ready_append rfl (.tmp 8) (.tmp 9) 23 rfl _ _ _ rfl rfl hrun3 ?_
      obtain ⟨g, cap, rfl⟩ := own_some o3 (Nat.le_add_left _ _)
      have hcap : p.ids.length + 1 ≤ cap := own_cap o3
      have hcap' : (p.ids.length : Int) ≤ (cap : Int) := by omega
      have x3 : X3.heap[w.heap.size]? = some (.cells #[.int .i64 p.kind, .int .i64 p.key, .int .i64 p.elem, .int .i64 p.num, .string p.text, .slice ia p.ids.length ic, .slice la (flen c) lc] 26 (0, 0)) := (b3.block _ (by omega)).trans HDX.out
      have z3 : X3.heap[w.heap.size + 1]? = _ := (b3.block _ (by omega)).trans HDZ.out
      have s3 : X3.cell? ⟨w.heap.size, 5, none⟩ = some (.slice ia p.ids.length ic) := cell_of_block x3 rfl
      have f3 : X3.frozen? ⟨w.heap.size, 5, none⟩ = false := frozen_of_block x3
      refine hK.out _ _ (fun _ => s3) ?_
      clear hK K
      (try simp only [Act.put, List.setIfInBounds_toArray, List.set_cons_zero, List.set_cons_succ])
      refine wpAnyL_take (i := 9) (v := ?_) rfl (by kernel_rfl) (by kernel_rfl) (by kernel_rfl) (by kernel_rfl) (fun _ _ _ h => h) (Or.inl ⟨by rfl, ?_⟩) (by assumption) ?_
      rotate_left
      · intro w hSw
        (try dsimp only at hSw)
        go_simp
        (try with_reducible rfl)
      (try simp only [Act.put, List.setIfInBounds_toArray, List.set_cons_zero, List.set_cons_succ])
      refine wpAnyL_take (i := 10) (v := ?_) rfl (by kernel_rfl) (by kernel_rfl) (by kernel_rfl) (by kernel_rfl) (fun _ _ _ h => h) (Or.inl ⟨by rfl, ?_⟩) (by assumption) ?_
      rotate_left
      · intro w hSw
        (try dsimp only at hSw)
        go_simp
        (try with_reducible rfl)
      (try simp only [Act.put, List.setIfInBounds_toArray, List.set_cons_zero, List.set_cons_succ])
      refine wpAnyL_ready (rs := [11]) (by kernel_rfl) (by simp) ?_
      refine AllReadyL.cons rfl (fun K hK => ?_) AllReadyL.nil
      go_simp
      refine hK.out _ _ (fun h => absurd rfl h) ?_
      clear hK K
      refine wpAnyL_done (by kernel_rfl) ?_ _
      refine key _ _ _ _ _ _ _ _ _ _ _ _ g cap (set5 x3 _) ((Below.heap_setCell _ _ _ _ (by show w.heap.size + 1 ≠ w.heap.size; omega)).trans z3) (ownsRow_setCell_below (a := ⟨w.heap.size, 5, none⟩) o3 (by show w.heap.size < w.heap.size + 2; omega) _) ?_
      exact (HDB.out.trans (b3.mono (by omega))).setCell (p := ⟨w.heap.size, 5, none⟩) (Nat.le_refl _) _
  · go_simp
    refine hK.out _ _ (fun _ => cell_later (alloc_below D _) s0) ?_
    clear hK K
    (try simp only [Act.put, List.setIfInBounds_toArray, List.set_cons_zero, List.set_cons_succ])
    refine wpAnyL_ready (rs := [0]) (by kernel_rfl) (by simp) ?_
    refine AllReadyL.cons rfl (fun K hK => ?_) AllReadyL.nil
    go_simp
    have sx1 : ((D.alloc (.cells #[.int .i64 77] 3)).alloc (.cells #[] 3)).cell? ⟨w.heap.size, 5, none⟩ = some (.slice ia p.ids.length ic) := cell_later (alloc_below _ _) (cell_later (alloc_below D _) s0)
    refine hK.out _ _ (fun _ => sx1) ?_
    clear hK K
    (try simp only [Act.put, List.setIfInBounds_toArray, List.set_cons_zero, List.set_cons_succ])
    obtain ⟨v1, X1, hrun1, o1, b1, k1⟩ := ap_ids ((D.alloc (.cells #[.int .i64 77] 3)).alloc (.cells #[] 3)) (w.heap.size + 2) (.slice (some ⟨D.heap.size + 1, 0, none⟩) 0 0) 0 [] (made_i D _ HDS.out) ia p.ids.length ic (c64 p.ids) (c64_len _) (src_or (HV.out.ids.later ((HDB.out.trans ((alloc_below D _).mono (by omega))).alloc (by simp; omega) _))) (c64_one _) (by omega) (by simp; omega)
    rw [Nat.zero_add, List.nil_append] at o1
    refine wpAnyL_ready (rs := [3]) (by kernel_rfl) (by simp) ?_
    refine AllReadyL.cons rfl (fun K hK => ?_) AllReadyL.nil
    refine ready_append rfl (.tmp 5) (.tmp 7) 23 rfl _ _ _ rfl rfl hrun1 ?_
    have b01 : Below (w.heap.size + 2) D X1 := (((alloc_below D _).mono HDS.out).alloc (by simp; omega) _).trans b1
    have sx2 : X1.cell? ⟨w.heap.size, 5, none⟩ = some (.slice ia p.ids.length ic) := by rw [b01.cell (p := ⟨w.heap.size, 5, none⟩) (by show w.heap.size < w.heap.size + 2; omega)]; exact s0
    refine hK.out _ _ (fun _ => sx2) ?_
    clear hK K
    (try simp only [Act.put, List.setIfInBounds_toArray, List.set_cons_zero, List.set_cons_succ])
    have h77 : X1.heap[D.heap.size]? = some (.cells #[.int .i64 77] 3 (0, 0)) := (k1 _ (by simp; omega) (by simp [Value.ownBlock])).trans (((alloc_below (D.alloc (.cells #[.int .i64 77] 3)) _).block _ (by simp)).trans (heap_new D _))
    obtain ⟨v3, X3, hrun3, o3, b13, k3⟩ := ap_ids X1 (w.heap.size + 2) v1 p.ids.length (c64 p.ids) o1 (some ⟨D.heap.size, 0, none⟩) 1 1 [.int .i64 77] rfl (.inr ⟨_, rfl, fun j u hj => by rw [add0]; exact cell_of_block h77 (by simpa using hj)⟩) (c64_one [77]) (by omega) (Nat.le_trans HDS.out b01.size)
    have b3 : Below (w.heap.size + 2) D X3 := b01.trans b13
    refine wpAnyL_ready (rs := [5]) (by kernel_rfl) (by simp) ?_
    refine AllReadyL.cons rfl (fun K hK => ?_) AllReadyL.nil
    refine ready_append rfl (.tmp 8) (.tmp 9) 23 rfl _ _ _ rfl rfl hrun3 ?_
    obtain ⟨g, cap, rfl⟩ := own_some o3 (Nat.le_add_left _ _)
    have hcap : p.ids.length + 1 ≤ cap := own_cap o3
    have hcap' : (p.ids.length : Int) ≤ (cap : Int) := by omega
    have x3 : X3.heap[w.heap.size]? = some (.cells #[.int .i64 p.kind, .int .i64 p.key, .int .i64 p.elem, .int .i64 p.num, .string p.text, .slice ia p.ids.length ic, .slice la (flen c) lc] 26 (0, 0)) := (b3.block _ (by omega)).trans HDX.out
    have z3 : X3.heap[w.heap.size + 1]? = _ := (b3.block _ (by omega)).trans HDZ.out
    have s3 : X3.cell? ⟨w.heap.size, 5, none⟩ = some (.slice ia p.ids.length ic) := cell_of_block x3 rfl
    have f3 : X3.frozen? ⟨w.heap.size, 5, none⟩ = false := frozen_of_block x3
    refine hK.out _ _ (fun _ => s3) ?_
    clear hK K
    (try simp only [Act.put, List.setIfInBounds_toArray, List.set_cons_zero, List.set_cons_succ])
    refine wpAnyL_take (i := 9) (v := ?_) rfl (by kernel_rfl) (by kernel_rfl) (by kernel_rfl) (by kernel_rfl) (fun _ _ _ h => h) (Or.inl ⟨by rfl, ?_⟩) (by assumption) ?_
    rotate_left
    · intro w hSw
      (try dsimp only at hSw)
      go_simp
      (try with_reducible rfl)
    (try simp only [Act.put, List.setIfInBounds_toArray, List.set_cons_zero, List.set_cons_succ])
    refine wpAnyL_take (i := 10) (v := ?_) rfl (by kernel_rfl) (by kernel_rfl) (by kernel_rfl) (by kernel_rfl) (fun _ _ _ h => h) (Or.inl ⟨by rfl, ?_⟩) (by assumption) ?_
    rotate_left
    · intro w hSw
      (try dsimp only at hSw)
      go_simp
      (try with_reducible rfl)
    (try simp only [Act.put, List.setIfInBounds_toArray, List.set_cons_zero, List.set_cons_succ])
    refine wpAnyL_ready (rs := [11]) (by kernel_rfl) (by simp) ?_
    refine AllReadyL.cons rfl (fun K hK => ?_) AllReadyL.nil
    go_simp
    refine hK.out _ _ (fun h => absurd rfl h) ?_
    clear hK K
    refine wpAnyL_done (by kernel_rfl) ?_ _
    refine key _ _ _ _ _ _ _ _ _ _ _ _ g cap (set5 x3 _) ((Below.heap_setCell _ _ _ _ (by show w.heap.size + 1 ≠ w.heap.size; omega)).trans z3) (ownsRow_setCell_below (a := ⟨w.heap.size, 5, none⟩) o3 (by show w.heap.size < w.heap.size + 2; omega) _) ?_
    exact (HDB.out.trans (b3.mono (by omega))).setCell (p := ⟨w.heap.size, 5, none⟩) (Nat.le_refl _) _
theorem copied_any (p : Pay) (c : Fo) : CopiedC p c := every_value copied_step p c
end Go.Proofs.Ytikoddlidhefpaa
