/-
  All: an iterator over the whole values, whichever way it goes.
-/
import Derived.Test.YtdglobonbhkheaaPlAb
import Derived.Test.YtdglobonbhkheaaPlIt
import Derived.Test.YtdglobonbhkheaaJ7
import Derived.Test.YtdglobonbhkheaaPlZ
import Derived.Test.YtdglobonbhkheaaPlRd
import Derived.Test.YtdglobonbhkheaaBClone
import Derived.Test.YtdglobonbhkheaaJ8
namespace Go.Proofs.Ytdglobonbhkheaa
set_option linter.unusedVariables false
set_option linter.unusedSimpArgs false
open Go.ChangeShapes Go.WideShapes Go.ChangeAt Go.RowKit Go.Deep Go.Shelf

attribute [local go_sem] run_store_fn way_fd0 way_fd1 way_fd2 way_fd3
theorem SeqE.imp {α : Type} {n : Nat} {P : Program} {g : Nat} {lb : Array Value} {encs : α → Array Value} {S Sp : List α → Prop} {Nx Nx' : List α → α → Prop} {X0 : Nat → Prop} {Pre : World → Prop} {w w' : World} (h : SeqE n P g lb encs S Sp Nx X0 Pre w) (hi : ∀ pre x, Nx pre x → Nx' pre x) (hb : Below w.heap.size w w') : SeqE n P g lb encs S Sp Nx' X0 Pre w' :=
  fun l J Jx W hW hP hJ hJx hY h0 => h l J Jx W (hb.trans (hW.mono hb.size)) hP hJ hJx (fun pre x X V hJp hN => by
    obtain ⟨fn, tmps, assign, body, hy, hR⟩ := hY pre x X V hJp (hi _ _ hN)
    exact ⟨fn, tmps, assign, body, hy, hR.mono fun e V' he => by
      rcases he with ⟨e1, e2, e3, e4⟩ | ⟨e1, e2, e3, e4⟩
      · exact .inl ⟨e1, e2, e3.mono hb.size, e4⟩
      · exact .inr ⟨e1, e2, e3.mono hb.size, e4⟩⟩) h0
/-- an iterator over values with their places; it has no cells of its own that change -/
def ItP (w : World) (v : Value) (vs : List (Nat × Dat)) : Prop :=
  ∃ (gf : FuncId) (lb : Array Value) (Pre : World → Prop), v = .func (.func gf) #[] lb ∧ (∀ args w, (callFunc gf args).run Try.prog w = .ok (.enter gf args) w) ∧
    (∀ n, 8 ≤ n → SeqE n Try.prog gf lb (fun x : Nat × Dat => #[.int .i64 ((x.1 : Nat) : Int), dval x.2]) (fun ys => ys = vs) (fun pre => pre <+: vs) (fun pre x => vs[pre.length]? = some x) (fun _ => False) Pre w) ∧ (∀ V, Below w.heap.size w V → Pre V)
theorem ItP.later {w w' : World} {v : Value} {vs : List (Nat × Dat)} (h : ItP w v vs) (hb : Below w.heap.size w w') : ItP w' v vs := by
  obtain ⟨gf, lb, Pre, h1, h2, h3, h4⟩ := h
  exact ⟨gf, lb, Pre, h1, h2, fun n hn => (h3 n hn).imp (fun _ _ h => h) hb, fun V hV => h4 V (hb.trans (hV.mono hb.size))⟩
/-- the iterator of a row, in a world that holds its own two blocks -/
theorem all1_seq0 (n : Nat) (hn : 2 ≤ n) (w0 : World) (p : Value) (k z : Int) (hp : Part w0 p k z) (hc : chkB k z = true) (h0 : k ≠ 0) (Bp Bb len cap : Nat) (a : Option Addr) (bs : List Nat) (hB : Byt w0 a len cap bs)
    (f1 f2 f3 : FuncId) (b1 b2 b3 : Array Value) (hpv : p = .agg #[.func (.func f1) #[] b1, .func (.func f2) #[] b2, .func (.func f3) #[] b3]) (w1 : World) (hw : Below w0.heap.size w0 w1) (hp1 : Bp < w1.heap.size) (hp2 : Bb < w1.heap.size) :
    SeqE n Try.prog 86 #[.pointer (some ⟨Bp, 0, none⟩), .pointer (some ⟨Bb, 0, none⟩)] (fun x : Nat × Dat => #[.int .i64 ((x.1 : Nat) : Int), dval x.2]) (fun ys => ys = vals k z bs 0) (fun pre => pre <+: vals k z bs 0) (fun pre x => (pre ++ [x]) <+: vals k z bs 0 ∧ x.1 + dsz k z x.2 ≤ len ∧ x.2.s.size ≤ len) (fun _ => False) (fun W => W.heap[Bp]? = some (.cells #[.func (.func f1) #[] b1, .func (.func f2) #[] b2, .func (.func f3) #[] b3] 96 (0, 0)) ∧ W.heap[Bb]? = some (.cells #[.slice a len cap] 27 (0, 0))) w1 := by
  intro l J Jx W hW hP hJ hJx hY h00
  have hWs := hW.size
  refine (all1_in n hn l w0 p k z hp hc h0 Bp Bb len cap a bs hB f1 f2 f3 b1 b2 b3 hpv (fun b => b = Bp ∨ b = Bb) (.inl rfl) (.inr rfl)
    (fun s X V => ∃ X', J s X' V ∧ w1.heap.size ≤ V.heap.size ∧ ∀ b, X b → X' b ∨ b < w1.heap.size) Jx ?_ ?_ W (hw.trans (hW.mono hw.size)) hP.1 hP.2 ⟨_, h00, hWs, ?_⟩).mono ?_
  · rintro s X A C ⟨X', h1, h2, h3⟩ hb
    refine ⟨_, hJ _ _ _ _ h1 (Chg.of_below hb), Nat.le_trans h2 hb.size, ?_⟩
    rintro b (h | h)
    · rcases h3 b h with h | h
      · exact .inl (.inl h)
      · exact .inr h
    · exact .inl (.inr h)
  · rintro pre x X V ⟨X', h1, h2, h3⟩ hN
    obtain ⟨fn, tmps, assign, body, hy, hR⟩ := hY pre x X' V h1 hN
    refine ⟨fn, tmps, assign, body, hy, hR.mono fun e V' he => ?_⟩
    rcases he with ⟨e1, e2, e3, e4⟩ | ⟨e1, e2, e3, e4⟩
    · refine .inl ⟨e1, ⟨X', e2, Nat.le_trans h2 e3.size, h3⟩, e3.mono hw.size, fun b hb => ?_⟩
      rcases h3 b hb with h | h
      · exact e4 b h
      · exact e3.block b h
    · exact .inr ⟨e1, e2⟩
  · rintro b (rfl | rfl)
    · exact .inr hp1
    · exact .inr hp2
  · rintro e W' ⟨h1, ⟨ys, X, h2, X', h3, _⟩ | h2⟩
    · exact ⟨h1, .inl ⟨ys, X', h2, h3⟩⟩
    · exact ⟨h1, .inr h2⟩
/-- the whole values, with their places -/
def allV (k z : Int) (bs : List Nat) : List (Nat × Dat) := if chkB k z = false then [] else if k = 0 then trP (upto (bt (pk 8 bs)) (8 * bs.length)) else vals k z bs 0
theorem trP_at {f : Nat → Bool} {n i : Nat} (h : i < n) : (trP (upto f n))[i]? = some (i, tD (f i)) := by
  unfold trP upto
  simp [List.getElem?_zipIdx, List.getElem?_range h]

set_option maxRecDepth 100000 in
set_option maxHeartbeats 1000000 in
theorem none_seq (n : Nat) (w : World) : SeqE n Try.prog 26 #[] (fun x : Nat × Dat => #[.int .i64 ((x.1 : Nat) : Int), dval x.2]) (fun ys => ys = []) (fun pre => pre <+: []) (fun pre x => ([] : List (Nat × Dat))[pre.length]? = some x) (fun _ => False) (fun _ => True) w := by
  intro l J Jx W hW hP hJ hJx hY h0
  refine callsIn_of_wp Try.func26 rfl trivial ?_ rfl
  simp only [Try.ntmps26, List.size_toArray, List.length_cons, List.length_nil, Nat.reduceAdd, Nat.reduceSub, Array.replicate_succ, Array.replicate_zero, List.push_toArray, List.append_toArray, List.nil_append, List.cons_append]
  gi_wp2
  go_end0
  exact ⟨⟨_, rfl⟩, .inl ⟨_, h0⟩⟩
theorem own_cap4 {w : World} {B : Nat} {e : TypeId} {a : Option Addr} {n c : Nat} {xs : List Value} (h : w.ownsRow B e 1 (.slice a n c) n xs) : n ≤ c := by
  rcases h.2 with ⟨h1, rfl⟩ | ⟨g, cap, cur, h1, _, _, h4, _⟩
  · omega
  · cases h1
    exact h4
theorem pre_at {vs pre : List (Nat × Dat)} {x : Nat × Dat} (h : (pre ++ [x]) <+: vs) : vs[pre.length]? = some x := by
  obtain ⟨r, rfl⟩ := h
  simp
set_option maxRecDepth 100000 in
set_option maxHeartbeats 1000000 in
theorem allTruths_any (a : Option Addr) (len cap B : Nat) (w : World) (hlen : len ≤ 1048576) (hs : Src w a len cap (c8 (upk 8 len B))) :
    Calls Try.prog 43 #[.slice a len cap] w fun e w' => ∃ v, e = .returned v ∧ ItP w' v (trP (upto (bt B) (8 * len))) ∧ Below w.heap.size w w' := by
  have BA := bits_any a len cap B w hlen hs
  go_enter Try.func43, Try.ntmps43
  go_wp2_with fail
  refine BA.mono ?_
  rintro e w1 ⟨Bs, cap', ad', rfl, hc1, hN1, hb1⟩
  go_wp2_with fail
  go_ret
  have hA := heap_new w1 (.cells #[.func (.func 93) #[] #[.pointer (some ⟨Bs, 0, none⟩)]] 107 (0, 0))
  have bA := alloc_below w1 (.cells #[.func (.func 93) #[] #[.pointer (some ⟨Bs, 0, none⟩)]] 107 (0, 0))
  generalize w1.alloc (.cells #[.func (.func 93) #[] #[.pointer (some ⟨Bs, 0, none⟩)]] 107 (0, 0)) = w2 at *
  have hBA : BytesAt w2.heap.size w2 ad' len B := fun j hj => by
    obtain ⟨g, off, e, hg, hc⟩ := bytesAt_num hN1 (Nat.le_refl _) j hj
    exact ⟨g, off, e, Nat.lt_of_lt_of_le hg bA.size, cell_later bA hc⟩
  refine ⟨_, rfl, ⟨59, _, _, rfl, Go.Proofs.enters_of Try.func59 (by kernel_rfl) rfl, fun n hn => (all2_seq n (by omega) w1.heap.size Bs B len cap' ad' hlen w2 hBA).imp (fun pre x h => by rw [h.2]; exact trP_at h.1) (Below.refl _ _), fun V hV => ⟨below_at hV hA, cell_later hV (cell_later bA hc1)⟩⟩, hb1.trans (bA.mono hb1.size)⟩

set_option maxRecDepth 100000 in
set_option maxHeartbeats 2000000 in
theorem pall_any (k z : Int) (a : Option Addr) (len cap : Nat) (bs : List Nat) (w : World) (hB : Byt w a len cap bs) :
    Calls Try.prog 14 #[.slice a len cap, .agg #[.int .i64 k, .int .i64 z]] w fun e w' => ∃ v, e = .returned v ∧ ItP w' v (allV k z bs) ∧ Below w.heap.size w w' := by
  have ab := alloc_below w (.cells #[.int .i64 k, .int .i64 z] 24 (0, 0))
  have hx := heap_new w (.cells #[.int .i64 k, .int .i64 z] 24 (0, 0))
  have CK := fun W => check_any k z W
  have hbl := hB.len
  have hl' : (len : Int) ≤ 1048576 := by have := hB.most; omega
  unfold chkN at CK
  by_cases hc : chkB k z = true
  · rw [hc] at CK
    have WO := fun W => wayOf_any k z hc W
    have hpk : c8 (upk 8 len (pk 8 bs)) = c8 bs := by rw [← hbl, upk_pk 8 bs (fun x hx => by have := hB.lt x hx; simpa using this)]
    have CL := fun W (h : Below w.heap.size w W) => clone_any a len cap (pk 8 bs) W hB.most (by rw [hpk]; exact (hB.later h).src)
    go_enter Try.func14, Try.ntmps14
    go_wp2_with fail
    refine (CK _).mono ?_
    rintro e W1 ⟨rfl, hb1⟩
    have b1 := ab.trans (hb1.mono ab.size)
    obtain ⟨⟨c0, c1⟩, _⟩ := blk2 (below_at hb1 hx)
    go_wp2_with fail
    refine (WO _).mono ?_
    rintro e W3 ⟨v, rfl, hway, hb3⟩
    have b3 := b1.trans (hb3.mono b1.size)
    rcases hway with ⟨hk, rfl⟩ | ⟨hk, p, hp, rfl⟩
    · have HE : Hid (allV k z bs = trP (upto (bt (pk 8 bs)) (8 * len))) := by show _ = _; unfold allV; rw [if_neg (by rw [hc]; simp), if_pos hk, hbl]
      unfold truthV
      go_wp2_with fail
      refine (CL W3 b3).mono ?_
      rintro e W4 ⟨u, rfl, hown, hb4⟩
      obtain ⟨a4, c4, rfl⟩ := own_sl hown
      have b4 := b3.trans (hb4.mono b3.size)
      have AT := allTruths_any a4 len c4 (pk 8 bs) W4 hB.most (src_own hown).2
      go_wp2_with fail
      refine AT.mono ?_
      rintro e W5 ⟨v5, rfl, hit, hb5⟩
      go_wp2_with fail
      go_ret
      exact ⟨_, rfl, by rw [HE.out]; exact hit, b4.trans (hb5.mono b4.size)⟩
    · have HE : Hid (allV k z bs = vals k z bs 0) := by show _ = _; unfold allV; rw [if_neg (by rw [hc]; simp), if_neg hk]
      obtain ⟨f1, f2, f3, p1, p2, p3, hpv, hrest⟩ := hp.ex
      subst hpv
      unfold rowV
      go_wp2_with fail
      refine (CL W3 b3).mono ?_
      rintro e W4 ⟨u, rfl, hown, hb4⟩
      obtain ⟨a4, c4, rfl⟩ := own_sl hown
      have b4 := b3.trans (hb4.mono b3.size)
      rw [hpk] at hown
      have hB4 : Byt W4 a4 len c4 bs := ⟨(src_own hown).2, hB.lt, hB.most, own_cap4 hown⟩
      have AL := all_any (.func (.func f1) #[] p1) (.func (.func f2) #[] p2) (.func (.func f3) #[] p3) a4 len c4 W4
      have hp4 := hp.later hb4
      clear hrest
      go_wp2_with fail
      refine AL.mono ?_
      rintro e W5 ⟨rfl, hW5⟩
      have hq1 := heap_new W4 (.cells #[.func (.func f1) #[] p1, .func (.func f2) #[] p2, .func (.func f3) #[] p3] 96 (0, 0))
      have hp5 : W5.heap[W4.heap.size]? = some (.cells #[.func (.func f1) #[] p1, .func (.func f2) #[] p2, .func (.func f3) #[] p3] 96 (0, 0)) := by rw [hW5]; exact below_at (alloc_below _ _) hq1
      have hb5 : W5.heap[W4.heap.size + 1]? = some (.cells #[.slice a4 len c4] 27 (0, 0)) := by rw [hW5]; exact heap2_new W4 _ _
      have bel5 : Below W4.heap.size W4 W5 := by rw [hW5]; exact (alloc_below _ _).alloc (by simp) _
      have s5 : W5.heap.size = W4.heap.size + 2 := by rw [hW5]; simp
      clear hW5 hq1 AL
      go_wp2_with fail
      go_ret
      refine ⟨_, rfl, ?_, b4.trans (bel5.mono b4.size)⟩
      rw [HE.out]
      refine ⟨86, _, _, rfl, Go.Proofs.enters_of Try.func86 (by kernel_rfl) rfl, fun n hn => (all1_seq0 n (by omega) W4 _ k z hp4 hc hk W4.heap.size (W4.heap.size + 1) len c4 a4 bs hB4 f1 f2 f3 p1 p2 p3 rfl W5 bel5 (by omega) (by omega)).imp (fun pre x h => pre_at h.1) (Below.refl _ _), fun V hV => ⟨below_at hV hp5, below_at hV hb5⟩⟩
  · have hc' : chkB k z = false := by simpa using hc
    rw [hc'] at CK
    have HE : Hid (allV k z bs = []) := by show _ = _; unfold allV; rw [if_pos hc']
    go_enter Try.func14, Try.ntmps14
    go_wp2_with fail
    refine (CK _).mono ?_
    rintro e W1 ⟨rfl, hb1⟩
    have b1 := ab.trans (hb1.mono ab.size)
    go_wp2_with fail
    go_ret
    refine ⟨_, rfl, ?_, b1⟩
    rw [HE.out]
    exact ⟨26, _, _, rfl, Go.Proofs.enters_of Try.func26 (by kernel_rfl) rfl, fun n hn => none_seq n W1, fun V hV => trivial⟩
end Go.Proofs.Ytdglobonbhkheaa
