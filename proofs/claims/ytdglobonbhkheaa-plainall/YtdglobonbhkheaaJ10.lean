/-
  readTruths: so many truths of bytes.
-/
import Derived.Test.YtdglobonbhkheaaPlRd
import Derived.Test.YtdglobonbhkheaaJ9
import Derived.Test.YtdglobonbhkheaaJ3
import Derived.Test.YtdglobonbhkheaaPlV
import Derived.Test.YtdglobonbhkheaaPlZ
import Derived.Test.YtdglobonbhkheaaJmp
import Derived.Test.YtdglobonbhkheaaJ6
namespace Go.Proofs.Ytdglobonbhkheaa
set_option linter.unusedVariables false
set_option linter.unusedSimpArgs false
open Go.ChangeShapes Go.WideShapes Go.ChangeAt Go.RowKit Go.Deep

/-- a bit as a truth -/
def tr (x : Nat) : Dat := ⟨0, (x : Int), { data := #[] }⟩
def trs (L : List Nat) : List Dat := L.map tr
def d0 : Dat := ⟨0, 0, { data := #[] }⟩
theorem made_dat (n : Nat) : (madeCells (Value.agg #[.int .i64 0, .int .i64 0, .string { data := #[] }]).cells (n * 3)).toList = dcs (List.replicate n d0) := by
  have e0 : (Value.agg #[.int .i64 0, .int .i64 0, .string { data := #[] }]).cells = #[.int .i64 0, .int .i64 0, .string { data := #[] }] := rfl
  rw [e0]
  apply List.ext_getElem?
  intro j
  by_cases hj : j < n * 3
  · have hi : j / 3 < n := by omega
    have hd : (List.replicate n d0)[j / 3]? = some d0 := by rw [List.getElem?_replicate, if_pos hi]
    obtain ⟨h0, h1, h2⟩ := dcs_at _ _ _ hd
    have hc : j % 3 = 0 ∨ j % 3 = 1 ∨ j % 3 = 2 := by omega
    rcases hc with hc | hc | hc
    · rw [show j / 3 * 3 = j from by omega] at h0
      rw [h0]
      simp [madeCells, hj, hc, d0]
    · rw [show j / 3 * 3 + 1 = j from by omega] at h1
      rw [h1]
      simp [madeCells, hj, hc, d0]
    · rw [show j / 3 * 3 + 2 = j from by omega] at h2
      rw [h2]
      simp [madeCells, hj, hc, d0]
  · rw [List.getElem?_eq_none (l := dcs _) (by rw [dcs_len, List.length_replicate]; omega), List.getElem?_eq_none (by simp [madeCells]; omega)]
/-- the i-th of a row of one's own is set -/
theorem dcs_set : ∀ (l : List Dat) (i : Nat) (d : Dat), i < l.length → (((dcs l).set (i * 3) (.int .i64 d.k)).set (i * 3 + 1) (.int .i64 d.n)).set (i * 3 + 2) (.string d.s) = dcs (l.set i d)
  | [], i, d, h => by simp at h
  | x :: l, 0, d, h => by simp [dcs, dcells]
  | x :: l, i + 1, d, h => by
    have ih := dcs_set l i d (by simpa using h)
    rw [List.set_cons_succ, dcs, dcs, ← ih]
    rw [show (i + 1) * 3 = i * 3 + 3 from by omega, show i * 3 + 3 + 1 = i * 3 + 1 + 3 from by omega, show i * 3 + 3 + 2 = i * 3 + 2 + 3 from by omega]
    simp [dcells]
theorem trs_next {L : List Nat} {i n : Nat} {x : Nat} (hx : L[i]? = some x) (hn : L.length = n) : ((trs (L.take i)) ++ List.replicate (n - i) d0).set i (tr x) = trs (L.take (i + 1)) ++ List.replicate (n - (i + 1)) d0 := by
  obtain ⟨h1, h2⟩ := List.getElem?_eq_some_iff.1 hx
  rw [show n - i = (n - (i + 1)) + 1 from by omega, set_mid2 _ _ _ _ i (by simp [trs]; omega), List.take_succ_eq_append_getElem h1, h2]
  simp [trs]

theorem dat_store {w : World} {B g n c i : Nat} {l : List Dat} (h : w.ownsRow B 48 3 (.slice (some ⟨g, 0, none⟩) n c) n (dcs l)) (hi : i < l.length) (d : Dat) :
    (((w.setCell ⟨g, i * 3, none⟩ (.int .i64 d.k)).setCell ⟨g, i * 3 + 1, none⟩ (.int .i64 d.n)).setCell ⟨g, i * 3 + 2, none⟩ (.string d.s)).ownsRow B 48 3 (.slice (some ⟨g, 0, none⟩) n c) n (dcs (l.set i d)) := by
  have h1 := (((h.stored (i * 3) (.int .i64 d.k)).1.stored (i * 3 + 1) (.int .i64 d.n)).1.stored (i * 3 + 2) (.string d.s)).1
  rw [dcs_set l i d hi] at h1
  exact h1
theorem dat_cell {w : World} {B g n c i : Nat} {l : List Dat} (h : w.ownsRow B 48 3 (.slice (some ⟨g, 0, none⟩) n c) n (dcs l)) (hi : i < n) (hl : l.length = n) : ∃ u0 u1 u2, w.cell? ⟨g, i * 3, none⟩ = some u0 ∧ w.cell? ⟨g, i * 3 + 1, none⟩ = some u1 ∧ w.cell? ⟨g, i * 3 + 2, none⟩ = some u2 := by
  obtain ⟨h0, h1, h2⟩ := dcs_at l i _ (List.getElem?_eq_getElem (by omega))
  exact ⟨_, _, _, (h.cellAt _ (by omega)).trans h0, (h.cellAt _ (by omega)).trans h1, (h.cellAt _ (by omega)).trans h2⟩

set_option maxRecDepth 100000 in
set_option maxHeartbeats 4000000 in
theorem readTruths_any (w : World) (a : Option Addr) (len cap : Nat) (B : Nat) (ct er : Int) (L : List Nat) (h3 : -9223372036854775808 ≤ ct) (h4 : ct ≤ 65536)
    (hU : Calls Try.prog 56 #[.slice a len cap, .int .i64 1, .int .i64 ct] w fun e w' => ∃ v, e = .returned (.tuple #[v, .int .i64 er]) ∧ w'.ownsRow w.heap.size 65 1 v L.length (c64 L) ∧ Below w.heap.size w w')
    (hR : (er = 0 ∧ ct = (L.length : Int) ∧ ∀ x ∈ L, x < 2) ∨ (er ≠ 0 ∧ L = [])) :
    Calls Try.prog 42 #[.slice a len cap, .int .i64 ct] w fun e w' => ∃ v, e = .returned (.tuple #[v, .int .i64 er]) ∧ w'.ownsRow w.heap.size 48 3 v (trs L).length (dcs (trs L)) ∧ Below w.heap.size w w' := by
  rcases hR with ⟨rfl, rfl, hx⟩ | ⟨h0, rfl⟩
  · obtain ⟨i0, hi, hz0, hz1, hz2⟩ := info_parts infoD
    have hL : L.length ≤ 65536 := by omega
    have HX : Hid (∀ x ∈ L, x < 2) := hx
    clear hx
    go_enter Try.func42, Try.ntmps42
    go_wp2_with fail
    refine hU.mono ?_
    rintro e W1 ⟨v, rfl, hown, hb1⟩
    obtain ⟨va, vc, rfl⟩ := own_sl hown
    clear hU
    go_wp2_with (at_make; refine wpList_make_full _ rfl _ _ 25 rfl W1.heap.size 48 i0 _ 3 Try.underlying25 hi hz0 hz1 _ _ _ _ L.length rfl rfl rfl rfl (by rw [hz2]; omega) (by unfold maxLen; omega) (Nat.le_refl _) ?_; intro w1 hown1 hgrow1)
    rw [made_dat] at hown1
    have hgb : Below W1.heap.size W1 w1 := (Below.refl _ W1).grown hgrow1 (Nat.le_refl _) (fun _ e => by cases e)
    clear hgrow1
    have hsz1 := hb1.size
    have hnx : ∀ wr, Below W1.heap.size W1 wr → wr.ownsRow w.heap.size 65 1 (.slice va L.length vc) L.length (c64 L) := fun wr hb => own_below hown hb
    have HB1 : Hid (Below w.heap.size w W1) := hb1
    clear hown hb1
    go_loopw [24] (fun iv wr => ∃ i : Nat, i ≤ L.length ∧ iv = .int .i64 (i : Int) ∧ wr.ownsRow W1.heap.size 48 3 (.slice (some ⟨W1.heap.size, 0, none⟩) L.length L.length) L.length (dcs (trs (L.take i) ++ List.replicate (L.length - i) d0)) ∧ Below W1.heap.size W1 wr) (fun iv _ => L.length - (intOf iv).toNat)
    case atStart => exact ⟨0, Nat.zero_le _, rfl, by simpa [trs] using hown1, hgb⟩
    case round =>
      obtain ⟨i, hi', rfl, hown, hb⟩ := hrel
      clear hown1 hgb
      by_cases hlt : i < L.length
      · have hlt' : (i : Int) < (L.length : Int) := by omega
        obtain ⟨x, hx⟩ : ∃ x, L[i]? = some x := ⟨_, List.getElem?_eq_getElem hlt⟩
        have hx2 := HX.out x (List.mem_of_getElem? hx)
        have HXI : Hid (L[i]? = some x) := hx
        have ho := hnx wr hb
        obtain ⟨g, cp, hv⟩ : ∃ g cp, Value.slice va L.length vc = .slice (some ⟨g, 0, none⟩) L.length cp := by
          rcases ho.2 with ⟨_, h⟩ | ⟨g, cp, cur, h, _⟩
          · omega
          · exact ⟨g, cp, h⟩
        simp only [Value.slice.injEq, true_and] at hv
        obtain ⟨rfl, rfl⟩ := hv
        have cx : wr.cell? ⟨g, i, none⟩ = some (.int .u64 (x : Int)) := by
          rw [ho.cellAt i (by omega)]
          simp [c64, hx]
        have hll : (trs (L.take i) ++ List.replicate (L.length - i) d0).length = L.length := by simp [trs]; omega
        have HNX : Hid ((trs (L.take i) ++ List.replicate (L.length - i) d0).set i (tr x) = trs (L.take (i + 1)) ++ List.replicate (L.length - (i + 1)) d0) := trs_next hx rfl
        have HHB : Hid (Below W1.heap.size W1 wr) := hb
        have hbs := hb.size
        clear hx ho hb
        have hxc : x = 0 ∨ x = 1 := by omega
        rcases hxc with rfl | rfl
        · have BT := bool_f wr
          go_wp2_with fail
          refine BT.mono ?_
          rintro e W2 ⟨rfl, hb2⟩
          have hown2 := own_below hown hb2
          obtain ⟨u0, u1, u2, c0, c1, c2⟩ := dat_cell hown2 hlt hll
          have f0 := hown2.frozenAt (i * 3)
          have f1 := hown2.frozenAt (i * 3 + 1)
          have f2 := hown2.frozenAt (i * 3 + 2)
          have HST : Hid ((((W2.setCell ⟨W1.heap.size, i * 3, none⟩ (.int .i64 0)).setCell ⟨W1.heap.size, i * 3 + 1, none⟩ (.int .i64 0)).setCell ⟨W1.heap.size, i * 3 + 2, none⟩ (.string { data := #[] })).ownsRow W1.heap.size 48 3 (.slice (some ⟨W1.heap.size, 0, none⟩) L.length L.length) L.length (dcs (trs (L.take (i + 1)) ++ List.replicate (L.length - (i + 1)) d0))) := by
            have h := dat_store hown2 (i := i) (by omega) (tr 0)
            rw [HNX.out] at h
            exact h
          have HB2 : Hid (Below W1.heap.size W1 (((W2.setCell ⟨W1.heap.size, i * 3, none⟩ (.int .i64 0)).setCell ⟨W1.heap.size, i * 3 + 1, none⟩ (.int .i64 0)).setCell ⟨W1.heap.size, i * 3 + 2, none⟩ (.string { data := #[] }))) :=
            (((HHB.out.trans (hb2.mono hbs)).setCell (p := ⟨W1.heap.size, i * 3, none⟩) (Nat.le_refl _) _).setCell (p := ⟨W1.heap.size, i * 3 + 1, none⟩) (Nat.le_refl _) _).setCell (p := ⟨W1.heap.size, i * 3 + 2, none⟩) (Nat.le_refl _) _
          clear hown hown2 hb2 BT
          go_wp2_with fail
          go_roundw
          case rel => exact ⟨i + 1, by omega, by go_num, HST.out, HB2.out⟩
          case measure => simp [intOf]; omega
        · have BT := bool_t wr
          go_wp2_with fail
          refine BT.mono ?_
          rintro e W2 ⟨rfl, hb2⟩
          have hown2 := own_below hown hb2
          obtain ⟨u0, u1, u2, c0, c1, c2⟩ := dat_cell hown2 hlt hll
          have f0 := hown2.frozenAt (i * 3)
          have f1 := hown2.frozenAt (i * 3 + 1)
          have f2 := hown2.frozenAt (i * 3 + 2)
          have HST : Hid ((((W2.setCell ⟨W1.heap.size, i * 3, none⟩ (.int .i64 0)).setCell ⟨W1.heap.size, i * 3 + 1, none⟩ (.int .i64 1)).setCell ⟨W1.heap.size, i * 3 + 2, none⟩ (.string { data := #[] })).ownsRow W1.heap.size 48 3 (.slice (some ⟨W1.heap.size, 0, none⟩) L.length L.length) L.length (dcs (trs (L.take (i + 1)) ++ List.replicate (L.length - (i + 1)) d0))) := by
            have h := dat_store hown2 (i := i) (by omega) (tr 1)
            rw [HNX.out] at h
            exact h
          have HB2 : Hid (Below W1.heap.size W1 (((W2.setCell ⟨W1.heap.size, i * 3, none⟩ (.int .i64 0)).setCell ⟨W1.heap.size, i * 3 + 1, none⟩ (.int .i64 1)).setCell ⟨W1.heap.size, i * 3 + 2, none⟩ (.string { data := #[] }))) :=
            (((HHB.out.trans (hb2.mono hbs)).setCell (p := ⟨W1.heap.size, i * 3, none⟩) (Nat.le_refl _) _).setCell (p := ⟨W1.heap.size, i * 3 + 1, none⟩) (Nat.le_refl _) _).setCell (p := ⟨W1.heap.size, i * 3 + 2, none⟩) (Nat.le_refl _) _
          clear hown hown2 hb2 BT
          go_wp2_with fail
          go_roundw
          case rel => exact ⟨i + 1, by omega, by go_num, HST.out, HB2.out⟩
          case measure => simp [intOf]; omega
      · have hlt' : (L.length : Int) ≤ (i : Int) := by omega
        have HO : Hid (wr.ownsRow W1.heap.size 48 3 (.slice (some ⟨W1.heap.size, 0, none⟩) L.length L.length) (trs L).length (dcs (trs L))) := by
          have hil : i = L.length := by omega
          rw [hil, Nat.sub_self, List.take_of_length_le (Nat.le_refl _)] at hown
          simp only [List.replicate_zero, List.append_nil] at hown
          show World.ownsRow _ _ _ _ _ _ _
          rw [show (trs L).length = L.length from by simp [trs]]
          exact hown
        clear hown
        go_wp2_with fail
        go_ret2
        exact ⟨_, rfl, own_mono HO.out hsz1, HB1.out.trans (hb.mono hsz1)⟩
  · have h1 : (er == 0) = false := by simpa using h0
    go_enter Try.func42, Try.ntmps42
    go_wp2_with fail
    refine hU.mono ?_
    rintro e W1 ⟨v, rfl, hown, hb1⟩
    obtain ⟨va, vc, rfl⟩ := own_sl hown
    clear hU
    go_wp2_with fail
    go_ret2
    exact ⟨_, rfl, World.ownsRow_nil _ _ _ _, hb1⟩
end Go.Proofs.Ytdglobonbhkheaa

/-
  Read.
-/
namespace Go.Proofs.Ytdglobonbhkheaa
set_option linter.unusedVariables false
set_option linter.unusedSimpArgs false
open Go.ChangeShapes Go.WideShapes Go.ChangeAt Go.RowKit Go.Deep
attribute [local go_sem] way_fd0 way_fd1 way_fd2 way_fd3 jump_normal jump_exit jump_panic

/-- what Read may answer: the refusal's number, or the data -/
def RdOk (k z : Int) (bs : List Nat) (count er : Int) (l : List Dat) : Prop :=
  (er = 0 ∧ chkB k z = true ∧ 0 ≤ count ∧ count ≤ 65536 ∧ ((k = 0 ∧ ∃ L, UpkOk 1 count bs.length (pk 8 bs) L ∧ l = trs L) ∨ (k ≠ 0 ∧ rds k z count.toNat bs = some (l, [])))) ∨ (er ≠ 0 ∧ l = [])
theorem rd_is {k z : Int} {bs : List Nat} {count : Nat} (hc : chkB k z = true) (h0 : k ≠ 0) (hm : count ≤ 65536) : RdOk k z bs count (rdN k z bs count) (rdL k z bs count) := by
  unfold RdOk rdN rdL
  cases h : rds k z count bs with
  | none => exact .inr ⟨by decide, rfl⟩
  | some p =>
    obtain ⟨l, r⟩ := p
    cases r with
    | nil => exact .inl ⟨rfl, hc, by omega, by omega, .inr ⟨h0, by rw [Int.toNat_natCast]; exact h⟩⟩
    | cons x y => exact .inr ⟨by show (7 : Int) ≠ 0; decide, rfl⟩
theorem byt_num {w : World} {a : Option Addr} {len cap : Nat} {bs : List Nat} (h : Byt w a len cap bs) : Src w a len cap (c8 (upk 8 len (pk 8 bs))) := by
  have h1 := h.src
  have h2 := h.len
  have e : upk 8 len (pk 8 bs) = bs := by rw [← h2]; exact upk_pk _ bs h.lt
  rw [e]
  exact h1
theorem upk_small {L : List Nat} {ct : Int} {len B : Nat} (h : UpkOk 1 ct len B L) : ct = (L.length : Int) ∧ ∀ x ∈ L, x < 2 := by
  obtain ⟨W, c, hW, rfl, _, _, _, rfl⟩ := h
  have : W = 1 := by omega
  subst this
  refine ⟨by rw [upk_len], fun x hx => ?_⟩
  have := upk_fit 1 c B x hx
  omega

set_option maxRecDepth 100000 in
set_option maxHeartbeats 4000000 in
theorem pread_no2 (k z : Int) (w : World) (a : Option Addr) (len cap : Nat) (count : Int) (hno : chkB k z = false ∨ count < 0) :
    Calls Try.prog 12 #[.slice a len cap, .agg #[.int .i64 k, .int .i64 z], .int .i64 count] w fun e w' => ∃ v, e = .returned (.tuple #[v, .int .i64 2]) ∧ w'.ownsRow w.heap.size 48 3 v 0 (dcs []) ∧ Below w.heap.size w w' := by
  have ab := alloc_below w (.cells #[.int .i64 k, .int .i64 z] 24 (0, 0))
  have hx := heap_new w (.cells #[.int .i64 k, .int .i64 z] 24 (0, 0))
  have CK := fun W => check_any k z W
  unfold chkN at CK
  cases hc : chkB k z
  · rw [hc] at CK
    clear hc hno
    go_enter Try.func12, Try.ntmps12
    go_wp2_with fail
    refine wp_scope_forward 0 rfl ?_
    go_wp2_with fail
    refine (CK _).mono ?_
    rintro e W1 ⟨rfl, hb1⟩
    go_wp2_with fail
    go_step3
    refine And.intro rfl ?_
    show Code.wp _ _ _ _ _
    go_wp2_with fail
    refine jret ?_
    go_ret2
    exact ⟨_, rfl, World.ownsRow_nil _ _ _ _, ab.trans (hb1.mono ab.size)⟩
  · rw [hc] at CK
    have hct : count < 0 := by rcases hno with h | h; rw [hc] at h; cases h; exact h
    clear hc hno
    go_enter Try.func12, Try.ntmps12
    go_wp2_with fail
    refine wp_scope_forward 0 rfl ?_
    go_wp2_with fail
    refine (CK _).mono ?_
    rintro e W1 ⟨rfl, hb1⟩
    go_wp2_with fail
    go_step3
    refine And.intro rfl ?_
    show Code.wp _ _ _ _ _
    go_wp2_with fail
    refine jret ?_
    go_ret2
    exact ⟨_, rfl, World.ownsRow_nil _ _ _ _, ab.trans (hb1.mono ab.size)⟩
set_option maxRecDepth 100000 in
set_option maxHeartbeats 4000000 in
theorem pread_no3 (k z : Int) (w : World) (a : Option Addr) (len cap : Nat) (count : Int) (hlen : len ≤ 1048576) (hc : chkB k z = true) (hct : 65536 < count) :
    Calls Try.prog 12 #[.slice a len cap, .agg #[.int .i64 k, .int .i64 z], .int .i64 count] w fun e w' => ∃ v, e = .returned (.tuple #[v, .int .i64 3]) ∧ w'.ownsRow w.heap.size 48 3 v 0 (dcs []) ∧ Below w.heap.size w w' := by
  have ab := alloc_below w (.cells #[.int .i64 k, .int .i64 z] 24 (0, 0))
  have CK := fun W => check_any k z W
  unfold chkN at CK
  rw [hc] at CK
  have hct0 : 0 ≤ count := by omega
  have hl' : (len : Int) ≤ 1048576 := by omega
  clear hc
  go_enter Try.func12, Try.ntmps12
  go_wp2_with fail
  refine wp_scope_forward 0 rfl ?_
  go_wp2_with fail
  refine (CK _).mono ?_
  rintro e W1 ⟨rfl, hb1⟩
  go_wp2_with fail
  go_step3
  refine And.intro rfl ?_
  show Code.wp _ _ _ _ _
  go_wp2_with fail
  refine jret ?_
  go_ret2
  exact ⟨_, rfl, World.ownsRow_nil _ _ _ _, ab.trans (hb1.mono ab.size)⟩
set_option maxRecDepth 100000 in
set_option maxHeartbeats 4000000 in
theorem pread_go (k z : Int) (w : World) (a : Option Addr) (len cap count : Nat) (hlen : len ≤ 1048576) (hc : chkB k z = true) (hct : count ≤ 65536) (er : Int) (l : List Dat)
    (h0 : k = 0 → ∀ W, Below w.heap.size w W → Calls Try.prog 42 #[.slice a len cap, .int .i64 count] W fun e w' => ∃ v, e = .returned (.tuple #[v, .int .i64 er]) ∧ w'.ownsRow W.heap.size 48 3 v l.length (dcs l) ∧ Below W.heap.size W w')
    (h1 : k ≠ 0 → ∀ W, Below w.heap.size w W → ∀ p, Part W p k z → Calls Try.prog 62 #[p, .slice a len cap, .int .i64 count] W fun e w' => ∃ v, e = .returned (.tuple #[v, .int .i64 er]) ∧ w'.ownsRow W.heap.size 48 3 v l.length (dcs l) ∧ Below W.heap.size W w') :
    Calls Try.prog 12 #[.slice a len cap, .agg #[.int .i64 k, .int .i64 z], .int .i64 count] w fun e w' => ∃ v, e = .returned (.tuple #[v, .int .i64 er]) ∧ w'.ownsRow w.heap.size 48 3 v l.length (dcs l) ∧ Below w.heap.size w w' := by
  have ab := alloc_below w (.cells #[.int .i64 k, .int .i64 z] 24 (0, 0))
  have hx := heap_new w (.cells #[.int .i64 k, .int .i64 z] 24 (0, 0))
  have CK := fun W => check_any k z W
  have WO := fun W => wayOf_any k z hc W
  unfold chkN at CK
  rw [hc] at CK
  have hct0 : (count : Int) ≤ 65536 := by omega
  have hl' : (len : Int) ≤ 1048576 := by omega
  clear hc hct hlen
  go_enter Try.func12, Try.ntmps12
  go_wp2_with fail
  refine wp_scope_forward 0 rfl ?_
  go_wp2_with fail
  refine (CK _).mono ?_
  rintro e W1 ⟨rfl, hb1⟩
  have b1 := ab.trans (hb1.mono ab.size)
  obtain ⟨⟨c0, c1⟩, _⟩ := blk2 (below_at hb1 hx)
  clear hb1 hx ab CK
  go_wp2_with fail
  refine (WO _).mono ?_
  rintro e W3 ⟨v, rfl, hway, hb3⟩
  have b3 := b1.trans (hb3.mono b1.size)
  have hsz := b3.size
  clear c0 c1 hb3 WO b1
  rcases hway with ⟨hk, rfl⟩ | ⟨hk, p, hp, rfl⟩
  · have LT := h0 hk W3 b3
    clear h0 h1 hk
    unfold truthV
    go_wp2_with fail
    refine LT.mono ?_
    rintro e W4 ⟨u, rfl, hown, hb4⟩
    clear LT
    go_wp2_with fail
    refine jret ?_
    go_ret2
    exact ⟨_, rfl, own_mono hown hsz, b3.trans (hb4.mono hsz)⟩
  · have LT := h1 hk W3 b3 p hp
    clear h0 h1 hk hp
    unfold rowV
    go_wp2_with fail
    refine LT.mono ?_
    rintro e W4 ⟨u, rfl, hown, hb4⟩
    clear LT
    go_wp2_with fail
    refine jret ?_
    go_ret2
    exact ⟨_, rfl, own_mono hown hsz, b3.trans (hb4.mono hsz)⟩
end Go.Proofs.Ytdglobonbhkheaa

/-
  The reference's Front.
-/
namespace Go.Proofs.Ytdglobonbhkheaa
set_option linter.unusedVariables false
set_option linter.unusedSimpArgs false
open Go.ChangeShapes Go.WideShapes Go.ChangeAt Go.RowKit Go.Deep

/-- what the reference tells of the front -/
def RF (k z : Int) (bs : List Nat) (a : Option Addr) (len cap : Nat) (w : World) : Prop :=
  Calls Try.prog 16 #[.slice a len cap, .agg #[.int .i64 k, .int .i64 z]] w fun e w' => ∃ (d : Dat) (n : Nat), e = .returned (.tuple #[dval d, .int .i64 n]) ∧ ((front k z bs = none ∧ n = 0) ∨ (front k z bs = some d ∧ n = dsz k z d)) ∧ Below w.heap.size w w'
set_option maxRecDepth 100000 in
set_option maxHeartbeats 2000000 in
theorem rfront_1 (z : Int) {w : World} {a : Option Addr} {len cap : Nat} {bs : List Nat} (h : Byt w a len cap bs) : RF 1 z bs a len cap w := by
  have ab := alloc_below w (.cells #[.int .i64 1, .int .i64 z] 24 (0, 0))
  have hx := heap_new w (.cells #[.int .i64 1, .int .i64 z] 24 (0, 0))
  have hl := h.len
  have hmost := h.most
  have RD := fun W (hb : Below w.heap.size w W) => rreadl_nat (h.later hb) 0 4 (Nat.zero_le _) (by omega)
  have hlt := pk8_lt (l := bs.take 4) (fun x hx => h.lt x (List.mem_of_mem_take hx))
  obtain ⟨⟨t0, t1⟩, _⟩ := blk2 hx
  by_cases hin : 4 ≤ bs.length
  · have HFE : Hid (front 1 z bs = some (mkN 1 (pk 8 (bs.take 4)))) := by show front _ _ _ = _; unfold front; simp [hin]
    rw [List.length_take_of_le hin] at hlt
    have hin' : (4 : Int) ≤ (len : Int) := by omega
    simp only [List.drop_zero] at RD
    obtain ⟨x, HX⟩ : ∃ x, Hid (pk 8 (bs.take 4) = x) := ⟨_, rfl⟩
    rw [HX.out] at RD HFE hlt
    have hlt' : x < 4294967296 := Nat.lt_of_lt_of_le hlt (by decide)
    obtain ⟨v, hv⟩ : ∃ v, IntKind.i64.wrap (x : Int) = v := ⟨_, rfl⟩
    have HI : Hid (4 ≤ bs.length) := hin
    have HV : Hid (wrap64 (x : Int) = v) := by show _ = _; rw [← hv]; rw [Go.IntKind.wrap_i64, wrap64]
    have hxt := below_at (alloc_below (w.alloc (.cells #[.int .i64 1, .int .i64 z] 24 (0, 0))) (.cells #[.int .i64 0, .int .i64 0, .string { data := #[] }] 48 (0, 0))) hx
    clear hin hl h hx hlt hmost
    have b2 := ab.trans ((alloc_below (w.alloc (.cells #[.int .i64 1, .int .i64 z] 24 (0, 0))) (.cells #[.int .i64 0, .int .i64 0, .string { data := #[] }] 48 (0, 0))).mono (by simp))
    have hx2 := heap2_new w (.cells #[.int .i64 1, .int .i64 z] 24 (0, 0)) (.cells #[.int .i64 0, .int .i64 0, .string { data := #[] }] 48 (0, 0))
    go_enter Try.func16, Try.ntmps16
    go_wp2_with fail
    refine (RD _ b2).mono ?_
    rintro e W2 ⟨x', er, rfl, hcase, hW2⟩
    rcases hcase with ⟨_, hxx, _⟩ | ⟨h, _⟩
    rotate_left
    · exact absurd HI.out h
    have hxy := hxx.symm
    subst hxy
    obtain rfl := hW2.symm
    generalize ((w.alloc (.cells #[.int .i64 1, .int .i64 z] 24 (0, 0))).alloc (.cells #[.int .i64 0, .int .i64 0, .string { data := #[] }] 48 (0, 0))) = W2 at *
    obtain ⟨_, f0, f1, f2⟩ := blk3 hx2
    obtain ⟨⟨t0', t1'⟩, _⟩ := blk2 hxt
    clear RD
    have hvx : v = (x : Int) := by rw [← hv, IntKind.wrap_i64]; omega
    clear hv HV
    subst hvx
    have hv : IntKind.i64.wrap (x : Int) = (x : Int) := by rw [IntKind.wrap_i64]; omega
    by_cases hbig : 2147483647 < (x : Int)
    · have HM : Hid (mkN 1 x = ⟨1, (x : Int) - 4294967296, { data := #[] }⟩) := by show _ = _; simp [mkN, hbig]
      have hw2 : IntKind.i64.wrap ((x : Int) - 4294967296) = (x : Int) - 4294967296 := by rw [IntKind.wrap_i64]; omega
      obtain ⟨X, HX, c0, c1, c2, hbX⟩ := box_dat hx2 ⟨1, (x : Int) - 4294967296, { data := #[] }⟩
      have hs2 : w.heap.size ≤ w.heap.size + 1 := Nat.le_succ _
      clear hx2
      go_wp2_with fail
      try rw [HX]
      exact bodyPost_ret (v := .tuple #[.agg #[.int .i64 1, .int .i64 ((x : Int) - 4294967296), .string { data := #[] }], .int .i64 4]) (by simp [results, Try.results16, go_sem, Try.underlying48, c0, c1, c2]) rfl ⟨⟨1, (x : Int) - 4294967296, { data := #[] }⟩, 4, rfl, .inr ⟨by rw [HFE.out, HM.out], by simp [dsz]⟩, b2.trans (hbX.mono hs2)⟩
    · have HM : Hid (mkN 1 x = ⟨1, (x : Int), { data := #[] }⟩) := by show _ = _; simp [mkN, hbig]
      have hbig' : (x : Int) ≤ 2147483647 := by omega
      obtain ⟨X, HX, c0, c1, c2, hbX⟩ := box_dat hx2 ⟨1, (x : Int), { data := #[] }⟩
      have hs2 : w.heap.size ≤ w.heap.size + 1 := Nat.le_succ _
      clear hx2
      go_wp2_with fail
      try rw [HX]
      exact bodyPost_ret (v := .tuple #[.agg #[.int .i64 1, .int .i64 (x : Int), .string { data := #[] }], .int .i64 4]) (by simp [results, Try.results16, go_sem, Try.underlying48, c0, c1, c2]) rfl ⟨⟨1, (x : Int), { data := #[] }⟩, 4, rfl, .inr ⟨by rw [HFE.out, HM.out], by simp [dsz]⟩, b2.trans (hbX.mono hs2)⟩
  · have HFE : Hid (front 1 z bs = none) := by show front _ _ _ = _; unfold front; simp [hin]
    have hin' : (len : Int) < 4 := by omega
    clear hin hl h hx hlt RD hmost
    go_enter Try.func16, Try.ntmps16
    go_wp2_with fail
    exact bodyPost_ret (v := .tuple #[.agg #[.int .i64 0, .int .i64 0, .string { data := #[] }], .int .i64 0]) (by simp [results, Try.results16, go_sem, Try.underlying48]) rfl ⟨⟨0, 0, { data := #[] }⟩, 0, rfl, .inl ⟨HFE.out, rfl⟩, ab.trans ((alloc_below _ _).mono (by simp))⟩
set_option maxRecDepth 100000 in
set_option maxHeartbeats 2000000 in
theorem rfront_4 (z : Int) {w : World} {a : Option Addr} {len cap : Nat} {bs : List Nat} (h : Byt w a len cap bs) : RF 4 z bs a len cap w := by
  have ab := alloc_below w (.cells #[.int .i64 4, .int .i64 z] 24 (0, 0))
  have hx := heap_new w (.cells #[.int .i64 4, .int .i64 z] 24 (0, 0))
  have hl := h.len
  have hmost := h.most
  have RD := fun W (hb : Below w.heap.size w W) => rreadl_nat (h.later hb) 0 4 (Nat.zero_le _) (by omega)
  have hlt := pk8_lt (l := bs.take 4) (fun x hx => h.lt x (List.mem_of_mem_take hx))
  obtain ⟨⟨t0, t1⟩, _⟩ := blk2 hx
  by_cases hin : 4 ≤ bs.length
  · have HFE : Hid (front 4 z bs = some (mkN 4 (pk 8 (bs.take 4)))) := by show front _ _ _ = _; unfold front; simp [hin]
    rw [List.length_take_of_le hin] at hlt
    have hin' : (4 : Int) ≤ (len : Int) := by omega
    simp only [List.drop_zero] at RD
    obtain ⟨x, HX⟩ : ∃ x, Hid (pk 8 (bs.take 4) = x) := ⟨_, rfl⟩
    rw [HX.out] at RD HFE hlt
    have hlt' : x < 4294967296 := Nat.lt_of_lt_of_le hlt (by decide)
    obtain ⟨v, hv⟩ : ∃ v, IntKind.i64.wrap (x : Int) = v := ⟨_, rfl⟩
    have HI : Hid (4 ≤ bs.length) := hin
    have HV : Hid (wrap64 (x : Int) = v) := by show _ = _; rw [← hv]; rw [Go.IntKind.wrap_i64, wrap64]
    have hxt := below_at (alloc_below (w.alloc (.cells #[.int .i64 4, .int .i64 z] 24 (0, 0))) (.cells #[.int .i64 0, .int .i64 0, .string { data := #[] }] 48 (0, 0))) hx
    clear hin hl h hx hlt hmost
    have b2 := ab.trans ((alloc_below (w.alloc (.cells #[.int .i64 4, .int .i64 z] 24 (0, 0))) (.cells #[.int .i64 0, .int .i64 0, .string { data := #[] }] 48 (0, 0))).mono (by simp))
    have hx2 := heap2_new w (.cells #[.int .i64 4, .int .i64 z] 24 (0, 0)) (.cells #[.int .i64 0, .int .i64 0, .string { data := #[] }] 48 (0, 0))
    go_enter Try.func16, Try.ntmps16
    go_wp2_with fail
    refine (RD _ b2).mono ?_
    rintro e W2 ⟨x', er, rfl, hcase, hW2⟩
    rcases hcase with ⟨_, hxx, _⟩ | ⟨h, _⟩
    rotate_left
    · exact absurd HI.out h
    have hxy := hxx.symm
    subst hxy
    obtain rfl := hW2.symm
    generalize ((w.alloc (.cells #[.int .i64 4, .int .i64 z] 24 (0, 0))).alloc (.cells #[.int .i64 0, .int .i64 0, .string { data := #[] }] 48 (0, 0))) = W2 at *
    obtain ⟨_, f0, f1, f2⟩ := blk3 hx2
    obtain ⟨⟨t0', t1'⟩, _⟩ := blk2 hxt
    have HM : Hid (mkN 4 x = ⟨4, v, { data := #[] }⟩) := by
      have e := mkN_o 4 x (by decide)
      rw [HV.out] at e
      show _ = _
      rw [← e]
      rfl
    obtain ⟨X, HX, c0, c1, c2, hbX⟩ := box_dat hx2 ⟨4, v, { data := #[] }⟩
    have hs2 : w.heap.size ≤ w.heap.size + 1 := Nat.le_succ _
    clear RD hx2
    go_wp2_with fail
    try rw [HX]
    exact bodyPost_ret (v := .tuple #[.agg #[.int .i64 4, .int .i64 v, .string { data := #[] }], .int .i64 4]) (by simp [results, Try.results16, go_sem, Try.underlying48, c0, c1, c2]) rfl ⟨⟨4, v, { data := #[] }⟩, 4, rfl, .inr ⟨by rw [HFE.out, HM.out], by simp [dsz]⟩, b2.trans (hbX.mono hs2)⟩
  · have HFE : Hid (front 4 z bs = none) := by show front _ _ _ = _; unfold front; simp [hin]
    have hin' : (len : Int) < 4 := by omega
    clear hin hl h hx hlt RD hmost
    go_enter Try.func16, Try.ntmps16
    go_wp2_with fail
    exact bodyPost_ret (v := .tuple #[.agg #[.int .i64 0, .int .i64 0, .string { data := #[] }], .int .i64 0]) (by simp [results, Try.results16, go_sem, Try.underlying48]) rfl ⟨⟨0, 0, { data := #[] }⟩, 0, rfl, .inl ⟨HFE.out, rfl⟩, ab.trans ((alloc_below _ _).mono (by simp))⟩
set_option maxRecDepth 100000 in
set_option maxHeartbeats 2000000 in
theorem rfront_2 (z : Int) {w : World} {a : Option Addr} {len cap : Nat} {bs : List Nat} (h : Byt w a len cap bs) : RF 2 z bs a len cap w := by
  have ab := alloc_below w (.cells #[.int .i64 2, .int .i64 z] 24 (0, 0))
  have hx := heap_new w (.cells #[.int .i64 2, .int .i64 z] 24 (0, 0))
  have hl := h.len
  have hmost := h.most
  have RD := fun W (hb : Below w.heap.size w W) => rreadl_nat (h.later hb) 0 8 (Nat.zero_le _) (by omega)
  have hlt := pk8_lt (l := bs.take 8) (fun x hx => h.lt x (List.mem_of_mem_take hx))
  obtain ⟨⟨t0, t1⟩, _⟩ := blk2 hx
  by_cases hin : 8 ≤ bs.length
  · have HFE : Hid (front 2 z bs = some (mkN 2 (pk 8 (bs.take 8)))) := by show front _ _ _ = _; unfold front; simp [hin]
    rw [List.length_take_of_le hin] at hlt
    have hin' : (8 : Int) ≤ (len : Int) := by omega
    simp only [List.drop_zero] at RD
    obtain ⟨x, HX⟩ : ∃ x, Hid (pk 8 (bs.take 8) = x) := ⟨_, rfl⟩
    rw [HX.out] at RD HFE hlt
    have hlt' : x < 18446744073709551616 := Nat.lt_of_lt_of_le hlt (by decide)
    obtain ⟨v, hv⟩ : ∃ v, IntKind.i64.wrap (x : Int) = v := ⟨_, rfl⟩
    have HI : Hid (8 ≤ bs.length) := hin
    have HV : Hid (wrap64 (x : Int) = v) := by show _ = _; rw [← hv]; rw [Go.IntKind.wrap_i64, wrap64]
    have hxt := below_at (alloc_below (w.alloc (.cells #[.int .i64 2, .int .i64 z] 24 (0, 0))) (.cells #[.int .i64 0, .int .i64 0, .string { data := #[] }] 48 (0, 0))) hx
    clear hin hl h hx hlt hmost
    have b2 := ab.trans ((alloc_below (w.alloc (.cells #[.int .i64 2, .int .i64 z] 24 (0, 0))) (.cells #[.int .i64 0, .int .i64 0, .string { data := #[] }] 48 (0, 0))).mono (by simp))
    have hx2 := heap2_new w (.cells #[.int .i64 2, .int .i64 z] 24 (0, 0)) (.cells #[.int .i64 0, .int .i64 0, .string { data := #[] }] 48 (0, 0))
    go_enter Try.func16, Try.ntmps16
    go_wp2_with fail
    refine (RD _ b2).mono ?_
    rintro e W2 ⟨x', er, rfl, hcase, hW2⟩
    rcases hcase with ⟨_, hxx, _⟩ | ⟨h, _⟩
    rotate_left
    · exact absurd HI.out h
    have hxy := hxx.symm
    subst hxy
    obtain rfl := hW2.symm
    generalize ((w.alloc (.cells #[.int .i64 2, .int .i64 z] 24 (0, 0))).alloc (.cells #[.int .i64 0, .int .i64 0, .string { data := #[] }] 48 (0, 0))) = W2 at *
    obtain ⟨_, f0, f1, f2⟩ := blk3 hx2
    obtain ⟨⟨t0', t1'⟩, _⟩ := blk2 hxt
    have HM : Hid (mkN 2 x = ⟨2, v, { data := #[] }⟩) := by
      have e := mkN_o 2 x (by decide)
      rw [HV.out] at e
      show _ = _
      rw [← e]
      rfl
    obtain ⟨X, HX, c0, c1, c2, hbX⟩ := box_dat hx2 ⟨2, v, { data := #[] }⟩
    have hs2 : w.heap.size ≤ w.heap.size + 1 := Nat.le_succ _
    clear RD hx2
    go_wp2_with fail
    try rw [HX]
    exact bodyPost_ret (v := .tuple #[.agg #[.int .i64 2, .int .i64 v, .string { data := #[] }], .int .i64 8]) (by simp [results, Try.results16, go_sem, Try.underlying48, c0, c1, c2]) rfl ⟨⟨2, v, { data := #[] }⟩, 8, rfl, .inr ⟨by rw [HFE.out, HM.out], by simp [dsz]⟩, b2.trans (hbX.mono hs2)⟩
  · have HFE : Hid (front 2 z bs = none) := by show front _ _ _ = _; unfold front; simp [hin]
    have hin' : (len : Int) < 8 := by omega
    clear hin hl h hx hlt RD hmost
    go_enter Try.func16, Try.ntmps16
    go_wp2_with fail
    exact bodyPost_ret (v := .tuple #[.agg #[.int .i64 0, .int .i64 0, .string { data := #[] }], .int .i64 0]) (by simp [results, Try.results16, go_sem, Try.underlying48]) rfl ⟨⟨0, 0, { data := #[] }⟩, 0, rfl, .inl ⟨HFE.out, rfl⟩, ab.trans ((alloc_below _ _).mono (by simp))⟩
set_option maxRecDepth 100000 in
set_option maxHeartbeats 2000000 in
theorem rfront_5 (z : Int) {w : World} {a : Option Addr} {len cap : Nat} {bs : List Nat} (h : Byt w a len cap bs) : RF 5 z bs a len cap w := by
  have ab := alloc_below w (.cells #[.int .i64 5, .int .i64 z] 24 (0, 0))
  have hx := heap_new w (.cells #[.int .i64 5, .int .i64 z] 24 (0, 0))
  have hl := h.len
  have hmost := h.most
  have RD := fun W (hb : Below w.heap.size w W) => rreadl_nat (h.later hb) 0 8 (Nat.zero_le _) (by omega)
  have hlt := pk8_lt (l := bs.take 8) (fun x hx => h.lt x (List.mem_of_mem_take hx))
  obtain ⟨⟨t0, t1⟩, _⟩ := blk2 hx
  by_cases hin : 8 ≤ bs.length
  · have HFE : Hid (front 5 z bs = some (mkN 5 (pk 8 (bs.take 8)))) := by show front _ _ _ = _; unfold front; simp [hin]
    rw [List.length_take_of_le hin] at hlt
    have hin' : (8 : Int) ≤ (len : Int) := by omega
    simp only [List.drop_zero] at RD
    obtain ⟨x, HX⟩ : ∃ x, Hid (pk 8 (bs.take 8) = x) := ⟨_, rfl⟩
    rw [HX.out] at RD HFE hlt
    have hlt' : x < 18446744073709551616 := Nat.lt_of_lt_of_le hlt (by decide)
    obtain ⟨v, hv⟩ : ∃ v, IntKind.i64.wrap (x : Int) = v := ⟨_, rfl⟩
    have HI : Hid (8 ≤ bs.length) := hin
    have HV : Hid (wrap64 (x : Int) = v) := by show _ = _; rw [← hv]; rw [Go.IntKind.wrap_i64, wrap64]
    have hxt := below_at (alloc_below (w.alloc (.cells #[.int .i64 5, .int .i64 z] 24 (0, 0))) (.cells #[.int .i64 0, .int .i64 0, .string { data := #[] }] 48 (0, 0))) hx
    clear hin hl h hx hlt hmost
    have b2 := ab.trans ((alloc_below (w.alloc (.cells #[.int .i64 5, .int .i64 z] 24 (0, 0))) (.cells #[.int .i64 0, .int .i64 0, .string { data := #[] }] 48 (0, 0))).mono (by simp))
    have hx2 := heap2_new w (.cells #[.int .i64 5, .int .i64 z] 24 (0, 0)) (.cells #[.int .i64 0, .int .i64 0, .string { data := #[] }] 48 (0, 0))
    go_enter Try.func16, Try.ntmps16
    go_wp2_with fail
    refine (RD _ b2).mono ?_
    rintro e W2 ⟨x', er, rfl, hcase, hW2⟩
    rcases hcase with ⟨_, hxx, _⟩ | ⟨h, _⟩
    rotate_left
    · exact absurd HI.out h
    have hxy := hxx.symm
    subst hxy
    obtain rfl := hW2.symm
    generalize ((w.alloc (.cells #[.int .i64 5, .int .i64 z] 24 (0, 0))).alloc (.cells #[.int .i64 0, .int .i64 0, .string { data := #[] }] 48 (0, 0))) = W2 at *
    obtain ⟨_, f0, f1, f2⟩ := blk3 hx2
    obtain ⟨⟨t0', t1'⟩, _⟩ := blk2 hxt
    have HM : Hid (mkN 5 x = ⟨5, v, { data := #[] }⟩) := by
      have e := mkN_o 5 x (by decide)
      rw [HV.out] at e
      show _ = _
      rw [← e]
      rfl
    obtain ⟨X, HX, c0, c1, c2, hbX⟩ := box_dat hx2 ⟨5, v, { data := #[] }⟩
    have hs2 : w.heap.size ≤ w.heap.size + 1 := Nat.le_succ _
    clear RD hx2
    go_wp2_with fail
    try rw [HX]
    exact bodyPost_ret (v := .tuple #[.agg #[.int .i64 5, .int .i64 v, .string { data := #[] }], .int .i64 8]) (by simp [results, Try.results16, go_sem, Try.underlying48, c0, c1, c2]) rfl ⟨⟨5, v, { data := #[] }⟩, 8, rfl, .inr ⟨by rw [HFE.out, HM.out], by simp [dsz]⟩, b2.trans (hbX.mono hs2)⟩
  · have HFE : Hid (front 5 z bs = none) := by show front _ _ _ = _; unfold front; simp [hin]
    have hin' : (len : Int) < 8 := by omega
    clear hin hl h hx hlt RD hmost
    go_enter Try.func16, Try.ntmps16
    go_wp2_with fail
    exact bodyPost_ret (v := .tuple #[.agg #[.int .i64 0, .int .i64 0, .string { data := #[] }], .int .i64 0]) (by simp [results, Try.results16, go_sem, Try.underlying48]) rfl ⟨⟨0, 0, { data := #[] }⟩, 0, rfl, .inl ⟨HFE.out, rfl⟩, ab.trans ((alloc_below _ _).mono (by simp))⟩

set_option maxRecDepth 100000 in
set_option maxHeartbeats 2000000 in
theorem rfront_7 (z : Nat) (hz : z ≤ 1048576) (hz1 : 1 ≤ z) {w : World} {a : Option Addr} {len cap : Nat} {bs : List Nat} (h : Byt w a len cap bs) : RF 7 z bs a len cap w := by
  have ab := alloc_below w (.cells #[.int .i64 7, .int .i64 z] 24 (0, 0))
  have hx := heap_new w (.cells #[.int .i64 7, .int .i64 z] 24 (0, 0))
  have hl := h.len
  have hmost := h.most
  have hroom := h.room
  have hz1' : (1 : Int) ≤ (z : Int) := by omega
  have hz2' : (z : Int) ≤ 1048576 := by omega
  have hl' : (len : Int) ≤ 1048576 := by omega
  have hc' : (len : Int) ≤ (cap : Int) := by omega
  obtain ⟨⟨t0, t1⟩, _⟩ := blk2 hx
  have b2 := ab.trans ((alloc_below (w.alloc (.cells #[.int .i64 7, .int .i64 z] 24 (0, 0))) (.cells #[.int .i64 0, .int .i64 0, .string { data := #[] }] 48 (0, 0))).mono (by simp))
  have hx2 := heap2_new w (.cells #[.int .i64 7, .int .i64 z] 24 (0, 0)) (.cells #[.int .i64 0, .int .i64 0, .string { data := #[] }] 48 (0, 0))
  have hxt := below_at (alloc_below (w.alloc (.cells #[.int .i64 7, .int .i64 z] 24 (0, 0))) (.cells #[.int .i64 0, .int .i64 0, .string { data := #[] }] 48 (0, 0))) hx
  by_cases hin : z ≤ bs.length
  · have HFE : Hid (front 7 z bs = some ⟨7, 0, txt (bs.take z)⟩) := by show front _ _ _ = _; unfold front; simp [hin]
    have hin' : (z : Int) ≤ (len : Int) := by omega
    obtain ⟨g, off, e', hc0⟩ := src_at (h.later b2).src (j := 0) (by omega)
    subst e'
    have HT := src_take (h.later b2).src (n := z) (by omega)
    have hcv := str_src HT
    obtain ⟨T, HT2⟩ : ∃ T, Hid (txt (bs.take z) = T) := ⟨_, rfl⟩
    rw [HT2.out] at HFE
    have HF : Hid (∀ W, Below (w.heap.size + 1) ((w.alloc (.cells #[.int .i64 7, .int .i64 z] 24 (0, 0))).alloc (.cells #[.int .i64 0, .int .i64 0, .string { data := #[] }] 48 (0, 0))) W →
        W.cell? ⟨w.heap.size, 0, none⟩ = some (.int .i64 7) ∧ Sem.run Try.prog (convert 27 9 (.slice (some ⟨g, off, none⟩) z cap)) W = .ok (.string T) W) := fun W hb =>
      ⟨cell_of_block ((hb.block w.heap.size (Nat.lt_succ_self _)).trans hxt) (j := 0) rfl, by
        rw [str_src (src_take (h.later (b2.trans (hb.mono (Nat.le_succ _)))).src (n := z) (by omega)), ← HT2.out]
        rfl⟩
    clear hin hl h hx hmost hroom HT hc0
    obtain ⟨⟨t0', t1'⟩, _⟩ := blk2 hxt
    obtain ⟨_, f0, f1, f2⟩ := blk3 hx2
    go_enter Try.func16, Try.ntmps16
    go_wp2_with fail
    generalize hW2 : ((w.alloc (.cells #[.int .i64 7, .int .i64 z] 24 (0, 0))).alloc (.cells #[.int .i64 0, .int .i64 0, .string { data := #[] }] 48 (0, 0))) = W2 at *
    clear t0 t1 t0' t1' hcv f0 f1 f2
    have hzc : z ≤ cap := by omega
    have hzc0 : 0 ≤ z := Nat.zero_le _
    have hS0 : Below (w.heap.size + 1) W2 W2.drew := (Below.refl _ _).drew
    refine wp_region_held_drew (S := fun W => Below (w.heap.size + 1) W2 W) (by kernel_rfl) hS0 (fun hHeld => ?_)
    clear hHeld
    have hx3 := below_at (Below.refl _ W2).drew hx2
    generalize W2.drew = D at *
    refine wpAnyH_take (i := 0) (v := ?_) rfl (by kernel_rfl) (by kernel_rfl) (by kernel_rfl) (fun _ _ _ h => h) (Or.inl ⟨by rfl, ?_⟩) (by assumption) ?_
    rotate_left
    · intro w hSw
      have hSx := HF.out w hSw
      (try (obtain ⟨_, _, _, _, _, _, _, _⟩ := hSx))
      (try (obtain ⟨_, _, _, _⟩ := hSx))
      (try (obtain ⟨_, _, _⟩ := hSx))
      (try (obtain ⟨_, _⟩ := hSx))
      go_simp
      (try with_reducible rfl)
    (try simp only [Act.put, List.setIfInBounds_toArray, List.set_cons_zero, List.set_cons_succ])
    refine wpAnyH_take (i := 1) (v := ?_) rfl (by kernel_rfl) (by kernel_rfl) (by kernel_rfl) (fun _ _ _ h => h) (Or.inl ⟨by rfl, ?_⟩) (by assumption) ?_
    rotate_left
    · intro w hSw
      have hSx := HF.out w hSw
      (try (obtain ⟨_, _, _, _, _, _, _, _⟩ := hSx))
      (try (obtain ⟨_, _, _, _⟩ := hSx))
      (try (obtain ⟨_, _, _⟩ := hSx))
      (try (obtain ⟨_, _⟩ := hSx))
      go_simp
      (try with_reducible rfl)
    (try simp only [Act.put, List.setIfInBounds_toArray, List.set_cons_zero, List.set_cons_succ])
    refine wpAnyH_take (i := 2) (v := ?_) rfl (by kernel_rfl) (by kernel_rfl) (by kernel_rfl) (fun _ _ _ h => h) (Or.inl ⟨by rfl, ?_⟩) (by assumption) ?_
    rotate_left
    · intro w hSw
      have hSx := HF.out w hSw
      (try (obtain ⟨_, _, _, _, _, _, _, _⟩ := hSx))
      (try (obtain ⟨_, _, _, _⟩ := hSx))
      (try (obtain ⟨_, _, _⟩ := hSx))
      (try (obtain ⟨_, _⟩ := hSx))
      go_simp
      (try with_reducible rfl)
    (try simp only [Act.put, List.setIfInBounds_toArray, List.set_cons_zero, List.set_cons_succ])
    refine wpAnyH_take (i := 3) (v := ?_) rfl (by kernel_rfl) (by kernel_rfl) (by kernel_rfl) (fun _ _ _ h => h) (Or.inl ⟨by rfl, ?_⟩) (by assumption) ?_
    rotate_left
    · intro w hSw
      have hSx := HF.out w hSw
      (try (obtain ⟨_, _, _, _, _, _, _, _⟩ := hSx))
      (try (obtain ⟨_, _, _, _⟩ := hSx))
      (try (obtain ⟨_, _, _⟩ := hSx))
      (try (obtain ⟨_, _⟩ := hSx))
      go_simp
      (try with_reducible rfl)
    (try simp only [Act.put, List.setIfInBounds_toArray, List.set_cons_zero, List.set_cons_succ])
    refine wpAnyH_take (i := 4) (v := ?_) rfl (by kernel_rfl) (by kernel_rfl) (by kernel_rfl) (fun _ _ _ h => h) (Or.inl ⟨by rfl, ?_⟩) (by assumption) ?_
    rotate_left
    · intro w hSw
      have hSx := HF.out w hSw
      (try (obtain ⟨_, _, _, _, _, _, _, _⟩ := hSx))
      (try (obtain ⟨_, _, _, _⟩ := hSx))
      (try (obtain ⟨_, _, _⟩ := hSx))
      (try (obtain ⟨_, _⟩ := hSx))
      go_simp
      (try with_reducible rfl)
    (try simp only [Act.put, List.setIfInBounds_toArray, List.set_cons_zero, List.set_cons_succ])
    refine wpAnyH_take (i := 5) (v := ?_) rfl (by kernel_rfl) (by kernel_rfl) (by kernel_rfl) (fun _ _ _ h => h) (Or.inl ⟨by rfl, ?_⟩) (by assumption) ?_
    rotate_left
    · intro w hSw
      have hSx := HF.out w hSw
      (try (obtain ⟨_, _, _, _, _, _, _, _⟩ := hSx))
      (try (obtain ⟨_, _, _, _⟩ := hSx))
      (try (obtain ⟨_, _, _⟩ := hSx))
      (try (obtain ⟨_, _⟩ := hSx))
      go_simp
      (try with_reducible rfl)
    (try simp only [Act.put, List.setIfInBounds_toArray, List.set_cons_zero, List.set_cons_succ])
    refine wpAnyH_take (i := 6) (v := ?_) rfl (by kernel_rfl) (by kernel_rfl) (by kernel_rfl) (fun _ _ _ h => h) (Or.inl ⟨by rfl, ?_⟩) (by assumption) ?_
    rotate_left
    · intro w hSw
      have hSx := HF.out w hSw
      (try (obtain ⟨_, _, _, _, _, _, _, _⟩ := hSx))
      (try (obtain ⟨_, _, _, _⟩ := hSx))
      (try (obtain ⟨_, _, _⟩ := hSx))
      (try (obtain ⟨_, _⟩ := hSx))
      go_simp
      (try with_reducible rfl)
    (try simp only [Act.put, List.setIfInBounds_toArray, List.set_cons_zero, List.set_cons_succ])
    refine wpAnyH_take (i := 7) (v := ?_) rfl (by kernel_rfl) (by kernel_rfl) (by kernel_rfl) (fun _ _ _ h => h) (Or.inl ⟨by rfl, ?_⟩) (by assumption) ?_
    rotate_left
    · intro w hSw
      have hSx := HF.out w hSw
      (try (obtain ⟨_, _, _, _, _, _, _, _⟩ := hSx))
      (try (obtain ⟨_, _, _, _⟩ := hSx))
      (try (obtain ⟨_, _, _⟩ := hSx))
      (try (obtain ⟨_, _⟩ := hSx))
      go_simp
      (try with_reducible rfl)
    (try simp only [Act.put, List.setIfInBounds_toArray, List.set_cons_zero, List.set_cons_succ])
    obtain ⟨_, f0, f1, f2⟩ := blk3 hx3
    obtain ⟨X, HXX, c0, c1, c2, hbX⟩ := box_dat hx3 ⟨7, 0, T⟩
    have hS2 := hS0.trans hbX
    have b3 := b2.trans (hS2.mono (Nat.le_succ _))
    refine wpAnyH_ready (rs := [8]) (by kernel_rfl) (by simp) ?_
    refine AllReadyH.cons rfl (fun K hK => ?_) AllReadyH.nil
    go_simp
    try rw [HXX]
    refine hK.out _ _ hS2 (fun _ => ?_)
    clear hK K
    refine wpAnyH_ready (rs := [9]) (by kernel_rfl) (by simp) ?_
    refine AllReadyH.cons rfl (fun K hK => ?_) AllReadyH.nil
    go_simp
    refine hK.out _ _ hS2 (fun _ => ?_)
    clear hK K
    refine wpAnyH_done (by kernel_rfl) ?_ _
    go_wp2_with fail
    exact bodyPost_ret (v := .tuple #[.agg #[.int .i64 7, .int .i64 0, .string T], .int .i64 z]) (by simp [results, Try.results16, go_sem, Try.underlying48, c0, c1, c2]) rfl ⟨⟨7, 0, T⟩, z, rfl, .inr ⟨HFE.out, by simp [dsz]⟩, b3⟩
  · have HFE : Hid (front 7 z bs = none) := by show front _ _ _ = _; unfold front; simp [hin]
    have hin' : (len : Int) < (z : Int) := by omega
    clear hin hl h hx hmost hroom
    go_enter Try.func16, Try.ntmps16
    go_wp2_with fail
    exact bodyPost_ret (v := .tuple #[.agg #[.int .i64 0, .int .i64 0, .string { data := #[] }], .int .i64 0]) (by simp [results, Try.results16, go_sem, Try.underlying48]) rfl ⟨⟨0, 0, { data := #[] }⟩, 0, rfl, .inl ⟨HFE.out, rfl⟩, b2⟩

end Go.Proofs.Ytdglobonbhkheaa

/-
  The reference's Front of a text.
-/
namespace Go.Proofs.Ytdglobonbhkheaa
set_option linter.unusedVariables false
set_option linter.unusedSimpArgs false
open Go.ChangeShapes Go.WideShapes Go.ChangeAt Go.RowKit Go.Deep

theorem byt_drop {w : World} {a : Option Addr} {len cap : Nat} {bs : List Nat} (h : Byt w a len cap bs) (p : Nat) (hp : p ≤ len) : Byt w (if cap = p then a else Option.map (fun x => x.add p) a) (len - p) (cap - p) (bs.drop p) := by
  have hl := h.len
  have hr := h.room
  have hm := h.most
  refine ⟨?_, fun x hx => h.lt x (List.mem_of_mem_drop hx), by omega, by omega⟩
  by_cases hcp : cap = p
  · rw [if_pos hcp]
    have e : bs.drop p = [] := List.drop_eq_nil_of_le (by omega)
    rw [e]
    refine ⟨by simp [c8]; omega, ?_⟩
    rcases h.src.2 with ⟨h1, h2, h3⟩ | ⟨q, h1, h2⟩
    · exact .inl ⟨h1, by omega, by omega⟩
    · exact .inr ⟨q, h1, fun j u hj => by simp [c8] at hj⟩
  · rw [if_neg hcp]
    rcases h.src.2 with ⟨rfl, h2, h3⟩ | ⟨q, rfl, h2⟩
    · omega
    · by_cases h0 : len = 0
      · have e : bs.drop p = [] := List.drop_eq_nil_of_le (by omega)
        rw [e]
        exact ⟨by simp [c8]; omega, .inr ⟨_, rfl, fun j u hj => by simp [c8] at hj⟩⟩
      · obtain ⟨g, off, e, _⟩ := src_at h.src (j := 0) (by omega)
        cases e
        have e : (⟨g, off, none⟩ : Addr).add p = ⟨g, off + p, none⟩ := by unfold Addr.add; split <;> simp_all
        show Src w (some ((⟨g, off, none⟩ : Addr).add p)) _ _ _
        rw [e]
        exact src_drop h.src hp

set_option maxRecDepth 100000 in
set_option maxHeartbeats 12000000 in
theorem rfront_6 (z : Int) {w : World} {a : Option Addr} {len cap : Nat} {bs : List Nat} (h : Byt w a len cap bs) : RF 6 z bs a len cap w := by
  have ab := alloc_below w (.cells #[.int .i64 6, .int .i64 z] 24 (0, 0))
  have hx := heap_new w (.cells #[.int .i64 6, .int .i64 z] 24 (0, 0))
  have hl := h.len
  have hmost := h.most
  have hroom := h.room
  have hl' : (len : Int) ≤ 1048576 := by omega
  have hc' : (len : Int) ≤ (cap : Int) := by omega
  obtain ⟨⟨t0, t1⟩, _⟩ := blk2 hx
  have b2 := ab.trans ((alloc_below (w.alloc (.cells #[.int .i64 6, .int .i64 z] 24 (0, 0))) (.cells #[.int .i64 0, .int .i64 0, .string { data := #[] }] 48 (0, 0))).mono (by simp))
  have hx2 := heap2_new w (.cells #[.int .i64 6, .int .i64 z] 24 (0, 0)) (.cells #[.int .i64 0, .int .i64 0, .string { data := #[] }] 48 (0, 0))
  have hxt := below_at (alloc_below (w.alloc (.cells #[.int .i64 6, .int .i64 z] 24 (0, 0))) (.cells #[.int .i64 0, .int .i64 0, .string { data := #[] }] 48 (0, 0))) hx
  have RD := rreadl_nat (h.later b2) 0 4 (Nat.zero_le _) (by omega)
  simp only [List.drop_zero] at RD
  have hlt := pk8_lt (l := bs.take 4) (fun x hx => h.lt x (List.mem_of_mem_take hx))
  have HFR : Hid (front 6 z bs = if 4 ≤ bs.length ∧ pk 8 (bs.take 4) ≤ bs.length - 4 then some ⟨6, 0, txt ((bs.drop 4).take (pk 8 (bs.take 4)))⟩ else none) := rfl
  have HH : Hid (Byt ((w.alloc (.cells #[.int .i64 6, .int .i64 z] 24 (0, 0))).alloc (.cells #[.int .i64 0, .int .i64 0, .string { data := #[] }] 48 (0, 0))) a len cap bs) := h.later b2
  have HHw : Hid (Byt w a len cap bs) := h
  clear h hx
  go_enter Try.func16, Try.ntmps16
  go_wp2_with fail
  refine RD.mono ?_
  rintro e W2 ⟨x, er, rfl, hcase, hW2⟩
  obtain rfl := hW2.symm
  clear RD
  generalize ((w.alloc (.cells #[.int .i64 6, .int .i64 z] 24 (0, 0))).alloc (.cells #[.int .i64 0, .int .i64 0, .string { data := #[] }] 48 (0, 0))) = W2 at *
  obtain ⟨⟨t0', t1'⟩, _⟩ := blk2 hxt
  obtain ⟨_, f0, f1, f2⟩ := blk3 hx2
  rcases hcase with ⟨hle, hxe, rfl⟩ | ⟨hnle, hxe, rfl⟩
  · rw [List.length_take_of_le hle, ← hxe] at hlt
    rw [← hxe] at HFR
    have hx64 : (x : Int) ≤ 4294967295 := by
      have : (2 : Nat) ^ (8 * 4) = 4294967296 := by decide
      omega
    have hin4 : (4 : Int) ≤ (len : Int) := by omega
    have hw4 : IntKind.u64.wrap ((len : Int) - 4) = (len : Int) - 4 := by rw [IntKind.wrap_u64]; omega
    have hwx : IntKind.i64.wrap (x : Int) = (x : Int) := by rw [IntKind.wrap_i64]; omega
    by_cases hin : x ≤ len - 4
    · have hin' : (x : Int) ≤ (len : Int) - 4 := by omega
      have HFE : Hid (front 6 z bs = some ⟨6, 0, txt ((bs.drop 4).take x)⟩) := by show _ = _; rw [HFR.out, if_pos (by omega)]
      clear HFR
      obtain ⟨T, HT2⟩ : ∃ T, Hid (txt ((bs.drop 4).take x) = T) := ⟨_, rfl⟩
      rw [HT2.out] at HFE
      have HSZ : Hid (4 + x = dsz 6 z ⟨6, 0, T⟩) := by
        show _ = _
        rw [← HT2.out, dsz, if_neg (by decide), if_neg (by decide), if_pos rfl, txt_size, List.length_take, List.length_drop]
        omega
      have HF : Hid (∀ W, Below (w.heap.size + 1) W2 W → W.cell? ⟨w.heap.size, 0, none⟩ = some (.int .i64 6) ∧ Sem.run Try.prog (convert 27 9 (.slice (if cap = 4 then a else Option.map (fun x : Addr => (⟨x.block, x.off + 4, none⟩ : Addr)) a) x (cap - 4))) W = .ok (.string T) W) := fun W hb =>
        ⟨cell_of_block ((hb.block w.heap.size (Nat.lt_succ_self _)).trans hxt) (j := 0) rfl, by
          have hbyt := HHw.out.later (b2.trans (hb.mono (Nat.le_succ _)))
          have e : (fun x : Addr => x.add 4) = fun x : Addr => (⟨x.block, x.off + 4, none⟩ : Addr) := by funext x; simp [Addr.add]
          rw [← e, str_src (src_take (byt_drop hbyt 4 (by omega)).src (n := x) (by omega)), ← HT2.out]
          rfl⟩
      clear hin hl hmost hroom hlt hxe hle t0 t1 t0' t1' f0 f1 f2
      go_wp2_with fail
      have hv4 : IntKind.i64.wrap (4 + (x : Int)) = 4 + (x : Int) := by rw [IntKind.wrap_i64]; omega
      have hv5 : 0 ≤ 4 + (x : Int) := by omega
      have hv9 : 4 ≤ 4 + (x : Int) := by omega
      have hv6 : 4 + (x : Int) ≤ (cap : Int) := by omega
      have hv7 : max (4 + (x : Int)) 0 = 4 + (x : Int) := by omega
      have hv8 : (4 + (x : Int)).toNat = 4 + x := by omega
      have hS0 : Below (w.heap.size + 1) W2 W2.drew := (Below.refl _ _).drew
      refine wp_region_held_drew (S := fun W => Below (w.heap.size + 1) W2 W) (by kernel_rfl) hS0 (fun hHeld => ?_)
      clear hHeld
      have hx3 := below_at (Below.refl _ W2).drew hx2
      generalize W2.drew = D at *
      refine wpAnyH_take (i := 0) (v := ?_) rfl (by kernel_rfl) (by kernel_rfl) (by kernel_rfl) (fun _ _ _ h => h) (Or.inl ⟨by rfl, ?_⟩) (by assumption) ?_
      rotate_left
      · intro w hSw
        have hSx := HF.out w hSw
        (try (obtain ⟨_, _, _, _, _, _, _, _⟩ := hSx))
        (try (obtain ⟨_, _, _, _⟩ := hSx))
        (try (obtain ⟨_, _, _⟩ := hSx))
        (try (obtain ⟨_, _⟩ := hSx))
        go_simp
        (try with_reducible rfl)
      (try simp only [Act.put, List.setIfInBounds_toArray, List.set_cons_zero, List.set_cons_succ])
      refine wpAnyH_take (i := 1) (v := ?_) rfl (by kernel_rfl) (by kernel_rfl) (by kernel_rfl) (fun _ _ _ h => h) (Or.inl ⟨by rfl, ?_⟩) (by assumption) ?_
      rotate_left
      · intro w hSw
        have hSx := HF.out w hSw
        (try (obtain ⟨_, _, _, _, _, _, _, _⟩ := hSx))
        (try (obtain ⟨_, _, _, _⟩ := hSx))
        (try (obtain ⟨_, _, _⟩ := hSx))
        (try (obtain ⟨_, _⟩ := hSx))
        go_simp
        (try with_reducible rfl)
      (try simp only [Act.put, List.setIfInBounds_toArray, List.set_cons_zero, List.set_cons_succ])
      refine wpAnyH_take (i := 2) (v := ?_) rfl (by kernel_rfl) (by kernel_rfl) (by kernel_rfl) (fun _ _ _ h => h) (Or.inl ⟨by rfl, ?_⟩) (by assumption) ?_
      rotate_left
      · intro w hSw
        have hSx := HF.out w hSw
        (try (obtain ⟨_, _, _, _, _, _, _, _⟩ := hSx))
        (try (obtain ⟨_, _, _, _⟩ := hSx))
        (try (obtain ⟨_, _, _⟩ := hSx))
        (try (obtain ⟨_, _⟩ := hSx))
        go_simp
        (try with_reducible rfl)
      (try simp only [Act.put, List.setIfInBounds_toArray, List.set_cons_zero, List.set_cons_succ])
      refine wpAnyH_take (i := 3) (v := ?_) rfl (by kernel_rfl) (by kernel_rfl) (by kernel_rfl) (fun _ _ _ h => h) (Or.inl ⟨by rfl, ?_⟩) (by assumption) ?_
      rotate_left
      · intro w hSw
        have hSx := HF.out w hSw
        (try (obtain ⟨_, _, _, _, _, _, _, _⟩ := hSx))
        (try (obtain ⟨_, _, _, _⟩ := hSx))
        (try (obtain ⟨_, _, _⟩ := hSx))
        (try (obtain ⟨_, _⟩ := hSx))
        go_simp
        (try with_reducible rfl)
      (try simp only [Act.put, List.setIfInBounds_toArray, List.set_cons_zero, List.set_cons_succ])
      refine wpAnyH_take (i := 4) (v := ?_) rfl (by kernel_rfl) (by kernel_rfl) (by kernel_rfl) (fun _ _ _ h => h) (Or.inl ⟨by rfl, ?_⟩) (by assumption) ?_
      rotate_left
      · intro w hSw
        have hSx := HF.out w hSw
        (try (obtain ⟨_, _, _, _, _, _, _, _⟩ := hSx))
        (try (obtain ⟨_, _, _, _⟩ := hSx))
        (try (obtain ⟨_, _, _⟩ := hSx))
        (try (obtain ⟨_, _⟩ := hSx))
        go_simp
        (try with_reducible rfl)
      (try simp only [Act.put, List.setIfInBounds_toArray, List.set_cons_zero, List.set_cons_succ])
      refine wpAnyH_take (i := 5) (v := ?_) rfl (by kernel_rfl) (by kernel_rfl) (by kernel_rfl) (fun _ _ _ h => h) (Or.inl ⟨by rfl, ?_⟩) (by assumption) ?_
      rotate_left
      · intro w hSw
        have hSx := HF.out w hSw
        (try (obtain ⟨_, _, _, _, _, _, _, _⟩ := hSx))
        (try (obtain ⟨_, _, _, _⟩ := hSx))
        (try (obtain ⟨_, _, _⟩ := hSx))
        (try (obtain ⟨_, _⟩ := hSx))
        go_simp
        (try with_reducible rfl)
      (try simp only [Act.put, List.setIfInBounds_toArray, List.set_cons_zero, List.set_cons_succ])
      refine wpAnyH_take (i := 6) (v := ?_) rfl (by kernel_rfl) (by kernel_rfl) (by kernel_rfl) (fun _ _ _ h => h) (Or.inl ⟨by rfl, ?_⟩) (by assumption) ?_
      rotate_left
      · intro w hSw
        have hSx := HF.out w hSw
        (try (obtain ⟨_, _, _, _, _, _, _, _⟩ := hSx))
        (try (obtain ⟨_, _, _, _⟩ := hSx))
        (try (obtain ⟨_, _, _⟩ := hSx))
        (try (obtain ⟨_, _⟩ := hSx))
        go_simp
        (try with_reducible rfl)
      (try simp only [Act.put, List.setIfInBounds_toArray, List.set_cons_zero, List.set_cons_succ])
      refine wpAnyH_take (i := 7) (v := ?_) rfl (by kernel_rfl) (by kernel_rfl) (by kernel_rfl) (fun _ _ _ h => h) (Or.inl ⟨by rfl, ?_⟩) (by assumption) ?_
      rotate_left
      · intro w hSw
        have hSx := HF.out w hSw
        (try (obtain ⟨_, _, _, _, _, _, _, _⟩ := hSx))
        (try (obtain ⟨_, _, _, _⟩ := hSx))
        (try (obtain ⟨_, _, _⟩ := hSx))
        (try (obtain ⟨_, _⟩ := hSx))
        go_simp
        (try with_reducible rfl)
      (try simp only [Act.put, List.setIfInBounds_toArray, List.set_cons_zero, List.set_cons_succ])
      refine wpAnyH_take (i := 8) (v := ?_) rfl (by kernel_rfl) (by kernel_rfl) (by kernel_rfl) (fun _ _ _ h => h) (Or.inl ⟨by rfl, ?_⟩) (by assumption) ?_
      rotate_left
      · intro w hSw
        have hSx := HF.out w hSw
        (try (obtain ⟨_, _, _, _, _, _, _, _⟩ := hSx))
        (try (obtain ⟨_, _, _, _⟩ := hSx))
        (try (obtain ⟨_, _, _⟩ := hSx))
        (try (obtain ⟨_, _⟩ := hSx))
        go_simp
        (try with_reducible rfl)
      (try simp only [Act.put, List.setIfInBounds_toArray, List.set_cons_zero, List.set_cons_succ])
      refine wpAnyH_take (i := 9) (v := ?_) rfl (by kernel_rfl) (by kernel_rfl) (by kernel_rfl) (fun _ _ _ h => h) (Or.inl ⟨by rfl, ?_⟩) (by assumption) ?_
      rotate_left
      · intro w hSw
        have hSx := HF.out w hSw
        (try (obtain ⟨_, _, _, _, _, _, _, _⟩ := hSx))
        (try (obtain ⟨_, _, _, _⟩ := hSx))
        (try (obtain ⟨_, _, _⟩ := hSx))
        (try (obtain ⟨_, _⟩ := hSx))
        go_simp
        (try with_reducible rfl)
      (try simp only [Act.put, List.setIfInBounds_toArray, List.set_cons_zero, List.set_cons_succ])
      refine wpAnyH_take (i := 10) (v := ?_) rfl (by kernel_rfl) (by kernel_rfl) (by kernel_rfl) (fun _ _ _ h => h) (Or.inl ⟨by rfl, ?_⟩) (by assumption) ?_
      rotate_left
      · intro w hSw
        have hSx := HF.out w hSw
        (try (obtain ⟨_, _, _, _, _, _, _, _⟩ := hSx))
        (try (obtain ⟨_, _, _, _⟩ := hSx))
        (try (obtain ⟨_, _, _⟩ := hSx))
        (try (obtain ⟨_, _⟩ := hSx))
        go_simp
        (try with_reducible rfl)
      (try simp only [Act.put, List.setIfInBounds_toArray, List.set_cons_zero, List.set_cons_succ])
      refine wpAnyH_take (i := 11) (v := ?_) rfl (by kernel_rfl) (by kernel_rfl) (by kernel_rfl) (fun _ _ _ h => h) (Or.inl ⟨by rfl, ?_⟩) (by assumption) ?_
      rotate_left
      · intro w hSw
        have hSx := HF.out w hSw
        (try (obtain ⟨_, _, _, _, _, _, _, _⟩ := hSx))
        (try (obtain ⟨_, _, _, _⟩ := hSx))
        (try (obtain ⟨_, _, _⟩ := hSx))
        (try (obtain ⟨_, _⟩ := hSx))
        go_simp
        (try with_reducible rfl)
      (try simp only [Act.put, List.setIfInBounds_toArray, List.set_cons_zero, List.set_cons_succ])
      obtain ⟨_, f0, f1, f2⟩ := blk3 hx3
      obtain ⟨X, HXX, c0, c1, c2, hbX⟩ := box_dat hx3 ⟨6, 0, T⟩
      have hS2 := hS0.trans hbX
      have b3 := b2.trans (hS2.mono (Nat.le_succ _))
      refine wpAnyH_ready (rs := [12]) (by kernel_rfl) (by simp) ?_
      refine AllReadyH.cons rfl (fun K hK => ?_) AllReadyH.nil
      go_simp
      try rw [HXX]
      refine hK.out _ _ hS2 (fun _ => ?_)
      clear hK K
      refine wpAnyH_ready (rs := [13]) (by kernel_rfl) (by simp) ?_
      refine AllReadyH.cons rfl (fun K hK => ?_) AllReadyH.nil
      go_simp
      refine hK.out _ _ hS2 (fun _ => ?_)
      clear hK K
      refine wpAnyH_done (by kernel_rfl) ?_ _
      go_wp2_with fail
      all_goals exact bodyPost_ret (v := .tuple #[.agg #[.int .i64 6, .int .i64 0, .string T], .int .i64 (4 + (x : Int))]) (by simp [results, Try.results16, go_sem, Try.underlying48, c0, c1, c2]) rfl ⟨⟨6, 0, T⟩, 4 + x, by simp [dval], .inr ⟨HFE.out, HSZ.out⟩, b3⟩
    · have hin' : (len : Int) - 4 < (x : Int) := by omega
      have HFE : Hid (front 6 z bs = none) := by show _ = _; rw [HFR.out, if_neg (by omega)]
      clear hin hl hmost hroom HFR hlt hxe hle
      obtain ⟨X, HXX, c0, c1, c2, hbX⟩ := box_dat hx2 ⟨0, 0, { data := #[] }⟩
      go_wp2_with fail
      try rw [HXX]
      exact bodyPost_ret (v := .tuple #[.agg #[.int .i64 0, .int .i64 0, .string { data := #[] }], .int .i64 0]) (by simp [results, Try.results16, go_sem, Try.underlying48, c0, c1, c2]) rfl ⟨⟨0, 0, { data := #[] }⟩, 0, rfl, .inl ⟨HFE.out, rfl⟩, b2.trans (hbX.mono (Nat.le_succ _))⟩
  · have HFE : Hid (front 6 z bs = none) := by show _ = _; rw [HFR.out, if_neg (by omega)]
    clear hl hmost hroom HFR hlt hxe hnle
    obtain ⟨X, HXX, c0, c1, c2, hbX⟩ := box_dat hx2 ⟨0, 0, { data := #[] }⟩
    go_wp2_with fail
    try rw [HXX]
    exact bodyPost_ret (v := .tuple #[.agg #[.int .i64 0, .int .i64 0, .string { data := #[] }], .int .i64 0]) (by simp [results, Try.results16, go_sem, Try.underlying48, c0, c1, c2]) rfl ⟨⟨0, 0, { data := #[] }⟩, 0, rfl, .inl ⟨HFE.out, rfl⟩, b2.trans (hbX.mono (Nat.le_succ _))⟩
end Go.Proofs.Ytdglobonbhkheaa

/-
  The reference's Read.
-/
namespace Go.Proofs.Ytdglobonbhkheaa
set_option linter.unusedVariables false
set_option linter.unusedSimpArgs false
open Go.ChangeShapes Go.WideShapes Go.ChangeAt Go.RowKit Go.Deep

/-- what the reference tells of the front, of any kind -/
theorem rfront_any (k z : Int) (hc : chkB k z = true) (h0 : k ≠ 0) {w : World} {a : Option Addr} {len cap : Nat} {bs : List Nat} (h : Byt w a len cap bs) : RF k z bs a len cap w := by
  obtain ⟨hk, hz0, hz1⟩ := chk_parts hc
  rcases kn_cases hk with rfl | rfl | rfl | rfl | rfl | rfl | rfl
  · exact absurd rfl h0
  · exact rfront_1 z h
  · exact rfront_2 z h
  · exact rfront_4 z h
  · exact rfront_5 z h
  · exact rfront_6 z h
  · have e1 : 1 ≤ z := by simpa [bo] using hz0
    have e2 : z ≤ 1048576 := by simpa [bo] using hz1
    obtain ⟨n, rfl⟩ : ∃ n : Nat, z = n := ⟨z.toNat, by omega⟩
    exact rfront_7 n (by omega) (by omega) h
/-- what is still to be read -/
def RdK (k z : Int) (bs : List Nat) (count i at_ : Nat) (l : List Dat) : Prop := rds k z count bs = match rds k z (count - i) (bs.drop at_) with
  | none => none
  | some (m, r) => some (l ++ m, r)
theorem RdK.noneR {k z : Int} {bs : List Nat} {count i p : Nat} {l : List Dat} (h : RdK k z bs count i p l) (hi : i < count) (hf : front k z (bs.drop p) = none) : rds k z count bs = none := by
  unfold RdK at h
  rw [show count - i = (count - (i + 1)) + 1 from by omega, rds, hf] at h
  exact h
theorem RdK.someR {k z : Int} {bs : List Nat} {count i p : Nat} {l : List Dat} {d : Dat} (h : RdK k z bs count i p l) (hi : i < count) (hf : front k z (bs.drop p) = some d) : RdK k z bs count (i + 1) (p + dsz k z d) (l ++ [d]) := by
  unfold RdK at h ⊢
  rw [show count - i = (count - (i + 1)) + 1 from by omega, rds, hf] at h
  rw [h]
  simp only [List.drop_drop]
  cases rds k z (count - (i + 1)) (bs.drop (p + dsz k z d)) with
  | none => rfl
  | some x => obtain ⟨m, r⟩ := x; simp
theorem RdK.done {k z : Int} {bs : List Nat} {count p : Nat} {l : List Dat} (h : RdK k z bs count count p l) : rds k z count bs = some (l, bs.drop p) := by
  unfold RdK at h
  rw [Nat.sub_self, rds] at h
  simpa using h

set_option maxRecDepth 100000 in
set_option maxHeartbeats 4000000 in
theorem rread_row (k z : Int) (w : World) (a : Option Addr) (len cap count : Nat) (bs : List Nat) (hB : Byt w a len cap bs) (hc : chkB k z = true) (h0 : k ≠ 0) (hcount : count ≤ 65536) :
    Calls Try.prog 13 #[.slice a len cap, .agg #[.int .i64 k, .int .i64 z], .int .i64 count] w fun e w' => ∃ v, e = .returned (.tuple #[v, .int .i64 (rdN k z bs count)]) ∧ w'.ownsRow w.heap.size 48 3 v (rdL k z bs count).length (dcs (rdL k z bs count)) ∧ Below w.heap.size w w' := by
  have hl := hB.len
  have hmost := hB.most
  have ab := alloc_below w (.cells #[.int .i64 k, .int .i64 z] 24 (0, 0))
  have hx := heap_new w (.cells #[.int .i64 k, .int .i64 z] 24 (0, 0))
  have CK := fun W => rcheck_any k z W
  rw [hc] at CK
  have hkk : (k == 0) = false := by simpa using h0
  have hct0 : (count : Int) ≤ 65536 := by omega
  have hl' : (len : Int) ≤ 1048576 := by omega
  obtain ⟨i0, hi, hz0, hz1, hz2⟩ := info_parts infoD
  have HC : Hid (chkB k z = true) := hc
  have HB : Hid (∀ W, Below w.heap.size w W → Byt W a len cap bs) := fun W hb => hB.later hb
  clear hc hB
  go_enter Try.func13, Try.ntmps13
  go_wp2_with fail
  refine (CK _).mono ?_
  rintro e W1 ⟨rfl, hb1⟩
  have b1 := ab.trans (hb1.mono ab.size)
  obtain ⟨⟨t0, t1⟩, _⟩ := blk2 (below_at hb1 hx)
  have hx1 := below_at hb1 hx
  clear hb1 hx ab CK
  go_wp2_with fail
  go_loopw [8, 12, 13] (fun ov av iv wr => ∃ (i p : Nat) (l : List Dat), i ≤ count ∧ p ≤ len ∧ iv = .int .i64 (i : Int) ∧ av = .int .i64 (p : Int) ∧ Hid (l.length = i) ∧ Hid (RdK k z bs count i p l) ∧ wr.ownsRow W1.heap.size 48 3 ov i (dcs l) ∧ Below W1.heap.size W1 wr) (fun _ _ iv _ => count - (intOf iv).toNat)
  case atStart => exact ⟨0, 0, [], Nat.zero_le _, Nat.zero_le _, rfl, rfl, rfl, by show rds k z count bs = _; rw [Nat.sub_zero, List.drop_zero]; cases rds k z count bs with
    | none => rfl
    | some x => rfl, World.ownsRow_nil _ _ _ _, Below.refl _ _⟩
  case round =>
    obtain ⟨i, p, l, hi', hp, rfl, rfl, HLL, HK, hown, hb⟩ := hrel
    have hbw := b1.trans (hb.mono b1.size)
    obtain ⟨oa, oc, rfl⟩ := own_sl hown
    by_cases hlt : i < count
    · have hlt' : (i : Int) < (count : Int) := by omega
      have hp' : (p : Int) ≤ (len : Int) := by omega
      have FR : ∀ W, Below w.heap.size w W → RF k z (bs.drop p) (if cap = p then a else Option.map (fun x => x.add p) a) (len - p) (cap - p) W := fun W h => rfront_any k z HC.out h0 (byt_drop (HB.out W h) p hp)
      have hwl : w.heap.size < wr.heap.size := by have := lt_of_heap hx1; have := hb.size; omega
      have hS0 : Below wr.heap.size wr wr.drew := (Below.refl _ _).drew
      have HF : Hid (∀ W, Below wr.heap.size wr W → W.cell? ⟨w.heap.size, 0, none⟩ = some (.int .i64 k) ∧ W.cell? ⟨w.heap.size, 1, none⟩ = some (.int .i64 z)) := fun W h => (blk2 ((h.block w.heap.size hwl).trans (below_at hb hx1))).1
      unfold RF at FR
      go_wp2_with fail
      refine wp_region_held_drew (S := fun W => Below wr.heap.size wr W) (by kernel_rfl) hS0 (fun hHeld => ?_)
      clear hHeld
      generalize wr.drew = D at *
      refine wpAnyH_take (i := 0) (v := ?_) rfl (by kernel_rfl) (by kernel_rfl) (by kernel_rfl) (fun _ _ _ h => h) (Or.inl ⟨by rfl, ?_⟩) (by assumption) ?_
      rotate_left
      · intro w hSw
        have hSx := HF.out w hSw
        (try (obtain ⟨_, _, _, _, _, _, _, _⟩ := hSx))
        (try (obtain ⟨_, _, _, _⟩ := hSx))
        (try (obtain ⟨_, _, _⟩ := hSx))
        (try (obtain ⟨_, _⟩ := hSx))
        go_simp
        (try with_reducible rfl)
      (try simp only [Act.put, List.setIfInBounds_toArray, List.set_cons_zero, List.set_cons_succ])
      refine wpAnyH_take (i := 1) (v := ?_) rfl (by kernel_rfl) (by kernel_rfl) (by kernel_rfl) (fun _ _ _ h => h) (Or.inl ⟨by rfl, ?_⟩) (by assumption) ?_
      rotate_left
      · intro w hSw
        have hSx := HF.out w hSw
        (try (obtain ⟨_, _, _, _, _, _, _, _⟩ := hSx))
        (try (obtain ⟨_, _, _, _⟩ := hSx))
        (try (obtain ⟨_, _, _⟩ := hSx))
        (try (obtain ⟨_, _⟩ := hSx))
        go_simp
        (try with_reducible rfl)
      (try simp only [Act.put, List.setIfInBounds_toArray, List.set_cons_zero, List.set_cons_succ])
      refine wpAnyH_take (i := 2) (v := ?_) rfl (by kernel_rfl) (by kernel_rfl) (by kernel_rfl) (fun _ _ _ h => h) (Or.inl ⟨by rfl, ?_⟩) (by assumption) ?_
      rotate_left
      · intro w hSw
        have hSx := HF.out w hSw
        (try (obtain ⟨_, _, _, _, _, _, _, _⟩ := hSx))
        (try (obtain ⟨_, _, _, _⟩ := hSx))
        (try (obtain ⟨_, _, _⟩ := hSx))
        (try (obtain ⟨_, _⟩ := hSx))
        go_simp
        (try with_reducible rfl)
      (try simp only [Act.put, List.setIfInBounds_toArray, List.set_cons_zero, List.set_cons_succ])
      refine wpAnyH_take (i := 3) (v := ?_) rfl (by kernel_rfl) (by kernel_rfl) (by kernel_rfl) (fun _ _ _ h => h) (Or.inl ⟨by rfl, ?_⟩) (by assumption) ?_
      rotate_left
      · intro w hSw
        have hSx := HF.out w hSw
        (try (obtain ⟨_, _, _, _, _, _, _, _⟩ := hSx))
        (try (obtain ⟨_, _, _, _⟩ := hSx))
        (try (obtain ⟨_, _, _⟩ := hSx))
        (try (obtain ⟨_, _⟩ := hSx))
        go_simp
        (try with_reducible rfl)
      (try simp only [Act.put, List.setIfInBounds_toArray, List.set_cons_zero, List.set_cons_succ])
      generalize (if cap = p then a else Option.map (fun x => x.add p) a) = a' at *
      refine wpAnyH_ready (rs := [4, 8]) (by kernel_rfl) (by simp) ?_
      refine AllReadyH.cons rfl (fun K hK => ?_) (AllReadyH.cons rfl (fun K hK => ?_) AllReadyH.nil)
      · go_simp
        refine (FR D (hbw.trans (hS0.mono hbw.size))).mono ?_
        rintro e W2 ⟨⟨dk, dn, ds⟩, n, rfl, hcase, hb2⟩
        have hS2 := hS0.trans (hb2.mono hS0.size)
        have hBl := hS2.size
        have hS3 : Below wr.heap.size wr (W2.alloc (.cells #[.int .i64 0, .int .i64 0, .string { data := #[] }] 48 (0, 0))) := hS2.alloc hBl _
        have hxb := heap_new W2 (.cells #[.int .i64 0, .int .i64 0, .string { data := #[] }] 48 (0, 0))
        unfold dval
        go_simp
        refine hK.out _ _ hS2 (fun _ => ?_)
        clear hK K
        (try simp only [Act.put, List.setIfInBounds_toArray, List.set_cons_zero, List.set_cons_succ])
        refine wpAnyH_take (i := 5) (v := ?_) rfl (by kernel_rfl) (by kernel_rfl) (by kernel_rfl) (fun _ _ _ h => h) (Or.inl ⟨by rfl, ?_⟩) (by assumption) ?_
        rotate_left
        · intro w hSw
          have hSx := HF.out w hSw
          (try (obtain ⟨_, _, _, _, _, _, _, _⟩ := hSx))
          (try (obtain ⟨_, _, _, _⟩ := hSx))
          (try (obtain ⟨_, _, _⟩ := hSx))
          (try (obtain ⟨_, _⟩ := hSx))
          go_simp
          (try with_reducible rfl)
        (try simp only [Act.put, List.setIfInBounds_toArray, List.set_cons_zero, List.set_cons_succ])
        refine wpAnyH_take (i := 6) (v := ?_) rfl (by kernel_rfl) (by kernel_rfl) (by kernel_rfl) (fun _ _ _ h => h) (Or.inl ⟨by rfl, ?_⟩) (by assumption) ?_
        rotate_left
        · intro w hSw
          have hSx := HF.out w hSw
          (try (obtain ⟨_, _, _, _, _, _, _, _⟩ := hSx))
          (try (obtain ⟨_, _, _, _⟩ := hSx))
          (try (obtain ⟨_, _, _⟩ := hSx))
          (try (obtain ⟨_, _⟩ := hSx))
          go_simp
          (try with_reducible rfl)
        (try simp only [Act.put, List.setIfInBounds_toArray, List.set_cons_zero, List.set_cons_succ])
        refine wpAnyH_take (i := 7) (v := ?_) rfl (by kernel_rfl) (by kernel_rfl) (by kernel_rfl) (fun _ _ _ h => h) (Or.inl ⟨by rfl, ?_⟩) (by assumption) ?_
        rotate_left
        · intro w hSw
          have hSx := HF.out w hSw
          (try (obtain ⟨_, _, _, _, _, _, _, _⟩ := hSx))
          (try (obtain ⟨_, _, _, _⟩ := hSx))
          (try (obtain ⟨_, _, _⟩ := hSx))
          (try (obtain ⟨_, _⟩ := hSx))
          go_simp
          (try with_reducible rfl)
        (try simp only [Act.put, List.setIfInBounds_toArray, List.set_cons_zero, List.set_cons_succ])
        refine wpAnyH_ready (rs := [8]) (by kernel_rfl) (by simp) ?_
        refine AllReadyH.cons rfl (fun K hK => ?_) AllReadyH.nil
        go_simp
        refine hK.out _ _ hS3 (fun _ => ?_)
        clear hK K hS2
        (try simp only [Act.put, List.setIfInBounds_toArray, List.set_cons_zero, List.set_cons_succ])
        generalize W2.alloc (.cells #[.int .i64 0, .int .i64 0, .string { data := #[] }] 48 (0, 0)) = W3 at *
        obtain ⟨_, f0, f1, f2⟩ := blk3 hxb
        obtain ⟨X, HXX, c0, c1, c2, hbX⟩ := box_dat hxb ⟨dk, dn, ds⟩
        have hS4 := hS3.trans (hbX.mono hBl)
        have b4 := hbw.trans (hS4.mono hbw.size)
        have hown4 := own_below hown hS4
        have hsX := hS4.size
        have hbX1 := hb.trans (hS4.mono hb.size)
        clear hb2 hbX hS0 FR hxb HF
        refine wpAnyH_ready (rs := [9]) (by kernel_rfl) (by simp) ?_
        refine AllReadyH.cons rfl (fun K hK => ?_) AllReadyH.nil
        go_simp
        try rw [HXX]
        refine hK.out _ _ hS4 (fun _ => ?_)
        clear hK K
        (try simp only [Act.put, List.setIfInBounds_toArray, List.set_cons_zero, List.set_cons_succ])
        refine wpAnyH_ready (rs := [10]) (by kernel_rfl) (by simp) ?_
        refine AllReadyH.cons rfl (fun K hK => ?_) AllReadyH.nil
        go_simp
        refine hK.out _ _ hS4 (fun _ => ?_)
        clear hK K
        refine wpAnyH_done (by kernel_rfl) ?_ _
        rcases hcase with ⟨hf, rfl⟩ | ⟨hf, hn⟩
        · have HE : Hid (rdN k z bs count = 6 ∧ rdL k z bs count = []) := by
            have e := HK.out.noneR hlt hf
            exact ⟨by unfold rdN; rw [e], by unfold rdL; rw [e]⟩
          clear hf hown hown4 hS3 hS4
          go_wp2_with fail
          go_ret2
          exact ⟨.slice none 0 0, by rw [HE.out.1]; rfl, by rw [HE.out.2]; exact World.ownsRow_nil _ _ _ _, b4⟩
        · obtain ⟨s1, s2, _⟩ := front_size HC.out h0 hf
          have HK2 : Hid (RdK k z bs count (i + 1) (p + n) (l ++ [⟨dk, dn, ds⟩])) := by show RdK _ _ _ _ _ _ _; rw [hn]; exact HK.out.someR hlt hf
          have hpn : p + n ≤ len := by rw [List.length_drop] at s2; omega
          have hn1 : (1 : Int) ≤ (n : Int) := by omega
          have hn0 : ((n : Int) == 0) = false := by simp; omega
          have hn2 : decide ((n : Int) = 0) = false := by simp; omega
          have hn3 : decide (n = 0) = false := by simp; omega
          have hn4 : (n == 0) = false := by simp; omega
          have hn5 : n ≠ 0 := by omega
          have hpn' : (p : Int) + (n : Int) ≤ 1048576 := by omega
          have HD : Hid (dcs (l ++ [⟨dk, dn, ds⟩]) = dcs l ++ [.int .i64 dk, .int .i64 dn, .string ds]) := by show _ = _; rw [dcs_append]; rfl
          have hsb := hb.size
          clear hf hn s1 s2 hown hS3 hS4
          go_wp2_with (at_builtin; refine wpList_append_own _ rfl _ _ 25 rfl W1.heap.size 48 i0 _ 3 32 Try.underlying25 hi hz0 hz1 hz2 rfl (by decide) _ _ _ rfl (hown4.alloc _) ⟨X.heap.size, 0, none⟩ 1 1 [.int .i64 dk, .int .i64 dn, .string ds] rfl rfl (new_news X _ _ _) (by simp [Value.oneCell']) (by unfold maxLen; omega) (by omega) (by simp; omega) ?_; intro v' w2 hown5 hgrow5 _)
          have hb5 : Below W1.heap.size W1 w2 := (hbX1.alloc hbX1.size _).grown hgrow5 (by simp; have := hbX1.size; omega) (fun k e => (hown4.lt k e).1)
          rw [← HD.out] at hown5
          clear hown4 hgrow5
          go_wp2_with fail
          go_roundw
          case rel => exact ⟨i + 1, p + n, l ++ [⟨dk, dn, ds⟩], by omega, hpn, by go_num, by go_num, by have := HLL.out; show _ = _; simp; omega, HK2, hown5, hb5⟩
          case measure => simp [intOf]; omega
      · have hBl := hS0.size
        have hSa : Below wr.heap.size wr (D.alloc (.cells #[.int .i64 0, .int .i64 0, .string { data := #[] }] 48 (0, 0))) := hS0.alloc hBl _
        have hxa := heap_new D (.cells #[.int .i64 0, .int .i64 0, .string { data := #[] }] 48 (0, 0))
        go_simp
        refine hK.out _ _ hSa (fun _ => ?_)
        clear hK K
        (try simp only [Act.put, List.setIfInBounds_toArray, List.set_cons_zero, List.set_cons_succ])
        refine wpAnyH_ready (rs := [4]) (by kernel_rfl) (by simp) ?_
        refine AllReadyH.cons rfl (fun K hK => ?_) AllReadyH.nil
        go_simp
        refine (FR _ (hbw.trans (hSa.mono hbw.size))).mono ?_
        rintro e W3 ⟨⟨dk, dn, ds⟩, n, rfl, hcase, hb2⟩
        have hS3 := hSa.trans (hb2.mono hSa.size)
        have hxb := below_at hb2 hxa
        unfold dval
        go_simp
        refine hK.out _ _ hS3 (fun _ => ?_)
        clear hK K hxa hSa
        (try simp only [Act.put, List.setIfInBounds_toArray, List.set_cons_zero, List.set_cons_succ])
        refine wpAnyH_take (i := 5) (v := ?_) rfl (by kernel_rfl) (by kernel_rfl) (by kernel_rfl) (fun _ _ _ h => h) (Or.inl ⟨by rfl, ?_⟩) (by assumption) ?_
        rotate_left
        · intro w hSw
          have hSx := HF.out w hSw
          (try (obtain ⟨_, _, _, _, _, _, _, _⟩ := hSx))
          (try (obtain ⟨_, _, _, _⟩ := hSx))
          (try (obtain ⟨_, _, _⟩ := hSx))
          (try (obtain ⟨_, _⟩ := hSx))
          go_simp
          (try with_reducible rfl)
        (try simp only [Act.put, List.setIfInBounds_toArray, List.set_cons_zero, List.set_cons_succ])
        refine wpAnyH_take (i := 6) (v := ?_) rfl (by kernel_rfl) (by kernel_rfl) (by kernel_rfl) (fun _ _ _ h => h) (Or.inl ⟨by rfl, ?_⟩) (by assumption) ?_
        rotate_left
        · intro w hSw
          have hSx := HF.out w hSw
          (try (obtain ⟨_, _, _, _, _, _, _, _⟩ := hSx))
          (try (obtain ⟨_, _, _, _⟩ := hSx))
          (try (obtain ⟨_, _, _⟩ := hSx))
          (try (obtain ⟨_, _⟩ := hSx))
          go_simp
          (try with_reducible rfl)
        (try simp only [Act.put, List.setIfInBounds_toArray, List.set_cons_zero, List.set_cons_succ])
        refine wpAnyH_take (i := 7) (v := ?_) rfl (by kernel_rfl) (by kernel_rfl) (by kernel_rfl) (fun _ _ _ h => h) (Or.inl ⟨by rfl, ?_⟩) (by assumption) ?_
        rotate_left
        · intro w hSw
          have hSx := HF.out w hSw
          (try (obtain ⟨_, _, _, _, _, _, _, _⟩ := hSx))
          (try (obtain ⟨_, _, _, _⟩ := hSx))
          (try (obtain ⟨_, _, _⟩ := hSx))
          (try (obtain ⟨_, _⟩ := hSx))
          go_simp
          (try with_reducible rfl)
        (try simp only [Act.put, List.setIfInBounds_toArray, List.set_cons_zero, List.set_cons_succ])
        obtain ⟨_, f0, f1, f2⟩ := blk3 hxb
        obtain ⟨X, HXX, c0, c1, c2, hbX⟩ := box_dat hxb ⟨dk, dn, ds⟩
        have hS4 := hS3.trans (hbX.mono hBl)
        have b4 := hbw.trans (hS4.mono hbw.size)
        have hown4 := own_below hown hS4
        have hsX := hS4.size
        have hbX1 := hb.trans (hS4.mono hb.size)
        clear hb2 hbX hS0 FR hxb HF
        refine wpAnyH_ready (rs := [9]) (by kernel_rfl) (by simp) ?_
        refine AllReadyH.cons rfl (fun K hK => ?_) AllReadyH.nil
        go_simp
        try rw [HXX]
        refine hK.out _ _ hS4 (fun _ => ?_)
        clear hK K
        (try simp only [Act.put, List.setIfInBounds_toArray, List.set_cons_zero, List.set_cons_succ])
        refine wpAnyH_ready (rs := [10]) (by kernel_rfl) (by simp) ?_
        refine AllReadyH.cons rfl (fun K hK => ?_) AllReadyH.nil
        go_simp
        refine hK.out _ _ hS4 (fun _ => ?_)
        clear hK K
        refine wpAnyH_done (by kernel_rfl) ?_ _
        rcases hcase with ⟨hf, rfl⟩ | ⟨hf, hn⟩
        · have HE : Hid (rdN k z bs count = 6 ∧ rdL k z bs count = []) := by
            have e := HK.out.noneR hlt hf
            exact ⟨by unfold rdN; rw [e], by unfold rdL; rw [e]⟩
          clear hf hown hown4 hS3 hS4
          go_wp2_with fail
          go_ret2
          exact ⟨.slice none 0 0, by rw [HE.out.1]; rfl, by rw [HE.out.2]; exact World.ownsRow_nil _ _ _ _, b4⟩
        · obtain ⟨s1, s2, _⟩ := front_size HC.out h0 hf
          have HK2 : Hid (RdK k z bs count (i + 1) (p + n) (l ++ [⟨dk, dn, ds⟩])) := by show RdK _ _ _ _ _ _ _; rw [hn]; exact HK.out.someR hlt hf
          have hpn : p + n ≤ len := by rw [List.length_drop] at s2; omega
          have hn1 : (1 : Int) ≤ (n : Int) := by omega
          have hn0 : ((n : Int) == 0) = false := by simp; omega
          have hn2 : decide ((n : Int) = 0) = false := by simp; omega
          have hn3 : decide (n = 0) = false := by simp; omega
          have hn4 : (n == 0) = false := by simp; omega
          have hn5 : n ≠ 0 := by omega
          have hpn' : (p : Int) + (n : Int) ≤ 1048576 := by omega
          have HD : Hid (dcs (l ++ [⟨dk, dn, ds⟩]) = dcs l ++ [.int .i64 dk, .int .i64 dn, .string ds]) := by show _ = _; rw [dcs_append]; rfl
          have hsb := hb.size
          clear hf hn s1 s2 hown hS3 hS4
          go_wp2_with (at_builtin; refine wpList_append_own _ rfl _ _ 25 rfl W1.heap.size 48 i0 _ 3 32 Try.underlying25 hi hz0 hz1 hz2 rfl (by decide) _ _ _ rfl (hown4.alloc _) ⟨X.heap.size, 0, none⟩ 1 1 [.int .i64 dk, .int .i64 dn, .string ds] rfl rfl (new_news X _ _ _) (by simp [Value.oneCell']) (by unfold maxLen; omega) (by omega) (by simp; omega) ?_; intro v' w2 hown5 hgrow5 _)
          have hb5 : Below W1.heap.size W1 w2 := (hbX1.alloc hbX1.size _).grown hgrow5 (by simp; have := hbX1.size; omega) (fun k e => (hown4.lt k e).1)
          rw [← HD.out] at hown5
          clear hown4 hgrow5
          go_wp2_with fail
          go_roundw
          case rel => exact ⟨i + 1, p + n, l ++ [⟨dk, dn, ds⟩], by omega, hpn, by go_num, by go_num, by have := HLL.out; show _ = _; simp; omega, HK2, hown5, hb5⟩
          case measure => simp [intOf]; omega
    · have hlt' : (count : Int) ≤ (i : Int) := by omega
      have hic : i = count := by omega
      have HE0 : Hid (rds k z count bs = some (l, bs.drop p)) := by
        have := HK.out
        rw [hic] at this
        exact this.done
      have HO : Hid (wr.ownsRow w.heap.size 48 3 (.slice oa i oc) l.length (dcs l)) := by
        have h := own_mono hown b1.size
        show World.ownsRow _ _ _ _ _ _ _
        rw [HLL.out]
        exact h
      clear hown
      by_cases hex : p < len
      · have hex' : (p : Int) < (len : Int) := by omega
        have HE : Hid (rdN k z bs count = 7 ∧ rdL k z bs count = []) := by
          have e := HE0.out
          cases hd : bs.drop p with
          | nil => rw [List.drop_eq_nil_iff] at hd; omega
          | cons x y => rw [hd] at e; exact ⟨by unfold rdN; rw [e], by unfold rdL; rw [e]⟩
        go_wp2_with fail
        go_ret2
        exact ⟨.slice none 0 0, by rw [HE.out.1]; rfl, by rw [HE.out.2]; exact World.ownsRow_nil _ _ _ _, hbw⟩
      · have hex' : (len : Int) ≤ (p : Int) := by omega
        have HE : Hid (rdN k z bs count = 0 ∧ rdL k z bs count = l) := by
          have e := HE0.out
          rw [List.drop_eq_nil_of_le (by omega)] at e
          exact ⟨by unfold rdN; rw [e], by unfold rdL; rw [e]⟩
        go_wp2_with fail
        go_ret2
        exact ⟨_, by rw [HE.out.1]; rfl, by rw [HE.out.2]; exact HO.out, hbw⟩
end Go.Proofs.Ytdglobonbhkheaa
