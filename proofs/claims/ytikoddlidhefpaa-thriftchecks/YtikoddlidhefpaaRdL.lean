/-
  A list.
-/
import Derived.Test.YtikoddlidhefpaaRdK
namespace Go.Proofs.Ytikoddlidhefpaa
set_option linter.unusedVariables false
open Go.ChangeShapes Go.WideShapes Go.ChangeAt Go.RowKit Go.Deep

theorem WayOf.rf {w0 w w' : World} {R m : Nat} {room : Int} {v : Value} {q : List Nat → RV} (h : WayOf w0 w R m room v q) (hf : RF R w w') : WayOf w0 w' R m room v q := by
  obtain ⟨f, fa, fb, h1, h2, h3⟩ := h
  exact ⟨f, fa, fb, h1, h2, fun W bs k1 k2 => h3 W bs (hf.trans k1) k2⟩
theorem RowX.vx {B : Nat} {S : Nat → Prop} {w : World} {f : Fo} {v : Value} {p : Pay} (h : RowX B w f v) (hp : PayOk p) (hi : p.ids = []) (hl : flen f ≤ 140737488355328) (hS : ∀ b, B ≤ b → S b) :
    VX S w p f (.agg #[.int .i64 p.kind, .int .i64 p.key, .int .i64 p.elem, .int .i64 p.num, .string p.text, .slice none 0 0, v]) := by
  have hown := h.own
  obtain ⟨ys, h1, h2⟩ := h
  refine ⟨_, _, rfl, hp, hl, ⟨?_, fun g h => by cases h⟩, ys, ⟨?_, fun g hg => hS g (hown g hg).1⟩, h2.mono fun b hb => hS b hb.1.1⟩
  · rw [hi]
    exact World.ownsRow_nil _ _ _ _
  · refine ⟨h1.1, ?_⟩
    rcases h1.2 with h3 | ⟨g, cap, cur, e1, e2, rest⟩
    · exact .inl h3
    · exact .inr ⟨g, cap, cur, e1, Nat.zero_le _, rest⟩
theorem list_pay (k : Nat) (hk : k < 16) : PayOk ⟨9, 0, k, 0, noText, []⟩ := by
  have z0 : i64ok 0 := ⟨by omega, by omega⟩
  have z9 : i64ok 9 := ⟨by omega, by omega⟩
  have zk : i64ok (k : Int) := ⟨by omega, by omega⟩
  exact ⟨z9, z0, zk, z0, Nat.zero_le _, Nat.zero_le _, fun _ h => by cases h⟩

set_option maxRecDepth 10000 in
set_option maxHeartbeats 1000000 in
theorem list_any (w0 w : World) (R m : Nat) (bs : List Nat) (room : Int) (P : Int → List Nat → RV) (h : Rd w0 w R m bs room) (hw : Ways w R m)
    (HP : ∀ (k : Int) (v : Value) (W : World), wayOk k room = true → Ways W R m → WayIs W R k v → WayOf w0 W R m room v (P k)) : TakesV 83 #[.pointer (some ⟨R, 0, none⟩)] w0 w R m room (rList room P bs) := by
  intro Q QOK QNO
  have hab : Below w.heap.size w (zbox w) := alloc_below w _
  have hR := h.lt
  have hz := h.later hab
  have hbz := heap_new w (.cells #[.int .i64 0, .int .i64 0, .int .i64 0, .int .i64 0, .string { data := #[] }, .slice none 0 0, .slice none 0 0] 26)
  have K := takeHalves_any w0 (zbox w) R m bs room hz
  cases bs with
  | nil =>
    have K1 := K.no (s := true) rfl
    have q := fun w' hf => QNO true w' rfl ((RF.of_below hab).trans hf)
    clear K QOK QNO
    go_enter Try.func83, Try.ntmps83
    go_wp2_with fail
    refine K1.mono ?_
    rintro e wx ⟨rfl, hf⟩
    have q1 := q wx hf
    unfold gives at q1 ⊢
    go_wp2_with fail
    exact ⟨rfl, q1⟩
  | cons b r =>
    have hb : b < 256 := h.b8 b (List.mem_cons_self ..)
    have K1 := K.ok (a := (b / 16, b % 16)) (rest := r) rfl
    obtain ⟨n, hn⟩ : ∃ n, n = b / 16 := ⟨_, rfl⟩
    obtain ⟨k, hk⟩ : ∃ k, k = b % 16 := ⟨_, rfl⟩
    have HRES : Hid (rList room P (b :: r) = if n = 0 ∧ knownB k = true then .ok ((⟨9, 0, k, 0, noText, []⟩, .nil), r) else if wayOk k room = false then .error false else if n = 15 then match rNum 15 65536 r with
      | .error s => .error s
      | .ok (m, q) => rListOf (P k) k m q
      else rListOf (P k) k n r) := by show _ = _; rw [hn, hk]; rfl
    have hn16 : n < 16 := by omega
    have hk16 : k < 16 := by omega
    dsimp only at K1
    rw [← hn, ← hk] at K1
    generalize rList room P (b :: r) = res at *
    clear hn hk hb K h hz
    have HF : Hid (∀ W1, RF R (zbox w) W1 → RF R w (W1.alloc (.cells #[.int .i64 9, .int .i64 0, .int .i64 (k : Int), .int .i64 0, .string { data := #[] }, .slice none 0 0, .slice none 0 0] 26)) ∧ Ways (W1.alloc (.cells #[.int .i64 9, .int .i64 0, .int .i64 (k : Int), .int .i64 0, .string { data := #[] }, .slice none 0 0, .slice none 0 0] 26)) R m ∧ (W1.alloc (.cells #[.int .i64 9, .int .i64 0, .int .i64 (k : Int), .int .i64 0, .string { data := #[] }, .slice none 0 0, .slice none 0 0] 26)).heap[W1.heap.size]? = some (.cells #[.int .i64 9, .int .i64 0, .int .i64 (k : Int), .int .i64 0, .string { data := #[] }, .slice none 0 0, .slice none 0 0] 26 (0, 0)) ∧ (W1.alloc (.cells #[.int .i64 9, .int .i64 0, .int .i64 (k : Int), .int .i64 0, .string { data := #[] }, .slice none 0 0, .slice none 0 0] 26)).heap[w.heap.size]? = some (.cells #[.int .i64 0, .int .i64 0, .int .i64 0, .int .i64 0, .string { data := #[] }, .slice none 0 0, .slice none 0 0] 26 (0, 0)) ∧ w.heap.size < W1.heap.size ∧ RF R w W1 ∧ W1.heap[w.heap.size]? = some (.cells #[.int .i64 0, .int .i64 0, .int .i64 0, .int .i64 0, .string { data := #[] }, .slice none 0 0, .slice none 0 0] 26 (0, 0))) := by
      intro W1 hf
      have hf2 : RF R (zbox w) (W1.alloc (.cells #[.int .i64 9, .int .i64 0, .int .i64 (k : Int), .int .i64 0, .string { data := #[] }, .slice none 0 0, .slice none 0 0] 26)) := hf.trans (RF.of_below (alloc_below W1 _))
      have hff := (RF.of_below (R := R) hab).trans hf2
      refine ⟨hff, hw.rf hff, heap_new W1 _, hf2.box hbz (by omega), ?_, (RF.of_below hab).trans hf, hf.box hbz (by omega)⟩
      have h1 := hf.size
      have h2 : (zbox w).heap.size = w.heap.size + 1 := by simp [zbox]
      omega
    have HPP : Hid _ := HP
    clear hab hbz hw HP
    by_cases hn0 : n = 0
    · subst hn0
      cases hkn : knownB k
      · have ho : wayOk k room = false := by unfold wayOk; rw [hkn]; rfl
        have q := fun w' hf => QNO false w' (by rw [HRES.out, if_neg (by rw [hkn]; simp), if_pos ho]) hf
        clear QOK QNO
        go_enter Try.func83, Try.ntmps83
        go_wp2_with fail
        refine K1.mono ?_
        rintro e W1 ⟨rfl, hrd, hf⟩
        obtain ⟨f1, f2, f3, f4, f5, f6, f7⟩ := HF.out W1 hf
        have KI := isKind_any k (W1.alloc (.cells #[.int .i64 9, .int .i64 0, .int .i64 (k : Int), .int .i64 0, .string { data := #[] }, .slice none 0 0, .slice none 0 0] 26))
        rw [hkn] at KI
        have WB := way_bad w0 _ R m r room k (hrd.later (alloc_below W1 (.cells #[.int .i64 9, .int .i64 0, .int .i64 (k : Int), .int .i64 0, .string { data := #[] }, .slice none 0 0, .slice none 0 0] 26))) f2 ho
        clear f2 f3 f4 HF HPP
        go_wp2_with fail
        refine KI.mono ?_
        rintro e wx ⟨rfl, hwx⟩
        obtain rfl := hwx.symm
        go_wp2_with fail
        refine WB.mono ?_
        rintro e wx ⟨rfl, hwx⟩
        obtain rfl := hwx.symm
        have q1 := q _ f1
        unfold gives at q1 ⊢
        go_wp2_with fail
        exact ⟨rfl, q1⟩
      · have he : res = .ok ((⟨9, 0, k, 0, noText, []⟩, .nil), r) := by rw [HRES.out, if_pos ⟨rfl, hkn⟩]
        clear QNO
        go_enter Try.func83, Try.ntmps83
        go_wp2_with fail
        refine K1.mono ?_
        rintro e W1 ⟨rfl, hrd, hf⟩
        obtain ⟨f1, f2, f3, f4, f5, f6, f7⟩ := HF.out W1 hf
        have KI := isKind_any k (W1.alloc (.cells #[.int .i64 9, .int .i64 0, .int .i64 (k : Int), .int .i64 0, .string { data := #[] }, .slice none 0 0, .slice none 0 0] 26))
        rw [hkn] at KI
        have hrd2 := hrd.later (alloc_below W1 (.cells #[.int .i64 9, .int .i64 0, .int .i64 (k : Int), .int .i64 0, .string { data := #[] }, .slice none 0 0, .slice none 0 0] 26))
        obtain ⟨⟨z0, z1, z2, z3, z4, z5, z6⟩, g0, g1, g2, g3, g4, g5, g6⟩ := blk7 f7
        clear f2 f3 f4 HF HPP
        go_wp2_with fail
        refine KI.mono ?_
        rintro e wx ⟨rfl, hwx⟩
        obtain rfl := hwx.symm
        go_wp2_with fail
        have he2 : res = .ok ((⟨9, 0, k, 0, { data := #[] }, []⟩, .nil), r) := he
        refine finish_alloc (p := ⟨9, 0, k, 0, { data := #[] }, []⟩) (c := .nil) (rest := r) (W := W1) (iv := .slice none 0 0) (lv := .slice none 0 0) rfl QOK rfl f7 hR he2 f6 hrd ?_
        exact vx_leaf (list_pay k hk16) rfl
    · have hn0' : ¬ (n : Int) = 0 := by omega
      cases ho : wayOk k room
      · have q := fun w' hf => QNO false w' (by rw [HRES.out, if_neg (by omega), if_pos ho]) hf
        clear QOK QNO
        go_enter Try.func83, Try.ntmps83
        go_wp2_with fail
        refine K1.mono ?_
        rintro e W1 ⟨rfl, hrd, hf⟩
        obtain ⟨f1, f2, f3, f4, f5, f6, f7⟩ := HF.out W1 hf
        have WB := way_bad w0 _ R m r room k (hrd.later (alloc_below W1 (.cells #[.int .i64 9, .int .i64 0, .int .i64 (k : Int), .int .i64 0, .string { data := #[] }, .slice none 0 0, .slice none 0 0] 26))) f2 ho
        clear f2 f3 f4 HF HPP
        go_wp2_with fail
        refine WB.mono ?_
        rintro e wx ⟨rfl, hwx⟩
        obtain rfl := hwx.symm
        have q1 := q _ f1
        unfold gives at q1 ⊢
        go_wp2_with fail
        exact ⟨rfl, q1⟩
      · by_cases h15 : n = 15
        · subst h15
          have HR2 : Hid (res = match rNum 15 65536 r with
            | .error s => .error s
            | .ok (m, q) => rListOf (P k) k m q) := by show _ = _; rw [HRES.out, if_neg (by omega), if_neg (by rw [ho]; decide), if_pos rfl]
          go_enter Try.func83, Try.ntmps83
          go_wp2_with fail
          refine K1.mono ?_
          rintro e W1 ⟨rfl, hrd, hf⟩
          obtain ⟨f1, f2, f3, f4, f5, f6, f7⟩ := HF.out W1 hf
          have hrd2 := hrd.later (alloc_below W1 (.cells #[.int .i64 9, .int .i64 0, .int .i64 (k : Int), .int .i64 0, .string { data := #[] }, .slice none 0 0, .slice none 0 0] 26))
          have WO := way_ok w0 _ R m r room k hrd2 f2 ho
          have TN := takeNumber_any w0 _ R m r room 15 65536 (by omega) (by omega) hrd2
          clear HF
          cases hnum : rNum 15 65536 r with
          | error s =>
            have TN1 := TN.no hnum
            have q := fun w' hf => QNO s w' (by rw [HR2.out, hnum]) (f1.trans hf)
            obtain ⟨ch, hch⟩ : ∃ ch, gives s = .panicked ch := ⟨_, rfl⟩
            rw [hch] at q TN1
            clear f3 f4 HPP hch QOK QNO
            go_wp2_with fail
            refine WO.mono ?_
            rintro e wx ⟨⟨fn, fa, fb, rfl, hwi⟩, hwx⟩
            obtain rfl := hwx.symm
            clear hwi
            go_wp2_with fail
            refine TN1.mono ?_
            rintro e W3 ⟨rfl, hf3⟩
            have q1 := q W3 hf3
            go_wp2_with fail
            exact ⟨rfl, q1⟩
          | ok v =>
            obtain ⟨cnt, rr⟩ := v
            have TN1 := TN.ok hnum
            have hcnt := rNum_le hnum
            have hcnt' : (cnt : Int) ≤ 65536 := by omega
            have HE : Hid (res = rListOf (P k) k cnt rr) := by show _ = _; rw [HR2.out, hnum]
            clear TN hnum
            go_wp2_with fail
            refine WO.mono ?_
            rintro e wx ⟨⟨fn, fa, fb, rfl, hwi⟩, hwx⟩
            obtain rfl := hwx.symm
            go_wp2_with fail
            refine TN1.mono ?_
            rintro e W3 ⟨rfl, hrd3, hf3⟩
            have hWt : RF R (W1.alloc (.cells #[.int .i64 9, .int .i64 0, .int .i64 (k : Int), .int .i64 0, .string { data := #[] }, .slice none 0 0, .slice none 0 0] 26)) ((W3).alloc (.cells #[.func fn fa fb] 67)) := (hf3).trans (RF.of_below (alloc_below _ _))
            have hwt : RF R w ((W3).alloc (.cells #[.func fn fa fb] 67)) := f1.trans hWt
            have hRt : R < (W3).heap.size := (hrd3).lt
            have hwo := (HPP.out k _ _ ho f2 hwi).rf hWt
            have HM5 : Hid (W1.heap.size < ((W3).alloc (.cells #[.func fn fa fb] 67)).heap.size) := by
              have := hWt.size
              have h2 : (W1.alloc (.cells #[.int .i64 9, .int .i64 0, .int .i64 (k : Int), .int .i64 0, .string { data := #[] }, .slice none 0 0, .slice none 0 0] 26)).heap.size = W1.heap.size + 1 := by simp
              show _ < _
              omega
            have RA := fun Q => rounds_any w0 ((W3).alloc (.cells #[.func fn fa fb] 67)) R m cnt rr room (some ⟨(W3).heap.size, 0, none⟩) 1 1 [.func fn fa fb] [P k] hcnt (by omega) rfl rfl ((hrd3).later (alloc_below _ _)) ⟨rfl, .inr ⟨_, rfl, new_news (W3) [.func fn fa fb] 67 (0, 0)⟩⟩ (fun b o e => by cases e; exact Nat.ne_of_gt hRt) (fun i g q h1 h2 => by
              cases i with
              | zero => cases h1; cases h2; exact hwo
              | succ i => simp at h1) Q
            have B5 := hWt.box f3 (show W1.heap.size ≠ R by omega)
            have Z5 := ((hf3).trans (RF.of_below (alloc_below _ (.cells #[.func fn fa fb] 67)))).box f4 (show w.heap.size ≠ R by omega)
            clear hwo f2 hwi f3 f4 HPP
            go_wp2_with fail
            refine RA _ ?_ ?_
            · intro f r2 W5 lv he5 hf5 hrd5 hrow5 hfl5
              obtain ⟨la, lc, rfl⟩ := own_sl (hrow5.choose_spec).1
              have b5 := hf5.box B5 (show W1.heap.size ≠ R by omega)
              have z5 := hf5.box Z5 (show w.heap.size ≠ R by omega)
              obtain ⟨⟨b0, b1, b2, b3, b4, b5', b6⟩, c0, c1, c2, c3, c4, c5, c6⟩ := blk7 b5
              obtain ⟨⟨z0, z1, z2, z3, z4, z5', z6⟩, g0, g1, g2, g3, g4, g5, g6⟩ := blk7 z5
              have hne : w.heap.size ≠ W1.heap.size := by omega
              have hne' : W1.heap.size ≠ w.heap.size := by omega
              have O5 : Only W1.heap.size W5 (W5.setCell ⟨W1.heap.size, 6, none⟩ (.slice la (flen f) lc)) := (Only.refl _ _).set _ _
              have hf6 := (hwt.trans hf5).only O5 (Nat.le_of_lt f5)
              have hrd6 := hrd5.only O5 (by omega)
              have z6' : (W5.setCell ⟨W1.heap.size, 6, none⟩ (.slice la (flen f) lc)).heap[w.heap.size]? = some (.cells #[.int .i64 0, .int .i64 0, .int .i64 0, .int .i64 0, .string { data := #[] }, .slice none 0 0, .slice none 0 0] 26 (0, 0)) := by rw [O5.block _ hne]; exact z5
              have HX : Hid (VX (fun b => w.heap.size < b) (W5.setCell ⟨W1.heap.size, 6, none⟩ (.slice la (flen f) lc)) ⟨9, 0, k, 0, noText, []⟩ f (.agg #[.int .i64 9, .int .i64 0, .int .i64 (k : Int), .int .i64 0, .string noText, .slice none 0 0, .slice la (flen f) lc])) := by
                have hM := HM5.out
                exact (hrow5.kept (Nat.le_of_eq (by simp [World.setCell])) fun j h1 h2 => O5.block j (by omega)).vx (list_pay k hk16) rfl (by omega) fun b hb => by omega
              have he6 : res = .ok ((⟨9, 0, k, 0, noText, []⟩, f), r2) := by rw [HE.out]; unfold rListOf; rw [he5]
              have he7 : res = .ok ((⟨9, 0, k, 0, { data := #[] }, []⟩, f), r2) := he6
              clear hrow5 b5 z5 O5 B5 Z5 RA
              go_wp2_with fail
              refine finish (p := ⟨9, 0, k, 0, { data := #[] }, []⟩) (c := f) (rest := r2) (W := W5.setCell ⟨W1.heap.size, 6, none⟩ (.slice la (flen f) lc)) (iv := .slice none 0 0) (lv := .slice la (flen f) lc) rfl QOK rfl z6' hR he7 hf6 hrd6 ?_
              exact HX.out
            · intro s W5 he5 hf5
              have q := QNO s W5 (by rw [HE.out]; unfold rListOf; rw [he5]) (hwt.trans hf5)
              obtain ⟨ch, hch⟩ : ∃ ch, gives s = .panicked ch := ⟨_, rfl⟩
              rw [hch] at q ⊢
              clear hch RA B5 Z5
              go_wp2_with fail
              exact ⟨rfl, q⟩
        · have h15' : ¬ (n : Int) = 15 := by omega
          have HE : Hid (res = rListOf (P k) k n r) := by show _ = _; rw [HRES.out, if_neg (by omega), if_neg (by rw [ho]; decide), if_neg h15]
          go_enter Try.func83, Try.ntmps83
          go_wp2_with fail
          refine K1.mono ?_
          rintro e W1 ⟨rfl, hrd, hf⟩
          obtain ⟨f1, f2, f3, f4, f5, f6, f7⟩ := HF.out W1 hf
          have hrd2 := hrd.later (alloc_below W1 (.cells #[.int .i64 9, .int .i64 0, .int .i64 (k : Int), .int .i64 0, .string { data := #[] }, .slice none 0 0, .slice none 0 0] 26))
          have WO := way_ok w0 _ R m r room k hrd2 f2 ho
          clear HF
          go_wp2_with fail
          refine WO.mono ?_
          rintro e wx ⟨⟨fn, fa, fb, rfl, hwi⟩, hwx⟩
          obtain rfl := hwx.symm
          have hWt : RF R (W1.alloc (.cells #[.int .i64 9, .int .i64 0, .int .i64 (k : Int), .int .i64 0, .string { data := #[] }, .slice none 0 0, .slice none 0 0] 26)) ((W1.alloc (.cells #[.int .i64 9, .int .i64 0, .int .i64 (k : Int), .int .i64 0, .string { data := #[] }, .slice none 0 0, .slice none 0 0] 26)).alloc (.cells #[.func fn fa fb] 67)) := (RF.refl R _).trans (RF.of_below (alloc_below _ _))
          have hwt : RF R w ((W1.alloc (.cells #[.int .i64 9, .int .i64 0, .int .i64 (k : Int), .int .i64 0, .string { data := #[] }, .slice none 0 0, .slice none 0 0] 26)).alloc (.cells #[.func fn fa fb] 67)) := f1.trans hWt
          have hRt : R < (W1.alloc (.cells #[.int .i64 9, .int .i64 0, .int .i64 (k : Int), .int .i64 0, .string { data := #[] }, .slice none 0 0, .slice none 0 0] 26)).heap.size := (hrd2).lt
          have hwo := (HPP.out k _ _ ho f2 hwi).rf hWt
          have HM5 : Hid (W1.heap.size < ((W1.alloc (.cells #[.int .i64 9, .int .i64 0, .int .i64 (k : Int), .int .i64 0, .string { data := #[] }, .slice none 0 0, .slice none 0 0] 26)).alloc (.cells #[.func fn fa fb] 67)).heap.size) := by
            have := hWt.size
            have h2 : (W1.alloc (.cells #[.int .i64 9, .int .i64 0, .int .i64 (k : Int), .int .i64 0, .string { data := #[] }, .slice none 0 0, .slice none 0 0] 26)).heap.size = W1.heap.size + 1 := by simp
            show _ < _
            omega
          have RA := fun Q => rounds_any w0 ((W1.alloc (.cells #[.int .i64 9, .int .i64 0, .int .i64 (k : Int), .int .i64 0, .string { data := #[] }, .slice none 0 0, .slice none 0 0] 26)).alloc (.cells #[.func fn fa fb] 67)) R m n r room (some ⟨(W1.alloc (.cells #[.int .i64 9, .int .i64 0, .int .i64 (k : Int), .int .i64 0, .string { data := #[] }, .slice none 0 0, .slice none 0 0] 26)).heap.size, 0, none⟩) 1 1 [.func fn fa fb] [P k] (by omega) (by omega) rfl rfl ((hrd2).later (alloc_below _ _)) ⟨rfl, .inr ⟨_, rfl, new_news (W1.alloc (.cells #[.int .i64 9, .int .i64 0, .int .i64 (k : Int), .int .i64 0, .string { data := #[] }, .slice none 0 0, .slice none 0 0] 26)) [.func fn fa fb] 67 (0, 0)⟩⟩ (fun b o e => by cases e; exact Nat.ne_of_gt hRt) (fun i g q h1 h2 => by
            cases i with
            | zero => cases h1; cases h2; exact hwo
            | succ i => simp at h1) Q
          have B5 := hWt.box f3 (show W1.heap.size ≠ R by omega)
          rw [show (W1.alloc (.cells #[.int .i64 9, .int .i64 0, .int .i64 (k : Int), .int .i64 0, .string { data := #[] }, .slice none 0 0, .slice none 0 0] 26)).heap.size = W1.heap.size + 1 by simp] at RA
          have Z5 := ((RF.refl R _).trans (RF.of_below (alloc_below _ (.cells #[.func fn fa fb] 67)))).box f4 (show w.heap.size ≠ R by omega)
          clear hwo f2 hwi f3 f4 HPP
          go_wp2_with fail
          refine RA _ ?_ ?_
          · intro f r2 W5 lv he5 hf5 hrd5 hrow5 hfl5
            obtain ⟨la, lc, rfl⟩ := own_sl (hrow5.choose_spec).1
            have b5 := hf5.box B5 (show W1.heap.size ≠ R by omega)
            have z5 := hf5.box Z5 (show w.heap.size ≠ R by omega)
            obtain ⟨⟨b0, b1, b2, b3, b4, b5', b6⟩, c0, c1, c2, c3, c4, c5, c6⟩ := blk7 b5
            obtain ⟨⟨z0, z1, z2, z3, z4, z5', z6⟩, g0, g1, g2, g3, g4, g5, g6⟩ := blk7 z5
            have hne : w.heap.size ≠ W1.heap.size := by omega
            have hne' : W1.heap.size ≠ w.heap.size := by omega
            have O5 : Only W1.heap.size W5 (W5.setCell ⟨W1.heap.size, 6, none⟩ (.slice la (flen f) lc)) := (Only.refl _ _).set _ _
            have hf6 := (hwt.trans hf5).only O5 (Nat.le_of_lt f5)
            have hrd6 := hrd5.only O5 (by omega)
            have z6' : (W5.setCell ⟨W1.heap.size, 6, none⟩ (.slice la (flen f) lc)).heap[w.heap.size]? = some (.cells #[.int .i64 0, .int .i64 0, .int .i64 0, .int .i64 0, .string { data := #[] }, .slice none 0 0, .slice none 0 0] 26 (0, 0)) := by rw [O5.block _ hne]; exact z5
            have HX : Hid (VX (fun b => w.heap.size < b) (W5.setCell ⟨W1.heap.size, 6, none⟩ (.slice la (flen f) lc)) ⟨9, 0, k, 0, noText, []⟩ f (.agg #[.int .i64 9, .int .i64 0, .int .i64 (k : Int), .int .i64 0, .string noText, .slice none 0 0, .slice la (flen f) lc])) := by
              have hM := HM5.out
              exact (hrow5.kept (Nat.le_of_eq (by simp [World.setCell])) fun j h1 h2 => O5.block j (by omega)).vx (list_pay k hk16) rfl (by omega) fun b hb => by omega
            have he6 : res = .ok ((⟨9, 0, k, 0, noText, []⟩, f), r2) := by rw [HE.out]; unfold rListOf; rw [he5]
            have he7 : res = .ok ((⟨9, 0, k, 0, { data := #[] }, []⟩, f), r2) := he6
            clear hrow5 b5 z5 O5 B5 Z5 RA
            go_wp2_with fail
            refine finish (p := ⟨9, 0, k, 0, { data := #[] }, []⟩) (c := f) (rest := r2) (W := W5.setCell ⟨W1.heap.size, 6, none⟩ (.slice la (flen f) lc)) (iv := .slice none 0 0) (lv := .slice la (flen f) lc) rfl QOK rfl z6' hR he7 hf6 hrd6 ?_
            exact HX.out
          · intro s W5 he5 hf5
            have q := QNO s W5 (by rw [HE.out]; unfold rListOf; rw [he5]) (hwt.trans hf5)
            obtain ⟨ch, hch⟩ : ∃ ch, gives s = .panicked ch := ⟨_, rfl⟩
            rw [hch] at q ⊢
            clear hch RA B5 Z5
            go_wp2_with fail
            exact ⟨rfl, q⟩
end Go.Proofs.Ytikoddlidhefpaa
