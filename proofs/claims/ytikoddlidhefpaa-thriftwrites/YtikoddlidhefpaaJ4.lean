/-
  The reader's texts, real numbers and numbers with a sign.
-/
import Derived.Test.YtikoddlidhefpaaJ3
import Derived.Deep.RegionWith
import Derived.Deep.RegionHeld3
import Derived.Carry
namespace Go.Proofs.Ytikoddlidhefpaa
set_option linter.unusedVariables false
set_option linter.unusedSimpArgs false
open Go.ChangeShapes Go.WideShapes Go.ChangeAt Go.RowKit Go.Deep

/-- the box of an answer -/
abbrev zbox (w : World) : World := w.alloc (.cells #[.int .i64 0, .int .i64 0, .int .i64 0, .int .i64 0, .string { data := #[] }, .slice none 0 0, .slice none 0 0] 26)

def rTextV (bs : List Nat) : RV := match rNum 0 1048576 bs with
  | .error s => .error s
  | .ok (n, r) => match rText n r with
    | .error s => .error s
    | .ok (x, q) => .ok ((⟨8, 0, 0, 0, x, []⟩, .nil), q)
theorem rNumF_le {least most : Nat} : ∀ {f n s : Nat} {bs : List Nat} {k : Nat} {r : List Nat}, n ≤ most → rNumF least most f n s bs = .ok (k, r) → k ≤ most
  | _, _, _, [], _, _, _, h => by simp [rNumF] at h
  | 0, _, _, _ :: _, _, _, _, h => by simp [rNumF] at h
  | f + 1, n, s, c :: r, k, q, hn, h => by
    unfold rNumF at h
    split at h
    · cases h
    · rename_i h1
      have h2 : c % 128 * 2 ^ s ≤ most - n := by
        have h3 : c % 128 * 2 ^ s ≤ (most - n) / 2 ^ s * 2 ^ s := Nat.mul_le_mul_right _ (by omega)
        exact Nat.le_trans h3 (Nat.div_mul_le_self _ _)
      split at h
      · split at h
        · cases h
        · exact rNumF_le (by omega) h
      · split at h
        · cases h
        · cases h
          omega
theorem rNum_le {least most : Nat} {bs : List Nat} {k : Nat} {r : List Nat} (h : rNum least most bs = .ok (k, r)) : k ≤ most := rNumF_le (Nat.zero_le _) h

theorem txt_size (l : List Nat) : (txt l).size = l.length := by
  simp [txt, strOfNums, ByteArray.size]

set_option maxRecDepth 10000 in
set_option maxHeartbeats 1000000 in
theorem text_any (w0 w : World) (R m : Nat) (bs : List Nat) (room : Int) (h : Rd w0 w R m bs room) : TakesV 81 #[.pointer (some ⟨R, 0, none⟩)] w0 w R m room (rTextV bs) := by
  intro Q QOK QNO
  have hab : Below w.heap.size w (zbox w) := alloc_below w _
  have hR := h.lt
  have K := takeNumber_any w0 _ R m bs room 0 1048576 (by omega) (by omega) (h.later hab)
  cases hn : rNum 0 1048576 bs with
  | error s =>
    have HE : Hid (rTextV bs = .error s) := by show _ = _; simp [rTextV, hn]
    have K' := K.no hn
    clear K hn
    go_enter Try.func81, Try.ntmps81
    go_wp2_with fail
    refine K'.mono ?_
    rintro e wx ⟨rfl, hf⟩
    have q := QNO s wx HE.out ((RF.of_below hab).trans hf)
    obtain ⟨ch, hch⟩ : ∃ ch, gives s = .panicked ch := ⟨_, rfl⟩
    rw [hch] at q ⊢
    clear hch
    go_wp2_with fail
    exact ⟨rfl, q⟩
  | ok nr =>
    obtain ⟨n, r⟩ := nr
    have hle := rNum_le hn
    have K' := K.ok hn
    have hle' : (n : Int) ≤ 1048576 := by omega
    cases ht : rText n r with
    | error s =>
      have HE : Hid (rTextV bs = .error s) := by show _ = _; simp [rTextV, hn, ht]
      have HT : Hid (rText n r = .error s) := ht
      clear K hn ht
      go_enter Try.func81, Try.ntmps81
      go_wp2_with fail
      refine K'.mono ?_
      rintro e wx ⟨rfl, hrd, hf⟩
      have T := (takeText_any w0 wx R m r room n hle hrd).no HT.out
      go_wp2_with fail
      refine T.mono ?_
      rintro e wy ⟨rfl, hf2⟩
      have q := QNO s wy HE.out ((RF.of_below hab).trans (hf.trans hf2))
      obtain ⟨ch, hch⟩ : ∃ ch, gives s = .panicked ch := ⟨_, rfl⟩
      rw [hch] at q ⊢
      clear hch
      go_wp2_with fail
      exact ⟨rfl, q⟩
    | ok xq =>
      obtain ⟨x, q⟩ := xq
      have HE : Hid (rTextV bs = .ok ((⟨8, 0, 0, 0, x, []⟩, .nil), q)) := by show _ = _; simp [rTextV, hn, ht]
      have HT : Hid (rText n r = .ok (x, q)) := ht
      have hxs : x.size ≤ 1048576 := by
        unfold rText at ht
        split at ht
        · cases ht
        · cases ht
          rw [txt_size, List.length_take]
          omega
      have z0 : i64ok 0 := ⟨by omega, by omega⟩
      have HP : Hid (PayOk ⟨8, 0, 0, 0, x, []⟩) := ⟨(⟨by omega, by omega⟩ : i64ok 8), z0, z0, z0, Nat.le_trans hxs (by decide), Nat.zero_le _, fun _ h => by cases h⟩
      clear K hn ht hxs
      go_enter Try.func81, Try.ntmps81
      go_wp2_with fail
      refine K'.mono ?_
      rintro e wx ⟨rfl, hrd, hf⟩
      have T := (takeText_any w0 wx R m r room n hle hrd).ok HT.out
      go_wp2_with fail
      refine T.mono ?_
      rintro e wy ⟨rfl, hrd2, hf2⟩
      have hb2 := (hf.trans hf2).box (heap_new w _) (Nat.ne_of_gt hR)
      obtain ⟨⟨z0, z1, z2, z3, z4, z5, z6⟩, f0, f1, f2, f3, f4, f5, f6⟩ := blk7 hb2
      go_wp2_with fail
      exact finish (p := ⟨8, 0, 0, 0, x, []⟩) (c := .nil) rfl QOK rfl hb2 hR HE.out ((RF.of_below hab).trans (hf.trans hf2)) hrd2 (vx_leaf HP.out rfl)

/-- eight bytes, the lowest ahead, taken one by one -/
def rDblF : Nat → Nat → List Nat → Except Bool (Nat × List Nat)
  | 0, n, bs => .ok (n, bs)
  | _ + 1, _, [] => .error true
  | k + 1, n, c :: r => rDblF k (n / 256 + c * 72057594037927936) r
def rDouble (bs : List Nat) : RV := match rDblF 8 0 bs with
  | .error s => .error s
  | .ok (n, r) => .ok ((scal 7 (wrap64 (n : Int)), .nil), r)
theorem wrapEq (x : Int) : IntKind.i64.wrap x = wrap64 x := by rw [IntKind.wrap_i64]; unfold wrap64; omega
theorem rDblF_zero (n : Nat) (bs : List Nat) : rDblF 0 n bs = .ok (n, bs) := by cases bs <;> rfl
theorem rDblF_nil (k n : Nat) : rDblF (k + 1) n [] = .error true := rfl
theorem wrap64_ok (x : Int) : i64ok (wrap64 x) := by unfold wrap64 i64ok; omega
theorem or_hi (a c : Nat) (ha : a < 72057594037927936) (hc : c < 256) : bits .or .u64 (a : Int) ((c * 72057594037927936 : Nat) : Int) = ((a + c * 72057594037927936 : Nat) : Int) := by
  have := or_add a c 56 ha (by simp only [Nat.reducePow]; omega)
  simpa using this

set_option maxRecDepth 10000 in
set_option maxHeartbeats 2000000 in
theorem double_any (w0 w : World) (R m : Nat) (bs : List Nat) (room : Int) (h : Rd w0 w R m bs room) : TakesV 80 #[.pointer (some ⟨R, 0, none⟩)] w0 w R m room (rDouble bs) := by
  intro Q QOK QNO
  have hab : Below w.heap.size w (zbox w) := alloc_below w _
  have hR := h.lt
  go_enter Try.func80, Try.ntmps80
  go_wp2_with fail
  go_loopw [3, 4] (fun nv iv wr => ∃ (i n : Nat) (l : List Nat), nv = .int .u64 n ∧ iv = .int .i64 i ∧ i ≤ 8 ∧ Hid (n < 18446744073709551616 ∧ rDblF (8 - i) n l = rDblF 8 0 bs) ∧ Hid (Rd w0 wr R m l room) ∧ RF R (zbox w) wr) (fun _ iv _ => 8 - (intOf iv).toNat)
  case atStart => exact ⟨0, 0, bs, rfl, rfl, by omega, ⟨by omega, rfl⟩, h.later hab, RF.refl _ _⟩
  case round =>
    obtain ⟨i, n, l, rfl, rfl, hi, HN, HD, hf⟩ := hrel
    by_cases hlt : i < 8
    · have hlt' : (i : Int) < 8 := by omega
      obtain ⟨k, hk⟩ : ∃ k, 8 - i = k + 1 := ⟨7 - i, by omega⟩
      obtain ⟨n1, n2⟩ := HN.out
      rw [hk] at n2
      obtain ⟨q, hq⟩ : ∃ q : Nat, q = n / 256 := ⟨_, rfl⟩
      have o1 : (n : Int) / 256 = (q : Int) := by omega
      have q1 : q < 72057594037927936 := by omega
      cases l with
      | nil =>
        have HE : Hid (rDouble bs = .error true) := by show _ = _; rw [rDblF_nil] at n2; simp only [rDouble, ← n2]
        have K := take_nil w0 wr R m room HD.out
        clear n2 hk hq HN
        go_wp2_with fail
        refine K.mono ?_
        rintro e wx ⟨rfl, hwx⟩
        obtain rfl := hwx.symm
        unfold gives
        go_wp2_with fail
        exact ⟨rfl, QNO true _ HE.out ((RF.of_below hab).trans hf)⟩
      | cons c l =>
        have K := take_cons w0 wr R m c l room HD.out
        have hc := HD.out.b8 c (by simp)
        have o2 := or_hi q c q1 hc
        obtain ⟨S, hS⟩ : ∃ S : Nat, S = c * 72057594037927936 := ⟨_, rfl⟩
        obtain ⟨N, hN⟩ : ∃ N : Nat, N = q + S := ⟨_, rfl⟩
        rw [← hS, ← hN] at o2
        have o3 : IntKind.u64.wrap ((c : Int) * 72057594037927936) = (S : Int) := by rw [IntKind.wrap_u64]; omega
        have HN' : Hid (N < 18446744073709551616 ∧ rDblF (8 - (i + 1)) N l = rDblF 8 0 bs) := by
          refine ⟨by omega, ?_⟩
          rw [← n2, show 8 - (i + 1) = k by omega, hN, hS, hq]
          rfl
        have hc' : (c : Int) < 256 := by omega
        clear n2 hk hq HN hS hN
        go_wp2_with fail
        refine K.mono ?_
        rintro e wx ⟨rfl, hrd, hfx⟩
        go_wp2_with fail
        go_roundw
        case rel => exact ⟨i + 1, N, l, rfl, by go_num, by omega, HN', hrd, hf.trans hfx⟩
        case measure => simp [intOf]; omega
    · have hlt' : (8 : Int) ≤ (i : Int) := by omega
      obtain ⟨n1, n2⟩ := HN.out
      rw [show 8 - i = 0 by omega] at n2
      obtain ⟨V, hV⟩ : ∃ V : Int, wrap64 (n : Int) = V := ⟨_, rfl⟩
      have HE : Hid (rDouble bs = .ok ((scal 7 V, .nil), l)) := by show _ = _; rw [rDblF_zero] at n2; simp only [rDouble, ← n2, hV]
      have hV2 : IntKind.i64.wrap (n : Int) = V := by rw [← hV]; exact wrapEq _
      have hVok : i64ok V := by rw [← hV]; exact wrap64_ok _
      have hb2 := hf.box (heap_new w _) (Nat.ne_of_gt hR)
      obtain ⟨⟨z0, z1, z2, z3, z4, z5, z6⟩, f0, f1, f2, f3, f4, f5, f6⟩ := blk7 hb2
      have HD' : Hid (Rd w0 wr R m l room) := HD
      clear n2 HN
      go_wp2_with fail
      exact finish (p := scal 7 V) (c := .nil) rfl QOK rfl hb2 hR HE.out ((RF.of_below hab).trans hf) HD'.out (vx_leaf (scal_ok ⟨by omega, by omega⟩ hVok) rfl)

theorem xor_ones_i64 (a : Nat) (ha : a < 9223372036854775808) : bits .xor .i64 (a : Int) (-1) = -1 - (a : Int) := by
  show IntKind.i64.wrap ((BitVec.ofInt 64 (a : Int) ^^^ BitVec.ofInt 64 (-1)).toNat : Int) = _
  have h1 : BitVec.ofInt 64 (-1) = BitVec.allOnes 64 := by decide
  rw [h1, BitVec.xor_allOnes, BitVec.toNat_not, ofInt_u64 a (by omega)]
  simp [IntKind.wrap, IntKind.bits, IntKind.signed]
  omega
theorem xor_zero_i64 (a : Nat) (ha : a < 9223372036854775808) : bits .xor .i64 (a : Int) 0 = (a : Int) := by
  show IntKind.i64.wrap ((BitVec.ofInt 64 (a : Int) ^^^ BitVec.ofInt 64 0).toNat : Int) = _
  have h1 : BitVec.ofInt 64 0 = 0#64 := by decide
  rw [h1, BitVec.xor_zero, ofInt_u64 a (by omega)]
  simp [IntKind.wrap, IntKind.bits, IntKind.signed]
  omega
def uzz (n : Int) : Int := if n % 2 = 0 then n / 2 else -(n / 2) - 1
theorem unzig_val (a : Int) (h1 : 0 ≤ a) (h2 : a ≤ 18446744073709551615) :
    bits BinOp.xor IntKind.i64 (a / 2) (wrap64 (-wrap64 (bits BinOp.and IntKind.u64 a 1))) = uzz a := by
  have e : bits BinOp.and IntKind.u64 a 1 = a % 2 := by
    have := u64_and a 1 h1 (by omega) (by omega) (by omega)
    rw [this]
    have := nat_mask1 a.toNat
    simp [this]
    omega
  rw [e]
  unfold wrap64 uzz
  by_cases h : a % 2 = 0
  · rw [if_pos h, h]
    have e1 : a / 2 = ((a / 2).toNat : Int) := by omega
    rw [e1]
    simpa using xor_zero_i64 (a / 2).toNat (by omega)
  · rw [if_neg h]
    have e2 : a % 2 = 1 := by omega
    rw [e2]
    have e1 : a / 2 = ((a / 2).toNat : Int) := by omega
    rw [e1]
    have := xor_ones_i64 (a / 2).toNat (by omega)
    simp only [Int.reduceAdd, Int.reduceMod, Int.reduceSub, Int.reduceNeg]
    rw [this]
    omega

/-- a number with its sign, back -/
def unzig (n : Nat) : Int := if n % 2 = 0 then ((n / 2 : Nat) : Int) else -((n / 2 : Nat) : Int) - 1
def rSigned (k : Int) (most : Nat) (bs : List Nat) : RV := match rNum 0 most bs with
  | .error s => .error s
  | .ok (n, r) => .ok ((scal k (unzig n), .nil), r)
theorem unzig_ok {n : Nat} (h : n ≤ 18446744073709551615) : i64ok (unzig n) := by unfold unzig i64ok; split <;> omega

set_option maxRecDepth 10000 in
set_option maxHeartbeats 2000000 in
theorem signed1_any (w0 w : World) (R m : Nat) (bs : List Nat) (room : Int) (b1 b2 b3 : Nat) (k : Int) (most : Nat) (hk : i64ok k) (hm : most ≤ 18446744073709551615) (h : Rd w0 w R m bs room)
    (c1 : w.cell? ⟨b1, 0, none⟩ = some (.pointer (some ⟨R, 0, none⟩))) (c2 : w.cell? ⟨b2, 0, none⟩ = some (.int .u64 most)) (c3 : w.cell? ⟨b3, 0, none⟩ = some (.int .i64 k)) (n1 : b1 ≠ R) (n2 : b2 ≠ R) (n3 : b3 ≠ R) :
    TakesV 93 #[.pointer (some ⟨b1, 0, none⟩), .pointer (some ⟨b2, 0, none⟩), .pointer (some ⟨b3, 0, none⟩)] w0 w R m room (rSigned k most bs) := by
  intro Q QOK QNO
  have hab : Below w.heap.size w (zbox w) := alloc_below w _
  have hR := h.lt
  have l1 : b1 < w.heap.size := block_lt_of_cell c1
  have l2 : b2 < w.heap.size := block_lt_of_cell c2
  have l3 : b3 < w.heap.size := block_lt_of_cell c3
  have K := takeNumber_any w0 (zbox w).drew R m bs room 0 most (by omega) hm (h.later hab.drew)
  have hm' : (most : Int) ≤ 18446744073709551615 := by omega
  cases hn : rNum 0 most bs with
  | error s =>
    have HE : Hid (rSigned k most bs = .error s) := by show _ = _; simp [rSigned, hn]
    have K' := K.no hn
    clear K hn
    go_enter Try.func93, Try.ntmps93
    go_wp2_with fail
    have s0 : (zbox w).drew.cell? ⟨b1, 0, none⟩ = some (.pointer (some ⟨R, 0, none⟩)) ∧ (zbox w).drew.cell? ⟨b2, 0, none⟩ = some (.int .u64 most) := ⟨cell_later hab.drew c1, cell_later hab.drew c2⟩
    refine wp_region_held_drew (S := fun w' => w'.cell? ⟨b1, 0, none⟩ = some (.pointer (some ⟨R, 0, none⟩)) ∧ w'.cell? ⟨b2, 0, none⟩ = some (.int .u64 most)) (by kernel_rfl) s0 (fun hHeld => ?_)
    refine wpAnyH_take (i := 0) (v := ?_) rfl (by kernel_rfl) (by kernel_rfl) (by kernel_rfl) (fun _ _ _ h => h) (Or.inl ⟨by rfl, ?_⟩) (by assumption) ?_
    rotate_left
    · intro w hSw
      obtain ⟨s1, s2⟩ := hSw
      go_simp
      (try with_reducible rfl)
    (try simp only [Act.put, List.setIfInBounds_toArray, List.set_cons_zero, List.set_cons_succ])
    refine wpAnyH_take (i := 1) (v := ?_) rfl (by kernel_rfl) (by kernel_rfl) (by kernel_rfl) (fun _ _ _ h => h) (Or.inl ⟨by rfl, ?_⟩) (by assumption) ?_
    rotate_left
    · intro w hSw
      obtain ⟨s1, s2⟩ := hSw
      go_simp
      (try with_reducible rfl)
    (try simp only [Act.put, List.setIfInBounds_toArray, List.set_cons_zero, List.set_cons_succ])
    refine wpAnyH_take (i := 2) (v := ?_) rfl (by kernel_rfl) (by kernel_rfl) (by kernel_rfl) (fun _ _ _ h => h) (Or.inl ⟨by rfl, ?_⟩) (by assumption) ?_
    rotate_left
    · intro w hSw
      obtain ⟨s1, s2⟩ := hSw
      go_simp
      (try with_reducible rfl)
    (try simp only [Act.put, List.setIfInBounds_toArray, List.set_cons_zero, List.set_cons_succ])
    refine wpAnyH_take (i := 3) (v := ?_) rfl (by kernel_rfl) (by kernel_rfl) (by kernel_rfl) (fun _ _ _ h => h) (Or.inl ⟨by rfl, ?_⟩) (by assumption) ?_
    rotate_left
    · intro w hSw
      obtain ⟨s1, s2⟩ := hSw
      go_simp
      (try with_reducible rfl)
    (try simp only [Act.put, List.setIfInBounds_toArray, List.set_cons_zero, List.set_cons_succ])
    refine wpAnyH_ready (rs := [4]) (by kernel_rfl) (by simp) ?_
    refine AllReadyH.cons rfl (fun K hK => ?_) AllReadyH.nil
    go_simp
    refine K'.mono ?_
    rintro e wx ⟨rfl, hf⟩
    have q := QNO s wx HE.out ((RF.of_below hab.drew).trans hf)
    obtain ⟨ch, hch⟩ : ∃ ch, gives s = .panicked ch := ⟨_, rfl⟩
    rw [hch] at q ⊢
    exact ⟨rfl, q⟩
  | ok nr =>
    obtain ⟨n, r⟩ := nr
    have hle := rNum_le hn
    have HE : Hid (rSigned k most bs = .ok ((scal k (unzig n), .nil), r)) := by show _ = _; simp [rSigned, hn]
    have K' := K.ok hn
    have huz : i64ok (unzig n) := unzig_ok (by omega)
    have hn' : (n : Int) ≤ 18446744073709551615 := by omega
    have UV := unzig_val n (by omega) hn'
    have hu2 : uzz (n : Int) = unzig n := by unfold uzz unzig; split <;> split <;> omega
    rw [hu2] at UV
    clear hu2
    generalize unzig n = U at *
    clear K hn
    go_enter Try.func93, Try.ntmps93
    go_wp2_with fail
    go_region_with (go_at_call 94; refine K'.mono ?_; rintro e wx ⟨rfl, hrd, hf⟩)
    all_goals (
      have hb2 := hf.box (b := w.heap.size) (heap_new w _) (Nat.ne_of_gt hR)
      obtain ⟨⟨z0, z1, z2, z3, z4, z5, z6⟩, f0, f1, f2, f3, f4, f5, f6⟩ := blk7 hb2
      have d3 := hf.cell (cell_later hab.drew c3) n3
      go_wp2_with fail
      exact finish (p := scal k U) (c := .nil) rfl QOK rfl hb2 hR HE.out ((RF.of_below hab.drew).trans hf) hrd (vx_leaf (scal_ok hk huz) rfl))
end Go.Proofs.Ytikoddlidhefpaa

/-
  The map of the ways.
-/
namespace Go.Proofs.Ytikoddlidhefpaa
set_option linter.unusedVariables false
open Go.ChangeShapes Go.WideShapes Go.ChangeAt Go.RowKit Go.Deep

theorem run_check (e : Bool) (n : Nat) (k : Int) (w : World) : (Instr.checkKey e (n + 1) 22 (.int .i64 k)).run Try.prog w = .ok () w := by
  unfold Instr.checkKey
  rw [Sem.run_bind, run_underlying Try.underlying22 w]
  rfl
theorem run_find {es : Array MapEntry} {k : Int} {r : Option (Nat × Value)} (hf : Instr.findNow (.int .i64) (.int .i64 k) es.toList 0 = some r) (w : World) : (Instr.findKey 22 (.int .i64 k) es.toList).run Try.prog w = .ok r w := by
  unfold Instr.findKey
  rw [Sem.run_bind, run_underlying Try.underlying22 w]
  simp [hf]
theorem run_look {w : World} {m : Nat} {es : Array MapEntry} {clock : Nat} (h : w.heap[m]? = some (.map es clock)) (k : Int) {i : Nat} {v : Value} (hf : Instr.findNow (.int .i64) (.int .i64 k) es.toList 0 = some (some (i, v))) :
    (Instr.lookup 70 (.map (some m)) (.int .i64 k) true).run Try.prog w = .ok (.tuple #[v, .bool true]) w := by
  have hc : ∀ e, (Instr.checkKey e 10000 22 (.int .i64 k)).run Try.prog w = .ok () w := fun e => run_check e 9999 k w
  simp [Instr.lookup, run_underlying Try.underlying70, MapKept.run_getObj_map h, hc, run_find hf, Result.andThen]
theorem run_look_no {w : World} {m : Nat} {es : Array MapEntry} {clock : Nat} (h : w.heap[m]? = some (.map es clock)) (k : Int) (hf : Instr.findNow (.int .i64) (.int .i64 k) es.toList 0 = some none) :
    (Instr.lookup 70 (.map (some m)) (.int .i64 k) true).run Try.prog w = .ok (.tuple #[.nilFunc, .bool false]) w := by
  have hc : ∀ e, (Instr.checkKey e 10000 22 (.int .i64 k)).run Try.prog w = .ok () w := fun e => run_check e 9999 k w
  have hz : (zeroValue 67).run Try.prog w = .ok .nilFunc w := by
    have hi : (Try.prog.info? 67).map (·.zero) = some (some .nilFunc) := by kernel_rfl
    cases hq : Try.prog.info? 67 with
    | none => simp [hq] at hi
    | some i =>
      have hz : i.zero = some .nilFunc := by simpa [hq] using hi
      simp [zeroValue, typeInfo, hq, hz]
  simp [Instr.lookup, run_underlying Try.underlying70, MapKept.run_getObj_map h, hc, run_find hf, hz, Result.andThen]
theorem run_put {w : World} {m : Nat} {es : Array MapEntry} {clock : Nat} (h : w.heap[m]? = some (.map es clock)) (k : Int) (v : Value) (hf : Instr.findNow (.int .i64) (.int .i64 k) es.toList 0 = some none) :
    (Instr.mapUpdate 70 (.map (some m)) (.int .i64 k) v).run Try.prog w = .ok () { w with heap := w.heap.setIfInBounds m (.map (es.push { key := .int .i64 k, val := v, born := clock }) (clock + 1)) } := by
  have hc : ∀ e, (Instr.checkKey e 10000 22 (.int .i64 k)).run Try.prog w = .ok () w := fun e => run_check e 9999 k w
  simp [Instr.mapUpdate, run_underlying Try.underlying70, MapKept.run_getObj_map h, hc, run_find hf, MapKept.run_setObj_map _ h, Result.andThen]

theorem wpList_insert {w : World} {ops : Array Oper} {rest : List Oper} {o : Oper} {a : Act} {Q : Exit → Act → World → Prop} (hg : o.guard = none) (mo ko vo : Operand) (hop : o.op = Op.insert 70 mo ko vo)
    (m : Nat) (k : Int) (v : Value) (es : Array MapEntry) (clock : Nat) (hm : a.eval mo = .map (some m)) (hk : a.eval ko = .int .i64 k) (hv : a.eval vo = v) (hh : w.heap[m]? = some (.map es clock)) (hf : Instr.findNow (.int .i64) (.int .i64 k) es.toList 0 = some none)
    (hK : ∀ w', w'.heap[m]? = some (.map (es.push { key := .int .i64 k, val := v, born := clock }) (clock + 1)) → Only m w w' → wpList Try.prog ops Q rest (a.put o.dst undef) w') : wpList Try.prog ops Q (o :: rest) a w := by
  refine wpList_plain hg fun K' hK' => ?_
  have hrun := run_put hh k v hf
  unfold Oper.wp
  simp [execOp, hop, hm, hk, hv, hrun, Result.andThen]
  refine hK' _ _ (hK _ ?_ ⟨rfl, rfl, rfl, by simp, fun i hi => ?_⟩)
  · have hlt : m < w.heap.size := by
      rcases Nat.lt_or_ge m w.heap.size with h1 | h1
      · exact h1
      · rw [Array.getElem?_eq_none h1] at hh; cases hh
    simp [hlt]
  · simp [Ne.symm hi]

/-- what lay at blocks other than M still does -/
structure Keep (M : Nat) (w w' : World) : Prop where
  os : w'.os = w.os
  tape : w'.tape = w.tape
  output : w'.output = w.output
  size : w.heap.size ≤ w'.heap.size
  block : ∀ k, k < w.heap.size → k ≠ M → w'.heap[k]? = w.heap[k]?
theorem Keep.trans {M : Nat} {a b c : World} (h : Keep M a b) (k : Keep M b c) : Keep M a c := ⟨k.os.trans h.os, k.tape.trans h.tape, k.output.trans h.output, Nat.le_trans h.size k.size, fun i h1 h2 => by rw [k.block i (Nat.lt_of_lt_of_le h1 h.size) h2, h.block i h1 h2]⟩
theorem Keep.only {M : Nat} {w w' : World} (h : Only M w w') : Keep M w w' := ⟨h.os, h.tape, h.output, Nat.le_of_eq h.size, fun k _ hk => h.block k hk⟩
theorem Keep.below {M : Nat} {w w' : World} (h : Below w.heap.size w w') : Keep M w w' := ⟨h.os, h.tape, h.output, h.size, fun k h1 _ => h.block k h1⟩
theorem Keep.at {M b : Nat} {w w' : World} {o : Obj} (h : Keep M w w') (hb : w.heap[b]? = some o) (hne : b ≠ M) : w'.heap[b]? = some o := by
  have hlt : b < w.heap.size := by
    rcases Nat.lt_or_ge b w.heap.size with h1 | h1
    · exact h1
    · rw [Array.getElem?_eq_none h1] at hb; cases hb
  rw [h.block b hlt hne, hb]

/-- a way of a number with its sign: its three boxes -/
structure SBox (w : World) (R : Nat) (k : Int) (most : Nat) (v : Value) : Prop where
  is : ∃ b1 b2 b3, v = .func (.func 93) #[] #[.pointer (some ⟨b1, 0, none⟩), .pointer (some ⟨b2, 0, none⟩), .pointer (some ⟨b3, 0, none⟩)] ∧ (R < b1 ∧ R < b2 ∧ R < b3) ∧ w.heap[b1]? = some (.cells #[.pointer (some ⟨R, 0, none⟩)] 65 (0, 0)) ∧ w.heap[b2]? = some (.cells #[.int .u64 most] 59 (0, 0)) ∧ w.heap[b3]? = some (.cells #[.int .i64 k] 22 (0, 0))
/-- a way of what holds others -/
structure NBox (w : World) (R : Nat) (g : FuncId) (v : Value) : Prop where
  is : ∃ b1 b2, v = .func (.func 96) #[] #[.pointer (some ⟨b1, 0, none⟩), .pointer (some ⟨b2, 0, none⟩)] ∧ (R < b1 ∧ R < b2) ∧ w.heap[b1]? = some (.cells #[.pointer (some ⟨R, 0, none⟩)] 65 (0, 0)) ∧ w.heap[b2]? = some (.cells #[.func (.func g) #[.pointer (some ⟨R, 0, none⟩)] #[]] 67 (0, 0))
theorem SBox.kept {w w' : World} {R : Nat} {k : Int} {most : Nat} {v : Value} (h : SBox w R k most v) (hk : ∀ b (o : Array Value × TypeId), R < b → w.heap[b]? = some (.cells o.1 o.2 (0, 0)) → w'.heap[b]? = some (.cells o.1 o.2 (0, 0))) : SBox w' R k most v := by
  obtain ⟨b1, b2, b3, h1, ⟨r1, r2, r3⟩, h2, h3, h4⟩ := h.is
  exact ⟨b1, b2, b3, h1, ⟨r1, r2, r3⟩, hk b1 (_, _) r1 h2, hk b2 (_, _) r2 h3, hk b3 (_, _) r3 h4⟩
theorem NBox.kept {w w' : World} {R : Nat} {g : FuncId} {v : Value} (h : NBox w R g v) (hk : ∀ b (o : Array Value × TypeId), R < b → w.heap[b]? = some (.cells o.1 o.2 (0, 0)) → w'.heap[b]? = some (.cells o.1 o.2 (0, 0))) : NBox w' R g v := by
  obtain ⟨b1, b2, h1, ⟨r1, r2⟩, h2, h3⟩ := h.is
  exact ⟨b1, b2, h1, ⟨r1, r2⟩, hk b1 (_, _) r1 h2, hk b2 (_, _) r2 h3⟩
/-- a map is no row of cells -/
theorem Keep.cells {M : Nat} {w w' : World} {es : Array MapEntry} {c : Nat} (h : Keep M w w') (hm : w.heap[M]? = some (.map es c)) (R : Nat) : ∀ b (o : Array Value × TypeId), R < b → w.heap[b]? = some (.cells o.1 o.2 (0, 0)) → w'.heap[b]? = some (.cells o.1 o.2 (0, 0)) := by
  intro b o _ hb
  refine h.at hb ?_
  rintro rfl
  rw [hm] at hb
  cases hb

theorem below_at {W X : World} {b : Nat} {o : Obj} (h : Below W.heap.size W X) (hb : W.heap[b]? = some o) : X.heap[b]? = some o := by
  have hlt : b < W.heap.size := by
    rcases Nat.lt_or_ge b W.heap.size with h1 | h1
    · exact h1
    · rw [Array.getElem?_eq_none h1] at hb; cases hb
  rw [h.block b hlt, hb]
theorem nested_any (w : World) (R : Nat) (g : FuncId) (hR : R < w.heap.size) : Calls Try.prog 82 #[.pointer (some ⟨R, 0, none⟩), .func (.func g) #[.pointer (some ⟨R, 0, none⟩)] #[]] w fun e w' => ∃ v, e = .returned v ∧ (∃ fn a b, v = .func fn a b) ∧ NBox w' R g v ∧ Below w.heap.size w w' := by
  have hmf : ∀ (fn : Fn) (first cap : Array Value) (w : World), (Instr.makeFunc fn first cap).run Try.prog w = .ok (.func fn first cap) w := fun _ _ _ _ => rfl
  go_enter Try.func82, Try.ntmps82
  go_wp2
  go_ret
  refine ⟨_, rfl, ⟨_, _, _, rfl⟩, ⟨_, _, rfl, ⟨hR, by omega⟩, ?_, heap2_new _ _ _⟩, (alloc_below _ _).alloc (by simp) _⟩
  rw [(alloc_below _ _).block _ (by simp)]
  exact heap_new _ _
theorem signed_any (w : World) (R : Nat) (k : Int) (hR : R < w.heap.size) (hk : k = 4 ∨ k = 5 ∨ k = 6) : Calls Try.prog 79 #[.pointer (some ⟨R, 0, none⟩), .int .i64 k] w fun e w' => ∃ v, e = .returned v ∧ (∃ fn a b, v = .func fn a b) ∧ SBox w' R k (if k = 4 then 65535 else if k = 5 then 4294967295 else 18446744073709551615) v ∧ Below w.heap.size w w' := by
  have hmf : ∀ (fn : Fn) (first cap : Array Value) (w : World), (Instr.makeFunc fn first cap).run Try.prog w = .ok (.func fn first cap) w := fun _ _ _ _ => rfl
  have key : ∀ (x y z : Obj), ((((w.alloc x).alloc y).alloc z).heap[w.heap.size]? = some x ∧ (((w.alloc x).alloc y).alloc z).heap[w.heap.size + 1]? = some y ∧ (((w.alloc x).alloc y).alloc z).heap[w.heap.size + 1 + 1]? = some z) ∧ Below w.heap.size w (((w.alloc x).alloc y).alloc z) := by
    intro x y z
    refine ⟨⟨?_, ?_, ?_⟩, ((alloc_below _ _).alloc (by simp) _).alloc (by simp; omega) _⟩
    · rw [(alloc_below _ _).block _ (by simp; omega), (alloc_below _ _).block _ (by simp)]; exact heap_new _ _
    · rw [(alloc_below _ _).block _ (by simp)]; exact heap2_new _ _ _
    · have := heap2_new (w.alloc x) y z
      simpa using this
  rcases hk with rfl | rfl | rfl
  · go_enter Try.func79, Try.ntmps79
    go_wp2
    go_ret
    refine ⟨_, rfl, ⟨_, _, _, rfl⟩, ⟨_, _, _, rfl, ⟨hR, by omega, by omega⟩, (key _ _ _).1.1, (key _ _ _).1.2.2, (key _ _ _).1.2.1⟩, (key _ _ _).2⟩
  · go_enter Try.func79, Try.ntmps79
    go_wp2
    go_ret
    refine ⟨_, rfl, ⟨_, _, _, rfl⟩, ⟨_, _, _, rfl, ⟨hR, by omega, by omega⟩, (key _ _ _).1.1, (key _ _ _).1.2.2, (key _ _ _).1.2.1⟩, (key _ _ _).2⟩
  · go_enter Try.func79, Try.ntmps79
    go_wp2
    go_ret
    refine ⟨_, rfl, ⟨_, _, _, rfl⟩, ⟨_, _, _, rfl, ⟨hR, by omega, by omega⟩, (key _ _ _).1.1, (key _ _ _).1.2.2, (key _ _ _).1.2.1⟩, (key _ _ _).2⟩

/-- the map of the ways: for each Kind how a value is taken -/
def esOf (R : Nat) (v4 v5 v6 v9 v11 v12 : Value) : Array MapEntry :=
  #[⟨.int .i64 1, .func (.func 77) #[.pointer (some ⟨R, 0, none⟩)] #[], 0⟩, ⟨.int .i64 3, .func (.func 78) #[.pointer (some ⟨R, 0, none⟩)] #[], 1⟩, ⟨.int .i64 4, v4, 2⟩, ⟨.int .i64 5, v5, 3⟩, ⟨.int .i64 6, v6, 4⟩,
    ⟨.int .i64 7, .func (.func 80) #[.pointer (some ⟨R, 0, none⟩)] #[], 5⟩, ⟨.int .i64 8, .func (.func 81) #[.pointer (some ⟨R, 0, none⟩)] #[], 6⟩, ⟨.int .i64 9, v9, 7⟩, ⟨.int .i64 11, v11, 8⟩, ⟨.int .i64 12, v12, 9⟩]
structure Ways (w : World) (R M : Nat) : Prop where
  is : ∃ v4 v5 v6 v9 v11 v12, w.heap[M]? = some (.map (esOf R v4 v5 v6 v9 v11 v12) 10) ∧ SBox w R 4 65535 v4 ∧ SBox w R 5 4294967295 v5 ∧ SBox w R 6 18446744073709551615 v6 ∧ NBox w R 83 v9 ∧ NBox w R 84 v11 ∧ NBox w R 85 v12
  gt : R < M
theorem Ways.kept {w w' : World} {R M : Nat} (h : Ways w R M) (hk : ∀ b, R < b → b < w.heap.size → w'.heap[b]? = w.heap[b]?) : Ways w' R M := by
  obtain ⟨v4, v5, v6, v9, v11, v12, h0, h4, h5, h6, h9, h11, h12⟩ := h.is
  have lt : ∀ {b : Nat} {o : Obj}, w.heap[b]? = some o → b < w.heap.size := by
    intro b o hb
    rcases Nat.lt_or_ge b w.heap.size with h1 | h1
    · exact h1
    · rw [Array.getElem?_eq_none h1] at hb; cases hb
  have hc : ∀ b (o : Array Value × TypeId), R < b → w.heap[b]? = some (.cells o.1 o.2 (0, 0)) → w'.heap[b]? = some (.cells o.1 o.2 (0, 0)) := fun b o hb ho => by rw [hk b hb (lt ho), ho]
  exact ⟨⟨v4, v5, v6, v9, v11, v12, by rw [hk M h.gt (lt h0), h0], h4.kept hc, h5.kept hc, h6.kept hc, h9.kept hc, h11.kept hc, h12.kept hc⟩, h.gt⟩

set_option maxRecDepth 100000 in
set_option maxHeartbeats 1500000 in
theorem waysOf_any (w : World) (R : Nat) (hR : R < w.heap.size) : Calls Try.prog 60 #[.pointer (some ⟨R, 0, none⟩)] w fun e w' => ∃ M, e = .returned (.map (some M)) ∧ Ways w' R M ∧ Below w.heap.size w w' := by
  have hmf : ∀ (fn : Fn) (first cap : Array Value) (w : World), (Instr.makeFunc fn first cap).run Try.prog w = .ok (.func fn first cap) w := fun _ _ _ _ => rfl
  have hmm := @run_makeMap Try.prog
  have hm0 : (w.alloc (.map #[] 0)).heap[w.heap.size]? = some (.map #[] 0) := heap_new _ _
  have k0 : Keep w.heap.size w (w.alloc (.map #[] 0)) := Keep.below (alloc_below _ _)
  go_enter Try.func60, Try.ntmps60
  have hR0 : R < (w.alloc (.map #[] 0)).heap.size := by simp; omega
  go_wp2_with (first | (refine wpList_insert rfl (.tmp 3) (.const (.int .i64 1)) (.tmp 5) rfl w.heap.size 1 _ _ 0 rfl rfl rfl hm0 rfl ?_; intro W1 hm1 o1; have hr1 := Nat.lt_of_lt_of_le hR0 (Nat.le_of_eq o1.size)) | (refine wpList_insert rfl (.tmp 3) (.const (.int .i64 3)) (.tmp 7) rfl w.heap.size 3 _ _ 1 rfl rfl rfl hm1 rfl ?_; intro W3 hm3 o3; have hr3 := Nat.lt_of_lt_of_le hr1 (Nat.le_of_eq o3.size)))
  refine (signed_any _ R 4 hr3 (by omega)).mono ?_
  rintro e X4 ⟨v4, rfl, ⟨fn4, fa4, fb4, rfl⟩, s4, b4⟩
  have hmx4 := below_at b4 hm3
  have hrx4 := Nat.lt_of_lt_of_le hr3 b4.size
  go_wp2_with (first | (refine wpList_insert rfl (.tmp 3) (.const (.int .i64 4)) (.tmp 9) rfl w.heap.size 4 _ _ 2 rfl rfl rfl hmx4 rfl ?_; intro W4 hm4 o4; have hr4 := Nat.lt_of_lt_of_le hrx4 (Nat.le_of_eq o4.size)))
  refine (signed_any _ R 5 hr4 (by omega)).mono ?_
  rintro e X5 ⟨v5, rfl, ⟨fn5, fa5, fb5, rfl⟩, s5, b5⟩
  have hmx5 := below_at b5 hm4
  have hrx5 := Nat.lt_of_lt_of_le hr4 b5.size
  go_wp2_with (first | (refine wpList_insert rfl (.tmp 3) (.const (.int .i64 5)) (.tmp 11) rfl w.heap.size 5 _ _ 3 rfl rfl rfl hmx5 rfl ?_; intro W5 hm5 o5; have hr5 := Nat.lt_of_lt_of_le hrx5 (Nat.le_of_eq o5.size)))
  refine (signed_any _ R 6 hr5 (by omega)).mono ?_
  rintro e X6 ⟨v6, rfl, ⟨fn6, fa6, fb6, rfl⟩, s6, b6⟩
  have hmx6 := below_at b6 hm5
  have hrx6 := Nat.lt_of_lt_of_le hr5 b6.size
  go_wp2_with (first | (refine wpList_insert rfl (.tmp 3) (.const (.int .i64 6)) (.tmp 13) rfl w.heap.size 6 _ _ 4 rfl rfl rfl hmx6 rfl ?_; intro W6 hm6 o6; have hr6 := Nat.lt_of_lt_of_le hrx6 (Nat.le_of_eq o6.size)) | (refine wpList_insert rfl (.tmp 3) (.const (.int .i64 7)) (.tmp 15) rfl w.heap.size 7 _ _ 5 rfl rfl rfl hm6 rfl ?_; intro W7 hm7 o7; have hr7 := Nat.lt_of_lt_of_le hr6 (Nat.le_of_eq o7.size)) | (refine wpList_insert rfl (.tmp 3) (.const (.int .i64 8)) (.tmp 17) rfl w.heap.size 8 _ _ 6 rfl rfl rfl hm7 rfl ?_; intro W8 hm8 o8; have hr8 := Nat.lt_of_lt_of_le hr7 (Nat.le_of_eq o8.size)))
  refine (nested_any _ R 83 hr8).mono ?_
  rintro e X9 ⟨v9, rfl, ⟨fn9, fa9, fb9, rfl⟩, s9, b9⟩
  have hmx9 := below_at b9 hm8
  have hrx9 := Nat.lt_of_lt_of_le hr8 b9.size
  go_wp2_with (first | (refine wpList_insert rfl (.tmp 3) (.const (.int .i64 9)) (.tmp 21) rfl w.heap.size 9 _ _ 7 rfl rfl rfl hmx9 rfl ?_; intro W9 hm9 o9; have hr9 := Nat.lt_of_lt_of_le hrx9 (Nat.le_of_eq o9.size)))
  refine (nested_any _ R 84 hr9).mono ?_
  rintro e X11 ⟨v11, rfl, ⟨fn11, fa11, fb11, rfl⟩, s11, b11⟩
  have hmx11 := below_at b11 hm9
  have hrx11 := Nat.lt_of_lt_of_le hr9 b11.size
  go_wp2_with (first | (refine wpList_insert rfl (.tmp 3) (.const (.int .i64 11)) (.tmp 25) rfl w.heap.size 11 _ _ 8 rfl rfl rfl hmx11 rfl ?_; intro W11 hm11 o11; have hr11 := Nat.lt_of_lt_of_le hrx11 (Nat.le_of_eq o11.size)))
  refine (nested_any _ R 85 hr11).mono ?_
  rintro e X12 ⟨v12, rfl, ⟨fn12, fa12, fb12, rfl⟩, s12, b12⟩
  have hmx12 := below_at b12 hm11
  have hrx12 := Nat.lt_of_lt_of_le hr11 b12.size
  go_wp2_with (first | (refine wpList_insert rfl (.tmp 3) (.const (.int .i64 12)) (.tmp 29) rfl w.heap.size 12 _ _ 9 rfl rfl rfl hmx12 rfl ?_; intro W12 hm12 o12; have hr12 := Nat.lt_of_lt_of_le hrx12 (Nat.le_of_eq o12.size)))
  go_ret
  have q4 := Keep.cells (M := w.heap.size) ((Keep.only o4).trans ((Keep.below b5).trans ((Keep.only o5).trans ((Keep.below b6).trans ((Keep.only o6).trans ((Keep.only o7).trans ((Keep.only o8).trans ((Keep.below b9).trans ((Keep.only o9).trans ((Keep.below b11).trans ((Keep.only o11).trans ((Keep.below b12).trans ((Keep.only o12)))))))))))))) hmx4 R
  have q5 := Keep.cells (M := w.heap.size) ((Keep.only o5).trans ((Keep.below b6).trans ((Keep.only o6).trans ((Keep.only o7).trans ((Keep.only o8).trans ((Keep.below b9).trans ((Keep.only o9).trans ((Keep.below b11).trans ((Keep.only o11).trans ((Keep.below b12).trans ((Keep.only o12)))))))))))) hmx5 R
  have q6 := Keep.cells (M := w.heap.size) ((Keep.only o6).trans ((Keep.only o7).trans ((Keep.only o8).trans ((Keep.below b9).trans ((Keep.only o9).trans ((Keep.below b11).trans ((Keep.only o11).trans ((Keep.below b12).trans ((Keep.only o12)))))))))) hmx6 R
  have q9 := Keep.cells (M := w.heap.size) ((Keep.only o9).trans ((Keep.below b11).trans ((Keep.only o11).trans ((Keep.below b12).trans ((Keep.only o12)))))) hmx9 R
  have q11 := Keep.cells (M := w.heap.size) ((Keep.only o11).trans ((Keep.below b12).trans ((Keep.only o12)))) hmx11 R
  have q12 := Keep.cells (M := w.heap.size) ((Keep.only o12)) hmx12 R
  have qa := k0.trans ((Keep.only o1).trans ((Keep.only o3).trans ((Keep.below b4).trans ((Keep.only o4).trans ((Keep.below b5).trans ((Keep.only o5).trans ((Keep.below b6).trans ((Keep.only o6).trans ((Keep.only o7).trans ((Keep.only o8).trans ((Keep.below b9).trans ((Keep.only o9).trans ((Keep.below b11).trans ((Keep.only o11).trans ((Keep.below b12).trans ((Keep.only o12)))))))))))))))))
  have hbf : Below w.heap.size w W12 := ⟨qa.os, qa.tape, qa.output, qa.size, fun k hk => qa.block k hk (by omega)⟩
  exact ⟨w.heap.size, rfl, ⟨⟨_, _, _, _, _, _, hm12, s4.kept q4, s5.kept q5, s6.kept q6, s9.kept q9, s11.kept q11, s12.kept q12⟩, hR⟩, hbf⟩
end Go.Proofs.Ytikoddlidhefpaa

/-
  The reader's ways: looked up, or given up.
-/
namespace Go.Proofs.Ytikoddlidhefpaa
set_option linter.unusedVariables false
set_option linter.unusedSimpArgs false
open Go.ChangeShapes Go.WideShapes Go.ChangeAt Go.RowKit Go.Deep

theorem Ways.rf {w w' : World} {R M : Nat} (h : Ways w R M) (hf : RF R w w') : Ways w' R M := h.kept fun b hb hl => hf.block b hl (by omega)

set_option maxRecDepth 10000 in
set_option maxHeartbeats 1000000 in
theorem way_yes (w0 w : World) (R m : Nat) (bs : List Nat) (room : Int) (k : Int) (fn : Fn) (fa fb : Array Value) (h : Rd w0 w R m bs room) (hl : (Instr.lookup 70 (.map (some m)) (.int .i64 k) true).run Try.prog w = .ok (.tuple #[.func fn fa fb, .bool true]) w) (hn : nestsB k = true → ¬ room = 0) :
    Calls Try.prog 39 #[.pointer (some ⟨R, 0, none⟩), .int .i64 k] w fun e w' => e = .returned (.func fn fa fb) ∧ w' = w := by
  obtain ⟨a, cp, h1, _⟩ := h.box
  have c2 : w.cell? ⟨R, 2, none⟩ = some (.map (some m)) := cell_of_block h1 rfl
  have c1 : w.cell? ⟨R, 1, none⟩ = some (.int .i64 room) := cell_of_block h1 rfl
  have N := nests_any k w
  obtain ⟨t, HT⟩ : ∃ t, Hid (nestsB k = t) := ⟨_, rfl⟩
  rw [HT.out] at N hn
  clear h1 h
  cases t
  · go_enter Try.func39, Try.ntmps39
    go_wp2_with fail
    refine N.mono ?_
    rintro e wx ⟨rfl, hwx⟩
    obtain rfl := hwx.symm
    go_wp2_with fail
    go_ret
    exact ⟨rfl, rfl⟩
  · have hr : ¬ room = 0 := hn rfl
    clear hn
    go_enter Try.func39, Try.ntmps39
    go_wp2_with fail
    refine N.mono ?_
    rintro e wx ⟨rfl, hwx⟩
    obtain rfl := hwx.symm
    go_wp2_with fail
    go_ret
    exact ⟨rfl, rfl⟩
set_option maxRecDepth 10000 in
set_option maxHeartbeats 1000000 in
theorem way_deep (w0 w : World) (R m : Nat) (bs : List Nat) (k : Int) (fn : Fn) (fa fb : Array Value) (h : Rd w0 w R m bs 0) (hl : (Instr.lookup 70 (.map (some m)) (.int .i64 k) true).run Try.prog w = .ok (.tuple #[.func fn fa fb, .bool true]) w) (hn : nestsB k = true) :
    Calls Try.prog 39 #[.pointer (some ⟨R, 0, none⟩), .int .i64 k] w fun e w' => e = gives false ∧ w' = w := by
  obtain ⟨a, cp, h1, _⟩ := h.box
  have c2 : w.cell? ⟨R, 2, none⟩ = some (.map (some m)) := cell_of_block h1 rfl
  have c1 : w.cell? ⟨R, 1, none⟩ = some (.int .i64 0) := cell_of_block h1 rfl
  have N := nests_any k w
  rw [hn] at N
  clear h1 h hn
  go_enter Try.func39, Try.ntmps39
  go_wp2_with fail
  refine N.mono ?_
  rintro e wx ⟨rfl, hwx⟩
  obtain rfl := hwx.symm
  go_wp2_with fail
  exact ⟨rfl, rfl, rfl⟩
set_option maxRecDepth 10000 in
set_option maxHeartbeats 1000000 in
theorem way_no (w0 w : World) (R m : Nat) (bs : List Nat) (room : Int) (k : Int) (h : Rd w0 w R m bs room) (hl : (Instr.lookup 70 (.map (some m)) (.int .i64 k) true).run Try.prog w = .ok (.tuple #[.nilFunc, .bool false]) w) :
    Calls Try.prog 39 #[.pointer (some ⟨R, 0, none⟩), .int .i64 k] w fun e w' => e = gives false ∧ w' = w := by
  obtain ⟨a, cp, h1, _⟩ := h.box
  have c2 : w.cell? ⟨R, 2, none⟩ = some (.map (some m)) := cell_of_block h1 rfl
  clear h1 h
  go_enter Try.func39, Try.ntmps39
  go_wp2_with fail
  exact ⟨rfl, rfl, rfl⟩

/-- the way of a Kind -/
def WayIs (w : World) (R : Nat) (k : Int) (v : Value) : Prop :=
  (k = 1 ∧ v = .func (.func 77) #[.pointer (some ⟨R, 0, none⟩)] #[]) ∨ (k = 3 ∧ v = .func (.func 78) #[.pointer (some ⟨R, 0, none⟩)] #[]) ∨ (k = 4 ∧ SBox w R 4 65535 v) ∨ (k = 5 ∧ SBox w R 5 4294967295 v) ∨ (k = 6 ∧ SBox w R 6 18446744073709551615 v) ∨
  (k = 7 ∧ v = .func (.func 80) #[.pointer (some ⟨R, 0, none⟩)] #[]) ∨ (k = 8 ∧ v = .func (.func 81) #[.pointer (some ⟨R, 0, none⟩)] #[]) ∨ (k = 9 ∧ NBox w R 83 v) ∨ (k = 11 ∧ NBox w R 84 v) ∨ (k = 12 ∧ NBox w R 85 v)
theorem SBox.func {w : World} {R : Nat} {k : Int} {most : Nat} {v : Value} (h : SBox w R k most v) : ∃ fn fa fb, v = .func fn fa fb := by
  obtain ⟨b1, b2, b3, h1, _⟩ := h.is
  exact ⟨_, _, _, h1⟩
theorem NBox.func {w : World} {R : Nat} {g : FuncId} {v : Value} (h : NBox w R g v) : ∃ fn fa fb, v = .func fn fa fb := by
  obtain ⟨b1, b2, h1, _⟩ := h.is
  exact ⟨_, _, _, h1⟩
/-- the look-up -/
theorem ways_look {w : World} {R M : Nat} (h : Ways w R M) (k : Int) (hk : knownB k = true) : ∃ fn fa fb, (Instr.lookup 70 (.map (some M)) (.int .i64 k) true).run Try.prog w = .ok (.tuple #[.func fn fa fb, .bool true]) w ∧ WayIs w R k (.func fn fa fb) := by
  obtain ⟨v4, v5, v6, v9, v11, v12, h0, h4, h5, h6, h9, h11, h12⟩ := h.is
  obtain ⟨f4, a4, b4, rfl⟩ := h4.func
  obtain ⟨f5, a5, b5, rfl⟩ := h5.func
  obtain ⟨f6, a6, b6, rfl⟩ := h6.func
  obtain ⟨f9, a9, b9, rfl⟩ := h9.func
  obtain ⟨f11, a11, b11, rfl⟩ := h11.func
  obtain ⟨f12, a12, b12, rfl⟩ := h12.func
  rw [known_true] at hk
  have hkk : k = 1 ∨ k = 3 ∨ k = 4 ∨ k = 5 ∨ k = 6 ∨ k = 7 ∨ k = 8 ∨ k = 9 ∨ k = 11 ∨ k = 12 := by omega
  rcases hkk with rfl | rfl | rfl | rfl | rfl | rfl | rfl | rfl | rfl | rfl
  · exact ⟨_, _, _, run_look h0 1 (i := 0) rfl, .inl ⟨rfl, rfl⟩⟩
  · exact ⟨_, _, _, run_look h0 3 (i := 1) rfl, .inr (.inl ⟨rfl, rfl⟩)⟩
  · exact ⟨_, _, _, run_look h0 4 (i := 2) rfl, .inr (.inr (.inl ⟨rfl, h4⟩))⟩
  · exact ⟨_, _, _, run_look h0 5 (i := 3) rfl, .inr (.inr (.inr (.inl ⟨rfl, h5⟩)))⟩
  · exact ⟨_, _, _, run_look h0 6 (i := 4) rfl, .inr (.inr (.inr (.inr (.inl ⟨rfl, h6⟩))))⟩
  · exact ⟨_, _, _, run_look h0 7 (i := 5) rfl, .inr (.inr (.inr (.inr (.inr (.inl ⟨rfl, rfl⟩)))))⟩
  · exact ⟨_, _, _, run_look h0 8 (i := 6) rfl, .inr (.inr (.inr (.inr (.inr (.inr (.inl ⟨rfl, rfl⟩))))))⟩
  · exact ⟨_, _, _, run_look h0 9 (i := 7) rfl, .inr (.inr (.inr (.inr (.inr (.inr (.inr (.inl ⟨rfl, h9⟩)))))))⟩
  · exact ⟨_, _, _, run_look h0 11 (i := 8) rfl, .inr (.inr (.inr (.inr (.inr (.inr (.inr (.inr (.inl ⟨rfl, h11⟩))))))))⟩
  · exact ⟨_, _, _, run_look h0 12 (i := 9) rfl, .inr (.inr (.inr (.inr (.inr (.inr (.inr (.inr (.inr ⟨rfl, h12⟩))))))))⟩
theorem ways_look_no {w : World} {R M : Nat} (h : Ways w R M) (k : Int) (hk : knownB k = false) : (Instr.lookup 70 (.map (some M)) (.int .i64 k) true).run Try.prog w = .ok (.tuple #[.nilFunc, .bool false]) w := by
  obtain ⟨v4, v5, v6, v9, v11, v12, h0, _⟩ := h.is
  refine run_look_no h0 k ?_
  have hn : ¬ (k = 1 ∨ (3 ≤ k ∧ k ≤ 9) ∨ k = 11 ∨ k = 12) := by rw [← known_true, hk]; simp
  have n1 : (k == 1) = false := by simp; omega
  have n3 : (k == 3) = false := by simp; omega
  have n4 : (k == 4) = false := by simp; omega
  have n5 : (k == 5) = false := by simp; omega
  have n6 : (k == 6) = false := by simp; omega
  have n7 : (k == 7) = false := by simp; omega
  have n8 : (k == 8) = false := by simp; omega
  have n9 : (k == 9) = false := by simp; omega
  have n11 : (k == 11) = false := by simp; omega
  have n12 : (k == 12) = false := by simp; omega
  simp [esOf, Instr.findNow, Instr.sameNow, n1, n3, n4, n5, n6, n7, n8, n9, n11, n12]
/-- way: how a value of a Kind is taken, if the Kind is one and there is room -/
def wayOk (k room : Int) : Bool := knownB k && !(nestsB k && room == 0)
theorem way_ok (w0 w : World) (R m : Nat) (bs : List Nat) (room k : Int) (h : Rd w0 w R m bs room) (hw : Ways w R m) (ho : wayOk k room = true) :
    Calls Try.prog 39 #[.pointer (some ⟨R, 0, none⟩), .int .i64 k] w fun e w' => (∃ fn fa fb, e = .returned (.func fn fa fb) ∧ WayIs w R k (.func fn fa fb)) ∧ w' = w := by
  simp only [wayOk, Bool.and_eq_true, Bool.not_eq_true', Bool.and_eq_false_iff] at ho
  obtain ⟨fn, fa, fb, hl, hi⟩ := ways_look hw k ho.1
  refine (way_yes w0 w R m bs room k fn fa fb h hl (fun hn hr => ?_)).mono fun e w' ⟨h1, h2⟩ => ⟨⟨fn, fa, fb, h1, hi⟩, h2⟩
  rcases ho.2 with h1 | h1
  · rw [hn] at h1; cases h1
  · subst hr; simp at h1
theorem way_bad (w0 w : World) (R m : Nat) (bs : List Nat) (room k : Int) (h : Rd w0 w R m bs room) (hw : Ways w R m) (ho : wayOk k room = false) :
    Calls Try.prog 39 #[.pointer (some ⟨R, 0, none⟩), .int .i64 k] w fun e w' => e = gives false ∧ w' = w := by
  cases hk : knownB k
  · exact way_no w0 w R m bs room k h (ways_look_no hw k hk)
  · obtain ⟨fn, fa, fb, hl, hi⟩ := ways_look hw k hk
    simp only [wayOk, hk, Bool.true_and, Bool.not_eq_false', Bool.and_eq_true] at ho
    have hr : room = 0 := by simpa using ho.2
    subst hr
    exact way_deep w0 w R m bs k fn fa fb h hl ho.1
end Go.Proofs.Ytikoddlidhefpaa

/-
  The reader's numbers of fields, and their ways.
-/
namespace Go.Proofs.Ytikoddlidhefpaa
set_option linter.unusedVariables false
set_option linter.unusedSimpArgs false
open Go.ChangeShapes Go.WideShapes Go.ChangeAt Go.RowKit Go.Deep

def rFar (least : Nat) (bs : List Nat) : Except Bool (Nat × List Nat) :=
  if 32767 < least then .error false else match bs with
    | [] => .error true
    | c :: l => if c % 2 = 1 then .error false else match rNum (2 * least) 65534 (c :: l) with
      | .error s => .error s
      | .ok (n, r) => .ok (n / 2, r)
set_option maxRecDepth 10000 in
set_option maxHeartbeats 1000000 in
theorem farID_any (w0 w : World) (R m : Nat) (bs : List Nat) (room : Int) (least : Nat) (hl : least ≤ 100000) (h : Rd w0 w R m bs room) : Takes 104 #[.pointer (some ⟨R, 0, none⟩), .int .i64 least] w0 w R m room (rFar least bs) (fun n : Nat => .int .i64 n) := by
  refine takes_of fun Q QOK QNO => ?_
  have hl' : (least : Int) ≤ 100000 := by omega
  by_cases h1 : 32767 < least
  · have HE : Hid (rFar least bs = .error false) := by show _ = _; simp [rFar, h1]
    have h1' : (32767 : Int) < (least : Int) := by omega
    go_enter Try.func104, Try.ntmps104
    go_wp2_with fail
    exact ⟨rfl, QNO false _ HE.out (RF.refl _ _)⟩
  have h1' : (least : Int) ≤ 32767 := by omega
  cases bs with
  | nil =>
    have HE : Hid (rFar least [] = .error true) := by show _ = _; simp [rFar, h1]
    have K := peek_nil w0 w R m room h
    go_enter Try.func104, Try.ntmps104
    go_wp2_with fail
    refine K.mono ?_
    rintro e wx ⟨rfl, hwx⟩
    obtain rfl := hwx.symm
    unfold gives
    go_wp2_with fail
    exact ⟨rfl, QNO true _ HE.out (RF.refl _ _)⟩
  | cons c l =>
    have K := peek_cons w0 w R m c l room h
    have hc := h.b8 c (by simp)
    have hc' : (c : Int) < 256 := by omega
    by_cases h2 : c % 2 = 1
    · have HE : Hid (rFar least (c :: l) = .error false) := by show _ = _; simp [rFar, h1, h2]
      have h2' : (c : Int) % 2 = 1 := by omega
      clear h2
      go_enter Try.func104, Try.ntmps104
      go_wp2_with fail
      refine K.mono ?_
      rintro e wx ⟨rfl, hwx⟩
      obtain rfl := hwx.symm
      go_wp2_with fail
      exact ⟨rfl, QNO false _ HE.out (RF.refl _ _)⟩
    · have h2' : (c : Int) % 2 = 0 := by omega
      obtain ⟨L2, hL2⟩ : ∃ L : Nat, L = 2 * least := ⟨_, rfl⟩
      have T := takeNumber_any w0 w R m (c :: l) room L2 65534 (by omega) (by omega) h
      have hL2' : (2 : Int) * (least : Int) = (L2 : Int) := by omega
      cases hn : rNum (2 * least) 65534 (c :: l) with
      | error s =>
        have HE : Hid (rFar least (c :: l) = .error s) := by show _ = _; simp [rFar, h1, h2, hn]
        rw [← hL2] at hn
        have T' := T.no hn
        clear hn hL2 T h2
        go_enter Try.func104, Try.ntmps104
        go_wp2_with fail
        refine K.mono ?_
        rintro e wx ⟨rfl, hwx⟩
        obtain rfl := hwx.symm
        go_wp2_with fail
        refine T'.mono ?_
        rintro e wy ⟨rfl, hf⟩
        have q := QNO s wy HE.out hf
        obtain ⟨ch, hch⟩ : ∃ ch, gives s = .panicked ch := ⟨_, rfl⟩
        rw [hch] at q ⊢
        clear hch
        go_wp2_with fail
        exact ⟨rfl, q⟩
      | ok nr =>
        obtain ⟨n, r⟩ := nr
        have hle := rNum_le hn
        obtain ⟨n2, hn2⟩ : ∃ x : Nat, x = n / 2 := ⟨_, rfl⟩
        have HE : Hid (rFar least (c :: l) = .ok (n2, r)) := by show _ = _; simp [rFar, h1, h2, hn, hn2]
        have hn2' : (n : Int) / 2 = (n2 : Int) := by omega
        have hle' : (n2 : Int) ≤ 32767 := by omega
        rw [← hL2] at hn
        have T' := T.ok hn
        clear hn hL2 T h2 hn2
        go_enter Try.func104, Try.ntmps104
        go_wp2_with fail
        refine K.mono ?_
        rintro e wx ⟨rfl, hwx⟩
        obtain rfl := hwx.symm
        go_wp2_with fail
        refine T'.mono ?_
        rintro e wy ⟨rfl, hrd, hf⟩
        go_wp2_with fail
        exact QOK n2 r _ HE.out hf hrd

def rID (ahead step : Nat) (bs : List Nat) : Except Bool (Nat × List Nat) :=
  if step = 0 then rFar (ahead + 16) bs else if 32767 < ahead + step then .error false else .ok (ahead + step, bs)
set_option maxRecDepth 10000 in
set_option maxHeartbeats 1000000 in
theorem fieldID_any (w0 w : World) (R m : Nat) (bs : List Nat) (room : Int) (ahead step : Nat) (ha : ahead ≤ 32767) (hs : step ≤ 15) (h : Rd w0 w R m bs room) : Takes 100 #[.pointer (some ⟨R, 0, none⟩), .int .i64 ahead, .int .i64 step] w0 w R m room (rID ahead step bs) (fun n : Nat => .int .i64 n) := by
  refine takes_of fun Q QOK QNO => ?_
  have ha' : (ahead : Int) ≤ 32767 := by omega
  have hs' : (step : Int) ≤ 15 := by omega
  by_cases h0 : step = 0
  · subst h0
    obtain ⟨L, hL⟩ : ∃ L : Nat, L = ahead + 16 := ⟨_, rfl⟩
    have hL' : (ahead : Int) + 15 + 1 = (L : Int) := by omega
    have F := farID_any w0 w R m bs room L (by omega) h
    cases hn : rFar L bs with
    | error s =>
      have HE : Hid (rID ahead 0 bs = .error s) := by show _ = _; simp [rID, ← hL, hn]
      have F' := F.no hn
      clear F hn hL
      go_enter Try.func100, Try.ntmps100
      go_wp2_with fail
      refine F'.mono ?_
      rintro e wy ⟨rfl, hf⟩
      have q := QNO s wy HE.out hf
      obtain ⟨ch, hch⟩ : ∃ ch, gives s = .panicked ch := ⟨_, rfl⟩
      rw [hch] at q ⊢
      clear hch
      go_wp2_with fail
      exact ⟨rfl, q⟩
    | ok nr =>
      obtain ⟨n, r⟩ := nr
      have HE : Hid (rID ahead 0 bs = .ok (n, r)) := by show _ = _; simp [rID, ← hL, hn]
      have F' := F.ok hn
      clear F hn hL
      go_enter Try.func100, Try.ntmps100
      go_wp2_with fail
      refine F'.mono ?_
      rintro e wy ⟨rfl, hrd, hf⟩
      go_wp2_with fail
      exact QOK n r _ HE.out hf hrd
  · have h0' : ¬ (step : Int) = 0 := by omega
    obtain ⟨N, hN⟩ : ∃ N : Nat, N = ahead + step := ⟨_, rfl⟩
    have hN' : (ahead : Int) + (step : Int) = (N : Int) := by omega
    by_cases h1 : 32767 < N
    · have HE : Hid (rID ahead step bs = .error false) := by show _ = _; simp [rID, h0, ← hN, h1]
      have h1' : (32767 : Int) < (N : Int) := by omega
      clear hN
      go_enter Try.func100, Try.ntmps100
      go_wp2_with fail
      exact ⟨rfl, QNO false _ HE.out (RF.refl _ _)⟩
    · have HE : Hid (rID ahead step bs = .ok (N, bs)) := by show _ = _; simp [rID, h0, ← hN, h1]
      have h1' : (N : Int) ≤ 32767 := by omega
      clear hN
      go_enter Try.func100, Try.ntmps100
      go_wp2_with fail
      exact QOK N bs _ HE.out (RF.refl _ _) h
end Go.Proofs.Ytikoddlidhefpaa

/-
  What holds others: the room is taken and given back.
-/
namespace Go.Proofs.Ytikoddlidhefpaa
set_option linter.unusedVariables false
set_option linter.unusedSimpArgs false
open Go.ChangeShapes Go.WideShapes Go.ChangeAt Go.RowKit Go.Deep

theorem rd_room {w0 w : World} {R m : Nat} {bs : List Nat} {room : Int} (h : Rd w0 w R m bs room) (x : Int) : Rd w0 (w.setCell ⟨R, 1, none⟩ (.int .i64 x)) R m bs x := by
  obtain ⟨a, cp, h1, h2⟩ := h.box
  refine ⟨⟨a, cp, ?_, h2⟩, h.b8, h.len, h.old.trans ((RF.setCell w 1 _).below (Nat.le_of_lt h.lt) |>.mono h.le), h.le⟩
  have e := set_block (j := 1) (u := .int .i64 x) h1
  simp only [List.setIfInBounds_toArray, List.set_cons_zero, List.set_cons_succ] at e
  exact e

/-- the end of a taker, with one more box laid -/
theorem finish_alloc {fn : Func} {tm : Tmp} (hfn : fn.results = #[.cell tm 26]) {Q : Ending → World → Prop} {tmps : Array Value} {w0 w W : World} {R m : Nat} {room : Int} {res : RV} {rest : List Nat} {p : Pay} {c : Fo} {x0 x1 x2 x3 x4 x5 x6 iv lv : Value} {o : Obj}
    (QOK : ∀ p c rest w' v, res = .ok ((p, c), rest) → RF R w w' → Rd w0 w' R m rest room → VX (fun b => w.heap.size ≤ b) w' p c v → Q (.returned v) w')
    (hp : tmps.getD tm undef = .pointer (some ⟨w.heap.size, 0, none⟩)) (hb : W.heap[w.heap.size]? = some (.cells #[x0, x1, x2, x3, x4, x5, x6] 26 (0, 0))) (hR : R < w.heap.size)
    (he : res = .ok ((p, c), rest)) (hf : RF R w W) (hrd : Rd w0 W R m rest room) (hx : VX (fun b => w.heap.size < b) W p c (.agg #[.int .i64 p.kind, .int .i64 p.key, .int .i64 p.elem, .int .i64 p.num, .string p.text, iv, lv])) :
    bodyPost Try.prog fn Q .ret { tmps := tmps, defers := [] } ((((((((W.setCell ⟨w.heap.size, 0, none⟩ (.int .i64 p.kind)).setCell ⟨w.heap.size, 1, none⟩ (.int .i64 p.key)).setCell ⟨w.heap.size, 2, none⟩ (.int .i64 p.elem)).setCell ⟨w.heap.size, 3, none⟩ (.int .i64 p.num)).setCell ⟨w.heap.size, 4, none⟩ (.string p.text)).setCell ⟨w.heap.size, 5, none⟩ iv).setCell ⟨w.heap.size, 6, none⟩ lv).alloc o) := by
  obtain ⟨s1, s2⟩ := store7 hb (.int .i64 p.kind) (.int .i64 p.key) (.int .i64 p.elem) (.int .i64 p.num) (.string p.text) iv lv
  have hab := alloc_below (((((((W.setCell ⟨w.heap.size, 0, none⟩ (.int .i64 p.kind)).setCell ⟨w.heap.size, 1, none⟩ (.int .i64 p.key)).setCell ⟨w.heap.size, 2, none⟩ (.int .i64 p.elem)).setCell ⟨w.heap.size, 3, none⟩ (.int .i64 p.num)).setCell ⟨w.heap.size, 4, none⟩ (.string p.text)).setCell ⟨w.heap.size, 5, none⟩ iv).setCell ⟨w.heap.size, 6, none⟩ lv) o
  refine bodyPost_ret (results_val hfn _ _ _ _ hp _ rfl (cells_of_block (below_at hab s1))) rfl ?_
  refine QOK p c rest _ _ he ((hf.only s2 (Nat.le_refl _)).trans (RF.of_below hab)) ((hrd.only s2 hR).later hab) ?_
  exact ((hx.kept fun k h1 h2 => s2.block k (by omega)).kept fun k h1 _ => hab.block k h1).mono fun b h => Nat.le_of_lt h

set_option maxRecDepth 10000 in
set_option maxHeartbeats 2000000 in
theorem nested1_any (w0 w : World) (R m : Nat) (bs : List Nat) (room : Int) (b1 b2 : Nat) (g : FuncId) (res : RV) (hr0 : 0 ≤ room) (hr1 : room ≤ 1000) (h : Rd w0 w R m bs room) (hw : Ways w R m)
    (k1 : w.heap[b1]? = some (.cells #[.pointer (some ⟨R, 0, none⟩)] 65 (0, 0))) (k2 : w.heap[b2]? = some (.cells #[.func (.func g) #[.pointer (some ⟨R, 0, none⟩)] #[]] 67 (0, 0))) (n1 : R < b1) (n2 : R < b2)
    (eg : ∀ args W, (callFunc g args).run Try.prog W = .ok (.enter g args) W) (G : ∀ W, Rd w0 W R m bs (room - 1) → Ways W R m → TakesV g #[.pointer (some ⟨R, 0, none⟩)] w0 W R m (room - 1) res) :
    TakesV 96 #[.pointer (some ⟨b1, 0, none⟩), .pointer (some ⟨b2, 0, none⟩)] w0 w R m room res := by
  intro Q QOK QNO
  have hab : Below w.heap.size w (zbox w) := alloc_below w _
  have hR := h.lt
  have hz := h.later hab
  have c1 : w.cell? ⟨b1, 0, none⟩ = some (.pointer (some ⟨R, 0, none⟩)) := cell_of_block k1 rfl
  have c2 : w.cell? ⟨b2, 0, none⟩ = some (.func (.func g) #[.pointer (some ⟨R, 0, none⟩)] #[]) := cell_of_block k2 rfl
  have l1 : b1 < w.heap.size := block_lt_of_cell c1
  have l2 : b2 < w.heap.size := block_lt_of_cell c2
  obtain ⟨a, cp, hx, _⟩ := h.box
  have cr : w.cell? ⟨R, 1, none⟩ = some (.int .i64 room) := cell_of_block hx rfl
  have fr : w.frozen? ⟨R, 1, none⟩ = false := frozen_of_block hx
  have hab1 := alloc_below (w.setCell ⟨R, 1, none⟩ (.int .i64 (room - 1))) (.cells #[.int .i64 0, .int .i64 0, .int .i64 0, .int .i64 0, .string { data := #[] }, .slice none 0 0, .slice none 0 0] 26)
  have hrd := (rd_room h (room - 1)).later hab1
  have hf0 := (RF.setCell (R := R) w 1 (.int .i64 (room - 1))).trans (RF.of_below hab1)
  have hww := hw.rf hf0
  have GG := G _ hrd hww
  have hsz : (w.setCell ⟨R, 1, none⟩ (.int .i64 (room - 1))).heap.size = w.heap.size := by simp [World.setCell]
  have hbz := heap_new (w.setCell ⟨R, 1, none⟩ (.int .i64 (room - 1))) (.cells #[.int .i64 0, .int .i64 0, .int .i64 0, .int .i64 0, .string { data := #[] }, .slice none 0 0, .slice none 0 0] 26)
  rw [hsz] at hbz
  have k1' := hf0.box k1 (by omega)
  have hne : b2 ≠ R := by omega
  have hne1 : b1 ≠ R := by omega
  obtain ⟨R1, HR1⟩ : ∃ r, r = room - 1 := ⟨_, rfl⟩
  have hR1 : R1 + 1 = room := by omega
  rw [← HR1] at GG hrd hf0 hww hbz k1' hsz hab1
  have hR1' : room - 1 = R1 := HR1.symm
  clear hx HR1 G
  go_enter Try.func96, Try.ntmps96
  go_wp2_with fail
  refine GG _ ?_ ?_
  · intro p c rest W2 v he hf2 hrd2 hvx
    obtain ⟨iv, lv, rfl, hp, hlc, hi, ys, hy, hel⟩ := hvx
    obtain ⟨ia, ic, rfl⟩ := own_sl hi.1
    obtain ⟨la, lc, rfl⟩ := own_sl hy.1
    have hR2 := hrd2.lt
    have hbz2 := hf2.box hbz (by omega)
    have hw2 : w.heap.size < W2.heap.size := by
      rcases Nat.lt_or_ge w.heap.size W2.heap.size with h1 | h1
      · exact h1
      · rw [Array.getElem?_eq_none h1] at hbz2; cases hbz2
    obtain ⟨⟨z0, z1, z2, z3, z4, z5, z6⟩, f0, f1, f2, f3, f4, f5, f6⟩ := blk7 hbz2
    have d1 : W2.cell? ⟨b1, 0, none⟩ = some (.pointer (some ⟨R, 0, none⟩)) := cell_of_block (hf2.box k1' hne1) rfl
    have m1 : b1 < W2.heap.size := block_lt_of_cell d1
    obtain ⟨a2, cp2, hx2, _⟩ := hrd2.box
    have cr2 : W2.cell? ⟨R, 1, none⟩ = some (.int .i64 R1) := cell_of_block hx2 rfl
    have fr2 : W2.frozen? ⟨R, 1, none⟩ = false := frozen_of_block hx2
    have hRw : R ≠ w.heap.size := by omega
    have hs2 := (rd_room hrd2 room)
    have hbz3 := (RF.setCell (R := R) W2 1 (.int .i64 room)).box hbz2 (by omega)
    have HVX : Hid (VX (fun b => w.heap.size < b) (W2.setCell ⟨R, 1, none⟩ (.int .i64 room)) p c (.agg #[.int .i64 p.kind, .int .i64 p.key, .int .i64 p.elem, .int .i64 p.num, .string p.text, .slice ia p.ids.length ic, .slice la (flen c) lc])) := by
      have hx : VX (fun b => w.heap.size < b) W2 p c (.agg #[.int .i64 p.kind, .int .i64 p.key, .int .i64 p.elem, .int .i64 p.num, .string p.text, .slice ia p.ids.length ic, .slice la (flen c) lc]) := by
        refine VX.mono (S := fun b => ((w.setCell ⟨R, 1, none⟩ (.int .i64 R1)).alloc (.cells #[.int .i64 0, .int .i64 0, .int .i64 0, .int .i64 0, .string { data := #[] }, .slice none 0 0, .slice none 0 0] 26)).heap.size ≤ b) ⟨_, _, rfl, hp, hlc, hi, ys, hy, hel⟩ fun b hb => ?_
        have hb' : w.heap.size + 1 ≤ b := by simpa [World.setCell] using hb
        omega
      refine hx.kept fun k h1 h2 => Below.heap_setCell _ _ _ _ (by show k ≠ R; omega)
    have HF : Hid (RF R w (W2.setCell ⟨R, 1, none⟩ (.int .i64 room))) := (hf0.trans hf2).trans (RF.setCell _ _ _)
    clear hi hy hel hp hlc
    go_wp2_with fail
    exact finish_alloc rfl QOK rfl hbz3 hR he HF.out hs2 HVX.out
  · intro s W2 he hf2
    have q := QNO s W2 he (hf0.trans hf2)
    obtain ⟨ch, hch⟩ : ∃ ch, gives s = .panicked ch := ⟨_, rfl⟩
    rw [hch] at q ⊢
    clear hch
    go_wp2_with fail
    exact ⟨rfl, q⟩
end Go.Proofs.Ytikoddlidhefpaa

/-
  The ways of fields, and a new reader.
-/
namespace Go.Proofs.Ytikoddlidhefpaa
set_option linter.unusedVariables false
set_option linter.unusedSimpArgs false
open Go.ChangeShapes Go.WideShapes Go.ChangeAt Go.RowKit Go.Deep

set_option maxRecDepth 10000 in
set_option maxHeartbeats 1000000 in
theorem fieldWay1_any (w0 w : World) (R m : Nat) (bs : List Nat) (room : Int) (b : Nat) (k : Int) (hk : k = 1 ∨ k = 2) (h : Rd w0 w R m bs room) (kb : w.heap[b]? = some (.cells #[.int .i64 k] 3 (0, 0))) :
    TakesV 103 #[.pointer (some ⟨b, 0, none⟩)] w0 w R m room (.ok ((scal 1 (if k = 1 then 1 else 0), .nil), bs)) := by
  intro Q QOK QNO
  have hab : Below w.heap.size w (zbox w) := alloc_below w _
  have hR := h.lt
  have c1 : w.cell? ⟨b, 0, none⟩ = some (.int .i64 k) := cell_of_block kb rfl
  have l1 : b < w.heap.size := block_lt_of_cell c1
  have k1 : i64ok 1 := ⟨by omega, by omega⟩
  have k0 : i64ok 0 := ⟨by omega, by omega⟩
  rcases hk with rfl | rfl
  · have T := truthOf_1 (zbox w)
    go_enter Try.func103, Try.ntmps103
    go_wp2_with fail
    refine T.mono ?_
    rintro e wy ⟨rfl, hwy⟩
    have hb3 := (RF.of_below (R := R) hwy).box (heap_new w _) (Nat.ne_of_gt hR)
    obtain ⟨⟨z0, z1, z2, z3, z4, z5, z6⟩, f0, f1, f2, f3, f4, f5, f6⟩ := blk7 hb3
    go_wp2_with fail
    exact finish (p := scal 1 1) (c := .nil) rfl QOK rfl hb3 hR rfl ((RF.of_below hab).trans (RF.of_below hwy)) ((h.later hab).later hwy) (vx_leaf (scal_ok k1 k1) rfl)
  · have T := truthOf_2 (zbox w)
    go_enter Try.func103, Try.ntmps103
    go_wp2_with fail
    refine T.mono ?_
    rintro e wy ⟨rfl, hwy⟩
    have hb3 := (RF.of_below (R := R) hwy).box (heap_new w _) (Nat.ne_of_gt hR)
    obtain ⟨⟨z0, z1, z2, z3, z4, z5, z6⟩, f0, f1, f2, f3, f4, f5, f6⟩ := blk7 hb3
    go_wp2_with fail
    exact finish (p := scal 1 0) (c := .nil) rfl QOK rfl hb3 hR rfl ((RF.of_below hab).trans (RF.of_below hwy)) ((h.later hab).later hwy) (vx_leaf (scal_ok k1 k0) rfl)

set_option maxRecDepth 10000 in
set_option maxHeartbeats 1000000 in
theorem fieldWay_truth (w0 w : World) (R m : Nat) (bs : List Nat) (room k : Int) (hk : k = 1 ∨ k = 2) (h : Rd w0 w R m bs room) :
    Calls Try.prog 99 #[.pointer (some ⟨R, 0, none⟩), .int .i64 k] w fun e w' => e = .returned (.func (.func 103) #[] #[.pointer (some ⟨w.heap.size, 0, none⟩)]) ∧ w' = w.alloc (.cells #[.int .i64 k] 3) := by
  have hmf : ∀ (fn : Fn) (first cap : Array Value) (w : World), (Instr.makeFunc fn first cap).run Try.prog w = .ok (.func fn first cap) w := fun _ _ _ _ => rfl
  rcases hk with rfl | rfl
  · go_enter Try.func99, Try.ntmps99
    go_wp2_with fail
    go_ret
    exact ⟨rfl, rfl⟩
  · go_enter Try.func99, Try.ntmps99
    go_wp2_with fail
    go_ret
    exact ⟨rfl, rfl⟩
set_option maxRecDepth 10000 in
set_option maxHeartbeats 1000000 in
theorem fieldWay_ok (w0 w : World) (R m : Nat) (bs : List Nat) (room k : Int) (h1 : ¬ k = 1) (h2 : ¬ k = 2) (h : Rd w0 w R m bs room) (hw : Ways w R m) (ho : wayOk k room = true) :
    Calls Try.prog 99 #[.pointer (some ⟨R, 0, none⟩), .int .i64 k] w fun e w' => (∃ fn fa fb, e = .returned (.func fn fa fb) ∧ WayIs w' R k (.func fn fa fb)) ∧ w' = w.alloc (.cells #[.int .i64 k] 3) := by
  have e12 : (k == 1 || k == 2) = false := by simp; omega
  have hab := alloc_below w (.cells #[.int .i64 k] 3)
  have K := way_ok w0 _ R m bs room k (h.later hab) (hw.rf (RF.of_below hab)) ho
  go_enter Try.func99, Try.ntmps99
  go_wp2_with fail
  refine K.mono ?_
  rintro e wx ⟨⟨fn, fa, fb, rfl, hi⟩, hwx⟩
  subst hwx
  go_wp2_with fail
  go_ret
  exact ⟨⟨fn, fa, fb, rfl, hi⟩, rfl⟩
set_option maxRecDepth 10000 in
set_option maxHeartbeats 1000000 in
theorem fieldWay_bad (w0 w : World) (R m : Nat) (bs : List Nat) (room k : Int) (h1 : ¬ k = 1) (h2 : ¬ k = 2) (h : Rd w0 w R m bs room) (hw : Ways w R m) (ho : wayOk k room = false) :
    Calls Try.prog 99 #[.pointer (some ⟨R, 0, none⟩), .int .i64 k] w fun e w' => e = gives false ∧ w' = w.alloc (.cells #[.int .i64 k] 3) := by
  have e12 : (k == 1 || k == 2) = false := by simp; omega
  have hab := alloc_below w (.cells #[.int .i64 k] 3)
  have K := way_bad w0 _ R m bs room k (h.later hab) (hw.rf (RF.of_below hab)) ho
  go_enter Try.func99, Try.ntmps99
  go_wp2_with fail
  refine K.mono ?_
  rintro e wx ⟨rfl, hwx⟩
  subst hwx
  unfold gives
  go_wp2_with fail
  exact ⟨rfl, rfl, rfl⟩

set_option maxRecDepth 10000 in
set_option maxHeartbeats 1000000 in
theorem newReader_any (w : World) (a : Option Addr) (bs : List Nat) (cp : Nat) (hs : Src w a bs.length cp (c8 bs)) (hc : bs.length ≤ cp) (hl : bs.length ≤ 140737488355328) (hb : ∀ c ∈ bs, c < 256) :
    Calls Try.prog 38 #[.slice a bs.length cp] w fun e w' => ∃ m, e = .returned (.pointer (some ⟨w.heap.size, 0, none⟩)) ∧ Rd w w' w.heap.size m bs 32 ∧ Ways w' w.heap.size m ∧ Below w.heap.size w w' := by
  obtain ⟨L, hL⟩ : ∃ L, L = bs.length := ⟨_, rfl⟩
  rw [← hL] at hs hc hl ⊢
  have HL : Hid (L = bs.length) := hL
  clear hL
  have hab := alloc_below w (.cells #[.slice a L cp, .int .i64 32, .map none] 72)
  have K := waysOf_any (w.alloc (.cells #[.slice a L cp, .int .i64 32, .map none] 72)) w.heap.size (by simp)
  go_enter Try.func38, Try.ntmps38
  go_wp2_with fail
  refine K.mono ?_
  rintro e wx ⟨M, rfl, hw, hbx⟩
  have hbox : wx.heap[w.heap.size]? = some (.cells #[.slice a L cp, .int .i64 32, .map none] 72 (0, 0)) := below_at hbx (heap_new w _)
  have c2 : wx.cell? ⟨w.heap.size, 2, none⟩ = some (.map none) := cell_of_block hbox rfl
  have f2 : wx.frozen? ⟨w.heap.size, 2, none⟩ = false := frozen_of_block hbox
  have hbf := hab.trans (hbx.mono hab.size)
  go_wp2_with fail
  go_ret
  have hset := set_block (j := 2) (u := .map (some M)) hbox
  simp only [List.setIfInBounds_toArray, List.set_cons_zero, List.set_cons_succ] at hset
  have hb2 : Below w.heap.size w (wx.setCell ⟨w.heap.size, 2, none⟩ (.map (some M))) := hbf.setCell (Nat.le_refl _) _
  refine ⟨M, rfl, ⟨⟨a, cp, by rw [← HL.out]; exact hset, by rw [← HL.out]; exact hs, by rw [← HL.out]; exact hc⟩, hb, by rw [← HL.out]; exact hl, hb2, Nat.le_refl _⟩, hw.rf (RF.setCell _ _ _), hb2⟩
end Go.Proofs.Ytikoddlidhefpaa

/-
  What is told of bytes: the whole parse. The room counts down; what holds others asks its values at the room that is left.
-/
namespace Go.Proofs.Ytikoddlidhefpaa
open Go.ChangeShapes Go.WideShapes Go.ChangeAt Go.RowKit Go.Deep

/-- one value by each of the ways, behind those that were taken -/
def rEach : List (List Nat → RV) → Fo → List Nat → Except Bool (Fo × List Nat)
  | [], f, bs => .ok (f, bs)
  | q :: qs, f, bs => match q bs with
    | .error s => .error s
    | .ok ((p, c), r) => rEach qs (fsnoc f p c) r
def rRounds (qs : List (List Nat → RV)) : Nat → Fo → List Nat → Except Bool (Fo × List Nat)
  | 0, f, bs => .ok (f, bs)
  | n + 1, f, bs => match rEach qs f bs with
    | .error s => .error s
    | .ok (g, r) => rRounds qs n g r
def noText : ByteArray := { data := #[] }
def rLeaf (k : Int) (bs : List Nat) : RV :=
  if k = 1 then rTruth bs else if k = 3 then rSmall bs else if k = 4 then rSigned 4 65535 bs else if k = 5 then rSigned 5 4294967295 bs else if k = 6 then rSigned 6 18446744073709551615 bs else if k = 7 then rDouble bs else rTextV bs
def rListOf (q : List Nat → RV) (k : Nat) (n : Nat) (bs : List Nat) : RV := match rRounds [q] n .nil bs with
  | .error s => .error s
  | .ok (f, r) => .ok ((⟨9, 0, k, 0, noText, []⟩, f), r)
def rList (room : Int) (P : Int → List Nat → RV) (bs : List Nat) : RV := match rHalves bs with
  | .error s => .error s
  | .ok ((n, k), r) =>
    if n = 0 ∧ knownB k = true then .ok ((⟨9, 0, k, 0, noText, []⟩, .nil), r)
    else if wayOk k room = false then .error false
    else if n = 15 then match rNum 15 65536 r with
      | .error s => .error s
      | .ok (m, q) => rListOf (P k) k m q
    else rListOf (P k) k n r
def rDict (room : Int) (P : Int → List Nat → RV) (bs : List Nat) : RV := match rNum 0 65536 bs with
  | .error s => .error s
  | .ok (n, r) => if n = 0 then .ok ((⟨11, 0, 0, 0, noText, []⟩, .nil), r) else match rHalves r with
    | .error s => .error s
    | .ok ((y, k), q) => if wayOk y room = false ∨ wayOk k room = false then .error false else match rRounds [P y, P k] n .nil q with
      | .error s => .error s
      | .ok (f, t) => .ok ((⟨11, y, k, 0, noText, []⟩, f), t)
def rStructF (room : Int) (P : Int → List Nat → RV) : Nat → List Int → Fo → Nat → List Nat → RV
  | 0, _, _, _, _ => .error true
  | n + 1, ids, f, id, bs => match rHalves bs with
    | .error s => .error s
    | .ok ((step, k), r) =>
      if step = 0 ∧ k = 0 then .ok ((⟨12, 0, 0, 0, noText, ids⟩, f), r)
      else if ¬ (k = 1 ∨ k = 2) ∧ wayOk k room = false then .error false
      else match rID id step r with
        | .error s => .error s
        | .ok (i, q) =>
          if k = 1 ∨ k = 2 then rStructF room P n (ids ++ [(i : Int)]) (fsnoc f (scal 1 (if k = 1 then 1 else 0)) .nil) i q
          else match P k q with
            | .error s => .error s
            | .ok ((p, c), t) => rStructF room P n (ids ++ [(i : Int)]) (fsnoc f p c) i t
def rStruct (room : Int) (P : Int → List Nat → RV) (bs : List Nat) : RV := rStructF room P (bs.length + 1) [] .nil 0 bs
/-- a value of a Kind that may stand there, where so many may still hold one another -/
def rVal : Nat → Int → List Nat → RV
  | 0, k, bs => rLeaf k bs
  | r + 1, k, bs => if k = 9 then rList r (rVal r) bs else if k = 11 then rDict r (rVal r) bs else if k = 12 then rStruct r (rVal r) bs else rLeaf k bs
def rRead (bs : List Nat) : RV := rVal 32 12 bs
end Go.Proofs.Ytikoddlidhefpaa

/-
  Rows of values that a call lays itself: one more value, appended.
-/
namespace Go.Proofs.Ytikoddlidhefpaa
set_option linter.unusedVariables false
open Go.ChangeShapes Go.WideShapes Go.ChangeAt Go.RowKit Go.Deep

theorem ownsS.live {S : Nat → Prop} {w : World} {e : TypeId} {size : Nat} {v : Value} {n : Nat} {xs : List Value} (h : ownsS S w e size v n xs) : ownsS (fun b => S b ∧ b < w.heap.size) w e size v n xs := by
  refine ⟨h.1, fun g hg => ⟨h.2 g hg, ?_⟩⟩
  rcases h.1.2 with ⟨rfl, _⟩ | ⟨g', cap, cur, rfl, hb, hg', rest⟩
  · cases hg
  · cases hg
    exact (Array.getElem?_eq_some_iff.1 hg').1
theorem ElemsX.live {S : Nat → Prop} {w : World} : ∀ {f : Fo} {xs : List Value}, ElemsX S w f xs → ElemsX (fun b => S b ∧ b < w.heap.size) w f xs
  | .nil, _, h => h
  | .node _ _ p c r, xs, h => by
    obtain ⟨iv, lv, rest, h1, h2, h3, h4, ⟨ys, h5, h6⟩, h7⟩ := h
    exact ⟨iv, lv, rest, h1, h2, h3, h4.live, ⟨ys, h5.live, ElemsX.live h6⟩, ElemsX.live h7⟩

/-- a row of values that lies behind B; its own block holds none of their rows -/
def RowX (B : Nat) (w : World) (f : Fo) (v : Value) : Prop :=
  ∃ ys, w.ownsRow B 26 7 v (flen f) ys ∧ ElemsX (fun b => (B ≤ b ∧ v.ownBlock ≠ some b) ∧ b < w.heap.size) w f ys
theorem RowX.nil (B : Nat) (w : World) : RowX B w .nil (.slice none 0 0) := ⟨[], World.ownsRow_nil _ _ _ _, rfl⟩
theorem RowX.kept {B : Nat} {w w' : World} {f : Fo} {v : Value} (h : RowX B w f v) (hs : w.heap.size ≤ w'.heap.size) (hk : ∀ k, k < w.heap.size → B ≤ k → w'.heap[k]? = w.heap[k]?) : RowX B w' f v := by
  obtain ⟨ys, h1, h2⟩ := h
  refine ⟨ys, ⟨h1.1, ?_⟩, (h2.kept fun k e1 e2 => hk k e1 e2.1.1).mono fun b hb => ⟨hb.1, Nat.lt_of_lt_of_le hb.2 hs⟩⟩
  rcases h1.2 with h3 | ⟨g, cap, cur, e1, e2, e3, rest⟩
  · exact .inl h3
  · refine .inr ⟨g, cap, cur, e1, e2, ?_, rest⟩
    rw [hk g (Array.getElem?_eq_some_iff.1 e3).1 e2, e3]
theorem RowX.rf {B R : Nat} {w w' : World} {f : Fo} {v : Value} (h : RowX B w f v) (hR : R < B) (hf : RF R w w') : RowX B w' f v := h.kept hf.size fun k h1 h2 => hf.block k h1 (by omega)
/-- the blocks of a row lie there -/
theorem RowX.own {B : Nat} {w : World} {f : Fo} {v : Value} (h : RowX B w f v) : ∀ g, v.ownBlock = some g → B ≤ g ∧ g < w.heap.size := by
  obtain ⟨ys, h1, _⟩ := h
  intro g hg
  rcases h1.2 with ⟨rfl, _⟩ | ⟨g', cap, cur, rfl, e2, e3, _⟩
  · cases hg
  · cases hg
    exact ⟨e2, (Array.getElem?_eq_some_iff.1 e3).1⟩
theorem Rd.below {w0 w w' : World} {R m B : Nat} {bs : List Nat} {room : Int} (h : Rd w0 w R m bs room) (hR : R < B) (hb : Below B w w') : Rd w0 w' R m bs room := by
  obtain ⟨a, cp, h1, h2⟩ := h.box
  have := h.le
  exact ⟨⟨a, cp, by rw [hb.block R hR, h1], h2⟩, h.b8, h.len, h.old.trans (hb.mono (by omega)), h.le⟩

theorem infoTh' : ∃ i, Try.prog.info? 26 = some i ∧ i.zero = some (.agg #[.int .i64 0, .int .i64 0, .int .i64 0, .int .i64 0, .string { data := #[] }, .slice none 0 0, .slice none 0 0]) ∧ i.size = 7 ∧ i.bytes ≤ 1000 := by
  have hq : (Try.prog.info? 26).map (fun i => (i.zero, i.size, decide (i.bytes ≤ 1000))) = some (some (.agg #[.int .i64 0, .int .i64 0, .int .i64 0, .int .i64 0, .string { data := #[] }, .slice none 0 0, .slice none 0 0]), 7, true) := by kernel_rfl
  cases h : Try.prog.info? 26 with
  | none => rw [h] at hq; cases hq
  | some i =>
    rw [h] at hq
    simp only [Option.map_some, Option.some.injEq, Prod.mk.injEq, decide_eq_true_eq] at hq
    exact ⟨i, rfl, hq.1, hq.2.1, hq.2.2⟩

theorem wpList_append_fresh {P : Program} {w : World} {ops : Array Oper} {rest : List Oper} {o : Oper} {a : Act} {Q : Exit → Act → World → Prop} (hgd : o.guard = none) (s x : Operand) (t : TypeId)
    (ho : o.op = .call { callee := .builtin .append, args := #[s, x], argTypes := #[t, t] })
    (base : Nat) (e : TypeId) (i : TypeInfo) (z : Value) (size bytes : Nat) (ht : P.underlying t = some (.slice e)) (hi : P.info? e = some i) (hz : i.zero = some z)
    (hsize : i.size = size) (hby : i.bytes = bytes) (hzs : z.cells.size = size) (hsz : 0 < size)
    (v : Value) (n : Nat) (xs : List Value) (hs : a.eval s = v) (hown : w.ownsRow base e size v n xs)
    (ad : Addr) (m c : Nat) (news : List Value) (hx : a.eval x = .slice (some ad) m c) (hl : news.length = m * size) (hnews : ∀ j u, news[j]? = some u → w.cell? (ad.add j) = some u) (h1 : ∀ u ∈ news, u.oneCell' = true)
    (h63 : n + m ≤ maxLen) (hbytes : (n + m) * bytes ≤ 140737488355328) (hbase : base ≤ w.heap.size)
    (h : ∀ v' w', w'.ownsRow base e size v' (n + m) (xs ++ news) → w.grownBy w' v.ownBlock → (v'.ownBlock = v.ownBlock ∨ w'.ownsRow w.heap.size e size v' (n + m) (xs ++ news)) → wpList P ops Q rest (a.put o.dst v') w') : wpList P ops Q (o :: rest) a w := by
  refine wpList_plain hgd fun K hK' => ?_
  obtain ⟨v', w', hrun, r1, r2, r3⟩ := run_append_fresh (P := P) w base t o.type e i z size bytes ht hi hz hsize hby hzs hsz v n xs hown ad m c news hl hnews h1 h63 hbytes hbase
  unfold Oper.wp
  simp [execOp, ho, resolve, invoke, builtin, hs, hx, hrun, Result.andThen]
  exact hK' _ _ (h v' w' r1 r2 r3)

/-- one more value in the row: w0 the world ahead of the value, w1 that with it, w2 that with a block for the append, w3 that behind it -/
theorem RowX.add {B N : Nat} {w1 w2 : World} {f : Fo} {v : Value} {ys : List Value} {p : Pay} {c : Fo} {iv lv : Value} (h1 : w1.ownsRow B 26 7 v (flen f) ys) (h2 : ElemsX (fun b => (B ≤ b ∧ v.ownBlock ≠ some b) ∧ b < w1.heap.size) w1 f ys) (hN : ∀ g, v.ownBlock = some g → g < N) (hBN : B ≤ N)
    (hx : VX (fun b => N ≤ b) w1 p c (.agg #[.int .i64 p.kind, .int .i64 p.key, .int .i64 p.elem, .int .i64 p.num, .string p.text, iv, lv])) (hb : Below w1.heap.size w1 w2) (hBs : B ≤ w1.heap.size) :
    ∀ v' w3, w3.ownsRow B 26 7 v' (flen f + 1) (ys ++ [.int .i64 p.kind, .int .i64 p.key, .int .i64 p.elem, .int .i64 p.num, .string p.text, iv, lv]) → w2.grownBy w3 v.ownBlock →
      (v'.ownBlock = v.ownBlock ∨ w3.ownsRow w2.heap.size 26 7 v' (flen f + 1) (ys ++ [.int .i64 p.kind, .int .i64 p.key, .int .i64 p.elem, .int .i64 p.num, .string p.text, iv, lv])) → RowX B w3 (fsnoc f p c) v' ∧ Below B w1 w3 := by
  intro v' w3 g1 hg g2
  have hown := RowX.own ⟨ys, h1, h2⟩
  refine ⟨⟨_, by rw [flen_snoc]; exact g1, ?_⟩, ?_⟩
  · have hs13 : w1.heap.size ≤ w3.heap.size := Nat.le_trans hb.size hg.size
    have hnew : ∀ b, b < w1.heap.size → v.ownBlock ≠ some b → v'.ownBlock ≠ some b := by
      intro b hb1 hne e
      rcases g2 with g2 | g2
      · exact hne (g2 ▸ e)
      · rcases g2.2 with ⟨rfl, _⟩ | ⟨g', _, _, rfl, e2, _⟩
        · cases e
        · cases e
          have hb1' : g' < w1.heap.size := hb1
          have := hb.size
          omega
    have hk : ∀ k, k < w1.heap.size → v.ownBlock ≠ some k → w3.heap[k]? = w1.heap[k]? := fun k e1 e2 => by rw [hg.block k (Nat.lt_of_lt_of_le e1 hb.size) (fun e => e2 e.symm), hb.block k e1]
    have k2 : ElemsX (fun b => (B ≤ b ∧ v'.ownBlock ≠ some b) ∧ b < w3.heap.size) w3 f ys :=
      (h2.kept fun k e1 e2 => hk k e1 e2.1.2).mono fun b hb' => ⟨⟨hb'.1.1, hnew b hb'.2 hb'.1.2⟩, Nat.lt_of_lt_of_le hb'.2 hs13⟩
    obtain ⟨iv', lv', e, hp, hc, hi, zs, hy, hel⟩ := hx
    cases e
    have hm : ∀ b, N ≤ b ∧ b < w1.heap.size → (B ≤ b ∧ v'.ownBlock ≠ some b) ∧ b < w3.heap.size := fun b hb' =>
      ⟨⟨by omega, hnew b hb'.2 fun e => by have := hN b e; omega⟩, Nat.lt_of_lt_of_le hb'.2 hs13⟩
    have hk' : ∀ k, k < w1.heap.size → (N ≤ k ∧ k < w1.heap.size) → w3.heap[k]? = w1.heap[k]? := fun k e1 e2 => hk k e1 fun e => by have := hN k e; omega
    exact ElemsX.snoc hp hc ((hi.live.kept hk').mono hm) ((hy.live.kept hk').mono hm) ((hel.live.kept hk').mono hm) k2
  · refine ⟨hg.os.trans hb.os, hg.tape.trans hb.tape, hg.output.trans hb.output, Nat.le_trans hb.size hg.size, fun k hk => ?_⟩
    rw [hg.block k (by have := hb.size; omega) ?_, hb.block k (by omega)]
    intro e
    have := hown k e.symm
    omega
end Go.Proofs.Ytikoddlidhefpaa

/-
  Rounds of values: takeRounds.
-/
namespace Go.Proofs.Ytikoddlidhefpaa
set_option linter.unusedVariables false
open Go.ChangeShapes Go.WideShapes Go.ChangeAt Go.RowKit Go.Deep

/-- a function value that takes a value as q says, in any later world -/
def WayOf (w0 w : World) (R m : Nat) (room : Int) (v : Value) (q : List Nat → RV) : Prop :=
  ∃ f fa fb, v = .func (.func f) fa fb ∧ (∀ args W, (callFunc f args).run Try.prog W = .ok (.enter f args) W) ∧ ∀ W bs, RF R w W → Rd w0 W R m bs room → TakesV f (fa ++ fb) w0 W R m room (q bs)

theorem any_at {w : World} {ad : Option Addr} {len cap : Nat} {l : List Value} (h : Src w ad len cap l) {j : Nat} {u : Value} (hj : l[j]? = some u) :
    ∃ g off, ad = some ⟨g, off, none⟩ ∧ w.cell? ⟨g, off + j, none⟩ = some u := by
  have hlt : j < l.length := by
    rcases Nat.lt_or_ge j l.length with hh | hh
    · exact hh
    · rw [List.getElem?_eq_none hh] at hj; cases hj
  have hl := h.1
  rcases h.2 with ⟨_, h1, _⟩ | ⟨p, h1, h2⟩
  · omega
  · obtain ⟨g, off, spot⟩ := p
    have hc := h2 j _ hj
    have hc0 := h2 0 _ (List.getElem?_eq_getElem (by omega))
    have hspot : spot = none := by simpa [Addr.add] using World.cell?_spot hc0
    subst hspot
    refine ⟨g, off, h1, ?_⟩
    rw [← hc]
    by_cases hj0 : j = 0
    · subst hj0; simp [Addr.add]
    · simp [Addr.add, hj0]

/-- what is left of a round, and of the rounds behind it -/
def rRest (qs : List (List Nat → RV)) (k : Nat) (l : List (List Nat → RV)) (f : Fo) (bs : List Nat) : Except Bool (Fo × List Nat) := match rEach l f bs with
  | .error s => .error s
  | .ok (g, r) => rRounds qs k g r
theorem rRounds_rest (qs : List (List Nat → RV)) (k : Nat) (f : Fo) (bs : List Nat) : rRounds qs (k + 1) f bs = rRest qs k qs f bs := rfl
theorem rRest_nil (qs : List (List Nat → RV)) (k : Nat) (f : Fo) (bs : List Nat) : rRest qs k [] f bs = rRounds qs k f bs := rfl
theorem rRest_err {qs l : List (List Nat → RV)} {q : List Nat → RV} {k : Nat} {f : Fo} {bs : List Nat} {s : Bool} (h : q bs = .error s) : rRest qs k (q :: l) f bs = .error s := by
  unfold rRest
  simp only [rEach, h]
theorem rRest_ok {qs l : List (List Nat → RV)} {q : List Nat → RV} {k : Nat} {f : Fo} {bs r : List Nat} {p : Pay} {c : Fo} (h : q bs = .ok ((p, c), r)) : rRest qs k (q :: l) f bs = rRest qs k l (fsnoc f p c) r := by
  unfold rRest
  simp only [rEach, h]
theorem drop_of {α : Type} {l : List α} {j : Nat} {x : α} (h : l[j]? = some x) : l.drop j = x :: l.drop (j + 1) := by
  obtain ⟨h1, h2⟩ := List.getElem?_eq_some_iff.1 h
  rw [← h2]
  exact List.drop_eq_getElem_cons h1

set_option maxRecDepth 10000 in
set_option maxHeartbeats 2000000 in
theorem rounds_any (w0 w : World) (R m n : Nat) (bs : List Nat) (room : Int) (wa : Option Addr) (L wc : Nat) (gs : List Value) (qs : List (List Nat → RV)) (hn : n ≤ 65536) (hL : L ≤ 2) (hg : gs.length = L) (hq : qs.length = L) (h : Rd w0 w R m bs room)
    (hs : Src w wa L wc gs) (hsb : ∀ b o, wa = some ⟨b, o, none⟩ → b ≠ R) (hw : ∀ (i : Nat) (g : Value) (q : List Nat → RV), gs[i]? = some g → qs[i]? = some q → WayOf w0 w R m room g q) (Q : Ending → World → Prop)
    (QOK : ∀ f rest w' v, rRounds qs n .nil bs = .ok (f, rest) → RF R w w' → Rd w0 w' R m rest room → RowX w.heap.size w' f v → flen f ≤ 2 * n → Q (.returned v) w')
    (QNO : ∀ s w', rRounds qs n .nil bs = .error s → RF R w w' → Q (gives s) w') : Calls Try.prog 98 #[.int .i64 n, .slice wa L wc] w Q := by
  obtain ⟨i0, hi0, hz0, hz1, hz2⟩ := infoTh'
  have hR := h.lt
  obtain ⟨B, hB⟩ : ∃ B, B = w.heap.size := ⟨_, rfl⟩
  have HB : Hid (B = w.heap.size) := hB
  rw [← hB] at QOK hR
  clear hB
  obtain ⟨all, hall⟩ : ∃ a, a = rRounds qs n .nil bs := ⟨_, rfl⟩
  rw [← hall] at QOK QNO
  have HALL : Hid (rRounds qs n .nil bs = all) := hall.symm
  clear hall
  have HG : Hid (gs.length = L ∧ qs.length = L) := ⟨hg, hq⟩
  have HSS : Hid (Src w wa L wc gs) := hs
  have HSB : Hid (∀ b o, wa = some ⟨b, o, none⟩ → b ≠ R) := hsb
  have HW : Hid (∀ (i : Nat) (g : Value) (q : List Nat → RV), gs[i]? = some g → qs[i]? = some q → WayOf w0 w R m room g q) := hw
  have H0 : Hid (Rd w0 w R m bs room) := h
  clear hg hq hs hsb hw h
  have hn' : (n : Int) ≤ 65536 := by omega
  go_enter Try.func98, Try.ntmps98
  go_wp2
  go_loopw [5, 9] (fun lv iv wr => ∃ (i : Nat) (f : Fo) (r : List Nat), i ≤ n ∧ iv = .int .i64 (i : Int) ∧ flen f ≤ 2 * i ∧ RF R w wr ∧ Hid (RowX B wr f lv ∧ Rd w0 wr R m r room ∧ rRounds qs (n - i) f r = all)) (fun _ iv _ => n - (intOf iv).toNat)
  case atStart => exact ⟨0, .nil, bs, Nat.zero_le _, rfl, Nat.zero_le _, RF.refl _ _, RowX.nil _ _, H0.out, HALL.out⟩
  case round =>
    obtain ⟨i, f, r, hi, rfl, hf, hrf, H⟩ := hrel
    obtain ⟨ad, cc, rfl⟩ := own_sl (H.out.1.choose_spec).1
    by_cases hlt : i < n
    · have hlt' : (i : Int) < (n : Int) := by omega
      have HI : Hid (RowX B wr f (.slice ad (flen f) cc) ∧ Rd w0 wr R m r room ∧ rRest qs (n - (i + 1)) (qs.drop 0) f r = all) := by
        obtain ⟨h1, h2, h3⟩ := H.out
        refine ⟨h1, h2, ?_⟩
        rw [← h3, show n - i = n - (i + 1) + 1 by omega, rRounds_rest]
        rfl
      clear H
      have hf2 : flen f ≤ 2 * i := hf
      go_wp2
      go_loopw [5, 13] (fun lv jv wi => ∃ (j : Nat) (f : Fo) (r : List Nat), j ≤ L ∧ jv = .int .i64 (j : Int) ∧ flen f ≤ 2 * i + j ∧ RF R w wi ∧ Hid (RowX B wi f lv ∧ Rd w0 wi R m r room ∧ rRest qs (n - (i + 1)) (qs.drop j) f r = all)) (fun _ jv _ => L - (intOf jv).toNat)
      case atStart => exact ⟨0, f, r, Nat.zero_le _, rfl, hf2, hrf, HI⟩
      case round =>
        obtain ⟨j, f, r, hj, rfl, hf, hrf, H⟩ := hrel
        obtain ⟨ad, cc, rfl⟩ := own_sl (H.out.1.choose_spec).1
        by_cases hlj : j < L
        · have hlj' : (j : Int) < (L : Int) := by omega
          obtain ⟨gv, hgv⟩ : ∃ g, gs[j]? = some g := ⟨_, List.getElem?_eq_getElem (by have := HG.out.1; omega)⟩
          obtain ⟨q, hqv⟩ : ∃ q, qs[j]? = some q := ⟨_, List.getElem?_eq_getElem (by have := HG.out.2; omega)⟩
          obtain ⟨fn, fa, fb, rfl, eg, G⟩ := HW.out j _ q hgv hqv
          obtain ⟨b, o, rfl, k1⟩ := any_at HSS.out hgv
          have hbR := HSB.out b o rfl
          have k2 : wr.cell? ⟨b, o + j, none⟩ = some (.func (.func fn) fa fb) := by
            rw [← k1]
            have hbl := block_lt_of_cell k1
            simp only [World.cell?, hrf.block b hbl hbR]
          have GG := G wr r hrf H.out.2.1
          have HDR : Hid (qs.drop j = q :: qs.drop (j + 1)) := drop_of hqv
          clear G hgv hqv
          have HD : Hid (qs.drop j = q :: qs.drop (j + 1)) := HDR.out
          clear HDR
          go_wp2_with fail
          refine GG _ ?_ ?_
          · intro p c rest W2 v he hf2 hrd2 hvx
            obtain ⟨iv, lv, rfl, hp, hlc, hi', zs, hy, hel⟩ := hvx
            obtain ⟨ia, ic, rfl⟩ := own_sl hi'.1
            obtain ⟨la, lc, rfl⟩ := own_sl hy.1
            have hrf2 : RF R w W2 := hrf.trans hf2
            have hBW : B ≤ W2.heap.size := by have := hrf2.size; have := HB.out; omega
            have hrow1 := H.out.1
            have HOWN := hrow1.own
            obtain ⟨ys, y1, y2⟩ := hrow1.rf (by omega) hf2
            have HADD : Hid _ := RowX.add (w2 := W2.alloc (.cells #[.int .i64 p.kind, .int .i64 p.key, .int .i64 p.elem, .int .i64 p.num, .string p.text, .slice ia p.ids.length ic, .slice la (flen c) lc] 26)) y1 y2 (N := wr.heap.size) (fun g hg => (HOWN g hg).2) (by have := hrf.size; have := HB.out; omega) ⟨_, _, rfl, hp, hlc, hi', zs, hy, hel⟩ (alloc_below _ _) hBW
            have HY : Hid (W2.ownsRow B 26 7 (.slice ad (flen f) cc) (flen f) ys) := y1
            have HM : Hid (flen f + 1 ≤ maxLen ∧ (flen f + 1) * i0.bytes ≤ 140737488355328) := by
              have h131 : flen f + 1 ≤ 140000 := by omega
              exact ⟨by unfold maxLen; omega, Nat.le_trans (Nat.mul_le_mul h131 hz2) (by omega)⟩
            have HR2 : Hid (Rd w0 W2 R m rest room) := hrd2
            have HRest : Hid (rRest qs (n - (i + 1)) (qs.drop (j + 1)) (fsnoc f p c) rest = all) := by
              show _ = _
              rw [← H.out.2.2, HD.out, rRest_ok he]
            have HFL : Hid (flen (fsnoc f p c) ≤ 2 * i + (j + 1)) := by show _ ≤ _; rw [flen_snoc]; omega
            have HBB : Hid (B ≤ (W2.alloc (.cells #[.int .i64 p.kind, .int .i64 p.key, .int .i64 p.elem, .int .i64 p.num, .string p.text, .slice ia p.ids.length ic, .slice la (flen c) lc] 26)).heap.size) := by show _ ≤ _; simp; omega
            clear hi' hy hel hp hlc y1 y2 H hrow1 HOWN hrd2 GG
            go_wp2_with (at_builtin; refine wpList_append_fresh rfl (.tmp 17) (.tmp 20) 24 rfl B 26 i0 _ 7 i0.bytes Try.underlying24 hi0 hz0 hz1 rfl rfl (by decide) _ (flen f) ys rfl (HY.out.alloc _) ⟨W2.heap.size, 0, none⟩ 1 1 [.int .i64 p.kind, .int .i64 p.key, .int .i64 p.elem, .int .i64 p.num, .string p.text, .slice ia p.ids.length ic, .slice la (flen c) lc] rfl rfl (fun j u hj => by rw [add0]; exact alloc_cell W2 _ 26 (0, 0) (by simpa using hj)) (by intro u hu; simp at hu; rcases hu with rfl | rfl | rfl | rfl | rfl | rfl | rfl <;> rfl) HM.out.1 HM.out.2 HBB.out ?_; intro v3 W3 q1 q2 q3; have HS3 : Hid _ := HADD.out v3 W3 q1 q2 q3; clear q1 q2 q3; obtain ⟨ad3, cc3, rfl⟩ := own_sl (HS3.out.1.choose_spec).1)
            go_roundw
            case rel => exact ⟨j + 1, fsnoc f p c, rest, by omega, by go_num, HFL.out, ⟨HS3.out.2.os.trans hrf2.os, HS3.out.2.tape.trans hrf2.tape, HS3.out.2.output.trans hrf2.output, Nat.le_trans hrf2.size HS3.out.2.size, fun k h1 h2 => by rw [HS3.out.2.block k (by have := HB.out; omega), hrf2.block k h1 h2]⟩, HS3.out.1, HR2.out.below (by omega) HS3.out.2, HRest.out⟩
            case measure => simp [intOf]; omega
          · intro s W2 he hf2
            have q := QNO s W2 (by rw [← H.out.2.2, HD.out, rRest_err he]) (hrf.trans hf2)
            obtain ⟨ch, hch⟩ : ∃ ch, gives s = .panicked ch := ⟨_, rfl⟩
            rw [hch] at q ⊢
            clear hch GG H
            go_wp2_with fail
            exact ⟨rfl, q⟩
        · have hj' : j = L := by omega
          subst hj'
          have hge : ¬ (j : Int) < (j : Int) := by omega
          have HN : Hid (RowX B wr f (.slice ad (flen f) cc) ∧ Rd w0 wr R m r room ∧ rRounds qs (n - (i + 1)) f r = all) := by
            obtain ⟨h1, h2, h3⟩ := H.out
            refine ⟨h1, h2, ?_⟩
            rw [← h3, List.drop_eq_nil_of_le (by have := HG.out.2; omega), rRest_nil]
          clear H
          go_wp2_with fail
          go_roundw
          case rel => exact ⟨i + 1, f, r, by omega, by go_num, by omega, hrf, HN⟩
          case measure => simp [intOf]; omega
    · have hi' : i = n := by omega
      subst hi'
      have hge : ¬ (i : Int) < (i : Int) := by omega
      obtain ⟨h1, h2, h3⟩ := H.out
      rw [Nat.sub_self] at h3
      have q := QOK f r wr _ h3.symm hrf h2 h1 hf
      clear H h1 h2 h3
      go_wp2_with fail
      first | exact q | exact ⟨rfl, q⟩
end Go.Proofs.Ytikoddlidhefpaa

/-
  A list.
-/
namespace Go.Proofs.Ytikoddlidhefpaa
set_option linter.unusedVariables false
open Go.ChangeShapes Go.WideShapes Go.ChangeAt Go.RowKit Go.Deep

theorem WayOf.rf {w0 w w' : World} {R m : Nat} {room : Int} {v : Value} {q : List Nat → RV} (h : WayOf w0 w R m room v q) (hf : RF R w w') : WayOf w0 w' R m room v q := by
  obtain ⟨f, fa, fb, h1, h2, h3⟩ := h
  exact ⟨f, fa, fb, h1, h2, fun W bs k1 k2 => h3 W bs (hf.trans k1) k2⟩
theorem RowX.vx {B : Nat} {S : Nat → Prop} {w : World} {f : Fo} {v : Value} {p : Pay} (h : RowX B w f v) (hp : PayOk p) (hi : p.ids = []) (hl : flen f ≤ 140737488355328) (hS : ∀ b, B ≤ b → S b) :
    VX S w p f (.agg #[.int .i64 p.kind, .int .i64 p.key, .int .i64 p.elem, .int .i64 p.num, .string p.text, .slice none 0 0, v]) := by
  have hown := h.own
  obtain ⟨ys, h1, h2⟩ := h
  refine ⟨_, _, rfl, hp, hl, ⟨?_, fun g h => by cases h⟩, ys, ⟨?_, fun g hg => hS g (hown g hg).1⟩, h2.mono fun b hb => hS b hb.1.1⟩
  · rw [hi]
    exact World.ownsRow_nil _ _ _ _
  · refine ⟨h1.1, ?_⟩
    rcases h1.2 with h3 | ⟨g, cap, cur, e1, e2, rest⟩
    · exact .inl h3
    · exact .inr ⟨g, cap, cur, e1, Nat.zero_le _, rest⟩
theorem list_pay (k : Nat) (hk : k < 16) : PayOk ⟨9, 0, k, 0, noText, []⟩ := by
  have z0 : i64ok 0 := ⟨by omega, by omega⟩
  have z9 : i64ok 9 := ⟨by omega, by omega⟩
  have zk : i64ok (k : Int) := ⟨by omega, by omega⟩
  exact ⟨z9, z0, zk, z0, Nat.zero_le _, Nat.zero_le _, fun _ h => by cases h⟩

set_option maxRecDepth 10000 in
set_option maxHeartbeats 1000000 in
theorem list_any (w0 w : World) (R m : Nat) (bs : List Nat) (room : Int) (P : Int → List Nat → RV) (h : Rd w0 w R m bs room) (hw : Ways w R m)
    (HP : ∀ (k : Int) (v : Value) (W : World), wayOk k room = true → Ways W R m → WayIs W R k v → WayOf w0 W R m room v (P k)) : TakesV 83 #[.pointer (some ⟨R, 0, none⟩)] w0 w R m room (rList room P bs) := by
  intro Q QOK QNO
  have hab : Below w.heap.size w (zbox w) := alloc_below w _
  have hR := h.lt
  have hz := h.later hab
  have hbz := heap_new w (.cells #[.int .i64 0, .int .i64 0, .int .i64 0, .int .i64 0, .string { data := #[] }, .slice none 0 0, .slice none 0 0] 26)
  have K := takeHalves_any w0 (zbox w) R m bs room hz
  cases bs with
  | nil =>
    have K1 := K.no (s := true) rfl
    have q := fun w' hf => QNO true w' rfl ((RF.of_below hab).trans hf)
    clear K QOK QNO
    go_enter Try.func83, Try.ntmps83
    go_wp2_with fail
    refine K1.mono ?_
    rintro e wx ⟨rfl, hf⟩
    have q1 := q wx hf
    unfold gives at q1 ⊢
    go_wp2_with fail
    exact ⟨rfl, q1⟩
  | cons b r =>
    have hb : b < 256 := h.b8 b (List.mem_cons_self ..)
    have K1 := K.ok (a := (b / 16, b % 16)) (rest := r) rfl
    obtain ⟨n, hn⟩ : ∃ n, n = b / 16 := ⟨_, rfl⟩
    obtain ⟨k, hk⟩ : ∃ k, k = b % 16 := ⟨_, rfl⟩
    have HRES : Hid (rList room P (b :: r) = if n = 0 ∧ knownB k = true then .ok ((⟨9, 0, k, 0, noText, []⟩, .nil), r) else if wayOk k room = false then .error false else if n = 15 then match rNum 15 65536 r with
      | .error s => .error s
      | .ok (m, q) => rListOf (P k) k m q
      else rListOf (P k) k n r) := by show _ = _; rw [hn, hk]; rfl
    have hn16 : n < 16 := by omega
    have hk16 : k < 16 := by omega
    dsimp only at K1
    rw [← hn, ← hk] at K1
    generalize rList room P (b :: r) = res at *
    clear hn hk hb K h hz
    have HF : Hid (∀ W1, RF R (zbox w) W1 → RF R w (W1.alloc (.cells #[.int .i64 9, .int .i64 0, .int .i64 (k : Int), .int .i64 0, .string { data := #[] }, .slice none 0 0, .slice none 0 0] 26)) ∧ Ways (W1.alloc (.cells #[.int .i64 9, .int .i64 0, .int .i64 (k : Int), .int .i64 0, .string { data := #[] }, .slice none 0 0, .slice none 0 0] 26)) R m ∧ (W1.alloc (.cells #[.int .i64 9, .int .i64 0, .int .i64 (k : Int), .int .i64 0, .string { data := #[] }, .slice none 0 0, .slice none 0 0] 26)).heap[W1.heap.size]? = some (.cells #[.int .i64 9, .int .i64 0, .int .i64 (k : Int), .int .i64 0, .string { data := #[] }, .slice none 0 0, .slice none 0 0] 26 (0, 0)) ∧ (W1.alloc (.cells #[.int .i64 9, .int .i64 0, .int .i64 (k : Int), .int .i64 0, .string { data := #[] }, .slice none 0 0, .slice none 0 0] 26)).heap[w.heap.size]? = some (.cells #[.int .i64 0, .int .i64 0, .int .i64 0, .int .i64 0, .string { data := #[] }, .slice none 0 0, .slice none 0 0] 26 (0, 0)) ∧ w.heap.size < W1.heap.size ∧ RF R w W1 ∧ W1.heap[w.heap.size]? = some (.cells #[.int .i64 0, .int .i64 0, .int .i64 0, .int .i64 0, .string { data := #[] }, .slice none 0 0, .slice none 0 0] 26 (0, 0))) := by
      intro W1 hf
      have hf2 : RF R (zbox w) (W1.alloc (.cells #[.int .i64 9, .int .i64 0, .int .i64 (k : Int), .int .i64 0, .string { data := #[] }, .slice none 0 0, .slice none 0 0] 26)) := hf.trans (RF.of_below (alloc_below W1 _))
      have hff := (RF.of_below (R := R) hab).trans hf2
      refine ⟨hff, hw.rf hff, heap_new W1 _, hf2.box hbz (by omega), ?_, (RF.of_below hab).trans hf, hf.box hbz (by omega)⟩
      have h1 := hf.size
      have h2 : (zbox w).heap.size = w.heap.size + 1 := by simp [zbox]
      omega
    have HPP : Hid _ := HP
    clear hab hbz hw HP
    by_cases hn0 : n = 0
    · subst hn0
      cases hkn : knownB k
      · have ho : wayOk k room = false := by unfold wayOk; rw [hkn]; rfl
        have q := fun w' hf => QNO false w' (by rw [HRES.out, if_neg (by rw [hkn]; simp), if_pos ho]) hf
        clear QOK QNO
        go_enter Try.func83, Try.ntmps83
        go_wp2_with fail
        refine K1.mono ?_
        rintro e W1 ⟨rfl, hrd, hf⟩
        obtain ⟨f1, f2, f3, f4, f5, f6, f7⟩ := HF.out W1 hf
        have KI := isKind_any k (W1.alloc (.cells #[.int .i64 9, .int .i64 0, .int .i64 (k : Int), .int .i64 0, .string { data := #[] }, .slice none 0 0, .slice none 0 0] 26))
        rw [hkn] at KI
        have WB := way_bad w0 _ R m r room k (hrd.later (alloc_below W1 (.cells #[.int .i64 9, .int .i64 0, .int .i64 (k : Int), .int .i64 0, .string { data := #[] }, .slice none 0 0, .slice none 0 0] 26))) f2 ho
        clear f2 f3 f4 HF HPP
        go_wp2_with fail
        refine KI.mono ?_
        rintro e wx ⟨rfl, hwx⟩
        obtain rfl := hwx.symm
        go_wp2_with fail
        refine WB.mono ?_
        rintro e wx ⟨rfl, hwx⟩
        obtain rfl := hwx.symm
        have q1 := q _ f1
        unfold gives at q1 ⊢
        go_wp2_with fail
        exact ⟨rfl, q1⟩
      · have he : res = .ok ((⟨9, 0, k, 0, noText, []⟩, .nil), r) := by rw [HRES.out, if_pos ⟨rfl, hkn⟩]
        clear QNO
        go_enter Try.func83, Try.ntmps83
        go_wp2_with fail
        refine K1.mono ?_
        rintro e W1 ⟨rfl, hrd, hf⟩
        obtain ⟨f1, f2, f3, f4, f5, f6, f7⟩ := HF.out W1 hf
        have KI := isKind_any k (W1.alloc (.cells #[.int .i64 9, .int .i64 0, .int .i64 (k : Int), .int .i64 0, .string { data := #[] }, .slice none 0 0, .slice none 0 0] 26))
        rw [hkn] at KI
        have hrd2 := hrd.later (alloc_below W1 (.cells #[.int .i64 9, .int .i64 0, .int .i64 (k : Int), .int .i64 0, .string { data := #[] }, .slice none 0 0, .slice none 0 0] 26))
        obtain ⟨⟨z0, z1, z2, z3, z4, z5, z6⟩, g0, g1, g2, g3, g4, g5, g6⟩ := blk7 f7
        clear f2 f3 f4 HF HPP
        go_wp2_with fail
        refine KI.mono ?_
        rintro e wx ⟨rfl, hwx⟩
        obtain rfl := hwx.symm
        go_wp2_with fail
        have he2 : res = .ok ((⟨9, 0, k, 0, { data := #[] }, []⟩, .nil), r) := he
        refine finish_alloc (p := ⟨9, 0, k, 0, { data := #[] }, []⟩) (c := .nil) (rest := r) (W := W1) (iv := .slice none 0 0) (lv := .slice none 0 0) rfl QOK rfl f7 hR he2 f6 hrd ?_
        exact vx_leaf (list_pay k hk16) rfl
    · have hn0' : ¬ (n : Int) = 0 := by omega
      cases ho : wayOk k room
      · have q := fun w' hf => QNO false w' (by rw [HRES.out, if_neg (by omega), if_pos ho]) hf
        clear QOK QNO
        go_enter Try.func83, Try.ntmps83
        go_wp2_with fail
        refine K1.mono ?_
        rintro e W1 ⟨rfl, hrd, hf⟩
        obtain ⟨f1, f2, f3, f4, f5, f6, f7⟩ := HF.out W1 hf
        have WB := way_bad w0 _ R m r room k (hrd.later (alloc_below W1 (.cells #[.int .i64 9, .int .i64 0, .int .i64 (k : Int), .int .i64 0, .string { data := #[] }, .slice none 0 0, .slice none 0 0] 26))) f2 ho
        clear f2 f3 f4 HF HPP
        go_wp2_with fail
        refine WB.mono ?_
        rintro e wx ⟨rfl, hwx⟩
        obtain rfl := hwx.symm
        have q1 := q _ f1
        unfold gives at q1 ⊢
        go_wp2_with fail
        exact ⟨rfl, q1⟩
      · by_cases h15 : n = 15
        · subst h15
          have HR2 : Hid (res = match rNum 15 65536 r with
            | .error s => .error s
            | .ok (m, q) => rListOf (P k) k m q) := by show _ = _; rw [HRES.out, if_neg (by omega), if_neg (by rw [ho]; decide), if_pos rfl]
          go_enter Try.func83, Try.ntmps83
          go_wp2_with fail
          refine K1.mono ?_
          rintro e W1 ⟨rfl, hrd, hf⟩
          obtain ⟨f1, f2, f3, f4, f5, f6, f7⟩ := HF.out W1 hf
          have hrd2 := hrd.later (alloc_below W1 (.cells #[.int .i64 9, .int .i64 0, .int .i64 (k : Int), .int .i64 0, .string { data := #[] }, .slice none 0 0, .slice none 0 0] 26))
          have WO := way_ok w0 _ R m r room k hrd2 f2 ho
          have TN := takeNumber_any w0 _ R m r room 15 65536 (by omega) (by omega) hrd2
          clear HF
          cases hnum : rNum 15 65536 r with
          | error s =>
            have TN1 := TN.no hnum
            have q := fun w' hf => QNO s w' (by rw [HR2.out, hnum]) (f1.trans hf)
            obtain ⟨ch, hch⟩ : ∃ ch, gives s = .panicked ch := ⟨_, rfl⟩
            rw [hch] at q TN1
            clear f3 f4 HPP hch QOK QNO
            go_wp2_with fail
            refine WO.mono ?_
            rintro e wx ⟨⟨fn, fa, fb, rfl, hwi⟩, hwx⟩
            obtain rfl := hwx.symm
            clear hwi
            go_wp2_with fail
            refine TN1.mono ?_
            rintro e W3 ⟨rfl, hf3⟩
            have q1 := q W3 hf3
            go_wp2_with fail
            exact ⟨rfl, q1⟩
          | ok v =>
            obtain ⟨cnt, rr⟩ := v
            have TN1 := TN.ok hnum
            have hcnt := rNum_le hnum
            have hcnt' : (cnt : Int) ≤ 65536 := by omega
            have HE : Hid (res = rListOf (P k) k cnt rr) := by show _ = _; rw [HR2.out, hnum]
            clear TN hnum
            go_wp2_with fail
            refine WO.mono ?_
            rintro e wx ⟨⟨fn, fa, fb, rfl, hwi⟩, hwx⟩
            obtain rfl := hwx.symm
            go_wp2_with fail
            refine TN1.mono ?_
            rintro e W3 ⟨rfl, hrd3, hf3⟩
            have hWt : RF R (W1.alloc (.cells #[.int .i64 9, .int .i64 0, .int .i64 (k : Int), .int .i64 0, .string { data := #[] }, .slice none 0 0, .slice none 0 0] 26)) ((W3).alloc (.cells #[.func fn fa fb] 67)) := (hf3).trans (RF.of_below (alloc_below _ _))
            have hwt : RF R w ((W3).alloc (.cells #[.func fn fa fb] 67)) := f1.trans hWt
            have hRt : R < (W3).heap.size := (hrd3).lt
            have hwo := (HPP.out k _ _ ho f2 hwi).rf hWt
            have HM5 : Hid (W1.heap.size < ((W3).alloc (.cells #[.func fn fa fb] 67)).heap.size) := by
              have := hWt.size
              have h2 : (W1.alloc (.cells #[.int .i64 9, .int .i64 0, .int .i64 (k : Int), .int .i64 0, .string { data := #[] }, .slice none 0 0, .slice none 0 0] 26)).heap.size = W1.heap.size + 1 := by simp
              show _ < _
              omega
            have RA := fun Q => rounds_any w0 ((W3).alloc (.cells #[.func fn fa fb] 67)) R m cnt rr room (some ⟨(W3).heap.size, 0, none⟩) 1 1 [.func fn fa fb] [P k] hcnt (by omega) rfl rfl ((hrd3).later (alloc_below _ _)) ⟨rfl, .inr ⟨_, rfl, new_news (W3) [.func fn fa fb] 67 (0, 0)⟩⟩ (fun b o e => by cases e; exact Nat.ne_of_gt hRt) (fun i g q h1 h2 => by
              cases i with
              | zero => cases h1; cases h2; exact hwo
              | succ i => simp at h1) Q
            have B5 := hWt.box f3 (show W1.heap.size ≠ R by omega)
            have Z5 := ((hf3).trans (RF.of_below (alloc_below _ (.cells #[.func fn fa fb] 67)))).box f4 (show w.heap.size ≠ R by omega)
            clear hwo f2 hwi f3 f4 HPP
            go_wp2_with fail
            refine RA _ ?_ ?_
            · intro f r2 W5 lv he5 hf5 hrd5 hrow5 hfl5
              obtain ⟨la, lc, rfl⟩ := own_sl (hrow5.choose_spec).1
              have b5 := hf5.box B5 (show W1.heap.size ≠ R by omega)
              have z5 := hf5.box Z5 (show w.heap.size ≠ R by omega)
              obtain ⟨⟨b0, b1, b2, b3, b4, b5', b6⟩, c0, c1, c2, c3, c4, c5, c6⟩ := blk7 b5
              obtain ⟨⟨z0, z1, z2, z3, z4, z5', z6⟩, g0, g1, g2, g3, g4, g5, g6⟩ := blk7 z5
              have hne : w.heap.size ≠ W1.heap.size := by omega
              have hne' : W1.heap.size ≠ w.heap.size := by omega
              have O5 : Only W1.heap.size W5 (W5.setCell ⟨W1.heap.size, 6, none⟩ (.slice la (flen f) lc)) := (Only.refl _ _).set _ _
              have hf6 := (hwt.trans hf5).only O5 (Nat.le_of_lt f5)
              have hrd6 := hrd5.only O5 (by omega)
              have z6' : (W5.setCell ⟨W1.heap.size, 6, none⟩ (.slice la (flen f) lc)).heap[w.heap.size]? = some (.cells #[.int .i64 0, .int .i64 0, .int .i64 0, .int .i64 0, .string { data := #[] }, .slice none 0 0, .slice none 0 0] 26 (0, 0)) := by rw [O5.block _ hne]; exact z5
              have HX : Hid (VX (fun b => w.heap.size < b) (W5.setCell ⟨W1.heap.size, 6, none⟩ (.slice la (flen f) lc)) ⟨9, 0, k, 0, noText, []⟩ f (.agg #[.int .i64 9, .int .i64 0, .int .i64 (k : Int), .int .i64 0, .string noText, .slice none 0 0, .slice la (flen f) lc])) := by
                have hM := HM5.out
                exact (hrow5.kept (Nat.le_of_eq (by simp [World.setCell])) fun j h1 h2 => O5.block j (by omega)).vx (list_pay k hk16) rfl (by omega) fun b hb => by omega
              have he6 : res = .ok ((⟨9, 0, k, 0, noText, []⟩, f), r2) := by rw [HE.out]; unfold rListOf; rw [he5]
              have he7 : res = .ok ((⟨9, 0, k, 0, { data := #[] }, []⟩, f), r2) := he6
              clear hrow5 b5 z5 O5 B5 Z5 RA
              go_wp2_with fail
              refine finish (p := ⟨9, 0, k, 0, { data := #[] }, []⟩) (c := f) (rest := r2) (W := W5.setCell ⟨W1.heap.size, 6, none⟩ (.slice la (flen f) lc)) (iv := .slice none 0 0) (lv := .slice la (flen f) lc) rfl QOK rfl z6' hR he7 hf6 hrd6 ?_
              exact HX.out
            · intro s W5 he5 hf5
              have q := QNO s W5 (by rw [HE.out]; unfold rListOf; rw [he5]) (hwt.trans hf5)
              obtain ⟨ch, hch⟩ : ∃ ch, gives s = .panicked ch := ⟨_, rfl⟩
              rw [hch] at q ⊢
              clear hch RA B5 Z5
              go_wp2_with fail
              exact ⟨rfl, q⟩
        · have h15' : ¬ (n : Int) = 15 := by omega
          have HE : Hid (res = rListOf (P k) k n r) := by show _ = _; rw [HRES.out, if_neg (by omega), if_neg (by rw [ho]; decide), if_neg h15]
          go_enter Try.func83, Try.ntmps83
          go_wp2_with fail
          refine K1.mono ?_
          rintro e W1 ⟨rfl, hrd, hf⟩
          obtain ⟨f1, f2, f3, f4, f5, f6, f7⟩ := HF.out W1 hf
          have hrd2 := hrd.later (alloc_below W1 (.cells #[.int .i64 9, .int .i64 0, .int .i64 (k : Int), .int .i64 0, .string { data := #[] }, .slice none 0 0, .slice none 0 0] 26))
          have WO := way_ok w0 _ R m r room k hrd2 f2 ho
          clear HF
          go_wp2_with fail
          refine WO.mono ?_
          rintro e wx ⟨⟨fn, fa, fb, rfl, hwi⟩, hwx⟩
          obtain rfl := hwx.symm
          have hWt : RF R (W1.alloc (.cells #[.int .i64 9, .int .i64 0, .int .i64 (k : Int), .int .i64 0, .string { data := #[] }, .slice none 0 0, .slice none 0 0] 26)) ((W1.alloc (.cells #[.int .i64 9, .int .i64 0, .int .i64 (k : Int), .int .i64 0, .string { data := #[] }, .slice none 0 0, .slice none 0 0] 26)).alloc (.cells #[.func fn fa fb] 67)) := (RF.refl R _).trans (RF.of_below (alloc_below _ _))
          have hwt : RF R w ((W1.alloc (.cells #[.int .i64 9, .int .i64 0, .int .i64 (k : Int), .int .i64 0, .string { data := #[] }, .slice none 0 0, .slice none 0 0] 26)).alloc (.cells #[.func fn fa fb] 67)) := f1.trans hWt
          have hRt : R < (W1.alloc (.cells #[.int .i64 9, .int .i64 0, .int .i64 (k : Int), .int .i64 0, .string { data := #[] }, .slice none 0 0, .slice none 0 0] 26)).heap.size := (hrd2).lt
          have hwo := (HPP.out k _ _ ho f2 hwi).rf hWt
          have HM5 : Hid (W1.heap.size < ((W1.alloc (.cells #[.int .i64 9, .int .i64 0, .int .i64 (k : Int), .int .i64 0, .string { data := #[] }, .slice none 0 0, .slice none 0 0] 26)).alloc (.cells #[.func fn fa fb] 67)).heap.size) := by
            have := hWt.size
            have h2 : (W1.alloc (.cells #[.int .i64 9, .int .i64 0, .int .i64 (k : Int), .int .i64 0, .string { data := #[] }, .slice none 0 0, .slice none 0 0] 26)).heap.size = W1.heap.size + 1 := by simp
            show _ < _
            omega
          have RA := fun Q => rounds_any w0 ((W1.alloc (.cells #[.int .i64 9, .int .i64 0, .int .i64 (k : Int), .int .i64 0, .string { data := #[] }, .slice none 0 0, .slice none 0 0] 26)).alloc (.cells #[.func fn fa fb] 67)) R m n r room (some ⟨(W1.alloc (.cells #[.int .i64 9, .int .i64 0, .int .i64 (k : Int), .int .i64 0, .string { data := #[] }, .slice none 0 0, .slice none 0 0] 26)).heap.size, 0, none⟩) 1 1 [.func fn fa fb] [P k] (by omega) (by omega) rfl rfl ((hrd2).later (alloc_below _ _)) ⟨rfl, .inr ⟨_, rfl, new_news (W1.alloc (.cells #[.int .i64 9, .int .i64 0, .int .i64 (k : Int), .int .i64 0, .string { data := #[] }, .slice none 0 0, .slice none 0 0] 26)) [.func fn fa fb] 67 (0, 0)⟩⟩ (fun b o e => by cases e; exact Nat.ne_of_gt hRt) (fun i g q h1 h2 => by
            cases i with
            | zero => cases h1; cases h2; exact hwo
            | succ i => simp at h1) Q
          have B5 := hWt.box f3 (show W1.heap.size ≠ R by omega)
          rw [show (W1.alloc (.cells #[.int .i64 9, .int .i64 0, .int .i64 (k : Int), .int .i64 0, .string { data := #[] }, .slice none 0 0, .slice none 0 0] 26)).heap.size = W1.heap.size + 1 by simp] at RA
          have Z5 := ((RF.refl R _).trans (RF.of_below (alloc_below _ (.cells #[.func fn fa fb] 67)))).box f4 (show w.heap.size ≠ R by omega)
          clear hwo f2 hwi f3 f4 HPP
          go_wp2_with fail
          refine RA _ ?_ ?_
          · intro f r2 W5 lv he5 hf5 hrd5 hrow5 hfl5
            obtain ⟨la, lc, rfl⟩ := own_sl (hrow5.choose_spec).1
            have b5 := hf5.box B5 (show W1.heap.size ≠ R by omega)
            have z5 := hf5.box Z5 (show w.heap.size ≠ R by omega)
            obtain ⟨⟨b0, b1, b2, b3, b4, b5', b6⟩, c0, c1, c2, c3, c4, c5, c6⟩ := blk7 b5
            obtain ⟨⟨z0, z1, z2, z3, z4, z5', z6⟩, g0, g1, g2, g3, g4, g5, g6⟩ := blk7 z5
            have hne : w.heap.size ≠ W1.heap.size := by omega
            have hne' : W1.heap.size ≠ w.heap.size := by omega
            have O5 : Only W1.heap.size W5 (W5.setCell ⟨W1.heap.size, 6, none⟩ (.slice la (flen f) lc)) := (Only.refl _ _).set _ _
            have hf6 := (hwt.trans hf5).only O5 (Nat.le_of_lt f5)
            have hrd6 := hrd5.only O5 (by omega)
            have z6' : (W5.setCell ⟨W1.heap.size, 6, none⟩ (.slice la (flen f) lc)).heap[w.heap.size]? = some (.cells #[.int .i64 0, .int .i64 0, .int .i64 0, .int .i64 0, .string { data := #[] }, .slice none 0 0, .slice none 0 0] 26 (0, 0)) := by rw [O5.block _ hne]; exact z5
            have HX : Hid (VX (fun b => w.heap.size < b) (W5.setCell ⟨W1.heap.size, 6, none⟩ (.slice la (flen f) lc)) ⟨9, 0, k, 0, noText, []⟩ f (.agg #[.int .i64 9, .int .i64 0, .int .i64 (k : Int), .int .i64 0, .string noText, .slice none 0 0, .slice la (flen f) lc])) := by
              have hM := HM5.out
              exact (hrow5.kept (Nat.le_of_eq (by simp [World.setCell])) fun j h1 h2 => O5.block j (by omega)).vx (list_pay k hk16) rfl (by omega) fun b hb => by omega
            have he6 : res = .ok ((⟨9, 0, k, 0, noText, []⟩, f), r2) := by rw [HE.out]; unfold rListOf; rw [he5]
            have he7 : res = .ok ((⟨9, 0, k, 0, { data := #[] }, []⟩, f), r2) := he6
            clear hrow5 b5 z5 O5 B5 Z5 RA
            go_wp2_with fail
            refine finish (p := ⟨9, 0, k, 0, { data := #[] }, []⟩) (c := f) (rest := r2) (W := W5.setCell ⟨W1.heap.size, 6, none⟩ (.slice la (flen f) lc)) (iv := .slice none 0 0) (lv := .slice la (flen f) lc) rfl QOK rfl z6' hR he7 hf6 hrd6 ?_
            exact HX.out
          · intro s W5 he5 hf5
            have q := QNO s W5 (by rw [HE.out]; unfold rListOf; rw [he5]) (hwt.trans hf5)
            obtain ⟨ch, hch⟩ : ∃ ch, gives s = .panicked ch := ⟨_, rfl⟩
            rw [hch] at q ⊢
            clear hch RA B5 Z5
            go_wp2_with fail
            exact ⟨rfl, q⟩
end Go.Proofs.Ytikoddlidhefpaa

/-
  A map: the ways on which no value is taken.
-/
namespace Go.Proofs.Ytikoddlidhefpaa
set_option linter.unusedVariables false
open Go.ChangeShapes Go.WideShapes Go.ChangeAt Go.RowKit Go.Deep

theorem dict_pay (y k : Nat) (hy : y < 16) (hk : k < 16) : PayOk ⟨11, y, k, 0, noText, []⟩ := by
  have z0 : i64ok 0 := ⟨by omega, by omega⟩
  have z9 : i64ok 11 := ⟨by omega, by omega⟩
  have zy : i64ok (y : Int) := ⟨by omega, by omega⟩
  have zk : i64ok (k : Int) := ⟨by omega, by omega⟩
  exact ⟨z9, zy, zk, z0, Nat.zero_le _, Nat.zero_le _, fun _ h => by cases h⟩
/-- the two boxes that it lays first -/
theorem dict_boxes (w : World) : Below w.heap.size w ((zbox w).alloc (.cells #[.int .i64 11, .int .i64 0, .int .i64 0, .int .i64 0, .string { data := #[] }, .slice none 0 0, .slice none 0 0] 26)) ∧ ((zbox w).alloc (.cells #[.int .i64 11, .int .i64 0, .int .i64 0, .int .i64 0, .string { data := #[] }, .slice none 0 0, .slice none 0 0] 26)).heap[w.heap.size]? = some (.cells #[.int .i64 0, .int .i64 0, .int .i64 0, .int .i64 0, .string { data := #[] }, .slice none 0 0, .slice none 0 0] 26 (0, 0)) ∧ ((zbox w).alloc (.cells #[.int .i64 11, .int .i64 0, .int .i64 0, .int .i64 0, .string { data := #[] }, .slice none 0 0, .slice none 0 0] 26)).heap[w.heap.size + 1]? = some (.cells #[.int .i64 11, .int .i64 0, .int .i64 0, .int .i64 0, .string { data := #[] }, .slice none 0 0, .slice none 0 0] 26 (0, 0)) := by
  have hs : (zbox w).heap.size = w.heap.size + 1 := by simp [zbox]
  have h1 := alloc_below (zbox w) (.cells #[.int .i64 11, .int .i64 0, .int .i64 0, .int .i64 0, .string { data := #[] }, .slice none 0 0, .slice none 0 0] 26)
  rw [hs] at h1
  refine ⟨Below.trans (alloc_below w _) (h1.mono (Nat.le_succ _)), ?_, ?_⟩
  · rw [h1.block _ (Nat.lt_succ_self _)]
    exact heap_new w _
  · have := heap_new (zbox w) (.cells #[.int .i64 11, .int .i64 0, .int .i64 0, .int .i64 0, .string { data := #[] }, .slice none 0 0, .slice none 0 0] 26)
    rwa [hs] at this

set_option maxRecDepth 10000 in
set_option maxHeartbeats 1000000 in
theorem dict_easy (w0 w : World) (R m : Nat) (bs : List Nat) (room : Int) (P : Int → List Nat → RV) (h : Rd w0 w R m bs room) (hE : ∀ n r, rNum 0 65536 bs = .ok (n, r) → ¬ n = 0 → r = []) : TakesV 84 #[.pointer (some ⟨R, 0, none⟩)] w0 w R m room (rDict room P bs) := by
  intro Q QOK QNO
  obtain ⟨hab, hbz, hbv⟩ := dict_boxes w
  have hR := h.lt
  have hz := h.later hab
  have TN := takeNumber_any w0 _ R m bs room 0 65536 (by omega) (by omega) hz
  cases hnum : rNum 0 65536 bs with
  | error s =>
    have TN1 := TN.no hnum
    have q := fun w' hf => QNO s w' (by unfold rDict; rw [hnum]) ((RF.of_below hab).trans hf)
    obtain ⟨ch, hch⟩ : ∃ ch, gives s = .panicked ch := ⟨_, rfl⟩
    rw [hch] at q TN1
    clear hch QOK QNO TN hz hbz hbv
    go_enter Try.func84, Try.ntmps84
    go_wp2_with fail
    refine TN1.mono ?_
    rintro e W1 ⟨rfl, hf1⟩
    have q1 := q W1 hf1
    go_wp2_with fail
    exact ⟨rfl, q1⟩
  | ok v =>
    obtain ⟨n, r⟩ := v
    have TN1 := TN.ok hnum
    have hn := rNum_le hnum
    have hn' : (n : Int) ≤ 65536 := by omega
    by_cases hn0 : n = 0
    · subst hn0
      have he : rDict room P bs = .ok ((⟨11, 0, 0, 0, { data := #[] }, []⟩, .nil), r) := by unfold rDict; rw [hnum]; rfl
      clear QNO TN
      go_enter Try.func84, Try.ntmps84
      go_wp2_with fail
      refine TN1.mono ?_
      rintro e W1 ⟨rfl, hrd1, hf1⟩
      have b1 := hf1.box hbv (by omega)
      have z1 := hf1.box hbz (by omega)
      have hff := (RF.of_below hab).trans hf1
      obtain ⟨⟨b0, b1', b2, b3, b4, b5, b6⟩, c0, c1, c2, c3, c4, c5, c6⟩ := blk7 b1
      obtain ⟨⟨z0, z1', z2, z3, z4, z5, z6⟩, g0, g1, g2, g3, g4, g5, g6⟩ := blk7 z1
      clear hbv hbz hz b1
      go_wp2_with fail
      refine finish (p := ⟨11, 0, 0, 0, { data := #[] }, []⟩) (c := .nil) (rest := r) (W := W1) (iv := .slice none 0 0) (lv := .slice none 0 0) rfl QOK rfl z1 hR he hff hrd1 ?_
      exact vx_leaf (dict_pay 0 0 (by omega) (by omega)) rfl
    · have hr := hE n r hnum hn0
      subst hr
      have hn0' : ¬ (n : Int) = 0 := by omega
      have q := fun w' hf => QNO true w' (by unfold rDict; rw [hnum]; simp only [if_neg hn0]; rfl) hf
      clear QOK QNO TN
      go_enter Try.func84, Try.ntmps84
      go_wp2_with fail
      refine TN1.mono ?_
      rintro e W1 ⟨rfl, hrd1, hf1⟩
      have TH := (takeHalves_any w0 W1 R m [] room hrd1).no (s := true) rfl
      clear hbz hbv hz
      go_wp2_with fail
      refine TH.mono ?_
      rintro e W2 ⟨rfl, hf2⟩
      have q1 := q W2 (((RF.of_below hab).trans hf1).trans hf2)
      unfold gives at q1 ⊢
      go_wp2_with fail
      exact ⟨rfl, q1⟩
end Go.Proofs.Ytikoddlidhefpaa

/-
  A map: the way on which values are taken.
-/
namespace Go.Proofs.Ytikoddlidhefpaa
set_option linter.unusedVariables false
set_option linter.unusedSimpArgs false
open Go.ChangeShapes Go.WideShapes Go.ChangeAt Go.RowKit Go.Deep

set_option maxRecDepth 10000 in
set_option maxHeartbeats 1000000 in
theorem dict_main (w0 w : World) (R m : Nat) (bs : List Nat) (room : Int) (P : Int → List Nat → RV) (h : Rd w0 w R m bs room) (hw : Ways w R m)
    (HP : ∀ (k : Int) (v : Value) (W : World), wayOk k room = true → Ways W R m → WayIs W R k v → WayOf w0 W R m room v (P k)) (n b : Nat) (r : List Nat) (hnum : rNum 0 65536 bs = .ok (n, b :: r)) (hn0 : ¬ n = 0) : TakesV 84 #[.pointer (some ⟨R, 0, none⟩)] w0 w R m room (rDict room P bs) := by
  intro Q QOK QNO
  obtain ⟨hab, hbz, hbv⟩ := dict_boxes w
  have hR := h.lt
  have hz := h.later hab
  have TN1 := (takeNumber_any w0 _ R m bs room 0 65536 (by omega) (by omega) hz).ok hnum
  have hn := rNum_le hnum
  have hn' : (n : Int) ≤ 65536 := by omega
  have hn0' : ¬ (n : Int) = 0 := by omega
  obtain ⟨y, hy⟩ : ∃ y, y = b / 16 := ⟨_, rfl⟩
  obtain ⟨k, hk⟩ : ∃ k, k = b % 16 := ⟨_, rfl⟩
  have HRES : Hid (rDict room P bs = if wayOk y room = false ∨ wayOk k room = false then .error false else match rRounds [P y, P k] n .nil r with
      | .error s => .error s
      | .ok (f, t) => .ok ((⟨11, y, k, 0, noText, []⟩, f), t)) := by
    show _ = _
    unfold rDict
    rw [hnum]
    simp only [if_neg hn0, rHalves]
    rw [hy, hk]
    try rfl
  generalize rDict room P bs = res at *
  have hk16 : k < 16 := by omega
  have HY : Hid (y = b / 16 ∧ k = b % 16) := ⟨hy, hk⟩
  clear hy hk hnum hz
  go_enter Try.func84, Try.ntmps84
  go_wp2_with fail
  refine TN1.mono ?_
  rintro e W1 ⟨rfl, hrd1, hf1⟩
  have hb256 : b < 256 := hrd1.b8 b (List.mem_cons_self ..)
  have hy16 : y < 16 := by have := HY.out; omega
  have TH := (takeHalves_any w0 W1 R m (b :: r) room hrd1).ok (a := (b / 16, b % 16)) (rest := r) rfl
  dsimp only at TH
  rw [← HY.out.1, ← HY.out.2] at TH
  go_wp2_with fail
  refine TH.mono ?_
  rintro e W2 ⟨rfl, hrd2, hf2⟩
  have b2 := hf2.box (hf1.box hbv (by omega)) (show w.heap.size + 1 ≠ R by omega)
  have z2 := hf2.box (hf1.box hbz (by omega)) (show w.heap.size ≠ R by omega)
  have hw2 := ((RF.of_below hab).trans hf1).trans hf2
  obtain ⟨⟨b0, b1', b2', b3, b4, b5, b6⟩, c0, c1, c2, c3, c4, c5, c6⟩ := blk7 b2
  have O3 : Only (w.heap.size + 1) W2 ((W2.setCell ⟨w.heap.size + 1, 1, none⟩ (.int .i64 (y : Int))).setCell ⟨w.heap.size + 1, 2, none⟩ (.int .i64 (k : Int))) := ((Only.refl _ _).set _ _).set _ _
  have b3' : ((W2.setCell ⟨w.heap.size + 1, 1, none⟩ (.int .i64 (y : Int))).setCell ⟨w.heap.size + 1, 2, none⟩ (.int .i64 (k : Int))).heap[w.heap.size + 1]? = some (.cells #[.int .i64 11, .int .i64 (y : Int), .int .i64 (k : Int), .int .i64 0, .string { data := #[] }, .slice none 0 0, .slice none 0 0] 26 (0, 0)) := by
    have e := set_block (j := 2) (u := .int .i64 (k : Int)) (set_block (j := 1) (u := .int .i64 (y : Int)) b2)
    simp only [List.setIfInBounds_toArray, List.set_cons_zero, List.set_cons_succ] at e
    exact e
  have z3 : ((W2.setCell ⟨w.heap.size + 1, 1, none⟩ (.int .i64 (y : Int))).setCell ⟨w.heap.size + 1, 2, none⟩ (.int .i64 (k : Int))).heap[w.heap.size]? = some (.cells #[.int .i64 0, .int .i64 0, .int .i64 0, .int .i64 0, .string { data := #[] }, .slice none 0 0, .slice none 0 0] 26 (0, 0)) := by rw [O3.block _ (by omega)]; exact z2
  have hw3 := hw2.only O3 (Nat.le_succ _)
  have hrd3 := hrd2.only O3 (by omega)
  clear hbz hbv b2 z2 hrd1 hrd2 TN1 TH hf1 hf2 hab hw2
  go_wp2_with fail
  have s0 : ((W2.setCell ⟨w.heap.size + 1, 1, none⟩ (.int .i64 (y : Int))).setCell ⟨w.heap.size + 1, 2, none⟩ (.int .i64 (k : Int))).drew.cell? ⟨w.heap.size + 1, 1, none⟩ = some (.int .i64 (y : Int)) ∧ ((W2.setCell ⟨w.heap.size + 1, 1, none⟩ (.int .i64 (y : Int))).setCell ⟨w.heap.size + 1, 2, none⟩ (.int .i64 (k : Int))).drew.cell? ⟨w.heap.size + 1, 2, none⟩ = some (.int .i64 (k : Int)) := ⟨cell_of_block b3' rfl, cell_of_block b3' rfl⟩
  refine wp_region_held_drew (S := fun w' => w'.cell? ⟨w.heap.size + 1, 1, none⟩ = some (.int .i64 (y : Int)) ∧ w'.cell? ⟨w.heap.size + 1, 2, none⟩ = some (.int .i64 (k : Int))) (by kernel_rfl) s0 (fun hHeld => ?_)
  generalize hW3 : ((W2.setCell ⟨w.heap.size + 1, 1, none⟩ (.int .i64 (y : Int))).setCell ⟨w.heap.size + 1, 2, none⟩ (.int .i64 (k : Int))) = W3 at *
  refine wpAnyH_take (i := 0) (v := ?_) rfl (by kernel_rfl) (by kernel_rfl) (by kernel_rfl) (fun _ _ _ h => h) (Or.inl ⟨by rfl, ?_⟩) (by assumption) ?_
  rotate_left
  · intro w hSw
    (try dsimp only at hSw)
    (try (obtain ⟨_, _, _, _, _, _, _, _, _, _⟩ := hSw))
    (try (obtain ⟨_, _, _, _, _, _, _⟩ := hSw))
    (try (obtain ⟨_, _⟩ := hSw))
    go_simp
    (try with_reducible rfl)
  (try simp only [Act.put, List.setIfInBounds_toArray, List.set_cons_zero, List.set_cons_succ])
  refine wpAnyH_take (i := 1) (v := ?_) rfl (by kernel_rfl) (by kernel_rfl) (by kernel_rfl) (fun _ _ _ h => h) (Or.inl ⟨by rfl, ?_⟩) (by assumption) ?_
  rotate_left
  · intro w hSw
    (try dsimp only at hSw)
    (try (obtain ⟨_, _, _, _, _, _, _, _, _, _⟩ := hSw))
    (try (obtain ⟨_, _, _, _, _, _, _⟩ := hSw))
    (try (obtain ⟨_, _⟩ := hSw))
    go_simp
    (try with_reducible rfl)
  (try simp only [Act.put, List.setIfInBounds_toArray, List.set_cons_zero, List.set_cons_succ])
  refine wpAnyH_take (i := 2) (v := ?_) rfl (by kernel_rfl) (by kernel_rfl) (by kernel_rfl) (fun _ _ _ h => h) (Or.inl ⟨by rfl, ?_⟩) (by assumption) ?_
  rotate_left
  · intro w hSw
    (try dsimp only at hSw)
    (try (obtain ⟨_, _, _, _, _, _, _, _, _, _⟩ := hSw))
    (try (obtain ⟨_, _, _, _, _, _, _⟩ := hSw))
    (try (obtain ⟨_, _⟩ := hSw))
    go_simp
    (try with_reducible rfl)
  (try simp only [Act.put, List.setIfInBounds_toArray, List.set_cons_zero, List.set_cons_succ])
  refine wpAnyH_take (i := 3) (v := ?_) rfl (by kernel_rfl) (by kernel_rfl) (by kernel_rfl) (fun _ _ _ h => h) (Or.inl ⟨by rfl, ?_⟩) (by assumption) ?_
  rotate_left
  · intro w hSw
    (try dsimp only at hSw)
    (try (obtain ⟨_, _, _, _, _, _, _, _, _, _⟩ := hSw))
    (try (obtain ⟨_, _, _, _, _, _, _⟩ := hSw))
    (try (obtain ⟨_, _⟩ := hSw))
    go_simp
    (try with_reducible rfl)
  (try simp only [Act.put, List.setIfInBounds_toArray, List.set_cons_zero, List.set_cons_succ])
  refine wpAnyH_take (i := 5) (v := ?_) rfl (by kernel_rfl) (by kernel_rfl) (by kernel_rfl) (fun _ _ _ h => h) (Or.inl ⟨by rfl, ?_⟩) (by assumption) ?_
  rotate_left
  · intro w hSw
    (try dsimp only at hSw)
    (try (obtain ⟨_, _, _, _, _, _, _, _, _, _⟩ := hSw))
    (try (obtain ⟨_, _, _, _, _, _, _⟩ := hSw))
    (try (obtain ⟨_, _⟩ := hSw))
    go_simp
    (try with_reducible rfl)
  (try simp only [Act.put, List.setIfInBounds_toArray, List.set_cons_zero, List.set_cons_succ])
  refine wpAnyH_take (i := 6) (v := ?_) rfl (by kernel_rfl) (by kernel_rfl) (by kernel_rfl) (fun _ _ _ h => h) (Or.inl ⟨by rfl, ?_⟩) (by assumption) ?_
  rotate_left
  · intro w hSw
    (try dsimp only at hSw)
    (try (obtain ⟨_, _, _, _, _, _, _, _, _, _⟩ := hSw))
    (try (obtain ⟨_, _, _, _, _, _, _⟩ := hSw))
    (try (obtain ⟨_, _⟩ := hSw))
    go_simp
    (try with_reducible rfl)
  (try simp only [Act.put, List.setIfInBounds_toArray, List.set_cons_zero, List.set_cons_succ])
  refine wpAnyH_take (i := 7) (v := ?_) rfl (by kernel_rfl) (by kernel_rfl) (by kernel_rfl) (fun _ _ _ h => h) (Or.inl ⟨by rfl, ?_⟩) (by assumption) ?_
  rotate_left
  · intro w hSw
    (try dsimp only at hSw)
    (try (obtain ⟨_, _, _, _, _, _, _, _, _, _⟩ := hSw))
    (try (obtain ⟨_, _, _, _, _, _, _⟩ := hSw))
    (try (obtain ⟨_, _⟩ := hSw))
    go_simp
    (try with_reducible rfl)
  (try simp only [Act.put, List.setIfInBounds_toArray, List.set_cons_zero, List.set_cons_succ])
  have hrdD : Rd w0 W3.drew R m r room := hrd3.later (Below.refl _ W3).drew
  have hwD : RF R w W3.drew := hw3.trans (RF.of_below (Below.refl _ W3).drew)
  cases ho1 : wayOk y room
  · have WB := way_bad w0 _ R m r room y hrdD (hw.rf hwD) ho1
    have q := QNO false W3.drew (by rw [HRES.out, if_pos (.inl ho1)]) hwD
    refine wpAnyH_ready (rs := [4]) (by kernel_rfl) (by simp) ?_
    refine AllReadyH.cons rfl (fun K hK => ?_) AllReadyH.nil
    go_simp
    refine WB.mono ?_
    rintro e wx ⟨rfl, hwx⟩
    obtain rfl := hwx.symm
    unfold gives at q ⊢
    exact ⟨rfl, q⟩
  · have WO1 := way_ok w0 _ R m r room y hrdD (hw.rf hwD) ho1
    refine wpAnyH_ready (rs := [4]) (by kernel_rfl) (by simp) ?_
    refine AllReadyH.cons rfl (fun K hK => ?_) AllReadyH.nil
    go_simp
    refine WO1.mono ?_
    rintro e wx ⟨⟨fn1, fa1, fb1, rfl, hwi1⟩, hwx⟩
    obtain rfl := hwx.symm
    go_simp
    refine hK.out _ _ s0 (fun _ => ?_)
    clear hK K
    (try simp only [Act.put, List.setIfInBounds_toArray, List.set_cons_zero, List.set_cons_succ])
    cases ho2 : wayOk k room
    · have WB := way_bad w0 _ R m r room k hrdD (hw.rf hwD) ho2
      have q := QNO false W3.drew (by rw [HRES.out, if_pos (.inr ho2)]) hwD
      refine wpAnyH_ready (rs := [8]) (by kernel_rfl) (by simp) ?_
      refine AllReadyH.cons rfl (fun K hK => ?_) AllReadyH.nil
      go_simp
      refine WB.mono ?_
      rintro e wx ⟨rfl, hwx⟩
      obtain rfl := hwx.symm
      unfold gives at q ⊢
      exact ⟨rfl, q⟩
    have WO2 := way_ok w0 _ R m r room k hrdD (hw.rf hwD) ho2
    refine wpAnyH_ready (rs := [8]) (by kernel_rfl) (by simp) ?_
    refine AllReadyH.cons rfl (fun K hK => ?_) AllReadyH.nil
    go_simp
    refine WO2.mono ?_
    rintro e wx ⟨⟨fn2, fa2, fb2, rfl, hwi2⟩, hwx⟩
    obtain rfl := hwx.symm
    go_simp
    refine hK.out _ _ s0 (fun _ => ?_)
    clear hK K
    (try simp only [Act.put, List.setIfInBounds_toArray, List.set_cons_zero, List.set_cons_succ])
    have hab4 := alloc_below W3.drew (.cells #[.func fn1 fa1 fb1, .func fn2 fa2 fb2] 67)
    have hf4 : RF R W3.drew (W3.drew.alloc (.cells #[.func fn1 fa1 fb1, .func fn2 fa2 fb2] 67)) := RF.of_below hab4
    have s4 : (W3.drew.alloc (.cells #[.func fn1 fa1 fb1, .func fn2 fa2 fb2] 67)).cell? ⟨w.heap.size + 1, 1, none⟩ = some (.int .i64 (y : Int)) ∧ (W3.drew.alloc (.cells #[.func fn1 fa1 fb1, .func fn2 fa2 fb2] 67)).cell? ⟨w.heap.size + 1, 2, none⟩ = some (.int .i64 (k : Int)) := ⟨cell_later hab4 s0.1, cell_later hab4 s0.2⟩
    refine wpAnyH_ready (rs := [9]) (by kernel_rfl) (by simp) ?_
    refine AllReadyH.cons rfl (fun K hK => ?_) AllReadyH.nil
    go_simp
    refine hK.out _ _ s4 (fun _ => ?_)
    clear hK K
    (try simp only [Act.put, List.setIfInBounds_toArray, List.set_cons_zero, List.set_cons_succ])
    have hwt : RF R w (W3.drew.alloc (.cells #[.func fn1 fa1 fb1, .func fn2 fa2 fb2] 67)) := hwD.trans hf4
    have hRt : R < W3.drew.heap.size := hrdD.lt
    have hwo1 := (HP y _ _ ho1 (hw.rf hwD) hwi1).rf hf4
    have hwo2 := (HP k _ _ ho2 (hw.rf hwD) hwi2).rf hf4
    have HM5 : Hid (w.heap.size + 1 < (W3.drew.alloc (.cells #[.func fn1 fa1 fb1, .func fn2 fa2 fb2] 67)).heap.size) := block_lt_of_cell s4.1
    have RA := fun Q => rounds_any w0 (W3.drew.alloc (.cells #[.func fn1 fa1 fb1, .func fn2 fa2 fb2] 67)) R m n r room (some ⟨W3.drew.heap.size, 0, none⟩) 2 2 [.func fn1 fa1 fb1, .func fn2 fa2 fb2] [P y, P k] hn (by omega) rfl rfl (hrdD.later hab4) ⟨rfl, .inr ⟨_, rfl, new_news W3.drew [.func fn1 fa1 fb1, .func fn2 fa2 fb2] 67 (0, 0)⟩⟩ (fun b o e => by cases e; exact Nat.ne_of_gt hRt) (fun i g q h1 h2 => by
      match i, h1, h2 with
      | 0, h1, h2 => cases h1; cases h2; exact hwo1
      | 1, h1, h2 => cases h1; cases h2; exact hwo2
      | i + 2, h1, h2 => simp at h1) Q
    have B5 := hf4.box (b := w.heap.size + 1) (show W3.drew.heap[w.heap.size + 1]? = _ from b3') (by omega)
    have Z5 := hf4.box (b := w.heap.size) (show W3.drew.heap[w.heap.size]? = _ from z3) (by omega)
    have HE : Hid (res = match rRounds [P y, P k] n .nil r with
      | .error s => .error s
      | .ok (f, t) => .ok ((⟨11, y, k, 0, noText, []⟩, f), t)) := by show _ = _; rw [HRES.out, if_neg (by rw [ho1, ho2]; decide)]
    clear hwo1 hwo2 hwi1 hwi2 HP b3' z3
    refine wpAnyH_ready (rs := [10]) (by kernel_rfl) (by simp) ?_
    refine AllReadyH.cons rfl (fun K hK => ?_) AllReadyH.nil
    go_simp
    refine RA _ ?_ ?_
    · intro f r2 W5 lv he5 hf5 hrd5 hrow5 hfl5
      obtain ⟨la, lc, rfl⟩ := own_sl (hrow5.choose_spec).1
      have b5 := hf5.box B5 (show w.heap.size + 1 ≠ R by omega)
      have z5 := hf5.box Z5 (show w.heap.size ≠ R by omega)
      obtain ⟨⟨d0, d1, d2, d3, d4, d5, d6⟩, e0, e1, e2, e3, e4, e5, e6⟩ := blk7 b5
      obtain ⟨⟨y0, y1, y2, y3, y4, y5, y6⟩, g0, g1, g2, g3, g4, g5, g6⟩ := blk7 z5
      have O5 : Only (w.heap.size + 1) W5 (W5.setCell ⟨w.heap.size + 1, 6, none⟩ (.slice la (flen f) lc)) := (Only.refl _ _).set _ _
      have hf6 := (hwt.trans hf5).only O5 (Nat.le_succ _)
      have hrd6 := hrd5.only O5 (by omega)
      have z6' : (W5.setCell ⟨w.heap.size + 1, 6, none⟩ (.slice la (flen f) lc)).heap[w.heap.size]? = some (.cells #[.int .i64 0, .int .i64 0, .int .i64 0, .int .i64 0, .string { data := #[] }, .slice none 0 0, .slice none 0 0] 26 (0, 0)) := by rw [O5.block _ (by omega)]; exact z5
      have HX : Hid (VX (fun b => w.heap.size < b) (W5.setCell ⟨w.heap.size + 1, 6, none⟩ (.slice la (flen f) lc)) ⟨11, y, k, 0, noText, []⟩ f (.agg #[.int .i64 11, .int .i64 (y : Int), .int .i64 (k : Int), .int .i64 0, .string noText, .slice none 0 0, .slice la (flen f) lc])) := by
        have hM := HM5.out
        exact (hrow5.kept (Nat.le_of_eq (by simp [World.setCell])) fun j h1 h2 => O5.block j (by omega)).vx (dict_pay y k hy16 hk16) rfl (by omega) fun b hb => by omega
      have he6 : res = .ok ((⟨11, y, k, 0, noText, []⟩, f), r2) := by rw [HE.out, he5]
      have he7 : res = .ok ((⟨11, y, k, 0, { data := #[] }, []⟩, f), r2) := he6
      clear hrow5 b5 z5 B5 Z5 RA
      go_simp
      refine hK.out _ _ ⟨d1, d2⟩ (fun _ => ?_)
      clear hK K
      (try simp only [Act.put, List.setIfInBounds_toArray, List.set_cons_zero, List.set_cons_succ])
      refine wpAnyH_take (i := 11) (v := ?_) rfl (by kernel_rfl) (by kernel_rfl) (by kernel_rfl) (fun _ _ _ h => h) (Or.inl ⟨by rfl, ?_⟩) (by assumption) ?_
      rotate_left
      · intro w hSw
        (try dsimp only at hSw)
        (try (obtain ⟨_, _, _, _, _, _, _, _, _, _⟩ := hSw))
        (try (obtain ⟨_, _, _, _, _, _, _⟩ := hSw))
        (try (obtain ⟨_, _⟩ := hSw))
        go_simp
        (try with_reducible rfl)
      (try simp only [Act.put, List.setIfInBounds_toArray, List.set_cons_zero, List.set_cons_succ])
      refine wpAnyH_ready (rs := [12]) (by kernel_rfl) (by simp) ?_
      refine AllReadyH.cons rfl (fun K hK => ?_) AllReadyH.nil
      go_simp
      refine hK.out _ _ ⟨by rw [World.cell?_setCell_other _ _ _ _ (by simp)]; exact d1, by rw [World.cell?_setCell_other _ _ _ _ (by simp)]; exact d2⟩ (fun _ => ?_)
      clear hK K
      refine wpAnyH_done (by kernel_rfl) ?_ _
      go_wp2_with fail
      refine finish (p := ⟨11, y, k, 0, { data := #[] }, []⟩) (c := f) (rest := r2) (W := W5.setCell ⟨w.heap.size + 1, 6, none⟩ (.slice la (flen f) lc)) (iv := .slice none 0 0) (lv := .slice la (flen f) lc) rfl QOK rfl z6' hR he7 hf6 hrd6 ?_
      exact HX.out
    · intro s W5 he5 hf5
      have q := QNO s W5 (by rw [HE.out, he5]) (hwt.trans hf5)
      obtain ⟨ch, hch⟩ : ∃ ch, gives s = .panicked ch := ⟨_, rfl⟩
      rw [hch] at q ⊢
      exact ⟨rfl, q⟩

/-- a map, whole -/
theorem dict_any (w0 w : World) (R m : Nat) (bs : List Nat) (room : Int) (P : Int → List Nat → RV) (h : Rd w0 w R m bs room) (hw : Ways w R m)
    (HP : ∀ (k : Int) (v : Value) (W : World), wayOk k room = true → Ways W R m → WayIs W R k v → WayOf w0 W R m room v (P k)) : TakesV 84 #[.pointer (some ⟨R, 0, none⟩)] w0 w R m room (rDict room P bs) := by
  by_cases hx : ∃ n b r, rNum 0 65536 bs = .ok (n, b :: r) ∧ ¬ n = 0
  · obtain ⟨n, b, r, h1, h2⟩ := hx
    exact dict_main w0 w R m bs room P h hw HP n b r h1 h2
  · refine dict_easy w0 w R m bs room P h fun n r e h0 => ?_
    cases r with
    | nil => rfl
    | cons b r => exact absurd ⟨n, b, r, e, h0⟩ hx
end Go.Proofs.Ytikoddlidhefpaa

/-
  Parsers: what is taken is taken whatever stands behind; a shorter beginning is too short; what no writer lays stays so.
-/
namespace Go.Proofs.Ytikoddlidhefpaa
set_option linter.unusedVariables false
open Go.ChangeShapes Go.WideShapes Go.ChangeAt Go.RowKit Go.Deep

abbrev Ps (α : Type) := List Nat → Except Bool (α × List Nat)
def Good {α : Type} (f : Ps α) : Prop :=
  ∀ bs, (∀ a r, f bs = .ok (a, r) → ∃ u, bs = u ++ r ∧ (∀ x, f (u ++ x) = .ok (a, x)) ∧ ∀ v t, u = v ++ t → t ≠ [] → f v = .error true) ∧ (f bs = .error false → ∀ x, f (bs ++ x) = .error false)
def bnd {α β : Type} (f : Ps α) (g : α → Ps β) : Ps β := fun bs => match f bs with
  | .error s => .error s
  | .ok (a, r) => g a r
theorem bnd_err {α β : Type} {f : Ps α} {g : α → Ps β} {bs : List Nat} {s : Bool} (h : f bs = .error s) : bnd f g bs = .error s := by
  simp only [bnd, h]
theorem bnd_ok {α β : Type} {f : Ps α} {g : α → Ps β} {bs r : List Nat} {a : α} (h : f bs = .ok (a, r)) : bnd f g bs = g a r := by
  simp only [bnd, h]
theorem good_bnd {α β : Type} {f : Ps α} {g : α → Ps β} (hf : Good f) (hg : ∀ a, Good (g a)) : Good (bnd f g) := by
  intro bs
  cases e : f bs with
  | error s =>
    rw [bnd_err e]
    refine ⟨fun b r2 h => (by cases h), fun h x => ?_⟩
    cases h
    exact bnd_err ((hf bs).2 e x)
  | ok ar =>
    obtain ⟨a, r⟩ := ar
    rw [bnd_ok e]
    obtain ⟨u, hu, h1, h2⟩ := (hf bs).1 a r e
    refine ⟨fun b r2 h => ?_, fun h x => ?_⟩
    · obtain ⟨u2, hu2, k1, k2⟩ := (hg a r).1 b r2 h
      refine ⟨u ++ u2, by rw [hu, hu2, List.append_assoc], fun x => ?_, fun v t hv ht => ?_⟩
      · rw [List.append_assoc, bnd_ok (h1 (u2 ++ x))]
        exact k1 x
      · rcases List.append_eq_append_iff.1 hv with ⟨xs, e1, e2⟩ | ⟨cs, e1, e2⟩
        · rw [e1, bnd_ok (h1 xs)]
          exact k2 xs t e2 ht
        · by_cases hb : cs = []
          · subst hb
            simp only [List.append_nil] at e1
            simp only [List.nil_append] at e2
            subst e1
            have h0 := h1 []
            rw [List.append_nil] at h0
            rw [bnd_ok h0]
            exact k2 [] u2 rfl (by rw [← e2]; exact ht)
          · exact bnd_err (h2 v cs e1 hb)
    · rw [hu, List.append_assoc, bnd_ok (h1 (r ++ x))]
      exact (hg a r).2 h x
theorem good_ok {α : Type} (a : α) : Good (fun bs => .ok (a, bs)) := by
  intro bs
  refine ⟨fun b r h => ?_, fun h => by cases h⟩
  cases h
  refine ⟨[], rfl, fun x => rfl, fun v t h ht => ?_⟩
  exact absurd (List.append_eq_nil_iff.1 h.symm).2 ht
theorem good_err {α : Type} (s : Bool) : Good (α := α) (fun _ => .error s) := fun bs => ⟨fun b r h => (by cases h), fun h _ => h⟩
theorem good_take : Good rTake := by
  intro bs
  cases bs with
  | nil => exact ⟨fun b r h => (by cases h), fun h => by cases h⟩
  | cons c l =>
    refine ⟨fun b r h => ?_, fun h => by cases h⟩
    cases h
    refine ⟨[c], rfl, fun x => rfl, fun v t h ht => ?_⟩
    cases v with
    | nil => rfl
    | cons d v =>
      have hl := congrArg List.length h
      simp only [List.length_cons, List.length_append, List.length_nil] at hl
      exact absurd (List.length_eq_zero_iff.1 (by omega : t.length = 0)) ht
/-- the first byte is looked at ahead of it -/
def peeks {α : Type} (q : Nat → Bool) (f : Ps α) : Ps α := fun bs => match bs with
  | [] => .error true
  | c :: l => if q c = true then .error false else f (c :: l)
theorem good_peek {α : Type} {q : Nat → Bool} {f : Ps α} (hf : Good f) (h0 : f [] = .error true) : Good (peeks q f) := by
  intro bs
  cases bs with
  | nil => exact ⟨fun b r h => (by cases h), fun h => by cases h⟩
  | cons c l =>
    cases hq : q c
    · have e : ∀ l, peeks q f (c :: l) = f (c :: l) := fun l => by simp [peeks, hq]
      rw [e]
      refine ⟨fun b r h => ?_, fun h x => ?_⟩
      · obtain ⟨u, hu, h1, h2⟩ := (hf (c :: l)).1 b r h
        cases u with
        | nil =>
          have := h1 []
          simp only [List.append_nil] at this
          rw [h0] at this
          cases this
        | cons d u =>
          simp only [List.cons_append, List.cons.injEq] at hu
          obtain ⟨rfl, hu⟩ := hu
          refine ⟨c :: u, by rw [hu]; rfl, fun x => by rw [List.cons_append, e]; exact h1 x, fun v t hv ht => ?_⟩
          cases v with
          | nil => rfl
          | cons d v =>
            have hv' := hv
            simp only [List.cons_append, List.cons.injEq] at hv
            obtain ⟨rfl, hv⟩ := hv
            rw [e]
            exact h2 _ t hv' ht
      · rw [List.cons_append, e]
        exact (hf (c :: l)).2 h x
    · have e : ∀ l, peeks q f (c :: l) = .error false := fun l => by simp [peeks, hq]
      rw [e]
      exact ⟨fun b r h => (by cases h), fun _ x => by rw [List.cons_append, e]⟩
theorem good_ite {α : Type} {c : Prop} [Decidable c] {f g : Ps α} (hf : Good f) (hg : Good g) : Good (fun bs => if c then f bs else g bs) := by
  by_cases h : c
  · simpa only [if_pos h] using hf
  · simpa only [if_neg h] using hg
theorem good_text (n : Nat) : Good (rText n) := by
  intro bs
  unfold rText
  by_cases h : bs.length < n
  · rw [if_pos h]
    exact ⟨fun b r h => (by cases h), fun h => by cases h⟩
  · rw [if_neg h]
    refine ⟨fun b r e => ?_, fun h => by cases h⟩
    cases e
    have hl : (bs.take n).length = n := by rw [List.length_take]; omega
    refine ⟨bs.take n, (List.take_append_drop n bs).symm, fun x => ?_, fun v t hv ht => ?_⟩
    · rw [if_neg (by rw [List.length_append]; omega), List.take_left' hl, List.drop_left' hl]
    · have := congrArg List.length hv
      rw [List.length_append, hl] at this
      have ht' : t.length ≠ 0 := fun h => ht (List.length_eq_zero_iff.1 h)
      rw [if_pos (by omega)]
theorem good_of_eq {α : Type} {f g : Ps α} (h : ∀ bs, f bs = g bs) (hg : Good g) : Good f := by
  have : f = g := funext h
  rw [this]
  exact hg

theorem good_numF {least most : Nat} : ∀ f n s, Good (rNumF least most f n s)
  | 0, n, s => by
    intro bs
    cases bs with
    | nil => exact ⟨fun b r h => by simp [rNumF] at h, fun h => by simp [rNumF] at h⟩
    | cons c l => exact ⟨fun b r h => by simp [rNumF] at h, fun _ x => by simp [rNumF]⟩
  | f + 1, n, s => by
    refine good_of_eq (g := bnd rTake fun c bs => if (most - n) / 2 ^ s < c % 128 then .error false
      else if 128 ≤ c then
        if (most - (n + c % 128 * 2 ^ s)) / 2 ^ (s + 7) = 0 ∨ n + c % 128 * 2 ^ s + (most - (n + c % 128 * 2 ^ s)) / 2 ^ (s + 7) * 2 ^ (s + 7) < least then .error false
        else rNumF least most f (n + c % 128 * 2 ^ s) (s + 7) bs
      else if n + c % 128 * 2 ^ s < least ∨ (c % 128 = 0 ∧ 0 < s) then .error false else .ok (n + c % 128 * 2 ^ s, bs)) (fun bs => ?_) (good_bnd good_take fun c => ?_)
    · cases bs <;> rfl
    · exact good_ite (good_err _) (good_ite (good_ite (good_err _) (good_numF f _ _)) (good_ite (good_err _) (good_ok _)))
theorem good_num (least most : Nat) : Good (rNum least most) := good_numF 10 0 0
theorem good_truth : Good rTruth := by
  refine good_of_eq (g := bnd rTake fun c bs => if c = 1 then .ok ((scal 1 1, .nil), bs) else if c = 2 then .ok ((scal 1 0, .nil), bs) else .error false) (fun bs => ?_) (good_bnd good_take fun c => good_ite (good_ok _) (good_ite (good_ok _) (good_err _)))
  cases bs <;> rfl
theorem good_small : Good rSmall := by
  refine good_of_eq (g := bnd rTake fun c bs => .ok ((scal 3 (if c < 128 then (c : Int) else (c : Int) - 256), .nil), bs)) (fun bs => ?_) (good_bnd good_take fun c => good_ok _)
  cases bs <;> rfl
theorem good_signed (k : Int) (most : Nat) : Good (rSigned k most) := by
  refine good_of_eq (g := bnd (rNum 0 most) fun n bs => .ok ((scal k (unzig n), .nil), bs)) (fun bs => ?_) (good_bnd (good_num _ _) fun c => good_ok _)
  unfold rSigned bnd
  rcases rNum 0 most bs with s | ⟨n, r⟩ <;> rfl
theorem good_dblF : ∀ k n, Good (rDblF k n)
  | 0, n => good_of_eq (g := fun bs => .ok (n, bs)) (fun bs => rDblF_zero n bs) (good_ok _)
  | k + 1, n => by
    refine good_of_eq (g := bnd rTake fun c bs => rDblF k (n / 256 + c * 72057594037927936) bs) (fun bs => ?_) (good_bnd good_take fun c => good_dblF k _)
    cases bs <;> rfl
theorem good_double : Good rDouble := by
  refine good_of_eq (g := bnd (rDblF 8 0) fun n bs => .ok ((scal 7 (wrap64 (n : Int)), .nil), bs)) (fun bs => ?_) (good_bnd (good_dblF _ _) fun c => good_ok _)
  unfold rDouble bnd
  rcases rDblF 8 0 bs with s | ⟨n, r⟩ <;> rfl
theorem good_textV : Good rTextV := by
  refine good_of_eq (g := bnd (rNum 0 1048576) fun n => bnd (rText n) fun x bs => .ok ((⟨8, 0, 0, 0, x, []⟩, .nil), bs)) (fun bs => ?_) (good_bnd (good_num _ _) fun n => good_bnd (good_text n) fun x => good_ok _)
  unfold rTextV bnd
  rcases rNum 0 1048576 bs with s | ⟨n, r⟩
  · rfl
  · dsimp only
    rcases rText n r with s | ⟨x, q⟩ <;> rfl
theorem good_leaf (k : Int) : Good (rLeaf k) :=
  good_ite good_truth (good_ite good_small (good_ite (good_signed _ _) (good_ite (good_signed _ _) (good_ite (good_signed _ _) (good_ite good_double good_textV)))))
theorem good_each : ∀ (qs : List (List Nat → RV)), (∀ q ∈ qs, Good q) → ∀ f, Good (rEach qs f)
  | [], _, f => good_ok f
  | q :: qs, h, f => by
    refine good_of_eq (g := bnd q fun pc => rEach qs (fsnoc f pc.1 pc.2)) (fun bs => ?_) (good_bnd (h q (List.mem_cons_self ..)) fun pc => good_each qs (fun x hx => h x (List.mem_cons_of_mem _ hx)) _)
    simp only [rEach, bnd]
    rcases q bs with s | ⟨⟨p, c⟩, r⟩ <;> rfl
theorem good_rounds (qs : List (List Nat → RV)) (h : ∀ q ∈ qs, Good q) : ∀ n f, Good (rRounds qs n f)
  | 0, f => good_ok f
  | n + 1, f => by
    refine good_of_eq (g := bnd (rEach qs f) fun g => rRounds qs n g) (fun bs => ?_) (good_bnd (good_each qs h f) fun g => good_rounds qs h n g)
    simp only [rRounds, bnd]
    rcases rEach qs f bs with s | ⟨g, r⟩ <;> rfl
theorem good_listOf {q : List Nat → RV} (h : Good q) (k n : Nat) : Good (rListOf q k n) := by
  refine good_of_eq (g := bnd (rRounds [q] n .nil) fun f bs => .ok ((⟨9, 0, k, 0, noText, []⟩, f), bs)) (fun bs => ?_) (good_bnd (good_rounds [q] (fun x hx => by rw [List.mem_singleton.1 hx]; exact h) n .nil) fun f => good_ok _)
  unfold rListOf bnd
  rcases rRounds [q] n .nil bs with s | ⟨f, r⟩ <;> rfl
theorem rHalves_eq (bs : List Nat) : rHalves bs = bnd rTake (fun b bs => .ok ((b / 16, b % 16), bs)) bs := by cases bs <;> rfl
theorem good_halves : Good rHalves := good_of_eq rHalves_eq (good_bnd good_take fun b => good_ok _)
theorem good_list {room : Int} {P : Int → List Nat → RV} (hP : ∀ k, Good (P k)) : Good (rList room P) := by
  refine good_of_eq (g := bnd rHalves fun nk bs => if nk.1 = 0 ∧ knownB nk.2 = true then .ok ((⟨9, 0, nk.2, 0, noText, []⟩, .nil), bs)
    else if wayOk nk.2 room = false then .error false
    else if nk.1 = 15 then bnd (rNum 15 65536) (fun m => rListOf (P nk.2) nk.2 m) bs
    else rListOf (P nk.2) nk.2 nk.1 bs) (fun bs => ?_) (good_bnd good_halves fun nk => good_ite (good_ok _) (good_ite (good_err _) (good_ite (good_bnd (good_num _ _) fun m => good_listOf (hP _) _ _) (good_listOf (hP _) _ _))))
  unfold rList bnd
  rcases rHalves bs with s | ⟨⟨n, k⟩, r⟩
  · rfl
  · dsimp only
    rcases rNum 15 65536 r with s | ⟨m, q⟩ <;> rfl
theorem good_dict {room : Int} {P : Int → List Nat → RV} (hP : ∀ k, Good (P k)) : Good (rDict room P) := by
  refine good_of_eq (g := bnd (rNum 0 65536) fun n bs => if n = 0 then .ok ((⟨11, 0, 0, 0, noText, []⟩, .nil), bs) else bnd rHalves (fun yk bs => if wayOk yk.1 room = false ∨ wayOk yk.2 room = false then .error false else bnd (rRounds [P yk.1, P yk.2] n .nil) (fun f bs => .ok ((⟨11, yk.1, yk.2, 0, noText, []⟩, f), bs)) bs) bs) (fun bs => ?_)
    (good_bnd (good_num _ _) fun n => good_ite (good_ok _) (good_bnd good_halves fun yk => good_ite (good_err _) (good_bnd (good_rounds _ (fun x hx => by
      simp only [List.mem_cons, List.not_mem_nil, or_false] at hx
      rcases hx with rfl | rfl <;> exact hP _) n .nil) fun f => good_ok _)))
  unfold rDict bnd
  rcases rNum 0 65536 bs with s | ⟨n, r⟩
  · rfl
  · dsimp only
    by_cases h0 : n = 0
    · simp only [if_pos h0]
    · simp only [if_neg h0]
      rcases rHalves r with s | ⟨⟨y, k⟩, q⟩
      · rfl
      · dsimp only
        by_cases hw : wayOk y room = false ∨ wayOk k room = false
        · simp only [if_pos hw]
        · simp only [if_neg hw]
          rcases rRounds [P y, P k] n .nil q with s | ⟨f, t⟩ <;> rfl
theorem good_far (least : Nat) : Good (rFar least) := by
  refine good_of_eq (g := fun bs => if 32767 < least then .error false else peeks (fun c => decide (c % 2 = 1)) (bnd (rNum (2 * least) 65534) fun n bs => .ok (n / 2, bs)) bs) (fun bs => ?_) (good_ite (good_err _) (good_peek (good_bnd (good_num _ _) fun n => good_ok _) rfl))
  unfold rFar
  by_cases h : 32767 < least
  · simp only [if_pos h]
  · simp only [if_neg h]
    cases bs with
    | nil => rfl
    | cons c l =>
      simp only [peeks, bnd, decide_eq_true_eq]
      by_cases hc : c % 2 = 1
      · simp only [if_pos hc]
      · simp only [if_neg hc]
        rcases rNum (2 * least) 65534 (c :: l) with s | ⟨n, r⟩ <;> rfl
theorem good_id (ahead step : Nat) : Good (rID ahead step) :=
  good_ite (good_far _) (good_ite (good_err _) (good_ok _))
theorem rStructF_succ (room : Int) (P : Int → List Nat → RV) (n : Nat) (ids : List Int) (f : Fo) (id : Nat) (bs : List Nat) : rStructF room P (n + 1) ids f id bs = bnd rHalves (fun sk bs =>
    if sk.1 = 0 ∧ sk.2 = 0 then .ok ((⟨12, 0, 0, 0, noText, ids⟩, f), bs)
    else if ¬ (sk.2 = 1 ∨ sk.2 = 2) ∧ wayOk sk.2 room = false then .error false
    else bnd (rID id sk.1) (fun i bs => if sk.2 = 1 ∨ sk.2 = 2 then rStructF room P n (ids ++ [(i : Int)]) (fsnoc f (scal 1 (if sk.2 = 1 then 1 else 0)) .nil) i bs
      else bnd (P sk.2) (fun pc bs => rStructF room P n (ids ++ [(i : Int)]) (fsnoc f pc.1 pc.2) i bs) bs) bs) bs := by
  simp only [rStructF, bnd]
  rcases rHalves bs with s | ⟨⟨step, k⟩, r⟩
  · rfl
  · dsimp only
    by_cases h1 : step = 0 ∧ k = 0
    · simp only [if_pos h1]
    · simp only [if_neg h1]
      by_cases h2 : ¬ (k = 1 ∨ k = 2) ∧ wayOk k room = false
      · simp only [if_pos h2]
      · simp only [if_neg h2]
        rcases rID id step r with s | ⟨i, q⟩
        · rfl
        · dsimp only
          by_cases h3 : k = 1 ∨ k = 2
          · simp only [if_pos h3]
          · simp only [if_neg h3]
            rcases P k q with s | ⟨⟨p, c⟩, t⟩ <;> rfl
theorem good_structF {room : Int} {P : Int → List Nat → RV} (hP : ∀ k, Good (P k)) : ∀ n ids f id, Good (rStructF room P n ids f id)
  | 0, ids, f, id => good_err true
  | n + 1, ids, f, id => good_of_eq (rStructF_succ room P n ids f id) (good_bnd good_halves fun sk => good_ite (good_ok _) (good_ite (good_err _) (good_bnd (good_id _ _) fun i => good_ite (good_structF hP n _ _ _) (good_bnd (hP _) fun pc => good_structF hP n _ _ _))))
theorem good_len {α : Type} {f : Ps α} (h : Good f) {bs r : List Nat} {a : α} (e : f bs = .ok (a, r)) : r.length ≤ bs.length := by
  obtain ⟨u, hu, _⟩ := (h bs).1 a r e
  rw [hu, List.length_append]
  omega
theorem halves_len {bs r : List Nat} {a : Nat × Nat} (e : rHalves bs = .ok (a, r)) : r.length + 1 = bs.length := by
  cases bs with
  | nil => cases e
  | cons b l => cases e; rfl
/-- the rounds are enough -/
theorem structF_more {room : Int} {P : Int → List Nat → RV} (hP : ∀ k, Good (P k)) : ∀ n m ids f id bs, bs.length < n → n ≤ m → rStructF room P m ids f id bs = rStructF room P n ids f id bs
  | 0, _, _, _, _, _, h, _ => by omega
  | _ + 1, 0, _, _, _, _, _, h => by omega
  | n + 1, m + 1, ids, f, id, bs, h, hm => by
    rw [rStructF_succ, rStructF_succ]
    cases e : rHalves bs with
    | error s => rw [bnd_err e, bnd_err e]
    | ok v =>
      obtain ⟨⟨step, k⟩, r⟩ := v
      have hl := halves_len e
      rw [bnd_ok e, bnd_ok e]
      dsimp only
      by_cases h1 : step = 0 ∧ k = 0
      · simp only [if_pos h1]
      · simp only [if_neg h1]
        by_cases h2 : ¬ (k = 1 ∨ k = 2) ∧ wayOk k room = false
        · simp only [if_pos h2]
        · simp only [if_neg h2]
          cases e2 : rID id step r with
          | error s => rw [bnd_err e2, bnd_err e2]
          | ok v =>
            obtain ⟨i, q⟩ := v
            have hl2 := good_len (good_id id step) e2
            rw [bnd_ok e2, bnd_ok e2]
            by_cases h3 : k = 1 ∨ k = 2
            · simp only [if_pos h3]
              exact structF_more hP n m _ _ _ _ (by omega) (by omega)
            · simp only [if_neg h3]
              cases e3 : P k q with
              | error s => rw [bnd_err e3, bnd_err e3]
              | ok v =>
                obtain ⟨pc, t⟩ := v
                have hl3 := good_len (hP k) e3
                rw [bnd_ok e3, bnd_ok e3]
                exact structF_more hP n m _ _ _ _ (by omega) (by omega)
theorem struct_fuel {room : Int} {P : Int → List Nat → RV} (hP : ∀ k, Good (P k)) {N : Nat} {bs : List Nat} (h : bs.length < N) : rStruct room P bs = rStructF room P N [] .nil 0 bs :=
  (structF_more hP (bs.length + 1) N [] .nil 0 bs (Nat.lt_succ_self _) h).symm
theorem good_struct {room : Int} {P : Int → List Nat → RV} (hP : ∀ k, Good (P k)) : Good (rStruct room P) := by
  intro bs
  refine ⟨fun a r h => ?_, fun h x => ?_⟩
  · have key : ∀ N, bs.length < N → ∃ u, bs = u ++ r ∧ (∀ x, rStructF room P N [] .nil 0 (u ++ x) = .ok (a, x)) ∧ ∀ v t, u = v ++ t → t ≠ [] → rStructF room P N [] .nil 0 v = .error true := fun N hN =>
      (good_structF hP N [] .nil 0 bs).1 a r (by rw [← struct_fuel hP hN]; exact h)
    obtain ⟨u, hu, h1, h2⟩ := key (bs.length + 1) (Nat.lt_succ_self _)
    refine ⟨u, hu, fun x => ?_, fun v t hv ht => ?_⟩
    · obtain ⟨u', hu', k1, _⟩ := key (bs.length + x.length + 1) (by omega)
      have : u' = u := List.append_cancel_right (hu'.symm.trans hu)
      subst this
      have hl : u'.length ≤ bs.length := by rw [hu, List.length_append]; omega
      rw [struct_fuel hP (N := bs.length + x.length + 1) (by rw [List.length_append]; omega)]
      exact k1 x
    · have hl : v.length ≤ bs.length := by rw [hu, hv, List.length_append, List.length_append]; omega
      rw [struct_fuel hP (N := bs.length + 1) (by omega)]
      exact h2 v t hv ht
  · have hN : bs.length < bs.length + x.length + 1 := by omega
    rw [struct_fuel hP hN] at h
    rw [struct_fuel hP (N := bs.length + x.length + 1) (by rw [List.length_append]; omega)]
    exact (good_structF hP _ [] .nil 0 bs).2 h x
theorem good_val : ∀ r k, Good (rVal r k)
  | 0, k => good_leaf k
  | r + 1, k => good_ite (good_list (good_val r)) (good_ite (good_dict (good_val r)) (good_ite (good_struct (good_val r)) (good_leaf k)))
theorem good_read : Good rRead := good_val 32 12
theorem rNumF_ge {least most : Nat} : ∀ {f n s : Nat} {bs : List Nat} {k : Nat} {r : List Nat}, rNumF least most f n s bs = .ok (k, r) → least ≤ k
  | _, _, _, [], _, _, h => by simp [rNumF] at h
  | 0, _, _, _ :: _, _, _, h => by simp [rNumF] at h
  | f + 1, n, s, c :: r, k, q, h => by
    unfold rNumF at h
    split at h
    · cases h
    · split at h
      · split at h
        · cases h
        · exact rNumF_ge h
      · split at h
        · cases h
        · cases h
          omega
theorem rNum_ge {least most : Nat} {bs : List Nat} {k : Nat} {r : List Nat} (h : rNum least most bs = .ok (k, r)) : least ≤ k := rNumF_ge h
end Go.Proofs.Ytikoddlidhefpaa
