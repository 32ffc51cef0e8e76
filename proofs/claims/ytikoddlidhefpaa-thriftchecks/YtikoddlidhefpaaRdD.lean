/-
  The reader's texts, real numbers and numbers with a sign.
-/
import Derived.Test.YtikoddlidhefpaaRdC
import Derived.Deep.RegionWith
import Derived.Deep.RegionHeld3
namespace Go.Proofs.Ytikoddlidhefpaa
set_option linter.unusedVariables false
set_option linter.unusedSimpArgs false
open Go.ChangeShapes Go.WideShapes Go.ChangeAt Go.RowKit Go.Deep

/-- the box of an answer -/
abbrev zbox (w : World) : World := w.alloc (.cells #[.int .i64 0, .int .i64 0, .int .i64 0, .int .i64 0, .string { data := #[] }, .slice none 0 0, .slice none 0 0] 26)

def rTextV (bs : List Nat) : RV := match rNum 0 1048576 bs with
  | .error s => .error s
  | .ok (n, r) => match rText n r with
    | .error s => .error s
    | .ok (x, q) => .ok ((⟨8, 0, 0, 0, x, []⟩, .nil), q)
theorem rNumF_le {least most : Nat} : ∀ {f n s : Nat} {bs : List Nat} {k : Nat} {r : List Nat}, n ≤ most → rNumF least most f n s bs = .ok (k, r) → k ≤ most
  | _, _, _, [], _, _, _, h => by simp [rNumF] at h
  | 0, _, _, _ :: _, _, _, _, h => by simp [rNumF] at h
  | f + 1, n, s, c :: r, k, q, hn, h => by
    unfold rNumF at h
    split at h
    · cases h
    · rename_i h1
      have h2 : c % 128 * 2 ^ s ≤ most - n := by
        have h3 : c % 128 * 2 ^ s ≤ (most - n) / 2 ^ s * 2 ^ s := Nat.mul_le_mul_right _ (by omega)
        exact Nat.le_trans h3 (Nat.div_mul_le_self _ _)
      split at h
      · split at h
        · cases h
        · exact rNumF_le (by omega) h
      · split at h
        · cases h
        · cases h
          omega
theorem rNum_le {least most : Nat} {bs : List Nat} {k : Nat} {r : List Nat} (h : rNum least most bs = .ok (k, r)) : k ≤ most := rNumF_le (Nat.zero_le _) h

theorem txt_size (l : List Nat) : (txt l).size = l.length := by
  simp [txt, strOfNums, ByteArray.size]

set_option maxRecDepth 10000 in
set_option maxHeartbeats 1000000 in
theorem text_any (w0 w : World) (R m : Nat) (bs : List Nat) (room : Int) (h : Rd w0 w R m bs room) : TakesV 81 #[.pointer (some ⟨R, 0, none⟩)] w0 w R m room (rTextV bs) := by
  intro Q QOK QNO
  have hab : Below w.heap.size w (zbox w) := alloc_below w _
  have hR := h.lt
  have K := takeNumber_any w0 _ R m bs room 0 1048576 (by omega) (by omega) (h.later hab)
  cases hn : rNum 0 1048576 bs with
  | error s =>
    have HE : Hid (rTextV bs = .error s) := by show _ = _; simp [rTextV, hn]
    have K' := K.no hn
    clear K hn
    go_enter Try.func81, Try.ntmps81
    go_wp2_with fail
    refine K'.mono ?_
    rintro e wx ⟨rfl, hf⟩
    have q := QNO s wx HE.out ((RF.of_below hab).trans hf)
    obtain ⟨ch, hch⟩ : ∃ ch, gives s = .panicked ch := ⟨_, rfl⟩
    rw [hch] at q ⊢
    clear hch
    go_wp2_with fail
    exact ⟨rfl, q⟩
  | ok nr =>
    obtain ⟨n, r⟩ := nr
    have hle := rNum_le hn
    have K' := K.ok hn
    have hle' : (n : Int) ≤ 1048576 := by omega
    cases ht : rText n r with
    | error s =>
      have HE : Hid (rTextV bs = .error s) := by show _ = _; simp [rTextV, hn, ht]
      have HT : Hid (rText n r = .error s) := ht
      clear K hn ht
      go_enter Try.func81, Try.ntmps81
      go_wp2_with fail
      refine K'.mono ?_
      rintro e wx ⟨rfl, hrd, hf⟩
      have T := (takeText_any w0 wx R m r room n hle hrd).no HT.out
      go_wp2_with fail
      refine T.mono ?_
      rintro e wy ⟨rfl, hf2⟩
      have q := QNO s wy HE.out ((RF.of_below hab).trans (hf.trans hf2))
      obtain ⟨ch, hch⟩ : ∃ ch, gives s = .panicked ch := ⟨_, rfl⟩
      rw [hch] at q ⊢
      clear hch
      go_wp2_with fail
      exact ⟨rfl, q⟩
    | ok xq =>
      obtain ⟨x, q⟩ := xq
      have HE : Hid (rTextV bs = .ok ((⟨8, 0, 0, 0, x, []⟩, .nil), q)) := by show _ = _; simp [rTextV, hn, ht]
      have HT : Hid (rText n r = .ok (x, q)) := ht
      have hxs : x.size ≤ 1048576 := by
        unfold rText at ht
        split at ht
        · cases ht
        · cases ht
          rw [txt_size, List.length_take]
          omega
      have z0 : i64ok 0 := ⟨by omega, by omega⟩
      have HP : Hid (PayOk ⟨8, 0, 0, 0, x, []⟩) := ⟨(⟨by omega, by omega⟩ : i64ok 8), z0, z0, z0, Nat.le_trans hxs (by decide), Nat.zero_le _, fun _ h => by cases h⟩
      clear K hn ht hxs
      go_enter Try.func81, Try.ntmps81
      go_wp2_with fail
      refine K'.mono ?_
      rintro e wx ⟨rfl, hrd, hf⟩
      have T := (takeText_any w0 wx R m r room n hle hrd).ok HT.out
      go_wp2_with fail
      refine T.mono ?_
      rintro e wy ⟨rfl, hrd2, hf2⟩
      have hb2 := (hf.trans hf2).box (heap_new w _) (Nat.ne_of_gt hR)
      obtain ⟨⟨z0, z1, z2, z3, z4, z5, z6⟩, f0, f1, f2, f3, f4, f5, f6⟩ := blk7 hb2
      go_wp2_with fail
      exact finish (p := ⟨8, 0, 0, 0, x, []⟩) (c := .nil) rfl QOK rfl hb2 hR HE.out ((RF.of_below hab).trans (hf.trans hf2)) hrd2 (vx_leaf HP.out rfl)

/-- eight bytes, the lowest ahead, taken one by one -/
def rDblF : Nat → Nat → List Nat → Except Bool (Nat × List Nat)
  | 0, n, bs => .ok (n, bs)
  | _ + 1, _, [] => .error true
  | k + 1, n, c :: r => rDblF k (n / 256 + c * 72057594037927936) r
def rDouble (bs : List Nat) : RV := match rDblF 8 0 bs with
  | .error s => .error s
  | .ok (n, r) => .ok ((scal 7 (wrap64 (n : Int)), .nil), r)
theorem wrapEq (x : Int) : IntKind.i64.wrap x = wrap64 x := by rw [IntKind.wrap_i64]; unfold wrap64; omega
theorem rDblF_zero (n : Nat) (bs : List Nat) : rDblF 0 n bs = .ok (n, bs) := by cases bs <;> rfl
theorem rDblF_nil (k n : Nat) : rDblF (k + 1) n [] = .error true := rfl
theorem wrap64_ok (x : Int) : i64ok (wrap64 x) := by unfold wrap64 i64ok; omega
theorem or_hi (a c : Nat) (ha : a < 72057594037927936) (hc : c < 256) : bits .or .u64 (a : Int) ((c * 72057594037927936 : Nat) : Int) = ((a + c * 72057594037927936 : Nat) : Int) := by
  have := or_add a c 56 ha (by simp only [Nat.reducePow]; omega)
  simpa using this

set_option maxRecDepth 10000 in
set_option maxHeartbeats 2000000 in
theorem double_any (w0 w : World) (R m : Nat) (bs : List Nat) (room : Int) (h : Rd w0 w R m bs room) : TakesV 80 #[.pointer (some ⟨R, 0, none⟩)] w0 w R m room (rDouble bs) := by
  intro Q QOK QNO
  have hab : Below w.heap.size w (zbox w) := alloc_below w _
  have hR := h.lt
  go_enter Try.func80, Try.ntmps80
  go_wp2_with fail
  go_loopw [3, 4] (fun nv iv wr => ∃ (i n : Nat) (l : List Nat), nv = .int .u64 n ∧ iv = .int .i64 i ∧ i ≤ 8 ∧ Hid (n < 18446744073709551616 ∧ rDblF (8 - i) n l = rDblF 8 0 bs) ∧ Hid (Rd w0 wr R m l room) ∧ RF R (zbox w) wr) (fun _ iv _ => 8 - (intOf iv).toNat)
  case atStart => exact ⟨0, 0, bs, rfl, rfl, by omega, ⟨by omega, rfl⟩, h.later hab, RF.refl _ _⟩
  case round =>
    obtain ⟨i, n, l, rfl, rfl, hi, HN, HD, hf⟩ := hrel
    by_cases hlt : i < 8
    · have hlt' : (i : Int) < 8 := by omega
      obtain ⟨k, hk⟩ : ∃ k, 8 - i = k + 1 := ⟨7 - i, by omega⟩
      obtain ⟨n1, n2⟩ := HN.out
      rw [hk] at n2
      obtain ⟨q, hq⟩ : ∃ q : Nat, q = n / 256 := ⟨_, rfl⟩
      have o1 : (n : Int) / 256 = (q : Int) := by omega
      have q1 : q < 72057594037927936 := by omega
      cases l with
      | nil =>
        have HE : Hid (rDouble bs = .error true) := by show _ = _; rw [rDblF_nil] at n2; simp only [rDouble, ← n2]
        have K := take_nil w0 wr R m room HD.out
        clear n2 hk hq HN
        go_wp2_with fail
        refine K.mono ?_
        rintro e wx ⟨rfl, hwx⟩
        obtain rfl := hwx.symm
        unfold gives
        go_wp2_with fail
        exact ⟨rfl, QNO true _ HE.out ((RF.of_below hab).trans hf)⟩
      | cons c l =>
        have K := take_cons w0 wr R m c l room HD.out
        have hc := HD.out.b8 c (by simp)
        have o2 := or_hi q c q1 hc
        obtain ⟨S, hS⟩ : ∃ S : Nat, S = c * 72057594037927936 := ⟨_, rfl⟩
        obtain ⟨N, hN⟩ : ∃ N : Nat, N = q + S := ⟨_, rfl⟩
        rw [← hS, ← hN] at o2
        have o3 : IntKind.u64.wrap ((c : Int) * 72057594037927936) = (S : Int) := by rw [IntKind.wrap_u64]; omega
        have HN' : Hid (N < 18446744073709551616 ∧ rDblF (8 - (i + 1)) N l = rDblF 8 0 bs) := by
          refine ⟨by omega, ?_⟩
          rw [← n2, show 8 - (i + 1) = k by omega, hN, hS, hq]
          rfl
        have hc' : (c : Int) < 256 := by omega
        clear n2 hk hq HN hS hN
        go_wp2_with fail
        refine K.mono ?_
        rintro e wx ⟨rfl, hrd, hfx⟩
        go_wp2_with fail
        go_roundw
        case rel => exact ⟨i + 1, N, l, rfl, by go_num, by omega, HN', hrd, hf.trans hfx⟩
        case measure => simp [intOf]; omega
    · have hlt' : (8 : Int) ≤ (i : Int) := by omega
      obtain ⟨n1, n2⟩ := HN.out
      rw [show 8 - i = 0 by omega] at n2
      obtain ⟨V, hV⟩ : ∃ V : Int, wrap64 (n : Int) = V := ⟨_, rfl⟩
      have HE : Hid (rDouble bs = .ok ((scal 7 V, .nil), l)) := by show _ = _; rw [rDblF_zero] at n2; simp only [rDouble, ← n2, hV]
      have hV2 : IntKind.i64.wrap (n : Int) = V := by rw [← hV]; exact wrapEq _
      have hVok : i64ok V := by rw [← hV]; exact wrap64_ok _
      have hb2 := hf.box (heap_new w _) (Nat.ne_of_gt hR)
      obtain ⟨⟨z0, z1, z2, z3, z4, z5, z6⟩, f0, f1, f2, f3, f4, f5, f6⟩ := blk7 hb2
      have HD' : Hid (Rd w0 wr R m l room) := HD
      clear n2 HN
      go_wp2_with fail
      exact finish (p := scal 7 V) (c := .nil) rfl QOK rfl hb2 hR HE.out ((RF.of_below hab).trans hf) HD'.out (vx_leaf (scal_ok ⟨by omega, by omega⟩ hVok) rfl)

theorem xor_ones_i64 (a : Nat) (ha : a < 9223372036854775808) : bits .xor .i64 (a : Int) (-1) = -1 - (a : Int) := by
  show IntKind.i64.wrap ((BitVec.ofInt 64 (a : Int) ^^^ BitVec.ofInt 64 (-1)).toNat : Int) = _
  have h1 : BitVec.ofInt 64 (-1) = BitVec.allOnes 64 := by decide
  rw [h1, BitVec.xor_allOnes, BitVec.toNat_not, ofInt_u64 a (by omega)]
  simp [IntKind.wrap, IntKind.bits, IntKind.signed]
  omega
theorem xor_zero_i64 (a : Nat) (ha : a < 9223372036854775808) : bits .xor .i64 (a : Int) 0 = (a : Int) := by
  show IntKind.i64.wrap ((BitVec.ofInt 64 (a : Int) ^^^ BitVec.ofInt 64 0).toNat : Int) = _
  have h1 : BitVec.ofInt 64 0 = 0#64 := by decide
  rw [h1, BitVec.xor_zero, ofInt_u64 a (by omega)]
  simp [IntKind.wrap, IntKind.bits, IntKind.signed]
  omega
def uzz (n : Int) : Int := if n % 2 = 0 then n / 2 else -(n / 2) - 1
theorem unzig_val (a : Int) (h1 : 0 ≤ a) (h2 : a ≤ 18446744073709551615) :
    bits BinOp.xor IntKind.i64 (a / 2) (wrap64 (-wrap64 (bits BinOp.and IntKind.u64 a 1))) = uzz a := by
  have e : bits BinOp.and IntKind.u64 a 1 = a % 2 := by
    have := u64_and a 1 h1 (by omega) (by omega) (by omega)
    rw [this]
    have := nat_mask1 a.toNat
    simp [this]
    omega
  rw [e]
  unfold wrap64 uzz
  by_cases h : a % 2 = 0
  · rw [if_pos h, h]
    have e1 : a / 2 = ((a / 2).toNat : Int) := by omega
    rw [e1]
    simpa using xor_zero_i64 (a / 2).toNat (by omega)
  · rw [if_neg h]
    have e2 : a % 2 = 1 := by omega
    rw [e2]
    have e1 : a / 2 = ((a / 2).toNat : Int) := by omega
    rw [e1]
    have := xor_ones_i64 (a / 2).toNat (by omega)
    simp only [Int.reduceAdd, Int.reduceMod, Int.reduceSub, Int.reduceNeg]
    rw [this]
    omega

/-- a number with its sign, back -/
def unzig (n : Nat) : Int := if n % 2 = 0 then ((n / 2 : Nat) : Int) else -((n / 2 : Nat) : Int) - 1
def rSigned (k : Int) (most : Nat) (bs : List Nat) : RV := match rNum 0 most bs with
  | .error s => .error s
  | .ok (n, r) => .ok ((scal k (unzig n), .nil), r)
theorem unzig_ok {n : Nat} (h : n ≤ 18446744073709551615) : i64ok (unzig n) := by unfold unzig i64ok; split <;> omega

set_option maxRecDepth 10000 in
set_option maxHeartbeats 2000000 in
theorem signed1_any (w0 w : World) (R m : Nat) (bs : List Nat) (room : Int) (b1 b2 b3 : Nat) (k : Int) (most : Nat) (hk : i64ok k) (hm : most ≤ 18446744073709551615) (h : Rd w0 w R m bs room)
    (c1 : w.cell? ⟨b1, 0, none⟩ = some (.pointer (some ⟨R, 0, none⟩))) (c2 : w.cell? ⟨b2, 0, none⟩ = some (.int .u64 most)) (c3 : w.cell? ⟨b3, 0, none⟩ = some (.int .i64 k)) (n1 : b1 ≠ R) (n2 : b2 ≠ R) (n3 : b3 ≠ R) :
    TakesV 93 #[.pointer (some ⟨b1, 0, none⟩), .pointer (some ⟨b2, 0, none⟩), .pointer (some ⟨b3, 0, none⟩)] w0 w R m room (rSigned k most bs) := by
  intro Q QOK QNO
  have hab : Below w.heap.size w (zbox w) := alloc_below w _
  have hR := h.lt
  have l1 : b1 < w.heap.size := block_lt_of_cell c1
  have l2 : b2 < w.heap.size := block_lt_of_cell c2
  have l3 : b3 < w.heap.size := block_lt_of_cell c3
  have K := takeNumber_any w0 (zbox w).drew R m bs room 0 most (by omega) hm (h.later hab.drew)
  have hm' : (most : Int) ≤ 18446744073709551615 := by omega
  cases hn : rNum 0 most bs with
  | error s =>
    have HE : Hid (rSigned k most bs = .error s) := by show _ = _; simp [rSigned, hn]
    have K' := K.no hn
    clear K hn
    go_enter Try.func93, Try.ntmps93
    go_wp2_with fail
    have s0 : (zbox w).drew.cell? ⟨b1, 0, none⟩ = some (.pointer (some ⟨R, 0, none⟩)) ∧ (zbox w).drew.cell? ⟨b2, 0, none⟩ = some (.int .u64 most) := ⟨cell_later hab.drew c1, cell_later hab.drew c2⟩
    refine wp_region_held_drew (S := fun w' => w'.cell? ⟨b1, 0, none⟩ = some (.pointer (some ⟨R, 0, none⟩)) ∧ w'.cell? ⟨b2, 0, none⟩ = some (.int .u64 most)) (by kernel_rfl) s0 (fun hHeld => ?_)
    refine wpAnyH_take (i := 0) (v := ?_) rfl (by kernel_rfl) (by kernel_rfl) (by kernel_rfl) (fun _ _ _ h => h) (Or.inl ⟨by rfl, ?_⟩) (by assumption) ?_
    rotate_left
    · intro w hSw
      obtain ⟨s1, s2⟩ := hSw
      go_simp
      (try with_reducible rfl)
    (try simp only [Act.put, List.setIfInBounds_toArray, List.set_cons_zero, List.set_cons_succ])
    refine wpAnyH_take (i := 1) (v := ?_) rfl (by kernel_rfl) (by kernel_rfl) (by kernel_rfl) (fun _ _ _ h => h) (Or.inl ⟨by rfl, ?_⟩) (by assumption) ?_
    rotate_left
    · intro w hSw
      obtain ⟨s1, s2⟩ := hSw
      go_simp
      (try with_reducible rfl)
    (try simp only [Act.put, List.setIfInBounds_toArray, List.set_cons_zero, List.set_cons_succ])
    refine wpAnyH_take (i := 2) (v := ?_) rfl (by kernel_rfl) (by kernel_rfl) (by kernel_rfl) (fun _ _ _ h => h) (Or.inl ⟨by rfl, ?_⟩) (by assumption) ?_
    rotate_left
    · intro w hSw
      obtain ⟨s1, s2⟩ := hSw
      go_simp
      (try with_reducible rfl)
    (try simp only [Act.put, List.setIfInBounds_toArray, List.set_cons_zero, List.set_cons_succ])
    refine wpAnyH_take (i := 3) (v := ?_) rfl (by kernel_rfl) (by kernel_rfl) (by kernel_rfl) (fun _ _ _ h => h) (Or.inl ⟨by rfl, ?_⟩) (by assumption) ?_
    rotate_left
    · intro w hSw
      obtain ⟨s1, s2⟩ := hSw
      go_simp
      (try with_reducible rfl)
    (try simp only [Act.put, List.setIfInBounds_toArray, List.set_cons_zero, List.set_cons_succ])
    refine wpAnyH_ready (rs := [4]) (by kernel_rfl) (by simp) ?_
    refine AllReadyH.cons rfl (fun K hK => ?_) AllReadyH.nil
    go_simp
    refine K'.mono ?_
    rintro e wx ⟨rfl, hf⟩
    have q := QNO s wx HE.out ((RF.of_below hab.drew).trans hf)
    obtain ⟨ch, hch⟩ : ∃ ch, gives s = .panicked ch := ⟨_, rfl⟩
    rw [hch] at q ⊢
    exact ⟨rfl, q⟩
  | ok nr =>
    obtain ⟨n, r⟩ := nr
    have hle := rNum_le hn
    have HE : Hid (rSigned k most bs = .ok ((scal k (unzig n), .nil), r)) := by show _ = _; simp [rSigned, hn]
    have K' := K.ok hn
    have huz : i64ok (unzig n) := unzig_ok (by omega)
    have hn' : (n : Int) ≤ 18446744073709551615 := by omega
    have UV := unzig_val n (by omega) hn'
    have hu2 : uzz (n : Int) = unzig n := by unfold uzz unzig; split <;> split <;> omega
    rw [hu2] at UV
    clear hu2
    generalize unzig n = U at *
    clear K hn
    go_enter Try.func93, Try.ntmps93
    go_wp2_with fail
    go_region_with (go_at_call 94; refine K'.mono ?_; rintro e wx ⟨rfl, hrd, hf⟩)
    all_goals (
      have hb2 := hf.box (b := w.heap.size) (heap_new w _) (Nat.ne_of_gt hR)
      obtain ⟨⟨z0, z1, z2, z3, z4, z5, z6⟩, f0, f1, f2, f3, f4, f5, f6⟩ := blk7 hb2
      have d3 := hf.cell (cell_later hab.drew c3) n3
      go_wp2_with fail
      exact finish (p := scal k U) (c := .nil) rfl QOK rfl hb2 hR HE.out ((RF.of_below hab.drew).trans hf) hrd (vx_leaf (scal_ok hk huz) rfl))
end Go.Proofs.Ytikoddlidhefpaa
