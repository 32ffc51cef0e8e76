/-
  The reader: a box of what is left, of what was made and of how much is to be made; the first takes.
-/
import Derived.Test.YtkkignjenjdjiaaBase
import Derived.Test.YtkkignjenjdjiaaMath
import Derived.WalkLawsBesides
import Derived.BigQuiet
import Derived.Deep.QuietTactic
namespace Go.Proofs.Ytkkignjenjdjiaa
set_option linter.unusedVariables false
open Go.ChangeShapes Go.WideShapes Go.ChangeAt Go.RowKit

/-- the reader's box at block R: the bytes 'bs' are left, which lie in memory that was there in w0; 'made' lies in a row of its own behind R -/
structure Sd (w0 w : World) (R : Nat) (bs made : List Nat) (size : Nat) : Prop where
  box : ∃ a cp v, w.heap[R]? = some (.cells #[.slice a bs.length cp, v, .int .i64 (size : Int)] 43 (0, 0)) ∧ Src w0 a bs.length cp (c8 bs) ∧ bs.length ≤ cp ∧ w.ownsRow (R + 1) 5 1 v made.length (c8 made)
  b8 : ∀ c ∈ bs, c < 256
  m8 : ∀ c ∈ made, c < 256
  len : bs.length ≤ 140737488355328
  mlen : made.length ≤ 1048576
  old : Below w0.heap.size w0 w
  le : w0.heap.size ≤ R

theorem lt_of_heap {w : World} {b : Nat} {o : Obj} (hb : w.heap[b]? = some o) : b < w.heap.size := by
  rcases Nat.lt_or_ge b w.heap.size with h1 | h1
  · exact h1
  · rw [Array.getElem?_eq_none h1] at hb; cases hb
theorem own_kept {w w' : World} {B : Nat} {e : TypeId} {s : Nat} {v : Value} {n : Nat} {xs : List Value} (h : w.ownsRow B e s v n xs) (hk : ∀ k, k < w.heap.size → B ≤ k → w'.heap[k]? = w.heap[k]?) : w'.ownsRow B e s v n xs := by
  refine ⟨h.1, ?_⟩
  rcases h.2 with h1 | ⟨g, cap, cur, e1, e2, e3, e4⟩
  · exact .inl h1
  · exact .inr ⟨g, cap, cur, e1, e2, by rw [hk g (lt_of_heap e3) e2]; exact e3, e4⟩
theorem Sd.lt {w0 w : World} {R : Nat} {bs made : List Nat} {size : Nat} (h : Sd w0 w R bs made size) : R < w.heap.size := by
  obtain ⟨a, cp, v, h1, _⟩ := h.box
  exact lt_of_heap h1
theorem Sd.later {w0 w w' : World} {R : Nat} {bs made : List Nat} {size : Nat} (h : Sd w0 w R bs made size) (hb : Below w.heap.size w w') : Sd w0 w' R bs made size := by
  obtain ⟨a, cp, v, h1, h2, h3, h4⟩ := h.box
  exact ⟨⟨a, cp, v, by rw [hb.block R h.lt, h1], h2, h3, own_kept h4 fun k hk _ => hb.block k hk⟩, h.b8, h.m8, h.len, h.mlen, h.old.trans (hb.mono h.old.size), h.le⟩

/-- how reading is given up -/
def gives (c : Int) : Ending := .panicked [{ v := .iface 57 (.agg #[.int .i64 c]), recovered := false }]

/-- the reader's box behind a store of what is left -/
theorem sd_store {w0 w : World} {R : Nat} {bs rest made : List Nat} {size : Nat} (h : Sd w0 w R bs made size) {a : Option Addr} {n cp : Nat} (hn : rest.length = n) (hs : Src w0 a n cp (c8 rest)) (hc : n ≤ cp) (hsub : ∀ c ∈ rest, c ∈ bs) (hle : rest.length ≤ bs.length) :
    Sd w0 (w.setCell ⟨R, 0, none⟩ (.slice a n cp)) R rest made size := by
  obtain ⟨a0, c0, v, h1, _, _, h4⟩ := h.box
  subst hn
  have hset := set_block (j := 0) (u := .slice a rest.length cp) h1
  simp only [List.setIfInBounds_toArray, List.set_cons_zero] at hset
  exact ⟨⟨a, cp, v, hset, hs, hc, ownsRow_setCell_below h4 (Nat.lt_succ_self _) _⟩, fun c hx => h.b8 c (hsub c hx), h.m8, Nat.le_trans hle h.len, h.mlen, h.old.setCell h.le _, h.le⟩
theorem set_below {R : Nat} (w : World) (j : Nat) (v : Value) : Below R w (w.setCell ⟨R, j, none⟩ v) := (Below.refl R w).setCell (p := ⟨R, j, none⟩) (Nat.le_refl _) v

set_option maxRecDepth 100000 in
set_option maxHeartbeats 1000000 in
theorem take_short (w0 w : World) (R : Nat) (bs made : List Nat) (size n : Nat) (hn : bs.length < n) (h : Sd w0 w R bs made size) :
    Calls Try.prog 33 #[.pointer (some ⟨R, 0, none⟩), .int .i64 n] w fun e w' => e = gives 6 ∧ w' = w := by
  obtain ⟨a, cp, v, h1, h2, h4, _⟩ := h.box
  have c0 : w.cell? ⟨R, 0, none⟩ = some (.slice a bs.length cp) := cell_of_block h1 rfl
  have hs' : (bs.length : Int) < (n : Int) := by omega
  go_enter Try.func33, Try.ntmps33
  go_wp2
  exact ⟨rfl, rfl, rfl⟩

set_option maxRecDepth 100000 in
set_option maxHeartbeats 2000000 in
theorem take_ok (w0 w : World) (R : Nat) (bs made : List Nat) (size n : Nat) (hn0 : 1 ≤ n) (hs : n ≤ bs.length) (h : Sd w0 w R bs made size) :
    Calls Try.prog 33 #[.pointer (some ⟨R, 0, none⟩), .int .i64 n] w fun e w' => ∃ g off cp, e = .returned (.slice (some ⟨g, off, none⟩) n cp) ∧ Src w0 (some ⟨g, off, none⟩) n cp (c8 (bs.take n)) ∧ Sd w0 w' R (bs.drop n) made size ∧ Below R w w' ∧ ∃ x, w' = w.setCell ⟨R, 0, none⟩ x := by
  obtain ⟨a, cp, v, h1, h2, h4, _⟩ := h.box
  obtain ⟨g, off, rfl, _⟩ := src_at h2 (j := 0) (by omega)
  have c0 : w.cell? ⟨R, 0, none⟩ = some (.slice (some ⟨g, off, none⟩) bs.length cp) := cell_of_block h1 rfl
  have f0 : w.frozen? ⟨R, 0, none⟩ = false := frozen_of_block h1
  have HT : Hid (Src w0 (some ⟨g, off, none⟩) n cp (c8 (bs.take n))) := src_take h2 hs
  have HLD : Hid ((bs.drop n).length = bs.length - n) := List.length_drop
  have HSUB : Hid (∀ c ∈ bs.drop n, c ∈ bs) := fun c hc => List.mem_of_mem_drop hc
  have HD : Hid (Sd w0 (w.setCell ⟨R, 0, none⟩ (.slice (some ⟨g, off + n, none⟩) (bs.length - n) (cp - n))) R (bs.drop n) made size) := sd_store h HLD.out (src_drop h2 hs) (by omega) HSUB.out (by rw [HLD.out]; omega)
  have HZ : Hid (cp = n → Sd w0 (w.setCell ⟨R, 0, none⟩ (.slice (some ⟨g, off, none⟩) (bs.length - n) 0)) R (bs.drop n) made size) := fun hq => by
    have e0 : bs.length - n = 0 := by omega
    have e : bs.drop n = [] := List.drop_eq_nil_of_le (by omega)
    rw [e, e0]
    exact sd_store h rfl (src_zero _ _ _) (Nat.zero_le _) (fun c hc => by cases hc) (by simp)
  have hcp : bs.length ≤ cp := h4
  have hl := h.len
  obtain ⟨L, hL⟩ : ∃ L, L = bs.length := ⟨_, rfl⟩
  rw [← hL] at c0 hcp hl hs HD HZ
  clear hL HLD h1 h2 h4 h
  have hs' : (n : Int) ≤ (L : Int) := by omega
  have hcp' : (L : Int) ≤ (cp : Int) := by omega
  go_enter Try.func33, Try.ntmps33
  go_wp2
  all_goals (
    go_ret
    first | exact ⟨g, off, cp, rfl, HT.out, HD.out, set_below _ _ _, _, rfl⟩ | exact ⟨g, off, n, rfl, by have h0 := HT.out; rwa [show cp = n by omega] at h0, HZ.out (by omega), set_below _ _ _, _, rfl⟩)

/-- one byte -/
theorem take_one (w0 w : World) (R b : Nat) (bs made : List Nat) (size : Nat) (h : Sd w0 w R (b :: bs) made size) :
    Calls Try.prog 33 #[.pointer (some ⟨R, 0, none⟩), .int .i64 1] w fun e w' => ∃ g off cp, e = .returned (.slice (some ⟨g, off, none⟩) 1 cp) ∧ w'.cell? ⟨g, off, none⟩ = some (.int .u8 b) ∧ Sd w0 w' R bs made size ∧ Below R w w' := by
  have K := take_ok w0 w R (b :: bs) made size 1 (Nat.le_refl _) (by simp) h
  refine Calls.mono K ?_
  rintro e w' ⟨g, off, cp, rfl, hs, hd, hb, _⟩
  refine ⟨g, off, cp, rfl, ?_, by simpa using hd, hb⟩
  obtain ⟨g', off', e, hc⟩ := src_at hs (j := 0) (by simp)
  cases e
  have := cell_later hd.old hc
  simpa using this
theorem take_none (w0 w : World) (R : Nat) (made : List Nat) (size : Nat) (h : Sd w0 w R [] made size) :
    Calls Try.prog 33 #[.pointer (some ⟨R, 0, none⟩), .int .i64 1] w fun e w' => e = gives 6 ∧ w' = w := take_short w0 w R [] made size 1 (by simp) h

set_option maxRecDepth 100000 in
set_option maxHeartbeats 1000000 in
theorem mustBeLeft_any (w0 w : World) (R : Nat) (bs made : List Nat) (size n : Nat) (hm : made.length ≤ size) (hz : size ≤ 4294967295) (hn : n ≤ 4294967296) (h : Sd w0 w R bs made size) :
    Calls Try.prog 41 #[.pointer (some ⟨R, 0, none⟩), .int .i64 n] w fun e w' => (∃ k, w' = w.drewN k) ∧ e = if size < made.length + n then gives 8 else .returned (.tuple #[]) := by
  obtain ⟨a, cp, v, h1, h2, h4, h5⟩ := h.box
  obtain ⟨ad, c, rfl⟩ := own_sl h5
  have c1 : w.cell? ⟨R, 1, none⟩ = some (.slice ad made.length c) := cell_of_block h1 rfl
  have c2 : w.cell? ⟨R, 2, none⟩ = some (.int .i64 (size : Int)) := cell_of_block h1 rfl
  clear h1 h2 h4 h5 h
  obtain ⟨L, hL⟩ : ∃ L, L = made.length := ⟨_, rfl⟩
  rw [← hL] at hm c1 ⊢
  clear hL
  by_cases hc : size < L + n
  · rw [if_pos hc]
    have hc' : (size : Int) - (L : Int) < (n : Int) := by omega
    go_enter Try.func41, Try.ntmps41
    go_wp2
    go_quiet (fail)
    go_wp2
    exact ⟨rfl, ⟨_, rfl⟩, rfl⟩
  · rw [if_neg hc]
    have hc' : (n : Int) ≤ (size : Int) - (L : Int) := by omega
    go_enter Try.func41, Try.ntmps41
    go_wp2
    go_quiet (fail)
    go_wp2
    go_end0
    exact ⟨⟨_, rfl⟩, rfl⟩

/-- 'Below R' of a draw -/
theorem drewN_below (B : Nat) (w : World) (k : Nat) : Below B w (w.drewN k) := by
  exact ⟨rfl, rfl, rfl, Nat.le_refl _, fun _ _ => rfl⟩

theorem i64_or_add (n c s : Nat) (hn : n < 2 ^ s) (h : n + c * 2 ^ s < 9223372036854775808) : bits .or .i64 (n : Int) ((c * 2 ^ s : Nat) : Int) = ((n + c * 2 ^ s : Nat) : Int) := by
  have h2 := Nat.two_pow_add_eq_or_of_lt hn c
  have hx : n ||| c * 2 ^ s = n + c * 2 ^ s := by rw [Nat.mul_comm c, Nat.or_comm, ← h2, Nat.add_comm]
  show IntKind.i64.wrap ((BitVec.ofInt 64 (n : Int) ||| BitVec.ofInt 64 ((c * 2 ^ s : Nat) : Int)).toNat : Int) = _
  rw [BitVec.toNat_or, ofInt_u64 n (by omega), ofInt_u64 (c * 2 ^ s) (by omega), hx]
  generalize n + c * 2 ^ s = z at *
  rw [IntKind.wrap_i64]
  omega

theorem calls_of {P : Program} {f : FuncId} {args : Array Value} {w : World} {Post : Ending → World → Prop} (H : ∀ Q : Ending → World → Prop, (∀ e w', Post e w' → Q e w') → Calls P f args w Q) : Calls P f args w Post := H Post fun _ _ h => h
theorem take_succ_getD (l : List Nat) (i : Nat) (h : i < l.length) : l.take (i + 1) = l.take i ++ [l.getD i 0] := by
  rw [List.take_succ_eq_append_getElem h]
  simp [List.getD, List.getElem?_eq_getElem h]
theorem getD_mem (l : List Nat) (i : Nat) (h : i < l.length) : l.getD i 0 ∈ l := by
  simp [List.getD, List.getElem?_eq_getElem h]
theorem pow256 (i : Nat) : (256 : Nat) ^ i = 2 ^ (8 * i) := by rw [Nat.pow_mul]

set_option maxRecDepth 100000 in
set_option maxHeartbeats 1000000 in
theorem low_short (w0 w : World) (R : Nat) (bs made : List Nat) (size n : Nat) (hn : bs.length < n) (h : Sd w0 w R bs made size) :
    Calls Try.prog 40 #[.pointer (some ⟨R, 0, none⟩), .int .i64 n] w fun e w' => e = gives 6 ∧ w' = w := by
  have K := take_short w0 w R bs made size n hn h
  go_enter Try.func40, Try.ntmps40
  go_wp2_with fail
  refine K.mono ?_
  rintro e wx ⟨rfl, hwx⟩
  obtain rfl := hwx.symm
  unfold gives
  go_wp2_with fail
  exact ⟨rfl, rfl, rfl⟩
set_option maxRecDepth 100000 in
set_option maxHeartbeats 1000000 in
theorem low_ok (w0 w : World) (R : Nat) (bs made : List Nat) (size n : Nat) (hn : 1 ≤ n) (hn4 : n ≤ 4) (hs : n ≤ bs.length) (h : Sd w0 w R bs made size) :
    Calls Try.prog 40 #[.pointer (some ⟨R, 0, none⟩), .int .i64 n] w fun e w' => e = .returned (.int .i64 (little (bs.take n) : Nat)) ∧ Sd w0 w' R (bs.drop n) made size ∧ Below R w w' := by
  have K := take_ok w0 w R bs made size n hn hs h
  have HB : Hid (∀ c ∈ bs.take n, c < 256) := fun c hc => h.b8 c (List.mem_of_mem_take hc)
  have HL : Hid ((bs.take n).length = n) := by show _ = _; rw [List.length_take]; omega
  refine calls_of fun Q HQ => ?_
  have QOK : ∀ w', Sd w0 w' R (bs.drop n) made size → Below R w w' → Q (.returned (.int .i64 (little (bs.take n) : Nat))) w' := fun w' h1 h2 => HQ _ _ ⟨rfl, h1, h2⟩
  clear HQ
  go_enter Try.func40, Try.ntmps40
  go_wp2_with fail
  refine K.mono ?_
  rintro e wx ⟨g, off, cp, rfl, hsrc, hd, hb, _⟩
  have hsw : Src wx (some ⟨g, off, none⟩) n cp (c8 (bs.take n)) := hsrc.later hd.old
  generalize bs.take n = T at *
  have HS : Hid (Src wx (some ⟨g, off, none⟩) n cp (c8 T)) := hsw
  clear hsw hsrc
  go_wp2_with fail
  go_loop [5, 12] (fun nv iv => ∃ i : Nat, i ≤ n ∧ iv = .int .i64 (i : Int) ∧ nv = .int .i64 ((little (T.take i) : Nat) : Int)) (fun _ iv => n - (intOf iv).toNat)
  case atStart => exact ⟨0, Nat.zero_le _, rfl, rfl⟩
  case round =>
    obtain ⟨i, hi, rfl, rfl⟩ := hrel
    by_cases hlt : i < n
    · obtain ⟨g', off', e, hc⟩ := src_at HS.out hlt
      cases e
      have hlt' : (i : Int) < (n : Int) := by omega
      have hiT : i < T.length := by rw [HL.out]; exact hlt
      obtain ⟨c, hcd⟩ : ∃ c, c = T.getD i 0 := ⟨_, rfl⟩
      have hc256 : c < 256 := by rw [hcd]; exact HB.out _ (getD_mem _ _ hiT)
      have hsn := little_snoc (T.take i) c
      rw [hcd, ← take_succ_getD T i hiT, ← hcd] at hsn
      have hl := little_lt (T.take i) fun x hx => HB.out x (List.mem_of_mem_take hx)
      have hlen : (T.take i).length = i := by rw [List.length_take]; omega
      rw [hlen, pow256] at hl hsn
      rw [← hcd] at hc
      obtain ⟨s, hsd⟩ : ∃ s : Nat, s = 8 * i := ⟨_, rfl⟩
      rw [← hsd] at hl hsn
      have hs24 : s ≤ 24 := by omega
      obtain ⟨x, hx⟩ : ∃ x, x = little (T.take i) := ⟨_, rfl⟩
      rw [← hx] at hl hsn ⊢
      obtain ⟨y, hy⟩ : ∃ y, y = c * 2 ^ s := ⟨_, rfl⟩
      have hyl : y ≤ 255 * 2 ^ 24 := by
        rw [hy]
        exact Nat.mul_le_mul (by omega) (Nat.pow_le_pow_right (by omega) hs24)
      have hxl : x < 2 ^ 24 := Nat.lt_of_lt_of_le hl (Nat.pow_le_pow_right (by omega) hs24)
      have e1 : IntKind.i64.wrap ((c : Int) * 2 ^ s) = (y : Int) := by
        have e : (c : Int) * 2 ^ s = ((c * 2 ^ s : Nat) : Int) := by simp
        rw [e, ← hy, IntKind.wrap_i64]
        omega
      have e2 : bits .or .i64 (x : Int) (y : Int) = ((little (T.take (i + 1)) : Nat) : Int) := by
        rw [hsn, hy]
        exact i64_or_add x c s hl (by rw [← hy]; omega)
      have hsi : (8 : Int) * (i : Int) = (s : Int) := by omega
      have hmin : min s 64 = s := by omega
      have hcI : (c : Int) < 256 := by omega
      generalize hZ : little (T.take (i + 1)) = Z at *
      have HZ : Hid (little (T.take (i + 1)) = Z) := hZ
      clear hZ
      clear hsn hcd hsd hx hy hl hxl
      go_wp2_with fail
      go_round
      case rel => exact ⟨i + 1, by omega, by go_num, by rw [HZ.out]⟩
      case measure => simp [intOf]; omega
    · have hge : ¬ (i : Int) < (n : Int) := by omega
      have HTT : Hid (T.take i = T) := List.take_of_length_le (by rw [HL.out]; omega)
      rw [HTT.out]
      go_wp2_with fail
      exact QOK _ hd hb

theorem low_any (w0 w : World) (R : Nat) (bs made : List Nat) (size n : Nat) (hn : 1 ≤ n) (hn4 : n ≤ 4) (h : Sd w0 w R bs made size) :
    Calls Try.prog 40 #[.pointer (some ⟨R, 0, none⟩), .int .i64 n] w fun e w' => Below R w w' ∧ match sLow n bs with
      | .ok (x, r) => e = .returned (.int .i64 (x : Nat)) ∧ Sd w0 w' R r made size
      | .error c => e = gives c := by
  unfold sLow
  by_cases hs : bs.length < n
  · rw [if_pos hs]
    exact (low_short w0 w R bs made size n hs h).mono fun e w' ⟨h1, h2⟩ => ⟨by rw [h2]; exact Below.refl _ _, h1⟩
  · rw [if_neg hs]
    exact (low_ok w0 w R bs made size n hn hn4 (by omega) h).mono fun e w' ⟨h1, h2, h3⟩ => ⟨h3, h1, h2⟩

set_option maxRecDepth 100000 in
set_option maxHeartbeats 1000000 in
theorem number_any (w0 w : World) (R : Nat) (bs made : List Nat) (size : Nat) (h : Sd w0 w R bs made size) :
    Calls Try.prog 24 #[.pointer (some ⟨R, 0, none⟩)] w fun e w' => Below R w w' ∧ match sNum bs with
      | .ok (x, r) => e = .returned (.int .i64 (x : Nat)) ∧ Sd w0 w' R r made size
      | .error c => e = gives c := by
  refine calls_of fun Q HQ => ?_
  obtain ⟨res, HR⟩ : ∃ r, Hid (sNum bs = r) := ⟨_, rfl⟩
  have QOK : ∀ x r w', res = .ok (x, r) → Below R w w' → Sd w0 w' R r made size → Q (.returned (.int .i64 (x : Nat))) w' := fun x r w' e h1 h2 => HQ _ _ ⟨h1, by rw [HR.out, e]; exact ⟨rfl, h2⟩⟩
  have QNO : ∀ c w', res = .error c → Below R w w' → Q (gives c) w' := fun c w' e h1 => HQ _ _ ⟨h1, by rw [HR.out, e]⟩
  clear HQ
  go_enter Try.func24, Try.ntmps24
  go_wp2_with fail
  go_loopw [3, 4] (fun nv sv wr => ∃ (n j : Nat) (l : List Nat), nv = .int .i64 (n : Int) ∧ sv = .int .i64 ((7 * j : Nat) : Int) ∧ j ≤ 4 ∧ Hid (n < 2 ^ (7 * j) ∧ sNumF n j l = res) ∧ Hid (Sd w0 wr R l made size) ∧ Below R w wr) (fun _ sv _ => 70 - (intOf sv).toNat)
  case atStart => exact ⟨0, 0, bs, rfl, rfl, by omega, ⟨by simp, HR.out⟩, h, Below.refl _ _⟩
  case round =>
    obtain ⟨n, j, l, rfl, rfl, hj, HN, HD, hf⟩ := hrel
    cases l with
    | nil =>
      have K := take_none w0 wr R made size HD.out
      have HE : Hid (res = .error 6) := by
        show _ = _
        rw [← HN.out.2]
        rfl
      go_wp2_with fail
      refine K.mono ?_
      rintro e wx ⟨rfl, hwx⟩
      obtain rfl := hwx.symm
      unfold gives
      go_wp2_with fail
      exact ⟨rfl, QNO 6 _ HE.out hf⟩
    | cons c l =>
      have K := take_one w0 wr R c l made size HD.out
      have hc := HD.out.b8 c (by simp)
      have hc' : (c : Int) < 256 := by omega
      obtain ⟨n1, n3⟩ := HN.out
      obtain ⟨s, hs⟩ : ∃ s : Nat, s = 7 * j := ⟨_, rfl⟩
      rw [← hs] at n1
      simp only [sNumF] at n3
      rw [← hs] at n3
      have hsj : s ≤ 28 := by omega
      have hsi : (7 : Int) * (j : Int) = (s : Int) := by omega
      have hmin : min s 64 = s := by omega
      obtain ⟨d, hd⟩ : ∃ d : Nat, d = c % 128 := ⟨_, rfl⟩
      have hd2 : d < 128 := by omega
      have hdi : (c : Int) % 128 = (d : Int) := by omega
      rw [← hd] at n3
      have p28 : 2 ^ s ≤ 2 ^ 28 := Nat.pow_le_pow_right (by omega) hsj
      obtain ⟨S, hS⟩ : ∃ S : Nat, S = d * 2 ^ s := ⟨_, rfl⟩
      have hSl : S ≤ 127 * 2 ^ 28 := by rw [hS]; exact Nat.mul_le_mul (by omega) p28
      obtain ⟨U, hU⟩ : ∃ U : Nat, U = 128 * 2 ^ s := ⟨_, rfl⟩
      have hUl : U ≤ 128 * 2 ^ 28 := by rw [hU]; exact Nat.mul_le_mul (by omega) p28
      have y1 : IntKind.i64.wrap ((d : Int) * 2 ^ s) = (S : Int) := by
        have e : (d : Int) * 2 ^ s = ((d * 2 ^ s : Nat) : Int) := by simp
        rw [e, ← hS, IntKind.wrap_i64]
        omega
      have y2 : IntKind.i64.wrap ((128 : Int) * 2 ^ s) = (U : Int) := by
        have e : (128 : Int) * 2 ^ s = ((128 * 2 ^ s : Nat) : Int) := by simp
        rw [e, ← hU, IntKind.wrap_i64]
        omega
      have hnl : n < 2 ^ 28 := Nat.lt_of_lt_of_le n1 p28
      obtain ⟨N, hN⟩ : ∃ N : Nat, N = n + S := ⟨_, rfl⟩
      have hNi : (n : Int) + (S : Int) = (N : Int) := by omega
      have hN7 : N < 2 ^ (s + 7) := by
        rw [hN, hS, Nat.pow_add]
        have h3 : d * 2 ^ s ≤ 127 * 2 ^ s := Nat.mul_le_mul_right _ (by omega)
        generalize 2 ^ s = z at *
        omega
      rw [← hS, ← hU, ← hN] at n3
      have hNl : N ≤ 34359738368 := by omega
      have hNl' : (N : Int) ≤ 34359738368 := by omega
      have hnl' : (n : Int) ≤ 268435456 := by omega
      have hSl' : (S : Int) ≤ 34359738368 := by omega
      have hUl' : (U : Int) ≤ 34359738368 := by omega
      by_cases b1 : 128 ≤ c
      · rw [if_pos b1] at n3
        have b1' : (128 : Int) ≤ (c : Int) := by omega
        by_cases b2 : 4294967295 < N + U
        · rw [if_pos (.inl b2)] at n3
          have HE : Hid (res = .error 8) := n3.symm
          have b2' : (4294967295 : Int) < (N : Int) + (U : Int) := by omega
          clear n3 HN hd hs hS hU n1 hN hN7 p28
          go_wp2_with fail
          refine K.mono ?_
          rintro e wx ⟨g, off, cp, rfl, hcell, hrd, hfx⟩
          go_wp2_with fail
          exact ⟨rfl, QNO 8 _ HE.out (hf.trans hfx)⟩
        · rw [if_neg (by omega), if_neg (by omega)] at n3
          have b2' : (N : Int) + (U : Int) ≤ 4294967295 := by omega
          have hj4 : j + 1 ≤ 4 := by
            rcases Nat.lt_or_ge j 4 with h4 | h4
            · omega
            · exfalso
              have e : s = 28 := by omega
              subst e
              omega
          have HN' : Hid (N < 2 ^ (7 * (j + 1)) ∧ sNumF N (j + 1) l = res) := by
            have e1 : 7 * (j + 1) = s + 7 := by omega
            rw [e1]
            exact ⟨hN7, n3⟩
          have HTJ : Hid ((s : Int) + 7 = ((7 * (j + 1) : Nat) : Int)) := by show _ = _; omega
          clear n3 HN hd hs hS hU n1 hN hN7 p28
          go_wp2_with fail
          refine K.mono ?_
          rintro e wx ⟨g, off, cp, rfl, hcell, hrd, hfx⟩
          go_wp2_with fail
          go_roundw
          case rel => exact ⟨N, j + 1, l, rfl, by rw [HTJ.out], hj4, HN', hrd, hf.trans hfx⟩
          case measure => have := HTJ.out; simp [intOf]; omega
      · rw [if_neg b1] at n3
        have b1' : (c : Int) < 128 := by omega
        have hdc : d = c := by omega
        by_cases b2 : 4294967295 < N
        · rw [if_pos (.inl (by omega))] at n3
          have HE : Hid (res = .error 8) := n3.symm
          have b2' : (4294967295 : Int) < (N : Int) := by omega
          clear n3 HN hd hs hS hU n1 hN hN7 p28 hdc
          go_wp2_with fail
          refine K.mono ?_
          rintro e wx ⟨g, off, cp, rfl, hcell, hrd, hfx⟩
          go_wp2_with fail
          exact ⟨rfl, QNO 8 _ HE.out (hf.trans hfx)⟩
        have b2' : (N : Int) ≤ 4294967295 := by omega
        by_cases b3 : c = 0 ∧ 0 < j
        · rw [if_pos (.inr b3)] at n3
          have HE : Hid (res = .error 8) := n3.symm
          obtain ⟨b3, b4⟩ := b3
          have b4' : (0 : Int) < (s : Int) := by omega
          have hd0 : d = 0 := by omega
          have hS0 : S = 0 := by rw [hS, hd0]; simp
          have hNn : N = n := by omega
          subst hNn
          subst b3
          clear n3 HN hd hs hS hU n1 hN hN7 p28 hdc hd0 hS0 y1 hSl hSl' hNi hdi
          go_wp2_with fail
          refine K.mono ?_
          rintro e wx ⟨g, off, cp, rfl, hcell, hrd, hfx⟩
          go_wp2_with fail
          exact ⟨rfl, QNO 8 _ HE.out (hf.trans hfx)⟩
        · rw [if_neg (by omega), if_pos (by omega)] at n3
          have HE : Hid (res = .ok (N, l)) := n3.symm
          by_cases b5 : c = 0
          · have hj0 : j = 0 := by omega
            have hd0 : d = 0 := by omega
            have hS0 : S = 0 := by rw [hS, hd0]; simp
            have hNn : N = n := by omega
            subst hNn
            subst b5
            subst hj0
            clear n3 HN hd hs hS hU n1 hN hN7 p28 hdc hd0 hS0 y1 hSl hSl' hNi hdi hsi b3
            go_wp2_with fail
            refine K.mono ?_
            rintro e wx ⟨g, off, cp, rfl, hcell, hrd, hfx⟩
            go_wp2_with fail
            exact QOK N l _ HE.out (hf.trans hfx) hrd
          · have b5' : ¬ (c : Int) = 0 := by omega
            clear n3 HN hd hs hS hU n1 hN hN7 p28 hdc b3
            go_wp2_with fail
            refine K.mono ?_
            rintro e wx ⟨g, off, cp, rfl, hcell, hrd, hfx⟩
            go_wp2_with fail
            exact QOK N l _ HE.out (hf.trans hfx) hrd
end Go.Proofs.Ytkkignjenjdjiaa
