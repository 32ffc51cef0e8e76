/-
  bits.taker's closure.
-/
import Derived.Test.YtdglobonbhkheaaBB
import Derived.WalkMore
namespace Go.Proofs.Ytdglobonbhkheaa
open Go.ChangeShapes Go.WideShapes Go.ChangeAt Go.RowKit

set_option maxRecDepth 100000 in
set_option maxHeartbeats 400000 in
theorem take_yes (Ba Bb g off L cap p : Nat) (c : Int) (w : World) (hp : p < L) (hL : L ≤ 9223372036854775807) (ha : w.cell? ⟨Ba, 0, none⟩ = some (.int .i64 p)) (hf : w.frozen? ⟨Ba, 0, none⟩ = false)
    (hb : w.cell? ⟨Bb, 0, none⟩ = some (.slice (some ⟨g, off, none⟩) L cap)) (hc : w.cell? ⟨g, off + p, none⟩ = some (.int .u8 c)) :
    Calls Try.prog 94 #[.pointer (some ⟨Ba, 0, none⟩), .pointer (some ⟨Bb, 0, none⟩)] w fun e w' => e = .returned (.tuple #[.int .u8 c, .bool true]) ∧ w' = w.setCell ⟨Ba, 0, none⟩ (.int .i64 ((p + 1 : Nat) : Int)) := by
  have hp' : (p : Int) < (L : Int) := by omega
  go_enter Try.func94, Try.ntmps94
  go_wp2
  go_ret2
  exact ⟨rfl, rfl⟩
set_option maxRecDepth 100000 in
set_option maxHeartbeats 400000 in
theorem take_no (Ba Bb L cap p : Nat) (ad : Option Addr) (w : World) (hp : L ≤ p) (ha : w.cell? ⟨Ba, 0, none⟩ = some (.int .i64 p))
    (hb : w.cell? ⟨Bb, 0, none⟩ = some (.slice ad L cap)) :
    Calls Try.prog 94 #[.pointer (some ⟨Ba, 0, none⟩), .pointer (some ⟨Bb, 0, none⟩)] w fun e w' => e = .returned (.tuple #[.int .u8 0, .bool false]) ∧ w' = w := by
  have hp' : (L : Int) ≤ (p : Int) := by omega
  go_enter Try.func94, Try.ntmps94
  go_wp2
  go_ret2
  exact ⟨rfl, rfl⟩
end Go.Proofs.Ytdglobonbhkheaa

/-
  What bits.ReadLittle and the reference's ReadLittle answer, at every slice of bytes, every place and every count of bytes.
-/
namespace Go.Proofs.Ytdglobonbhkheaa
open Go.ChangeShapes Go.WideShapes Go.ChangeAt Go.RowKit

/-- the number of bytes, the lowest first -/
def rl : List Int → Int
  | [] => 0
  | c :: r => c + 256 * rl r
def Bytes (zs : List Int) : Prop := ∀ c ∈ zs, 0 ≤ c ∧ c ≤ 255

theorem rl_bound : ∀ zs : List Int, Bytes zs → 0 ≤ rl zs ∧ rl zs < 256 ^ zs.length
  | [], _ => by simp [rl]
  | c :: r, h => by
    have ih := rl_bound r (fun x hx => h x (List.mem_cons_of_mem _ hx))
    have hc := h c List.mem_cons_self
    simp only [rl, List.length_cons, Int.pow_succ]
    generalize (256 : Int) ^ r.length = p at ih ⊢
    omega
theorem rl_snoc : ∀ (l : List Int) (c : Int), rl (l ++ [c]) = rl l + c * 256 ^ l.length
  | [], c => by simp [rl]
  | d :: l, c => by
    have ih := rl_snoc l c
    simp only [List.cons_append, rl, ih, List.length_cons, Int.pow_succ]
    rw [Int.mul_add, Int.add_assoc]
    congr 1
    congr 1
    rw [Int.mul_comm (256 : Int), Int.mul_assoc]

/-- the refusal's number -/
def rle (L p k : Int) : Int := if k < 0 ∨ 8 < k ∨ p < 0 ∨ L < p then 2 else if L - p < k then 6 else 0
def rlv (zs : List Int) (p k : Int) : Int := if rle zs.length p k = 0 then rl ((zs.drop p.toNat).take k.toNat) else 0

theorem rle_arg {zs : List Int} {L p k : Int} (hL : L = zs.length) (h : k < 0 ∨ 8 < k ∨ p < 0 ∨ L < p) : rle L p k = 2 ∧ rlv zs p k = 0 := by
  have e : rle L p k = 2 := by unfold rle; rw [if_pos h]
  exact ⟨e, by unfold rlv; rw [← hL, e]; rfl⟩
theorem rle_short {zs : List Int} {L p k : Int} (hL : L = zs.length) (h : ¬ (k < 0 ∨ 8 < k ∨ p < 0 ∨ L < p)) (h2 : L - p < k) : rle L p k = 6 ∧ rlv zs p k = 0 := by
  have e : rle L p k = 6 := by unfold rle; rw [if_neg h, if_pos h2]
  exact ⟨e, by unfold rlv; rw [← hL, e]; rfl⟩
theorem rle_ok {zs : List Int} {L p k : Int} (hL : L = zs.length) (h : ¬ (k < 0 ∨ 8 < k ∨ p < 0 ∨ L < p)) (h2 : ¬ L - p < k) : rle L p k = 0 ∧ rlv zs p k = rl ((zs.drop p.toNat).take k.toNat) := by
  have e : rle L p k = 0 := by unfold rle; rw [if_neg h, if_neg h2]
  exact ⟨e, by unfold rlv; rw [← hL, e]; rfl⟩

theorem or_join8 (acc c : Int) (j : Nat) (hj : j ≤ 7) (ha0 : 0 ≤ acc) (ha : acc < 256 ^ j) (hc0 : 0 ≤ c) (hc : c ≤ 255) :
    bits .or .u64 acc (IntKind.u64.wrap (c * 2 ^ (8 * j))) = acc + c * 256 ^ j := by
  have hpow : (2 : Int) ^ (8 * j) = ((2 ^ (8 * j) : Nat) : Int) := by simp
  have hpow2 : (256 : Int) ^ j = ((2 ^ (8 * j) : Nat) : Int) := by rw [Nat.pow_mul]; simp
  have hle : 2 ^ (8 * j) ≤ 2 ^ 56 := Nat.pow_le_pow_right (by omega) (by omega)
  rw [hpow, hpow2]
  rw [hpow2] at ha
  clear hpow hpow2
  obtain ⟨a, rfl⟩ := Int.eq_ofNat_of_zero_le ha0
  obtain ⟨d, rfl⟩ := Int.eq_ofNat_of_zero_le hc0
  have hP : 0 < 2 ^ (8 * j) := Nat.two_pow_pos _
  generalize hQ : 2 ^ (8 * j) = P at *
  have hm : d * P ≤ 255 * 2 ^ 56 := Nat.mul_le_mul (by omega) hle
  rw [← Int.natCast_mul]
  have e2 : IntKind.u64.wrap ((d * P : Nat) : Int) = ((d * P : Nat) : Int) := by rw [IntKind.wrap_u64]; omega
  rw [e2, u64_or_nat _ _ (by omega) (by omega), Nat.or_comm, nat_join (8 * j) _ _ (by rw [hQ]; exact Nat.mul_mod_left _ _) (by rw [hQ]; omega)]
  omega

theorem take_yes' (Ba Bb g off L cap p : Nat) (ad : Option Addr) (c : Int) (w : World) (had : ad = some ⟨g, off, none⟩) (hp : p < L) (hL : L ≤ 9223372036854775807) (ha : w.cell? ⟨Ba, 0, none⟩ = some (.int .i64 p)) (hf : w.frozen? ⟨Ba, 0, none⟩ = false)
    (hb : w.cell? ⟨Bb, 0, none⟩ = some (.slice ad L cap)) (hc : w.cell? ⟨g, off + p, none⟩ = some (.int .u8 c)) :
    Calls Try.prog 94 #[.pointer (some ⟨Ba, 0, none⟩), .pointer (some ⟨Bb, 0, none⟩)] w fun e w' => e = .returned (.tuple #[.int .u8 c, .bool true]) ∧ w' = w.setCell ⟨Ba, 0, none⟩ (.int .i64 ((p + 1 : Nat) : Int)) := by
  subst had
  exact take_yes Ba Bb g off L cap p c w hp hL ha hf hb hc
theorem two_u {a b c d : Int} (h : a = c) (g : b = d) : Ending.returned (.tuple #[.int .u64 a, .int .i64 b]) = .returned (.tuple #[.int .u64 c, .int .i64 d]) := by rw [h, g]

set_option maxRecDepth 100000 in
set_option maxHeartbeats 2000000 in
theorem readl_arg (ad : Option Addr) (L cap : Nat) (p k : Int) (zs : List Int) (w : World) (hzs : zs.length = L) (h : k < 0 ∨ 8 < k ∨ p < 0 ∨ (L : Int) < p) :
    Calls Try.prog 68 #[.slice ad L cap, .int .i64 p, .int .i64 k] w fun e w' => e = .returned (.tuple #[.int .u64 (rlv zs p k), .int .i64 (rle L p k)]) ∧ w' = w := by
  have E := rle_arg (zs := zs) (L := (L : Int)) (by rw [hzs]) (p := p) (k := k) h
  have EH : Hid _ := E
  clear E hzs
  by_cases c1 : k < 0
  · go_enter Try.func68, Try.ntmps68
    go_wp2
    go_ret2
    exact ⟨two_u EH.out.2.symm EH.out.1.symm, rfl⟩
  by_cases c2 : 8 < k
  · go_enter Try.func68, Try.ntmps68
    go_wp2
    go_ret2
    exact ⟨two_u EH.out.2.symm EH.out.1.symm, rfl⟩
  by_cases c3 : p < 0
  · go_enter Try.func68, Try.ntmps68
    go_wp2
    go_ret2
    exact ⟨two_u EH.out.2.symm EH.out.1.symm, rfl⟩
  have c4 : (L : Int) < p := by omega
  have c5 : decide (p ≤ (L : Int)) = false := by simp; omega
  clear h
  go_enter Try.func68, Try.ntmps68
  go_wp2
  go_ret2
  exact ⟨two_u EH.out.2.symm EH.out.1.symm, rfl⟩

set_option maxRecDepth 100000 in
set_option maxHeartbeats 2000000 in
theorem rreadl_arg (ad : Option Addr) (L cap : Nat) (p k : Int) (zs : List Int) (w : World) (hzs : zs.length = L) (h : k < 0 ∨ 8 < k ∨ p < 0 ∨ (L : Int) < p) :
    Calls Try.prog 28 #[.slice ad L cap, .int .i64 p, .int .i64 k] w fun e w' => e = .returned (.tuple #[.int .u64 (rlv zs p k), .int .i64 (rle L p k)]) ∧ w' = w := by
  have E := rle_arg (zs := zs) (L := (L : Int)) (by rw [hzs]) (p := p) (k := k) h
  have EH : Hid _ := E
  clear E hzs
  by_cases c1 : k < 0
  · go_enter Try.func28, Try.ntmps28
    go_wp2
    go_ret2
    exact ⟨two_u EH.out.2.symm EH.out.1.symm, rfl⟩
  by_cases c2 : 8 < k
  · go_enter Try.func28, Try.ntmps28
    go_wp2
    go_ret2
    exact ⟨two_u EH.out.2.symm EH.out.1.symm, rfl⟩
  by_cases c3 : p < 0
  · go_enter Try.func28, Try.ntmps28
    go_wp2
    go_ret2
    exact ⟨two_u EH.out.2.symm EH.out.1.symm, rfl⟩
  have c4 : (L : Int) < p := by omega
  have c5 : decide (p ≤ (L : Int)) = false := by simp; omega
  clear h
  go_enter Try.func28, Try.ntmps28
  go_wp2
  go_ret2
  exact ⟨two_u EH.out.2.symm EH.out.1.symm, rfl⟩
theorem take_more (zs : List Int) (p j : Nat) (h : p + j < zs.length) : (zs.drop p).take (j + 1) = (zs.drop p).take j ++ [zs.getD (p + j) 0] := by
  rw [List.take_succ_eq_append_getElem (by simp; omega)]
  simp [List.getD, List.getElem?_eq_getElem h]
theorem acc_next {zs : List Int} {p j : Nat} {acc : Int} (hb : Bytes zs) (h : p + j < zs.length) (hj : j ≤ 7) (ha : acc = rl ((zs.drop p).take j)) :
    bits .or .u64 acc (IntKind.u64.wrap (zs.getD (p + j) 0 * 2 ^ (8 * j))) = rl ((zs.drop p).take (j + 1)) := by
  have hbt : Bytes ((zs.drop p).take j) := fun x hx => hb x (List.mem_of_mem_drop (List.mem_of_mem_take hx))
  have hr := rl_bound _ hbt
  have hl : ((zs.drop p).take j).length = j := by simp; omega
  have hc : zs.getD (p + j) 0 ∈ zs := by simp [List.getD, List.getElem?_eq_getElem h]
  rw [hl] at hr
  rw [take_more zs p j h, rl_snoc, hl, ha]
  exact or_join8 _ _ j hj hr.1 hr.2 (hb _ hc).1 (hb _ hc).2

set_option maxRecDepth 100000 in
set_option maxHeartbeats 4000000 in

theorem readl_in (ad : Option Addr) (L cap p k : Nat) (zs : List Int) (w : World) (hL : L ≤ 1048576) (hs : Src w ad L cap (zs.map (Value.int .u8))) (hby : Bytes zs) (hp : p ≤ L) (hk : k ≤ 8) :
    Calls Try.prog 68 #[.slice ad L cap, .int .i64 p, .int .i64 k] w fun e w' => e = .returned (.tuple #[.int .u64 (rlv zs p k), .int .i64 (rle L p k)]) ∧ Below w.heap.size w w' := by
  have hzs : zs.length = L := by simpa using hs.1
  have hp' : (p : Int) ≤ (L : Int) := by omega
  have hk' : (k : Int) ≤ 8 := by omega
  have HZ : Hid (zs.length = L) := hzs
  clear hzs
  go_enter Try.func68, Try.ntmps68
  go_wp2
  go_loopw [9, 26] (fun a c wr => ∃ (j : Nat) (acc : Int), j ≤ k ∧ p + j ≤ L ∧ c = .int .i64 j ∧ a = .int .u64 acc ∧ Hid (acc = rl ((zs.drop p).take j)) ∧ Below w.heap.size w wr ∧
      wr.cell? ⟨w.heap.size, 0, none⟩ = some (.slice ad L cap) ∧ wr.cell? ⟨w.heap.size + 1, 0, none⟩ = some (.int .i64 ((p + j : Nat) : Int)) ∧ wr.frozen? ⟨w.heap.size + 1, 0, none⟩ = false)
    (fun _ c _ => k - (intOf c).toNat)
  case atStart => exact ⟨0, 0, Nat.zero_le _, by omega, rfl, rfl, by show (0 : Int) = _; simp [rl], ((Below.refl _ w).alloc (Nat.le_refl _) _).alloc (by simp) _, by simp, by simp, by simp⟩
  case round =>
    obtain ⟨j, acc, hj, hpj, rfl, rfl, H, hb, hcb, hca, hfa⟩ := hrel
    by_cases hlt : j < k
    · have hlt' : (j : Int) < (k : Int) := by omega
      by_cases hin : p + j < L
      · obtain ⟨g, off, had, hc⟩ := src_atI hs hin
        have hc' := cell_later hb hc
        have HA : Hid (ad = some ⟨g, off, none⟩) := had
        have HN := acc_next hby (by have := HZ.out; omega) (by omega) H.out
        have hbx := hby (zs.getD (p + j) 0) (by have := HZ.out; simp [List.getD, List.getElem?_eq_getElem (show p + j < zs.length by omega)])
        clear had hc
        generalize zs.getD (p + j) 0 = c at *
        have HNh : Hid _ := HN
        clear HN
        go_wp2_with (go_at_call 94; refine (take_yes' _ _ g off L cap (p + j) ad c _ HA.out hin (by omega) hca hfa hcb hc').mono ?_; rintro e w1 ⟨rfl, rfl⟩)
        go_roundw
        case rel =>
          have R : ∃ (j' : Nat) (acc' : Int), j' ≤ k ∧ p + j' ≤ L ∧ Value.int .i64 ((j : Int) + 1) = .int .i64 j' ∧ Value.int .u64 (bits .or .u64 acc (IntKind.u64.wrap (c * 2 ^ (8 * j)))) = .int .u64 acc' ∧ Hid (acc' = rl ((zs.drop p).take j')) ∧ Below w.heap.size w (wr.setCell ⟨w.heap.size + 1, 0, none⟩ (.int .i64 ((p + j + 1 : Nat) : Int))) ∧
              (wr.setCell ⟨w.heap.size + 1, 0, none⟩ (.int .i64 ((p + j + 1 : Nat) : Int))).cell? ⟨w.heap.size, 0, none⟩ = some (.slice ad L cap) ∧ (wr.setCell ⟨w.heap.size + 1, 0, none⟩ (.int .i64 ((p + j + 1 : Nat) : Int))).cell? ⟨w.heap.size + 1, 0, none⟩ = some (.int .i64 ((p + j' : Nat) : Int)) ∧ (wr.setCell ⟨w.heap.size + 1, 0, none⟩ (.int .i64 ((p + j + 1 : Nat) : Int))).frozen? ⟨w.heap.size + 1, 0, none⟩ = false :=
            ⟨j + 1, _, by omega, by omega, by go_num, rfl, HNh.out, hb.setCell (p := ⟨w.heap.size + 1, 0, none⟩) (by simp) _, (World.cell?_setCell_other _ _ _ _ (by simp)).trans hcb, World.cell?_setCell_same _ _ _ hca, by rw [World.frozen?_setCell]; exact hfa⟩
          (repeat apply Exists.intro)
          exact ⟨R, rfl⟩
        case measure => simp [intOf]; omega
      · have E := rle_short (zs := zs) (L := (L : Int)) (p := p) (k := k) (by rw [HZ.out]) (by omega) (by omega)
        have EH : Hid _ := E
        clear E
        go_wp2_with (go_at_call 94; refine (take_no _ _ L cap (p + j) ad _ (by omega) hca hcb).mono ?_; rintro e w1 ⟨rfl, hw1⟩; obtain rfl := hw1.symm)
        go_ret2
        exact ⟨two_u EH.out.2.symm EH.out.1.symm, hb⟩
    · have hlt' : (k : Int) ≤ (j : Int) := by omega
      have hjk : j = k := by omega
      subst hjk
      have E := rle_ok (zs := zs) (L := (L : Int)) (p := p) (k := j) (by rw [HZ.out]) (by omega) (by omega)
      have EH : Hid _ := E
      clear E
      go_wp2
      go_ret2
      exact ⟨two_u (by rw [EH.out.2, H.out]; simp) EH.out.1.symm, hb⟩

theorem rl_step (c : Int) (r : List Int) : rl (c :: r) = rl r * 256 + c := by simp [rl]; omega
theorem drop_more (zs : List Int) (p k j : Nat) (h : p + j < zs.length) (hj : j < k) : ((zs.drop p).take k).drop j = zs.getD (p + j) 0 :: ((zs.drop p).take k).drop (j + 1) := by
  rw [List.drop_eq_getElem_cons (by simp; omega)]
  simp [List.getD, List.getElem?_eq_getElem h]
theorem back_bound {zs : List Int} (hb : Bytes zs) (p k j : Nat) (hk : k ≤ 8) (hj : 1 ≤ j) : 0 ≤ rl (((zs.drop p).take k).drop j) ∧ rl (((zs.drop p).take k).drop j) < 72057594037927936 := by
  have hbt : Bytes (((zs.drop p).take k).drop j) := fun x hx => hb x (List.mem_of_mem_drop (List.mem_of_mem_take (List.mem_of_mem_drop hx)))
  have hr := rl_bound _ hbt
  have hl : (((zs.drop p).take k).drop j).length ≤ 7 := by simp; omega
  have hp : (256 : Int) ^ (((zs.drop p).take k).drop j).length ≤ 256 ^ 7 := by
    generalize (((zs.drop p).take k).drop j).length = n at hl
    have h : 256 ^ n ≤ 256 ^ 7 := Nat.pow_le_pow_right (by omega) hl
    have e : (256 : Int) ^ n = ((256 ^ n : Nat) : Int) := by simp
    rw [e]
    omega
  have : (256 : Int) ^ 7 = 72057594037927936 := by decide
  omega

set_option maxRecDepth 100000 in
set_option maxHeartbeats 4000000 in

theorem rreadl_in (ad : Option Addr) (L cap p k : Nat) (zs : List Int) (w : World) (hL : L ≤ 1048576) (hs : Src w ad L cap (zs.map (Value.int .u8))) (hby : Bytes zs) (hp : p ≤ L) (hk : k ≤ 8) :
    Calls Try.prog 28 #[.slice ad L cap, .int .i64 p, .int .i64 k] w fun e w' => e = .returned (.tuple #[.int .u64 (rlv zs p k), .int .i64 (rle L p k)]) ∧ w' = w := by
  have hzs : zs.length = L := by simpa using hs.1
  have hp' : (p : Int) ≤ (L : Int) := by omega
  have hk' : (k : Int) ≤ 8 := by omega
  by_cases hsh : L < p + k
  · have E := rle_short (zs := zs) (L := (L : Int)) (p := p) (k := k) (by rw [hzs]) (by omega) (by omega)
    have EH : Hid _ := E
    clear E hzs
    have hsh' : (L : Int) - (p : Int) < (k : Int) := by omega
    go_enter Try.func28, Try.ntmps28
    go_wp2
    go_ret2
    exact ⟨two_u EH.out.2.symm EH.out.1.symm, rfl⟩
  · have E := rle_ok (zs := zs) (L := (L : Int)) (p := p) (k := k) (by rw [hzs]) (by omega) (by omega)
    have EH : Hid _ := E
    have HZ : Hid (zs.length = L) := hzs
    clear E hzs
    have hsh' : (k : Int) ≤ (L : Int) - (p : Int) := by omega
    go_enter Try.func28, Try.ntmps28
    go_wp2
    go_loop [8, 9] (fun a c => ∃ (j : Nat) (acc : Int), j ≤ k ∧ c = .int .i64 ((j : Int) - 1) ∧ a = .int .u64 acc ∧ Hid (acc = rl (((zs.drop p).take k).drop j))) (fun _ c => (intOf c + 1).toNat)
    case atStart => exact ⟨k, 0, Nat.le_refl _, rfl, rfl, by show (0 : Int) = _; rw [List.drop_of_length_le (by simp; omega)]; rfl⟩
    case round =>
      obtain ⟨j, acc, hj, rfl, rfl, H⟩ := hrel
      by_cases hlt : 1 ≤ j
      · obtain ⟨i, rfl⟩ : ∃ i, j = i + 1 := ⟨j - 1, by omega⟩
        have hin : p + i < L := by omega
        obtain ⟨g, off, rfl, hc⟩ := src_atI hs hin
        have hbb := back_bound hby p k (i + 1) hk (by omega)
        rw [← H.out] at hbb
        have hbx := hby (zs.getD (p + i) 0) (by have := HZ.out; simp [List.getD, List.getElem?_eq_getElem (show p + i < zs.length by omega)])
        have HR := drop_more zs p k i (by have := HZ.out; omega) (by omega)
        have HRh : Hid _ := HR
        clear HR
        generalize zs.getD (p + i) 0 = c at *
        have hpi : (p : Int) + (i : Int) < (L : Int) := by omega
        go_wp2
        go_round
        case rel => exact ⟨i, _, by omega, rfl, rfl, by show acc * 256 + c = _; rw [HRh.out, rl_step, H.out]⟩
        case measure => simp [intOf]
      · have hj0 : j = 0 := by omega
        have hneg : (j : Int) - 1 < 0 := by omega
        have HJ : Hid (j = 0) := hj0
        clear hj0 hlt
        go_wp2
        go_ret2
        exact ⟨two_u (by rw [EH.out.2, H.out, HJ.out]; rfl) EH.out.1.symm, rfl⟩
theorem readl_any (ad : Option Addr) (L cap : Nat) (p k : Int) (zs : List Int) (w : World) (hL : L ≤ 1048576) (hs : Src w ad L cap (zs.map (Value.int .u8))) (hby : Bytes zs) :
    Calls Try.prog 68 #[.slice ad L cap, .int .i64 p, .int .i64 k] w fun e w' => e = .returned (.tuple #[.int .u64 (rlv zs p k), .int .i64 (rle L p k)]) ∧ Below w.heap.size w w' := by
  by_cases h : k < 0 ∨ 8 < k ∨ p < 0 ∨ (L : Int) < p
  · refine (readl_arg ad L cap p k zs w (by simpa using hs.1) h).mono ?_
    rintro e w' ⟨he, rfl⟩
    exact ⟨he, Below.refl _ _⟩
  · obtain ⟨P, rfl⟩ := Int.eq_ofNat_of_zero_le (show 0 ≤ p by omega)
    obtain ⟨K, rfl⟩ := Int.eq_ofNat_of_zero_le (show 0 ≤ k by omega)
    exact readl_in ad L cap P K zs w hL hs hby (by omega) (by omega)
theorem rreadl_any (ad : Option Addr) (L cap : Nat) (p k : Int) (zs : List Int) (w : World) (hL : L ≤ 1048576) (hs : Src w ad L cap (zs.map (Value.int .u8))) (hby : Bytes zs) :
    Calls Try.prog 28 #[.slice ad L cap, .int .i64 p, .int .i64 k] w fun e w' => e = .returned (.tuple #[.int .u64 (rlv zs p k), .int .i64 (rle L p k)]) ∧ w' = w := by
  by_cases h : k < 0 ∨ 8 < k ∨ p < 0 ∨ (L : Int) < p
  · exact rreadl_arg ad L cap p k zs w (by simpa using hs.1) h
  · obtain ⟨P, rfl⟩ := Int.eq_ofNat_of_zero_le (show 0 ≤ p by omega)
    obtain ⟨K, rfl⟩ := Int.eq_ofNat_of_zero_le (show 0 ≤ k by omega)
    exact rreadl_in ad L cap P K zs w hL hs hby (by omega) (by omega)
end Go.Proofs.Ytdglobonbhkheaa
