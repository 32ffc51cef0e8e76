/-
  bits.packed: what grow and put do to a packed list. So far it holds T bits, the number N; put lays a number of a width on top.
-/
import Derived.Test.YtdglobonbhkheaaBB
import Derived.Test.YtdglobonbhkheaaBMath
import Derived.OneCell
import Derived.Maps.AppendAt
import Derived.BigRegion
import Derived.Laws.BitsAllLaws
import Derived.Laws.ShiftsVarLaws
namespace Go.Proofs.Ytdglobonbhkheaa
open Go.ChangeShapes Go.WideShapes Go.ChangeAt Go.RowKit

/-- the packed list at block Bp: its slice v of s bytes, the number N, so many bits free -/
structure PS (W : World) (Bp base : Nat) (v : Value) (s N fr : Nat) : Prop where
  blk : W.heap[Bp]? = some (.cells #[v, .int .i64 (fr : Int)] 121 (0, 0))
  own : W.ownsRow base 5 1 v s (c8 (upk 8 s N))
  le : base ≤ Bp

theorem two_c0 {w : World} {b : Nat} {x y : Value} {t : TypeId} (h : w.heap[b]? = some (.cells #[x, y] t (0, 0))) : w.cell? ⟨b, 0, none⟩ = some x := by simp [World.cell?, h]
theorem two_c1 {w : World} {b : Nat} {x y : Value} {t : TypeId} (h : w.heap[b]? = some (.cells #[x, y] t (0, 0))) : w.cell? ⟨b, 1, none⟩ = some y := by simp [World.cell?, h]
theorem two_f {w : World} {b : Nat} {x y : Value} {t : TypeId} (h : w.heap[b]? = some (.cells #[x, y] t (0, 0))) (o : Nat) : w.frozen? ⟨b, o, none⟩ = false := by simp [World.frozen?, h]
theorem two_set0 {w : World} {b : Nat} {x y u : Value} {t : TypeId} (h : w.heap[b]? = some (.cells #[x, y] t (0, 0))) : (w.setCell ⟨b, 0, none⟩ u).heap[b]? = some (.cells #[u, y] t (0, 0)) := by
  have hlt := lt_of_block h
  have h' : w.heap[b] = .cells #[x, y] t (0, 0) := by simpa [Array.getElem?_eq_getElem hlt] using h
  show (w.heap.modify b _)[b]? = _
  rw [Array.getElem?_eq_getElem (by simpa using hlt), Array.getElem_modify_self, h']
  rfl
theorem two_set1 {w : World} {b : Nat} {x y u : Value} {t : TypeId} (h : w.heap[b]? = some (.cells #[x, y] t (0, 0))) : (w.setCell ⟨b, 1, none⟩ u).heap[b]? = some (.cells #[x, u] t (0, 0)) := by
  have hlt := lt_of_block h
  have h' : w.heap[b] = .cells #[x, y] t (0, 0) := by simpa [Array.getElem?_eq_getElem hlt] using h
  show (w.heap.modify b _)[b]? = _
  rw [Array.getElem?_eq_getElem (by simpa using hlt), Array.getElem_modify_self, h']
  rfl

theorem own_ne {W : World} {Bp base n : Nat} {v x y : Value} {xs : List Value} (hb : W.heap[Bp]? = some (.cells #[x, y] 121 (0, 0))) (h : W.ownsRow base 5 1 v n xs) : v.ownBlock ≠ some Bp := by
  intro e
  rcases h.2 with ⟨rfl, _⟩ | ⟨g, cap, cur, rfl, _, hg, _⟩
  · cases e
  · have : g = Bp := by simpa [Value.ownBlock] using e
    subst this
    rw [hb] at hg
    simp at hg

set_option maxRecDepth 100000 in
set_option maxHeartbeats 1000000 in
theorem grow_any (Bp base s N : Nat) (v : Value) (W : World) (ps : PS W Bp base v s N 0) (hN : N < 2 ^ (8 * s)) (hs : s ≤ 2000000) :
    Calls Try.prog 92 #[.pointer (some ⟨Bp, 0, none⟩)] W fun e W' => e = .returned (.tuple #[]) ∧ (∃ v', PS W' Bp base v' (s + 1) N 8) ∧ Below base W W' := by
  obtain ⟨i0, hi, hz0, hz1, hz2⟩ := info_parts Try.info5
  have k0 := two_c0 ps.blk
  have lt0 := lt_of_block ps.blk
  have hle := ps.le
  go_enter Try.func92, Try.ntmps92
  go_wp2_with (at_builtin; refine wpList_append_own _ rfl _ _ 27 rfl base 5 i0 (.int .u8 0) 1 1 Try.underlying27 hi hz0 hz1 hz2 rfl (by decide) _ _ _ rfl (ps.own.alloc _) ⟨W.heap.size, 0, none⟩ 1 1 [.int .u8 0] rfl rfl (cell_one_new _ _ _) (by simp [Value.oneCell']) (by unfold maxLen; omega) (by omega) (by simp; omega) ?_; intro v' W1 hown' hgrow _; obtain ⟨g', c', rfl⟩ := own_some hown' (by omega); have blk1 := (hgrow.block Bp (by simp; omega) (fun e => own_ne ps.blk ps.own e.symm)).trans ((Below.heap_alloc W _ Bp lt0).trans ps.blk); have q0 := two_c0 blk1; have q1 := two_c1 blk1; have qf := two_f blk1)
  go_end0
  have B1 : Below base W W1 := ((Below.refl base W).alloc (by omega) _).grown hgrow (by simp; omega) (fun k e => (ps.own.lt k e).1)
  refine ⟨rfl, ⟨_, two_set1 (two_set0 blk1), ?_, hle⟩, (B1.setCell (p := ⟨Bp, 0, none⟩) hle _).setCell (p := ⟨Bp, 1, none⟩) hle _⟩
  have hne := own_ne blk1 hown'
  rw [upk_more 8 s N hN]
  have h2 := ownsRow_setCell_other (ownsRow_setCell_other hown' (a := ⟨Bp, 0, none⟩) hne (.slice (some ⟨g', 0, none⟩) (s + 1) c')) (a := ⟨Bp, 1, none⟩) hne (.int .i64 8)
  simpa [c8] using h2

/-- the byte that is laid on top -/
theorem byte_on (N r fr T X y tk : Nat) (hT : 8 * (r + 1) = T + fr) (hfr1 : 1 ≤ fr) (hfr : fr ≤ 8) (hN : N < 2 ^ T) (hX : X < 2 ^ y) (htk : tk = min y fr) :
    N / 2 ^ (8 * r) < 2 ^ (8 - fr) ∧ X * 2 ^ (8 - fr) % 256 = X % 2 ^ tk * 2 ^ (8 - fr) ∧ N / 2 ^ (8 * r) + X % 2 ^ tk * 2 ^ (8 - fr) < 2 ^ 8 ∧ X % 2 ^ tk * 2 ^ (8 - fr) * 2 ^ (8 * r) = X % 2 ^ tk * 2 ^ T := by
  have hT' : T = (8 - fr) + 8 * r := by omega
  have hq : 2 ^ fr * 2 ^ (8 - fr) = 256 := by rw [← Nat.pow_add, show fr + (8 - fr) = 8 from by omega]
  have hXf : X % 2 ^ fr = X % 2 ^ tk := by
    rcases Nat.le_total y fr with h | h
    · have : tk = y := by omega
      subst this
      rw [Nat.mod_eq_of_lt hX, Nat.mod_eq_of_lt (Nat.lt_of_lt_of_le hX (Nat.pow_le_pow_right (by omega) h))]
    · have : tk = fr := by omega
      subst this
      rfl
  have h1 : N / 2 ^ (8 * r) < 2 ^ (8 - fr) := by
    rw [Nat.div_lt_iff_lt_mul (Nat.two_pow_pos _), ← Nat.pow_add, ← hT']
    exact hN
  have h2 : X % 2 ^ tk < 2 ^ fr := by rw [← hXf]; exact Nat.mod_lt _ (Nat.two_pow_pos _)
  refine ⟨h1, ?_, ?_, ?_⟩
  · rw [← hXf, ← hq, Nat.mul_mod_mul_right]
  · have h3 : (X % 2 ^ tk + 1) * 2 ^ (8 - fr) ≤ 2 ^ fr * 2 ^ (8 - fr) := Nat.mul_le_mul_right _ h2
    rw [hq, Nat.add_mul, Nat.one_mul] at h3
    have : (2 : Nat) ^ 8 = 256 := rfl
    omega
  · rw [Nat.mul_assoc, ← Nat.pow_add, ← hT']

theorem or_on (N r fr T y tk : Nat) (x : Int) (hT : 8 * (r + 1) = T + fr) (hfr1 : 1 ≤ fr) (hfr : fr ≤ 8) (hN : N < 2 ^ T) (hx0 : 0 ≤ x) (hX : x.toNat < 2 ^ y) (htk : tk = min y fr) :
    bits .or .u8 ((N / 2 ^ (8 * r) : Nat) : Int) (IntKind.u64.wrap (x * 2 ^ (8 - fr)) % 256) = ((N / 2 ^ (8 * r) + x.toNat % 2 ^ tk * 2 ^ (8 - fr) : Nat) : Int) := by
  obtain ⟨X, rfl⟩ := Int.eq_ofNat_of_zero_le hx0
  rw [Int.toNat_natCast] at hX ⊢
  obtain ⟨a, b, c, _⟩ := byte_on N r fr T X y tk hT hfr1 hfr hN hX htk
  have e : IntKind.u64.wrap ((X : Int) * 2 ^ (8 - fr)) % 256 = ((X * 2 ^ (8 - fr) % 256 : Nat) : Int) := by
    rw [IntKind.wrap_u64, show (2 : Int) ^ (8 - fr) = ((2 ^ (8 - fr) : Nat) : Int) from by simp, ← Int.natCast_mul]
    omega
  have h8 : (2 : Nat) ^ 8 = 256 := rfl
  rw [e, b, u8_or_nat _ _ (by omega) (by omega), Nat.or_comm, nat_join (8 - fr) _ _ (Nat.mul_mod_left _ _) a, Nat.add_comm]

theorem put_byte {wr : World} {Bp base g cap r N fr T y tk : Nat} {x lb : Int} (ps : PS wr Bp base (.slice (some ⟨g, 0, none⟩) (r + 1) cap) (r + 1) N fr) (hT : 8 * (r + 1) = T + fr) (hfr1 : 1 ≤ fr) (hfr : fr ≤ 8) (hN : N < 2 ^ T) (hx0 : 0 ≤ x)
    (hX : x.toNat < 2 ^ y) (htk : tk = min y fr) (hlb : lb = (N / 2 ^ (8 * r) : Nat)) :
    PS (wr.setCell ⟨g, r, none⟩ (.int .u8 (bits .or .u8 lb (IntKind.u64.wrap (x * 2 ^ (8 - fr)) % 256)))).drew Bp base (.slice (some ⟨g, 0, none⟩) (r + 1) cap) (r + 1) (N + x.toNat % 2 ^ tk * 2 ^ T) fr ∧
      Below base wr (wr.setCell ⟨g, r, none⟩ (.int .u8 (bits .or .u8 lb (IntKind.u64.wrap (x * 2 ^ (8 - fr)) % 256)))).drew := by
  obtain ⟨a, b, c, d⟩ := byte_on N r fr T x.toNat y tk hT hfr1 hfr hN hX htk
  rw [hlb, or_on N r fr T y tk x hT hfr1 hfr hN hx0 hX htk]
  have hbg := (ps.own.lt g rfl).1
  refine ⟨⟨?_, ?_, ps.le⟩, ((Below.refl base wr).setCell (p := ⟨g, r, none⟩) hbg _).drew⟩
  · have hne : Bp ≠ g := fun e => own_ne ps.blk ps.own (congrArg some e.symm)
    exact (Below.heap_setCell wr ⟨g, r, none⟩ _ Bp hne).trans ps.blk
  · rw [← d, upk_add 8 (r + 1) N r _ (by omega) c]
    have h := (ps.own.stored r (.int .u8 ((N / 2 ^ (8 * r) + x.toNat % 2 ^ tk * 2 ^ (8 - fr) : Nat) : Int))).1.drew
    unfold c8 at h ⊢
    rw [← List.map_set] at h
    exact h

theorem last_byte {wr : World} {Bp base g cap r N fr T : Nat} (ps : PS wr Bp base (.slice (some ⟨g, 0, none⟩) (r + 1) cap) (r + 1) N fr) (hT : 8 * (r + 1) = T + fr) (hN : N < 2 ^ T) :
    wr.cell? ⟨g, r, none⟩ = some (.int .u8 ((N / 2 ^ (8 * r) : Nat) : Int)) ∧ N / 2 ^ (8 * r) < 256 := by
  have h : N / 2 ^ (8 * r) < 2 ^ 8 := by
    rw [Nat.div_lt_iff_lt_mul (Nat.two_pow_pos _), ← Nat.pow_add]
    exact Nat.lt_of_lt_of_le hN (Nat.pow_le_pow_right (by omega) (by omega))
  refine ⟨?_, h⟩
  rw [ps.own.cellAt r (by omega)]
  unfold c8
  rw [List.getElem?_map, upk_get 8 (r + 1) N r (by omega), Nat.mod_eq_of_lt h]
  rfl

/-- what is left behind a step -/
theorem put_math {N X T y tk : Nat} (hN : N < 2 ^ T) (hX : X < 2 ^ y) (hk : tk ≤ y) : N + X % 2 ^ tk * 2 ^ T < 2 ^ (T + tk) ∧ X / 2 ^ tk < 2 ^ (y - tk) ∧ N + X % 2 ^ tk * 2 ^ T + X / 2 ^ tk * 2 ^ (T + tk) = N + X * 2 ^ T := by
  refine ⟨?_, ?_, ?_⟩
  · have h := Nat.mod_lt X (Nat.two_pow_pos tk)
    have h3 : (X % 2 ^ tk + 1) * 2 ^ T ≤ 2 ^ tk * 2 ^ T := Nat.mul_le_mul_right _ h
    rw [← Nat.pow_add, Nat.add_mul, Nat.one_mul, Nat.add_comm tk] at h3
    omega
  · rw [Nat.div_lt_iff_lt_mul (Nat.two_pow_pos _), ← Nat.pow_add, show y - tk + tk = y from by omega]
    exact hX
  · rw [Nat.add_assoc]
    congr 1
    rw [Nat.add_comm T, Nat.pow_add, ← Nat.mul_assoc, ← Nat.add_mul]
    congr 1
    rw [Nat.mul_comm (X / 2 ^ tk)]
    exact Nat.mod_add_div X (2 ^ tk)

theorem last_int {wr : World} {Bp base g cap r N fr T : Nat} (ps : PS wr Bp base (.slice (some ⟨g, 0, none⟩) (r + 1) cap) (r + 1) N fr) (hT : 8 * (r + 1) = T + fr) (hN : N < 2 ^ T) :
    ∃ lb : Int, Hid (lb = (N / 2 ^ (8 * r) : Nat)) ∧ wr.cell? ⟨g, r, none⟩ = some (.int .u8 lb) ∧ 0 ≤ lb ∧ lb ≤ 255 := by
  obtain ⟨h1, h2⟩ := last_byte ps hT hN
  refine ⟨_, rfl, h1, Int.natCast_nonneg _, ?_⟩
  generalize N / 2 ^ (8 * r) = q at h2
  omega

theorem put_byte8 {wr : World} {Bp base g cap r N T y tk : Nat} {x lb : Int} (ps : PS wr Bp base (.slice (some ⟨g, 0, none⟩) (r + 1) cap) (r + 1) N 8) (hT : 8 * (r + 1) = T + 8) (hN : N < 2 ^ T) (hx0 : 0 ≤ x) (_hx1 : x ≤ 18446744073709551615)
    (hX : x.toNat < 2 ^ y) (htk : tk = min y 8) (hlb : lb = (N / 2 ^ (8 * r) : Nat)) :
    PS (wr.setCell ⟨g, r, none⟩ (.int .u8 (bits .or .u8 lb (x % 256)))).drew Bp base (.slice (some ⟨g, 0, none⟩) (r + 1) cap) (r + 1) (N + x.toNat % 2 ^ tk * 2 ^ T) 8 ∧
      Below base wr (wr.setCell ⟨g, r, none⟩ (.int .u8 (bits .or .u8 lb (x % 256)))).drew := by
  have h := put_byte ps hT (by omega) (by omega) hN hx0 hX htk hlb
  have e : IntKind.u64.wrap (x * 2 ^ (8 - 8)) % 256 = x % 256 := by
    rw [IntKind.wrap_u64, show (2 : Int) ^ (8 - 8) = 1 from rfl]
    omega
  rw [e] at h
  exact h

/-- the loop's relation behind a step -/
theorem put_rel {W0 wr W1 : World} {Bp base T0 y0 N0 s N fr T y tk : Nat} {x0 x : Int} {v : Value} {f : Int} (hx0 : 0 ≤ x) (_hx1 : x ≤ 18446744073709551615) (HT : 8 * s = T + fr) (hN : N < 2 ^ T) (hX : x.toNat < 2 ^ y) (H : N + x.toNat * 2 ^ T = N0 + x0.toNat * 2 ^ T0)
    (HTy : T + y = T0 + y0) (hy : y ≤ 64) (htk : tk = min y fr) (h1 : 1 ≤ tk) (hfr : fr ≤ 8) (hB : Below base W0 wr) (ps1 : PS W1 Bp base v s (N + x.toNat % 2 ^ tk * 2 ^ T) fr) (hB1 : Below base wr W1) (hf : f = (fr : Int) - tk) :
    ∃ (x' : Int) (y' T' N' fr' s' : Nat) (v' : Value), Value.int .u64 (x / 2 ^ tk) = .int .u64 x' ∧ Value.int .i64 ((y : Int) - tk) = .int .i64 (y' : Int) ∧ PS (W1.setCell ⟨Bp, 1, none⟩ (.int .i64 f)) Bp base v' s' N' fr' ∧ Hid (8 * s' = T' + fr') ∧ fr' ≤ 7 ∧ Hid (N' < 2 ^ T') ∧ 0 ≤ x' ∧ x' ≤ 18446744073709551615 ∧
      Hid (x'.toNat < 2 ^ y') ∧ Hid (N' + x'.toNat * 2 ^ T' = N0 + x0.toNat * 2 ^ T0) ∧ Hid (T' + y' = T0 + y0) ∧ y' ≤ 64 ∧ Below base W0 (W1.setCell ⟨Bp, 1, none⟩ (.int .i64 f)) := by
  obtain ⟨X, rfl⟩ := Int.eq_ofNat_of_zero_le hx0
  rw [Int.toNat_natCast] at *
  obtain ⟨m1, m2, m3⟩ := put_math hN hX (tk := tk) (by omega)
  have e : (X : Int) / 2 ^ tk = ((X / 2 ^ tk : Nat) : Int) := by simp
  have hd : X / 2 ^ tk ≤ X := Nat.div_le_self _ _
  refine ⟨((X / 2 ^ tk : Nat) : Int), y - tk, T + tk, _, fr - tk, s, v, by rw [e], congrArg (Value.int .i64) (by omega), ⟨?_, ?_, ps1.le⟩, by show _ = _; omega, by omega, m1, Int.natCast_nonneg _, by omega, by rw [Int.toNat_natCast]; exact m2, by rw [Int.toNat_natCast]; exact m3.trans H, by show _ = _; omega, by omega, ?_⟩
  · rw [show ((fr - tk : Nat) : Int) = f from by omega]
    exact two_set1 ps1.blk
  · exact ownsRow_setCell_other ps1.own (a := ⟨Bp, 1, none⟩) (own_ne ps1.blk ps1.own) _
  · exact (hB.trans hB1).setCell (p := ⟨Bp, 1, none⟩) ps1.le _

set_option maxRecDepth 100000 in
set_option maxHeartbeats 2000000 in

theorem put_any (Bp base s0 N0 fr0 T0 y0 : Nat) (x0 : Int) (v0 : Value) (W0 : World) (ps0 : PS W0 Bp base v0 s0 N0 fr0) (hT0 : 8 * s0 = T0 + fr0) (hfr0 : fr0 ≤ 7) (hN0 : N0 < 2 ^ T0) (h0 : 0 ≤ x0) (h1 : x0 ≤ 18446744073709551615) (hx0 : x0.toNat < 2 ^ y0) (hy0 : y0 ≤ 64) (hs0 : s0 ≤ 1048576) :
    Calls Try.prog 84 #[.pointer (some ⟨Bp, 0, none⟩), .int .u64 x0, .int .i64 y0] W0 fun e W' => e = .returned (.tuple #[]) ∧ (∃ v s fr, PS W' Bp base v s (N0 + x0.toNat * 2 ^ T0) fr ∧ 8 * s = T0 + y0 + fr ∧ fr ≤ 7) ∧ Below base W0 W' := by
  have HX0 : Hid (x0.toNat < 2 ^ y0) := hx0
  have HN0 : Hid (N0 < 2 ^ T0) := hN0
  clear hx0 hN0
  go_enter Try.func84, Try.ntmps84
  go_wp2
  go_loopw [1, 2] (fun n wd W => ∃ (x : Int) (y T N fr s : Nat) (v : Value), n = .int .u64 x ∧ wd = .int .i64 y ∧ PS W Bp base v s N fr ∧ Hid (8 * s = T + fr) ∧ fr ≤ 7 ∧ Hid (N < 2 ^ T) ∧ 0 ≤ x ∧ x ≤ 18446744073709551615 ∧ Hid (x.toNat < 2 ^ y) ∧ Hid (N + x.toNat * 2 ^ T = N0 + x0.toNat * 2 ^ T0) ∧ Hid (T + y = T0 + y0) ∧ y ≤ 64 ∧ Below base W0 W)
    (fun _ wd _ => (intOf wd).toNat)
  case atStart => exact ⟨x0, y0, T0, N0, fr0, s0, v0, rfl, rfl, ps0, hT0, hfr0, HN0, h0, h1, HX0, rfl, rfl, hy0, Below.refl _ _⟩
  case round =>
    obtain ⟨x, y, T, N, fr, s, v, rfl, rfl, ps, HT, hfr, HN, hx0, hx1, HX, H, HTy, hy, hB⟩ := hrel
    by_cases hy1 : 1 ≤ y
    · have hy1' : (0 : Int) < (y : Int) := by omega
      by_cases hf : fr = 0
      · have hf1 : ((fr : Int) == 0) = true := by simp; omega
        have HT8 : Hid (8 * s = T) := by have := HT.out; show _ = _; omega
        have hs2 : s ≤ 2000000 := by have h1 := HT.out; have h2 := HTy.out; omega
        have hNs : Hid (N < 2 ^ (8 * s)) := by rw [HT8.out]; exact HN
        have ps' : PS wr Bp base v s N 0 := by rw [← hf]; exact ps
        have c1 := two_c1 ps.blk
        have HPS' : Hid _ := ps'
        clear ps ps' hf
        by_cases hm : y ≤ 8
        · have hm' : (y : Int) ≤ 8 := by omega
          go_wp2_with (go_at_call 92; refine (grow_any Bp base s N v wr HPS'.out hNs.out hs2).mono ?_; rintro e W2 ⟨rfl, ⟨v2, ps2⟩, hB2⟩; obtain ⟨g, cap, rfl⟩ := own_some ps2.own (by omega); have q0 := two_c0 ps2.blk; have q1 : W2.cell? ⟨Bp, 1, none⟩ = some (.int .i64 8) := two_c1 ps2.blk; have qf0 := two_f ps2.blk 0; have qf1 := two_f ps2.blk 1; obtain ⟨lb, hlb, hlast, hlb8⟩ := last_int (T := T) ps2 (by have := HT8.out; omega) HN.out; have hlf := ps2.own.frozenAt s; have HPS : Hid _ := ps2; clear ps2)
          go_region
          have R := put_byte8 HPS.out (T := T) (by have := HT8.out; omega) HN.out hx0 hx1 HX.out (tk := y) (by omega) hlb.out
          generalize (W2.setCell ⟨g, s, none⟩ (.int .u8 (bits .or .u8 lb (x % 256)))).drew = W1 at R ⊢
          obtain ⟨ps1, hB1⟩ := R
          have d1 : W1.cell? ⟨Bp, 1, none⟩ = some (.int .i64 8) := two_c1 ps1.blk
          have e1 := two_f ps1.blk 1
          have HPS1 : Hid _ := ps1
          clear ps1 c1 q0 q1 qf0 qf1 hlast hlf HPS
          go_wp2
          have R2 := put_rel hx0 hx1 (fr := 8) (T := T) (by have := HT8.out; omega) HN.out HX.out H.out HTy.out hy (tk := y) (by omega) hy1 (by omega) (hB.trans hB2) HPS1.out hB1 rfl
          rw [show (y : Int) - (y : Int) = 0 from by omega] at R2
          exact ⟨R2, by simp [intOf]; omega⟩
        · have hm' : (8 : Int) < (y : Int) := by omega
          go_wp2_with (go_at_call 92; refine (grow_any Bp base s N v wr HPS'.out hNs.out hs2).mono ?_; rintro e W2 ⟨rfl, ⟨v2, ps2⟩, hB2⟩; obtain ⟨g, cap, rfl⟩ := own_some ps2.own (by omega); have q0 := two_c0 ps2.blk; have q1 : W2.cell? ⟨Bp, 1, none⟩ = some (.int .i64 8) := two_c1 ps2.blk; have qf0 := two_f ps2.blk 0; have qf1 := two_f ps2.blk 1; obtain ⟨lb, hlb, hlast, hlb8⟩ := last_int (T := T) ps2 (by have := HT8.out; omega) HN.out; have hlf := ps2.own.frozenAt s; have HPS : Hid _ := ps2; clear ps2)
          go_region
          have R := put_byte8 HPS.out (T := T) (by have := HT8.out; omega) HN.out hx0 hx1 HX.out (tk := 8) (by omega) hlb.out
          generalize (W2.setCell ⟨g, s, none⟩ (.int .u8 (bits .or .u8 lb (x % 256)))).drew = W1 at R ⊢
          obtain ⟨ps1, hB1⟩ := R
          have d1 : W1.cell? ⟨Bp, 1, none⟩ = some (.int .i64 8) := two_c1 ps1.blk
          have e1 := two_f ps1.blk 1
          have HPS1 : Hid _ := ps1
          clear ps1 c1 q0 q1 qf0 qf1 hlast hlf HPS
          go_wp2
          have R2 := put_rel hx0 hx1 (fr := 8) (T := T) (by have := HT8.out; omega) HN.out HX.out H.out HTy.out hy (tk := 8) (by omega) (by omega) (by omega) (hB.trans hB2) HPS1.out hB1 (f := 0) (by omega)
          exact ⟨R2, by simp [intOf]; omega⟩
      · have hfr1 : 1 ≤ fr := by omega
        obtain ⟨g, cap, rfl⟩ := own_some ps.own (by have := HT.out; omega)
        have c0 := two_c0 ps.blk
        have c1 := two_c1 ps.blk
        have ff := two_f ps.blk
        obtain ⟨r, rfl⟩ : ∃ r, s = r + 1 := ⟨s - 1, by have := HT.out; omega⟩
        have hr : r ≤ 2000000 := by have h1 := HT.out; have h2 := HTy.out; omega
        obtain ⟨lb, hlb, hlast, hlb8⟩ := last_int ps HT.out HN.out
        have hlf := ps.own.frozenAt r
        have f0 := ff 0
        have f1 := ff 1
        have hf1 : ((fr : Int) == 0) = false := by simp; omega
        have HPS : Hid _ := ps
        clear ps ff hf
        by_cases hm : y ≤ fr
        · have hm' : (y : Int) ≤ (fr : Int) := by omega
          go_wp2
          go_region
          have R := put_byte HPS.out HT.out hfr1 (by omega) HN.out hx0 HX.out (tk := y) (by omega) hlb.out
          generalize (wr.setCell ⟨g, r, none⟩ (.int .u8 (bits .or .u8 lb (IntKind.u64.wrap (x * 2 ^ (8 - fr)) % 256)))).drew = W1 at R ⊢
          obtain ⟨ps1, hB1⟩ := R
          have d1 := two_c1 ps1.blk
          have e1 := two_f ps1.blk 1
          have HPS1 : Hid _ := ps1
          clear ps1 c0 c1 f0 f1 hlast hlf HPS
          go_wp2
          have R2 := put_rel hx0 hx1 HT.out HN.out HX.out H.out HTy.out hy (tk := y) (by omega) hy1 (by omega) hB HPS1.out hB1 rfl
          rw [show (y : Int) - (y : Int) = 0 from by omega] at R2
          exact ⟨R2, by simp [intOf]; omega⟩
        · have hm' : (fr : Int) < (y : Int) := by omega
          go_wp2
          go_region
          have R := put_byte HPS.out HT.out hfr1 (by omega) HN.out hx0 HX.out (tk := fr) (by omega) hlb.out
          generalize (wr.setCell ⟨g, r, none⟩ (.int .u8 (bits .or .u8 lb (IntKind.u64.wrap (x * 2 ^ (8 - fr)) % 256)))).drew = W1 at R ⊢
          obtain ⟨ps1, hB1⟩ := R
          have d1 := two_c1 ps1.blk
          have e1 := two_f ps1.blk 1
          have HPS1 : Hid _ := ps1
          clear ps1 c0 c1 f0 f1 hlast hlf HPS
          go_wp2
          have R2 := put_rel hx0 hx1 HT.out HN.out HX.out H.out HTy.out hy (tk := fr) (by omega) hfr1 (by omega) hB HPS1.out hB1 (f := 0) (by omega)
          exact ⟨R2, by simp [intOf]; omega⟩
    · have hy0' : (y : Int) ≤ 0 := by omega
      have HY : Hid (y = 0) := by show y = 0; omega
      go_wp2
      go_end0
      have e1 := HX.out
      rw [HY.out] at e1
      have e2 : x.toNat = 0 := by simpa using e1
      have e3 := H.out
      rw [e2, Nat.zero_mul, Nat.add_zero] at e3
      rw [e3] at ps
      exact ⟨rfl, ⟨v, s, fr, ps, by have h1 := HT.out; have h2 := HTy.out; have h3 := HY.out; omega, hfr⟩, hB⟩
end Go.Proofs.Ytdglobonbhkheaa
