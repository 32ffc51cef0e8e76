/-
  The reference's Codes.
-/
import Derived.Test.YtkieallgompggaaRefA
namespace Go.Proofs.Ytkieallgompggaa
set_option linter.unusedVariables false
set_option linter.unusedSimpArgs false
open Go.ChangeShapes Go.WideShapes Go.ChangeAt Go.RowKit

/-- which symbols have their codes already -/
def donB (m : List Nat) (L i q : Nat) : Bool := decide (m.getD q 0 ≠ 0 ∧ (m.getD q 0 < L ∨ (m.getD q 0 = L ∧ q < i)))
def rC (m : List Nat) (L i : Nat) : List Nat := (List.range m.length).map fun q => if donB m L i q then cod m q else 0
theorem rC_len (m : List Nat) (L i : Nat) : (rC m L i).length = m.length := by simp [rC]
theorem rC_start (m : List Nat) : rC m 1 0 = List.replicate m.length 0 := by
  unfold rC
  apply List.ext_getElem
  · simp
  · intro q h1 h2
    have : donB m 1 0 q = false := by unfold donB; exact decide_eq_false (fun h => by have := h.1; omega)
    simp [this]
theorem rC_end (m : List Nat) (h15 : ∀ j, m.getD j 0 ≤ 15) : rC m 16 0 = codL m := by
  unfold rC codL
  refine List.map_congr_left fun q _ => ?_
  have := h15 q
  by_cases h : m.getD q 0 = 0
  · rw [if_pos h]
    have : donB m 16 0 q = false := by unfold donB; exact decide_eq_false (fun h' => h'.1 h)
    rw [this]; rfl
  · rw [if_neg h]
    have : donB m 16 0 q = true := by unfold donB; exact decide_eq_true ⟨h, .inl (by omega)⟩
    rw [this]; rfl
theorem rC_next (m : List Nat) (L : Nat) : rC m (L + 1) 0 = rC m L m.length := by
  unfold rC
  refine List.map_congr_left fun q hq => ?_
  have hq' : q < m.length := by simpa using hq
  have : donB m (L + 1) 0 q = donB m L m.length q := by
    unfold donB
    congr 1
    apply propext
    constructor
    · rintro ⟨h1, h2 | h2⟩
      · exact ⟨h1, by omega⟩
      · omega
    · rintro ⟨h1, h2 | h2⟩
      · exact ⟨h1, by omega⟩
      · exact ⟨h1, by omega⟩
  rw [this]
theorem rC_skip (m : List Nat) (L i : Nat) (h : m.getD i 0 ≠ L) : rC m L (i + 1) = rC m L i := by
  unfold rC
  refine List.map_congr_left fun q hq => ?_
  have : donB m L (i + 1) q = donB m L i q := by
    unfold donB
    congr 1
    apply propext
    constructor
    · rintro ⟨h1, h2 | ⟨h2, h3⟩⟩
      · exact ⟨h1, .inl h2⟩
      · refine ⟨h1, .inr ⟨h2, ?_⟩⟩
        rcases Nat.lt_or_ge q i with h4 | h4
        · exact h4
        · have : q = i := by omega
          subst this
          exact absurd h2 h
    · rintro ⟨h1, h2 | ⟨h2, h3⟩⟩
      · exact ⟨h1, .inl h2⟩
      · exact ⟨h1, .inr ⟨h2, by omega⟩⟩
  rw [this]
theorem rC_set (m : List Nat) (L i : Nat) (hi : i < m.length) (h : m.getD i 0 = L) (hL : L ≠ 0) : (rC m L i).set i (cod m i) = rC m L (i + 1) := by
  unfold rC
  apply List.ext_getElem?
  intro q
  rw [List.getElem?_set]
  by_cases hq : q < m.length
  · by_cases e : i = q
    · subst e
      have : donB m L (i + 1) i = true := by unfold donB; simp only [decide_eq_true_eq]; exact ⟨by omega, .inr ⟨h, by omega⟩⟩
      simp [hq, this]
    · have : donB m L (i + 1) q = donB m L i q := by
        unfold donB
        congr 1
        apply propext
        constructor
        · rintro ⟨h1, h2 | ⟨h2, h3⟩⟩
          · exact ⟨h1, .inl h2⟩
          · exact ⟨h1, .inr ⟨h2, by omega⟩⟩
        · rintro ⟨h1, h2 | ⟨h2, h3⟩⟩
          · exact ⟨h1, .inl h2⟩
          · exact ⟨h1, .inr ⟨h2, by omega⟩⟩
      simp [e, hq, this]
  · by_cases e : i = q
    · omega
    · simp [e, hq]
theorem shl_any (x s v : Nat) (h : x * 2 ^ s = v) (hv : v ≤ 1000000000) : wrap64 ((x : Int) * 2 ^ s) = (v : Int) := by
  rw [show (2 : Int) ^ s = ((2 ^ s : Nat) : Int) from by simp, ← Int.natCast_mul, h]
  unfold wrap64
  omega
theorem refC_ok {l : List Int} (h : refC l = 0) : l.length ≤ 1000 ∧ ∃ m : List Nat, l = nm m ∧ ∀ x ∈ m, x ≤ 15 := by
  unfold refC at h
  have hr : refu 15 l = 0 := by
    by_cases h1 : refu 15 l = 0
    · exact h1
    · rw [if_pos h1] at h; exact absurd h h1
  obtain ⟨h1, m, h2, h3⟩ := refu_ok hr
  exact ⟨h1, m, h2, fun x hx => by have := h3 x hx; omega⟩
theorem refC_wgt {m : List Nat} (h : refC (nm m) = 0) : wgt m ≤ 32768 := by
  unfold refC at h
  have hr : refu 15 (nm m) = 0 := by
    by_cases h1 : refu 15 (nm m) = 0
    · exact h1
    · rw [if_pos h1] at h; exact absurd h h1
  rw [if_neg (fun h => h hr), nm_toNat] at h
  rcases Nat.lt_or_ge 32768 (wgt m) with h1 | h1
  · rw [if_pos h1] at h; omega
  · exact h1
theorem codL_getD (m : List Nat) (j : Nat) (hj : j < m.length) : (codL m).getD j 0 = if m.getD j 0 = 0 then 0 else cod m j := range_getD _ _ _ hj
/-- what the symbols with codes are -/
theorem upv_mem (m : List Nat) : ∀ (k : Nat) (p : Nat × Nat), p ∈ upv m k ↔ (p.1 < k ∧ m.getD p.1 0 ≠ 0 ∧ p.2 = cod m p.1)
  | 0, p => by simp [upv]
  | k + 1, p => by
    rw [upv]
    by_cases h : m.getD k 0 = 0
    · rw [if_pos h, upv_mem m k p]
      constructor
      · rintro ⟨h1, h2, h3⟩
        exact ⟨by omega, h2, h3⟩
      · rintro ⟨h1, h2, h3⟩
        refine ⟨?_, h2, h3⟩
        rcases Nat.lt_or_ge p.1 k with h4 | h4
        · exact h4
        · have : p.1 = k := by omega
          rw [this] at h2
          exact absurd h h2
    · rw [if_neg h, List.mem_append, upv_mem m k p, List.mem_singleton]
      constructor
      · rintro (⟨h1, h2, h3⟩ | rfl)
        · exact ⟨by omega, h2, h3⟩
        · exact ⟨by simp, h, rfl⟩
      · rintro ⟨h1, h2, h3⟩
        by_cases e : p.1 = k
        · right
          obtain ⟨p1, p2⟩ := p
          simp only at e h3
          subst e
          rw [h3]
        · left
          exact ⟨by omega, h2, h3⟩
theorem upv_rise (m : List Nat) : ∀ k, (upv m k).Pairwise fun a b => a.1 < b.1
  | 0 => by simp [upv]
  | k + 1 => by
    rw [upv]
    by_cases h : m.getD k 0 = 0
    · rw [if_pos h]; exact upv_rise m k
    · rw [if_neg h, List.pairwise_append]
      refine ⟨upv_rise m k, by simp, fun a ha b hb => ?_⟩
      rw [List.mem_singleton] at hb
      subst hb
      exact ((upv_mem m k a).1 ha).1
/-- the test of the law is the code's -/
theorem hit_iff (m : List Nat) (code length : Int) (j : Nat) (hj : j < m.length) : (((m.getD j 0 : Nat) : Int) = length ∧ 0 < length ∧ (((codL m).getD j 0 : Nat) : Int) = code) ↔ (m.getD j 0 ≠ 0 ∧ hit m code length (j, cod m j) = true) := by
  rw [codL_getD m j hj]
  unfold hit
  simp only [decide_eq_true_eq]
  constructor
  · rintro ⟨h1, h2, h3⟩
    have h0 : m.getD j 0 ≠ 0 := by omega
    rw [if_neg h0] at h3
    exact ⟨h0, h3, h1⟩
  · rintro ⟨h0, h3, h1⟩
    rw [if_neg h0]
    exact ⟨h1, by omega, h3⟩
theorem find_none_at {m : List Nat} {code length : Int} (h : findP m code length = none) {j : Nat} (hj : j < m.length) : ¬ (((m.getD j 0 : Nat) : Int) = length ∧ 0 < length ∧ (((codL m).getD j 0 : Nat) : Int) = code) := by
  intro h1
  obtain ⟨h2, h3⟩ := (hit_iff m code length j hj).1 h1
  unfold findP at h
  rw [List.find?_eq_none] at h
  exact h _ ((upv_mem m m.length (j, cod m j)).2 ⟨hj, h2, rfl⟩) h3
theorem find_some_at {m : List Nat} {code length : Int} {x : Nat × Nat} (h : findP m code length = some x) :
    (∀ j, j < x.1 → ¬ (((m.getD j 0 : Nat) : Int) = length ∧ 0 < length ∧ (((codL m).getD j 0 : Nat) : Int) = code)) ∧ x.1 < m.length ∧ (((m.getD x.1 0 : Nat) : Int) = length ∧ 0 < length ∧ (((codL m).getD x.1 0 : Nat) : Int) = code) := by
  unfold findP at h
  obtain ⟨hx, l1, l2, e, hno⟩ := List.find?_eq_some_iff_append.1 h
  have hm : x ∈ upv m m.length := by rw [e]; simp
  obtain ⟨h1, h2, h3⟩ := (upv_mem m m.length x).1 hm
  refine ⟨fun j hj h4 => ?_, h1, (hit_iff m code length x.1 h1).2 ⟨h2, by rw [← h3]; exact hx⟩⟩
  obtain ⟨h5, h6⟩ := (hit_iff m code length j (by omega)).1 h4
  have hjm := (upv_mem m m.length (j, cod m j)).2 ⟨by simp only; omega, h5, rfl⟩
  have hr := upv_rise m m.length
  rw [e] at hjm hr
  rw [List.pairwise_append] at hr
  rcases List.mem_append.1 hjm with h7 | h7
  · have := hno _ h7
    rw [h6] at this
    cases this
  · rcases List.mem_cons.1 h7 with h8 | h8
    · rw [← h8] at hj
      simp at hj
    · have := List.rel_of_pairwise_cons hr.2.1 h8
      simp only at this
      omega
theorem rcodes_no (w : World) (a : Option Addr) (len cap : Nat) (l : List Int) (hs : Src w a len cap (ci l)) (hlen : len ≤ 17592186044416) (hno : refC l ≠ 0) :
    Calls Try.prog 16 #[.slice a len cap] w fun e w' => e = .returned (.tuple #[.slice none 0 0, .int .i64 (refC l)]) ∧ w' = w := by
  have K := rweigh_any w a len cap l hs hlen
  unfold refC at *
  by_cases h1 : refu 15 l = 0
  · rw [if_neg (fun h => h h1)] at hno ⊢
    have hq : 32768 < wgt (l.map Int.toNat) := by
      rcases Nat.lt_or_ge 32768 (wgt (l.map Int.toNat)) with h | h
      · exact h
      · rw [if_neg (by omega)] at hno; exact absurd rfl hno
    rw [if_pos hq]
    have hw : weiV l = (wgt (l.map Int.toNat) : Nat) := by unfold weiV; rw [if_neg (by simp [h1])]
    rw [h1, hw] at K
    generalize wgt (l.map Int.toNat) = q at *
    have hq' : (32768 : Int) < (q : Int) := by omega
    clear hs hno h1 hw
    go_enter Try.func16, Try.ntmps16
    go_wp2_with fail
    refine K.mono ?_
    rintro e wx ⟨rfl, hwx⟩
    obtain rfl := hwx.symm
    go_wp2_with fail
    go_ret2
    exact ⟨rfl, rfl⟩
  · rw [if_pos h1] at hno ⊢
    generalize refu 15 l = q at *
    generalize weiV l = v at *
    have h0' : (q == 0) = false := by simpa using h1
    clear hs hno h1
    go_enter Try.func16, Try.ntmps16
    go_wp2_with fail
    refine K.mono ?_
    rintro e wx ⟨rfl, hwx⟩
    obtain rfl := hwx.symm
    go_wp2_with fail
    go_ret2
    exact ⟨rfl, rfl⟩

set_option maxRecDepth 10000 in
set_option maxHeartbeats 4000000 in
theorem rcodes_ok (w : World) (a : Option Addr) (len cap : Nat) (m : List Nat) (hs : Src w a len cap (cn m)) (hlen : len ≤ 1000) (h15 : ∀ x ∈ m, x ≤ 15) (hyes : refC (nm m) = 0) :
    Calls Try.prog 16 #[.slice a len cap] w fun e w' => ∃ R, e = .returned (.tuple #[.slice (some ⟨R, 0, none⟩) len len, .int .i64 0]) ∧ Vec w' R (codL m) ∧ w.heap.size ≤ R ∧ Below w.heap.size w w' := by
  have K := rweigh_any w a len cap (nm m) hs (by omega)
  have hlm : m.length = len := by have := hs.1; rwa [cn_len] at this
  have hlen' : (len : Int) ≤ 1000 := by omega
  unfold refC at hyes
  have hr0 : refu 15 (nm m) = 0 := by
    by_cases h : refu 15 (nm m) = 0
    · exact h
    · rw [if_pos h] at hyes; exact absurd hyes h
  rw [if_neg (fun h => h hr0), nm_toNat] at hyes
  have hw0 : wgt m ≤ 32768 := by
    rcases Nat.lt_or_ge 32768 (wgt m) with h | h
    · rw [if_pos h] at hyes; omega
    · exact h
  have hwv : weiV (nm m) = (wgt m : Nat) := by unfold weiV; rw [if_neg (by simp [hr0]), nm_toNat]
  rw [hr0, hwv] at K
  generalize wgt m = q at K hw0
  have hq' : ¬ (32768 : Int) < (q : Int) := by omega
  have HS : Hid (∀ k, k < len → ∃ g off, a = some ⟨g, off, none⟩ ∧ g < w.heap.size ∧ w.cell? ⟨g, off + k, none⟩ = some (.int .i64 ((m.getD k 0 : Nat) : Int))) := fun k hk => by
    obtain ⟨g, off, e, hc⟩ := src_atn hs hk
    exact ⟨g, off, e, World.block_lt_of_cell? _ _ hc, hc⟩
  have HML : Hid (m.length = len) := hlm
  have H15 : Hid (∀ j, m.getD j 0 ≤ 15) := fun k => by
    rcases Nat.lt_or_ge k m.length with h | h
    · rw [getD_eq h]; exact h15 _ (List.getElem_mem h)
    · simp [List.getD, List.getElem?_eq_none h]
  have HCS : Hid (∀ j, cod m j ≤ 131073000) := fun j => cod_small m (by omega) j (H15.out j)
  clear hs h15 hyes hr0 hwv hlm
  go_enter Try.func16, Try.ntmps16
  go_wp2_with fail
  refine K.mono ?_
  rintro e wx ⟨rfl, hwx⟩
  obtain rfl := hwx.symm
  clear K
  go_wp2_with (at_make; refine wpList_makeVec _ rfl _ _ rfl len rfl rfl (by omega) ?_; intro w1 hv1 hb1)
  go_loopw [7, 8, 9] (fun nv lv Lv wr => ∃ L nx la : Nat, 1 ≤ L ∧ L ≤ 16 ∧ Lv = .int .i64 L ∧ nv = .int .i64 nx ∧ lv = .int .i64 la ∧ Hid (la ≤ L ∧ nx * 2 ^ (L - la) = 2 * hor m L ∧ Vec wr w.heap.size (rC m L 0)) ∧ Below w.heap.size w wr) (fun _ _ Lv _ => 16 - (intOf Lv).toNat)
  case atStart => exact ⟨1, 0, 0, by omega, by omega, rfl, rfl, rfl, ⟨by omega, by simp [hor, per], by rw [rC_start, HML.out]; exact hv1⟩, hb1⟩
  case round =>
    clear hv1 hb1
    obtain ⟨L, nx, la, hL1, hL, rfl, rfl, rfl, HI, bel⟩ := hrel
    by_cases hlt : L < 16
    · have hlt' : (L : Int) ≤ 15 := by omega
      have HI2 : Hid (la ≤ L ∧ nx * 2 ^ (L - la) = 2 * hor m L + (m.take 0).count L ∧ Vec wr w.heap.size (rC m L 0)) := ⟨HI.out.1, by simpa using HI.out.2.1, HI.out.2.2⟩
      clear HI
      go_wp2_with fail
      go_loopw [7, 8, 10] (fun nv lv iv wr => ∃ i nx la : Nat, i ≤ len ∧ iv = .int .i64 i ∧ nv = .int .i64 nx ∧ lv = .int .i64 la ∧ Hid (la ≤ L ∧ nx * 2 ^ (L - la) = 2 * hor m L + (m.take i).count L ∧ Vec wr w.heap.size (rC m L i)) ∧ Below w.heap.size w wr) (fun _ _ iv _ => len - (intOf iv).toNat)
      case atStart => exact ⟨0, nx, la, Nat.zero_le _, rfl, rfl, rfl, HI2, bel⟩
      case round =>
        clear HI2 bel
        obtain ⟨i, nx, la, hi, rfl, rfl, rfl, HI, bel⟩ := hrel
        by_cases hlti : i < len
        · have hlti' : (i : Int) < (len : Int) := by omega
          obtain ⟨g, off, rfl, hg, q1⟩ := HS.out i hlti
          have c1 := (bel.cell (p := ⟨g, off + i, none⟩) hg).trans q1
          have HRK : Hid ((m.take (i + 1)).count L = (m.take i).count L + if m.getD i 0 = L then 1 else 0) := rank_succ m i L (by rw [HML.out]; exact hlti)
          by_cases hx : m.getD i 0 = L
          · have HCD : Hid (cod m i = 2 * hor m L + (m.take i).count L) := by show _ = _; unfold cod; rw [hx]
            have hcs := HCS.out i
            have hv' : ((cod m i : Nat) : Int) ≤ 131073000 := Int.ofNat_le.2 hcs
            have hcs2 : cod m i ≤ 1000000000 := Nat.le_trans hcs (by decide)
            have hla := HI.out.1
            obtain ⟨s, hs⟩ : ∃ s, s = L - la := ⟨_, rfl⟩
            have hsi : (L : Int) - (la : Int) = (s : Int) := by omega
            have hs15 : (s : Int) ≤ 16 := by omega
            have m1 := shl_any nx s (cod m i) (by rw [hs, HI.out.2.1, HCD.out]) hcs2
            have v1 := HI.out.2.2
            have hil : i < (rC m L i).length := by rw [rC_len, HML.out]; exact hlti
            have c2 := v1.cell hil
            have f2 := v1.frozen i
            have HV : Hid (Vec (wr.setCell ⟨w.heap.size, i, none⟩ (.int .i64 ((cod m i : Nat) : Int))) w.heap.size (rC m L (i + 1))) := by
              have h := v1.set i (cod m i)
              rw [rC_set m L i (by rw [HML.out]; exact hlti) hx (by omega)] at h
              exact h
            have HN : Hid ((cod m i + 1) * 2 ^ (L - L) = 2 * hor m L + (m.take (i + 1)).count L) := by
              show _ = _
              rw [HRK.out, if_pos hx, HCD.out, Nat.sub_self]
              omega
            have B2 := bel.setCell (p := ⟨w.heap.size, i, none⟩) (Nat.le_refl _) (.int .i64 ((cod m i : Nat) : Int))
            rw [hx] at c1
            generalize cod m i = v at *
            clear q1 v1 HI hs HCD HRK hx hil hcs hcs2 hla
            go_wp2_with fail
            go_roundw
            case rel => exact ⟨i + 1, v + 1, L, by omega, by go_num, by go_num, rfl, ⟨Nat.le_refl _, HN.out, HV.out⟩, B2⟩
            case measure => simp [intOf]; omega
          · have HN : Hid (la ≤ L ∧ nx * 2 ^ (L - la) = 2 * hor m L + (m.take (i + 1)).count L ∧ Vec wr w.heap.size (rC m L (i + 1))) := ⟨HI.out.1, by rw [HRK.out, if_neg hx]; exact HI.out.2.1, by rw [rC_skip m L i hx]; exact HI.out.2.2⟩
            generalize m.getD i 0 = x at *
            have hx' : ((x : Int) == (L : Int)) = false := by simp; omega
            clear q1 HI HRK hx
            go_wp2_with fail
            go_roundw
            case rel => exact ⟨i + 1, nx, la, by omega, by go_num, rfl, rfl, HN, bel⟩
            case measure => simp [intOf]; omega
        · have hge : (len : Int) ≤ (i : Int) := by omega
          have HN : Hid (la ≤ L + 1 ∧ nx * 2 ^ (L + 1 - la) = 2 * hor m (L + 1) ∧ Vec wr w.heap.size (rC m (L + 1) 0)) := by
            have h := HI.out
            rw [List.take_of_length_le (by rw [HML.out]; omega)] at h
            refine ⟨by omega, ?_, by rw [rC_next, HML.out, show len = i from by omega]; exact h.2.2⟩
            rw [show L + 1 - la = (L - la) + 1 from by omega, Nat.pow_succ, ← Nat.mul_assoc, h.2.1, hor, per, if_neg (by omega)]
            omega
          clear HI
          go_wp2_with fail
          go_roundw
          case rel => exact ⟨L + 1, nx, la, by omega, by omega, by go_num, rfl, rfl, HN, bel⟩
          case measure => simp [intOf]; omega
    · have hge : ¬ (L : Int) ≤ 15 := by omega
      have HV : Hid (Vec wr w.heap.size (codL m)) := by
        have h := HI.out.2.2
        rw [show L = 16 from by omega, rC_end m H15.out] at h
        exact h
      clear HI
      go_wp2_with fail
      go_ret2
      exact ⟨w.heap.size, rfl, HV.out, Nat.le_refl _, bel⟩
end Go.Proofs.Ytkieallgompggaa
