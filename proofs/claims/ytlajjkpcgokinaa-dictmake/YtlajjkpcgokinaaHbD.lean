/-
  Runs in memory, and hybrid.cut.
-/
import Derived.Test.YtlajjkpcgokinaaHbC
import Derived.WalkMore
namespace Go.Proofs.Ytlajjkpcgokinaa
set_option linter.unusedVariables false
set_option linter.unusedSimpArgs false
open Go.ChangeShapes Go.WideShapes Go.ChangeAt Go.RowKit

theorem infoRun : ∃ i, Try.prog.info? 62 = some i ∧ i.zero = some (.agg #[.bool false, .slice none 0 0]) ∧ i.size = 2 ∧ i.bytes ≤ 1000 := by
  have hq : (Try.prog.info? 62).map (fun i => (i.zero, i.size, decide (i.bytes ≤ 1000))) = some (some (.agg #[.bool false, .slice none 0 0]), 2, true) := by kernel_rfl
  cases h : Try.prog.info? 62 with
  | none => rw [h] at hq; cases hq
  | some i =>
    rw [h] at hq
    simp only [Option.map_some, Option.some.injEq, Prod.mk.injEq, decide_eq_true_eq] at hq
    exact ⟨i, rfl, hq.1, hq.2.1, hq.2.2⟩

/-- runs' cells -/
def RunC (Ok : Option Addr → Nat → Nat → List Int → Prop) : List (Bool × List Int) → List Value → Prop
  | [], ys => ys = []
  | r :: rs, ys => ∃ a c zs, ys = .bool r.1 :: .slice a r.2.length c :: zs ∧ Ok a r.2.length c r.2 ∧ RunC Ok rs zs
theorem RunC.snoc {Ok : Option Addr → Nat → Nat → List Int → Prop} (b : Bool) (l : List Int) (a : Option Addr) (c : Nat) (hok : Ok a l.length c l) :
    ∀ (rs : List (Bool × List Int)) (ys : List Value), RunC Ok rs ys → RunC Ok (rs ++ [(b, l)]) (ys ++ [.bool b, .slice a l.length c])
  | [], ys, h => by
    have h : ys = [] := h
    subst h
    exact ⟨a, c, [], rfl, hok, rfl⟩
  | r :: rs, ys, h => by
    obtain ⟨a', c', zs, rfl, h1, h2⟩ := h
    exact ⟨a', c', _, rfl, h1, RunC.snoc b l a c hok rs zs h2⟩
theorem RunC.mono {Ok Ok' : Option Addr → Nat → Nat → List Int → Prop} (hm : ∀ a n c l, Ok a n c l → Ok' a n c l) : ∀ (rs : List (Bool × List Int)) (ys : List Value), RunC Ok rs ys → RunC Ok' rs ys
  | [], ys, h => h
  | r :: rs, ys, h => by
    obtain ⟨a', c', zs, rfl, h1, h2⟩ := h
    exact ⟨a', c', zs, rfl, hm _ _ _ _ h1, RunC.mono hm rs zs h2⟩
theorem RunC.get {Ok : Option Addr → Nat → Nat → List Int → Prop} : ∀ (rs : List (Bool × List Int)) (ys : List Value) (i : Nat) (hi : i < rs.length), RunC Ok rs ys → ∃ a c, ys[2 * i]? = some (.bool rs[i].1) ∧ ys[2 * i + 1]? = some (.slice a rs[i].2.length c) ∧ Ok a rs[i].2.length c rs[i].2
  | [], _, _, hi, _ => by simp at hi
  | r :: rs, ys, 0, _, h => by
    obtain ⟨a', c', zs, rfl, h1, h2⟩ := h
    exact ⟨a', c', rfl, rfl, h1⟩
  | r :: rs, ys, i + 1, hi, h => by
    obtain ⟨a', c', zs, rfl, h1, h2⟩ := h
    obtain ⟨a, c, e1, e2, e3⟩ := RunC.get rs zs i (by simpa using hi) h2
    refine ⟨a, c, ?_, ?_, ?_⟩
    · rw [show 2 * (i + 1) = 2 * i + 1 + 1 by omega]
      simpa using e1
    · rw [show 2 * (i + 1) + 1 = 2 * i + 1 + 1 + 1 by omega]
      simpa using e2
    · simpa using e3
/-- runs in a row of the call's own -/
def Rs (Ok : Option Addr → Nat → Nat → List Int → Prop) (B : Nat) (w : World) (v : Value) (rs : List (Bool × List Int)) : Prop :=
  ∃ ys, w.ownsRow B 62 2 v rs.length ys ∧ RunC Ok rs ys
def SrcI (w : World) (a : Option Addr) (n c : Nat) (l : List Int) : Prop := Src w a n c (l.map (Value.int .i64))
theorem srcI_drop {w : World} {g off len cap n : Nat} {l : List Int} (h : SrcI w (some ⟨g, off, none⟩) len cap l) (hn : n ≤ len) : SrcI w (some ⟨g, off + n, none⟩) (len - n) (cap - n) (l.drop n) := by
  have hl : l.length = len := by simpa using h.1
  refine ⟨by rw [List.length_map, List.length_drop]; omega, .inr ⟨_, rfl, fun j u hj => ?_⟩⟩
  rcases h.2 with ⟨h1, _⟩ | ⟨p, h1, h2⟩
  · cases h1
  · cases h1
    have := h2 (n + j) u (by
      rw [List.map_drop, List.getElem?_drop] at hj
      exact hj)
    rw [← this]
    congr 1
    unfold Addr.add
    split <;> simp_all
    omega
theorem srcI_take {w : World} {a : Option Addr} {len cap n : Nat} {l : List Int} (h : SrcI w a len cap l) (hn : n ≤ len) : SrcI w a n cap (l.take n) := by
  have hl : l.length = len := by simpa using h.1
  refine ⟨by rw [List.length_map, List.length_take]; omega, ?_⟩
  rcases h.2 with ⟨h1, h2, h3⟩ | ⟨p, h1, h2⟩
  · exact .inl ⟨h1, by omega, h3⟩
  · refine .inr ⟨p, h1, fun j u hj => h2 j u ?_⟩
    rw [List.map_take, List.getElem?_take] at hj
    split at hj
    · exact hj
    · cases hj
theorem srcI_zero (w : World) (p : Addr) (c : Nat) : SrcI w (some p) 0 c [] := ⟨rfl, .inr ⟨_, rfl, fun j u hj => by simp at hj⟩⟩
theorem cutR_len : ∀ (n : Nat) (l : List Int), l.length ≤ n → (cutR l).length ≤ l.length
  | 0, l, h => by rw [cutR_nil (by omega)]; simp
  | n + 1, l, h => by
    by_cases h0 : l.length = 0
    · rw [cutR_nil h0]; simp
    · by_cases h8 : 8 ≤ sameN l
      · rw [cutR_same h8]
        have := sameN_le l
        have ih := cutR_len n (l.drop (sameN l)) (by rw [List.length_drop]; omega)
        rw [List.length_drop] at ih
        simp only [List.length_cons]
        omega
      · rw [cutR_pack (by omega) h8]
        have h1 : 1 ≤ packN l := packF_ge l.length 8 l (by omega) (by omega)
        have h2 : packN l ≤ l.length := packF_le _ _ _
        have ih := cutR_len n (l.drop (packN l)) (by rw [List.length_drop]; omega)
        rw [List.length_drop] at ih
        simp only [List.length_cons]
        omega
/-- one more run is laid -/
theorem rs_add {Ok : Option Addr → Nat → Nat → List Int → Prop} {B : Nat} {w0 w w1 : World} {v v' : Value} {rs : List (Bool × List Int)} {ys : List Value} {b : Bool} {l : List Int} {a : Option Addr} {c : Nat} {e : TypeId} {fr : Nat × Nat}
    (hB : Below B w0 w) (hBs : B ≤ w.heap.size) (hown : w.ownsRow B 62 2 v rs.length ys) (hrc : RunC Ok rs ys) (hok : Ok a l.length c l)
    (hown' : w1.ownsRow B 62 2 v' (rs.length + 1) (ys ++ [.bool b, .slice a l.length c])) (hgrow : (w.alloc (.cells #[.bool b, .slice a l.length c] e fr)).grownBy w1 v.ownBlock) :
    Rs Ok B w1 v' (rs ++ [(b, l)]) ∧ Below B w0 w1 := by
  refine ⟨⟨_, by rw [List.length_append]; exact hown', RunC.snoc b l a c hok _ _ hrc⟩, ?_⟩
  exact (hB.alloc hBs _).grown hgrow (by simp; omega) (fun k e => (hown.lt k e).1)

theorem calls_ofQ {P : Program} {f : FuncId} {args : Array Value} {w : World} {Post : Ending → World → Prop} (H : ∀ Q : Ending → World → Prop, (∀ e w', Post e w' → Q e w') → Calls P f args w Q) : Calls P f args w Post := H Post fun _ _ h => h
/-- the numbers that are still to be cut -/
def Cut (w wr : World) (zs : List Int) (rest : List Int) (v : Value) : Prop := ∃ rs, Rs (SrcI w) w.heap.size wr v rs ∧ rs ++ cutR rest = cutR zs ∧ Below w.heap.size w wr
theorem Cut.len {w wr : World} {zs rest : List Int} {rs : List (Bool × List Int)} (h : rs ++ cutR rest = cutR zs) : rs.length ≤ zs.length := by
  have := congrArg List.length h
  have h2 := cutR_len zs.length zs (Nat.le_refl _)
  rw [List.length_append] at this
  omega

theorem srcI_slice {w : World} {g off len cap n : Nat} {l : List Int} (h : SrcI w (some ⟨g, off, none⟩) len cap l) (hlc : len ≤ cap) (hn : n ≤ len) : SrcI w (if cap = n then some ⟨g, off, none⟩ else some ⟨g, off + n, none⟩) (len - n) (cap - n) (l.drop n) := by
  have hl : l.length = len := by simpa using h.1
  by_cases hc : cap = n
  · rw [if_pos hc]
    rcases Nat.lt_or_ge n len with h1 | h1
    · have h2 := srcI_drop h hn
      refine ⟨h2.1, .inr ⟨_, rfl, fun j u hj => ?_⟩⟩
      rcases h.2 with ⟨h3, _⟩ | ⟨p, h3, h4⟩
      · cases h3
      · exact absurd hc (by omega)
    · have e : l.drop n = [] := List.drop_eq_nil_of_le (by omega)
      rw [e, show len - n = 0 by omega]
      exact srcI_zero _ _ _
  · rw [if_neg hc]
    exact srcI_drop h hn
theorem I64.drop {l : List Int} {n : Nat} (h : I64 l) : I64 (l.drop n) := fun x hx => h x (List.mem_of_mem_drop hx)
theorem I64.take {l : List Int} {n : Nat} (h : I64 l) : I64 (l.take n) := fun x hx => h x (List.mem_of_mem_take hx)
theorem cut_add {w wr w1 : World} {zs rest : List Int} {v v' : Value} {rs : List (Bool × List Int)} {ys : List Value} {b : Bool} {k c : Nat} {a : Option Addr} {e : TypeId} {fr : Nat × Nat}
    (hbel : Below w.heap.size w wr) (hown : wr.ownsRow w.heap.size 62 2 v rs.length ys) (hrc : RunC (SrcI w) rs ys) (hkl : (rest.take k).length = k) (hok : SrcI w a (rest.take k).length c (rest.take k))
    (hcut : rs ++ cutR rest = cutR zs) (hc2 : cutR rest = (b, rest.take k) :: cutR (rest.drop k))
    (hown' : w1.ownsRow w.heap.size 62 2 v' (rs.length + 1) (ys ++ [.bool b, .slice a k c])) (hgrow : (wr.alloc (.cells #[.bool b, .slice a k c] e fr)).grownBy w1 v.ownBlock) :
    Cut w w1 zs (rest.drop k) v' := by
  have h := rs_add (B := w.heap.size) (w0 := w) (v := v) (l := rest.take k) (b := b) (c := c) hbel hbel.size hown hrc hok (by rw [hkl]; exact hown') (by rw [hkl]; exact hgrow)
  exact ⟨_, h.1, by rw [← hcut, hc2]; simp, h.2⟩

set_option maxRecDepth 100000 in
set_option maxHeartbeats 4000000 in
theorem cut_any (ad : Option Addr) (L cap : Nat) (zs : List Int) (w : World) (hL : L ≤ 1048576) (hs : SrcI w ad L cap zs) (hc : L ≤ cap) (hu : I64 zs) :
    Calls Try.prog 27 #[.slice ad L cap] w fun e w' => ∃ v, e = .returned v ∧ Rs (SrcI w) w.heap.size w' v (cutR zs) ∧ Below w.heap.size w w' := by
  obtain ⟨i0, hi, hz0, hz1, hz2⟩ := infoRun
  have hzl : zs.length = L := by simpa using hs.1
  refine calls_ofQ fun Q HQ => ?_
  have QOK : Hid (∀ v w' rs, Rs (SrcI w) w.heap.size w' v rs → rs = cutR zs → Below w.heap.size w w' → Q (.returned v) w') := fun v w' rs h1 h2 h3 => HQ _ _ ⟨v, rfl, by rw [← h2]; exact h1, h3⟩
  clear HQ
  go_enter Try.func27, Try.ntmps27
  go_wp2
  go_step3
  go_wp2
  go_step3
  go_wp2
  go_loopw [0, 3] (fun s v wr => ∃ (a : Option Addr) (n c : Nat) (rest : List Int), s = .slice a n c ∧ n ≤ c ∧ n ≤ L ∧ SrcI w a n c rest ∧ I64 rest ∧ Hid (Cut w wr zs rest v)) (fun s _ _ => match s with | .slice _ n _ => n | _ => 0)
  case atStart => exact ⟨ad, L, cap, zs, rfl, hc, Nat.le_refl _, hs, hu, [], ⟨[], World.ownsRow_nil _ _ _ _, rfl⟩, rfl, Below.refl _ _⟩
  case round =>
    obtain ⟨a, n, c, rest, rfl, hnc, hnL, hsr, hur, HC⟩ := hrel
    obtain ⟨rs, ⟨ys, hown, hrc⟩, hcut, hbel⟩ := HC.out
    have hrl := Cut.len (w := w) (wr := wr) hcut
    obtain ⟨va, vc, rfl⟩ := own_sl hown
    have hrest : rest.length = n := by simpa using hsr.1
    have HM : Hid (rs.length + 1 ≤ maxLen ∧ (rs.length + 1) * i0.bytes ≤ 140737488355328) := by
      refine ⟨by unfold maxLen; omega, ?_⟩
      have : (rs.length + 1) * i0.bytes ≤ 1048577 * 1000 := Nat.mul_le_mul (by omega) hz2
      omega
    by_cases h0 : n = 0
    · subst h0
      have HE : Hid (rs = cutR zs) := by
        show _ = _
        rw [← hcut, cutR_nil (by omega), List.append_nil]
      go_wp2_with fail
      exact QOK.out _ _ rs ⟨ys, hown, hrc⟩ HE.out hbel
    · have hn1 : (0 : Int) < (n : Int) := by omega
      obtain ⟨g, off, rfl, _⟩ := src_atI hsr (i := 0) (by omega)
      have SA := same_any (some ⟨g, off, none⟩) n c rest wr (by omega) (by omega) (hsr.later hbel) hur
      have hkl := sameN_le rest
      have hc0 : ¬ c = 0 := by omega
      by_cases h8 : 8 ≤ sameN rest
      · have HCUT : Hid (cutR rest = (false, rest.take (sameN rest)) :: cutR (rest.drop (sameN rest))) := cutR_same h8
        obtain ⟨k, hk⟩ : ∃ k, k = sameN rest := ⟨_, rfl⟩
        rw [← hk] at SA h8 hkl HCUT
        have hkl' : (rest.take k).length = k := by rw [List.length_take]; omega
        have HOK : Hid (SrcI w (some ⟨g, off, none⟩) (rest.take k).length c (rest.take k)) := by rw [hkl']; exact srcI_take hsr (by omega)
        have hkn : (k : Int) ≤ (n : Int) := by omega
        have hkc : (k : Int) ≤ (c : Int) := by omega
        have h8' : (8 : Int) ≤ (k : Int) := by omega
        clear hk
        go_wp2_with (first | (go_at_call 41; refine SA.mono ?_; rintro e w1 ⟨rfl, hb1⟩; have hown1 := own_below hown hb1; have hbel1 : Below w.heap.size w w1 := hbel.trans (hb1.mono hbel.size); have hsz1 : w.heap.size ≤ w1.heap.size := hbel1.size) | (at_builtin; go_loud (refine wpList_append_own _ rfl (.tmp 13) (.tmp 18) 59 rfl w.heap.size 62 i0 _ 2 i0.bytes Try.underlying59 hi hz0 hz1 rfl rfl (by decide) (.slice va rs.length vc) rs.length ys rfl (hown1.alloc _) ⟨w1.heap.size, 0, none⟩ 1 1 [.bool false, .slice (some ⟨g, off, none⟩) k c] rfl rfl (new_news _ _ _ _) (by intro u hu; simp at hu; rcases hu with rfl | rfl <;> rfl) HM.out.1 HM.out.2 (by simp; omega) ?_); intro v2 w2 hown2 hgrow2 _))
        have hnext := srcI_slice hsr hnc (show k ≤ n by omega)
        have hadd := cut_add hbel1 hown1 hrc hkl' HOK.out hcut HCUT.out hown2 hgrow2
        exact ⟨⟨_, _, _, rest.drop k, rfl, by omega, by omega, hnext, hur.drop, hadd⟩, by show n - k < n; omega⟩
      · have hk8 : ¬ (8 : Int) ≤ (sameN rest : Int) := by omega
        have HCUT : Hid (cutR rest = (true, rest.take (packN rest)) :: cutR (rest.drop (packN rest))) := cutR_pack (by omega) h8
        have hn' : (n : Int) ≤ 1048576 := by omega
        have hp1 : 1 ≤ packN rest := packF_ge rest.length 8 rest (by omega) (by omega)
        have hp2 : packN rest ≤ rest.length := packF_le _ _ _
        go_wp2_with ((go_at_call 41; refine SA.mono ?_; rintro e w1 ⟨rfl, hb1⟩; have hown1 := own_below hown hb1; have hbel1 : Below w.heap.size w w1 := hbel.trans (hb1.mono hbel.size); have hsz1 : w.heap.size ≤ w1.heap.size := hbel1.size))
        go_loopw [0, 3, 5] (fun s0 s3 s wq => ∃ (f k : Nat), s0 = .slice (some ⟨g, off, none⟩) n c ∧ s3 = .slice va rs.length vc ∧ s = .int .i64 (k : Int) ∧ Hid (rest.length ≤ k + 8 * f ∧ packF f k rest = packN rest) ∧ 8 ≤ k ∧ k ≤ n + 8 ∧ Below w1.heap.size w1 wq) (fun _ _ s _ => n + 8 - (intOf s).toNat)
        case atStart => exact ⟨rest.length, 8, rfl, rfl, rfl, ⟨by omega, rfl⟩, by omega, by omega, Below.refl _ _⟩
        case round =>
          obtain ⟨f, k, rfl, rfl, rfl, HF, hk1, hk2, hbq⟩ := hrel
          have hownq := own_below hown1 hbq
          have hbelq : Below w.heap.size w wr := hbel1.trans (hbq.mono hbel1.size)
          have hszq : w.heap.size ≤ wr.heap.size := hbelq.size
          clear hown hown1 SA
          by_cases hkn : k < n
          · have hkn' : (k : Int) < (n : Int) := by omega
            have hkc : ¬ c = k := by omega
            have hnx := srcI_drop hsr (show k ≤ n by omega)
            have SB := same_any (some ⟨g, off + k, none⟩) (n - k) (c - k) (rest.drop k) wr (by omega) (by omega) (hnx.later hbelq) hur.drop
            by_cases h9 : 8 ≤ sameN (rest.drop k)
            · have HP : Hid (packN rest = k) := by show _ = _; rw [← HF.out.2, packF_hit HF.out.1 (by omega) h9]
              rw [HP.out] at HCUT
              have hkl' : (rest.take k).length = k := by rw [List.length_take]; omega
              have HOK : Hid (SrcI w (some ⟨g, off, none⟩) (rest.take k).length c (rest.take k)) := by rw [hkl']; exact srcI_take hsr (by omega)
              have hk9 : (8 : Int) ≤ (sameN (rest.drop k) : Int) := by omega
              have hkc' : (k : Int) ≤ (c : Int) := by omega
              have hkn2 : (k : Int) ≤ (n : Int) := by omega
              go_wp2_with (first | (go_at_call 41; refine SB.mono ?_; rintro e w3 ⟨rfl, hb3⟩; have hown3 := own_below hownq hb3; have hbel3 : Below w.heap.size w w3 := hbelq.trans (hb3.mono hbelq.size); have hsz3 : w.heap.size ≤ w3.heap.size := hbel3.size) | (at_builtin; go_loud (refine wpList_append_own _ rfl (.tmp 34) (.tmp 39) 59 rfl w.heap.size 62 i0 _ 2 i0.bytes Try.underlying59 hi hz0 hz1 rfl rfl (by decide) (.slice va rs.length vc) rs.length ys rfl (hown3.alloc _) ⟨w3.heap.size, 0, none⟩ 1 1 [.bool true, .slice (some ⟨g, off, none⟩) k c] rfl rfl (new_news _ _ _ _) (by intro u hu; simp at hu; rcases hu with rfl | rfl <;> rfl) HM.out.1 HM.out.2 (by simp; omega) ?_); intro v2 w2 hown2 hgrow2 _))
              have hadd := cut_add hbel3 hown3 hrc hkl' HOK.out hcut HCUT.out hown2 hgrow2
              exact ⟨⟨_, _, _, rest.drop k, rfl, by omega, by omega, hnx, hur.drop, hadd⟩, by show n - k < n; omega⟩
            · have hk9 : ¬ (8 : Int) ≤ (sameN (rest.drop k) : Int) := by omega
              have HF2 : Hid (rest.length ≤ (k + 8) + 8 * (f - 1) ∧ packF f k rest = packF (f - 1) (k + 8) rest) := packF_step HF.out.1 (by omega) h9
              have hkn2 : (k : Int) ≤ (n : Int) := by omega
              go_wp2_with (go_at_call 41; refine SB.mono ?_; rintro e w3 ⟨rfl, hb3⟩)
              exact ⟨⟨f - 1, k + 8, rfl, rfl, by go_num, ⟨HF2.out.1, by rw [← HF2.out.2]; exact HF.out.2⟩, by omega, by omega, hbq.trans (hb3.mono hbq.size)⟩, by simp [intOf]; omega⟩
          · have hkn' : (n : Int) ≤ (k : Int) := by omega
            have HP : Hid (packN rest = n) := by show _ = _; rw [← HF.out.2, packF_end (by omega)]; exact hrest
            have HE : Hid (rest.take n = rest ∧ cutR (rest.drop n) = []) := ⟨List.take_of_length_le (by omega), cutR_nil (by rw [List.length_drop]; omega)⟩
            rw [HP.out] at HCUT
            have hkl' : (rest.take n).length = n := by rw [List.length_take]; omega
            have HOK : Hid (SrcI w (some ⟨g, off, none⟩) (rest.take n).length c (rest.take n)) := by rw [hkl']; exact srcI_take hsr (by omega)
            go_wp2_with (at_builtin; go_loud (refine wpList_append_own _ rfl (.tmp 44) (.tmp 47) 59 rfl w.heap.size 62 i0 _ 2 i0.bytes Try.underlying59 hi hz0 hz1 rfl rfl (by decide) (.slice va rs.length vc) rs.length ys rfl (hownq.alloc _) ⟨wr.heap.size, 0, none⟩ 1 1 [.bool true, .slice (some ⟨g, off, none⟩) n c] rfl rfl (new_news _ _ _ _) (by intro u hu; simp at hu; rcases hu with rfl | rfl <;> rfl) HM.out.1 HM.out.2 (by simp; omega) ?_); intro v2 w2 hown2 hgrow2 _)
            obtain ⟨rs2, hr2, hc2, hb2⟩ := cut_add hbelq hownq hrc hkl' HOK.out hcut HCUT.out hown2 hgrow2
            exact QOK.out _ _ rs2 hr2 (by rw [← hc2, HE.out.2, List.append_nil]) hb2
end Go.Proofs.Ytlajjkpcgokinaa
