/-
  What bits.Pack answers.
-/
import Derived.Test.YtdglobonbhkheaaBPut
import Derived.Test.YtdglobonbhkheaaBWide
import Derived.Test.YtdglobonbhkheaaBSize
import Derived.WalkSmall
namespace Go.Proofs.Ytdglobonbhkheaa
open Go.ChangeShapes Go.WideShapes Go.ChangeAt Go.RowKit

def nats (zs : List Int) : List Nat := zs.map Int.toNat

set_option maxRecDepth 100000 in
set_option maxHeartbeats 2000000 in
theorem pack_no (ad : Option Addr) (L cap : Nat) (wd : Int) (zs : List Int) (w : World) (hL : L ≤ 1048576) (hs : Src w ad L cap (zs.map (Value.int .u64))) (hu : U64 zs) (hno : wd < 0 ∨ 64 < wd ∨ wide wd zs = true) :
    Calls Try.prog 55 #[.int .i64 wd, .slice ad L cap] w fun e w' => e = .returned (.tuple #[.slice none 0 0, .int .i64 2]) ∧ Below w.heap.size w w' := by
  have B0 : Below w.heap.size w (w.alloc (.cells #[.int .i64 wd] 3)) := (Below.refl _ w).alloc (Nat.le_refl _) _
  by_cases c1 : wd < 0
  · go_enter Try.func55, Try.ntmps55
    go_wp2
    go_ret2
    exact ⟨rfl, B0⟩
  by_cases c2 : 64 < wd
  · go_enter Try.func55, Try.ntmps55
    go_wp2
    go_ret2
    exact ⟨rfl, B0⟩
  have c3 : wide wd zs = true := by rcases hno with h | h | h; omega; omega; exact h
  have c1' : 0 ≤ wd := by omega
  have c2' : wd ≤ 64 := by omega
  have C := contains_any ad L cap w.heap.size wd zs (w.alloc (.cells #[.int .i64 wd] 3)) hL (hs.later B0) hu (by simp)
  rw [c3] at C
  clear hno c3 c1 c2
  go_enter Try.func55, Try.ntmps55
  go_wp2_with (first | (go_at_call 83; refine C.mono ?_; rintro e w1 ⟨rfl, q, rfl⟩) | go_in)
  go_ret2
  exact ⟨rfl, below_drewN B0 q⟩

theorem size_le {W L : Nat} (hsz : sze W L = 0) : W ≤ 64 ∧ L ≤ 1048576 ∧ (L * W + 7) / 8 ≤ 1048576 ∧ szv W L = ((L * W + 7) / 8 : Nat) := by
  have e : szv W L = ((L : Int) * W + 7) / 8 := by unfold szv; rw [if_pos hsz]
  unfold sze at hsz
  split at hsz
  · omega
  · rename_i h1
    split at hsz
    · omega
    · rename_i h2
      split at hsz
      · omega
      · rename_i h3
        have h4 : ((L : Int) * W + 7) / 8 = ((L * W + 7) / 8 : Nat) := by
          rw [← Int.natCast_mul]
          omega
        rw [h4] at h3
        exact ⟨by omega, by omega, by omega, by rw [e, h4]⟩
theorem size_ok {W L S : Nat} (hsz : sze W L = 0) (hS : S = (L * W + 7) / 8) (w : World) :
    Calls Try.prog 54 #[.int .i64 W, .int .i64 L] w fun e w' => e = .returned (.tuple #[.int .i64 S, .int .i64 0]) ∧ w' = w := by
  obtain ⟨h1, h2, h3, h4⟩ := size_le hsz
  have h := size_any W L w (by omega) (by omega) (by omega) (by omega)
  rw [hsz, h4, ← hS] at h
  exact h

theorem own_mono {w : World} {B B' : Nat} {e : TypeId} {s : Nat} {v : Value} {n : Nat} {xs : List Value} (h : w.ownsRow B e s v n xs) (hB : B' ≤ B) : w.ownsRow B' e s v n xs := by
  refine ⟨h.1, ?_⟩
  rcases h.2 with h1 | ⟨g, cap, cur, h1, h2, h3⟩
  · exact .inl h1
  · exact .inr ⟨g, cap, cur, h1, by omega, h3⟩
theorem not_wide {W : Nat} {zs : List Int} (hwd : wide W zs = false) (hu : U64 zs) (hW : W ≤ 64) : ∀ z ∈ zs, z.toNat < 2 ^ W := by
  intro z hz
  have h1 : wide1 W z = false := by
    rcases hh : wide1 W z with _ | _
    · rfl
    · exact absurd (List.any_eq_true.2 ⟨z, hz, hh⟩) (by unfold wide at hwd; rw [hwd]; simp)
  have h2 := hu z hz
  unfold wide1 at h1
  exact (fits_iff z.toNat W (by omega) hW).1 (by have := of_decide_eq_false h1; omega)
theorem fit_nats {W : Nat} {zs : List Int} (hwd : wide W zs = false) (hu : U64 zs) (hW : W ≤ 64) : Fit W (nats zs) := by
  intro x hx
  obtain ⟨z, hz, rfl⟩ := List.mem_map.1 hx
  exact not_wide hwd hu hW z hz
theorem pack_fit {W j : Nat} {zs : List Int} (hwd : Hid (wide W zs = false)) (hu : U64 zs) (hW : W ≤ 64) (hj : j < zs.length) : (zs.getD j 0).toNat < 2 ^ W := not_wide hwd.out hu hW _ (getD_mem hj)
theorem pack_lt {W j : Nat} {zs : List Int} (hwd : Hid (wide W zs = false)) (hu : U64 zs) (hW : W ≤ 64) (hj : j ≤ zs.length) : pk W ((nats zs).take j) < 2 ^ (W * j) := by
  have h := pk_lt W ((nats zs).take j) (fun x hx => fit_nats hwd.out hu hW x (List.mem_of_mem_take hx))
  have e : ((nats zs).take j).length = j := by unfold nats; simp; omega
  rw [e] at h
  exact h
theorem pk_more (W : Nat) (zs : List Int) (j : Nat) (hj : j < zs.length) : pk W ((nats zs).take (j + 1)) = pk W ((nats zs).take j) + (zs.getD j 0).toNat * 2 ^ (W * j) := by
  have e : ((nats zs).take j).length = j := by unfold nats; simp; omega
  rw [List.take_succ_eq_append_getElem (by unfold nats; simpa using hj), pk_snoc, e]
  simp [nats, List.getD, List.getElem?_eq_getElem hj]

set_option maxRecDepth 100000 in
set_option maxHeartbeats 4000000 in
theorem pack_yes (ad : Option Addr) (L cap W S : Nat) (zs : List Int) (w : World) (hs : Src w ad L cap (zs.map (Value.int .u64))) (hu : U64 zs) (hwd : wide W zs = false) (hsz : sze W L = 0) (hS : S = (L * W + 7) / 8) :
    Calls Try.prog 55 #[.int .i64 W, .slice ad L cap] w fun e w' => ∃ v, e = .returned (.tuple #[v, .int .i64 0]) ∧ w'.ownsRow w.heap.size 5 1 v S (c8 (upk 8 S (pk W (nats zs)))) ∧ Below w.heap.size w w' := by
  obtain ⟨hW, hL, hSb, _⟩ := size_le hsz
  have HZ : Hid (zs.length = L) := by show _ = _; simpa using hs.1
  have HS : Hid (S = (L * W + 7) / 8) := hS
  rw [← hS] at hSb
  obtain ⟨i0, hi, hz0, hz1, hz2⟩ := info_parts Try.info5
  have B0 : Below w.heap.size w (w.alloc (.cells #[.int .i64 W] 3)) := (Below.refl _ w).alloc (Nat.le_refl _) _
  have C := contains_any ad L cap w.heap.size W zs (w.alloc (.cells #[.int .i64 W] 3)) hL (hs.later B0) hu (by simp)
  rw [hwd] at C
  have CS := fun wx => size_ok hsz hS wx
  have c2' : (W : Int) ≤ 64 := by omega
  have hwd' : Hid (wide W zs = false) := hwd
  clear hS hsz hwd
  go_enter Try.func55, Try.ntmps55
  go_wp2_with (first | (go_at_call 83; refine C.mono ?_; rintro e w1 ⟨rfl, q, rfl⟩) | (go_at_call 54; refine (CS _).mono ?_; rintro e w2 ⟨rfl, hw2⟩; obtain rfl := hw2.symm) | (at_make; refine wpList_make_own _ rfl _ _ 27 rfl (w.heap.size + 1) 5 i0 (.int .u8 0) 1 Try.underlying27 hi hz0 hz1 _ _ _ S rfl rfl rfl (by rw [hz2]; omega) (by unfold maxLen; omega) (by simp) ?_; intro w3 hown3 hgrow3) | go_in)
  have B3 : Below (w.heap.size + 1) ((w.alloc (.cells #[.int .i64 W] 3)).drewN q) w3 := (Below.refl _ _).grown hgrow3 (by simp) (fun _ e => by cases e)
  have B03 : Below w.heap.size w w3 := (below_drewN B0 q).trans (B3.mono (by omega))
  have hz3 : w.heap.size + 1 ≤ w3.heap.size := by have := B3.size; simpa using this
  have hb3 : w3.cell? ⟨w.heap.size, 0, none⟩ = some (.int .i64 W) := (B3.cell (p := ⟨w.heap.size, 0, none⟩) (by simp)).trans (by simp)
  have hown4 := hown3.alloc (.cells #[.slice (some ⟨w.heap.size + 1, 0, none⟩) 0 S, .int .i64 0] 121)
  clear hown3 hgrow3 C CS
  have B4 : Below (w.heap.size + 1) w3 (w3.alloc (.cells #[.slice (some ⟨w.heap.size + 1, 0, none⟩) 0 S, .int .i64 0] 121)) := (Below.refl _ w3).alloc hz3 _
  have hblk : (w3.alloc (.cells #[.slice (some ⟨w.heap.size + 1, 0, none⟩) 0 S, .int .i64 0] 121)).heap[w3.heap.size]? = some (.cells #[.slice (some ⟨w.heap.size + 1, 0, none⟩) 0 S, .int .i64 0] 121 (0, 0)) := heap_alloc_new _ _
  have ps4 : PS (w3.alloc (.cells #[.slice (some ⟨w.heap.size + 1, 0, none⟩) 0 S, .int .i64 0] 121)) w3.heap.size (w.heap.size + 1) (.slice (some ⟨w.heap.size + 1, 0, none⟩) 0 S) 0 0 0 := ⟨hblk, by simpa [c8, upk] using hown4, hz3⟩
  go_loopw [36] (fun c wr => ∃ (j s fr : Nat) (v : Value), c = .int .i64 j ∧ j ≤ L ∧ PS wr w3.heap.size (w.heap.size + 1) v s (pk W ((nats zs).take j)) fr ∧ Hid (8 * s = W * j + fr) ∧ fr ≤ 7 ∧ Below (w.heap.size + 1) w3 wr)
    (fun c _ => L - (intOf c).toNat)
  case atStart => exact ⟨0, 0, 0, _, rfl, Nat.zero_le _, by simpa [pk] using ps4, by show _ = _; omega, by omega, B4⟩
  case round =>
    obtain ⟨j, s, fr, v, rfl, hj, ps, HT, hfr, hB⟩ := hrel
    clear ps4 hown4 hblk B4 hi hz0 hz1 hz2
    have B0r : Below w.heap.size w wr := B03.trans (hB.mono (by omega))
    have hbr : wr.cell? ⟨w.heap.size, 0, none⟩ = some (.int .i64 W) := (hB.cell (p := ⟨w.heap.size, 0, none⟩) (by simp)).trans hb3
    by_cases hlt : j < L
    · have hlt' : (j : Int) < (L : Int) := by omega
      obtain ⟨g, off, rfl, hcz⟩ := src_atI (hs.later B0r) hlt
      have hjz : j < zs.length := by have := HZ.out; omega
      have hb := hu _ (getD_mem hjz)
      have HF : Hid _ := pack_fit hwd' hu hW hjz
      have HK : Hid _ := pk_more W zs j hjz
      have HN : Hid (pk W ((nats zs).take j) < 2 ^ (W * j)) := pack_lt hwd' hu hW (by omega)
      have HPS : Hid _ := ps
      clear ps
      generalize zs.getD j 0 = z at *
      have hsb : Hid (s ≤ 1048576) := by have h1 := HT.out; have h2 := HS.out; have h3 : W * j ≤ L * W := by rw [Nat.mul_comm L]; exact Nat.mul_le_mul_left _ hj
                                         show _ ≤ _; omega
      go_wp2_with (go_at_call 84; refine (put_any w3.heap.size (w.heap.size + 1) s _ fr (W * j) W z v wr HPS.out HT.out hfr HN.out hb.1 hb.2 HF.out hW hsb.out).mono ?_; rintro e w5 ⟨rfl, ⟨v5, s5, fr5, ps5, hT5, hfr5⟩, hB5⟩)
      exact ⟨⟨j + 1, s5, fr5, v5, by go_num, by omega, by rw [HK.out]; exact ps5, by show _ = _; rw [Nat.mul_succ]; exact hT5, hfr5, hB.trans hB5⟩, by simp [intOf]; omega⟩
    · have hlt' : (L : Int) ≤ (j : Int) := by omega
      have hjL : j = L := by omega
      subst hjL
      have c0 := two_c0 ps.blk
      have hsS : s = S := by have h1 := HT.out; have h2 := HS.out; rw [Nat.mul_comm j] at h2; omega
      subst hsS
      have HPS : Hid _ := ps
      clear ps
      go_wp2
      go_ret2
      have hO := own_mono HPS.out.own (show w.heap.size ≤ w.heap.size + 1 by omega)
      rw [List.take_of_length_le (by unfold nats; rw [List.length_map, HZ.out]; exact Nat.le_refl _)] at hO
      exact ⟨_, rfl, hO, B0r⟩
end Go.Proofs.Ytdglobonbhkheaa
