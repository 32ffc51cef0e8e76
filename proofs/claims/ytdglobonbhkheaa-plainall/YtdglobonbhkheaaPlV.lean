/-
  Truths: how many bytes, and which.
-/
import Derived.Test.YtdglobonbhkheaaJ6
import Derived.Test.YtdglobonbhkheaaBRUnp
namespace Go.Proofs.Ytdglobonbhkheaa
set_option linter.unusedVariables false
set_option linter.unusedSimpArgs false
open Go.ChangeShapes Go.WideShapes Go.ChangeAt Go.RowKit Go.Deep

def ns (l : List Dat) : List Int := l.map fun d => d.n
theorem ns_nats (l : List Dat) : nats (ns l) = tbits l := by simp [ns, nats, tbits]
theorem truth_n {z : Int} {d : Dat} (h : ofB d.k d.n d.s.size 0 z = true) : 0 ≤ d.n ∧ d.n ≤ 1 := by
  obtain ⟨e, hc, hf, _⟩ := of_parts h
  obtain ⟨_, h1, h2, _⟩ := fine_parts hf
  rw [e] at h1 h2
  exact ⟨h1, h2⟩
theorem truths_u {z : Int} {l : List Dat} (h : wAll 0 z l = true) : U64 (ns l) := by
  intro x hx
  obtain ⟨d, hd, rfl⟩ := List.mem_map.1 hx
  have := truth_n (List.all_eq_true.1 h d hd)
  omega
theorem truths_w {z : Int} {l : List Dat} (h : wAll 0 z l = true) : wide 1 (ns l) = false := by
  unfold wide
  rw [List.any_eq_false]
  intro x hx
  obtain ⟨d, hd, rfl⟩ := List.mem_map.1 hx
  have h1 := truth_n (List.all_eq_true.1 h d hd)
  have h2 := Lib.bitLen_le d.n.toNat 1 (by omega) (by omega)
  simp only [wide1, decide_eq_true_eq]
  omega
theorem sze1 {L : Nat} (h : L ≤ 65536) : sze (1 : Nat) L = 0 := (sze_ok (wd := ((1 : Nat) : Int)) (ct := (L : Int)) (by omega) (by omega) (by omega)).1

set_option maxRecDepth 100000 in
set_option maxHeartbeats 1000000 in
theorem sizeTruths_any (w : World) (a : Option Addr) (len cap : Nat) (hlen : len ≤ 65536) :
    Calls Try.prog 40 #[.slice a len cap] w fun e w' => e = .returned (.int .i64 ((len + 7) / 8 : Nat)) ∧ w' = w := by
  have SZ := fun W => size_ok (W := 1) (L := len) (S := (len + 7) / 8) (sze1 hlen) (by omega) W
  have hlen' : (len : Int) ≤ 65536 := by omega
  rw [show (((1 : Nat) : Int)) = 1 from rfl] at SZ
  generalize (len + 7) / 8 = S at *
  go_enter Try.func40, Try.ntmps40
  go_wp2_with fail
  refine (SZ _).mono ?_
  rintro e W1 ⟨rfl, hW1⟩
  obtain rfl := hW1.symm
  go_wp2_with fail
  go_ret
  exact ⟨rfl, rfl⟩

theorem set_mid2 {α : Type} (l : List α) (x u : α) (m j : Nat) (h : l.length = j) : (l ++ List.replicate (m + 1) x).set j u = (l ++ [u]) ++ List.replicate m x := by
  subst h
  rw [List.set_append_right _ _ (Nat.le_refl _)]
  simp [List.replicate_succ]
theorem ns_next {l : List Dat} {i : Nat} {d : Dat} (hd : l[i]? = some d) : (ns l).take (i + 1) = (ns l).take i ++ [d.n] := by
  obtain ⟨h1, h2⟩ := List.getElem?_eq_some_iff.1 hd
  rw [List.take_succ_eq_append_getElem (by simpa [ns] using h1)]
  simp [ns, h2]
theorem truth_store {wr : World} {B g len i : Nat} {l : List Dat} {d : Dat} {u : Value} (hown : wr.ownsRow B 65 1 (.slice (some ⟨g, 0, none⟩) len len) len (((ns l).take i ++ List.replicate (len - i) 0).map (Value.int .u64))) (hd : l[i]? = some d) (hl : l.length = len) (hu : u = .int .u64 d.n) :
    (wr.setCell ⟨g, i, none⟩ u).ownsRow B 65 1 (.slice (some ⟨g, 0, none⟩) len len) len (((ns l).take (i + 1) ++ List.replicate (len - (i + 1)) 0).map (Value.int .u64)) := by
  have hi : i < l.length := (List.getElem?_eq_some_iff.1 hd).1
  have e := (hown.stored i u).1
  subst hu
  rw [← List.map_set, show len - i = (len - (i + 1)) + 1 from by omega, set_mid2 _ _ _ _ i (by simp [ns]; omega), ← ns_next hd] at e
  exact e

set_option maxRecDepth 100000 in
set_option maxHeartbeats 4000000 in
theorem layTruths_any (w : World) (a : Option Addr) (len cap : Nat) (z : Int) (l : List Dat) (h : Data w a len cap l) (hall : wAll 0 z l = true) (hlen : len ≤ 65536) :
    Calls Try.prog 41 #[.slice a len cap] w fun e w' => ∃ u, e = .returned u ∧ w'.ownsRow w.heap.size 5 1 u ((len + 7) / 8) (c8 (upk 8 ((len + 7) / 8) (pk 1 (tbits l)))) ∧ Below w.heap.size w w' := by
  have HL : Hid (l.length = len) := h.1
  obtain ⟨i0, hi, hz0, hz1, hz2⟩ := info_parts Try.info65
  have hlen' : (len : Int) ≤ 65536 := by omega
  go_enter Try.func41, Try.ntmps41
  go_wp2_with (at_make; refine wpList_make_full _ rfl _ _ 64 rfl w.heap.size 65 i0 (.int .u64 0) 1 Try.underlying64 hi hz0 hz1 _ _ _ _ len rfl rfl rfl rfl (by rw [hz2]; omega) (by unfold maxLen; omega) (Nat.le_refl _) ?_; intro w1 hown1 hgrow1)
  have hgb : Below w.heap.size w w1 := (Below.refl _ w).grown hgrow1 (Nat.le_refl _) (fun _ e => by cases e)
  clear hgrow1
  rw [made_zero] at hown1
  go_loopw [13] (fun iv wr => ∃ i : Nat, i ≤ len ∧ iv = .int .i64 (i : Int) ∧ wr.ownsRow w.heap.size 65 1 (.slice (some ⟨w.heap.size, 0, none⟩) len len) len (((ns l).take i ++ List.replicate (len - i) 0).map (Value.int .u64)) ∧ Below w.heap.size w wr) (fun iv _ => len - (intOf iv).toNat)
  case atStart => exact ⟨0, Nat.zero_le _, rfl, by simpa using hown1, hgb⟩
  case round =>
    obtain ⟨i, hi', rfl, hown, hb⟩ := hrel
    clear hown1 hgb
    by_cases hlt : i < len
    · have hlt' : (i : Int) < (len : Int) := by omega
      obtain ⟨d, g, o, hd, wd, rfl, hg, y0, y1, y2⟩ := data_at (h.later hb) hlt
      have hn := truth_n (all_at hall hd)
      have hown2 := hown.alloc (.cells #[.int .i64 d.k, .int .i64 d.n, .string d.s] 48 (0, 0))
      have hab := alloc_below wr (.cells #[.int .i64 d.k, .int .i64 d.n, .string d.s] 48 (0, 0))
      have hw : IntKind.u64.wrap d.n = d.n := by rw [IntKind.wrap_u64]; omega
      have hcj : (wr.alloc (.cells #[.int .i64 d.k, .int .i64 d.n, .string d.s] 48 (0, 0))).cell? ⟨w.heap.size, i, none⟩ = some (.int .u64 0) := by
        rw [hown2.cellAt i (by omega)]
        have hl : ((ns l).take i).length = i := by have := HL.out; simp [ns]; omega
        rw [List.map_append, List.getElem?_append_right (by rw [List.length_map]; omega), List.length_map, hl, Nat.sub_self]
        simp only [List.map_replicate, List.getElem?_replicate]
        rw [if_pos (by omega)]
      have hfj := hown2.frozenAt i
      have HST : Hid (∀ u, u = .int .u64 d.n → ((wr.alloc (.cells #[.int .i64 d.k, .int .i64 d.n, .string d.s] 48 (0, 0))).setCell ⟨w.heap.size, i, none⟩ u).ownsRow w.heap.size 65 1 (.slice (some ⟨w.heap.size, 0, none⟩) len len) len (((ns l).take (i + 1) ++ List.replicate (len - (i + 1)) 0).map (Value.int .u64))) := fun u hu => truth_store hown2 hd HL.out hu
      have HB2 : Hid (∀ u, Below w.heap.size w ((wr.alloc (.cells #[.int .i64 d.k, .int .i64 d.n, .string d.s] 48 (0, 0))).setCell ⟨w.heap.size, i, none⟩ u)) := fun u => (hb.trans (hab.mono hb.size)).setCell (p := ⟨w.heap.size, i, none⟩) (Nat.le_refl _) u
      clear hown hown2 hd wd
      go_wp2_with fail
      go_roundw
      case rel => exact ⟨i + 1, by omega, by go_num, HST.out _ rfl, HB2.out _⟩
      case measure => simp [intOf]; omega
    · have hlt' : (len : Int) ≤ (i : Int) := by omega
      have hs : Src wr (some ⟨w.heap.size, 0, none⟩) len len ((ns l).map (Value.int .u64)) := by
        have hil : i = len := by omega
        have := (src_own hown).2
        rw [hil, Nat.sub_self, List.take_of_length_le (by have := HL.out; simp [ns]; omega)] at this
        simpa using this
      have P := pack_yes (some ⟨w.heap.size, 0, none⟩) len len 1 ((len + 7) / 8) (ns l) wr hs (truths_u hall) (truths_w hall) (sze1 hlen) (by omega)
      rw [ns_nats] at P
      have hbs := hb.size
      clear hown hs
      go_wp2_with fail
      refine P.mono ?_
      rintro e W3 ⟨v, rfl, hown3, hb3⟩
      obtain ⟨va, vc, rfl⟩ := own_sl hown3
      clear P
      go_wp2_with fail
      go_ret
      exact ⟨_, rfl, own_mono hown3 hbs, hb.trans (hb3.mono hbs)⟩
end Go.Proofs.Ytdglobonbhkheaa
