/-
  What is packed is unpacked as it was, and the other way round: the two calls of the law.
-/
import Derived.Test.YtkbjohkijajcgabUnpackAny
namespace Go.Proofs.Ytkbjohkijajcgab
open Go.ChangeShapes Go.WideShapes Go.ChangeAt Go.RowKit

theorem fit_of_wide {W : Nat} {zs : List Int} (hW : W ≤ 64) (hu : U64 zs) (h : wide W zs = false) : Fit W (nats zs) := by
  intro x hx
  obtain ⟨z, hz, rfl⟩ := List.mem_map.1 hx
  have hz2 := hu z hz
  have h1 : wide1 W z = false := by
    unfold wide at h
    rw [List.any_eq_false] at h
    simpa using h z hz
  unfold wide1 at h1
  have h2 : Lib.bitLen z.toNat ≤ W := by
    have := of_decide_eq_false h1
    omega
  exact (fits_iff z.toNat W (by omega) hW).1 h2
theorem wide_of_fit {W : Nat} {zs : List Int} (hW : W ≤ 64) (hu : U64 zs) (h : Fit W (nats zs)) : wide W zs = false := by
  unfold wide
  rw [List.any_eq_false]
  intro z hz
  have hz2 := hu z hz
  have h2 := (fits_iff z.toNat W (by omega) hW).2 (h _ (List.mem_map.2 ⟨z, hz, rfl⟩))
  unfold wide1
  simp
  omega
theorem c64_nats {zs : List Int} (hu : U64 zs) : c64 (nats zs) = zs.map (Value.int .u64) := by
  unfold c64 nats
  rw [List.map_map]
  refine List.map_congr_left (fun x hx => ?_)
  have := hu x hx
  show Value.int .u64 ((x.toNat : Nat) : Int) = _
  rw [Int.toNat_of_nonneg this.1]
theorem nats_ints (l : List Nat) : nats (ints l) = l := by simp [nats, ints, Function.comp_def]
theorem upk_fits (W : Nat) : ∀ k n : Nat, Fit W (upk W k n)
  | 0, _ => fun x hx => by cases hx
  | k + 1, n => fun x hx => by
    rcases List.mem_cons.1 hx with rfl | hx
    · exact Nat.mod_lt _ (Nat.two_pow_pos _)
    · exact upk_fits W k _ x hx

theorem back1 (ap : Option Addr) (S cp W ll : Nat) (zs : List Int) (w : World) (hs : Src w ap S cp (c8 (upk 8 S (pk W (nats zs))))) (hu : U64 zs) (hwd : wide W zs = false) (hlen : zs.length = ll) (hsz : sze W ll = 0) (hS : S = (ll * W + 7) / 8) :
    Calls Try.prog 15 #[.slice ap S cp, .int .i64 W, .int .i64 ll] w fun e w' => ∃ v, e = .returned (.tuple #[v, .int .i64 0]) ∧ w'.ownsRow w.heap.size 22 1 v ll (zs.map (Value.int .u64)) ∧ Below w.heap.size w w' := by
  have hW := (size_le hsz).1
  have hf := fit_of_wide hW hu hwd
  have hnl : (nats zs).length = ll := by simp [nats, hlen]
  have hlt := pk_lt W _ hf
  rw [hnl] at hlt
  have hBl : pk W (nats zs) < 2 ^ (8 * S) := by
    refine Nat.lt_of_lt_of_le hlt (Nat.pow_le_pow_right (by omega) ?_)
    rw [Nat.mul_comm]
    omega
  have hup := upk_pk W _ hf
  rw [hnl] at hup
  refine (unpack_main ap S cp W ll _ w hsz hS (bytesAt_num (num_src hs) (Nat.le_refl _)) hBl).mono ?_
  rintro e w' ⟨⟨_, v, rfl, hown⟩ | ⟨hno, _⟩, hb⟩
  · refine ⟨v, rfl, ?_, hb⟩
    rw [hup, c64_nats hu] at hown
    exact hown
  · exact absurd hlt hno

theorem back2 (ay : Option Addr) (cy W c B len : Nat) (w : World) (hs : Src w ay c cy (c64 (upk W c B))) (hok : B < 2 ^ (W * c)) (hsz : sze W c = 0) (hl : len = (c * W + 7) / 8) :
    Calls Try.prog 13 #[.int .i64 W, .slice ay c cy] w fun e w' => ∃ v, e = .returned (.tuple #[v, .int .i64 0]) ∧ StrAt w' v (strOfNums (ints (upk 8 len B))) ∧ Below w.heap.size w w' := by
  have hW := (size_le hsz).1
  have hp : 2 ^ W ≤ 2 ^ 64 := Nat.pow_le_pow_right (by omega) hW
  have hu : U64 (ints (upk W c B)) := by
    intro z hz
    obtain ⟨n, hn, rfl⟩ := List.mem_map.1 hz
    have := upk_fits W c B n hn
    omega
  have hwd : wide W (ints (upk W c B)) = false := wide_of_fit hW hu (by rw [nats_ints]; exact upk_fits W c B)
  rw [c64_ints] at hs
  refine (pack_yes ay c cy W len (ints (upk W c B)) w hs hu hwd hsz hl).mono ?_
  rintro e w' ⟨v, rfl, hown, hb⟩
  rw [nats_ints, pk_upk W c B hok] at hown
  exact ⟨v, rfl, strAt_own hown, hb⟩

theorem conv_empty (W : World) (p : Addr) (c : Nat) : Sem.run Try.prog (convert 32 9 (.slice (some p) 0 c)) W = .ok (.string (strOfNums [])) W := by
  have hl : (loadCells p 0).run Try.prog W = .ok #[] W := by
    simp [loadCells, go_sem]
  rw [run_convert_bytes_string W 32 9 5 _ 0 c Try.underlying32 Try.underlying5 Try.underlying9, run_bytesToString W _ 0 c [] (by simpa using hl)]
  simp [strOfNums]
  rfl

theorem str_src {w : World} {a : Option Addr} {l c B : Nat} (h : Src w a l c (c8 (upk 8 l B))) : StrAt w (.slice a l c) (strOfNums (ints (upk 8 l B))) := by
  intro W' hb
  have h' := h.later hb
  rcases h.2 with ⟨rfl, rfl, rfl⟩ | ⟨p, rfl, _⟩
  · exact run_convert_bytes_nil W' 32 5 Try.underlying32 Try.underlying5 0 0 9 Try.underlying9
  · rcases Nat.eq_zero_or_pos l with rfl | hl
    · exact conv_empty W' p c
    · rw [c8_ints] at h'
      obtain ⟨g, off, e, _⟩ := src_at h' hl
      cases e
      refine run_convert_bytes_arg W' 32 5 Try.underlying32 Try.underlying5 g off l c (ints (upk 8 l B)) (by simp [ints, upk_len]) (fun i hi => ?_) 9 Try.underlying9
      obtain ⟨g', off', e', hc⟩ := src_at h' hi
      cases e'
      exact hc
end Go.Proofs.Ytkbjohkijajcgab
