/-
  bits.Unpack and the reference's Unpack answer the same, refusals too.
-/
import Derived.Test.YtlajjkpcgokinaaBUnp
import Derived.Test.YtlajjkpcgokinaaBClone
namespace Go.Proofs.Ytlajjkpcgokinaa
open Go.ChangeShapes Go.WideShapes Go.ChangeAt Go.RowKit

theorem row_num8 {w : World} {a : Option Addr} {l c : Nat} {z : List Int} (h : IsRow .u8 w a l c z) : ∃ B : Nat, B < 2 ^ (8 * l) ∧ Src w a l c (c8 (upk 8 l B)) := by
  have hb : ∀ x ∈ z.take l, 0 ≤ x ∧ x ≤ 255 := by
    intro x hx
    have hx' := List.mem_of_mem_take hx
    rcases h with ⟨_, _, _, rfl⟩ | ⟨_, _, _, _, _, _, hw⟩
    · cases hx'
    · simpa [Lit.wf, IntKind.min, IntKind.max, IntKind.signed, IntKind.bits] using hw x hx'
  have hl : (z.take l).length = l := by have := h.len_le; rw [List.length_take]; omega
  have s := h.src
  generalize z.take l = zs at *
  have hf : Fit 8 (zs.map Int.toNat) := by
    intro n hn
    obtain ⟨x, hx, rfl⟩ := List.mem_map.1 hn
    have := hb x hx
    omega
  have hll : (zs.map Int.toNat).length = l := by rw [List.length_map, hl]
  refine ⟨pk 8 (zs.map Int.toNat), ?_, ?_⟩
  · have := pk_lt 8 _ hf
    rwa [hll] at this
  have e : upk 8 l (pk 8 (zs.map Int.toNat)) = zs.map Int.toNat := by
    rw [← hll]
    exact upk_pk 8 _ hf
  rw [e]
  unfold c8
  rw [List.map_map]
  rw [show zs.map ((fun b : Nat => Value.int .u8 (b : Int)) ∘ Int.toNat) = zs.map (Value.int .u8) from List.map_congr_left (fun x hx => by
    have := hb x hx
    show Value.int .u8 ((x.toNat : Nat) : Int) = _
    rw [Int.toNat_of_nonneg this.1])]
  exact s

theorem c64_ints (l : List Nat) : c64 l = (ints l).map (Value.int .u64) := by simp [c64, ints]
theorem i64_wf {a : Int} (h : (Lit.int .i64 a).wf = true) : -9223372036854775808 ≤ a ∧ a ≤ 9223372036854775807 := by
  simpa [Lit.wf, IntKind.min, IntKind.max, IntKind.signed, IntKind.bits] using h

/-- when it is unpacked, and into what -/
def UpkOk (wd ct : Int) (len B : Nat) (L : List Nat) : Prop := ∃ W c : Nat, wd = W ∧ ct = c ∧ sze W c = 0 ∧ len = (c * W + 7) / 8 ∧ B < 2 ^ (W * c) ∧ L = upk W c B

theorem unpack_any (len B : Nat) (wd ct : Int) (hlen : len ≤ 1048576) (hBl : B < 2 ^ (8 * len)) (h1 : -9223372036854775808 ≤ wd) (h2 : wd ≤ 9223372036854775807) (h3 : -9223372036854775808 ≤ ct) (h4 : ct ≤ 9223372036854775807) : ∃ (er : Int) (L : List Nat),
    ((er = 0 ∧ UpkOk wd ct len B L) ∨ (er ≠ 0 ∧ L = [])) ∧
    (∀ w ad cap, Src w ad len cap (c8 (upk 8 len B)) → Calls Try.prog 74 #[.slice ad len cap, .int .i64 wd, .int .i64 ct] w fun e w' => ∃ v, e = .returned (.tuple #[v, .int .i64 er]) ∧ w'.ownsRow w.heap.size 52 1 v L.length (c64 L) ∧ Below w.heap.size w w') ∧
    (∀ w ad cap, Src w ad len cap (c8 (upk 8 len B)) → Calls Try.prog 52 #[.slice ad len cap, .int .i64 wd, .int .i64 ct] w fun e w' => ∃ v, e = .returned (.tuple #[v, .int .i64 er]) ∧ w'.ownsRow w.heap.size 52 1 v L.length (c64 L) ∧ Below w.heap.size w w') := by
  by_cases hsz : sze wd ct = 0
  · have h0 : 0 ≤ wd ∧ 0 ≤ ct := by
      unfold sze at hsz
      split at hsz <;> omega
    obtain ⟨W, rfl⟩ := Int.eq_ofNat_of_zero_le h0.1
    obtain ⟨c, rfl⟩ := Int.eq_ofNat_of_zero_le h0.2
    rcases Nat.lt_trichotomy len ((c * W + 7) / 8) with hl | hl | hl
    · refine ⟨6, [], .inr ⟨by omega, rfl⟩, fun w ad cap hs => ?_, fun w ad cap hs => ?_⟩
      · refine (unpack_short ad len cap W c _ w hsz rfl hlen hl).mono ?_
        rintro e w' ⟨rfl, hb⟩
        exact ⟨_, rfl, World.ownsRow_nil _ _ _ _, hb⟩
      · refine (runpack_short ad len cap W c _ w hsz rfl hl).mono ?_
        rintro e w' ⟨rfl, rfl⟩
        exact ⟨_, rfl, World.ownsRow_nil _ _ _ _, Below.refl _ _⟩
    · by_cases hok : B < 2 ^ (W * c)
      · refine ⟨0, upk W c B, .inl ⟨rfl, W, c, rfl, rfl, hsz, hl, hok, rfl⟩, fun w ad cap hs => ?_, fun w ad cap hs => ?_⟩
        · refine (unpack_main ad len cap W c B w hsz hl (bytesAt_num (num_src hs) (Nat.le_refl _)) hBl).mono ?_
          rintro e w' ⟨⟨_, v, rfl, hown⟩ | ⟨hno, _⟩, hb⟩
          · exact ⟨v, rfl, by rw [upk_len]; exact hown, hb⟩
          · exact absurd hok hno
        · refine (runpack_ok ad len cap W c B w hsz hl (num_src hs) hok).mono ?_
          rintro e w' ⟨v, rfl, hown, hb⟩
          exact ⟨v, rfl, by rw [upk_len]; exact hown, hb⟩
      · refine ⟨8, [], .inr ⟨by omega, rfl⟩, fun w ad cap hs => ?_, fun w ad cap hs => ?_⟩
        · refine (unpack_main ad len cap W c B w hsz hl (bytesAt_num (num_src hs) (Nat.le_refl _)) hBl).mono ?_
          rintro e w' ⟨⟨hok', _⟩ | ⟨_, rfl⟩, hb⟩
          · exact absurd hok' hok
          · exact ⟨_, rfl, World.ownsRow_nil _ _ _ _, hb⟩
        · refine (runpack_form ad len cap W c B w hsz hl (num_src hs) hBl hok).mono ?_
          rintro e w' ⟨rfl, rfl⟩
          exact ⟨_, rfl, World.ownsRow_nil _ _ _ _, Below.refl _ _⟩
    · refine ⟨7, [], .inr ⟨by omega, rfl⟩, fun w ad cap hs => ?_, fun w ad cap hs => ?_⟩
      · refine (unpack_extra ad len cap W c _ w hsz rfl hlen hl).mono ?_
        rintro e w' ⟨rfl, hb⟩
        exact ⟨_, rfl, World.ownsRow_nil _ _ _ _, hb⟩
      · refine (runpack_extra ad len cap W c _ w hsz rfl hl).mono ?_
        rintro e w' ⟨rfl, rfl⟩
        exact ⟨_, rfl, World.ownsRow_nil _ _ _ _, Below.refl _ _⟩
  · refine ⟨sze wd ct, [], .inr ⟨hsz, rfl⟩, fun w ad cap hs => ?_, fun w ad cap hs => ?_⟩
    · refine (unpack_size ad len cap wd ct w h1 h2 h3 h4 hsz).mono ?_
      rintro e w' ⟨rfl, hb⟩
      exact ⟨_, rfl, World.ownsRow_nil _ _ _ _, hb⟩
    · refine (runpack_size ad len cap wd ct w h1 h2 h3 h4 hsz).mono ?_
      rintro e w' ⟨rfl, rfl⟩
      exact ⟨_, rfl, World.ownsRow_nil _ _ _ _, Below.refl _ _⟩
end Go.Proofs.Ytlajjkpcgokinaa
