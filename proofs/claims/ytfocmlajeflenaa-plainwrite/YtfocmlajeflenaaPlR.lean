/-
  The parts: texts, and bytes of a fixed length.
-/
import Derived.Test.YtfocmlajeflenaaPlO
namespace Go.Proofs.Ytfocmlajeflenaa
set_option linter.unusedVariables false
set_option linter.unusedSimpArgs false
open Go.ChangeShapes Go.WideShapes Go.ChangeAt Go.RowKit Go.Deep

set_option maxRecDepth 100000 in
set_option maxHeartbeats 1000000 in
theorem cut_no {w : World} {a : Option Addr} {len cap : Nat} {bs : List Nat} (h : Byt w a len cap bs) (p x : Nat) (hp : p ≤ len) (hx : x ≤ 18446744073709551615) (hn : ¬ x ≤ len - p) :
    Calls Try.prog 74 #[.slice a len cap, .int .i64 p, .int .u64 x] w fun e w' => e = .returned (.tuple #[.string { data := #[] }, .bool false]) ∧ w' = w := by
  have hl := h.most
  have hcap := h.room
  have hp' : (p : Int) ≤ (len : Int) := by omega
  have hl' : (len : Int) ≤ 1048576 := by omega
  have hn' : (len : Int) - (p : Int) < (x : Int) := by omega
  have hr : IntKind.u64.wrap ((len : Int) - (p : Int)) = (len : Int) - (p : Int) := by rw [IntKind.wrap_u64]; omega
  clear h hn hp hl hx
  go_enter Try.func74, Try.ntmps74
  go_wp2_with fail
  go_ret2
  exact ⟨rfl, rfl⟩
set_option maxRecDepth 100000 in
set_option maxHeartbeats 1000000 in
theorem cut_yes {w : World} {a : Option Addr} {len cap : Nat} {bs : List Nat} (h : Byt w a len cap bs) (p x : Nat) (hp : p ≤ len) (hn : x ≤ len - p) :
    Calls Try.prog 74 #[.slice a len cap, .int .i64 p, .int .u64 x] w fun e w' => e = .returned (.tuple #[.string (txt ((bs.drop p).take x)), .bool true]) ∧ w' = w := by
  have hl := h.most
  have hcap := h.room
  have hp' : (p : Int) ≤ (len : Int) := by omega
  have hl' : (len : Int) ≤ 1048576 := by omega
  have hn' : (x : Int) ≤ (len : Int) - (p : Int) := by omega
  have hr : IntKind.u64.wrap ((len : Int) - (p : Int)) = (len : Int) - (p : Int) := by rw [IntKind.wrap_u64]; omega
  have hc' : (len : Int) ≤ (cap : Int) := by omega
  rcases h.src.2 with ⟨rfl, rfl, rfl⟩ | ⟨⟨g, off, sp⟩, rfl, hcells⟩
  · have e : (bs.drop p).take x = [] := by
      have := h.len
      rw [List.length_eq_zero_iff.1 this]
      simp
    rw [e]
    have hp0 : p = 0 := by omega
    have hx0 : x = 0 := by omega
    subst hp0 hx0
    have hcv := run_convert_bytes_nil w 27 5 Try.underlying27 Try.underlying5 0 0 9 Try.underlying9
    clear h hp hn hl hp' hl' hn' hr hc'
    go_enter Try.func74, Try.ntmps74
    go_wp2_with fail
    go_ret2
    exact ⟨rfl, rfl⟩
  · by_cases hl0 : len = 0
    · subst hl0
      have hp0 : p = 0 := by omega
      have hx0 : x = 0 := by omega
      subst hp0 hx0
      have e : (bs.drop 0).take 0 = [] := by simp
      rw [e]
      have hcv := conv_empty w ⟨g, off, sp⟩ cap
      clear h hp hn hl hp' hl' hn' hr hc' hcells
      go_enter Try.func74, Try.ntmps74
      go_wp2_with fail
      go_ret2
      exact ⟨rfl, rfl⟩
    · obtain ⟨g', off', e', hc0⟩ := src_at h.src (j := 0) (by omega)
      cases e'
      have HS := src_drop h.src hp
      have HT := src_take HS hn
      have hcv := str_src HT
      have HX : Hid (txt ((bs.drop p).take x) = strOfNums (((bs.drop p).take x).map fun n : Nat => (n : Int))) := rfl
      by_cases hcq : cap = p
      · have hx0 : x = 0 := by omega
        subst hcq hx0
        have e : (bs.drop cap).take 0 = [] := by simp
        rw [e]
        have hcv2 := conv_empty w ⟨g, off, none⟩ 0
        have hlc : len = cap := by omega
        subst hlc
        clear h hp hn hl hcells HS HT hc0 hl0 hcv HX e
        go_enter Try.func74, Try.ntmps74
        go_wp2_with fail
        go_ret2
        exact ⟨rfl, rfl⟩
      have hcp : ((cap - p : Nat) : Int) = (cap : Int) - (p : Int) := by omega
      clear h hp hn hl hcells HS HT hc0 hl0
      go_enter Try.func74, Try.ntmps74
      go_wp2_with fail
      go_ret2
      exact ⟨by rw [HX.out, List.map_take, List.map_drop]; rfl, rfl⟩
end Go.Proofs.Ytfocmlajeflenaa
