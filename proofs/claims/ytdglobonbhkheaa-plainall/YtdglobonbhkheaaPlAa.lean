/-
  The bits of bytes, one behind the other, for whoever ranges over them within an iterator.
-/
import Derived.Test.YtdglobonbhkheaaBIter
import Derived.Test.YtdglobonbhkheaaJ1
import Derived.Test.YtdglobonbhkheaaJ2
namespace Go.Proofs.Ytdglobonbhkheaa
set_option linter.unusedVariables false
set_option linter.unusedSimpArgs false
open Go.RowKit Go.Shelf

attribute [local go_sem] Oper.semAt_some
set_option maxRecDepth 100000 in
set_option maxHeartbeats 2000000 in
theorem bits2_in (F : Fence) (n : Nat) (h29 : F.fn 93) (hro : F.round = none) (hn : 1 ≤ n) (l Bs n₀ B len cap : Nat) (ad : Option Addr) (hlen : len ≤ 1048576) (J Jx : List Bool → World → Prop)
    (hY : ∀ pre W, J pre W → pre.length < 8 * len → YieldAt F (n - 1) Try.prog l #[.int .i64 (bi (bt B pre.length))] W fun e W' =>
      (e = .returned (.bool true) ∧ J (pre ++ [bt B pre.length]) W' ∧ Below n₀ W W') ∨ (e = .returned (.bool false) ∧ Jx (pre ++ [bt B pre.length]) W'))
    (W : World) (hBs : W.cell? ⟨Bs, 0, none⟩ = some (.slice ad len cap)) (hc : ∀ j, j < len → ∃ g off, ad = some ⟨g, off, none⟩ ∧ g < n₀ ∧ W.cell? ⟨g, off + j, none⟩ = some (.int .u8 ((B / 2 ^ (8 * j) % 256 : Nat) : Int))) (h0 : J [] W) :
    CallsIn F n Try.prog 93 #[.func (.yield l) #[] #[], .pointer (some ⟨Bs, 0, none⟩)] W fun e W' => (∃ v, e = .returned v) ∧
      ((∃ ys, ys = upto (bt B) (8 * len) ∧ J ys W') ∨ (∃ pre, (∃ k, k ≤ 8 * len ∧ pre = upto (bt B) k) ∧ Jx pre W')) := by
  refine callsIn_of_wp Try.func93 rfl h29 ?_ hro
  simp only [Try.ntmps93, List.size_toArray, List.length_cons, List.length_nil, Nat.reduceAdd, Nat.reduceSub, Array.replicate_succ, Array.replicate_zero, List.push_toArray, List.append_toArray, List.nil_append, List.cons_append]
  gi_wp2
  gi_loopw [8] (fun c wr => ∃ j : Nat, j ≤ len ∧ c = .int .i64 j ∧ J (upto (bt B) (8 * j)) wr ∧ Below n₀ W wr)
    (fun c _ => len - (intOf c).toNat)
  case atStart => exact ⟨0, Nat.zero_le _, rfl, h0, Below.refl _ _⟩
  case round =>
    obtain ⟨j, hj, rfl, hJs, hnx⟩ := hrel
    by_cases hlt : j < len
    · have hlt' : (j : Int) < (len : Int) := by omega
      obtain ⟨g, off, rfl, hg, hcj⟩ := hc j hlt
      have hcx := (hnx.cell (p := ⟨g, off + j, none⟩) hg).trans hcj
      have HB := byte_bit B j
      have HBh : Hid _ := HB
      have hcb : B / 2 ^ (8 * j) % 256 < 256 := Nat.mod_lt _ (by omega)
      generalize hq : B / 2 ^ (8 * j) % 256 = q at *
      have hq0 : 0 ≤ (q : Int) ∧ (q : Int) ≤ 255 := by omega
      clear HB hq hcb hcj
      gi_wp2
      gi_loopw [12] (fun c wr => ∃ i : Nat, i ≤ 8 ∧ c = .int .i64 i ∧ J (upto (bt B) (8 * j + i)) wr ∧ Below n₀ W wr)
        (fun c _ => 8 - (intOf c).toNat)
      case atStart => exact ⟨0, by omega, rfl, hJs, hnx⟩
      case round =>
        obtain ⟨i, hi, rfl, hJ2, hn2⟩ := hrel
        by_cases hlt2 : i < 8
        · have hlt2' : (i : Int) < 8 := by omega
          have hE := HBh.out i hlt2
          have hY2 := hY _ wr hJ2 (by rw [upto_length]; omega)
          rw [upto_length] at hY2
          obtain ⟨fn, tmps, assign, body, hy, hR⟩ := hY2
          have HU : Hid _ := upto_succ (bt B) (8 * j + i)
          generalize bt B (8 * j + i) = x at *
          have hbx : 0 ≤ bi x ∧ bi x ≤ 1 := by unfold bi; split <;> omega
          gi_wp2
          refine hR.mono ?_
          rintro e W3 (⟨rfl, hJ3, hk3⟩ | ⟨rfl, hJx3⟩)
          · gi_wp2
            go_roundw
            case rel => exact ⟨i + 1, by omega, by go_num, by rw [← Nat.add_assoc, HU.out]; exact hJ3, hn2.trans hk3⟩
            case measure => simp [intOf]; omega
          · gi_wp2
            refine bodyPost_ret (results_none rfl _ _ _) rfl ?_
            exact ⟨⟨_, rfl⟩, .inr ⟨_, ⟨8 * j + i + 1, by omega, HU.out.symm⟩, hJx3⟩⟩
        · have hi8 : (8 : Int) ≤ (i : Int) := by omega
          have HI : Hid (i = 8) := by show _ = _; omega
          gi_wp2
          go_roundw
          case rel => exact ⟨j + 1, by omega, by go_num, by rw [Nat.mul_succ]; have h := hJ2; rw [HI.out] at h; exact h, hn2⟩
          case measure => simp [intOf]; omega
    · have hlt' : (len : Int) ≤ (j : Int) := by omega
      have HJ : Hid (j = len) := by show _ = _; omega
      gi_wp2
      go_end0
      exact ⟨⟨_, rfl⟩, .inl ⟨_, by rw [HJ.out], hJs⟩⟩
/-- the iterator of bits -/
theorem bits2_seq (n : Nat) (hn : 1 ≤ n) (Bs B len cap : Nat) (ad : Option Addr) (hlen : len ≤ 1048576) (w : World) (hI : BytesAt w.heap.size w ad len B) (X0 : Nat → Prop) :
    SeqE n Try.prog 93 #[.pointer (some ⟨Bs, 0, none⟩)] (fun x : Bool => #[Value.int .i64 (bi x)]) (fun ys => ys = upto (bt B) (8 * len)) (fun pre => ∃ k, k ≤ 8 * len ∧ pre = upto (bt B) k) (fun pre x => pre.length < 8 * len ∧ x = bt B pre.length) X0 (fun W => W.cell? ⟨Bs, 0, none⟩ = some (.slice ad len cap)) w := by
  intro l J Jx W hW hP hJ hJx hY h0
  have h := bits2_in Fence.wide n trivial rfl hn l Bs w.heap.size B len cap ad hlen (fun pre W => J pre X0 W) Jx (fun pre V hJp hl => by
    obtain ⟨fn, tmps, assign, body, hy, hR⟩ := hY pre (bt B pre.length) X0 V hJp ⟨hl, rfl⟩
    exact ⟨fn, tmps, assign, body, hy, hR.mono fun e V' he => by
      rcases he with ⟨e1, e2, e3, _⟩ | ⟨e1, e2, _⟩
      · exact .inl ⟨e1, e2, e3⟩
      · exact .inr ⟨e1, e2⟩⟩) W hP (hI.below hW) h0
  refine h.mono ?_
  rintro e W' ⟨h1, ⟨ys, h2, h3⟩ | ⟨pre, h2, h3⟩⟩
  · exact ⟨h1, .inl ⟨ys, X0, h2, h3⟩⟩
  · exact ⟨h1, .inr ⟨pre, h2, h3⟩⟩
end Go.Proofs.Ytdglobonbhkheaa
