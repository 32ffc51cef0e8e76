/-
  append of bytes and of a string, as a run and as a step of a region that draws; texts of bytes.
-/
import Derived.Test.YtdglobonbhkheaaBase
import Derived.Lib.AppendStr
import Derived.Lib.Strings
import Derived.Deep.RegionHeld3
namespace Go.Proofs.Ytdglobonbhkheaa
set_option linter.unusedVariables false
set_option linter.unusedSimpArgs false
open Go.ChangeShapes Go.WideShapes Go.ChangeAt Go.RowKit

/-- a text's bytes -/
def tb (s : ByteArray) : List Nat := s.data.toList.map UInt8.toNat
theorem tb_len (s : ByteArray) : (tb s).length = s.size := by
  unfold tb
  rw [List.length_map, Array.length_toList]
  rfl
theorem tb_lt (s : ByteArray) : ∀ b ∈ tb s, b < 256 := by
  intro b hb
  obtain ⟨x, _, rfl⟩ := List.mem_map.1 hb
  exact x.toNat_lt
/-- the text of bytes -/
def txt (l : List Nat) : ByteArray := strOfNums (l.map fun n : Nat => (n : Int))
theorem txt_size (l : List Nat) : (txt l).size = l.length := by
  simp [txt, strOfNums, ByteArray.size]
theorem txt_map (l : List Nat) (h : ∀ b ∈ l, b < 256) : tb (txt l) = l := by
  simp only [tb, txt, strOfNums, List.map_map]
  have : ∀ l : List Nat, (∀ b ∈ l, b < 256) → List.map (UInt8.toNat ∘ (fun n : Int => UInt8.ofNat n.toNat) ∘ fun n : Nat => (n : Int)) l = l := by
    intro l
    induction l with
    | nil => intro _; rfl
    | cons a l ih =>
      intro h
      rw [List.map_cons, ih (fun b hb => h b (List.mem_cons_of_mem _ hb))]
      have ha : a < 256 := h a (List.mem_cons_self ..)
      simp [UInt8.toNat_ofNat']
      omega
  simpa using this l h
theorem ba_ext {a b : ByteArray} (h : a.toList = b.toList) : a = b := by
  rw [ByteArray.toList_eq, ByteArray.toList_eq] at h
  exact ByteArray.ext (Array.toList_inj.1 h)
theorem txt_list (s : ByteArray) : txt (tb s) = s := by
  apply ba_ext
  rw [ByteArray.toList_eq, ByteArray.toList_eq]
  simp [tb, txt, strOfNums, List.map_map]
  apply List.ext_getElem?
  intro i
  simp
  cases s.data[i]? <;> simp
theorem strCells_tb (s : ByteArray) : Lib.strCells s = c8 (tb s) := by
  simp [Lib.strCells, c8, tb]
theorem ready_append2 {P : Program} {ops : Array Oper} {o : Oper} {a : Act} {w W : World} {K : Act → World → Prop} {Q : Exit → Act → World → Prop} (hg : o.guard = none) (s x : Operand) (t u : TypeId)
    (hop : o.op = .call { callee := .builtin .append, args := #[s, x], argTypes := #[t, u] }) (b v r : Value) (hs : a.eval s = b) (hx : a.eval x = v) (hrun : (Builtin.append_ #[t, u] o.type #[b, v]).run P w = .ok r W) (hK : K (a.put o.dst r) W) :
    if Region.wanted o (yielded ops a.tmps) = true then Oper.wp P o a w K Q else K (a.put o.dst undef) w := by
  rw [if_pos (by simp [Region.wanted, hg])]
  unfold Oper.wp
  simp [execOp, hop, resolve, invoke, builtin, hs, hx, hrun, Result.andThen]
  exact hK
theorem wpList_append_run {P : Program} {w W : World} {ops : Array Oper} {rest : List Oper} {o : Oper} {a : Act} {Q : Exit → Act → World → Prop} (hgd : o.guard = none) (s x : Operand) (t u : TypeId)
    (ho : o.op = .call { callee := .builtin .append, args := #[s, x], argTypes := #[t, u] }) (b v r : Value) (hs : a.eval s = b) (hx : a.eval x = v) (hrun : (Builtin.append_ #[t, u] o.type #[b, v]).run P w = .ok r W)
    (h : wpList P ops Q rest (a.put o.dst r) W) : wpList P ops Q (o :: rest) a w := by
  refine wpList_plain hgd fun K hK => ?_
  unfold Oper.wp
  simp [execOp, ho, resolve, invoke, builtin, hs, hx, hrun, Result.andThen]
  exact hK _ _ h
theorem run_app {W : World} {base : Nat} {v : Value} {n : Nat} {xs : List Value} (hown : W.ownsRow base 5 1 v n xs) {p : Addr} {m c : Nat} {l : List Nat} (hs : Src W (some p) m c (c8 l)) (hb : base ≤ W.heap.size) (hz : n + m ≤ 70368744177664) :
    ∃ v' W', (Builtin.append_ #[27, 27] 27 #[v, .slice (some p) m c]).run Try.prog W = .ok v' W' ∧ W'.ownsRow base 5 1 v' (n + m) (xs ++ c8 l) ∧ W.grownBy W' v.ownBlock ∧ Below base W W' ∧ (∀ k, v'.ownBlock = some k → v.ownBlock = some k ∨ W.heap.size ≤ k) := by
  obtain ⟨i0, hi, hz0, hz1, hz2⟩ := info_parts infoU8
  have hc : ∀ j u, (c8 l)[j]? = some u → W.cell? (p.add j) = some u := by
    rcases hs.2 with ⟨h, _⟩ | ⟨p', h, h2⟩
    · cases h
    · cases h; exact h2
  obtain ⟨v', W', hr, h2, h3, h4⟩ := run_append_fresh (P := Try.prog) W base 27 27 5 i0 (.int .u8 0) 1 1 Try.underlying27 hi hz0 hz1 hz2 rfl (by decide) v n xs hown p m c (c8 l) (by simpa using hs.1) hc (c8_one _) (by unfold maxLen; omega) (by omega) hb
  refine ⟨v', W', hr, h2, h3, (Below.refl base W).grown h3 hb (fun k hk => (hown.lt k hk).1), fun k hk => ?_⟩
  rcases h4 with h4 | h4
  · exact .inl (by rw [← h4]; exact hk)
  · exact .inr (h4.lt k hk).1
theorem run_app_str {W : World} {base : Nat} {v : Value} {n : Nat} {xs : List Value} (hown : W.ownsRow base 5 1 v n xs) (s : ByteArray) (hb : base ≤ W.heap.size) (hz : n + s.size ≤ 70368744177664) :
    ∃ v' W', (Builtin.append_ #[27, 9] 27 #[v, .string s]).run Try.prog W = .ok v' W' ∧ W'.ownsRow base 5 1 v' (n + s.size) (xs ++ c8 (tb s)) ∧ W.grownBy W' v.ownBlock ∧ Below base W W' := by
  obtain ⟨i0, hi, hz0, hz1, hz2⟩ := info_parts infoU8
  obtain ⟨v', W', hr, h2, h3, _⟩ := Lib.run_append_own_string (P := Try.prog) W base 27 9 27 5 i0 Try.underlying27 Try.underlying9 hi hz0 hz1 hz2 v n xs hown s (by unfold maxLen; omega) (by omega) hb
  rw [strCells_tb] at h2
  exact ⟨v', W', hr, h2, h3, (Below.refl base W).grown h3 hb (fun k hk => (hown.lt k hk).1)⟩
theorem conv_text (w : World) (x : ByteArray) : ∃ c W, (convert 9 27 (.string x)).run Try.prog w = .ok (.slice (some ⟨w.heap.size, 0, none⟩) x.size c) W ∧ Src W (some ⟨w.heap.size, 0, none⟩) x.size c (c8 (x.data.toList.map UInt8.toNat)) ∧ Below w.heap.size w W := by
  have h := run_bytes_of_string (P := Try.prog) w 9 27 5 x (by kernel_rfl) (by kernel_rfl) (by kernel_rfl)
  refine ⟨_, _, h, ⟨by rw [c8_len, List.length_map, Array.length_toList]; rfl, .inr ⟨_, rfl, ?_⟩⟩, ((Below.refl _ w).drew).alloc (Nat.le_refl _) _⟩
  intro j u hj
  have hlt : j < x.data.size := by
    have := (List.getElem?_eq_some_iff.1 hj).1
    simpa [c8] using this
  have hu : u = .int .u8 (x.data[j].toNat : Int) := by
    simp [c8] at hj
    obtain ⟨a, ha, hu⟩ := hj
    rw [Array.getElem?_eq_getElem hlt] at ha
    cases ha
    exact hu.symm
  rw [hu]
  have hb := bytesRow_at x (grownCap w x.size 0 5) j hlt
  have e : (w.drew.alloc (.cells (bytesRow x (grownCap w x.size 0 5)) 5 ((bytesRow x (grownCap w x.size 0 5)).size, (bytesRow x (grownCap w x.size 0 5)).size + 1))).heap[w.heap.size]? = _ := heap_new w.drew _
  have := cell_of_block e hb
  by_cases hj0 : j = 0
  · subst hj0; simpa [Addr.add] using this
  · simpa [Addr.add, hj0] using this
end Go.Proofs.Ytdglobonbhkheaa
