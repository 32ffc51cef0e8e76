/-
  The map of places: keys of four bytes, places below a bound.
-/
import Derived.Test.YtkkignjenjdjiaaRdA
import Derived.Maps.Keyed
import Derived.Maps.Own
import Derived.DeepKeys4
namespace Go.Proofs.Ytkkignjenjdjiaa
set_option linter.unusedVariables false
set_option linter.unusedSimpArgs false
open Go.ChangeShapes Go.WideShapes Go.ChangeAt Go.RowKit Go.ChangeMaps Go.MapKept
open Go.WideElems (Fit rd rg pl rd_val)
open Go.Maps (Keyed)

theorem laidOut4 : laidOutB Try.prog = true := by kernel_rfl
theorem wide4 : (match Try.prog.underlying 62 with | some (.array _ _) | some (.struct _) => true | _ => false) = true := by kernel_rfl
theorem keyed4 : Keyed Try.prog 62 := Keyed.of_law (deep_law_laid laidOut4 (m := 2) (by omega) (of_decide_eq_true (by kernel_rfl)) (by kernel_rfl) wide4)
theorem cells4 : Try.prog.cellsOf 62 = 4 := by kernel_rfl
theorem cells1 : Try.prog.cellsOf 5 = 1 := by kernel_rfl
theorem keyType4 : Try.prog.keyType 62 = true := by kernel_rfl
theorem tsize : Try.prog.types.size = 84 := by kernel_rfl
theorem wf8 {a : Nat} (h : a < 256) : (Lit.int .u8 (a : Int)).wf = true := by
  have : ∀ m : Fin 256, (Lit.int .u8 ((m.val : Nat) : Int)).wf = true := by decide +kernel
  exact this ⟨a, h⟩
theorem kl1 (x : Nat) (hx : x < 256) (d : Nat) : Try.prog.keyLits (d + 1) 5 [.int .u8 (x : Int)] = some [.int .u8 (x : Int)] := by
  unfold Program.keyLits
  simp only [Try.underlying5]
  rw [if_pos ⟨trivial, wf8 hx⟩]
theorem kl4 (a b c d : Nat) (ha : a < 256) (hb : b < 256) (hc : c < 256) (hd : d < 256) (n : Nat) : Try.prog.keyLits (n + 1 + 1) 62 [.int .u8 (a : Int), .int .u8 (b : Int), .int .u8 (c : Int), .int .u8 (d : Int)] = some [.int .u8 (a : Int), .int .u8 (b : Int), .int .u8 (c : Int), .int .u8 (d : Int)] := by
  have hr : List.range 4 = [0, 1, 2, 3] := by decide
  unfold Program.keyLits
  simp only [Try.underlying62]
  rw [if_pos (by rw [cells4]; rfl), hr]
  simp only [cells1]
  have e0 := kl1 a ha n
  have e1 := kl1 b hb n
  have e2 := kl1 c hc n
  have e3 := kl1 d hd n
  simp [List.mapM_cons, e0, e1, e2, e3]
theorem key4 (a b c d : Nat) (ha : a < 256) (hb : b < 256) (hc : c < 256) (hd : d < 256) : ∃ kl, keyOf Try.prog 62 (.agg #[.int .u8 (a : Int), .int .u8 (b : Int), .int .u8 (c : Int), .int .u8 (d : Int)]) = some kl := by
  have hf : (Value.agg #[.int .u8 (a : Int), .int .u8 (b : Int), .int .u8 (c : Int), .int .u8 (d : Int)]).formed Try.prog 62 = true := by simp [Value.formed, Try.underlying62, cells4]
  have e := kl4 a b c d ha hb hc hd 83
  unfold keyOf
  simp only [Try.underlying62, keyType4, hf, Bool.and_self, if_true, tsize]
  have e' : Try.prog.keyLits (84 + 1) 62 (Value.agg #[.int .u8 (a : Int), .int .u8 (b : Int), .int .u8 (c : Int), .int .u8 (d : Int)]).cells.toList = some [.int .u8 (a : Int), .int .u8 (b : Int), .int .u8 (c : Int), .int .u8 (d : Int)] := e
  rw [e']
  exact ⟨_, rfl⟩

/-- a place below the bound -/
def rng (K : Nat) : Value → Option (DataW Unit × List MemPlace)
  | .int .i64 a => if 0 ≤ a ∧ a < (K : Int) then some (.lit (.int .i64 a), []) else none
  | _ => none
theorem rng_mono {K K' : Nat} (h : K ≤ K') {v : Value} {z : DataW Unit × List MemPlace} (hz : rng K v = some z) : rng K' v = some z := by
  unfold rng at hz ⊢
  split at hz
  · split at hz
    · rw [if_pos (by omega)]
      exact hz
    · cases hz
  · cases hz
theorem rng_inv {K : Nat} {v : Value} {z : DataW Unit × List MemPlace} (hz : rng K v = some z) : ∃ p : Nat, v = .int .i64 (p : Int) ∧ p < K ∧ z.1 = .lit (.int .i64 (p : Int)) := by
  unfold rng at hz
  split at hz
  · rename_i a
    split at hz
    · rename_i h
      cases hz
      exact ⟨a.toNat, by rw [Int.toNat_of_nonneg h.1], by omega, by rw [Int.toNat_of_nonneg h.1]⟩
    · cases hz
  · cases hz
/-- block m is a map of at most K entries, whose values are places below K -/
def Places (w : World) (m K : Nat) : Prop := ∃ es clock, w.heap[m]? = some (.map es clock) ∧ Fit Try.prog 62 (rng K) es clock ∧ es.size ≤ K
theorem Places.kept {w w' : World} {m K : Nat} (h : Places w m K) (hk : w'.heap[m]? = w.heap[m]?) : Places w' m K := by
  obtain ⟨es, c, h1, h2⟩ := h
  exact ⟨es, c, by rw [hk, h1], h2⟩
theorem Places.lt {w : World} {m K : Nat} (h : Places w m K) : m < w.heap.size := by
  obtain ⟨es, c, h1, h2⟩ := h
  exact lt_of_heap h1
theorem places_new (w : World) : Places (w.alloc (.map #[] 0)) w.heap.size 0 :=
  ⟨#[], 0, heap_new _ _, ⟨by simp, stamped_empty 0, by simp⟩, Nat.le_refl _⟩
theorem places_store {w : World} {m K : Nat} (h : Places w m K) (hK : K < 1048577) (a b c d : Nat) (ha : a < 256) (hb : b < 256) (hc : c < 256) (hd : d < 256) :
    ∃ w', (Instr.mapUpdate 61 (.map (some m)) (.agg #[.int .u8 (a : Int), .int .u8 (b : Int), .int .u8 (c : Int), .int .u8 (d : Int)]) (.int .i64 (K : Int))).run Try.prog w = .ok () w' ∧ Places w' m (K + 1) ∧ w'.os = w.os ∧ w'.tape = w.tape ∧ w'.output = w.output ∧ w'.heap.size = w.heap.size ∧ ∀ k, k ≠ m → w'.heap[k]? = w.heap[k]? := by
  obtain ⟨es, cl, h1, F, hs⟩ := h
  obtain ⟨kl, hkl⟩ := key4 a b c d ha hb hc hd
  have hv : rng (K + 1) (.int .i64 (K : Int)) = some (.lit (.int .i64 (K : Int)), []) := by
    simp only [rng]
    rw [if_pos (by omega)]
  obtain ⟨es', cl', hrun, F', hput, _, _, _⟩ := Maps.fit_store (R' := rng (K + 1)) keyed4 Try.underlying61 h1 F (by unfold maxLen; omega) (fun _ _ _ _ hz => rng_mono (by omega) hz) hkl hv
  refine ⟨_, hrun, ⟨es', cl', heap_setBlock_same h1 _, F', ?_⟩, rfl, rfl, rfl, by simp [setBlock], fun k hk => heap_setBlock_other h1 _ hk⟩
  have e1 : es'.size = ((es'.toList.map (rg Try.prog 62 (rng (K + 1)))).foldr DataW.insert []).length := by rw [length_sorted]; simp
  rw [e1, hput]
  unfold putKey
  rw [length_insert]
  have e2 := List.length_filter_le (notKey kl) ((es.toList.map (rg Try.prog 62 (rng K))).foldr DataW.insert [])
  rw [length_sorted] at e2
  simp at e2
  omega
theorem zero_int (w : World) : (zeroValue 3).run Try.prog w = .ok (.int .i64 0) w := by
  have hi : (Try.prog.info? 3).map (·.zero) = some (some (.int .i64 0)) := by kernel_rfl
  cases hq : Try.prog.info? 3 with
  | none => simp [hq] at hi
  | some i =>
    have hz : i.zero = some (.int .i64 0) := by simpa [hq] using hi
    simp [zeroValue, typeInfo, hq, hz]
theorem places_look {w : World} {m K : Nat} (h : Places w m K) (a b c d : Nat) (ha : a < 256) (hb : b < 256) (hc : c < 256) (hd : d < 256) :
    (∀ w', w'.heap[m]? = w.heap[m]? → (Instr.lookup 61 (.map (some m)) (.agg #[.int .u8 (a : Int), .int .u8 (b : Int), .int .u8 (c : Int), .int .u8 (d : Int)]) true).run Try.prog w' = .ok (.tuple #[.int .i64 0, .bool false]) w') ∨
    ∃ p : Nat, p < K ∧ ∀ w', w'.heap[m]? = w.heap[m]? → (Instr.lookup 61 (.map (some m)) (.agg #[.int .u8 (a : Int), .int .u8 (b : Int), .int .u8 (c : Int), .int .u8 (d : Int)]) true).run Try.prog w' = .ok (.tuple #[.int .i64 (p : Int), .bool true]) w' := by
  obtain ⟨es, cl, h1, F, hs⟩ := h
  obtain ⟨kl, hkl⟩ := key4 a b c d ha hb hc hd
  rcases Maps.fit_look true keyed4 Try.underlying61 (zero_int w) h1 F hkl with ⟨_, hno, _⟩ | ⟨e0, y, hm, hk, _, hR, hat, _⟩
  · left
    intro w' hw'
    rcases Maps.fit_look true keyed4 Try.underlying61 (zero_int w') (hw'.trans h1) F hkl with ⟨hrun, _⟩ | ⟨e0, y, hm, hk, hrun, hR, _⟩
    · simpa using hrun
    · exact absurd hk (hno e0 hm)
  · right
    obtain ⟨p, hp, hpK, hpz⟩ := rng_inv hR
    refine ⟨p, hpK, fun w' hw' => ?_⟩
    rcases Maps.fit_look true keyed4 Try.underlying61 (zero_int w') (hw'.trans h1) F hkl with ⟨hrun, hno, _⟩ | ⟨e1, y1, hm1, hk1, hrun, hR1, hat1, _⟩
    · exact absurd hk (hno e0 hm)
    · obtain ⟨p1, hp1, _, hpz1⟩ := rng_inv hR1
      have e := (hat (.lit (.bool true))).symm.trans (hat1 (.lit (.bool true)))
      rw [hpz, hpz1] at e
      have e2 : (p : Int) = (p1 : Int) := by simpa using e
      rw [e2, ← hp1]
      simpa using hrun
end Go.Proofs.Ytkkignjenjdjiaa
