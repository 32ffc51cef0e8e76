/-
  What every law of the layer needs of its frame: rows of whole numbers and bytes that came in, opened.
-/
import Derived.Test.YtignjhmbajiphaaRows
import Derived.Test.YtignjhmbajiphaaHbD
import Derived.Test.YtignjhmbajiphaaBUnpAny
import Derived.ProofKit
import Derived.OpenShut
import Derived.SizedLaws
import Derived.Lib.SmallJoins
import Derived.ChangeMaps5
namespace Go.Proofs.Ytignjhmbajiphaa
open Go.ChangeShapes Go.WideShapes Go.ChangeAt Go.RowKit Go.Joins

theorem own : ownKnob Try.prog.godebug = none := by kernel_rfl
theorem laidOut : laidOutB Try.prog = true := by kernel_rfl
/-- whole numbers that came in -/
structure IntRow (w : World) (a : Option Addr) (len cap : Nat) (l : List Int) : Prop where
  src : SrcI w a len cap l
  room : len ≤ cap
  i64 : I64 l
theorem IntRow.ln {w : World} {a : Option Addr} {len cap : Nat} {l : List Int} (h : IntRow w a len cap l) : l.length = len := by simpa using h.src.1
set_option maxRecDepth 100000 in
theorem arg_ints {H : Type} {enc : TypeId × Value → H} {W : World} {base b0 : Nat} {held : Bool} {r : Reach} {v : Value} {d : DataW H} {p : List MemPlace} (hv : Value.okWide Try.prog W r b0 22 v)
    (h : ∃ fuel, DataW.trod enc Try.prog W base (fun _ => true) held fuel 22 v.cells.toList = some (d, p)) : ∃ (a : Option Addr) (len cap : Nat) (l : List Int), v = .slice a len cap ∧ IntRow W a len cap l := by
  obtain ⟨a, len, cap, rfl, _⟩ := okWide_slice Try.underlying22 hv
  obtain ⟨fuel, hf⟩ := h
  have key : ∃ zs, IsRow .i64 W a len cap zs := by
    rcases open_ints Try.underlying22 Try.underlying3 (by kernel_rfl) hf with ⟨hcs, _⟩ | ⟨x, l, c, zs, hcs, _, hl, hm, hz, _, hcell, hwz⟩
    · simp [Value.cells] at hcs
      obtain ⟨rfl, rfl, rfl⟩ := hcs
      exact ⟨[], .inl ⟨rfl, rfl, rfl, rfl⟩⟩
    · simp [Value.cells] at hcs
      obtain ⟨rfl, rfl, rfl⟩ := hcs
      exact ⟨zs, .inr ⟨_, rfl, hl, hm, by simpa using hz, hcell, hwz⟩⟩
  obtain ⟨zs, hr⟩ := key
  have hcap : len ≤ cap := by
    rcases hr with ⟨_, h1, h2, _⟩ | ⟨_, _, h1, _⟩
    · omega
    · exact h1
  refine ⟨a, len, cap, zs.take len, rfl, hr.src, hcap, fun x hx => ?_⟩
  have hx' := List.mem_of_mem_take hx
  rcases hr with ⟨_, _, _, rfl⟩ | ⟨_, _, _, _, _, _, hw⟩
  · cases hx'
  · exact i64_wf (hw x hx')
/-- bytes that came in -/
structure ByteRow (w : World) (a : Option Addr) (len cap B : Nat) : Prop where
  src : Src w a len cap (c8 (upk 8 len B))
  room : len ≤ cap
  lt : B < 2 ^ (8 * len)
set_option maxRecDepth 100000 in
theorem arg_hb {H : Type} {enc : TypeId × Value → H} {W : World} {base b0 : Nat} {held : Bool} {r : Reach} {v : Value} {d : DataW H} {p : List MemPlace} (hv : Value.okWide Try.prog W r b0 32 v)
    (h : ∃ fuel, DataW.trod enc Try.prog W base (fun _ => true) held fuel 32 v.cells.toList = some (d, p)) : ∃ (a : Option Addr) (len cap B : Nat) (n : Int), v = .agg #[.slice a len cap, .int .i64 n] ∧ ByteRow W a len cap B ∧ (Lit.int .i64 n).wf = true := by
  obtain ⟨u0, u1, y0, y1, m, rfl, rfl, rfl, hy0, hy1⟩ := open_agg2 Try.underlying32 (by kernel_rfl) (by kernel_rfl) hv h
  obtain ⟨n, e1, _, w1⟩ := DataW.trod_int Try.underlying3 hy1
  simp only [List.cons.injEq, and_true] at e1
  subst e1
  have key : ∃ a len cap zs, u0 = .slice a len cap ∧ IsRow .u8 W a len cap zs := by
    rcases open_ints Try.underlying23 Try.underlying5 (by kernel_rfl) hy0 with ⟨hcs, _⟩ | ⟨x, l, c, zs, hcs, _, hl, hm, hz, _, hcell, hwz⟩
    · simp at hcs
      exact ⟨none, 0, 0, [], hcs, .inl ⟨rfl, rfl, rfl, rfl⟩⟩
    · simp at hcs
      exact ⟨_, _, _, zs, hcs, .inr ⟨_, rfl, hl, hm, by simpa using hz, hcell, hwz⟩⟩
  obtain ⟨a, len, cap, zs, rfl, hr⟩ := key
  obtain ⟨B, hB, hs⟩ := row_num8 hr
  have hcap : len ≤ cap := by
    rcases hr with ⟨_, h1, h2, _⟩ | ⟨_, _, h1, _⟩
    · omega
    · exact h1
  exact ⟨a, len, cap, B, n, rfl, ⟨hs, hcap, hB⟩, w1⟩
end Go.Proofs.Ytignjhmbajiphaa
