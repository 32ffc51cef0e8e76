/-
  The tables, FormatInt, FormatBool and Text.
-/
import Derived.Test.YtndeglamnnipoaaDoorHxQ
import Derived.Test.YtndeglamnnipoaaDoorOfS
import Derived.Test.YtndeglamnnipoaaDoorFmtL
import Derived.Lib.LaidTab
import Derived.Lib.ItoaLen
namespace Go.Proofs.YtndeglamnnipoaaDoor
set_option linter.unusedVariables false
set_option linter.unusedSimpArgs false
open Go.ChangeShapes Go.WideShapes Go.ChangeAt Go.RowKit

def laid4 : List (String × DataW Unit) := Rows.datumTextRow.laid
/-- the powers' name -/
def nm10 : String := (laid4.map Prod.fst).getD 2 Rows.datumTextRow.func
theorem g10 : Tryd.prog.globalNamed nm10 = some 1 := by kernel_rfl
def Tab10 (w : World) : Prop := Lib.TabIs Tryd.prog w nm10 .u64 Lib.pow10Tab
theorem Tab10.later {w w' : World} {B : Nat} (h : Tab10 w) (hb : Below B w w') (h0 : 1 < B) : Tab10 w' := by
  unfold Tab10 Lib.TabIs World.var? at h ⊢
  rw [g10] at h ⊢
  simp only [Option.bind_some] at h ⊢
  rw [hb.block 1 h0]
  exact h
/-- both tables, and that memory goes on behind them -/
structure Tabs (w : World) : Prop where
  d : Tabd w
  p : Tab10 w
  s : 1 < w.heap.size
theorem Tabs.later {w w' : World} (h : Tabs w) (hb : Below w.heap.size w w') : Tabs w' :=
  ⟨h.d.later hb (by have := h.s; omega), h.p.later hb h.s, Nat.lt_of_lt_of_le h.s hb.size⟩
theorem below_drewN0 (w : World) : ∀ k : Nat, Below w.heap.size w (w.drewN k) := fun k => ⟨rfl, rfl, rfl, Nat.le_refl _, fun _ _ => rfl⟩
theorem below_grow (w : World) (k : Nat) (os : Array Obj) : Below w.heap.size w (Go.Sort.grow (w.drewN k) os) :=
  ⟨rfl, rfl, rfl, by simp [Go.Sort.grow, World.drewN], fun i hi => by simp [Go.Sort.grow, World.drewN, Array.getElem?_append, hi]⟩
theorem formatInt_any (n : Int) (h0 : -9223372036854775808 ≤ n) (h1 : n ≤ 9223372036854775807) (w : World) (ht : Tabs w) : Calls Tryd.prog 10 #[.int .i64 n, .int .i64 10] w fun e w' => e = .returned (.string ⟨(Lib.itoa n).toArray⟩) ∧ Below w.heap.size w w' := by
  have h := Any.strconv_FormatInt_10 fmtInt n h0 h1 w ht.p
  refine Calls.mono (f := 10) h ?_
  rintro e w' ⟨rfl, k, os, rfl⟩
  exact ⟨rfl, below_grow w k os⟩
def boolT (b : Bool) : ByteArray := if b = true then { data := #[116, 114, 117, 101] } else { data := #[102, 97, 108, 115, 101] }
set_option maxHeartbeats 1000000 in
theorem formatBool_any (b : Bool) (w : World) : Calls Tryd.prog 7 #[.bool b] w fun e w' => e = .returned (.string (boolT b)) ∧ w' = w := by
  cases b
  all_goals
    go_enter Tryd.func7, Tryd.ntmps7
    go_wp2
    go_ret
    exact ⟨rfl, rfl⟩

/-- what Text answers -/
def tT (k n : Int) (s : ByteArray) : ByteArray :=
  if fineB k n s.size = false then { data := #[63] }
  else if k = 0 then boolT (n == 1)
  else if k = 4 then tx ([120] ++ hx 8 (IntKind.u64.wrap n).toNat)
  else if k = 5 then tx ([120] ++ hx 16 (IntKind.u64.wrap n).toNat)
  else if k = 6 ∨ k = 7 then tx (qo (nb s) ++ [34])
  else ⟨(Lib.itoa n).toArray⟩
theorem wrap_u64_nat (n : Int) : IntKind.u64.wrap n = (((IntKind.u64.wrap n).toNat : Nat) : Int) ∧ IntKind.u64.wrap n ≤ 18446744073709551615 := by
  have h : IntKind.u64.wrap n = n % 18446744073709551616 := by simp [IntKind.wrap, IntKind.signed, IntKind.bits]
  rw [h]
  omega
theorem own_one (w : World) (x : Nat) : (w.alloc (.cells #[.int .u8 (x : Int)] 5)).ownsRow w.heap.size 5 1 (.slice (some ⟨w.heap.size, 0, none⟩) 1 1) 1 (c8 [x]) :=
  ⟨by simp [c8], .inr ⟨w.heap.size, 1, _, rfl, Nat.le_refl _, heap_new w _, Nat.le_refl _, by unfold maxLen; omega, by simp, by rw [Nat.mul_one]; rfl⟩⟩
set_option maxRecDepth 100000 in
set_option maxHeartbeats 4000000 in
theorem text_any (k n : Int) (s : ByteArray) (w : World) (hw : (Lit.int .i64 n).wf = true) (hs : s.size ≤ 2000) (ht : Tabs w) : Calls Tryd.prog 4 #[.agg #[.int .i64 k, .int .i64 n, .string s]] w fun e w' => e = .returned (.string (tT k n s)) ∧ Below w.heap.size w w' := by
  have hn : -9223372036854775808 ≤ n ∧ n ≤ 9223372036854775807 := by simpa [Lit.wf, IntKind.min, IntKind.max, IntKind.signed, IntKind.bits] using hw
  have hx0 : (w.alloc (.cells #[.int .i64 k, .int .i64 n, .string s] 24)).heap[w.heap.size]? = some (.cells #[.int .i64 k, .int .i64 n, .string s] 24 (0, 0)) := heap_new _ _
  have b0 : Below w.heap.size w (w.alloc (.cells #[.int .i64 k, .int .i64 n, .string s] 24)) := alloc_below _ _
  have HT : Hid (Tabs w) := ht
  have CF := fun W => ofSome_any k n s W
  obtain ⟨T, hT⟩ : ∃ T, tT k n s = T := ⟨_, rfl⟩
  rw [hT]
  unfold tT at hT
  have HS : Hid (s.size ≤ 2000) := hs
  have HN : Hid (-9223372036854775808 ≤ n ∧ n ≤ 9223372036854775807) := hn
  clear hw hn ht hs
  cases hf : fineB k n s.size
  · rw [if_pos hf] at hT
    subst hT
    rw [hf] at CF
    clear hf
    go_enter Tryd.func4, Tryd.ntmps4
    go_wp2_with fail
    generalize w.alloc (.cells #[.int .i64 k, .int .i64 n, .string s] 24) = W0 at *
    refine (CF W0).mono ?_
    rintro e W1 ⟨rfl, hb1⟩
    go_wp2_with fail
    go_ret
    exact ⟨rfl, b0.trans (hb1.mono b0.size)⟩
  rw [if_neg (by simp [hf])] at hT
  rw [hf] at CF
  clear hf
  by_cases h0 : k = 0
  · subst h0
    rw [if_pos rfl] at hT
    have HTt : Hid (boolT (n == 1) = T) := hT
    clear hT
    go_enter Tryd.func4, Tryd.ntmps4
    go_wp2_with fail
    generalize w.alloc (.cells #[.int .i64 0, .int .i64 n, .string s] 24) = W0 at *
    refine (CF W0).mono ?_
    rintro e W1 ⟨rfl, hb1⟩
    have hx1 := below_at hb1 hx0
    obtain ⟨⟨c0, c1, c2⟩, _⟩ := blk3 hx1
    have b1 := b0.trans (hb1.mono b0.size)
    clear hx0 b0 hb1 CF
    have FB := fun W => formatBool_any (n == 1) W
    go_wp2_with fail
    refine (FB W1).mono ?_
    rintro e W2 ⟨rfl, hw2⟩
    obtain rfl := hw2.symm
    go_wp2_with fail
    go_ret
    exact ⟨by rw [← HTt.out]; rfl, b1⟩
  rw [if_neg h0] at hT
  by_cases h4 : k = 4
  · subst h4
    rw [if_pos rfl] at hT
    have HTt : Hid (tx ([120] ++ hx 8 (IntKind.u64.wrap n).toNat) = T) := hT
    clear hT
    go_enter Tryd.func4, Tryd.ntmps4
    go_wp2_with fail
    generalize w.alloc (.cells #[.int .i64 4, .int .i64 n, .string s] 24) = W0 at *
    refine (CF W0).mono ?_
    rintro e W1 ⟨rfl, hb1⟩
    have hx1 := below_at hb1 hx0
    obtain ⟨⟨c0, c1, c2⟩, _⟩ := blk3 hx1
    have b1 := b0.trans (hb1.mono b0.size)
    clear hx0 b0 hb1 CF
    have hba : Below W1.heap.size W1 (W1.alloc (.cells #[.int .u8 120] 5)) := alloc_below _ _
    have AX : Calls Tryd.prog 8 #[.slice (some ⟨W1.heap.size, 0, none⟩) 1 1, .int .u64 (IntKind.u64.wrap n), .int .i64 8] (W1.alloc (.cells #[.int .u8 120] 5)) fun e w' => ∃ v', e = .returned v' ∧ w'.ownsRow W1.heap.size 5 1 v' 9 (c8 ([120] ++ hx 8 (IntKind.u64.wrap n).toNat)) ∧ Below W1.heap.size (W1.alloc (.cells #[.int .u8 120] 5)) w' := by
      have h := appendHex_any _ W1.heap.size _ [120] _ _ 8 (wrap_u64_nat n).1 (wrap_u64_nat n).2 (by omega) (own_one W1 120) (by simp) (by simp) ((HT.out.later (b1.trans (hba.mono b1.size))).d) (by have := (HT.out.later b1).s; omega)
      rw [show (([120] : List Nat) ++ hx 8 (IntKind.u64.wrap n).toNat).length = 9 from by simp [hx_len]] at h
      exact h
    obtain ⟨⟨p0, p1, p2⟩, _⟩ := blk3 (below_at hba hx1)
    go_wp2_with fail
    refine AX.mono ?_
    rintro e W2 ⟨v2, rfl, ho2, hb2⟩
    clear AX
    obtain ⟨ad2, cp2, rfl⟩ := own_sl ho2
    have R2 := str_src (src_own ho2).2
    go_wp2_with fail
    go_ret
    exact ⟨by rw [← HTt.out]; rfl, b1.trans ((hba.trans hb2).mono b1.size)⟩
  rw [if_neg h4] at hT
  by_cases h5 : k = 5
  · subst h5
    rw [if_pos rfl] at hT
    have HTt : Hid (tx ([120] ++ hx 16 (IntKind.u64.wrap n).toNat) = T) := hT
    clear hT
    go_enter Tryd.func4, Tryd.ntmps4
    go_wp2_with fail
    generalize w.alloc (.cells #[.int .i64 5, .int .i64 n, .string s] 24) = W0 at *
    refine (CF W0).mono ?_
    rintro e W1 ⟨rfl, hb1⟩
    have hx1 := below_at hb1 hx0
    obtain ⟨⟨c0, c1, c2⟩, _⟩ := blk3 hx1
    have b1 := b0.trans (hb1.mono b0.size)
    clear hx0 b0 hb1 CF
    have hba : Below W1.heap.size W1 (W1.alloc (.cells #[.int .u8 120] 5)) := alloc_below _ _
    have AX : Calls Tryd.prog 8 #[.slice (some ⟨W1.heap.size, 0, none⟩) 1 1, .int .u64 (IntKind.u64.wrap n), .int .i64 16] (W1.alloc (.cells #[.int .u8 120] 5)) fun e w' => ∃ v', e = .returned v' ∧ w'.ownsRow W1.heap.size 5 1 v' 17 (c8 ([120] ++ hx 16 (IntKind.u64.wrap n).toNat)) ∧ Below W1.heap.size (W1.alloc (.cells #[.int .u8 120] 5)) w' := by
      have h := appendHex_any _ W1.heap.size _ [120] _ _ 16 (wrap_u64_nat n).1 (wrap_u64_nat n).2 (by omega) (own_one W1 120) (by simp) (by simp) ((HT.out.later (b1.trans (hba.mono b1.size))).d) (by have := (HT.out.later b1).s; omega)
      rw [show (([120] : List Nat) ++ hx 16 (IntKind.u64.wrap n).toNat).length = 17 from by simp [hx_len]] at h
      exact h
    obtain ⟨⟨p0, p1, p2⟩, _⟩ := blk3 (below_at hba hx1)
    go_wp2_with fail
    refine AX.mono ?_
    rintro e W2 ⟨v2, rfl, ho2, hb2⟩
    clear AX
    obtain ⟨ad2, cp2, rfl⟩ := own_sl ho2
    have R2 := str_src (src_own ho2).2
    go_wp2_with fail
    go_ret
    exact ⟨by rw [← HTt.out]; rfl, b1.trans ((hba.trans hb2).mono b1.size)⟩
  rw [if_neg h5] at hT
  by_cases h6 : k = 6
  · subst h6
    rw [if_pos (by omega)] at hT
    have HTt : Hid (tx (qo (nb s) ++ [34]) = T) := hT
    clear hT
    go_enter Tryd.func4, Tryd.ntmps4
    go_wp2_with fail
    generalize w.alloc (.cells #[.int .i64 6, .int .i64 n, .string s] 24) = W0 at *
    refine (CF W0).mono ?_
    rintro e W1 ⟨rfl, hb1⟩
    have hx1 := below_at hb1 hx0
    obtain ⟨⟨c0, c1, c2⟩, _⟩ := blk3 hx1
    have b1 := b0.trans (hb1.mono b0.size)
    clear hx0 b0 hb1 CF
    have QQ := quoted_any s W1 HS.out (HT.out.later b1).d (by have := (HT.out.later b1).s; omega)
    go_wp2_with fail
    refine QQ.mono ?_
    rintro e W2 ⟨rfl, hb2⟩
    go_wp2_with fail
    go_ret
    exact ⟨by rw [← HTt.out]; rfl, b1.trans (hb2.mono b1.size)⟩
  by_cases h7 : k = 7
  · subst h7
    rw [if_pos (by omega)] at hT
    have HTt : Hid (tx (qo (nb s) ++ [34]) = T) := hT
    clear hT
    go_enter Tryd.func4, Tryd.ntmps4
    go_wp2_with fail
    generalize w.alloc (.cells #[.int .i64 7, .int .i64 n, .string s] 24) = W0 at *
    refine (CF W0).mono ?_
    rintro e W1 ⟨rfl, hb1⟩
    have hx1 := below_at hb1 hx0
    obtain ⟨⟨c0, c1, c2⟩, _⟩ := blk3 hx1
    have b1 := b0.trans (hb1.mono b0.size)
    clear hx0 b0 hb1 CF
    have QQ := quoted_any s W1 HS.out (HT.out.later b1).d (by have := (HT.out.later b1).s; omega)
    go_wp2_with fail
    refine QQ.mono ?_
    rintro e W2 ⟨rfl, hb2⟩
    go_wp2_with fail
    go_ret
    exact ⟨by rw [← HTt.out]; rfl, b1.trans (hb2.mono b1.size)⟩
  rw [if_neg (by omega)] at hT
  have HTt : Hid ((⟨(Lib.itoa n).toArray⟩ : ByteArray) = T) := hT
  clear hT
  have g0 : (k == 0) = false := by simpa using h0
  have g4 : (k == 4) = false := by simpa using h4
  have g5 : (k == 5) = false := by simpa using h5
  have g6 : (k == 6) = false := by simpa using h6
  have g7 : (k == 7) = false := by simpa using h7
  go_enter Tryd.func4, Tryd.ntmps4
  go_wp2_with fail
  generalize w.alloc (.cells #[.int .i64 k, .int .i64 n, .string s] 24) = W0 at *
  refine (CF W0).mono ?_
  rintro e W1 ⟨rfl, hb1⟩
  have hx1 := below_at hb1 hx0
  obtain ⟨⟨c0, c1, c2⟩, _⟩ := blk3 hx1
  have b1 := b0.trans (hb1.mono b0.size)
  clear hx0 b0 hb1 CF
  have FI := formatInt_any n HN.out.1 HN.out.2 W1 (HT.out.later b1)
  go_wp2_with fail
  refine FI.mono ?_
  rintro e W2 ⟨rfl, hb2⟩
  go_wp2_with fail
  go_ret
  exact ⟨by rw [← HTt.out]; rfl, b1.trans (hb2.mono b1.size)⟩
end Go.Proofs.YtndeglamnnipoaaDoor
