/-
  Real, the reference's Real, Nan, and the reference's Texts.
-/
import Derived.Test.YtndeglamnnipoaaRe
import Derived.Lib.QuietBelow
import Derived.BigQuiet
namespace Go.Proofs.Ytndeglamnnipoaa
set_option linter.unusedVariables false
set_option linter.unusedSimpArgs false
open Go.ChangeShapes Go.WideShapes Go.ChangeAt Go.RowKit Go.Deep Go.Sort

/-- is a datum a real number? -/
def rlB (k n : Int) (l : Nat) : Bool := (k == 4 || k == 5) && fineB k n l
set_option maxRecDepth 100000 in
set_option maxHeartbeats 4000000 in
theorem real_any (k n : Int) (s : ByteArray) (w : World) : Calls Try.prog 21 #[.agg #[.int .i64 k, .int .i64 n, .string s]] w fun e w' => ∃ r, e = .returned (.tuple #[.float .f64 r, .bool (rlB k n s.size)]) ∧ (rlB k n s.size = true → isR k n r) ∧ (rlB k n s.size = false → r = 0) ∧ Below w.heap.size w w' := by
  have CF := fun k W => ofSome_any k n s W
  have CR := fun k W => real64_any k n s W
  by_cases h : k = 4 ∨ k = 5
  · cases hf : fineB k n s.size
    · have hA : rlB k n s.size = false := by simp [rlB, hf]
      rw [hA]
      clear CR hA
      rcases h with rfl | rfl
      · have CF := CF 4
        rw [hf] at CF
        clear hf
        have hx0 : (w.alloc (.cells #[.int .i64 4, .int .i64 n, .string s] 29)).heap[w.heap.size]? = some (.cells #[.int .i64 4, .int .i64 n, .string s] 29 (0, 0)) := heap_new _ _
        have b0 : Below w.heap.size w (w.alloc (.cells #[.int .i64 4, .int .i64 n, .string s] 29)) := alloc_below _ _
        go_enter Try.func21, Try.ntmps21
        go_wp2_with fail
        generalize w.alloc (.cells #[.int .i64 4, .int .i64 n, .string s] 29) = W0 at *
        refine (CF W0).mono ?_
        rintro e W1 ⟨rfl, hb1⟩
        have hx1 := below_at hb1 hx0
        obtain ⟨⟨c0, c1, c2⟩, _⟩ := blk3 hx1
        have b1 := b0.trans (hb1.mono b0.size)
        clear hx0
        go_wp2_with fail
        go_ret2
        exact ⟨0, rfl, (fun h => by cases h), (fun _ => rfl), b1⟩
      · have CF := CF 5
        rw [hf] at CF
        clear hf
        have hx0 : (w.alloc (.cells #[.int .i64 5, .int .i64 n, .string s] 29)).heap[w.heap.size]? = some (.cells #[.int .i64 5, .int .i64 n, .string s] 29 (0, 0)) := heap_new _ _
        have b0 : Below w.heap.size w (w.alloc (.cells #[.int .i64 5, .int .i64 n, .string s] 29)) := alloc_below _ _
        go_enter Try.func21, Try.ntmps21
        go_wp2_with fail
        generalize w.alloc (.cells #[.int .i64 5, .int .i64 n, .string s] 29) = W0 at *
        refine (CF W0).mono ?_
        rintro e W1 ⟨rfl, hb1⟩
        have hx1 := below_at hb1 hx0
        obtain ⟨⟨c0, c1, c2⟩, _⟩ := blk3 hx1
        have b1 := b0.trans (hb1.mono b0.size)
        clear hx0
        go_wp2_with fail
        go_ret2
        exact ⟨0, rfl, (fun h => by cases h), (fun _ => rfl), b1⟩
    · have hA : rlB k n s.size = true := by rcases h with rfl | rfl <;> simp [rlB, hf]
      rw [hA]
      clear hA
      rcases h with rfl | rfl
      · have CF := CF 4
        have CR := CR 4
        rw [hf] at CF
        clear hf
        have hx0 : (w.alloc (.cells #[.int .i64 4, .int .i64 n, .string s] 29)).heap[w.heap.size]? = some (.cells #[.int .i64 4, .int .i64 n, .string s] 29 (0, 0)) := heap_new _ _
        have b0 : Below w.heap.size w (w.alloc (.cells #[.int .i64 4, .int .i64 n, .string s] 29)) := alloc_below _ _
        go_enter Try.func21, Try.ntmps21
        go_wp2_with fail
        generalize w.alloc (.cells #[.int .i64 4, .int .i64 n, .string s] 29) = W0 at *
        refine (CF W0).mono ?_
        rintro e W1 ⟨rfl, hb1⟩
        have hx1 := below_at hb1 hx0
        obtain ⟨⟨c0, c1, c2⟩, _⟩ := blk3 hx1
        have b1 := b0.trans (hb1.mono b0.size)
        clear hx0
        go_wp2_with fail
        refine (CR W1).mono ?_
        rintro e W2 ⟨r, rfl, hr, hb2⟩
        have hx2 := below_at hb2 hx1
        obtain ⟨⟨c0, c1, c2⟩, _⟩ := blk3 hx2
        have b2 := b1.trans (hb2.mono b1.size)
        clear hx1
        go_wp2_with fail
        go_ret2
        exact ⟨r, rfl, (fun _ => hr), (fun h => by cases h), b2⟩
      · have CF := CF 5
        have CR := CR 5
        rw [hf] at CF
        clear hf
        have hx0 : (w.alloc (.cells #[.int .i64 5, .int .i64 n, .string s] 29)).heap[w.heap.size]? = some (.cells #[.int .i64 5, .int .i64 n, .string s] 29 (0, 0)) := heap_new _ _
        have b0 : Below w.heap.size w (w.alloc (.cells #[.int .i64 5, .int .i64 n, .string s] 29)) := alloc_below _ _
        go_enter Try.func21, Try.ntmps21
        go_wp2_with fail
        generalize w.alloc (.cells #[.int .i64 5, .int .i64 n, .string s] 29) = W0 at *
        refine (CF W0).mono ?_
        rintro e W1 ⟨rfl, hb1⟩
        have hx1 := below_at hb1 hx0
        obtain ⟨⟨c0, c1, c2⟩, _⟩ := blk3 hx1
        have b1 := b0.trans (hb1.mono b0.size)
        clear hx0
        go_wp2_with fail
        refine (CR W1).mono ?_
        rintro e W2 ⟨r, rfl, hr, hb2⟩
        have hx2 := below_at hb2 hx1
        obtain ⟨⟨c0, c1, c2⟩, _⟩ := blk3 hx2
        have b2 := b1.trans (hb2.mono b1.size)
        clear hx1
        go_wp2_with fail
        go_ret2
        exact ⟨r, rfl, (fun _ => hr), (fun h => by cases h), b2⟩
  · have h4 : ¬ k = 4 := fun e => h (.inl e)
    have h5 : ¬ k = 5 := fun e => h (.inr e)
    have hA : rlB k n s.size = false := by simp [rlB, h4, h5]
    rw [hA]
    clear CF CR hA h
    have hx0 : (w.alloc (.cells #[.int .i64 k, .int .i64 n, .string s] 29)).heap[w.heap.size]? = some (.cells #[.int .i64 k, .int .i64 n, .string s] 29 (0, 0)) := heap_new _ _
    have b0 : Below w.heap.size w (w.alloc (.cells #[.int .i64 k, .int .i64 n, .string s] 29)) := alloc_below _ _
    go_enter Try.func21, Try.ntmps21
    go_wp2_with fail
    generalize w.alloc (.cells #[.int .i64 k, .int .i64 n, .string s] 29) = W0 at *
    obtain ⟨⟨c0, c1, c2⟩, _⟩ := blk3 hx0
    go_ret2
    exact ⟨0, rfl, (fun h => by cases h), fun _ => rfl, b0⟩
set_option maxRecDepth 100000 in
set_option maxHeartbeats 4000000 in
theorem rreal_any (k n : Int) (s : ByteArray) (hw : (Lit.int .i64 n).wf = true) (w : World) : Calls Try.prog 22 #[.agg #[.int .i64 k, .int .i64 n, .string s]] w fun e w' => ∃ r, e = .returned (.tuple #[.float .f64 r, .bool (rlB k n s.size)]) ∧ (rlB k n s.size = true → isR k n r) ∧ (rlB k n s.size = false → r = 0) ∧ Below w.heap.size w w' := by
  have CF := fun k W => rfine_any k n s hw W
  clear hw
  cases hf : fineB k n s.size
  · have hA : rlB k n s.size = false := by simp [rlB, hf]
    rw [hA]
    have CF := CF k
    rw [hf] at CF
    clear hf hA
    have hx0 : (w.alloc (.cells #[.int .i64 k, .int .i64 n, .string s] 29)).heap[w.heap.size]? = some (.cells #[.int .i64 k, .int .i64 n, .string s] 29 (0, 0)) := heap_new _ _
    have b0 : Below w.heap.size w (w.alloc (.cells #[.int .i64 k, .int .i64 n, .string s] 29)) := alloc_below _ _
    go_enter Try.func22, Try.ntmps22
    go_wp2_with fail
    generalize w.alloc (.cells #[.int .i64 k, .int .i64 n, .string s] 29) = W0 at *
    refine (CF W0).mono ?_
    rintro e W1 ⟨rfl, hb1⟩
    have hx1 := below_at hb1 hx0
    obtain ⟨⟨c0, c1, c2⟩, _⟩ := blk3 hx1
    have b1 := b0.trans (hb1.mono b0.size)
    clear hx0
    go_wp2_with fail
    go_ret2
    exact ⟨0, rfl, (fun h => by cases h), fun _ => rfl, b1⟩
  · have CF := CF k
    rw [hf] at CF
    by_cases h4 : k = 4
    · subst h4
      have hA : rlB 4 n s.size = true := by simp [rlB, hf]
      rw [hA]
      clear hf hA
      have X := fun W => ext32 (n % 4294967296) W
      cases hn : nan32 (w32 n)
      · have Y := fun W => conv_num (w32 n) hn W
        have hr : isR 4 n (cv (w32 n)) := by unfold isR; rw [if_pos rfl, if_neg (by simp [hn])]
        unfold w32 at *
        have hx0 : (w.alloc (.cells #[.int .i64 4, .int .i64 n, .string s] 29)).heap[w.heap.size]? = some (.cells #[.int .i64 4, .int .i64 n, .string s] 29 (0, 0)) := heap_new _ _
        have b0 : Below w.heap.size w (w.alloc (.cells #[.int .i64 4, .int .i64 n, .string s] 29)) := alloc_below _ _
        go_enter Try.func22, Try.ntmps22
        go_wp2_with fail
        generalize w.alloc (.cells #[.int .i64 4, .int .i64 n, .string s] 29) = W0 at *
        refine (CF W0).mono ?_
        rintro e W1 ⟨rfl, hb1⟩
        have hx1 := below_at hb1 hx0
        obtain ⟨⟨c0, c1, c2⟩, _⟩ := blk3 hx1
        have b1 := b0.trans (hb1.mono b0.size)
        clear hx0
        go_wp2_with fail
        go_ret2
        exact ⟨_, rfl, fun _ => hr, (fun h => by cases h), b1⟩
      · have Y := fun W => conv_nan (w32 n) hn W
        have hr : ∀ W, isR 4 n (nanAt W (w32 n)) := fun W => by unfold isR; rw [if_pos rfl, if_pos hn]; exact nanAt_nan _ _
        unfold w32 at *
        have hx0 : (w.alloc (.cells #[.int .i64 4, .int .i64 n, .string s] 29)).heap[w.heap.size]? = some (.cells #[.int .i64 4, .int .i64 n, .string s] 29 (0, 0)) := heap_new _ _
        have b0 : Below w.heap.size w (w.alloc (.cells #[.int .i64 4, .int .i64 n, .string s] 29)) := alloc_below _ _
        go_enter Try.func22, Try.ntmps22
        go_wp2_with fail
        generalize w.alloc (.cells #[.int .i64 4, .int .i64 n, .string s] 29) = W0 at *
        refine (CF W0).mono ?_
        rintro e W1 ⟨rfl, hb1⟩
        have hx1 := below_at hb1 hx0
        obtain ⟨⟨c0, c1, c2⟩, _⟩ := blk3 hx1
        have b1 := b0.trans (hb1.mono b0.size)
        clear hx0
        go_wp2_with fail
        go_ret2
        exact ⟨_, rfl, fun _ => hr _, (fun h => by cases h), b1.drew⟩
    · by_cases h5 : k = 5
      · subst h5
        have hA : rlB 5 n s.size = true := by simp [rlB, hf]
        rw [hA]
        clear hf hA h4
        have X := fun W => ext64 (IntKind.u64.wrap n) W
        have hr : isR 5 n (w64 n) := by unfold isR; rw [if_neg (by decide)]
        unfold w64 at *
        have hx0 : (w.alloc (.cells #[.int .i64 5, .int .i64 n, .string s] 29)).heap[w.heap.size]? = some (.cells #[.int .i64 5, .int .i64 n, .string s] 29 (0, 0)) := heap_new _ _
        have b0 : Below w.heap.size w (w.alloc (.cells #[.int .i64 5, .int .i64 n, .string s] 29)) := alloc_below _ _
        go_enter Try.func22, Try.ntmps22
        go_wp2_with fail
        generalize w.alloc (.cells #[.int .i64 5, .int .i64 n, .string s] 29) = W0 at *
        refine (CF W0).mono ?_
        rintro e W1 ⟨rfl, hb1⟩
        have hx1 := below_at hb1 hx0
        obtain ⟨⟨c0, c1, c2⟩, _⟩ := blk3 hx1
        have b1 := b0.trans (hb1.mono b0.size)
        clear hx0
        go_wp2_with fail
        go_ret2
        exact ⟨_, rfl, fun _ => hr, (fun h => by cases h), b1⟩
      · have hA : rlB k n s.size = false := by simp [rlB, h4, h5]
        rw [hA]
        clear hf hA
        have g4 : (k == 4) = false := by simpa using h4
        have g5 : (k == 5) = false := by simpa using h5
        have n4 : (k != 4) = true := by simpa using h4
        have n5 : (k != 5) = true := by simpa using h5
        have hx0 : (w.alloc (.cells #[.int .i64 k, .int .i64 n, .string s] 29)).heap[w.heap.size]? = some (.cells #[.int .i64 k, .int .i64 n, .string s] 29 (0, 0)) := heap_new _ _
        have b0 : Below w.heap.size w (w.alloc (.cells #[.int .i64 k, .int .i64 n, .string s] 29)) := alloc_below _ _
        go_enter Try.func22, Try.ntmps22
        go_wp2_with fail
        generalize w.alloc (.cells #[.int .i64 k, .int .i64 n, .string s] 29) = W0 at *
        refine (CF W0).mono ?_
        rintro e W1 ⟨rfl, hb1⟩
        have hx1 := below_at hb1 hx0
        obtain ⟨⟨c0, c1, c2⟩, _⟩ := blk3 hx1
        have b1 := b0.trans (hb1.mono b0.size)
        clear hx0
        go_wp2_with fail
        go_ret2
        exact ⟨0, rfl, (fun h => by cases h), fun _ => rfl, b1⟩
set_option maxHeartbeats 1000000 in
theorem isnan_any (r : Nat) (w : World) : Calls Try.prog 43 #[.float .f64 r] w fun e w' => e = .returned (.bool (nan64 r)) ∧ w' = w := by
  have hc : FloatKind.f64.format.order r r = if nan64 r = true then none else some .eq := by
    cases h : nan64 r
    · exact (order_V h h).trans (by rw [cmp_eq]; rfl)
    · exact order_nan (.inl h)
  cases h : nan64 r
  all_goals
    rw [h] at hc
    simp only [if_true, Bool.false_eq_true, if_false] at hc
    go_enter Try.func43, Try.ntmps43
    go_wp2_with fail
    go_ret
    exact ⟨rfl, rfl⟩
set_option maxRecDepth 100000 in
set_option maxHeartbeats 2000000 in
theorem nan_any (k n : Int) (s : ByteArray) (w : World) : Calls Try.prog 20 #[.agg #[.int .i64 k, .int .i64 n, .string s]] w fun e w' => e = .returned (.bool (rlB k n s.size && nanD k n)) ∧ Below w.heap.size w w' := by
  have CR := fun W => real_any k n s W
  have hx0 : (w.alloc (.cells #[.int .i64 k, .int .i64 n, .string s] 29)).heap[w.heap.size]? = some (.cells #[.int .i64 k, .int .i64 n, .string s] 29 (0, 0)) := heap_new _ _
  have b0 : Below w.heap.size w (w.alloc (.cells #[.int .i64 k, .int .i64 n, .string s] 29)) := alloc_below _ _
  go_enter Try.func20, Try.ntmps20
  go_wp2_with fail
  generalize w.alloc (.cells #[.int .i64 k, .int .i64 n, .string s] 29) = W0 at *
  refine (CR W0).mono ?_
  rintro e W1 ⟨r, rfl, h1, h2, hb1⟩
  have b1 := b0.trans (hb1.mono b0.size)
  clear CR hx0
  cases ht : rlB k n s.size
  · go_wp2_with fail
    go_ret
    exact ⟨by rw [ht]; rfl, b1⟩
  · have hr := isR_nan (h1 ht)
    have IN := fun W => isnan_any r W
    clear h1 h2
    rw [hr] at IN
    go_wp2_with fail
    refine (IN W1).mono ?_
    rintro e W2 ⟨rfl, rfl⟩
    go_wp2_with fail
    go_ret
    exact ⟨by rw [ht]; rfl, b1⟩
theorem lexC_step (x y : List UInt8) (k : Nat) (hx : k < x.length) (hy : k < y.length) : lexC (x.drop k) (y.drop k) = if x[k] < y[k] then -1 else if y[k] < x[k] then 1 else lexC (x.drop (k + 1)) (y.drop (k + 1)) := by
  rw [List.drop_eq_getElem_cons hx, List.drop_eq_getElem_cons hy]; rfl
theorem lexC_nil (y : List UInt8) : lexC [] y = if 0 < y.length then -1 else 0 := by cases y <;> simp [lexC]
theorem lexC_nil2 (x : List UInt8) : lexC x [] = if 0 < x.length then 1 else 0 := by cases x <;> simp [lexC]
theorem lexC_end (x y : List UInt8) (k : Nat) (hx : k ≤ x.length) (hy : k ≤ y.length) (h : ¬ (k < x.length ∧ k < y.length)) : lexC (x.drop k) (y.drop k) = cI x.length y.length := by
  by_cases e : k = x.length
  · subst e
    rw [List.drop_length, lexC_nil, List.length_drop]
    unfold cI
    split <;> split <;> (try split) <;> omega
  · have e : k = y.length := by omega
    subst e
    rw [List.drop_length, lexC_nil2, List.length_drop]
    unfold cI
    split <;> split <;> (try split) <;> omega
set_option maxRecDepth 100000 in
set_option maxHeartbeats 2000000 in
theorem texts_any (a b : ByteArray) (w : World) (ha : a.size ≤ maxLen) (hb : b.size ≤ maxLen) : Calls Try.prog 42 #[.string a, .string b] w fun e w' => e = .returned (.int .i64 (lexC a.data.toList b.data.toList)) ∧ Below w.heap.size w w' := by
  unfold maxLen at ha hb
  go_enter Try.func42, Try.ntmps42
  go_wp2_with fail
  go_loopw [5] (fun iv wr => ∃ k : Nat, k ≤ a.size ∧ k ≤ b.size ∧ iv = .int .i64 (k : Int) ∧ Hid (lexC (a.data.toList.drop k) (b.data.toList.drop k) = lexC a.data.toList b.data.toList) ∧ Below w.heap.size w wr) (fun iv _ => a.size - (intOf iv).toNat)
  case atStart => exact ⟨0, by omega, by omega, rfl, rfl, Below.refl _ _⟩
  case round =>
    obtain ⟨k, hk1, hk2, rfl, H, hB⟩ := hrel
    have la : a.data.toList.length = a.size := by simp
    have lb : b.data.toList.length = b.size := by simp
    by_cases h1 : k < a.size
    · by_cases h2 : k < b.size
      · have g1 : (k : Int) < a.size := by omega
        have g2 : (k : Int) < b.size := by omega
        have hs := lexC_step a.data.toList b.data.toList k (by omega) (by omega)
        obtain ⟨x, hx⟩ : ∃ x, a.data.toList[k]'(by omega) = x := ⟨_, rfl⟩
        obtain ⟨y, hy⟩ : ∃ y, b.data.toList[k]'(by omega) = y := ⟨_, rfl⟩
        rw [hx, hy] at hs
        have HS : Hid (lexC (a.data.toList.drop k) (b.data.toList.drop k) = if x < y then -1 else if y < x then 1 else lexC (a.data.toList.drop (k + 1)) (b.data.toList.drop (k + 1))) := hs
        have hx' : a[k]'h1 = x := hx
        have hy' : b[k]'h2 = y := hy
        clear hs hx hy la lb
        by_cases l1 : x < y
        · have l1' : (x.toNat : Int) < (y.toNat : Int) := by have := UInt8.lt_iff_toNat_lt.1 l1; omega
          go_wp2_with fail
          refine wp_region_quiet_below (by kernel_rfl) (by kernel_rfl) ?_
          repeat (go_big_quiet_step (fail))
          refine wpQuiet_nil ?_
          intro _ hw'
          obtain ⟨⟨dq, osq⟩, hw''⟩ := hw'
          subst hw''
          have hq := below_regrown wr dq osq
          generalize grow (redrawn wr dq) osq = wq at *
          go_wp2_with fail
          go_ret
          exact ⟨by rw [← H.out, HS.out, if_pos l1]; rfl, hB.trans (hq.mono hB.size)⟩
        · have l1' : ¬ (x.toNat : Int) < (y.toNat : Int) := fun h => l1 (UInt8.lt_iff_toNat_lt.2 (by omega))
          by_cases l2 : y < x
          · have l2' : (y.toNat : Int) < (x.toNat : Int) := by have := UInt8.lt_iff_toNat_lt.1 l2; omega
            go_wp2_with fail
            refine wp_region_quiet_below (by kernel_rfl) (by kernel_rfl) ?_
            repeat (go_big_quiet_step (fail))
            refine wpQuiet_nil ?_
            intro _ hw'
            obtain ⟨⟨dq, osq⟩, hw''⟩ := hw'
            subst hw''
            have hq := below_regrown wr dq osq
            generalize grow (redrawn wr dq) osq = wq at *
            go_wp2_with fail
            refine wp_region_quiet_below (by kernel_rfl) (by kernel_rfl) ?_
            repeat (go_big_quiet_step (fail))
            refine wpQuiet_nil ?_
            intro _ hw'
            obtain ⟨⟨dq, osq⟩, hw''⟩ := hw'
            subst hw''
            have hq2 := below_regrown wq dq osq
            generalize grow (redrawn wq dq) osq = wz at *
            go_wp2_with fail
            go_ret
            exact ⟨by rw [← H.out, HS.out, if_neg l1, if_pos l2]; rfl, (hB.trans (hq.mono hB.size)).trans (hq2.mono (hB.trans (hq.mono hB.size)).size)⟩
          · have l2' : ¬ (y.toNat : Int) < (x.toNat : Int) := fun h => l2 (UInt8.lt_iff_toNat_lt.2 (by omega))
            go_wp2_with fail
            refine wp_region_quiet_below (by kernel_rfl) (by kernel_rfl) ?_
            repeat (go_big_quiet_step (fail))
            refine wpQuiet_nil ?_
            intro _ hw'
            obtain ⟨⟨dq, osq⟩, hw''⟩ := hw'
            subst hw''
            have hq := below_regrown wr dq osq
            generalize grow (redrawn wr dq) osq = wq at *
            go_wp2_with fail
            refine wp_region_quiet_below (by kernel_rfl) (by kernel_rfl) ?_
            repeat (go_big_quiet_step (fail))
            refine wpQuiet_nil ?_
            intro _ hw'
            obtain ⟨⟨dq, osq⟩, hw''⟩ := hw'
            subst hw''
            have hq2 := below_regrown wq dq osq
            generalize grow (redrawn wq dq) osq = wz at *
            go_wp2_with fail
            refine ⟨⟨k + 1, by omega, by omega, by simp, ?_, (hB.trans (hq.mono hB.size)).trans (hq2.mono (hB.trans (hq.mono hB.size)).size)⟩, by simp [intOf]; omega⟩
            show _ = _
            rw [← H.out, HS.out, if_neg l1, if_neg l2]
      · have g2 : ¬ (k : Int) < b.size := by omega
        have he := lexC_end a.data.toList b.data.toList k (by omega) (by omega) (by omega)
        rw [la, lb] at he
        have HE : Hid (lexC a.data.toList b.data.toList = cI a.size b.size) := H.out.symm.trans he
        have l : ¬ (a.size : Int) < b.size := by omega
        have l2 : (b.size : Int) < a.size := by omega
        have e : cI a.size b.size = 1 := by unfold cI; rw [if_neg l, if_pos l2]
        clear he la lb
        go_wp2_with fail
        go_ret
        exact ⟨by rw [HE.out, e]; rfl, hB⟩
    · have g1 : ¬ (k : Int) < a.size := by omega
      have he := lexC_end a.data.toList b.data.toList k (by omega) (by omega) (by omega)
      rw [la, lb] at he
      have HE : Hid (lexC a.data.toList b.data.toList = cI a.size b.size) := H.out.symm.trans he
      have l2 : ¬ (b.size : Int) < a.size := by omega
      by_cases l : (a.size : Int) < b.size
      · have e : cI a.size b.size = -1 := by unfold cI; rw [if_pos l]
        clear he la lb
        go_wp2_with fail
        go_ret
        exact ⟨by rw [HE.out, e]; rfl, hB⟩
      · have e : cI a.size b.size = 0 := by unfold cI; rw [if_neg l, if_neg l2]
        clear he la lb
        go_wp2_with fail
        go_ret
        exact ⟨by rw [HE.out, e]; rfl, hB⟩
end Go.Proofs.Ytndeglamnnipoaa
