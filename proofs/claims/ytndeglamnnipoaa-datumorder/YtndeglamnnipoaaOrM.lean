/-
  Compare is an order: the plain mathematics.
-/
import Derived.Test.YtndeglamnnipoaaCmB
namespace Go.Proofs.Ytndeglamnnipoaa
set_option linter.unusedVariables false
set_option linter.unusedSimpArgs false

theorem heap3_new (w : World) (o o' o2 : Obj) : (((w.alloc o).alloc o').alloc o2).heap[w.heap.size + 1 + 1]? = some o2 := by
  have h := heap_new ((w.alloc o).alloc o') o2
  have e : ((w.alloc o).alloc o').heap.size = w.heap.size + 1 + 1 := by simp
  rwa [e] at h
theorem cmpA_turn (k n : Int) (s : List UInt8) (k' n' : Int) (s' : List UInt8) : cmpA k' n' s' k n s = cmpA k n s k' n' s' := by
  unfold cmpA
  rw [Bool.and_comm (fineB k' n' s'.length), show (k' == k) = (k == k') from Bool.beq_comm]
theorem cmpA_kind {k n : Int} {s : List UInt8} {k' n' : Int} {s' : List UInt8} (h : cmpA k n s k' n' s' = true) : k = k' := by
  unfold cmpA at h; simp at h; exact h.2
theorem ordF_some (k n n' : Int) : (ordF k n n').isSome = (!nanD k n && !nanD k n') := by
  unfold ordF
  cases nanD k n <;> cases nanD k n' <;> rfl
theorem ordF_num {k n n' : Int} (h1 : nanD k n = false) (h2 : nanD k n' = false) : oN (ordF k n n') = cI (VD k n) (VD k n') := by
  unfold ordF
  rw [h1, h2]
  exact oN_cmp _ _
theorem ordF_no {k n n' : Int} (h : nanD k n = true ∨ nanD k n' = true) : oN (ordF k n n') = 0 := by
  unfold ordF
  rcases h with h | h <;> simp [h, oN]
theorem ordF_turn (k n n' : Int) : oN (ordF k n' n) = - oN (ordF k n n') := by
  cases h1 : nanD k n
  · cases h2 : nanD k n'
    · rw [ordF_num h1 h2, ordF_num h2 h1, cI_neg]
    · rw [ordF_no (.inr h2), ordF_no (.inl h2)]; rfl
  · rw [ordF_no (.inl h1), ordF_no (.inr h1)]; rfl
theorem cmp_turn (k n : Int) (s : List UInt8) (k' n' : Int) (s' : List UInt8) : cmpN k' n' s' k n s = - cmpN k n s k' n' s' ∧ cmpB k' n' s' k n s = cmpB k n s k' n' s' := by
  have ht := cmpA_turn k n s k' n' s'
  cases h : cmpA k n s k' n' s'
  · rw [h] at ht
    rw [(cmp_no h).1, (cmp_no h).2, (cmp_no ht).1, (cmp_no ht).2]
    exact ⟨rfl, rfl⟩
  · rw [h] at ht
    obtain rfl := cmpA_kind h
    by_cases h67 : k = 6 ∨ k = 7
    · rw [(cmp_s h h67).1, (cmp_s h h67).2, (cmp_s ht h67).1, (cmp_s ht h67).2, lexC_neg]
      exact ⟨rfl, rfl⟩
    by_cases h45 : k = 4 ∨ k = 5
    · rw [(cmp_f h h45).1, (cmp_f h h45).2, (cmp_f ht h45).1, (cmp_f ht h45).2, ordF_turn, ordF_some, ordF_some, Bool.and_comm]
      exact ⟨rfl, rfl⟩
    · have e := cmp_i h (fun e => h45 (.inl e)) (fun e => h45 (.inr e)) (fun e => h67 (.inl e)) (fun e => h67 (.inr e))
      have e' := cmp_i ht (fun e => h45 (.inl e)) (fun e => h45 (.inr e)) (fun e => h67 (.inl e)) (fun e => h67 (.inr e))
      rw [e.1, e.2, e'.1, e'.2, cI_neg]
      exact ⟨rfl, rfl⟩
theorem oN_three (o : Option Ordering) : oN o = -1 ∨ oN o = 0 ∨ oN o = 1 := by
  rcases o with _ | o
  · exact .inr (.inl rfl)
  cases o
  · exact .inl rfl
  · exact .inr (.inl rfl)
  · exact .inr (.inr rfl)
theorem cI_three (x y : Int) : cI x y = -1 ∨ cI x y = 0 ∨ cI x y = 1 := by unfold cI; split <;> (try split) <;> omega
theorem cmp_three (k n : Int) (s : List UInt8) (k' n' : Int) (s' : List UInt8) : cmpN k n s k' n' s' = -1 ∨ cmpN k n s k' n' s' = 0 ∨ cmpN k n s k' n' s' = 1 := by
  unfold cmpN
  split
  · split
    · exact lexC_three _ _
    split
    · exact oN_three _
    · exact cI_three _ _
  · exact .inr (.inl rfl)
theorem cmp_zero {k n : Int} {s : List UInt8} {k' n' : Int} {s' : List UInt8} (h : cmpB k n s k' n' s' = false) : cmpN k n s k' n' s' = 0 := by
  cases hA : cmpA k n s k' n' s'
  · exact (cmp_no hA).1
  · by_cases h67 : k = 6 ∨ k = 7
    · rw [(cmp_s hA h67).2] at h; cases h
    by_cases h45 : k = 4 ∨ k = 5
    · rw [(cmp_f hA h45).2] at h
      rw [(cmp_f hA h45).1]
      cases ho : ordF k n n'
      · rfl
      · rw [ho] at h; cases h
    · have e := cmp_i hA (fun e => h45 (.inl e)) (fun e => h45 (.inr e)) (fun e => h67 (.inl e)) (fun e => h67 (.inr e))
      rw [e.2] at h; cases h
theorem cmp_A {k n : Int} {s : List UInt8} {k' n' : Int} {s' : List UInt8} (h : cmpB k n s k' n' s' = true) : cmpA k n s k' n' s' = true := by
  cases hA : cmpA k n s k' n' s'
  · rw [(cmp_no hA).2] at h; cases h
  · rfl
theorem cmp_trans {k n : Int} {s : List UInt8} {k' n' : Int} {s' : List UInt8} {k2 n2 : Int} {s2 : List UInt8} (h1 : cmpB k n s k' n' s' = true) (h2 : cmpB k' n' s' k2 n2 s2 = true) :
    cmpB k n s k2 n2 s2 = true ∧ (cmpN k n s k' n' s' ≤ 0 → cmpN k' n' s' k2 n2 s2 ≤ 0 → cmpN k n s k2 n2 s2 ≤ 0 ∧ (cmpN k n s k' n' s' < 0 → cmpN k n s k2 n2 s2 < 0)) := by
  have a1 := cmp_A h1
  have a2 := cmp_A h2
  obtain rfl := cmpA_kind a1
  obtain rfl := cmpA_kind a2
  have a3 : cmpA k n s k n2 s2 = true := by
    unfold cmpA at a1 a2 ⊢
    simp at a1 a2 ⊢
    exact ⟨a1.1, a2.2⟩
  by_cases h67 : k = 6 ∨ k = 7
  · rw [(cmp_s a1 h67).1, (cmp_s a2 h67).1, (cmp_s a3 h67).1, (cmp_s a3 h67).2]
    exact ⟨rfl, lexC_trans _ _ _⟩
  by_cases h45 : k = 4 ∨ k = 5
  · rw [(cmp_f a1 h45).2, ordF_some] at h1
    rw [(cmp_f a2 h45).2, ordF_some] at h2
    simp at h1 h2
    rw [(cmp_f a1 h45).1, (cmp_f a2 h45).1, (cmp_f a3 h45).1, (cmp_f a3 h45).2, ordF_some, h1.1, h2.2, ordF_num h1.1 h1.2, ordF_num h2.1 h2.2, ordF_num h1.1 h2.2]
    exact ⟨rfl, cI_trans _ _ _⟩
  · have q := fun {n n' s s'} (h : cmpA k n s k n' s' = true) => cmp_i h (fun e => h45 (.inl e)) (fun e => h45 (.inr e)) (fun e => h67 (.inl e)) (fun e => h67 (.inr e))
    rw [(q a1).1, (q a2).1, (q a3).1, (q a3).2]
    exact ⟨rfl, cI_trans _ _ _⟩
theorem cmp_self (k n : Int) (s : ByteArray) : cmpN k n s.data.toList k n s.data.toList = 0 ∧ cmpB k n s.data.toList k n s.data.toList = (fineB k n s.size && !(rlB k n s.size && nanD k n)) := by
  have hA := cmpA_eq k n s k n s
  cases hf : fineB k n s.size
  · rw [hf] at hA
    rw [(cmp_no hA).1, (cmp_no hA).2]
    exact ⟨rfl, rfl⟩
  · rw [hf] at hA
    replace hA : cmpA k n s.data.toList k n s.data.toList = true := by rw [hA]; simp
    unfold rlB
    rw [hf]
    by_cases h67 : k = 6 ∨ k = 7
    · rw [(cmp_s hA h67).1, (cmp_s hA h67).2, lexC_self]
      refine ⟨rfl, ?_⟩
      rcases h67 with rfl | rfl <;> simp
    by_cases h45 : k = 4 ∨ k = 5
    · rw [(cmp_f hA h45).1, (cmp_f hA h45).2, ordF_some]
      refine ⟨?_, ?_⟩
      · cases hn : nanD k n
        · rw [ordF_num hn hn, cI_self]
        · rw [ordF_no (.inl hn)]
      · rcases h45 with rfl | rfl <;> simp
    · have e := cmp_i hA (fun e => h45 (.inl e)) (fun e => h45 (.inr e)) (fun e => h67 (.inl e)) (fun e => h67 (.inr e))
      rw [e.1, e.2, cI_self]
      refine ⟨rfl, ?_⟩
      have h4 : ¬ k = 4 := fun e => h45 (.inl e)
      have h5 : ¬ k = 5 := fun e => h45 (.inr e)
      simp [h4, h5]
end Go.Proofs.Ytndeglamnnipoaa
