/-
  What bits.Unpack answers.
-/
import Derived.Test.YtdglobonbhkheaaBIter
import Derived.Test.YtdglobonbhkheaaBRUnp
import Derived.Test.YtdglobonbhkheaaBReg17
import Derived.Test.YtdglobonbhkheaaBClone
namespace Go.Proofs.Ytdglobonbhkheaa
open Go.RowKit Go.Shelf

attribute [local go_sem] Oper.semAt_some

theorem below4 (w : World) (a b c d : Obj) : Below w.heap.size w ((((w.alloc a).alloc b).alloc c).alloc d) :=
  ((((Below.refl _ w).alloc (Nat.le_refl _) a).alloc (by simp) b).alloc (by simp; omega) c).alloc (by simp; omega) d


set_option maxRecDepth 100000 in
set_option maxHeartbeats 2000000 in
theorem unpack_size (ad : Option Addr) (len cap : Nat) (wd ct : Int) (w : World) (h1 : -9223372036854775808 ≤ wd) (h2 : wd ≤ 9223372036854775807) (h3 : -9223372036854775808 ≤ ct) (h4 : ct ≤ 9223372036854775807) (hno : sze wd ct ≠ 0) :
    Calls Try.prog 56 #[.slice ad len cap, .int .i64 wd, .int .i64 ct] w fun e w' => e = .returned (.tuple #[.slice none 0 0, .int .i64 (sze wd ct)]) ∧ Below w.heap.size w w' := by
  have hz : szv wd ct = 0 := by unfold szv; rw [if_neg hno]
  have HC := fun wx => size_any wd ct wx h1 h2 h3 h4
  rw [hz] at HC
  have hne : (sze wd ct == 0) = false := by simpa using hno
  generalize sze wd ct = s at *
  refine (callsIn_wide (n := 4)).1 ?_
  refine callsIn_of_wp_marks Try.func56 rfl trivial ?_ rfl
  simp only [Try.ntmps56, List.size_toArray, List.length_cons, List.length_nil, Nat.reduceAdd, Nat.reduceSub, Array.replicate_succ, Array.replicate_zero, List.push_toArray, List.append_toArray, List.nil_append, List.cons_append]
  gi_wp2_with (refine ⟨trivial, ?_⟩; gi_at_call 54; refine (callsIn_wide.2 (HC _)).mono ?_; rintro e wx ⟨rfl, hwx⟩; obtain rfl := hwx.symm)
  exact ⟨_, by simp [results, Try.f56, go_sem], rfl, below4 w _ _ _ _⟩


set_option maxRecDepth 100000 in
set_option maxHeartbeats 2000000 in
theorem unpack_short (ad : Option Addr) (len cap W c S : Nat) (w : World) (hsz : sze W c = 0) (hS : S = (c * W + 7) / 8) (hlen : len ≤ 1048576) (hno : len < S) :
    Calls Try.prog 56 #[.slice ad len cap, .int .i64 W, .int .i64 c] w fun e w' => e = .returned (.tuple #[.slice none 0 0, .int .i64 6]) ∧ Below w.heap.size w w' := by
  have HC := fun wx => size_ok hsz hS wx
  have hl' : (len : Int) ≤ 1048576 := by omega
  have hno' : (len : Int) < (S : Int) := by omega
  clear hsz hS
  refine (callsIn_wide (n := 4)).1 ?_
  refine callsIn_of_wp_marks Try.func56 rfl trivial ?_ rfl
  simp only [Try.ntmps56, List.size_toArray, List.length_cons, List.length_nil, Nat.reduceAdd, Nat.reduceSub, Array.replicate_succ, Array.replicate_zero, List.push_toArray, List.append_toArray, List.nil_append, List.cons_append]
  gi_wp2_with (refine ⟨trivial, ?_⟩; gi_at_call 54; refine (callsIn_wide.2 (HC _)).mono ?_; rintro e wx ⟨rfl, hwx⟩; obtain rfl := hwx.symm)
  exact ⟨_, by simp [results, Try.f56, go_sem], rfl, below4 w _ _ _ _⟩


set_option maxRecDepth 100000 in
set_option maxHeartbeats 2000000 in
theorem unpack_extra (ad : Option Addr) (len cap W c S : Nat) (w : World) (hsz : sze W c = 0) (hS : S = (c * W + 7) / 8) (hlen : len ≤ 1048576) (hno : S < len) :
    Calls Try.prog 56 #[.slice ad len cap, .int .i64 W, .int .i64 c] w fun e w' => e = .returned (.tuple #[.slice none 0 0, .int .i64 7]) ∧ Below w.heap.size w w' := by
  have HC := fun wx => size_ok hsz hS wx
  have hl' : (len : Int) ≤ 1048576 := by omega
  have hno' : (S : Int) < (len : Int) := by omega
  clear hsz hS
  refine (callsIn_wide (n := 4)).1 ?_
  refine callsIn_of_wp_marks Try.func56 rfl trivial ?_ rfl
  simp only [Try.ntmps56, List.size_toArray, List.length_cons, List.length_nil, Nat.reduceAdd, Nat.reduceSub, Array.replicate_succ, Array.replicate_zero, List.push_toArray, List.append_toArray, List.nil_append, List.cons_append]
  gi_wp2_with (refine ⟨trivial, ?_⟩; gi_at_call 54; refine (callsIn_wide.2 (HC _)).mono ?_; rintro e wx ⟨rfl, hwx⟩; obtain rfl := hwx.symm)
  exact ⟨_, by simp [results, Try.f56, go_sem], rfl, below4 w _ _ _ _⟩

theorem wpListIn_make_full {F : Fence} {n : Nat} {P : Program} (w : World) {ops : Array Oper} {rest : List Oper} {o : Oper} {a : Act} {Q : Exit → Act → World → Prop}
    (hg : o.guard = none) (l c : Operand) (t : TypeId) (hop : o.op = Op.makeSlice t l c)
    (base : Nat) (e : TypeId) (i : TypeInfo) (z : Value) (size : Nat) (h1 : P.underlying t = some (.slice e)) (h2 : P.info? e = some i) (h3 : i.zero = some z) (h4 : i.size = size)
    (kl kc : IntKind) (L C : Int) (m : Nat) (hl : a.eval l = .int kl L) (hc : a.eval c = .int kc C) (hL : L = (m : Int)) (hC : C = (m : Int)) (b2 : i.bytes * m ≤ 281474976710656) (b3 : m ≤ maxLen) (b4 : base ≤ w.heap.size)
    (hK : ∀ w', w'.ownsRow base e size (.slice (some ⟨w.heap.size, 0, none⟩) m m) m (madeCells z.cells (m * size)).toList → w.grownBy w' none → wpListIn F n P ops Q rest (a.put o.dst (.slice (some ⟨w.heap.size, 0, none⟩) m m)) w') :
    wpListIn F n P ops Q (o :: rest) a w := by
  refine wpListIn_plain hg fun K hK' => ?_
  obtain ⟨w', hrun, r1, r2⟩ := run_make_full (P := P) w base t e i z size h1 h2 h3 h4 kl kc m b2 b3 b4
  subst hL
  subst hC
  unfold Oper.wpIn
  refine ⟨?_, ?_⟩
  · simp [Oper.about, hop]
  · rw [Oper.semAt_plain F _ _ (by rw [hop]; intro c hc'; cases hc')]
    simp [execOp, hop, hl, hc, hrun, Result.andThen]
    exact hK' _ _ (hK w' r1 r2)


/-- the number of the bits so far -/
def num (pre : List Bool) : Nat := pk 1 (pre.map Bool.toNat)
theorem num_snoc (pre : List Bool) (x : Bool) : num (pre ++ [x]) = num pre + x.toNat * 2 ^ pre.length := by
  unfold num
  rw [List.map_append, List.map_cons, List.map_nil, pk_snoc, List.length_map, Nat.one_mul]
theorem num_lt (pre : List Bool) : num pre < 2 ^ pre.length := by
  have h := pk_lt 1 (pre.map Bool.toNat) (fun y hy => by
    obtain ⟨b, _, rfl⟩ := List.mem_map.1 hy
    cases b <;> decide)
  rw [List.length_map, Nat.one_mul] at h
  exact h
theorem bi_nat (x : Bool) : bi x = (x.toNat : Int) := by cases x <;> rfl

theorem row_base {W : World} {n m : Nat} {e : TypeId} {size : Nat} {v : Value} {k : Nat} {xs : List Value} (h : W.ownsRow n e size v k xs) (hm : m ≤ n) : W.ownsRow m e size v k xs := by
  refine ⟨h.1, ?_⟩
  rcases h.2 with h | ⟨g, cap, cur, h1, h2, h3, h4⟩
  · exact .inl h
  · exact .inr ⟨g, cap, cur, h1, by omega, h3, h4⟩
theorem row_own {W W' : World} {row : Option Nat} {n₀ : Nat} {e : TypeId} {size : Nat} {v : Value} {k : Nat} {xs : List Value} (h : W.ownsRow n₀ e size v k xs) (hg : W.grownBy W' row) (hrow : ∀ r, row = some r → ∃ o : Obj, W.heap[r]? = some o ∧ o.isCells = false) : W'.ownsRow n₀ e size v k xs := by
  refine h.kept hg ?_
  rcases h.2 with ⟨rfl, _⟩ | ⟨g, cap, cur, rfl, _, hgb, _⟩
  · exact .inl rfl
  · refine .inr (fun e' => ?_)
    obtain ⟨o, ho, hc⟩ := hrow g e'.symm
    rw [hgb] at ho
    cases ho
    cases hc
theorem boxed_kept {W W' : World} {row : Option Nat} {B : Nat} {t : TypeId} {v : Value} (h : Boxed W B t v) (hg : W.grownBy W' row) (hrow : ∀ r, row = some r → ∃ o : Obj, W.heap[r]? = some o ∧ o.isCells = false) : Boxed W' B t v :=
  boxed_own B t (fun _ : Unit => v) () W W' row h hg hrow

/-- where Unpack's loop stands: M is the number of the t bits that have come -/
structure US (w W' : World) (D W c M t : Nat) : Prop where
  bw : Boxed W' w.heap.size 3 (.int .i64 W)
  bc : Boxed W' (w.heap.size + 1) 3 (.int .i64 c)
  r1 : Boxed W' (w.heap.size + 1 + 1) 64 (.slice none 0 0)
  r2 : Boxed W' (w.heap.size + 1 + 1 + 1) 28 (.int .i64 0)
  bo : Boxed W' D 64 (.slice (some ⟨w.heap.size + 1 + 1 + 1 + 1, 0, none⟩) c c)
  row : W'.ownsRow (w.heap.size + 4) 65 1 (.slice (some ⟨w.heap.size + 1 + 1 + 1 + 1, 0, none⟩) c c) c (c64 (upk W c M))
  pos : ∃ a s : Nat, Boxed W' (D + 1) 3 (.int .i64 a) ∧ Boxed W' (D + 1 + 1) 3 (.int .i64 s) ∧ ((a < c ∧ s < W ∧ t = W * a + s) ∨ (a = c ∧ s = 0 ∧ W * c ≤ t) ∨ W = 0)
  hM : M < 2 ^ (W * c)
  hB : Below w.heap.size w W'
theorem US.kept {w A C : World} {D W c M t B : Nat} {row : Option Nat} (h : US w A D W c M t) (hB : w.heap.size ≤ B) (hg : A.grownBy C row) (hr : ∀ r, row = some r → B ≤ r ∧ ∃ o : Obj, A.heap[r]? = some o ∧ o.isCells = false) : US w C D W c M t := by
  have hr' := fun r e => (hr r e).2
  obtain ⟨a, s, p1, p2, p3⟩ := h.pos
  exact ⟨boxed_kept h.bw hg hr', boxed_kept h.bc hg hr', boxed_kept h.r1 hg hr', boxed_kept h.r2 hg hr', boxed_kept h.bo hg hr', row_own h.row hg hr', ⟨a, s, boxed_kept p1 hg hr', boxed_kept p2 hg hr', p3⟩, h.hM,
    ownFrom_below (β := Unit) (Nat.le_refl _) hB () A C row h.hB hg hr⟩
/-- .. and how it is left by a refusal -/
structure UX (w W' : World) : Prop where
  r1 : Boxed W' (w.heap.size + 1 + 1) 64 (.slice none 0 0)
  r2 : Boxed W' (w.heap.size + 1 + 1 + 1) 28 (.int .i64 8)
  hB : Below w.heap.size w W'
theorem UX.kept {w A C : World} {B : Nat} {row : Option Nat} (h : UX w A) (hB : w.heap.size ≤ B) (hg : A.grownBy C row) (hr : ∀ r, row = some r → B ≤ r ∧ ∃ o : Obj, A.heap[r]? = some o ∧ o.isCells = false) : UX w C := by
  have hr' := fun r e => (hr r e).2
  exact ⟨boxed_kept h.r1 hg hr', boxed_kept h.r2 hg hr', ownFrom_below (β := Unit) (Nat.le_refl _) hB () A C row h.hB hg hr⟩

theorem US.skip {w X : World} {D W c : Nat} {pre : List Bool} (h : US w X D W c (num pre) pre.length) {a s : Nat} (p1 : Boxed X (D + 1) 3 (.int .i64 a)) (p2 : Boxed X (D + 1 + 1) 3 (.int .i64 s)) (hs : a = c ∧ s = 0 ∧ W * c ≤ pre.length) : US w X D W c (num (pre ++ [false])) (pre ++ [false]).length := by
  have e : num (pre ++ [false]) = num pre := by rw [num_snoc]; simp
  rw [e]
  exact ⟨h.bw, h.bc, h.r1, h.r2, h.bo, h.row, ⟨a, s, p1, p2, .inr (.inl ⟨hs.1, hs.2.1, by simp; omega⟩)⟩, h.hM, h.hB⟩
theorem US.leave {w X : World} {D W c : Nat} {pre : List Bool} (h : US w X D W c (num pre) pre.length) (hs : W * c ≤ pre.length) :
    ¬ num (pre ++ [true]) < 2 ^ (W * c) ∧ UX w ((X.setCell ⟨w.heap.size + 1 + 1, 0, none⟩ (.slice none 0 0)).setCell ⟨w.heap.size + 1 + 1 + 1, 0, none⟩ (.int .i64 8)) := by
  refine ⟨?_, ⟨(Boxed.set _ h.r1).other (by omega) _, Boxed.set _ (h.r2.other (by omega) _), (h.hB.setCell (p := ⟨w.heap.size + 1 + 1, 0, none⟩) (by simp; omega) _).setCell (p := ⟨w.heap.size + 1 + 1 + 1, 0, none⟩) (by simp; omega) _⟩⟩
  rw [num_snoc]
  have : 2 ^ (W * c) ≤ 2 ^ pre.length := Nat.pow_le_pow_right (by omega) hs
  simp
  omega
theorem pos_end {W c a s t len : Nat} (HP : a < c ∧ s < W ∧ t = W * a + s ∨ a = c ∧ s = 0 ∧ W * c ≤ t ∨ W = 0) (hac : a = c) (hN : t < 8 * len) (hS : len = (c * W + 7) / 8) : a = c ∧ s = 0 ∧ W * c ≤ t := by
  rcases HP with h | h | rfl
  · omega
  · exact h
  · simp at hS; omega
theorem pos_in {W c a s t len : Nat} (HP : a < c ∧ s < W ∧ t = W * a + s ∨ a = c ∧ s = 0 ∧ W * c ≤ t ∨ W = 0) (hac : ¬ a = c) (hN : t < 8 * len) (hS : len = (c * W + 7) / 8) : a < c ∧ s < W ∧ t = W * a + s := by
  rcases HP with h | h | rfl
  · exact h
  · omega
  · simp at hS; omega

/-- the digit that grows -/
theorem dig_or (M W a s : Nat) (x : Bool) (hM : M < 2 ^ (W * a + s)) (hs : s < W) (hW : W ≤ 64) :
    bits .or .u64 ((M / 2 ^ (W * a) : Nat) : Int) (IntKind.u64.wrap (bi x * 2 ^ s)) = ((M / 2 ^ (W * a) + x.toNat * 2 ^ s : Nat) : Int) ∧ M / 2 ^ (W * a) + x.toNat * 2 ^ s < 2 ^ W ∧ M / 2 ^ (W * a) < 2 ^ s := by
  have h1 : M / 2 ^ (W * a) < 2 ^ s := by
    rw [Nat.div_lt_iff_lt_mul (Nat.two_pow_pos _), ← Nat.pow_add, Nat.add_comm s]
    exact hM
  have h2 : 2 ^ (s + 1) ≤ 2 ^ W := Nat.pow_le_pow_right (by omega) hs
  have h3 : 2 ^ W ≤ 2 ^ 64 := Nat.pow_le_pow_right (by omega) hW
  have h4 : x.toNat ≤ 1 := by cases x <;> decide
  have h5 : x.toNat * 2 ^ s ≤ 1 * 2 ^ s := Nat.mul_le_mul_right _ h4
  rw [Nat.pow_succ] at h2
  refine ⟨?_, by omega, h1⟩
  have e : IntKind.u64.wrap (bi x * 2 ^ s) = ((x.toNat * 2 ^ s : Nat) : Int) := by
    rw [bi_nat, show (2 : Int) ^ s = ((2 ^ s : Nat) : Int) from by simp, ← Int.natCast_mul, IntKind.wrap_u64]
    omega
  rw [e, u64_or_nat _ _ (by omega) (by omega), Nat.or_comm, nat_join s _ _ (Nat.mul_mod_left _ _) h1, Nat.add_comm]
theorem dig_cell {w X : World} {D W c a s : Nat} {pre : List Bool} (h : US w X D W c (num pre) pre.length) (ha : a < c) (hs : s < W) (ht : pre.length = W * a + s) :
    X.cell? ⟨w.heap.size + 1 + 1 + 1 + 1, a, none⟩ = some (.int .u64 ((num pre / 2 ^ (W * a) : Nat) : Int)) ∧ X.frozen? ⟨w.heap.size + 1 + 1 + 1 + 1, a, none⟩ = false := by
  refine ⟨?_, h.row.frozenAt a⟩
  have hlt := num_lt pre
  rw [ht] at hlt
  have h1 : num pre / 2 ^ (W * a) < 2 ^ s := by
    rw [Nat.div_lt_iff_lt_mul (Nat.two_pow_pos _), ← Nat.pow_add, Nat.add_comm s]
    exact hlt
  have h2 : 2 ^ s ≤ 2 ^ W := Nat.pow_le_pow_right (by omega) (by omega)
  rw [h.row.cellAt a (by omega)]
  unfold c64
  rw [List.getElem?_map, upk_get W c _ a ha, Nat.mod_eq_of_lt (by omega)]
  rfl

/-- where the loop stands behind the laying of a bit -/
structure UL (w X Y : World) (D W c M a s : Nat) : Prop where
  bw : Boxed Y w.heap.size 3 (.int .i64 W)
  bc : Boxed Y (w.heap.size + 1) 3 (.int .i64 c)
  r1 : Boxed Y (w.heap.size + 1 + 1) 64 (.slice none 0 0)
  r2 : Boxed Y (w.heap.size + 1 + 1 + 1) 28 (.int .i64 0)
  bo : Boxed Y D 64 (.slice (some ⟨w.heap.size + 1 + 1 + 1 + 1, 0, none⟩) c c)
  row : Y.ownsRow (w.heap.size + 4) 65 1 (.slice (some ⟨w.heap.size + 1 + 1 + 1 + 1, 0, none⟩) c c) c (c64 (upk W c M))
  p1 : Boxed Y (D + 1) 3 (.int .i64 a)
  p2 : Boxed Y (D + 1 + 1) 3 (.int .i64 s)
  hM : M < 2 ^ (W * c)
  hB : Below w.heap.size w Y
  ko : KeepsOthers X Y
  bx : Below w.heap.size X Y
  hD : w.heap.size + 1 + 1 + 1 + 1 < D
theorem boxed_otherc {X : World} {b g o : Nat} {t : TypeId} {v : Value} (h : Boxed X b t v) (hne : b ≠ g) (u : Value) : Boxed (X.setCell ⟨g, o, none⟩ u).drew b t v := (Below.heap_setCell X ⟨g, o, none⟩ u b hne).trans h
theorem US.lay {w X : World} {D W c a s : Nat} {pre : List Bool} {x : Bool} {dg : Int} (h : US w X D W c (num pre) pre.length) (hD : w.heap.size + 1 + 1 + 1 + 1 < D) (p1 : Boxed X (D + 1) 3 (.int .i64 a)) (p2 : Boxed X (D + 1 + 1) 3 (.int .i64 s))
    (ha : a < c) (hs : s < W) (hW : W ≤ 64) (ht : pre.length = W * a + s) (hdg : dg = ((num pre / 2 ^ (W * a) : Nat) : Int)) :
    UL w X (X.setCell ⟨w.heap.size + 1 + 1 + 1 + 1, a, none⟩ (.int .u64 (bits .or .u64 dg (IntKind.u64.wrap (bi x * 2 ^ s))))).drew D W c (num (pre ++ [x])) a s := by
  have hlt := num_lt pre
  have hlt2 := num_lt (pre ++ [x])
  rw [ht] at hlt
  obtain ⟨o1, o2, o3⟩ := dig_or (num pre) W a s x hlt hs hW
  rw [hdg, o1]
  have e : num (pre ++ [x]) = num pre + x.toNat * 2 ^ s * 2 ^ (W * a) := by rw [num_snoc, ht, Nat.pow_add, Nat.mul_assoc, Nat.mul_comm (2 ^ s)]
  refine ⟨boxed_otherc h.bw (by omega) _, boxed_otherc h.bc (by omega) _, boxed_otherc h.r1 (by omega) _, boxed_otherc h.r2 (by omega) _, boxed_otherc h.bo (by omega) _, ?_, boxed_otherc p1 (by omega) _, boxed_otherc p2 (by omega) _, ?_,
    (h.hB.setCell (p := ⟨w.heap.size + 1 + 1 + 1 + 1, a, none⟩) (by simp; omega) _).drew, (KeepsOthers.setCell _ _ _).trans (KeepsOthers.drew _), ((Below.refl _ _).setCell (p := ⟨w.heap.size + 1 + 1 + 1 + 1, a, none⟩) (by simp; omega) _).drew, hD⟩
  · rw [e, upk_add W c (num pre) a _ ha o2]
    have h := (h.row.stored a (.int .u64 ((num pre / 2 ^ (W * a) + x.toNat * 2 ^ s : Nat) : Int))).1.drew
    unfold c64 at h ⊢
    rw [← List.map_set] at h
    exact h
  · refine Nat.lt_of_lt_of_le hlt2 (Nat.pow_le_pow_right (by omega) ?_)
    rw [List.length_append, List.length_singleton, ht]
    have : W * (a + 1) ≤ W * c := Nat.mul_le_mul_left _ ha
    rw [Nat.mul_succ] at this
    omega
theorem UL.next1 {w X Y : World} {D W c M a s t : Nat} {S : Int} (h : UL w X Y D W c M a s) (ha : a < c) (hs : s + 1 < W) (ht : t = W * a + s + 1) (hS : S = (s : Int) + 1) : KeepsOthers X (Y.setCell ⟨D + 1 + 1, 0, none⟩ (.int .i64 S)) ∧ Below w.heap.size X (Y.setCell ⟨D + 1 + 1, 0, none⟩ (.int .i64 S)) ∧ US w (Y.setCell ⟨D + 1 + 1, 0, none⟩ (.int .i64 S)) D W c M t := by
  have hD := h.hD
  obtain rfl : S = ((s + 1 : Nat) : Int) := by omega
  refine ⟨h.ko.trans (KeepsOthers.setCell _ _ _), h.bx.setCell (p := ⟨D + 1 + 1, 0, none⟩) (by simp; omega) _, h.bw.other (by omega) _, h.bc.other (by omega) _, h.r1.other (by omega) _, h.r2.other (by omega) _, h.bo.other (by omega) _, ?_, ⟨a, s + 1, h.p1.other (by omega) _, Boxed.set _ h.p2, .inl ⟨ha, hs, by omega⟩⟩, h.hM, h.hB.setCell (p := ⟨D + 1 + 1, 0, none⟩) (by simp; omega) _⟩
  exact ownsRow_setCell_other h.row (a := ⟨D + 1 + 1, 0, none⟩) (by simp [Value.ownBlock]; omega) _
theorem UL.next2 {w X Y : World} {D W c M a s t : Nat} {S A : Int} (h : UL w X Y D W c M a s) (ha : a < c) (hs : s + 1 = W) (ht : t = W * a + s + 1) (hA : A = (a : Int) + 1) :
    KeepsOthers X (((Y.setCell ⟨D + 1 + 1, 0, none⟩ (.int .i64 S)).setCell ⟨D + 1, 0, none⟩ (.int .i64 A)).setCell ⟨D + 1 + 1, 0, none⟩ (.int .i64 0)) ∧ Below w.heap.size X (((Y.setCell ⟨D + 1 + 1, 0, none⟩ (.int .i64 S)).setCell ⟨D + 1, 0, none⟩ (.int .i64 A)).setCell ⟨D + 1 + 1, 0, none⟩ (.int .i64 0)) ∧
    US w (((Y.setCell ⟨D + 1 + 1, 0, none⟩ (.int .i64 S)).setCell ⟨D + 1, 0, none⟩ (.int .i64 A)).setCell ⟨D + 1 + 1, 0, none⟩ (.int .i64 0)) D W c M t := by
  have hD := h.hD
  obtain rfl : A = ((a + 1 : Nat) : Int) := by omega
  have g1 : ∀ (B : Nat), Below B X Y → B ≤ D → Below B X (((Y.setCell ⟨D + 1 + 1, 0, none⟩ (.int .i64 S)).setCell ⟨D + 1, 0, none⟩ (.int .i64 ((a + 1 : Nat) : Int))).setCell ⟨D + 1 + 1, 0, none⟩ (.int .i64 0)) := fun B hb hl => ((hb.setCell (p := ⟨D + 1 + 1, 0, none⟩) (by simp; omega) _).setCell (p := ⟨D + 1, 0, none⟩) (by simp; omega) _).setCell (p := ⟨D + 1 + 1, 0, none⟩) (by simp; omega) _
  have bo : ∀ {b : Nat} {t : TypeId} {v : Value}, Boxed Y b t v → b ≤ D → Boxed (((Y.setCell ⟨D + 1 + 1, 0, none⟩ (.int .i64 S)).setCell ⟨D + 1, 0, none⟩ (.int .i64 ((a + 1 : Nat) : Int))).setCell ⟨D + 1 + 1, 0, none⟩ (.int .i64 0)) b t v := fun hb hl => ((hb.other (by omega) _).other (by omega) _).other (by omega) _
  refine ⟨((h.ko.trans (KeepsOthers.setCell _ _ _)).trans (KeepsOthers.setCell _ _ _)).trans (KeepsOthers.setCell _ _ _), g1 _ h.bx (by omega), bo h.bw (by omega), bo h.bc (by omega), bo h.r1 (by omega), bo h.r2 (by omega), bo h.bo (by omega), ?_,
    ⟨a + 1, 0, (Boxed.set _ (h.p1.other (by omega) _)).other (by omega) _, Boxed.set _ ((Boxed.set _ h.p2).other (by omega) _), ?_⟩, h.hM,
    ((h.hB.setCell (p := ⟨D + 1 + 1, 0, none⟩) (by simp; omega) _).setCell (p := ⟨D + 1, 0, none⟩) (by simp; omega) _).setCell (p := ⟨D + 1 + 1, 0, none⟩) (by simp; omega) _⟩
  · exact ownsRow_setCell_other (ownsRow_setCell_other (ownsRow_setCell_other h.row (a := ⟨D + 1 + 1, 0, none⟩) (by simp [Value.ownBlock]; omega) _) (a := ⟨D + 1, 0, none⟩) (by simp [Value.ownBlock]; omega) _) (a := ⟨D + 1 + 1, 0, none⟩) (by simp [Value.ownBlock]; omega) _
  · have e : W * (a + 1) = W * a + W := Nat.mul_succ _ _
    rcases Nat.lt_or_ge (a + 1) c with h1 | h1
    · exact .inl ⟨h1, by omega, by omega⟩
    · obtain rfl : c = a + 1 := by omega
      exact .inr (.inl ⟨rfl, rfl, by omega⟩)

theorem unpack_end {w X : World} {v1 v2 : Value} {t : Array Value} {D2 : Nat} {R : Ending → World → Prop} (r1 : Boxed X (w.heap.size + 1 + 1) 64 v1) (r2 : Boxed X (w.heap.size + 1 + 1 + 1) 28 v2) (hK : X.heap[D2]? = some (.deferred (some [])))
    (t1 : t[6]? = some (.pointer (some ⟨w.heap.size + 1 + 1, 0, none⟩))) (t2 : t[7]? = some (.pointer (some ⟨w.heap.size + 1 + 1 + 1, 0, none⟩))) (hR : R (.returned (.tuple #[v1, v2])) (X.putObj D2 (.deferred none))) :
    bodyPostM Fence.wide 4 Try.prog Try.f56 R .ret { tmps := t, defers := [{ target := .collected D2, args := #[] }] } X := by
  refine ⟨by simp, .inl ⟨_, _, rfl, run_takeDeferred hK, ?_⟩⟩
  have b1 := (boxed_kept r1 (grownBy_putObj' X D2 (.deferred none)) (fun r e => by cases e; exact ⟨_, hK, rfl⟩)).cell
  have b2 := (boxed_kept r2 (grownBy_putObj' X D2 (.deferred none)) (fun r e => by cases e; exact ⟨_, hK, rfl⟩)).cell
  refine ⟨_, ?_, hR⟩
  simp [results, Try.f56, go_sem, b1, b2, t1, t2]


set_option maxRecDepth 100000 in
set_option maxHeartbeats 4000000 in
theorem unpack_main (ad : Option Addr) (len cap W c B : Nat) (w : World) (hsz : sze W c = 0) (hS : len = (c * W + 7) / 8) (hB : BytesAt w.heap.size w ad len B) (hBl : B < 2 ^ (8 * len)) :
    Calls Try.prog 56 #[.slice ad len cap, .int .i64 W, .int .i64 c] w fun e w' => ((B < 2 ^ (W * c) ∧ ∃ v, e = .returned (.tuple #[v, .int .i64 0]) ∧ w'.ownsRow w.heap.size 65 1 v c (c64 (upk W c B))) ∨
      (¬ B < 2 ^ (W * c) ∧ e = .returned (.tuple #[.slice none 0 0, .int .i64 8]))) ∧ Below w.heap.size w w' := by
  obtain ⟨hW, hc, hSb, _⟩ := size_le hsz
  have HC := fun wx => size_ok hsz hS wx
  obtain ⟨i0, hi, hz0, hz1, hz2⟩ := info_parts Try.info65
  rw [← hS] at hSb
  have HS : Hid (len = (c * W + 7) / 8) := hS
  have HBl : Hid (B < 2 ^ (8 * len)) := hBl
  have hl' : (len : Int) ≤ 1048576 := by omega
  clear hsz hS hBl
  refine (callsIn_wide (n := 4)).1 ?_
  refine callsIn_of_wp_marks Try.func56 rfl trivial ?_ rfl
  simp only [Try.ntmps56, List.size_toArray, List.length_cons, List.length_nil, Nat.reduceAdd, Nat.reduceSub, Array.replicate_succ, Array.replicate_zero, List.push_toArray, List.append_toArray, List.nil_append, List.cons_append]
  gi_wp2_with (first | (refine ⟨trivial, ?_⟩; gi_at_call 54; refine (callsIn_wide.2 (HC _)).mono ?_; rintro e wx ⟨rfl, hwx⟩; obtain rfl := hwx.symm) | (gi_at_make; refine wpListIn_make_full _ rfl _ _ 64 rfl (w.heap.size + 4) 65 i0 (.int .u64 0) 1 Try.underlying64 hi hz0 hz1 _ _ _ _ c rfl rfl rfl rfl (by rw [hz2]; omega) (by unfold maxLen; omega) (by simp) ?_; intro w1 hown1 hgrow1) | (refine ⟨trivial, ?_⟩; gi_at_call 85; refine (bitsOf_in Fence.wide 3 trivial rfl _ _ _ _).mono ?_; rintro e wx ⟨rfl, hwx⟩; subst hwx))
  have B4 := below4 w (.cells #[.int .i64 W] 3) (.cells #[.int .i64 c] 3) (.cells #[.slice none 0 0] 64) (.cells #[.int .i64 0] 28)
  have e4 : ((((w.alloc (.cells #[.int .i64 W] 3)).alloc (.cells #[.int .i64 c] 3)).alloc (.cells #[.slice none 0 0] 64)).alloc (.cells #[.int .i64 0] 28)).heap.size = w.heap.size + 1 + 1 + 1 + 1 := by simp
  have q1 : Boxed ((((w.alloc (.cells #[.int .i64 W] 3)).alloc (.cells #[.int .i64 c] 3)).alloc (.cells #[.slice none 0 0] 64)).alloc (.cells #[.int .i64 0] 28)) w.heap.size 3 (.int .i64 W) := (((Boxed.new w 3 _).alloc _).alloc _).alloc _
  have q2 : Boxed ((((w.alloc (.cells #[.int .i64 W] 3)).alloc (.cells #[.int .i64 c] 3)).alloc (.cells #[.slice none 0 0] 64)).alloc (.cells #[.int .i64 0] 28)) (w.heap.size + 1) 3 (.int .i64 c) := by
    have h := ((Boxed.new (w.alloc (.cells #[.int .i64 W] 3)) 3 (.int .i64 c)).alloc (.cells #[.slice none 0 0] 64)).alloc (.cells #[.int .i64 0] 28)
    simpa using h
  have q3 : Boxed ((((w.alloc (.cells #[.int .i64 W] 3)).alloc (.cells #[.int .i64 c] 3)).alloc (.cells #[.slice none 0 0] 64)).alloc (.cells #[.int .i64 0] 28)) (w.heap.size + 1 + 1) 64 (.slice none 0 0) := by
    have h := (Boxed.new ((w.alloc (.cells #[.int .i64 W] 3)).alloc (.cells #[.int .i64 c] 3)) 64 (.slice none 0 0)).alloc (.cells #[.int .i64 0] 28)
    simpa using h
  have q4 : Boxed ((((w.alloc (.cells #[.int .i64 W] 3)).alloc (.cells #[.int .i64 c] 3)).alloc (.cells #[.slice none 0 0] 64)).alloc (.cells #[.int .i64 0] 28)) (w.heap.size + 1 + 1 + 1) 28 (.int .i64 0) := by
    have h := Boxed.new (((w.alloc (.cells #[.int .i64 W] 3)).alloc (.cells #[.int .i64 c] 3)).alloc (.cells #[.slice none 0 0] 64)) 28 (.int .i64 0)
    simpa using h
  rw [e4] at hown1
  generalize ((((w.alloc (.cells #[.int .i64 W] 3)).alloc (.cells #[.int .i64 c] 3)).alloc (.cells #[.slice none 0 0] 64)).alloc (.cells #[.int .i64 0] 28)) = W4 at *
  have hD : w.heap.size + 1 + 1 + 1 + 1 ≤ w1.heap.size := by rw [← e4]; exact hgrow1.size
  have B1 : Below w.heap.size w w1 := B4.grown hgrow1 (by omega) (fun _ e => by cases e)
  rw [made_zero] at hown1
  have hDs : w.heap.size + 1 + 1 + 1 + 1 < w1.heap.size := (hown1.lt _ rfl).2
  have us1 : US w ((((w1.alloc (.cells #[.slice (some ⟨w.heap.size + 1 + 1 + 1 + 1, 0, none⟩) c c] 64)).alloc (.cells #[.int .i64 0] 3)).alloc (.cells #[.int .i64 0] 3)).alloc (.cells #[.slice ad len cap] 27)) w1.heap.size W c 0 0 := by
    refine ⟨((((q1.kept hgrow1 (by simp)).alloc _).alloc _).alloc _).alloc _, ((((q2.kept hgrow1 (by simp)).alloc _).alloc _).alloc _).alloc _, ((((q3.kept hgrow1 (by simp)).alloc _).alloc _).alloc _).alloc _, ((((q4.kept hgrow1 (by simp)).alloc _).alloc _).alloc _).alloc _, (((Boxed.new w1 64 _).alloc _).alloc _).alloc _, ?_, ⟨0, 0, ?_, ?_, ?_⟩, Nat.two_pow_pos _, ?_⟩
    · have h := (((hown1.alloc (.cells #[.slice (some ⟨w.heap.size + 1 + 1 + 1 + 1, 0, none⟩) c c] 64)).alloc (.cells #[.int .i64 0] 3)).alloc (.cells #[.int .i64 0] 3)).alloc (.cells #[.slice ad len cap] 27)
      rw [upk_zero]
      simpa [c64] using h
    · have h := ((Boxed.new (w1.alloc (.cells #[.slice (some ⟨w.heap.size + 1 + 1 + 1 + 1, 0, none⟩) c c] 64)) 3 (.int .i64 0)).alloc (.cells #[.int .i64 0] 3)).alloc (.cells #[.slice ad len cap] 27)
      simpa using h
    · have h := (Boxed.new ((w1.alloc (.cells #[.slice (some ⟨w.heap.size + 1 + 1 + 1 + 1, 0, none⟩) c c] 64)).alloc (.cells #[.int .i64 0] 3)) 3 (.int .i64 0)).alloc (.cells #[.slice ad len cap] 27)
      simpa using h
    · rcases Nat.eq_zero_or_pos c with h | h
      · exact .inr (.inl ⟨h.symm, rfl, by rw [h]; simp⟩)
      · rcases Nat.eq_zero_or_pos W with h2 | h2
        · exact .inr (.inr h2)
        · exact .inl ⟨h, h2, by simp⟩
    · exact (((B1.alloc (by omega) _).alloc (by simp; omega) _).alloc (by simp; omega) _).alloc (by simp; omega) _
  have hbb : ((((w1.alloc (.cells #[.slice (some ⟨w.heap.size + 1 + 1 + 1 + 1, 0, none⟩) c c] 64)).alloc (.cells #[.int .i64 0] 3)).alloc (.cells #[.int .i64 0] 3)).alloc (.cells #[.slice ad len cap] 27)).cell? ⟨w1.heap.size + 1 + 1 + 1, 0, none⟩ = some (.slice ad len cap) := by
    have h := (Boxed.new (((w1.alloc (.cells #[.slice (some ⟨w.heap.size + 1 + 1 + 1 + 1, 0, none⟩) c c] 64)).alloc (.cells #[.int .i64 0] 3)).alloc (.cells #[.int .i64 0] 3)) 27 (.slice ad len cap)).cell
    simpa using h
  have e5 : ((((w1.alloc (.cells #[.slice (some ⟨w.heap.size + 1 + 1 + 1 + 1, 0, none⟩) c c] 64)).alloc (.cells #[.int .i64 0] 3)).alloc (.cells #[.int .i64 0] 3)).alloc (.cells #[.slice ad len cap] 27)).heap.size = w1.heap.size + 1 + 1 + 1 + 1 := by simp
  clear hown1 hgrow1 q1 q2 q3 q4 B4 e4 hi hz0 hz1 hz2 HC
  generalize ((((w1.alloc (.cells #[.slice (some ⟨w.heap.size + 1 + 1 + 1 + 1, 0, none⟩) c c] 64)).alloc (.cells #[.int .i64 0] 3)).alloc (.cells #[.int .i64 0] 3)).alloc (.cells #[.slice ad len cap] 27)) = W5 at us1 hbb e5 ⊢
  generalize w1.heap.size = D at *
  have hD5 : w.heap.size ≤ W5.heap.size := by omega
  refine wpIn_rangeFunc_ownF rfl (by omega) (gf := 93) (lb := #[.pointer (some ⟨D + 1 + 1 + 1, 0, none⟩)]) rfl trivial (enters_of Try.func93 (by kernel_rfl) rfl)
    (bits_stops Fence.wide 3 trivial rfl (by omega) (D + 1 + 1 + 1) w.heap.size B len cap ad hSb W5 (by omega) hD5 hbb (hB.below us1.hB)) belowK_t (belowK_b hD5) (Below.refl _ _) (fun _ => rfl)
    (fun pre X => US w X D W c (num pre) pre.length) (fun cd pre X => cd = .ret ∧ ¬ num pre < 2 ^ (W * c) ∧ UX w X)
    (fun s A C row hs hg hr => hs.kept hD5 hg hr) (fun cd s A C row hs hg hr => ⟨hs.1, hs.2.1, hs.2.2.kept hD5 hg hr⟩) us1 ?act ?assign ?body ?done ?stop
  case assign =>
    intro l x X K hK
    gi_wp2
    exact hK
  case body =>
    rintro l pre x X us hN
    obtain ⟨a, s, p1, p2, p3⟩ := us.pos
    have k1 := us.bw.cell
    have k2 := us.bc.cell
    have k3 := us.r1.cell
    have k4 := us.r2.cell
    have k5 := us.bo.cell
    have k6 := p1.cell
    have k7 := p2.cell
    have f3 := us.r1.frozen
    have f4 := us.r2.frozen
    have f6 := p1.frozen
    have f7 := p2.frozen
    have HP : Hid (a < c ∧ s < W ∧ pre.length = W * a + s ∨ a = c ∧ s = 0 ∧ W * c ≤ pre.length ∨ W = 0) := p3
    have HUS : Hid _ := us
    clear us p3
    by_cases hac : a = c
    · have hac' : ((a : Int) == (c : Int)) = true := by simp; omega
      cases x
      · have hx0 : bi false = 0 := rfl
        have HE : Hid _ := HUS.out.skip p1 p2 (pos_end HP.out hac hN HS.out)
        clear hac
        gi_wp2
        exact ⟨KeepsOthers.refl _, Below.refl _ _, HE.out⟩
      · have hx0 : bi true = 1 := rfl
        have HE : Hid _ := HUS.out.leave (pos_end HP.out hac hN HS.out).2.2
        clear hac
        gi_wp2
        exact ⟨(KeepsOthers.setCell _ _ _).trans (KeepsOthers.setCell _ _ _), rfl, HE.out.1, HE.out.2⟩
    · have hac' : ((a : Int) == (c : Int)) = false := by simp; omega
      obtain ⟨ha, hsW, HT⟩ := pos_in HP.out hac hN HS.out
      obtain ⟨kd, fd⟩ := dig_cell HUS.out ha hsW HT
      have HTh : Hid (pre.length = W * a + s) := HT
      have hlt := num_lt pre
      rw [HT] at hlt
      have HO : Hid _ := dig_or (num pre) W a s x hlt hsW hW
      have ha' : (a : Int) < (c : Int) := by omega
      have hbx : 0 ≤ bi x ∧ bi x ≤ 1 := by unfold bi; split <;> omega
      clear hac HT hlt
      obtain ⟨dg, hdg⟩ : ∃ dg : Int, dg = ((num pre / 2 ^ (W * a) : Nat) : Int) := ⟨_, rfl⟩
      rw [← hdg] at kd
      have HDG : Hid _ := hdg
      clear hdg
      have HS64 : Hid (s ≤ 64) := by show s ≤ 64; omega
      gi_wp2
      refine region17 (fun c a a' w h => h) hbx.1 hbx.2 HS64 ha' k5 k6 k7 kd fd ?_
      dsimp only
      obtain ⟨Y, hY⟩ : ∃ Y, Y = (X.setCell ⟨w.heap.size + 1 + 1 + 1 + 1, a, none⟩ (.int .u64 (bits .or .u64 dg (IntKind.u64.wrap (bi x * 2 ^ s))))).drew := ⟨_, rfl⟩
      have UY := HUS.out.lay (x := x) hDs p1 p2 ha hsW hW HTh.out HDG.out
      rw [← hY] at UY ⊢
      clear hY k1 k2 k3 k4 k5 k6 k7 kd f3 f4 f6 f7 fd p1 p2
      have k1 := UY.bw.cell
      have k6 := UY.p1.cell
      have k7 := UY.p2.cell
      have f6 := UY.p1.frozen
      have f7 := UY.p2.frozen
      have HL : Hid ((pre ++ [x]).length = W * a + s + 1) := by show _ = _; rw [List.length_append, List.length_singleton, HTh.out]
      by_cases hsw : s + 1 = W
      · have hsw' : ((s : Int) + 1 == (W : Int)) = true := by simp; omega
        have HW : Hid _ := hsw
        clear hsw
        gi_wp2
        exact UY.next2 ha HW.out HL.out rfl
      · have hsw' : ((s : Int) + 1 == (W : Int)) = false := by simp; omega
        have HW : Hid (s + 1 < W) := by show s + 1 < W; omega
        clear hsw
        gi_wp2
        exact UY.next1 ha HW.out HL.out rfl
  case done =>
    rintro D2 ys X hD2 rfl us hK
    have k3 := us.r1.cell
    have k4 := us.r2.cell
    have k5 := us.bo.cell
    have f3 := us.r1.frozen
    have f4 := us.r2.frozen
    have hn : num (upto (bt B) (8 * len)) = B := by unfold num; rw [pk_bits, Nat.mod_eq_of_lt HBl.out]
    rw [hn] at us
    gi_wp2
    have u1 : Boxed ((X.setCell ⟨w.heap.size + 1 + 1, 0, none⟩ (.slice (some ⟨w.heap.size + 1 + 1 + 1 + 1, 0, none⟩) c c)).setCell ⟨w.heap.size + 1 + 1 + 1, 0, none⟩ (.int .i64 0)) (w.heap.size + 1 + 1) 64 (.slice (some ⟨w.heap.size + 1 + 1 + 1 + 1, 0, none⟩) c c) := (Boxed.set _ us.r1).other (by omega) _
    have u2 : Boxed ((X.setCell ⟨w.heap.size + 1 + 1, 0, none⟩ (.slice (some ⟨w.heap.size + 1 + 1 + 1 + 1, 0, none⟩) c c)).setCell ⟨w.heap.size + 1 + 1 + 1, 0, none⟩ (.int .i64 0)) (w.heap.size + 1 + 1 + 1) 28 (.int .i64 0) := Boxed.set _ (us.r2.other (by omega) _)
    have hK2 := ((KeepsOthers.setCell X ⟨w.heap.size + 1 + 1, 0, none⟩ (.slice (some ⟨w.heap.size + 1 + 1 + 1 + 1, 0, none⟩) c c)).trans (KeepsOthers.setCell _ ⟨w.heap.size + 1 + 1 + 1, 0, none⟩ (.int .i64 0))).same D2 _ hK rfl
    have hb := (us.hB.setCell (p := ⟨w.heap.size + 1 + 1, 0, none⟩) (by simp; omega) (.slice (some ⟨w.heap.size + 1 + 1 + 1 + 1, 0, none⟩) c c)).setCell (p := ⟨w.heap.size + 1 + 1 + 1, 0, none⟩) (by simp; omega) (.int .i64 0)
    have hrow := ownsRow_setCell_other (ownsRow_setCell_other us.row (a := ⟨w.heap.size + 1 + 1, 0, none⟩) (by simp [Value.ownBlock]; try omega) (.slice (some ⟨w.heap.size + 1 + 1 + 1 + 1, 0, none⟩) c c)) (a := ⟨w.heap.size + 1 + 1 + 1, 0, none⟩) (by simp [Value.ownBlock]; try omega) (.int .i64 0)
    refine unpack_end u1 u2 hK2 rfl rfl ⟨.inl ⟨us.hM, _, rfl, row_base (row_own hrow (grownBy_putObj' _ D2 _) (fun r e => by cases e; exact ⟨_, hK2, rfl⟩)) (by omega)⟩, hb.trans (belowK_b (w := w) (Nat.le_refl _) _ D2 _ _ (by omega) hK2 rfl rfl)⟩
  case stop =>
    rintro D2 cd pre X hD2 ⟨k, hk, rfl⟩ ⟨rfl, hno, us⟩ hK
    have hn : ¬ B < 2 ^ (W * c) := by
      unfold num at hno
      rw [pk_bits] at hno
      have := Nat.mod_le B (2 ^ k)
      omega
    gi_wp2
    refine unpack_end us.r1 us.r2 hK rfl rfl ⟨.inr ⟨hn, rfl⟩, us.hB.trans (belowK_b (w := w) (Nat.le_refl _) _ D2 _ _ (by omega) hK rfl rfl)⟩
end Go.Proofs.Ytdglobonbhkheaa

/-
  bits.Unpack and the reference's Unpack answer the same, refusals too.
-/
namespace Go.Proofs.Ytdglobonbhkheaa
open Go.ChangeShapes Go.WideShapes Go.ChangeAt Go.RowKit

theorem row_num8 {w : World} {a : Option Addr} {l c : Nat} {z : List Int} (h : IsRow .u8 w a l c z) : ∃ B : Nat, B < 2 ^ (8 * l) ∧ Src w a l c (c8 (upk 8 l B)) := by
  have hb : ∀ x ∈ z.take l, 0 ≤ x ∧ x ≤ 255 := by
    intro x hx
    have hx' := List.mem_of_mem_take hx
    rcases h with ⟨_, _, _, rfl⟩ | ⟨_, _, _, _, _, _, hw⟩
    · cases hx'
    · simpa [Lit.wf, IntKind.min, IntKind.max, IntKind.signed, IntKind.bits] using hw x hx'
  have hl : (z.take l).length = l := by have := h.len_le; rw [List.length_take]; omega
  have s := h.src
  generalize z.take l = zs at *
  have hf : Fit 8 (zs.map Int.toNat) := by
    intro n hn
    obtain ⟨x, hx, rfl⟩ := List.mem_map.1 hn
    have := hb x hx
    omega
  have hll : (zs.map Int.toNat).length = l := by rw [List.length_map, hl]
  refine ⟨pk 8 (zs.map Int.toNat), ?_, ?_⟩
  · have := pk_lt 8 _ hf
    rwa [hll] at this
  have e : upk 8 l (pk 8 (zs.map Int.toNat)) = zs.map Int.toNat := by
    rw [← hll]
    exact upk_pk 8 _ hf
  rw [e]
  unfold c8
  rw [List.map_map]
  rw [show zs.map ((fun b : Nat => Value.int .u8 (b : Int)) ∘ Int.toNat) = zs.map (Value.int .u8) from List.map_congr_left (fun x hx => by
    have := hb x hx
    show Value.int .u8 ((x.toNat : Nat) : Int) = _
    rw [Int.toNat_of_nonneg this.1])]
  exact s

theorem c64_ints (l : List Nat) : c64 l = (ints l).map (Value.int .u64) := by simp [c64, ints]
theorem i64_wf {a : Int} (h : (Lit.int .i64 a).wf = true) : -9223372036854775808 ≤ a ∧ a ≤ 9223372036854775807 := by
  simpa [Lit.wf, IntKind.min, IntKind.max, IntKind.signed, IntKind.bits] using h

/-- when it is unpacked, and into what -/
def UpkOk (wd ct : Int) (len B : Nat) (L : List Nat) : Prop := ∃ W c : Nat, wd = W ∧ ct = c ∧ sze W c = 0 ∧ len = (c * W + 7) / 8 ∧ B < 2 ^ (W * c) ∧ L = upk W c B

theorem unpack_any (len B : Nat) (wd ct : Int) (hlen : len ≤ 1048576) (hBl : B < 2 ^ (8 * len)) (h1 : -9223372036854775808 ≤ wd) (h2 : wd ≤ 9223372036854775807) (h3 : -9223372036854775808 ≤ ct) (h4 : ct ≤ 9223372036854775807) : ∃ (er : Int) (L : List Nat),
    ((er = 0 ∧ UpkOk wd ct len B L) ∨ (er ≠ 0 ∧ L = [])) ∧
    (∀ w ad cap, Src w ad len cap (c8 (upk 8 len B)) → Calls Try.prog 56 #[.slice ad len cap, .int .i64 wd, .int .i64 ct] w fun e w' => ∃ v, e = .returned (.tuple #[v, .int .i64 er]) ∧ w'.ownsRow w.heap.size 65 1 v L.length (c64 L) ∧ Below w.heap.size w w') ∧
    (∀ w ad cap, Src w ad len cap (c8 (upk 8 len B)) → Calls Try.prog 25 #[.slice ad len cap, .int .i64 wd, .int .i64 ct] w fun e w' => ∃ v, e = .returned (.tuple #[v, .int .i64 er]) ∧ w'.ownsRow w.heap.size 65 1 v L.length (c64 L) ∧ Below w.heap.size w w') := by
  by_cases hsz : sze wd ct = 0
  · have h0 : 0 ≤ wd ∧ 0 ≤ ct := by
      unfold sze at hsz
      split at hsz <;> omega
    obtain ⟨W, rfl⟩ := Int.eq_ofNat_of_zero_le h0.1
    obtain ⟨c, rfl⟩ := Int.eq_ofNat_of_zero_le h0.2
    rcases Nat.lt_trichotomy len ((c * W + 7) / 8) with hl | hl | hl
    · refine ⟨6, [], .inr ⟨by omega, rfl⟩, fun w ad cap hs => ?_, fun w ad cap hs => ?_⟩
      · refine (unpack_short ad len cap W c _ w hsz rfl hlen hl).mono ?_
        rintro e w' ⟨rfl, hb⟩
        exact ⟨_, rfl, World.ownsRow_nil _ _ _ _, hb⟩
      · refine (runpack_short ad len cap W c _ w hsz rfl hl).mono ?_
        rintro e w' ⟨rfl, rfl⟩
        exact ⟨_, rfl, World.ownsRow_nil _ _ _ _, Below.refl _ _⟩
    · by_cases hok : B < 2 ^ (W * c)
      · refine ⟨0, upk W c B, .inl ⟨rfl, W, c, rfl, rfl, hsz, hl, hok, rfl⟩, fun w ad cap hs => ?_, fun w ad cap hs => ?_⟩
        · refine (unpack_main ad len cap W c B w hsz hl (bytesAt_num (num_src hs) (Nat.le_refl _)) hBl).mono ?_
          rintro e w' ⟨⟨_, v, rfl, hown⟩ | ⟨hno, _⟩, hb⟩
          · exact ⟨v, rfl, by rw [upk_len]; exact hown, hb⟩
          · exact absurd hok hno
        · refine (runpack_ok ad len cap W c B w hsz hl (num_src hs) hok).mono ?_
          rintro e w' ⟨v, rfl, hown, hb⟩
          exact ⟨v, rfl, by rw [upk_len]; exact hown, hb⟩
      · refine ⟨8, [], .inr ⟨by omega, rfl⟩, fun w ad cap hs => ?_, fun w ad cap hs => ?_⟩
        · refine (unpack_main ad len cap W c B w hsz hl (bytesAt_num (num_src hs) (Nat.le_refl _)) hBl).mono ?_
          rintro e w' ⟨⟨hok', _⟩ | ⟨_, rfl⟩, hb⟩
          · exact absurd hok' hok
          · exact ⟨_, rfl, World.ownsRow_nil _ _ _ _, hb⟩
        · refine (runpack_form ad len cap W c B w hsz hl (num_src hs) hBl hok).mono ?_
          rintro e w' ⟨rfl, rfl⟩
          exact ⟨_, rfl, World.ownsRow_nil _ _ _ _, Below.refl _ _⟩
    · refine ⟨7, [], .inr ⟨by omega, rfl⟩, fun w ad cap hs => ?_, fun w ad cap hs => ?_⟩
      · refine (unpack_extra ad len cap W c _ w hsz rfl hlen hl).mono ?_
        rintro e w' ⟨rfl, hb⟩
        exact ⟨_, rfl, World.ownsRow_nil _ _ _ _, hb⟩
      · refine (runpack_extra ad len cap W c _ w hsz rfl hl).mono ?_
        rintro e w' ⟨rfl, rfl⟩
        exact ⟨_, rfl, World.ownsRow_nil _ _ _ _, Below.refl _ _⟩
  · refine ⟨sze wd ct, [], .inr ⟨hsz, rfl⟩, fun w ad cap hs => ?_, fun w ad cap hs => ?_⟩
    · refine (unpack_size ad len cap wd ct w h1 h2 h3 h4 hsz).mono ?_
      rintro e w' ⟨rfl, hb⟩
      exact ⟨_, rfl, World.ownsRow_nil _ _ _ _, hb⟩
    · refine (runpack_size ad len cap wd ct w h1 h2 h3 h4 hsz).mono ?_
      rintro e w' ⟨rfl, rfl⟩
      exact ⟨_, rfl, World.ownsRow_nil _ _ _ _, Below.refl _ _⟩
end Go.Proofs.Ytdglobonbhkheaa
