/-
  dict: data as keys of a map; where a datum stands in a dictionary.
-/
import Derived.Test.YtlajjkpcgokinaaDkP
import Derived.Maps.OwnSet
import Derived.DeepKeys4
namespace Go.Proofs.Ytlajjkpcgokinaa
set_option linter.unusedVariables false
set_option linter.unusedSimpArgs false
open Go.ChangeShapes Go.WideShapes Go.ChangeAt Go.RowKit Go.Sort Go.Deep Go.ChangeMaps Go.MapKept
open Go.Maps (Keyed)

theorem laidOutK : laidOutB Try.prog = true := by kernel_rfl
theorem wideK : (match Try.prog.underlying 28 with | some (.array _ _) | some (.struct _) => true | _ => false) = true := by kernel_rfl
set_option maxRecDepth 100000 in
theorem keyedK : Keyed Try.prog 28 := Keyed.of_law (deep_law_laid laidOutK (m := 2) (by omega) (of_decide_eq_true (by kernel_rfl)) (by kernel_rfl) wideK)
theorem keyTypeK : Try.prog.keyType 28 = true := by kernel_rfl
theorem tsizeK : ∃ m, Try.prog.types.size = m + 1 := by
  have h : decide (0 < Try.prog.types.size) = true := by kernel_rfl
  have h2 := of_decide_eq_true h
  exact ⟨Try.prog.types.size - 1, by omega⟩
theorem klk (x : Int) (h : (Lit.int .i64 x).wf = true) (d : Nat) : Try.prog.keyLits (d + 1) 26 [.int .i64 x] = some [.int .i64 x] := by
  unfold Program.keyLits
  simp only [Try.underlying26]
  rw [if_pos ⟨trivial, h⟩]
theorem kln (x : Int) (h : (Lit.int .i64 x).wf = true) (d : Nat) : Try.prog.keyLits (d + 1) 2 [.int .i64 x] = some [.int .i64 x] := by
  unfold Program.keyLits
  simp only [Try.underlying2]
  rw [if_pos ⟨trivial, h⟩]
theorem kls (s : ByteArray) (h : s.size ≤ maxLen) (d : Nat) : Try.prog.keyLits (d + 1) 9 [.string s] = some [.string s.data.toList] := by
  unfold Program.keyLits
  simp only [Try.underlying9]
  rw [if_pos h]
theorem klD (d : Dat) (h : d.wf) (m : Nat) : ∃ ls, Try.prog.keyLits (m + 1 + 1) 28 [.int .i64 d.k, .int .i64 d.n, .string d.s] = some ls := by
  obtain ⟨k1, k2, k3, k4⟩ := cellsD
  have e0 := klk d.k h.1 m
  have e1 := kln d.n h.2.1 m
  have e2 := kls d.s h.2.2 m
  unfold Program.keyLits
  simp only [Try.underlying28]
  rw [if_pos ⟨by rw [k4]; rfl, by kernel_rfl⟩]
  simp [List.mapM_cons, k1, k2, k3, e0, e1, e2]
theorem keyD (d : Dat) (h : d.wf) : ∃ kl, keyOf Try.prog 28 (.agg #[.int .i64 d.k, .int .i64 d.n, .string d.s]) = some kl := by
  obtain ⟨k1, k2, k3, k4⟩ := cellsD
  have hf : (Value.agg #[.int .i64 d.k, .int .i64 d.n, .string d.s]).formed Try.prog 28 = true := by simp [Value.formed, Try.underlying28, k4]
  obtain ⟨m, hm⟩ := tsizeK
  obtain ⟨ls, e⟩ := klD d h m
  unfold keyOf
  simp only [Try.underlying28, keyTypeK, hf, Bool.and_self, if_true, hm]
  have e' : Try.prog.keyLits (m + 1 + 1) 28 (Value.agg #[.int .i64 d.k, .int .i64 d.n, .string d.s]).cells.toList = some ls := e
  rw [e']
  exact ⟨_, rfl⟩
theorem zeroK (w : World) : (zeroValue 3).run Try.prog w = .ok (.int .i64 0) w := by
  have hi : (Try.prog.info? 3).map (·.zero) = some (some (.int .i64 0)) := by kernel_rfl
  cases hq : Try.prog.info? 3 with
  | none => simp [hq] at hi
  | some i =>
    have hz : i.zero = some (.int .i64 0) := by simpa [hq] using hi
    simp [zeroValue, typeInfo, hq, hz]

/-- where a datum stands -/
def ix (l : List Dat) (d : Dat) : Nat := l.findIdx (sameD d)
/-- a dictionary with one more -/
def addD (l : List Dat) (d : Dat) : List Dat := if l.any (sameD d) then l else l ++ [d]
def dictL (xs : List Dat) : List Dat := xs.foldl addD []
theorem any_mem {l : List Dat} {d : Dat} : l.any (sameD d) = true ↔ d ∈ l := by
  rw [List.any_eq_true]
  constructor
  · rintro ⟨e, he, h⟩
    rw [(sameD_iff d e).1 h]
    exact he
  · intro h
    exact ⟨d, h, sameD_refl d⟩
theorem ix_lt {l : List Dat} {d : Dat} (h : d ∈ l) : ix l d < l.length := List.findIdx_lt_length_of_exists ⟨d, h, sameD_refl d⟩
theorem ix_at {l : List Dat} {d : Dat} (h : d ∈ l) : l[ix l d]? = some d := by
  have hl := ix_lt h
  have := List.findIdx_getElem (p := sameD d) (xs := l) (w := hl)
  rw [List.getElem?_eq_getElem hl]
  exact congrArg some ((sameD_iff _ _).1 this).symm
theorem ix_append {l m : List Dat} {d : Dat} (h : d ∈ l) : ix (l ++ m) d = ix l d := by
  have hl := ix_lt h
  unfold ix at *
  rw [List.findIdx_append, if_pos hl]
theorem ix_new {l : List Dat} {d : Dat} (h : d ∉ l) : ix (l ++ [d]) d = l.length := by
  unfold ix
  have hn : l.findIdx (sameD d) = l.length := by
    rw [List.findIdx_eq_length]
    intro x hx
    cases hq : sameD d x
    · rfl
    · exact absurd ((sameD_iff _ _).1 hq ▸ hx) h
  rw [List.findIdx_append, hn, if_neg (Nat.lt_irrefl _)]
  simp [List.findIdx_cons, sameD_refl]
theorem mem_addD (l : List Dat) (d : Dat) : d ∈ addD l d := by
  unfold addD
  split
  · rename_i h
    exact any_mem.1 h
  · simp
theorem addD_pre (l : List Dat) (d : Dat) : ∃ r, addD l d = l ++ r := by
  unfold addD
  split
  · exact ⟨[], by simp⟩
  · exact ⟨[d], rfl⟩
theorem fold_pre : ∀ (xs : List Dat) (l : List Dat), ∃ r, xs.foldl addD l = l ++ r
  | [], l => ⟨[], by simp⟩
  | x :: xs, l => by
    obtain ⟨r1, h1⟩ := addD_pre l x
    obtain ⟨r2, h2⟩ := fold_pre xs (addD l x)
    exact ⟨r1 ++ r2, by rw [List.foldl_cons, h2, h1, List.append_assoc]⟩
theorem dictL_pre (xs : List Dat) (i : Nat) : ∃ r, dictL xs = dictL (xs.take i) ++ r := by
  have h := fold_pre (xs.drop i) (dictL (xs.take i))
  have e : dictL xs = (xs.drop i).foldl addD (dictL (xs.take i)) := by
    unfold dictL
    conv => lhs; rw [← List.take_append_drop i xs]
    rw [List.foldl_append]
  rw [e]
  exact h
theorem dictL_snoc {xs : List Dat} {i : Nat} {d : Dat} (h : xs[i]? = some d) : dictL (xs.take (i + 1)) = addD (dictL (xs.take i)) d := by
  obtain ⟨h1, h2⟩ := List.getElem?_eq_some_iff.1 h
  unfold dictL
  rw [List.take_succ_eq_append_getElem h1, List.foldl_append, h2]
  rfl
theorem dictL_mem {xs : List Dat} {i : Nat} {d : Dat} (h : xs[i]? = some d) : d ∈ dictL xs := by
  obtain ⟨r, hr⟩ := dictL_pre xs (i + 1)
  rw [hr, dictL_snoc h]
  exact List.mem_append_left _ (mem_addD _ _)
theorem ix_take {xs : List Dat} {i : Nat} {d : Dat} (h : xs[i]? = some d) : ix (addD (dictL (xs.take i)) d) d = ix (dictL xs) d := by
  obtain ⟨r, hr⟩ := dictL_pre xs (i + 1)
  rw [hr, dictL_snoc h, ix_append (mem_addD _ _)]
theorem addD_len (l : List Dat) (d : Dat) : (addD l d).length ≤ l.length + 1 := by
  unfold addD
  split <;> simp
theorem fold_len : ∀ (xs : List Dat) (l : List Dat), (xs.foldl addD l).length ≤ l.length + xs.length
  | [], l => by simp
  | x :: xs, l => by
    have h1 := addD_len l x
    have h2 := fold_len xs (addD l x)
    rw [List.foldl_cons, List.length_cons]
    omega
theorem dictL_len (xs : List Dat) : (dictL xs).length ≤ xs.length := by
  have := fold_len xs []
  unfold dictL
  simpa using this
theorem fold_sub : ∀ (xs : List Dat) (l : List Dat), ∀ d ∈ xs.foldl addD l, d ∈ l ∨ d ∈ xs
  | [], l => fun d h => .inl h
  | x :: xs, l => fun d h => by
    rcases fold_sub xs (addD l x) d h with h1 | h1
    · unfold addD at h1
      split at h1
      · exact .inl h1
      · rcases List.mem_append.1 h1 with h2 | h2
        · exact .inl h2
        · exact .inr (by simp at h2; simp [h2])
    · exact .inr (List.mem_cons_of_mem _ h1)
theorem dictL_sub {xs : List Dat} {d : Dat} (h : d ∈ dictL xs) : d ∈ xs := by
  rcases fold_sub xs [] d h with h1 | h1
  · cases h1
  · exact h1
/-- the numbers -/
def numsL (xs : List Dat) : List Nat := xs.map fun d => ix (dictL xs) d

/-- the map holds the places -/
def Inv (l : List Dat) (D : DataW Unit) : Prop := ∀ d : Dat, d.wf → ∀ kl, keyOf Try.prog 28 (.agg #[.int .i64 d.k, .int .i64 d.n, .string d.s]) = some kl →
  (d ∈ l → Maps.has D kl = true ∧ D.atKey kl (.lit (.int .i64 0)) = .lit (.int .i64 (ix l d : Nat))) ∧ (d ∉ l → Maps.has D kl = false)
theorem inv_nil : Inv [] (.map []) := fun d hd kl hk => ⟨fun h => (by cases h), fun _ => rfl⟩
theorem inv_snoc {l : List Dat} {D : DataW Unit} (h : Inv l D) (hm : Maps.IsMap D) {d : Dat} (hd : d.wf) (hn : d ∉ l) {kl : Lit} (hk : keyOf Try.prog 28 (.agg #[.int .i64 d.k, .int .i64 d.n, .string d.s]) = some kl) :
    Inv (l ++ [d]) (D.put kl (.lit (.int .i64 (l.length : Nat)))) := by
  intro e he ke hke
  by_cases hed : e = d
  · subst hed
    rw [hk] at hke
    cases hke
    refine ⟨fun _ => ⟨Maps.has_put_same hm (keyedK.key hk) _, ?_⟩, fun h => absurd (by simp) h⟩
    rw [Maps.atKey_put_same hm (keyedK.key hk), ix_new hn]
  · have hne : ke ≠ kl := by
      rintro rfl
      have := keyedK.inj hke hk
      simp at this
      exact hed (by obtain ⟨a, b, c⟩ := e; obtain ⟨a', b', c'⟩ := d; simp at this; rw [this.1, this.2.1, this.2.2])
    obtain ⟨h1, h2⟩ := h e he ke hke
    refine ⟨fun hin => ?_, fun hin => ?_⟩
    · have hl : e ∈ l := by
        rcases List.mem_append.1 hin with h3 | h3
        · exact h3
        · exact absurd (by simpa using h3) hed
      rw [Maps.has_put_other hne, Maps.atKey_put_other hne, ix_append hl]
      exact h1 hl
    · rw [Maps.has_put_other hne]
      exact h2 fun hl => hin (List.mem_append_left _ hl)
end Go.Proofs.Ytlajjkpcgokinaa
