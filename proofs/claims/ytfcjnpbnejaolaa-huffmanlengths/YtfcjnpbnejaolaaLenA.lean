/-
  huffman.inOrder: the symbols with counts, the least ahead.
-/
import Derived.Test.YtfcjnpbnejaolaaRdA
import Derived.Test.YtfcjnpbnejaolaaSortL
import Derived.Sort.OwnSortedInts
import Derived.Deep.RegionWith
import Derived.Deep.RegionHeld3
namespace Go.Proofs.Ytfcjnpbnejaolaa
set_option linter.unusedVariables false
set_option linter.unusedSimpArgs false
open Go.ChangeShapes Go.WideShapes Go.ChangeAt Go.RowKit Go.Sort Go.Shelf

theorem calls_of {P : Program} {f : FuncId} {args : Array Value} {w : World} {Post : Ending → World → Prop} (H : ∀ Q : Ending → World → Prop, (∀ e w', Post e w' → Q e w') → Calls P f args w Q) : Calls P f args w Post := H Post fun _ _ h => h

def cmpI (x y : Int) : Int := if x < y then -1 else if y < x then 1 else 0
theorem isNaN_any (x : Int) (w : World) : Calls Try.prog 41 #[.int .i64 x] w fun e w' => e = .returned (.bool false) ∧ w' = w := by
  go_enter Try.func41, Try.ntmps41
  go_wp2
  go_ret
  exact ⟨by simp, rfl⟩
set_option maxHeartbeats 1000000 in
theorem compare_any (x y : Int) (w : World) : Calls Try.prog 31 #[.int .i64 x, .int .i64 y] w fun e w' => e = .returned (.int .i64 (cmpI x y)) ∧ w' = w := by
  unfold cmpI
  by_cases h1 : x < y
  · rw [if_pos h1]
    go_enter Try.func31, Try.ntmps31
    go_wp2_with (go_at_call 41; refine (isNaN_any _ _).mono ?_; rintro e w' ⟨rfl, rfl⟩)
    go_ret
    exact ⟨rfl, rfl⟩
  · rw [if_neg h1]
    by_cases h2 : y < x
    · rw [if_pos h2]
      go_enter Try.func31, Try.ntmps31
      go_wp2_with (go_at_call 41; refine (isNaN_any _ _).mono ?_; rintro e w' ⟨rfl, rfl⟩)
      go_ret
      exact ⟨rfl, rfl⟩
    · rw [if_neg h2]
      go_enter Try.func31, Try.ntmps31
      go_wp2_with (go_at_call 41; refine (isNaN_any _ _).mono ?_; rintro e w' ⟨rfl, rfl⟩)
      go_ret
      exact ⟨rfl, rfl⟩
/-- the first that is not 0 -/
def orI (a b : Int) : Int := if a ≠ 0 then a else b
set_option maxHeartbeats 1000000 in
theorem or_any (a b : Int) (g c : Nat) (w : World) (h0 : w.cell? ⟨g, 0, none⟩ = some (.int .i64 a)) (h1 : w.cell? ⟨g, 1, none⟩ = some (.int .i64 b)) :
    Calls Try.prog 30 #[.slice (some ⟨g, 0, none⟩) 2 c] w fun e w' => e = .returned (.int .i64 (orI a b)) ∧ w' = w := by
  refine calls_of fun Q HQ => ?_
  have HQ1 : Hid (a ≠ 0 → Q (.returned (.int .i64 a)) w) := fun h => HQ _ _ ⟨by unfold orI; rw [if_pos h], rfl⟩
  have HQ2 : Hid (a = 0 → Q (.returned (.int .i64 b)) w) := fun h => HQ _ _ ⟨by unfold orI; rw [if_neg (by omega)], rfl⟩
  clear HQ
  go_enter Try.func30, Try.ntmps30
  go_wp2
  go_loop [8] (fun c => (c = .int .i64 0 ∨ (c = .int .i64 1 ∧ a = 0) ∨ (c = .int .i64 2 ∧ a = 0 ∧ b = 0))) (fun c => 2 - (intOf c).toNat)
  case atStart => exact .inl rfl
  case round =>
    rcases hrel with rfl | ⟨rfl, ha⟩ | ⟨rfl, ha, hb⟩
    · by_cases ha : a = 0
      · subst ha
        go_wp2
        go_round
        case rel => exact .inr (.inl ⟨rfl, trivial⟩)
        case measure => simp [intOf]
      · have ha' : (a != 0) = true := by simpa using ha
        have q := HQ1.out ha
        clear ha HQ1 HQ2
        go_wp2
        exact q
    · by_cases hb : b = 0
      · subst hb
        go_wp2
        go_round
        case rel => exact .inr (.inr ⟨rfl, ha, trivial⟩)
        case measure => simp [intOf]
      · have hb' : (b != 0) = true := by simpa using hb
        have q := HQ2.out ha
        clear ha hb HQ1 HQ2
        go_wp2
        exact q
    · have q := HQ2.out ha
      rw [hb] at q
      clear ha hb HQ1 HQ2
      go_wp2
      exact q
set_option maxRecDepth 10000 in
set_option maxHeartbeats 2000000 in
theorem closure_any (w : World) (B g off len cap : Nat) (x y : Nat) (cx cy : Int) (hB : w.cell? ⟨B, 0, none⟩ = some (.slice (some ⟨g, off, none⟩) len cap)) (hx : w.cell? ⟨g, off + x, none⟩ = some (.int .i64 cx)) (hy : w.cell? ⟨g, off + y, none⟩ = some (.int .i64 cy)) (lx : (x : Int) < (len : Int)) (ly : (y : Int) < (len : Int)) :
    Calls Try.prog 29 #[.int .i64 x, .int .i64 y, .pointer (some ⟨B, 0, none⟩)] w fun e w' => e = .returned (.int .i64 (orI (cmpI cx cy) (cmpI y x))) ∧ ∃ q os', w' = grow (w.drewN q) os' := by
  generalize h1 : cmpI cx cy = q1 at *
  generalize h2 : cmpI (y : Int) (x : Int) = q2 at *
  have K1 := fun W => compare_any cx cy W
  have K2 := fun W => compare_any (y : Int) (x : Int) W
  rw [h1] at K1
  rw [h2] at K2
  clear h1 h2
  refine calls_of fun Q HQ => ?_
  have HQ1 : Hid (Q (.returned (.int .i64 (orI q1 q2))) (w.drew.alloc (.cells #[.int .i64 q1, .int .i64 q2] 3))) := HQ _ _ ⟨rfl, 1, #[.cells #[.int .i64 q1, .int .i64 q2] 3], by rw [alloc_eq_grow]; rfl⟩
  clear HQ
  have s0 : w.drew.cell? ⟨B, 0, none⟩ = some (.slice (some ⟨g, off, none⟩) len cap) ∧ w.drew.cell? ⟨g, off + x, none⟩ = some (.int .i64 cx) ∧ w.drew.cell? ⟨g, off + y, none⟩ = some (.int .i64 cy) := ⟨hB, hx, hy⟩
  go_enter Try.func29, Try.ntmps29
  go_wp2_with fail
  refine wp_region_held_drew (S := fun w' => w'.cell? ⟨B, 0, none⟩ = some (.slice (some ⟨g, off, none⟩) len cap) ∧ w'.cell? ⟨g, off + x, none⟩ = some (.int .i64 cx) ∧ w'.cell? ⟨g, off + y, none⟩ = some (.int .i64 cy)) (by kernel_rfl) s0 (fun hHeld => ?_)
  refine wpAnyH_take (i := 0) (v := ?_) rfl (by kernel_rfl) (by kernel_rfl) (by kernel_rfl) (fun _ _ _ h => h) (Or.inl ⟨by rfl, ?_⟩) (by assumption) ?_
  rotate_left
  · intro w hSw
    (try dsimp only at hSw)
    (try (obtain ⟨_, _, _, _, _, _, _⟩ := hSw))
    (try (obtain ⟨_, _⟩ := hSw))
    go_simp
    (try with_reducible rfl)
  (try simp only [Act.put, List.setIfInBounds_toArray, List.set_cons_zero, List.set_cons_succ])
  refine wpAnyH_take (i := 1) (v := ?_) rfl (by kernel_rfl) (by kernel_rfl) (by kernel_rfl) (fun _ _ _ h => h) (Or.inl ⟨by rfl, ?_⟩) (by assumption) ?_
  rotate_left
  · intro w hSw
    (try dsimp only at hSw)
    (try (obtain ⟨_, _, _, _, _, _, _⟩ := hSw))
    (try (obtain ⟨_, _⟩ := hSw))
    go_simp
    (try with_reducible rfl)
  (try simp only [Act.put, List.setIfInBounds_toArray, List.set_cons_zero, List.set_cons_succ])
  refine wpAnyH_take (i := 2) (v := ?_) rfl (by kernel_rfl) (by kernel_rfl) (by kernel_rfl) (fun _ _ _ h => h) (Or.inl ⟨by rfl, ?_⟩) (by assumption) ?_
  rotate_left
  · intro w hSw
    (try dsimp only at hSw)
    (try (obtain ⟨_, _, _, _, _, _, _⟩ := hSw))
    (try (obtain ⟨_, _⟩ := hSw))
    go_simp
    (try with_reducible rfl)
  (try simp only [Act.put, List.setIfInBounds_toArray, List.set_cons_zero, List.set_cons_succ])
  refine wpAnyH_take (i := 3) (v := ?_) rfl (by kernel_rfl) (by kernel_rfl) (by kernel_rfl) (fun _ _ _ h => h) (Or.inl ⟨by rfl, ?_⟩) (by assumption) ?_
  rotate_left
  · intro w hSw
    (try dsimp only at hSw)
    (try (obtain ⟨_, _, _, _, _, _, _⟩ := hSw))
    (try (obtain ⟨_, _⟩ := hSw))
    go_simp
    (try with_reducible rfl)
  (try simp only [Act.put, List.setIfInBounds_toArray, List.set_cons_zero, List.set_cons_succ])
  refine wpAnyH_take (i := 4) (v := ?_) rfl (by kernel_rfl) (by kernel_rfl) (by kernel_rfl) (fun _ _ _ h => h) (Or.inl ⟨by rfl, ?_⟩) (by assumption) ?_
  rotate_left
  · intro w hSw
    (try dsimp only at hSw)
    (try (obtain ⟨_, _, _, _, _, _, _⟩ := hSw))
    (try (obtain ⟨_, _⟩ := hSw))
    go_simp
    (try with_reducible rfl)
  (try simp only [Act.put, List.setIfInBounds_toArray, List.set_cons_zero, List.set_cons_succ])
  refine wpAnyH_take (i := 5) (v := ?_) rfl (by kernel_rfl) (by kernel_rfl) (by kernel_rfl) (fun _ _ _ h => h) (Or.inl ⟨by rfl, ?_⟩) (by assumption) ?_
  rotate_left
  · intro w hSw
    (try dsimp only at hSw)
    (try (obtain ⟨_, _, _, _, _, _, _⟩ := hSw))
    (try (obtain ⟨_, _⟩ := hSw))
    go_simp
    (try with_reducible rfl)
  (try simp only [Act.put, List.setIfInBounds_toArray, List.set_cons_zero, List.set_cons_succ])
  refine wpAnyH_take (i := 6) (v := ?_) rfl (by kernel_rfl) (by kernel_rfl) (by kernel_rfl) (fun _ _ _ h => h) (Or.inl ⟨by rfl, ?_⟩) (by assumption) ?_
  rotate_left
  · intro w hSw
    (try dsimp only at hSw)
    (try (obtain ⟨_, _, _, _, _, _, _⟩ := hSw))
    (try (obtain ⟨_, _⟩ := hSw))
    go_simp
    (try with_reducible rfl)
  (try simp only [Act.put, List.setIfInBounds_toArray, List.set_cons_zero, List.set_cons_succ])
  refine wpAnyH_take (i := 7) (v := ?_) rfl (by kernel_rfl) (by kernel_rfl) (by kernel_rfl) (fun _ _ _ h => h) (Or.inl ⟨by rfl, ?_⟩) (by assumption) ?_
  rotate_left
  · intro w hSw
    (try dsimp only at hSw)
    (try (obtain ⟨_, _, _, _, _, _, _⟩ := hSw))
    (try (obtain ⟨_, _⟩ := hSw))
    go_simp
    (try with_reducible rfl)
  (try simp only [Act.put, List.setIfInBounds_toArray, List.set_cons_zero, List.set_cons_succ])
  refine wpAnyH_take (i := 9) (v := ?_) rfl (by kernel_rfl) (by kernel_rfl) (by kernel_rfl) (fun _ _ _ h => h) (Or.inl ⟨by rfl, ?_⟩) (by assumption) ?_
  rotate_left
  · intro w hSw
    (try dsimp only at hSw)
    (try (obtain ⟨_, _, _, _, _, _, _⟩ := hSw))
    (try (obtain ⟨_, _⟩ := hSw))
    go_simp
    (try with_reducible rfl)
  (try simp only [Act.put, List.setIfInBounds_toArray, List.set_cons_zero, List.set_cons_succ])
  refine wpAnyH_take (i := 10) (v := ?_) rfl (by kernel_rfl) (by kernel_rfl) (by kernel_rfl) (fun _ _ _ h => h) (Or.inl ⟨by rfl, ?_⟩) (by assumption) ?_
  rotate_left
  · intro w hSw
    (try dsimp only at hSw)
    (try (obtain ⟨_, _, _, _, _, _, _⟩ := hSw))
    (try (obtain ⟨_, _⟩ := hSw))
    go_simp
    (try with_reducible rfl)
  (try simp only [Act.put, List.setIfInBounds_toArray, List.set_cons_zero, List.set_cons_succ])
  refine wpAnyH_ready (rs := [8]) (by kernel_rfl) (by simp) ?_
  refine AllReadyH.cons rfl (fun K hK => ?_) AllReadyH.nil
  go_simp
  refine (K1 _).mono ?_
  rintro e wx ⟨rfl, hwx⟩
  obtain rfl := hwx.symm
  go_simp
  refine hK.out _ _ s0 (fun _ => ?_)
  clear hK K
  (try simp only [Act.put, List.setIfInBounds_toArray, List.set_cons_zero, List.set_cons_succ])
  refine wpAnyH_ready (rs := [11]) (by kernel_rfl) (by simp) ?_
  refine AllReadyH.cons rfl (fun K hK => ?_) AllReadyH.nil
  go_simp
  refine (K2 _).mono ?_
  rintro e wx ⟨rfl, hwx⟩
  obtain rfl := hwx.symm
  go_simp
  refine hK.out _ _ s0 (fun _ => ?_)
  clear hK K
  (try simp only [Act.put, List.setIfInBounds_toArray, List.set_cons_zero, List.set_cons_succ])
  have hab := alloc_below w.drew (.cells #[.int .i64 q1, .int .i64 q2] 3)
  have s4 : (w.drew.alloc (.cells #[.int .i64 q1, .int .i64 q2] 3)).cell? ⟨B, 0, none⟩ = some (.slice (some ⟨g, off, none⟩) len cap) ∧ (w.drew.alloc (.cells #[.int .i64 q1, .int .i64 q2] 3)).cell? ⟨g, off + x, none⟩ = some (.int .i64 cx) ∧ (w.drew.alloc (.cells #[.int .i64 q1, .int .i64 q2] 3)).cell? ⟨g, off + y, none⟩ = some (.int .i64 cy) := ⟨cell_later hab s0.1, cell_later hab s0.2.1, cell_later hab s0.2.2⟩
  refine wpAnyH_ready (rs := [12]) (by kernel_rfl) (by simp) ?_
  refine AllReadyH.cons rfl (fun K hK => ?_) AllReadyH.nil
  go_simp
  refine hK.out _ _ s4 (fun _ => ?_)
  clear hK K
  (try simp only [Act.put, List.setIfInBounds_toArray, List.set_cons_zero, List.set_cons_succ])
  have KO := or_any q1 q2 w.drew.heap.size 2 (w.drew.alloc (.cells #[.int .i64 q1, .int .i64 q2] 3)) (alloc_cell w.drew _ _ _ rfl) (alloc_cell w.drew _ _ _ rfl)
  refine wpAnyH_ready (rs := [13]) (by kernel_rfl) (by simp) ?_
  refine AllReadyH.cons rfl (fun K hK => ?_) AllReadyH.nil
  go_simp
  refine KO.mono ?_
  rintro e wx ⟨rfl, hwx⟩
  obtain rfl := hwx.symm
  go_simp
  refine hK.out _ _ s4 (fun _ => ?_)
  clear hK K
  (try simp only [Act.put, List.setIfInBounds_toArray, List.set_cons_zero, List.set_cons_succ])
  refine wpAnyH_ready (rs := [14]) (by kernel_rfl) (by simp) ?_
  refine AllReadyH.cons rfl (fun K hK => ?_) AllReadyH.nil
  go_simp
  refine hK.out _ _ s4 (fun _ => ?_)
  clear hK K
  refine wpAnyH_done (by kernel_rfl) ?_ _
  go_wp2_with fail
  exact HQ1.out

/-- the order of symbols -/
def ordB (c : List Nat) (x y : Nat) : Bool := decide (c.getD x 0 < c.getD y 0 ∨ (c.getD x 0 = c.getD y 0 ∧ y < x))
/-- what the closure answers -/
def cfN (c : List Nat) (x y : Nat) : Int := orI (cmpI ((c.getD x 0 : Nat) : Int) ((c.getD y 0 : Nat) : Int)) (cmpI (y : Int) (x : Int))
theorem cfN_lt (c : List Nat) (x y : Nat) : decide (cfN c x y < 0) = ordB c x y := by
  unfold cfN ordB orI cmpI
  generalize c.getD x 0 = a
  generalize c.getD y 0 = b
  rcases Nat.lt_trichotomy a b with h | h | h
  · rw [if_pos (show (a : Int) < (b : Int) by omega)]
    simp [h]
  · subst h
    rcases Nat.lt_trichotomy y x with h2 | h2 | h2
    · have h3 : (y : Int) < (x : Int) := by omega
      simp [h2, h3]
    · subst h2
      simp
    · have h3 : (x : Int) < (y : Int) := by omega
      have h4 : ¬ (y : Int) < (x : Int) := by omega
      simp [h3, h4]
      omega
  · have h3 : (b : Int) < (a : Int) := by omega
    have h4 : ¬ (a : Int) < (b : Int) := by omega
    simp [h3, h4]
    omega
/-- the symbols with counts -/
def some1 (c : List Nat) (k : Nat) : List Nat := (List.range k).filter fun i => decide (0 < c.getD i 0)
def syms (c : List Nat) : List Nat := (some1 c c.length).mergeSort fun x y => !ordB c y x
theorem some1_lt (c : List Nat) (k : Nat) : ∀ x ∈ some1 c k, x < k := by
  intro x hx
  have := List.mem_filter.1 hx
  simpa using this.1
theorem some1_succ (c : List Nat) (k : Nat) : some1 c (k + 1) = if 0 < c.getD k 0 then some1 c k ++ [k] else some1 c k := by
  unfold some1
  rw [List.range_succ, List.filter_append]
  by_cases h : 0 < c.getD k 0
  · rw [if_pos h, List.filter_cons, if_pos (decide_eq_true h)]
    rfl
  · rw [if_neg h, List.filter_cons, if_neg (by rw [decide_eq_false h]; decide), List.filter_nil, List.append_nil]
theorem some1_len (c : List Nat) (k : Nat) : (some1 c k).length ≤ k := by
  have := List.length_filter_le (fun i => decide (0 < c.getD i 0)) (List.range k)
  rw [List.length_range] at this
  exact this
theorem syms_len (c : List Nat) : (syms c).length = (some1 c c.length).length := List.length_mergeSort _

/-- symbols as a type of their own -/
abbrev Sm (n : Nat) := { x : Nat // x < n }
def encS {n : Nat} (x : Sm n) : Value := .int .i64 ((x.1 : Nat) : Int)
theorem swoS {n : Nat} (c : List Nat) : SWO (ltOf fun (x y : Sm n) => cfN c x.1 y.1) where
  irrefl x := by
    show decide (cfN c x.1 x.1 < 0) = false
    rw [cfN_lt]; unfold ordB; simp
  trans x y z h1 h2 := by
    change decide (cfN c x.1 y.1 < 0) = true at h1
    change decide (cfN c y.1 z.1 < 0) = true at h2
    show decide (cfN c x.1 z.1 < 0) = true
    rw [cfN_lt] at *
    unfold ordB at *
    simp at *
    omega
  ntrans x y z h1 h2 := by
    change decide (cfN c x.1 y.1 < 0) = false at h1
    change decide (cfN c y.1 z.1 < 0) = false at h2
    show decide (cfN c x.1 z.1 < 0) = false
    rw [cfN_lt] at *
    unfold ordB at *
    simp at *
    omega
theorem totS {n : Nat} (c : List Nat) (x y : Sm n) (h1 : ltOf (fun (x y : Sm n) => cfN c x.1 y.1) x y = false) (h2 : ltOf (fun (x y : Sm n) => cfN c x.1 y.1) y x = false) : x = y := by
  change decide (cfN c x.1 y.1 < 0) = false at h1
  change decide (cfN c y.1 x.1 < 0) = false at h2
  rw [cfN_lt] at h1 h2
  unfold ordB at *
  simp at h1 h2
  apply Subtype.ext
  omega
/-- the cells of symbols -/
theorem putCells_S {n : Nat} [Inhabited (Sm n)] (off : Nat) (d : Array (Sm n)) : putCells encS off d = putCells (Value.int .i64) off (d.map fun x => ((x.1 : Nat) : Int)) := by
  funext cur
  unfold putCells
  apply Array.ext
  · simp
  · intro i h1 h2
    simp only [Array.getElem_mapIdx, Array.size_map]
    by_cases h : off ≤ i ∧ i < off + d.size
    · rw [if_pos h, if_pos h]
      have hi : i - off < d.size := by omega
      rw [getElem!_pos d (i - off) hi, getElem!_pos (d.map fun x => ((x.1 : Nat) : Int)) (i - off) (by simpa using hi)]
      simp [encS]
    · rw [if_neg h, if_neg h]
theorem sortWorld_S {n : Nat} [Inhabited (Sm n)] (w : World) (blk off q : Nat) (d : Array (Sm n)) (os : Array Obj) : sortWorld encS w blk off q d os = sortWorld (Value.int .i64) w blk off q (d.map fun x => ((x.1 : Nat) : Int)) os := by
  unfold sortWorld putRow
  rw [putCells_S]
/-- sorting by a function of the numbers, under a map -/
theorem sort_map {n : Nat} (c : List Nat) (l : List (Sm n)) : (l.mergeSort fun x y => !(ltOf fun (x y : Sm n) => cfN c x.1 y.1) y x).map (·.1) = (l.map (·.1)).mergeSort fun x y => !ordB c y x := by
  rw [List.map_mergeSort]
  intro a _ b _
  show (!decide (cfN c b.1 a.1 < 0)) = _
  rw [cfN_lt]
end Go.Proofs.Ytfcjnpbnejaolaa
