/-
  readPacked: what it stands on.
-/
import Derived.Test.YtignjhmbajiphaaHbX
import Derived.Test.YtignjhmbajiphaaBUnpAny
namespace Go.Proofs.Ytignjhmbajiphaa
set_option linter.unusedVariables false
set_option linter.unusedSimpArgs false
open Go.ChangeShapes Go.WideShapes Go.ChangeAt Go.RowKit

set_option maxRecDepth 100000 in
theorem nz_call (z : Int) (w : World) : Calls Try.prog 58 #[.int .u64 z] w fun e w' => e = .returned (.bool (z != 0)) ∧ w' = w := by
  go_enter Try.func58, Try.ntmps58
  go_wp2
  go_ret
  exact ⟨by simp [bne], rfl⟩
set_option maxRecDepth 100000 in
set_option maxHeartbeats 2000000 in
theorem nz_index (ad : Option Addr) (L cap : Nat) (zs : List Int) (w : World) (hL : L ≤ 1048576) (hs : Src w ad L cap (zs.map (Value.int .u64))) :
    Calls Try.prog 59 #[.slice ad L cap, .func (.func 58) #[] #[]] w fun e w' => e = .returned (.int .i64 (idxOf (fun z => z != 0) zs)) ∧ w' = w := by
  have HZ : Hid (zs.length = L) := by show _ = _; simpa using hs.1
  go_enter Try.func59, Try.ntmps59
  go_wp2
  go_loop [8] (fun c => ∃ j : Nat, c = .int .i64 j ∧ j ≤ L ∧ Hid (∀ x ∈ zs.take j, (x != 0) = false)) (fun c => L - (intOf c).toNat)
  case atStart => exact ⟨0, rfl, Nat.zero_le _, (fun x hx => by simp at hx)⟩
  case round =>
    obtain ⟨j, rfl, hj, H⟩ := hrel
    by_cases hlt : j < L
    · have hlt' : (j : Int) < (L : Int) := by omega
      obtain ⟨g, off, rfl, hcz⟩ := src_atI hs hlt
      have HS : Hid ((zs.getD j 0 != 0) = false → ∀ x ∈ zs.take (j + 1), (x != 0) = false) := fun h => all_take_succ (p := fun z => z != 0) zs j (by have := HZ.out; omega) H.out h
      have HA : Hid ((zs.getD j 0 != 0) = true → idxOf (fun z => z != 0) zs = (j : Int)) := fun h => idxOf_at (p := fun z => z != 0) zs j (by have := HZ.out; omega) H.out h
      generalize zs.getD j 0 = z at *
      have CC := nz_call z w
      cases hw : (z != 0)
      · rw [hw] at CC
        go_wp2_with (go_at_call 58; refine CC.mono ?_; rintro e wx ⟨rfl, hwx⟩; obtain rfl := hwx.symm)
        go_round
        case rel => exact ⟨j + 1, by go_num, by omega, HS.out hw⟩
        case measure => simp [intOf]; omega
      · rw [hw] at CC
        go_wp2_with (go_at_call 58; refine CC.mono ?_; rintro e wx ⟨rfl, hwx⟩; obtain rfl := hwx.symm)
        go_ret
        exact ⟨by rw [HA.out hw]; rfl, rfl⟩
    · have hlt' : (L : Int) ≤ (j : Int) := by omega
      have HN : Hid (idxOf (fun z => z != 0) zs = -1) := idxOf_none (p := fun z => z != 0) zs (by have := H.out; rwa [List.take_of_length_le (by have := HZ.out; omega)] at this)
      go_wp2
      go_ret
      exact ⟨by rw [HN.out]; rfl, rfl⟩
set_option maxRecDepth 100000 in
theorem nz_contains (ad : Option Addr) (L cap : Nat) (zs : List Int) (w : World) (hL : L ≤ 1048576) (hs : Src w ad L cap (zs.map (Value.int .u64))) :
    Calls Try.prog 50 #[.slice ad L cap, .func (.func 58) #[] #[]] w fun e w' => e = .returned (.bool (zs.any fun z => z != 0)) ∧ w' = w := by
  have hi := idxOf_any (fun z => z != 0) zs
  have C := nz_index ad L cap zs w hL hs
  generalize idxOf (fun z => z != 0) zs = r at *
  have HI : Hid (decide (0 ≤ r) = zs.any fun z => z != 0) := hi
  clear hi
  go_enter Try.func50, Try.ntmps50
  go_wp2_with (go_at_call 59; refine C.mono ?_; rintro e wx ⟨rfl, hwx⟩; obtain rfl := hwx.symm)
  go_ret
  exact ⟨by rw [← HI.out]; rfl, rfl⟩

theorem fill_k {w wr : World} {B g j N : Nat} {k : IntKind} {zs : List Int} {e : TypeId} (hj : j < N) (hjl : j < zs.length)
    (hown : wr.ownsRow B e 1 (.slice (some ⟨g, 0, none⟩) N N) N ((zs.take j ++ List.replicate (N - j) 0).map (Value.int k))) (hnx : Below B w wr) (hg : B ≤ g) :
    (wr.setCell ⟨g, j, none⟩ (.int k (zs.getD j 0))).ownsRow B e 1 (.slice (some ⟨g, 0, none⟩) N N) N ((zs.take (j + 1) ++ List.replicate (N - (j + 1)) 0).map (Value.int k)) ∧
      Below B w (wr.setCell ⟨g, j, none⟩ (.int k (zs.getD j 0))) := by
  refine ⟨?_, hnx.setCell (p := ⟨g, j, none⟩) hg _⟩
  have e := (hown.stored j (.int k (zs.getD j 0))).1
  rw [← List.map_set, show N - j = (N - (j + 1)) + 1 from by omega] at e
  have e2 := set_mid (zs.take j) 0 (zs.getD j 0) (N - (j + 1))
  rw [List.length_take, Nat.min_eq_left (by omega)] at e2
  rw [e2] at e
  rw [List.take_succ_eq_append_getElem hjl]
  simpa [List.getD, List.getElem?_eq_getElem hjl] using e

/-- so many bytes; those that are not there are 0 -/
def padB (S : Nat) (zs : List Int) : List Int := zs.take S ++ List.replicate (S - zs.length) 0
theorem padB_len (S : Nat) (zs : List Int) : (padB S zs).length = S := by
  unfold padB
  rw [List.length_append, List.length_take, List.length_replicate]
  omega
theorem padB_bytes {S : Nat} {zs : List Int} (h : Bytes zs) : Bytes (padB S zs) := by
  intro c hc
  rcases List.mem_append.1 hc with h1 | h1
  · exact h c (List.mem_of_mem_take h1)
  · rw [(List.mem_replicate.1 h1).2]; omega
theorem nats_fit8 {zs : List Int} (h : Bytes zs) : Fit 8 (nats zs) := by
  intro n hn
  obtain ⟨x, hx, rfl⟩ := List.mem_map.1 hn
  have := h x hx
  omega
theorem c8_pk {zs : List Int} (h : Bytes zs) : zs.map (Value.int .u8) = c8 (upk 8 zs.length (pk 8 (nats zs))) := by
  have e : upk 8 zs.length (pk 8 (nats zs)) = nats zs := by
    have := upk_pk 8 _ (nats_fit8 h)
    rwa [show (nats zs).length = zs.length by simp [nats]] at this
  rw [e]
  unfold c8 nats
  rw [List.map_map]
  exact List.map_congr_left fun x hx => by
    have := h x hx
    show _ = Value.int .u8 ((x.toNat : Nat) : Int)
    rw [Int.toNat_of_nonneg this.1]
set_option maxRecDepth 100000 in
theorem copy_pad {w wr : World} {B G S M c : Nat} {a : Option Addr} {zs : List Int} (hsz : (Try.prog.info? 5).map (·.size) = some 1)
    (hg : wr.heap[G]? = some (.cells (List.replicate S (Value.int .u8 0)).toArray 5 (0, 0))) (hB : B ≤ G) (hb : Below B w wr) (hs : Src wr a M c (zs.map (Value.int .u8))) :
    ∃ w3, (∀ ty, (Builtin.copy_ #[23, 23] ty #[.slice (some ⟨G, 0, none⟩) S S, .slice a M c]).run Try.prog wr = .ok (.int .i64 (Nat.min M S : Nat)) w3) ∧
      w3.heap[G]? = some (.cells ((padB S zs).map (Value.int .u8)).toArray 5 (0, 0)) ∧ Below B w w3 := by
  have hzl : zs.length = M := by simpa using hs.1
  by_cases h0 : Nat.min M S = 0
  · refine ⟨wr, fun ty => ?_, ?_, hb⟩
    · have h := run_copy_none (P := Try.prog) wr 23 23 ty 5 (some ⟨G, 0, none⟩) a S S M c Try.underlying23 hsz h0
      unfold goInt at h
      rw [h0]
      exact h
    · rw [hg]
      congr 3
      unfold padB
      rcases Nat.eq_zero_or_pos S with h1 | h1
      · subst h1; simp
      · have hM : M = 0 := by
          rcases Nat.le_total M S with h | h
          · rw [show Nat.min M S = M from Nat.min_eq_left h] at h0; exact h0
          · rw [show Nat.min M S = S from Nat.min_eq_right h] at h0; omega
        have hz : zs = [] := by apply List.length_eq_zero_iff.1; omega
        rw [hz]
        simp
  · rcases hs.2 with ⟨_, h1, _⟩ | ⟨p, rfl, h2⟩
    · rw [h1] at h0
      exact absurd (Nat.zero_min S) h0
    · refine ⟨_, fun ty => ?_, ?_, below_setRow hb hB ((padB S zs).map (Value.int .u8)).toArray⟩
      · have hl : ((zs.take S).map (Value.int .u8)).length = Nat.min M S := by
          rw [List.length_map, List.length_take, hzl, Nat.min_comm]
        have h := run_copy_row (P := Try.prog) wr 23 23 ty 5 G 0 S S p M c _ 5 ((zs.take S).map (Value.int .u8)) Try.underlying23 hsz hg hl (fun j v hj => h2 j v (by
          rw [List.map_take, List.getElem?_take] at hj
          split at hj
          · exact hj
          · cases hj)) (by rw [hl]; simp; exact Nat.min_le_right _ _) (ints_one _ _)
        rw [hl] at h
        have e : ((List.replicate S (Value.int .u8 0)).toArray.toList.take 0 ++ (zs.take S).map (Value.int .u8) ++ (List.replicate S (Value.int .u8 0)).toArray.toList.drop (0 + Nat.min M S)) = (padB S zs).map (Value.int .u8) := by
          unfold padB
          rw [List.map_append, List.take_zero, List.nil_append, Nat.zero_add, List.drop_replicate, List.map_replicate, hzl]
          congr 2
          rcases Nat.le_total M S with h | h
          · rw [show Nat.min M S = M from Nat.min_eq_left h]
          · rw [show Nat.min M S = S from Nat.min_eq_right h]; omega
        rw [e] at h
        unfold goInt at h
        exact h
      · exact setRow_heap _ _ _ _ _ _ hg

/-- a packed run behind its head -/
def rdP (W : Nat) (zs : List Int) (n : Int) (toCome : Nat) : Except Int (List Int × Nat) :=
  if n = 0 ∨ (grp toCome : Int) < n then .error 8
  else if ((upk W (8 * n.toNat) (pk 8 (nats (padB (n.toNat * W) zs)))).drop (min (8 * n.toNat) toCome)).any (fun x => x != 0) = true then .error 8
  else if zs.length < n.toNat * W then .error 6
  else .ok (ints ((upk W (8 * n.toNat) (pk 8 (nats (padB (n.toNat * W) zs)))).take (min (8 * n.toNat) toCome)), n.toNat * W)
theorem any_ints (l : List Nat) : (ints l).any (fun z => z != 0) = l.any fun x => x != 0 := by
  unfold ints
  rw [List.any_map]
  congr 1
  funext x
  show ((x : Int) != 0) = (x != 0)
  by_cases h : x = 0
  · subst h; rfl
  · have h2 : ¬ (x : Int) = 0 := by omega
    have e1 : ((x : Int) == 0) = false := by simpa using h2
    have e2 : (x == 0) = false := by simpa using h
    simp only [bne, e1, e2]
/-- Unpack of as many bytes as it wants -/
theorem unp_all {w : World} {ad : Option Addr} {S cap W N : Nat} {zs : List Int} (hW : W ≤ 32) (hN : 8 * N ≤ 70000) (hS : S = N * W) (hl : zs.length = S) (hby : Bytes zs) (hs : Src w ad S cap (zs.map (Value.int .u8))) :
    Calls Try.prog 57 #[.slice ad S cap, .int .i64 W, .int .i64 ((8 * N : Nat) : Int)] w fun e w' => ∃ v, e = .returned (.tuple #[v, .int .i64 0]) ∧ w'.ownsRow w.heap.size 39 1 v (8 * N) (c64 (upk W (8 * N) (pk 8 (nats zs)))) ∧ Below w.heap.size w w' := by
  have hsz : sze W (8 * N : Nat) = 0 := sze_of hW (by omega)
  have hSl : S = (8 * N * W + 7) / 8 := by rw [hS, Nat.mul_assoc]; omega
  rw [c8_pk hby, hl] at hs
  have hB : pk 8 (nats zs) < 2 ^ (8 * S) := by
    have := pk_lt 8 _ (nats_fit8 hby)
    rwa [show (nats zs).length = S by simp [nats, hl]] at this
  have hok : pk 8 (nats zs) < 2 ^ (W * (8 * N)) := by
    rw [show W * (8 * N) = 8 * S by rw [hS, ← Nat.mul_assoc, Nat.mul_comm W 8, Nat.mul_assoc, Nat.mul_comm W N]]
    exact hB
  refine (unpack_main ad S cap W (8 * N) (pk 8 (nats zs)) w hsz hSl (bytesAt_num (num_src hs) (Nat.le_refl _)) hB).mono ?_
  rintro e w' ⟨⟨_, v, rfl, hown⟩ | ⟨hno, _⟩, hb⟩
  · exact ⟨v, rfl, hown, hb⟩
  · exact absurd hok hno
end Go.Proofs.Ytignjhmbajiphaa
