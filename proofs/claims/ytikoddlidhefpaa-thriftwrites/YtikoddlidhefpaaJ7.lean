/-
  The reference's small functions and its Same.
-/
import Derived.Test.YtikoddlidhefpaaJ2
import Derived.Deep.RegionWith
namespace Go.Proofs.Ytikoddlidhefpaa
open Go.ChangeShapes Go.WideShapes Go.ChangeAt Go.RowKit Go.Deep

theorem rholds_any (k : Int) (w : World) : Calls Try.prog 31 #[.int .i64 k] w fun e w' => e = .returned (.bool (decide (9 ≤ k))) ∧ w' = w := by
  go_enter Try.func31, Try.ntmps31
  go_wp2
  go_ret
  exact ⟨by simp, rfl⟩
theorem rknown_any (k : Int) (w : World) : Calls Try.prog 47 #[.int .i64 k] w fun e w' => e = .returned (.bool (knownB k)) ∧ w' = w := by
  by_cases h1 : k = 1
  · subst h1; go_enter Try.func47, Try.ntmps47; go_wp2; go_ret; exact ⟨rfl, rfl⟩
  by_cases h2 : k = 11
  · subst h2; go_enter Try.func47, Try.ntmps47; go_wp2; go_ret; exact ⟨rfl, rfl⟩
  by_cases h3 : k = 12
  · subst h3; go_enter Try.func47, Try.ntmps47; go_wp2; go_ret; exact ⟨rfl, rfl⟩
  by_cases h4 : 3 ≤ k
  · by_cases h5 : k ≤ 9
    · have e : knownB k = true := by rw [known_true]; omega
      rw [e]
      clear e
      go_enter Try.func47, Try.ntmps47; go_wp2; go_ret; exact ⟨by simp, rfl⟩
    · have e : knownB k = false := by rw [Bool.eq_false_iff]; intro h; rw [known_true] at h; omega
      rw [e]
      clear e
      have h5' : 9 < k := by omega
      go_enter Try.func47, Try.ntmps47; go_wp2; go_ret; exact ⟨by simp; omega, rfl⟩
  · have e : knownB k = false := by rw [Bool.eq_false_iff]; intro h; rw [known_true] at h; omega
    rw [e]
    clear e
    have h4' : k < 3 := by omega
    go_enter Try.func47, Try.ntmps47; go_wp2; go_ret; exact ⟨by simp; omega, rfl⟩
def rbitsZ (k : Int) : Int := if k = 3 then 8 else if k = 4 then 16 else if k = 5 then 32 else 64
theorem rbits_any (k : Int) (w : World) : Calls Try.prog 51 #[.int .i64 k] w fun e w' => e = .returned (.int .i64 (rbitsZ k)) ∧ w' = w := by
  by_cases h1 : k = 3
  · subst h1; go_enter Try.func51, Try.ntmps51; go_wp2; go_ret; exact ⟨rfl, rfl⟩
  by_cases h2 : k = 4
  · subst h2; go_enter Try.func51, Try.ntmps51; go_wp2; go_ret; exact ⟨rfl, rfl⟩
  by_cases h3 : k = 5
  · subst h3; go_enter Try.func51, Try.ntmps51; go_wp2; go_ret; exact ⟨rfl, rfl⟩
  have e : rbitsZ k = 64 := by simp [rbitsZ, h1, h2, h3]
  rw [e]
  clear e
  go_enter Try.func51, Try.ntmps51; go_wp2; go_ret; exact ⟨rfl, rfl⟩
theorem rfits_8 (n : Int) (w : World) : Calls Try.prog 50 #[.int .i64 n, .int .i64 8] w fun e w' => e = .returned (.bool (fitB n 8)) ∧ w' = w := by
  by_cases h : -128 ≤ n
  · go_enter Try.func50, Try.ntmps50; go_wp2; go_ret
    refine ⟨?_, rfl⟩
    simp [fitB, h]
    omega
  · have h' : n < -128 := by omega
    go_enter Try.func50, Try.ntmps50; go_wp2; go_ret
    refine ⟨?_, rfl⟩
    simp [fitB]
    omega
theorem rfits_16 (n : Int) (w : World) : Calls Try.prog 50 #[.int .i64 n, .int .i64 16] w fun e w' => e = .returned (.bool (fitB n 16)) ∧ w' = w := by
  by_cases h : -32768 ≤ n
  · go_enter Try.func50, Try.ntmps50; go_wp2; go_ret
    refine ⟨?_, rfl⟩
    simp [fitB, h]
    omega
  · have h' : n < -32768 := by omega
    go_enter Try.func50, Try.ntmps50; go_wp2; go_ret
    refine ⟨?_, rfl⟩
    simp [fitB]
    omega
theorem rfits_32 (n : Int) (w : World) : Calls Try.prog 50 #[.int .i64 n, .int .i64 32] w fun e w' => e = .returned (.bool (fitB n 32)) ∧ w' = w := by
  by_cases h : -2147483648 ≤ n
  · go_enter Try.func50, Try.ntmps50; go_wp2; go_ret
    refine ⟨?_, rfl⟩
    simp [fitB, h]
    omega
  · have h' : n < -2147483648 := by omega
    go_enter Try.func50, Try.ntmps50; go_wp2; go_ret
    refine ⟨?_, rfl⟩
    simp [fitB]
    omega
theorem rfits_64 (n : Int) (w : World) : Calls Try.prog 50 #[.int .i64 n, .int .i64 64] w fun e w' => e = .returned (.bool (fitB n 64)) ∧ w' = w := by
  go_enter Try.func50, Try.ntmps50; go_wp2; go_ret
  exact ⟨rfl, rfl⟩
end Go.Proofs.Ytikoddlidhefpaa

/-
  How many values there are, and how deep they are nested: thrift's Size, the reference's.
-/
namespace Go.Proofs.Ytikoddlidhefpaa
open Go.ChangeShapes Go.WideShapes Go.ChangeAt Go.RowKit Go.Deep

def cntF : Fo → Int
  | .nil => 0
  | .node _ _ _ c r => 1 + cntF c + cntF r
def deepF (g : Int → Bool) : Fo → Int
  | .nil => 0
  | .node _ _ p c r => max (if g p.kind = true then deepF g c + 1 else deepF g c) (deepF g r)
def deepV (g : Int → Bool) (p : Pay) (c : Fo) : Int := if g p.kind = true then deepF g c + 1 else deepF g c
theorem cntF_ge : ∀ f : Fo, 0 ≤ cntF f
  | .nil => Int.le_refl _
  | .node _ _ _ c r => by have := cntF_ge c; have := cntF_ge r; simp only [cntF]; omega
theorem deepF_ge (g : Int → Bool) : ∀ f : Fo, 0 ≤ deepF g f
  | .nil => Int.le_refl _
  | .node _ _ _ c r => by have := deepF_ge g c; have := deepF_ge g r; simp only [deepF]; omega
theorem deepF_le (g : Int → Bool) : ∀ f : Fo, deepF g f ≤ cntF f
  | .nil => Int.le_refl _
  | .node _ _ _ c r => by
    have := deepF_le g c; have := deepF_le g r; have := cntF_ge c; have := cntF_ge r
    simp only [deepF, cntF]
    split <;> omega
theorem cntF_mem {f : Fo} {x : Pay × Fo} (h : x ∈ elems f) : 1 + cntF x.2 ≤ cntF f := by
  induction f with
  | nil => simp [elems] at h
  | node b o p c r _ ih =>
    simp only [elems, List.mem_cons] at h
    simp only [cntF]
    have h1 := cntF_ge r
    have h2 := cntF_ge c
    rcases h with rfl | h
    · simp; omega
    · have := ih h; omega
theorem cntF_drop : ∀ (f : Fo) (i : Nat), cntF (fdrop f i) ≤ cntF f
  | f, 0 => by cases f <;> exact Int.le_refl _
  | .nil, i + 1 => Int.le_refl _
  | .node _ _ _ c r, i + 1 => by have := cntF_drop r i; have := cntF_ge c; simp only [fdrop, cntF]; omega

def SizeOfC (p : Pay) (c : Fo) : Prop := ∀ (w : World) (ia : Option Addr) (ic : Nat) (la : Option Addr) (lc : Nat), VIn w p c ia ic la lc → cntF c ≤ 1000000 →
  Calls Try.prog 29 #[val p c ia ic la lc] w fun e w' => e = .returned (.tuple #[.int .i64 (1 + cntF c), .int .i64 (deepV nestsB p c)]) ∧ Below w.heap.size w w'

set_option maxHeartbeats 1000000 in
theorem sizeOf_step (p : Pay) (c : Fo) (ih : ∀ x ∈ elems c, SizeOfC x.1 x.2) : SizeOfC p c := by
  intro w ia ic la lc hv hcnt
  have t3 := hv.len
  have t3' : (flen c : Int) ≤ 140737488355328 := by omega
  have C0 := cntF_ge c
  go_enter Try.func29, Try.ntmps29
  go_wp2_with fail
  go_loopw [2, 3, 11] (fun vv dv iv wr => ∃ (i : Nat) (n d : Int), i ≤ flen c ∧ iv = .int .i64 i ∧ vv = .int .i64 n ∧ dv = .int .i64 d ∧ 0 ≤ n ∧ n ≤ 1000001 ∧ 0 ≤ d ∧ d ≤ 1000001 ∧ Hid (n + cntF (fdrop c i) = 1 + cntF c) ∧ Hid (max d (deepF nestsB (fdrop c i)) = deepF nestsB c) ∧ Below (w.heap.size + 1) (bx w p c ia ic la lc) wr) (fun _ _ iv _ => flen c - (intOf iv).toNat)
  case atStart =>
    have D0 := deepF_ge nestsB c
    exact ⟨0, 1, 0, Nat.zero_le _, rfl, rfl, rfl, by omega, by omega, by omega, by omega, by cases c <;> rfl, by show _ = _; rw [show fdrop c 0 = c by cases c <;> rfl]; omega, Below.refl _ _⟩
  case round =>
    obtain ⟨i, n, d, hi, rfl, rfl, rfl, n0, n1, d0', d1', HN, HD, hb⟩ := hrel
    by_cases hlt : i < flen c
    · have hlt' : (i : Int) < (flen c : Int) := by omega
      obtain ⟨q, e, b, o, ja, jc, na, nc, bt, ot, _, hm, ef, rfl, hbl, hv', d0, d1, d2, d3, d4, d5, d6⟩ := row_at (hv.list.later (box_below hb)) hlt
      have hab := alloc_below wr (.cells #[.int .i64 q.kind, .int .i64 q.key, .int .i64 q.elem, .int .i64 q.num, .string q.text, .slice ja q.ids.length jc, .slice na (flen e) nc] 26)
      have c1 := cntF_mem hm
      have c2 := cntF_ge e
      have c3 := cntF_ge (fdrop c (i + 1))
      have c4 := deepF_le nestsB e
      have c5 := deepF_ge nestsB e
      have K := ih _ hm _ ja jc na nc (hv'.later hab) (by simp only at c1 ⊢; omega)
      simp only at K c1
      have hv1 : 0 ≤ deepV nestsB q e ∧ deepV nestsB q e ≤ 1000000 := by unfold deepV; split <;> omega
      have HN' : Hid ((n + (1 + cntF e)) + cntF (fdrop c (i + 1)) = 1 + cntF c) := by
        have := HN.out
        rw [ef] at this
        simp only [cntF] at this
        show _ = _
        omega
      have HD' : Hid (max (max d (deepV nestsB q e)) (deepF nestsB (fdrop c (i + 1))) = deepF nestsB c) := by
        have := HD.out
        rw [ef] at this
        simp only [deepF] at this
        show _ = _
        unfold deepV
        omega
      have n2 : n + (1 + cntF e) ≤ 1000001 := by have := HN'.out; omega
      clear HN HD ef c1 c3 c4 c5
      obtain ⟨ce, hce⟩ : ∃ ce, 1 + cntF e = ce := ⟨_, rfl⟩
      rw [hce] at K HN' n2
      have c6 : 0 ≤ ce ∧ ce ≤ 1000001 := by omega
      obtain ⟨c6, c7⟩ := c6
      obtain ⟨hv1, hv2⟩ := hv1
      generalize deepV nestsB q e = de at *
      clear hce c2
      go_wp2_with fail
      refine K.mono ?_
      rintro ee wz ⟨rfl, hwz⟩
      have hb2 := hb.trans ((hab.trans (hwz.mono hab.size)).mono (box_size hb))
      clear K hwz hab
      go_wp2_with fail
      go_roundw
      case rel => exact ⟨i + 1, n + ce, max d de, by omega, by go_num, by go_num, by simp; split <;> omega, by omega, by omega, by omega, by omega, HN', HD', hb2⟩
      case measure => simp [intOf]; omega
    · have hlt' : (flen c : Int) ≤ (i : Int) := by omega
      have HE : Hid (n = 1 + cntF c ∧ d = deepF nestsB c) := by
        have h1 := HN.out
        have h2 := HD.out
        rw [show i = flen c by omega, fdrop_end] at h1 h2
        simp only [cntF, deepF] at h1 h2
        exact ⟨by omega, by omega⟩
      obtain ⟨y0, y1, y2, y3, y4, y5, y6⟩ := bx_cells hb
      have N := nests_any p.kind wr
      obtain ⟨t, HT⟩ : ∃ t, Hid (nestsB p.kind = t) := ⟨_, rfl⟩
      rw [HT.out] at N
      go_wp2_with fail
      refine N.mono ?_
      rintro e wx ⟨rfl, hwx⟩
      obtain rfl := hwx.symm
      cases t
      · go_wp2_with fail
        go_ret2
        refine ⟨?_, box_below hb⟩
        rw [HE.out.1, HE.out.2]
        simp [deepV, HT.out]
      · go_wp2_with fail
        go_ret2
        refine ⟨?_, box_below hb⟩
        rw [HE.out.1, HE.out.2]
        simp [deepV, HT.out]
theorem sizeOf_any (p : Pay) (c : Fo) : SizeOfC p c := every_value sizeOf_step p c
theorem size2_any (p : Pay) (c : Fo) (w : World) (ia : Option Addr) (ic : Nat) (la : Option Addr) (lc : Nat) (hv : VIn w p c ia ic la lc) (hcnt : cntF c ≤ 1000000) :
    Calls Try.prog 14 #[val p c ia ic la lc] w fun e w' => e = .returned (.tuple #[.int .i64 (if mayV p c 32 = true then 1 + cntF c else 0), .int .i64 (if mayV p c 32 = true then deepV nestsB p c else 0)]) ∧ Below w.heap.size w w' := by
  have M := check_any p c (bx w p c ia ic la lc) ia ic la lc (hv.later (alloc_below _ _))
  have S := sizeOf_any p c
  have hb0 : Below (w.heap.size + 1) (bx w p c ia ic la lc) (bx w p c ia ic la lc) := Below.refl _ _
  generalize mayV p c 32 = t at *
  go_enter Try.func14, Try.ntmps14
  go_wp2_with fail
  refine M.mono ?_
  rintro e wx ⟨rfl, hwx⟩
  rw [bx_size] at hwx
  obtain ⟨y0, y1, y2, y3, y4, y5, y6⟩ := bx_cells hwx
  cases t
  · go_wp2_with fail
    go_ret2
    exact ⟨rfl, box_below hwx⟩
  · have SS := S wx ia ic la lc (hv.later (box_below hwx)) hcnt
    go_wp2_with fail
    refine SS.mono ?_
    rintro e wy ⟨rfl, hwy⟩
    have hb2 := (box_below hwx).trans (hwy.mono (box_below hwx).size)
    go_wp2_with fail
    go_ret2
    exact ⟨rfl, hb2⟩

def hb9 (k : Int) : Bool := decide (9 ≤ k)
def RSizeC (p : Pay) (c : Fo) : Prop := ∀ (w : World) (ia : Option Addr) (ic : Nat) (la : Option Addr) (lc : Nat), VIn w p c ia ic la lc → cntF c ≤ 1000000 →
  Calls Try.prog 18 #[val p c ia ic la lc] w fun e w' => e = .returned (.tuple #[.int .i64 (1 + cntF c), .int .i64 (deepV hb9 p c)]) ∧ Below w.heap.size w w'

set_option maxHeartbeats 1000000 in
theorem rsize_step (p : Pay) (c : Fo) (ih : ∀ x ∈ elems c, RSizeC x.1 x.2) : RSizeC p c := by
  intro w ia ic la lc hv hcnt
  have t3 := hv.len
  have t3' : (flen c : Int) ≤ 140737488355328 := by omega
  have C0 := cntF_ge c
  go_enter Try.func18, Try.ntmps18
  go_wp2_with fail
  go_loopw [4, 5, 6] (fun vv dv iv wr => ∃ (i : Nat) (n d : Int), i ≤ flen c ∧ iv = .int .i64 i ∧ vv = .int .i64 n ∧ dv = .int .i64 d ∧ 0 ≤ n ∧ n ≤ 1000001 ∧ 0 ≤ d ∧ d ≤ 1000001 ∧ Hid (n + cntF (fdrop c i) = 1 + cntF c) ∧ Hid (max d (deepF hb9 (fdrop c i)) = deepF hb9 c) ∧ Below (w.heap.size + 1) (bx w p c ia ic la lc) wr) (fun _ _ iv _ => flen c - (intOf iv).toNat)
  case atStart =>
    have D0 := deepF_ge hb9 c
    exact ⟨0, 1, 0, Nat.zero_le _, rfl, rfl, rfl, by omega, by omega, by omega, by omega, by cases c <;> rfl, by show _ = _; rw [show fdrop c 0 = c by cases c <;> rfl]; omega, Below.refl _ _⟩
  case round =>
    obtain ⟨i, n, d, hi, rfl, rfl, rfl, n0, n1, d0', d1', HN, HD, hb⟩ := hrel
    have c6h : wr.cell? ⟨w.heap.size, 6, none⟩ = some (.slice la (flen c) lc) := box_cell hb rfl
    by_cases hlt : i < flen c
    · have hlt' : (i : Int) < (flen c : Int) := by omega
      obtain ⟨q, e, b, o, ja, jc, na, nc, bt, ot, _, hm, ef, rfl, hbl, hv', d0, d1, d2, d3, d4, d5, d6⟩ := row_at (hv.list.later (box_below hb)) hlt
      obtain ⟨y0, y1, y2, y3, y4, y5, y6⟩ := bx_cells hb
      have c1 := cntF_mem hm
      have c2 := cntF_ge e
      have c3 := cntF_ge (fdrop c (i + 1))
      have c4 := deepF_le hb9 e
      have c5 := deepF_ge hb9 e
      have K := ih _ hm _ ja jc na nc hv' (by simp only at c1 ⊢; omega)
      simp only at K c1
      have hv1 : 0 ≤ deepV hb9 q e ∧ deepV hb9 q e ≤ 1000000 := by unfold deepV; split <;> omega
      have HN' : Hid ((n + (1 + cntF e)) + cntF (fdrop c (i + 1)) = 1 + cntF c) := by
        have := HN.out
        rw [ef] at this
        simp only [cntF] at this
        show _ = _
        omega
      have HD' : Hid (max (max d (deepV hb9 q e)) (deepF hb9 (fdrop c (i + 1))) = deepF hb9 c) := by
        have := HD.out
        rw [ef] at this
        simp only [deepF] at this
        show _ = _
        unfold deepV
        omega
      have n2 : n + (1 + cntF e) ≤ 1000001 := by have := HN'.out; omega
      clear HN HD ef c1 c3 c4 c5
      obtain ⟨ce, hce⟩ : ∃ ce, 1 + cntF e = ce := ⟨_, rfl⟩
      rw [hce] at K HN' n2
      have c6 : 0 ≤ ce ∧ ce ≤ 1000001 := by omega
      obtain ⟨c6, c7⟩ := c6
      obtain ⟨hv1, hv2⟩ := hv1
      generalize deepV hb9 q e = de at *
      clear hce c2
      go_wp2_with fail
      refine K.mono ?_
      rintro ee wz ⟨rfl, hwz⟩
      have hb2 := hb.trans (hwz.mono (box_size hb))
      clear K hwz y0 y1 y2 y3 y4 y5 y6
      go_wp2_with fail
      go_roundw
      case rel => exact ⟨i + 1, n + ce, max d de, by omega, by go_num, by go_num, by simp; split <;> omega, by omega, by omega, by omega, by omega, HN', HD', hb2⟩
      case measure => simp [intOf]; omega
    · have hlt' : (flen c : Int) ≤ (i : Int) := by omega
      have HE : Hid (n = 1 + cntF c ∧ d = deepF hb9 c) := by
        have h1 := HN.out
        have h2 := HD.out
        rw [show i = flen c by omega, fdrop_end] at h1 h2
        simp only [cntF, deepF] at h1 h2
        exact ⟨by omega, by omega⟩
      obtain ⟨y0, y1, y2, y3, y4, y5, y6⟩ := bx_cells hb
      have N := rholds_any p.kind wr
      obtain ⟨t, HT⟩ : ∃ t, Hid (hb9 p.kind = t) := ⟨_, rfl⟩
      have HT' : decide (9 ≤ p.kind) = t := HT.out
      rw [HT'] at N
      clear HT'
      go_wp2_with fail
      refine N.mono ?_
      rintro e wx ⟨rfl, hwx⟩
      obtain rfl := hwx.symm
      cases t
      · go_wp2_with fail
        go_ret2
        refine ⟨?_, box_below hb⟩
        rw [HE.out.1, HE.out.2]
        simp [deepV, HT.out]
      · go_wp2_with fail
        go_ret2
        refine ⟨?_, box_below hb⟩
        rw [HE.out.1, HE.out.2]
        simp [deepV, HT.out]
theorem rsize_any (p : Pay) (c : Fo) : RSizeC p c := every_value rsize_step p c
end Go.Proofs.Ytikoddlidhefpaa
