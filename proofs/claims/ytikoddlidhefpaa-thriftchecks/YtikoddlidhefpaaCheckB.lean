/-
  Check: isMap, isInOrder, mayBe.
-/
import Derived.Test.YtikoddlidhefpaaCheckA
namespace Go.Proofs.Ytikoddlidhefpaa
open Go.ChangeShapes Go.WideShapes Go.ChangeAt Go.RowKit Go.Deep

def mapB (p : Pay) (c : Fo) : Bool :=
  if flen c = 0 then p.key == 0 && p.elem == 0 else decide (flen c % 2 = 0) && decide (flen c / 2 ≤ 65536) && ([p.key, p.elem].all knownB && kindsBy [p.key, p.elem] 0 c)

theorem src_c64_new (w : World) (l : List Int) (e : TypeId) (fr : Nat × Nat) (c : Nat) : Src (w.alloc (.cells (c64 l).toArray e fr)) (some ⟨w.heap.size, 0, none⟩) l.length c (c64 l) := by
  refine ⟨c64_len l, .inr ⟨_, rfl, fun j u hj => ?_⟩⟩
  have hp : (⟨w.heap.size, 0, none⟩ : Addr).add j = ⟨w.heap.size, j, none⟩ := by unfold Addr.add; split <;> simp_all
  rw [hp]
  exact alloc_cell w _ e fr (by simpa using hj)

set_option maxHeartbeats 1000000 in
theorem isMap_any (p : Pay) (c : Fo) (w : World) (ia : Option Addr) (ic : Nat) (la : Option Addr) (lc : Nat) (hv : VIn w p c ia ic la lc) :
    Calls Try.prog 72 #[val p c ia ic la lc] w fun e w' => e = .returned (.bool (mapB p c)) ∧ Below w.heap.size w w' := by
  have t3 := hv.len
  have t3' : (flen c : Int) ≤ 140737488355328 := by omega
  have hb0 : Below w.heap.size w (bx w p c ia ic la lc) := alloc_below _ _
  by_cases h0 : flen c = 0
  · have e : mapB p c = (p.key == 0 && p.elem == 0) := by simp [mapB, h0]
    rw [e]
    clear e
    by_cases hk : p.key = 0
    · go_enter Try.func72, Try.ntmps72
      go_wp2
      go_ret
      exact ⟨by simp [hk], alloc_below _ _⟩
    · go_enter Try.func72, Try.ntmps72
      go_wp2
      go_ret
      exact ⟨by simp [hk], alloc_below _ _⟩
  · have e : mapB p c = (decide (flen c % 2 = 0) && decide (flen c / 2 ≤ 65536) && ([p.key, p.elem].all knownB && kindsBy [p.key, p.elem] 0 c)) := by simp [mapB, h0]
    rw [e]
    clear e
    have h0' : ¬ (flen c : Int) = 0 := by omega
    by_cases h1 : flen c % 2 = 0
    · have h1' : (flen c : Int) % 2 = 0 := by omega
      by_cases h2 : flen c / 2 ≤ 65536
      · have h2' : (flen c : Int) / 2 ≤ 65536 := by omega
        have hb1 : Below w.heap.size w ((bx w p c ia ic la lc).alloc (.cells (c64 [p.key, p.elem]).toArray 22)) := hb0.alloc (by simp) _
        have A := areOf_any _ c la lc (some ⟨w.heap.size + 1, 0, none⟩) 2 [p.key, p.elem] hv.len (by simp) (by simp) (hv.list.later hb1) (by
          have := src_c64_new (bx w p c ia ic la lc) [p.key, p.elem] 22 (0, 0) 2
          rwa [bx_size] at this)
        generalize ([p.key, p.elem].all knownB && kindsBy [p.key, p.elem] 0 c) = t at *
        have e : (decide (flen c % 2 = 0) && decide (flen c / 2 ≤ 65536) && t) = t := by simp [h1, h2]
        rw [e]
        clear e h1 h2
        go_enter Try.func72, Try.ntmps72
        go_wp2_with fail
        refine A.mono ?_
        rintro e wx ⟨rfl, hwx⟩
        have hb2 := hb1.trans (hwx.mono hb1.size)
        go_wp2
        go_ret
        exact ⟨by simp, hb2⟩
      · have h2' : (65536 : Int) < (flen c : Int) / 2 := by omega
        have e : (decide (flen c % 2 = 0) && decide (flen c / 2 ≤ 65536) && ([p.key, p.elem].all knownB && kindsBy [p.key, p.elem] 0 c)) = false := by simp [h2]
        rw [e]
        clear e h1 h2
        go_enter Try.func72, Try.ntmps72
        go_wp2
        go_ret
        exact ⟨by simp, alloc_below _ _⟩
    · have h1' : (flen c : Int) % 2 = 1 := by omega
      have e : (decide (flen c % 2 = 0) && decide (flen c / 2 ≤ 65536) && ([p.key, p.elem].all knownB && kindsBy [p.key, p.elem] 0 c)) = false := by simp [h1]
      rw [e]
      clear e h1
      go_enter Try.func72, Try.ntmps72
      go_wp2
      go_ret
      exact ⟨by simp, alloc_below _ _⟩

def zeroP : Pay := { kind := 0, key := 0, elem := 0, num := 0, text := { data := #[] }, ids := [] }
theorem zeroIn (w : World) : VIn w zeroP .nil none 0 none 0 := by
  have z0 : i64ok 0 := ⟨by omega, by omega⟩
  exact ⟨⟨z0, z0, z0, z0, Nat.zero_le _, Nat.zero_le _, fun _ h => by cases h⟩, Nat.zero_le _, ⟨rfl, .inl ⟨rfl, rfl, rfl⟩⟩, trivial⟩

def bareB (p : Pay) (c : Fo) : Bool := sameP (clrP p) zeroP && sameF (clrF p c) .nil
def kindB (p : Pay) (c : Fo) : Bool :=
  if p.kind = 1 then p.num == 0 || p.num == 1
  else if 3 ≤ p.kind ∧ p.kind ≤ 7 then fitB p.num (bitsZ p.kind)
  else if p.kind = 8 then decide (p.text.size ≤ 1048576)
  else if p.kind = 9 then decide (flen c ≤ 65536) && ([p.elem].all knownB && kindsBy [p.elem] 0 c)
  else if p.kind = 11 then mapB p c
  else if p.kind = 12 then decide (flen c = p.ids.length) && risingB p.ids 0
  else false
def inOrderB (p : Pay) (c : Fo) : Bool := bareB p c && kindB p c

set_option maxRecDepth 10000 in
set_option maxHeartbeats 2000000 in
theorem isInOrder_any (p : Pay) (c : Fo) (w : World) (ia : Option Addr) (ic : Nat) (la : Option Addr) (lc : Nat) (hv : VIn w p c ia ic la lc) :
    Calls Try.prog 46 #[val p c ia ic la lc] w fun e w' => e = .returned (.bool (inOrderB p c)) ∧ Below w.heap.size w w' := by
  have t3 := hv.len
  have t3' : (flen c : Int) ≤ 140737488355328 := by omega
  have t1' : (p.text.size : Int) ≤ 140737488355328 := by have := hv.ok.text; omega
  have t2' : (p.ids.length : Int) ≤ 140737488355328 := by have := hv.ok.ids; omega
  have hb0 : Below w.heap.size w (bx w p c ia ic la lc) := alloc_below _ _
  have U := unused_any p c _ ia ic la lc (hv.later hb0)
  have S := fun W ja jc ka kc => same_any (clrP p) (clrF p c) W ja jc ka kc zeroP .nil none 0 none 0
  have hn := hv.ok.num
  unfold inOrderB
  have HB : Hid (bareB p c = (sameP (clrP p) zeroP && sameF (clrF p c) .nil)) := rfl
  rw [← HB.out] at S
  generalize bareB p c = t at *
  clear HB
  go_enter Try.func46, Try.ntmps46
  go_wp2_with fail
  refine U.mono ?_
  rintro e wx ⟨ja, jc, ka, kc, rfl, hvx, hwx⟩
  rw [bx_size] at hwx
  have SS := S wx ja jc ka kc hvx (zeroIn wx)
  clear U S hvx
  generalize clrP p = cp at *
  generalize clrF p c = cf at *
  obtain ⟨x0, x1, x2, x3, x4, x5, x6⟩ := bx_cells hwx
  go_wp2_with fail
  refine SS.mono ?_
  rintro e wy ⟨rfl, hwy⟩
  have hb := hwx.trans (hwy.mono (by have := hwx.size; simpa using this))
  obtain ⟨y0, y1, y2, y3, y4, y5, y6⟩ := bx_cells hb
  have hv' := hv.later (box_below hb)
  have hbw := box_below hb
  clear SS hwx hwy x0 x1 x2 x3 x4 x5 x6 hb hv hb0
  cases t
  · go_wp2_with fail
    go_ret
    exact ⟨by simp, hbw⟩
  by_cases h1 : p.kind = 1
  · have HK : Hid (kindB p c = (p.num == 0 || p.num == 1)) := by show _ = _; simp [kindB, h1]
    rw [h1] at y0
    clear h1
    by_cases hz : p.num = 0
    · go_wp2_with fail
      go_ret
      exact ⟨by rw [HK.out]; simp [hz], hbw⟩
    · go_wp2_with fail
      go_ret
      exact ⟨by rw [HK.out]; simp, hbw⟩
  by_cases h3 : p.kind = 3
  · have HK : Hid (kindB p c = fitB p.num 8) := by show _ = _; simp [kindB, h3, bitsZ]
    have B : ∀ W, Calls Try.prog 70 #[.int .i64 3] W fun e w' => e = .returned (.int .i64 8) ∧ w' = W := fun W => bitsOf_any 3 W
    have F := fun W => fits_8 p.num W hn
    rw [h3] at y0
    clear h3
    go_wp2_with fail
    go_quiet (first | (go_at_call 70; exact Calls.quiet_of_same (B _)) | (go_at_call 69; exact Calls.quiet_of_same (F _)))
    go_wp2_with fail
    go_ret
    exact ⟨by rw [HK.out]; simp, below_drewN hbw nq⟩
  by_cases h4 : p.kind = 4
  · have HK : Hid (kindB p c = fitB p.num 16) := by show _ = _; simp [kindB, h4, bitsZ]
    have B : ∀ W, Calls Try.prog 70 #[.int .i64 4] W fun e w' => e = .returned (.int .i64 16) ∧ w' = W := fun W => bitsOf_any 4 W
    have F := fun W => fits_16 p.num W hn
    rw [h4] at y0
    clear h4
    go_wp2_with fail
    go_quiet (first | (go_at_call 70; exact Calls.quiet_of_same (B _)) | (go_at_call 69; exact Calls.quiet_of_same (F _)))
    go_wp2_with fail
    go_ret
    exact ⟨by rw [HK.out]; simp, below_drewN hbw nq⟩
  by_cases h5 : p.kind = 5
  · have HK : Hid (kindB p c = fitB p.num 32) := by show _ = _; simp [kindB, h5, bitsZ]
    have B : ∀ W, Calls Try.prog 70 #[.int .i64 5] W fun e w' => e = .returned (.int .i64 32) ∧ w' = W := fun W => bitsOf_any 5 W
    have F := fun W => fits_32 p.num W hn
    rw [h5] at y0
    clear h5
    go_wp2_with fail
    go_quiet (first | (go_at_call 70; exact Calls.quiet_of_same (B _)) | (go_at_call 69; exact Calls.quiet_of_same (F _)))
    go_wp2_with fail
    go_ret
    exact ⟨by rw [HK.out]; simp, below_drewN hbw nq⟩
  by_cases h6 : p.kind = 6
  · have HK : Hid (kindB p c = fitB p.num 64) := by show _ = _; simp [kindB, h6, bitsZ]
    have B : ∀ W, Calls Try.prog 70 #[.int .i64 6] W fun e w' => e = .returned (.int .i64 64) ∧ w' = W := fun W => bitsOf_any 6 W
    have F := fun W => fits_64 p.num W hn
    rw [h6] at y0
    clear h6
    go_wp2_with fail
    go_quiet (first | (go_at_call 70; exact Calls.quiet_of_same (B _)) | (go_at_call 69; exact Calls.quiet_of_same (F _)))
    go_wp2_with fail
    go_ret
    exact ⟨by rw [HK.out]; simp, below_drewN hbw nq⟩
  by_cases h7 : p.kind = 7
  · have HK : Hid (kindB p c = fitB p.num 64) := by show _ = _; simp [kindB, h7, bitsZ]
    have B : ∀ W, Calls Try.prog 70 #[.int .i64 7] W fun e w' => e = .returned (.int .i64 64) ∧ w' = W := fun W => bitsOf_any 7 W
    have F := fun W => fits_64 p.num W hn
    rw [h7] at y0
    clear h7
    go_wp2_with fail
    go_quiet (first | (go_at_call 70; exact Calls.quiet_of_same (B _)) | (go_at_call 69; exact Calls.quiet_of_same (F _)))
    go_wp2_with fail
    go_ret
    exact ⟨by rw [HK.out]; simp, below_drewN hbw nq⟩
  by_cases h8 : p.kind = 8
  · have HK : Hid (kindB p c = decide (p.text.size ≤ 1048576)) := by show _ = _; simp [kindB, h8]
    rw [h8] at y0
    clear h8
    go_wp2_with fail
    go_ret
    refine ⟨?_, hbw⟩
    rw [HK.out]
    simp
    omega
  by_cases h9 : p.kind = 9
  · have HK : Hid (kindB p c = (decide (flen c ≤ 65536) && ([p.elem].all knownB && kindsBy [p.elem] 0 c))) := by show _ = _; simp [kindB, h9]
    rw [h9] at y0
    clear h9
    by_cases hl : flen c ≤ 65536
    · have hl' : (flen c : Int) ≤ 65536 := by omega
      have hab := alloc_below wy (.cells (c64 [p.elem]).toArray 22)
      have A := areOf_any _ c la lc (some ⟨wy.heap.size, 0, none⟩) 1 [p.elem] hv'.len (by simp) (by simp) (hv'.list.later hab) (src_c64_new wy [p.elem] 22 (0, 0) 1)
      have HK2 : Hid (kindB p c = ([p.elem].all knownB && kindsBy [p.elem] 0 c)) := by show _ = _; rw [HK.out]; simp [hl]
      obtain ⟨t, HT⟩ : ∃ t, Hid (kindB p c = t) := ⟨_, rfl⟩
      rw [← HK2.out, HT.out] at A
      clear HK HK2
      go_wp2_with fail
      refine A.mono ?_
      rintro e wz ⟨rfl, hwz⟩
      have hb2 := hbw.trans ((hab.trans (hwz.mono hab.size)).mono hbw.size)
      go_wp2_with fail
      go_ret
      exact ⟨by rw [HT.out]; simp, hb2⟩
    · have hl' : (65536 : Int) < (flen c : Int) := by omega
      go_wp2_with fail
      go_ret
      exact ⟨by rw [HK.out]; simp; intro h; omega, hbw⟩
  by_cases h11 : p.kind = 11
  · have HK : Hid (kindB p c = mapB p c) := by show _ = _; simp [kindB, h11]
    have M := isMap_any p c wy ia ic la lc hv'
    obtain ⟨t, HT⟩ : ∃ t, Hid (kindB p c = t) := ⟨_, rfl⟩
    rw [← HK.out, HT.out] at M
    unfold val at M
    rw [h11] at y0 M
    clear HK
    clear h11
    go_wp2_with fail
    refine M.mono ?_
    rintro e wz ⟨rfl, hwz⟩
    have hb2 := hbw.trans (hwz.mono hbw.size)
    go_wp2_with fail
    go_ret
    exact ⟨by rw [HT.out]; simp, hb2⟩
  by_cases h12 : p.kind = 12
  · have HK : Hid (kindB p c = (decide (flen c = p.ids.length) && risingB p.ids 0)) := by show _ = _; simp [kindB, h12]
    rw [h12] at y0
    clear h12
    by_cases hl : flen c = p.ids.length
    · have hl' : (flen c : Int) = (p.ids.length : Int) := by omega
      have R := areRising_any wy ia ic p.ids hv'.ok.ids hv'.ids
      have HK2 : Hid (kindB p c = risingB p.ids 0) := by show _ = _; rw [HK.out]; simp [hl]
      obtain ⟨t, HT⟩ : ∃ t, Hid (kindB p c = t) := ⟨_, rfl⟩
      rw [← HK2.out, HT.out] at R
      clear HK HK2
      clear hl
      go_wp2_with fail
      refine R.mono ?_
      rintro e wz ⟨rfl, hwz⟩
      obtain rfl := hwz.symm
      go_wp2_with fail
      go_ret
      exact ⟨by rw [HT.out]; simp, hbw⟩
    · have hl' : ¬ (flen c : Int) = (p.ids.length : Int) := by omega
      go_wp2_with fail
      go_ret
      exact ⟨by rw [HK.out]; simp; intro h; omega, hbw⟩
  have HK : Hid (kindB p c = false) := by
    show _ = _
    have : ¬ (3 ≤ p.kind ∧ p.kind ≤ 7) := by omega
    simp [kindB, h1, h8, h9, h11, h12, this]
  go_wp2_with fail
  go_ret
  exact ⟨by rw [HK.out]; simp, hbw⟩
end Go.Proofs.Ytikoddlidhefpaa
