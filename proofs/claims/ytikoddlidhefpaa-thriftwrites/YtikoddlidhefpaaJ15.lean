/-
  The reference's head of a field.
-/
import Derived.Test.YtikoddlidhefpaaJ14
import Derived.Test.YtikoddlidhefpaaJ6
import Derived.Laws.Bits128
namespace Go.Proofs.Ytikoddlidhefpaa
set_option linter.unusedVariables false
set_option linter.unusedSimpArgs false
open Go.ChangeShapes Go.WideShapes Go.ChangeAt Go.RowKit Go.Deep

theorem row_below {B : Nat} {w w' : World} {e : TypeId} {s : Nat} {v : Value} {n : Nat} {xs : List Value} (h : w.ownsRow B e s v n xs) (hb : Below w.heap.size w w') : w'.ownsRow B e s v n xs := by
  refine ⟨h.1, ?_⟩
  rcases h.2 with h1 | ⟨g, cap, cur, h1, h2, h3, h4⟩
  · exact .inl h1
  · refine .inr ⟨g, cap, cur, h1, h2, ?_, h4⟩
    have hlt : g < w.heap.size := (h.lt g (by rw [h1]; rfl)).2
    rw [hb.block g hlt, h3]
theorem one8 (w : World) (b : Nat) {B : Nat} (hB : B ≤ w.heap.size) : (w.alloc (.cells #[.int .u8 (b : Int)] 5)).ownsRow B 5 1 (.slice (some ⟨w.heap.size, 0, none⟩) 1 1) 1 (c8 [b]) :=
  ⟨by simp [c8], .inr ⟨w.heap.size, 1, _, rfl, hB, heap_new w _, Nat.le_refl _, by unfold maxLen; omega, rfl, by simp [c8]⟩⟩
theorem gives_one {w w1 : World} (hb : Below w.heap.size w w1) (b : Nat) : Gives8 w [b] (.returned (.slice (some ⟨w1.heap.size, 0, none⟩) 1 1)) (w1.alloc (.cells #[.int .u8 (b : Int)] 5)) :=
  ⟨_, 1, rfl, one8 w1 b hb.size, hb.alloc hb.size _⟩
theorem gives_more {w W : World} {l m : List Nat} {v : Value} (h : W.ownsRow w.heap.size 5 1 v (l.length + m.length) (c8 l ++ c8 m)) (hb : Below w.heap.size w W) : Gives8 w (l ++ m) (.returned v) W := by
  obtain ⟨ad, c, rfl⟩ := own_sl h
  refine ⟨ad, c, by simp, ?_, hb⟩
  rw [c8_append, List.length_append]
  exact h
theorem Gives8.src {w W : World} {l : List Nat} {ad : Option Addr} {c : Nat} (h : W.ownsRow w.heap.size 5 1 (.slice ad l.length c) l.length (c8 l)) : Src W ad l.length c (c8 l) := (src_own h).2

set_option maxRecDepth 10000 in
set_option maxHeartbeats 1000000 in
theorem rhead_n (w : World) (k : Nat) (y z n : Int) (x : ByteArray) (l : List Int) (c : Fo) (ia : Option Addr) (ic : Nat) (la : Option Addr) (lc : Nat) (id last : Int) (h0 : 0 ≤ last) (h1 : last < id) (h2 : id ≤ 32767) (hk : ¬ (k : Int) = 1) (hk2 : (k : Int) < 16) :
    Calls Try.prog 36 #[val ⟨(k : Int), y, z, n, x, l⟩ c ia ic la lc, .int .i64 id, .int .i64 last] w (Gives8 w (headB ⟨(k : Int), y, z, n, x, l⟩ id last)) := by
  obtain ⟨i0, hi, hz0, hz1, hz2⟩ := info_parts infoU8
  obtain ⟨st, hst⟩ : ∃ s : Nat, id - last = s := ⟨(id - last).toNat, by omega⟩
  have hid : i64ok id := ⟨by omega, by omega⟩
  have hab : Below w.heap.size w (bx w ⟨(k : Int), y, z, n, x, l⟩ c ia ic la lc) := alloc_below w _
  by_cases hs : id - last ≤ 15
  · obtain ⟨b, hb⟩ : ∃ b : Nat, b = 16 * st + k := ⟨_, rfl⟩
    have HG : Hid (Gives8 w (headB ⟨(k : Int), y, z, n, x, l⟩ id last) (.returned (.slice (some ⟨w.heap.size + 1, 0, none⟩) 1 1)) ((bx w ⟨(k : Int), y, z, n, x, l⟩ c ia ic la lc).alloc (.cells #[.int .u8 (b : Int)] 5))) := by
      have e : headB ⟨(k : Int), y, z, n, x, l⟩ id last = [b] := by unfold headB; rw [if_pos hs, hst, hb]; simp [hk]
      show Gives8 _ _ _ _
      rw [e]
      have := gives_one hab b
      rwa [bx_size] at this
    have hst' : (st : Int) ≤ 15 := by omega
    have hb' : 16 * (st : Int) + k = (b : Int) := by omega
    have hb2 : (b : Int) ≤ 255 := by omega
    clear hb hs hid
    go_enter Try.func36, Try.ntmps36
    go_wp2_with fail
    go_ret
    exact HG.out
  · have hs' : 15 < id - last := by omega
    have T := rturned_any id ((bx w ⟨(k : Int), y, z, n, x, l⟩ c ia ic la lc).alloc (.cells #[.int .u8 ((k : Nat) : Int)] 5)) hid
    have hz := (zig_zz hid).2
    have N := rnumber_any ((bx w ⟨(k : Int), y, z, n, x, l⟩ c ia ic la lc).alloc (.cells #[.int .u8 ((k : Nat) : Int)] 5)) (zig id) hz
    have HE : Hid (headB ⟨(k : Int), y, z, n, x, l⟩ id last = [k] ++ numB (zig id)) := by show _ = _; unfold headB; rw [if_neg hs]; simp [hk]
    have HO := one8 (bx w ⟨(k : Int), y, z, n, x, l⟩ c ia ic la lc) (k) (B := w.heap.size) hab.size
    have HBL := hab.alloc hab.size (.cells #[.int .u8 ((k : Nat) : Int)] 5)
    have HL : Hid (1 + (numB (zig id)).length ≤ maxLen ∧ (1 + (numB (zig id)).length) * 1 ≤ 140737488355328) := ⟨by have := numB_len (zig id); unfold maxLen; omega, by have := numB_len (zig id); omega⟩
    have HO1 : Hid (((bx w ⟨(k : Int), y, z, n, x, l⟩ c ia ic la lc).alloc (.cells #[.int .u8 ((k : Nat) : Int)] 5)).ownsRow w.heap.size 5 1 (.slice (some ⟨w.heap.size + 1, 0, none⟩) 1 1) 1 (c8 [k])) := by rw [bx_size] at HO; exact HO
    have HB1 : Hid (Below w.heap.size w ((bx w ⟨(k : Int), y, z, n, x, l⟩ c ia ic la lc).alloc (.cells #[.int .u8 ((k : Nat) : Int)] 5))) := HBL
    generalize zig id = q at *
    clear hs hid HO HBL
    go_enter Try.func36, Try.ntmps36
    go_wp2_with fail
    refine T.mono ?_
    rintro e W1 ⟨rfl, rfl⟩
    clear T
    go_wp2_with fail
    refine N.mono ?_
    rintro e W2 ⟨ad2, c2, rfl, hO2, hB2⟩
    have HS2 : Hid (Src W2 ad2 (numB q).length c2 (c8 (numB q))) := Gives8.src hO2
    have HO2 : Hid (W2.ownsRow w.heap.size 5 1 (.slice (some ⟨w.heap.size + 1, 0, none⟩) 1 1) 1 (c8 [k])) := row_below HO1.out hB2
    have HB2 : Hid (Below w.heap.size w W2) := HB1.out.trans (hB2.mono HB1.out.size)
    clear N hO2 hB2
    go_wp2_with (at_builtin; refine wpList_append_src rfl (.tmp 29) (.tmp 32) 37 rfl w.heap.size 5 i0 (.int .u8 0) 1 Try.underlying37 hi hz0 hz1 hz2 rfl _ 1 _ rfl HO2.out _ _ _ _ rfl HS2.out (c8_one _) HL.out.1 HL.out.2 HB2.out.size ?_; intro v3 W3 hown3 hb3; have HG : Hid _ := gives_more (l := [k]) hown3 (HB2.out.trans hb3); clear hown3 hb3)
    go_ret
    have := HG.out
    rw [← HE.out] at this
    exact this

set_option maxRecDepth 10000 in
set_option maxHeartbeats 1000000 in
theorem rhead_f (w : World)  (y z : Int) (x : ByteArray) (l : List Int) (c : Fo) (ia : Option Addr) (ic : Nat) (la : Option Addr) (lc : Nat) (id last : Int) (h0 : 0 ≤ last) (h1 : last < id) (h2 : id ≤ 32767) :
    Calls Try.prog 36 #[val ⟨1, y, z, 0, x, l⟩ c ia ic la lc, .int .i64 id, .int .i64 last] w (Gives8 w (headB ⟨1, y, z, 0, x, l⟩ id last)) := by
  obtain ⟨i0, hi, hz0, hz1, hz2⟩ := info_parts infoU8
  obtain ⟨st, hst⟩ : ∃ s : Nat, id - last = s := ⟨(id - last).toNat, by omega⟩
  have hid : i64ok id := ⟨by omega, by omega⟩
  have hab : Below w.heap.size w (bx w ⟨1, y, z, 0, x, l⟩ c ia ic la lc) := alloc_below w _
  by_cases hs : id - last ≤ 15
  · obtain ⟨b, hb⟩ : ∃ b : Nat, b = 16 * st + 2 := ⟨_, rfl⟩
    have HG : Hid (Gives8 w (headB ⟨1, y, z, 0, x, l⟩ id last) (.returned (.slice (some ⟨w.heap.size + 1, 0, none⟩) 1 1)) ((bx w ⟨1, y, z, 0, x, l⟩ c ia ic la lc).alloc (.cells #[.int .u8 (b : Int)] 5))) := by
      have e : headB ⟨1, y, z, 0, x, l⟩ id last = [b] := by unfold headB; rw [if_pos hs, hst, hb]; simp [truthN]
      show Gives8 _ _ _ _
      rw [e]
      have := gives_one hab b
      rwa [bx_size] at this
    have hst' : (st : Int) ≤ 15 := by omega
    have hb' : 16 * (st : Int) + 2 = (b : Int) := by omega
    have hb2 : (b : Int) ≤ 255 := by omega
    clear hb hs hid
    go_enter Try.func36, Try.ntmps36
    go_wp2_with fail
    go_ret
    exact HG.out
  · have hs' : 15 < id - last := by omega
    have T := rturned_any id ((bx w ⟨1, y, z, 0, x, l⟩ c ia ic la lc).alloc (.cells #[.int .u8 ((2 : Nat) : Int)] 5)) hid
    have hz := (zig_zz hid).2
    have N := rnumber_any ((bx w ⟨1, y, z, 0, x, l⟩ c ia ic la lc).alloc (.cells #[.int .u8 ((2 : Nat) : Int)] 5)) (zig id) hz
    have HE : Hid (headB ⟨1, y, z, 0, x, l⟩ id last = [2] ++ numB (zig id)) := by show _ = _; unfold headB; rw [if_neg hs]; simp [truthN]
    have HO := one8 (bx w ⟨1, y, z, 0, x, l⟩ c ia ic la lc) (2) (B := w.heap.size) hab.size
    have HBL := hab.alloc hab.size (.cells #[.int .u8 ((2 : Nat) : Int)] 5)
    have HL : Hid (1 + (numB (zig id)).length ≤ maxLen ∧ (1 + (numB (zig id)).length) * 1 ≤ 140737488355328) := ⟨by have := numB_len (zig id); unfold maxLen; omega, by have := numB_len (zig id); omega⟩
    have HO1 : Hid (((bx w ⟨1, y, z, 0, x, l⟩ c ia ic la lc).alloc (.cells #[.int .u8 ((2 : Nat) : Int)] 5)).ownsRow w.heap.size 5 1 (.slice (some ⟨w.heap.size + 1, 0, none⟩) 1 1) 1 (c8 [2])) := by rw [bx_size] at HO; exact HO
    have HB1 : Hid (Below w.heap.size w ((bx w ⟨1, y, z, 0, x, l⟩ c ia ic la lc).alloc (.cells #[.int .u8 ((2 : Nat) : Int)] 5))) := HBL
    generalize zig id = q at *
    clear hs hid HO HBL
    go_enter Try.func36, Try.ntmps36
    go_wp2_with fail
    refine T.mono ?_
    rintro e W1 ⟨rfl, rfl⟩
    clear T
    go_wp2_with fail
    refine N.mono ?_
    rintro e W2 ⟨ad2, c2, rfl, hO2, hB2⟩
    have HS2 : Hid (Src W2 ad2 (numB q).length c2 (c8 (numB q))) := Gives8.src hO2
    have HO2 : Hid (W2.ownsRow w.heap.size 5 1 (.slice (some ⟨w.heap.size + 1, 0, none⟩) 1 1) 1 (c8 [2])) := row_below HO1.out hB2
    have HB2 : Hid (Below w.heap.size w W2) := HB1.out.trans (hB2.mono HB1.out.size)
    clear N hO2 hB2
    go_wp2_with (at_builtin; refine wpList_append_src rfl (.tmp 29) (.tmp 32) 37 rfl w.heap.size 5 i0 (.int .u8 0) 1 Try.underlying37 hi hz0 hz1 hz2 rfl _ 1 _ rfl HO2.out _ _ _ _ rfl HS2.out (c8_one _) HL.out.1 HL.out.2 HB2.out.size ?_; intro v3 W3 hown3 hb3; have HG : Hid _ := gives_more (l := [2]) hown3 (HB2.out.trans hb3); clear hown3 hb3)
    go_ret
    have := HG.out
    rw [← HE.out] at this
    exact this

set_option maxRecDepth 10000 in
set_option maxHeartbeats 1000000 in
theorem rhead_t (w : World)  (y z : Int) (x : ByteArray) (l : List Int) (c : Fo) (ia : Option Addr) (ic : Nat) (la : Option Addr) (lc : Nat) (id last : Int) (h0 : 0 ≤ last) (h1 : last < id) (h2 : id ≤ 32767) :
    Calls Try.prog 36 #[val ⟨1, y, z, 1, x, l⟩ c ia ic la lc, .int .i64 id, .int .i64 last] w (Gives8 w (headB ⟨1, y, z, 1, x, l⟩ id last)) := by
  obtain ⟨i0, hi, hz0, hz1, hz2⟩ := info_parts infoU8
  obtain ⟨st, hst⟩ : ∃ s : Nat, id - last = s := ⟨(id - last).toNat, by omega⟩
  have hid : i64ok id := ⟨by omega, by omega⟩
  have hab : Below w.heap.size w (bx w ⟨1, y, z, 1, x, l⟩ c ia ic la lc) := alloc_below w _
  by_cases hs : id - last ≤ 15
  · obtain ⟨b, hb⟩ : ∃ b : Nat, b = 16 * st + 1 := ⟨_, rfl⟩
    have HG : Hid (Gives8 w (headB ⟨1, y, z, 1, x, l⟩ id last) (.returned (.slice (some ⟨w.heap.size + 1, 0, none⟩) 1 1)) ((bx w ⟨1, y, z, 1, x, l⟩ c ia ic la lc).alloc (.cells #[.int .u8 (b : Int)] 5))) := by
      have e : headB ⟨1, y, z, 1, x, l⟩ id last = [b] := by unfold headB; rw [if_pos hs, hst, hb]; simp [truthN]
      show Gives8 _ _ _ _
      rw [e]
      have := gives_one hab b
      rwa [bx_size] at this
    have hst' : (st : Int) ≤ 15 := by omega
    have hb' : 16 * (st : Int) + 1 = (b : Int) := by omega
    have hb2 : (b : Int) ≤ 255 := by omega
    clear hb hs hid
    go_enter Try.func36, Try.ntmps36
    go_wp2_with fail
    go_ret
    exact HG.out
  · have hs' : 15 < id - last := by omega
    have T := rturned_any id ((bx w ⟨1, y, z, 1, x, l⟩ c ia ic la lc).alloc (.cells #[.int .u8 ((1 : Nat) : Int)] 5)) hid
    have hz := (zig_zz hid).2
    have N := rnumber_any ((bx w ⟨1, y, z, 1, x, l⟩ c ia ic la lc).alloc (.cells #[.int .u8 ((1 : Nat) : Int)] 5)) (zig id) hz
    have HE : Hid (headB ⟨1, y, z, 1, x, l⟩ id last = [1] ++ numB (zig id)) := by show _ = _; unfold headB; rw [if_neg hs]; simp [truthN]
    have HO := one8 (bx w ⟨1, y, z, 1, x, l⟩ c ia ic la lc) (1) (B := w.heap.size) hab.size
    have HBL := hab.alloc hab.size (.cells #[.int .u8 ((1 : Nat) : Int)] 5)
    have HL : Hid (1 + (numB (zig id)).length ≤ maxLen ∧ (1 + (numB (zig id)).length) * 1 ≤ 140737488355328) := ⟨by have := numB_len (zig id); unfold maxLen; omega, by have := numB_len (zig id); omega⟩
    have HO1 : Hid (((bx w ⟨1, y, z, 1, x, l⟩ c ia ic la lc).alloc (.cells #[.int .u8 ((1 : Nat) : Int)] 5)).ownsRow w.heap.size 5 1 (.slice (some ⟨w.heap.size + 1, 0, none⟩) 1 1) 1 (c8 [1])) := by rw [bx_size] at HO; exact HO
    have HB1 : Hid (Below w.heap.size w ((bx w ⟨1, y, z, 1, x, l⟩ c ia ic la lc).alloc (.cells #[.int .u8 ((1 : Nat) : Int)] 5))) := HBL
    generalize zig id = q at *
    clear hs hid HO HBL
    go_enter Try.func36, Try.ntmps36
    go_wp2_with fail
    refine T.mono ?_
    rintro e W1 ⟨rfl, rfl⟩
    clear T
    go_wp2_with fail
    refine N.mono ?_
    rintro e W2 ⟨ad2, c2, rfl, hO2, hB2⟩
    have HS2 : Hid (Src W2 ad2 (numB q).length c2 (c8 (numB q))) := Gives8.src hO2
    have HO2 : Hid (W2.ownsRow w.heap.size 5 1 (.slice (some ⟨w.heap.size + 1, 0, none⟩) 1 1) 1 (c8 [1])) := row_below HO1.out hB2
    have HB2 : Hid (Below w.heap.size w W2) := HB1.out.trans (hB2.mono HB1.out.size)
    clear N hO2 hB2
    go_wp2_with (at_builtin; refine wpList_append_src rfl (.tmp 29) (.tmp 32) 37 rfl w.heap.size 5 i0 (.int .u8 0) 1 Try.underlying37 hi hz0 hz1 hz2 rfl _ 1 _ rfl HO2.out _ _ _ _ rfl HS2.out (c8_one _) HL.out.1 HL.out.2 HB2.out.size ?_; intro v3 W3 hown3 hb3; have HG : Hid _ := gives_more (l := [1]) hown3 (HB2.out.trans hb3); clear hown3 hb3)
    go_ret
    have := HG.out
    rw [← HE.out] at this
    exact this

theorem rhead_any (w : World) (p : Pay) (c : Fo) (ia : Option Addr) (ic : Nat) (la : Option Addr) (lc : Nat) (id last : Int) (h0 : 0 ≤ last) (h1 : last < id) (h2 : id ≤ 32767) (hok : OkV p c) :
    Calls Try.prog 36 #[val p c ia ic la lc, .int .i64 id, .int .i64 last] w (Gives8 w (headB p id last)) := by
  obtain ⟨kk, hkk, hkk2⟩ := kind_nat hok.known
  have ho := hok.order
  obtain ⟨k, y, z, n, x, l⟩ := p
  simp only at hkk
  subst hkk
  by_cases hk : (kk : Int) = 1
  · have : kk = 1 := by omega
    subst this
    have hn : n = 0 ∨ n = 1 := by
      have := hok.kind
      simpa [kindB] using this
    rcases hn with rfl | rfl
    · exact rhead_f w y z x l c ia ic la lc id last h0 h1 h2
    · exact rhead_t w y z x l c ia ic la lc id last h0 h1 h2
  · exact rhead_n w kk y z n x l c ia ic la lc id last h0 h1 h2 hk (by omega)
end Go.Proofs.Ytikoddlidhefpaa

/-
  The reference's Bytes: the values that hold no others.
-/
namespace Go.Proofs.Ytikoddlidhefpaa
set_option linter.unusedVariables false
set_option linter.unusedSimpArgs false
open Go.ChangeShapes Go.WideShapes Go.ChangeAt Go.RowKit Go.Deep

set_option maxRecDepth 20000 in
set_option maxHeartbeats 1000000 in
theorem rby_f (w : World) (y z : Int) (x : ByteArray) (l : List Int) (c : Fo) (ia : Option Addr) (ic : Nat) (la : Option Addr) (lc : Nat) :
    Calls Try.prog 20 #[val ⟨1, y, z, 0, x, l⟩ c ia ic la lc] w (Gives8 w (valB ⟨1, y, z, 0, x, l⟩ c)) := by
  obtain ⟨i0, hi, hz0, hz1, hz2⟩ := info_parts infoU8
  have hab : Below w.heap.size w (bx w ⟨1, y, z, 0, x, l⟩ c ia ic la lc) := alloc_below w _
  have hb := True.intro
  have HG : Hid (Gives8 w (valB ⟨1, y, z, 0, x, l⟩ c) (.returned (.slice (some ⟨w.heap.size + 1, 0, none⟩) 1 1)) ((bx w ⟨1, y, z, 0, x, l⟩ c ia ic la lc).alloc (.cells #[.int .u8 ((2 : Nat) : Int)] 5))) := by
    have e : valB ⟨1, y, z, 0, x, l⟩ c = [2] := by simp [valB, preB, truthN, hb]
    show Gives8 _ _ _ _
    rw [e]
    have := gives_one hab 2
    rwa [bx_size] at this
  clear hb
  go_enter Try.func20, Try.ntmps20
  go_wp2_with fail
  go_ret
  exact HG.out

set_option maxRecDepth 20000 in
set_option maxHeartbeats 1000000 in
theorem rby_t (w : World) (y z : Int) (x : ByteArray) (l : List Int) (c : Fo) (ia : Option Addr) (ic : Nat) (la : Option Addr) (lc : Nat) :
    Calls Try.prog 20 #[val ⟨1, y, z, 1, x, l⟩ c ia ic la lc] w (Gives8 w (valB ⟨1, y, z, 1, x, l⟩ c)) := by
  obtain ⟨i0, hi, hz0, hz1, hz2⟩ := info_parts infoU8
  have hab : Below w.heap.size w (bx w ⟨1, y, z, 1, x, l⟩ c ia ic la lc) := alloc_below w _
  have hb := True.intro
  have HG : Hid (Gives8 w (valB ⟨1, y, z, 1, x, l⟩ c) (.returned (.slice (some ⟨w.heap.size + 1, 0, none⟩) 1 1)) ((bx w ⟨1, y, z, 1, x, l⟩ c ia ic la lc).alloc (.cells #[.int .u8 ((1 : Nat) : Int)] 5))) := by
    have e : valB ⟨1, y, z, 1, x, l⟩ c = [1] := by simp [valB, preB, truthN, hb]
    show Gives8 _ _ _ _
    rw [e]
    have := gives_one hab 1
    rwa [bx_size] at this
  clear hb
  go_enter Try.func20, Try.ntmps20
  go_wp2_with fail
  go_ret
  exact HG.out

theorem row_mono {w : World} {base base' : Nat} {e : TypeId} {size : Nat} {v : Value} {n : Nat} {xs : List Value} (h : w.ownsRow base e size v n xs) (hb : base' ≤ base) : w.ownsRow base' e size v n xs := by
  refine ⟨h.1, ?_⟩
  rcases h.2 with h1 | ⟨g, cap, cur, h1, h2, h3⟩
  · exact .inl h1
  · exact .inr ⟨g, cap, cur, h1, Nat.le_trans hb h2, h3⟩
theorem i64_and255 (n : Int) : bits .and .i64 n 255 = n % 256 := by
  have h255 : (BitVec.ofInt 64 255).toNat = 2 ^ 8 - 1 := by decide
  have key : (BitVec.ofInt 64 n &&& BitVec.ofInt 64 255).toNat = (n % ((2 ^ 64 : Nat) : Int)).toNat % 2 ^ 8 := by
    rw [BitVec.toNat_and, BitVec.toNat_ofInt, h255, Nat.and_two_pow_sub_one_eq_mod]
  show IntKind.i64.wrap ((BitVec.ofInt 64 n &&& BitVec.ofInt 64 255).toNat : Nat) = n % 256
  rw [key, IntKind.wrap_i64]
  omega

set_option maxRecDepth 20000 in
set_option maxHeartbeats 1000000 in
theorem rby_3 (w : World) (y z n : Int) (x : ByteArray) (l : List Int) (c : Fo) (ia : Option Addr) (ic : Nat) (la : Option Addr) (lc : Nat) :
    Calls Try.prog 20 #[val ⟨3, y, z, n, x, l⟩ c ia ic la lc] w (Gives8 w (valB ⟨3, y, z, n, x, l⟩ c)) := by
  obtain ⟨i0, hi, hz0, hz1, hz2⟩ := info_parts infoU8
  have hab : Below w.heap.size w (bx w ⟨3, y, z, n, x, l⟩ c ia ic la lc) := alloc_below w _
  obtain ⟨b, hb⟩ : ∃ b : Nat, (n % 256).toNat = b := ⟨_, rfl⟩
  have h255 := i64_and255 n
  have hn : n % 256 = (b : Int) := by omega
  have hb2 : (b : Int) ≤ 255 := by omega
  rw [hn] at h255
  have HG : Hid (Gives8 w (valB ⟨3, y, z, n, x, l⟩ c) (.returned (.slice (some ⟨w.heap.size + 1, 0, none⟩) 1 1)) ((bx w ⟨3, y, z, n, x, l⟩ c ia ic la lc).alloc (.cells #[.int .u8 ((b : Nat) : Int)] 5))) := by
    have e : valB ⟨3, y, z, n, x, l⟩ c = [b] := by simp [valB, preB, truthN, hb]
    show Gives8 _ _ _ _
    rw [e]
    have := gives_one hab b
    rwa [bx_size] at this
  clear hb
  go_enter Try.func20, Try.ntmps20
  go_wp2_with fail
  go_ret
  exact HG.out

set_option maxRecDepth 20000 in
set_option maxHeartbeats 1000000 in
theorem rby_4 (w : World) (y z n : Int) (x : ByteArray) (l : List Int) (c : Fo) (ia : Option Addr) (ic : Nat) (la : Option Addr) (lc : Nat) (hn : i64ok n) :
    Calls Try.prog 20 #[val ⟨4, y, z, n, x, l⟩ c ia ic la lc] w (Gives8 w (valB ⟨4, y, z, n, x, l⟩ c)) := by
  obtain ⟨i0, hi, hz0, hz1, hz2⟩ := info_parts infoU8
  have hab : Below w.heap.size w (bx w ⟨4, y, z, n, x, l⟩ c ia ic la lc) := alloc_below w _
  have T := rturned_any n (bx w ⟨4, y, z, n, x, l⟩ c ia ic la lc) hn
  have N := rnumber_any (bx w ⟨4, y, z, n, x, l⟩ c ia ic la lc) (zig n) (zig_zz hn).2
  have HE : Hid (valB ⟨4, y, z, n, x, l⟩ c = numB (zig n)) := by show _ = _; simp [valB, preB]
  go_enter Try.func20, Try.ntmps20
  go_wp2_with fail
  refine T.mono ?_
  rintro e W1 ⟨rfl, rfl⟩
  clear T
  go_wp2_with fail
  refine N.mono ?_
  rintro e W2 ⟨ad2, c2, rfl, hO2, hB2⟩
  have HG : Hid (Gives8 w (numB (zig n)) (.returned (.slice ad2 (numB (zig n)).length c2)) W2) := ⟨ad2, c2, rfl, row_mono hO2 hab.size, hab.trans (hB2.mono hab.size)⟩
  clear N hO2 hB2
  go_wp2_with fail
  go_ret
  rw [HE.out]
  exact HG.out

set_option maxRecDepth 20000 in
set_option maxHeartbeats 1000000 in
theorem rby_5 (w : World) (y z n : Int) (x : ByteArray) (l : List Int) (c : Fo) (ia : Option Addr) (ic : Nat) (la : Option Addr) (lc : Nat) (hn : i64ok n) :
    Calls Try.prog 20 #[val ⟨5, y, z, n, x, l⟩ c ia ic la lc] w (Gives8 w (valB ⟨5, y, z, n, x, l⟩ c)) := by
  obtain ⟨i0, hi, hz0, hz1, hz2⟩ := info_parts infoU8
  have hab : Below w.heap.size w (bx w ⟨5, y, z, n, x, l⟩ c ia ic la lc) := alloc_below w _
  have T := rturned_any n (bx w ⟨5, y, z, n, x, l⟩ c ia ic la lc) hn
  have N := rnumber_any (bx w ⟨5, y, z, n, x, l⟩ c ia ic la lc) (zig n) (zig_zz hn).2
  have HE : Hid (valB ⟨5, y, z, n, x, l⟩ c = numB (zig n)) := by show _ = _; simp [valB, preB]
  go_enter Try.func20, Try.ntmps20
  go_wp2_with fail
  refine T.mono ?_
  rintro e W1 ⟨rfl, rfl⟩
  clear T
  go_wp2_with fail
  refine N.mono ?_
  rintro e W2 ⟨ad2, c2, rfl, hO2, hB2⟩
  have HG : Hid (Gives8 w (numB (zig n)) (.returned (.slice ad2 (numB (zig n)).length c2)) W2) := ⟨ad2, c2, rfl, row_mono hO2 hab.size, hab.trans (hB2.mono hab.size)⟩
  clear N hO2 hB2
  go_wp2_with fail
  go_ret
  rw [HE.out]
  exact HG.out

set_option maxRecDepth 20000 in
set_option maxHeartbeats 1000000 in
theorem rby_6 (w : World) (y z n : Int) (x : ByteArray) (l : List Int) (c : Fo) (ia : Option Addr) (ic : Nat) (la : Option Addr) (lc : Nat) (hn : i64ok n) :
    Calls Try.prog 20 #[val ⟨6, y, z, n, x, l⟩ c ia ic la lc] w (Gives8 w (valB ⟨6, y, z, n, x, l⟩ c)) := by
  obtain ⟨i0, hi, hz0, hz1, hz2⟩ := info_parts infoU8
  have hab : Below w.heap.size w (bx w ⟨6, y, z, n, x, l⟩ c ia ic la lc) := alloc_below w _
  have T := rturned_any n (bx w ⟨6, y, z, n, x, l⟩ c ia ic la lc) hn
  have N := rnumber_any (bx w ⟨6, y, z, n, x, l⟩ c ia ic la lc) (zig n) (zig_zz hn).2
  have HE : Hid (valB ⟨6, y, z, n, x, l⟩ c = numB (zig n)) := by show _ = _; simp [valB, preB]
  go_enter Try.func20, Try.ntmps20
  go_wp2_with fail
  refine T.mono ?_
  rintro e W1 ⟨rfl, rfl⟩
  clear T
  go_wp2_with fail
  refine N.mono ?_
  rintro e W2 ⟨ad2, c2, rfl, hO2, hB2⟩
  have HG : Hid (Gives8 w (numB (zig n)) (.returned (.slice ad2 (numB (zig n)).length c2)) W2) := ⟨ad2, c2, rfl, row_mono hO2 hab.size, hab.trans (hB2.mono hab.size)⟩
  clear N hO2 hB2
  go_wp2_with fail
  go_ret
  rw [HE.out]
  exact HG.out

theorem leB_get : ∀ (k n i : Nat), i < k → (leB k n)[i]? = some (n / 256 ^ i % 256)
  | 0, _, _, h => by omega
  | k + 1, n, 0, _ => by simp [leB]
  | k + 1, n, i + 1, h => by
    have := leB_get k (n / 256) i (by omega)
    simp only [leB, List.getElem?_cons_succ, this]
    rw [Nat.div_div_eq_div_mul, Nat.pow_succ, Nat.mul_comm]
theorem byte_at (n : Int) (N i : Nat) (hN : (n % 18446744073709551616).toNat = N) (hi : i < 8) : n / 2 ^ (8 * i) % 256 = ((N / 256 ^ i % 256 : Nat) : Int) := by
  have h : i = 0 ∨ i = 1 ∨ i = 2 ∨ i = 3 ∨ i = 4 ∨ i = 5 ∨ i = 6 ∨ i = 7 := by omega
  rcases h with rfl | rfl | rfl | rfl | rfl | rfl | rfl | rfl <;> simp only [Nat.reduceMul, Nat.reducePow, Int.reducePow] <;> omega
theorem leB_take {n : Nat} {i : Nat} (h : i < 8) : (leB 8 n).take (i + 1) = (leB 8 n).take i ++ [n / 256 ^ i % 256] := by
  rw [List.take_add_one, leB_get 8 n i h]; rfl

set_option maxRecDepth 20000 in
set_option maxHeartbeats 1000000 in
theorem rby_7 (w : World) (y z n : Int) (x : ByteArray) (l : List Int) (c : Fo) (ia : Option Addr) (ic : Nat) (la : Option Addr) (lc : Nat) (hn : i64ok n) :
    Calls Try.prog 20 #[val ⟨7, y, z, n, x, l⟩ c ia ic la lc] w (Gives8 w (valB ⟨7, y, z, n, x, l⟩ c)) := by
  obtain ⟨i0, hi, hz0, hz1, hz2⟩ := info_parts infoU8
  have hab : Below w.heap.size w (bx w ⟨7, y, z, n, x, l⟩ c ia ic la lc) := alloc_below w _
  obtain ⟨n0, n1⟩ := hn
  obtain ⟨N, hN⟩ : ∃ N : Nat, (n % 18446744073709551616).toNat = N := ⟨_, rfl⟩
  have HE : Hid (valB ⟨7, y, z, n, x, l⟩ c = leB 8 N) := by show _ = _; simp [valB, preB, hN]
  go_enter Try.func20, Try.ntmps20
  go_wp2_with fail
  go_loopw [3, 4] (fun bv iv wr => ∃ (i : Nat), i ≤ 8 ∧ iv = .int .i64 (i : Int) ∧ Hid (wr.ownsRow (w.heap.size + 1) 5 1 bv i (c8 ((leB 8 N).take i))) ∧ Below (w.heap.size + 1) (bx w ⟨7, y, z, n, x, l⟩ c ia ic la lc) wr) (fun _ iv _ => 8 - (intOf iv).toNat)
  case atStart => exact ⟨0, by omega, rfl, World.ownsRow_nil _ _ 5 1, Below.refl _ _⟩
  case round =>
    obtain ⟨i, hi8, rfl, HW, hbw⟩ := hrel
    obtain ⟨ad0, cc0, rfl⟩ := own_sl HW.out
    have y3 := (bx_cells hbw).2.2.2.1
    have HB0 : Hid (Below w.heap.size w wr) := hab.trans (hbw.mono (Nat.le_succ _))
    by_cases hlt : i < 8
    · obtain ⟨b, hb⟩ : ∃ b : Nat, N / 256 ^ i % 256 = b := ⟨_, rfl⟩
      have h255 : bits .and .i64 (n / 2 ^ (8 * i)) 255 = (b : Int) := by rw [i64_and255, byte_at n N i hN hlt, hb]
      have hb2 : (b : Int) ≤ 255 := by omega
      have HL : Hid (i + 1 ≤ maxLen ∧ (i + 1) * 1 ≤ 140737488355328) := ⟨by unfold maxLen; omega, by omega⟩
      have HA : Hid (w.heap.size + 1 ≤ (wr.alloc (.cells #[.int .u8 (b : Int)] 5)).heap.size) := by show _ ≤ _; have := hbw.size; simp at this ⊢; omega
      have HST : Hid (∀ v1 W1, W1.ownsRow (w.heap.size + 1) 5 1 v1 (i + 1) (c8 ((leB 8 N).take i) ++ [.int .u8 (b : Int)]) → (wr.alloc (.cells #[.int .u8 (b : Int)] 5)).grownBy W1 (Value.ownBlock (.slice ad0 i cc0)) → W1.ownsRow (w.heap.size + 1) 5 1 v1 (i + 1) (c8 ((leB 8 N).take (i + 1))) ∧ Below (w.heap.size + 1) (bx w ⟨7, y, z, n, x, l⟩ c ia ic la lc) W1) := by
        intro v1 W1 ho hg
        refine ⟨by rw [leB_take hlt, hb]; simpa [c8] using ho, ?_⟩
        have HW1 : wr.ownsRow (w.heap.size + 1) 5 1 (.slice ad0 i cc0) i (c8 ((leB 8 N).take i)) := HW.out
        have hsz : w.heap.size + 1 ≤ wr.heap.size := by have := hbw.size; simpa using this
        exact (hbw.alloc hsz _).grown hg (by simp; omega) (fun k hk => (HW1.lt k hk).1)
      clear hN hb
      go_wp2_with (at_builtin; refine wpList_append_own _ rfl (.tmp 38) (.tmp 46) 37 rfl (w.heap.size + 1) 5 i0 (.int .u8 0) 1 1 Try.underlying37 hi hz0 hz1 hz2 rfl (by decide) _ i (c8 ((leB 8 N).take i)) rfl (HW.out.alloc _) ⟨wr.heap.size, 0, none⟩ 1 1 [.int .u8 (b : Int)] rfl rfl (new_news wr [.int .u8 (b : Int)] 5 (0, 0)) (c8_one [b]) HL.out.1 HL.out.2 HA.out ?_; intro v1 W1 hown1 hg1 _; have HS : Hid _ := HST.out v1 W1 hown1 hg1; clear hown1 hg1)
      go_roundw
      case rel => exact ⟨i + 1, by omega, by go_num, HS.out.1, HS.out.2⟩
      case measure => simp [intOf]; omega
    · have h8 : i = 8 := by omega
      subst h8
      have HG : Hid (Gives8 w (leB 8 N) (.returned (.slice ad0 8 cc0)) wr) := by
        refine ⟨ad0, cc0, by rw [leB_len], ?_, HB0.out⟩
        have := HW.out
        rw [List.take_of_length_le (by rw [leB_len]; omega)] at this
        rw [leB_len]
        exact row_mono this (Nat.le_succ _)
      go_wp2_with fail
      go_ret
      rw [HE.out]
      exact HG.out
end Go.Proofs.Ytikoddlidhefpaa

/-
  The reference's Bytes: lists and maps.
-/
namespace Go.Proofs.Ytikoddlidhefpaa
set_option linter.unusedVariables false
set_option linter.unusedSimpArgs false
open Go.ChangeShapes Go.WideShapes Go.ChangeAt Go.RowKit Go.Deep

def RBC (p : Pay) (c : Fo) : Prop := ∀ (w0 w : World) (ia : Option Addr) (ic : Nat) (la : Option Addr) (lc : Nat), OkV p c → VIn w0 p c ia ic la lc → Below w0.heap.size w0 w → (valB p c).length + 100 ≤ 70368744177664 →
  Calls Try.prog 20 #[val p c ia ic la lc] w (Gives8 w (valB p c))
theorem own_join {W : World} {B : Nat} {v : Value} {n : Nat} {l m : List Nat} (h : W.ownsRow B 5 1 v (n + m.length) (c8 l ++ c8 m)) : W.ownsRow B 5 1 v (n + m.length) (c8 (l ++ m)) := by
  rw [c8_append]; exact h
theorem own_len {W : World} {B : Nat} {v : Value} {n : Nat} {l : List Nat} (h : W.ownsRow B 5 1 v n (c8 l)) : n = l.length := by
  have := h.1
  simp [c8] at this
  omega

set_option maxRecDepth 20000 in
set_option maxHeartbeats 2000000 in
theorem rby_9 (y z n : Int) (x : ByteArray) (l : List Int) (c : Fo) (ih : ∀ x ∈ elems c, RBC x.1 x.2) : RBC ⟨9, y, z, n, x, l⟩ c := by
  intro w0 w ia ic la lc hok hv hb0 hl
  obtain ⟨i0, hi, hz0, hz1, hz2⟩ := info_parts infoU8
  have hab : Below w.heap.size w (bx w ⟨9, y, z, n, x, l⟩ c ia ic la lc) := alloc_below w _
  have t3 := hv.len
  have t3' : (flen c : Int) ≤ 140737488355328 := by omega
  have hkb := hok.kind
  simp [kindB] at hkb
  obtain ⟨hlen, hel, _⟩ := hkb
  obtain ⟨ke, hke, hke2⟩ := kind_nat hel
  subst hke
  have HVA : Hid (valB ⟨9, y, (ke : Int), n, x, l⟩ c = (if flen c < 15 then [16 * flen c + ke] else [16 * 15 + ke] ++ numB (flen c)) ++ encF c false [] 0) := by
    show _ = _
    simp [valB, preB]
  have HL : Hid ((valB ⟨9, y, (ke : Int), n, x, l⟩ c).length + 100 ≤ 70368744177664) := hl
  have HLI : Hid (FAt w0 c la) := hv.list
  have HOK : Hid (OkF c) := hok.list
  clear hl hel hlen hok
  by_cases hs : flen c < 15
  · have hs' : (flen c : Int) < 15 := by omega
    rw [if_pos hs] at HVA
    obtain ⟨b, hb⟩ : ∃ b : Nat, 16 * flen c + ke = b := ⟨_, rfl⟩
    rw [hb] at HVA
    obtain ⟨pre, hpre⟩ : ∃ pre : List Nat, pre = [b] := ⟨_, rfl⟩
    have HVB : Hid (valB ⟨9, y, (ke : Int), n, x, l⟩ c = pre ++ encF c false [] 0) := by rw [hpre]; exact HVA
    have hb1 : 16 * (flen c : Int) + (ke : Int) = (b : Int) := by omega
    have hb2 : (b : Int) ≤ 255 := by omega
    have HK : Hid (∀ v1 W1, W1.ownsRow (w.heap.size + 1) 5 1 v1 (0 + 1) (c8 [] ++ [.int .u8 (b : Int)]) → ((bx w ⟨9, y, (ke : Int), n, x, l⟩ c ia ic la lc).alloc (.cells #[.int .u8 (b : Int)] 5)).grownBy W1 (Value.ownBlock (.slice none 0 0)) → W1.ownsRow (w.heap.size + 1) 5 1 v1 1 (c8 pre) ∧ Below (w.heap.size + 1) (bx w ⟨9, y, (ke : Int), n, x, l⟩ c ia ic la lc) W1) := by
      intro v1 W1 ho hg
      refine ⟨by rw [hpre]; exact ho, ?_⟩
      refine ((Below.refl _ _).alloc (by rw [bx_size]; exact Nat.le_refl _) _).grown hg (by simp) ?_
      intro k hk
      simp [Value.ownBlock] at hk
    have HA : Hid (w.heap.size + 1 ≤ ((bx w ⟨9, y, (ke : Int), n, x, l⟩ c ia ic la lc).alloc (.cells #[.int .u8 (b : Int)] 5)).heap.size) := by show _ ≤ _; simp
    have HNN : Hid (∀ j u, [Value.int .u8 (b : Int)][j]? = some u → ((bx w ⟨9, y, (ke : Int), n, x, l⟩ c ia ic la lc).alloc (.cells #[.int .u8 (b : Int)] 5)).cell? ((⟨w.heap.size + 1, 0, none⟩ : Addr).add j) = some u) := by
      have h := new_news (bx w ⟨9, y, (ke : Int), n, x, l⟩ c ia ic la lc) [.int .u8 (b : Int)] 5 (0, 0)
      rw [bx_size] at h
      exact h
    have HZ : Hid (0 + 1 ≤ maxLen ∧ (0 + 1) * 1 ≤ 140737488355328) := ⟨by unfold maxLen; omega, by omega⟩
    clear hb HVA hpre
    go_enter Try.func20, Try.ntmps20
    go_wp2_with (at_builtin; refine wpList_append_own _ rfl (.tmp 70) (.tmp 79) 37 rfl (w.heap.size + 1) 5 i0 (.int .u8 0) 1 1 Try.underlying37 hi hz0 hz1 hz2 rfl (by decide) _ 0 (c8 []) rfl (World.ownsRow_nil _ _ _ _) ⟨w.heap.size + 1, 0, none⟩ 1 1 [.int .u8 (b : Int)] rfl rfl HNN.out (c8_one [b]) HZ.out.1 HZ.out.2 HA.out ?_; intro v1 W1 hown1 hg1 _; have HK1 : Hid _ := HK.out v1 W1 hown1 hg1; clear hown1 hg1)
    have HOWN : Hid (W1.ownsRow (w.heap.size + 1) 5 1 v1 1 (c8 pre)) := HK1.out.1
    have HBW : Hid (Below (w.heap.size + 1) (bx w ⟨9, y, (ke : Int), n, x, l⟩ c ia ic la lc) W1) := HK1.out.2
    go_loopw [5, 7] (fun bv iv wr => ∃ (i M : Nat) (done : List Nat), i ≤ flen c ∧ iv = .int .i64 (i : Int) ∧ Hid (done ++ encF (fdrop c i) false [] 0 = encF c false [] 0) ∧ Hid (wr.ownsRow (w.heap.size + 1) 5 1 bv M (c8 (pre ++ done))) ∧ Below (w.heap.size + 1) (bx w ⟨9, y, (ke : Int), n, x, l⟩ c ia ic la lc) wr) (fun _ iv _ => flen c - (intOf iv).toNat)
    case atStart => exact ⟨0, _, [], Nat.zero_le _, rfl, by cases c <;> rfl, by rw [List.append_nil]; exact HOWN.out, HBW.out⟩
    case round =>
      obtain ⟨i, M, done, hile, rfl, HE, HW, hbw⟩ := hrel
      obtain ⟨ad0, cc0, rfl⟩ := own_sl HW.out
      obtain ⟨y0, y1, y2, y3, y4, y5, y6⟩ := bx_cells hbw
      simp only at y0 y1 y2 y3 y4 y5
      have HB0 : Hid (Below w.heap.size w wr) := hab.trans (hbw.mono (Nat.le_succ _))
      have hold : Below w0.heap.size w0 wr := hb0.trans (HB0.out.mono hb0.size)
      have HM : Hid (M = (pre ++ done).length) := own_len HW.out
      have HSZ : Hid (w.heap.size + 1 ≤ wr.heap.size) := by have := hbw.size; show _ ≤ _; simpa using this
      by_cases hlt : i < flen c
      · have hlt' : (i : Int) < (flen c : Int) := by omega
        obtain ⟨q, d, bk, o, ja, jc, na, nc, bt, ot, _, hm, ef, rfl, hbl, hv', k0, k1, k2, k3, k4, k5, k6⟩ := row_at HLI.out hlt
        have d0 := cell_later hold k0; have d1 := cell_later hold k1; have d2 := cell_later hold k2; have d3 := cell_later hold k3; have d4 := cell_later hold k4; have d5 := cell_later hold k5; have d6 := cell_later hold k6
        clear k0 k1 k2 k3 k4 k5 k6
        have HE' : Hid ((done ++ valB q d) ++ encF (fdrop c (i + 1)) false [] 0 = encF c false [] 0) := by
          show _ = _
          rw [← HE.out, ef, encF_cat, List.append_assoc]
        have HLN : Hid ((pre ++ done).length + (valB q d).length + 100 ≤ 70368744177664) := by
          have h1 := HL.out
          rw [HVB.out] at h1
          have h2 := congrArg List.length HE'.out
          show _ ≤ _
          simp only [List.length_append] at h1 h2 ⊢
          omega
        have HML : Hid (M + (valB q d).length ≤ maxLen ∧ (M + (valB q d).length) * 1 ≤ 140737488355328) := by have h1 := HLN.out; rw [← HM.out] at h1; exact ⟨by unfold maxLen; omega, by omega⟩
        have K := ih _ hm w0 wr ja jc na nc (HOK.out _ hm) hv' hold (by have h1 := HLN.out; show (valB q d).length + 100 ≤ _; omega)
        simp only at K
        clear HE ef
        go_wp2_with fail
        refine K.mono ?_
        rintro e wz ⟨adz, cz, rfl, hOz, hBz⟩
        have HSz : Hid (Src wz adz (valB q d).length cz (c8 (valB q d))) := Gives8.src hOz
        have HOz : Hid (wz.ownsRow (w.heap.size + 1) 5 1 (.slice ad0 M cc0) M (c8 (pre ++ done))) := row_below HW.out hBz
        have HBz : Hid (Below (w.heap.size + 1) _ wz) := hbw.trans (hBz.mono HSZ.out)
        have HZz : Hid (w.heap.size + 1 ≤ wz.heap.size) := Nat.le_trans HSZ.out hBz.size
        clear K hOz hBz
        go_wp2_with (at_builtin; refine wpList_append_src rfl (.tmp 144) (.tmp 150) 37 rfl (w.heap.size + 1) 5 i0 (.int .u8 0) 1 Try.underlying37 hi hz0 hz1 hz2 rfl _ M _ rfl HOz.out _ _ _ _ rfl HSz.out (c8_one _) HML.out.1 HML.out.2 HZz.out ?_; intro v3 W3 hown3 hb3; have HO3 : Hid _ := own_join hown3; have HB3 : Hid (Below (w.heap.size + 1) _ W3) := HBz.out.trans hb3; clear hown3 hb3)
        go_roundw
        case rel => exact ⟨i + 1, _, done ++ valB q d, by omega, by go_num, HE', by rw [← List.append_assoc]; exact HO3.out, HB3.out⟩
        case measure => simp [intOf]; omega
      · have hlt' : (flen c : Int) ≤ (i : Int) := by omega
        have HE' : Hid (done = encF c false [] 0) := by
          have := HE.out
          rw [show fdrop c i = .nil by rw [show i = flen c by omega]; exact fdrop_end c] at this
          show _ = _
          simpa [encF] using this
        have HG : Hid (Gives8 w (valB ⟨9, y, (ke : Int), n, x, l⟩ c) (.returned (.slice ad0 M cc0)) wr) := by
          have h1 := HW.out
          rw [HE'.out, ← HVB.out] at h1
          have h2 := own_len h1
          refine ⟨ad0, cc0, by rw [h2], ?_, HB0.out⟩
          rw [← h2]
          exact row_mono h1 (Nat.le_succ _)
        go_wp2_with fail
        go_ret
        exact HG.out

  · have hs' : (15 : Int) ≤ (flen c : Int) := by omega
    rw [if_neg hs] at HVA
    obtain ⟨b, hb⟩ : ∃ b : Nat, 16 * 15 + ke = b := ⟨_, rfl⟩
    rw [hb] at HVA
    obtain ⟨pre, hpre⟩ : ∃ pre : List Nat, pre = [b] ++ numB (flen c) := ⟨_, rfl⟩
    have HVB : Hid (valB ⟨9, y, (ke : Int), n, x, l⟩ c = pre ++ encF c false [] 0) := by rw [hpre]; exact HVA
    have HPRE : Hid (pre = [b] ++ numB (flen c)) := hpre
    have hb1 : 240 + (ke : Int) = (b : Int) := by omega
    have hb2 : (b : Int) ≤ 255 := by omega
    have HK : Hid (∀ v1 W1, W1.ownsRow (w.heap.size + 1) 5 1 v1 (0 + 1) (c8 [] ++ [.int .u8 (b : Int)]) → ((bx w ⟨9, y, (ke : Int), n, x, l⟩ c ia ic la lc).alloc (.cells #[.int .u8 (b : Int)] 5)).grownBy W1 (Value.ownBlock (.slice none 0 0)) → W1.ownsRow (w.heap.size + 1) 5 1 v1 1 (c8 [b]) ∧ Below (w.heap.size + 1) (bx w ⟨9, y, (ke : Int), n, x, l⟩ c ia ic la lc) W1) := by
      intro v1 W1 ho hg
      refine ⟨ho, ?_⟩
      refine ((Below.refl _ _).alloc (by rw [bx_size]; exact Nat.le_refl _) _).grown hg (by simp) ?_
      intro k hk
      simp [Value.ownBlock] at hk
    have HA : Hid (w.heap.size + 1 ≤ ((bx w ⟨9, y, (ke : Int), n, x, l⟩ c ia ic la lc).alloc (.cells #[.int .u8 (b : Int)] 5)).heap.size) := by show _ ≤ _; simp
    have HNN : Hid (∀ j u, [Value.int .u8 (b : Int)][j]? = some u → ((bx w ⟨9, y, (ke : Int), n, x, l⟩ c ia ic la lc).alloc (.cells #[.int .u8 (b : Int)] 5)).cell? ((⟨w.heap.size + 1, 0, none⟩ : Addr).add j) = some u) := by
      have h := new_news (bx w ⟨9, y, (ke : Int), n, x, l⟩ c ia ic la lc) [.int .u8 (b : Int)] 5 (0, 0)
      rw [bx_size] at h
      exact h
    have HZ : Hid (0 + 1 ≤ maxLen ∧ (0 + 1) * 1 ≤ 140737488355328) := ⟨by unfold maxLen; omega, by omega⟩
    have HZ2 : Hid (1 + (numB (flen c)).length ≤ maxLen ∧ (1 + (numB (flen c)).length) * 1 ≤ 140737488355328) := ⟨by have := numB_len (flen c); unfold maxLen; omega, by have := numB_len (flen c); omega⟩
    have HNB : Hid (flen c < 18446744073709551616) := num_bound t3
    clear hb HVA hpre
    go_enter Try.func20, Try.ntmps20
    go_wp2_with (at_builtin; refine wpList_append_own _ rfl (.tmp 85) (.tmp 90) 37 rfl (w.heap.size + 1) 5 i0 (.int .u8 0) 1 1 Try.underlying37 hi hz0 hz1 hz2 rfl (by decide) _ 0 (c8 []) rfl (World.ownsRow_nil _ _ _ _) ⟨w.heap.size + 1, 0, none⟩ 1 1 [.int .u8 (b : Int)] rfl rfl HNN.out (c8_one [b]) HZ.out.1 HZ.out.2 HA.out ?_; intro v1 W1 hown1 hg1 _; have HK1 : Hid _ := HK.out v1 W1 hown1 hg1; obtain ⟨ad1, cc1, rfl⟩ := own_sl hown1; obtain ⟨y0, y1, y2, y3, y4, y5, y6⟩ := bx_cells HK1.out.2; simp only at y0 y1 y2 y3 y4 y5; clear hown1 hg1)
    refine (rnumber_any W1 (flen c) HNB.out).mono ?_
    rintro e W2 ⟨ad2, c2, rfl, hO2, hB2⟩
    have HSZ1 : Hid (w.heap.size + 1 ≤ W1.heap.size) := by have := HK1.out.2.size; show _ ≤ _; simpa using this
    have HS2 : Hid (Src W2 ad2 (numB (flen c)).length c2 (c8 (numB (flen c)))) := Gives8.src hO2
    have HO2 : Hid (W2.ownsRow (w.heap.size + 1) 5 1 (.slice ad1 1 cc1) 1 (c8 [b])) := row_below HK1.out.1 hB2
    have HB2 : Hid (Below (w.heap.size + 1) (bx w ⟨9, y, (ke : Int), n, x, l⟩ c ia ic la lc) W2) := HK1.out.2.trans (hB2.mono HSZ1.out)
    have HSZ2 : Hid (w.heap.size + 1 ≤ W2.heap.size) := Nat.le_trans HSZ1.out hB2.size
    clear hO2 hB2 y0 y1 y2 y3 y4 y5 y6
    obtain ⟨y0, y1, y2, y3, y4, y5, y6⟩ := bx_cells HB2.out
    simp only at y0 y1 y2 y3 y4 y5
    go_wp2_with (at_builtin; refine wpList_append_src rfl (.tmp 92) (.tmp 97) 37 rfl (w.heap.size + 1) 5 i0 (.int .u8 0) 1 Try.underlying37 hi hz0 hz1 hz2 rfl _ 1 _ rfl HO2.out _ _ _ _ rfl HS2.out (c8_one _) HZ2.out.1 HZ2.out.2 HSZ2.out ?_; intro v3 W3 hown3 hb3; have HO3 : Hid _ := own_join hown3; have HBW : Hid (Below (w.heap.size + 1) (bx w ⟨9, y, (ke : Int), n, x, l⟩ c ia ic la lc) W3) := HB2.out.trans hb3; clear hown3 hb3)
    have HOWN : Hid (W3.ownsRow (w.heap.size + 1) 5 1 v3 (1 + (numB (flen c)).length) (c8 pre)) := by rw [HPRE.out]; exact HO3.out
    go_loopw [5, 7] (fun bv iv wr => ∃ (i M : Nat) (done : List Nat), i ≤ flen c ∧ iv = .int .i64 (i : Int) ∧ Hid (done ++ encF (fdrop c i) false [] 0 = encF c false [] 0) ∧ Hid (wr.ownsRow (w.heap.size + 1) 5 1 bv M (c8 (pre ++ done))) ∧ Below (w.heap.size + 1) (bx w ⟨9, y, (ke : Int), n, x, l⟩ c ia ic la lc) wr) (fun _ iv _ => flen c - (intOf iv).toNat)
    case atStart => exact ⟨0, _, [], Nat.zero_le _, rfl, by cases c <;> rfl, by rw [List.append_nil]; exact HOWN.out, HBW.out⟩
    case round =>
      obtain ⟨i, M, done, hile, rfl, HE, HW, hbw⟩ := hrel
      obtain ⟨ad0, cc0, rfl⟩ := own_sl HW.out
      obtain ⟨y0, y1, y2, y3, y4, y5, y6⟩ := bx_cells hbw
      simp only at y0 y1 y2 y3 y4 y5
      have HB0 : Hid (Below w.heap.size w wr) := hab.trans (hbw.mono (Nat.le_succ _))
      have hold : Below w0.heap.size w0 wr := hb0.trans (HB0.out.mono hb0.size)
      have HM : Hid (M = (pre ++ done).length) := own_len HW.out
      have HSZ : Hid (w.heap.size + 1 ≤ wr.heap.size) := by have := hbw.size; show _ ≤ _; simpa using this
      by_cases hlt : i < flen c
      · have hlt' : (i : Int) < (flen c : Int) := by omega
        obtain ⟨q, d, bk, o, ja, jc, na, nc, bt, ot, _, hm, ef, rfl, hbl, hv', k0, k1, k2, k3, k4, k5, k6⟩ := row_at HLI.out hlt
        have d0 := cell_later hold k0; have d1 := cell_later hold k1; have d2 := cell_later hold k2; have d3 := cell_later hold k3; have d4 := cell_later hold k4; have d5 := cell_later hold k5; have d6 := cell_later hold k6
        clear k0 k1 k2 k3 k4 k5 k6
        have HE' : Hid ((done ++ valB q d) ++ encF (fdrop c (i + 1)) false [] 0 = encF c false [] 0) := by
          show _ = _
          rw [← HE.out, ef, encF_cat, List.append_assoc]
        have HLN : Hid ((pre ++ done).length + (valB q d).length + 100 ≤ 70368744177664) := by
          have h1 := HL.out
          rw [HVB.out] at h1
          have h2 := congrArg List.length HE'.out
          show _ ≤ _
          simp only [List.length_append] at h1 h2 ⊢
          omega
        have HML : Hid (M + (valB q d).length ≤ maxLen ∧ (M + (valB q d).length) * 1 ≤ 140737488355328) := by have h1 := HLN.out; rw [← HM.out] at h1; exact ⟨by unfold maxLen; omega, by omega⟩
        have K := ih _ hm w0 wr ja jc na nc (HOK.out _ hm) hv' hold (by have h1 := HLN.out; show (valB q d).length + 100 ≤ _; omega)
        simp only at K
        clear HE ef
        go_wp2_with fail
        refine K.mono ?_
        rintro e wz ⟨adz, cz, rfl, hOz, hBz⟩
        have HSz : Hid (Src wz adz (valB q d).length cz (c8 (valB q d))) := Gives8.src hOz
        have HOz : Hid (wz.ownsRow (w.heap.size + 1) 5 1 (.slice ad0 M cc0) M (c8 (pre ++ done))) := row_below HW.out hBz
        have HBz : Hid (Below (w.heap.size + 1) _ wz) := hbw.trans (hBz.mono HSZ.out)
        have HZz : Hid (w.heap.size + 1 ≤ wz.heap.size) := Nat.le_trans HSZ.out hBz.size
        clear K hOz hBz
        go_wp2_with (at_builtin; refine wpList_append_src rfl (.tmp 144) (.tmp 150) 37 rfl (w.heap.size + 1) 5 i0 (.int .u8 0) 1 Try.underlying37 hi hz0 hz1 hz2 rfl _ M _ rfl HOz.out _ _ _ _ rfl HSz.out (c8_one _) HML.out.1 HML.out.2 HZz.out ?_; intro v3 W3 hown3 hb3; have HO3 : Hid _ := own_join hown3; have HB3 : Hid (Below (w.heap.size + 1) _ W3) := HBz.out.trans hb3; clear hown3 hb3)
        go_roundw
        case rel => exact ⟨i + 1, _, done ++ valB q d, by omega, by go_num, HE', by rw [← List.append_assoc]; exact HO3.out, HB3.out⟩
        case measure => simp [intOf]; omega
      · have hlt' : (flen c : Int) ≤ (i : Int) := by omega
        have HE' : Hid (done = encF c false [] 0) := by
          have := HE.out
          rw [show fdrop c i = .nil by rw [show i = flen c by omega]; exact fdrop_end c] at this
          show _ = _
          simpa [encF] using this
        have HG : Hid (Gives8 w (valB ⟨9, y, (ke : Int), n, x, l⟩ c) (.returned (.slice ad0 M cc0)) wr) := by
          have h1 := HW.out
          rw [HE'.out, ← HVB.out] at h1
          have h2 := own_len h1
          refine ⟨ad0, cc0, by rw [h2], ?_, HB0.out⟩
          rw [← h2]
          exact row_mono h1 (Nat.le_succ _)
        go_wp2_with fail
        go_ret
        exact HG.out
end Go.Proofs.Ytikoddlidhefpaa

/-
  The reference's Bytes: maps.
-/
namespace Go.Proofs.Ytikoddlidhefpaa
set_option linter.unusedVariables false
set_option linter.unusedSimpArgs false
open Go.ChangeShapes Go.WideShapes Go.ChangeAt Go.RowKit Go.Deep

set_option maxRecDepth 20000 in
set_option maxHeartbeats 2000000 in
theorem rby_11e (y z n : Int) (x : ByteArray) (l : List Int) (c : Fo) (hs : flen c = 0) : RBC ⟨11, y, z, n, x, l⟩ c := by
  intro w0 w ia ic la lc hok hv hb0 hl
  obtain ⟨i0, hi, hz0, hz1, hz2⟩ := info_parts infoU8
  have hc : c = .nil := by
    cases c with
    | nil => rfl
    | node _ _ _ _ r => simp [flen] at hs
  subst hc
  have hab : Below w.heap.size w (bx w ⟨11, y, z, n, x, l⟩ .nil ia ic la lc) := alloc_below w _
  have HE : Hid (valB ⟨11, y, z, n, x, l⟩ .nil = [0]) := by
    show _ = _
    simp [valB, preB, flen, encF, numB, numF]
  have HK : Hid (∀ v1 W1, W1.ownsRow (w.heap.size + 1) 5 1 v1 (0 + 1) (c8 [] ++ [.int .u8 0]) → ((bx w ⟨11, y, z, n, x, l⟩ .nil ia ic la lc).alloc (.cells #[.int .u8 0] 5)).grownBy W1 (Value.ownBlock (.slice none 0 0)) → Gives8 w [0] (.returned v1) W1 ∧ Below (w.heap.size + 1) (bx w ⟨11, y, z, n, x, l⟩ .nil ia ic la lc) W1) := by
    intro v1 W1 ho hg
    have hb1 : Below (w.heap.size + 1) (bx w ⟨11, y, z, n, x, l⟩ .nil ia ic la lc) W1 := by
      refine ((Below.refl _ _).alloc (by rw [bx_size]; exact Nat.le_refl _) _).grown hg (by simp) ?_
      intro k hk
      simp [Value.ownBlock] at hk
    refine ⟨?_, hb1⟩
    obtain ⟨ad, cc, rfl⟩ := own_sl ho
    exact ⟨ad, cc, rfl, row_mono ho (Nat.le_succ _), hab.trans (hb1.mono (Nat.le_succ _))⟩
  have HA : Hid (w.heap.size + 1 ≤ ((bx w ⟨11, y, z, n, x, l⟩ .nil ia ic la lc).alloc (.cells #[.int .u8 0] 5)).heap.size) := by show _ ≤ _; simp
  have HNN : Hid (∀ j u, [Value.int .u8 0][j]? = some u → ((bx w ⟨11, y, z, n, x, l⟩ .nil ia ic la lc).alloc (.cells #[.int .u8 0] 5)).cell? ((⟨w.heap.size + 1, 0, none⟩ : Addr).add j) = some u) := by
    have h := new_news (bx w ⟨11, y, z, n, x, l⟩ .nil ia ic la lc) [.int .u8 0] 5 (0, 0)
    rw [bx_size] at h
    exact h
  have HZ : Hid (0 + 1 ≤ maxLen ∧ (0 + 1) * 1 ≤ 140737488355328) := ⟨by unfold maxLen; omega, by omega⟩
  have f0 : flen (.nil : Fo) = 0 := rfl
  clear hl hok hs
  go_enter Try.func20, Try.ntmps20
  go_wp2_with (at_builtin; refine wpList_append_own _ rfl (.tmp 109) (.tmp 110) 37 rfl (w.heap.size + 1) 5 i0 (.int .u8 0) 1 1 Try.underlying37 hi hz0 hz1 hz2 rfl (by decide) _ 0 (c8 []) rfl (World.ownsRow_nil _ _ _ _) ⟨w.heap.size + 1, 0, none⟩ 1 1 [.int .u8 0] rfl rfl HNN.out (c8_one [0]) HZ.out.1 HZ.out.2 HA.out ?_; intro v1 W1 hown1 hg1 _; have HK1 : Hid _ := HK.out v1 W1 hown1 hg1; obtain ⟨ad1, cc1, rfl⟩ := own_sl hown1; obtain ⟨y0, y1, y2, y3, y4, y5, y6⟩ := bx_cells HK1.out.2; simp only [f0] at y0 y1 y2 y3 y4 y5 y6; clear hown1 hg1)
  go_loopw [5, 7] (fun bv iv wr => bv = .slice ad1 1 cc1 ∧ iv = .int .i64 0 ∧ wr = W1) (fun _ _ _ => 0)
  case atStart => exact ⟨rfl, rfl, rfl⟩
  case round =>
    obtain ⟨rfl, rfl, rfl⟩ := hrel
    go_wp2_with fail
    go_ret
    rw [HE.out]
    exact HK1.out.1

set_option maxRecDepth 20000 in
set_option maxHeartbeats 2000000 in
theorem rby_11n (ky ke : Nat) (hky2 : ky < 16) (hke2 : ke < 16) (n : Int) (x : ByteArray) (l : List Int) (c : Fo) (hs : ¬ flen c = 0) (ih : ∀ x ∈ elems c, RBC x.1 x.2) : RBC ⟨11, (ky : Int), (ke : Int), n, x, l⟩ c := by
  intro w0 w ia ic la lc hok hv hb0 hl
  obtain ⟨i0, hi, hz0, hz1, hz2⟩ := info_parts infoU8
  have hab : Below w.heap.size w (bx w ⟨11, (ky : Int), (ke : Int), n, x, l⟩ c ia ic la lc) := alloc_below w _
  have t3 := hv.len
  have t3' : (flen c : Int) ≤ 140737488355328 := by omega
  have HL : Hid ((valB ⟨11, (ky : Int), (ke : Int), n, x, l⟩ c).length + 100 ≤ 70368744177664) := hl
  have HLI : Hid (FAt w0 c la) := hv.list
  have HOK : Hid (OkF c) := hok.list
  obtain ⟨b, hb⟩ : ∃ b : Nat, 16 * ky + ke = b := ⟨_, rfl⟩
  obtain ⟨hf, hhf⟩ : ∃ h : Nat, flen c / 2 = h := ⟨_, rfl⟩
  obtain ⟨pre, hpre⟩ : ∃ pre : List Nat, pre = numB hf ++ [b] := ⟨_, rfl⟩
  have HVB : Hid (valB ⟨11, (ky : Int), (ke : Int), n, x, l⟩ c = pre ++ encF c false [] 0) := by
    show _ = _
    rw [hpre]
    simp [valB, preB, hs, hhf, hb]
  have HPRE : Hid (pre = numB hf ++ [b]) := hpre
  have hb1 : 16 * (ky : Int) + (ke : Int) = (b : Int) := by omega
  have hb2 : (b : Int) ≤ 255 := by omega
  have hf1 : (flen c : Int) / 2 = (hf : Int) := by omega
  have hs1 : ¬ (flen c : Int) = 0 := by omega
  have hf2 : (hf : Int) ≤ 140737488355328 := by omega
  have N := rnumber_any (bx w ⟨11, (ky : Int), (ke : Int), n, x, l⟩ c ia ic la lc) hf (by omega)
  have HZ1 : Hid (0 + (numB hf).length ≤ maxLen ∧ (0 + (numB hf).length) * 1 ≤ 140737488355328) := ⟨by have := numB_len hf; unfold maxLen; omega, by have := numB_len hf; omega⟩
  have HZ2 : Hid ((numB hf).length + 1 ≤ maxLen ∧ ((numB hf).length + 1) * 1 ≤ 140737488355328) := ⟨by have := numB_len hf; unfold maxLen; omega, by have := numB_len hf; omega⟩
  have hkya : (ky : Int) < 16 := by omega
  have hkea : (ke : Int) < 16 := by omega
  clear hb hpre hl hok hhf
  go_enter Try.func20, Try.ntmps20
  go_wp2_with fail
  refine N.mono ?_
  rintro e W2 ⟨ad2, c2, rfl, hO2, hB2⟩
  have HSZ2 : Hid (w.heap.size + 1 ≤ W2.heap.size) := by have := hB2.size; rw [bx_size] at this; exact this
  have HS2 : Hid (Src W2 ad2 (numB hf).length c2 (c8 (numB hf))) := Gives8.src hO2
  have HB2 : Hid (Below (w.heap.size + 1) (bx w ⟨11, (ky : Int), (ke : Int), n, x, l⟩ c ia ic la lc) W2) := by rw [bx_size] at hB2; exact hB2
  clear N hO2 hB2
  go_wp2_with (first | (at_builtin; refine wpList_append_src rfl (.tmp 116) (.tmp 122) 37 rfl (w.heap.size + 1) 5 i0 (.int .u8 0) 1 Try.underlying37 hi hz0 hz1 hz2 rfl _ 0 [] rfl (World.ownsRow_nil _ _ _ _) _ _ _ _ rfl HS2.out (c8_one _) HZ1.out.1 HZ1.out.2 HSZ2.out ?_; intro v3 W3 hown3 hb3; rw [Nat.zero_add] at hown3; have HO3 : Hid (W3.ownsRow (w.heap.size + 1) 5 1 v3 (numB hf).length (c8 (numB hf))) := hown3; have HB3 : Hid (Below (w.heap.size + 1) (bx w ⟨11, (ky : Int), (ke : Int), n, x, l⟩ c ia ic la lc) W3) := HB2.out.trans hb3; have HSZ3 : Hid (w.heap.size + 1 ≤ W3.heap.size) := Nat.le_trans HSZ2.out hb3.size; obtain ⟨y0, y1, y2, y3, y4, y5, y6⟩ := bx_cells HB3.out; simp only at y0 y1 y2 y3 y4 y5; obtain ⟨ad3, cc3, rfl⟩ := own_sl hown3; clear hown3 hb3) | (at_builtin; refine wpList_append_own _ rfl (.tmp 124) (.tmp 132) 37 rfl (w.heap.size + 1) 5 i0 (.int .u8 0) 1 1 Try.underlying37 hi hz0 hz1 hz2 rfl (by decide) _ (numB hf).length (c8 (numB hf)) rfl (HO3.out.alloc _) ⟨W3.heap.size, 0, none⟩ 1 1 [.int .u8 (b : Int)] rfl rfl (new_news W3 [.int .u8 (b : Int)] 5 (0, 0)) (c8_one [b]) HZ2.out.1 HZ2.out.2 (Nat.le_trans HSZ3.out (by simp)) ?_; intro v1 W1 hown1 hg1 _; have HBW : Hid (Below (w.heap.size + 1) (bx w ⟨11, (ky : Int), (ke : Int), n, x, l⟩ c ia ic la lc) W1) := (HB3.out.alloc HSZ3.out _).grown hg1 (Nat.le_trans HSZ3.out (by simp)) (fun k hk => (HO3.out.lt k hk).1); have HO1 : Hid (W1.ownsRow (w.heap.size + 1) 5 1 v1 ((numB hf).length + 1) (c8 (numB hf) ++ c8 [b])) := hown1; clear hown1 hg1))
  have HOWN : Hid (W1.ownsRow (w.heap.size + 1) 5 1 v1 ((numB hf).length + 1) (c8 pre)) := by rw [HPRE.out, c8_append]; exact HO1.out
  go_loopw [5, 7] (fun bv iv wr => ∃ (i M : Nat) (done : List Nat), i ≤ flen c ∧ iv = .int .i64 (i : Int) ∧ Hid (done ++ encF (fdrop c i) false [] 0 = encF c false [] 0) ∧ Hid (wr.ownsRow (w.heap.size + 1) 5 1 bv M (c8 (pre ++ done))) ∧ Below (w.heap.size + 1) (bx w ⟨11, (ky : Int), (ke : Int), n, x, l⟩ c ia ic la lc) wr) (fun _ iv _ => flen c - (intOf iv).toNat)
  case atStart => exact ⟨0, _, [], Nat.zero_le _, rfl, by cases c <;> rfl, by rw [List.append_nil]; exact HOWN.out, HBW.out⟩
  case round =>
    obtain ⟨i, M, done, hile, rfl, HE, HW, hbw⟩ := hrel
    obtain ⟨ad0, cc0, rfl⟩ := own_sl HW.out
    obtain ⟨y0, y1, y2, y3, y4, y5, y6⟩ := bx_cells hbw
    simp only at y0 y1 y2 y3 y4 y5
    have HB0 : Hid (Below w.heap.size w wr) := hab.trans (hbw.mono (Nat.le_succ _))
    have hold : Below w0.heap.size w0 wr := hb0.trans (HB0.out.mono hb0.size)
    have HM : Hid (M = (pre ++ done).length) := own_len HW.out
    have HSZ : Hid (w.heap.size + 1 ≤ wr.heap.size) := by have := hbw.size; show _ ≤ _; simpa using this
    by_cases hlt : i < flen c
    · have hlt' : (i : Int) < (flen c : Int) := by omega
      obtain ⟨q, d, bk, o, ja, jc, na, nc, bt, ot, _, hm, ef, rfl, hbl, hv', k0, k1, k2, k3, k4, k5, k6⟩ := row_at HLI.out hlt
      have d0 := cell_later hold k0; have d1 := cell_later hold k1; have d2 := cell_later hold k2; have d3 := cell_later hold k3; have d4 := cell_later hold k4; have d5 := cell_later hold k5; have d6 := cell_later hold k6
      clear k0 k1 k2 k3 k4 k5 k6
      have HE' : Hid ((done ++ valB q d) ++ encF (fdrop c (i + 1)) false [] 0 = encF c false [] 0) := by
        show _ = _
        rw [← HE.out, ef, encF_cat, List.append_assoc]
      have HLN : Hid ((pre ++ done).length + (valB q d).length + 100 ≤ 70368744177664) := by
        have h1 := HL.out
        rw [HVB.out] at h1
        have h2 := congrArg List.length HE'.out
        show _ ≤ _
        simp only [List.length_append] at h1 h2 ⊢
        omega
      have HML : Hid (M + (valB q d).length ≤ maxLen ∧ (M + (valB q d).length) * 1 ≤ 140737488355328) := by have h1 := HLN.out; rw [← HM.out] at h1; exact ⟨by unfold maxLen; omega, by omega⟩
      have K := ih _ hm w0 wr ja jc na nc (HOK.out _ hm) hv' hold (by have h1 := HLN.out; show (valB q d).length + 100 ≤ _; omega)
      simp only at K
      clear HE ef
      go_wp2_with fail
      refine K.mono ?_
      rintro e wz ⟨adz, cz, rfl, hOz, hBz⟩
      have HSz : Hid (Src wz adz (valB q d).length cz (c8 (valB q d))) := Gives8.src hOz
      have HOz : Hid (wz.ownsRow (w.heap.size + 1) 5 1 (.slice ad0 M cc0) M (c8 (pre ++ done))) := row_below HW.out hBz
      have HBz : Hid (Below (w.heap.size + 1) _ wz) := hbw.trans (hBz.mono HSZ.out)
      have HZz : Hid (w.heap.size + 1 ≤ wz.heap.size) := Nat.le_trans HSZ.out hBz.size
      clear K hOz hBz
      go_wp2_with (at_builtin; refine wpList_append_src rfl (.tmp 144) (.tmp 150) 37 rfl (w.heap.size + 1) 5 i0 (.int .u8 0) 1 Try.underlying37 hi hz0 hz1 hz2 rfl _ M _ rfl HOz.out _ _ _ _ rfl HSz.out (c8_one _) HML.out.1 HML.out.2 HZz.out ?_; intro v3 W3 hown3 hb3; have HO3 : Hid _ := own_join hown3; have HB3 : Hid (Below (w.heap.size + 1) _ W3) := HBz.out.trans hb3; clear hown3 hb3)
      go_roundw
      case rel => exact ⟨i + 1, _, done ++ valB q d, by omega, by go_num, HE', by rw [← List.append_assoc]; exact HO3.out, HB3.out⟩
      case measure => simp [intOf]; omega
    · have hlt' : (flen c : Int) ≤ (i : Int) := by omega
      have HE' : Hid (done = encF c false [] 0) := by
        have := HE.out
        rw [show fdrop c i = .nil by rw [show i = flen c by omega]; exact fdrop_end c] at this
        show _ = _
        simpa [encF] using this
      have HG : Hid (Gives8 w (valB ⟨11, (ky : Int), (ke : Int), n, x, l⟩ c) (.returned (.slice ad0 M cc0)) wr) := by
        have h1 := HW.out
        rw [HE'.out, ← HVB.out] at h1
        have h2 := own_len h1
        refine ⟨ad0, cc0, by rw [h2], ?_, HB0.out⟩
        rw [← h2]
        exact row_mono h1 (Nat.le_succ _)
      go_wp2_with fail
      go_ret
      exact HG.out

theorem rby_11 (y z n : Int) (x : ByteArray) (l : List Int) (c : Fo) (ih : ∀ x ∈ elems c, RBC x.1 x.2) : RBC ⟨11, y, z, n, x, l⟩ c := by
  by_cases hs : flen c = 0
  · exact rby_11e y z n x l c hs
  · intro w0 w ia ic la lc hok
    have hkb := hok.kind
    simp [kindB] at hkb
    have hkb' : mapB ⟨11, y, z, n, x, l⟩ c = true := hkb
    unfold mapB at hkb'
    rw [if_neg hs] at hkb'
    simp only [List.all_cons, List.all_nil, Bool.and_true, Bool.and_eq_true] at hkb'
    obtain ⟨_, ⟨hky, hel⟩, _⟩ := hkb'
    obtain ⟨ke, hke, hke2⟩ := kind_nat hel
    obtain ⟨ky, hky', hky2⟩ := kind_nat hky
    subst hke hky'
    exact rby_11n ky ke hky2 hke2 n x l c hs ih w0 w ia ic la lc hok
end Go.Proofs.Ytikoddlidhefpaa
