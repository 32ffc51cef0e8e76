/-
  The bytes of values, and how the writer lays them.
-/
import Derived.Test.YtikoddlidhefpaaJ3
import Derived.Lib.AppendStr
namespace Go.Proofs.Ytikoddlidhefpaa
open Go.ChangeShapes Go.WideShapes Go.ChangeAt Go.RowKit Go.Deep

def truthN (p : Pay) : Nat := if p.num = 1 then 1 else 2
def preB (p : Pay) (len : Nat) : List Nat :=
  if p.kind = 1 then [truthN p]
  else if p.kind = 3 then [(p.num % 256).toNat]
  else if p.kind = 4 ∨ p.kind = 5 ∨ p.kind = 6 then numB (zig p.num)
  else if p.kind = 7 then leB 8 (p.num % 18446744073709551616).toNat
  else if p.kind = 8 then numB p.text.size ++ p.text.data.toList.map UInt8.toNat
  else if p.kind = 9 then if len < 15 then [16 * len + p.elem.toNat] else [16 * 15 + p.elem.toNat] ++ numB len
  else if p.kind = 11 then numB (len / 2) ++ (if len = 0 then [] else [16 * p.key.toNat + p.elem.toNat])
  else []
def headB (p : Pay) (id last : Int) : List Nat :=
  if id - last ≤ 15 then [16 * (id - last).toNat + (if p.kind = 1 then truthN p else p.kind.toNat)] else [16 * 0 + (if p.kind = 1 then truthN p else p.kind.toNat)] ++ numB (zig id)
def encF : Fo → Bool → List Int → Int → List Nat
  | .nil, fld, _, _ => if fld then [0] else []
  | .node _ _ p c r, fld, ids, last =>
    (if fld then headB p (ids.headD 0) last ++ (if p.kind = 1 then [] else preB p (flen c) ++ (if p.kind = 12 then encF c true p.ids 0 else if p.kind = 9 ∨ p.kind = 11 then encF c false [] 0 else []))
      else preB p (flen c) ++ (if p.kind = 12 then encF c true p.ids 0 else if p.kind = 9 ∨ p.kind = 11 then encF c false [] 0 else [])) ++ encF r fld ids.tail (ids.headD 0)
/-- a value's bytes -/
def valB (p : Pay) (c : Fo) : List Nat := preB p (flen c) ++ (if p.kind = 12 then encF c true p.ids 0 else if p.kind = 9 ∨ p.kind = 11 then encF c false [] 0 else [])
theorem encF_cat (b o : Nat) (p : Pay) (c r : Fo) : encF (.node b o p c r) false [] 0 = valB p c ++ encF r false [] 0 := rfl
theorem encF_fld (b o : Nat) (p : Pay) (c r : Fo) (ids : List Int) (last : Int) : encF (.node b o p c r) true ids last = (headB p (ids.headD 0) last ++ (if p.kind = 1 then [] else valB p c)) ++ encF r true ids.tail (ids.headD 0) := rfl

/-- a value may be, wherever -/
def OkV (p : Pay) (c : Fo) : Prop := ∃ room, mayV p c room = true
def OkF (c : Fo) : Prop := ∀ x ∈ elems c, OkV x.1 x.2
theorem mayF_ok : ∀ {c : Fo} {room : Int}, mayF c room = true → OkF c
  | .nil, _, _ => by intro x hx; simp [elems] at hx
  | .node _ _ p c r, room, h => by
    rw [mayF_node, Bool.and_eq_true] at h
    intro x hx
    simp only [elems, List.mem_cons] at hx
    rcases hx with rfl | hx
    · exact ⟨room, h.1⟩
    · exact mayF_ok h.2 x hx
theorem OkV.order {p : Pay} {c : Fo} (h : OkV p c) : inOrderB p c = true := by
  obtain ⟨room, h⟩ := h
  simp only [mayV, Bool.and_eq_true] at h
  exact h.1.2
theorem OkV.list {p : Pay} {c : Fo} (h : OkV p c) : OkF c := by
  obtain ⟨room, h⟩ := h
  simp only [mayV, Bool.and_eq_true] at h
  exact mayF_ok h.2
theorem OkV.kind {p : Pay} {c : Fo} (h : OkV p c) : kindB p c = true := by
  have := h.order
  simp only [inOrderB, Bool.and_eq_true] at this
  exact this.2
theorem OkV.known {p : Pay} {c : Fo} (h : OkV p c) : knownB p.kind = true := by
  have := h.kind
  unfold kindB at this
  rw [known_true]
  repeat' split at this
  all_goals first | omega | simp at this
/-- a kind is a number below 16 -/
theorem kind_nat {k : Int} (h : knownB k = true) : ∃ n : Nat, k = n ∧ n < 16 := by
  rw [known_true] at h
  exact ⟨k.toNat, by omega, by omega⟩

def WVC (p : Pay) (c : Fo) : Prop := ∀ (w0 w : World) (B : Nat) (out : List Nat) (ia : Option Addr) (ic : Nat) (la : Option Addr) (lc : Nat), OkV p c → VIn w0 p c ia ic la lc → Below w0.heap.size w0 w → w0.heap.size ≤ B → out.length + (valB p c).length + 100 ≤ 70368744177664 → Wr w B out →
  Calls Try.prog 33 #[.pointer (some ⟨B, 0, none⟩), val p c ia ic la lc] w fun e w' => e = .returned (.tuple #[]) ∧ Wr w' B (out ++ valB p c) ∧ WF B w w'

/-- old memory in the writer's later world -/
theorem WF.old {B : Nat} {w0 w w' : World} (hb : Below w0.heap.size w0 w) (h : WF B w w') (h0 : w0.heap.size ≤ B) (hB : B ≤ w.heap.size) : Below w0.heap.size w0 w' := hb.trans ((h.below hB).mono h0)

set_option maxRecDepth 10000 in
set_option maxHeartbeats 1000000 in
theorem wvalues_any (c : Fo) (ih : ∀ x ∈ elems c, WVC x.1 x.2) (w0 w : World) (B : Nat) (out : List Nat) (la : Option Addr) (lc : Nat) (hok : OkF c) (hlen : flen c ≤ 140737488355328) (hc : FAt w0 c la) (hb0 : Below w0.heap.size w0 w) (hB : w0.heap.size ≤ B) (hl : out.length + (encF c false [] 0).length + 100 ≤ 70368744177664) (h : Wr w B out) :
    Calls Try.prog 75 #[.pointer (some ⟨B, 0, none⟩), .slice la (flen c) lc] w fun e w' => e = .returned (.tuple #[]) ∧ Wr w' B (out ++ encF c false [] 0) ∧ WF B w w' := by
  have t3' : (flen c : Int) ≤ 140737488355328 := by omega
  have HL : Hid (out.length + (encF c false [] 0).length + 100 ≤ 70368744177664) := hl
  have HBl : Hid (B < w.heap.size) := h.lt
  clear hl
  go_enter Try.func75, Try.ntmps75
  go_wp2_with fail
  go_loopw [8] (fun iv wr => ∃ (i : Nat) (done : List Nat), i ≤ flen c ∧ iv = .int .i64 i ∧ Hid (done ++ encF (fdrop c i) false [] 0 = encF c false [] 0) ∧ Hid (Wr wr B (out ++ done)) ∧ WF B w wr) (fun iv _ => flen c - (intOf iv).toNat)
  case atStart => exact ⟨0, [], Nat.zero_le _, rfl, by cases c <;> rfl, by rw [List.append_nil]; exact h, WF.refl _ _⟩
  case round =>
    obtain ⟨i, done, hi, rfl, HE, HW, hwf⟩ := hrel
    have hold := WF.old hb0 hwf hB (Nat.le_of_lt HBl.out)
    by_cases hlt : i < flen c
    · have hlt' : (i : Int) < (flen c : Int) := by omega
      obtain ⟨q, d, b, o, ja, jc, na, nc, bt, ot, _, hm, ef, rfl, hbl, hv', k0, k1, k2, k3, k4, k5, k6⟩ := row_at hc hlt
      have d0 := cell_later hold k0; have d1 := cell_later hold k1; have d2 := cell_later hold k2; have d3 := cell_later hold k3; have d4 := cell_later hold k4; have d5 := cell_later hold k5; have d6 := cell_later hold k6
      clear k0 k1 k2 k3 k4 k5 k6
      have hab := alloc_below wr (.cells #[.int .i64 q.kind, .int .i64 q.key, .int .i64 q.elem, .int .i64 q.num, .string q.text, .slice ja q.ids.length jc, .slice na (flen d) nc] 26)
      have HE' : Hid ((done ++ valB q d) ++ encF (fdrop c (i + 1)) false [] 0 = encF c false [] 0) := by
        show _ = _
        rw [← HE.out, ef, encF_cat, List.append_assoc]
      have K := ih _ hm w0 _ B (out ++ done) ja jc na nc (hok _ hm) hv' (hold.trans (hab.mono hold.size)) hB (by
        have h1 := HL.out
        have h2 := congrArg List.length HE'.out
        simp only [List.length_append] at h2 ⊢
        omega) (HW.out.later hab)
      simp only at K
      rw [List.append_assoc] at K
      clear HE ef
      go_wp2_with fail
      refine K.mono ?_
      rintro e wz ⟨rfl, hwz⟩
      have hwf2 := hwf.trans ((WF.of_below hab).trans hwz.2)
      go_wp2_with fail
      go_roundw
      case rel => exact ⟨i + 1, done ++ valB q d, by omega, by go_num, HE', hwz.1, hwf2⟩
      case measure => simp [intOf]; omega
    · have hlt' : (flen c : Int) ≤ (i : Int) := by omega
      have HE' : Hid (done = encF c false [] 0) := by
        have := HE.out
        rw [show fdrop c i = .nil by rw [show i = flen c by omega]; exact fdrop_end c] at this
        show _ = _
        simpa [encF] using this
      have HW' : Hid (Wr wr B (out ++ encF c false [] 0)) := by have := HW.out; rwa [HE'.out] at this
      go_wp2_with fail
      go_end0
      exact ⟨rfl, HW'.out, hwf⟩

/-- what the writer leaves of a box -/
theorem bx_block (w : World) (p : Pay) (c : Fo) (ia : Option Addr) (ic : Nat) (la : Option Addr) (lc : Nat) : (bx w p c ia ic la lc).heap[w.heap.size]? = some (.cells #[.int .i64 p.kind, .int .i64 p.key, .int .i64 p.elem, .int .i64 p.num, .string p.text, .slice ia p.ids.length ic, .slice la (flen c) lc] 26 (0, 0)) := heap_new _ _
theorem box7 {w : World} {b : Nat} {p : Pay} {c : Fo} {ia : Option Addr} {ic : Nat} {la : Option Addr} {lc : Nat} (h : w.heap[b]? = some (.cells #[.int .i64 p.kind, .int .i64 p.key, .int .i64 p.elem, .int .i64 p.num, .string p.text, .slice ia p.ids.length ic, .slice la (flen c) lc] 26 (0, 0))) :
    w.cell? ⟨b, 0, none⟩ = some (.int .i64 p.kind) ∧ w.cell? ⟨b, 1, none⟩ = some (.int .i64 p.key) ∧ w.cell? ⟨b, 2, none⟩ = some (.int .i64 p.elem) ∧ w.cell? ⟨b, 3, none⟩ = some (.int .i64 p.num) ∧
    w.cell? ⟨b, 4, none⟩ = some (.string p.text) ∧ w.cell? ⟨b, 5, none⟩ = some (.slice ia p.ids.length ic) ∧ w.cell? ⟨b, 6, none⟩ = some (.slice la (flen c) lc) :=
  ⟨cell_of_block h rfl, cell_of_block h rfl, cell_of_block h rfl, cell_of_block h rfl, cell_of_block h rfl, cell_of_block h rfl, cell_of_block h rfl⟩
theorem tTh_ne : (26 : TypeId) ≠ 5 := by decide

theorem num_bound {n : Nat} (h : n ≤ 140737488355328) : n < 18446744073709551616 := by omega

set_option maxRecDepth 10000 in
set_option maxHeartbeats 1000000 in
theorem wlist_any (p : Pay) (c : Fo) (ih : ∀ x ∈ elems c, WVC x.1 x.2) (w0 w : World) (B : Nat) (out : List Nat) (ia : Option Addr) (ic : Nat) (la : Option Addr) (lc : Nat) (hk : p.kind = 9) (hok : OkV p c) (hv : VIn w0 p c ia ic la lc) (hb0 : Below w0.heap.size w0 w) (hB : w0.heap.size ≤ B) (hl : out.length + (valB p c).length + 100 ≤ 70368744177664) (h : Wr w B out) :
    Calls Try.prog 57 #[.pointer (some ⟨B, 0, none⟩), val p c ia ic la lc] w fun e w' => e = .returned (.tuple #[]) ∧ Wr w' B (out ++ valB p c) ∧ WF B w w' := by
  have HB : Hid (B < w.heap.size) := h.lt
  have t3 := hv.len
  have t3' : (flen c : Int) ≤ 140737488355328 := by omega
  have hkb := hok.kind
  simp only [kindB, hk] at hkb
  simp at hkb
  obtain ⟨hlen, hel, _⟩ := hkb
  obtain ⟨ke, hke, hke2⟩ := kind_nat hel
  have HVB : Hid (valB p c = (if flen c < 15 then [16 * flen c + ke] else [16 * 15 + ke] ++ numB (flen c)) ++ encF c false [] 0) := by
    show _ = _
    simp [valB, preB, hk, hke]
  have hab := alloc_below w (.cells #[.int .i64 p.kind, .int .i64 p.key, .int .i64 p.elem, .int .i64 p.num, .string p.text, .slice ia p.ids.length ic, .slice la (flen c) lc] 26)
  have hbx := bx_block w p c ia ic la lc
  have HL : Hid (out.length + (valB p c).length + 100 ≤ 70368744177664) := hl
  have hW := h.later hab
  have hbn : w.heap.size ≠ B := by have := HB.out; omega
  have hwf0 : WF B w (bx w p c ia ic la lc) := WF.of_below hab
  have HKE : Hid (p.elem = (ke : Int)) := hke
  clear hl hel hke hlen hk
  by_cases hs : flen c < 15
  · have hs' : (flen c : Int) < 15 := by omega
    rw [if_pos hs] at HVB
    have hlv := congrArg List.length HVB.out
    simp only [List.length_append, List.length_cons, List.length_nil] at hlv
    have L := layHalves_any _ B out (flen c) ke (by omega) hke2 (by have := HL.out; omega) hW
    rw [← HKE.out] at L
    go_enter Try.func57, Try.ntmps57
    go_wp2_with fail
    refine L.mono ?_
    rintro e W1 ⟨rfl, hW1, hf1⟩
    obtain ⟨y0, y1, y2, y3, y4, y5, y6⟩ := box7 (hf1.box hbx hbn tTh_ne)
    have hwf1 := hwf0.trans hf1
    have V := wvalues_any c ih w0 W1 B _ la lc hok.list t3 hv.list (WF.old hb0 hwf1 hB (Nat.le_of_lt HB.out)) hB (by have := HL.out; simp only [List.length_append, List.length_cons, List.length_nil]; omega) hW1
    rw [List.append_assoc, ← HVB.out] at V
    clear L hlv
    go_wp2_with fail
    refine V.mono ?_
    rintro e W2 ⟨rfl, hW2, hf2⟩
    go_wp2_with fail
    go_end0
    exact ⟨rfl, hW2, hwf1.trans hf2⟩
  · have hs' : (15 : Int) ≤ (flen c : Int) := by omega
    rw [if_neg hs] at HVB
    have hlv := congrArg List.length HVB.out
    simp only [List.length_append, List.length_cons, List.length_nil] at hlv
    have L := layHalves_any _ B out 15 ke (by omega) hke2 (by have := HL.out; omega) hW
    rw [← HKE.out] at L
    go_enter Try.func57, Try.ntmps57
    go_wp2_with fail
    refine L.mono ?_
    rintro e W1 ⟨rfl, hW1, hf1⟩
    have hwf1 := hwf0.trans hf1
    have N := number_any W1 B _ (flen c) (num_bound t3) (by have := HL.out; have := numB_len (flen c); simp only [List.length_append, List.length_cons, List.length_nil]; omega) hW1
    clear L
    go_wp2_with fail
    refine N.mono ?_
    rintro e W2 ⟨rfl, hW2, hf2⟩
    have hwf2 := hwf1.trans hf2
    obtain ⟨y0, y1, y2, y3, y4, y5, y6⟩ := box7 ((hf1.trans hf2).box hbx hbn tTh_ne)
    have V := wvalues_any c ih w0 W2 B _ la lc hok.list t3 hv.list (WF.old hb0 hwf2 hB (Nat.le_of_lt HB.out)) hB (by have := HL.out; simp only [List.length_append, List.length_cons, List.length_nil]; omega) hW2
    rw [List.append_assoc, List.append_assoc, ← List.append_assoc [16 * 15 + ke], ← HVB.out] at V
    clear N hlv
    go_wp2_with fail
    refine V.mono ?_
    rintro e W3 ⟨rfl, hW3, hf3⟩
    go_wp2_with fail
    go_end0
    exact ⟨rfl, hW3, hwf2.trans hf3⟩

set_option maxRecDepth 10000 in
set_option maxHeartbeats 1000000 in
theorem wdict_any (p : Pay) (c : Fo) (ih : ∀ x ∈ elems c, WVC x.1 x.2) (w0 w : World) (B : Nat) (out : List Nat) (ia : Option Addr) (ic : Nat) (la : Option Addr) (lc : Nat) (hk : p.kind = 11) (hok : OkV p c) (hv : VIn w0 p c ia ic la lc) (hb0 : Below w0.heap.size w0 w) (hB : w0.heap.size ≤ B) (hl : out.length + (valB p c).length + 100 ≤ 70368744177664) (h : Wr w B out) :
    Calls Try.prog 58 #[.pointer (some ⟨B, 0, none⟩), val p c ia ic la lc] w fun e w' => e = .returned (.tuple #[]) ∧ Wr w' B (out ++ valB p c) ∧ WF B w w' := by
  have HB : Hid (B < w.heap.size) := h.lt
  have t3 := hv.len
  have t3' : (flen c : Int) ≤ 140737488355328 := by omega
  have hkb := hok.kind
  simp only [kindB, hk] at hkb
  simp at hkb
  have hkb' : mapB p c = true := hkb
  unfold mapB at hkb'
  have hab := alloc_below w (.cells #[.int .i64 p.kind, .int .i64 p.key, .int .i64 p.elem, .int .i64 p.num, .string p.text, .slice ia p.ids.length ic, .slice la (flen c) lc] 26)
  have hbx := bx_block w p c ia ic la lc
  have HL : Hid (out.length + (valB p c).length + 100 ≤ 70368744177664) := hl
  have hW := h.later hab
  have hbn : w.heap.size ≠ B := by have := HB.out; omega
  have hwf0 : WF B w (bx w p c ia ic la lc) := WF.of_below hab
  by_cases hs : flen c = 0
  · have hc0 : encF c false [] 0 = [] := by
      cases c with
      | nil => rfl
      | node _ _ _ _ r => simp [flen] at hs
    have HVB : Hid (valB p c = numB 0) := by
      show _ = _
      simp [valB, preB, hk, hs, hc0]
    have hs' : (flen c : Int) / 2 = 0 := by omega
    have hs2 : (flen c : Int) = 0 := by omega
    have N := number_any _ B out 0 (by omega) (by have := HL.out; omega) hW
    rw [← HVB.out] at N
    unfold bx at hbx hwf0
    rw [hs] at N hbx hwf0
    clear hl hk
    go_enter Try.func58, Try.ntmps58
    go_wp2_with fail
    refine N.mono ?_
    rintro e W1 ⟨rfl, hW1, hf1⟩
    have y6 : W1.cell? ⟨w.heap.size, 6, none⟩ = some (.slice la 0 lc) := cell_of_block (hf1.box hbx hbn tTh_ne) rfl
    go_wp2_with fail
    refine bodyPost_ret (results_none rfl _ _ _) rfl ?_
    exact ⟨rfl, hW1, hwf0.trans hf1⟩
  · have hs' : ¬ (flen c : Int) = 0 := by omega
    rw [if_neg hs] at hkb'
    simp only [List.all_cons, List.all_nil, Bool.and_true, Bool.and_eq_true] at hkb'
    obtain ⟨_, ⟨hky, hel⟩, _⟩ := hkb'
    obtain ⟨ke, hke, hke2⟩ := kind_nat hel
    obtain ⟨ky, hky', hky2⟩ := kind_nat hky
    have HVB : Hid (valB p c = (numB (flen c / 2) ++ [16 * ky + ke]) ++ encF c false [] 0) := by
      show _ = _
      simp [valB, preB, hk, hs, hke, hky']
    have hlv := congrArg List.length HVB.out
    simp only [List.length_append, List.length_cons, List.length_nil] at hlv
    have HKE : Hid (p.elem = (ke : Int) ∧ p.key = (ky : Int)) := ⟨hke, hky'⟩
    have N := number_any _ B out (flen c / 2) (num_bound (by omega)) (by have := HL.out; have := numB_len (flen c / 2); omega) hW
    obtain ⟨hf, hhf⟩ : ∃ x : Nat, x = flen c / 2 := ⟨_, rfl⟩
    have hhf' : (flen c : Int) / 2 = (hf : Int) := by omega
    rw [← hhf] at N HVB hlv
    clear hl hk hkb hel hky hke hky' hhf
    go_enter Try.func58, Try.ntmps58
    go_wp2_with fail
    refine N.mono ?_
    rintro e W1 ⟨rfl, hW1, hf1⟩
    have hwf1 := hwf0.trans hf1
    obtain ⟨y0, y1, y2, y3, y4, y5, y6⟩ := box7 (hf1.box hbx hbn tTh_ne)
    have L := layHalves_any W1 B _ ky ke hky2 hke2 (by have := HL.out; simp only [List.length_append]; omega) hW1
    rw [← HKE.out.1, ← HKE.out.2] at L
    clear N
    go_wp2_with fail
    refine L.mono ?_
    rintro e W2 ⟨rfl, hW2, hf2⟩
    have hwf2 := hwf1.trans hf2
    clear y0 y1 y2 y3 y4 y5 y6
    obtain ⟨y0, y1, y2, y3, y4, y5, y6⟩ := box7 ((hf1.trans hf2).box hbx hbn tTh_ne)
    have V := wvalues_any c ih w0 W2 B _ la lc hok.list t3 hv.list (WF.old hb0 hwf2 hB (Nat.le_of_lt HB.out)) hB (by have := HL.out; simp only [List.length_append, List.length_cons, List.length_nil]; omega) hW2
    rw [List.append_assoc, List.append_assoc, ← List.append_assoc (numB hf), ← HVB.out] at V
    clear L hlv
    go_wp2_with fail
    refine V.mono ?_
    rintro e W3 ⟨rfl, hW3, hf3⟩
    go_wp2_with fail
    go_end0
    exact ⟨rfl, hW3, hwf2.trans hf3⟩
end Go.Proofs.Ytikoddlidhefpaa
