/-
  What the laws ask of Read, Write and Same.
-/
import Derived.Test.YtikoddlidhefpaaJ8
import Derived.Test.YtikoddlidhefpaaJ9
import Derived.Test.YtikoddlidhefpaaBound
import Derived.Lib.QuietBelow
import Derived.BigQuiet
namespace Go.Proofs.Ytikoddlidhefpaa
set_option linter.unusedVariables false
set_option linter.unusedSimpArgs false
open Go.ChangeShapes Go.WideShapes Go.ChangeAt Go.RowKit Go.Deep

theorem read_ok (w : World) (a : Option Addr) (L cp : Nat) (bs : List Nat) (hL : bs.length = L) (hs : Src w a L cp (c8 bs)) (hc : L ≤ cp) (hl : L ≤ 140737488355328) (h8 : ∀ c ∈ bs, c < 256) {p : Pay} {c : Fo} {rest : List Nat} (he : rRead bs = .ok ((p, c), rest)) (n : Nat) (hn : n + rest.length = L) :
    Calls Try.prog 21 #[.slice a L cp] w fun e w' => ∃ ja jc ka kc, e = .returned (.tuple #[val p c ja jc ka kc, .int .i64 (n : Int), .int .i64 0]) ∧ VIn w' p c ja jc ka kc ∧ Below w.heap.size w w' := by
  subst hL
  refine read_q w a bs cp hs hc hl h8 _ (fun p' c' rest' v w' h hb hvx => ?_) (fun s w' h _ => by rw [he] at h; cases h)
  rw [he] at h
  cases h
  obtain ⟨ja, jc, ka, kc, rfl, hin⟩ := hvx.vin
  have e : (bs.length : Int) - (rest.length : Int) = (n : Int) := by omega
  rw [e]
  exact ⟨ja, jc, ka, kc, rfl, hin, hb⟩
theorem read_no (w : World) (a : Option Addr) (L cp : Nat) (bs : List Nat) (hL : bs.length = L) (hs : Src w a L cp (c8 bs)) (hc : L ≤ cp) (hl : L ≤ 140737488355328) (h8 : ∀ c ∈ bs, c < 256) {s : Bool} (he : rRead bs = .error s) :
    Calls Try.prog 21 #[.slice a L cp] w fun e w' => e = .returned (.tuple #[.agg #[.int .i64 0, .int .i64 0, .int .i64 0, .int .i64 0, .string { data := #[] }, .slice none 0 0, .slice none 0 0], .int .i64 0, .int .i64 (why s)]) ∧ Below w.heap.size w w' := by
  subst hL
  refine read_q w a bs cp hs hc hl h8 _ (fun p' c' rest' v w' h hb hvx => by rw [he] at h; cases h) (fun s' w' h hb => ?_)
  rw [he] at h
  cases h
  exact ⟨rfl, hb⟩
/-- Read, whatever it tells -/
theorem read_some (w : World) (a : Option Addr) (L cp : Nat) (bs : List Nat) (hL : bs.length = L) (hs : Src w a L cp (c8 bs)) (hc : L ≤ cp) (hl : L ≤ 140737488355328) (h8 : ∀ c ∈ bs, c < 256) :
    Calls Try.prog 21 #[.slice a L cp] w fun e w' => ∃ k y z n x ja jn jc ka kn kc r c, e = .returned (.tuple #[.agg #[.int .i64 k, .int .i64 y, .int .i64 z, .int .i64 n, .string x, .slice ja jn jc, .slice ka kn kc], .int .i64 r, .int .i64 c]) ∧ Below w.heap.size w w' := by
  subst hL
  refine read_q w a bs cp hs hc hl h8 _ (fun p' c' rest' v w' h hb hvx => ?_) (fun s' w' h hb => ?_)
  · obtain ⟨ja, jc, ka, kc, rfl, hin⟩ := hvx.vin
    exact ⟨_, _, _, _, _, _, _, _, _, _, _, _, _, rfl, hb⟩
  · exact ⟨_, _, _, _, _, _, _, _, _, _, _, _, _, rfl, hb⟩
theorem made2 (w : World) (o : Obj) : ((w.alloc o).alloc (.cells #[] 5)).ownsRow (w.heap.size + 1) 5 1 (.slice (some ⟨w.heap.size + 1, 0, none⟩) 0 0) 0 [] := by
  have h := World.ownsRow_made (base := w.heap.size + 1) (e := 5) (size := 1) (w.alloc o) #[] 0 (by simp) (Nat.zero_le _) rfl
  have e : (w.alloc o).heap.size = w.heap.size + 1 := by simp
  rwa [e] at h
theorem alloc2_below (w : World) (o o' : Obj) : Below (w.heap.size + 1) (w.alloc o) ((w.alloc o).alloc o') := by
  have h := alloc_below (w.alloc o) o'
  have e : (w.alloc o).heap.size = w.heap.size + 1 := by simp
  rwa [e] at h
theorem sameF_refl : ∀ c : Fo, sameF c c = true
  | .nil => rfl
  | .node b o p c r => by rw [sameF_node, sameP_refl, sameF_refl c, sameF_refl r]; rfl
/-- what is read, of bytes: the value may be, its bytes were taken, and it is so whatever stands behind -/
theorem read_parts {bs : List Nat} {p : Pay} {c : Fo} {rest : List Nat} (h8 : ∀ b ∈ bs, b < 256) (h : rRead bs = .ok ((p, c), rest)) : p.kind = 12 ∧ mayV p c 32 = true ∧ bs = valB p c ++ rest ∧ (∀ x, rRead (valB p c ++ x) = .ok ((p, c), x)) ∧ 1 ≤ (valB p c).length := by
  obtain ⟨h1, h2, h3⟩ := again_all 32 12 bs p c rest rfl h8 h
  obtain ⟨u, hu, k1, k2⟩ := (good_read bs).1 _ _ h
  have e : u = valB p c := List.append_cancel_right (hu.symm.trans h3)
  subst e
  refine ⟨h1, h2, h3, k1, ?_⟩
  have hb := (bare_cases (may_parts h2).2.1).2.2.2.1 h1
  have hv : valB p c = preB p (flen c) ++ encF c true p.ids 0 := by unfold valB; rw [if_pos h1]
  have := encF_len_ge c p.ids 0
  rw [hv, List.length_append]
  omega
theorem write_ok (p : Pay) (c : Fo) (w : World) (ia : Option Addr) (ic : Nat) (la : Option Addr) (lc : Nat) (hv : VIn w p c ia ic la lc) (hk : p.kind = 12) (hm : mayV p c 32 = true) (hl : (valB p c).length + 100 ≤ 70368744177664) :
    Calls Try.prog 19 #[val p c ia ic la lc] w fun e w' => ∃ a cp, e = .returned (.tuple #[.slice a (valB p c).length cp, .int .i64 0]) ∧ Src w' a (valB p c).length cp (c8 (valB p c)) ∧ (valB p c).length ≤ cp ∧ Below w.heap.size w w' := by
  refine (write_yes p c w ia ic la lc hv (by rw [hm]; simp [hk]) hl).mono ?_
  rintro e w' ⟨v, rfl, ho, hb⟩
  obtain ⟨a, cp, rfl⟩ := own_sl ho
  exact ⟨a, cp, rfl, (src_own ho).2, own_cap ho, hb⟩
end Go.Proofs.Ytikoddlidhefpaa

/-
  What the law of there and back asks: unlike structures have unlike bytes, none of which begin others.
-/
namespace Go.Proofs.Ytikoddlidhefpaa
set_option linter.unusedVariables false
set_option linter.unusedSimpArgs false
open Go.ChangeShapes Go.WideShapes Go.ChangeAt Go.RowKit Go.Deep Go.Sort

theorem nums_fat {w : World} : ∀ {f : Fo} {a : Option Addr}, FAt w f a → NumsF f
  | .nil, _, _ => trivial
  | .node _ _ p c r, a, h => by
    obtain ⟨b, o, _, _, h3, _, ⟨ia, ic, la, lc, _, _, h7⟩, h8⟩ := h
    exact ⟨⟨h3.num, nums_fat h7⟩, nums_fat h8⟩
theorem sameF_nt' : ∀ c : Fo, sameF (nt c) c = true
  | .nil => rfl
  | .node b o p c r => by rw [nt, sameF_node, sameP_refl, sameF_nt' c, sameF_nt' r]; rfl
theorem nt_same : ∀ {c d : Fo}, sameF c d = true → nt c = nt d
  | .nil, .nil, _ => rfl
  | .node b o p c r, .node b' o' q d s, h => by
    rw [sameF_node, Bool.and_eq_true, Bool.and_eq_true] at h
    simp only [nt]
    rw [sameP_eq h.1.1, nt_same h.1.2, nt_same h.2]
  | .nil, .node _ _ _ _ _, h => by simp [sameF] at h
  | .node _ _ _ _ _, .nil, h => by simp [sameF] at h
theorem same_nt : ∀ {c d : Fo}, nt c = nt d → sameF c d = true
  | .nil, .nil, _ => rfl
  | .node b o p c r, .node b' o' q d s, h => by
    simp only [nt, Deep.BT.node.injEq] at h
    obtain ⟨_, _, rfl, h1, h2⟩ := h
    rw [sameF_node, sameP_refl, same_nt h1, same_nt h2]
    rfl
  | .nil, .node _ _ _ _ _, h => by simp [nt] at h
  | .node _ _ _ _ _, .nil, h => by simp [nt] at h
theorem encF_nt : ∀ (c : Fo) (b : Bool) (ids : List Int) (last : Int), encF (nt c) b ids last = encF c b ids last
  | .nil, _, _, _ => rfl
  | .node _ _ p c r, b, ids, last => by
    simp only [nt, encF, flen_nt, encF_nt c, encF_nt r]
theorem valB_nt (p : Pay) (c : Fo) : valB p (nt c) = valB p c := by
  simp only [valB, flen_nt, encF_nt]
/-- the bytes of a structure, with whatever stands behind -/
theorem back_read {w : World} {p : Pay} {c : Fo} {ia : Option Addr} {ic : Nat} {la : Option Addr} {lc : Nat} (hv : VIn w p c ia ic la lc) (hk : p.kind = 12) (hm : mayV p c 32 = true) (rest : List Nat) : rRead (valB p c ++ rest) = .ok ((p, nt c), rest) := by
  have := back_all 32 p c rest hm hv.ok.num (nums_fat hv.list)
  rw [hk] at this
  exact this
theorem back_cut {bs : List Nat} {x : Pay × Fo} (h : rRead bs = .ok (x, [])) {k : Nat} (hk : k < bs.length) : rRead (bs.take k) = .error true := by
  obtain ⟨u, hu, _, h2⟩ := (good_read bs).1 x [] h
  rw [List.append_nil] at hu
  subst hu
  refine h2 (bs.take k) (bs.drop k) (List.take_append_drop k bs).symm fun e => ?_
  have := congrArg List.length e
  simp at this
  omega
theorem txt_inj {l m : List Nat} (hl : ∀ b ∈ l, b < 256) (hm : ∀ b ∈ m, b < 256) (h : (txt l).toList = (txt m).toList) : l = m := by
  have e := ba_ext h
  rw [← txt_map l hl, ← txt_map m hm, e]
theorem numF_b8 : ∀ (g k : Nat), k < 128 ^ (g + 1) → ∀ b ∈ numF g k, b < 256
  | 0, k, h, b, hb => by
    simp [numF] at hb
    simp at h
    omega
  | g + 1, k, h, b, hb => by
    unfold numF at hb
    split at hb
    · simp at hb; omega
    · rcases List.mem_cons.1 hb with rfl | hb
      · omega
      · refine numF_b8 g (k / 128) ?_ b hb
        rw [Nat.pow_succ] at h
        exact Nat.div_lt_of_lt_mul (by rw [Nat.mul_comm]; exact h)
theorem numB_b8 {n : Nat} (h : n < 18446744073709551616) : ∀ b ∈ numB n, b < 256 := numF_b8 9 n (Nat.lt_trans h (by decide))
theorem leB_b8 : ∀ (k n : Nat), ∀ b ∈ leB k n, b < 256
  | 0, _, b, hb => by simp [leB] at hb
  | k + 1, n, b, hb => by
    rcases List.mem_cons.1 hb with rfl | hb
    · omega
    · exact leB_b8 k _ b hb
theorem b8_append {u v : List Nat} (hu : ∀ b ∈ u, b < 256) (hv : ∀ b ∈ v, b < 256) : ∀ b ∈ u ++ v, b < 256 := fun b hb => by
  rcases List.mem_append.1 hb with h | h
  · exact hu b h
  · exact hv b h
theorem b8_one {n : Nat} (h : n < 256) : ∀ b ∈ [n], b < 256 := fun b hb => by rw [List.mem_singleton.1 hb]; exact h
theorem zig_lt {n : Int} (h : i64ok n) : zig n < 18446744073709551616 := by
  obtain ⟨h1, h2⟩ := h
  unfold zig zz
  split <;> omega
theorem preB_b8 {p : Pay} {c : Fo} {r : Int} (h : mayV p c r = true) (hn : i64ok p.num) : ∀ b ∈ preB p (flen c), b < 256 := by
  have hk := (may_parts h).2.2.1
  have hkn := OkV.known ⟨_, h⟩
  rw [known_true] at hkn
  unfold preB
  by_cases k1 : p.kind = 1
  · rw [if_pos k1]; exact b8_one (by unfold truthN; split <;> omega)
  rw [if_neg k1]
  by_cases k3 : p.kind = 3
  · rw [if_pos k3]; exact b8_one (by omega)
  rw [if_neg k3]
  by_cases k4 : p.kind = 4 ∨ p.kind = 5 ∨ p.kind = 6
  · rw [if_pos k4]; exact numB_b8 (zig_lt hn)
  rw [if_neg k4]
  by_cases k7 : p.kind = 7
  · rw [if_pos k7]; exact leB_b8 _ _
  rw [if_neg k7]
  unfold kindB at hk
  by_cases k8 : p.kind = 8
  · rw [if_pos k8]
    rw [if_neg k1, if_neg (by omega), if_pos k8, decide_eq_true_eq] at hk
    refine b8_append (numB_b8 (by omega)) fun b hb => ?_
    obtain ⟨x, _, rfl⟩ := List.mem_map.1 hb
    exact x.toNat_lt
  rw [if_neg k8]
  by_cases k9 : p.kind = 9
  · rw [if_pos k9]
    rw [if_neg k1, if_neg (by omega), if_neg k8, if_pos k9, Bool.and_eq_true, Bool.and_eq_true, decide_eq_true_eq, List.all_cons, Bool.and_eq_true] at hk
    have he := known_nat hk.2.1.1
    split
    · exact b8_one (by omega)
    · exact b8_append (b8_one (by omega)) (numB_b8 (by omega))
  rw [if_neg k9]
  by_cases k11 : p.kind = 11
  · rw [if_pos k11]
    rw [if_neg k1, if_neg (by omega), if_neg k8, if_neg k9, if_pos k11] at hk
    unfold mapB at hk
    by_cases h0 : flen c = 0
    · rw [if_pos h0, h0]
      exact b8_append (numB_b8 (by omega)) (fun b hb => by cases hb)
    · rw [if_neg h0] at hk ⊢
      rw [Bool.and_eq_true, Bool.and_eq_true, decide_eq_true_eq, decide_eq_true_eq, Bool.and_eq_true, List.all_cons, List.all_cons, Bool.and_eq_true, Bool.and_eq_true] at hk
      have hy := known_nat hk.2.1.1
      have he := known_nat hk.2.1.2.1
      exact b8_append (numB_b8 (by omega)) (b8_one (by omega))
  · rw [if_neg k11]
    exact fun b hb => by cases hb
theorem headB_b8 {p : Pay} (hk : knownB p.kind = true) {id last : Int} (h0 : 0 ≤ last) (h1 : last < id) (h2 : id ≤ 32767) : ∀ b ∈ headB p id last, b < 256 := by
  have hkn := known_nat hk
  have ht : truthN p = 1 ∨ truthN p = 2 := by unfold truthN; split <;> simp
  unfold headB
  generalize hX : (if p.kind = 1 then truthN p else p.kind.toNat) = X
  have hX16 : X < 16 := by rw [← hX]; split <;> omega
  split
  · exact b8_one (by omega)
  · exact b8_append (b8_one (by omega)) (numB_b8 (zig_lt ⟨by omega, by omega⟩))
def B8At (c : Fo) : Prop := ∀ r : Int, mayF c r = true → NumsF c → (∀ b ∈ encF c false [] 0, b < 256) ∧ ∀ (ids : List Int) (last : Int), flen c = ids.length → risingB ids last = true → 0 ≤ last → ∀ b ∈ encF c true ids last, b < 256
theorem val_b8_of {p : Pay} {c : Fo} (hc : B8At c) {r : Int} (h : mayV p c r = true) (hn : i64ok p.num) (hN : NumsF c) : ∀ b ∈ valB p c, b < 256 := by
  obtain ⟨_, _, hk, hf⟩ := may_parts h
  obtain ⟨f1, f2⟩ := hc _ hf hN
  unfold valB
  refine b8_append (preB_b8 h hn) ?_
  by_cases k12 : p.kind = 12
  · rw [if_pos k12]
    have hk' : (decide (flen c = p.ids.length) && risingB p.ids 0) = true := by
      unfold kindB at hk
      simpa [k12] using hk
    rw [Bool.and_eq_true, decide_eq_true_eq] at hk'
    exact f2 p.ids 0 hk'.1 hk'.2 (Int.le_refl _)
  · rw [if_neg k12]
    split
    · exact f1
    · exact fun b hb => by cases hb
theorem enc_b8 : ∀ c : Fo, B8At c
  | .nil, r, _, _ => ⟨(fun b hb => by simp [encF] at hb), fun ids last _ _ _ b hb => by simp [encF] at hb; omega⟩
  | .node x y p c d, r, hm, hn => by
    rw [mayF_node, Bool.and_eq_true] at hm
    have hv := val_b8_of (enc_b8 c) hm.1 hn.1.1 hn.1.2
    obtain ⟨d1, d2⟩ := enc_b8 d r hm.2 hn.2
    refine ⟨?_, fun ids last hl hr h0 => ?_⟩
    · rw [encF_cat]
      exact b8_append hv d1
    · cases ids with
      | nil => simp [flen] at hl
      | cons id ids =>
        simp only [risingB, Bool.and_eq_true, decide_eq_true_eq] at hr
        rw [encF_fld]
        simp only [List.headD_cons, List.tail_cons]
        refine b8_append (b8_append (headB_b8 (OkV.known ⟨_, hm.1⟩) h0 hr.1.1 hr.1.2) ?_) (d2 ids id (by simp [flen] at hl; exact hl) hr.2 (by omega))
        split
        · exact fun b hb => by cases hb
        · exact hv
theorem valB_b8 {w : World} {p : Pay} {c : Fo} {ia : Option Addr} {ic : Nat} {la : Option Addr} {lc : Nat} (hv : VIn w p c ia ic la lc) (hm : mayV p c 32 = true) : ∀ b ∈ valB p c, b < 256 :=
  val_b8_of (enc_b8 c) hm hv.ok.num (nums_fat hv.list)
set_option maxRecDepth 10000 in
set_option maxHeartbeats 1000000 in
theorem begins_no (w : World) (a : Option Addr) (la ca : Nat) (b : Option Addr) (lb cb : Nat) (l m : List Nat) (hs1 : Src w a la ca (c8 l)) (hs2 : Src w b lb cb (c8 m)) (hcb : lb ≤ cb) (hla : la ≤ 1000000) (hlb : lb ≤ 1000000) (l8 : ∀ x ∈ l, x < 256) (m8 : ∀ x ∈ m, x < 256) (hno : la < lb → m.take la ≠ l) :
    Calls Try.prog 27 #[.slice a la ca, .slice b lb cb] w fun e w' => e = .returned (.bool false) ∧ Below w.heap.size w w' := by
  have hla' : (la : Int) ≤ 1000000 := by omega
  have hlb' : (lb : Int) ≤ 1000000 := by omega
  by_cases hlt : la < lb
  · have hlt' : (la : Int) < (lb : Int) := by omega
    have S1 : ∀ d os, Sem.run Try.prog (convert 37 9 (.slice b la cb)) (grow (redrawn w d) os) = .ok (.string (txt (m.take la))) (grow (redrawn w d) os) := fun d os => str_src ((src_take hs2 (by omega)).later (below_regrown w d os))
    have S2 : ∀ d os, Sem.run Try.prog (convert 37 9 (.slice a la ca)) (grow (redrawn w d) os) = .ok (.string (txt l)) (grow (redrawn w d) os) := fun d os => str_src (hs1.later (below_regrown w d os))
    have hne : ¬ (txt (m.take la)).toList = (txt l).toList := fun e => hno hlt (txt_inj (fun x hx => m8 x (List.mem_of_mem_take hx)) l8 e)
    have hlc : (la : Int) ≤ (cb : Int) := by omega
    generalize txt (m.take la) = T1 at *
    generalize txt l = T2 at *
    have hbe : (T1.toList == T2.toList) = false := by simpa using hne
    clear hno hs1 hs2 hne
    go_enter Try.func27, Try.ntmps27
    go_wp2_with fail
    refine wp_region_quiet_below (by kernel_rfl) (by kernel_rfl) ?_
    repeat (go_big_quiet_step (fail))
    refine wpQuiet_nil ?_
    intro _ hw'
    obtain ⟨⟨dq, osq⟩, hw''⟩ := hw'
    subst hw''
    have hbq := below_regrown w dq osq
    generalize grow (redrawn w dq) osq = wq at *
    go_wp2_with fail
    go_ret
    exact ⟨rfl, hbq⟩
  · have hlt' : ¬ (la : Int) < (lb : Int) := by omega
    have hd : decide ((la : Int) < (lb : Int)) = false := by simpa using hlt'
    have hd2 : decide (la < lb) = false := by simpa using hlt
    clear hno hs1 hs2
    go_enter Try.func27, Try.ntmps27
    go_wp2_with fail
    refine wp_region_quiet_below (by kernel_rfl) (by kernel_rfl) ?_
    repeat (go_big_quiet_step (fail))
    refine wpQuiet_nil ?_
    intro _ hw'
    obtain ⟨⟨dq, osq⟩, hw''⟩ := hw'
    subst hw''
    have hbq := below_regrown w dq osq
    generalize grow (redrawn w dq) osq = wq at *
    go_wp2_with fail
    go_ret
    exact ⟨rfl, hbq⟩
/-- Write, whatever it tells: of a structure that may be its bytes, else none -/
theorem write_some (p : Pay) (c : Fo) (w : World) (ia : Option Addr) (ic : Nat) (la : Option Addr) (lc : Nat) (hv : VIn w p c ia ic la lc) (hl : (valB p c).length + 100 ≤ 70368744177664) :
    Calls Try.prog 19 #[val p c ia ic la lc] w fun e w' => Below w.heap.size w w' ∧ ((p.kind = 12 ∧ mayV p c 32 = true ∧ ∃ a cp, e = .returned (.tuple #[.slice a (valB p c).length cp, .int .i64 0]) ∧ Src w' a (valB p c).length cp (c8 (valB p c)) ∧ (valB p c).length ≤ cp) ∨ (¬ (p.kind = 12 ∧ mayV p c 32 = true) ∧ e = .returned (.tuple #[.slice none 0 0, .int .i64 2]))) := by
  by_cases h : p.kind = 12 ∧ mayV p c 32 = true
  · refine (write_ok p c w ia ic la lc hv h.1 h.2 hl).mono ?_
    rintro e w' ⟨a, cp, he, h1, h2, h3⟩
    exact ⟨h3, .inl ⟨h.1, h.2, a, cp, he, h1, h2⟩⟩
  · refine (write_no p c w ia ic la lc hv (by
      cases hh : (decide (p.kind = 12) && mayV p c 32)
      · rfl
      · rw [Bool.and_eq_true, decide_eq_true_eq] at hh; exact absurd hh h)).mono ?_
    rintro e w' ⟨he, hb⟩
    exact ⟨hb, .inr ⟨h, he⟩⟩
/-- what is no greater than some holds no more -/
theorem sz_bound {p : Pay} {c : Fo} (h : szL c (1 + p.text.size + p.ids.length) 3000 ≤ 3000) : (1 + p.text.size + p.ids.length : Int) + totF c ≤ 3000 ∧ (valB p c).length ≤ 200000 := by
  have e := szL_tot c _ _ h
  have h1 := valB_len p c
  have h2 := totF_ge c
  omega
end Go.Proofs.Ytikoddlidhefpaa
