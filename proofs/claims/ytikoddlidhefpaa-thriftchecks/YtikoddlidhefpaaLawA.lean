/-
  What the laws ask of Read, Write and Same.
-/
import Derived.Test.YtikoddlidhefpaaWorks
import Derived.Test.YtikoddlidhefpaaAgainB
import Derived.Test.YtikoddlidhefpaaBound
namespace Go.Proofs.Ytikoddlidhefpaa
set_option linter.unusedVariables false
set_option linter.unusedSimpArgs false
open Go.ChangeShapes Go.WideShapes Go.ChangeAt Go.RowKit Go.Deep

theorem read_ok (w : World) (a : Option Addr) (L cp : Nat) (bs : List Nat) (hL : bs.length = L) (hs : Src w a L cp (c8 bs)) (hc : L ≤ cp) (hl : L ≤ 140737488355328) (h8 : ∀ c ∈ bs, c < 256) {p : Pay} {c : Fo} {rest : List Nat} (he : rRead bs = .ok ((p, c), rest)) (n : Nat) (hn : n + rest.length = L) :
    Calls Try.prog 21 #[.slice a L cp] w fun e w' => ∃ ja jc ka kc, e = .returned (.tuple #[val p c ja jc ka kc, .int .i64 (n : Int), .int .i64 0]) ∧ VIn w' p c ja jc ka kc ∧ Below w.heap.size w w' := by
  subst hL
  refine read_q w a bs cp hs hc hl h8 _ (fun p' c' rest' v w' h hb hvx => ?_) (fun s w' h _ => by rw [he] at h; cases h)
  rw [he] at h
  cases h
  obtain ⟨ja, jc, ka, kc, rfl, hin⟩ := hvx.vin
  have e : (bs.length : Int) - (rest.length : Int) = (n : Int) := by omega
  rw [e]
  exact ⟨ja, jc, ka, kc, rfl, hin, hb⟩
theorem read_no (w : World) (a : Option Addr) (L cp : Nat) (bs : List Nat) (hL : bs.length = L) (hs : Src w a L cp (c8 bs)) (hc : L ≤ cp) (hl : L ≤ 140737488355328) (h8 : ∀ c ∈ bs, c < 256) {s : Bool} (he : rRead bs = .error s) :
    Calls Try.prog 21 #[.slice a L cp] w fun e w' => e = .returned (.tuple #[.agg #[.int .i64 0, .int .i64 0, .int .i64 0, .int .i64 0, .string { data := #[] }, .slice none 0 0, .slice none 0 0], .int .i64 0, .int .i64 (why s)]) ∧ Below w.heap.size w w' := by
  subst hL
  refine read_q w a bs cp hs hc hl h8 _ (fun p' c' rest' v w' h hb hvx => by rw [he] at h; cases h) (fun s' w' h hb => ?_)
  rw [he] at h
  cases h
  exact ⟨rfl, hb⟩
/-- Read, whatever it tells -/
theorem read_some (w : World) (a : Option Addr) (L cp : Nat) (bs : List Nat) (hL : bs.length = L) (hs : Src w a L cp (c8 bs)) (hc : L ≤ cp) (hl : L ≤ 140737488355328) (h8 : ∀ c ∈ bs, c < 256) :
    Calls Try.prog 21 #[.slice a L cp] w fun e w' => ∃ k y z n x ja jn jc ka kn kc r c, e = .returned (.tuple #[.agg #[.int .i64 k, .int .i64 y, .int .i64 z, .int .i64 n, .string x, .slice ja jn jc, .slice ka kn kc], .int .i64 r, .int .i64 c]) ∧ Below w.heap.size w w' := by
  subst hL
  refine read_q w a bs cp hs hc hl h8 _ (fun p' c' rest' v w' h hb hvx => ?_) (fun s' w' h hb => ?_)
  · obtain ⟨ja, jc, ka, kc, rfl, hin⟩ := hvx.vin
    exact ⟨_, _, _, _, _, _, _, _, _, _, _, _, _, rfl, hb⟩
  · exact ⟨_, _, _, _, _, _, _, _, _, _, _, _, _, rfl, hb⟩
theorem made2 (w : World) (o : Obj) : ((w.alloc o).alloc (.cells #[] 5)).ownsRow (w.heap.size + 1) 5 1 (.slice (some ⟨w.heap.size + 1, 0, none⟩) 0 0) 0 [] := by
  have h := World.ownsRow_made (base := w.heap.size + 1) (e := 5) (size := 1) (w.alloc o) #[] 0 (by simp) (Nat.zero_le _) rfl
  have e : (w.alloc o).heap.size = w.heap.size + 1 := by simp
  rwa [e] at h
theorem alloc2_below (w : World) (o o' : Obj) : Below (w.heap.size + 1) (w.alloc o) ((w.alloc o).alloc o') := by
  have h := alloc_below (w.alloc o) o'
  have e : (w.alloc o).heap.size = w.heap.size + 1 := by simp
  rwa [e] at h
theorem sameF_refl : ∀ c : Fo, sameF c c = true
  | .nil => rfl
  | .node b o p c r => by rw [sameF_node, sameP_refl, sameF_refl c, sameF_refl r]; rfl
/-- what is read, of bytes: the value may be, its bytes were taken, and it is so whatever stands behind -/
theorem read_parts {bs : List Nat} {p : Pay} {c : Fo} {rest : List Nat} (h8 : ∀ b ∈ bs, b < 256) (h : rRead bs = .ok ((p, c), rest)) : p.kind = 12 ∧ mayV p c 32 = true ∧ bs = valB p c ++ rest ∧ (∀ x, rRead (valB p c ++ x) = .ok ((p, c), x)) ∧ 1 ≤ (valB p c).length := by
  obtain ⟨h1, h2, h3⟩ := again_all 32 12 bs p c rest rfl h8 h
  obtain ⟨u, hu, k1, k2⟩ := (good_read bs).1 _ _ h
  have e : u = valB p c := List.append_cancel_right (hu.symm.trans h3)
  subst e
  refine ⟨h1, h2, h3, k1, ?_⟩
  have hb := (bare_cases (may_parts h2).2.1).2.2.2.1 h1
  have hv : valB p c = preB p (flen c) ++ encF c true p.ids 0 := by unfold valB; rw [if_pos h1]
  have := encF_len_ge c p.ids 0
  rw [hv, List.length_append]
  omega
theorem write_ok (p : Pay) (c : Fo) (w : World) (ia : Option Addr) (ic : Nat) (la : Option Addr) (lc : Nat) (hv : VIn w p c ia ic la lc) (hk : p.kind = 12) (hm : mayV p c 32 = true) (hl : (valB p c).length + 100 ≤ 70368744177664) :
    Calls Try.prog 19 #[val p c ia ic la lc] w fun e w' => ∃ a cp, e = .returned (.tuple #[.slice a (valB p c).length cp, .int .i64 0]) ∧ Src w' a (valB p c).length cp (c8 (valB p c)) ∧ (valB p c).length ≤ cp ∧ Below w.heap.size w w' := by
  refine (write_yes p c w ia ic la lc hv (by rw [hm]; simp [hk]) hl).mono ?_
  rintro e w' ⟨v, rfl, ho, hb⟩
  obtain ⟨a, cp, rfl⟩ := own_sl ho
  exact ⟨a, cp, rfl, (src_own ho).2, own_cap ho, hb⟩
end Go.Proofs.Ytikoddlidhefpaa
