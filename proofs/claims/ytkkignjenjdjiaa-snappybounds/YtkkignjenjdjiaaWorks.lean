/-
  What is squeezed is opened; the laws' own functions: num, lent, kept, works.
-/
import Derived.Test.YtkkignjenjdjiaaSqF
import Derived.Test.YtkkignjenjdjiaaRdF
import Derived.Lib.SlBytesConst
namespace Go.Proofs.Ytkkignjenjdjiaa
set_option linter.unusedVariables false
set_option linter.unusedSimpArgs false
open Go.ChangeShapes Go.WideShapes Go.ChangeAt Go.RowKit

theorem sqz_num {b c : List Nat} (h : Sqz b c) (hb : b.length ≤ 1048576) : ∃ r, sNum c = .ok (b.length, r) := by
  obtain ⟨P, rfl, _⟩ := h.lays
  exact ⟨P, numB_back _ hb P⟩
theorem sqz_block {b c : List Nat} (h : Sqz b c) (hb : b.length ≤ 1048576) (most : Nat) : sBlock most c = if most < b.length then .error 3 else .ok b := by
  obtain ⟨P, rfl, hl, _⟩ := h.lays
  unfold sBlock
  rw [numB_back _ hb P]
  have hm := hl.2.2 []
  rw [List.append_nil, List.take_zero, List.take_of_length_le (Nat.le_refl _)] at hm
  have hp := hm.parts rfl (b.length + 1) (by simp)
  simp only [hp]
  rfl
theorem sqz_open {b c : List Nat} (h : Sqz b c) (hb : b.length ≤ 1048576) (most : Int) : sOpen c most = if most < 0 ∨ 1048576 < most then .error 2 else if most < (b.length : Int) then .error 3 else .ok b := by
  unfold sOpen
  by_cases h1 : most < 0 ∨ 1048576 < most
  · rw [if_pos h1, if_pos h1]
  · rw [if_neg h1, if_neg h1, sqz_block h hb]
    by_cases h2 : most < (b.length : Int)
    · rw [if_pos (by omega), if_pos h2]
    · rw [if_neg (by omega), if_neg h2]
theorem sqz_len {b c : List Nat} (h : Sqz b c) (hb : b.length ≤ 1048576) : c.length ≤ b.length + b.length / 6 + 32 := by
  obtain ⟨P, rfl, _, hl⟩ := h.lays
  have := numB_len 2 b.length (by omega)
  rw [List.length_append]
  omega

theorem num_any (e : Int) (w : World) : Calls Try.prog 13 #[.int .i64 e] w fun r w' => r = .returned (.int .i64 e) ∧ w' = w := by
  go_enter Try.func13, Try.ntmps13
  go_wp2
  go_ret
  exact ⟨rfl, rfl⟩
theorem most_in (n : Nat) (w : World) (hn : n ≤ 1048576) : Calls Try.prog 17 #[.int .i64 n] w fun r w' => r = .returned (.int .i64 ((n + n / 6 + 32 : Nat) : Int)) ∧ w' = w := by
  obtain ⟨d, hd⟩ : ∃ d, d = n / 6 := ⟨_, rfl⟩
  have hdi : (n : Int) / 6 = (d : Int) := by omega
  obtain ⟨M, hM⟩ : ∃ M : Int, M = (n : Int) := ⟨_, rfl⟩
  have h1 : ((n + n / 6 + 32 : Nat) : Int) = M + (d : Int) + 32 := by omega
  rw [h1, ← hM]
  rw [← hM] at hdi
  have hM0 : ¬ M < 0 := by omega
  have hM1 : M ≤ 1048576 := by omega
  have hM2 : 0 ≤ M := by omega
  have hd2 : (d : Int) ≤ 1048576 := by omega
  clear h1 hM hd hn
  go_enter Try.func17, Try.ntmps17
  go_wp2
  go_ret
  exact ⟨rfl, rfl⟩
theorem most_out (n : Int) (w : World) (hn : n < 0 ∨ 1048576 < n) : Calls Try.prog 17 #[.int .i64 n] w fun r w' => r = .returned (.int .i64 0) ∧ w' = w := by
  rcases hn with h | h
  · go_enter Try.func17, Try.ntmps17
    go_wp2
    go_ret
    exact ⟨rfl, rfl⟩
  · have h0 : ¬ n < 0 := by omega
    go_enter Try.func17, Try.ntmps17
    go_wp2
    go_ret
    exact ⟨rfl, rfl⟩

/-- Open, its answer as bytes that can be read -/
theorem open_ok (w : World) (a : Option Addr) (bs m : List Nat) (cp : Nat) (most : Int) (hs : Src w a bs.length cp (c8 bs)) (hc : bs.length ≤ cp) (h8 : ∀ c ∈ bs, c < 256) (hl : bs.length ≤ 140737488355328) (hr : sOpen bs most = .ok m) :
    Calls Try.prog 11 #[.slice a bs.length cp, .int .i64 most] w fun e w' => Below w.heap.size w w' ∧ ∃ ad cc, e = .returned (.tuple #[.slice ad m.length cc, .int .i64 0]) ∧ Src w' ad m.length cc (c8 m) := by
  have h := open_any w a bs cp most hs hc h8 hl
  rw [hr] at h
  refine Calls.mono h ?_
  rintro e w' ⟨h1, ad, cc, rfl, h2⟩
  exact ⟨h1, ad, cc, rfl, (src_own h2).2⟩
theorem open_no (w : World) (a : Option Addr) (bs : List Nat) (cp : Nat) (most c : Int) (hs : Src w a bs.length cp (c8 bs)) (hc : bs.length ≤ cp) (h8 : ∀ c ∈ bs, c < 256) (hl : bs.length ≤ 140737488355328) (hr : sOpen bs most = .error c) :
    Calls Try.prog 11 #[.slice a bs.length cp, .int .i64 most] w fun e w' => Below w.heap.size w w' ∧ e = .returned (.tuple #[.slice none 0 0, .int .i64 c]) := by
  have h := open_any w a bs cp most hs hc h8 hl
  rw [hr] at h
  exact h
/-- Squeeze, its answer as bytes that can be read -/
theorem squeeze_src (w : World) (a : Option Addr) (b : List Nat) (cp : Nat) (hs : Src w a b.length cp (c8 b)) (h8 : ∀ c ∈ b, c < 256) (hLb : b.length ≤ 1048576) (hcp : b.length ≤ cp) :
    Calls Try.prog 18 #[.slice a b.length cp] w fun e w' => ∃ c ad cc, e = .returned (.tuple #[.slice ad c.length cc, .int .i64 0]) ∧ Src w' ad c.length cc (c8 c) ∧ c.length ≤ cc ∧ Sqz b c ∧ Below w.heap.size w w' := by
  refine (squeeze_any w a b cp hs h8 hLb hcp).mono ?_
  rintro e w' ⟨c, ad, cc, rfl, h1, h2, h3⟩
  refine ⟨c, ad, cc, rfl, (src_own h1).2, ?_, h2, h3⟩
  rcases h1.2 with ⟨e, h⟩ | ⟨g, cap, cur, e, _, _, h4, _⟩
  · omega
  · cases e; exact h4

theorem w9 : sOpen [9, 8, 97, 98, 99, 9, 3] 9 = .ok [97, 98, 99, 97, 98, 99, 97, 98, 99] := by kernel_rfl
theorem w80 : sOpen [128, 0] 9 = .error 8 := by kernel_rfl

/-- the text of bytes -/
def txt (l : List Nat) : ByteArray := strOfNums (l.map fun n : Nat => (n : Int))
theorem run_txt {w : World} {a : Option Addr} {len c : Nat} {l : List Nat} (h : Src w a len c (c8 l)) : Sem.run Try.prog (convert 22 9 (.slice a len c)) w = .ok (.string (txt l)) w := str_src h

theorem own_cap {w : World} {B : Nat} {e : TypeId} {s n c m : Nat} {a : Option Addr} {xs : List Value} (h : w.ownsRow B e s (.slice a m c) n xs) : n ≤ c := by
  rcases h.2 with ⟨e1, e2⟩ | ⟨g, cap, cur, e1, _, _, e2, _⟩
  · omega
  · cases e1; exact e2
theorem lent_any (w : World) (a : Option Addr) (cp L : Nat) (b : List Nat) (hs : Src w a L cp (c8 b)) (hL : L ≤ 6000) :
    Calls Try.prog 10 #[.slice a L cp] w fun e w' => ∃ g cc, e = .returned (.slice (some ⟨g, 0, none⟩) L cc) ∧ Src w' (some ⟨g, 0, none⟩) (L + 1) cc (c8 (b ++ [77])) ∧ L + 1 ≤ cc ∧ Below w.heap.size w w' := by
  obtain ⟨i0, hi, hz0, hz1, hz2⟩ := info_parts infoU8
  have HS : Hid (Src w a L cp (c8 b)) := hs
  have HM : Hid (0 + L ≤ maxLen ∧ (0 + L) * 1 ≤ 140737488355328 ∧ 0 + L + 1 ≤ maxLen ∧ (0 + L + 1) * 1 ≤ 140737488355328) := ⟨by unfold maxLen; omega, by omega, by unfold maxLen; omega, by omega⟩
  have hL' : (L : Int) ≤ 6000 := by omega
  clear hs
  go_enter Try.func10, Try.ntmps10
  have HA : Hid (∀ W1 : World, Below w.heap.size w W1 → w.heap.size ≤ (W1.alloc (.cells #[.int .u8 77] 5)).heap.size) := fun W1 h => by have := h.size; simp; omega
  go_wp2_with (first | (at_builtin; refine wpList_append_src rfl (.tmp 3) (.tmp 4) 22 rfl w.heap.size 5 i0 (.int .u8 0) 1 Try.underlying22 hi hz0 hz1 hz2 rfl _ _ _ rfl (World.ownsRow_made _ _ 0 (Nat.le_refl _) (Nat.zero_le _) rfl) _ _ _ (c8 b) rfl (HS.out.later ((Below.refl _ w).alloc (Nat.le_refl _) _)) (c8_one b) HM.out.1 HM.out.2.1 (by simp) ?_; intro v1 W1 hown1 hb1; have hb01 : Below w.heap.size w W1 := ((Below.refl _ w).alloc (Nat.le_refl _) _).trans hb1) | (at_builtin; refine wpList_append_own _ rfl (.tmp 5) (.tmp 6) 22 rfl w.heap.size 5 i0 (.int .u8 0) 1 1 Try.underlying22 hi hz0 hz1 hz2 rfl (by decide) _ _ _ rfl (hown1.alloc _) ⟨W1.heap.size, 0, none⟩ 1 1 [.int .u8 77] rfl rfl (new_news W1 [.int .u8 77] 5 (0, 0)) (c8_one [77]) HM.out.2.2.1 HM.out.2.2.2 (HA.out W1 hb01) ?_; intro v2 W2 hown2 hg2 _; obtain ⟨g, cc, rfl⟩ := own_some hown2 (Nat.le_add_left _ _); have hcc : L + 1 ≤ cc := by { have h0 := own_cap hown2; omega }; have hcl : L ≤ cc := Nat.le_of_succ_le hcc; have HO2 : Hid _ := hown2; have HG2 : Hid (Below w.heap.size w W2) := (hb01.alloc hb01.size _).grown hg2 (HA.out W1 hb01) (fun k hk => (hown1.lt k hk).1); clear hown2 hg2))
  go_ret
  have hs2 := (src_own HO2.out).2
  rw [Nat.zero_add, List.nil_append] at hs2
  exact ⟨g, cc, rfl, by rw [c8_append]; exact hs2, hcc, HG2.out⟩

set_option maxHeartbeats 1000000 in
theorem kept_any (w : World) (g cc L cp : Nat) (a : Option Addr) (b : List Nat) (hm : Src w (some ⟨g, 0, none⟩) (L + 1) cc (c8 (b ++ [77]))) (hcc : L + 1 ≤ cc) (hs : Src w a L cp (c8 b)) (hL : L ≤ 6000) :
    Calls Try.prog 14 #[.slice (some ⟨g, 0, none⟩) L cc, .slice a L cp] w fun e w' => e = .returned (.bool true) ∧ w' = w := by
  have hlen : b.length = L := by have := hs.1; rwa [c8_len] at this
  have htk : (b ++ [77]).take L = b := by rw [← hlen]; exact List.take_left
  have S1 := run_txt (src_take hm (n := L) (by omega))
  rw [htk] at S1
  have S2 := run_txt hs
  obtain ⟨g', off', e, hc⟩ := src_at hm (j := L) (by omega)
  cases e
  have hgd : (b ++ [77]).getD L 0 = 77 := by rw [← hlen]; simp [List.getD]
  rw [hgd] at hc
  have hL' : (L : Int) ≤ 6000 := by omega
  have hcc' : (L : Int) + 1 ≤ (cc : Int) := by omega
  generalize txt b = T at *
  rw [Nat.zero_add] at hc
  clear hm hs hlen htk hgd
  go_enter Try.func14, Try.ntmps14
  go_wp2
  go_ret
  exact ⟨rfl, rfl⟩

theorem op1 (w : World) : Calls Try.prog 11 #[.slice (some ⟨w.heap.size, 0, none⟩) 7 7, .int .i64 9] (w.alloc (.cells #[.int .u8 9, .int .u8 8, .int .u8 97, .int .u8 98, .int .u8 99, .int .u8 9, .int .u8 3] 5 (7, 8))) fun e w' => Below w.heap.size w w' ∧ ∃ ad cc, e = .returned (.tuple #[.slice ad 9 cc, .int .i64 0]) ∧ Src w' ad 9 cc (c8 [97, 98, 99, 97, 98, 99, 97, 98, 99]) := by
  have h := open_ok _ (some ⟨w.heap.size, 0, none⟩) [9, 8, 97, 98, 99, 9, 3] _ 7 9 (src_new w [9, 8, 97, 98, 99, 9, 3] 5 (7, 8) 7) (by simp) (by intro c hc; simp at hc; omega) (by simp) w9
  refine Calls.mono h ?_
  rintro e w' ⟨h1, h2⟩
  exact ⟨(alloc_below w _).trans (h1.mono (by simp)), h2⟩
theorem op80 (w : World) : Calls Try.prog 11 #[.slice (some ⟨w.heap.size, 0, none⟩) 2 2, .int .i64 9] (w.alloc (.cells #[.int .u8 128, .int .u8 0] 5)) fun e w' => Below w.heap.size w w' ∧ e = .returned (.tuple #[.slice none 0 0, .int .i64 8]) := by
  have h := open_no _ (some ⟨w.heap.size, 0, none⟩) [128, 0] 2 9 8 (src_new w [128, 0] 5 (0, 0) 2) (by simp) (by intro c hc; simp at hc; omega) (by simp) w80
  refine Calls.mono h ?_
  rintro e w' ⟨h1, h2⟩
  exact ⟨(alloc_below w _).trans (h1.mono (by simp)), h2⟩
theorem sq3 (w : World) : Calls Try.prog 18 #[.slice (some ⟨w.heap.size, 0, none⟩) 3 3] (w.alloc (.cells #[.int .u8 97, .int .u8 98, .int .u8 99] 5 (3, 4))) fun e w' => ∃ c ad cc, e = .returned (.tuple #[.slice ad c.length cc, .int .i64 0]) ∧ Src w' ad c.length cc (c8 c) ∧ c.length ≤ cc ∧ Sqz [97, 98, 99] c ∧ Below w.heap.size w w' := by
  have h := squeeze_src _ (some ⟨w.heap.size, 0, none⟩) [97, 98, 99] 3 (src_new w [97, 98, 99] 5 (3, 4) 3) (by intro c hc; simp at hc; omega) (by simp) (by simp)
  refine Calls.mono h ?_
  rintro e w' ⟨c, ad, cc, h1, h2, h3, h4, h5⟩
  exact ⟨c, ad, cc, h1, h2, h3, h4, (alloc_below w _).trans (h5.mono (by simp))⟩
theorem txt9 : (txt [97, 98, 99, 97, 98, 99, 97, 98, 99]).toList = [97, 98, 99, 97, 98, 99, 97, 98, 99] := by decide +kernel
theorem txt3 : (txt [97, 98, 99]).toList = [97, 98, 99] := by decide +kernel

set_option maxRecDepth 100000 in
set_option maxHeartbeats 2000000 in
theorem works_any (w : World) : Calls Try.prog 9 #[] w fun e w' => e = .returned (.bool true) ∧ Below w.heap.size w w' := by
  have kc := fun (w : World) (C : Array Value) (n c : Nat) => Lib.run_convert_bytes_const (P := Try.prog) w 22 5 C n c Try.underlying22 Try.underlying5
  have t9 := txt9
  have t3 := txt3
  go_enter Try.func9, Try.ntmps9
  go_wp2_with fail
  refine (op1 w).mono ?_
  rintro e W1 ⟨hb1, ad1, cc1, rfl, hs1⟩
  go_wp2_with fail
  refine (sq3 W1).mono ?_
  rintro e W2 ⟨c, ad2, cc2, rfl, hs2, hc2, hq2, hb2⟩
  have hl2 := sqz_len hq2 (by simp)
  simp only [List.length_cons, List.length_nil] at hl2
  have O := open_ok W2 ad2 c [97, 98, 99] cc2 3 hs2 hc2 hq2.b8 (by omega) (by rw [sqz_open hq2 (by simp)]; rfl)
  simp only [List.length_cons, List.length_nil, Nat.zero_add, Nat.reduceAdd] at O
  have hb02 := hb1.trans (hb2.mono hb1.size)
  generalize c.length = cl at *
  go_wp2_with fail
  refine O.mono ?_
  rintro e W3 ⟨hb3, ad3, cc3, rfl, hs3⟩
  have hb03 := hb02.trans (hb3.mono hb02.size)
  go_wp2_with fail
  refine (op80 W3).mono ?_
  rintro e W4 ⟨hb4, rfl⟩
  have hb04 := hb03.trans (hb4.mono hb03.size)
  have S1 := run_txt (hs1.later ((hb2.trans (hb3.mono hb2.size)).trans (hb4.mono (Nat.le_trans hb2.size hb3.size))))
  have S3 := run_txt (hs3.later hb4)
  generalize txt [97, 98, 99, 97, 98, 99, 97, 98, 99] = T9 at *
  generalize txt [97, 98, 99] = T3 at *
  clear hs1 hs2 hs3 O
  go_wp2_with fail
  refine (num_any 0 W4).mono ?_
  rintro e wx ⟨rfl, hwx⟩
  obtain rfl := hwx.symm
  go_wp2_with fail
  refine (num_any 0 W4).mono ?_
  rintro e wx ⟨rfl, hwx⟩
  obtain rfl := hwx.symm
  go_wp2_with fail
  refine (num_any 0 W4).mono ?_
  rintro e wx ⟨rfl, hwx⟩
  obtain rfl := hwx.symm
  go_wp2_with fail
  refine (num_any 8 W4).mono ?_
  rintro e wx ⟨rfl, hwx⟩
  obtain rfl := hwx.symm
  go_wp2_with fail
  refine (most_in 6 W4 (by omega)).mono ?_
  rintro e wx ⟨rfl, hwx⟩
  obtain rfl := hwx.symm
  go_wp2_with fail
  go_ret
  exact ⟨rfl, hb04⟩
end Go.Proofs.Ytkkignjenjdjiaa
