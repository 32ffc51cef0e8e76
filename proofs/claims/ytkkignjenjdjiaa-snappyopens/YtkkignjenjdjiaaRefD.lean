/-
  The reference: Open, walked.
-/
import Derived.Test.YtkkignjenjdjiaaRefC
namespace Go.Proofs.Ytkkignjenjdjiaa
set_option linter.unusedVariables false
set_option linter.unusedSimpArgs false
open Go.ChangeShapes Go.WideShapes Go.ChangeAt Go.RowKit

def lenOf : Value → Nat
  | .slice _ n _ => n
  | _ => 0

/-- a part's step, told by the reference's numbers -/
theorem step_copy {size p n back next b : Nat} {made bs : List Nat} {ok : Bool} (hp : p < bs.length) (hb : b = bs.getD p 0) (h0 : ¬ b % 4 = 0) (h : rPart p (bs.drop p) = (n, back, next, ok)) :
    sPart size made (bs.drop p) = (if ok = false then .error 6 else if (back = 0 ∨ made.length < back) ∨ size < made.length + n then .error 8 else .ok (cpy back n made, bs.drop next)) ∧ (ok = true → p < next ∧ next ≤ bs.length ∧ 1 ≤ n) := by
  have hd := drop_getD bs p hp
  rw [← hb] at hd
  rw [hd] at h
  obtain ⟨h1, h2⟩ := sPart_copy (size := size) (made := made) h0 h
  rw [hd, h1]
  have hl : (bs.drop (p + 1)).length = bs.length - (p + 1) := List.length_drop
  cases ok with
  | false => simp
  | true =>
    obtain ⟨k1, k2, k3⟩ := h2 rfl
    refine ⟨?_, fun _ => ⟨k1, by omega, k3⟩⟩
    rw [← hd, List.drop_drop, show p + (next - p) = next by omega]
theorem step_bytes {size p n back next b : Nat} {made bs : List Nat} {ok : Bool} (hp : p < bs.length) (hb : b = bs.getD p 0) (h0 : b % 4 = 0) (h : rPart p (bs.drop p) = (n, back, next, ok)) :
    sPart size made (bs.drop p) = (if ok = false then .error 6 else if size < made.length + n then .error 8 else if bs.length < next + n then .error 6 else .ok (made ++ (bs.drop next).take n, bs.drop (next + n))) ∧ (ok = true → p < next ∧ next ≤ bs.length ∧ 1 ≤ n) := by
  have hd := drop_getD bs p hp
  rw [← hb] at hd
  rw [hd] at h
  obtain ⟨h1, h2⟩ := sPart_bytes (size := size) (made := made) h0 h
  rw [hd, h1]
  have hl : (bs.drop (p + 1)).length = bs.length - (p + 1) := List.length_drop
  cases ok with
  | false => simp
  | true =>
    obtain ⟨k1, k2, k3⟩ := h2 rfl
    refine ⟨?_, fun _ => ⟨k1, by omega, k3⟩⟩
    rw [← hd, List.drop_drop, List.drop_drop, show p + (next - p) = next by omega, show p + (next - p + n) = next + n by omega, hl]
    simp only [Bool.true_eq_false, if_false]
    by_cases hs : size < made.length + n
    · rw [if_pos hs, if_pos hs]
    rw [if_neg hs, if_neg hs]
    by_cases hq : bs.length < next + n
    · rw [if_pos hq, if_pos (by omega)]
    · rw [if_neg hq, if_neg (by omega)]
theorem sNumF_len : ∀ (l : List Nat) (n j : Nat) {x : Nat} {r : List Nat}, sNumF n j l = .ok (x, r) → r.length < l.length ∧ r = l.drop (l.length - r.length)
  | [], _, _, _, _, h => by cases h
  | c :: l, n, j, x, r, h => by
    simp only [sNumF] at h
    by_cases hc : 4294967295 < n + c % 128 * 2 ^ (7 * j) + (if 128 ≤ c then 128 * 2 ^ (7 * j) else 0) ∨ (c = 0 ∧ 0 < j)
    · rw [if_pos hc] at h
      cases h
    · rw [if_neg hc] at h
      by_cases h2 : c < 128
      · rw [if_pos h2] at h
        cases h
        simp
      · rw [if_neg h2] at h
        obtain ⟨h3, h4⟩ := sNumF_len l _ _ h
        refine ⟨by simp; omega, ?_⟩
        rw [show (c :: l).length - r.length = (l.length - r.length) + 1 by simp; omega, List.drop_succ_cons]
        exact h4

theorem cpy_b8 {back : Nat} : ∀ {n : Nat} {made : List Nat}, (∀ c ∈ made, c < 256) → 1 ≤ back ∧ back ≤ made.length → ∀ c ∈ cpy back n made, c < 256
  | 0, made, h, _ => h
  | n + 1, made, h, hb => by
    rw [cpy]
    refine cpy_b8 (n := n) (fun c hc => ?_) ⟨hb.1, by simp; omega⟩
    rcases List.mem_append.1 hc with h1 | h1
    · exact h c h1
    · obtain rfl := List.mem_singleton.1 h1
      exact h _ (getD_mem _ _ (by omega))
theorem sNumF_err : ∀ (l : List Nat) (n j : Nat) {c : Int}, sNumF n j l = .error c → ¬ c = 0
  | [], _, _, _, h => by cases h; omega
  | c :: l, n, j, e, h => by
    simp only [sNumF] at h
    by_cases hc : 4294967295 < n + c % 128 * 2 ^ (7 * j) + (if 128 ≤ c then 128 * 2 ^ (7 * j) else 0) ∨ (c = 0 ∧ 0 < j)
    · rw [if_pos hc] at h
      cases h
      omega
    · rw [if_neg hc] at h
      by_cases h2 : c < 128
      · rw [if_pos h2] at h
        cases h
      · rw [if_neg h2] at h
        exact sNumF_err l _ _ h
theorem sNum_err {l : List Nat} {c : Int} (h : sNum l = .error c) : ¬ c = 0 := sNumF_err l 0 0 h

set_option maxRecDepth 100000 in
set_option maxHeartbeats 2000000 in
theorem ropen_in (w : World) (a : Option Addr) (bs : List Nat) (cp most : Nat) (hm : most ≤ 1048576) (hs : Src w a bs.length cp (c8 bs)) (h8 : ∀ c ∈ bs, c < 256) (hl : bs.length ≤ 1048576) :
    Calls Try.prog 12 #[.slice a bs.length cp, .int .i64 most] w fun e w' => Below w.heap.size w w' ∧ match sBlock most bs with
      | .ok m => ∃ ad cp, e = .returned (.tuple #[.slice ad m.length cp, .int .i64 0]) ∧ w'.ownsRow w.heap.size 5 1 (.slice ad m.length cp) m.length (c8 m)
      | .error c => e = .returned (.tuple #[.slice none 0 0, .int .i64 c]) := by
  have N := rnumber_any w a bs cp hs h8 (by omega)
  refine calls_of fun Q HQ => ?_
  obtain ⟨res, HR⟩ : ∃ r, Hid (sBlock most bs = r) := ⟨_, rfl⟩
  have QOK : ∀ m w' ad cp, res = .ok m → Below w.heap.size w w' → w'.ownsRow w.heap.size 5 1 (.slice ad m.length cp) m.length (c8 m) → Q (.returned (.tuple #[.slice ad m.length cp, .int .i64 0])) w' := fun x w' ad cp e h1 h2 => HQ _ _ ⟨h1, by rw [HR.out, e]; exact ⟨_, _, rfl, h2⟩⟩
  have QNO : ∀ c w', res = .error c → Below w.heap.size w w' → Q (.returned (.tuple #[.slice none 0 0, .int .i64 c])) w' := fun c w' e h1 => HQ _ _ ⟨h1, by rw [HR.out, e]⟩
  clear HQ
  have hm' : (most : Int) ≤ 1048576 := by omega
  cases hn : sNum bs with
  | error c =>
    rw [hn] at N
    have HE : Hid (res = .error c) := by show _ = _; rw [← HR.out]; unfold sBlock; rw [hn]
    have hc0 : ¬ c = 0 := sNum_err hn
    clear HR
    obtain ⟨L, hL⟩ : ∃ L, L = bs.length := ⟨_, rfl⟩
    rw [← hL] at N ⊢
    clear hL
    go_enter Try.func12, Try.ntmps12
    go_wp2_with fail
    refine N.mono ?_
    rintro e wx ⟨hwx, rfl⟩
    obtain rfl := hwx.symm
    go_wp2_with fail
    exact QNO c _ HE.out (Below.refl _ _)
  | ok nr =>
    obtain ⟨n, r⟩ := nr
    simp only [hn] at N
    have hnl := sNum_le hn
    have hnl' : (n : Int) ≤ 4294967295 := by omega
    obtain ⟨hr1, hr2⟩ := sNumF_len bs 0 0 hn
    have HX : Hid (res = if most < n then .error 3 else sEnd (sParts n (n + 1) [] r)) := by show _ = _; rw [← HR.out]; unfold sBlock; rw [hn]
    obtain ⟨p0, hp0⟩ : ∃ p0, p0 = bs.length - r.length := ⟨_, rfl⟩
    rw [← hp0] at N hr2
    have hp0l : p0 ≤ bs.length := by omega
    clear HR hn hr1 hp0
    obtain ⟨L, hL⟩ : ∃ L, L = bs.length := ⟨_, rfl⟩
    have HL : Hid (L = bs.length) := hL
    rw [← hL] at N hp0l ⊢
    by_cases hmn : most < n
    · have HE : Hid (res = .error 3) := by show _ = _; rw [HX.out, if_pos hmn]
      have hmn' : (most : Int) < (n : Int) := by omega
      clear HX hL
      go_enter Try.func12, Try.ntmps12
      go_wp2_with fail
      refine N.mono ?_
      rintro e wx ⟨hwx, rfl⟩
      obtain rfl := hwx.symm
      go_wp2_with fail
      exact QNO 3 _ HE.out (Below.refl _ _)
    obtain ⟨all, HA⟩ : ∃ all, Hid (sParts n (n + 1) [] r = all) := ⟨_, rfl⟩
    have HY : Hid (res = sEnd all) := by show _ = _; rw [HX.out, if_neg hmn, HA.out]
    have hmn' : (n : Int) ≤ (most : Int) := by omega
    have HS : Hid (Src w a L cp (c8 bs)) := by rw [hL]; exact hs
    have H8 : Hid (∀ c ∈ bs, c < 256) := h8
    have HR2 : Hid (r = bs.drop p0) := hr2
    have hlL : L ≤ 1048576 := by omega
    clear HX hr2 hs h8 hL hl
    go_enter Try.func12, Try.ntmps12
    go_wp2_with fail
    refine N.mono ?_
    rintro e wx ⟨hwx, rfl⟩
    obtain rfl := hwx.symm
    clear N
    go_wp2_with fail
    go_loopw [7, 9] (fun pv ov wr => ∃ (f : Nat) (made : List Nat) (p : Nat), pv = .int .i64 (p : Int) ∧ p ≤ L ∧ wr.ownsRow w.heap.size 5 1 ov made.length (c8 made) ∧ Below w.heap.size w wr ∧ made.length ≤ n ∧ Hid ((∀ c ∈ made, c < 256) ∧ n < made.length + f ∧ sParts n f made (bs.drop p) = all)) (fun _ ov _ => n - lenOf ov)
    case atStart => exact ⟨n + 1, [], p0, rfl, hp0l, World.ownsRow_nil _ _ _ _, Below.refl _ _, Nat.zero_le _, (fun c hc => by cases hc), by simp, by rw [← HR2.out]; exact HA.out⟩
    case round =>
      obtain ⟨f, made, p, rfl, hp, hown, hbr, hle, HP⟩ := hrel
      obtain ⟨ad, cc, rfl⟩ := own_sl hown
      obtain ⟨f', hf'⟩ : ∃ f', f = f' + 1 := ⟨f - 1, by have := HP.out.2.1; omega⟩
      obtain ⟨hm8, hfu, hsp⟩ := HP.out
      rw [hf'] at hsp
      simp only [sParts] at hsp
      have HO : Hid (wr.ownsRow w.heap.size 5 1 (.slice ad made.length cc) made.length (c8 made)) := hown
      clear hown
      obtain ⟨M, hM⟩ : ∃ M, M = made.length := ⟨_, rfl⟩
      have HM : Hid (M = made.length) := hM
      by_cases hlt : made.length < n
      · rw [if_neg (by omega)] at hsp
        rw [← hM] at hle hlt ⊢
        have hlt' : (M : Int) < (n : Int) := by omega
        have PT := rpart_any wr a bs cp p (by rw [← HL.out]; exact HS.out.later hbr) H8.out (by rw [← HL.out]; omega) (by rw [← HL.out]; exact hp)
        rw [← HL.out] at PT
        obtain ⟨k, back, next, ok, hk⟩ : ∃ k back next ok, rPart p (bs.drop p) = (k, back, next, ok) := ⟨_, _, _, _, rfl⟩
        rw [hk] at PT
        obtain ⟨i0, hi0, hz0, hz1, hz2⟩ := info_parts infoU8
        cases ok with
        | false =>
          have HE : Hid (res = .error 6) := by
            show _ = _
            have e : sPart n made (bs.drop p) = .error 6 := by
              rcases Nat.lt_or_ge p bs.length with hpl | hpl
              · by_cases r0 : bs.getD p 0 % 4 = 0
                · rw [(step_bytes hpl rfl r0 hk).1]; simp
                · rw [(step_copy hpl rfl r0 hk).1]; simp
              · rw [List.drop_eq_nil_of_le hpl]; rfl
            rw [HY.out, ← hsp, e]
            rfl
          clear hsp hM hk
          go_wp2_with fail
          refine PT.mono ?_
          rintro e wx ⟨hwx, rfl⟩
          obtain rfl := hwx.symm
          go_wp2_with fail
          exact QNO 6 _ HE.out hbr
        | true =>
          have hpl : p < bs.length := by
            rcases Nat.lt_or_ge p bs.length with h | h
            · exact h
            · rw [List.drop_eq_nil_of_le h] at hk
              cases hk
          have hpL : p < L := by rw [HL.out]; exact hpl
          have hpL' : (p : Int) < (L : Int) := by omega
          obtain ⟨g, off, rfl, hcell0⟩ := src_at HS.out hpL
          have hcell := cell_later hbr hcell0
          obtain ⟨b, hb⟩ : ∃ b, b = bs.getD p 0 := ⟨_, rfl⟩
          rw [← hb] at hcell
          have hb8 : b < 256 := by rw [hb]; exact H8.out _ (getD_mem _ _ hpl)
          have hb8' : (b : Int) < 256 := by omega
          clear hcell0
          by_cases r0 : b % 4 = 0
          · have r0' : (b : Int) % 4 = 0 := by omega
            have r0b : ((b : Int) % 4 != 0) = false := by rw [r0']; rfl
            obtain ⟨hst, hfa⟩ := step_bytes (size := n) (made := made) hpl hb r0 hk
            obtain ⟨n1, n2, n3⟩ := hfa rfl
            rw [← HL.out] at n2 hst
            rw [hst] at hsp
            simp only [Bool.true_eq_false, if_false] at hsp
            rw [← hM] at hsp
            have hnx' : (next : Int) ≤ (L : Int) := by omega
            clear hst hfa hb hM
            by_cases c8f : n < M + k
            · rw [if_pos c8f] at hsp
              have HE : Hid (res = .error 8) := by show _ = _; rw [HY.out, ← hsp]; rfl
              have c8' : (n : Int) - (M : Int) < (k : Int) := by omega
              clear hsp hk
              go_wp2_with fail
              refine PT.mono ?_
              rintro e wx ⟨hwx, rfl⟩
              obtain rfl := hwx.symm
              go_wp2_with fail
              exact QNO 8 _ HE.out hbr
            rw [if_neg c8f] at hsp
            have c8' : (k : Int) ≤ (n : Int) - (M : Int) := by omega
            by_cases c6f : L < next + k
            · rw [if_pos c6f] at hsp
              have HE : Hid (res = .error 6) := by show _ = _; rw [HY.out, ← hsp]; rfl
              have c6' : (L : Int) - (next : Int) < (k : Int) := by omega
              clear hsp hk
              go_wp2_with fail
              refine PT.mono ?_
              rintro e wx ⟨hwx, rfl⟩
              obtain rfl := hwx.symm
              go_wp2_with fail
              exact QNO 6 _ HE.out hbr
            rw [if_neg c6f] at hsp
            have c6' : (k : Int) ≤ (L : Int) - (next : Int) := by omega
            have c6b : decide ((L : Int) - (next : Int) < (k : Int)) = false := by rw [decide_eq_false_iff_not]; omega
            have c8b : decide ((n : Int) - (M : Int) < (k : Int)) = false := by rw [decide_eq_false_iff_not]; omega
            have HSP : Hid (sParts n f' (made ++ (bs.drop next).take k) (bs.drop (next + k)) = all) := hsp
            have HPF : Hid ((∀ c ∈ made, c < 256) ∧ n < made.length + (f' + 1)) := ⟨hm8, by omega⟩
            clear hsp hk hf' hfu hm8 HP
            go_wp2_with fail
            refine PT.mono ?_
            rintro e wx ⟨hwx, rfl⟩
            obtain rfl := hwx.symm
            clear PT
            go_wp2_with fail
            clear r0' r0b
            go_loopw [9, 15] (fun ov iv wi => ∃ i : Nat, i ≤ k ∧ iv = .int .i64 (i : Int) ∧ wi.ownsRow w.heap.size 5 1 ov (M + i) (c8 (made ++ (bs.drop next).take i)) ∧ Below w.heap.size w wi) (fun _ iv _ => k - (intOf iv).toNat)
            case atStart => exact ⟨0, Nat.zero_le _, rfl, by rw [HM.out]; simpa using HO.out, hbr⟩
            case round =>
              obtain ⟨i, hik, rfl, hown, hbi⟩ := hrel
              by_cases hlti : i < k
              · have hlti' : (i : Int) < (k : Int) := by omega
                obtain ⟨q, hq⟩ : ∃ q, q = next + i := ⟨_, rfl⟩
                have hqi : (next : Int) + (i : Int) = (q : Int) := by omega
                have hqL : (q : Int) < (L : Int) := by omega
                obtain ⟨g', off', e', hcq0⟩ := src_at HS.out (j := q) (by omega)
                cases e'
                have hcq := cell_later hbi hcq0
                clear hcq0
                obtain ⟨cv, hcv⟩ : ∃ cv, cv = bs.getD q 0 := ⟨_, rfl⟩
                rw [← hcv] at hcq
                have HX1 : Hid (made ++ (bs.drop next).take (i + 1) = made ++ (bs.drop next).take i ++ [cv]) := by
                  show _ = _
                  rw [take_succ_getD _ _ (by rw [List.length_drop, ← HL.out]; omega), List.append_assoc, hcv, hq]
                  simp [List.getD, List.getElem?_drop]
                clear hcv hq
                obtain ⟨ad2, cc2, rfl⟩ := own_sl hown
                have HO2 : Hid (wr.ownsRow w.heap.size 5 1 (.slice ad2 (M + i) cc2) (M + i) (c8 (made ++ (bs.drop next).take i))) := hown
                have hsz := hbi.size
                have HM2 : Hid (M + i + 1 ≤ maxLen ∧ (M + i + 1) * 1 ≤ 140737488355328) := ⟨by unfold maxLen; omega, by omega⟩
                have HB2 : Hid (w.heap.size ≤ (wr.alloc (.cells #[.int .u8 (cv : Int)] 5)).heap.size) := by show _ ≤ _; simp; omega
                have HST : Hid (∀ v1 W1, W1.ownsRow w.heap.size 5 1 v1 (M + i + 1) (c8 (made ++ (bs.drop next).take i) ++ [.int .u8 (cv : Int)]) → (wr.alloc (.cells #[.int .u8 (cv : Int)] 5)).grownBy W1 (Value.slice ad2 (M + i) cc2).ownBlock →
                    W1.ownsRow w.heap.size 5 1 v1 (M + (i + 1)) (c8 (made ++ (bs.drop next).take (i + 1))) ∧ Below w.heap.size w W1) := by
                  intro v1 W1 k1 k2
                  refine ⟨?_, (hbi.alloc hsz _).grown k2 HB2.out fun x hx => (HO2.out.lt x hx).1⟩
                  rw [HX1.out, c8_append]
                  exact k1
                clear hown
                go_wp2_with (at_builtin; refine wpList_append_own _ rfl (.tmp 103) (.tmp 105) 22 rfl w.heap.size 5 i0 (.int .u8 0) 1 1 Try.underlying22 hi0 hz0 hz1 hz2 rfl (by decide) _ (M + i) _ rfl (HO2.out.alloc _) ⟨wr.heap.size, 0, none⟩ 1 1 [.int .u8 (cv : Int)] rfl rfl (new_news wr [.int .u8 (cv : Int)] 5 (0, 0)) (c8_one [cv]) HM2.out.1 HM2.out.2 HB2.out ?_; intro v1 W1 k1 k2 _; have HS1 : Hid _ := HST.out v1 W1 k1 k2; obtain ⟨ad1, cc1, rfl⟩ := own_sl k1; clear k1 k2)
                go_roundw
                case rel => exact ⟨i + 1, by omega, by go_num, HS1.out.1, HS1.out.2⟩
                case measure => simp [intOf]; omega
              · have hik' : i = k := by omega
                subst hik'
                have hge : ¬ (i : Int) < (i : Int) := by omega
                obtain ⟨ad2, cc2, rfl⟩ := own_sl hown
                have HO2 : Hid (wr.ownsRow w.heap.size 5 1 (.slice ad2 (M + i) cc2) (M + i) (c8 (made ++ (bs.drop next).take i))) := hown
                have HLEN : Hid ((made ++ (bs.drop next).take i).length = M + i) := by show _ = _; rw [List.length_append, List.length_take, List.length_drop, ← HL.out, ← HM.out]; omega
                obtain ⟨nx, hnx⟩ : ∃ nx, nx = next + i := ⟨_, rfl⟩
                have hnxi : (next : Int) + (i : Int) = (nx : Int) := by omega
                have HNX : Hid (nx = next + i) := hnx
                have hnxL : nx ≤ L := by omega
                clear hown hnx
                go_wp2_with fail
                go_roundw
                case rel => exact ⟨f', made ++ (bs.drop next).take i, nx, rfl, hnxL, by rw [HLEN.out]; exact HO2.out, hbi, by rw [HLEN.out]; omega, (fun c hc => by
                  rcases List.mem_append.1 hc with h | h
                  · exact HPF.out.1 c h
                  · exact H8.out c (List.mem_of_mem_drop (List.mem_of_mem_take h))), by rw [HLEN.out]; have := HPF.out.2; have := HM.out; omega, by rw [HNX.out]; exact HSP.out⟩
                case measure => simp [lenOf]; omega
          · have r0' : ¬ (b : Int) % 4 = 0 := by omega
            have r0b : ((b : Int) % 4 != 0) = true := by rw [bne_iff_ne]; exact r0'
            have r0c : ((b : Int) % 4 == 0) = false := by rw [beq_eq_false_iff_ne]; exact r0'
            obtain ⟨hst, hfa⟩ := step_copy (size := n) (made := made) hpl hb r0 hk
            obtain ⟨n1, n2, n3⟩ := hfa rfl
            rw [← HL.out] at n2
            rw [hst] at hsp
            simp only [Bool.true_eq_false, if_false] at hsp
            rw [← hM] at hsp
            have hnx' : (next : Int) ≤ (L : Int) := by omega
            clear hst hfa hb hM
            by_cases c8f : (back = 0 ∨ M < back) ∨ n < M + k
            · rw [if_pos c8f] at hsp
              have HE : Hid (res = .error 8) := by show _ = _; rw [HY.out, ← hsp]; rfl
              clear hsp hk
              by_cases b0 : back = 0
              · subst b0
                clear c8f
                go_wp2_with fail
                refine PT.mono ?_
                rintro e wx ⟨hwx, rfl⟩
                obtain rfl := hwx.symm
                go_wp2_with fail
                exact QNO 8 _ HE.out hbr
              have b0' : ¬ (back : Int) = 0 := by omega
              have b0'' : ((back : Int) == 0) = false := by rw [beq_eq_false_iff_ne]; exact b0'
              by_cases b1 : M < back
              · have b1' : (M : Int) < (back : Int) := by omega
                clear c8f
                go_wp2_with fail
                refine PT.mono ?_
                rintro e wx ⟨hwx, rfl⟩
                obtain rfl := hwx.symm
                go_wp2_with fail
                exact QNO 8 _ HE.out hbr
              have b1' : (back : Int) ≤ (M : Int) := by omega
              have b2' : (n : Int) - (M : Int) < (k : Int) := by omega
              clear c8f
              go_wp2_with fail
              refine PT.mono ?_
              rintro e wx ⟨hwx, rfl⟩
              obtain rfl := hwx.symm
              go_wp2_with fail
              exact QNO 8 _ HE.out hbr
            rw [if_neg c8f] at hsp
            have b0' : ¬ (back : Int) = 0 := by omega
            have b0'' : ((back : Int) == 0) = false := by rw [beq_eq_false_iff_ne]; exact b0'
            have b1 : ¬ M < back := by omega
            have b1' : (back : Int) ≤ (M : Int) := by omega
            have b2' : (k : Int) ≤ (n : Int) - (M : Int) := by omega
            have HBK : Hid (1 ≤ back ∧ back ≤ M ∧ M + k ≤ n) := ⟨by omega, by omega, by omega⟩
            have HSP : Hid (sParts n f' (cpy back k made) (bs.drop next) = all) := hsp
            have HPF : Hid ((∀ c ∈ made, c < 256) ∧ n < made.length + (f' + 1)) := ⟨hm8, by omega⟩
            clear hsp hk hf' hfu hm8 HP c8f
            go_wp2_with fail
            refine PT.mono ?_
            rintro e wx ⟨hwx, rfl⟩
            obtain rfl := hwx.symm
            clear PT
            go_wp2_with fail
            go_loopw [9, 15] (fun ov iv wi => ∃ i : Nat, i ≤ k ∧ iv = .int .i64 (i : Int) ∧ wi.ownsRow w.heap.size 5 1 ov (M + i) (c8 (cpy back i made)) ∧ Below w.heap.size w wi) (fun _ iv _ => k - (intOf iv).toNat)
            case atStart => exact ⟨0, Nat.zero_le _, rfl, by rw [HM.out]; simpa [cpy] using HO.out, hbr⟩
            case round =>
              obtain ⟨i, hik, rfl, hown, hbi⟩ := hrel
              have HLI : Hid ((cpy back i made).length = M + i) := by show _ = _; rw [cpy_len, ← HM.out]
              by_cases hlti : i < k
              · have hlti' : (i : Int) < (k : Int) := by omega
                obtain ⟨hk1, hk2, hk3⟩ := HBK.out
                obtain ⟨q, hq⟩ : ∃ q, q = M + i - back := ⟨_, rfl⟩
                have hqi : (M : Int) + (i : Int) - (back : Int) = (q : Int) := by omega
                have hqL : (q : Int) < (M : Int) + (i : Int) := by omega
                obtain ⟨g2, cc3, e2⟩ := own_some hown (by omega)
                have hcq := World.ownsRow.cells hown (g := g2) (by rw [e2]; rfl) q _ (c8_get (by rw [HLI.out]; omega))
                rw [add0] at hcq
                obtain ⟨cv, hcv⟩ : ∃ cv, cv = (cpy back i made).getD q 0 := ⟨_, rfl⟩
                rw [← hcv] at hcq
                have HX1 : Hid (cpy back (i + 1) made = cpy back i made ++ [cv]) := by
                  show _ = _
                  rw [cpy_succ, HLI.out, hcv, hq]
                clear hcv hq
                subst e2
                have HO2 : Hid (wr.ownsRow w.heap.size 5 1 (.slice (some ⟨g2, 0, none⟩) (M + i) cc3) (M + i) (c8 (cpy back i made))) := hown
                have hsz := hbi.size
                have HM2 : Hid (M + i + 1 ≤ maxLen ∧ (M + i + 1) * 1 ≤ 140737488355328) := ⟨by unfold maxLen; omega, by omega⟩
                have HB2 : Hid (w.heap.size ≤ (wr.alloc (.cells #[.int .u8 (cv : Int)] 5)).heap.size) := by show _ ≤ _; simp; omega
                have HST : Hid (∀ v1 W1, W1.ownsRow w.heap.size 5 1 v1 (M + i + 1) (c8 (cpy back i made) ++ [.int .u8 (cv : Int)]) → (wr.alloc (.cells #[.int .u8 (cv : Int)] 5)).grownBy W1 (Value.slice (some ⟨g2, 0, none⟩) (M + i) cc3).ownBlock →
                    W1.ownsRow w.heap.size 5 1 v1 (M + (i + 1)) (c8 (cpy back (i + 1) made)) ∧ Below w.heap.size w W1) := by
                  intro v1 W1 k1 k2
                  refine ⟨?_, (hbi.alloc hsz _).grown k2 HB2.out fun x hx => (HO2.out.lt x hx).1⟩
                  rw [HX1.out, c8_append]
                  exact k1
                clear hown
                go_wp2_with (at_builtin; refine wpList_append_own _ rfl (.tmp 103) (.tmp 105) 22 rfl w.heap.size 5 i0 (.int .u8 0) 1 1 Try.underlying22 hi0 hz0 hz1 hz2 rfl (by decide) _ (M + i) _ rfl (HO2.out.alloc _) ⟨wr.heap.size, 0, none⟩ 1 1 [.int .u8 (cv : Int)] rfl rfl (new_news wr [.int .u8 (cv : Int)] 5 (0, 0)) (c8_one [cv]) HM2.out.1 HM2.out.2 HB2.out ?_; intro v1 W1 k1 k2 _; have HS1 : Hid _ := HST.out v1 W1 k1 k2; obtain ⟨ad1, cc1, rfl⟩ := own_sl k1; clear k1 k2)
                go_roundw
                case rel => exact ⟨i + 1, by omega, by go_num, HS1.out.1, HS1.out.2⟩
                case measure => simp [intOf]; omega
              · have hik' : i = k := by omega
                subst hik'
                have hge : ¬ (i : Int) < (i : Int) := by omega
                obtain ⟨ad2, cc2, rfl⟩ := own_sl hown
                have HO2 : Hid (wr.ownsRow w.heap.size 5 1 (.slice ad2 (M + i) cc2) (M + i) (c8 (cpy back i made))) := hown
                clear hown
                go_wp2_with fail
                go_roundw
                case rel => exact ⟨f', cpy back i made, next, rfl, n2, by rw [HLI.out]; exact HO2.out, hbi, by rw [HLI.out]; exact HBK.out.2.2, cpy_b8 HPF.out.1 (by have := HBK.out; have := HM.out; omega), by rw [HLI.out]; have := HPF.out.2; have := HM.out; omega, HSP.out⟩
                case measure => simp [lenOf]; omega
      · rw [if_pos (by omega)] at hsp
        rw [← hM] at hle hlt ⊢
        have hlt' : (n : Int) ≤ (M : Int) := by omega
        clear hM
        by_cases hpl : p < L
        · have HE : Hid (res = .error 7) := by
            show _ = _
            rw [HY.out, ← hsp]
            obtain ⟨x, y, e⟩ : ∃ x y, bs.drop p = x :: y := ⟨_, _, drop_getD bs p (by rw [← HL.out]; exact hpl)⟩
            rw [e]
            rfl
          have hpl' : (p : Int) < (L : Int) := by omega
          clear hsp
          go_wp2_with fail
          exact QNO 7 _ HE.out hbr
        · have HE : Hid (res = .ok made) := by
            show _ = _
            rw [HY.out, ← hsp, List.drop_eq_nil_of_le (by rw [← HL.out]; omega)]
            rfl
          have hpl' : (L : Int) ≤ (p : Int) := by omega
          clear hsp
          have q := QOK made wr ad cc HE.out hbr HO.out
          rw [← HM.out] at q
          go_wp2_with fail
          exact q

set_option maxRecDepth 100000 in
set_option maxHeartbeats 1000000 in
theorem ropen_arg (w : World) (a : Option Addr) (L cp : Nat) (most : Int) (hm : most < 0 ∨ 1048576 < most) :
    Calls Try.prog 12 #[.slice a L cp, .int .i64 most] w fun e w' => Below w.heap.size w w' ∧ e = .returned (.tuple #[.slice none 0 0, .int .i64 2]) := by
  rcases hm with hm | hm
  · go_enter Try.func12, Try.ntmps12
    go_wp2_with fail
    go_ret2
    exact ⟨Below.refl _ _, rfl⟩
  · have hm0 : ¬ most < 0 := by omega
    go_enter Try.func12, Try.ntmps12
    go_wp2_with fail
    go_ret2
    exact ⟨Below.refl _ _, rfl⟩
theorem ropen_any (w : World) (a : Option Addr) (bs : List Nat) (cp : Nat) (most : Int) (hs : Src w a bs.length cp (c8 bs)) (h8 : ∀ c ∈ bs, c < 256) (hl : bs.length ≤ 1048576) :
    Calls Try.prog 12 #[.slice a bs.length cp, .int .i64 most] w fun e w' => Below w.heap.size w w' ∧ match sOpen bs most with
      | .ok m => ∃ ad cp, e = .returned (.tuple #[.slice ad m.length cp, .int .i64 0]) ∧ w'.ownsRow w.heap.size 5 1 (.slice ad m.length cp) m.length (c8 m)
      | .error c => e = .returned (.tuple #[.slice none 0 0, .int .i64 c]) := by
  unfold sOpen
  by_cases hm : most < 0 ∨ 1048576 < most
  · rw [if_pos hm]
    exact ropen_arg w a bs.length cp most hm
  · rw [if_neg hm]
    obtain ⟨n, rfl⟩ := Int.eq_ofNat_of_zero_le (show 0 ≤ most by omega)
    exact ropen_in w a bs cp n (by omega) hs h8 hl
end Go.Proofs.Ytkkignjenjdjiaa
