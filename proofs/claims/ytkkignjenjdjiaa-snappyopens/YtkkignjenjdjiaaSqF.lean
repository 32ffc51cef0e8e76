/-
  Squeeze.
-/
import Derived.Test.YtkkignjenjdjiaaSqM
import Derived.Test.YtkkignjenjdjiaaSqE
namespace Go.Proofs.Ytkkignjenjdjiaa
set_option linter.unusedVariables false
set_option linter.unusedSimpArgs false
open Go.ChangeShapes Go.WideShapes Go.ChangeAt Go.RowKit

theorem bytB_b8 {l : List Nat} (h : ∀ c ∈ l, c < 256) (hl : l.length ≤ 1048576) : ∀ c ∈ bytB l, c < 256 := by
  intro c hc
  unfold bytB at hc
  by_cases h0 : l.length = 0
  · rw [if_pos h0] at hc; cases hc
  rw [if_neg h0] at hc
  rcases List.mem_append.1 hc with hc | hc
  · by_cases c1 : l.length - 1 < 60
    · rw [if_pos c1] at hc; simp at hc; omega
    rw [if_neg c1] at hc
    by_cases c2 : l.length - 1 < 256
    · rw [if_pos c2] at hc; simp at hc; omega
    rw [if_neg c2] at hc
    by_cases c3 : l.length - 1 < 65536
    · rw [if_pos c3] at hc; simp at hc; omega
    · rw [if_neg c3] at hc; simp at hc; omega
  · exact h c hc
theorem copyB_b8 {s back : Nat} (hs : 4 ≤ s) (hs6 : s ≤ 64) (hb : back ≤ 1048576) : ∀ c ∈ copyB s back, c < 256 := by
  intro c hc
  unfold copyB at hc
  by_cases c1 : s < 12 ∧ back < 2048
  · rw [if_pos c1] at hc; simp at hc; omega
  rw [if_neg c1] at hc
  by_cases c2 : back < 65536
  · rw [if_pos c2] at hc; simp at hc; omega
  · rw [if_neg c2] at hc; simp at hc; omega
theorem copB_b8 {back : Nat} (hb : back ≤ 1048576) : ∀ (n s : Nat), s ≤ n → Fine s → ∀ c ∈ copB s back, c < 256
  | 0, s, hn, hf => by
    obtain rfl : s = 0 := by omega
    rw [copB_eq, if_pos rfl]; intro c hc; cases hc
  | n + 1, s, hn, hf => by
    by_cases hz : s = 0
    · subst hz; rw [copB_eq, if_pos rfl]; intro c hc; cases hc
    · have h4 : 4 ≤ s := by rcases hf with h | h <;> omega
      obtain ⟨f1, f2⟩ := Fine.next h4
      have hfl := fstN_le s
      rw [copB_eq, if_neg hz]
      intro c hc
      rcases List.mem_append.1 hc with h | h
      · exact copyB_b8 f2 hfl.2.1 hb c h
      · exact copB_b8 hb n (s - fstN s) (by omega) f1 c h
theorem Wr.two {w w' : World} {B kb m : Nat} {out : List Nat} (h : Wr w B out) (ht : Two kb m w w') (h1 : B ≠ kb) (h2 : B ≠ m) (hk : ∀ cur fr, w.heap[kb]? ≠ some (.cells cur 5 fr)) (hm : ∀ cur fr, w.heap[m]? ≠ some (.cells cur 5 fr)) : Wr w' B out := by
  obtain ⟨v, h3, h4⟩ := h
  refine ⟨v, by rw [ht.block B h1 h2]; exact h3, h4.1, ?_⟩
  rcases h4.2 with h5 | ⟨g, cap, cur, e1, e2, e3, e4⟩
  · exact .inl h5
  · refine .inr ⟨g, cap, cur, e1, e2, ?_, e4⟩
    rw [ht.block g (fun e => hk _ _ (by rw [← e]; exact e3)) (fun e => hm _ _ (by rw [← e]; exact e3))]
    exact e3
theorem Two.below {x y B : Nat} {w w' : World} (h : Two x y w w') (hx : B ≤ x) (hy : B ≤ y) : Below B w w' := ⟨h.os, h.tape, h.output, Nat.le_of_eq h.size.symm, fun k hk => h.block k (by omega) (by omega)⟩
theorem getD_alike {b : List Nat} {p q s : Nat} (h : (b.drop q).take s = (b.drop p).take s) {k : Nat} (hk : k < s) : b.getD (p + k) 0 = b.getD (q + k) 0 := by
  have h1 : ((b.drop q).take s).getD k 0 = ((b.drop p).take s).getD k 0 := by rw [h]
  simpa [List.getD, List.getElem?_take, hk, List.getElem?_drop] using h1.symm

theorem squeeze_long (w : World) (a : Option Addr) (L cp : Nat) (hL : 1048576 < L) :
    Calls Try.prog 18 #[.slice a L cp] w fun e w' => e = .returned (.tuple #[.slice none 0 0, .int .i64 3]) ∧ w' = w := by
  have hL' : (1048576 : Int) < (L : Int) := by omega
  go_enter Try.func18, Try.ntmps18
  go_wp2_with fail
  go_ret2
  exact ⟨rfl, rfl⟩

theorem layBytes_zero (w : World) (B cp : Nat) (a : Option Addr) :
    Calls Try.prog 29 #[.func (.func 25) #[] #[.pointer (some ⟨B, 0, none⟩)], .slice a 0 cp] w fun e w' => e = .returned (.tuple #[]) ∧ w' = w := by
  go_enter Try.func29, Try.ntmps29
  go_wp2_with fail
  first | go_end0 | refine bodyPost_ret (results_none rfl _ _ _) rfl ?_
  exact ⟨rfl, rfl⟩

/-- what Squeeze tells of the bytes b -/
structure Sqz (b c : List Nat) : Prop where
  lays : ∃ P, c = numB b.length ++ P ∧ Lays b 0 P b.length ∧ 61 * P.length ≤ 62 * b.length + 61
  b8 : ∀ x ∈ c, x < 256

set_option maxRecDepth 100000 in
set_option maxHeartbeats 2000000 in
theorem squeeze_any (w : World) (a : Option Addr) (b : List Nat) (cp : Nat) (hs : Src w a b.length cp (c8 b)) (h8 : ∀ c ∈ b, c < 256) (hLb : b.length ≤ 1048576) (hcp : b.length ≤ cp) :
    Calls Try.prog 18 #[.slice a b.length cp] w fun e w' => ∃ c ad cc, e = .returned (.tuple #[.slice ad c.length cc, .int .i64 0]) ∧ w'.ownsRow w.heap.size 5 1 (.slice ad c.length cc) c.length (c8 c) ∧ Sqz b c ∧ Below w.heap.size w w' := by
  refine calls_of fun Q HQ => ?_
  have HK : Hid (∀ c ad cc w', w'.ownsRow w.heap.size 5 1 (.slice ad c.length cc) c.length (c8 c) → Sqz b c → Below w.heap.size w w' → Q (.returned (.tuple #[.slice ad c.length cc, .int .i64 0])) w') := fun c ad cc w' h1 h2 h3 => HQ _ _ ⟨c, ad, cc, rfl, h1, h2, h3⟩
  clear HQ
  have hmf : ∀ (fn : Fn) (first cap : Array Value) (w : World), (Instr.makeFunc fn first cap).run Try.prog w = .ok (.func fn first cap) w := fun _ _ _ _ => rfl
  obtain ⟨L, hL⟩ : ∃ L, L = b.length := ⟨_, rfl⟩
  have HL : Hid (L = b.length) := hL
  have HS : Hid (Src w a L cp (c8 b)) := by rw [hL]; exact hs
  have H8 : Hid (∀ c ∈ b, c < 256) := h8
  rw [← hL] at hLb hcp ⊢
  have hLb' : (L : Int) ≤ 1048576 := by omega
  have hcp' : (L : Int) ≤ (cp : Int) := by omega
  have HOLD : Hid (∀ g off, a = some ⟨g, off, none⟩ → 0 < L → g < w.heap.size) := by
    intro g off e h0
    obtain ⟨g', off', e', hc⟩ := src_at HS.out (j := 0) h0
    rw [e'] at e
    cases e
    exact block_lt_of_cell hc
  clear hs h8 hL
  have W0 : Wr (w.alloc (.cells #[.slice none 0 0] 22)) w.heap.size [] := ⟨.slice none 0 0, heap_new _ _, World.ownsRow_nil _ _ _ _⟩
  have bl0 : Below w.heap.size w (w.alloc (.cells #[.slice none 0 0] 22)) := alloc_below _ _
  have NB := layNumber_any _ w.heap.size L [] hLb (by simp) W0
  rw [List.nil_append] at NB
  have HNL : Hid ((numB L).length ≤ 3) := numB_len 2 L (by omega)
  go_enter Try.func18, Try.ntmps18
  go_wp2_with fail
  refine NB.mono ?_
  rintro e w1 ⟨rfl, hw1, hf1⟩
  have bl1 : Below w.heap.size w w1 := bl0.trans (hf1.below (by simp))
  have hlt1 := hw1.lt
  clear NB W0 bl0 hf1
  go_wp2_with fail
  refine (copiesOf_any w1 a L cp).mono ?_
  rintro e w2 ⟨kb, pb, bb, m, rfl, hc2, hlo, hb2⟩
  have hlo2 : w.heap.size < kb ∧ w.heap.size < pb ∧ w.heap.size < bb ∧ w.heap.size < m := by omega
  have bl2 : Below w.heap.size w w2 := bl1.trans (hb2.mono bl1.size)
  have HI : Hid (∃ P K, Wr w2 w.heap.size (numB L ++ P) ∧ Cop w2 kb pb bb m K a L cp ∧ K ≤ 0 ∧ Lays b 0 P 0 ∧ 61 * P.length ≤ 62 * 0 ∧ ∀ c ∈ P, c < 256) :=
    ⟨[], 0, by rw [List.append_nil]; exact hw1.later hb2, hc2, Nat.le_refl _, Lays.nil (Nat.zero_le _), by simp, fun c hc => by cases hc⟩
  clear hw1 hc2 hlo hb2 bl1 hlt1
  go_wp2_with fail
  go_loopw [7, 8] (fun iv pv wr => ∃ i p : Nat, iv = .int .i64 (i : Int) ∧ pv = .int .i64 (p : Int) ∧ i ≤ p ∧ p ≤ L ∧ Below w.heap.size w wr ∧ Hid (∃ P K, Wr wr w.heap.size (numB L ++ P) ∧ Cop wr kb pb bb m K a L cp ∧ K ≤ p ∧ Lays b 0 P i ∧ 61 * P.length ≤ 62 * i ∧ ∀ c ∈ P, c < 256)) (fun _ pv _ => L - (intOf pv).toNat)
  case atStart => exact ⟨0, 0, rfl, rfl, Nat.le_refl _, Nat.zero_le _, bl2, HI⟩
  case round =>
    obtain ⟨i, p, rfl, rfl, hip, hpL, blr, HR⟩ := hrel
    obtain ⟨P, K, hwr, hcr, hKp, hlay, hlen, hP8⟩ := HR.out
    have hsr := HS.out.later blr
    have hpL' : (p : Int) ≤ (L : Int) := by omega
    have hip' : (i : Int) ≤ (p : Int) := by omega
    have hiL' : (i : Int) ≤ (L : Int) := by omega
    by_cases hlt : p + 4 ≤ L
    · have hlt' : (p : Int) + 4 ≤ (L : Int) := by omega
      obtain ⟨g, off, rfl, hcell0⟩ := src_at HS.out (j := 0) (by omega)
      have hgB := HOLD.out g off rfl (by omega)
      have CA := copyAt_any wr kb pb bb m K p L cp g off b hcr hsr H8.out HL.out.symm hLb hcp ⟨by omega, by omega⟩ hKp hlt
      have hk1 : ∀ cur fr, wr.heap[kb]? ≠ some (.cells cur 5 fr) := fun cur fr e => by rw [hcr.k] at e; cases e
      have hm1 : ∀ cur fr, wr.heap[m]? ≠ some (.cells cur 5 fr) := fun cur fr e => by obtain ⟨es, c, h1, _⟩ := hcr.m; rw [h1] at e; cases e
      clear HR hcell0
      go_wp2_with fail
      refine CA.mono ?_
      rintro e w3 ⟨s, back, rfl, hsb, hc3, ht3⟩
      have hw3 := hwr.two ht3 (by omega) (by omega) hk1 hm1
      have bl3 : Below w.heap.size w w3 := blr.trans (ht3.below (by omega) (by omega))
      have hsle : s ≤ L - p := by
        rcases hsb with ⟨h, _⟩ | ⟨q, hq, h, _⟩
        · omega
        · have := alikeN_le (b.drop q) (b.drop p)
          rw [List.length_drop, ← HL.out] at this
          omega
      have hbk : back ≤ p := by
        rcases hsb with ⟨_, h⟩ | ⟨q, hq, _, h⟩ <;> omega
      have PY := pays_any w3 s (back : Int) (by omega) (by omega) (by omega)
      clear CA hk1 hm1
      have hbi : (back : Int) < 65536 ↔ back < 65536 := by omega
      by_cases hpay : (back < 65536 ∧ 4 ≤ s) ∨ 5 < s
      · rw [decide_eq_true (by omega)] at PY
        have hs4 : 4 ≤ s := by omega
        obtain ⟨q, hq, hsq, hbq⟩ : ∃ q, q < p ∧ s = alikeN (b.drop q) (b.drop p) ∧ back = p - q := by
          rcases hsb with ⟨h, _⟩ | h
          · omega
          · exact h
        have hali : (b.drop q).take s = (b.drop p).take s := by rw [hsq]; exact alikeN_take _ _
        have hs3 : Src w3 (some ⟨g, off, none⟩) L cp (c8 b) := HS.out.later bl3
        have hX : Src w3 (some ⟨g, off + i, none⟩) (p - i) (cp - i) (c8 ((b.drop i).take (p - i))) := src_take (src_drop hs3 (by omega)) (by omega)
        have hLL := HL.out
        have hXl : ((b.drop i).take (p - i)).length = p - i := by rw [List.length_take, List.length_drop]; omega
        have hout : (numB L ++ P).length ≤ 2097152 := by rw [List.length_append]; have := HNL.out; omega
        have LB := layBytes_any w3 w.heap.size (p - i) (cp - i) (some ⟨g, off + i, none⟩) (numB L ++ P) ((b.drop i).take (p - i)) hX (fun g' off' e => by cases e; exact hgB) (by omega) hout hw3
        have hbl := bytB_len ((b.drop i).take (p - i))
        have hY : Lays b i (bytB ((b.drop i).take (p - i))) p := by
          have := lays_bytes b i (p - i) (by omega) (by omega)
          rwa [show i + (p - i) = p by omega] at this
        have hZ : Lays b p (copB s back) (p + s) := lays_copies (by omega) (by omega) s s p (Nat.le_refl _) (.inr hs4) (by omega) (by omega) fun k hk => by
          rw [getD_alike hali hk]
          congr 1
          omega
        have hZl := copB_pays hpay
        have hY8 : ∀ c ∈ bytB ((b.drop i).take (p - i)), c < 256 := bytB_b8 (fun c hc => H8.out c (List.mem_of_mem_drop (List.mem_of_mem_take hc))) (by omega)
        have hZ8 := copB_b8 (back := back) (by omega) s s (Nat.le_refl _) (.inr hs4)
        rw [hXl] at hbl
        generalize bytB ((b.drop i).take (p - i)) = X at *
        have LC := fun w4 h4 => layCopies_any w4 w.heap.size s back (numB L ++ P ++ X) hs4 (by omega) (by omega) (by rw [List.length_append]; omega) h4
        generalize copB s back = Z at *
        have hcop : ∀ w5, Wr w5 w.heap.size (numB L ++ P ++ X ++ Z) → Cop w5 kb pb bb m p (some ⟨g, off, none⟩) L cp → ∃ P K, Wr w5 w.heap.size (numB L ++ P) ∧ Cop w5 kb pb bb m K (some ⟨g, off, none⟩) L cp ∧ K ≤ p + s ∧ Lays b 0 P (p + s) ∧ 61 * P.length ≤ 62 * (p + s) ∧ ∀ c ∈ P, c < 256 := by
          intro w5 h1 h2
          refine ⟨P ++ X ++ Z, p, by rw [← List.append_assoc, ← List.append_assoc]; exact h1, h2, by omega, (hlay.trans hY).trans hZ, by rw [List.length_append, List.length_append]; omega, fun c hc => ?_⟩
          rcases List.mem_append.1 hc with hc | hc
          · rcases List.mem_append.1 hc with hc | hc
            · exact hP8 c hc
            · exact hY8 c hc
          · exact hZ8 c hc
        have HCO : Hid _ := hcop
        have HC3 : Hid (Cop w3 kb pb bb m p (some ⟨g, off, none⟩) L cp) := hc3
        obtain ⟨p', hp'⟩ : ∃ p', p' = p + s := ⟨_, rfl⟩
        have hp'i : (p : Int) + (s : Int) = (p' : Int) := by omega
        have HP' : Hid (p' = p + s) := hp'
        have hci : ¬ cp = i := by omega
        have hic : (i : Int) ≤ (cp : Int) := by omega
        have hpc : (p : Int) ≤ (cp : Int) := by omega
        have hsi : (s : Int) ≤ 1048576 := by omega
        have hp'L : p' ≤ L := by omega
        have hpp' : p < p' := by omega
        clear hsb hpay hbi hwr hcr hc3 hw3 ht3 hlay hP8 hsq hbq hali hs3 hX hXl hbl hY hZ hY8 hZ8 hcop hp' hsr hLL
        go_wp2_with fail
        refine PY.mono ?_
        rintro e wx ⟨rfl, hwx⟩
        obtain rfl := hwx.symm
        go_wp2_with fail
        refine LB.mono ?_
        rintro e w4 ⟨rfl, hw4, hf4⟩
        go_wp2_with fail
        refine (LC w4 hw4).mono ?_
        rintro e w5 ⟨rfl, hw5, hf5⟩
        have hf35 := hf4.trans hf5
        have bl5 : Below w.heap.size w w5 := bl3.trans (hf35.below bl3.size)
        have HN : Hid (∃ P K, Wr w5 w.heap.size (numB L ++ P) ∧ Cop w5 kb pb bb m K (some ⟨g, off, none⟩) L cp ∧ K ≤ p' ∧ Lays b 0 P p' ∧ 61 * P.length ≤ 62 * p' ∧ ∀ c ∈ P, c < 256) := by rw [HP'.out]; exact HCO.out w5 hw5 (HC3.out.wf hf35 hlo2)
        go_wp2_with fail
        go_roundw
        case rel => exact ⟨p', p', rfl, rfl, Nat.le_refl _, hp'L, bl5, HN⟩
        case measure => simp [intOf]; omega
      · rw [decide_eq_false (by omega)] at PY
        have HN : Hid (∃ P K, Wr w3 w.heap.size (numB L ++ P) ∧ Cop w3 kb pb bb m K (some ⟨g, off, none⟩) L cp ∧ K ≤ p + 1 ∧ Lays b 0 P i ∧ 61 * P.length ≤ 62 * i ∧ ∀ c ∈ P, c < 256) := ⟨P, p, hw3, hc3, by omega, hlay, hlen, hP8⟩
        clear hsb hpay hbi hwr hcr hc3 hw3 ht3 hlay hP8
        go_wp2_with fail
        refine PY.mono ?_
        rintro e wx ⟨rfl, hwx⟩
        obtain rfl := hwx.symm
        go_wp2_with fail
        go_roundw
        case rel => exact ⟨i, p + 1, rfl, by go_num, by omega, by omega, bl3, HN⟩
        case measure => simp [intOf]; omega
    · have hlt' : (L : Int) < (p : Int) + 4 := by omega
      have hLL := HL.out
      have hXl : (b.drop i).length = L - i := by rw [List.length_drop]; omega
      have hout : (numB L ++ P).length ≤ 2097152 := by rw [List.length_append]; have := HNL.out; omega
      have hbl := bytB_len (b.drop i)
      have hY : Lays b i (bytB (b.drop i)) b.length := by
        have := lays_bytes b i (L - i) (by omega) (by omega)
        rwa [show i + (L - i) = b.length by omega, List.take_of_length_le (by omega)] at this
      have hY8 : ∀ c ∈ bytB (b.drop i), c < 256 := bytB_b8 (fun c hc => H8.out c (List.mem_of_mem_drop hc)) (by omega)
      have LB : ∀ a' cp', Src wr a' (L - i) cp' (c8 (b.drop i)) → (∀ g off, a' = some ⟨g, off, none⟩ → g < w.heap.size) → Calls Try.prog 29 #[.func (.func 25) #[] #[.pointer (some ⟨w.heap.size, 0, none⟩)], .slice a' (L - i) cp'] wr fun e w' => e = .returned (.tuple #[]) ∧ Wr w' w.heap.size (numB L ++ P ++ bytB (b.drop i)) ∧ WF w.heap.size wr w' :=
        fun a' cp' h1 h2 => layBytes_any wr w.heap.size (L - i) cp' a' (numB L ++ P) (b.drop i) h1 h2 (by omega) hout hwr
      have FIN : Hid (∀ w', Wr w' w.heap.size (numB L ++ P ++ bytB (b.drop i)) → WF w.heap.size wr w' → ∃ ad n cc, w'.cell? ⟨w.heap.size, 0, none⟩ = some (.slice ad n cc) ∧ Q (.returned (.tuple #[.slice ad n cc, .int .i64 0])) w') := by
        intro w' h1 h2
        obtain ⟨v, e1, e2⟩ := h1
        obtain ⟨ad, cc, rfl⟩ := own_sl e2
        refine ⟨ad, _, cc, cell_of_block e1 rfl, HK.out (numB L ++ P ++ bytB (b.drop i)) ad cc w' ⟨e2.1, ?_⟩ ⟨⟨P ++ bytB (b.drop i), by rw [hLL, List.append_assoc], hlay.trans hY, ?_⟩, ?_⟩ (blr.trans (h2.below blr.size))⟩
        · rcases e2.2 with h | ⟨g, cap, cur, k1, k2, k3⟩
          · exact .inl h
          · exact .inr ⟨g, cap, cur, k1, by omega, k3⟩
        · rw [List.length_append]; omega
        · intro c hc
          rcases List.mem_append.1 hc with hc | hc
          · rcases List.mem_append.1 hc with hc | hc
            · exact numB_b8 2 L (by omega) c hc
            · exact hP8 c hc
          · exact hY8 c hc
      by_cases hiL : i = L
      · have hX0 : b.drop i = [] := List.drop_eq_nil_of_le (by omega)
        have FIN0 : Hid (∃ ad n cc, wr.cell? ⟨w.heap.size, 0, none⟩ = some (.slice ad n cc) ∧ Q (.returned (.tuple #[.slice ad n cc, .int .i64 0])) wr) := FIN.out wr (by rw [hX0]; simpa [bytB] using hwr) (WF.refl _ _)
        obtain ⟨ad, n, cc, cb, hq⟩ := FIN0.out
        subst hiL
        clear LB hbl hY hY8 hXl hLL hlay hP8 hwr hcr hsr HR FIN FIN0 hX0 hip
        by_cases hL0 : i = 0
        · subst hL0
          have hp0 : p = 0 := by omega
          subst hp0
          go_wp2_with fail
          refine (layBytes_zero _ _ _ _).mono ?_
          rintro e w4 ⟨rfl, hwx⟩
          obtain rfl := hwx.symm
          go_wp2_with fail
          exact hq
        · obtain ⟨g, off, rfl, _⟩ := src_at HS.out (j := 0) (by omega)
          by_cases hci : cp = i
          · subst hci
            go_wp2_with fail
            refine (layBytes_zero _ _ _ _).mono ?_
            rintro e w4 ⟨rfl, hwx⟩
            obtain rfl := hwx.symm
            go_wp2_with fail
            exact hq
          · go_wp2_with fail
            refine (layBytes_zero _ _ _ _).mono ?_
            rintro e w4 ⟨rfl, hwx⟩
            obtain rfl := hwx.symm
            go_wp2_with fail
            exact hq
      · obtain ⟨g, off, rfl, _⟩ := src_at HS.out (j := 0) (by omega)
        have hgB := HOLD.out g off rfl (by omega)
        have hci : ¬ cp = i := by omega
        have LBB := LB (some ⟨g, off + i, none⟩) (cp - i) (src_drop hsr (by omega)) (fun g' off' e => by cases e; exact hgB)
        have hic : (i : Int) ≤ (cp : Int) := by omega
        generalize bytB (b.drop i) = X at *
        clear LB hbl hY hY8 hXl hLL hlay hP8 hwr hcr hsr HR
        go_wp2_with fail
        refine LBB.mono ?_
        rintro e w4 ⟨rfl, hw4, hf4⟩
        obtain ⟨ad, n, cc, cb, hq⟩ := FIN.out w4 hw4 hf4
        go_wp2_with fail
        exact hq
end Go.Proofs.Ytkkignjenjdjiaa
