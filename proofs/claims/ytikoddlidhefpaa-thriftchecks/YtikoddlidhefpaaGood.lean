/-
  Parsers: what is taken is taken whatever stands behind; a shorter beginning is too short; what no writer lays stays so.
-/
import Derived.Test.YtikoddlidhefpaaParse
namespace Go.Proofs.Ytikoddlidhefpaa
set_option linter.unusedVariables false
open Go.ChangeShapes Go.WideShapes Go.ChangeAt Go.RowKit Go.Deep

abbrev Ps (α : Type) := List Nat → Except Bool (α × List Nat)
def Good {α : Type} (f : Ps α) : Prop :=
  ∀ bs, (∀ a r, f bs = .ok (a, r) → ∃ u, bs = u ++ r ∧ (∀ x, f (u ++ x) = .ok (a, x)) ∧ ∀ v t, u = v ++ t → t ≠ [] → f v = .error true) ∧ (f bs = .error false → ∀ x, f (bs ++ x) = .error false)
def bnd {α β : Type} (f : Ps α) (g : α → Ps β) : Ps β := fun bs => match f bs with
  | .error s => .error s
  | .ok (a, r) => g a r
theorem bnd_err {α β : Type} {f : Ps α} {g : α → Ps β} {bs : List Nat} {s : Bool} (h : f bs = .error s) : bnd f g bs = .error s := by
  simp only [bnd, h]
theorem bnd_ok {α β : Type} {f : Ps α} {g : α → Ps β} {bs r : List Nat} {a : α} (h : f bs = .ok (a, r)) : bnd f g bs = g a r := by
  simp only [bnd, h]
theorem good_bnd {α β : Type} {f : Ps α} {g : α → Ps β} (hf : Good f) (hg : ∀ a, Good (g a)) : Good (bnd f g) := by
  intro bs
  cases e : f bs with
  | error s =>
    rw [bnd_err e]
    refine ⟨fun b r2 h => (by cases h), fun h x => ?_⟩
    cases h
    exact bnd_err ((hf bs).2 e x)
  | ok ar =>
    obtain ⟨a, r⟩ := ar
    rw [bnd_ok e]
    obtain ⟨u, hu, h1, h2⟩ := (hf bs).1 a r e
    refine ⟨fun b r2 h => ?_, fun h x => ?_⟩
    · obtain ⟨u2, hu2, k1, k2⟩ := (hg a r).1 b r2 h
      refine ⟨u ++ u2, by rw [hu, hu2, List.append_assoc], fun x => ?_, fun v t hv ht => ?_⟩
      · rw [List.append_assoc, bnd_ok (h1 (u2 ++ x))]
        exact k1 x
      · rcases List.append_eq_append_iff.1 hv with ⟨xs, e1, e2⟩ | ⟨cs, e1, e2⟩
        · rw [e1, bnd_ok (h1 xs)]
          exact k2 xs t e2 ht
        · by_cases hb : cs = []
          · subst hb
            simp only [List.append_nil] at e1
            simp only [List.nil_append] at e2
            subst e1
            have h0 := h1 []
            rw [List.append_nil] at h0
            rw [bnd_ok h0]
            exact k2 [] u2 rfl (by rw [← e2]; exact ht)
          · exact bnd_err (h2 v cs e1 hb)
    · rw [hu, List.append_assoc, bnd_ok (h1 (r ++ x))]
      exact (hg a r).2 h x
theorem good_ok {α : Type} (a : α) : Good (fun bs => .ok (a, bs)) := by
  intro bs
  refine ⟨fun b r h => ?_, fun h => by cases h⟩
  cases h
  refine ⟨[], rfl, fun x => rfl, fun v t h ht => ?_⟩
  exact absurd (List.append_eq_nil_iff.1 h.symm).2 ht
theorem good_err {α : Type} (s : Bool) : Good (α := α) (fun _ => .error s) := fun bs => ⟨fun b r h => (by cases h), fun h _ => h⟩
theorem good_take : Good rTake := by
  intro bs
  cases bs with
  | nil => exact ⟨fun b r h => (by cases h), fun h => by cases h⟩
  | cons c l =>
    refine ⟨fun b r h => ?_, fun h => by cases h⟩
    cases h
    refine ⟨[c], rfl, fun x => rfl, fun v t h ht => ?_⟩
    cases v with
    | nil => rfl
    | cons d v =>
      have hl := congrArg List.length h
      simp only [List.length_cons, List.length_append, List.length_nil] at hl
      exact absurd (List.length_eq_zero_iff.1 (by omega : t.length = 0)) ht
/-- the first byte is looked at ahead of it -/
def peeks {α : Type} (q : Nat → Bool) (f : Ps α) : Ps α := fun bs => match bs with
  | [] => .error true
  | c :: l => if q c = true then .error false else f (c :: l)
theorem good_peek {α : Type} {q : Nat → Bool} {f : Ps α} (hf : Good f) (h0 : f [] = .error true) : Good (peeks q f) := by
  intro bs
  cases bs with
  | nil => exact ⟨fun b r h => (by cases h), fun h => by cases h⟩
  | cons c l =>
    cases hq : q c
    · have e : ∀ l, peeks q f (c :: l) = f (c :: l) := fun l => by simp [peeks, hq]
      rw [e]
      refine ⟨fun b r h => ?_, fun h x => ?_⟩
      · obtain ⟨u, hu, h1, h2⟩ := (hf (c :: l)).1 b r h
        cases u with
        | nil =>
          have := h1 []
          simp only [List.append_nil] at this
          rw [h0] at this
          cases this
        | cons d u =>
          simp only [List.cons_append, List.cons.injEq] at hu
          obtain ⟨rfl, hu⟩ := hu
          refine ⟨c :: u, by rw [hu]; rfl, fun x => by rw [List.cons_append, e]; exact h1 x, fun v t hv ht => ?_⟩
          cases v with
          | nil => rfl
          | cons d v =>
            have hv' := hv
            simp only [List.cons_append, List.cons.injEq] at hv
            obtain ⟨rfl, hv⟩ := hv
            rw [e]
            exact h2 _ t hv' ht
      · rw [List.cons_append, e]
        exact (hf (c :: l)).2 h x
    · have e : ∀ l, peeks q f (c :: l) = .error false := fun l => by simp [peeks, hq]
      rw [e]
      exact ⟨fun b r h => (by cases h), fun _ x => by rw [List.cons_append, e]⟩
theorem good_ite {α : Type} {c : Prop} [Decidable c] {f g : Ps α} (hf : Good f) (hg : Good g) : Good (fun bs => if c then f bs else g bs) := by
  by_cases h : c
  · simpa only [if_pos h] using hf
  · simpa only [if_neg h] using hg
theorem good_text (n : Nat) : Good (rText n) := by
  intro bs
  unfold rText
  by_cases h : bs.length < n
  · rw [if_pos h]
    exact ⟨fun b r h => (by cases h), fun h => by cases h⟩
  · rw [if_neg h]
    refine ⟨fun b r e => ?_, fun h => by cases h⟩
    cases e
    have hl : (bs.take n).length = n := by rw [List.length_take]; omega
    refine ⟨bs.take n, (List.take_append_drop n bs).symm, fun x => ?_, fun v t hv ht => ?_⟩
    · rw [if_neg (by rw [List.length_append]; omega), List.take_left' hl, List.drop_left' hl]
    · have := congrArg List.length hv
      rw [List.length_append, hl] at this
      have ht' : t.length ≠ 0 := fun h => ht (List.length_eq_zero_iff.1 h)
      rw [if_pos (by omega)]
theorem good_of_eq {α : Type} {f g : Ps α} (h : ∀ bs, f bs = g bs) (hg : Good g) : Good f := by
  have : f = g := funext h
  rw [this]
  exact hg

theorem good_numF {least most : Nat} : ∀ f n s, Good (rNumF least most f n s)
  | 0, n, s => by
    intro bs
    cases bs with
    | nil => exact ⟨fun b r h => by simp [rNumF] at h, fun h => by simp [rNumF] at h⟩
    | cons c l => exact ⟨fun b r h => by simp [rNumF] at h, fun _ x => by simp [rNumF]⟩
  | f + 1, n, s => by
    refine good_of_eq (g := bnd rTake fun c bs => if (most - n) / 2 ^ s < c % 128 then .error false
      else if 128 ≤ c then
        if (most - (n + c % 128 * 2 ^ s)) / 2 ^ (s + 7) = 0 ∨ n + c % 128 * 2 ^ s + (most - (n + c % 128 * 2 ^ s)) / 2 ^ (s + 7) * 2 ^ (s + 7) < least then .error false
        else rNumF least most f (n + c % 128 * 2 ^ s) (s + 7) bs
      else if n + c % 128 * 2 ^ s < least ∨ (c % 128 = 0 ∧ 0 < s) then .error false else .ok (n + c % 128 * 2 ^ s, bs)) (fun bs => ?_) (good_bnd good_take fun c => ?_)
    · cases bs <;> rfl
    · exact good_ite (good_err _) (good_ite (good_ite (good_err _) (good_numF f _ _)) (good_ite (good_err _) (good_ok _)))
theorem good_num (least most : Nat) : Good (rNum least most) := good_numF 10 0 0
theorem good_truth : Good rTruth := by
  refine good_of_eq (g := bnd rTake fun c bs => if c = 1 then .ok ((scal 1 1, .nil), bs) else if c = 2 then .ok ((scal 1 0, .nil), bs) else .error false) (fun bs => ?_) (good_bnd good_take fun c => good_ite (good_ok _) (good_ite (good_ok _) (good_err _)))
  cases bs <;> rfl
theorem good_small : Good rSmall := by
  refine good_of_eq (g := bnd rTake fun c bs => .ok ((scal 3 (if c < 128 then (c : Int) else (c : Int) - 256), .nil), bs)) (fun bs => ?_) (good_bnd good_take fun c => good_ok _)
  cases bs <;> rfl
theorem good_signed (k : Int) (most : Nat) : Good (rSigned k most) := by
  refine good_of_eq (g := bnd (rNum 0 most) fun n bs => .ok ((scal k (unzig n), .nil), bs)) (fun bs => ?_) (good_bnd (good_num _ _) fun c => good_ok _)
  unfold rSigned bnd
  rcases rNum 0 most bs with s | ⟨n, r⟩ <;> rfl
theorem good_dblF : ∀ k n, Good (rDblF k n)
  | 0, n => good_of_eq (g := fun bs => .ok (n, bs)) (fun bs => rDblF_zero n bs) (good_ok _)
  | k + 1, n => by
    refine good_of_eq (g := bnd rTake fun c bs => rDblF k (n / 256 + c * 72057594037927936) bs) (fun bs => ?_) (good_bnd good_take fun c => good_dblF k _)
    cases bs <;> rfl
theorem good_double : Good rDouble := by
  refine good_of_eq (g := bnd (rDblF 8 0) fun n bs => .ok ((scal 7 (wrap64 (n : Int)), .nil), bs)) (fun bs => ?_) (good_bnd (good_dblF _ _) fun c => good_ok _)
  unfold rDouble bnd
  rcases rDblF 8 0 bs with s | ⟨n, r⟩ <;> rfl
theorem good_textV : Good rTextV := by
  refine good_of_eq (g := bnd (rNum 0 1048576) fun n => bnd (rText n) fun x bs => .ok ((⟨8, 0, 0, 0, x, []⟩, .nil), bs)) (fun bs => ?_) (good_bnd (good_num _ _) fun n => good_bnd (good_text n) fun x => good_ok _)
  unfold rTextV bnd
  rcases rNum 0 1048576 bs with s | ⟨n, r⟩
  · rfl
  · dsimp only
    rcases rText n r with s | ⟨x, q⟩ <;> rfl
theorem good_leaf (k : Int) : Good (rLeaf k) :=
  good_ite good_truth (good_ite good_small (good_ite (good_signed _ _) (good_ite (good_signed _ _) (good_ite (good_signed _ _) (good_ite good_double good_textV)))))
theorem good_each : ∀ (qs : List (List Nat → RV)), (∀ q ∈ qs, Good q) → ∀ f, Good (rEach qs f)
  | [], _, f => good_ok f
  | q :: qs, h, f => by
    refine good_of_eq (g := bnd q fun pc => rEach qs (fsnoc f pc.1 pc.2)) (fun bs => ?_) (good_bnd (h q (List.mem_cons_self ..)) fun pc => good_each qs (fun x hx => h x (List.mem_cons_of_mem _ hx)) _)
    simp only [rEach, bnd]
    rcases q bs with s | ⟨⟨p, c⟩, r⟩ <;> rfl
theorem good_rounds (qs : List (List Nat → RV)) (h : ∀ q ∈ qs, Good q) : ∀ n f, Good (rRounds qs n f)
  | 0, f => good_ok f
  | n + 1, f => by
    refine good_of_eq (g := bnd (rEach qs f) fun g => rRounds qs n g) (fun bs => ?_) (good_bnd (good_each qs h f) fun g => good_rounds qs h n g)
    simp only [rRounds, bnd]
    rcases rEach qs f bs with s | ⟨g, r⟩ <;> rfl
theorem good_listOf {q : List Nat → RV} (h : Good q) (k n : Nat) : Good (rListOf q k n) := by
  refine good_of_eq (g := bnd (rRounds [q] n .nil) fun f bs => .ok ((⟨9, 0, k, 0, noText, []⟩, f), bs)) (fun bs => ?_) (good_bnd (good_rounds [q] (fun x hx => by rw [List.mem_singleton.1 hx]; exact h) n .nil) fun f => good_ok _)
  unfold rListOf bnd
  rcases rRounds [q] n .nil bs with s | ⟨f, r⟩ <;> rfl
theorem rHalves_eq (bs : List Nat) : rHalves bs = bnd rTake (fun b bs => .ok ((b / 16, b % 16), bs)) bs := by cases bs <;> rfl
theorem good_halves : Good rHalves := good_of_eq rHalves_eq (good_bnd good_take fun b => good_ok _)
theorem good_list {room : Int} {P : Int → List Nat → RV} (hP : ∀ k, Good (P k)) : Good (rList room P) := by
  refine good_of_eq (g := bnd rHalves fun nk bs => if nk.1 = 0 ∧ knownB nk.2 = true then .ok ((⟨9, 0, nk.2, 0, noText, []⟩, .nil), bs)
    else if wayOk nk.2 room = false then .error false
    else if nk.1 = 15 then bnd (rNum 15 65536) (fun m => rListOf (P nk.2) nk.2 m) bs
    else rListOf (P nk.2) nk.2 nk.1 bs) (fun bs => ?_) (good_bnd good_halves fun nk => good_ite (good_ok _) (good_ite (good_err _) (good_ite (good_bnd (good_num _ _) fun m => good_listOf (hP _) _ _) (good_listOf (hP _) _ _))))
  unfold rList bnd
  rcases rHalves bs with s | ⟨⟨n, k⟩, r⟩
  · rfl
  · dsimp only
    rcases rNum 15 65536 r with s | ⟨m, q⟩ <;> rfl
theorem good_dict {room : Int} {P : Int → List Nat → RV} (hP : ∀ k, Good (P k)) : Good (rDict room P) := by
  refine good_of_eq (g := bnd (rNum 0 65536) fun n bs => if n = 0 then .ok ((⟨11, 0, 0, 0, noText, []⟩, .nil), bs) else bnd rHalves (fun yk bs => if wayOk yk.1 room = false ∨ wayOk yk.2 room = false then .error false else bnd (rRounds [P yk.1, P yk.2] n .nil) (fun f bs => .ok ((⟨11, yk.1, yk.2, 0, noText, []⟩, f), bs)) bs) bs) (fun bs => ?_)
    (good_bnd (good_num _ _) fun n => good_ite (good_ok _) (good_bnd good_halves fun yk => good_ite (good_err _) (good_bnd (good_rounds _ (fun x hx => by
      simp only [List.mem_cons, List.not_mem_nil, or_false] at hx
      rcases hx with rfl | rfl <;> exact hP _) n .nil) fun f => good_ok _)))
  unfold rDict bnd
  rcases rNum 0 65536 bs with s | ⟨n, r⟩
  · rfl
  · dsimp only
    by_cases h0 : n = 0
    · simp only [if_pos h0]
    · simp only [if_neg h0]
      rcases rHalves r with s | ⟨⟨y, k⟩, q⟩
      · rfl
      · dsimp only
        by_cases hw : wayOk y room = false ∨ wayOk k room = false
        · simp only [if_pos hw]
        · simp only [if_neg hw]
          rcases rRounds [P y, P k] n .nil q with s | ⟨f, t⟩ <;> rfl
theorem good_far (least : Nat) : Good (rFar least) := by
  refine good_of_eq (g := fun bs => if 32767 < least then .error false else peeks (fun c => decide (c % 2 = 1)) (bnd (rNum (2 * least) 65534) fun n bs => .ok (n / 2, bs)) bs) (fun bs => ?_) (good_ite (good_err _) (good_peek (good_bnd (good_num _ _) fun n => good_ok _) rfl))
  unfold rFar
  by_cases h : 32767 < least
  · simp only [if_pos h]
  · simp only [if_neg h]
    cases bs with
    | nil => rfl
    | cons c l =>
      simp only [peeks, bnd, decide_eq_true_eq]
      by_cases hc : c % 2 = 1
      · simp only [if_pos hc]
      · simp only [if_neg hc]
        rcases rNum (2 * least) 65534 (c :: l) with s | ⟨n, r⟩ <;> rfl
theorem good_id (ahead step : Nat) : Good (rID ahead step) :=
  good_ite (good_far _) (good_ite (good_err _) (good_ok _))
theorem rStructF_succ (room : Int) (P : Int → List Nat → RV) (n : Nat) (ids : List Int) (f : Fo) (id : Nat) (bs : List Nat) : rStructF room P (n + 1) ids f id bs = bnd rHalves (fun sk bs =>
    if sk.1 = 0 ∧ sk.2 = 0 then .ok ((⟨12, 0, 0, 0, noText, ids⟩, f), bs)
    else if ¬ (sk.2 = 1 ∨ sk.2 = 2) ∧ wayOk sk.2 room = false then .error false
    else bnd (rID id sk.1) (fun i bs => if sk.2 = 1 ∨ sk.2 = 2 then rStructF room P n (ids ++ [(i : Int)]) (fsnoc f (scal 1 (if sk.2 = 1 then 1 else 0)) .nil) i bs
      else bnd (P sk.2) (fun pc bs => rStructF room P n (ids ++ [(i : Int)]) (fsnoc f pc.1 pc.2) i bs) bs) bs) bs := by
  simp only [rStructF, bnd]
  rcases rHalves bs with s | ⟨⟨step, k⟩, r⟩
  · rfl
  · dsimp only
    by_cases h1 : step = 0 ∧ k = 0
    · simp only [if_pos h1]
    · simp only [if_neg h1]
      by_cases h2 : ¬ (k = 1 ∨ k = 2) ∧ wayOk k room = false
      · simp only [if_pos h2]
      · simp only [if_neg h2]
        rcases rID id step r with s | ⟨i, q⟩
        · rfl
        · dsimp only
          by_cases h3 : k = 1 ∨ k = 2
          · simp only [if_pos h3]
          · simp only [if_neg h3]
            rcases P k q with s | ⟨⟨p, c⟩, t⟩ <;> rfl
theorem good_structF {room : Int} {P : Int → List Nat → RV} (hP : ∀ k, Good (P k)) : ∀ n ids f id, Good (rStructF room P n ids f id)
  | 0, ids, f, id => good_err true
  | n + 1, ids, f, id => good_of_eq (rStructF_succ room P n ids f id) (good_bnd good_halves fun sk => good_ite (good_ok _) (good_ite (good_err _) (good_bnd (good_id _ _) fun i => good_ite (good_structF hP n _ _ _) (good_bnd (hP _) fun pc => good_structF hP n _ _ _))))
theorem good_len {α : Type} {f : Ps α} (h : Good f) {bs r : List Nat} {a : α} (e : f bs = .ok (a, r)) : r.length ≤ bs.length := by
  obtain ⟨u, hu, _⟩ := (h bs).1 a r e
  rw [hu, List.length_append]
  omega
theorem halves_len {bs r : List Nat} {a : Nat × Nat} (e : rHalves bs = .ok (a, r)) : r.length + 1 = bs.length := by
  cases bs with
  | nil => cases e
  | cons b l => cases e; rfl
/-- the rounds are enough -/
theorem structF_more {room : Int} {P : Int → List Nat → RV} (hP : ∀ k, Good (P k)) : ∀ n m ids f id bs, bs.length < n → n ≤ m → rStructF room P m ids f id bs = rStructF room P n ids f id bs
  | 0, _, _, _, _, _, h, _ => by omega
  | _ + 1, 0, _, _, _, _, _, h => by omega
  | n + 1, m + 1, ids, f, id, bs, h, hm => by
    rw [rStructF_succ, rStructF_succ]
    cases e : rHalves bs with
    | error s => rw [bnd_err e, bnd_err e]
    | ok v =>
      obtain ⟨⟨step, k⟩, r⟩ := v
      have hl := halves_len e
      rw [bnd_ok e, bnd_ok e]
      dsimp only
      by_cases h1 : step = 0 ∧ k = 0
      · simp only [if_pos h1]
      · simp only [if_neg h1]
        by_cases h2 : ¬ (k = 1 ∨ k = 2) ∧ wayOk k room = false
        · simp only [if_pos h2]
        · simp only [if_neg h2]
          cases e2 : rID id step r with
          | error s => rw [bnd_err e2, bnd_err e2]
          | ok v =>
            obtain ⟨i, q⟩ := v
            have hl2 := good_len (good_id id step) e2
            rw [bnd_ok e2, bnd_ok e2]
            by_cases h3 : k = 1 ∨ k = 2
            · simp only [if_pos h3]
              exact structF_more hP n m _ _ _ _ (by omega) (by omega)
            · simp only [if_neg h3]
              cases e3 : P k q with
              | error s => rw [bnd_err e3, bnd_err e3]
              | ok v =>
                obtain ⟨pc, t⟩ := v
                have hl3 := good_len (hP k) e3
                rw [bnd_ok e3, bnd_ok e3]
                exact structF_more hP n m _ _ _ _ (by omega) (by omega)
theorem struct_fuel {room : Int} {P : Int → List Nat → RV} (hP : ∀ k, Good (P k)) {N : Nat} {bs : List Nat} (h : bs.length < N) : rStruct room P bs = rStructF room P N [] .nil 0 bs :=
  (structF_more hP (bs.length + 1) N [] .nil 0 bs (Nat.lt_succ_self _) h).symm
theorem good_struct {room : Int} {P : Int → List Nat → RV} (hP : ∀ k, Good (P k)) : Good (rStruct room P) := by
  intro bs
  refine ⟨fun a r h => ?_, fun h x => ?_⟩
  · have key : ∀ N, bs.length < N → ∃ u, bs = u ++ r ∧ (∀ x, rStructF room P N [] .nil 0 (u ++ x) = .ok (a, x)) ∧ ∀ v t, u = v ++ t → t ≠ [] → rStructF room P N [] .nil 0 v = .error true := fun N hN =>
      (good_structF hP N [] .nil 0 bs).1 a r (by rw [← struct_fuel hP hN]; exact h)
    obtain ⟨u, hu, h1, h2⟩ := key (bs.length + 1) (Nat.lt_succ_self _)
    refine ⟨u, hu, fun x => ?_, fun v t hv ht => ?_⟩
    · obtain ⟨u', hu', k1, _⟩ := key (bs.length + x.length + 1) (by omega)
      have : u' = u := List.append_cancel_right (hu'.symm.trans hu)
      subst this
      have hl : u'.length ≤ bs.length := by rw [hu, List.length_append]; omega
      rw [struct_fuel hP (N := bs.length + x.length + 1) (by rw [List.length_append]; omega)]
      exact k1 x
    · have hl : v.length ≤ bs.length := by rw [hu, hv, List.length_append, List.length_append]; omega
      rw [struct_fuel hP (N := bs.length + 1) (by omega)]
      exact h2 v t hv ht
  · have hN : bs.length < bs.length + x.length + 1 := by omega
    rw [struct_fuel hP hN] at h
    rw [struct_fuel hP (N := bs.length + x.length + 1) (by rw [List.length_append]; omega)]
    exact (good_structF hP _ [] .nil 0 bs).2 h x
theorem good_val : ∀ r k, Good (rVal r k)
  | 0, k => good_leaf k
  | r + 1, k => good_ite (good_list (good_val r)) (good_ite (good_dict (good_val r)) (good_ite (good_struct (good_val r)) (good_leaf k)))
theorem good_read : Good rRead := good_val 32 12
theorem rNumF_ge {least most : Nat} : ∀ {f n s : Nat} {bs : List Nat} {k : Nat} {r : List Nat}, rNumF least most f n s bs = .ok (k, r) → least ≤ k
  | _, _, _, [], _, _, h => by simp [rNumF] at h
  | 0, _, _, _ :: _, _, _, h => by simp [rNumF] at h
  | f + 1, n, s, c :: r, k, q, h => by
    unfold rNumF at h
    split at h
    · cases h
    · split at h
      · split at h
        · cases h
        · exact rNumF_ge h
      · split at h
        · cases h
        · cases h
          omega
theorem rNum_ge {least most : Nat} {bs : List Nat} {k : Nat} {r : List Nat} (h : rNum least most bs = .ok (k, r)) : least ≤ k := rNumF_ge h
end Go.Proofs.Ytikoddlidhefpaa
