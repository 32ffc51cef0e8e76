/-
  There and back: what holds others.
-/
import Derived.Test.YtikoddlidhefpaaBack
import Derived.Test.YtikoddlidhefpaaJ5
namespace Go.Proofs.Ytikoddlidhefpaa
set_option linter.unusedVariables false
open Go.ChangeShapes Go.WideShapes Go.ChangeAt Go.RowKit Go.Deep

/-- its numbers are such of 64 bits, all the way down -/
def NumsF : Fo → Prop
  | .nil => True
  | .node _ _ p c r => (i64ok p.num ∧ NumsF c) ∧ NumsF r
def BackAt (r : Nat) : Prop := ∀ p c rest, mayV p c (r : Int) = true → i64ok p.num → NumsF c → rVal r p.kind (valB p c ++ rest) = .ok ((p, nt c), rest)

theorem kindsBy_cons {ks : List Int} {i b o : Nat} {p : Pay} {c r : Fo} (h : kindsBy ks i (.node b o p c r) = true) : p.kind = ks.getD (i % ks.length) 0 ∧ kindsBy ks (i + 1) r = true := by
  simpa [kindsBy] using h
theorem rounds_back {r : Nat} (ih : BackAt r) (k : Int) : ∀ (c f : Fo) (i : Nat) (rest : List Nat), mayF c (r : Int) = true → NumsF c → kindsBy [k] i c = true → rRounds [rVal r k] (flen c) f (encF c false [] 0 ++ rest) = .ok (fcat f (nt c), rest)
  | .nil, f, i, rest, _, _, _ => by simp [flen, rRounds, encF, nt, fcat_nil]
  | .node b o p c d, f, i, rest, hm, hn, hk => by
    rw [mayF_node, Bool.and_eq_true] at hm
    obtain ⟨hk1, hk2⟩ := kindsBy_cons hk
    have hk1' : p.kind = k := by simpa [Nat.mod_one] using hk1
    have e := ih p c (encF d false [] 0 ++ rest) hm.1 hn.1.1 hn.1.2
    rw [hk1'] at e
    rw [encF_cat, List.append_assoc]
    show rRounds [rVal r k] (flen d + 1) f _ = _
    simp only [rRounds, rEach, e]
    rw [rounds_back ih k d (fsnoc f p (nt c)) (i + 1) rest hm.2 hn.2 hk2, fcat_snoc]
    rfl
theorem pairs_back {r : Nat} (ih : BackAt r) (y k : Int) : ∀ (n : Nat) (c f : Fo) (i : Nat) (rest : List Nat), flen c = 2 * n → mayF c (r : Int) = true → NumsF c → kindsBy [y, k] (2 * i) c = true → rRounds [rVal r y, rVal r k] n f (encF c false [] 0 ++ rest) = .ok (fcat f (nt c), rest)
  | 0, .nil, f, i, rest, _, _, _, _ => by simp [rRounds, encF, nt, fcat_nil]
  | 0, .node _ _ _ _ _, f, i, rest, h, _, _, _ => by simp [flen] at h
  | n + 1, .nil, f, i, rest, h, _, _, _ => by simp [flen] at h
  | n + 1, .node _ _ _ _ .nil, f, i, rest, h, _, _, _ => by simp [flen] at h; omega
  | n + 1, .node b o p c (.node b' o' q d t), f, i, rest, hl, hm, hn, hk => by
    rw [mayF_node, mayF_node, Bool.and_eq_true, Bool.and_eq_true] at hm
    obtain ⟨hk1, hk2⟩ := kindsBy_cons hk
    obtain ⟨hk3, hk4⟩ := kindsBy_cons hk2
    have e0 : (2 * i) % 2 = 0 := by omega
    have e1 : (2 * i + 1) % 2 = 1 := by omega
    have hk1' : p.kind = y := by simpa [e0] using hk1
    have hk3' : q.kind = k := by simpa [e1] using hk3
    have hl' : flen t = 2 * n := by simp [flen] at hl; omega
    have a1 := ih p c (encF (.node b' o' q d t) false [] 0 ++ rest) hm.1 hn.1.1 hn.1.2
    have a2 := ih q d (encF t false [] 0 ++ rest) hm.2.1 hn.2.1.1 hn.2.1.2
    rw [hk1'] at a1
    rw [hk3'] at a2
    rw [encF_cat, List.append_assoc]
    simp only [rRounds, rEach, a1]
    rw [encF_cat, List.append_assoc]
    simp only [a2]
    rw [pairs_back ih y k n t _ (i + 1) rest hl' hm.2.2 hn.2.2 (by rw [show 2 * (i + 1) = 2 * i + 1 + 1 by omega]; exact hk4), fcat_snoc, fcat_snoc]
    rfl
theorem known_nat {k : Int} (h : knownB k = true) : ((k.toNat : Nat) : Int) = k ∧ k.toNat < 16 ∧ k.toNat ≠ 2 ∧ k.toNat ≠ 0 := by
  rw [known_true] at h
  omega
theorem way_of {r : Nat} {p : Pay} {c : Fo} (h : mayV p c (r : Int) = true) : wayOk p.kind (r : Int) = true := by
  have hk := OkV.known ⟨_, h⟩
  simp only [mayV, Bool.and_eq_true, decide_eq_true_eq] at h
  unfold wayOk
  rw [hk, Bool.true_and, Bool.not_eq_true']
  unfold rm at h
  cases hn : nestsB p.kind
  · rfl
  · rw [hn, if_pos rfl] at h
    simp only [Bool.true_and, beq_eq_false_iff_ne, ne_eq]
    omega
theorem num_head (n : Nat) (rest : List Nat) : ∃ c l, numB n ++ rest = c :: l ∧ c % 2 = n % 2 := by
  unfold numB
  unfold numF
  split
  · exact ⟨_, _, rfl, rfl⟩
  · exact ⟨_, _, rfl, by omega⟩
theorem head_back (p : Pay) (last : Nat) (id : Int) (h1 : (last : Int) < id) (h2 : id ≤ 32767) (hk : knownB p.kind = true) (rest : List Nat) :
    ∃ b r, headB p id last ++ rest = b :: r ∧ ¬ (b / 16 = 0 ∧ b % 16 = 0) ∧ b % 16 = (if p.kind = 1 then truthN p else p.kind.toNat) ∧ rID last (b / 16) r = .ok (id.toNat, rest) := by
  obtain ⟨k1, k2, k3, k4⟩ := known_nat hk
  have ht : truthN p = 1 ∨ truthN p = 2 := by unfold truthN; split <;> simp
  generalize hX : (if p.kind = 1 then truthN p else p.kind.toNat) = X
  have hX16 : X < 16 := by rw [← hX]; split <;> omega
  have hX0 : X ≠ 0 := by rw [← hX]; split <;> omega
  unfold headB
  rw [hX]
  by_cases h : id - last ≤ 15
  · rw [if_pos h]
    refine ⟨_, _, rfl, by omega, by omega, ?_⟩
    have e : (16 * (id - ↑last).toNat + X) / 16 = (id - ↑last).toNat := by omega
    rw [e]
    unfold rID
    rw [if_neg (by omega), if_neg (by omega)]
    congr 2
    omega
  · rw [if_neg h]
    refine ⟨_, _, by rw [List.append_assoc]; rfl, by omega, by omega, ?_⟩
    have e : (16 * 0 + X) / 16 = 0 := by omega
    rw [e]
    unfold rID rFar
    rw [if_pos rfl, if_neg (by omega)]
    have hz : zig id = 2 * id.toNat := by unfold zig zz; rw [if_pos (by omega)]; omega
    obtain ⟨c, l, hc, hpar⟩ := num_head (zig id) rest
    have hb := rNum_back (least := 2 * (last + 16)) (most := 65534) (n := zig id) rest (by omega) (by omega) (by omega)
    rw [hc] at hb ⊢
    show (if c % 2 = 1 then .error false else match rNum (2 * (last + 16)) 65534 (c :: l) with | .error s => .error s | .ok (n, r) => .ok (n / 2, r)) = Except.ok (id.toNat, rest)
    rw [if_neg (by omega), hb]
    show Except.ok (zig id / 2, rest) = _
    rw [hz]
    congr 2
    omega
theorem fld_back {r : Nat} (ih : BackAt r) (p : Pay) (c : Fo) (hm : mayV p c (r : Int) = true) (hn : i64ok p.num) (hc : NumsF c) (rest : List Nat) :
    fldP (rVal r) (if p.kind = 1 then truthN p else p.kind.toNat) ((if p.kind = 1 then [] else valB p c) ++ rest) = .ok ((p, nt c), rest) := by
  have hk := OkV.known ⟨_, hm⟩
  obtain ⟨k1, k2, k3, k4⟩ := known_nat hk
  by_cases h1 : p.kind = 1
  · rw [if_pos h1, if_pos h1]
    have ho := OkV.order ⟨_, hm⟩
    simp only [inOrderB, Bool.and_eq_true] at ho
    obtain ⟨e, rfl⟩ := (bare_cases ho.1).2.2.2.2 (by omega) (by omega) (by omega) (by omega)
    rw [h1] at e
    have hk' := ho.2
    unfold kindB at hk'
    rw [if_pos h1] at hk'
    have hn' : p.num = 0 ∨ p.num = 1 := by simpa using hk'
    unfold fldP truthN
    rcases hn' with hn' | hn'
    · rw [hn']
      rw [hn'] at e
      rw [e]
      rfl
    · rw [hn']
      rw [hn'] at e
      rw [e]
      rfl
  · rw [if_neg h1, if_neg h1]
    have e : fldP (rVal r) p.kind.toNat = rVal r p.kind := by
      unfold fldP
      rw [if_neg (by omega), k1]
    rw [e]
    exact ih p c rest hm hn hc
theorem struct_back {r : Nat} (ih : BackAt r) : ∀ (c : Fo) (ids : List Int) (n : Nat) (ids0 : List Int) (f : Fo) (last : Nat) (rest : List Nat), mayF c (r : Int) = true → NumsF c → flen c = ids.length → risingB ids last = true → flen c < n →
    rStructF r (rVal r) n ids0 f last (encF c true ids last ++ rest) = .ok ((⟨12, 0, 0, 0, noText, ids0 ++ ids⟩, fcat f (nt c)), rest)
  | .nil, [], n + 1, ids0, f, last, rest, _, _, _, _, _ => by simp [rStructF, encF, rHalves, nt, fcat_nil]
  | .nil, _ :: _, _, _, _, _, _, _, _, h, _, _ => by simp [flen] at h
  | .node _ _ _ _ _, [], _, _, _, _, _, _, _, h, _, _ => by simp [flen] at h
  | _, _, 0, _, _, _, _, _, _, _, _, h => by omega
  | .node b o p c d, id :: ids, n + 1, ids0, f, last, rest, hm, hn, hl, hr, hf => by
    rw [mayF_node, Bool.and_eq_true] at hm
    simp only [risingB, Bool.and_eq_true, decide_eq_true_eq] at hr
    have hk := OkV.known ⟨_, hm.1⟩
    obtain ⟨k1, k2, k3, k4⟩ := known_nat hk
    rw [encF_fld]
    simp only [List.headD_cons, List.tail_cons]
    rw [List.append_assoc, List.append_assoc]
    obtain ⟨b1, r1, e1, e2, e3, e4⟩ := head_back p last id hr.1.1 hr.1.2 hk ((if p.kind = 1 then [] else valB p c) ++ (encF d true ids id ++ rest))
    rw [e1, structF_field e2 (by
      rw [e3]
      by_cases h1 : p.kind = 1
      · left; rw [if_pos h1]; unfold truthN; split <;> simp
      · right; rw [if_neg h1, k1]; exact way_of hm.1), bnd_ok e4, e3, bnd_ok (fld_back ih p c hm.1 hn.1.1 hn.1.2 _)]
    have hid : ((id.toNat : Nat) : Int) = id := by omega
    have := struct_back ih d ids n (ids0 ++ [((id.toNat : Nat) : Int)]) (fsnoc f p (nt c)) id.toNat rest hm.2 hn.2 (by simp [flen] at hl; exact hl) (by rw [hid]; exact hr.2) (by simp [flen] at hf; omega)
    rw [hid] at this
    dsimp only
    rw [hid, this, fcat_snoc]
    simp [nt]
theorem may_parts {p : Pay} {c : Fo} {r : Int} (h : mayV p c r = true) : 0 ≤ rm p r ∧ bareB p c = true ∧ kindB p c = true ∧ mayF c (rm p r) = true := by
  simp only [mayV, inOrderB, Bool.and_eq_true, decide_eq_true_eq] at h
  exact ⟨h.1.1, h.1.2.1, h.1.2.2, h.2⟩
theorem rHalves_cons (b : Nat) (r : List Nat) : rHalves (b :: r) = .ok ((b / 16, b % 16), r) := rfl
theorem list_back {r : Nat} (ih : BackAt r) (e : Int) (c : Fo) (hm : mayF c (r : Int) = true) (hn : NumsF c) (hk : kindB ⟨9, 0, e, 0, noText, []⟩ c = true) (rest : List Nat) : rList r (rVal r) (valB ⟨9, 0, e, 0, noText, []⟩ c ++ rest) = .ok ((⟨9, 0, e, 0, noText, []⟩, nt c), rest) := by
  have hk' : (flen c ≤ 65536 ∧ knownB e = true) ∧ kindsBy [e] 0 c = true := by
    have : (decide (flen c ≤ 65536) && ([e].all knownB && kindsBy [e] 0 c)) = true := hk
    simpa [and_assoc] using this
  obtain ⟨⟨hl, hkn⟩, hks⟩ := hk'
  obtain ⟨k1, k2, k3, k4⟩ := known_nat hkn
  have hv : valB ⟨9, 0, e, 0, noText, []⟩ c = (if flen c < 15 then [16 * flen c + e.toNat] else [16 * 15 + e.toNat] ++ numB (flen c)) ++ encF c false [] 0 := rfl
  have way : 0 < flen c → wayOk e (r : Int) = true := by
    intro h0
    cases c with
    | nil => simp [flen] at h0
    | node b o p c d =>
      rw [mayF_node, Bool.and_eq_true] at hm
      obtain ⟨hk1, _⟩ := kindsBy_cons hks
      have : p.kind = e := by simpa [Nat.mod_one] using hk1
      rw [← this]
      exact way_of hm.1
  have of : ∀ (m : Nat) (x : List Nat), m = flen c → rListOf (rVal r e) e.toNat m (encF c false [] 0 ++ rest) = .ok ((⟨9, 0, e, 0, noText, []⟩, nt c), rest) := by
    intro m x hm'
    unfold rListOf
    rw [hm', rounds_back ih e c .nil 0 rest hm hn hks]
    dsimp only [fcat]
    rw [k1]
  rw [hv]
  by_cases h15 : flen c < 15
  · rw [if_pos h15]
    simp only [List.cons_append, List.nil_append]
    unfold rList
    rw [rHalves_cons]
    have a1 : (16 * flen c + e.toNat) / 16 = flen c := by omega
    have a2 : (16 * flen c + e.toNat) % 16 = e.toNat := by omega
    rw [a1, a2]
    dsimp only
    rw [k1]
    by_cases h0 : flen c = 0
    · cases c with
      | node => simp [flen] at h0
      | nil => simp [flen, hkn, encF, nt]
    · rw [if_neg (by omega), if_neg (by rw [way (by omega)]; decide), if_neg (by omega)]
      exact of _ [] rfl
  · rw [if_neg h15]
    simp only [List.cons_append, List.nil_append]
    unfold rList
    rw [rHalves_cons]
    have a1 : (16 * 15 + e.toNat) / 16 = 15 := by omega
    have a2 : (16 * 15 + e.toNat) % 16 = e.toNat := by omega
    rw [a1, a2]
    dsimp only
    rw [k1, if_neg (by omega), if_neg (by rw [way (by omega)]; decide), if_pos rfl, List.append_assoc, rNum_back _ (by omega) (by omega) hl]
    exact of _ [] rfl
theorem dict_back {r : Nat} (ih : BackAt r) (y e : Int) (c : Fo) (hm : mayF c (r : Int) = true) (hn : NumsF c) (hk : kindB ⟨11, y, e, 0, noText, []⟩ c = true) (rest : List Nat) : rDict r (rVal r) (valB ⟨11, y, e, 0, noText, []⟩ c ++ rest) = .ok ((⟨11, y, e, 0, noText, []⟩, nt c), rest) := by
  have hk' : mapB ⟨11, y, e, 0, noText, []⟩ c = true := hk
  have hv : valB ⟨11, y, e, 0, noText, []⟩ c = (numB (flen c / 2) ++ (if flen c = 0 then [] else [16 * y.toNat + e.toNat])) ++ encF c false [] 0 := rfl
  unfold mapB at hk'
  rw [hv]
  by_cases h0 : flen c = 0
  · rw [if_pos h0] at hk'
    simp at hk'
    obtain ⟨rfl, rfl⟩ := hk'
    cases c with
    | node => simp [flen] at h0
    | nil =>
      unfold rDict
      simp only [flen, encF, List.append_nil, Nat.zero_div, if_true, if_false, Bool.false_eq_true]
      rw [rNum_back _ (by omega) (by omega) (by omega)]
      rfl
  · rw [if_neg h0] at hk'
    simp at hk'
    obtain ⟨⟨h2, hl⟩, ⟨hy, he⟩, hks⟩ := hk'
    obtain ⟨k1, k2, k3, k4⟩ := known_nat he
    obtain ⟨y1, y2, y3, y4⟩ := known_nat hy
    rw [if_neg h0]
    unfold rDict
    rw [List.append_assoc, List.append_assoc, rNum_back _ (by omega) (by omega) hl]
    dsimp only
    rw [if_neg (by omega)]
    simp only [List.cons_append, List.nil_append]
    rw [rHalves_cons]
    have a1 : (16 * y.toNat + e.toNat) / 16 = y.toNat := by omega
    have a2 : (16 * y.toNat + e.toNat) % 16 = e.toNat := by omega
    rw [a1, a2]
    dsimp only
    rw [k1, y1]
    have ways : wayOk y (r : Int) = true ∧ wayOk e (r : Int) = true := by
      cases c with
      | nil => simp [flen] at h0
      | node b o p c d =>
        cases d with
        | nil => simp [flen] at h2
        | node b' o' q d t =>
          rw [mayF_node, mayF_node, Bool.and_eq_true, Bool.and_eq_true] at hm
          obtain ⟨hk1, hk2⟩ := kindsBy_cons hks
          obtain ⟨hk3, hk4⟩ := kindsBy_cons hk2
          have e1 : p.kind = y := by simpa using hk1
          have e2 : q.kind = e := by simpa using hk3
          exact ⟨by rw [← e1]; exact way_of hm.1, by rw [← e2]; exact way_of hm.2.1⟩
    rw [if_neg (by rw [ways.1, ways.2]; decide), pairs_back ih y e (flen c / 2) c .nil 0 rest (by omega) hm hn (by simpa using hks)]
    rfl
theorem encF_len_ge : ∀ (c : Fo) (ids : List Int) (last : Int), flen c + 1 ≤ (encF c true ids last).length
  | .nil, _, _ => by simp [flen, encF]
  | .node b o p c d, ids, last => by
    rw [encF_fld, List.length_append, List.length_append]
    have := encF_len_ge d ids.tail (ids.headD 0)
    have hh : 1 ≤ (headB p (ids.headD 0) last).length := by
      unfold headB
      split <;> simp
    simp only [flen]
    omega
theorem rVal_leaf' (r : Nat) (k : Int) (h9 : ¬ k = 9) (h11 : ¬ k = 11) (h12 : ¬ k = 12) (bs : List Nat) : rVal r k bs = rLeaf k bs := by
  cases r with
  | zero => rfl
  | succ r => simp only [rVal, if_neg h9, if_neg h11, if_neg h12]
theorem back_all : ∀ r : Nat, BackAt r := by
  intro r
  induction r with
  | zero =>
    intro p c rest hm hn hc
    obtain ⟨h0, hb, hk, hf⟩ := may_parts hm
    have hnn : nestsB p.kind = false := by
      cases hh : nestsB p.kind
      · rfl
      · unfold rm at h0; rw [hh, if_pos rfl] at h0; omega
    have n9 : ¬ (p.kind = 9 ∨ p.kind = 11 ∨ p.kind = 12) := by rw [← nests_true, hnn]; simp
    obtain ⟨e, rfl⟩ := leaf_back p c (OkV.order ⟨_, hm⟩) (by omega) (by omega) (by omega) hn rest
    exact e
  | succ r ih =>
    intro p c rest hm hn hc
    obtain ⟨h0, hb, hk, hf⟩ := may_parts hm
    obtain ⟨_, b9, b11, b12, _⟩ := bare_cases hb
    have hrm : p.kind = 9 ∨ p.kind = 11 ∨ p.kind = 12 → rm p ((r + 1 : Nat) : Int) = (r : Int) := by
      intro h
      unfold rm
      rw [if_pos (nests_true.2 h)]
      omega
    by_cases h9 : p.kind = 9
    · rw [hrm (.inl h9)] at hf
      have e := b9 h9
      generalize p.elem = el at *
      subst e
      exact list_back ih el c hf hc hk rest
    by_cases h11 : p.kind = 11
    · rw [hrm (.inr (.inl h11))] at hf
      have e := b11 h11
      generalize p.elem = el at *
      generalize p.key = ky at *
      subst e
      exact dict_back ih ky el c hf hc hk rest
    by_cases h12 : p.kind = 12
    · rw [hrm (.inr (.inr h12))] at hf
      have e := b12 h12
      generalize p.ids = l at *
      subst e
      have hk' : (decide (flen c = l.length) && risingB l 0) = true := hk
      simp only [Bool.and_eq_true, decide_eq_true_eq] at hk'
      show rStruct r (rVal r) (valB ⟨12, 0, 0, 0, noText, l⟩ c ++ rest) = _
      have hv : valB ⟨12, 0, 0, 0, noText, l⟩ c = encF c true l 0 := rfl
      rw [hv]
      unfold rStruct
      have hl := encF_len_ge c l 0
      have := struct_back ih c l ((encF c true l 0 ++ rest).length + 1) [] .nil 0 rest hf hc hk'.1 hk'.2 (by rw [List.length_append]; omega)
      simpa [fcat] using this
    · obtain ⟨e, rfl⟩ := leaf_back p c (OkV.order ⟨_, hm⟩) h9 h11 h12 hn rest
      rw [rVal_leaf' (r + 1) p.kind h9 h11 h12]
      exact e
end Go.Proofs.Ytikoddlidhefpaa
