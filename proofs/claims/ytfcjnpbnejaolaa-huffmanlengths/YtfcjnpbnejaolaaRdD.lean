/-
  huffman.Find: the symbol whose code is that.
-/
import Derived.Test.YtfcjnpbnejaolaaIter
import Derived.Test.YtfcjnpbnejaolaaRnd
namespace Go.Proofs.Ytfcjnpbnejaolaa
set_option linter.unusedVariables false
set_option linter.unusedSimpArgs false
open Go.RowKit Go.Shelf

attribute [local go_sem] Oper.semAt_some

theorem alloc5 (w : World) (a b c d e : Obj) : Below w.heap.size w (((((w.alloc a).alloc b).alloc c).alloc d).alloc e) :=
  (((((Below.refl _ w).alloc (Nat.le_refl _) a).alloc (by simp) b).alloc (by simp; omega) c).alloc (by simp; omega) d).alloc (by simp; omega) e

theorem find_res {X : World} {b1 b2 : Nat} {v1 v2 : Value} {t : Array Value} (r1 : Boxed X b1 3 v1) (r2 : Boxed X b2 4 v2) (t1 : t[6]? = some (.pointer (some ⟨b1, 0, none⟩))) (t2 : t[7]? = some (.pointer (some ⟨b2, 0, none⟩))) :
    (results Try.f16 t).run Try.prog X = .ok (.tuple #[v1, v2]) X := by
  have k1 := r1.cell
  have k2 := r2.cell
  simp [results, Try.f16, go_sem, k1, k2, t1, t2]

/-- the boxes of Find -/
structure FB (w X : World) (a : Option Addr) (len cap : Nat) (code length : Int) (s : Int) (b : Bool) : Prop where
  b0 : Boxed X w.heap.size 22 (.slice a len cap)
  b1 : Boxed X (w.heap.size + 1) 3 (.int .i64 code)
  b2 : Boxed X (w.heap.size + 1 + 1) 3 (.int .i64 length)
  b3 : Boxed X (w.heap.size + 1 + 1 + 1) 3 (.int .i64 s)
  b4 : Boxed X (w.heap.size + 1 + 1 + 1 + 1) 4 (.bool b)
  bel : Below w.heap.size w X
theorem FB.later {w X Y : World} {a : Option Addr} {len cap B : Nat} {code length s : Int} {b : Bool} (h : FB w X a len cap code length s b) (hb : Below B X Y) (hB : w.heap.size + 5 ≤ B) : FB w Y a len cap code length s b :=
  ⟨(hb.block _ (by omega)).trans h.b0, (hb.block _ (by omega)).trans h.b1, (hb.block _ (by omega)).trans h.b2, (hb.block _ (by omega)).trans h.b3, (hb.block _ (by omega)).trans h.b4, h.bel.trans (hb.mono (by omega))⟩
theorem FB.store {w X : World} {a : Option Addr} {len cap : Nat} {code length s : Int} {b : Bool} (h : FB w X a len cap code length s b) (s' : Int) (b' : Bool) :
    FB w ((X.setCell ⟨w.heap.size + 1 + 1 + 1, 0, none⟩ (.int .i64 s')).setCell ⟨w.heap.size + 1 + 1 + 1 + 1, 0, none⟩ (.bool b')) a len cap code length s' b' :=
  ⟨(h.b0.other (by omega) _).other (by omega) _, (h.b1.other (by omega) _).other (by omega) _, (h.b2.other (by omega) _).other (by omega) _, (Boxed.set _ h.b3).other (by omega) _, Boxed.set _ (h.b4.other (by omega) _), (h.bel.setCell (p := ⟨w.heap.size + 1 + 1 + 1, 0, none⟩) (by simp; omega) _).setCell (p := ⟨w.heap.size + 1 + 1 + 1 + 1, 0, none⟩) (by simp; omega) _⟩
theorem FB.start (w : World) (a : Option Addr) (len cap : Nat) (code length : Int) :
    FB w (((((w.alloc (.cells #[.slice a len cap] 22)).alloc (.cells #[.int .i64 code] 3)).alloc (.cells #[.int .i64 length] 3)).alloc (.cells #[.int .i64 0] 3)).alloc (.cells #[.bool false] 4)) a len cap code length 0 false := by
  refine ⟨((((Boxed.new w 22 _).alloc _).alloc _).alloc _).alloc _, ?_, ?_, ?_, ?_, alloc5 w _ _ _ _ _⟩
  · have h := (((Boxed.new (w.alloc (.cells #[.slice a len cap] 22)) 3 (.int .i64 code)).alloc (.cells #[.int .i64 length] 3)).alloc (.cells #[.int .i64 0] 3)).alloc (.cells #[.bool false] 4)
    simpa using h
  · have h := ((Boxed.new ((w.alloc (.cells #[.slice a len cap] 22)).alloc (.cells #[.int .i64 code] 3)) 3 (.int .i64 length)).alloc (.cells #[.int .i64 0] 3)).alloc (.cells #[.bool false] 4)
    simpa using h
  · have h := (Boxed.new (((w.alloc (.cells #[.slice a len cap] 22)).alloc (.cells #[.int .i64 code] 3)).alloc (.cells #[.int .i64 length] 3)) 3 (.int .i64 0)).alloc (.cells #[.bool false] 4)
    simpa using h
  · have h := Boxed.new ((((w.alloc (.cells #[.slice a len cap] 22)).alloc (.cells #[.int .i64 code] 3)).alloc (.cells #[.int .i64 length] 3)).alloc (.cells #[.int .i64 0] 3)) 4 (.bool false)
    simpa using h

set_option maxRecDepth 100000 in
set_option maxHeartbeats 2000000 in
theorem find_no (w : World) (a : Option Addr) (len cap : Nat) (l : List Int) (code length : Int) (hs : Src w a len cap (ci l)) (hlen : len ≤ 17592186044416) (hno : refC l ≠ 0) :
    Calls Try.prog 16 #[.slice a len cap, .int .i64 code, .int .i64 length] w fun e w' => e = .returned (.tuple #[.int .i64 0, .bool false]) ∧ Below w.heap.size w w' := by
  have F := FB.start w a len cap code length
  have K := codesRefusal_any _ a len cap l (hs.later F.bel) hlen
  have e5 : (((((w.alloc (.cells #[.slice a len cap] 22)).alloc (.cells #[.int .i64 code] 3)).alloc (.cells #[.int .i64 length] 3)).alloc (.cells #[.int .i64 0] 3)).alloc (.cells #[.bool false] 4)).heap.size = w.heap.size + 5 := by simp
  generalize refC l = q at *
  have h0' : (q == 0) = false := by simpa using hno
  clear hno hs
  refine (callsIn_wide (n := 4)).1 ?_
  refine callsIn_of_wp_marks Try.func16 rfl trivial ?_ rfl
  simp only [Try.ntmps16, List.size_toArray, List.length_cons, List.length_nil, Nat.reduceAdd, Nat.reduceSub, Array.replicate_succ, Array.replicate_zero, List.push_toArray, List.append_toArray, List.nil_append, List.cons_append]
  gi_wp2_with (refine ⟨trivial, ?_⟩; gi_at_call 25; refine (callsIn_wide.2 K).mono ?_; rintro e w1 ⟨rfl, hb1⟩; have F1 := F.later hb1 (by rw [e5]; omega); have k3 := F1.b3.cell; have k4 := F1.b4.cell; have f3 := F1.b3.frozen; have f4 := F1.b4.frozen)
  have F2 := F1.store 0 false
  exact ⟨_, find_res F2.b3 F2.b4 rfl rfl, rfl, F2.bel⟩

/-- whether a symbol is the one -/
def hit (m : List Nat) (code length : Int) (p : Nat × Nat) : Bool := decide ((p.2 : Int) = code ∧ ((m.getD p.1 0 : Nat) : Int) = length)
def findP (m : List Nat) (code length : Int) : Option (Nat × Nat) := (upv m m.length).find? (hit m code length)
theorem upv_pre (m : List Nat) : ∀ (d k : Nat), ∃ r, upv m (k + d) = upv m k ++ r
  | 0, k => ⟨[], by simp⟩
  | d + 1, k => by
    obtain ⟨r, h⟩ := upv_pre m d k
    rw [← Nat.add_assoc, upv]
    split
    · exact ⟨r, h⟩
    · exact ⟨r ++ [(k + d, cod m (k + d))], by rw [h, List.append_assoc]⟩
theorem find_none {m : List Nat} {code length : Int} (h : ∀ p ∈ upv m m.length, hit m code length p = false) : findP m code length = none := by
  unfold findP
  rw [List.find?_eq_none]
  intro p hp
  simp [h p hp]
theorem find_some {m : List Nat} {code length : Int} {k : Nat} {pre : List (Nat × Nat)} {x : Nat × Nat} (hk : k ≤ m.length) (e : upv m k = pre ++ [x]) (h : ∀ p ∈ pre, hit m code length p = false) (hx : hit m code length x = true) : findP m code length = some x := by
  unfold findP
  obtain ⟨r, hr⟩ := upv_pre m (m.length - k) k
  rw [show k + (m.length - k) = m.length from by omega] at hr
  rw [hr, e, List.append_assoc, List.find?_append]
  have : pre.find? (hit m code length) = none := by
    rw [List.find?_eq_none]
    intro p hp
    simp [h p hp]
  rw [this]
  simp [hx]

theorem drew_below (X : World) (n : Nat) : Below X.heap.size X (X.drewN n) := ⟨rfl, rfl, rfl, Nat.le_refl _, fun _ _ => rfl⟩
theorem snoc_no {m : List Nat} {code length : Int} {vs v : List (Nat × Nat)} {x : Nat × Nat} (e : vs = v ++ [x]) (h : ∀ p ∈ v, hit m code length p = false) (hx : hit m code length x = false) : ∀ p ∈ vs, hit m code length p = false := by
  intro p hp
  rw [e] at hp
  rcases List.mem_append.1 hp with h1 | h1
  · exact h p h1
  · rw [List.mem_singleton.1 h1]; exact hx
/-- what Find answers -/
def findS (m : List Nat) (code length : Int) : Int := ((findP m code length).map (fun p => (p.1 : Int))).getD 0
def findB (m : List Nat) (code length : Int) : Bool := (findP m code length).isSome

set_option maxRecDepth 100000 in
set_option maxHeartbeats 4000000 in
theorem find_ok (w : World) (a : Option Addr) (len cap : Nat) (m : List Nat) (code length : Int) (hs : Src w a len cap (cn m)) (hlen : len ≤ 1000) (h15 : ∀ x ∈ m, x ≤ 15) (hyes : refC (nm m) = 0) :
    Calls Try.prog 16 #[.slice a len cap, .int .i64 code, .int .i64 length] w fun e w' => e = .returned (.tuple #[.int .i64 (findS m code length), .bool (findB m code length)]) ∧ Below w.heap.size w w' := by
  have F := FB.start w a len cap code length
  have K := codesRefusal_any _ a len cap (nm m) (hs.later F.bel) (by omega)
  rw [hyes] at K
  have e5 : (((((w.alloc (.cells #[.slice a len cap] 22)).alloc (.cells #[.int .i64 code] 3)).alloc (.cells #[.int .i64 length] 3)).alloc (.cells #[.int .i64 0] 3)).alloc (.cells #[.bool false] 4)).heap.size = w.heap.size + 5 := by simp
  have hlm : m.length = len := by have := hs.1; rwa [cn_len] at this
  have hlen' : (len : Int) ≤ 1000 := by omega
  clear hyes
  refine (callsIn_wide (n := 4)).1 ?_
  refine callsIn_of_wp_marks Try.func16 rfl trivial ?_ rfl
  simp only [Try.ntmps16, List.size_toArray, List.length_cons, List.length_nil, Nat.reduceAdd, Nat.reduceSub, Array.replicate_succ, Array.replicate_zero, List.push_toArray, List.append_toArray, List.nil_append, List.cons_append]
  gi_wp2_with (first | (refine ⟨trivial, ?_⟩; gi_at_call 25; refine (callsIn_wide.2 K).mono ?_; rintro e w1 ⟨rfl, hb1⟩; have F1 := F.later hb1 (by rw [e5]; omega); have k0 := F1.b0.cell) | (refine ⟨trivial, ?_⟩; gi_at_call 26; refine (callsIn_wide.2 (codesOf_any a len cap _)).mono ?_; rintro e wx ⟨rfl, hwx⟩; subst hwx))
  have hz1 : w.heap.size + 5 ≤ w1.heap.size := by rw [← e5]; exact hb1.size
  have F2 : FB w (w1.alloc (.cells #[.slice a len cap] 22)) a len cap code length 0 false := F1.later (alloc_below w1 _) hz1
  have hbx : (w1.alloc (.cells #[.slice a len cap] 22)).cell? ⟨w1.heap.size, 0, none⟩ = some (.slice a len cap) := (Boxed.new w1 22 _).cell
  have e6 : (w1.alloc (.cells #[.slice a len cap] 22)).heap.size = w1.heap.size + 1 := by simp
  clear k0 F1
  generalize w1.alloc (.cells #[.slice a len cap] 22) = W6 at F2 hbx e6 ⊢
  have hgl : 0 < len → ∀ g off, a = some ⟨g, off, none⟩ → g < w.heap.size := by
    intro h0 g off e
    obtain ⟨g', off', e', hc⟩ := src_atn hs h0
    rw [e] at e'
    cases e'
    exact World.block_lt_of_cell? _ _ hc
  have hs6 : Src W6 a len cap (cn m) := hs.later F2.bel
  have HLM : Hid (m.length = len) := hlm
  clear K hb1 e5 F
  generalize w1.heap.size = Bs at *
  refine range_c (by omega) (gf := 36) (lb := #[.pointer (some ⟨Bs, 0, none⟩)]) rfl (enters_of Try.func36 (by kernel_rfl) rfl)
    (codes_seq 3 (by omega) Bs (w.heap.size + 1 + 1 + 1) len cap a m hlm hlen h15 W6 hbx (by omega) hs6 (fun h g off e => by have := hgl h g off e; omega) (by omega)) (fun h k => h.trans k) (fun W l o o' _ h1 h2 => Kp.put _ W l o o' h1 h2) (fun _ => rfl)
    (fun pre X => FB w X a len cap code length 0 false ∧ ∀ p ∈ vals pre, hit m code length p = false) (fun cd pre X => cd = .ret ∧ ∃ p0 x, vals pre = p0 ++ [x] ∧ (∀ p ∈ p0, hit m code length p = false) ∧ hit m code length x = true ∧ FB w X a len cap code length (x.1 : Int) true)
    (fun s A C h hb => ⟨h.1.later hb (by omega), h.2⟩) (fun c s A C h hb => by
      obtain ⟨e, p0, x, h1, h2, h3, h4⟩ := h
      exact ⟨e, p0, x, h1, h2, h3, h4.later hb (by omega)⟩) ⟨F2, fun p hp => by simp [vals] at hp⟩ ?act ?assign ?body ?done ?stop
  case assign =>
    intro l x X K hK
    gi_wp2
    exact hK
  case body =>
    rintro l pre x X ⟨us, hno⟩ hN
    have hXs : w.heap.size + 1 + 1 + 1 + 1 < X.heap.size := us.b4.lt
    have k0 := us.b0.cell
    have k1 := us.b1.cell
    have k2 := us.b2.cell
    have k3 := us.b3.cell
    have k4 := us.b4.cell
    have f3 := us.b3.frozen
    have f4 := us.b4.frozen
    have hxl := x.2.1
    have hxl' : ((x.1.1 : Nat) : Int) < (len : Int) := by omega
    obtain ⟨g, off, rfl, hc⟩ := src_atn (hs.later us.bel) hxl
    have HUS : Hid _ := us
    have HNO : Hid _ := hno
    have HV : Hid (vals (pre ++ [x]) = vals pre ++ [x.1]) := by show _ = _; simp [vals]
    have HH : Hid (hit m code length x.1 = decide (((x.1.2 : Nat) : Int) = code ∧ ((m.getD x.1.1 0 : Nat) : Int) = length)) := rfl
    clear us hno
    obtain ⟨⟨s, c⟩, hsc1, hsc2⟩ := x
    simp only at *
    generalize m.getD s 0 = y at *
    by_cases hcc : (c : Int) = code
    · have hcc' : ((c : Int) == code) = true := by simpa using hcc
      by_cases hyl : (y : Int) = length
      · have hyl' : ((y : Int) == length) = true := by simpa using hyl
        have HT : Hid (hit m code length (s, c) = true) := by show _ = _; rw [HH.out]; simp [hcc, hyl]
        clear hcc hyl HH
        gi_wp2
        refine round_quiet l (by kernel_rfl) (by kernel_rfl) (by intro i o c ho hc; rcases i with _|_|_|_|_|_|_|_|_|_|_|i <;> simp at ho <;> subst ho <;> cases hc) ?_
        repeat (gi_big_quiet_step (fail))
        refine wpQuietIn_nil ?_
        rintro _ ⟨nq, rfl⟩
        gi_wp2
        have U := (HUS.out.store (s : Int) true).later (drew_below _ nq) (by simp; omega)
        exact ⟨⟨((KeepsOthers.setCell X ⟨w.heap.size + 1 + 1 + 1, 0, none⟩ (.int .i64 (s : Int))).trans (KeepsOthers.setCell _ ⟨w.heap.size + 1 + 1 + 1 + 1, 0, none⟩ (.bool true))).size, ((KeepsOthers.setCell X ⟨w.heap.size + 1 + 1 + 1, 0, none⟩ (.int .i64 (s : Int))).trans (KeepsOthers.setCell _ ⟨w.heap.size + 1 + 1 + 1 + 1, 0, none⟩ (.bool true))).same⟩, rfl, vals pre, (s, c), HV.out, HNO.out, HT.out, ⟨U.b0, U.b1, U.b2, U.b3, U.b4, U.bel⟩⟩
      · have hyl' : ((y : Int) == length) = false := by simpa using hyl
        have HT : Hid (hit m code length (s, c) = false) := by show _ = _; rw [HH.out]; simp [hyl]
        clear hcc hyl HH
        gi_wp2
        refine round_quiet l (by kernel_rfl) (by kernel_rfl) (by intro i o c ho hc; rcases i with _|_|_|_|_|_|_|_|_|_|_|i <;> simp at ho <;> subst ho <;> cases hc) ?_
        repeat (gi_big_quiet_step (fail))
        refine wpQuietIn_nil ?_
        rintro _ ⟨nq, rfl⟩
        gi_wp2
        exact ⟨⟨Nat.le_refl _, fun _ _ h _ => h⟩, ⟨Nat.le_refl _, fun _ _ _ _ _ h => h⟩, HUS.out.later (drew_below X nq) (by omega), snoc_no HV.out HNO.out HT.out⟩
    · have hcc' : ((c : Int) == code) = false := by simpa using hcc
      have HT : Hid (hit m code length (s, c) = false) := by show _ = _; rw [HH.out]; simp [hcc]
      clear hcc HH
      gi_wp2
      refine round_quiet l (by kernel_rfl) (by kernel_rfl) (by intro i o c ho hc; rcases i with _|_|_|_|_|_|_|_|_|_|_|i <;> simp at ho <;> subst ho <;> cases hc) ?_
      repeat (gi_big_quiet_step (fail))
      refine wpQuietIn_nil ?_
      rintro _ ⟨nq, rfl⟩
      gi_wp2
      exact ⟨⟨Nat.le_refl _, fun _ _ h _ => h⟩, ⟨Nat.le_refl _, fun _ _ _ _ _ h => h⟩, HUS.out.later (drew_below X nq) (by omega), snoc_no HV.out HNO.out HT.out⟩
  case done =>
    rintro D ys X hD hys ⟨us, hno⟩ hK
    have k3 := us.b3.cell
    have k4 := us.b4.cell
    have f3 := us.b3.frozen
    have f4 := us.b4.frozen
    have HF : Hid (findP m code length = none) := find_none (by rw [HLM.out, ← hys]; exact hno)
    gi_wp2
    refine ⟨by simp, .inl ⟨_, _, rfl, run_takeDeferred ((((KeepsOthers.setCell _ _ _).trans (KeepsOthers.setCell _ _ _))).same D _ hK rfl), ?_⟩⟩
    have U := (us.store 0 false).later (put_below _ D (.deferred none) (B := D) (Nat.le_refl _)) (by omega)
    refine ⟨_, find_res U.b3 U.b4 rfl rfl, ?_, U.bel⟩
    unfold findS findB
    rw [HF.out]
    rfl
  case stop =>
    rintro D c pre X hD ⟨k, hk, hp⟩ ⟨rfl, p0, x, h1, h2, h3, us⟩ hK
    have HF : Hid (findP m code length = some x) := find_some (by rw [HLM.out]; exact hk) (by rw [← hp, h1]) h2 h3
    gi_wp2
    refine ⟨by simp, .inl ⟨_, _, rfl, run_takeDeferred hK, ?_⟩⟩
    have U := us.later (put_below _ D (.deferred none) (B := D) (Nat.le_refl _)) (by omega)
    refine ⟨_, find_res U.b3 U.b4 rfl rfl, ?_, U.bel⟩
    unfold findS findB
    rw [HF.out]
    rfl
end Go.Proofs.Ytfcjnpbnejaolaa
