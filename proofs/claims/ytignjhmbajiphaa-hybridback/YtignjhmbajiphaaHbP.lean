/-
  frontRuns.
-/
import Derived.Test.YtignjhmbajiphaaHbO
namespace Go.Proofs.Ytignjhmbajiphaa
set_option linter.unusedVariables false
set_option linter.unusedSimpArgs false
open Go.ChangeShapes Go.WideShapes Go.ChangeAt Go.RowKit

/-- runs, as many as there are numbers to come -/
def rdA (W : Nat) (zs : List Int) : Nat → Nat → Nat → List (Bool × List Int) → Except Int (List (Bool × List Int) × Nat)
  | 0, _, p, rs => .ok (rs, p)
  | f + 1, t, p, rs => if t = 0 then .ok (rs, p) else match rdRun W (zs.drop p) t with
    | .error e => .error e
    | .ok (b, l, k) => rdA W zs f (t - l.length) (p + k) (rs ++ [(b, l)])

theorem rdR_num {W : Nat} {zs : List Int} {n : Int} {t : Nat} {l : List Int} {s : Nat} (hn : 0 ≤ n) (h : rdR W zs n t = .ok (l, s)) : 1 ≤ l.length ∧ l.length ≤ t := by
  unfold rdR at h
  split at h
  · cases h
  · split at h
    · cases h
    · split at h
      · cases h
      · cases h
        rw [List.length_replicate]
        omega
theorem rdP_num {W : Nat} {zs : List Int} {n : Int} {t : Nat} {l : List Int} {s : Nat} (hn : 0 ≤ n) (ht : 1 ≤ t) (h : rdP W zs n t = .ok (l, s)) : 1 ≤ l.length ∧ l.length ≤ t := by
  unfold rdP at h
  split at h
  · cases h
  · split at h
    · cases h
    · split at h
      · cases h
      · cases h
        simp only [ints, List.length_map, List.length_take, upk_len]
        omega
theorem rdRun_ok {W : Nat} {bs : List Int} {t : Nat} {b : Bool} {l : List Int} {k : Nat} (ht : 1 ≤ t) (h : rdRun W bs t = .ok (b, l, k)) : 1 ≤ l.length ∧ l.length ≤ t ∧ k ≤ bs.length := by
  unfold rdRun at h
  cases hv : rv bs with
  | error e => rw [hv] at h; cases h
  | ok hk =>
    obtain ⟨hd, k0⟩ := hk
    rw [hv] at h
    have hvo := rvF_ok _ _ _ _ _ _ hv
    simp only at h
    by_cases ho : hd % 2 = 1
    · rw [if_pos ho] at h
      cases hp : rdP W (bs.drop k0) (hd / 2) t with
      | error e => rw [hp] at h; cases h
      | ok ls =>
        obtain ⟨l', s⟩ := ls
        rw [hp] at h
        cases h
        have h1 := rdP_num (by omega) ht hp
        have h2 := rdP_ok hp
        rw [List.length_drop] at h2
        exact ⟨h1.1, h1.2, by omega⟩
    · rw [if_neg ho] at h
      cases hp : rdR W (bs.drop k0) (hd / 2) t with
      | error e => rw [hp] at h; cases h
      | ok ls =>
        obtain ⟨l', s⟩ := ls
        rw [hp] at h
        cases h
        have h1 := rdR_num (by omega) hp
        have h2 := rdR_ok hp
        rw [List.length_drop] at h2
        exact ⟨h1.1, h1.2, by omega⟩

theorem add_block (p : Addr) (j : Nat) : (p.add j).block = p.block := by
  unfold Addr.add
  split <;> rfl
theorem srcI_block {w w' : World} {a : Option Addr} {n c : Nat} {l : List Int} (h : SrcI w a n c l) (hb : ∀ q, a = some q → w'.heap[q.block]? = w.heap[q.block]?) : SrcI w' a n c l := by
  refine ⟨h.1, ?_⟩
  rcases h.2 with h1 | ⟨p, h1, h2⟩
  · exact .inl h1
  · refine .inr ⟨p, h1, fun j u hj => ?_⟩
    rw [← h2 j u hj]
    unfold World.cell?
    rw [add_block, hb p h1]
/-- runs that the reader has made: their numbers lie behind B, and not in the row of runs itself -/
def RsR (B : Nat) (w : World) (v : Value) (rs : List (Bool × List Int)) : Prop :=
  ∃ ys, w.ownsRow B 45 2 v rs.length ys ∧ RunC (fun a n c l => SrcI w a n c l ∧ ∀ q, a = some q → B ≤ q.block ∧ q.block < w.heap.size ∧ v.ownBlock ≠ some q.block) rs ys
theorem RsR.kept {B : Nat} {w w' : World} {v : Value} {rs : List (Bool × List Int)} (h : RsR B w v rs) (hs : w.heap.size ≤ w'.heap.size) (hk : ∀ k, k < w.heap.size → B ≤ k → w'.heap[k]? = w.heap[k]?) : RsR B w' v rs := by
  obtain ⟨ys, h1, h2⟩ := h
  refine ⟨ys, ⟨h1.1, ?_⟩, h2.mono (fun a n c l ho => ⟨srcI_block ho.1 (fun q e => hk _ (ho.2 q e).2.1 (ho.2 q e).1), fun q e => ⟨(ho.2 q e).1, by have := (ho.2 q e).2.1; omega, (ho.2 q e).2.2⟩⟩) _ _⟩
  rcases h1.2 with h3 | ⟨g, cap, cur, e1, e2, e3, rest⟩
  · exact .inl h3
  · refine .inr ⟨g, cap, cur, e1, e2, ?_, rest⟩
    rw [hk g (lt_of_heap e3) e2, e3]
theorem RsR.own {B : Nat} {w : World} {v : Value} {rs : List (Bool × List Int)} (h : RsR B w v rs) : ∀ g, v.ownBlock = some g → B ≤ g ∧ g < w.heap.size := by
  obtain ⟨ys, h1, _⟩ := h
  intro g hg
  rcases h1.2 with ⟨rfl, _⟩ | ⟨g', cap, cur, rfl, e2, e3, _⟩
  · cases hg
  · cases hg
    exact ⟨e2, lt_of_heap e3⟩
theorem RsR.rs {B : Nat} {w : World} {v : Value} {rs : List (Bool × List Int)} (h : RsR B w v rs) : Rs (SrcI w) B w v rs := by
  obtain ⟨ys, h1, h2⟩ := h
  exact ⟨ys, h1, h2.mono (fun a n c l ho => ho.1) _ _⟩
theorem RsR.add {B N : Nat} {w w3 : World} {v v' : Value} {rs : List (Bool × List Int)} {ys : List Value} {b : Bool} {l : List Int} {a : Option Addr} {c : Nat} {o : Obj}
    (h1 : w.ownsRow B 45 2 v rs.length ys) (h2 : RunC (fun a n c l => SrcI w a n c l ∧ ∀ q, a = some q → B ≤ q.block ∧ q.block < w.heap.size ∧ v.ownBlock ≠ some q.block) rs ys)
    (hN : ∀ g, v.ownBlock = some g → g < N) (hBN : B ≤ N) (hn : w.ownsRow N 3 1 (.slice a l.length c) l.length (l.map (Value.int .i64)))
    (g1 : w3.ownsRow B 45 2 v' (rs.length + 1) (ys ++ [.bool b, .slice a l.length c])) (hg : (w.alloc o).grownBy w3 v.ownBlock)
    (g2 : v'.ownBlock = v.ownBlock ∨ w3.ownsRow (w.alloc o).heap.size 45 2 v' (rs.length + 1) (ys ++ [.bool b, .slice a l.length c])) : RsR B w3 v' (rs ++ [(b, l)]) := by
  have hs13 : w.heap.size ≤ w3.heap.size := by have := hg.size; simp at this; omega
  have hnew : ∀ k, k < w.heap.size → v.ownBlock ≠ some k → v'.ownBlock ≠ some k := by
    intro k hk hne e
    rcases g2 with g2 | g2
    · exact hne (g2 ▸ e)
    · rcases g2.2 with ⟨rfl, _⟩ | ⟨g', _, _, rfl, e2, _⟩
      · cases e
      · cases e
        have hk2 : g' < w.heap.size := hk
        simp at e2
        omega
  have hblk : ∀ k, k < w.heap.size → v.ownBlock ≠ some k → w3.heap[k]? = w.heap[k]? := by
    intro k hk hne
    rw [hg.block k (by simp; omega) (fun e => hne e.symm)]
    exact (alloc_below w o).block k hk
  have hok : ∀ a n c l, (SrcI w a n c l ∧ ∀ q, a = some q → B ≤ q.block ∧ q.block < w.heap.size ∧ v.ownBlock ≠ some q.block) → (SrcI w3 a n c l ∧ ∀ q, a = some q → B ≤ q.block ∧ q.block < w3.heap.size ∧ v'.ownBlock ≠ some q.block) := by
    intro a n c l ho
    refine ⟨srcI_block ho.1 (fun q e => hblk _ (ho.2 q e).2.1 (ho.2 q e).2.2), fun q e => ⟨(ho.2 q e).1, by have := (ho.2 q e).2.1; omega, hnew _ (ho.2 q e).2.1 (ho.2 q e).2.2⟩⟩
  refine ⟨_, by rw [List.length_append]; exact g1, RunC.snoc b l a c (hok _ _ _ _ ⟨(src_own hn).2, fun q e => ?_⟩) _ _ (h2.mono hok _ _)⟩
  rcases hn.2 with ⟨h0, _⟩ | ⟨g', cap, cur, h0, e2, e3, _⟩
  · injection h0 with h0a
    rw [h0a] at e
    cases e
  · injection h0 with h0a
    rw [h0a] at e
    cases e
    refine ⟨show B ≤ g' by omega, lt_of_heap e3, fun e => ?_⟩
    have h5 : g' < N := hN _ e
    omega

set_option maxRecDepth 100000 in
theorem tk_mk (ad : Option Addr) (L cap W : Nat) (w : World) : Calls Try.prog 37 #[.slice ad L cap, .int .i64 W] w fun e w' => e = .returned (.func (.func 44) #[] #[.pointer (some ⟨w.heap.size, 0, none⟩), .pointer (some ⟨w.heap.size + 2, 0, none⟩), .pointer (some ⟨w.heap.size + 1, 0, none⟩)]) ∧
    w' = ((w.alloc (.cells #[.slice ad L cap] 23)).alloc (.cells #[.int .i64 W] 3)).alloc (.cells #[.int .i64 0] 3) := by
  go_enter Try.func37, Try.ntmps37
  go_wp2
  go_ret
  exact ⟨rfl, by first | rfl | simp⟩

theorem wpList_append_freshR {P : Program} {w : World} {ops : Array Oper} {rest : List Oper} {o : Oper} {a : Act} {Q : Exit → Act → World → Prop} (hgd : o.guard = none) (s x : Operand) (t : TypeId)
    (ho : o.op = .call { callee := .builtin .append, args := #[s, x], argTypes := #[t, t] })
    (base : Nat) (e : TypeId) (i : TypeInfo) (z : Value) (size bytes : Nat) (ht : P.underlying t = some (.slice e)) (hi : P.info? e = some i) (hz : i.zero = some z)
    (hsize : i.size = size) (hby : i.bytes = bytes) (hzs : z.cells.size = size) (hsz : 0 < size)
    (v : Value) (n : Nat) (xs : List Value) (hs : a.eval s = v) (hown : w.ownsRow base e size v n xs)
    (ad : Addr) (m c : Nat) (news : List Value) (hx : a.eval x = .slice (some ad) m c) (hl : news.length = m * size) (hnews : ∀ j u, news[j]? = some u → w.cell? (ad.add j) = some u) (h1 : ∀ u ∈ news, u.oneCell' = true)
    (h63 : n + m ≤ maxLen) (hbytes : (n + m) * bytes ≤ 140737488355328) (hbase : base ≤ w.heap.size)
    (h : ∀ v' w', w'.ownsRow base e size v' (n + m) (xs ++ news) → w.grownBy w' v.ownBlock → (v'.ownBlock = v.ownBlock ∨ w'.ownsRow w.heap.size e size v' (n + m) (xs ++ news)) → wpList P ops Q rest (a.put o.dst v') w') : wpList P ops Q (o :: rest) a w := by
  refine wpList_plain hgd fun K hK' => ?_
  obtain ⟨v', w', hrun, r1, r2, r3⟩ := run_append_fresh (P := P) w base t o.type e i z size bytes ht hi hz hsize hby hzs hsz v n xs hown ad m c news hl hnews h1 h63 hbytes hbase
  unfold Oper.wp
  simp [execOp, ho, resolve, invoke, builtin, hs, hx, hrun, Result.andThen]
  exact hK' _ _ (h v' w' r1 r2 r3)

/-- where the loop stands -/
structure FrI (w wr : World) (ad : Option Addr) (L cap W p : Nat) (zs : List Int) (v : Value) (rs : List (Bool × List Int)) : Prop where
  bel : Below w.heap.size w wr
  pb : wr.heap[w.heap.size]? = some (.cells #[.slice ad L cap] 23 (0, 0))
  pw : wr.heap[w.heap.size + 1]? = some (.cells #[.int .i64 (W : Nat)] 3 (0, 0))
  pa : wr.heap[w.heap.size + 2]? = some (.cells #[.int .i64 (p : Nat)] 3 (0, 0))
  rs : RsR (w.heap.size + 3) wr v rs
  size : w.heap.size + 3 ≤ wr.heap.size

set_option maxRecDepth 100000 in
set_option maxHeartbeats 8000000 in
theorem front_main (ad : Option Addr) (L cap W ct : Nat) (zs : List Int) (w : World) (hL : L ≤ 1048576) (hlc : L ≤ cap) (hs : Src w ad L cap (zs.map (Value.int .u8))) (hby : Bytes zs) (hW : W ≤ 32) (hct : ct ≤ 65536) :
    Calls Try.prog 23 #[.slice ad L cap, .int .i64 W, .int .i64 ct] w fun e w' => Below w.heap.size w w' ∧ match rdA W zs (ct + 1) ct 0 [] with
      | .ok (rs, p) => ∃ v, e = .returned (.tuple #[v, .int .i64 p]) ∧ RsR (w.heap.size + 3) w' v rs
      | .error c => e = gives c := by
  have hzl : zs.length = L := by simpa using hs.1
  refine calls_ofQ fun Q HQ => ?_
  obtain ⟨R, HR⟩ : ∃ R, Hid (rdA W zs (ct + 1) ct 0 [] = R) := ⟨_, rfl⟩
  have QOK : Hid (∀ rs p v w', R = .ok (rs, p) → Below w.heap.size w w' → RsR (w.heap.size + 3) w' v rs → Q (.returned (.tuple #[v, .int .i64 (p : Nat)])) w') := fun rs p v w' e h1 h2 => HQ _ _ ⟨h1, by rw [HR.out, e]; exact ⟨v, rfl, h2⟩⟩
  have QNO : Hid (∀ c w', R = .error c → Below w.heap.size w w' → Q (gives c) w') := fun c w' e h => HQ _ _ ⟨h, by rw [HR.out, e]⟩
  clear HQ
  obtain ⟨i0, hi, hz0, hz1, hz2⟩ := infoRun
  have WC := fun W' => isw_any W W'
  rw [show decide (0 ≤ (W : Int) ∧ (W : Int) ≤ 32) = true by simp; omega] at WC
  have hL' : (L : Int) ≤ 1048576 := by omega
  have hct' : (ct : Int) ≤ 65536 := by omega
  have TM := fun W' => tk_mk ad L cap W W'
  go_enter Try.func23, Try.ntmps23
  go_wp2_with fail
  refine (WC _).mono ?_
  rintro e wx ⟨rfl, hwx⟩
  obtain rfl := hwx.symm
  go_wp2_with fail
  refine (must_yes 2 _).mono ?_
  rintro e wx ⟨rfl, hwx⟩
  obtain rfl := hwx.symm
  go_wp2_with fail
  refine (must_yes 3 _).mono ?_
  rintro e wx ⟨rfl, hwx⟩
  obtain rfl := hwx.symm
  go_wp2_with fail
  refine (TM _).mono ?_
  rintro e w1 ⟨rfl, hw1⟩
  have I0 : FrI w w1 ad L cap W 0 zs (.slice none 0 0) [] := by
    rw [hw1]
    refine ⟨((alloc_below w _).alloc (by simp) _).alloc (by simp; omega) _, ?_, ?_, ?_, ⟨[], World.ownsRow_nil _ _ _ _, rfl⟩, by simp⟩
    · exact below_at (alloc_below _ _) (below_at (alloc_below _ _) (heap_new w _))
    · exact below_at (alloc_below _ _) (heap2_new w _ _)
    · have h := heap_new ((w.alloc (.cells #[.slice ad L cap] 23)).alloc (.cells #[.int .i64 W] 3)) (.cells #[.int .i64 0] 3 (0, 0))
      have e : ((w.alloc (.cells #[.slice ad L cap] 23)).alloc (.cells #[.int .i64 W] 3)).heap.size = w.heap.size + 2 := by simp
      rw [e] at h
      exact h
  clear hw1 WC TM
  go_wp2_with fail
  go_loopw [8, 9, 11] (fun v b t wr => ∃ (f p tc : Nat) (rs : List (Bool × List Int)), b = .int .i64 (p : Int) ∧ t = .int .i64 (tc : Int) ∧ Hid (FrI w wr ad L cap W p zs v rs ∧ rdA W zs f tc p rs = R ∧ tc < f ∧ rs.length + tc ≤ ct ∧ p ≤ L)) (fun _ _ t _ => (intOf t).toNat)
  case atStart => exact ⟨ct + 1, 0, ct, [], rfl, rfl, I0, HR.out, by omega, by simp, Nat.zero_le _⟩
  case round =>
    obtain ⟨f, p, tc, rs, rfl, rfl, HI⟩ := hrel
    obtain ⟨I, hrd, hf, hrt, hpL⟩ := HI.out
    obtain ⟨va, vc, rfl⟩ : ∃ va vc, _ = Value.slice va rs.length vc := by obtain ⟨ys, h1, _⟩ := I.rs; exact own_sl h1
    clear I0 HR
    have htc' : (tc : Int) ≤ 65536 := by omega
    obtain ⟨f', rfl⟩ : ∃ f', f = f' + 1 := ⟨f - 1, by omega⟩
    rw [rdA] at hrd
    by_cases h0 : tc = 0
    · rw [if_pos h0] at hrd
      have hle : (tc : Int) ≤ 0 := by omega
      have HE : Hid (R = .ok (rs, p)) := hrd.symm
      have q2 := QOK.out rs p _ _ HE.out I.bel I.rs
      clear HI hrd h0
      go_wp2_with fail
      exact q2
    · rw [if_neg h0] at hrd
      have hgt : (0 : Int) < (tc : Int) := by omega
      have hbA := alloc_below wr (.cells #[.bool false, .slice none 0 0] 45 (0, 0))
      have hrb := heap_new wr (.cells #[.bool false, .slice none 0 0] 45 (0, 0))
      have hszr := I.size
      have T : Tk (wr.alloc (.cells #[.bool false, .slice none 0 0] 45 (0, 0))) w.heap.size (w.heap.size + 2) (w.heap.size + 1) ad L cap W p zs := ⟨below_at hbA I.pb, below_at hbA I.pa, below_at hbA I.pw, hs.later (I.bel.trans (hbA.mono I.bel.size)), hlc, by omega, by omega⟩
      have TC := taker_any _ _ _ _ _ _ _ _ _ tc _ T hL hpL hW hby (by omega)
      cases hx : rdRun W (zs.drop p) tc with
      | error c =>
        rw [hx] at TC hrd
        have HE : Hid (R = .error c) := hrd.symm
        go_wp2_with fail
        refine TC.mono ?_
        rintro e w2 ⟨hk, rfl⟩
        have q2 := QNO.out c _ HE.out ((I.bel.trans (hbA.mono I.bel.size)).trans (hk.below (by omega) (by have := I.size; simp; omega)))
        unfold gives at q2 ⊢
        go_wp2_with fail
        exact ⟨rfl, q2⟩
      | ok blk =>
        obtain ⟨b, l, k⟩ := blk
        rw [hx] at TC hrd
        have hro := rdRun_ok (by omega) hx
        rw [List.length_drop] at hro
        go_wp2_with fail
        refine TC.mono ?_
        rintro e w2 ⟨hk, vn, rfl, hown, hpa⟩
        obtain ⟨na, nc, rfl⟩ := own_sl hown
        have hrb2 := hk.at hrb (by omega)
        have hpb2 := hk.at T.b (by omega)
        have hpw2 := hk.at T.wd (by omega)
        have hbel2 : Below w.heap.size w w2 := (I.bel.trans (hbA.mono I.bel.size)).trans (hk.below (by omega) (by have := I.size; simp; omega))
        obtain ⟨s1, s2⟩ := store2 hrb2 (.bool b) (.slice na l.length nc)
        obtain ⟨_, f0, f1⟩ := blk2 hrb2
        have hsA : (wr.alloc (.cells #[.bool false, .slice none 0 0] 45 (0, 0))).heap.size = wr.heap.size + 1 := by simp
        have hk2 := hk.size
        rw [hsA] at hown hk2
        have hRs3 : RsR (w.heap.size + 3) ((w2.setCell ⟨wr.heap.size, 0, none⟩ (.bool b)).setCell ⟨wr.heap.size, 1, none⟩ (.slice na l.length nc)) (.slice va rs.length vc) rs := I.rs.kept (by have := s2.size; omega) (fun q hq hq2 => by
          rw [s2.block q (by omega), hk.block q (by rw [hsA]; omega) (by omega), hbA.block q hq])
        have hpb3 := s2.at hpb2 (by omega)
        have hpw3 := s2.at hpw2 (by omega)
        have hpa3 := s2.at hpa (by omega)
        have hown3 := own_only hown s2 (Nat.lt_succ_self _)
        have hbel3 := hbel2.trans (s2.below (B := w.heap.size) (by omega))
        have hsz3 : wr.heap.size + 1 ≤ ((w2.setCell ⟨wr.heap.size, 0, none⟩ (.bool b)).setCell ⟨wr.heap.size, 1, none⟩ (.slice na l.length nc)).heap.size := by rw [← s2.size]; exact hk2
        have hvo : ∀ g, (Value.slice va rs.length vc).ownBlock = some g → g < wr.heap.size := fun g e => (I.rs.own g e).2
        have hvo3 : ∀ g, (Value.slice va rs.length vc).ownBlock = some g → w.heap.size + 3 ≤ g := fun g e => (I.rs.own g e).1
        generalize hW3 : ((w2.setCell ⟨wr.heap.size, 0, none⟩ (.bool b)).setCell ⟨wr.heap.size, 1, none⟩ (.slice na l.length nc)) = W3 at *
        obtain ⟨ys, hr1, hr2⟩ := hRs3
        obtain ⟨⟨x0, x1⟩, _⟩ := blk2 s1
        have HMX : Hid (rs.length + 1 ≤ maxLen ∧ (rs.length + 1) * i0.bytes ≤ 140737488355328) := by
          refine ⟨by unfold maxLen; omega, ?_⟩
          have : (rs.length + 1) * i0.bytes ≤ 65537 * 1000 := Nat.mul_le_mul (by omega) hz2
          omega
        have hll : (l.length : Int) ≤ (tc : Int) := by omega
        clear TC T hk hbA hrb hrb2 hpb2 hpw2 hown hpa s2 hx HI
        go_wp2_with (at_builtin; go_loud (refine wpList_append_freshR rfl (.tmp 40) (.tmp 42) 42 rfl (w.heap.size + 3) 45 i0 _ 2 i0.bytes Try.underlying42 hi hz0 hz1 rfl rfl (by decide) (.slice va rs.length vc) rs.length ys rfl (hr1.alloc _) ⟨W3.heap.size, 0, none⟩ 1 1 [.bool b, .slice na l.length nc] rfl rfl (new_news _ _ _ _) (by intro u hu; simp at hu; rcases hu with rfl | rfl <;> rfl) HMX.out.1 HMX.out.2 (by simp; omega) ?_); intro v4 w4 g1 hg4 g2; have hx4 : w4.cell? ⟨wr.heap.size, 1, none⟩ = some (.slice na l.length nc) := (by
          have e : w4.heap[wr.heap.size]? = W3.heap[wr.heap.size]? := (by
            rw [hg4.block _ (by simp; omega) (fun e => by have := hvo _ e.symm; omega)]
            exact (alloc_below W3 _).block _ (by omega))
          rw [← x1]
          exact World.cell?_of_block (a := ⟨wr.heap.size, 1, none⟩) e); have HA4 : Hid (RsR (w.heap.size + 3) w4 v4 (rs ++ [(b, l)])) := RsR.add hr1 hr2 (fun g e => Nat.lt_succ_of_lt (hvo g e)) (by omega) hown3 g1 hg4 g2; have hB34 : Below (w.heap.size + 3) W3 w4 := ((Below.refl _ W3).alloc (by omega) _).grown hg4 (by simp; omega) (fun q e => hvo3 q e); clear g1 g2 hg4)
        have I4 : FrI w w4 ad L cap W (p + k) zs v4 (rs ++ [(b, l)]) := ⟨hbel3.trans (hB34.mono (by omega)), (hB34.block _ (by omega)).trans hpb3, (hB34.block _ (by omega)).trans hpw3, (hB34.block _ (by omega)).trans hpa3, HA4.out, by have := hB34.size; omega⟩
        exact ⟨⟨f', p + k, tc - l.length, rs ++ [(b, l)], by go_num, by congr 1; omega, I4, hrd, by omega, by rw [List.length_append]; simp; omega, by omega⟩, by simp [intOf]; omega⟩
end Go.Proofs.Ytignjhmbajiphaa
