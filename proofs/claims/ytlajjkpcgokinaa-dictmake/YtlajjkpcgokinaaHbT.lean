/-
  The reference: Told.
-/
import Derived.Test.YtlajjkpcgokinaaHbR
namespace Go.Proofs.Ytlajjkpcgokinaa
set_option linter.unusedVariables false
set_option linter.unusedSimpArgs false
open Go.ChangeShapes Go.WideShapes Go.ChangeAt Go.RowKit Go.Sort

theorem wpList_append_srcg {P : Program} {w : World} {ops : Array Oper} {rest : List Oper} {o : Oper} {a : Act} {Q : Exit → Act → World → Prop} (hgd : o.guard = none) (s x : Operand) (t : TypeId)
    (ho : o.op = .call { callee := .builtin .append, args := #[s, x], argTypes := #[t, t] })
    (base : Nat) (e : TypeId) (i : TypeInfo) (z : Value) (bytes : Nat) (ht : P.underlying t = some (.slice e)) (hi : P.info? e = some i) (hz : i.zero = some z)
    (hsize : i.size = 1) (hby : i.bytes = bytes) (hzs : z.cells.size = 1)
    (v : Value) (n : Nat) (xs : List Value) (hs : a.eval s = v) (hown : w.ownsRow base e 1 v n xs)
    (ad : Option Addr) (m c : Nat) (news : List Value) (hx : a.eval x = .slice ad m c) (hsrc : Src w ad m c news) (h1 : ∀ u ∈ news, u.oneCell' = true)
    (h63 : n + m ≤ maxLen) (hbytes : (n + m) * bytes ≤ 140737488355328) (hbase : base ≤ w.heap.size)
    (h : ∀ v' w', w'.ownsRow base e 1 v' (n + m) (xs ++ news) → Below base w w' → w.grownBy w' v.ownBlock → wpList P ops Q rest (a.put o.dst v') w') : wpList P ops Q (o :: rest) a w := by
  rcases hsrc.2 with ⟨rfl, rfl, rfl⟩ | ⟨p, rfl, h2⟩
  · have hn : news = [] := List.length_eq_zero_iff.1 hsrc.1
    subst hn
    refine wpList_append_own_none hgd s x t ho base e i 1 ht hi v n xs hs hown hx ?_
    exact h v w (by simpa using hown) (Below.refl _ _) ⟨rfl, rfl, rfl, Nat.le_refl _, fun _ _ _ => rfl⟩
  · refine wpList_append_own w hgd s x t ho base e i z 1 bytes ht hi hz hsize hby hzs (by decide) v n xs hs hown p m c news hx (by simpa using hsrc.1) h2 h1 h63 hbytes hbase ?_
    intro v' w' ho' hg _
    exact h v' w' ho' ((Below.refl base w).grown hg hbase (fun k hk => (hown.lt k hk).1)) hg
/-- a row stays where another one grows -/
theorem own_grown {w w' : World} {B : Nat} {e : TypeId} {s : Nat} {v : Value} {n : Nat} {xs : List Value} {row : Option Nat} (h : w.ownsRow B e s v n xs) (hg : w.grownBy w' row) (hne : ∀ r, row = some r → r < B) : w'.ownsRow B e s v n xs := by
  refine ⟨h.1, ?_⟩
  rcases h.2 with h1 | ⟨g, cap, cur, h1, h2, h3, h4⟩
  · exact .inl h1
  · exact .inr ⟨g, cap, cur, h1, h2, by rw [hg.block g (lt_of_heap h3) (fun e => by have := hne g e.symm; omega)]; exact h3, h4⟩
theorem told_nil {W : Nat} {l : List Int} (h : l.length = 0) : told W l = [] := by unfold told; rw [cutR_nil h]; rfl
theorem told_same {W : Nat} {l : List Int} (h : 8 ≤ sameN l) : told W l = runB W (false, l.take (sameN l)) ++ told W (l.drop (sameN l)) := by unfold told; rw [cutR_same h]; rfl
theorem told_pack {W : Nat} {l : List Int} (h0 : 1 ≤ l.length) (h : ¬ 8 ≤ sameN l) : told W l = runB W (true, l.take (packN l)) ++ told W (l.drop (packN l)) := by unfold told; rw [cutR_pack h0 h]; rfl
theorem told_len {W : Nat} (hW : W ≤ 32) {l : List Int} (h : l.length ≤ 400) : (told W l).length ≤ 644000 := by
  have hb : ∀ rs : List (Bool × List Int), (∀ r ∈ rs, r.2.length ≤ 400) → (runsB W rs).length ≤ 1610 * rs.length := by
    intro rs
    induction rs with
    | nil => simp [runsB]
    | cons r rs ih =>
      intro hr
      have h1 := ih fun x hx => hr x (List.mem_cons_of_mem _ hx)
      have h2 : (runB W r).length ≤ 1610 := by
        obtain ⟨b, l⟩ := r
        have h : l.length ≤ 400 := hr _ List.mem_cons_self
        cases b
        · rw [runB_rep_len]
          have := vb_len ((2 * l.length : Nat) : Int)
          omega
        · rw [runB_pack_len]
          have := vb_len ((2 * grp l.length + 1 : Nat) : Int)
          have := Nat.mul_le_mul (show grp l.length ≤ 50 by unfold grp; omega) hW
          omega
      simp only [runsB, List.length_append, List.length_cons]
      omega
  have h1 := hb (cutR l) fun r hr => by have := cut_fit l.length l (Nat.le_refl _) r hr; omega
  have h2 := cutR_len l.length l (Nat.le_refl _)
  unfold told
  omega
theorem filled_get {l : List Int} {k : Nat} (h : k < 8 * grp l.length) : (filled l).take (k + 1) = (filled l).take k ++ [if k < l.length then l.getD k 0 else 0] := by
  have hl := filled_len l
  rw [List.take_succ_eq_append_getElem (by omega)]
  congr 2
  unfold filled
  by_cases hk : k < l.length
  · rw [if_pos hk, List.getElem_append_left hk]
    simp [List.getD, List.getElem?_eq_getElem hk]
  · rw [if_neg hk, List.getElem_append_right (by omega)]
    simp

set_option maxRecDepth 100000 in
set_option maxHeartbeats 8000000 in
theorem rtold_any (ad : Option Addr) (L cap W : Nat) (zs : List Int) (w : World) (hL : L ≤ 400) (hW : W ≤ 32) (hs : SrcI w ad L cap zs) (hf : FitI W zs) :
    Calls Try.prog 20 #[.int .i64 W, .slice ad L cap] w fun e w' => ∃ v, e = .returned v ∧ w'.ownsRow w.heap.size 5 1 v (told W zs).length ((told W zs).map (Value.int .u8)) ∧ Below w.heap.size w w' := by
  obtain ⟨i0, hi, hz0, hz1, hz2⟩ := info_parts Try.info5
  obtain ⟨j0, hj, jz0, jz1, jz2⟩ := info_parts Try.info52
  have hzl : zs.length = L := by simpa using hs.1
  have hL' : (L : Int) ≤ 400 := by omega
  have hW' : (W : Int) ≤ 32 := by omega
  obtain ⟨KB, hKB⟩ : ∃ KB, KB = (W + 7) / 8 := ⟨_, rfl⟩
  have hKB2 : ((W : Int) + 7) / 8 = (KB : Int) := by omega
  have HKB : Hid (KB = (W + 7) / 8) := hKB
  have hKl : KB ≤ 4 := by omega
  have HTL := told_len hW (l := zs) (by omega)
  clear hKB
  go_enter Try.func20, Try.ntmps20
  go_wp2_with fail
  go_loopw [5, 6] (fun o s wr => ∃ (p : Nat) (pre : List Int), s = .int .i64 (p : Int) ∧ p ≤ L ∧ Hid (pre ++ told W (zs.drop p) = told W zs) ∧ Hid (wr.ownsRow w.heap.size 5 1 o pre.length (pre.map (Value.int .u8))) ∧ Below w.heap.size w wr) (fun _ s _ => L - (intOf s).toNat)
  case atStart => exact ⟨0, [], rfl, Nat.zero_le _, rfl, World.ownsRow_nil _ _ _ _, Below.refl _ _⟩
  case round =>
    obtain ⟨p, pre, rfl, hp, HT, HO, hb⟩ := hrel
    obtain ⟨ao, co, rfl⟩ := own_sl HO.out
    have hdl : (zs.drop p).length = L - p := by rw [List.length_drop]; omega
    have hpl : pre.length ≤ 644000 := by
      have := congrArg List.length HT.out
      rw [List.length_append] at this
      omega
    by_cases hlt : p < L
    · have hlt' : (p : Int) < (L : Int) := by omega
      have SC := rsame_any ad L cap p zs wr hlt (by omega) (Src.later hs hb)
      have hown : ∀ r, (Value.slice ao pre.length co).ownBlock = some r → r < wr.heap.size := fun r e => (HO.out.lt r e).2
      have hfr : FitI W (zs.drop p) := hf.drop
      by_cases h8 : 8 ≤ sameN (zs.drop p)
      · have HTS : Hid (told W (zs.drop p) = runB W (false, (zs.drop p).take (sameN (zs.drop p))) ++ told W ((zs.drop p).drop (sameN (zs.drop p)))) := told_same h8
        have hml := sameN_le (zs.drop p)
        generalize sameN (zs.drop p) = m at *
        obtain ⟨g, off, rfl, hcz⟩ := src_atI (Src.later hs hb) hlt
        have hfz := hf _ (getD_mem (zs := zs) (i := p) (by omega))
        have HR : Hid ((runB W (false, (zs.drop p).take m)).map (Value.int .u8) = (vb ((2 * m : Nat) : Int)).map (Value.int .u8) ++ (lb KB (zs.getD p 0)).map (Value.int .u8) ∧ (runB W (false, (zs.drop p).take m)).length = (vb ((2 * m : Nat) : Int)).length + KB) := by
          have h1 := runB_rep W ((zs.drop p).take m)
          have h2 := runB_rep_len W ((zs.drop p).take m)
          have e1 : ((zs.drop p).take m).length = m := by rw [List.length_take]; omega
          have e2 : ((zs.drop p).take m).getD 0 0 = zs.getD p 0 := by
            simp [List.getD, List.getElem?_take]
            rw [if_pos (by omega)]
          rw [e1, e2, ← HKB.out] at h1
          rw [e1, ← HKB.out] at h2
          exact ⟨h1, h2⟩
        generalize zs.getD p 0 = z at *
        have hpw : 2 ^ W ≤ 2 ^ 32 := Nat.pow_le_pow_right (by omega) hW
        have hno : ¬ ltlNo z KB := by
          have := (fits_iff z.toNat W (by omega) (by omega)).2 hfz.2
          have := HKB.out
          unfold ltlNo
          omega
        have LC := fun W' => rlittle_yes z KB W' (by omega) (by omega) hno
        have hwz : IntKind.u64.wrap z = z := by rw [IntKind.wrap_u64]; omega
        obtain ⟨V, HV⟩ : ∃ V, Hid (V = 2 * m) := ⟨_, rfl⟩
        have hV := HV.out
        have hV2 : 2 * (m : Int) = (V : Int) := by omega
        have hwV : IntKind.u64.wrap (V : Int) = (V : Int) := by rw [IntKind.wrap_u64]; omega
        rw [← hV] at HR
        have hV1 := vb_len (V : Int)
        have VC := fun W' => rvarint_any (V : Int) W' (by omega) (by omega)
        have h8' : (8 : Int) ≤ (m : Int) := by omega
        have hpm : p + m ≤ L := by omega
        clear hno hpw hfz hV
        go_wp2_with (first | (go_at_call 29; refine SC.mono ?_; rintro e w1 ⟨rfl, hb1⟩; have ho1 := own_below HO.out hb1; have hcz1 := cell_later hb1 hcz) | (go_at_call 30; refine (LC _).mono ?_; rintro e w2 ⟨v2, rfl, hown2, hb2⟩; obtain ⟨a2, c2, rfl⟩ := own_sl hown2; have ho2 := own_below ho1 hb2) | (go_at_call 31; refine (VC _).mono ?_; rintro e w3 ⟨v3, rfl, hown3, hb3⟩; obtain ⟨a3, c3, rfl⟩ := own_sl hown3; have ho3 := own_below ho2 hb3; have hown23 := own_below hown2 hb3; have hbw3 := hb.trans (((hb1.mono hb.size).trans (hb2.mono (Nat.le_trans hb.size hb1.size))).trans (hb3.mono (Nat.le_trans hb.size (Nat.le_trans hb1.size hb2.size))))) | (at_builtin; refine wpList_append_srcg rfl (.tmp 36) (.tmp 40) 34 rfl w.heap.size 5 i0 (.int .u8 0) 1 Try.underlying34 hi hz0 hz1 hz2 rfl (.slice ao pre.length co) _ _ rfl ho3 a3 _ c3 _ rfl (src_own hown3).2 (ints_one _ _) (by unfold maxLen; omega) (by omega) hbw3.size ?_; intro v4 w4 hown4 hb4 hg4; obtain ⟨a4, c4, rfl⟩ := own_sl hown4; have hown24 := own_grown hown23 hg4 (fun r e => Nat.lt_of_lt_of_le (hown r e) hb1.size); have hbw4 := hbw3.trans hb4) | (at_builtin; go_loud (refine wpList_append_srcg rfl (.tmp 41) (.tmp 42) 34 rfl w.heap.size 5 i0 (.int .u8 0) 1 Try.underlying34 hi hz0 hz1 hz2 rfl (.slice a4 (pre.length + (vb (V : Int)).length) c4) _ _ rfl hown4 a2 _ c2 _ rfl (src_own hown24).2 (ints_one _ _) (by unfold maxLen; omega) (by omega) hbw4.size ?_); intro v5 w5 hown5 hb5 hg5))
        have hb5f : Below w.heap.size w w5 := hbw4.trans hb5
        have HO5 : Hid (w5.ownsRow w.heap.size 5 1 v5 (pre ++ runB W (false, (zs.drop p).take m)).length ((pre ++ runB W (false, (zs.drop p).take m)).map (Value.int .u8))) := by
          show World.ownsRow _ _ _ _ _ _ _
          rw [List.length_append, List.map_append, HR.out.1, HR.out.2, ← Nat.add_assoc, ← List.append_assoc]
          exact hown5
        exact ⟨⟨p + m, pre ++ runB W (false, (zs.drop p).take m), by go_num, hpm, by show _ = _; rw [← HT.out, HTS.out, List.append_assoc, List.drop_drop], HO5, hb5f⟩, by simp [intOf]; omega⟩
      · have hk8 : ¬ (8 : Int) ≤ (sameN (zs.drop p) : Int) := by omega
        have PC := fun W' h => rpacks_any ad L cap p zs W' hlt (by omega) (Src.later hs h)
        have HTS : Hid (told W (zs.drop p) = runB W (true, (zs.drop p).take (packN (zs.drop p))) ++ told W ((zs.drop p).drop (packN (zs.drop p)))) := told_pack (by omega) h8
        have hn1 : 1 ≤ packN (zs.drop p) := packF_ge (zs.drop p).length 8 (zs.drop p) (by omega) (by omega)
        have hn2 : packN (zs.drop p) ≤ (zs.drop p).length := packF_le _ _ _
        generalize sameN (zs.drop p) = m at *
        generalize packN (zs.drop p) = n at *
        obtain ⟨q, HQ⟩ : ∃ q, Hid (q = (zs.drop p).take n) := ⟨_, rfl⟩
        have hql : q.length = n := by rw [HQ.out, List.length_take]; omega
        have HQG : Hid (∀ k, k < n → q.getD k 0 = zs.getD (p + k) 0) := fun k hk => by
          rw [HQ.out, ← getD_drop]
          simp [List.getD, List.getElem?_take]
          rw [if_pos hk]
        have hqf : FitI W q := by rw [HQ.out]; exact hfr.take
        have hu := fit_u64 hW hqf.filled
        have hfl := filled_len q
        rw [hql] at hfl
        have HFG : Hid (∀ k, k < 8 * grp n → (filled q).take (k + 1) = (filled q).take k ++ [if k < n then q.getD k 0 else 0]) := fun k hk => by
          have := filled_get (l := q) (k := k) (by rw [hql]; exact hk)
          rwa [hql] at this
        have HR : Hid ((runB W (true, q)).map (Value.int .u8) = (vb ((2 * grp n + 1 : Nat) : Int)).map (Value.int .u8) ++ c8 (upk 8 (grp n * W) (pk W (nats (filled q)))) ∧ (runB W (true, q)).length = (vb ((2 * grp n + 1 : Nat) : Int)).length + grp n * W) := by
          have h1 := runB_pack W q
          have h2 := runB_pack_len W q
          rw [hql] at h1 h2
          exact ⟨h1, h2⟩
        rw [← HQ.out] at HTS
        have HG : Hid (8 * grp n ≤ n + 7 ∧ n ≤ 8 * grp n) := by constructor <;> (unfold grp; omega)
        generalize grp n = G at *
        obtain ⟨N8, HN8⟩ : ∃ N, Hid (N = 8 * G) := ⟨_, rfl⟩
        obtain ⟨V, HV⟩ : ∃ V, Hid (V = 2 * G + 1) := ⟨_, rfl⟩
        have hN8 := HN8.out
        have hV := HV.out
        have hG1 := HG.out.1
        have hG2 := HG.out.2
        obtain ⟨S, HSd⟩ : ∃ S, Hid (S = G * W) := ⟨_, rfl⟩
        have hS : S = (N8 * W + 7) / 8 := by rw [HSd.out, hN8, Nat.mul_assoc]; omega
        have hSl : S ≤ 2000 := by rw [HSd.out]; have := Nat.mul_le_mul (show G ≤ 51 by omega) hW; omega
        rw [← hV, ← HSd.out] at HR
        rw [← hN8] at hfl HFG
        have PK := fun ad W' c (h2 : Src W' ad N8 c ((filled q).map (Value.int .u64))) => rpack_yes ad N8 c W S (filled q) W' h2 hu.1 hu.2 (sze_of hW (by omega)) hS
        have HF64 : Hid (∀ k, k < n → 0 ≤ q.getD k 0 ∧ q.getD k 0 < 4294967296) := fun k hk => by
          have h1 := hqf _ (getD_mem (zs := q) (i := k) (by omega))
          have hp : 2 ^ W ≤ 2 ^ 32 := Nat.pow_le_pow_right (by omega) hW
          omega
        have hND : (N8 : Int) / 8 = (G : Int) := by omega
        have hV2 : 2 * (G : Int) + 1 = (V : Int) := by omega
        have hwV : IntKind.u64.wrap (V : Int) = (V : Int) := by rw [IntKind.wrap_u64]; omega
        have hV1 := vb_len (V : Int)
        have VC := fun W' => rvarint_any (V : Int) W' (by omega) (by omega)
        have hGl : (G : Int) ≤ 51 := by omega
        have HGN : Hid (N8 ≤ n + 7 ∧ n ≤ N8 ∧ N8 % 8 = 0 ∧ N8 ≤ 407) := by refine ⟨?_, ?_, ?_, ?_⟩ <;> omega
        have hpn : p + n ≤ L := by omega
        have hn' : (n : Int) ≤ 400 := by omega
        clear hS hu hV hN8 hG1 hG2 hqf hfr hql
        go_wp2_with (first | (go_at_call 29; refine SC.mono ?_; rintro e w1 ⟨rfl, hb1⟩; have ho1 := own_below HO.out hb1) | (go_at_call 32; refine (PC _ (hb.trans (hb1.mono hb.size))).mono ?_; rintro e w2 ⟨rfl, hb2⟩; have ho2 := own_below ho1 hb2; have hbw2 := hb.trans ((hb1.mono hb.size).trans (hb2.mono (Nat.le_trans hb.size hb1.size)))))
        have hown2 : ∀ r, (Value.slice ao pre.length co).ownBlock = some r → r < w2.heap.size := fun r e => (ho2.lt r e).2
        have HO2 : Hid (w2.ownsRow w.heap.size 5 1 (.slice ao pre.length co) pre.length (pre.map (Value.int .u8))) := ho2
        clear ho1 ho2 HO hown PC SC
        go_loopw [10, 11] (fun s c wr => ∃ k : Nat, c = .int .i64 (k : Int) ∧ k ≤ N8 ∧ Hid (wr.ownsRow w2.heap.size 52 1 s k (((filled q).take k).map (Value.int .u64))) ∧ Below w2.heap.size w2 wr) (fun _ c _ => N8 - (intOf c).toNat)
        case atStart => exact ⟨0, rfl, Nat.zero_le _, World.ownsRow_nil _ _ _ _, Below.refl _ _⟩
        case round =>
          obtain ⟨k, rfl, hk, HS, hbk⟩ := hrel
          obtain ⟨sa, sc, rfl⟩ := own_sl HS.out
          obtain ⟨hN1, hN2, hN3, hN4⟩ := HGN.out
          have hk' : (k : Int) ≤ 407 := by omega
          have hsz2 : w2.heap.size ≤ wr.heap.size := hbk.size
          by_cases hkn : k < n
          · have hkn' : (k : Int) < (n : Int) := by omega
            obtain ⟨J, HJ⟩ : ∃ J, Hid (J = p + k) := ⟨_, rfl⟩
            have hJ := HJ.out
            have hJ2 : (p : Int) + (k : Int) = (J : Int) := by omega
            have hJL : (J : Int) < (L : Int) := by omega
            obtain ⟨g, off, rfl, hcz⟩ := src_atI (Src.later hs (hbw2.trans (hbk.mono hbw2.size))) (i := J) (by omega)
            have HFK : Hid ((filled q).take (k + 1) = (filled q).take k ++ [zs.getD J 0]) := by
              show _ = _
              rw [HFG.out k (by omega), if_pos hkn, HQG.out k hkn, hJ]
            have hz := HF64.out k hkn
            rw [HQG.out k hkn, ← hJ] at hz
            generalize zs.getD J 0 = z at *
            have hwz : IntKind.u64.wrap z = z := by rw [IntKind.wrap_u64]; omega
            have hkN : k < N8 := by omega
            clear hJ hN1 hN2 hN3
            go_wp2_with (at_builtin; go_loud (refine wpList_append_own _ rfl (.tmp 70) (.tmp 73) 67 rfl w2.heap.size 52 j0 (.int .u64 0) 1 8 Try.underlying67 hj jz0 jz1 jz2 rfl (by decide) (.slice sa k sc) k _ rfl (HS.out.alloc _) ⟨wr.heap.size, 0, none⟩ 1 1 [.int .u64 z] rfl rfl (cell_one_new _ _ _) (by simp [Value.oneCell']) (by unfold maxLen; omega) (by omega) (by simp; omega) ?_); intro v4 w4 hown4 hgrow4 _)
            have hS4 : w4.ownsRow w2.heap.size 52 1 v4 (k + 1) (((filled q).take (k + 1)).map (Value.int .u64)) := by
              rw [HFK.out, List.map_append]
              exact hown4
            exact ⟨⟨k + 1, by go_num, hkN, hS4, (hbk.alloc hsz2 _).grown hgrow4 (by simp; omega) (fun r e => (HS.out.lt r e).1)⟩, by simp [intOf]; omega⟩
          · have hkn' : (n : Int) ≤ (k : Int) := by omega
            by_cases hkN : k < N8
            · have hm8 : ¬ (k : Int) % 8 = 0 := by omega
              have HFK : Hid ((filled q).take (k + 1) = (filled q).take k ++ [0]) := by
                show _ = _
                rw [HFG.out k (by omega), if_neg hkn]
              have hw0 : IntKind.u64.wrap 0 = 0 := rfl
              clear hN1 hN2 hN3
              go_wp2_with (at_builtin; go_loud (refine wpList_append_own _ rfl (.tmp 70) (.tmp 73) 67 rfl w2.heap.size 52 j0 (.int .u64 0) 1 8 Try.underlying67 hj jz0 jz1 jz2 rfl (by decide) (.slice sa k sc) k _ rfl (HS.out.alloc _) ⟨wr.heap.size, 0, none⟩ 1 1 [.int .u64 0] rfl rfl (cell_one_new _ _ _) (by simp [Value.oneCell']) (by unfold maxLen; omega) (by omega) (by simp; omega) ?_); intro v4 w4 hown4 hgrow4 _)
              have hS4 : w4.ownsRow w2.heap.size 52 1 v4 (k + 1) (((filled q).take (k + 1)).map (Value.int .u64)) := by
                rw [HFK.out, List.map_append]
                exact hown4
              exact ⟨⟨k + 1, by go_num, hkN, hS4, (hbk.alloc hsz2 _).grown hgrow4 (by simp; omega) (fun r e => (HS.out.lt r e).1)⟩, by simp [intOf]; omega⟩
            · have hkN8 : k = N8 := by omega
              have hm8 : (N8 : Int) % 8 = 0 := by omega
              have HSF : Hid (wr.ownsRow w2.heap.size 52 1 (.slice sa N8 sc) N8 ((filled q).map (Value.int .u64))) := by
                have h := HS.out
                rw [hkN8, List.take_of_length_le (by omega)] at h
                exact h
              subst hkN8
              have PKC := PK sa wr sc (src_own HSF.out).2
              clear HS hN1 hN3 PK HFG
              have hbw : Below w.heap.size w wr := hbw2.trans (hbk.mono hbw2.size)
              have ho3 := own_below HO2.out hbk
              go_wp2_with (first | (go_at_call 33; refine PKC.mono ?_; rintro e w4 ⟨v4, rfl, hown4, hb4⟩; obtain ⟨a4, c4, rfl⟩ := own_sl hown4; have ho4 := own_below ho3 hb4; have hbw4 := hbw.trans (hb4.mono hbw.size)) | (go_at_call 31; refine (VC _).mono ?_; rintro e w5 ⟨v5, rfl, hown5, hb5⟩; obtain ⟨a5, c5, rfl⟩ := own_sl hown5; have ho5 := own_below ho4 hb5; have hown45 := own_below hown4 hb5; have hbw5 := hbw4.trans (hb5.mono hbw4.size)) | (at_builtin; refine wpList_append_srcg rfl (.tmp 81) (.tmp 88) 34 rfl w.heap.size 5 i0 (.int .u8 0) 1 Try.underlying34 hi hz0 hz1 hz2 rfl (.slice ao pre.length co) _ _ rfl ho5 a5 _ c5 _ rfl (src_own hown5).2 (ints_one _ _) (by unfold maxLen; omega) (by omega) hbw5.size ?_; intro v6 w6 hown6 hb6 hg6; obtain ⟨a6, c6, rfl⟩ := own_sl hown6; have hown46 := own_grown hown45 hg6 (fun r e => Nat.lt_of_lt_of_le (hown2 r e) hbk.size); have hbw6 := hbw5.trans hb6) | (at_builtin; go_loud (refine wpList_append_srcg rfl (.tmp 89) (.tmp 90) 34 rfl w.heap.size 5 i0 (.int .u8 0) 1 Try.underlying34 hi hz0 hz1 hz2 rfl (.slice a6 (pre.length + (vb (V : Int)).length) c6) _ _ rfl hown6 a4 _ c4 _ rfl (src_own hown46).2 (c8_one _) (by unfold maxLen; omega) (by omega) hbw6.size ?_); intro v7 w7 hown7 hb7 hg7))
              have hb7f : Below w.heap.size w w7 := hbw6.trans hb7
              have HO7 : Hid (w7.ownsRow w.heap.size 5 1 v7 (pre ++ runB W (true, q)).length ((pre ++ runB W (true, q)).map (Value.int .u8))) := by
                show World.ownsRow _ _ _ _ _ _ _
                rw [List.length_append, List.map_append, HR.out.1, HR.out.2, ← Nat.add_assoc, ← List.append_assoc]
                exact hown7
              exact ⟨⟨p + n, pre ++ runB W (true, q), by go_num, hpn, by show _ = _; rw [← HT.out, HTS.out, List.append_assoc, List.drop_drop], HO7, hb7f⟩, by simp [intOf]; omega⟩
    · have hge : (L : Int) ≤ (p : Int) := by omega
      have HE : Hid (pre = told W zs) := by
        show _ = _
        rw [← HT.out, told_nil (by omega), List.append_nil]
      have hO := HO.out
      rw [HE.out] at hO
      have HOO : Hid _ := hO
      rw [HE.out]
      clear hO HO
      go_wp2_with fail
      go_ret
      exact ⟨_, rfl, HOO.out, hb⟩
end Go.Proofs.Ytlajjkpcgokinaa
