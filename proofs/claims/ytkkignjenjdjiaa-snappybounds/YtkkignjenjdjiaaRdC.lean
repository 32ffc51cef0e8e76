/-
  The reader: copies.
-/
import Derived.Test.YtkkignjenjdjiaaRdB
namespace Go.Proofs.Ytkkignjenjdjiaa
set_option linter.unusedVariables false
set_option linter.unusedSimpArgs false
open Go.ChangeShapes Go.WideShapes Go.ChangeAt Go.RowKit

theorem run_append_keep {P : Program} (w : World) (base : Nat) (t ty e : TypeId) (i : TypeInfo) (z : Value) (size bytes : Nat) (ht : P.underlying t = some (.slice e)) (hi : P.info? e = some i) (hz : i.zero = some z)
    (hsize : i.size = size) (hby : i.bytes = bytes) (hzs : z.cells.size = size) (hsz : 0 < size)
    (v : Value) (n : Nat) (xs : List Value) (hown : w.ownsRow base e size v n xs)
    (a : Addr) (m c : Nat) (news : List Value) (hl : news.length = m * size) (hnews : ∀ j u, news[j]? = some u → w.cell? (a.add j) = some u) (h1 : ∀ u ∈ news, u.oneCell' = true)
    (h63 : n + m ≤ maxLen) (hbytes : (n + m) * bytes ≤ 140737488355328) (hbase : base ≤ w.heap.size) :
    ∃ v' w', (Builtin.append_ #[t, t] ty #[v, .slice (some a) m c]).run P w = .ok v' w' ∧ w'.ownsRow base e size v' (n + m) (xs ++ news) ∧ w.grownBy w' v.ownBlock ∧
      (v'.ownBlock = v.ownBlock ∨ w.grownBy w' none) := by
  obtain ⟨v', w', hr, h2, h3, _⟩ := run_append_own (P := P) w base t ty e i z size bytes ht hi hz hsize hby hzs hsz v n xs hown a m c news hl hnews h1 h63 hbytes hbase
  refine ⟨v', w', hr, h2, h3, ?_⟩
  rcases hown.2 with ⟨rfl, rfl⟩ | ⟨g, cap, cur, rfl, hb, hg, hn, hm, hcs, htk⟩
  · exact .inr h3
  · by_cases hroom : n + m ≤ cap
    · left
      subst hsize
      have hcell : ∀ j, j < news.length → (w.cell? ⟨g, 0 + n * i.size + j, none⟩).isSome = true := by
        intro j hj
        have hlt : 0 + n * i.size + j < cur.size := by
          have : (n + m) * i.size ≤ cap * i.size := Nat.mul_le_mul_right _ hroom
          rw [Nat.add_mul] at this
          omega
        rw [cell_of_block hg (Array.getElem?_eq_getElem hlt)]
        rfl
      have hr2 := run_append_room_cells (P := P) w t ty e i ht hi g 0 n cap a m c news hl hnews h1 hroom hcell (fun j hj => frozen_of_block hg)
      rw [hr] at hr2
      cases hr2
      rfl
    · right
      obtain ⟨v2, w2, hr2, k2, k3⟩ := run_append_arg_grows (P := P) w t ty e i z size bytes ht hi hz hsize hby hzs hsz ⟨g, 0, none⟩ n cap xs hown.1 (fun j u hj => World.ownsRow.cells hown rfl j u hj) a m c news hl hnews (by omega) h63 hbytes
      rw [hr] at hr2
      cases hr2
      exact k3
/-- what an append leaves: all cells but those behind the row's end -/
theorem keep_cells {w w' : World} {B : Nat} {v v' : Value} {n m : Nat} {xs news : List Value} {e : TypeId} (h : w.ownsRow B e 1 v n xs) (h' : w'.ownsRow B e 1 v' (n + m) (xs ++ news)) (hg : w.grownBy w' v.ownBlock) (hk : v'.ownBlock = v.ownBlock ∨ w.grownBy w' none)
    {b o : Nat} {u : Value} (hc : w.cell? ⟨b, o, none⟩ = some u) (ho : some b = v.ownBlock → o < n) : w'.cell? ⟨b, o, none⟩ = some u := by
  by_cases hb : some b = v.ownBlock
  · rcases hk with hk | hk
    · have hx := World.ownsRow.cells h hb.symm
      have hx' := World.ownsRow.cells h' (hk.trans hb.symm)
      have hl : o < xs.length := by have := h.1; have := ho hb; omega
      have h1 := hx o xs[o] (List.getElem?_eq_getElem hl)
      have h2 := hx' o xs[o] (by rw [List.getElem?_append_left hl]; exact List.getElem?_eq_getElem hl)
      rw [add0] at h1 h2
      rw [h2, ← h1, hc]
    · exact hk.cell hc (by simp)
  · exact hg.cell hc hb

theorem wpList_append_keep {P : Program} {w : World} {ops : Array Oper} {rest : List Oper} {o : Oper} {a : Act} {Q : Exit → Act → World → Prop} (hgd : o.guard = none) (s x : Operand) (t : TypeId)
    (ho : o.op = .call { callee := .builtin .append, args := #[s, x], argTypes := #[t, t] })
    (base : Nat) (e : TypeId) (i : TypeInfo) (z : Value) (bytes : Nat) (ht : P.underlying t = some (.slice e)) (hi : P.info? e = some i) (hz : i.zero = some z)
    (hsize : i.size = 1) (hby : i.bytes = bytes) (hzs : z.cells.size = 1)
    (v : Value) (n : Nat) (xs : List Value) (hs : a.eval s = v) (hown : w.ownsRow base e 1 v n xs)
    (ad : Addr) (m c : Nat) (news : List Value) (hx : a.eval x = .slice (some ad) m c) (hl : news.length = m * 1) (hnews : ∀ j u, news[j]? = some u → w.cell? (ad.add j) = some u) (h1 : ∀ u ∈ news, u.oneCell' = true)
    (h63 : n + m ≤ maxLen) (hbytes : (n + m) * bytes ≤ 140737488355328) (hbase : base ≤ w.heap.size)
    (h : ∀ v' w', w'.ownsRow base e 1 v' (n + m) (xs ++ news) → w.grownBy w' v.ownBlock → (v'.ownBlock = v.ownBlock ∨ w.grownBy w' none) → wpList P ops Q rest (a.put o.dst v') w') : wpList P ops Q (o :: rest) a w := by
  refine wpList_plain hgd fun K hK' => ?_
  obtain ⟨v', w', hrun, r1, r2, r3⟩ := run_append_keep (P := P) w base t o.type e i z 1 bytes ht hi hz hsize hby hzs (by decide) v n xs hown ad m c news hl hnews h1 h63 hbytes hbase
  unfold Oper.wp
  simp [execOp, ho, resolve, invoke, builtin, hs, hx, hrun, Result.andThen]
  exact hK' _ _ (h v' w' r1 r2 r3)

theorem getD_pre {l t : List Nat} {i : Nat} (h : i < l.length) : (l ++ t).getD i 0 = l.getD i 0 := by
  simp [List.getD, List.getElem?_append_left h]

/-- how much was made, by the reader's box -/
def madeLen (w : World) (R : Nat) : Nat := match w.cell? ⟨R, 1, none⟩ with
  | some (.slice _ n _) => n
  | _ => 0
theorem Sd.madeLen {w0 w : World} {R : Nat} {bs made : List Nat} {size : Nat} (h : Sd w0 w R bs made size) : madeLen w R = made.length := by
  obtain ⟨a, cp, v, h1, h2, h4, h5⟩ := h.box
  obtain ⟨ad, c, rfl⟩ := own_sl h5
  have c1 : w.cell? ⟨R, 1, none⟩ = some (.slice ad made.length c) := cell_of_block h1 rfl
  unfold Go.Proofs.Ytkkignjenjdjiaa.madeLen
  rw [c1]

set_option maxRecDepth 100000 in
set_option maxHeartbeats 400000 in
theorem copy_no (w0 w : World) (R : Nat) (bs made : List Nat) (size n back : Nat) (hk : back = 0 ∨ made.length < back) (hb : back ≤ 4294967295) (hn : n ≤ 64) (hm : made.length ≤ size) (hz : size ≤ 1048576) (h : Sd w0 w R bs made size) :
    Calls Try.prog 39 #[.pointer (some ⟨R, 0, none⟩), .int .i64 n, .int .i64 back] w fun e w' => Below R w w' ∧ e = gives 8 := by
  obtain ⟨a, cp, v, h1, h2, h4, h5⟩ := h.box
  obtain ⟨ad, c, rfl⟩ := own_sl h5
  have c1 : w.cell? ⟨R, 1, none⟩ = some (.slice ad made.length c) := cell_of_block h1 rfl
  clear h1 h2 h4 h5 h
  obtain ⟨L, hL⟩ : ∃ L, L = made.length := ⟨_, rfl⟩
  rw [← hL] at hm c1 hk
  clear hL
  by_cases h0 : back = 0
  · subst h0
    go_enter Try.func39, Try.ntmps39
    go_wp2
    go_step3
    go_wp2
    exact ⟨rfl, Below.refl _ _, rfl⟩
  · have h0' : ¬ (back : Int) = 0 := by omega
    have h1' : (L : Int) < (back : Int) := by omega
    go_enter Try.func39, Try.ntmps39
    go_wp2
    go_step3
    go_wp2
    exact ⟨rfl, Below.refl _ _, rfl⟩

set_option maxRecDepth 100000 in
set_option maxHeartbeats 400000 in
theorem copy_much (w0 w : World) (R : Nat) (bs made : List Nat) (size n back : Nat) (hk : ¬ (back = 0 ∨ made.length < back)) (hb : back ≤ 4294967295) (hn : n ≤ 64) (hm : made.length ≤ size) (hz : size ≤ 1048576) (hs : size < made.length + n) (h : Sd w0 w R bs made size) :
    Calls Try.prog 39 #[.pointer (some ⟨R, 0, none⟩), .int .i64 n, .int .i64 back] w fun e w' => Below R w w' ∧ e = gives 8 := by
  have M := mustBeLeft_any w0 w R bs made size n hm (by omega) (by omega) h
  rw [if_pos hs] at M
  obtain ⟨a, cp, v, h1, h2, h4, h5⟩ := h.box
  obtain ⟨ad, c, rfl⟩ := own_sl h5
  have c1 : w.cell? ⟨R, 1, none⟩ = some (.slice ad made.length c) := cell_of_block h1 rfl
  clear h1 h2 h4 h5 h
  obtain ⟨L, hL⟩ : ∃ L, L = made.length := ⟨_, rfl⟩
  rw [← hL] at hm c1 hk hs
  clear hL
  have h0' : ¬ (back : Int) = 0 := by omega
  have h1' : (back : Int) ≤ (L : Int) := by omega
  have h2' : ¬ L < back := by omega
  have h3' : ((back : Int) == 0) = false := by rw [beq_eq_false_iff_ne]; omega
  have HK : Hid (1 ≤ back ∧ back ≤ L) := ⟨by omega, by omega⟩
  clear hk
  go_enter Try.func39, Try.ntmps39
  go_wp2_with fail
  go_step3
  go_wp2_with fail
  refine M.mono ?_
  rintro e wx ⟨⟨k, rfl⟩, rfl⟩
  unfold gives
  go_wp2_with fail
  exact ⟨rfl, drewN_below _ _ _, rfl⟩

set_option maxRecDepth 100000 in
set_option maxHeartbeats 400000 in
theorem copy_ok (w0 w : World) (R : Nat) (bs made : List Nat) (size n back : Nat) (hk : ¬ (back = 0 ∨ made.length < back)) (hb : back ≤ 4294967295) (hn : n ≤ 64) (hm : made.length ≤ size) (hz : size ≤ 1048576) (hs : ¬ size < made.length + n) (h : Sd w0 w R bs made size) :
    Calls Try.prog 39 #[.pointer (some ⟨R, 0, none⟩), .int .i64 n, .int .i64 back] w fun e w' => Below R w w' ∧ e = .returned (.tuple #[]) ∧ Sd w0 w' R bs (cpy back n made) size := by
  have M := mustBeLeft_any w0 w R bs made size n hm (by omega) (by omega) h
  rw [if_neg hs] at M
  refine calls_of fun Q HQ => ?_
  have QOK : ∀ w', Below R w w' → Hid (Sd w0 w' R bs (cpy back n made) size) → Q (.returned (.tuple #[])) w' := fun w' h1 h2 => HQ _ _ ⟨h1, rfl, h2⟩
  clear HQ
  obtain ⟨a, cp, v, h1, h2, h4, h5⟩ := h.box
  obtain ⟨ad, c, rfl⟩ := own_sl h5
  have c1 : w.cell? ⟨R, 1, none⟩ = some (.slice ad made.length c) := cell_of_block h1 rfl
  clear h1 h2 h4 h5
  have HD0 : Hid (Sd w0 w R bs made size) := h
  clear h
  obtain ⟨L, hL⟩ : ∃ L, L = made.length := ⟨_, rfl⟩
  have HL : Hid (L = made.length) := hL
  rw [← hL] at hm c1 hk hs
  clear hL
  have h0' : ¬ (back : Int) = 0 := by omega
  have h1' : (back : Int) ≤ (L : Int) := by omega
  have h2' : ¬ L < back := by omega
  have h3' : ((back : Int) == 0) = false := by rw [beq_eq_false_iff_ne]; omega
  have HK : Hid (1 ≤ back ∧ back ≤ L) := ⟨by omega, by omega⟩
  clear hk
  obtain ⟨U, hU⟩ : ∃ U, U = L + n := ⟨_, rfl⟩
  have hUi : (L : Int) + (n : Int) = (U : Int) := by omega
  have HU : Hid (U = L + n) := hU
  clear hU
  go_enter Try.func39, Try.ntmps39
  go_wp2_with fail
  go_step3
  go_wp2_with fail
  refine M.mono ?_
  rintro e wx ⟨⟨k, rfl⟩, rfl⟩
  go_wp2_with fail
  go_step3
  go_wp2_with fail
  go_loopw [8] (fun _ wr => ∃ t, t ≤ n ∧ Hid (Sd w0 wr R bs (cpy back t made) size) ∧ Below R w wr) (fun _ wr => U - madeLen wr R)
  case atStart => exact ⟨0, Nat.zero_le _, HD0.out.later (drewN_below _ _ _), drewN_below _ _ _⟩
  case round =>
    obtain ⟨t, ht, HD, hbr⟩ := hrel
    obtain ⟨a', cp', v', i1, i2, i3, i4⟩ := HD.out.box
    have hlen : (cpy back t made).length = L + t := by rw [cpy_len, HL.out]
    obtain ⟨Lt, hLt⟩ : ∃ Lt, Lt = L + t := ⟨_, rfl⟩
    have HLt : Hid (Lt = L + t) := hLt
    rw [hlen, ← hLt] at i4
    obtain ⟨g, cc, rfl⟩ := own_some i4 (by have := HK.out; omega)
    have hcc : Lt ≤ cc := by
      rcases i4.2 with ⟨e, _⟩ | ⟨g', cap', cur', e, _, _, e4, _⟩
      · cases e
      · cases e; exact e4
    have hgR : R + 1 ≤ g := (i4.lt g rfl).1
    have d1 : wr.cell? ⟨R, 1, none⟩ = some (.slice (some ⟨g, 0, none⟩) Lt cc) := cell_of_block i1 rfl
    obtain ⟨o, ho⟩ : ∃ o, o = Lt - back := ⟨_, rfl⟩
    have HO : Hid (o + back = Lt) := by show _ = _; have := HK.out; omega
    have hoi : (Lt : Int) - (back : Int) = (o : Int) := by have := HK.out; omega
    have hoL : o ≤ Lt := by omega
    have hoc : (o : Int) ≤ (Lt : Int) := by omega
    have hob : Lt - o = back := by have := HK.out; omega
    have hcc' : (Lt : Int) ≤ (cc : Int) := by omega
    have hLt' : Lt ≤ 2097152 := by omega
    have HSRC : Hid (∀ j, j < back → wr.cell? ⟨g, o + j, none⟩ = some (.int .u8 (((cpy back t made).getD (o + j) 0 : Nat) : Int))) := by
      intro j hj
      have := World.ownsRow.cells i4 rfl (o + j) _ (c8_get (by rw [hlen]; have := HO.out; omega))
      rwa [add0] at this
    have HM0 : Hid (madeLen wr R = L + t) := by show _ = _; rw [HD.out.madeLen, hlen]
    clear hLt ho i1 i2 i3 i4
    go_wp2_with fail
    go_quiet (fail)
    go_wp2_with fail
    go_loopw [8, 45] (fun _ iv wi => ∃ i, i ≤ back ∧ t + i ≤ n ∧ iv = .int .i64 (i : Int) ∧ Hid (Sd w0 wi R bs (cpy back (t + i) made) size) ∧ Below R w wi ∧ Hid (∀ j, j < back → wi.cell? ⟨g, o + j, none⟩ = some (.int .u8 (((cpy back t made).getD (o + j) 0 : Nat) : Int)))) (fun _ iv _ => back - (intOf iv).toNat)
    case atStart => exact ⟨0, Nat.zero_le _, ht, rfl, HD.out.later (drewN_below _ _ _), hbr.trans (drewN_below _ _ _), HSRC.out⟩
    case round =>
      obtain ⟨i, hi, hti, rfl, HDi, hbi, HSi⟩ := hrel
      by_cases hlt : i < back
      · have hcell := HSi.out i hlt
        have hlt' : (i : Int) < (back : Int) := by omega
        obtain ⟨a2, cp2, v2, j1, j2, j3, j4⟩ := HDi.out.box
        have hlen2 : (cpy back (t + i) made).length = L + (t + i) := by rw [cpy_len, HL.out]
        obtain ⟨cv, hcv⟩ : ∃ cv, cv = (cpy back t made).getD (o + i) 0 := ⟨_, rfl⟩
        rw [← hcv] at hcell
        have HCV : Hid (cpy back (t + (i + 1)) made = cpy back (t + i) made ++ [cv]) := by
          show _ = _
          rw [show t + (i + 1) = (t + i) + 1 by omega, cpy_succ, hlen2, hcv]
          have e : L + (t + i) - back = o + i := by have := HO.out; have := HLt.out; omega
          rw [e]
          congr 2
          obtain ⟨tl, htl⟩ := cpy_pre back i (cpy back t made)
          rw [Nat.add_comm t i, cpy_add, htl, getD_pre (by rw [hlen]; have := HO.out; have := HLt.out; omega)]
        have hcv8 : cv < 256 := by
          rw [hcv]
          exact HD.out.m8 _ (getD_mem _ _ (by rw [hlen]; have := HO.out; have := HLt.out; omega))
        clear hcv
        obtain ⟨Li, hLi⟩ : ∃ Li, Li = L + (t + i) := ⟨_, rfl⟩
        have j4o := j4
        have hv2 : v2.ownBlock ≠ some R := by
          intro e
          have := (j4.lt R e).1
          omega
        rw [hlen2, ← hLi] at j4
        obtain ⟨ad2, cc2, rfl⟩ := own_sl j4
        have e1 : wr.cell? ⟨R, 1, none⟩ = some (.slice ad2 Li cc2) := cell_of_block j1 rfl
        by_cases hu : t + i = n
        · have hue : Li = U := by have := HU.out; omega
          have HDn : Hid (Sd w0 wr R bs (cpy back n made) size) := by rw [← hu]; exact HDi.out
          clear hLi j1 j2 j3 j4 hlen2 j4o
          subst hue
          go_wp2_with fail
          rw [Exit.noGoto_normal]
          go_end0
          exact QOK _ hbi HDn
        · have hue : ¬ (Li : Int) = (U : Int) := by have := HU.out; omega
          have hul : Li + 1 ≤ 1048576 := by omega
          obtain ⟨i0, hi0, hz0, hz1, hz2⟩ := info_parts infoU8
          have HJ : Hid (wr.ownsRow (R + 1) 5 1 (.slice ad2 Li cc2) Li (c8 (cpy back (t + i) made))) := j4
          have HM : Hid (Li + 1 ≤ maxLen ∧ (Li + 1) * 1 ≤ 140737488355328) := ⟨by unfold maxLen; omega, by omega⟩
          have HB : Hid (R + 1 ≤ (wr.alloc (.cells #[.int .u8 (cv : Int)] 5)).heap.size) := by show _ ≤ _; have := HDi.out.lt; simp; omega
          have HSA : Hid (∀ v3 W1, W1.ownsRow (R + 1) 5 1 v3 (Li + 1) (c8 (cpy back (t + i) made) ++ [.int .u8 (cv : Int)]) → (wr.alloc (.cells #[.int .u8 (cv : Int)] 5)).grownBy W1 (Value.slice ad2 Li cc2).ownBlock →
              (v3.ownBlock = (Value.slice ad2 Li cc2).ownBlock ∨ (wr.alloc (.cells #[.int .u8 (cv : Int)] 5)).grownBy W1 none) →
              Sd w0 (W1.setCell ⟨R, 1, none⟩ v3) R bs (cpy back (t + (i + 1)) made) size ∧ Below R wr (W1.setCell ⟨R, 1, none⟩ v3) ∧ W1.cell? ⟨R, 1, none⟩ = some (.slice ad2 Li cc2) ∧ W1.frozen? ⟨R, 1, none⟩ = false ∧
              ∀ j, j < back → (W1.setCell ⟨R, 1, none⟩ v3).cell? ⟨g, o + j, none⟩ = some (.int .u8 (((cpy back t made).getD (o + j) 0 : Nat) : Int))) := by
            intro v3 W1 k1 k2 k3
            have k1' : W1.ownsRow (R + 1) 5 1 v3 ((cpy back (t + i) made).length + [cv].length) (c8 (cpy back (t + i) made) ++ c8 [cv]) := by rw [hlen2, ← hLi]; exact k1
            obtain ⟨q1, q2, q3, q4⟩ := sd_append HDi.out j1 j2 j3 j4o k1' (alloc_below wr _) k2 (fun c hc => by simp at hc; omega) (by rw [hlen2]; simp; omega)
            rw [HCV.out]
            refine ⟨q1, q2, q3, q4, fun j hj => ?_⟩
            rw [World.cell?_setCell_far _ _ _ _ (by simp; omega)]
            have hold := cell_later (alloc_below wr (.cells #[.int .u8 (cv : Int)] 5)) (HSi.out j hj)
            exact keep_cells (HJ.out.alloc _) k1 k2 k3 hold (fun _ => by have := HO.out; have := HLt.out; omega)
          clear j1 j2 j3 j4 j4o hlen2 hLi
          go_wp2_with (at_builtin; refine wpList_append_keep rfl (.tmp 60) (.tmp 62) 22 rfl (R + 1) 5 i0 (.int .u8 0) 1 Try.underlying22 hi0 hz0 hz1 hz2 rfl _ Li _ rfl (HJ.out.alloc _) ⟨wr.heap.size, 0, none⟩ 1 1 [.int .u8 (cv : Int)] rfl rfl (new_news wr [.int .u8 (cv : Int)] 5 (0, 0)) (c8_one [cv]) HM.out.1 HM.out.2 HB.out ?_; intro v3 W1 k1 k2 k3; have HS : Hid _ := HSA.out v3 W1 k1 k2 k3; have s3 := HS.out.2.2.1; have f3 := HS.out.2.2.2.1; obtain ⟨ad3, cc3, rfl⟩ := own_sl k1; clear k1 k2 k3)
          go_roundw
          case rel => exact ⟨i + 1, by omega, by omega, by go_num, HS.out.1, hbi.trans HS.out.2.1, HS.out.2.2.2.2⟩
          case measure => simp [intOf]; omega
      · have hge : ¬ (i : Int) < (back : Int) := by omega
        have hib : i = back := by omega
        subst hib
        have HML : Hid (madeLen wr R = L + (t + i)) := by show _ = _; rw [HDi.out.madeLen, cpy_len, HL.out]
        go_wp2_with fail
        go_roundw
        case rel => exact ⟨t + i, hti, HDi, hbi⟩
        case measure =>
          rw [HML.out, HM0.out]
          have := HK.out
          have := HU.out
          omega

theorem copy_any (w0 w : World) (R : Nat) (bs made : List Nat) (size n back : Nat) (hb : back ≤ 4294967295) (hn : n ≤ 64) (hm : made.length ≤ size) (hz : size ≤ 1048576) (h : Sd w0 w R bs made size) :
    Calls Try.prog 39 #[.pointer (some ⟨R, 0, none⟩), .int .i64 n, .int .i64 back] w fun e w' => Below R w w' ∧ match sCopy size made n back with
      | .ok m => e = .returned (.tuple #[]) ∧ Sd w0 w' R bs m size
      | .error c => e = gives c := by
  unfold sCopy
  by_cases h1 : back = 0 ∨ made.length < back
  · rw [if_pos h1]
    exact copy_no w0 w R bs made size n back h1 hb hn hm hz h
  rw [if_neg h1]
  by_cases h2 : size < made.length + n
  · rw [if_pos h2]
    exact copy_much w0 w R bs made size n back h1 hb hn hm hz h2 h
  rw [if_neg h2]
  exact copy_ok w0 w R bs made size n back h1 hb hn hm hz h2 h
end Go.Proofs.Ytkkignjenjdjiaa
