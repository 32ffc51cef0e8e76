/-
  The iterator over truths: it ranges over the iterator of bits.
-/
import Derived.Test.YtdglobonbhkheaaPlAa
import Derived.Test.YtdglobonbhkheaaBRnd
import Derived.Test.YtdglobonbhkheaaJ3
import Derived.Test.YtdglobonbhkheaaBox
namespace Go.Proofs.Ytdglobonbhkheaa
set_option linter.unusedVariables false
set_option linter.unusedSimpArgs false
open Go.RowKit Go.Shelf

attribute [local go_sem] Oper.semAt_some
/-- a truth -/
def tD (b : Bool) : Dat := ⟨0, bi b, { data := #[] }⟩
/-- truths with their numbers -/
def trP (l : List Bool) : List (Nat × Dat) := l.zipIdx.map fun p => (p.2, tD p.1)
theorem trP_len (l : List Bool) : (trP l).length = l.length := by simp [trP]
theorem trP_snoc (l : List Bool) (x : Bool) : trP (l ++ [x]) = trP l ++ [(l.length, tD x)] := by simp [trP, List.zipIdx_append]
theorem upto_pre {f : Nat → Bool} {k n : Nat} (h : k ≤ n) : trP (upto f k) <+: trP (upto f n) := by
  obtain ⟨d, rfl⟩ := Nat.exists_eq_add_of_le h
  clear h
  induction d with
  | zero => exact List.prefix_rfl
  | succ d ih => rw [← Nat.add_assoc, upto_succ, trP_snoc]; exact ih.trans (List.prefix_append _ _)
theorem bool_any (b : Bool) (w : World) : Calls Try.prog 57 #[.bool b] w fun e w' => e = .returned (dval (tD b)) ∧ Below w.heap.size w w' := by
  cases b
  · exact bool_f w
  · exact bool_t w
theorem round_any {n m : Nat} {P : Program} {l : Nat} {f : FuncId} {tmps : Array Value} {assign body : Code} {w : World} {R : Ending → World → Prop} (h : RoundIn Fence.wide n P l f tmps assign body w R) (k : Nat) : RoundIn (Fence.wide.inRound k) m P l f tmps assign body w R :=
  ⟨trivial, fun c cs _ => h.2 c cs (room_wide _)⟩
theorem round_wide {n m : Nat} {P : Program} {l : Nat} {f : FuncId} {tmps : Array Value} {assign body : Code} {w : World} {R : Ending → World → Prop} (h : RoundIn Fence.wide n P l f tmps assign body w R) : RoundIn Fence.wide m P l f tmps assign body w R :=
  ⟨trivial, fun c cs _ => h.2 c cs (room_wide _)⟩

/-- where the range over the bits stands; the iterator's own blocks begin at S -/
structure TrI (S l : Nat) (J : List (Nat × Dat) → (Nat → Prop) → World → Prop) (pre : List Bool) (Xi : Nat → Prop) (V : World) : Prop where
  ex : ∃ Xo : Nat → Prop, J (trP pre) Xo V ∧ (∀ b, Xi b → Xo b) ∧ (∀ b, S ≤ b → b < S + 4 → b < V.heap.size → Xo b)
  bf : V.heap[S]? = some (.cells #[.func (.yield l) #[] #[]] 70 (0, 0))
  bt : V.heap[S + 1]? = some (.cells #[.int .i64 ((pre.length : Nat) : Int)] 3 (0, 0))
  nx : ¬ Xi S ∧ ¬ Xi (S + 1)
  bd : ∀ b, Xi b → b < V.heap.size
  size : S + 2 ≤ V.heap.size
theorem TrI.stab {S l : Nat} {J : List (Nat × Dat) → (Nat → Prop) → World → Prop} (hJ : ∀ s X A C, J s X A → Chg S X A C → J s (addX X A.heap.size C.heap.size) C) {pre : List Bool} {Xi : Nat → Prop} {A C : World} (h : TrI S l J pre Xi A) (hc : Chg (S + 2) Xi A C) :
    TrI S l J pre (addX Xi A.heap.size C.heap.size) C := by
  obtain ⟨Xo, h1, h2, h3⟩ := h.ex
  have hs := h.size
  have keep : ∀ b, b < S + 2 → ¬ Xi b → C.heap[b]? = A.heap[b]? := fun b hb hx => by
    rcases hc.same b (by omega) hx with h | ⟨h, _⟩
    · exact h
    · omega
  refine ⟨⟨addX Xo A.heap.size C.heap.size, hJ _ _ _ _ h1 ⟨hc.os, hc.tape, hc.output, hc.size, fun b hb hx => (hc.same b hb (fun hi => hx (h2 b hi))).imp id (fun ⟨k1, k2⟩ => ⟨by omega, k2⟩)⟩, fun b hb => hb.imp (h2 b) id, fun b b1 b2 b3 => ?_⟩, (keep S (by omega) h.nx.1).trans h.bf, (keep (S + 1) (by omega) h.nx.2).trans h.bt, ⟨?_, ?_⟩, ?_, ?_⟩
  · rcases Nat.lt_or_ge b A.heap.size with h4 | h4
    · exact .inl (h3 b b1 b2 h4)
    · exact .inr ⟨h4, b3⟩
  · rintro (h4 | h4)
    · exact h.nx.1 h4
    · omega
  · rintro (h4 | h4)
    · exact h.nx.2 h4
    · omega
  · rintro b (h4 | h4)
    · have := h.bd b h4
      have := hc.size
      omega
    · omega
  · have := hc.size
    omega
/-- how a round's frame begins -/
def trAct (l Ba Bs S : Nat) (v : Int) (u : Value) : Act := { tmps := #[.func (.yield l) #[] #[], .pointer (some ⟨Ba, 0, none⟩), .pointer (some ⟨S, 0, none⟩), .pointer (some ⟨S + 1, 0, none⟩), .int .i64 v, .func (.func 93) #[] #[.pointer (some ⟨Bs, 0, none⟩)], .int .i64 v, undef, undef, undef, undef, undef, undef, undef, undef, undef], defers := [] }

/-- a round that went on -/
theorem tr_end {N S D l : Nat} {J : List (Nat × Dat) → (Nat → Prop) → World → Prop} (hJ : ∀ s X A C, J s X A → Chg S X A C → J s (addX X A.heap.size C.heap.size) C) (hNS : N ≤ S) {pre : List Bool} {b : Bool} {Xi Xo : Nat → Prop} {V V5 V6 : World}
    (hi : TrI S l J pre Xi V) (hb5 : Below V.heap.size V V5) (hsub : ∀ b, Xi b → Xo b) (hcov : ∀ b, S ≤ b → b < S + 4 → b < V.heap.size → Xo b) (hD : D = S + 2) (hsz : S + 4 ≤ V.heap.size)
    (hJ6 : J (trP pre ++ [(pre.length, tD b)]) (addX Xo V.heap.size V5.heap.size) V6) (hb6 : Below N V5 V6) (hx6 : ∀ b, addX Xo V.heap.size V5.heap.size b → V6.heap[b]? = V5.heap[b]?) :
    Stay N D Xi V (V6.setCell ⟨S + 1, 0, none⟩ (.int .i64 (((pre.length : Nat) : Int) + 1))) ∧ TrI S l J (pre ++ [b]) Xi (V6.setCell ⟨S + 1, 0, none⟩ (.int .i64 (((pre.length : Nat) : Int) + 1))) := by
  subst hD
  have same6 : ∀ k, Xo k → k < V.heap.size → V6.heap[k]? = V.heap[k]? := fun k h1 h2 => (hx6 k (.inl h1)).trans (hb5.block k h2)
  have h1 := (same6 (S + 1) (hcov _ (by omega) (by omega) (by omega)) (by omega)).trans hi.bt
  obtain ⟨s1, s2⟩ := store1 h1 (.int .i64 (((pre.length : Nat) : Int) + 1))
  have sz6 := hb6.size
  have sz5 := hb5.size
  have sz7 := s2.size
  refine ⟨⟨?_, ?_, ?_, ?_⟩, ⟨⟨addX Xo V.heap.size V5.heap.size, ?_, fun k hk => .inl (hsub k hk), fun k k1 k2 _ => .inl (hcov k k1 k2 (by omega))⟩, ?_, ?_, hi.nx, ?_, ?_⟩⟩
  · exact ((hb5.mono (by omega)).trans hb6).trans (s2.below (by omega))
  · intro k hk
    have hne : k ≠ S + 1 := fun e => hi.nx.2 (e ▸ hk)
    rw [s2.block k hne]
    exact same6 k (hsub k hk) (hi.bd k hk)
  · rw [s2.block _ (by omega)]
    exact same6 _ (hcov _ (by omega) (by omega) (by omega)) (by omega)
  · rw [s2.block _ (by omega)]
    exact same6 _ (hcov _ (by omega) (by omega) (by omega)) (by omega)
  · have hc : Chg S (addX Xo V.heap.size V5.heap.size) V6 (V6.setCell ⟨S + 1, 0, none⟩ (.int .i64 (((pre.length : Nat) : Int) + 1))) := ⟨s2.os, s2.tape, s2.output, Nat.le_of_eq s2.size, fun k _ hx => .inl (s2.block k (fun e => hx (e ▸ .inl (hcov _ (by omega) (by omega) (by omega)))))⟩
    have h := hJ _ _ _ _ hJ6 hc
    rw [← s2.size, addX_self] at h
    rw [trP_snoc]
    exact h
  · rw [s2.block _ (by omega)]
    exact (same6 S (hcov _ (by omega) (by omega) (by omega)) (by omega)).trans hi.bf
  · rw [s1, List.length_append, List.length_singleton]
    rfl
  · intro k hk
    have := hi.bd k hk
    omega
  · omega
/-- a round that left -/
theorem tr_ret {N S D l : Nat} {J : List (Nat × Dat) → (Nat → Prop) → World → Prop} {Jx : List (Nat × Dat) → World → Prop} {pre : List Bool} {b : Bool} {Xi Xo : Nat → Prop} {V V5 V6 : World}
    (hi : TrI S l J pre Xi V) (hNS : N ≤ S) (hb5 : Below V.heap.size V V5) (hsub : ∀ b, Xi b → Xo b) (hcov : ∀ b, S ≤ b → b < S + 4 → b < V.heap.size → Xo b) (hD : D = S + 2) (hsz : S + 4 ≤ V.heap.size)
    (hJx6 : Jx (trP pre ++ [(pre.length, tD b)]) V6) (hb6 : Below N V5 V6) (hx6 : ∀ b, addX Xo V.heap.size V5.heap.size b → V6.heap[b]? = V5.heap[b]?) :
    Stay N D Xi V V6 ∧ (Code.ret = Code.ret ∧ Jx (trP (pre ++ [b])) V6) := by
  subst hD
  have same6 : ∀ k, Xo k → k < V.heap.size → V6.heap[k]? = V.heap[k]? := fun k h1 h2 => (hx6 k (.inl h1)).trans (hb5.block k h2)
  exact ⟨⟨(hb5.mono (by omega)).trans hb6, fun k hk => same6 k (hsub k hk) (hi.bd k hk), same6 _ (hcov _ (by omega) (by omega) (by omega)) (by omega), same6 _ (hcov _ (by omega) (by omega) (by omega)) (by omega)⟩, rfl, by rw [trP_snoc]; exact hJx6⟩

set_option maxRecDepth 100000 in
set_option maxHeartbeats 4000000 in
theorem all2_seq (n : Nat) (hn : 6 ≤ n) (Ba Bs B len cap : Nat) (ad : Option Addr) (hlen8 : len ≤ 1048576) (w : World) (hI : BytesAt w.heap.size w ad len B) :
    SeqE n Try.prog 59 #[.pointer (some ⟨Ba, 0, none⟩)] (fun x : Nat × Dat => #[.int .i64 ((x.1 : Nat) : Int), dval x.2]) (fun ys => ys = trP (upto (bt B) (8 * len))) (fun pre => pre <+: trP (upto (bt B) (8 * len))) (fun pre x => pre.length < 8 * len ∧ x = (pre.length, tD (bt B pre.length))) (fun _ => False)
      (fun W => W.heap[Ba]? = some (.cells #[.func (.func 93) #[] #[.pointer (some ⟨Bs, 0, none⟩)]] 107 (0, 0)) ∧ W.cell? ⟨Bs, 0, none⟩ = some (.slice ad len cap)) w := by
  rintro l J Jx W hW ⟨hPa, hPs⟩ hJ hJx hY h0
  have ca := cell_of_block hPa (j := 0) rfl
  have hlta := lt_of_heap hPa
  have hlts : Bs < W.heap.size := block_lt_of_cell (a := ⟨Bs, 0, none⟩) (v := .slice ad len cap) (by rw [hPs])
  have hl8 : (len : Int) ≤ 1048576 := by omega
  refine callsIn_of_wp_marks Try.func59 rfl trivial ?_ rfl
  simp only [Try.ntmps59, List.size_toArray, List.length_cons, List.length_nil, Nat.reduceAdd, Nat.reduceSub, Array.replicate_succ, Array.replicate_zero, List.push_toArray, List.append_toArray, List.nil_append, List.cons_append]
  gi_wp2
  obtain ⟨V0, hV0⟩ : ∃ V0, V0 = (W.alloc (.cells #[.func (.yield l) #[] #[]] 70)).alloc (.cells #[.int .i64 0] 3) := ⟨_, rfl⟩
  have b0 : Below W.heap.size W V0 := by rw [hV0]; exact (alloc_below W _).alloc (by simp) _
  have s0 : V0.heap.size = W.heap.size + 2 := by rw [hV0]; simp
  have f0 : V0.heap[W.heap.size]? = some (.cells #[.func (.yield l) #[] #[]] 70 (0, 0)) := by rw [hV0]; exact below_at (alloc_below _ _) (heap_new W _)
  have t0 : V0.heap[W.heap.size + 1]? = some (.cells #[.int .i64 0] 3 (0, 0)) := by rw [hV0]; exact heap2_new W _ _
  have i0 : TrI W.heap.size l J [] (fun _ => False) V0 := ⟨⟨_, hJ _ _ _ _ h0 (Chg.of_below b0), fun b h => h.elim, fun b b1 b2 b3 => .inr ⟨b1, b3⟩⟩, f0, t0, ⟨id, id⟩, fun b h => h.elim, by omega⟩
  rw [← hV0]
  have hba := cell_later b0 hPs
  have SQ := bits2_seq (n - 1) (by omega) Bs B len cap ad hlen8 w hI (fun _ => False)
  refine range_e (by omega) (gf := 93) rfl (Go.Proofs.enters_of Try.func93 (by kernel_rfl) rfl) SQ (fun V hV => cell_later hV hba) (hW.trans (b0.mono hW.size)) (fun _ => rfl)
    (TrI W.heap.size l J) (fun c pre V => c = .ret ∧ Jx (trP pre) V) (fun s X A C h hb => h.stab hJ (hb.mono (by omega))) (fun c s V b o o' h hb ho hc => ⟨h.1, hJx _ _ _ _ _ h.2 (by omega) ho hc⟩) (fun s X X' A h hs => ⟨by obtain ⟨Xo, k1, k2, k3⟩ := h.ex; exact ⟨Xo, k1, fun b hb => k2 b (hs b hb), k3⟩, h.bf, h.bt, ⟨fun k => h.nx.1 (hs _ k), fun k => h.nx.2 (hs _ k)⟩, fun b hb => h.bd b (hs b hb), h.size⟩) (fun s X A h => h.bd) i0
    (fun x X a1 V => a1 = trAct l Ba Bs W.heap.size (bi x) undef) (fun x X a1 V b o o' h _ _ _ => h) ?assign ?body ?done ?stop
  case assign =>
    rintro l' pre x X V K hi hK
    gi_wp2
    exact hK _ _ (Below.refl _ _) rfl
  case body =>
    rintro pre x X a1 V hsz hnD hnD1 hi rfl ⟨hlen, rfl⟩
    obtain ⟨Xo, hJv, hsub, hcov⟩ := hi.ex
    have cf := cell_of_block hi.bf (j := 0) rfl
    have ct := cell_of_block hi.bt (j := 0) rfl
    have ft := frozen_of_block (j := 0) hi.bt
    rw [s0] at hsz hnD hnD1
    have hdr : Below V.heap.size V V.drew := ⟨rfl, rfl, rfl, Nat.le_refl _, fun _ _ => rfl⟩
    have HB : ∀ W, Calls Try.prog 57 #[.bool (bi (bt B pre.length) == 1)] W fun e w' => e = .returned (dval (tD (bt B pre.length))) ∧ Below W.heap.size W w' := fun W => by
      have h := bool_any (bt B pre.length) W
      rwa [show (bi (bt B pre.length) == 1) = bt B pre.length by unfold bi; cases bt B pre.length <;> rfl]
    have hbx : bi (bt B pre.length) = 0 ∨ bi (bt B pre.length) = 1 := by unfold bi; split <;> simp
    unfold trAct
    gi_wp2
    refine region_inRound (F := Fence.wide) _ (by kernel_rfl) (by intro i o c ho hc; rcases i with _|_|_|_|_|_|_|i <;> simp at ho <;> subst ho <;> cases hc) ?_
    refine wpAnyIn_take (i := 2) (v := ?_) rfl rfl (by kernel_rfl) (by kernel_rfl) (by kernel_rfl) (fun c a w h => h) ⟨Or.inl ⟨by rfl, ?_⟩, fun _ => rfl⟩ ?_
    rotate_left
    · intro w; go_simp; try with_reducible rfl
    refine wpAnyIn_take (i := 3) (v := ?_) rfl rfl (by kernel_rfl) (by kernel_rfl) (by kernel_rfl) (fun c a w h => h) ⟨Or.inl ⟨by rfl, ?_⟩, fun _ => rfl⟩ ?_
    rotate_left
    · intro w; go_simp; try with_reducible rfl
    refine wpAnyIn_ready (rs := [0, 1, 4]) (by kernel_rfl) (by simp) ?_
    refine AllReadyIn.cons rfl (fun K hK => ?_) (AllReadyIn.cons rfl (fun K hK => ?_) (AllReadyIn.cons rfl (fun K hK => ?_) AllReadyIn.nil))
    · skip
      go_simp
      refine hK _ _ ?_
      clear hK K
      refine wpAnyIn_ready (rs := [1, 4]) (by kernel_rfl) (by simp) ?_
      refine AllReadyIn.cons rfl (fun K hK => ?_) (AllReadyIn.cons rfl (fun K hK => ?_) AllReadyIn.nil)
      · skip
        go_simp
        refine hK _ _ ?_
        clear hK K
        refine wpAnyIn_ready (rs := [4]) (by kernel_rfl) (by simp) ?_
        refine AllReadyIn.cons rfl (fun K hK => ?_) AllReadyIn.nil
        · skip
          go_simp
          refine ⟨trivial, fun _ => by omega, (callsIn_wide.2 (HB _)).mono ?_⟩
          rintro e V5 ⟨rfl, hb5'⟩
          have hb5 : Below V.heap.size V V5 := hdr.trans hb5'
          have cf5 := cell_of_block (below_at hb5 hi.bf) (j := 0) rfl
          have ct5 := cell_of_block (below_at hb5 hi.bt) (j := 0) rfl
          refine hK _ _ ?_
          clear hK K
          refine wpAnyIn_ready (rs := [5]) (by kernel_rfl) (by simp) ?_
          refine AllReadyIn.cons rfl (fun K hK => ?_) AllReadyIn.nil
          have hJ5 := hJ _ _ _ _ hJv (Chg.of_below hb5)
          obtain ⟨fn, tmps, assign, body, hy, hR⟩ := hY (trP pre) (pre.length, tD (bt B pre.length)) _ V5 hJ5 ⟨by rw [trP_len]; exact hlen, by rw [trP_len]⟩
          go_simp
          refine ⟨fun _ => by omega, (round_wide hR).mono ?_⟩
          have cov5 : ∀ b, W.heap.size ≤ b → b < W.heap.size + 4 → addX Xo V.heap.size V5.heap.size b := fun b h1 h2 => .inl (hcov b h1 h2 (by omega))
          have sub5 : ∀ b, X b → addX Xo V.heap.size V5.heap.size b := fun b h => .inl (hsub b h)
          rintro e V6 (⟨rfl, hJ6, hb6, hx6⟩ | ⟨rfl, hJx6, hb6, hx6⟩)
          · refine hK _ _ ?_
            clear hK K hR hy
            refine wpAnyIn_ready (rs := [6]) (by kernel_rfl) (by simp) ?_
            refine AllReadyIn.cons rfl (fun K hK => ?_) AllReadyIn.nil
            go_simp
            refine hK _ _ ?_
            clear hK K
            refine wpAnyIn_done (by kernel_rfl) ?_ _
            have bt6 := (hx6 _ (cov5 (W.heap.size + 1) (by omega) (by omega))).trans (below_at hb5 hi.bt)
            have ct6 := cell_of_block bt6 (j := 0) rfl
            have ft6 := frozen_of_block (j := 0) bt6
            have HF : Hid _ := tr_end (D := V0.heap.size) hJ hW.size hi hb5 hsub hcov s0 (by omega) hJ6 hb6 hx6
            clear hJ5 hJ6 hb6 hx6 hi hJv hb5 hb5' bt6
            gi_wp2
            exact HF.out
          · have HF : Hid _ := tr_ret (D := W.heap.size + 1 + 1) hi hW.size hb5 hsub hcov rfl (by omega) hJx6 hb6 hx6
            refine hK _ _ ?_
            clear hK K hR hy
            refine wpAnyIn_ready (rs := [6]) (by kernel_rfl) (by simp) ?_
            refine AllReadyIn.cons rfl (fun K hK => ?_) AllReadyIn.nil
            go_simp
            refine hK _ _ ?_
            clear hK K
            refine wpAnyIn_done (by kernel_rfl) ?_ _
            clear hJ5 hb6 hx6 hi hJv hb5 hb5'
            gi_wp2
            exact ⟨HF.out.1, rfl, HF.out.2.2⟩
      · skip
        go_simp
        refine ⟨trivial, fun _ => by omega, (callsIn_wide.2 (HB _)).mono ?_⟩
        rintro e V5 ⟨rfl, hb5'⟩
        have hb5 : Below V.heap.size V V5 := hdr.trans hb5'
        have cf5 := cell_of_block (below_at hb5 hi.bf) (j := 0) rfl
        have ct5 := cell_of_block (below_at hb5 hi.bt) (j := 0) rfl
        refine hK _ _ ?_
        clear hK K
        refine wpAnyIn_ready (rs := [1]) (by kernel_rfl) (by simp) ?_
        refine AllReadyIn.cons rfl (fun K hK => ?_) AllReadyIn.nil
        · skip
          go_simp
          refine hK _ _ ?_
          clear hK K
          refine wpAnyIn_ready (rs := [5]) (by kernel_rfl) (by simp) ?_
          refine AllReadyIn.cons rfl (fun K hK => ?_) AllReadyIn.nil
          have hJ5 := hJ _ _ _ _ hJv (Chg.of_below hb5)
          obtain ⟨fn, tmps, assign, body, hy, hR⟩ := hY (trP pre) (pre.length, tD (bt B pre.length)) _ V5 hJ5 ⟨by rw [trP_len]; exact hlen, by rw [trP_len]⟩
          go_simp
          refine ⟨fun _ => by omega, (round_wide hR).mono ?_⟩
          have cov5 : ∀ b, W.heap.size ≤ b → b < W.heap.size + 4 → addX Xo V.heap.size V5.heap.size b := fun b h1 h2 => .inl (hcov b h1 h2 (by omega))
          have sub5 : ∀ b, X b → addX Xo V.heap.size V5.heap.size b := fun b h => .inl (hsub b h)
          rintro e V6 (⟨rfl, hJ6, hb6, hx6⟩ | ⟨rfl, hJx6, hb6, hx6⟩)
          · refine hK _ _ ?_
            clear hK K hR hy
            refine wpAnyIn_ready (rs := [6]) (by kernel_rfl) (by simp) ?_
            refine AllReadyIn.cons rfl (fun K hK => ?_) AllReadyIn.nil
            go_simp
            refine hK _ _ ?_
            clear hK K
            refine wpAnyIn_done (by kernel_rfl) ?_ _
            have bt6 := (hx6 _ (cov5 (W.heap.size + 1) (by omega) (by omega))).trans (below_at hb5 hi.bt)
            have ct6 := cell_of_block bt6 (j := 0) rfl
            have ft6 := frozen_of_block (j := 0) bt6
            have HF : Hid _ := tr_end (D := V0.heap.size) hJ hW.size hi hb5 hsub hcov s0 (by omega) hJ6 hb6 hx6
            clear hJ5 hJ6 hb6 hx6 hi hJv hb5 hb5' bt6
            gi_wp2
            exact HF.out
          · have HF : Hid _ := tr_ret (D := W.heap.size + 1 + 1) hi hW.size hb5 hsub hcov rfl (by omega) hJx6 hb6 hx6
            refine hK _ _ ?_
            clear hK K hR hy
            refine wpAnyIn_ready (rs := [6]) (by kernel_rfl) (by simp) ?_
            refine AllReadyIn.cons rfl (fun K hK => ?_) AllReadyIn.nil
            go_simp
            refine hK _ _ ?_
            clear hK K
            refine wpAnyIn_done (by kernel_rfl) ?_ _
            clear hJ5 hb6 hx6 hi hJv hb5 hb5'
            gi_wp2
            exact ⟨HF.out.1, rfl, HF.out.2.2⟩
    · skip
      go_simp
      refine hK _ _ ?_
      clear hK K
      refine wpAnyIn_ready (rs := [0, 4]) (by kernel_rfl) (by simp) ?_
      refine AllReadyIn.cons rfl (fun K hK => ?_) (AllReadyIn.cons rfl (fun K hK => ?_) AllReadyIn.nil)
      · skip
        go_simp
        refine hK _ _ ?_
        clear hK K
        refine wpAnyIn_ready (rs := [4]) (by kernel_rfl) (by simp) ?_
        refine AllReadyIn.cons rfl (fun K hK => ?_) AllReadyIn.nil
        · skip
          go_simp
          refine ⟨trivial, fun _ => by omega, (callsIn_wide.2 (HB _)).mono ?_⟩
          rintro e V5 ⟨rfl, hb5'⟩
          have hb5 : Below V.heap.size V V5 := hdr.trans hb5'
          have cf5 := cell_of_block (below_at hb5 hi.bf) (j := 0) rfl
          have ct5 := cell_of_block (below_at hb5 hi.bt) (j := 0) rfl
          refine hK _ _ ?_
          clear hK K
          refine wpAnyIn_ready (rs := [5]) (by kernel_rfl) (by simp) ?_
          refine AllReadyIn.cons rfl (fun K hK => ?_) AllReadyIn.nil
          have hJ5 := hJ _ _ _ _ hJv (Chg.of_below hb5)
          obtain ⟨fn, tmps, assign, body, hy, hR⟩ := hY (trP pre) (pre.length, tD (bt B pre.length)) _ V5 hJ5 ⟨by rw [trP_len]; exact hlen, by rw [trP_len]⟩
          go_simp
          refine ⟨fun _ => by omega, (round_wide hR).mono ?_⟩
          have cov5 : ∀ b, W.heap.size ≤ b → b < W.heap.size + 4 → addX Xo V.heap.size V5.heap.size b := fun b h1 h2 => .inl (hcov b h1 h2 (by omega))
          have sub5 : ∀ b, X b → addX Xo V.heap.size V5.heap.size b := fun b h => .inl (hsub b h)
          rintro e V6 (⟨rfl, hJ6, hb6, hx6⟩ | ⟨rfl, hJx6, hb6, hx6⟩)
          · refine hK _ _ ?_
            clear hK K hR hy
            refine wpAnyIn_ready (rs := [6]) (by kernel_rfl) (by simp) ?_
            refine AllReadyIn.cons rfl (fun K hK => ?_) AllReadyIn.nil
            go_simp
            refine hK _ _ ?_
            clear hK K
            refine wpAnyIn_done (by kernel_rfl) ?_ _
            have bt6 := (hx6 _ (cov5 (W.heap.size + 1) (by omega) (by omega))).trans (below_at hb5 hi.bt)
            have ct6 := cell_of_block bt6 (j := 0) rfl
            have ft6 := frozen_of_block (j := 0) bt6
            have HF : Hid _ := tr_end (D := V0.heap.size) hJ hW.size hi hb5 hsub hcov s0 (by omega) hJ6 hb6 hx6
            clear hJ5 hJ6 hb6 hx6 hi hJv hb5 hb5' bt6
            gi_wp2
            exact HF.out
          · have HF : Hid _ := tr_ret (D := W.heap.size + 1 + 1) hi hW.size hb5 hsub hcov rfl (by omega) hJx6 hb6 hx6
            refine hK _ _ ?_
            clear hK K hR hy
            refine wpAnyIn_ready (rs := [6]) (by kernel_rfl) (by simp) ?_
            refine AllReadyIn.cons rfl (fun K hK => ?_) AllReadyIn.nil
            go_simp
            refine hK _ _ ?_
            clear hK K
            refine wpAnyIn_done (by kernel_rfl) ?_ _
            clear hJ5 hb6 hx6 hi hJv hb5 hb5'
            gi_wp2
            exact ⟨HF.out.1, rfl, HF.out.2.2⟩
      · skip
        go_simp
        refine ⟨trivial, fun _ => by omega, (callsIn_wide.2 (HB _)).mono ?_⟩
        rintro e V5 ⟨rfl, hb5'⟩
        have hb5 : Below V.heap.size V V5 := hdr.trans hb5'
        have cf5 := cell_of_block (below_at hb5 hi.bf) (j := 0) rfl
        have ct5 := cell_of_block (below_at hb5 hi.bt) (j := 0) rfl
        refine hK _ _ ?_
        clear hK K
        refine wpAnyIn_ready (rs := [0]) (by kernel_rfl) (by simp) ?_
        refine AllReadyIn.cons rfl (fun K hK => ?_) AllReadyIn.nil
        · skip
          go_simp
          refine hK _ _ ?_
          clear hK K
          refine wpAnyIn_ready (rs := [5]) (by kernel_rfl) (by simp) ?_
          refine AllReadyIn.cons rfl (fun K hK => ?_) AllReadyIn.nil
          have hJ5 := hJ _ _ _ _ hJv (Chg.of_below hb5)
          obtain ⟨fn, tmps, assign, body, hy, hR⟩ := hY (trP pre) (pre.length, tD (bt B pre.length)) _ V5 hJ5 ⟨by rw [trP_len]; exact hlen, by rw [trP_len]⟩
          go_simp
          refine ⟨fun _ => by omega, (round_wide hR).mono ?_⟩
          have cov5 : ∀ b, W.heap.size ≤ b → b < W.heap.size + 4 → addX Xo V.heap.size V5.heap.size b := fun b h1 h2 => .inl (hcov b h1 h2 (by omega))
          have sub5 : ∀ b, X b → addX Xo V.heap.size V5.heap.size b := fun b h => .inl (hsub b h)
          rintro e V6 (⟨rfl, hJ6, hb6, hx6⟩ | ⟨rfl, hJx6, hb6, hx6⟩)
          · refine hK _ _ ?_
            clear hK K hR hy
            refine wpAnyIn_ready (rs := [6]) (by kernel_rfl) (by simp) ?_
            refine AllReadyIn.cons rfl (fun K hK => ?_) AllReadyIn.nil
            go_simp
            refine hK _ _ ?_
            clear hK K
            refine wpAnyIn_done (by kernel_rfl) ?_ _
            have bt6 := (hx6 _ (cov5 (W.heap.size + 1) (by omega) (by omega))).trans (below_at hb5 hi.bt)
            have ct6 := cell_of_block bt6 (j := 0) rfl
            have ft6 := frozen_of_block (j := 0) bt6
            have HF : Hid _ := tr_end (D := V0.heap.size) hJ hW.size hi hb5 hsub hcov s0 (by omega) hJ6 hb6 hx6
            clear hJ5 hJ6 hb6 hx6 hi hJv hb5 hb5' bt6
            gi_wp2
            exact HF.out
          · have HF : Hid _ := tr_ret (D := W.heap.size + 1 + 1) hi hW.size hb5 hsub hcov rfl (by omega) hJx6 hb6 hx6
            refine hK _ _ ?_
            clear hK K hR hy
            refine wpAnyIn_ready (rs := [6]) (by kernel_rfl) (by simp) ?_
            refine AllReadyIn.cons rfl (fun K hK => ?_) AllReadyIn.nil
            go_simp
            refine hK _ _ ?_
            clear hK K
            refine wpAnyIn_done (by kernel_rfl) ?_ _
            clear hJ5 hb6 hx6 hi hJv hb5 hb5'
            gi_wp2
            exact ⟨HF.out.1, rfl, HF.out.2.2⟩
    · skip
      go_simp
      refine ⟨trivial, fun _ => by omega, (callsIn_wide.2 (HB _)).mono ?_⟩
      rintro e V5 ⟨rfl, hb5'⟩
      have hb5 : Below V.heap.size V V5 := hdr.trans hb5'
      have cf5 := cell_of_block (below_at hb5 hi.bf) (j := 0) rfl
      have ct5 := cell_of_block (below_at hb5 hi.bt) (j := 0) rfl
      refine hK _ _ ?_
      clear hK K
      refine wpAnyIn_ready (rs := [0, 1]) (by kernel_rfl) (by simp) ?_
      refine AllReadyIn.cons rfl (fun K hK => ?_) (AllReadyIn.cons rfl (fun K hK => ?_) AllReadyIn.nil)
      · skip
        go_simp
        refine hK _ _ ?_
        clear hK K
        refine wpAnyIn_ready (rs := [1]) (by kernel_rfl) (by simp) ?_
        refine AllReadyIn.cons rfl (fun K hK => ?_) AllReadyIn.nil
        · skip
          go_simp
          refine hK _ _ ?_
          clear hK K
          refine wpAnyIn_ready (rs := [5]) (by kernel_rfl) (by simp) ?_
          refine AllReadyIn.cons rfl (fun K hK => ?_) AllReadyIn.nil
          have hJ5 := hJ _ _ _ _ hJv (Chg.of_below hb5)
          obtain ⟨fn, tmps, assign, body, hy, hR⟩ := hY (trP pre) (pre.length, tD (bt B pre.length)) _ V5 hJ5 ⟨by rw [trP_len]; exact hlen, by rw [trP_len]⟩
          go_simp
          refine ⟨fun _ => by omega, (round_wide hR).mono ?_⟩
          have cov5 : ∀ b, W.heap.size ≤ b → b < W.heap.size + 4 → addX Xo V.heap.size V5.heap.size b := fun b h1 h2 => .inl (hcov b h1 h2 (by omega))
          have sub5 : ∀ b, X b → addX Xo V.heap.size V5.heap.size b := fun b h => .inl (hsub b h)
          rintro e V6 (⟨rfl, hJ6, hb6, hx6⟩ | ⟨rfl, hJx6, hb6, hx6⟩)
          · refine hK _ _ ?_
            clear hK K hR hy
            refine wpAnyIn_ready (rs := [6]) (by kernel_rfl) (by simp) ?_
            refine AllReadyIn.cons rfl (fun K hK => ?_) AllReadyIn.nil
            go_simp
            refine hK _ _ ?_
            clear hK K
            refine wpAnyIn_done (by kernel_rfl) ?_ _
            have bt6 := (hx6 _ (cov5 (W.heap.size + 1) (by omega) (by omega))).trans (below_at hb5 hi.bt)
            have ct6 := cell_of_block bt6 (j := 0) rfl
            have ft6 := frozen_of_block (j := 0) bt6
            have HF : Hid _ := tr_end (D := V0.heap.size) hJ hW.size hi hb5 hsub hcov s0 (by omega) hJ6 hb6 hx6
            clear hJ5 hJ6 hb6 hx6 hi hJv hb5 hb5' bt6
            gi_wp2
            exact HF.out
          · have HF : Hid _ := tr_ret (D := W.heap.size + 1 + 1) hi hW.size hb5 hsub hcov rfl (by omega) hJx6 hb6 hx6
            refine hK _ _ ?_
            clear hK K hR hy
            refine wpAnyIn_ready (rs := [6]) (by kernel_rfl) (by simp) ?_
            refine AllReadyIn.cons rfl (fun K hK => ?_) AllReadyIn.nil
            go_simp
            refine hK _ _ ?_
            clear hK K
            refine wpAnyIn_done (by kernel_rfl) ?_ _
            clear hJ5 hb6 hx6 hi hJv hb5 hb5'
            gi_wp2
            exact ⟨HF.out.1, rfl, HF.out.2.2⟩
      · skip
        go_simp
        refine hK _ _ ?_
        clear hK K
        refine wpAnyIn_ready (rs := [0]) (by kernel_rfl) (by simp) ?_
        refine AllReadyIn.cons rfl (fun K hK => ?_) AllReadyIn.nil
        · skip
          go_simp
          refine hK _ _ ?_
          clear hK K
          refine wpAnyIn_ready (rs := [5]) (by kernel_rfl) (by simp) ?_
          refine AllReadyIn.cons rfl (fun K hK => ?_) AllReadyIn.nil
          have hJ5 := hJ _ _ _ _ hJv (Chg.of_below hb5)
          obtain ⟨fn, tmps, assign, body, hy, hR⟩ := hY (trP pre) (pre.length, tD (bt B pre.length)) _ V5 hJ5 ⟨by rw [trP_len]; exact hlen, by rw [trP_len]⟩
          go_simp
          refine ⟨fun _ => by omega, (round_wide hR).mono ?_⟩
          have cov5 : ∀ b, W.heap.size ≤ b → b < W.heap.size + 4 → addX Xo V.heap.size V5.heap.size b := fun b h1 h2 => .inl (hcov b h1 h2 (by omega))
          have sub5 : ∀ b, X b → addX Xo V.heap.size V5.heap.size b := fun b h => .inl (hsub b h)
          rintro e V6 (⟨rfl, hJ6, hb6, hx6⟩ | ⟨rfl, hJx6, hb6, hx6⟩)
          · refine hK _ _ ?_
            clear hK K hR hy
            refine wpAnyIn_ready (rs := [6]) (by kernel_rfl) (by simp) ?_
            refine AllReadyIn.cons rfl (fun K hK => ?_) AllReadyIn.nil
            go_simp
            refine hK _ _ ?_
            clear hK K
            refine wpAnyIn_done (by kernel_rfl) ?_ _
            have bt6 := (hx6 _ (cov5 (W.heap.size + 1) (by omega) (by omega))).trans (below_at hb5 hi.bt)
            have ct6 := cell_of_block bt6 (j := 0) rfl
            have ft6 := frozen_of_block (j := 0) bt6
            have HF : Hid _ := tr_end (D := V0.heap.size) hJ hW.size hi hb5 hsub hcov s0 (by omega) hJ6 hb6 hx6
            clear hJ5 hJ6 hb6 hx6 hi hJv hb5 hb5' bt6
            gi_wp2
            exact HF.out
          · have HF : Hid _ := tr_ret (D := W.heap.size + 1 + 1) hi hW.size hb5 hsub hcov rfl (by omega) hJx6 hb6 hx6
            refine hK _ _ ?_
            clear hK K hR hy
            refine wpAnyIn_ready (rs := [6]) (by kernel_rfl) (by simp) ?_
            refine AllReadyIn.cons rfl (fun K hK => ?_) AllReadyIn.nil
            go_simp
            refine hK _ _ ?_
            clear hK K
            refine wpAnyIn_done (by kernel_rfl) ?_ _
            clear hJ5 hb6 hx6 hi hJv hb5 hb5'
            gi_wp2
            exact ⟨HF.out.1, rfl, HF.out.2.2⟩
  case done =>
    rintro D ys X V hD rfl hi hDf
    obtain ⟨Xo, hJv, _, _⟩ := hi.ex
    gi_wp2
    refine ⟨by simp, .inl ⟨_, _, rfl, run_takeDeferred hDf, ?_⟩⟩
    refine ⟨_, results_none rfl _ _ _, ⟨_, rfl⟩, .inl ⟨_, Xo, rfl, ?_⟩⟩
    have h := hJ _ _ _ _ hJv (Chg.put (.deferred none) (Nat.le_refl D) hDf rfl |>.mono (show W.heap.size ≤ D by omega))
    have e : (V.putObj D (.deferred none)).heap.size = V.heap.size := by simp
    rw [e, addX_self] at h
    exact h
  case stop =>
    rintro D c pre V hD ⟨k, hk, rfl⟩ ⟨rfl, hx⟩ hDf
    gi_wp2
    refine ⟨by simp, .inl ⟨_, _, rfl, run_takeDeferred hDf, ?_⟩⟩
    refine ⟨_, results_none rfl _ _ _, ⟨_, rfl⟩, .inr ⟨_, upto_pre hk, ?_⟩⟩
    exact hJx _ _ _ _ _ hx (by omega) hDf rfl
end Go.Proofs.Ytdglobonbhkheaa
