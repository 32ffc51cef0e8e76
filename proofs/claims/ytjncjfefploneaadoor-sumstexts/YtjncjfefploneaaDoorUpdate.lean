/-
  What sums.Update and sums.Crc answer, for every sum and any bytes.
-/
import Derived.Test.YtjncjfefploneaaDoorIter
import Derived.Test.YtjncjfefploneaaDoorTake
namespace Go.Proofs.YtjncjfefploneaaDoor
open Go.RowKit Go.Shelf

attribute [local go_sem] Oper.semAt_some

theorem boxed_kept {A C : World} {b : Nat} {t : TypeId} {v : Value} {row : Option Nat} (h : Boxed A b t v) (hg : A.grownBy C row) (hr : ∀ r, row = some r → ∃ o : Obj, A.heap[r]? = some o ∧ o.isCells = false) : Boxed C b t v :=
  (grownBy_keeps_cells hg hr h rfl).trans h

/-- the bytes of a list, by their places -/
def bf (l : List Nat) (i : Nat) : Byte := ⟨l.getD i 0 % 256, Nat.mod_lt _ (by omega)⟩
theorem bf_list {l : List Nat} (h : B8 l) : (upto (bf l) l.length).map Subtype.val = l := by
  apply List.ext_getElem
  · simp [upto_length]
  · intro i h1 h2
    have : l[i] < 256 := h _ (List.getElem_mem _)
    simp [upto, bf, List.getD, List.getElem?_eq_getElem h2, Nat.mod_eq_of_lt this]
theorem bf_bytes {w : World} {ad : Option Addr} {len cap : Nat} {l : List Nat} (h : Src w ad len cap (c8 l)) (hB : B8 l) : BytesAt w.heap.size w ad len (bf l) := by
  intro j hj
  obtain ⟨g, off, e, hc⟩ := src_at h hj
  refine ⟨g, off, e, World.block_lt_of_cell? _ _ hc, ?_⟩
  rw [hc]
  have hl : l.length = len := by have := h.1; rwa [c8_len] at this
  have hlt : l.getD j 0 < 256 := by
    have hj' : j < l.length := by omega
    rw [List.getD, List.getElem?_eq_getElem hj']
    exact hB _ (List.getElem_mem _)
  simp only [bf]
  rw [Nat.mod_eq_of_lt hlt]
theorem bytes_b8 (pre : List Byte) : B8 (pre.map Subtype.val) := by
  intro c hc
  obtain ⟨x, _, rfl⟩ := List.mem_map.1 hc
  exact x.2

theorem not_u32 (s : Nat) (hs : s < 4294967296) : bits .xor .u32 IntKind.u32.max (s : Int) = ((s ^^^ 4294967295 : Nat) : Int) := by
  have := u32_xor_nat 4294967295 s (by omega) hs
  rw [Nat.xor_comm] at this
  exact this

set_option maxRecDepth 100000 in
set_option maxHeartbeats 4000000 in
theorem update_any (s : Nat) (ad : Option Addr) (len cap : Nat) (l : List Nat) (w : World) (hs : s < 4294967296) (hlen : len ≤ 1048576) (hsrc : Src w ad len cap (c8 l)) (hB : B8 l) (ht : Tab w) :
    Calls Tryd.prog 14 #[.int .u32 s, .slice ad len cap] w fun e w' => e = .returned (.int .u32 ((upd s l : Nat) : Int)) ∧ Below w.heap.size w w' := by
  have hpos := ht.pos
  have hll : l.length = len := by have := hsrc.1; rwa [c8_len] at this
  have hM : (s ^^^ 4294967295) < 4294967296 := xor_lt hs (by omega)
  have sg : IntKind.u32.signed = false := rfl
  have a1 := not_u32 s hs
  have HE : Hid (upd s l = tks (s ^^^ 4294967295) l ^^^ 4294967295) := rfl
  obtain ⟨s0, hs0⟩ : ∃ s0 : Nat, s0 = s ^^^ 4294967295 := ⟨_, rfl⟩
  rw [← hs0] at hM a1 HE
  have BB := bf_bytes hsrc hB
  have q1 : Boxed ((w.alloc (.cells #[.int .u32 s0] 38)).alloc (.cells #[.slice ad len cap] 22)) w.heap.size 38 (.int .u32 s0) := (Boxed.new w 38 _).alloc _
  have q2 : ((w.alloc (.cells #[.int .u32 s0] 38)).alloc (.cells #[.slice ad len cap] 22)).cell? ⟨w.heap.size + 1, 0, none⟩ = some (.slice ad len cap) := by
    simp
  have q3 : Below w.heap.size w ((w.alloc (.cells #[.int .u32 s0] 38)).alloc (.cells #[.slice ad len cap] 22)) := ((Below.refl _ w).alloc (Nat.le_refl _) _).alloc (by simp) _
  have q4 : ((w.alloc (.cells #[.int .u32 s0] 38)).alloc (.cells #[.slice ad len cap] 22)).heap.size = w.heap.size + 2 := by simp
  clear hs0
  refine (callsIn_wide (n := 5)).1 ?_
  refine callsIn_of_wp_marks Tryd.func14 rfl trivial ?_ rfl
  simp only [Tryd.ntmps14, List.size_toArray, List.length_cons, List.length_nil, Nat.reduceAdd, Nat.reduceSub, Array.replicate_succ, Array.replicate_zero, List.push_toArray, List.append_toArray, List.nil_append, List.cons_append]
  gi_wp2_with (refine ⟨trivial, ?_⟩; gi_at_call 22; refine (callsIn_wide.2 (values_v ad len cap _)).mono ?_; rintro e w1 ⟨rfl, hw1⟩; subst hw1)
  generalize ((w.alloc (.cells #[.int .u32 s0] 38)).alloc (.cells #[.slice ad len cap] 22)) = W2 at *
  refine wpIn_rangeFunc_ownF rfl (by omega) (gf := 26) (lb := #[.pointer (some ⟨w.heap.size + 1, 0, none⟩)]) rfl trivial (enters_of Tryd.func26 (by kernel_rfl) rfl)
    (values_stops Fence.wide 4 trivial rfl (by omega) (w.heap.size + 1) w.heap.size len cap ad (bf l) hlen W2 (by omega) (by omega) q2 (BB.below q3)) belowK_t (belowK_b (by omega)) (Below.refl _ _) (fun _ => rfl)
    (fun pre X => Boxed X w.heap.size 38 (.int .u32 ((tks s0 (pre.map Subtype.val) : Nat) : Int)) ∧ Below w.heap.size w X) (fun _ _ _ => False)
    (fun s A C row hs hg hr => ⟨boxed_kept hs.1 hg (fun r e => (hr r e).2), ownFrom_below (β := Unit) (Nat.le_refl _) (by omega) () A C row hs.2 hg hr⟩) (fun cd s A C row hs hg hr => hs) ⟨q1, q3⟩ ?act ?assign ?body ?done ?stop
  case assign =>
    intro l x X K hK
    gi_wp2
    exact hK
  case body =>
    rintro lp pre x X ⟨hb, hX⟩ hlt
    have htk : tks s0 (pre.map Subtype.val) < 4294967296 := tks_lt _ hM (bytes_b8 pre)
    have hS : Hid (tks s0 ((pre ++ [x]).map Subtype.val) = tk (tks s0 (pre.map Subtype.val)) x.1) := by show _ = _; rw [List.map_append, List.map_cons, List.map_nil, tks_snoc]
    have R := take_any w.heap.size (tks s0 (pre.map Subtype.val)) x.1 X htk x.2 hb (ht.later hX) hpos
    have HX : Hid _ := hX
    clear hb hX
    generalize tks s0 (pre.map Subtype.val) = y at *
    gi_wp2_with (refine ⟨trivial, ?_⟩; gi_at_call 23; refine (CallsIn.inRound lp (callsIn_wide.2 R)).mono ?_; rintro e wx ⟨rfl, b1, k1, l1⟩)
    exact ⟨k1, l1, by rw [hS.out]; exact b1, HX.out.trans l1⟩
  case done =>
    rintro D xs X hD rfl ⟨hb, hX⟩ hK
    rw [← hll, bf_list hB] at hb
    have hlt : tks s0 l < 4294967296 := tks_lt l hM hB
    have a2 := not_u32 (tks s0 l) hlt
    rw [← HE.out] at a2
    have c1 := hb.cell
    clear hb HE
    generalize tks s0 l = y at *
    obtain ⟨z, hz⟩ : ∃ z : Nat, z = upd s l := ⟨_, rfl⟩
    rw [← hz] at a2
    have HZ : Hid _ := hz
    clear hz
    gi_wp2
    refine ⟨by simp, .inl ⟨_, _, rfl, run_takeDeferred hK, ?_⟩⟩
    refine ⟨_, results_tmp rfl _ _ _, ?_, hX.trans (belowK_b (w := w) (Nat.le_refl _) X D _ _ (by omega) hK rfl rfl)⟩
    exact congrArg (fun n : Nat => Ending.returned (.int .u32 (n : Int))) HZ.out
  case stop =>
    rintro D c pre X hD _ h _
    exact h.elim

set_option maxHeartbeats 1000000 in
theorem crc_any (ad : Option Addr) (len cap : Nat) (l : List Nat) (w : World) (hlen : len ≤ 1048576) (hsrc : Src w ad len cap (c8 l)) (hB : B8 l) (ht : Tab w) :
    Calls Tryd.prog 11 #[.slice ad len cap] w fun e w' => e = .returned (.int .u32 ((upd 0 l : Nat) : Int)) ∧ Below w.heap.size w w' := by
  have R := update_any 0 ad len cap l w (by omega) hlen hsrc hB ht
  go_enter Tryd.func11, Tryd.ntmps11
  go_wp2_with (go_at_call 14; refine R.mono ?_; rintro e w1 ⟨rfl, hb⟩)
  go_ret
  exact ⟨rfl, hb⟩
end Go.Proofs.YtjncjfefploneaaDoor
