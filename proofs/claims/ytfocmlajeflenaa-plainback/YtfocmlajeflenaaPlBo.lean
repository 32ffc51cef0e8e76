/-
  What Read answers of what Write wrote, and what Write would write of what was read.
-/
import Derived.Test.YtfocmlajeflenaaJ10
import Derived.Test.YtfocmlajeflenaaPlWr
import Derived.Test.YtfocmlajeflenaaJ11
import Derived.ProofKit
import Derived.SizedLaws
import Derived.Lib.SmallJoins
namespace Go.Proofs.Ytfocmlajeflenaa
set_option linter.unusedVariables false
set_option linter.unusedSimpArgs false
open Go.ChangeShapes Go.WideShapes Go.ChangeAt Go.RowKit Go.Deep Go.Joins

theorem sze_one {c : Nat} (h : c ≤ 65536) : sze ((1 : Nat) : Int) (c : Int) = 0 := by
  unfold sze
  rw [if_neg (by omega), if_neg (by omega), if_neg (by omega)]
theorem truth_parts {z : Int} {d : Dat} (h : ofB d.k d.n d.s.size 0 z = true) : d.n.toNat < 2 ∧ tr d.n.toNat = d := by
  obtain ⟨e, hc, hf, _⟩ := of_parts h
  obtain ⟨_, h1, h2, h3, h4⟩ := fine_parts hf
  rw [e] at h1 h2 h3 h4
  have b2 : bo 0 2 = 0 := by decide
  have b3 : bo 0 3 = 1 := by decide
  have b5 : bo 0 5 = 0 := by decide
  rw [b2] at h1
  rw [b3] at h2
  rw [b5] at h4
  refine ⟨by omega, ?_⟩
  obtain ⟨k, n, s⟩ := d
  simp only at e h1 h2 h4 ⊢
  subst e
  have hs : s = { data := #[] } := no_text (by omega)
  subst hs
  unfold tr
  rw [Int.toNat_of_nonneg h1]
theorem truths_back {z : Int} {l : List Dat} (h : wAll 0 z l = true) : trs (tbits l) = l ∧ ∀ x ∈ tbits l, x < 2 := by
  have hp : ∀ d ∈ l, d.n.toNat < 2 ∧ tr d.n.toNat = d := fun d hd => truth_parts (List.all_eq_true.1 h d hd)
  constructor
  · unfold trs tbits
    rw [List.map_map]
    exact (List.map_congr_left (fun d hd => (hp d hd).2)).trans (List.map_id l)
  · intro x hx
    obtain ⟨d, hd, rfl⟩ := List.mem_map.1 hx
    exact (hp d hd).1
theorem two_le {a b : Nat} (h : a ≤ b) : 2 ^ a ≤ 2 ^ b := Nat.pow_le_pow_right (by omega) h
theorem eb_lt : ∀ (l : List Dat), ∀ x ∈ eb l, x < 256
  | [], x, h => by cases h
  | d :: l, x, h => by
    have hup : ∀ m N, ∀ y ∈ upk 8 m N, y < 256 := fun m N y hy => upk_fit 8 m N y hy
    rcases List.mem_append.1 (show x ∈ db d ++ eb l from h) with h | h
    · unfold db at h
      split at h
      · exact hup _ _ x h
      · split at h
        · exact hup _ _ x h
        · split at h
          · rcases List.mem_append.1 h with h | h
            · exact hup _ _ x h
            · exact tb_lt _ x h
          · exact tb_lt _ x h
    · exact eb_lt l x h
theorem wOut_lt (k : Int) (l : List Dat) : ∀ x ∈ wOut k l, x < 256 := by
  intro x h
  unfold wOut at h
  split at h
  · exact upk_fit 8 _ _ x h
  · exact eb_lt l x h
theorem own_room {w : World} {B : Nat} {e : TypeId} {s n c m : Nat} {a : Option Addr} {xs : List Value} (h : w.ownsRow B e s (.slice a m c) n xs) : n ≤ c := by
  rcases h.2 with ⟨e1, e2⟩ | ⟨g, cap, cur, e1, _, _, e2, _⟩
  · omega
  · cases e1; exact e2
/-- what was written, as bytes -/
theorem wrote_byt {w : World} {B : Nat} {e : TypeId} {k z : Int} {l : List Dat} {a : Option Addr} {m c : Nat} (hno : wNo k z l = 0) (h : w.ownsRow B e 1 (.slice a m c) (wOut k l).length (c8 (wOut k l))) : Byt w a (wOut k l).length c (wOut k l) := by
  obtain ⟨hm, hs⟩ := src_own h
  subst hm
  exact ⟨hs, wOut_lt k l, by rw [wOut_len]; exact (wNo_ok hno).2.2.2, own_room h⟩
/-- what was written is read as it was -/
theorem read_wrote {k z : Int} {l : List Dat} (h : wNo k z l = 0) : RdC 12 k z (l.length : Int) 0 l (wOut k l).length (wOut k l) := by
  obtain ⟨hc, hw, hm, hs⟩ := wNo_ok h
  intro w a cap hb
  by_cases hk : k = 0
  · subst hk
    obtain ⟨ht, hx⟩ := truths_back hw
    have htl : (tbits l).length = l.length := by simp [tbits]
    have hB : pk 1 (tbits l) < 2 ^ (1 * l.length) := by
      have := pk_lt 1 (tbits l) (fun x hx' => by have := hx x hx'; omega)
      rwa [htl] at this
    have hlen : (wOut 0 l).length = (l.length + 7) / 8 := by rw [wOut_len]; rfl
    have hB8 : pk 1 (tbits l) < 2 ^ (8 * ((l.length + 7) / 8)) := Nat.lt_of_lt_of_le hB (two_le (by omega))
    have hpk : pk 8 (wOut 0 l) = pk 1 (tbits l) := by
      unfold wOut
      rw [if_pos rfl]
      exact pk_upk 8 _ _ hB8
    have hup : upk 1 l.length (pk 1 (tbits l)) = tbits l := by
      rw [← htl]
      exact upk_pk 1 _ (fun x hx' => by have := hx x hx'; omega)
    have hbl := hb.len
    refine pread_go 0 z w a _ cap l.length hb.most hc hm 0 l (fun _ W hW => ?_) (fun h => absurd rfl h)
    have hU : Calls Try.prog 56 #[.slice a (wOut 0 l).length cap, .int .i64 1, .int .i64 (l.length : Int)] W fun e w' => ∃ v, e = .returned (.tuple #[v, .int .i64 0]) ∧ w'.ownsRow W.heap.size 65 1 v (tbits l).length (c64 (tbits l)) ∧ Below W.heap.size W w' := by
      have hn := byt_num (hb.later hW)
      rw [hpk] at hn
      refine (unpack_main a (wOut 0 l).length cap 1 l.length (pk 1 (tbits l)) W (sze_one hm) (by rw [hlen]; omega) (bytesAt_num (num_src hn) (Nat.le_refl _)) (by rw [hlen]; exact hB8)).mono ?_
      rintro e w' ⟨⟨_, v, rfl, hown⟩ | ⟨hno, _⟩, hbb⟩
      · rw [hup] at hown
        exact ⟨v, rfl, by rw [htl]; exact hown, hbb⟩
      · exact absurd hB hno
    have := readTruths_any W a (wOut 0 l).length cap (pk 1 (tbits l)) (l.length : Int) 0 (tbits l) (by omega) (by omega) hU (.inl ⟨rfl, by rw [htl], hx⟩)
    rwa [ht] at this
  · have he : wOut k l = eb l := by unfold wOut; rw [if_neg hk]
    have hr : rds k z l.length (wOut k l) = some (l, []) := by
      have := rds_eb hk l [] hw
      rw [List.append_nil] at this
      rw [he]
      exact this
    have hN : rdN k z (wOut k l) l.length = 0 := by unfold rdN; rw [hr]
    have hL : rdL k z (wOut k l) l.length = l := by unfold rdL; rw [hr]
    refine pread_go k z w a _ cap l.length hb.most hc hm 0 l (fun h => absurd h hk) (fun _ W hW p hp => ?_)
    have := readAll_any W p k z hp hc hk a _ cap l.length _ (hb.later hW) hm
    rw [hN, hL] at this
    exact this
/-- what was read is written as it was -/
theorem wrote_read {k z : Int} {bs : List Nat} {count : Int} {l : List Dat} (h : RdOk k z bs count 0 l) (hl : bs.length ≤ 1048576) (hlt : ∀ x ∈ bs, x < 256) : wNo k z l = 0 ∧ wRes k z l = bs := by
  have key : chkB k z = true ∧ wAll k z l = true ∧ l.length ≤ 65536 ∧ wOut k l = bs := by
    rcases h with ⟨_, hc, c0, c1, h⟩ | ⟨h, _⟩
    · rcases h with ⟨rfl, L, hL, rfl⟩ | ⟨h0, h⟩
      · obtain ⟨e, hx⟩ := upk_small hL
        obtain ⟨W, c, hW, rfl, _, hlen, hB, rfl⟩ := hL
        have hW1 : W = 1 := by omega
        subst hW1
        have htb : tbits (trs (upk 1 c (pk 8 bs))) = upk 1 c (pk 8 bs) := by
          unfold tbits trs
          rw [List.map_map]
          exact (List.map_congr_left (fun x _ => rfl)).trans (List.map_id _)
        have hn : (trs (upk 1 c (pk 8 bs))).length = c := by simp [trs, upk_len]
        refine ⟨hc, ?_, by rw [hn]; omega, ?_⟩
        · unfold wAll
          refine List.all_eq_true.2 fun d hd => ?_
          obtain ⟨x, hx', rfl⟩ := List.mem_map.1 hd
          have := hx x hx'
          have hxx : x = 0 ∨ x = 1 := by omega
          have e0 : (ByteArray.size { data := #[] }) = 0 := rfl
          rcases hxx with rfl | rfl
          · simp [ofB, hc, tr, e0, fineB, inB, bo, kn]
          · simp [ofB, hc, tr, e0, fineB, inB, bo, kn]
        · unfold wOut
          rw [if_pos rfl, hn, htb, pk_upk 1 c _ hB]
          have : (c + 7) / 8 = bs.length := by omega
          rw [this]
          exact upk_pk 8 bs (fun x hx' => by have := hlt x hx'; omega)
      · obtain ⟨h1, h2⟩ := rds_back hc h0 _ bs l [] hl hlt h
        obtain ⟨_, h3⟩ := rds_wf hc h0 _ bs l [] hl hlt h
        rw [List.append_nil] at h2
        exact ⟨hc, h1, by omega, by unfold wOut; rw [if_neg h0]; exact h2⟩
    · exact absurd rfl h
  obtain ⟨hc, hw, hm, ho⟩ := key
  have hs : wSz k l ≤ 1048576 := by rw [← wOut_len, ho]; exact hl
  have h0 : wNo k z l = 0 := by
    unfold wNo
    rw [hc, hw, if_neg (by simp), if_neg (by omega), if_neg (by omega)]
  refine ⟨h0, ?_⟩
  unfold wRes
  rw [if_pos h0]
  exact ho
--? t:law10.Bytes
set_option maxRecDepth 100000 in
theorem arg_pb {H : Type} {enc : TypeId × Value → H} {W : World} {base b0 : Nat} {held : Bool} {r : Reach} {v : Value} {d : DataW H} {p : List MemPlace} (hv : Value.okWide Try.prog W r b0 42 v)
    (h : ∃ fuel, DataW.trod enc Try.prog W base (fun _ => true) held fuel 42 v.cells.toList = some (d, p)) : ∃ (a : Option Addr) (len cap : Nat) (l : List Nat) (n : Int), v = .agg #[.slice a len cap, .int .i64 n] ∧ ByteRow W a len cap l ∧ (Lit.int .i64 n).wf = true := by
  obtain ⟨u0, u1, y0, y1, m, rfl, rfl, rfl, hy0, hy1⟩ := open_agg2 Try.underlying42 (by kernel_rfl) (by kernel_rfl) hv h
  obtain ⟨n, e1, _, w1⟩ := DataW.trod_int Try.underlying3 hy1
  simp only [List.cons.injEq, and_true] at e1
  subst e1
  have key : ∃ a len cap zs, u0 = .slice a len cap ∧ IsRow .u8 W a len cap zs := by
    rcases open_ints Try.underlying27 Try.underlying5 (by kernel_rfl) hy0 with ⟨hcs, _⟩ | ⟨x, l, c, zs, hcs, _, hl, hm, hz, _, hcell, hwz⟩
    · simp at hcs
      exact ⟨none, 0, 0, [], hcs, .inl ⟨rfl, rfl, rfl, rfl⟩⟩
    · simp at hcs
      exact ⟨_, _, _, zs, hcs, .inr ⟨_, rfl, hl, hm, by simpa using hz, hcell, hwz⟩⟩
  obtain ⟨a, len, cap, zs, rfl, hr⟩ := key
  obtain ⟨B, hB, hs⟩ := row_num8 hr
  have hcap : len ≤ cap := by
    rcases hr with ⟨_, h1, h2, _⟩ | ⟨_, _, h1, _⟩
    · omega
    · exact h1
  exact ⟨a, len, cap, upk 8 len B, n, rfl, ⟨upk_len _ _ _, hs, fun x hx => upk_fit 8 len B x hx, hcap⟩, w1⟩
--?.
end Go.Proofs.Ytfocmlajeflenaa
