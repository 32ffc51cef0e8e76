/-
  What a reader answers; bytes that came in; the program's Read of any bytes.
-/
import Derived.Test.YtdglobonbhkheaaJ10
import Derived.Test.YtdglobonbhkheaaJ9
import Derived.Test.YtdglobonbhkheaaFrame
import Derived.OpenShut
namespace Go.Proofs.Ytdglobonbhkheaa
set_option linter.unusedVariables false
set_option linter.unusedSimpArgs false
open Go.ChangeShapes Go.WideShapes Go.ChangeAt Go.RowKit Go.Deep

/-- what a reader answers -/
def RdC (f : FuncId) (k z count er : Int) (l : List Dat) (len : Nat) (bs : List Nat) : Prop := ∀ w a cap, Byt w a len cap bs → Calls Try.prog f #[.slice a len cap, .agg #[.int .i64 k, .int .i64 z], .int .i64 count] w fun e w' => ∃ v, e = .returned (.tuple #[v, .int .i64 er]) ∧ w'.ownsRow w.heap.size 48 3 v l.length (dcs l) ∧ Below w.heap.size w w'
/-- the program's Read answers something that may be answered -/
theorem read_prog (k z : Int) (len : Nat) (bs : List Nat) (count : Int) (hl : bs.length = len) (hlt : ∀ x ∈ bs, x < 256) (hlen : len ≤ 1048576) (c1 : -9223372036854775808 ≤ count) (c2 : count ≤ 9223372036854775807) :
    ∃ (er : Int) (l : List Dat), RdOk k z bs count er l ∧ RdC 12 k z count er l len bs := by
  by_cases hno : chkB k z = false ∨ count < 0
  · exact ⟨2, [], .inr ⟨by decide, rfl⟩, fun w a cap _ => pread_no2 k z w a len cap count hno⟩
  have hc : chkB k z = true := by
    cases h : chkB k z
    · exact absurd (.inl h) hno
    · rfl
  have h0 : 0 ≤ count := by
    by_cases h : count < 0
    · exact absurd (.inr h) hno
    · omega
  by_cases h3 : 65536 < count
  · exact ⟨3, [], .inr ⟨by decide, rfl⟩, fun w a cap _ => pread_no3 k z w a len cap count hlen hc h3⟩
  obtain ⟨n, rfl⟩ : ∃ n : Nat, count = n := ⟨count.toNat, by omega⟩
  by_cases hk : k = 0
  · subst hk
    have hB : pk 8 bs < 2 ^ (8 * len) := by rw [← hl]; exact pk8_lt hlt
    obtain ⟨er, L, hcase, hP, hR⟩ := unpack_any len (pk 8 bs) 1 (n : Int) hlen hB (by omega) (by omega) (by omega) (by omega)
    have hR' : (er = 0 ∧ (n : Int) = (L.length : Int) ∧ ∀ x ∈ L, x < 2) ∨ (er ≠ 0 ∧ L = []) := by
      rcases hcase with ⟨h1, h2⟩ | h
      · exact .inl ⟨h1, upk_small h2⟩
      · exact .inr h
    refine ⟨er, trs L, ?_, fun w a cap hb => ?_⟩
    · rcases hcase with ⟨h1, h2⟩ | ⟨h1, rfl⟩
      · exact .inl ⟨h1, hc, by omega, by omega, .inl ⟨rfl, L, by rw [hl]; exact h2, rfl⟩⟩
      · exact .inr ⟨h1, rfl⟩
    · refine pread_go 0 z w a len cap n hlen hc (by omega) er (trs L) (fun _ W hW => ?_) (fun h => absurd rfl h)
      exact readTruths_any W a len cap (pk 8 bs) n er L (by omega) (by omega) (hP W a cap (byt_num (hb.later hW))) hR'
  · refine ⟨rdN k z bs n, rdL k z bs n, rd_is hc hk (by omega), fun w a cap hb => ?_⟩
    refine pread_go k z w a len cap n hlen hc (by omega) _ _ (fun h => absurd h hk) (fun _ W hW p hp => ?_)
    exact readAll_any W p k z hp hc hk a len cap n bs (hb.later hW) (by omega)
/-- what is read off the front may be -/
theorem front_wf {k z : Int} {rs : List Nat} {d : Dat} (hc : chkB k z = true) (h0 : k ≠ 0) (hrs : rs.length ≤ 1048576) (hlt : ∀ x ∈ rs, x < 256) (h : front k z rs = some d) : d.wf := by
  have hsz := (front_size hc h0 h).2.2
  have hm : d.s.size ≤ maxLen := by unfold maxLen; omega
  have hk := (chk_parts hc).1
  have wk : ∀ j : Int, 0 ≤ j → j ≤ 7 → (Lit.int .i64 j).wf = true := fun j h1 h2 => by
    simp only [Lit.wf, IntKind.min, IntKind.max, IntKind.signed, IntKind.bits, Bool.and_eq_true, decide_eq_true_eq, if_true]
    omega
  have w1 : ∀ n : Nat, n < 4294967296 → (Lit.int .i64 (if 2147483647 < (n : Int) then (n : Int) - 4294967296 else (n : Int))).wf = true := fun n hn => by
    simp only [Lit.wf, IntKind.min, IntKind.max, IntKind.signed, IntKind.bits, Bool.and_eq_true, decide_eq_true_eq, if_true]
    split <;> omega
  have p4 : pk 8 (rs.take 4) < 4294967296 := by
    have h1 := pk8_lt (l := rs.take 4) (fun x hx => hlt x (List.mem_of_mem_take hx))
    have h2 : (rs.take 4).length ≤ 4 := by rw [List.length_take]; omega
    have h3 : 2 ^ (8 * (rs.take 4).length) ≤ 2 ^ (8 * 4) := Nat.pow_le_pow_right (by omega) (by omega)
    have : (2 : Nat) ^ (8 * 4) = 4294967296 := by decide
    omega
  unfold front at h
  rcases kn_cases hk with rfl | rfl | rfl | rfl | rfl | rfl | rfl
  · exact absurd rfl h0
  · simp only [true_or, if_true] at h
    split at h
    · cases h
      refine ⟨wk 1 (by decide) (by decide), ?_, hm⟩
      have := w1 _ p4
      simpa [mkN] using this
    · cases h
  · simp at h
    obtain ⟨_, rfl⟩ := h
    exact ⟨wk 2 (by decide) (by decide), by simpa [mkN] using wrap64_wf _, hm⟩
  · simp at h
    obtain ⟨_, rfl⟩ := h
    exact ⟨wk 4 (by decide) (by decide), by simpa [mkN] using wrap64_wf _, hm⟩
  · simp at h
    obtain ⟨_, rfl⟩ := h
    exact ⟨wk 5 (by decide) (by decide), by simpa [mkN] using wrap64_wf _, hm⟩
  · simp at h
    obtain ⟨_, rfl⟩ := h
    exact ⟨wk 6 (by decide) (by decide), wk 0 (by decide) (by decide), hm⟩
  · simp at h
    obtain ⟨_, rfl⟩ := h
    exact ⟨wk 7 (by decide) (by decide), wk 0 (by decide) (by decide), hm⟩
theorem rds_wf {k z : Int} (hc : chkB k z = true) (h0 : k ≠ 0) : ∀ (n : Nat) (bs : List Nat) (l : List Dat) (r : List Nat), bs.length ≤ 1048576 → (∀ x ∈ bs, x < 256) → rds k z n bs = some (l, r) → (∀ d ∈ l, d.wf) ∧ l.length = n
  | 0, bs, l, r, _, _, h => by
    simp only [rds, Option.some.injEq, Prod.mk.injEq] at h
    obtain ⟨rfl, _⟩ := h
    exact ⟨fun d hd => (by cases hd), rfl⟩
  | n + 1, bs, l, r, hl, hlt, h => by
    unfold rds at h
    cases hf : front k z bs with
    | none => rw [hf] at h; cases h
    | some d =>
      rw [hf] at h
      simp only at h
      cases hr : rds k z n (bs.drop (dsz k z d)) with
      | none => rw [hr] at h; cases h
      | some x =>
        obtain ⟨m, q⟩ := x
        rw [hr] at h
        simp only [Option.some.injEq, Prod.mk.injEq] at h
        obtain ⟨rfl, _⟩ := h
        obtain ⟨h1, h2⟩ := rds_wf hc h0 n _ m q (by rw [List.length_drop]; omega) (fun x hx => hlt x (List.mem_of_mem_drop hx)) hr
        refine ⟨fun e he => ?_, by rw [List.length_cons, h2]⟩
        rcases List.mem_cons.1 he with rfl | he
        · exact front_wf hc h0 hl hlt hf
        · exact h1 e he
theorem rdok_wf {k z : Int} {bs : List Nat} {count er : Int} {l : List Dat} (h : RdOk k z bs count er l) (hl : bs.length ≤ 1048576) (hlt : ∀ x ∈ bs, x < 256) : (∀ d ∈ l, d.wf) ∧ l.length ≤ 65536 := by
  rcases h with ⟨_, hc, c0, c1, h⟩ | ⟨_, rfl⟩
  · rcases h with ⟨rfl, L, hL, rfl⟩ | ⟨h0, h⟩
    · obtain ⟨e, hx⟩ := upk_small hL
      refine ⟨fun d hd => ?_, by simp [trs]; omega⟩
      obtain ⟨x, hx', rfl⟩ := List.mem_map.1 hd
      have := hx x hx'
      have hxx : x = 0 ∨ x = 1 := by omega
      rcases hxx with rfl | rfl <;> exact ⟨by decide, by decide, by decide⟩
    · obtain ⟨h1, h2⟩ := rds_wf hc h0 _ bs l [] hl hlt h
      exact ⟨h1, by omega⟩
  · exact ⟨fun d hd => (by cases hd), by simp⟩

/-- bytes that came in -/
structure ByteRow (w : World) (a : Option Addr) (len cap : Nat) (l : List Nat) : Prop where
  ln : l.length = len
  src : Src w a len cap (c8 l)
  lt : ∀ x ∈ l, x < 256
  room : len ≤ cap
theorem ByteRow.byt {w : World} {a : Option Addr} {len cap : Nat} {l : List Nat} (h : ByteRow w a len cap l) (hl : len ≤ 1048576) : Byt w a len cap l := ⟨h.src, h.lt, hl, h.room⟩
set_option maxRecDepth 100000 in
theorem arg_bytes {H : Type} {enc : TypeId × Value → H} {W : World} {base b0 : Nat} {held : Bool} {r : Reach} {v : Value} {d : DataW H} {p : List MemPlace} (hv : Value.okWide Try.prog W r b0 27 v)
    (h : ∃ fuel, DataW.trod enc Try.prog W base (fun _ => true) held fuel 27 v.cells.toList = some (d, p)) : ∃ (a : Option Addr) (len cap : Nat) (l : List Nat), v = .slice a len cap ∧ ByteRow W a len cap l := by
  obtain ⟨a, len, cap, rfl, _⟩ := okWide_slice Try.underlying27 hv
  obtain ⟨fuel, hf⟩ := h
  have key : ∃ zs, IsRow .u8 W a len cap zs := by
    rcases open_ints Try.underlying27 Try.underlying5 (by kernel_rfl) hf with ⟨hcs, _⟩ | ⟨x, l, c, zs, hcs, _, hl, hm, hz, _, hcell, hwz⟩
    · simp [Value.cells] at hcs
      obtain ⟨rfl, rfl, rfl⟩ := hcs
      exact ⟨[], .inl ⟨rfl, rfl, rfl, rfl⟩⟩
    · simp [Value.cells] at hcs
      obtain ⟨rfl, rfl, rfl⟩ := hcs
      exact ⟨zs, .inr ⟨_, rfl, hl, hm, by simpa using hz, hcell, hwz⟩⟩
  obtain ⟨zs, hr⟩ := key
  obtain ⟨B, hB, hs⟩ := row_num8 hr
  have hcap : len ≤ cap := by
    rcases hr with ⟨_, h1, h2, _⟩ | ⟨_, _, h1, _⟩
    · omega
    · exact h1
  exact ⟨a, len, cap, upk 8 len B, rfl, upk_len _ _ _, hs, fun x hx => upk_fit 8 len B x hx, hcap⟩
end Go.Proofs.Ytdglobonbhkheaa
