/-
  The steps of a sum, as plain numbers: a step keeps '^^^', so a sum of bytes is so many steps of all their bits at once. No Go.
-/
import Derived.Test.YtjncjfefploneabDoorRows
namespace Go.Proofs.YtjncjfefploneabDoor

def stp (s : Nat) : Nat := if s % 2 = 1 then s / 2 ^^^ 3988292384 else s / 2
def stps : Nat → Nat → Nat
  | 0, s => s
  | n + 1, s => stps n (stp s)

theorem xor_mod (a b : Nat) : (a ^^^ b) % 2 = if a % 2 = b % 2 then 0 else 1 := by
  have h := @Nat.xor_mod_two_eq_one a b
  have h2 := Nat.mod_two_eq_zero_or_one (a ^^^ b)
  generalize (a ^^^ b) % 2 = r at *
  split <;> omega
theorem xor_half (a b : Nat) : (a ^^^ b) / 2 = a / 2 ^^^ b / 2 := Nat.xor_div_two

theorem stp_xor (a b : Nat) : stp (a ^^^ b) = stp a ^^^ stp b := by
  unfold stp
  rw [xor_mod, xor_half]
  rcases Nat.mod_two_eq_zero_or_one a with ha | ha <;> rcases Nat.mod_two_eq_zero_or_one b with hb | hb <;> simp [ha, hb]
  · rw [Nat.xor_assoc]
  · rw [Nat.xor_assoc, Nat.xor_assoc, Nat.xor_comm 3988292384]
  · rw [Nat.xor_assoc, Nat.xor_comm 3988292384, Nat.xor_assoc, Nat.xor_self, Nat.xor_zero]
theorem stps_xor : ∀ n a b : Nat, stps n (a ^^^ b) = stps n a ^^^ stps n b
  | 0, _, _ => rfl
  | n + 1, a, b => by simp only [stps, stp_xor, stps_xor n]
theorem stps_add : ∀ m n s : Nat, stps (m + n) s = stps n (stps m s)
  | 0, n, s => by rw [Nat.zero_add]; rfl
  | m + 1, n, s => by rw [Nat.add_right_comm]; exact stps_add m n (stp s)
theorem stps_succ (n s : Nat) : stps (n + 1) s = stp (stps n s) := stps_add n 1 s
theorem stp_dbl (x : Nat) : stp (2 * x) = x := by unfold stp; rw [if_neg (by omega)]; omega
theorem stps_pow : ∀ n x : Nat, stps n (2 ^ n * x) = x
  | 0, x => by simp [stps]
  | n + 1, x => by
    show stps n (stp (2 ^ (n + 1) * x)) = x
    rw [Nat.pow_succ, Nat.mul_comm (2 ^ n) 2, Nat.mul_assoc, stp_dbl]
    exact stps_pow n x
theorem stp_lt {s : Nat} (h : s < 4294967296) : stp s < 4294967296 := by
  unfold stp
  split
  · exact Nat.xor_lt_two_pow (n := 32) (by omega) (by omega)
  · omega
theorem stps_lt : ∀ (n : Nat) {s : Nat}, s < 4294967296 → stps n s < 4294967296
  | 0, _, h => h
  | n + 1, _, h => stps_lt n (stp_lt h)
theorem xor_lt {a b : Nat} (ha : a < 4294967296) (hb : b < 4294967296) : a ^^^ b < 4294967296 := Nat.xor_lt_two_pow (n := 32) ha hb

/-- a number of 32 bits that is not 0 is none behind a step -/
theorem stp_ne {s : Nat} (h : s < 4294967296) (h0 : s ≠ 0) : stp s ≠ 0 := by
  unfold stp
  split
  · intro e
    have e2 : s / 2 = 3988292384 := by
      have := congrArg (· ^^^ 3988292384) e
      simpa [Nat.xor_assoc] using this
    omega
  · omega
theorem stps_ne : ∀ (n : Nat) {s : Nat}, s < 4294967296 → s ≠ 0 → stps n s ≠ 0
  | 0, _, _, h0 => h0
  | n + 1, _, h, h0 => stps_ne n (stp_lt h) (stp_ne h h0)

/-- what is above and what is below a power, put together -/
theorem join_xor (n q r : Nat) (h : r < 2 ^ n) : 2 ^ n * q ^^^ r = 2 ^ n * q + r := by
  apply Nat.eq_of_testBit_eq
  intro i
  rw [Nat.testBit_xor, Nat.testBit_two_pow_mul]
  have := Nat.testBit_two_pow_mul_add q h i
  rw [this]
  by_cases hi : i < n
  · simp [hi, Nat.not_le.2 hi]
  · have hr : r.testBit i = false := Nat.testBit_lt_two_pow (Nat.lt_of_lt_of_le h (Nat.pow_le_pow_right (by omega) (by omega)))
    simp [hi, Nat.not_lt.1 hi, hr]

/-- the table: four steps of the four lowest bits -/
def tab : List Nat := [0, 498536548, 997073096, 651767980, 1994146192, 1802195444, 1303535960, 1342533948, 3988292384, 4027552580, 3604390888, 3412177804, 2607071920, 2262029012, 2685067896, 3183342108]
theorem tab_four : ∀ r : Nat, r < 16 → stps 4 r = tab.getD r 0 := by decide
theorem four_eq (s : Nat) : stps 4 s = s / 16 ^^^ tab.getD (s % 16) 0 := by
  have e : s = 2 ^ 4 * (s / 16) ^^^ s % 16 := by
    rw [join_xor 4 _ _ (by omega)]
    omega
  rw [← tab_four _ (by omega)]
  conv => lhs; rw [e, stps_xor, stps_pow]
theorem tab_lt : ∀ r : Nat, r < 16 → tab.getD r 0 < 4294967296 := by decide

/-- to take a byte -/
def tk (s c : Nat) : Nat := stps 8 (s ^^^ c)
theorem tk_lt {s c : Nat} (hs : s < 4294967296) (hc : c < 256) : tk s c < 4294967296 := stps_lt 8 (xor_lt hs (by omega))
def tks (s : Nat) (l : List Nat) : Nat := l.foldl tk s
theorem tks_snoc (s : Nat) (l : List Nat) (c : Nat) : tks s (l ++ [c]) = tk (tks s l) c := by simp [tks]
theorem tks_append (s : Nat) (l m : List Nat) : tks s (l ++ m) = tks (tks s l) m := by simp [tks]
def B8 (l : List Nat) : Prop := ∀ c ∈ l, c < 256
theorem tks_lt : ∀ (l : List Nat) {s : Nat}, s < 4294967296 → B8 l → tks s l < 4294967296
  | [], _, hs, _ => hs
  | c :: l, _, hs, h => tks_lt l (tk_lt hs (h c List.mem_cons_self)) (fun d hd => h d (List.mem_cons_of_mem _ hd))

/-- all bytes as one number, the lowest ahead -/
def num8 : List Nat → Nat
  | [] => 0
  | c :: l => c + 256 * num8 l
theorem tks_num : ∀ (l : List Nat) (s : Nat), B8 l → tks s l = stps (8 * l.length) (s ^^^ num8 l)
  | [], s, _ => by simp [tks, num8, stps]
  | c :: l, s, h => by
    have hc := h c List.mem_cons_self
    have ih := tks_num l (tk s c) (fun d hd => h d (List.mem_cons_of_mem _ hd))
    show tks (tk s c) l = _
    rw [ih, List.length_cons, Nat.mul_succ, Nat.add_comm (8 * l.length), stps_add]
    congr 1
    have e : num8 (c :: l) = 2 ^ 8 * num8 l ^^^ c := by rw [join_xor 8 _ _ hc]; simp [num8, Nat.add_comm]
    rw [e, Nat.xor_comm (2 ^ 8 * num8 l), ← Nat.xor_assoc, stps_xor, stps_pow]
    rfl

/-- the sum that goes on -/
def upd (s : Nat) (l : List Nat) : Nat := tks (s ^^^ 4294967295) l ^^^ 4294967295
theorem upd_lt {s : Nat} {l : List Nat} (hs : s < 4294967296) (h : B8 l) : upd s l < 4294967296 := xor_lt (tks_lt l (xor_lt hs (by omega)) h) (by omega)
theorem flip_flip (x : Nat) : x ^^^ 4294967295 ^^^ 4294967295 = x := by rw [Nat.xor_assoc, Nat.xor_self, Nat.xor_zero]
theorem upd_append (s : Nat) (l m : List Nat) : upd s (l ++ m) = upd (upd s l) m := by
  unfold upd
  rw [tks_append, flip_flip]

/-- four bytes of a number -/
def four8 (n : Nat) : List Nat := [n % 256, n / 256 % 256, n / 65536 % 256, n / 16777216 % 256]
theorem four8_b8 (n : Nat) : B8 (four8 n) := by
  intro c hc
  simp only [four8, List.mem_cons, List.not_mem_nil, or_false] at hc
  omega
theorem four8_num {n : Nat} (h : n < 4294967296) : num8 (four8 n) = n := by
  simp only [four8, num8]
  omega

/-- bytes with their own sum behind -/
theorem rest_sum (l : List Nat) (h : B8 l) : upd 0 (l ++ four8 (upd 0 l)) = 558161692 := by
  rw [upd_append]
  have hlt : upd 0 l < 4294967296 := upd_lt (by omega) h
  generalize upd 0 l = x at *
  unfold upd
  rw [tks_num _ _ (four8_b8 x), four8_num hlt, Nat.xor_comm x, Nat.xor_assoc, Nat.xor_self, Nat.xor_zero]
  show stps 32 4294967295 ^^^ 4294967295 = 558161692
  decide +kernel
end Go.Proofs.YtjncjfefploneabDoor
