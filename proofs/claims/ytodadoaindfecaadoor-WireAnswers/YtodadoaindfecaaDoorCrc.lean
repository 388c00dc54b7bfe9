/- The check of bytes, as numbers: the program's way, bit by bit from the least one, and the document's, from the greatest one, are one. No program. -/
import Derived.WalkKit
namespace Go.Proofs.YtodadoaindfecaaDoor.Cr

/-- One bit of the program's. -/
def step (s : Nat) : Nat := s / 2 ^^^ 3988292384 * (s % 2)
def steps : Nat → Nat → Nat
  | 0, s => s
  | n + 1, s => step (steps n s)
/-- One byte of the program's. -/
def byte (s : Nat) (c : UInt8) : Nat := steps 8 (s ^^^ c.toNat)
def crc (bs : List UInt8) : Nat := bs.foldl byte 4294967295
def sum (bs : List UInt8) : Nat := 4294967295 - crc bs

theorem step_lt {s : Nat} (h : s < 4294967296) : step s < 4294967296 := by
  unfold step
  refine Nat.xor_lt_two_pow (n := 32) (by omega) ?_
  have : s % 2 = 0 ∨ s % 2 = 1 := by omega
  rcases this with e | e <;> rw [e] <;> decide
theorem steps_lt {s : Nat} (h : s < 4294967296) : ∀ n, steps n s < 4294967296
  | 0 => h
  | n + 1 => step_lt (steps_lt h n)
theorem xor_lt {s : Nat} (h : s < 4294967296) (c : UInt8) : s ^^^ c.toNat < 4294967296 :=
  Nat.xor_lt_two_pow (n := 32) (by omega) (by have := c.toNat_lt; omega)
theorem byte_lt {s : Nat} (h : s < 4294967296) (c : UInt8) : byte s c < 4294967296 := steps_lt (xor_lt h c) 8
theorem fold_lt (bs : List UInt8) : ∀ s, s < 4294967296 → bs.foldl byte s < 4294967296 := by
  induction bs with
  | nil => intro s h; exact h
  | cons c bs ih => intro s h; exact ih _ (byte_lt h c)
theorem crc_lt (bs : List UInt8) : crc bs < 4294967296 := fold_lt bs _ (by omega)
theorem crc_snoc (bs : List UInt8) (c : UInt8) : crc (bs ++ [c]) = byte (crc bs) c := by simp [crc]

/-- One bit of the document's. -/
def up (v : Nat) (i : Bool) : Nat := (if i != v.testBit 31 then 79764919 else 0) ^^^ (v * 2 % 4294967296)
def ups (c : Nat) : Nat → Nat → Nat
  | 0, v => v
  | n + 1, v => up (ups c n v) (c.testBit n)
def rbyte (v : Nat) (c : UInt8) : Nat := ups c.toNat 8 v
def rcrc (bs : List UInt8) : Nat := bs.foldl rbyte 4294967295
theorem up_lt {v : Nat} (i : Bool) : up v i < 4294967296 := by
  unfold up
  refine Nat.xor_lt_two_pow (n := 32) ?_ (Nat.mod_lt _ (by omega))
  split <;> decide
theorem ups_lt {v : Nat} (c : Nat) (h : v < 4294967296) : ∀ n, ups c n v < 4294967296
  | 0 => h
  | _ + 1 => up_lt _
theorem rcrc_snoc (bs : List UInt8) (c : UInt8) : rcrc (bs ++ [c]) = rbyte (rcrc bs) c := by simp [rcrc]
theorem rfold_lt (bs : List UInt8) : ∀ s, s < 4294967296 → bs.foldl rbyte s < 4294967296 := by
  induction bs with
  | nil => intro s h; exact h
  | cons c bs ih => intro s h; exact ih _ (ups_lt _ h 8)
theorem rcrc_lt (bs : List UInt8) : rcrc bs < 4294967296 := rfold_lt bs _ (by omega)

/-- Two numbers of 32 bits, one turned round. -/
def Rev (v s : Nat) : Prop := ∀ i, i < 32 → v.testBit i = s.testBit (31 - i)

theorem poly : ∀ i : Fin 32, (79764919 : Nat).testBit i.val = (3988292384 : Nat).testBit (31 - i.val) := by decide
theorem tb_high {s : Nat} (h : s < 4294967296) {i : Nat} (hi : 32 ≤ i) : s.testBit i = false :=
  Nat.testBit_lt_two_pow (Nat.lt_of_lt_of_le h (by have : 2 ^ 32 ≤ 2 ^ i := Nat.pow_le_pow_right (by omega) hi; simpa using this))

theorem rev_step {v p q : Nat} (hp : p < 4294967296) (hq : q < 4294967296) (h : Rev v (p ^^^ q)) : Rev (up v (q.testBit 0)) (step p ^^^ q / 2) := by
  intro i hi
  have ht : v.testBit 31 = (p.testBit 0 ^^ q.testBit 0) := by have := h 31 (by omega); rwa [Nat.sub_self, Nat.testBit_xor] at this
  have hd : (q.testBit 0 != v.testBit 31) = p.testBit 0 := by rw [ht]; cases p.testBit 0 <;> cases q.testBit 0 <;> rfl
  have hv : (v * 2 % 4294967296).testBit i = ((p ^^^ q).testBit (31 - i + 1)) := by
    rw [show (4294967296 : Nat) = 2 ^ 32 by decide, Nat.testBit_mod_two_pow]
    cases i with
    | zero => simp [tb_high hp, tb_high hq]
    | succ j =>
      rw [show v * 2 = 2 ^ 1 * v by omega, Nat.testBit_two_pow_mul, h _ (by omega)]
      rw [show 31 - (j + 1) + 1 = 31 - j by omega]
      simp; omega
  unfold up step
  rw [hd, Nat.testBit_xor, hv, Nat.testBit_xor, Nat.testBit_xor, Nat.testBit_xor, Nat.testBit_succ, Nat.testBit_succ]
  have hm : p % 2 = if p.testBit 0 then 1 else 0 := by rw [Nat.testBit_zero]; by_cases e : p % 2 = 1 <;> simp [e] ; omega
  have hpl := poly ⟨i, hi⟩
  simp only at hpl
  cases hb : p.testBit 0
  · simp [hm, hb]
  · simp only [hm, hb, if_true, Nat.mul_one, hpl]
    cases Nat.testBit (p / 2) (31 - i) <;> cases Nat.testBit (q / 2) (31 - i) <;> cases Nat.testBit 3988292384 (31 - i) <;> rfl

theorem rev_steps {v s : Nat} (c : Nat) (hs : s < 4294967296) (hc : c < 256) (h : Rev v s) : ∀ n, Rev (ups c n v) (steps n (s ^^^ c) ^^^ c / 2 ^ n)
  | 0 => by simpa [ups, steps, Nat.xor_assoc] using h
  | n + 1 => by
    have hx : s ^^^ c < 4294967296 := Nat.xor_lt_two_pow (n := 32) (by omega) (by omega)
    have hq : c / 2 ^ n < 4294967296 := Nat.lt_of_le_of_lt (Nat.div_le_self _ _) (by omega)
    have := rev_step (steps_lt hx n) hq (rev_steps c hs hc h n)
    rw [Nat.testBit_zero, ← Nat.testBit_zero, Nat.testBit_div_two_pow, Nat.zero_add] at this
    rw [Nat.pow_succ, ← Nat.div_div_eq_div_mul]
    exact this

theorem rev_byte {v s : Nat} (c : UInt8) (hs : s < 4294967296) (h : Rev v s) : Rev (rbyte v c) (byte s c) := by
  have hc := c.toNat_lt
  have := rev_steps c.toNat hs (by omega) h 8
  rw [Nat.div_eq_of_lt (by omega), Nat.xor_zero] at this
  exact this
theorem rev_fold (bs : List UInt8) : ∀ v s, s < 4294967296 → Rev v s → Rev (bs.foldl rbyte v) (bs.foldl byte s) := by
  induction bs with
  | nil => intro v s _ h; exact h
  | cons c bs ih => intro v s hs h; exact ih _ _ (byte_lt hs c) (rev_byte c hs h)
theorem rev_ones : Rev 4294967295 4294967295 := by
  intro i hi
  have : ∀ i : Fin 32, (4294967295 : Nat).testBit i.val = (4294967295 : Nat).testBit (31 - i.val) := by decide
  exact this ⟨i, hi⟩
theorem rev_crc (bs : List UInt8) : Rev (rcrc bs) (crc bs) := rev_fold bs _ _ (by omega) rev_ones

/-- What the document's last loop has told behind k bits. -/
def part (n k : Nat) : Nat := n / 2 ^ (32 - k) * 2 ^ (32 - k)
theorem part_all (n : Nat) : part n 32 = n := by simp [part]
theorem part_zero {n : Nat} (h : n < 4294967296) : part n 0 = 0 := by
  unfold part; rw [Nat.div_eq_of_lt (by simpa using h), Nat.zero_mul]
theorem not_bit {s i : Nat} (hs : s < 4294967296) (hi : i < 32) : (4294967295 - s).testBit i = !s.testBit i := by
  have := Nat.testBit_two_pow_sub_succ (n := 32) (x := s) (by simpa using hs) i
  rw [show 2 ^ 32 - (s + 1) = 4294967295 - s by omega] at this
  rw [this]; simp [hi]
theorem part_succ {s v k : Nat} (hs : s < 4294967296) (hk : k < 32) (h : Rev v s) :
    part (4294967295 - s) (k + 1) = part (4294967295 - s) k + if v / 2 ^ k % 2 = 0 then 2 ^ (31 - k) else 0 := by
  have hb := not_bit hs (show 31 - k < 32 by omega)
  rw [← h k hk, Nat.testBit_eq_decide_div_mod_eq, Nat.testBit_eq_decide_div_mod_eq] at hb
  generalize 4294967295 - s = n at *
  unfold part
  rw [show 32 - (k + 1) = 31 - k by omega, show 32 - k = 31 - k + 1 by omega, Nat.pow_succ, ← Nat.div_div_eq_div_mul]
  generalize n / 2 ^ (31 - k) = m at *
  generalize 2 ^ (31 - k) = q at *
  have h2 : m % 2 = if v / 2 ^ k % 2 = 0 then 1 else 0 := by
    by_cases e : v / 2 ^ k % 2 = 0
    · have : ¬ v / 2 ^ k % 2 = 1 := by omega
      simp only [this, decide_false, Bool.not_false, decide_eq_true_eq] at hb
      simp [e, hb]
    · have : v / 2 ^ k % 2 = 1 := by omega
      simp only [this, decide_true, Bool.not_true, decide_eq_false_iff_not] at hb
      simp [e]; omega
  have h3 : m = 2 * (m / 2) + m % 2 := by omega
  have : m * q = (m / 2) * (q * 2) + (m % 2) * q := by
    conv => lhs; rw [h3]
    rw [Nat.add_mul, Nat.mul_comm 2, Nat.mul_assoc, Nat.mul_comm 2]
  rw [this, h2]
  split <;> simp

end Go.Proofs.YtodadoaindfecaaDoor.Cr
