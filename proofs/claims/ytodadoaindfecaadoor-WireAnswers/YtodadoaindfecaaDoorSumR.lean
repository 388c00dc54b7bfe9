/- The document's Sum: the walk; the two sums are one. -/
import Derived.Test.YtodadoaindfecaaDoorSumP
namespace Go.Proofs.YtodadoaindfecaaDoor
open Go.RowKit Go.Maps
set_option maxRecDepth 100000
set_option linter.unusedSimpArgs false
set_option linter.unusedVariables false

theorem and_one (x : Nat) (h : x < 18446744073709551616) : bits .and .u64 (x : Int) 1 = ((x % 2 : Nat) : Int) := by
  have h1 := u64_and_nat x 1 h (by omega)
  rw [nat_mask1] at h1
  simpa using h1
theorem in_bit (c j : Nat) (hc : c < 256) : bits .and .u64 (IntKind.u64.wrap ((c : Int) / 2 ^ j)) 1 = ((c / 2 ^ j % 2 : Nat) : Int) := by
  have hd : c / 2 ^ j ≤ c := Nat.div_le_self _ _
  rw [show ((c : Int) / 2 ^ j) = ((c / 2 ^ j : Nat) : Int) by simp]
  generalize c / 2 ^ j = q at *
  rw [IntKind.wrap_u64, Int.emod_eq_of_lt (by omega) (by omega), and_one _ (by omega)]
theorem top_bit (v : Nat) (h : v < 4294967296) : bits .and .u64 ((v : Int) / 2147483648) 1 = ((v / 2147483648 % 2 : Nat) : Int) := by
  rw [show ((v : Int) / 2147483648) = ((v / 2147483648 : Nat) : Int) by omega, and_one _ (by omega)]
theorem at_bit (v j : Nat) (h : v < 4294967296) : bits .and .u64 ((v : Int) / 2 ^ j) 1 = ((v / 2 ^ j % 2 : Nat) : Int) := by
  have hd : v / 2 ^ j ≤ v := Nat.div_le_self _ _
  rw [show ((v : Int) / 2 ^ j) = ((v / 2 ^ j : Nat) : Int) by simp, and_one _ (by omega)]
theorem low_bits (v : Nat) (h : v < 4294967296) : bits .and .u64 ((v : Int) * 2) 4294967295 = ((v * 2 % 4294967296 : Nat) : Int) := by
  have h1 := u64_and_nat (v * 2) 4294967295 (by omega) (by omega)
  rw [nat_mask32] at h1
  rw [← h1]; simp
theorem ne_bits (a b : Nat) (p q : Bool) (ha : (a % 2 = 1) ↔ p = true) (hb : (b % 2 = 1) ↔ q = true) : ((((a % 2 : Nat) : Int)) != ((b % 2 : Nat) : Int)) = (p != q) := by
  have h1 : a % 2 = 0 ∨ a % 2 = 1 := by omega
  have h2 : b % 2 = 0 ∨ b % 2 = 1 := by omega
  rcases h1 with e | e <;> rcases h2 with f | f <;> simp [e] at ha <;> simp [f] at hb <;> simp [e, f, ha, hb]
theorem test_up (c j v : Nat) (hc : c < 256) (hv : v < 4294967296) : (bits .and .u64 (IntKind.u64.wrap ((c : Int) / 2 ^ j)) 1 != bits .and .u64 ((v : Int) / 2147483648) 1) = (c.testBit j != v.testBit 31) := by
  rw [in_bit c j hc, top_bit v hv]
  refine ne_bits _ _ _ _ ?_ ?_
  · rw [Nat.testBit_eq_decide_div_mod_eq]; simp
  · rw [Nat.testBit_eq_decide_div_mod_eq]; simp
theorem up_yes (c j v : Nat) (hc : c < 256) (hv : v < 4294967296) (h : (bits .and .u64 (IntKind.u64.wrap ((c : Int) / 2 ^ j)) 1 != bits .and .u64 ((v : Int) / 2147483648) 1) = true) :
    bits .xor .u64 (bits .and .u64 ((v : Int) * 2) 4294967295) 79764919 = ((Cr.up v (c.testBit j) : Nat) : Int) := by
  rw [test_up c j v hc hv] at h
  have hx := u64_xor_nat (v * 2 % 4294967296) 79764919 (by omega) (by omega)
  rw [low_bits v hv]
  unfold Cr.up
  rw [h, Nat.xor_comm]
  simpa using hx
theorem up_no (c j v : Nat) (hc : c < 256) (hv : v < 4294967296) (h : (bits .and .u64 (IntKind.u64.wrap ((c : Int) / 2 ^ j)) 1 != bits .and .u64 ((v : Int) / 2147483648) 1) = false) :
    bits .and .u64 ((v : Int) * 2) 4294967295 = ((Cr.up v (c.testBit j) : Nat) : Int) := by
  rw [test_up c j v hc hv] at h
  rw [low_bits v hv]
  unfold Cr.up
  rw [h]; simp
theorem part_yes (bs : List UInt8) (j : Nat) (hj : j < 32) (h : (bits .and .u64 ((Cr.rcrc bs : Int) / 2 ^ j) 1 == 0) = true) :
    wrap64 ((Cr.part (Cr.sum bs) j : Int) + wrap64 (2 ^ (31 - j))) = ((Cr.part (Cr.sum bs) (j + 1) : Nat) : Int) := by
  rw [at_bit _ _ (Cr.rcrc_lt bs)] at h
  have hz : Cr.rcrc bs / 2 ^ j % 2 = 0 := by have := beq_iff_eq.1 h; omega
  have hs := Cr.part_succ (Cr.crc_lt bs) hj (Cr.rev_crc bs)
  rw [if_pos hz] at hs
  have hp : (2 : Nat) ^ (31 - j) ≤ 2 ^ 31 := Nat.pow_le_pow_right (by omega) (by omega)
  have hl : Cr.part (Cr.sum bs) j ≤ Cr.sum bs := Nat.div_mul_le_self _ _
  have hb := Cr.crc_lt bs
  have hsum : Cr.sum bs = 4294967295 - Cr.crc bs := rfl
  rw [show ((2 : Int) ^ (31 - j)) = ((2 ^ (31 - j) : Nat) : Int) by simp]
  rw [← hsum] at hs
  generalize (2 : Nat) ^ (31 - j) = q at *
  have hp' : q ≤ 2147483648 := hp
  rw [IntWalk.wrap64_in (q : Int) (by omega), IntWalk.wrap64_in _ (by omega), hs]; simp
theorem part_no (bs : List UInt8) (j : Nat) (hj : j < 32) (h : (bits .and .u64 ((Cr.rcrc bs : Int) / 2 ^ j) 1 == 0) = false) :
    Cr.part (Cr.sum bs) j = Cr.part (Cr.sum bs) (j + 1) := by
  rw [at_bit _ _ (Cr.rcrc_lt bs)] at h
  have hz : ¬ Cr.rcrc bs / 2 ^ j % 2 = 0 := by have := beq_eq_false_iff_ne.1 h; omega
  have hs := Cr.part_succ (Cr.crc_lt bs) hj (Cr.rev_crc bs)
  rw [if_neg hz] at hs
  exact hs.symm

end Go.Proofs.YtodadoaindfecaaDoor
