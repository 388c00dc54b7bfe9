/- record.Sum: the walk. -/
import Derived.Test.YtodadoaindfecaaDoorProg
import Derived.Test.YtodadoaindfecaaDoorArgs
import Derived.Test.YtodadoaindfecaaDoorCrc
import Derived.WalkKit
import Derived.WalkLawsBesides
import Derived.Laws.BitsAllLaws
namespace Go.Proofs.YtodadoaindfecaaDoor
open Go.RowKit Go.Maps
set_option maxRecDepth 100000
set_option linter.unusedSimpArgs false
set_option linter.unusedVariables false

theorem not_u32 (s : Nat) (h : s < 4294967296) : bits .xor .u32 IntKind.u32.max (s : Int) = ((4294967295 - s : Nat) : Int) := by
  rw [show IntKind.u32.max = ((4294967295 : Nat) : Int) by decide, u32_xor_nat _ _ (by omega) h]
  congr 1
  apply Nat.eq_of_testBit_eq
  intro i
  have h1 := Nat.testBit_two_pow_sub_one 32 i
  have h2 := Nat.testBit_two_pow_sub_succ (n := 32) (x := s) (by simpa using h) i
  rw [show 2 ^ 32 - (s + 1) = 4294967295 - s by omega] at h2
  rw [show (2 ^ 32 - 1 : Nat) = 4294967295 by decide] at h1
  rw [Nat.testBit_xor, h1, h2]
  by_cases hi : i < 32
  · simp [hi]
  · simp [hi, Cr.tb_high h (by omega : 32 ≤ i)]

theorem step_u32 (s : Nat) (h : s < 4294967296) : bits .xor .u32 ((s : Int) / 2) (3988292384 * bits .and .u32 (s : Int) 1 % 4294967296) = ((Cr.step s : Nat) : Int) := by
  have h1 := u32_and_nat s 1 h (by omega)
  rw [nat_mask1] at h1
  simp only [Int.natCast_one] at h1
  rw [h1, show (s : Int) / 2 = ((s / 2 : Nat) : Int) by omega, show (3988292384 * ((s % 2 : Nat) : Int) % 4294967296) = ((3988292384 * (s % 2) : Nat) : Int) by omega, u32_xor_nat _ _ (by omega) (by omega)]
  rfl

end Go.Proofs.YtodadoaindfecaaDoor
