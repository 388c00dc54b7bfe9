/- record.Sum: the walk. -/
import Derived.Test.YtlcgcckllecjpaaRows
import Derived.Test.YtlcgcckllecjpaaArgs
import Derived.Test.YtlcgcckllecjpaaCrc
import Derived.WalkKit
import Derived.WalkLawsBesides
import Derived.Laws.BitsAllLaws
namespace Go.Proofs.Ytlcgcckllecjpaa
open Go.RowKit Go.Maps
set_option maxRecDepth 100000
set_option linter.unusedSimpArgs false
set_option linter.unusedVariables false

theorem not_u32 (s : Nat) (h : s < 4294967296) : bits .xor .u32 IntKind.u32.max (s : Int) = ((4294967295 - s : Nat) : Int) := by
  rw [show IntKind.u32.max = ((4294967295 : Nat) : Int) by decide, u32_xor_nat _ _ (by omega) h]
  congr 1
  apply Nat.eq_of_testBit_eq
  intro i
  have h1 := Nat.testBit_two_pow_sub_one 32 i
  have h2 := Nat.testBit_two_pow_sub_succ (n := 32) (x := s) (by simpa using h) i
  rw [show 2 ^ 32 - (s + 1) = 4294967295 - s by omega] at h2
  rw [show (2 ^ 32 - 1 : Nat) = 4294967295 by decide] at h1
  rw [Nat.testBit_xor, h1, h2]
  by_cases hi : i < 32
  · simp [hi]
  · simp [hi, Cr.tb_high h (by omega : 32 ≤ i)]

theorem step_u32 (s : Nat) (h : s < 4294967296) : bits .xor .u32 ((s : Int) / 2) (3988292384 * bits .and .u32 (s : Int) 1 % 4294967296) = ((Cr.step s : Nat) : Int) := by
  have h1 := u32_and_nat s 1 h (by omega)
  rw [nat_mask1] at h1
  simp only [Int.natCast_one] at h1
  rw [h1, show (s : Int) / 2 = ((s / 2 : Nat) : Int) by omega, show (3988292384 * ((s % 2 : Nat) : Int) % 4294967296) = ((3988292384 * (s % 2) : Nat) : Int) by omega, u32_xor_nat _ _ (by omega) (by omega)]
  rfl

set_option maxHeartbeats 400000 in
theorem sum_any (w : World) (v : Value) (bs : List UInt8) (hx : SliceAt w v (bs.map encB)) (hl : bs.length ≤ 9223372036854775806) :
    Calls Try.prog 18 #[v] w fun e w' => e = .returned (.int .i64 (Cr.sum bs)) ∧ w = w' := by
  obtain ⟨a, c, rfl, hc⟩ := hx.form
  clear hx
  simp only [List.length_map]
  go_enter Try.func18, Try.ntmps18
  go_wp2
  go_loop [3, 8] (fun s i => ∃ k : Nat, k ≤ bs.length ∧ i = .int .i64 k ∧ s = .int .u32 (Cr.crc (bs.take k))) (fun _ i => bs.length - (intOf i).toNat)
  case atStart => exact ⟨0, Nat.zero_le _, rfl, rfl⟩
  case round =>
    obtain ⟨k, hk, rfl, rfl⟩ := hrel
    by_cases hlt : k < bs.length
    · obtain ⟨p, rfl, hcell⟩ := hc k _ (enc_at bs k hlt)
      have hb8 := bs[k].toNat_lt
      have hs := Cr.crc_lt (bs.take k)
      have HS : Hid (Cr.crc (bs.take (k + 1)) = Cr.byte (Cr.crc (bs.take k)) bs[k]) := by show _ = _; rw [take_snoc bs k hlt, Cr.crc_snoc]
      clear hc
      go_wp2
      have hxx := Cr.xor_lt hs bs[k]
      go_loop [3, 16] (fun s i => ∃ j : Nat, j ≤ 8 ∧ i = .int .i64 j ∧ s = .int .u32 (Cr.steps j (Cr.crc (bs.take k) ^^^ bs[k].toNat))) (fun _ i => 8 - (intOf i).toNat)
      case atStart => exact ⟨0, Nat.zero_le _, rfl, by rw [u32_xor_nat _ _ hs (by omega)]; rfl⟩
      case round =>
        obtain ⟨j, hj, rfl, rfl⟩ := hrel
        have hsj := Cr.steps_lt hxx j
        by_cases hlj : j < 8
        · go_wp2
          go_round
          case rel => exact ⟨j + 1, by omega, by go_num, by rw [step_u32 _ hsj]; rfl⟩
          case measure => simp [intOf]; omega
        · obtain rfl : j = 8 := by omega
          go_wp2
          go_round
          case rel => exact ⟨k + 1, by omega, by go_num, by rw [HS.out]; rfl⟩
          case measure => simp [intOf]; omega
    · go_wp2
      have hlast : bs.take k = bs := List.take_of_length_le (by omega)
      rw [hlast] at *
      go_ret
      exact ⟨ret_int (by rw [not_u32 _ (Cr.crc_lt bs), IntWalk.wrap64_in _ (by have := Cr.crc_lt bs; omega)]; rfl), rfl⟩
end Go.Proofs.Ytlcgcckllecjpaa
