/- record.Get: the number at the beginning of bytes. -/
import Derived.Test.YtodadoaindfecaaDoorSl
import Derived.Test.YtodadoaindfecaaDoorNum
import Derived.Laws.BitsAllLaws
namespace Go.Proofs.YtodadoaindfecaaDoor
open Go.RowKit Go.Maps
set_option maxRecDepth 100000
set_option linter.unusedSimpArgs false
set_option linter.unusedVariables false

theorem ret_two {a b c d : Int} (h : a = b) (k : c = d) : Ending.returned (.tuple #[.int .i64 a, .int .i64 c]) = .returned (.tuple #[.int .i64 b, .int .i64 d]) := by rw [h, k]

theorem i64_or_nat (a b : Nat) (ha : a < 9223372036854775808) (hb : b < 9223372036854775808) (hab : a ||| b < 9223372036854775808) : bits .or .i64 (a : Int) (b : Int) = ((a ||| b : Nat) : Int) := by
  show IntKind.i64.wrap ((BitVec.ofInt 64 (a : Int) ||| BitVec.ofInt 64 (b : Int)).toNat : Int) = _
  rw [BitVec.toNat_or, ofInt_u64 a (by omega), ofInt_u64 b (by omega), IntWalk.i64_left, IntWalk.wrap64_in _ (by omega)]
theorem pow_7 (k : Nat) : (2 : Nat) ^ (7 * k) = 128 ^ k := by rw [Nat.pow_mul]
theorem or_val (bs : List UInt8) (k : Nat) (hk : k < bs.length) (h6 : k < 6) :
    bits .or .i64 (Nu.val (bs.take k) : Int) (wrap64 (wrap64 (bits .and .u8 (bs[k].toNat : Int) 127) * 2 ^ (7 * k))) = ((Nu.val (bs.take (k + 1)) : Nat) : Int) := by
  have hb := bs[k].toNat_lt
  have h1 := u8_and_nat bs[k].toNat 127 (by omega) (by omega)
  rw [nat_mask7] at h1
  have h1' : bits .and .u8 (bs[k].toNat : Int) 127 = ((bs[k].toNat % 128 : Nat) : Int) := h1
  rw [h1', take_snoc bs k hk, Nu.val_snoc]
  have hl : (bs.take k).length = k := by simp; omega
  have hv := Nu.val_lt (bs.take k)
  rw [hl] at hv ⊢
  have hp : 128 ^ k ≤ 128 ^ 5 := Nat.pow_le_pow_right (by omega) (by omega)
  have hp' : 128 ^ k ≤ 34359738368 := hp
  generalize hq : bs[k].toNat % 128 = q at *
  have hq1 : q < 128 := by omega
  have hm : q * 128 ^ k ≤ 127 * 34359738368 := Nat.mul_le_mul (by omega) hp'
  rw [show ((2 : Int) ^ (7 * k)) = ((128 ^ k : Nat) : Int) by rw [← pow_7]; simp]
  generalize Nu.val (bs.take k) = x at *
  rw [IntWalk.wrap64_in (q : Int) (by omega), show ((q : Int) * ((128 ^ k : Nat) : Int)) = ((q * 128 ^ k : Nat) : Int) by simp]
  have hj : q * 128 ^ k ||| x = q * 128 ^ k + x := nat_join (7 * k) _ _ (by rw [pow_7]; exact Nat.mul_mod_left _ _) (by rw [pow_7]; exact hv)
  generalize 128 ^ k = r at *
  generalize q * r = y at *
  rw [IntWalk.wrap64_in _ (by omega), i64_or_nat _ _ (by omega) (by omega) (by rw [Nat.or_comm, hj]; omega), Nat.or_comm, hj]
  omega
theorem drop_cons (bs : List UInt8) (k : Nat) (h : k < bs.length) : bs.drop k = bs[k] :: bs.drop (k + 1) := List.drop_eq_getElem_cons h

set_option maxHeartbeats 1000000 in
theorem get_any (w : World) (v : Value) (bs : List UInt8) (hx : BytesAt w v bs) (hl : bs.length ≤ 9223372036854775807) :
    Calls Tryd.prog 89 #[v] w fun e w' => e = .returned (.tuple #[.int .i64 (Nu.get bs).1, .int .i64 (Nu.get bs).2]) ∧ w = w' := by
  obtain ⟨a, c, rfl, hlc, hcm, hc⟩ := hx.form
  clear hx
  obtain ⟨m, hm⟩ : ∃ m, m = min bs.length 6 := ⟨_, rfl⟩
  have hmin : ∀ ts t w, (Builtin.min_ ts t #[.int .i64 (bs.length : Int), .int .i64 6]).run Tryd.prog w = .ok (.int .i64 (m : Int)) w := by
    intro ts t w
    by_cases h6 : 6 < bs.length
    · have : (6 : Int) < (bs.length : Int) := by omega
      simp [Builtin.min_, Builtin.min2, this]; omega
    · have : ¬ (6 : Int) < (bs.length : Int) := by omega
      simp [Builtin.min_, Builtin.min2, this]; omega
  have hsl := fun w => @run_to a bs.length c m (by omega) w
  have hm6 : m ≤ 6 := by omega
  have hml : m ≤ bs.length := by omega
  have HM : Hid (m = 6 ∨ m = bs.length) := by show _ ∨ _; omega
  clear hm
  go_enter Tryd.func89, Tryd.ntmps89
  go_wp2
  go_loop [2, 12] (fun n i => ∃ k : Nat, k ≤ m ∧ i = .int .i64 k ∧ n = .int .i64 (Nu.val (bs.take k)) ∧ Nu.val (bs.take k) ≤ 1099511627776 ∧ Nu.get bs = Nu.getF (6 - k) (bs.take k) (bs.drop k)) (fun _ i => m - (intOf i).toNat)
  case atStart => exact ⟨0, Nat.zero_le _, rfl, rfl, by simp [Nu.val], rfl⟩
  case round =>
    obtain ⟨k, hk, rfl, rfl, hv, hg⟩ := hrel
    have HG : Hid (Nu.get bs = Nu.getF (6 - k) (bs.take k) (bs.drop k)) := hg
    clear hg
    by_cases hlt : k < m
    · obtain ⟨p, rfl, hcell⟩ := hc k (by omega)
      have hb8 := bs[k].toNat_lt
      clear hc
      have hor := or_val bs k (by omega) (by omega)
      have HS : Hid (Nu.get bs = Nu.getF (5 - k + 1) (bs.take k) (bs[k] :: bs.drop (k + 1))) := by
        show _ = _
        rw [HG.out, drop_cons bs k (by omega), show 6 - k = 5 - k + 1 by omega]
      have HT : Hid (bs.take k ++ [bs[k]] = bs.take (k + 1)) := (take_snoc bs k (by omega)).symm
      have HL : Hid ((bs.take k).length = k) := by show _ = _; simp; omega
      have HN : Hid (bs.take k ≠ [] ↔ 0 < k) := by
        show _ ↔ _
        have := HL.out
        rw [List.ne_nil_iff_length_pos, this]
      by_cases hc8 : 128 ≤ bs[k].toNat
      · have HM2 : Hid (Nu.get bs = Nu.getF (6 - (k + 1)) (bs.take (k + 1)) (bs.drop (k + 1))) := by
          show _ = _
          rw [HS.out, Nu.getF_more hc8, HT.out, show 5 - k = 6 - (k + 1) by omega]
        go_wp2
        · go_ret2
          rename_i hbig _
          have hz := Nu.getF_above (6 - (k + 1)) (bs.take (k + 1)) (bs.drop (k + 1)) (by omega)
          exact ⟨ret_two (by rw [HM2.out, hz]; rfl) (by rw [HM2.out, hz]; rfl), rfl⟩
        · refine ⟨⟨k + 1, by omega, by go_num, rfl, by omega, HM2.out⟩, ?_⟩
          simp only [intOf]; omega
      · have HM2 : Hid (Nu.get bs = if 1099511627776 < Nu.val (bs.take (k + 1)) ∨ (bs.take k ≠ [] ∧ bs[k].toNat = 0) then (0, 0) else (Nu.val (bs.take (k + 1)), k + 1)) := by
          show _ = _
          rw [HS.out, Nu.getF_last (by omega), HT.out, HL.out]
        go_wp2
        all_goals
          go_ret2
          first
            | (have hz : Nu.get bs = (0, 0) := by rw [HM2.out, if_pos (.inl (by omega))]
               exact ⟨ret_two (by rw [hz] <;> rfl) (by rw [hz] <;> rfl), rfl⟩)
            | (have hz : Nu.get bs = (0, 0) := by rw [HM2.out, if_pos (.inr ⟨HN.out.2 (by omega), by omega⟩)]
               exact ⟨ret_two (by rw [hz] <;> rfl) (by rw [hz] <;> rfl), rfl⟩)
            | (have hz : Nu.get bs = (Nu.val (bs.take (k + 1)), k + 1) := by
                 rw [HM2.out, if_neg]
                 rintro (h1 | ⟨h1, h2⟩)
                 · omega
                 · have := HN.out.1 h1; omega
               exact ⟨ret_two (by rw [hz] <;> rfl) (by rw [hz] <;> rfl), rfl⟩)
    · go_wp2
      go_ret2
      have hz : Nu.get bs = (0, 0) := by
        rw [HG.out]
        rcases HM.out with h | h
        · rw [show 6 - k = 0 by omega]; rfl
        · rw [List.drop_of_length_le (by omega)]; exact Nu.getF_none _ _
      exact ⟨ret_two (by rw [hz] <;> rfl) (by rw [hz] <;> rfl), rfl⟩
end Go.Proofs.YtodadoaindfecaaDoor
