/- Which texts may be names: what the program's Name answers. -/
import Derived.Test.YtlcgcckllecjpaaDoorRows
import Derived.Test.YtlcgcckllecjpaaDoorTurn
namespace Go.Proofs.YtlcgcckllecjpaaDoor.Dk
open Go.RowKit
/-- Which bytes may be in a name. -/
def nb (c : Int) : Bool := decide (97 ≤ c ∧ c ≤ 122 ∨ 48 ≤ c ∧ c ≤ 57 ∨ c = 45 ∨ c = 46 ∨ c = 47)

set_option maxHeartbeats 400000 in
theorem nameByte_any (c : Int) (w : World) :
    Calls Tryd.prog 85 #[.int .u8 c] w fun e w' => e = .returned (.bool (nb c)) ∧ w' = w := by
  go_enter Tryd.func85, Tryd.ntmps85
  go_wp2
  all_goals
    go_ret
    exact ⟨ret_bool (by unfold nb; first | (symm; apply decide_eq_true; omega) | (symm; apply decide_eq_false; omega) | (rw [Bool.eq_iff_iff]; simp; omega)), rfl⟩

/-- All bytes of a text are so. -/
def allB (p : UInt8 → Bool) (s : ByteArray) : Bool := s.data.toList.all p
theorem all_snoc (p : UInt8 → Bool) (s : ByteArray) (k : Nat) (h : k < s.size) : (s.data.toList.take (k + 1)).all p = ((s.data.toList.take k).all p && p s[k]) := by
  rw [List.take_succ_eq_append_getElem (by simpa using h), List.all_append]
  simp; rfl
theorem all_false (p : UInt8 → Bool) (s : ByteArray) (k : Nat) (h : k < s.size) (hp : p s[k] = false) : allB p s = false := by
  unfold allB; rw [List.all_eq_false]
  exact ⟨s[k], by show s.data.toList[k]'(by simpa using h) ∈ _; exact List.getElem_mem _, by simp [hp]⟩
theorem all_take (p : UInt8 → Bool) (s : ByteArray) (k : Nat) (h : s.size ≤ k) : (s.data.toList.take k).all p = allB p s := by
  unfold allB; rw [List.take_of_length_le (by simpa using h)]

/-- Which bytes may be in a name, of a byte. -/
def nb8 (c : UInt8) : Bool := nb c.toNat
def nameB (s : ByteArray) : Bool := allB nb8 s && (decide (1 ≤ s.size) && decide (s.size ≤ 40))

set_option maxHeartbeats 400000 in
theorem name_loop (s : ByteArray) (w : World) (hs : s.size ≤ maxLen) :
    Calls Tryd.prog 47 #[.string s] w fun e w' => e = .returned (.bool (nameB s)) ∧ w' = w := by
  unfold maxLen at hs
  go_enter Tryd.func47, Tryd.ntmps47
  go_wp2
  go_loop [6] (fun i => ∃ k : Nat, k ≤ s.size ∧ i = .int .i64 k ∧ (s.data.toList.take k).all nb8 = true) (fun i => s.size - (intOf i).toNat)
  case atStart => exact ⟨0, Nat.zero_le _, rfl, rfl⟩
  case round =>
    obtain ⟨k, hk, rfl, ha⟩ := hrel
    have HA : Hid ((s.data.toList.take k).all nb8 = true) := ha
    clear ha
    by_cases hlt : k < s.size
    · have hsn := all_snoc nb8 s k hlt
      have HS : Hid ((s.data.toList.take (k + 1)).all nb8 = ((s.data.toList.take k).all nb8 && nb8 s[k])) := hsn
      clear hsn
      cases hi : nb s[k].toNat
      · have hz := all_false nb8 s k hlt hi
        have HZ : Hid (allB nb8 s = false) := hz
        clear hz
        go_wp2_with (go_at_call 85; refine (nameByte_any _ _).mono ?_; rintro e w' ⟨rfl, rfl⟩)
        go_ret
        exact ⟨ret_bool (by unfold nameB; rw [HZ.out]; rfl), rfl⟩
      · have H1 : Hid (nb8 s[k] = true) := hi
        go_wp2_with (go_at_call 85; refine (nameByte_any _ _).mono ?_; rintro e w' ⟨rfl, rfl⟩)
        go_round
        case rel => exact ⟨k + 1, by omega, by go_num, by rw [HS.out, HA.out, H1.out]; rfl⟩
        case measure => simp [intOf]; omega
    · have H := all_take nb8 s k (by omega)
      have HH : Hid (allB nb8 s = true) := H.symm.trans HA.out
      clear H
      by_cases h1 : 1 ≤ s.size <;> by_cases h2 : s.size ≤ 40
      all_goals go_wp2
      all_goals
        go_ret
        exact ⟨ret_bool (by have hq := HH.out; rw [Bool.eq_iff_iff]; simp [nameB, hq]; omega), rfl⟩
end Go.Proofs.YtlcgcckllecjpaaDoor.Dk
