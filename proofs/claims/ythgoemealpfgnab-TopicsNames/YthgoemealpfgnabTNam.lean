/- TopicsNames: the walks. -/
import Derived.Test.YthgoemealpfgnabProg
import Derived.Test.YthgoemealpfgnabTurn
import Derived.WalkKit
import Derived.WalkSpells
import Derived.WalkLawsBesides
import Derived.Lib.Bytealg
namespace Go.Proofs.Ythgoemealpfgnab.TNam
open Go.RowKit
set_option linter.unusedSimpArgs false
set_option linter.unusedVariables false

/-- Which bytes may be in a topic's name. -/
def nb (c : Int) : Bool := decide (97 ≤ c ∧ c ≤ 122 ∨ 48 ≤ c ∧ c ≤ 57)

set_option maxHeartbeats 400000 in
theorem nameByte_any (c : Int) (w : World) :
    Calls Try.prog 6 #[.int .u8 c] w fun e w' => e = .returned (.bool (nb c)) ∧ w' = w := by
  go_enter Try.func6, Try.ntmps6
  go_wp2
  all_goals
    go_ret
    exact ⟨ret_bool (by unfold nb; first | (symm; apply decide_eq_true; omega) | (symm; apply decide_eq_false; omega) | (rw [Bool.eq_iff_iff]; simp; omega)), rfl⟩

set_option maxHeartbeats 400000 in
theorem indexByte_any (s : ByteArray) (c : Int) (w : World) :
    Calls Try.prog 8 #[.string s, .int .u8 c] w fun e w' => e = .returned (.int .i64 (Lib.indexByte s.data.toList c.toNat.toUInt8)) ∧ w' = w := by
  have hx : ∀ w, (callFunc 10 #[.string s, .int .u8 c]).run Try.prog w = .ok (.value (.int .i64 (Lib.indexByte s.data.toList c.toNat.toUInt8))) w := by
    intro w
    rw [run_callFunc_extern Try.func10 (by kernel_rfl) (by kernel_rfl) (by kernel_rfl) (e := Extern.BytealgIndexByte.indexByte) (by kernel_rfl), Lib.run_indexByteString]
    rfl
  go_enter Try.func8, Try.ntmps8
  go_wp2
  go_ret
  exact ⟨rfl, rfl⟩

/-- The text of which topics' names are made. -/
def ofB : ByteArray := { data := #[97, 98, 99, 100, 101, 102, 103, 104, 105, 106, 107, 108, 109, 110, 111, 112, 113, 114, 115, 116, 117, 118, 119, 120, 121, 122, 48, 49, 50, 51, 52, 53, 54, 55, 56, 57] }
/-- Is a byte one of a text's. -/
def inB (f : ByteArray) (c : UInt8) : Bool := !decide (Lib.indexByte f.data.toList c < 0)

/-- All bytes of a text are so. -/
def allB (p : UInt8 → Bool) (s : ByteArray) : Bool := s.data.toList.all p
theorem all_snoc (p : UInt8 → Bool) (s : ByteArray) (k : Nat) (h : k < s.size) : (s.data.toList.take (k + 1)).all p = ((s.data.toList.take k).all p && p s[k]) := by
  rw [List.take_succ_eq_append_getElem (by simpa using h), List.all_append]
  simp; rfl
theorem all_false (p : UInt8 → Bool) (s : ByteArray) (k : Nat) (h : k < s.size) (hp : p s[k] = false) : allB p s = false := by
  unfold allB; rw [List.all_eq_false]
  exact ⟨s[k], by show s.data.toList[k]'(by simpa using h) ∈ _; exact List.getElem_mem _, by simp [hp]⟩
theorem all_take (p : UInt8 → Bool) (s : ByteArray) (k : Nat) (h : s.size ≤ k) : (s.data.toList.take k).all p = allB p s := by
  unfold allB; rw [List.take_of_length_le (by simpa using h)]

set_option maxHeartbeats 400000 in
theorem made_any (s f : ByteArray) (w : World) (hs : s.size ≤ maxLen) :
    Calls Try.prog 7 #[.string s, .string f] w fun e w' => e = .returned (.bool (allB (inB f) s)) ∧ w' = w := by
  unfold maxLen at hs
  go_enter Try.func7, Try.ntmps7
  go_wp2
  go_loop [8] (fun i => ∃ k : Nat, k ≤ s.size ∧ i = .int .i64 k ∧ (s.data.toList.take k).all (inB f) = true) (fun i => s.size - (intOf i).toNat)
  case atStart => exact ⟨0, Nat.zero_le _, rfl, rfl⟩
  case round =>
    obtain ⟨k, hk, rfl, ha⟩ := hrel
    have HA : Hid ((s.data.toList.take k).all (inB f) = true) := ha
    clear ha
    by_cases hlt : k < s.size
    · have hsn := all_snoc (inB f) s k hlt
      have HS : Hid ((s.data.toList.take (k + 1)).all (inB f) = ((s.data.toList.take k).all (inB f) && inB f s[k])) := hsn
      clear hsn
      by_cases hi : Lib.indexByte f.data.toList s[k] < 0
      · have hb : inB f s[k] = false := by simp [inB, hi]
        have hz := all_false (inB f) s k hlt hb
        have HZ : Hid (allB (inB f) s = false) := hz
        clear hz hb
        go_wp2_with (go_at_call 8; refine (indexByte_any _ _ _).mono ?_; rintro e w' ⟨rfl, rfl⟩)
        go_ret
        exact ⟨ret_bool HZ.out.symm, rfl⟩
      · go_wp2_with (go_at_call 8; refine (indexByte_any _ _ _).mono ?_; rintro e w' ⟨rfl, rfl⟩)
        go_round
        case rel => exact ⟨k + 1, by omega, by go_num, by rw [HS.out, HA.out]; simp [inB, hi]⟩
        case measure => simp [intOf]; omega
    · go_wp2
      go_ret
      have := all_take (inB f) s k (by omega)
      exact ⟨ret_bool (by rw [← this, HA.out]), rfl⟩

/-- Which bytes may be in a name, of a byte. -/
def nb8 (c : UInt8) : Bool := nb c.toNat
def nameB (s : ByteArray) : Bool := allB nb8 s && (decide (1 ≤ s.size) && decide (s.size ≤ 10))
def refB (s : ByteArray) : Bool := decide (0 < s.size) && (decide (s.size ≤ 10) && allB (inB ofB) s)

set_option maxHeartbeats 400000 in
theorem name_loop (s : ByteArray) (w : World) (hs : s.size ≤ maxLen) :
    Calls Try.prog 4 #[.string s] w fun e w' => e = .returned (.bool (nameB s)) ∧ w' = w := by
  unfold maxLen at hs
  go_enter Try.func4, Try.ntmps4
  go_wp2
  go_loop [6] (fun i => ∃ k : Nat, k ≤ s.size ∧ i = .int .i64 k ∧ (s.data.toList.take k).all nb8 = true) (fun i => s.size - (intOf i).toNat)
  case atStart => exact ⟨0, Nat.zero_le _, rfl, rfl⟩
  case round =>
    obtain ⟨k, hk, rfl, ha⟩ := hrel
    have HA : Hid ((s.data.toList.take k).all nb8 = true) := ha
    clear ha
    by_cases hlt : k < s.size
    · have hsn := all_snoc nb8 s k hlt
      have HS : Hid ((s.data.toList.take (k + 1)).all nb8 = ((s.data.toList.take k).all nb8 && nb8 s[k])) := hsn
      clear hsn
      cases hi : nb s[k].toNat
      · have hz := all_false nb8 s k hlt hi
        have HZ : Hid (allB nb8 s = false) := hz
        clear hz
        go_wp2_with (go_at_call 6; refine (nameByte_any _ _).mono ?_; rintro e w' ⟨rfl, rfl⟩)
        go_ret
        exact ⟨ret_bool (by unfold nameB; rw [HZ.out]; rfl), rfl⟩
      · have H1 : Hid (nb8 s[k] = true) := hi
        go_wp2_with (go_at_call 6; refine (nameByte_any _ _).mono ?_; rintro e w' ⟨rfl, rfl⟩)
        go_round
        case rel => exact ⟨k + 1, by omega, by go_num, by rw [HS.out, HA.out, H1.out]; rfl⟩
        case measure => simp [intOf]; omega
    · have H := all_take nb8 s k (by omega)
      have HH : Hid (allB nb8 s = true) := H.symm.trans HA.out
      clear H
      by_cases h1 : 1 ≤ s.size <;> by_cases h2 : s.size ≤ 10
      all_goals go_wp2
      all_goals
        go_ret
        exact ⟨ret_bool (by have hq := HH.out; rw [Bool.eq_iff_iff]; simp [nameB, hq]; omega), rfl⟩

theorem refName_any (s : ByteArray) (w : World) (hs : s.size ≤ maxLen) :
    Calls Try.prog 5 #[.string s] w fun e w' => e = .returned (.bool (refB s)) ∧ w' = w := by
  have hm := hs
  unfold maxLen at hs
  by_cases h1 : 0 < s.size <;> by_cases h2 : s.size ≤ 10
  · cases ha : allB (inB ofB) s
    all_goals
      have HA : Hid (_ = _) := ha; clear ha
      go_enter Try.func5, Try.ntmps5
      go_wp2_with (go_at_call 7; refine (made_any _ _ _ hm).mono ?_; rintro e w' ⟨rfl, rfl⟩)
      go_ret
      exact ⟨ret_bool (by have hq := HA.out; simp [refB, h1, h2, hq]; exact hq), rfl⟩
  all_goals
    go_enter Try.func5, Try.ntmps5
    go_wp2_with (go_at_call 7; refine (made_any _ _ _ hm).mono ?_; rintro e w' ⟨rfl, rfl⟩)
    go_ret
    exact ⟨ret_bool (by rw [Bool.eq_iff_iff]; simp [refB]; omega), rfl⟩

theorem nb_in : ∀ n : Fin 256, nb8 (UInt8.ofNat n.val) = inB ofB (UInt8.ofNat n.val) := by decide +kernel
theorem nb_eq : nb8 = inB ofB := by
  funext c
  have := nb_in ⟨c.toNat, c.toNat_lt⟩
  simpa using this

theorem same (s : ByteArray) : nameB s = refB s := by
  unfold nameB refB
  rw [nb_eq]
  cases allB (inB ofB) s <;> simp
  rw [Bool.eq_iff_iff]; simp; omega

set_option maxHeartbeats 400000 in
theorem names_any (s : ByteArray) (hm : s.size ≤ maxLen) (w : World) :
    Calls Try.prog 3 #[.string s] w fun e w' => e = .returned (.bool true) ∧ w' = w := by
  have hs := hm
  unfold maxLen at hs
  have HQ : Hid (nameB s = refB s) := same s
  by_cases h1 : 100 < s.size
  · go_enter Try.func3, Try.ntmps3
    go_wp2
    go_ret
    exact ⟨rfl, rfl⟩
  · go_enter Try.func3, Try.ntmps3
    go_wp2_with (first | (go_at_call 4; refine (name_loop _ _ hm).mono ?_; rintro e w' ⟨rfl, rfl⟩) | (go_at_call 5; refine (refName_any _ _ hm).mono ?_; rintro e w' ⟨rfl, rfl⟩))
    go_ret
    exact ⟨ret_bool (by rw [HQ.out]; simp), rfl⟩

end Go.Proofs.Ythgoemealpfgnab.TNam
