/- The document's DiskName: which texts may be names. -/
import Derived.Test.YtlcgcckllecjpaaDoorNm
import Derived.Test.YtlcgcckllecjpaaDoorArgs
import Derived.WalkSpells
import Derived.WalkLawsBesides
import Derived.Lib.Bytealg
namespace Go.Proofs.YtlcgcckllecjpaaDoor.Dk
open Go.RowKit
set_option maxRecDepth 100000

set_option maxHeartbeats 400000 in
theorem indexByte_any (s : ByteArray) (c : Int) (w : World) :
    Calls Tryd.prog 122 #[.string s, .int .u8 c] w fun e w' => e = .returned (.int .i64 (Lib.indexByte s.data.toList c.toNat.toUInt8)) ∧ w' = w := by
  have hx : ∀ w, (callFunc 172 #[.string s, .int .u8 c]).run Tryd.prog w = .ok (.value (.int .i64 (Lib.indexByte s.data.toList c.toNat.toUInt8))) w := by
    intro w
    rw [run_callFunc_extern Tryd.func172 (by kernel_rfl) (by kernel_rfl) (by kernel_rfl) (e := Extern.BytealgIndexByte.indexByte) (by kernel_rfl), Lib.run_indexByteString]
    rfl
  go_enter Tryd.func122, Tryd.ntmps122
  go_wp2
  go_ret
  exact ⟨rfl, rfl⟩

def ofB : ByteArray := { data := #[97, 98, 99, 100, 101, 102, 103, 104, 105, 106, 107, 108, 109, 110, 111, 112, 113, 114, 115, 116, 117, 118, 119, 120, 121, 122, 48, 49, 50, 51, 52, 53, 54, 55, 56, 57, 45, 46, 47] }
def inB (f : ByteArray) (c : UInt8) : Bool := !decide (Lib.indexByte f.data.toList c < 0)

set_option maxHeartbeats 400000 in
theorem made_any (s f : ByteArray) (w : World) (hs : s.size ≤ maxLen) :
    Calls Tryd.prog 86 #[.string s, .string f] w fun e w' => e = .returned (.bool (allB (inB f) s)) ∧ w' = w := by
  unfold maxLen at hs
  go_enter Tryd.func86, Tryd.ntmps86
  go_wp2
  go_loop [8] (fun i => ∃ k : Nat, k ≤ s.size ∧ i = .int .i64 k ∧ (s.data.toList.take k).all (inB f) = true) (fun i => s.size - (intOf i).toNat)
  case atStart => exact ⟨0, Nat.zero_le _, rfl, rfl⟩
  case round =>
    obtain ⟨k, hk, rfl, ha⟩ := hrel
    have HA : Hid ((s.data.toList.take k).all (inB f) = true) := ha
    clear ha
    by_cases hlt : k < s.size
    · have hsn := all_snoc (inB f) s k hlt
      have HS : Hid ((s.data.toList.take (k + 1)).all (inB f) = ((s.data.toList.take k).all (inB f) && inB f s[k])) := hsn
      clear hsn
      by_cases hi : Lib.indexByte f.data.toList s[k] < 0
      · have hb : inB f s[k] = false := by simp [inB, hi]
        have hz := all_false (inB f) s k hlt hb
        have HZ : Hid (allB (inB f) s = false) := hz
        clear hz hb
        go_wp2_with (go_at_call 122; refine (indexByte_any _ _ _).mono ?_; rintro e w' ⟨rfl, rfl⟩)
        go_ret
        exact ⟨ret_bool HZ.out.symm, rfl⟩
      · go_wp2_with (go_at_call 122; refine (indexByte_any _ _ _).mono ?_; rintro e w' ⟨rfl, rfl⟩)
        go_round
        case rel => exact ⟨k + 1, by omega, by go_num, by rw [HS.out, HA.out]; simp [inB, hi]⟩
        case measure => simp [intOf]; omega
    · go_wp2
      go_ret
      have := all_take (inB f) s k (by omega)
      exact ⟨ret_bool (by rw [← this, HA.out]), rfl⟩

theorem nb_in : ∀ n : Fin 256, nb8 (UInt8.ofNat n.val) = inB ofB (UInt8.ofNat n.val) := by decide +kernel
theorem nb_eq : inB ofB = nb8 := by
  funext c
  have := nb_in ⟨c.toNat, c.toNat_lt⟩
  simpa using this.symm

set_option maxHeartbeats 400000 in
theorem refName_any (s : ByteArray) (w : World) (hs : s.size ≤ maxLen) :
    Calls Tryd.prog 51 #[.string s] w fun e w' => e = .returned (.bool (nameB s)) ∧ w = w' := by
  have hm := hs
  unfold maxLen at hs
  have hmade := fun w => made_any s ofB w hm
  rw [nb_eq] at hmade
  have HM := hide hmade
  clear hmade
  by_cases h1 : 0 < s.size <;> by_cases h2 : s.size ≤ 40
  · cases ha : allB nb8 s
    all_goals
      have HA : Hid (_ = _) := ha; clear ha
      go_enter Tryd.func51, Tryd.ntmps51
      go_wp2_with (go_at_call 86; refine (HM.out _).mono ?_; rintro e w' ⟨rfl, rfl⟩)
      go_ret
      exact ⟨ret_bool (by have hq := HA.out; rw [Bool.eq_iff_iff]; simp [nameB, h2, hq]; try omega), rfl⟩
  all_goals
    go_enter Tryd.func51, Tryd.ntmps51
    go_wp2_with (go_at_call 86; refine (HM.out _).mono ?_; rintro e w' ⟨rfl, rfl⟩)
    go_ret
    exact ⟨ret_bool (by rw [Bool.eq_iff_iff]; simp [nameB]; omega), rfl⟩
end Go.Proofs.YtlcgcckllecjpaaDoor.Dk
