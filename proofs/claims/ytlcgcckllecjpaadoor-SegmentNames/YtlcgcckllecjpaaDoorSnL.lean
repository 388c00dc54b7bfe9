/- conveyorlaw.SegmentNames, walked. -/
import Derived.Test.YtlcgcckllecjpaaDoorSnR
namespace Go.Proofs.YtlcgcckllecjpaaDoor.Sn
open Go.Lib Go.RowKit
set_option linter.unusedSimpArgs false
set_option linter.unusedVariables false
attribute [local go_sem] Oper.semAt_some
set_option maxRecDepth 100000

theorem size4 {a b : Nat} (ha : a ≤ 100) (hb : b ≤ 100) : a + (⟨#[47]⟩ : ByteArray).size + b + (⟨#[46, 108, 111, 103]⟩ : ByteArray).size ≤ 1000 := by
  show a + 1 + b + 4 ≤ 1000
  omega
theorem nameB_size {dir : ByteArray} {n : Nat} (hn : n ≤ 1099511627776) (hd : dir.size ≤ 100) : (nameB dir n).size ≤ 1000 := by
  have := dec_short hn
  rw [size_eq] at hd ⊢
  simp [nameB, nameL, pad]
  simp at hd
  omega

set_option maxHeartbeats 4000000 in
theorem segmentNames_any (dir name : ByteArray) (z : Int) (hd : dir.size ≤ 9223372036854775807) (hn : name.size ≤ 9223372036854775807) (hs : dir.size + name.size ≤ 9223372036854775807) (w : World) (hv : VarT w) :
    Calls Tryd.prog 8 #[.string dir, .string name, .int .i64 z] w fun e w' => e = .returned (.bool true) ∧ Below w.heap.size w w' := by
  have HV := hide hv
  clear hv
  by_cases hl : (100 : Int) < (dir.size : Int) + name.size
  · go_enter Tryd.func8, Tryd.ntmps8
    go_wp2
    go_ret
    exact ⟨rfl, Below.refl _ _⟩
  have hd2 : dir.size ≤ 100 := by omega
  have hn2 : name.size ≤ 100 := by omega
  clear hd hn hs
  by_cases hz : 0 ≤ z
  · by_cases hz2 : z ≤ 1099511627776
    · obtain ⟨n, rfl⟩ := Int.eq_ofNat_of_zero_le hz
      have hn3 : n ≤ 1099511627776 := by omega
      go_enter Tryd.func8, Tryd.ntmps8
      go_wp2_with fail
      refine (name_any dir n hn3 (by omega) _ HV.out).mono ?_
      rintro e u1 ⟨rfl, hb1⟩
      have HU1 := hide hb1
      clear hb1
      go_wp2_with fail
      refine (segName_any dir n hn3 (by omega) _ (HV.out.below HU1.out)).mono ?_
      rintro e u2 ⟨rfl, hb2⟩
      have HU2 := hide (below_step HU1.out hb2)
      clear hb2
      go_wp2_with fail
      refine (segName_any dir n hn3 (by omega) _ (HV.out.below HU2.out)).mono ?_
      rintro e u3 ⟨rfl, hb3⟩
      have HU3 := hide (below_step HU2.out hb3)
      clear hb3
      go_wp2_with fail
      refine (base_any dir (nameB dir n) (by omega) (nameB_size hn3 hd2) _ (HV.out.below HU3.out)).mono ?_
      rintro e u4 ⟨rfl, hb4⟩
      have HB0 := hide (below_step HU3.out hb4)
      have hself : baseS dir.data.toList (nameB dir n).data.toList = (n : Int) := by
        have e1 : (nameB dir n).data.toList = nameL dir.data.toList n := by simp [nameB]
        rw [e1, baseS_yes hn3]
      clear hb4
      go_wp2_with fail
      refine (base_any dir name (by omega) (by omega) _ (HV.out.below HB0.out)).mono ?_
      rintro e w1 ⟨rfl, hb1⟩
      have HB1 := hide (below_step HB0.out hb1)
      clear hb1
      go_wp2_with fail
      refine (segBase_any dir name (by omega) (by omega) _ (HV.out.below HB1.out)).mono ?_
      rintro e w2 ⟨rfl, hb2⟩
      have HB2 := hide (below_step HB1.out hb2)
      clear hb2
      go_wp2_with fail
      refine (base_any dir _ (by omega) (by simp only [ByteArray.size_append]; exact size4 hd2 hn2) _ (HV.out.below HB2.out)).mono ?_
      rintro e w3 ⟨rfl, hb3⟩
      have HB3 := hide (below_step HB2.out hb3)
      clear hb3
      go_wp2_with fail
      refine (segBase_any dir _ (by omega) (by simp only [ByteArray.size_append]; exact size4 hd2 hn2) _ (HV.out.below HB3.out)).mono ?_
      rintro e w4 ⟨rfl, hb4⟩
      have HB4 := hide (below_step HB3.out hb4)
      clear hb4
      go_wp2_with fail
      go_ret
      exact ⟨rfl, HB4.out⟩
    · have HB0 : Hid (Below w.heap.size w w) := Below.refl _ _
      go_enter Tryd.func8, Tryd.ntmps8
      go_wp2_with fail
      refine (base_any dir name (by omega) (by omega) _ (HV.out.below HB0.out)).mono ?_
      rintro e w1 ⟨rfl, hb1⟩
      have HB1 := hide (below_step HB0.out hb1)
      clear hb1
      go_wp2_with fail
      refine (segBase_any dir name (by omega) (by omega) _ (HV.out.below HB1.out)).mono ?_
      rintro e w2 ⟨rfl, hb2⟩
      have HB2 := hide (below_step HB1.out hb2)
      clear hb2
      go_wp2_with fail
      refine (base_any dir _ (by omega) (by simp only [ByteArray.size_append]; exact size4 hd2 hn2) _ (HV.out.below HB2.out)).mono ?_
      rintro e w3 ⟨rfl, hb3⟩
      have HB3 := hide (below_step HB2.out hb3)
      clear hb3
      go_wp2_with fail
      refine (segBase_any dir _ (by omega) (by simp only [ByteArray.size_append]; exact size4 hd2 hn2) _ (HV.out.below HB3.out)).mono ?_
      rintro e w4 ⟨rfl, hb4⟩
      have HB4 := hide (below_step HB3.out hb4)
      clear hb4
      go_wp2_with fail
      go_ret
      exact ⟨rfl, HB4.out⟩
  · have HB0 : Hid (Below w.heap.size w w) := Below.refl _ _
    go_enter Tryd.func8, Tryd.ntmps8
    go_wp2_with fail
    refine (base_any dir name (by omega) (by omega) _ (HV.out.below HB0.out)).mono ?_
    rintro e w1 ⟨rfl, hb1⟩
    have HB1 := hide (below_step HB0.out hb1)
    clear hb1
    go_wp2_with fail
    refine (segBase_any dir name (by omega) (by omega) _ (HV.out.below HB1.out)).mono ?_
    rintro e w2 ⟨rfl, hb2⟩
    have HB2 := hide (below_step HB1.out hb2)
    clear hb2
    go_wp2_with fail
    refine (base_any dir _ (by omega) (by simp only [ByteArray.size_append]; exact size4 hd2 hn2) _ (HV.out.below HB2.out)).mono ?_
    rintro e w3 ⟨rfl, hb3⟩
    have HB3 := hide (below_step HB2.out hb3)
    clear hb3
    go_wp2_with fail
    refine (segBase_any dir _ (by omega) (by simp only [ByteArray.size_append]; exact size4 hd2 hn2) _ (HV.out.below HB3.out)).mono ?_
    rintro e w4 ⟨rfl, hb4⟩
    have HB4 := hide (below_step HB3.out hb4)
    clear hb4
    go_wp2_with fail
    go_ret
    exact ⟨rfl, HB4.out⟩
end Go.Proofs.YtlcgcckllecjpaaDoor.Sn
