/- conveyorlaw.DiskPlays, the ways out at once. -/
import Derived.Test.YtlcgcckllecjpaaDoorDPl
import Derived.Test.YtlcgcckllecjpaaDoorOpD
import Derived.Test.YtlcgcckllecjpaaDoorBare
import Derived.Test.YtlcgcckllecjpaaDoorClone
import Derived.Deep.CutBlock
import Derived.Deep.DeepCutAuto
namespace Go.Proofs.YtlcgcckllecjpaaDoor.Dk
open Go.RowKit Go.Maps
set_option maxRecDepth 100000
set_option linter.unusedSimpArgs false
set_option linter.unusedVariables false

def wordsC : Array Value := #[.string ⟨#[109, 97, 107, 101]⟩, .string ⟨#[97, 100, 100]⟩, .string ⟨#[99, 117, 116]⟩, .string ⟨#[115, 121, 110, 99]⟩, .string ⟨#[114, 101, 110, 97, 109, 101]⟩, .string ⟨#[114, 101, 109, 111, 118, 101]⟩]
def PlI (W w : World) (d r : Nat) (K : List (Nat × Obj)) : Prop := ∃ A F sv ms, PlS W w d r K A F sv ms

set_option maxHeartbeats 8000000 in
theorem diskPlays_bad (W : World) (z : Int) (v : Value) (ds : List DoV) (hd : DosAt W v ds) (z1 : -9223372036854775808 ≤ z) (z2 : z ≤ 9223372036854775807) (hz : z < 0 ∨ 1048576 < z) (hL : As.ErrT W) :
    Calls Tryd.prog 3 #[.int .i64 z, v] W fun e w' => e = .returned (.bool true) ∧ Below W.heap.size W w' := by
  have HG := hide hL
  have HD := hide hd
  obtain ⟨a, c, rfl, hlc, hcm, -⟩ := hd
  have hmx : maxLen = 9223372036854775807 := by simp [maxLen]
  rw [hmx] at hcm
  clear hL
  · have hbad := new_bad z hz W
    have HB := hide hbad
    clear hbad
    go_enter Tryd.func3, Tryd.ntmps3
    go_wp2_with fail
    refine HB.out.mono ?_
    rintro e w1 ⟨rfl, rfl⟩
    by_cases hz0 : z < 0
    · go_wp2_with fail
      refine (As.bare_any 2 2 _ HG.out).mono ?_
      rintro e w2 ⟨rfl, hb2⟩
      go_wp2
      go_ret
      exact ⟨rfl, hb2⟩
    · have hz3 : 1048576 < z := by omega
      go_wp2_with fail
      refine (As.bare_any 2 2 _ HG.out).mono ?_
      rintro e w2 ⟨rfl, hb2⟩
      go_wp2
      go_ret
      exact ⟨rfl, hb2⟩

set_option maxHeartbeats 8000000 in
theorem diskPlays_long (W : World) (room : Nat) (hroom : room ≤ 1048576) (v : Value) (ds : List DoV) (hd : DosAt W v ds) (hl : 60 < (ds.length : Int)) (hL : As.ErrT W) :
    Calls Tryd.prog 3 #[.int .i64 room, v] W fun e w' => e = .returned (.bool true) ∧ Below W.heap.size W w' := by
  have HG := hide hL
  have HD := hide hd
  obtain ⟨a, c, rfl, hlc, hcm, -⟩ := hd
  have hmx : maxLen = 9223372036854775807 := by simp [maxLen]
  rw [hmx] at hcm
  clear hL
  have hz0 : ¬ ((room : Int) < 0) := by omega
  have hz3 : ¬ (1048576 < (room : Int)) := by omega
  have HNEW := hide (new_ok room hroom W W.heap.size (Nat.le_refl _))
  go_enter Tryd.func3, Tryd.ntmps3
  go_wp2_with fail
  refine HNEW.out.mono ?_
  rintro e w1 ⟨rfl, hdk, ht1⟩
  have HT1 := hide ht1
  clear hdk ht1
  go_wp2
  go_ret
  exact ⟨rfl, HT1.out.nil⟩
end Go.Proofs.YtlcgcckllecjpaaDoor.Dk
