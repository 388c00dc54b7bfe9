/- The document's Encode. -/
import Derived.Test.YtodadoaindfecaaDoorClo
import Derived.Test.YtodadoaindfecaaDoorEncP
import Derived.Test.YtodadoaindfecaaDoorChkR
import Derived.Test.YtodadoaindfecaaDoorSumR
import Derived.Test.YtodadoaindfecaaDoorPutN
import Derived.Laws.EntriesVeiled
namespace Go.Proofs.YtodadoaindfecaaDoor
open Go.RowKit Go.Maps
set_option maxRecDepth 100000
set_option linter.unusedSimpArgs false
set_option linter.unusedVariables false

theorem RowAt.low {w : World} {e b b' : Nat} {v : Value} {bs : List UInt8} (h : RowAt w e b v bs) (hb : b' ≤ b) : RowAt w e b' v bs := by
  rcases h with h | ⟨g, cap, cur, h1, h2, r⟩
  · exact .inl h
  · exact .inr ⟨g, cap, cur, h1, by omega, r⟩
theorem SliceAt.still {w w' : World} {v : Value} {xs : List Value} (h : SliceAt w v xs) (ht : Turn [] w w') : SliceAt w' v xs := h.kept ht (by simp)
theorem refFour_any (w : World) (n : Nat) (hn : n < 4294967296) :
    Calls Tryd.prog 68 #[.int .i64 n] w fun e w' => ∃ v', e = .returned v' ∧ (∃ p, v' = .slice (some p) 4 4) ∧ SliceAt w' v' ((Bt.four n).map encB) ∧ Turn [] w w' := by
  have e0 : (n : Int) / 16777216 = ((n / 16777216 % 256 : Nat) : Int) := by omega
  have e1 : (n : Int) / 65536 % 256 = ((n / 65536 % 256 : Nat) : Int) := by omega
  have e2 : (n : Int) / 256 % 256 = ((n / 256 % 256 : Nat) : Int) := by omega
  have e3 : (n : Int) % 256 = ((n % 256 : Nat) : Int) := by omega
  have E0 := hide e0
  have E1 := hide e1
  have E2 := hide e2
  have E3 := hide e3
  clear e0 e1 e2 e3
  go_enter Tryd.func68, Tryd.ntmps68
  go_wp2
  go_ret
  refine ⟨_, rfl, ⟨_, rfl⟩, ?_, (Turn.refl _ _).alloc _⟩
  refine fresh_row _ (Bt.four n) w.heap.size _ (heap_new w _) ?_ 4
  rw [four_enc, E0.out, E1.out, E2.out, E3.out]

end Go.Proofs.YtodadoaindfecaaDoor
