/- Append of bytes onto a row of one's own. -/
import Derived.Test.YtodadoaindfecaaDoorPutP
import Derived.Test.YtodadoaindfecaaDoorSl
namespace Go.Proofs.YtodadoaindfecaaDoor
open Go.RowKit Go.Maps
theorem app_bytes (w : World) (base : Nat) (v x : Value) (bs cs : List UInt8) (hrow : RowAt w 5 base v bs) (hx : SliceAt w x (cs.map encB)) (hlen : bs.length + cs.length ≤ 1099511627776) (hbase : base ≤ w.heap.size) :
    ∃ v' w', (Builtin.append_ #[49, 49] 49 #[v, x]).run Tryd.prog w = .ok v' w' ∧ RowAt w' 5 base v' (bs ++ cs) ∧ Turn v.ownBlock.toList w w' ∧ (∀ k ∈ v'.ownBlock, k ∈ v.ownBlock ∨ w.heap.size ≤ k) := by
  obtain ⟨i, hi, hz, hs, hb⟩ := infoB_parts
  exact run_append_row (P := Tryd.prog) w 49 49 5 base i Tryd.underlying49 hi hz hs hb v x bs cs hrow hx hlen hbase
theorem one_byte (w : World) (b : UInt8) : SliceAt (w.alloc (.cells #[.int .u8 b.toNat] 5)) (.slice (some ⟨w.heap.size, 0, none⟩) 1 1) ([b].map encB) := by
  refine .inr ⟨⟨w.heap.size, 0, none⟩, 1, rfl, fun j u hu => ?_⟩
  rw [addr_add, cell_of (heap_new w _)]
  cases j with
  | zero => simpa [encB] using hu
  | succ j => simp at hu
end Go.Proofs.YtodadoaindfecaaDoor
