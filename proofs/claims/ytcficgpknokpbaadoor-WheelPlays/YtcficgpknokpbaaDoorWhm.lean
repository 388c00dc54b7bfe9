/- The wheel: a new one; turned. -/
import Derived.Test.YtcficgpknokpbaaDoorWhl
namespace Go.Proofs.YtcficgpknokpbaaDoor.Wh
open Go.RowKit Go.Maps Go.Shelf
set_option maxRecDepth 100000
set_option linter.unusedSimpArgs false
set_option linter.unusedVariables false
attribute [local go_sem] Oper.semAt_some

def zcs : Array Value := (.int .i64 0 :: .map none :: List.replicate 448 (.slice none 0 0)).toArray
theorem zeroW (w : World) : (zeroValue 28).run Tryd.prog w = .ok (.agg zcs) w := by kernel_rfl
theorem zcs_size : zcs.size = 450 := by unfold zcs; simp
/-- A new wheel. -/
theorem new_wheel (w : World) (base : Nat) (hb : base ≤ w.heap.size) : WheelAt (w.alloc (.cells zcs 28)) base w.heap.size [w.heap.size] 0 [] := by
  have hrows : rowsF (fun _ => nilS) = [] := by
    rw [List.eq_nil_iff_forall_not_mem]
    intro q hq
    obtain ⟨j, -, h⟩ := mem_rowsF.1 hq
    simp [nilS, Value.ownBlock] at h
  refine ⟨none, fun _ => nilS, fun _ => [], ⟨⟨zcs, heap_new w _, zcs_size, ?_, ?_, fun j hj => ?_⟩, hb, rfl, by simp, fun j hj => .inl ⟨rfl, rfl⟩, by simp [nilS, Value.ownBlock]⟩, ⟨by omega, fun j hj => Sq.refl _, by simp, by simp, by simp⟩, ?_⟩
  · unfold zcs; simp
  · unfold zcs; simp
  · unfold zcs
    rw [List.getElem?_toArray, show 2 + j = j + 1 + 1 by omega, List.getElem?_cons_succ, List.getElem?_cons_succ, List.getElem?_replicate, if_pos hj]
    rfl
  · unfold wfoot
    rw [hrows]
    rfl
theorem findT_nil (id : Int) : findT [] id = none := rfl
end Go.Proofs.YtcficgpknokpbaaDoor.Wh
