/- record.Decode. -/
import Derived.Test.YtodadoaindfecaaDoorFr
import Derived.Test.YtodadoaindfecaaDoorEncP
namespace Go.Proofs.YtodadoaindfecaaDoor
open Go.RowKit Go.Maps
set_option maxRecDepth 100000
set_option linter.unusedSimpArgs false
set_option linter.unusedVariables false

def noBat : Bt.Bat := ⟨0, 0, []⟩
/-- What is between a batch's head and its end. -/
def midB (b : List UInt8) : List UInt8 := (b.take (Bt.fourV b)).drop 8
def isB (b : List UInt8) (x : Bt.Bat) : Prop := Bt.encErr x = 0 ∧ Bt.encB x = b.take (Bt.fourV b)
instance (b : List UInt8) (x : Bt.Bat) : Decidable (isB b x) := by unfold isB; exact inferInstance
/-- What Decode answers. -/
def dec (b : List UInt8) : Bt.Bat × Nat × Int :=
  if b.length < 8 then (noBat, 0, 12) else if Bt.fourV b < 11 ∨ 6000 < Bt.fourV b then (noBat, 0, 3) else if b.length < Bt.fourV b then (noBat, 0, 12) else if isB b (Bt.bat1 (midB b)) then (Bt.bat1 (midB b), Bt.fourV b, 0) else (noBat, 0, 3)

theorem equal_any (w : World) (v x : Value) (a b : List UInt8) (hv : BytesAt w v a) (hx : BytesAt w x b) :
    Calls Tryd.prog 57 #[v, x] w fun e w' => e = .returned (.bool (a == b)) ∧ w = w' := by
  have h1 := hv.conv
  have h2 := hx.conv
  clear hv hx
  go_enter Tryd.func57, Tryd.ntmps57
  go_wp2
  go_ret
  exact ⟨rfl, rfl⟩
theorem bat1_ok (l : List UInt8) (hl : l.length ≤ 1000000) : 0 ≤ (Bt.bat1 l).base ∧ (Bt.bat1 l).base ≤ 1099511627776 ∧ 0 ≤ (Bt.bat1 l).fin ∧ (Bt.bat1 l).fin ≤ 2199023255552 ∧ ∀ r ∈ (Bt.bat1 l).recs, RecOk r := by
  have g0 := num_len l
  have g1 := num_len (Bt.num l).2
  have g2 := num_len (Bt.num (Bt.num l).2).2
  unfold Bt.bat1
  simp only
  exact ⟨by omega, by omega, by omega, by omega, recs1_ok _ (by omega) (by omega) _ _ (by omega)⟩

end Go.Proofs.YtodadoaindfecaaDoor
