/- As, Err, Bare, Door, Turn, Args, Sl, Num, Crc, Bat, BatA, GetP, Cover: texts merged. -/
import Derived.Test.YtcpjohpbakbggaaDoorProg
import Derived.WalkKit
import Derived.LaidEql
import Derived.Stop.Asserts
import Derived.RowKitTokens
import Derived.Below
import Derived.WalkLawsBesides
import Derived.Test.YtcpjohpbakbggaaDoorRows
import Derived.ChangeSame
import Derived.ChangeVars
import Derived.JoinedOf
import Derived.RowKit
import Derived.LaidLaws
import Derived.LaidHandle
import Derived.Stop.Joined
import Derived.ProofKit
import Derived.OpenShut
import Derived.Carry
import Derived.WalkSpells
import Derived.Maps.OwnSet
import Derived.Maps.RangeWalk
import Derived.Laws.AppendOwnNone
import Derived.Deep.Slices
import Derived.DataReads
import Derived.Laws.BitsAllLaws
import Derived.Orders
/- errors.As at an Errno target, api.Tell, plain.Bare: what they answer of a bare Errno and of nil. -/
namespace Go.Proofs.YtcpjohpbakbggaaDoor.As
open Go.RowKit Go.Extern.Stop Go.Stop Go.Extern
set_option linter.unusedSimpArgs false
set_option linter.unusedVariables false

/-! ### what the model's entries answer at these types -/
theorem valueOfP (t : Addr) (w : World) : (ReflectliteValue.unpack (.iface 110 (.pointer (some t)))).run Tryd.prog w
    = .ok (.agg #[.pointer (some ⟨1, 110, none⟩), .pointer (some ⟨w.heap.size, 0, none⟩), .int .u64 150]) (w.alloc (.cells #[.pointer (some t)] 110)) := by kernel_rfl
theorem typeP (a : Addr) (w : World) : (ReflectliteValue.methodAny (ReflectliteValue.valueError "reflectlite.Value.Type" 0) (fun t _ _ _ => ReflectliteType.toType t) #[.agg #[.pointer (some ⟨1, 110, none⟩), .pointer (some a), .int .u64 150]]).run Tryd.prog w
    = .ok (.iface 125 (.agg #[.pointer (some ⟨1, 110, none⟩)])) w := by kernel_rfl
theorem kindP (w : World) : ((ReflectliteType.abiMethod fun t => (fun a : Nat => Value.int IntKind.u8 (a : Int)) <$> Rtype.kind t) #[.pointer (some ⟨1, 110, none⟩)]).run Tryd.prog w = .ok (.int .u8 22) w := by kernel_rfl
theorem kindE (w : World) : ((ReflectliteType.abiMethod fun t => (fun a : Nat => Value.int IntKind.u8 (a : Int)) <$> Rtype.kind t) #[.pointer (some ⟨1, 26, none⟩)]).run Tryd.prog w = .ok (.int .u8 2) w := by kernel_rfl
theorem rlm (z : Sem Value) (f : TypeId → Addr → Nat → Nat → Sem Value) (v : Value) :
    ReflectliteValue.method z f #[v] = (do match ← ReflectliteValue.parts v with | none => z | some (t, a, fl) => f t a fl (fl % 32)) := rfl
theorem partsP (a : Addr) (w : World) : (ReflectliteValue.parts (.agg #[.pointer (some ⟨1, 110, none⟩), .pointer (some a), .int .u64 150])).run Tryd.prog w = .ok (some (110, a, 150)) w := by kernel_rfl
theorem isNilP (a p : Addr) (W : World) (ha : W.cell? a = some (.pointer (some p))) :
    (ReflectliteValue.method (ReflectliteValue.valueError "reflectlite.Value.IsNil" 0) ReflectliteValue.isNil #[.agg #[.pointer (some ⟨1, 110, none⟩), .pointer (some a), .int .u64 150]]).run Tryd.prog W = .ok (.bool false) W := by
  rw [rlm]
  simp only [Sem.run_bind, partsP, Result.andThen]
  simp [ReflectliteValue.isNil, loadVar, isAgg, underlying, Tryd.underlying110, ha, Result.andThen]
theorem elemP (w : World) : (ReflectliteType.method ReflectliteType.elem #[.agg #[.pointer (some ⟨1, 110, none⟩)]]).run Tryd.prog w = .ok (.iface 125 (.agg #[.pointer (some ⟨1, 26, none⟩)])) w := by kernel_rfl
theorem implementsE (w : World) : (ReflectliteType.relation "Implements" ReflectliteType.implements_ #[.agg #[.pointer (some ⟨1, 26, none⟩)], .iface 125 (.agg #[.pointer (some ⟨1, 30, none⟩)])]).run Tryd.prog w = .ok (.bool true) w := by kernel_rfl
theorem typeOfE (v : Value) (w : World) : (ReflectliteType.typeOf #[.iface 26 v]).run Tryd.prog w = .ok (.iface 125 (.agg #[.pointer (some ⟨1, 26, none⟩)])) w := by kernel_rfl
theorem assignableE (w : World) : (ReflectliteType.relation "AssignableTo" ReflectliteType.assignableTo #[.agg #[.pointer (some ⟨1, 26, none⟩)], .iface 125 (.agg #[.pointer (some ⟨1, 26, none⟩)])]).run Tryd.prog w = .ok (.bool true) w := by kernel_rfl
theorem valueOfE (n : Int) (w : World) : (ReflectliteValue.unpack (.iface 26 (.int .i64 n))).run Tryd.prog w
    = .ok (.agg #[.pointer (some ⟨1, 26, none⟩), .pointer (some ⟨w.heap.size, 0, none⟩), .int .u64 130]) (w.alloc (.cells #[.int .i64 n] 26)) := by kernel_rfl
theorem elemOfP (w : World) : (Rtype.elem? 110).run Tryd.prog w = .ok (some 26) w := by kernel_rfl
theorem mkE (p : Addr) (w : World) : (ReflectliteValue.mk 26 p ReflectliteValue.flagAddr).run Tryd.prog w = .ok (.agg #[.pointer (some ⟨1, 26, none⟩), .pointer (some p), .int .u64 386]) w := by kernel_rfl
theorem elemV (a p : Addr) (W : World) (ha : W.cell? a = some (.pointer (some p))) :
    (ReflectliteValue.method (ReflectliteValue.valueError "reflectlite.Value.Elem" 0) ReflectliteValue.elem #[.agg #[.pointer (some ⟨1, 110, none⟩), .pointer (some a), .int .u64 150]]).run Tryd.prog W
      = .ok (.agg #[.pointer (some ⟨1, 26, none⟩), .pointer (some p), .int .u64 386]) W := by
  rw [rlm]
  simp only [Sem.run_bind, partsP, Result.andThen]
  simp [ReflectliteValue.elem, loadVar, isAgg, underlying, Tryd.underlying110, ha, Result.andThen, elemOfP, mkE]
theorem partsA (a : Addr) (w : World) : (ReflectliteValue.parts (.agg #[.pointer (some ⟨1, 26, none⟩), .pointer (some a), .int .u64 386])).run Tryd.prog w = .ok (some (26, a, 386)) w := by kernel_rfl
theorem partsE (a : Addr) (w : World) : (ReflectliteValue.parts (.agg #[.pointer (some ⟨1, 26, none⟩), .pointer (some a), .int .u64 130])).run Tryd.prog w = .ok (some (26, a, 130)) w := by kernel_rfl
theorem directE (w : World) : (Rtype.directlyAssignable 26 26).run Tryd.prog w = .ok true w := by kernel_rfl
theorem sizeE (w : World) : (sizeOf 26).run Tryd.prog w = .ok 1 w := by kernel_rfl
theorem rls (v x : Value) : ∃ (f1 : Sem Value) (f2 : Sem Value) (g : TypeId → Nat → TypeId → Value → Addr → Sem Value), ReflectliteValue.set #[v, x] = (do
    let (some (dst, a, fl), some (src, b, _)) := (← ReflectliteValue.parts v, ← ReflectliteValue.parts x) | f1
    if fl / ReflectliteValue.flagAddr % 2 == 0 then f2
    else
      let val ← loadVar src b
      if ← Rtype.directlyAssignable dst src then do
        storeVar dst a val
        pure (.tuple #[])
      else g dst fl src val a) := ⟨_, _, _, rfl⟩
theorem setE (ta b : Addr) (n : Int) (old : Value) (W : World) (hb : W.cell? b = some (.int .i64 n)) (ht : W.cell? ta = some old) (hf : W.frozen? ta = false) :
    (ReflectliteValue.set #[.agg #[.pointer (some ⟨1, 26, none⟩), .pointer (some ta), .int .u64 386], .agg #[.pointer (some ⟨1, 26, none⟩), .pointer (some b), .int .u64 130]]).run Tryd.prog W
      = .ok (.tuple #[]) (W.setCell ta (.int .i64 n)) := by
  obtain ⟨f1, f2, g, hs⟩ := rls (.agg #[.pointer (some ⟨1, 26, none⟩), .pointer (some ta), .int .u64 386]) (.agg #[.pointer (some ⟨1, 26, none⟩), .pointer (some b), .int .u64 130])
  rw [hs]
  simp only [Sem.run_bind, partsA, partsE, Result.andThen]
  simp [ReflectliteValue.flagAddr, loadVar, isAgg, underlying, Tryd.underlying26, hb, Result.andThen, directE, storeVar, Value.cells, storeCells, Addr.add]
  rw [run_store Tryd.prog W ta _ _ (by rfl)]
  simp [ht, hf]
theorem methodKind (h : Value) (w : World) : (Go.method 266 125 (.agg #[h]) "Kind").run Tryd.prog w = .ok (78, h) w := by kernel_rfl
theorem methodElem (h : Value) (w : World) : (Go.method 266 125 (.agg #[h]) "Elem").run Tryd.prog w = .ok (90, .agg #[h]) w := by kernel_rfl
theorem methodImplements (h : Value) (w : World) : (Go.method 266 125 (.agg #[h]) "Implements").run Tryd.prog w = .ok (91, .agg #[h]) w := by kernel_rfl
theorem methodAssignableTo (h : Value) (w : World) : (Go.method 266 125 (.agg #[h]) "AssignableTo").run Tryd.prog w = .ok (88, .agg #[h]) w := by kernel_rfl

theorem as_nil (t : Value) (w : World) :
    Calls Tryd.prog 55 #[.nilIface, t] w fun e w' => e = .returned (.bool false) ∧ w' = w := by
  go_enter Tryd.func55, Tryd.ntmps55
  go_wp2
  go_ret
  exact ⟨rfl, rfl⟩

set_option maxRecDepth 100000 in
set_option maxHeartbeats 4000000 in
theorem as_hit (n : Int) (t : Addr) (old : Value) (w : World) (hg : w.cell? ⟨0, 0, none⟩ = some (.iface 125 (.agg #[.pointer (some ⟨1, 30, none⟩)]))) (ht0 : w.cell? t = some old) (hf0 : w.frozen? t = false) :
    Calls Tryd.prog 55 #[.iface 26 (.int .i64 n), .iface 110 (.pointer (some t))] w fun ev w' => ev = .returned (.bool true) ∧ w' = ((((w.alloc (.cells #[.pointer (some t)] 110)).alloc (.cells #[.pointer (some ⟨1, 110, none⟩), .pointer (some ⟨w.heap.size, 0, none⟩), .int .u64 150] 115)).alloc (.cells #[.pointer (some ⟨1, 110, none⟩), .pointer (some ⟨w.heap.size, 0, none⟩), .int .u64 150] 115)).alloc (.cells #[.int .i64 n] 26)).setCell t (.int .i64 n) := by
  have h6 := @run_callFunc_extern Tryd.prog 57 _ (fun args => ReflectliteValue.unpack (args.getD 0 (.tuple #[]))) Tryd.func57 (by kernel_rfl) (by kernel_rfl) (by kernel_rfl) (by kernel_rfl)
  have h7 := @run_callFunc_extern Tryd.prog 58 _ (ReflectliteValue.methodAny (ReflectliteValue.valueError "reflectlite.Value.Type" 0) (fun t _ _ _ => ReflectliteType.toType t)) Tryd.func58 (by kernel_rfl) (by kernel_rfl) (by kernel_rfl) (by kernel_rfl)
  have h8 := @run_callFunc_extern Tryd.prog 59 _ (ReflectliteValue.method (ReflectliteValue.valueError "reflectlite.Value.IsNil" 0) ReflectliteValue.isNil) Tryd.func59 (by kernel_rfl) (by kernel_rfl) (by kernel_rfl) (by kernel_rfl)
  have h27 := @run_callFunc_extern Tryd.prog 78 _ (ReflectliteType.abiMethod fun t => do pure (.int .u8 (← Rtype.kind t))) Tryd.func78 (by kernel_rfl) (by kernel_rfl) (by kernel_rfl) (by kernel_rfl)
  have h37 := @run_callFunc_extern Tryd.prog 90 _ (ReflectliteType.method ReflectliteType.elem) Tryd.func90 (by kernel_rfl) (by kernel_rfl) (by kernel_rfl) (by kernel_rfl)
  have h38 := @run_callFunc_extern Tryd.prog 91 _ (ReflectliteType.relation "Implements" ReflectliteType.implements_) Tryd.func91 (by kernel_rfl) (by kernel_rfl) (by kernel_rfl) (by kernel_rfl)
  have h10 := @run_callFunc_extern Tryd.prog 61 _ ReflectliteType.typeOf Tryd.func61 (by kernel_rfl) (by kernel_rfl) (by kernel_rfl) (by kernel_rfl)
  have h35 := @run_callFunc_extern Tryd.prog 88 _ (ReflectliteType.relation "AssignableTo" ReflectliteType.assignableTo) Tryd.func88 (by kernel_rfl) (by kernel_rfl) (by kernel_rfl) (by kernel_rfl)
  have h11 := @run_callFunc_extern Tryd.prog 62 _ (ReflectliteValue.method (ReflectliteValue.valueError "reflectlite.Value.Elem" 0) ReflectliteValue.elem) Tryd.func62 (by kernel_rfl) (by kernel_rfl) (by kernel_rfl) (by kernel_rfl)
  have h12 := @run_callFunc_extern Tryd.prog 63 _ ReflectliteValue.set Tryd.func63 (by kernel_rfl) (by kernel_rfl) (by kernel_rfl) (by kernel_rfl)
  have tO := typeOfE
  have mA := methodAssignableTo
  have aE := assignableE
  have vE := valueOfE
  have f6 := valueOfP
  have f7 := typeP
  have mK := methodKind
  have mE := methodElem
  have mI := methodImplements
  have kP := kindP
  have kE := kindE
  have eP := elemP
  have iE := implementsE
  have n8 := isNilP ⟨w.heap.size, 0, none⟩ t ((w.alloc (.cells #[.pointer (some t)] 110)).alloc (.cells #[.pointer (some ⟨1, 110, none⟩), .pointer (some ⟨w.heap.size, 0, none⟩), .int .u64 150] 115)) (by simp)
  have hlt : 0 < w.heap.size := by
    rcases Nat.lt_or_ge 0 w.heap.size with h | h
    · exact h
    · simp [World.cell?, Array.getElem?_eq_none h] at hg
  have hg2 : ((w.alloc (.cells #[.pointer (some t)] 110)).alloc (.cells #[.pointer (some ⟨1, 110, none⟩), .pointer (some ⟨w.heap.size, 0, none⟩), .int .u64 150] 115)).cell? ⟨0, 0, none⟩ = some (.iface 125 (.agg #[.pointer (some ⟨1, 30, none⟩)])) := by
    rw [World.cell?_alloc_lt _ _ ⟨0, 0, none⟩ (by rw [World.size_alloc]; show 0 < _; omega), World.cell?_alloc_lt _ _ ⟨0, 0, none⟩ hlt]; exact hg
  have htl : t.block < w.heap.size := by
    rcases Nat.lt_or_ge t.block w.heap.size with h | h
    · exact h
    · simp [World.cell?, Array.getElem?_eq_none h] at ht0
  have el := elemV ⟨w.heap.size, 0, none⟩ t (((w.alloc (.cells #[.pointer (some t)] 110)).alloc (.cells #[.pointer (some ⟨1, 110, none⟩), .pointer (some ⟨w.heap.size, 0, none⟩), .int .u64 150] 115)).alloc (.cells #[.pointer (some ⟨1, 110, none⟩), .pointer (some ⟨w.heap.size, 0, none⟩), .int .u64 150] 115)) (by rw [World.cell?_alloc_lt _ _ ⟨w.heap.size, 0, none⟩ (by simp; omega)]; simp)
  have st := setE t ⟨w.heap.size + 1 + 1 + 1, 0, none⟩ n old ((((w.alloc (.cells #[.pointer (some t)] 110)).alloc (.cells #[.pointer (some ⟨1, 110, none⟩), .pointer (some ⟨w.heap.size, 0, none⟩), .int .u64 150] 115)).alloc (.cells #[.pointer (some ⟨1, 110, none⟩), .pointer (some ⟨w.heap.size, 0, none⟩), .int .u64 150] 115)).alloc (.cells #[.int .i64 n] 26))
    (by rw [World.cell?_alloc_at _ _ _ _ (by simp)]; rfl)
    (by rw [World.cell?_alloc_lt _ _ t (by simp; omega), World.cell?_alloc_lt _ _ t (by simp; omega), World.cell?_alloc_lt _ _ t (by simp; omega), World.cell?_alloc_lt _ _ t htl]; exact ht0)
    (by rw [World.frozen?_alloc_old _ _ t (by simp; omega), World.frozen?_alloc_old _ _ t (by simp; omega), World.frozen?_alloc_old _ _ t (by simp; omega), World.frozen?_alloc_old _ _ t (Nat.ne_of_lt htl)]; exact hf0)
  go_enter Tryd.func55, Tryd.ntmps55
  go_wp2
  refine wp_loop_rounds 1 ?_
  rw [rounds_succ]
  go_wp2
  go_ret
  exact ⟨rfl, rfl⟩
end Go.Proofs.YtcpjohpbakbggaaDoor.As

/- An error's value. No program. -/
namespace Go.Proofs.YtcpjohpbakbggaaDoor.As
def errN (n : Int) : Value := if n = 0 then .nilIface else .iface 26 (.int .i64 n)
end Go.Proofs.YtcpjohpbakbggaaDoor.As

/- api.Tell, plain.Bare, the law's bare: of nil, and of a bare Errno. -/
namespace Go.Proofs.YtcpjohpbakbggaaDoor.As
open Go.RowKit Go.Extern.Stop Go.Stop Go.Extern
set_option maxRecDepth 100000
set_option linter.unusedSimpArgs false
set_option linter.unusedVariables false

/-- errors.errorType lies as its own initialiser laid it. -/
def ErrT (w : World) : Prop := w.cell? ⟨0, 0, none⟩ = some (.iface 125 (.agg #[.pointer (some ⟨1, 30, none⟩)]))
theorem ErrT.lt {w : World} (h : ErrT w) : 0 < w.heap.size := by
  rcases Nat.lt_or_ge 0 w.heap.size with h1 | h1
  · exact h1
  · simp [ErrT, World.cell?, Array.getElem?_eq_none h1] at h
theorem ErrT.below {w w' : World} (h : ErrT w) (hb : Below w.heap.size w w') : ErrT w' := by
  have hl := h.lt
  unfold ErrT at *
  rw [hb.cell (p := ⟨0, 0, none⟩) hl]; exact h

theorem tell_nil (w : World) : Calls Tryd.prog 43 #[.nilIface] w fun e w' => e = .returned (.int .i64 0) ∧ w = w' := by
  go_enter Tryd.func43, Tryd.ntmps43
  go_wp2
  go_ret
  exact ⟨rfl, rfl⟩

set_option maxHeartbeats 1000000 in
theorem tell_errno (n : Int) (w : World) (hg : ErrT w) : Calls Tryd.prog 43 #[.iface 26 (.int .i64 n)] w fun e w' => e = .returned (.int .i64 n) ∧ Below w.heap.size w w' := by
  have HG : Hid (ErrT w) := hg
  have hlt := hg.lt
  clear hg
  go_enter Tryd.func43, Tryd.ntmps43
  go_wp2_with fail
  refine (as_hit n ⟨w.heap.size, 0, none⟩ (.int .i64 0) _ (HG.out.below ((Below.refl _ w).alloc (Nat.le_refl _) _)) (by simp) (by simp)).mono ?_
  rintro e w' ⟨rfl, rfl⟩
  go_wp2
  go_ret
  exact ⟨rfl, (((((Below.refl _ w).alloc (Nat.le_refl _) _).alloc (by simp) _).alloc (by simp; omega) _).alloc (by simp; omega) _).alloc (by simp; omega) _⟩

set_option maxHeartbeats 1000000 in
theorem bare0_nil (w : World) : Calls Tryd.prog 22 #[.nilIface] w fun e w' => e = .returned (.tuple #[.int .i64 0, .bool true]) ∧ w = w' := by
  go_enter Tryd.func22, Tryd.ntmps22
  go_wp2_with (go_at_call 43; refine (tell_nil _).mono ?_; rintro e w' ⟨rfl, rfl⟩)
  refine wp_loop_rounds 1 ?_
  rw [rounds_succ]
  go_wp2
  go_ret2
  exact ⟨rfl, rfl⟩

theorem notAt (n : Int) (w : World) : (Instr.typeAssert (.iface 26 (.int .i64 n)) 30 95 true).run Tryd.prog w = .ok (.tuple #[.pointer none, .bool false]) w := by kernel_rfl
theorem notUnwrap (n : Int) (w : World) : (Instr.typeAssert (.iface 26 (.int .i64 n)) 30 97 true).run Tryd.prog w = .ok (.tuple #[.nilIface, .bool false]) w := run_typeAssert_lacksB Tryd.underlying97 (by kernel_rfl) (by kernel_rfl) _ 30 w
set_option maxHeartbeats 1000000 in
theorem bare0_errno (n : Int) (w : World) (hg : ErrT w) : Calls Tryd.prog 22 #[.iface 26 (.int .i64 n)] w fun e w' => e = .returned (.tuple #[.int .i64 n, .bool true]) ∧ Below w.heap.size w w' := by
  have HG : Hid (ErrT w) := hg
  clear hg
  have n1 := notAt
  have n2 := notUnwrap
  go_enter Tryd.func22, Tryd.ntmps22
  go_wp2_with fail
  refine (tell_errno n _ HG.out).mono ?_
  rintro e w' ⟨rfl, hb⟩
  go_wp2
  refine wp_loop_rounds 1 ?_
  rw [rounds_succ]
  go_wp2
  go_ret2
  exact ⟨rfl, hb⟩

set_option maxHeartbeats 1000000 in
theorem bare_any (n e : Int) (w : World) (hg : ErrT w) : Calls Tryd.prog 7 #[errN n, .int .i64 e] w fun ev w' => ev = .returned (.bool (n == e)) ∧ Below w.heap.size w w' := by
  have HG : Hid (ErrT w) := hg
  clear hg
  unfold errN
  by_cases hn : n = 0
  · subst hn
    simp only [if_true]
    go_enter Tryd.func7, Tryd.ntmps7
    go_wp2_with fail
    refine (bare0_nil _).mono ?_
    rintro ev w' ⟨rfl, rfl⟩
    go_wp2
    go_ret
    exact ⟨rfl, Below.refl _ _⟩
  · simp only [hn, if_false]
    have HN : Hid (¬ n = 0) := hn
    clear hn
    go_enter Tryd.func7, Tryd.ntmps7
    go_wp2_with fail
    refine (bare0_errno n _ HG.out).mono ?_
    rintro ev w' ⟨rfl, hb⟩
    go_wp2
    go_ret
    exact ⟨rfl, hb⟩
end Go.Proofs.YtcpjohpbakbggaaDoor.As

/- What the laws over a listed variable (errors.errorType) share: the cell that the condition gives; a world that meets it. -/
namespace Go.Proofs.YtcpjohpbakbggaaDoor.Dr
open Go.ChangeShapes Go.WideShapes Go.RowKit

theorem own : ownKnob Tryd.prog.godebug = none := by kernel_rfl
theorem laidOut : laidOutB Tryd.prog = true := by kernel_rfl
theorem et : Tryd.prog.globalNamed "errors.errorType" = some 0 := by kernel_rfl
theorem rt : (Tryd.prog.cutTypes.find? (·.1 == "internal/reflectlite.rtype")).map (·.2) = some 125 := by kernel_rfl
theorem oneRow : ((List.range Tryd.prog.types.size).filter fun t => Tryd.prog.rowNamed t [101, 114, 114, 111, 114]) = [30] := by kernel_rfl
def laid : List (String × DataW Unit) := [("errors.errorType", Rows.laid_errors_errorType)]

/-- What the condition gives a walk: the variable's one cell. -/
theorem handle_of_laid {W : World} (h : laidMetH Tryd.prog laid W) : As.ErrT W := by
  have h' : laidMet Tryd.prog [] W ∧ handlesMet Tryd.prog laid W := h
  obtain ⟨name, u, ty, e1, e2, e3, e4, e5⟩ := h'.2 _ (List.mem_singleton.2 rfl)
  have en : name = [101, 114, 114, 111, 114] := (Option.some.inj e1).symm
  subst en
  obtain rfl := Option.some.inj (rt.symm.trans e2)
  have hm : ty ∈ (List.range Tryd.prog.types.size).filter fun t => Tryd.prog.rowNamed t [101, 114, 114, 111, 114] := List.mem_filter.2 ⟨List.mem_range.2 e3, e4⟩
  rw [oneRow] at hm
  obtain rfl := List.mem_singleton.1 hm
  have hh : typeHandle Tryd.prog 30 = .pointer (some ⟨1, 30, none⟩) := by kernel_rfl
  rw [hh] at e5
  simpa [As.ErrT] using World.var?_cell et e5 0

/-- A world that meets the condition: the settled one, the variable's cell laid. -/
noncomputable def laidWorld (os : Os) : World :=
  let w0 := World.holding Tryd.prog os ⟨#[], #[], []⟩
  { w0 with heap := w0.heap.modify 0 fun
      | .cells _ t frozen => .cells #[.iface 125 (.agg #[.pointer (some ⟨1, 30, none⟩)])] t frozen
      | o => o }
theorem laidWorld_met (os : Os) (args : Array Value) : laidMetH Tryd.prog laid ((laidWorld os).forCall (fun _ _ => 0) ⟨#[], args, []⟩).memory :=
  laidMetH_of_parts (laidMet_nil _ _) (by kernel_rfl)
end Go.Proofs.YtcpjohpbakbggaaDoor.Dr

/- What a call may have turned: a list of blocks; rows of bytes with slack behind their capacity; append onto such a row. No program. -/
namespace Go.Proofs.YtcpjohpbakbggaaDoor
open Go.RowKit

theorem ret_bool {a b : Bool} (h : a = b) : Ending.returned (.bool a) = .returned (.bool b) := by rw [h]
theorem ret_int {k : IntKind} {a b : Int} (h : a = b) : Ending.returned (.int k a) = .returned (.int k b) := by rw [h]

/-- Of what was there when the call began only the blocks of a list may have turned. -/
structure Turn (S : List Nat) (w w' : World) : Prop where
  os : w'.os = w.os
  tape : w'.tape = w.tape
  output : w'.output = w.output
  size : w.heap.size ≤ w'.heap.size
  block : ∀ k, k < w.heap.size → k ∉ S → w'.heap[k]? = w.heap[k]?

theorem Turn.refl (S : List Nat) (w : World) : Turn S w w := ⟨rfl, rfl, rfl, Nat.le_refl _, fun _ _ _ => rfl⟩
theorem Turn.trans {S T : List Nat} {a b c : World} (h : Turn S a b) (k : Turn T b c) (hT : ∀ x ∈ T, x ∈ S ∨ a.heap.size ≤ x) : Turn S a c :=
  ⟨k.os.trans h.os, k.tape.trans h.tape, k.output.trans h.output, Nat.le_trans h.size k.size, fun i hi hn =>
    (k.block i (Nat.lt_of_lt_of_le hi h.size) (fun hm => (hT i hm).elim hn (by omega))).trans (h.block i hi hn)⟩
theorem Turn.same {S : List Nat} {a b c : World} (h : Turn S a b) (k : Turn S b c) : Turn S a c := h.trans k (fun _ hx => .inl hx)
theorem Turn.mono {S T : List Nat} {a b : World} (h : Turn S a b) (hs : ∀ x ∈ S, x ∈ T ∨ a.heap.size ≤ x) : Turn T a b :=
  (Turn.refl T a).trans h hs
theorem Turn.alloc {S : List Nat} {a w : World} (h : Turn S a w) (o : Obj) : Turn S a (w.alloc o) :=
  h.trans (T := []) ⟨rfl, rfl, rfl, by simp, fun k hk _ => Below.heap_alloc _ _ _ hk⟩ (by simp)
theorem Turn.setCell {S : List Nat} {a w : World} (h : Turn S a w) {p : Addr} (hp : p.block ∈ S ∨ a.heap.size ≤ p.block) (u : Value) : Turn S a (w.setCell p u) :=
  h.trans (T := [p.block]) ⟨rfl, rfl, rfl, by simp [World.setCell], fun k _ hk => Below.heap_setCell _ _ _ _ (by simpa using hk)⟩ (by simpa using hp)
theorem Turn.drew {S : List Nat} {a w : World} (h : Turn S a w) : Turn S a w.drew := ⟨h.os, h.tape, h.output, h.size, h.block⟩
theorem Turn.drewN {S : List Nat} {a w : World} (h : Turn S a w) (n : Nat) : Turn S a (w.drewN n) := ⟨h.os, h.tape, h.output, h.size, h.block⟩
theorem Turn.grown {S : List Nat} {a w w' : World} {row : Option Nat} (h : Turn S a w) (hg : w.grownBy w' row) (hr : ∀ k, row = some k → k ∈ S ∨ a.heap.size ≤ k) : Turn S a w' :=
  h.trans (T := row.toList) ⟨hg.os, hg.tape, hg.output, hg.size, fun k hk hn => hg.block k hk (fun e => hn (by simp [← e]))⟩ (by intro x hx; cases row <;> simp at hx; exact hr _ (by simp [hx]))
theorem Turn.of_below {w w' : World} (h : Below w.heap.size w w') (S : List Nat) : Turn S w w' := ⟨h.os, h.tape, h.output, h.size, fun k hk _ => h.block k hk⟩
theorem Turn.below {S : List Nat} {w w' : World} (h : Turn S w w') {B : Nat} (hB : ∀ x ∈ S, B ≤ x) (hw : B ≤ w.heap.size) : Below B w w' :=
  ⟨h.os, h.tape, h.output, h.size, fun k hk => h.block k (by omega) (fun hm => by have := hB k hm; omega)⟩
theorem Turn.nil {w w' : World} (h : Turn [] w w') : Below w.heap.size w w' := h.below (by simp) (Nat.le_refl _)
theorem Turn.heap {S : List Nat} {w w' : World} (h : Turn S w w') {k : Nat} {o : Obj} (hk : w.heap[k]? = some o) (hn : k ∉ S) : w'.heap[k]? = some o :=
  (h.block k (Array.getElem?_eq_some_iff.1 hk).1 hn).trans hk
theorem Turn.grownBy {S : List Nat} {w w' : World} (h : Turn S w w') {k : Nat} (hk : ∀ x ∈ S, x = k) : w.grownBy w' (some k) :=
  ⟨h.os, h.tape, h.output, h.size, fun i hi hn => h.block i hi (fun hm => hn (by rw [hk i hm]))⟩

theorem lt_of_heap {w : World} {k : Nat} {o : Obj} (h : w.heap[k]? = some o) : k < w.heap.size := (Array.getElem?_eq_some_iff.1 h).1

/-- A cell of a block that is written out. -/
theorem cell_of {w : World} {b : Nat} {cs : Array Value} {t : TypeId} {fr : Nat × Nat} (h : w.heap[b]? = some (.cells cs t fr)) (i : Nat) : w.cell? ⟨b, i, none⟩ = cs[i]? := by
  simp [World.cell?, h]
theorem frozen_of {w : World} {b : Nat} {cs : Array Value} {t : TypeId} (h : w.heap[b]? = some (.cells cs t (0, 0))) (i : Nat) : w.frozen? ⟨b, i, none⟩ = false := by
  simp [World.frozen?, h]
theorem heap_set {w : World} {b : Nat} {cs : Array Value} {t : TypeId} {fr : Nat × Nat} (h : w.heap[b]? = some (.cells cs t fr)) (i : Nat) (u : Value) : (w.setCell ⟨b, i, none⟩ u).heap[b]? = some (.cells (cs.setIfInBounds i u) t fr) := by
  simp [World.setCell, Array.getElem?_modify, h]
theorem heap_new (w : World) (o : Obj) : (w.alloc o).heap[w.heap.size]? = some o := heap_alloc_new w o

/-- A byte as a value. -/
def encB (b : UInt8) : Value := .int .u8 b.toNat

/-- A slice of bytes with a block of its own, from its beginning on; behind its capacity the block may go on. -/
def RowAt (w : World) (e base : Nat) (sl : Value) (bs : List UInt8) : Prop :=
  (sl = .slice none 0 0 ∧ bs = []) ∨
  ∃ g cap cur, sl = .slice (some ⟨g, 0, none⟩) bs.length cap ∧ base ≤ g ∧ w.heap[g]? = some (.cells cur e (0, 0)) ∧ bs.length ≤ cap ∧ cap ≤ cur.size ∧ cap ≤ maxLen ∧ cur.toList.take bs.length = bs.map encB

theorem RowAt.kept {w w' : World} {e base : Nat} {sl : Value} {bs : List UInt8} {S : List Nat} (h : RowAt w e base sl bs) (ht : Turn S w w') (hn : ∀ k ∈ sl.ownBlock, k ∉ S) : RowAt w' e base sl bs := by
  rcases h with h | ⟨g, cap, cur, rfl, hb, hg, r⟩
  · exact .inl h
  · exact .inr ⟨g, cap, cur, rfl, hb, ht.heap hg (hn g (by simp [Value.ownBlock])), r⟩
theorem RowAt.lt {w : World} {e base : Nat} {sl : Value} {bs : List UInt8} (h : RowAt w e base sl bs) : ∀ k ∈ sl.ownBlock, base ≤ k ∧ k < w.heap.size := by
  intro k hk
  rcases h with ⟨rfl, _⟩ | ⟨g, cap, cur, rfl, hb, hg, r⟩
  · simp [Value.ownBlock] at hk
  · simp [Value.ownBlock] at hk; subst hk; exact ⟨hb, lt_of_heap hg⟩
theorem RowAt.form {w : World} {e base : Nat} {sl : Value} {bs : List UInt8} (h : RowAt w e base sl bs) : ∃ a c, sl = .slice a bs.length c ∧ bs.length ≤ c ∧ c ≤ maxLen := by
  rcases h with ⟨rfl, rfl⟩ | ⟨g, cap, cur, rfl, hb, hg, h1, h2, h3, r⟩
  · exact ⟨_, _, rfl, by simp, by simp [maxLen]⟩
  · exact ⟨_, _, rfl, h1, h3⟩
/-- The cells of a slice that is told by its values. -/
def SliceAt (w : World) (v : Value) (xs : List Value) : Prop :=
  (v = .slice none 0 0 ∧ xs = []) ∨ ∃ a cap, v = .slice (some a) xs.length cap ∧ ∀ j u, xs[j]? = some u → w.cell? (a.add j) = some u
theorem addr_add (g j : Nat) : (⟨g, 0, none⟩ : Addr).add j = ⟨g, j, none⟩ := by unfold Addr.add; split <;> simp_all
theorem RowAt.cells {w : World} {e base : Nat} {sl : Value} {bs : List UInt8} (h : RowAt w e base sl bs) : SliceAt w sl (bs.map encB) := by
  rcases h with ⟨rfl, rfl⟩ | ⟨g, cap, cur, rfl, hb, hg, h1, h2, h3, h4⟩
  · exact .inl ⟨rfl, rfl⟩
  · refine .inr ⟨⟨g, 0, none⟩, cap, by simp, fun j u hu => ?_⟩
    rw [addr_add, cell_of hg, ← h4, List.getElem?_take] at *
    split at hu
    · simpa using hu
    · cases hu
theorem SliceAt.kept {w w' : World} {v : Value} {xs : List Value} {S : List Nat} (h : SliceAt w v xs) (ht : Turn S w w') (hn : ∀ k ∈ v.ownBlock, k ∉ S) : SliceAt w' v xs := by
  rcases h with h | ⟨a, cap, rfl, hc⟩
  · exact .inl h
  · refine .inr ⟨a, cap, rfl, fun j u hu => ?_⟩
    have hb : (a.add j).block = a.block := by unfold Addr.add; split <;> rfl
    have hlt := World.block_lt_of_cell? w _ (hc j u hu)
    rw [World.cell?_of_block (w := w) (ht.block _ hlt (by rw [hb]; exact hn _ (by simp [Value.ownBlock]))), hc j u hu]
theorem SliceAt.kept_below {w w' : World} {v : Value} {xs : List Value} {B : Nat} (h : SliceAt w v xs) (ht : Below B w w') (hn : ∀ k ∈ v.ownBlock, k < B) : SliceAt w' v xs := by
  rcases h with h | ⟨a, cap, rfl, hc⟩
  · exact .inl h
  · refine .inr ⟨a, cap, rfl, fun j u hu => ?_⟩
    have hb : (a.add j).block = a.block := by unfold Addr.add; split <;> rfl
    rw [ht.cell (by rw [hb]; exact hn _ (by simp [Value.ownBlock])), hc j u hu]

theorem one_encB (bs : List UInt8) : ∀ u ∈ bs.map encB, u.oneCell' = true := by
  intro u hu; obtain ⟨b, _, rfl⟩ := List.mem_map.1 hu; rfl

variable {P : Program} (w : World)

/-- APPEND of bytes onto such a row: what comes out is one again, in the same block or in a new one. -/
theorem run_append_row (t ty e base : Nat) (i : TypeInfo) (ht : P.underlying t = some (.slice e)) (hi : P.info? e = some i) (hz : i.zero = some (.int .u8 0)) (hsize : i.size = 1) (hby : i.bytes = 1)
    (v x : Value) (bs cs : List UInt8) (hrow : RowAt w e base v bs) (hx : SliceAt w x (cs.map encB)) (hlen : bs.length + cs.length ≤ 1099511627776) (hbase : base ≤ w.heap.size) :
    ∃ v' w', (Builtin.append_ #[t, t] ty #[v, x]).run P w = .ok v' w' ∧ RowAt w' e base v' (bs ++ cs) ∧ Turn v.ownBlock.toList w w' ∧ (∀ k ∈ v'.ownBlock, k ∈ v.ownBlock ∨ w.heap.size ≤ k) := by
  have hmax : maxLen = 9223372036854775807 := by simp [maxLen]
  have new : ∀ old : Nat, old < bs.length + cs.length → RowAt (w.drew.alloc (.cells ((bs.map encB).toArray ++ (cs.map encB).toArray ++ Builtin.zeroCells (Value.cells (.int .u8 0)) (grownCap w (bs.length + cs.length) old e - (bs.length + cs.length))) e)) e base
      (.slice (some ⟨w.heap.size, 0, none⟩) (bs.length + cs.length) (grownCap w (bs.length + cs.length) old e)) (bs ++ cs) ∧
      Turn v.ownBlock.toList w (w.drew.alloc (.cells ((bs.map encB).toArray ++ (cs.map encB).toArray ++ Builtin.zeroCells (Value.cells (.int .u8 0)) (grownCap w (bs.length + cs.length) old e - (bs.length + cs.length))) e)) := by
    intro old ho
    have hge := grownCap_ge w (bs.length + cs.length) old e
    have hcm := grownCap_le_maxLen w (bs.length + cs.length) old e (by rw [hmax]; omega)
    refine ⟨.inr ⟨w.heap.size, _, _, by simp, hbase, heap_new w.drew _, by simpa using hge, ?_, hcm, ?_⟩, ((Turn.refl _ _).drew).alloc _⟩
    · simp only [Array.size_append, List.size_toArray, List.length_map, size_zeroCells, Value.cells]
      simp; omega
    · simp only [Array.toList_append]
      rw [List.take_append_of_le_length (by simp)]
      rw [List.take_of_length_le (by simp)]
      simp
  rcases hx with ⟨rfl, hcs⟩ | ⟨a, c, rfl, hnews⟩
  · have hcs' : cs = [] := by simpa using hcs
    subst hcs'
    rcases hrow with ⟨rfl, rfl⟩ | ⟨g, cap, cur, rfl, hb, hg, h1, h2, h3, h4⟩
    · exact ⟨.slice none 0 0, w, by simp [Builtin.append_, run_underlying ht, sizeOf, typeInfo, hi, Builtin.lenOf, Builtin.firstCells], .inl ⟨rfl, rfl⟩, Turn.refl _ _, by simp [Value.ownBlock]⟩
    · refine ⟨.slice (some ⟨g, 0, none⟩) bs.length cap, w, ?_, by simpa using .inr ⟨g, cap, cur, rfl, hb, hg, h1, h2, h3, h4⟩, Turn.refl _ _, by simp [Value.ownBlock]⟩
      simp [Builtin.append_, run_underlying ht, sizeOf, typeInfo, hi, Builtin.lenOf, Builtin.firstCells, h1, storeCells]
  · simp only [List.length_map] at hnews ⊢
    have hl : (cs.map encB).length = cs.length * i.size := by simp [hsize]
    rcases hrow with ⟨rfl, rfl⟩ | ⟨g, cap, cur, rfl, hb, hg, h1, h2, h3, h4⟩
    · by_cases h0 : cs.length = 0
      · have : cs = [] := List.eq_nil_of_length_eq_zero h0
        subst this
        exact ⟨.slice none 0 0, w, by simp [Builtin.append_, run_underlying ht, sizeOf, typeInfo, hi, Builtin.lenOf, Builtin.firstCells, loadCells, loadCellsFrom], .inl ⟨rfl, rfl⟩, Turn.refl _ _, by simp [Value.ownBlock]⟩
      · have hr := run_append_nil (P := P) w t ty e i _ ht hi hz a cs.length c (cs.map encB) hl hnews (by omega) (by simp at hlen; omega) (by rw [hby]; simp at hlen; omega)
        have hn := new 0 (by simp; omega)
        simp only [List.length_nil, Nat.zero_add, List.map_nil, List.nil_append] at hn
        refine ⟨_, _, hr, ?_, ?_, by simp [Value.ownBlock]⟩
        · simpa using hn.1
        · simpa using hn.2
    · by_cases hroom : bs.length + cs.length ≤ cap
      · have hr := run_append_room (P := P) w t ty e i ht hi g bs.length cap cur hg a cs.length c (cs.map encB) hl hnews (one_encB cs) hroom (by rw [hsize]; simp; omega)
        refine ⟨_, _, hr, .inr ⟨g, cap, _, by simp, hb, setRow_heap w g cur _ e _ hg, by simpa using hroom, ?_, h3, ?_⟩, ⟨rfl, rfl, rfl, by simp, fun k _ hk => setRow_other w g k _ (fun e => hk (by simp [Value.ownBlock, e]))⟩, by simp [Value.ownBlock]⟩
        · simp [hsize]; omega
        · simp only [hsize, Nat.mul_one, h4, List.append_assoc]
          rw [← List.append_assoc, List.take_append_of_le_length (by simp), List.take_of_length_le (by simp)]
          simp
      · have holds : ∀ j u, (bs.map encB)[j]? = some u → w.cell? ((⟨g, 0, none⟩ : Addr).add j) = some u := by
          intro j u hu
          rw [addr_add, cell_of hg]
          rw [← h4, List.getElem?_take] at hu
          split at hu
          · simpa using hu
          · cases hu
        have hr := run_append_grow (P := P) w t ty e i _ ht hi hz ⟨g, 0, none⟩ bs.length cap (bs.map encB) (by simp [hsize]) holds a cs.length c (cs.map encB) hl hnews (by omega) (by omega) (growslice_fits (by omega) (by rw [hby]; omega))
        have hn := new cap (by omega)
        exact ⟨_, _, hr, hn.1, hn.2, by simp [Value.ownBlock]⟩

theorem wpList_append_row {ops : Array Oper} {rest : List Oper} {o : Oper} {a : Act} {Q : Exit → Act → World → Prop} (hgd : o.guard = none) (s x : Operand) (t : TypeId)
    (ho : o.op = .call { callee := .builtin .append, args := #[s, x], argTypes := #[t, t] })
    (e base : Nat) (i : TypeInfo) (ht : P.underlying t = some (.slice e)) (hi : P.info? e = some i) (hz : i.zero = some (.int .u8 0)) (hsize : i.size = 1) (hby : i.bytes = 1)
    (v xv : Value) (bs cs : List UInt8) (hs : a.eval s = v) (hxe : a.eval x = xv) (hrow : RowAt w e base v bs) (hx : SliceAt w xv (cs.map encB)) (hlen : bs.length + cs.length ≤ 1099511627776) (hbase : base ≤ w.heap.size)
    (h : ∀ v' w', RowAt w' e base v' (bs ++ cs) → Turn v.ownBlock.toList w w' → (∀ k ∈ v'.ownBlock, k ∈ v.ownBlock ∨ w.heap.size ≤ k) → wpList P ops Q rest (a.put o.dst v') w') : wpList P ops Q (o :: rest) a w := by
  refine wpList_plain hgd fun _ hK => ?_
  obtain ⟨v', w', hr, h2, h3, h4⟩ := run_append_row (P := P) w t o.type e base i ht hi hz hsize hby v xv bs cs hrow hx hlen hbase
  unfold Oper.wp execOp
  simp only [ho, resolve, invoke, builtin, Sem.run_bind, Sem.run_pure, Result.andThen_ok, List.map_toArray, List.map_cons, List.map_nil, hs, hxe, hr]
  exact hK _ _ (h v' w' h2 h3 h4)

end Go.Proofs.YtcpjohpbakbggaaDoor

/- Slices of bytes that come in; their cells; bytes as a text. -/
namespace Go.Proofs.YtcpjohpbakbggaaDoor
open Go.RowKit Go.Maps
set_option linter.unusedSimpArgs false
set_option linter.unusedVariables false

theorem hide {p : Prop} (h : p) : Hid p := h
theorem take_snoc (bs : List UInt8) (k : Nat) (h : k < bs.length) : bs.take (k + 1) = bs.take k ++ [bs[k]] := List.take_succ_eq_append_getElem h
/-- A slice that is told by its values, whether or not it is nil. -/
theorem SliceAt.form {w : World} {v : Value} {xs : List Value} (h : SliceAt w v xs) : ∃ a c, v = .slice a xs.length c ∧ ∀ j u, xs[j]? = some u → ∃ p, a = some p ∧ w.cell? (p.add j) = some u := by
  rcases h with ⟨rfl, rfl⟩ | ⟨a, c, rfl, hc⟩
  · exact ⟨none, 0, rfl, by simp⟩
  · exact ⟨some a, c, rfl, fun j u hu => ⟨a, rfl, hc j u hu⟩⟩
theorem enc_at (bs : List UInt8) (k : Nat) (h : k < bs.length) : (bs.map encB)[k]? = some (.int .u8 bs[k].toNat) := by
  simp [List.getElem?_eq_getElem h, encB]

/-- A row of bytes that came in. -/
theorem argB {w : World} {a : Option Addr} {len cap : Nat} {zs : List Int}
    (h : (a = none ∧ len = 0 ∧ cap = 0 ∧ zs = []) ∨ ∃ x, a = some x ∧ len ≤ cap ∧ cap ≤ maxLen ∧ zs.length = cap ∧ (∀ i, i < zs.length → w.cell? (x.add i) = some (.int .u8 (zs.getD i 0))) ∧ ∀ n ∈ zs, (Lit.int .u8 n).wf = true) :
    ∃ bs : List UInt8, len = bs.length ∧ bs.length ≤ maxLen ∧ ∀ Z, Turn [] w Z → SliceAt Z (.slice a len cap) (bs.map encB) := by
  rcases h with ⟨rfl, rfl, rfl, rfl⟩ | ⟨x, rfl, h1, h2, h3, h4, h5⟩
  · exact ⟨[], rfl, by simp, fun Z _ => .inl ⟨rfl, rfl⟩⟩
  · have hlen : ((zs.take len).map (fun z => UInt8.ofNat z.toNat)).length = len := by simp; omega
    refine ⟨(zs.take len).map (fun z => UInt8.ofNat z.toNat), hlen.symm, by rw [hlen]; omega, fun Z hZ => SliceAt.kept (S := []) (.inr ⟨x, cap, by rw [List.length_map, hlen], fun j u hu => ?_⟩) hZ (by simp)⟩
    have hj : j < len := by have := (List.getElem?_eq_some_iff.1 hu).1; simp at this; omega
    have hjz : j < zs.length := by omega
    rw [h4 j hjz]
    have hw := h5 (zs[j]) (List.getElem_mem _)
    have hb : 0 ≤ zs[j] ∧ zs[j] < 256 := by
      simp only [Lit.wf, IntKind.min, IntKind.max, IntKind.signed, IntKind.bits, Bool.and_eq_true, decide_eq_true_eq] at hw
      have h1 := hw.1
      have h2 := hw.2
      simp at h1 h2
      exact ⟨h1, by omega⟩
    have hu2 : u = encB (UInt8.ofNat (zs[j]).toNat) := by
      simp [List.getElem?_take_of_lt hj, List.getElem?_eq_getElem hjz] at hu
      exact hu.symm
    rw [hu2]
    unfold encB
    have : ((UInt8.ofNat (zs[j]).toNat).toNat : Int) = zs[j] := by
      rw [UInt8.toNat_ofNat_of_lt' (by show (zs[j]).toNat < 256; omega)]; omega
    rw [this]
    simp [List.getD, List.getElem?_eq_getElem hjz]

/-- Bytes as a text. -/
theorem convB {w : World} {a : Option Addr} {c : Nat} {bs : List UInt8} (h : SliceAt w (.slice a bs.length c) (bs.map encB)) :
    (convert 22 9 (.slice a bs.length c)).run Tryd.prog w = .ok (.string ⟨bs.toArray⟩) w := by
  rcases h with ⟨h1, h2⟩ | ⟨x, c', h1, h2⟩
  · have h3 : bs = [] := by simpa using h2
    simp only [Value.slice.injEq] at h1
    obtain ⟨rfl, _, rfl⟩ := h1
    rw [h3]
    exact run_convert_bytes_nil w 22 5 Tryd.underlying22 Tryd.underlying5 0 0 9 Tryd.underlying9
  · simp only [Value.slice.injEq] at h1
    obtain ⟨rfl, _, rfl⟩ := h1
    exact run_convert_bytes_back w 22 9 5 x c bs Tryd.underlying22 Tryd.underlying5 Tryd.underlying9 (fun j hj => h2 j _ (by rw [List.getElem?_map, List.getElem?_eq_getElem hj]; rfl))

end Go.Proofs.YtcpjohpbakbggaaDoor

/- Rows of bytes that are read: their pieces. -/
namespace Go.Proofs.YtcpjohpbakbggaaDoor
open Go.RowKit Go.Maps
set_option linter.unusedSimpArgs false
set_option linter.unusedVariables false

/-- A slice that tells these bytes: its room, its cells. -/
def BytesAt (w : World) (v : Value) (bs : List UInt8) : Prop :=
  ∃ a c, v = .slice a bs.length c ∧ bs.length ≤ c ∧ c ≤ maxLen ∧ (a = none → c = 0) ∧ ∀ j (h : j < bs.length), ∃ p, a = some p ∧ w.cell? (p.add j) = some (encB bs[j])

theorem add_block (a : Addr) (j : Nat) : (a.add j).block = a.block := by unfold Addr.add; split <;> rfl
theorem add_add (a : Addr) (i j : Nat) : (a.add i).add j = a.add (i + j) := by
  unfold Addr.add
  repeat' split
  all_goals simp_all
  all_goals omega
theorem add_zero (a : Addr) : a.add 0 = a := by unfold Addr.add; rw [if_pos rfl]

theorem BytesAt.slice {w : World} {v : Value} {bs : List UInt8} (h : BytesAt w v bs) : SliceAt w v (bs.map encB) := by
  obtain ⟨a, c, rfl, h1, h2, h3, h4⟩ := h
  cases a with
  | none =>
    have hc := h3 rfl
    have hb : bs = [] := List.eq_nil_of_length_eq_zero (by omega)
    subst hb; subst hc
    exact .inl ⟨rfl, rfl⟩
  | some p =>
    refine .inr ⟨p, c, by simp, fun j u hu => ?_⟩
    have hj : j < bs.length := by have := (List.getElem?_eq_some_iff.1 hu).1; simpa using this
    obtain ⟨q, hq, hc⟩ := h4 j hj
    cases hq
    rw [hc]
    simpa [List.getElem?_eq_getElem hj] using hu
theorem BytesAt.kept {w w' : World} {v : Value} {bs : List UInt8} {S : List Nat} (h : BytesAt w v bs) (ht : Turn S w w') (hn : ∀ k ∈ v.ownBlock, k < w.heap.size → k ∉ S) : BytesAt w' v bs := by
  obtain ⟨a, c, rfl, h1, h2, h3, h4⟩ := h
  refine ⟨a, c, rfl, h1, h2, h3, fun j hj => ?_⟩
  obtain ⟨p, rfl, hc⟩ := h4 j hj
  have hlt := World.block_lt_of_cell? w _ hc
  refine ⟨p, rfl, ?_⟩
  rw [World.cell?_of_block (w := w) (ht.block _ hlt (by rw [add_block] at hlt ⊢; exact hn _ (by simp [Value.ownBlock]) hlt)), hc]
theorem BytesAt.still {w w' : World} {v : Value} {bs : List UInt8} (h : BytesAt w v bs) (ht : Turn [] w w') : BytesAt w' v bs := h.kept ht (by simp)
theorem RowAt.bytes {w : World} {e base : Nat} {v : Value} {bs : List UInt8} (h : RowAt w e base v bs) : BytesAt w v bs := by
  rcases h with ⟨rfl, rfl⟩ | ⟨g, cap, cur, rfl, hb, hg, h1, h2, h3, h4⟩
  · exact ⟨none, 0, rfl, by simp, by simp [maxLen], by simp, by simp⟩
  · refine ⟨some ⟨g, 0, none⟩, cap, rfl, h1, h3, by simp, fun j hj => ⟨_, rfl, ?_⟩⟩
    rw [addr_add, cell_of hg]
    have : (cur.toList.take bs.length)[j]? = some (encB bs[j]) := by rw [h4, List.getElem?_map, List.getElem?_eq_getElem hj]; rfl
    rw [List.getElem?_take_of_lt hj] at this
    simpa using this
theorem BytesAt.form {w : World} {v : Value} {bs : List UInt8} (h : BytesAt w v bs) : ∃ a c, v = .slice a bs.length c ∧ bs.length ≤ c ∧ c ≤ maxLen ∧ ∀ j (h : j < bs.length), ∃ p, a = some p ∧ w.cell? (p.add j) = some (.int .u8 bs[j].toNat) := by
  obtain ⟨a, c, rfl, h1, h2, h3, h4⟩ := h
  exact ⟨a, c, rfl, h1, h2, h4⟩

/-- Where a piece begins. -/
def advA (a : Option Addr) (n c : Nat) : Option Addr := if c = n then a else a.map (·.add n)
theorem BytesAt.drop {w : World} {a : Option Addr} {c n : Nat} {bs : List UInt8} (h : BytesAt w (.slice a bs.length c) bs) (hn : n ≤ bs.length) : BytesAt w (.slice (advA a n c) (bs.length - n) (c - n)) (bs.drop n) := by
  obtain ⟨a', c', e, h1, h2, h3, h4⟩ := h
  simp only [Value.slice.injEq] at e
  obtain ⟨rfl, -, rfl⟩ := e
  refine ⟨advA a n c, c - n, by simp, by simp; omega, by omega, ?_, fun j hj => ?_⟩
  · intro e
    unfold advA at e
    split at e
    · omega
    · cases a with
      | none => have := h3 rfl; omega
      | some p => simp at e
  · simp at hj
    obtain ⟨p, rfl, hc⟩ := h4 (n + j) (by omega)
    refine ⟨p.add n, by simp only [advA, if_neg (by omega : ¬ c = n), Option.map_some], ?_⟩
    rw [add_add, hc]; simp
theorem BytesAt.take {w : World} {a : Option Addr} {c n : Nat} {bs : List UInt8} (h : BytesAt w (.slice a bs.length c) bs) (hn : n ≤ bs.length) : BytesAt w (.slice a n c) (bs.take n) := by
  obtain ⟨a', c', e, h1, h2, h3, h4⟩ := h
  simp only [Value.slice.injEq] at e
  obtain ⟨rfl, -, rfl⟩ := e
  refine ⟨a, c, by simp; omega, by simp; omega, h2, h3, fun j hj => ?_⟩
  simp at hj
  obtain ⟨p, rfl, hc⟩ := h4 j (by omega)
  exact ⟨p, rfl, by rw [hc]; simp⟩

theorem sizeB (w : World) : (sizeOf 5).run Tryd.prog w = .ok 1 w := by kernel_rfl
theorem run_from (a : Option Addr) (l c n : Nat) (hn : n ≤ l) (w : World) : (Instr.slice 22 (.slice a l c) (some (.int .i64 (n : Int))) none none).run Tryd.prog w = .ok (.slice (advA a n c) (l - n) (c - n)) w := by
  have h := sizeB w
  simp [Instr.slice, run_underlying Tryd.underlying22, Instr.sliceBounds, run_sliceBound, h, Result.andThen, hn, advA]
theorem run_to (a : Option Addr) (l c n : Nat) (hn : n ≤ c) (w : World) : (Instr.slice 22 (.slice a l c) none (some (.int .i64 (n : Int))) none).run Tryd.prog w = .ok (.slice a n c) w := by
  have h := sizeB w
  cases a <;> simp [Instr.slice, run_underlying Tryd.underlying22, Instr.sliceBounds, run_sliceBound, h, Result.andThen, hn, add_zero]
theorem run_from_to (a : Option Addr) (l c n m : Nat) (hn : n ≤ m) (hm : m ≤ c) (w : World) : (Instr.slice 22 (.slice a l c) (some (.int .i64 (n : Int))) (some (.int .i64 (m : Int))) none).run Tryd.prog w = .ok (.slice (advA a n c) (m - n) (c - n)) w := by
  have h := sizeB w
  simp [Instr.slice, run_underlying Tryd.underlying22, Instr.sliceBounds, run_sliceBound, h, Result.andThen, hn, hm, advA]

/-- Bytes that came in. -/
theorem argBytes {w : World} {a : Option Addr} {len cap : Nat} {zs : List Int}
    (h : (a = none ∧ len = 0 ∧ cap = 0 ∧ zs = []) ∨ ∃ x, a = some x ∧ len ≤ cap ∧ cap ≤ maxLen ∧ zs.length = cap ∧ (∀ i, i < zs.length → w.cell? (x.add i) = some (.int .u8 (zs.getD i 0))) ∧ ∀ n ∈ zs, (Lit.int .u8 n).wf = true) :
    ∃ bs : List UInt8, len = bs.length ∧ BytesAt w (.slice a bs.length cap) bs := by
  obtain ⟨bs, hl, hm, hx⟩ := argB h
  have hs := hx w (Turn.refl _ _)
  refine ⟨bs, hl, a, cap, rfl, ?_, ?_, ?_, fun j hj => ?_⟩
  · rcases h with ⟨rfl, rfl, rfl, rfl⟩ | ⟨x, rfl, h1, h2, h3, h4, h5⟩ <;> omega
  · rcases h with ⟨rfl, rfl, rfl, rfl⟩ | ⟨x, rfl, h1, h2, h3, h4, h5⟩
    · omega
    · exact h2
  · rcases h with ⟨rfl, rfl, rfl, rfl⟩ | ⟨x, rfl, h1, h2, h3, h4, h5⟩ <;> simp
  · obtain ⟨a', c', e, hc⟩ := hs.form
    simp only [Value.slice.injEq] at e
    obtain ⟨rfl, -, rfl⟩ := e
    exact hc j _ (enc_at bs j hj)
/-- Bytes as a text. -/
theorem BytesAt.conv {w : World} {v : Value} {bs : List UInt8} (h : BytesAt w v bs) : (convert 22 9 v).run Tryd.prog w = .ok (.string ⟨bs.toArray⟩) w := by
  obtain ⟨a, c, rfl, -⟩ := h.form
  exact convB h.slice
theorem text_ne {a b : List UInt8} (h : a ≠ b) : ({ data := a.toArray } : ByteArray) ≠ { data := b.toArray } := by
  intro e
  exact h (by have := congrArg (fun b : ByteArray => b.data.toList) e; simpa using this)

end Go.Proofs.YtcpjohpbakbggaaDoor

/- Numbers as bytes, seven bits each, the least ones first: what is written is read again; what is read was written. No program. -/
namespace Go.Proofs.YtcpjohpbakbggaaDoor.Nu

/-- The bytes of a number. -/
def putF : Nat → Nat → List UInt8
  | 0, _ => []
  | f + 1, n => if n < 128 then [UInt8.ofNat n] else UInt8.ofNat (n % 128 + 128) :: putF f (n / 128)
def put (n : Nat) : List UInt8 := putF (n + 1) n
theorem putF_enough : ∀ f n, n < f → ∀ g, n < g → putF f n = putF g n
  | 0, _, h, _, _ => by omega
  | _ + 1, _, _, 0, h => by omega
  | f + 1, n, h, g + 1, k => by
    unfold putF
    split
    · rfl
    · rw [putF_enough f (n / 128) (by omega) g (by omega)]
theorem put_small {n : Nat} (h : n < 128) : put n = [UInt8.ofNat n] := by simp [put, putF, h]
theorem put_big {n : Nat} (h : 128 ≤ n) : put n = UInt8.ofNat (n % 128 + 128) :: put (n / 128) := by
  show putF (n + 1) n = _
  unfold putF
  rw [if_neg (by omega)]
  congr 1
  exact putF_enough _ _ (by omega) _ (by omega)
theorem put_pos (n : Nat) : 0 < (put n).length := by
  by_cases h : n < 128
  · simp [put_small h]
  · simp [put_big (by omega : 128 ≤ n)]
theorem put_len : ∀ (k n : Nat), n < 128 ^ (k + 1) → (put n).length ≤ k + 1
  | 0, n, h => by simp [put_small (show n < 128 by simpa using h)]
  | k + 1, n, h => by
    by_cases h1 : n < 128
    · simp [put_small h1]
    · rw [put_big (by omega)]
      have := put_len k (n / 128) (by rw [Nat.div_lt_iff_lt_mul (by omega)]; rw [Nat.pow_succ] at h; exact h)
      simp; omega
theorem put_len6 {n : Nat} (h : n ≤ 1099511627776) : (put n).length ≤ 6 := put_len 5 n (by omega)

/-- The number that bytes tell. -/
def val : List UInt8 → Nat
  | [] => 0
  | c :: r => c.toNat % 128 + 128 * val r
theorem val_snoc : ∀ (l : List UInt8) (c : UInt8), val (l ++ [c]) = val l + c.toNat % 128 * 128 ^ l.length
  | [], c => by simp [val]
  | d :: l, c => by
    simp only [List.cons_append, val, val_snoc l c, List.length_cons, Nat.pow_succ]
    rw [Nat.mul_add, Nat.add_assoc, Nat.mul_comm (128 ^ l.length) 128, ← Nat.mul_assoc (c.toNat % 128), Nat.mul_comm (c.toNat % 128) 128, Nat.mul_assoc]
theorem val_lt : ∀ (l : List UInt8), val l < 128 ^ l.length
  | [] => by simp [val]
  | c :: l => by
    have := val_lt l
    simp only [val, List.length_cons, Nat.pow_succ]
    omega
theorem val_mono (l r : List UInt8) : val l ≤ val (l ++ r) := by
  induction l with
  | nil => simp [val]
  | cons c l ih => simp only [List.cons_append, val]; omega
theorem val_put : ∀ (f n : Nat), n < f → val (put n) = n
  | 0, _, h => by omega
  | f + 1, n, h => by
    by_cases h1 : n < 128
    · rw [put_small h1]; simp [val, Nat.mod_eq_of_lt (show n < 256 by omega), Nat.mod_eq_of_lt h1]
    · rw [put_big (by omega)]
      simp only [val, val_put f (n / 128) (by omega)]
      rw [show (UInt8.ofNat (n % 128 + 128)).toNat = n % 128 + 128 by simp; omega]
      omega
theorem val_of_put (n : Nat) : val (put n) = n := val_put (n + 1) n (by omega)

/-- All bytes say that there are more. -/
def more (l : List UInt8) : Bool := l.all (fun c => decide (128 ≤ c.toNat))
theorem more_snoc (l : List UInt8) (c : UInt8) : more (l ++ [c]) = (more l && decide (128 ≤ c.toNat)) := by simp [more]

/-- Such bytes, and one that is the last, are a number's just when it is not 0, or is alone. -/
theorem put_val : ∀ (l : List UInt8) (c : UInt8), more l = true → c.toNat < 128 → (l = [] ∨ c.toNat ≠ 0) → put (val (l ++ [c])) = l ++ [c]
  | [], c, _, h, _ => by
    simp only [List.nil_append, val]
    rw [put_small (by omega)]
    congr 1
    apply UInt8.toNat.inj
    simp; omega
  | d :: l, c, hm, h, h0 => by
    simp only [more, List.all_cons, Bool.and_eq_true, decide_eq_true_eq] at hm
    have h0 : c.toNat ≠ 0 := by simpa using h0
    have hd := d.toNat_lt
    have hv : 0 < val (l ++ [c]) := by
      rw [val_snoc, Nat.mod_eq_of_lt h]
      have : 0 < c.toNat * 128 ^ l.length := Nat.mul_pos (by omega) (Nat.pow_pos (by omega))
      omega
    simp only [List.cons_append, val]
    rw [put_big (by omega), show (d.toNat % 128 + 128 * val (l ++ [c])) / 128 = val (l ++ [c]) by omega, put_val l c hm.2 h (.inr h0)]
    congr 1
    apply UInt8.toNat.inj
    simp; omega
/-- What a number's bytes are: ones that say that there are more, and a last one. -/
theorem put_form : ∀ (f n : Nat), n < f → ∃ l c, put n = l ++ [c] ∧ more l = true ∧ c.toNat < 128 ∧ (l = [] ∨ c.toNat ≠ 0)
  | 0, _, h => by omega
  | f + 1, n, h => by
    by_cases h1 : n < 128
    · exact ⟨[], UInt8.ofNat n, by rw [put_small h1]; rfl, rfl, by simp; omega, .inl rfl⟩
    · obtain ⟨l, c, e, hm, hc, h0⟩ := put_form f (n / 128) (by omega)
      refine ⟨UInt8.ofNat (n % 128 + 128) :: l, c, by rw [put_big (by omega), e]; rfl, ?_, hc, .inr ?_⟩
      · simp only [more, List.all_cons, Bool.and_eq_true, decide_eq_true_eq]
        exact ⟨by simp; omega, hm⟩
      · rcases h0 with rfl | h0
        · have := val_of_put (n / 128)
          rw [e] at this
          simp only [List.nil_append, val] at this
          omega
        · exact h0

theorem put_ne (n : Nat) (l : List UInt8) (c : UInt8) (h1 : l ≠ []) (h2 : c.toNat = 0) : put n ≠ l ++ [c] := by
  obtain ⟨l', c', e, -, -, h0⟩ := put_form (n + 1) n (by omega)
  rw [e]
  intro e2
  obtain ⟨e3, e4⟩ := List.append_inj' e2 rfl
  subst e3
  simp only [List.cons.injEq, and_true] at e4
  subst e4
  rcases h0 with h | h
  · exact h1 h
  · exact h h2

/-- What Get tells of bytes: k have been looked at. -/
def getF : Nat → List UInt8 → List UInt8 → Nat × Nat
  | 0, _, _ => (0, 0)
  | _, _, [] => (0, 0)
  | f + 1, l, c :: r => if 128 ≤ c.toNat then getF f (l ++ [c]) r
    else if 1099511627776 < val (l ++ [c]) ∨ (l ≠ [] ∧ c.toNat = 0) then (0, 0) else (val (l ++ [c]), l.length + 1)
def get (b : List UInt8) : Nat × Nat := getF 6 [] b

/-- Once it is above MaxTime it stays so. -/
theorem getF_above : ∀ (f : Nat) (l r : List UInt8), 1099511627776 < val l → getF f l r = (0, 0)
  | 0, _, _, _ => rfl
  | _ + 1, _, [], _ => rfl
  | f + 1, l, c :: r, h => by
    have := val_mono l [c]
    unfold getF
    split
    · exact getF_above f _ r (by omega)
    · rw [if_pos (.inl (by omega))]
theorem getF_none (f : Nat) (l : List UInt8) : getF f l [] = (0, 0) := by cases f <;> rfl
theorem getF_more {f : Nat} {l r : List UInt8} {c : UInt8} (h : 128 ≤ c.toNat) : getF (f + 1) l (c :: r) = getF f (l ++ [c]) r := by
  rw [getF, if_pos h]
theorem getF_last {f : Nat} {l r : List UInt8} {c : UInt8} (h : c.toNat < 128) : getF (f + 1) l (c :: r) = if 1099511627776 < val (l ++ [c]) ∨ (l ≠ [] ∧ c.toNat = 0) then (0, 0) else (val (l ++ [c]), l.length + 1) := by
  rw [getF, if_neg (by omega)]
theorem getF_put : ∀ (f : Nat) (p l : List UInt8) (c : UInt8) (r : List UInt8), more l = true → c.toNat < 128 → l.length < f → 
    getF f p (l ++ c :: r) = if 1099511627776 < val (p ++ l ++ [c]) ∨ (p ++ l ≠ [] ∧ c.toNat = 0) then (0, 0) else (val (p ++ l ++ [c]), p.length + l.length + 1)
  | 0, _, _, _, _, _, _, h => by omega
  | f + 1, p, [], c, r, _, hc, _ => by rw [List.nil_append, getF_last hc]; simp
  | f + 1, p, d :: l, c, r, hm, hc, hl => by
    simp only [more, List.all_cons, Bool.and_eq_true, decide_eq_true_eq] at hm
    rw [List.cons_append, getF_more hm.1, getF_put f _ l c r hm.2 hc (by simp at hl; omega)]
    have e : p ++ [d] ++ l = p ++ (d :: l) := by simp
    have e2 : (p ++ [d]).length + l.length + 1 = p.length + (d :: l).length + 1 := by simp; omega
    rw [e, e2]
/-- WHAT IS WRITTEN IS READ AGAIN. -/
theorem get_put {n : Nat} (h : n ≤ 1099511627776) (r : List UInt8) : get (put n ++ r) = (n, (put n).length) := by
  obtain ⟨l, c, e, hm, hc, h0⟩ := put_form (n + 1) n (by omega)
  have hl := put_len6 h
  have hv := val_of_put n
  rw [e] at hv hl
  rw [e, List.append_assoc, List.singleton_append]
  unfold get
  rw [getF_put 6 [] l c r hm hc (by simp at hl; omega), if_neg]
  · simp only [List.nil_append, hv]; simp
  · simp only [List.nil_append, hv]
    rintro (h1 | ⟨h1, h2⟩)
    · omega
    · rcases h0 with h0 | h0
      · exact h1 h0
      · exact h0 h2
/-- WHAT IS READ WAS WRITTEN. -/
theorem getF_some : ∀ (f : Nat) (p b : List UInt8) (n s : Nat), more p = true → getF f p b = (n, s) → s ≠ 0 →
    n ≤ 1099511627776 ∧ p.length ≤ s ∧ s ≤ p.length + b.length ∧ put n = p ++ b.take (s - p.length)
  | 0, _, _, _, _, _, h, hs => by simp [getF] at h; omega
  | _ + 1, _, [], _, _, _, h, hs => by simp [getF] at h; omega
  | f + 1, p, c :: b, n, s, hm, h, hs => by
    by_cases hc : 128 ≤ c.toNat
    · rw [getF_more hc] at h
      obtain ⟨h1, h2, h3, h4⟩ := getF_some f _ b n s (by rw [more_snoc, hm]; simpa using hc) h hs
      simp only [List.length_append, List.length_cons, List.length_nil] at h2 h3 h4
      refine ⟨h1, by omega, by simp; omega, ?_⟩
      rw [h4, List.append_assoc, show s - p.length = (s - (p.length + (0 + 1))) + 1 by omega, List.take_succ_cons]; rfl
    · have hc' : c.toNat < 128 := by omega
      rw [getF_last hc'] at h
      split at h
      · simp at h; omega
      · rename_i hn
        simp only [Prod.mk.injEq] at h
        obtain ⟨rfl, rfl⟩ := h
        refine ⟨by omega, by omega, by simp, ?_⟩
        rw [put_val p c hm hc' (by by_cases e : p = []; exact .inl e; exact .inr (fun e2 => hn (.inr ⟨e, e2⟩)))]
        rw [show p.length + 1 - p.length = 1 by omega]; rfl
theorem get_some {b : List UInt8} {n s : Nat} (h : get b = (n, s)) (hs : s ≠ 0) : n ≤ 1099511627776 ∧ s ≤ b.length ∧ put n = b.take s := by
  obtain ⟨h1, _, h3, h4⟩ := getF_some 6 [] b n s rfl h hs
  exact ⟨h1, by simpa using h3, by simpa using h4⟩
theorem get_size {b : List UInt8} : (get b).2 ≤ b.length ∧ (get b).1 ≤ 1099511627776 ∧ ((get b).2 = 0 → (get b).1 = 0) := by
  have aux : ∀ (f : Nat) (p b : List UInt8), (getF f p b).2 = 0 → (getF f p b).1 = 0 := by
    intro f
    induction f with
    | zero => intro p b _; rfl
    | succ f ih =>
      intro p b h
      cases b with
      | nil => rfl
      | cons c b =>
        by_cases hc : 128 ≤ c.toNat
        · rw [getF_more hc] at h ⊢; exact ih _ _ h
        · rw [getF_last (by omega)] at h ⊢
          split
          · rfl
          · rename_i hn; rw [if_neg hn] at h; simp at h
  by_cases hs : (get b).2 = 0
  · have := aux 6 [] b hs
    exact ⟨by omega, by show (get b).1 ≤ _; unfold get; omega, fun _ => this⟩
  · obtain ⟨h1, h2, _⟩ := get_some (b := b) (n := (get b).1) (s := (get b).2) rfl hs
    exact ⟨h2, h1, fun e => absurd e hs⟩
/-- No beginning of a number's bytes is one. -/
theorem get_short {n : Nat} {k : Nat} (hk : k < (put n).length) : get ((put n).take k) = (0, 0) := by
  obtain ⟨l, c, e, hm, hc, h0⟩ := put_form (n + 1) n (by omega)
  rw [e] at hk ⊢
  have hk' : k ≤ l.length := by simp at hk; omega
  rw [List.take_append_of_le_length hk']
  have : more (l.take k) = true := by
    simp only [more, List.all_eq_true] at hm ⊢
    intro x hx; exact hm x (List.mem_of_mem_take hx)
  have aux : ∀ (f : Nat) (p b : List UInt8), more b = true → getF f p b = (0, 0) := by
    intro f
    induction f with
    | zero => intro p b _; rfl
    | succ f ih =>
      intro p b h
      cases b with
      | nil => rfl
      | cons d b =>
        simp only [more, List.all_cons, Bool.and_eq_true, decide_eq_true_eq] at h
        rw [getF_more h.1]; exact ih _ _ h.2
  exact aux 6 [] _ this

end Go.Proofs.YtcpjohpbakbggaaDoor.Nu

/- The check of bytes, as numbers: the program's way, bit by bit from the least one, and the document's, from the greatest one, are one. No program. -/
namespace Go.Proofs.YtcpjohpbakbggaaDoor.Cr

/-- One bit of the program's. -/
def step (s : Nat) : Nat := s / 2 ^^^ 3988292384 * (s % 2)
def steps : Nat → Nat → Nat
  | 0, s => s
  | n + 1, s => step (steps n s)
/-- One byte of the program's. -/
def byte (s : Nat) (c : UInt8) : Nat := steps 8 (s ^^^ c.toNat)
def crc (bs : List UInt8) : Nat := bs.foldl byte 4294967295
def sum (bs : List UInt8) : Nat := 4294967295 - crc bs

theorem step_lt {s : Nat} (h : s < 4294967296) : step s < 4294967296 := by
  unfold step
  refine Nat.xor_lt_two_pow (n := 32) (by omega) ?_
  have : s % 2 = 0 ∨ s % 2 = 1 := by omega
  rcases this with e | e <;> rw [e] <;> decide
theorem steps_lt {s : Nat} (h : s < 4294967296) : ∀ n, steps n s < 4294967296
  | 0 => h
  | n + 1 => step_lt (steps_lt h n)
theorem xor_lt {s : Nat} (h : s < 4294967296) (c : UInt8) : s ^^^ c.toNat < 4294967296 :=
  Nat.xor_lt_two_pow (n := 32) (by omega) (by have := c.toNat_lt; omega)
theorem byte_lt {s : Nat} (h : s < 4294967296) (c : UInt8) : byte s c < 4294967296 := steps_lt (xor_lt h c) 8
theorem fold_lt (bs : List UInt8) : ∀ s, s < 4294967296 → bs.foldl byte s < 4294967296 := by
  induction bs with
  | nil => intro s h; exact h
  | cons c bs ih => intro s h; exact ih _ (byte_lt h c)
theorem crc_lt (bs : List UInt8) : crc bs < 4294967296 := fold_lt bs _ (by omega)
theorem crc_snoc (bs : List UInt8) (c : UInt8) : crc (bs ++ [c]) = byte (crc bs) c := by simp [crc]

/-- One bit of the document's. -/
def up (v : Nat) (i : Bool) : Nat := (if i != v.testBit 31 then 79764919 else 0) ^^^ (v * 2 % 4294967296)
def ups (c : Nat) : Nat → Nat → Nat
  | 0, v => v
  | n + 1, v => up (ups c n v) (c.testBit n)
def rbyte (v : Nat) (c : UInt8) : Nat := ups c.toNat 8 v
def rcrc (bs : List UInt8) : Nat := bs.foldl rbyte 4294967295
theorem up_lt {v : Nat} (i : Bool) : up v i < 4294967296 := by
  unfold up
  refine Nat.xor_lt_two_pow (n := 32) ?_ (Nat.mod_lt _ (by omega))
  split <;> decide
theorem ups_lt {v : Nat} (c : Nat) (h : v < 4294967296) : ∀ n, ups c n v < 4294967296
  | 0 => h
  | _ + 1 => up_lt _
theorem rcrc_snoc (bs : List UInt8) (c : UInt8) : rcrc (bs ++ [c]) = rbyte (rcrc bs) c := by simp [rcrc]
theorem rfold_lt (bs : List UInt8) : ∀ s, s < 4294967296 → bs.foldl rbyte s < 4294967296 := by
  induction bs with
  | nil => intro s h; exact h
  | cons c bs ih => intro s h; exact ih _ (ups_lt _ h 8)
theorem rcrc_lt (bs : List UInt8) : rcrc bs < 4294967296 := rfold_lt bs _ (by omega)

/-- Two numbers of 32 bits, one turned round. -/
def Rev (v s : Nat) : Prop := ∀ i, i < 32 → v.testBit i = s.testBit (31 - i)

theorem poly : ∀ i : Fin 32, (79764919 : Nat).testBit i.val = (3988292384 : Nat).testBit (31 - i.val) := by decide
theorem tb_high {s : Nat} (h : s < 4294967296) {i : Nat} (hi : 32 ≤ i) : s.testBit i = false :=
  Nat.testBit_lt_two_pow (Nat.lt_of_lt_of_le h (by have : 2 ^ 32 ≤ 2 ^ i := Nat.pow_le_pow_right (by omega) hi; simpa using this))

theorem rev_step {v p q : Nat} (hp : p < 4294967296) (hq : q < 4294967296) (h : Rev v (p ^^^ q)) : Rev (up v (q.testBit 0)) (step p ^^^ q / 2) := by
  intro i hi
  have ht : v.testBit 31 = (p.testBit 0 ^^ q.testBit 0) := by have := h 31 (by omega); rwa [Nat.sub_self, Nat.testBit_xor] at this
  have hd : (q.testBit 0 != v.testBit 31) = p.testBit 0 := by rw [ht]; cases p.testBit 0 <;> cases q.testBit 0 <;> rfl
  have hv : (v * 2 % 4294967296).testBit i = ((p ^^^ q).testBit (31 - i + 1)) := by
    rw [show (4294967296 : Nat) = 2 ^ 32 by decide, Nat.testBit_mod_two_pow]
    cases i with
    | zero => simp [tb_high hp, tb_high hq]
    | succ j =>
      rw [show v * 2 = 2 ^ 1 * v by omega, Nat.testBit_two_pow_mul, h _ (by omega)]
      rw [show 31 - (j + 1) + 1 = 31 - j by omega]
      simp; omega
  unfold up step
  rw [hd, Nat.testBit_xor, hv, Nat.testBit_xor, Nat.testBit_xor, Nat.testBit_xor, Nat.testBit_succ, Nat.testBit_succ]
  have hm : p % 2 = if p.testBit 0 then 1 else 0 := by rw [Nat.testBit_zero]; by_cases e : p % 2 = 1 <;> simp [e] ; omega
  have hpl := poly ⟨i, hi⟩
  simp only at hpl
  cases hb : p.testBit 0
  · simp [hm, hb]
  · simp only [hm, hb, if_true, Nat.mul_one, hpl]
    cases Nat.testBit (p / 2) (31 - i) <;> cases Nat.testBit (q / 2) (31 - i) <;> cases Nat.testBit 3988292384 (31 - i) <;> rfl

theorem rev_steps {v s : Nat} (c : Nat) (hs : s < 4294967296) (hc : c < 256) (h : Rev v s) : ∀ n, Rev (ups c n v) (steps n (s ^^^ c) ^^^ c / 2 ^ n)
  | 0 => by simpa [ups, steps, Nat.xor_assoc] using h
  | n + 1 => by
    have hx : s ^^^ c < 4294967296 := Nat.xor_lt_two_pow (n := 32) (by omega) (by omega)
    have hq : c / 2 ^ n < 4294967296 := Nat.lt_of_le_of_lt (Nat.div_le_self _ _) (by omega)
    have := rev_step (steps_lt hx n) hq (rev_steps c hs hc h n)
    rw [Nat.testBit_zero, ← Nat.testBit_zero, Nat.testBit_div_two_pow, Nat.zero_add] at this
    rw [Nat.pow_succ, ← Nat.div_div_eq_div_mul]
    exact this

theorem rev_byte {v s : Nat} (c : UInt8) (hs : s < 4294967296) (h : Rev v s) : Rev (rbyte v c) (byte s c) := by
  have hc := c.toNat_lt
  have := rev_steps c.toNat hs (by omega) h 8
  rw [Nat.div_eq_of_lt (by omega), Nat.xor_zero] at this
  exact this
theorem rev_fold (bs : List UInt8) : ∀ v s, s < 4294967296 → Rev v s → Rev (bs.foldl rbyte v) (bs.foldl byte s) := by
  induction bs with
  | nil => intro v s _ h; exact h
  | cons c bs ih => intro v s hs h; exact ih _ _ (byte_lt hs c) (rev_byte c hs h)
theorem rev_ones : Rev 4294967295 4294967295 := by
  intro i hi
  have : ∀ i : Fin 32, (4294967295 : Nat).testBit i.val = (4294967295 : Nat).testBit (31 - i.val) := by decide
  exact this ⟨i, hi⟩
theorem rev_crc (bs : List UInt8) : Rev (rcrc bs) (crc bs) := rev_fold bs _ _ (by omega) rev_ones

/-- What the document's last loop has told behind k bits. -/
def part (n k : Nat) : Nat := n / 2 ^ (32 - k) * 2 ^ (32 - k)
theorem part_all (n : Nat) : part n 32 = n := by simp [part]
theorem part_zero {n : Nat} (h : n < 4294967296) : part n 0 = 0 := by
  unfold part; rw [Nat.div_eq_of_lt (by simpa using h), Nat.zero_mul]
theorem not_bit {s i : Nat} (hs : s < 4294967296) (hi : i < 32) : (4294967295 - s).testBit i = !s.testBit i := by
  have := Nat.testBit_two_pow_sub_succ (n := 32) (x := s) (by simpa using hs) i
  rw [show 2 ^ 32 - (s + 1) = 4294967295 - s by omega] at this
  rw [this]; simp [hi]
theorem part_succ {s v k : Nat} (hs : s < 4294967296) (hk : k < 32) (h : Rev v s) :
    part (4294967295 - s) (k + 1) = part (4294967295 - s) k + if v / 2 ^ k % 2 = 0 then 2 ^ (31 - k) else 0 := by
  have hb := not_bit hs (show 31 - k < 32 by omega)
  rw [← h k hk, Nat.testBit_eq_decide_div_mod_eq, Nat.testBit_eq_decide_div_mod_eq] at hb
  generalize 4294967295 - s = n at *
  unfold part
  rw [show 32 - (k + 1) = 31 - k by omega, show 32 - k = 31 - k + 1 by omega, Nat.pow_succ, ← Nat.div_div_eq_div_mul]
  generalize n / 2 ^ (31 - k) = m at *
  generalize 2 ^ (31 - k) = q at *
  have h2 : m % 2 = if v / 2 ^ k % 2 = 0 then 1 else 0 := by
    by_cases e : v / 2 ^ k % 2 = 0
    · have : ¬ v / 2 ^ k % 2 = 1 := by omega
      simp only [this, decide_false, Bool.not_false, decide_eq_true_eq] at hb
      simp [e, hb]
    · have : v / 2 ^ k % 2 = 1 := by omega
      simp only [this, decide_true, Bool.not_true, decide_eq_false_iff_not] at hb
      simp [e]; omega
  have h3 : m = 2 * (m / 2) + m % 2 := by omega
  have : m * q = (m / 2) * (q * 2) + (m % 2) * q := by
    conv => lhs; rw [h3]
    rw [Nat.add_mul, Nat.mul_comm 2, Nat.mul_assoc, Nat.mul_comm 2]
  rw [this, h2]
  split <;> simp

end Go.Proofs.YtcpjohpbakbggaaDoor.Cr

/- Batches as bytes: what may be, what is written, and that it is read again. No program. -/
namespace Go.Proofs.YtcpjohpbakbggaaDoor.Bt
open Go.Proofs.YtcpjohpbakbggaaDoor
set_option linter.unusedSimpArgs false
set_option linter.unusedVariables false

structure Rec where
  off : Int
  time : Int
  keyed : Bool
  key : List UInt8
  gone : Bool
  value : List UInt8
structure Bat where
  base : Int
  fin : Int
  recs : List Rec

/-- What is wrong with a record that may be from an offset on, below another. -/
def recErr (r : Rec) (lo hi : Int) : Int :=
  if r.off < lo ∨ hi ≤ r.off ∨ (r.keyed = false ∧ r.key ≠ []) ∨ (r.gone = true ∧ r.value ≠ []) then 1
  else if 60 < r.key.length ∨ 500 < r.value.length then 4
  else if r.time < 0 ∨ 1099511627776 < r.time then 2 else 0
def recsErr : List Rec → Int → Int → Int
  | [], _, _ => 0
  | r :: rs, lo, hi => if recErr r lo hi = 0 then recsErr rs (r.off + 1) hi else recErr r lo hi
/-- What is wrong with a batch. -/
def chk (x : Bat) : Int :=
  if x.base < 0 ∨ 1099511627776 < x.fin then 2 else if x.fin ≤ x.base then 1 else if 50 < x.recs.length ∨ 50 < x.fin - x.base then 4 else recsErr x.recs x.base x.fin

def mark (r : Rec) : Nat := (if r.keyed then 1 else 0) + (if r.gone then 2 else 0)
def textB (s : List UInt8) : List UInt8 := Nu.put s.length ++ s
def recB (base : Int) (r : Rec) : List UInt8 :=
  Nu.put (r.off - base).toNat ++ Nu.put r.time.toNat ++ Nu.put (mark r) ++ (if r.keyed then textB r.key else []) ++ (if r.gone then [] else textB r.value)
def recsB (base : Int) (rs : List Rec) : List UInt8 := rs.flatMap (recB base)
def body (x : Bat) : List UInt8 :=
  Nu.put x.base.toNat ++ Nu.put (x.fin - x.base).toNat ++ Nu.put x.recs.length ++ recsB x.base x.recs
def four (n : Nat) : List UInt8 := [UInt8.ofNat (n / 16777216 % 256), UInt8.ofNat (n / 65536 % 256), UInt8.ofNat (n / 256 % 256), UInt8.ofNat (n % 256)]
def encB (x : Bat) : List UInt8 := four ((body x).length + 8) ++ four (Cr.sum (body x)) ++ body x
/-- Encode's error. -/
def encErr (x : Bat) : Int := if chk x = 0 then (if 6000 < (body x).length + 8 then 4 else 0) else chk x

/-! ### what a valid batch is like -/
theorem recErr_ok {r : Rec} {lo hi : Int} (h : recErr r lo hi = 0) : lo ≤ r.off ∧ r.off < hi ∧ (r.keyed = false → r.key = []) ∧ (r.gone = true → r.value = []) ∧ r.key.length ≤ 60 ∧ r.value.length ≤ 500 ∧ 0 ≤ r.time ∧ r.time ≤ 1099511627776 := by
  unfold recErr at h
  split at h
  · omega
  · rename_i h1
    split at h
    · omega
    · split at h
      · omega
      · rename_i h2 h3
        refine ⟨by omega, by omega, fun e => ?_, fun e => ?_, by omega, by omega, by omega, by omega⟩
        · refine Classical.byContradiction fun hn => h1 (.inr (.inr (.inl ⟨e, hn⟩)))
        · refine Classical.byContradiction fun hn => h1 (.inr (.inr (.inr ⟨e, hn⟩)))

/-! ### reading -/
def num (l : List UInt8) : Nat × List UInt8 := if (Nu.get l).2 = 0 then (0, []) else ((Nu.get l).1, l.drop (Nu.get l).2)
def text (l : List UInt8) : List UInt8 × List UInt8 := if (num l).2.length < (num l).1 then ([], []) else ((num l).2.take (num l).1, (num l).2.drop (num l).1)
theorem num_put {n : Nat} (h : n ≤ 1099511627776) (r : List UInt8) : num (Nu.put n ++ r) = (n, r) := by
  unfold num
  rw [Nu.get_put h]
  have := Nu.put_pos n
  rw [if_neg (show ¬ (Nu.put n).length = 0 by omega)]
  simp
theorem text_put {s : List UInt8} (h : s.length ≤ 1099511627776) (r : List UInt8) : text (textB s ++ r) = (s, r) := by
  unfold text textB
  rw [List.append_assoc, num_put h]
  simp; omega
/-- The record that is read, and what is left. -/
def rec1 (base : Int) (l : List UInt8) : Rec × List UInt8 :=
  let a := num l
  let b := num a.2
  let c := num b.2
  let keyed := c.1 % 2 = 1
  let gone := c.1 / 2 % 2 = 1
  let k := if keyed then text c.2 else ([], c.2)
  let v := if gone then ([], k.2) else text k.2
  ({ off := base + a.1, time := b.1, keyed := keyed, key := k.1, gone := gone, value := v.1 }, v.2)
def recs1 (base : Int) : Nat → List UInt8 → List Rec
  | 0, _ => []
  | n + 1, l => if l = [] then [] else (rec1 base l).1 :: recs1 base n (rec1 base l).2
def bat1 (l : List UInt8) : Bat :=
  let a := num l
  let b := num a.2
  let c := num b.2
  { base := a.1, fin := (a.1 : Int) + b.1, recs := recs1 a.1 c.1 c.2 }
theorem recB_pos (base : Int) (r : Rec) : 0 < (recB base r).length := by
  unfold recB
  have := Nu.put_pos (r.off - base).toNat
  simp; omega
theorem rec1_B {base : Int} {r : Rec} {lo hi : Int} (h : recErr r lo hi = 0) (hb : base ≤ lo) (hB : 0 ≤ base) (hT : hi ≤ (1099511627776 : Int)) (l : List UInt8) : rec1 base (recB base r ++ l) = (r, l) := by
  obtain ⟨h1, h2, h3, h4, h5, h6, h7, h8⟩ := recErr_ok h
  obtain ⟨off, time, keyed, key, gone, value⟩ := r
  simp only at h1 h2 h3 h4 h5 h6 h7 h8
  have e1 : (off - base).toNat ≤ 1099511627776 := by omega
  have e2 : time.toNat ≤ 1099511627776 := by omega
  have e3 : base + ((off - base).toNat : Int) = off := by omega
  have e4 : (time.toNat : Int) = time := by omega
  unfold rec1 recB
  simp only [List.append_assoc, num_put e1, num_put e2]
  cases keyed <;> cases gone
  · simp only [mark, num_put (show 0 + 0 ≤ 1099511627776 by omega), Bool.false_eq_true, if_false, List.nil_append]
    have := h3 rfl
    subst this
    simp [text_put (show value.length ≤ 1099511627776 by omega), e3, e4, -Int.ofNat_toNat]
  · have := h3 rfl
    have h' := h4 rfl
    subst this; subst h'
    simp only [mark, num_put (show 0 + 2 ≤ 1099511627776 by omega), Bool.false_eq_true, if_false, if_true, List.nil_append]
    simp [e3, e4, -Int.ofNat_toNat]
  · simp only [mark, num_put (show 1 + 0 ≤ 1099511627776 by omega), Bool.false_eq_true, if_false, if_true, List.append_assoc]
    simp [text_put (show value.length ≤ 1099511627776 by omega), text_put (show key.length ≤ 1099511627776 by omega), e3, e4, -Int.ofNat_toNat]
  · have h' := h4 rfl
    subst h'
    simp only [mark, num_put (show 1 + 2 ≤ 1099511627776 by omega), Bool.false_eq_true, if_false, if_true, List.append_assoc, List.nil_append]
    simp [text_put (show key.length ≤ 1099511627776 by omega), e3, e4, -Int.ofNat_toNat]
theorem recs1_B {base : Int} (hB : 0 ≤ base) {hi : Int} (hT : hi ≤ 1099511627776) : ∀ (rs : List Rec) (lo : Int), base ≤ lo → recsErr rs lo hi = 0 → recs1 base rs.length (recsB base rs) = rs
  | [], _, _, _ => rfl
  | r :: rs, lo, hb, h => by
    have h1 : recErr r lo hi = 0 := by
      unfold recsErr at h
      split at h
      · assumption
      · exact h
    have h2 : recsErr rs (r.off + 1) hi = 0 := by
      unfold recsErr at h
      rwa [if_pos h1] at h
    have hk := recErr_ok h1
    have e : recsB base (r :: rs) = recB base r ++ recsB base rs := by simp [recsB]
    have hne : recsB base (r :: rs) ≠ [] := by
      rw [e]
      intro h
      have := recB_pos base r
      have h' := congrArg List.length h
      simp at h'; simp [h'.1] at this
    rw [List.length_cons, recs1, if_neg hne, e, rec1_B h1 hb hB hT, recs1_B hB hT rs (r.off + 1) (by omega) h2]
theorem chk_ok {x : Bat} (h : chk x = 0) : 0 ≤ x.base ∧ x.fin ≤ 1099511627776 ∧ x.base < x.fin ∧ x.recs.length ≤ 50 ∧ x.fin - x.base ≤ 50 ∧ recsErr x.recs x.base x.fin = 0 := by
  unfold chk at h
  split at h
  · omega
  · split at h
    · omega
    · split at h
      · omega
      · exact ⟨by omega, by omega, by omega, by omega, by omega, h⟩
/-- What a valid batch's bytes tell is that batch. -/
theorem bat1_body {x : Bat} (h : chk x = 0) : bat1 (body x) = x := by
  obtain ⟨h1, h2, h3, h4, h5, h6⟩ := chk_ok h
  obtain ⟨base, fin, recs⟩ := x
  simp only at h1 h2 h3 h4 h5 h6
  unfold bat1 body
  simp only [List.append_assoc, num_put (show base.toNat ≤ 1099511627776 by omega), num_put (show (fin - base).toNat ≤ 1099511627776 by omega), num_put (show recs.length ≤ 1099511627776 by omega)]
  have e1 : (base.toNat : Int) = base := by omega
  have e2 : base + ((fin - base).toNat : Int) = fin := by omega
  rw [e1, e2, recs1_B h1 h2 recs base (Int.le_refl _) h6]

/-! ### the document's reading: whether it is bad is told beside -/
def numR (t : List UInt8 × Bool) : Nat × (List UInt8 × Bool) := ((Nu.get t.1).1, (t.1.drop (Nu.get t.1).2, t.2 || (Nu.get t.1).2 == 0))
def textR (most : Nat) (t : List UInt8 × Bool) : List UInt8 × (List UInt8 × Bool) :=
  let a := numR t
  if a.2.2 = true ∨ most < a.1 ∨ a.2.1.length < a.1 then ([], (a.2.1, true)) else (a.2.1.take a.1, (a.2.1.drop a.1, a.2.2))
theorem numR_put {n : Nat} (h : n ≤ 1099511627776) (r : List UInt8) (b : Bool) : numR (Nu.put n ++ r, b) = (n, (r, b)) := by
  unfold numR
  simp only [Nu.get_put h]
  have := Nu.put_pos n
  have h0 : ((Nu.put n).length == 0) = false := by simp; intro h'; rw [h'] at this; simp at this
  rw [h0]; simp
theorem textR_put {most : Nat} {s : List UInt8} (h : s.length ≤ 1099511627776) (hm : s.length ≤ most) (r : List UInt8) : textR most (textB s ++ r, false) = (s, (r, false)) := by
  unfold textR textB
  simp only [List.append_assoc, numR_put h]
  rw [if_neg (by simp; omega)]
  simp
def rec2 (base : Int) (t : List UInt8 × Bool) : Rec × (List UInt8 × Bool) :=
  let a := numR t
  let b := numR a.2
  let c := numR b.2
  let keyed := c.1 % 2 = 1
  let gone := c.1 / 2 = 1
  let t3 := (c.2.1, c.2.2 || decide (3 < c.1))
  let k := if keyed then textR 10000 t3 else ([], t3)
  let v := if gone then ([], k.2) else textR 10000 k.2
  ({ off := base + a.1, time := b.1, keyed := keyed, key := k.1, gone := gone, value := v.1 }, v.2)
def recs2 (base : Int) : Nat → List UInt8 × Bool → List Rec × Bool
  | 0, t => ([], t.2)
  | n + 1, t => if t.2 then ([], true) else ((rec2 base t).1 :: (recs2 base n (rec2 base t).2).1, (recs2 base n (rec2 base t).2).2)
def bat2 (l : List UInt8) : Bat × Bool :=
  let a := numR (l, false)
  let b := numR a.2
  let c := numR b.2
  ({ base := a.1, fin := (a.1 : Int) + b.1, recs := (recs2 a.1 c.1 c.2).1 }, (recs2 a.1 c.1 c.2).2)
theorem rec2_B {base : Int} {r : Rec} {lo hi : Int} (h : recErr r lo hi = 0) (hb : base ≤ lo) (hB : 0 ≤ base) (hT : hi ≤ (1099511627776 : Int)) (l : List UInt8) : rec2 base (recB base r ++ l, false) = (r, (l, false)) := by
  obtain ⟨h1, h2, h3, h4, h5, h6, h7, h8⟩ := recErr_ok h
  obtain ⟨off, time, keyed, key, gone, value⟩ := r
  simp only at h1 h2 h3 h4 h5 h6 h7 h8
  have e1 : (off - base).toNat ≤ 1099511627776 := by omega
  have e2 : time.toNat ≤ 1099511627776 := by omega
  have e3 : base + ((off - base).toNat : Int) = off := by omega
  have e4 : (time.toNat : Int) = time := by omega
  unfold rec2 recB
  simp only [List.append_assoc, numR_put e1, numR_put e2]
  cases keyed <;> cases gone
  · simp only [mark, numR_put (show 0 + 0 ≤ 1099511627776 by omega), Bool.false_eq_true, if_false, List.nil_append]
    have := h3 rfl
    subst this
    simp [textR_put (show value.length ≤ 1099511627776 by omega) (show value.length ≤ 10000 by omega), e3, e4, -Int.ofNat_toNat]
  · have := h3 rfl
    have h' := h4 rfl
    subst this; subst h'
    simp only [mark, numR_put (show 0 + 2 ≤ 1099511627776 by omega), Bool.false_eq_true, if_false, if_true, List.nil_append]
    simp [e3, e4, -Int.ofNat_toNat]
  · simp only [mark, numR_put (show 1 + 0 ≤ 1099511627776 by omega), Bool.false_eq_true, if_false, if_true, List.append_assoc]
    simp [textR_put (show value.length ≤ 1099511627776 by omega) (show value.length ≤ 10000 by omega), textR_put (show key.length ≤ 1099511627776 by omega) (show key.length ≤ 10000 by omega), e3, e4, -Int.ofNat_toNat]
  · have h' := h4 rfl
    subst h'
    simp only [mark, numR_put (show 1 + 2 ≤ 1099511627776 by omega), Bool.false_eq_true, if_false, if_true, List.append_assoc, List.nil_append]
    simp [textR_put (show key.length ≤ 1099511627776 by omega) (show key.length ≤ 10000 by omega), e3, e4, -Int.ofNat_toNat]
theorem recs2_B {base : Int} (hB : 0 ≤ base) {hi : Int} (hT : hi ≤ 1099511627776) : ∀ (rs : List Rec) (lo : Int), base ≤ lo → recsErr rs lo hi = 0 → recs2 base rs.length (recsB base rs, false) = (rs, false)
  | [], _, _, _ => rfl
  | r :: rs, lo, hb, h => by
    have h1 : recErr r lo hi = 0 := by
      unfold recsErr at h
      split at h
      · assumption
      · exact h
    have h2 : recsErr rs (r.off + 1) hi = 0 := by
      unfold recsErr at h
      rwa [if_pos h1] at h
    have hk := recErr_ok h1
    have e : recsB base (r :: rs) = recB base r ++ recsB base rs := by simp [recsB]
    rw [List.length_cons, recs2, if_neg (by simp), e, rec2_B h1 hb hB hT, recs2_B hB hT rs (r.off + 1) (by omega) h2]
theorem bat2_body {x : Bat} (h : chk x = 0) : bat2 (body x) = (x, false) := by
  obtain ⟨h1, h2, h3, h4, h5, h6⟩ := chk_ok h
  obtain ⟨base, fin, recs⟩ := x
  simp only at h1 h2 h3 h4 h5 h6
  unfold bat2 body
  simp only [List.append_assoc, numR_put (show base.toNat ≤ 1099511627776 by omega), numR_put (show (fin - base).toNat ≤ 1099511627776 by omega), numR_put (show recs.length ≤ 1099511627776 by omega)]
  have e1 : (base.toNat : Int) = base := by omega
  have e2 : base + ((fin - base).toNat : Int) = fin := by omega
  rw [e1, e2, recs2_B h1 h2 recs base (Int.le_refl _) h6]

/-! ### whole -/
def fourV (b : List UInt8) : Nat := (b.getD 0 0).toNat * 16777216 + (b.getD 1 0).toNat * 65536 + (b.getD 2 0).toNat * 256 + (b.getD 3 0).toNat
theorem four_len (n : Nat) : (four n).length = 4 := rfl
theorem fourV_four {n : Nat} (h : n < 4294967296) (r : List UInt8) : fourV (four n ++ r) = n := by
  simp [fourV, four]; omega
theorem encB_len (x : Bat) : (encB x).length = (body x).length + 8 := by simp [encB, four_len]; omega
theorem encB_drop (x : Bat) : (encB x).drop 8 = body x := by
  unfold encB
  rw [List.drop_append_of_le_length (by simp [four_len])]
  simp [four_len, four]
/-- The batch at the beginning of bytes. -/
def okAt (b : List UInt8) (x : Bat) : Prop := chk x = 0 ∧ encB x = b.take (fourV b)
theorem okAt_body {b : List UInt8} {x : Bat} (h : okAt b x) : body x = (b.take (fourV b)).drop 8 := by rw [← h.2, encB_drop]
/-- Both readings find the same batch, or none. -/
theorem both (b : List UInt8) : okAt b (bat1 ((b.take (fourV b)).drop 8)) ↔ ((bat2 ((b.take (fourV b)).drop 8)).2 = false ∧ okAt b (bat2 ((b.take (fourV b)).drop 8)).1) := by
  constructor
  · intro h
    have h1 := okAt_body h
    have h2 := bat2_body h.1
    rw [h1] at h2
    rw [h2]
    exact ⟨rfl, h⟩
  · rintro ⟨h0, h⟩
    have h1 := okAt_body h
    have h2 := bat1_body h.1
    rw [h1] at h2
    rw [h2]
    exact h
theorem both_eq {b : List UInt8} (h : okAt b (bat1 ((b.take (fourV b)).drop 8))) : bat2 ((b.take (fourV b)).drop 8) = (bat1 ((b.take (fourV b)).drop 8), false) := by
  have h1 := okAt_body h
  have h2 := bat2_body h.1
  rw [h1] at h2
  exact h2
end Go.Proofs.YtcpjohpbakbggaaDoor.Bt

/- Batches and records in memory: rows of records; how such an argument is opened; how a record is loaded. -/
namespace Go.Proofs.YtcpjohpbakbggaaDoor
open Go.RowKit Go.Maps
set_option linter.unusedSimpArgs false
set_option linter.unusedVariables false
set_option maxRecDepth 100000

/-- A text's value. -/
def strV (s : List UInt8) : Value := .string ⟨s.toArray⟩
/-- A record's cells. -/
def recC (r : Bt.Rec) : List Value := [.int .i64 r.off, .int .i64 r.time, .bool r.keyed, strV r.key, .bool r.gone, strV r.value]
abbrev recV (r : Bt.Rec) : Value := .agg #[.int .i64 r.off, .int .i64 r.time, .bool r.keyed, strV r.key, .bool r.gone, strV r.value]
structure RecOk (r : Bt.Rec) : Prop where
  off1 : -9223372036854775808 ≤ r.off
  off2 : r.off ≤ 9223372036854775807
  time1 : -9223372036854775808 ≤ r.time
  time2 : r.time ≤ 9223372036854775807
  key : r.key.length ≤ 9223372036854775807
  value : r.value.length ≤ 9223372036854775807
/-- A slice of records. -/
def RecsAt (w : World) (v : Value) (rs : List Bt.Rec) : Prop :=
  ∃ a c, v = .slice a rs.length c ∧ rs.length ≤ c ∧ c ≤ maxLen ∧ (a = none → c = 0) ∧ (∀ j (h : j < rs.length), RecOk rs[j] ∧ ∃ p, a = some p ∧ ∀ i u, (recC rs[j])[i]? = some u → w.cell? ((p.add (j * 6)).add i) = some u)
theorem RecsAt.kept {w w' : World} {v : Value} {rs : List Bt.Rec} {S : List Nat} (h : RecsAt w v rs) (ht : Turn S w w') (hn : ∀ k ∈ v.ownBlock, k < w.heap.size → k ∉ S) : RecsAt w' v rs := by
  obtain ⟨a, c, rfl, h1, h2, h3, h4⟩ := h
  refine ⟨a, c, rfl, h1, h2, h3, fun j hj => ?_⟩
  obtain ⟨h5, p, rfl, hc⟩ := h4 j hj
  refine ⟨h5, p, rfl, fun i u hu => ?_⟩
  have hlt := World.block_lt_of_cell? w _ (hc i u hu)
  rw [World.cell?_of_block (w := w) (ht.block _ hlt (by rw [add_block, add_block] at hlt ⊢; exact hn _ (by simp [Value.ownBlock]) hlt)), hc i u hu]
theorem RecsAt.kept' {w w' : World} {v : Value} {rs : List Bt.Rec} {S : List Nat} (h : RecsAt w v rs) (ht : Turn S w w') (hn : rs ≠ [] → ∀ k ∈ v.ownBlock, k ∉ S) : RecsAt w' v rs := by
  by_cases h0 : rs = []
  · subst h0
    obtain ⟨a, c, e, h1, h2, h3, h4⟩ := h
    exact ⟨a, c, e, h1, h2, h3, fun j hj => absurd hj (Nat.not_lt_zero _)⟩
  · exact h.kept ht (fun k hk _ => hn h0 k hk)
theorem RecsAt.lt {w : World} {v : Value} {rs : List Bt.Rec} (h : RecsAt w v rs) (h0 : rs ≠ []) : ∀ k ∈ v.ownBlock, k < w.heap.size := by
  obtain ⟨a, c, rfl, h1, h2, h3, h4⟩ := h
  have hl : 0 < rs.length := List.length_pos_iff.2 h0
  obtain ⟨-, p, rfl, hc⟩ := h4 0 hl
  intro k hk
  simp [Value.ownBlock] at hk
  subst hk
  have := World.block_lt_of_cell? w _ (hc 0 _ rfl)
  rwa [add_block, add_block] at this
theorem RecsAt.still {w w' : World} {v : Value} {rs : List Bt.Rec} (h : RecsAt w v rs) (ht : Turn [] w w') : RecsAt w' v rs := h.kept ht (by simp)
theorem RecsAt.form {w : World} {v : Value} {rs : List Bt.Rec} (h : RecsAt w v rs) : ∃ a c, v = .slice a rs.length c ∧ rs.length ≤ c ∧ c ≤ maxLen ∧ (a = none → c = 0) ∧ ∀ j (hj : j < rs.length), ∃ p, a = some p := by
  obtain ⟨a, c, rfl, h1, h2, h3, h4⟩ := h
  exact ⟨a, c, rfl, h1, h2, h3, fun j hj => ⟨_, (h4 j hj).2.choose_spec.1⟩⟩
theorem RecsAt.ok {w : World} {v : Value} {rs : List Bt.Rec} (h : RecsAt w v rs) {j : Nat} (hj : j < rs.length) : RecOk rs[j] := by
  obtain ⟨a, c, rfl, h1, h2, h3, h4⟩ := h
  exact (h4 j hj).1

theorem size98 (w : World) : (sizeOf 76).run Tryd.prog w = .ok 6 w := by kernel_rfl
theorem agg98 (w : World) : (isAgg 76).run Tryd.prog w = .ok true w := by kernel_rfl
theorem load_rec {w : World} {a : Addr} {r : Bt.Rec} (h : ∀ i u, (recC r)[i]? = some u → w.cell? (a.add i) = some u) : (loadVar 76 a).run Tryd.prog w = .ok (recV r) w := by
  have c0 := h 0 _ rfl
  have c1 := h 1 _ rfl
  have c2 := h 2 _ rfl
  have c3 := h 3 _ rfl
  have c4 := h 4 _ rfl
  have c5 := h 5 _ rfl
  simp [loadVar, agg98, size98, Result.andThen, loadCells, loadCellsFrom, c0, c1, c2, c3, c4, c5]
theorem RecsAt.load {w : World} {p : Addr} {c : Nat} {rs : List Bt.Rec} (h : RecsAt w (.slice (some p) rs.length c) rs) {j : Nat} (hj : j < rs.length) : (loadVar 76 (p.add (j * 6))).run Tryd.prog w = .ok (recV rs[j]) w := by
  obtain ⟨a, c', e, h1, h2, h3, h4⟩ := h
  simp only [Value.slice.injEq] at e
  obtain ⟨rfl, -, rfl⟩ := e
  obtain ⟨-, q, hq, hc⟩ := h4 j hj
  cases hq
  exact load_rec hc

theorem RecsAt.six {w : World} {p : Addr} {c : Nat} {rs : List Bt.Rec} (h : RecsAt w (.slice (some p) rs.length c) rs) {j : Nat} (hj : j < rs.length) :
    w.cell? (p.add (j * 6)) = some (.int .i64 rs[j].off) ∧ w.cell? ⟨(p.add (j * 6)).block, (p.add (j * 6)).off + 1, none⟩ = some (.int .i64 rs[j].time) ∧ w.cell? ⟨(p.add (j * 6)).block, (p.add (j * 6)).off + 2, none⟩ = some (.bool rs[j].keyed) ∧
    w.cell? ⟨(p.add (j * 6)).block, (p.add (j * 6)).off + 3, none⟩ = some (.string ⟨rs[j].key.toArray⟩) ∧ w.cell? ⟨(p.add (j * 6)).block, (p.add (j * 6)).off + 4, none⟩ = some (.bool rs[j].gone) ∧ w.cell? ⟨(p.add (j * 6)).block, (p.add (j * 6)).off + 5, none⟩ = some (.string ⟨rs[j].value.toArray⟩) := by
  obtain ⟨a, c', e, h1, h2, h3, h4⟩ := h
  simp only [Value.slice.injEq] at e
  obtain ⟨rfl, -, rfl⟩ := e
  obtain ⟨-, q, hq, hc⟩ := h4 j hj
  cases hq
  refine ⟨?_, hc 1 _ rfl, hc 2 _ rfl, hc 3 _ rfl, hc 4 _ rfl, hc 5 _ rfl⟩
  have := hc 0 _ rfl
  rwa [add_zero] at this

/-- A batch's value. -/
def BatAt (w : World) (v : Value) (x : Bt.Bat) : Prop :=
  ∃ sv, v = .agg #[.int .i64 x.base, .int .i64 x.fin, sv] ∧ RecsAt w sv x.recs ∧ -9223372036854775808 ≤ x.base ∧ x.base ≤ 9223372036854775807 ∧ -9223372036854775808 ≤ x.fin ∧ x.fin ≤ 9223372036854775807

/-! ### how such an argument is opened -/
theorem wf_i64 {n : Int} (h : (Lit.int .i64 n).wf = true) : -9223372036854775808 ≤ n ∧ n ≤ 9223372036854775807 := by
  simp only [Lit.wf, IntKind.min, IntKind.max, IntKind.signed, IntKind.bits, Bool.and_eq_true, decide_eq_true_eq] at h
  have h1 := h.1
  have h2 := h.2
  simp at h1 h2
  exact ⟨h1, by omega⟩
theorem fields98 : Tryd.prog.underlying 76 = some (.struct (((Tryd.prog.underlying 76).bind fun d => match d with | .struct fs => some fs | _ => none).getD #[])) := by kernel_rfl
theorem fields98_at : ((((Tryd.prog.underlying 76).bind fun d => match d with | .struct fs => some fs | _ => none).getD #[]).toList.map fun f => (f.type, f.offset, Tryd.prog.cellsOf f.type)) = [(3, 0, 1), (3, 1, 1), (4, 2, 1), (9, 3, 1), (4, 4, 1), (9, 5, 1)] := by kernel_rfl
theorem cells98 : Tryd.prog.cellsOf 76 = 6 := by kernel_rfl
variable {H : Type} {enc : TypeId × Value → H} {base : Nat} {spare : Nat → Bool} {held : Bool}
theorem field_at {fs : Array Field} {l : List (Nat × Nat × Nat)} (h : (fs.toList.map fun f => (f.type, f.offset, Tryd.prog.cellsOf f.type)) = l) {i t o k : Nat} (hi : l[i]? = some (t, o, k)) : ∃ f : Field, fs[i]? = some f ∧ f.type = t ∧ f.offset = o ∧ Tryd.prog.cellsOf f.type = k := by
  rw [← h, List.getElem?_map] at hi
  cases hf : fs.toList[i]? with
  | none => rw [hf] at hi; cases hi
  | some f =>
    rw [hf] at hi
    simp only [Option.map_some, Option.some.injEq, Prod.mk.injEq] at hi
    exact ⟨f, by simpa using hf, hi.1, hi.2.1, hi.2.2⟩
theorem list6 {α : Type} {cs : List α} (h : cs.length = 6) : ∃ c0 c1 c2 c3 c4 c5, cs = [c0, c1, c2, c3, c4, c5] := by
  match cs, h with
  | [c0, c1, c2, c3, c4, c5], _ => exact ⟨c0, c1, c2, c3, c4, c5, rfl⟩
theorem open_rec {w : World} {n : Nat} {cs : List Value} {x : DataW H × List MemPlace} (h : DataW.trod enc Tryd.prog w base spare held n 76 cs = some x) : ∃ r, cs = recC r ∧ RecOk r := by
  obtain ⟨xs, m, -, -, hlen, hl, hf⟩ := DataW.trod_struct fields98 h
  rw [cells98] at hlen
  have hfs := fields98_at
  generalize (((Tryd.prog.underlying 76).bind fun d => match d with | .struct fs => some fs | _ => none).getD #[]) = fs at *
  have hxs : xs.length = 6 := by
    rw [hl]
    have := congrArg List.length hfs
    simpa using this
  obtain ⟨c0, c1, c2, c3, c4, c5, rfl⟩ := list6 hlen
  obtain ⟨y0, y1, y2, y3, y4, y5, rfl⟩ := list6 hxs
  have one : ∀ (i t o : Nat) (y : DataW H × List MemPlace), [(3, 0, 1), (3, 1, 1), (4, 2, 1), (9, 3, 1), (4, 4, 1), (9, 5, 1)][i]? = some (t, o, 1) → [y0, y1, y2, y3, y4, y5][i]? = some y →
      DataW.trod enc Tryd.prog w base spare held m t (([c0, c1, c2, c3, c4, c5].drop o).take 1) = some y := by
    intro i t o y hi hy
    obtain ⟨f, h1, h2, h3, h4⟩ := field_at hfs hi
    have := hf i f h1
    rw [h4, h2, h3, hy] at this
    exact this
  obtain ⟨n0, e0, -, w0⟩ := DataW.trod_int Tryd.underlying3 (one 0 _ _ y0 rfl rfl)
  obtain ⟨n1, e1, -, w1⟩ := DataW.trod_int Tryd.underlying3 (one 1 _ _ y1 rfl rfl)
  obtain ⟨b2, e2, -⟩ := DataW.trod_bool Tryd.underlying4 (one 2 _ _ y2 rfl rfl)
  obtain ⟨s3, e3, -, w3⟩ := DataW.trod_string Tryd.underlying9 (one 3 _ _ y3 rfl rfl)
  obtain ⟨b4, e4, -⟩ := DataW.trod_bool Tryd.underlying4 (one 4 _ _ y4 rfl rfl)
  obtain ⟨s5, e5, -, w5⟩ := DataW.trod_string Tryd.underlying9 (one 5 _ _ y5 rfl rfl)
  simp only [List.drop_succ_cons, List.drop_zero, List.take_succ_cons, List.take_zero, List.cons.injEq, and_true] at e0 e1 e2 e3 e4 e5
  subst e0; subst e1; subst e2; subst e3; subst e4; subst e5
  have hm : maxLen = 9223372036854775807 := by simp [maxLen]
  rw [hm] at w3 w5
  refine ⟨⟨n0, n1, b2, s3.data.toList, b4, s5.data.toList⟩, rfl, (wf_i64 w0).1, (wf_i64 w0).2, (wf_i64 w1).1, (wf_i64 w1).2, by simpa using w3, by simpa using w5⟩
/-- A slice of records that came in. -/
theorem open_recs {w : World} {n : Nat} {v : Value} {x : DataW H × List MemPlace} (h : DataW.trod enc Tryd.prog w base spare held n 23 [v] = some x) : ∃ rs, RecsAt w v rs := by
  rcases Deep.open_slice Tryd.underlying23 h with ⟨hcs, -⟩ | ⟨a, len, cap, m, k, D, Pl, hcs, -, h1, h2, h3, -, h4⟩
  · simp only [List.cons.injEq, and_true] at hcs
    subst hcs
    exact ⟨[], none, 0, rfl, Nat.le_refl _, Nat.zero_le _, fun _ => rfl, fun j hj => absurd hj (Nat.not_lt_zero _)⟩
  · simp only [List.cons.injEq, and_true] at hcs
    subst hcs
    have hlm : len ≤ m := by rw [h3]; split <;> omega
    rw [cells98] at h4
    have hr : ∀ i, i < len → ∃ r, RecOk r ∧ ∀ j u, (recC r)[j]? = some u → w.cell? ((a.add (i * 6)).add j) = some u := by
      intro i hi
      obtain ⟨cs', g1, g2⟩ := h4 i (by omega)
      obtain ⟨r, rfl, hok⟩ := open_rec g2
      obtain ⟨-, -, g3⟩ := World.cells?_some g1
      refine ⟨r, hok, fun j u hu => ?_⟩
      have hj : j < 6 := by have := (List.getElem?_eq_some_iff.1 hu).1; simpa [recC] using this
      rw [g3 j hj]; exact hu
    let rs : List Bt.Rec := (List.range len).attach.map fun i => (hr i.1 (List.mem_range.1 i.2)).choose
    have hl : rs.length = len := by simp [rs]
    refine ⟨rs, some a, cap, by rw [hl], by rw [hl]; exact h1, h2, by simp, fun j hj => ?_⟩
    have hj' : j < len := by omega
    have e : rs[j] = (hr j hj').choose := by simp [rs]
    rw [e]
    exact ⟨(hr j hj').choose_spec.1, a, rfl, (hr j hj').choose_spec.2⟩

end Go.Proofs.YtcpjohpbakbggaaDoor

/- record.Get: the number at the beginning of bytes. -/
namespace Go.Proofs.YtcpjohpbakbggaaDoor
open Go.RowKit Go.Maps
set_option maxRecDepth 100000
set_option linter.unusedSimpArgs false
set_option linter.unusedVariables false

theorem ret_two {a b c d : Int} (h : a = b) (k : c = d) : Ending.returned (.tuple #[.int .i64 a, .int .i64 c]) = .returned (.tuple #[.int .i64 b, .int .i64 d]) := by rw [h, k]

theorem i64_or_nat (a b : Nat) (ha : a < 9223372036854775808) (hb : b < 9223372036854775808) (hab : a ||| b < 9223372036854775808) : bits .or .i64 (a : Int) (b : Int) = ((a ||| b : Nat) : Int) := by
  show IntKind.i64.wrap ((BitVec.ofInt 64 (a : Int) ||| BitVec.ofInt 64 (b : Int)).toNat : Int) = _
  rw [BitVec.toNat_or, ofInt_u64 a (by omega), ofInt_u64 b (by omega), IntWalk.i64_left, IntWalk.wrap64_in _ (by omega)]
theorem pow_7 (k : Nat) : (2 : Nat) ^ (7 * k) = 128 ^ k := by rw [Nat.pow_mul]
theorem or_val (bs : List UInt8) (k : Nat) (hk : k < bs.length) (h6 : k < 6) :
    bits .or .i64 (Nu.val (bs.take k) : Int) (wrap64 (wrap64 (bits .and .u8 (bs[k].toNat : Int) 127) * 2 ^ (7 * k))) = ((Nu.val (bs.take (k + 1)) : Nat) : Int) := by
  have hb := bs[k].toNat_lt
  have h1 := u8_and_nat bs[k].toNat 127 (by omega) (by omega)
  rw [nat_mask7] at h1
  have h1' : bits .and .u8 (bs[k].toNat : Int) 127 = ((bs[k].toNat % 128 : Nat) : Int) := h1
  rw [h1', take_snoc bs k hk, Nu.val_snoc]
  have hl : (bs.take k).length = k := by simp; omega
  have hv := Nu.val_lt (bs.take k)
  rw [hl] at hv ⊢
  have hp : 128 ^ k ≤ 128 ^ 5 := Nat.pow_le_pow_right (by omega) (by omega)
  have hp' : 128 ^ k ≤ 34359738368 := hp
  generalize hq : bs[k].toNat % 128 = q at *
  have hq1 : q < 128 := by omega
  have hm : q * 128 ^ k ≤ 127 * 34359738368 := Nat.mul_le_mul (by omega) hp'
  rw [show ((2 : Int) ^ (7 * k)) = ((128 ^ k : Nat) : Int) by rw [← pow_7]; simp]
  generalize Nu.val (bs.take k) = x at *
  rw [IntWalk.wrap64_in (q : Int) (by omega), show ((q : Int) * ((128 ^ k : Nat) : Int)) = ((q * 128 ^ k : Nat) : Int) by simp]
  have hj : q * 128 ^ k ||| x = q * 128 ^ k + x := nat_join (7 * k) _ _ (by rw [pow_7]; exact Nat.mul_mod_left _ _) (by rw [pow_7]; exact hv)
  generalize 128 ^ k = r at *
  generalize q * r = y at *
  rw [IntWalk.wrap64_in _ (by omega), i64_or_nat _ _ (by omega) (by omega) (by rw [Nat.or_comm, hj]; omega), Nat.or_comm, hj]
  omega
theorem drop_cons (bs : List UInt8) (k : Nat) (h : k < bs.length) : bs.drop k = bs[k] :: bs.drop (k + 1) := List.drop_eq_getElem_cons h

set_option maxHeartbeats 1000000 in
theorem get_any (w : World) (v : Value) (bs : List UInt8) (hx : BytesAt w v bs) (hl : bs.length ≤ 9223372036854775807) :
    Calls Tryd.prog 50 #[v] w fun e w' => e = .returned (.tuple #[.int .i64 (Nu.get bs).1, .int .i64 (Nu.get bs).2]) ∧ w = w' := by
  obtain ⟨a, c, rfl, hlc, hcm, hc⟩ := hx.form
  clear hx
  obtain ⟨m, hm⟩ : ∃ m, m = min bs.length 6 := ⟨_, rfl⟩
  have hmin : ∀ ts t w, (Builtin.min_ ts t #[.int .i64 (bs.length : Int), .int .i64 6]).run Tryd.prog w = .ok (.int .i64 (m : Int)) w := by
    intro ts t w
    by_cases h6 : 6 < bs.length
    · have : (6 : Int) < (bs.length : Int) := by omega
      simp [Builtin.min_, Builtin.min2, this]; omega
    · have : ¬ (6 : Int) < (bs.length : Int) := by omega
      simp [Builtin.min_, Builtin.min2, this]; omega
  have hsl := fun w => @run_to a bs.length c m (by omega) w
  have hm6 : m ≤ 6 := by omega
  have hml : m ≤ bs.length := by omega
  have HM : Hid (m = 6 ∨ m = bs.length) := by show _ ∨ _; omega
  clear hm
  go_enter Tryd.func50, Tryd.ntmps50
  go_wp2
  go_loop [2, 12] (fun n i => ∃ k : Nat, k ≤ m ∧ i = .int .i64 k ∧ n = .int .i64 (Nu.val (bs.take k)) ∧ Nu.val (bs.take k) ≤ 1099511627776 ∧ Nu.get bs = Nu.getF (6 - k) (bs.take k) (bs.drop k)) (fun _ i => m - (intOf i).toNat)
  case atStart => exact ⟨0, Nat.zero_le _, rfl, rfl, by simp [Nu.val], rfl⟩
  case round =>
    obtain ⟨k, hk, rfl, rfl, hv, hg⟩ := hrel
    have HG : Hid (Nu.get bs = Nu.getF (6 - k) (bs.take k) (bs.drop k)) := hg
    clear hg
    by_cases hlt : k < m
    · obtain ⟨p, rfl, hcell⟩ := hc k (by omega)
      have hb8 := bs[k].toNat_lt
      clear hc
      have hor := or_val bs k (by omega) (by omega)
      have HS : Hid (Nu.get bs = Nu.getF (5 - k + 1) (bs.take k) (bs[k] :: bs.drop (k + 1))) := by
        show _ = _
        rw [HG.out, drop_cons bs k (by omega), show 6 - k = 5 - k + 1 by omega]
      have HT : Hid (bs.take k ++ [bs[k]] = bs.take (k + 1)) := (take_snoc bs k (by omega)).symm
      have HL : Hid ((bs.take k).length = k) := by show _ = _; simp; omega
      have HN : Hid (bs.take k ≠ [] ↔ 0 < k) := by
        show _ ↔ _
        have := HL.out
        rw [List.ne_nil_iff_length_pos, this]
      by_cases hc8 : 128 ≤ bs[k].toNat
      · have HM2 : Hid (Nu.get bs = Nu.getF (6 - (k + 1)) (bs.take (k + 1)) (bs.drop (k + 1))) := by
          show _ = _
          rw [HS.out, Nu.getF_more hc8, HT.out, show 5 - k = 6 - (k + 1) by omega]
        go_wp2
        · go_ret2
          rename_i hbig _
          have hz := Nu.getF_above (6 - (k + 1)) (bs.take (k + 1)) (bs.drop (k + 1)) (by omega)
          exact ⟨ret_two (by rw [HM2.out, hz]; rfl) (by rw [HM2.out, hz]; rfl), rfl⟩
        · refine ⟨⟨k + 1, by omega, by go_num, rfl, by omega, HM2.out⟩, ?_⟩
          simp only [intOf]; omega
      · have HM2 : Hid (Nu.get bs = if 1099511627776 < Nu.val (bs.take (k + 1)) ∨ (bs.take k ≠ [] ∧ bs[k].toNat = 0) then (0, 0) else (Nu.val (bs.take (k + 1)), k + 1)) := by
          show _ = _
          rw [HS.out, Nu.getF_last (by omega), HT.out, HL.out]
        go_wp2
        all_goals
          go_ret2
          first
            | (have hz : Nu.get bs = (0, 0) := by rw [HM2.out, if_pos (.inl (by omega))]
               exact ⟨ret_two (by rw [hz] <;> rfl) (by rw [hz] <;> rfl), rfl⟩)
            | (have hz : Nu.get bs = (0, 0) := by rw [HM2.out, if_pos (.inr ⟨HN.out.2 (by omega), by omega⟩)]
               exact ⟨ret_two (by rw [hz] <;> rfl) (by rw [hz] <;> rfl), rfl⟩)
            | (have hz : Nu.get bs = (Nu.val (bs.take (k + 1)), k + 1) := by
                 rw [HM2.out, if_neg]
                 rintro (h1 | ⟨h1, h2⟩)
                 · omega
                 · have := HN.out.1 h1; omega
               exact ⟨ret_two (by rw [hz] <;> rfl) (by rw [hz] <;> rfl), rfl⟩)
    · go_wp2
      go_ret2
      have hz : Nu.get bs = (0, 0) := by
        rw [HG.out]
        rcases HM.out with h | h
        · rw [show 6 - k = 0 by omega]; rfl
        · rw [List.drop_of_length_le (by omega)]; exact Nu.getF_none _ _
      exact ⟨ret_two (by rw [hz] <;> rfl) (by rw [hz] <;> rfl), rfl⟩
end Go.Proofs.YtcpjohpbakbggaaDoor

/- A region that draws its order: what has come up has all that it waits for. No program. -/
namespace Go.Proofs.YtcpjohpbakbggaaDoor
open Go.RowKit
set_option linter.unusedSimpArgs false
set_option linter.unusedVariables false

/-- Which operations stand ahead of the last one, by way of others. -/
def coverOf (ops : List Oper) : Nat → Nat → Nat
  | 0, S => S
  | i + 1, S => coverOf ops i (if S.testBit i then ((ops[i]?).map (fun o => o.after.toList)).getD [] |>.foldl (fun T e => if Region.binds .any e then T ||| 2 ^ e.on else T) S else S)
def coverB (ls : List Oper) (o : Oper) : Bool :=
  let S := coverOf (ls ++ [o]) ls.length (o.after.toList.foldl (fun T e => if Region.binds .any e then T ||| 2 ^ e.on else T) 0)
  (List.range ls.length).all fun i => S.testBit i
def plainB (l : List Oper) : Bool := l.all fun o => match o.op with | .defer _ => false | _ => true
def guardsB (l : List Oper) : Bool := l.all fun o => match o.guard with | some (j, _) => decide (j < l.length) | none => true

def Listed (listed : Array Bool) (i : Nat) : Prop := listed[i]? = some true
theorem getD_false (b : Array Bool) (i : Nat) : b.getD i false = true ↔ Listed b i := by
  unfold Listed
  rw [Array.getD_eq_getD_getElem?]
  cases b[i]? with
  | none => simp
  | some x => simp
theorem getD_true (b : Array Bool) (i : Nat) : b.getD i true = false ↔ b[i]? = some false := by
  rw [Array.getD_eq_getD_getElem?]
  cases b[i]? with
  | none => simp
  | some x => simp
theorem fold_bits {listed : Array Bool} : ∀ (es : List Edge) (T : Nat), (∀ j, T.testBit j = true → Listed listed j) → (∀ e ∈ es, Region.binds .any e = true → Listed listed e.on) →
    ∀ j, (es.foldl (fun T e => if Region.binds .any e then T ||| 2 ^ e.on else T) T).testBit j = true → Listed listed j
  | [], T, hT, _, j, hj => hT j hj
  | e :: es, T, hT, he, j, hj => by
    rw [List.foldl_cons] at hj
    refine fold_bits es _ ?_ (fun x hx => he x (by simp [hx])) j hj
    intro k hk
    split at hk
    · rename_i hb
      rw [Nat.testBit_or, Bool.or_eq_true] at hk
      rcases hk with hk | hk
      · exact hT k hk
      · rw [Nat.testBit_two_pow] at hk
        have : e.on = k := by simpa using hk
        rw [← this]; exact he e (by simp) hb
    · exact hT k hk
/-- What is listed has all that it waits for listed. -/
def Down (ops : List Oper) (listed : Array Bool) : Prop := ∀ (i : Nat) (o : Oper), ops[i]? = some o → Listed listed i → ∀ e ∈ o.after.toList, Region.binds .any e = true → Listed listed e.on
theorem cover_sound {ops : List Oper} {listed : Array Bool} (hd : Down ops listed) : ∀ (i S : Nat), (∀ j, S.testBit j = true → Listed listed j) → ∀ j, (coverOf ops i S).testBit j = true → Listed listed j
  | 0, S, hS, j, hj => hS j hj
  | i + 1, S, hS, j, hj => by
    rw [coverOf] at hj
    refine cover_sound hd i _ ?_ j hj
    split
    · rename_i hb
      cases ho : ops[i]? with
      | none => simpa using hS
      | some o => exact fold_bits _ S hS (fun e he hbe => hd i o ho (hS i hb) e (by simpa [ho] using he) hbe)
    · exact hS
theorem all_listed {ls : List Oper} {o : Oper} {listed : Array Bool} (hc : coverB ls o = true) (hd : Down (ls ++ [o]) listed) (ho : ∀ e ∈ o.after.toList, Region.binds .any e = true → Listed listed e.on) : ∀ i, i < ls.length → Listed listed i := by
  intro i hi
  simp only [coverB, List.all_eq_true, List.mem_range] at hc
  exact cover_sound hd _ _ (fun j hj => fold_bits _ 0 (by simp) ho j hj) i (hc i hi)

theorem mem_ready {md : Region.Mode} {ops : Array Oper} {listed : Array Bool} {i : Nat} : i ∈ Region.ready md ops listed ↔ i < ops.size ∧ listed[i]? = some false ∧ ∃ o, ops[i]? = some o ∧ ∀ e ∈ o.after.toList, Region.binds md e = true → Listed listed e.on := by
  unfold Region.ready
  simp only [List.mem_filter, List.mem_range, Bool.and_eq_true, Bool.not_eq_true', getD_true]
  constructor
  · rintro ⟨h1, h2, h3⟩
    refine ⟨h1, h2, ops[i], by simp [h1], fun e he hb => ?_⟩
    simp only [h1, getElem?_pos, Option.map_some, Option.getD_some] at h3
    rw [Array.all_eq_true_iff_forall_mem] at h3
    have := h3 e (by simpa using he)
    rw [hb] at this
    simp only [Bool.not_true, Bool.false_or] at this
    exact (getD_false _ _).1 this
  · rintro ⟨h1, h2, o, ho, h3⟩
    refine ⟨h1, h2, ?_⟩
    rw [ho, Option.map_some, Option.getD_some, Array.all_eq_true_iff_forall_mem]
    intro e he
    cases hb : Region.binds md e
    · rfl
    · rw [(getD_false _ _).2 (h3 e (by simpa using he) hb)]; rfl

theorem plain_of {ls : List Oper} (h : plainB ls = true) {i : Nat} {o : Oper} (ho : ls[i]? = some o) : ∀ c, o.op ≠ .defer c := by
  intro c e
  have := (List.all_eq_true.1 h) o (List.mem_of_getElem? ho)
  rw [e] at this; cases this
theorem yielded_pre {ls : List Oper} {o : Oper} {tmps : Array Value} {j : Nat} (hj : j < ls.length) : yielded (ls ++ [o]).toArray tmps j = yielded ls.toArray tmps j := by
  unfold yielded
  simp [List.getElem?_append_left hj]
theorem wanted_pre {ls : List Oper} {o x : Oper} {tmps : Array Value} (hg : guardsB ls = true) {i : Nat} (hx : ls[i]? = some x) : Region.wanted x (yielded (ls ++ [o]).toArray tmps) = Region.wanted x (yielded ls.toArray tmps) := by
  have := (List.all_eq_true.1 hg) x (List.mem_of_getElem? hx)
  unfold Region.wanted
  cases hgd : x.guard with
  | none => rfl
  | some g =>
    obtain ⟨j, want⟩ := g
    rw [hgd] at this
    simp only [decide_eq_true_eq] at this
    simp only [yielded_pre this]

theorem false_push {b : Array Bool} {i : Nat} (hi : i < b.size) : (b.push false)[i]? = some false ↔ b[i]? = some false := by
  rw [Array.getElem?_push_lt hi, Array.getElem?_eq_getElem hi]
theorem listed_push {b : Array Bool} {i : Nat} : Listed (b.push false) i ↔ Listed b i := by
  unfold Listed
  rw [Array.getElem?_push]
  split
  · rename_i h; subst h; simp
  · rfl
theorem listed_lt {b : Array Bool} {i : Nat} (h : Listed b i) : i < b.size := (Array.getElem?_eq_some_iff.1 h).1
theorem listed_set {b : Array Bool} {i j : Nat} : Listed (b.setIfInBounds i true) j ↔ (Listed b j ∨ (i = j ∧ j < b.size)) := by
  unfold Listed
  rw [Array.getElem?_setIfInBounds]
  by_cases h : i = j
  · subst h
    by_cases h2 : i < b.size
    · simp [h2]
    · simp [h2]
  · simp [h]
theorem down_set {ops : List Oper} {listed : Array Bool} {i : Nat} {o : Oper} (hd : Down ops listed) (ho : ops[i]? = some o) (hr : ∀ e ∈ o.after.toList, Region.binds .any e = true → Listed listed e.on) : Down ops (listed.setIfInBounds i true) := by
  intro j x hx hj e he hb
  by_cases hij : j = i
  · subst hij
    rw [ho] at hx; cases hx
    exact listed_set.2 (.inl (hr e he hb))
  · refine listed_set.2 (.inl (hd j x hx ?_ e he hb))
    rcases listed_set.1 hj with h1 | h1
    · exact h1
    · exact absurd h1.1.symm hij

theorem size_set (b : Array Bool) (i : Nat) : (b.setIfInBounds i true).size = b.size := by simp
theorem push_set {b : Array Bool} {i : Nat} (hi : i < b.size) : (b.push false).setIfInBounds i true = (b.setIfInBounds i true).push false := by
  apply Array.ext_getElem?
  intro k
  rw [Array.getElem?_setIfInBounds, Array.getElem?_push, Array.getElem?_push, Array.getElem?_setIfInBounds]
  by_cases h1 : i = k
  · subst h1
    simp [hi, show i < b.size + 1 by omega, show ¬ i = b.size by omega]
  · simp [h1]

def edgesB (ls : List Oper) : Bool := (List.range ls.length).all fun i => ((ls[i]?).map fun x => x.after.toList.all fun e => !Region.binds .any e || decide (e.on < i)).getD true

end Go.Proofs.YtcpjohpbakbggaaDoor
