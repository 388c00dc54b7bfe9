/- As, Bare, Lgr, Lgx, Lga, Lgd, Cpa, Cpb, Cpc, Cpd, Cpg, Cph, Lgh, Lgi: texts merged. -/
import Derived.Test.YthbhfhagbaommaaGreatDoorProg
import Derived.WalkKit
import Derived.LaidEql
import Derived.Stop.Asserts
import Derived.RowKitTokens
import Derived.Test.YthbhfhagbaommaaGreatDoorM3
import Derived.Below
import Derived.WalkLawsBesides
import Derived.Test.YthbhfhagbaommaaGreatDoorM5
import Derived.Test.YthbhfhagbaommaaGreatDoorM6
import Derived.Test.YthbhfhagbaommaaGreatDoorM1
import Derived.Test.YthbhfhagbaommaaGreatDoorM2
/- errors.As at an Errno target, api.Tell, plain.Bare: what they answer of a bare Errno and of nil. -/
namespace Go.Proofs.YthbhfhagbaommaaGreatDoor.As
open Go.RowKit Go.Extern.Stop Go.Stop Go.Extern
set_option linter.unusedSimpArgs false
set_option linter.unusedVariables false

/-! ### what the model's entries answer at these types -/
theorem valueOfP (t : Addr) (w : World) : (ReflectliteValue.unpack (.iface 117 (.pointer (some t)))).run Tryz.prog w
    = .ok (.agg #[.pointer (some ⟨7, 117, none⟩), .pointer (some ⟨w.heap.size, 0, none⟩), .int .u64 150]) (w.alloc (.cells #[.pointer (some t)] 117)) := by kernel_rfl
theorem typeP (a : Addr) (w : World) : (ReflectliteValue.methodAny (ReflectliteValue.valueError "reflectlite.Value.Type" 0) (fun t _ _ _ => ReflectliteType.toType t) #[.agg #[.pointer (some ⟨7, 117, none⟩), .pointer (some a), .int .u64 150]]).run Tryz.prog w
    = .ok (.iface 176 (.agg #[.pointer (some ⟨7, 117, none⟩)])) w := by kernel_rfl
theorem kindP (w : World) : ((ReflectliteType.abiMethod fun t => (fun a : Nat => Value.int IntKind.u8 (a : Int)) <$> Rtype.kind t) #[.pointer (some ⟨7, 117, none⟩)]).run Tryz.prog w = .ok (.int .u8 22) w := by kernel_rfl
theorem kindE (w : World) : ((ReflectliteType.abiMethod fun t => (fun a : Nat => Value.int IntKind.u8 (a : Int)) <$> Rtype.kind t) #[.pointer (some ⟨7, 56, none⟩)]).run Tryz.prog w = .ok (.int .u8 2) w := by kernel_rfl
theorem rlm (z : Sem Value) (f : TypeId → Addr → Nat → Nat → Sem Value) (v : Value) :
    ReflectliteValue.method z f #[v] = (do match ← ReflectliteValue.parts v with | none => z | some (t, a, fl) => f t a fl (fl % 32)) := rfl
theorem partsP (a : Addr) (w : World) : (ReflectliteValue.parts (.agg #[.pointer (some ⟨7, 117, none⟩), .pointer (some a), .int .u64 150])).run Tryz.prog w = .ok (some (117, a, 150)) w := by kernel_rfl
theorem isNilP (a p : Addr) (W : World) (ha : W.cell? a = some (.pointer (some p))) :
    (ReflectliteValue.method (ReflectliteValue.valueError "reflectlite.Value.IsNil" 0) ReflectliteValue.isNil #[.agg #[.pointer (some ⟨7, 117, none⟩), .pointer (some a), .int .u64 150]]).run Tryz.prog W = .ok (.bool false) W := by
  rw [rlm]
  simp only [Sem.run_bind, partsP, Result.andThen]
  simp [ReflectliteValue.isNil, loadVar, isAgg, underlying, Tryz.underlying117, ha, Result.andThen]
theorem elemP (w : World) : (ReflectliteType.method ReflectliteType.elem #[.agg #[.pointer (some ⟨7, 117, none⟩)]]).run Tryz.prog w = .ok (.iface 176 (.agg #[.pointer (some ⟨7, 56, none⟩)])) w := by kernel_rfl
theorem implementsE (w : World) : (ReflectliteType.relation "Implements" ReflectliteType.implements_ #[.agg #[.pointer (some ⟨7, 56, none⟩)], .iface 176 (.agg #[.pointer (some ⟨7, 26, none⟩)])]).run Tryz.prog w = .ok (.bool true) w := by kernel_rfl
theorem typeOfE (v : Value) (w : World) : (ReflectliteType.typeOf #[.iface 56 v]).run Tryz.prog w = .ok (.iface 176 (.agg #[.pointer (some ⟨7, 56, none⟩)])) w := by kernel_rfl
theorem assignableE (w : World) : (ReflectliteType.relation "AssignableTo" ReflectliteType.assignableTo #[.agg #[.pointer (some ⟨7, 56, none⟩)], .iface 176 (.agg #[.pointer (some ⟨7, 56, none⟩)])]).run Tryz.prog w = .ok (.bool true) w := by kernel_rfl
theorem valueOfE (n : Int) (w : World) : (ReflectliteValue.unpack (.iface 56 (.int .i64 n))).run Tryz.prog w
    = .ok (.agg #[.pointer (some ⟨7, 56, none⟩), .pointer (some ⟨w.heap.size, 0, none⟩), .int .u64 130]) (w.alloc (.cells #[.int .i64 n] 56)) := by kernel_rfl
theorem elemOfP (w : World) : (Rtype.elem? 117).run Tryz.prog w = .ok (some 56) w := by kernel_rfl
theorem mkE (p : Addr) (w : World) : (ReflectliteValue.mk 56 p ReflectliteValue.flagAddr).run Tryz.prog w = .ok (.agg #[.pointer (some ⟨7, 56, none⟩), .pointer (some p), .int .u64 386]) w := by kernel_rfl
theorem elemV (a p : Addr) (W : World) (ha : W.cell? a = some (.pointer (some p))) :
    (ReflectliteValue.method (ReflectliteValue.valueError "reflectlite.Value.Elem" 0) ReflectliteValue.elem #[.agg #[.pointer (some ⟨7, 117, none⟩), .pointer (some a), .int .u64 150]]).run Tryz.prog W
      = .ok (.agg #[.pointer (some ⟨7, 56, none⟩), .pointer (some p), .int .u64 386]) W := by
  rw [rlm]
  simp only [Sem.run_bind, partsP, Result.andThen]
  simp [ReflectliteValue.elem, loadVar, isAgg, underlying, Tryz.underlying117, ha, Result.andThen, elemOfP, mkE]
theorem partsA (a : Addr) (w : World) : (ReflectliteValue.parts (.agg #[.pointer (some ⟨7, 56, none⟩), .pointer (some a), .int .u64 386])).run Tryz.prog w = .ok (some (56, a, 386)) w := by kernel_rfl
theorem partsE (a : Addr) (w : World) : (ReflectliteValue.parts (.agg #[.pointer (some ⟨7, 56, none⟩), .pointer (some a), .int .u64 130])).run Tryz.prog w = .ok (some (56, a, 130)) w := by kernel_rfl
theorem directE (w : World) : (Rtype.directlyAssignable 56 56).run Tryz.prog w = .ok true w := by kernel_rfl
theorem sizeE (w : World) : (sizeOf 56).run Tryz.prog w = .ok 1 w := by kernel_rfl
theorem rls (v x : Value) : ∃ (f1 : Sem Value) (f2 : Sem Value) (g : TypeId → Nat → TypeId → Value → Addr → Sem Value), ReflectliteValue.set #[v, x] = (do
    let (some (dst, a, fl), some (src, b, _)) := (← ReflectliteValue.parts v, ← ReflectliteValue.parts x) | f1
    if fl / ReflectliteValue.flagAddr % 2 == 0 then f2
    else
      let val ← loadVar src b
      if ← Rtype.directlyAssignable dst src then do
        storeVar dst a val
        pure (.tuple #[])
      else g dst fl src val a) := ⟨_, _, _, rfl⟩
theorem setE (ta b : Addr) (n : Int) (old : Value) (W : World) (hb : W.cell? b = some (.int .i64 n)) (ht : W.cell? ta = some old) (hf : W.frozen? ta = false) :
    (ReflectliteValue.set #[.agg #[.pointer (some ⟨7, 56, none⟩), .pointer (some ta), .int .u64 386], .agg #[.pointer (some ⟨7, 56, none⟩), .pointer (some b), .int .u64 130]]).run Tryz.prog W
      = .ok (.tuple #[]) (W.setCell ta (.int .i64 n)) := by
  obtain ⟨f1, f2, g, hs⟩ := rls (.agg #[.pointer (some ⟨7, 56, none⟩), .pointer (some ta), .int .u64 386]) (.agg #[.pointer (some ⟨7, 56, none⟩), .pointer (some b), .int .u64 130])
  rw [hs]
  simp only [Sem.run_bind, partsA, partsE, Result.andThen]
  simp [ReflectliteValue.flagAddr, loadVar, isAgg, underlying, Tryz.underlying56, hb, Result.andThen, directE, storeVar, Value.cells, storeCells, Addr.add]
  rw [run_store Tryz.prog W ta _ _ (by rfl)]
  simp [ht, hf]
theorem methodKind (h : Value) (w : World) : (Go.method 397 176 (.agg #[h]) "Kind").run Tryz.prog w = .ok (228, h) w := by kernel_rfl
theorem methodElem (h : Value) (w : World) : (Go.method 397 176 (.agg #[h]) "Elem").run Tryz.prog w = .ok (238, .agg #[h]) w := by kernel_rfl
theorem methodImplements (h : Value) (w : World) : (Go.method 397 176 (.agg #[h]) "Implements").run Tryz.prog w = .ok (239, .agg #[h]) w := by kernel_rfl
theorem methodAssignableTo (h : Value) (w : World) : (Go.method 397 176 (.agg #[h]) "AssignableTo").run Tryz.prog w = .ok (236, .agg #[h]) w := by kernel_rfl

theorem as_nil (t : Value) (w : World) :
    Calls Tryz.prog 67 #[.nilIface, t] w fun e w' => e = .returned (.bool false) ∧ w' = w := by
  go_enter Tryz.func67, Tryz.ntmps67
  go_wp2
  go_ret
  exact ⟨rfl, rfl⟩

set_option maxRecDepth 100000 in
set_option maxHeartbeats 4000000 in
theorem as_hit (n : Int) (t : Addr) (old : Value) (w : World) (hg : w.cell? ⟨0, 0, none⟩ = some (.iface 176 (.agg #[.pointer (some ⟨7, 26, none⟩)]))) (ht0 : w.cell? t = some old) (hf0 : w.frozen? t = false) :
    Calls Tryz.prog 67 #[.iface 56 (.int .i64 n), .iface 117 (.pointer (some t))] w fun ev w' => ev = .returned (.bool true) ∧ w' = ((((w.alloc (.cells #[.pointer (some t)] 117)).alloc (.cells #[.pointer (some ⟨7, 117, none⟩), .pointer (some ⟨w.heap.size, 0, none⟩), .int .u64 150] 149)).alloc (.cells #[.pointer (some ⟨7, 117, none⟩), .pointer (some ⟨w.heap.size, 0, none⟩), .int .u64 150] 149)).alloc (.cells #[.int .i64 n] 56)).setCell t (.int .i64 n) := by
  have h6 := @run_callFunc_extern Tryz.prog 98 _ (fun args => ReflectliteValue.unpack (args.getD 0 (.tuple #[]))) Tryz.func98 (by kernel_rfl) (by kernel_rfl) (by kernel_rfl) (by kernel_rfl)
  have h7 := @run_callFunc_extern Tryz.prog 99 _ (ReflectliteValue.methodAny (ReflectliteValue.valueError "reflectlite.Value.Type" 0) (fun t _ _ _ => ReflectliteType.toType t)) Tryz.func99 (by kernel_rfl) (by kernel_rfl) (by kernel_rfl) (by kernel_rfl)
  have h8 := @run_callFunc_extern Tryz.prog 100 _ (ReflectliteValue.method (ReflectliteValue.valueError "reflectlite.Value.IsNil" 0) ReflectliteValue.isNil) Tryz.func100 (by kernel_rfl) (by kernel_rfl) (by kernel_rfl) (by kernel_rfl)
  have h27 := @run_callFunc_extern Tryz.prog 228 _ (ReflectliteType.abiMethod fun t => do pure (.int .u8 (← Rtype.kind t))) Tryz.func228 (by kernel_rfl) (by kernel_rfl) (by kernel_rfl) (by kernel_rfl)
  have h37 := @run_callFunc_extern Tryz.prog 238 _ (ReflectliteType.method ReflectliteType.elem) Tryz.func238 (by kernel_rfl) (by kernel_rfl) (by kernel_rfl) (by kernel_rfl)
  have h38 := @run_callFunc_extern Tryz.prog 239 _ (ReflectliteType.relation "Implements" ReflectliteType.implements_) Tryz.func239 (by kernel_rfl) (by kernel_rfl) (by kernel_rfl) (by kernel_rfl)
  have h10 := @run_callFunc_extern Tryz.prog 128 _ ReflectliteType.typeOf Tryz.func128 (by kernel_rfl) (by kernel_rfl) (by kernel_rfl) (by kernel_rfl)
  have h35 := @run_callFunc_extern Tryz.prog 236 _ (ReflectliteType.relation "AssignableTo" ReflectliteType.assignableTo) Tryz.func236 (by kernel_rfl) (by kernel_rfl) (by kernel_rfl) (by kernel_rfl)
  have h11 := @run_callFunc_extern Tryz.prog 129 _ (ReflectliteValue.method (ReflectliteValue.valueError "reflectlite.Value.Elem" 0) ReflectliteValue.elem) Tryz.func129 (by kernel_rfl) (by kernel_rfl) (by kernel_rfl) (by kernel_rfl)
  have h12 := @run_callFunc_extern Tryz.prog 130 _ ReflectliteValue.set Tryz.func130 (by kernel_rfl) (by kernel_rfl) (by kernel_rfl) (by kernel_rfl)
  have tO := typeOfE
  have mA := methodAssignableTo
  have aE := assignableE
  have vE := valueOfE
  have f6 := valueOfP
  have f7 := typeP
  have mK := methodKind
  have mE := methodElem
  have mI := methodImplements
  have kP := kindP
  have kE := kindE
  have eP := elemP
  have iE := implementsE
  have n8 := isNilP ⟨w.heap.size, 0, none⟩ t ((w.alloc (.cells #[.pointer (some t)] 117)).alloc (.cells #[.pointer (some ⟨7, 117, none⟩), .pointer (some ⟨w.heap.size, 0, none⟩), .int .u64 150] 149)) (by simp)
  have hlt : 0 < w.heap.size := by
    rcases Nat.lt_or_ge 0 w.heap.size with h | h
    · exact h
    · simp [World.cell?, Array.getElem?_eq_none h] at hg
  have hg2 : ((w.alloc (.cells #[.pointer (some t)] 117)).alloc (.cells #[.pointer (some ⟨7, 117, none⟩), .pointer (some ⟨w.heap.size, 0, none⟩), .int .u64 150] 149)).cell? ⟨0, 0, none⟩ = some (.iface 176 (.agg #[.pointer (some ⟨7, 26, none⟩)])) := by
    rw [World.cell?_alloc_lt _ _ ⟨0, 0, none⟩ (by rw [World.size_alloc]; show 0 < _; omega), World.cell?_alloc_lt _ _ ⟨0, 0, none⟩ hlt]; exact hg
  have htl : t.block < w.heap.size := by
    rcases Nat.lt_or_ge t.block w.heap.size with h | h
    · exact h
    · simp [World.cell?, Array.getElem?_eq_none h] at ht0
  have el := elemV ⟨w.heap.size, 0, none⟩ t (((w.alloc (.cells #[.pointer (some t)] 117)).alloc (.cells #[.pointer (some ⟨7, 117, none⟩), .pointer (some ⟨w.heap.size, 0, none⟩), .int .u64 150] 149)).alloc (.cells #[.pointer (some ⟨7, 117, none⟩), .pointer (some ⟨w.heap.size, 0, none⟩), .int .u64 150] 149)) (by rw [World.cell?_alloc_lt _ _ ⟨w.heap.size, 0, none⟩ (by simp; omega)]; simp)
  have st := setE t ⟨w.heap.size + 1 + 1 + 1, 0, none⟩ n old ((((w.alloc (.cells #[.pointer (some t)] 117)).alloc (.cells #[.pointer (some ⟨7, 117, none⟩), .pointer (some ⟨w.heap.size, 0, none⟩), .int .u64 150] 149)).alloc (.cells #[.pointer (some ⟨7, 117, none⟩), .pointer (some ⟨w.heap.size, 0, none⟩), .int .u64 150] 149)).alloc (.cells #[.int .i64 n] 56))
    (by rw [World.cell?_alloc_at _ _ _ _ (by simp)]; rfl)
    (by rw [World.cell?_alloc_lt _ _ t (by simp; omega), World.cell?_alloc_lt _ _ t (by simp; omega), World.cell?_alloc_lt _ _ t (by simp; omega), World.cell?_alloc_lt _ _ t htl]; exact ht0)
    (by rw [World.frozen?_alloc_old _ _ t (by simp; omega), World.frozen?_alloc_old _ _ t (by simp; omega), World.frozen?_alloc_old _ _ t (by simp; omega), World.frozen?_alloc_old _ _ t (Nat.ne_of_lt htl)]; exact hf0)
  go_enter Tryz.func67, Tryz.ntmps67
  go_wp2
  refine wp_loop_rounds 1 ?_
  rw [rounds_succ]
  go_wp2
  go_ret
  exact ⟨rfl, rfl⟩
end Go.Proofs.YthbhfhagbaommaaGreatDoor.As

/- api.Tell, plain.Bare, the law's bare: of nil, and of a bare Errno. -/
namespace Go.Proofs.YthbhfhagbaommaaGreatDoor.As
open Go.RowKit Go.Extern.Stop Go.Stop Go.Extern
set_option maxRecDepth 100000
set_option linter.unusedSimpArgs false
set_option linter.unusedVariables false

/-- errors.errorType lies as its own initialiser laid it. -/
def ErrT (w : World) : Prop := w.cell? ⟨0, 0, none⟩ = some (.iface 176 (.agg #[.pointer (some ⟨7, 26, none⟩)]))
theorem ErrT.lt {w : World} (h : ErrT w) : 0 < w.heap.size := by
  rcases Nat.lt_or_ge 0 w.heap.size with h1 | h1
  · exact h1
  · simp [ErrT, World.cell?, Array.getElem?_eq_none h1] at h
theorem ErrT.below {w w' : World} (h : ErrT w) (hb : Below w.heap.size w w') : ErrT w' := by
  have hl := h.lt
  unfold ErrT at *
  rw [hb.cell (p := ⟨0, 0, none⟩) hl]; exact h

theorem tell_nil (w : World) : Calls Tryz.prog 38 #[.nilIface] w fun e w' => e = .returned (.int .i64 0) ∧ w = w' := by
  go_enter Tryz.func38, Tryz.ntmps38
  go_wp2
  go_ret
  exact ⟨rfl, rfl⟩

set_option maxHeartbeats 1000000 in
theorem tell_errno (n : Int) (w : World) (hg : ErrT w) : Calls Tryz.prog 38 #[.iface 56 (.int .i64 n)] w fun e w' => e = .returned (.int .i64 n) ∧ Below w.heap.size w w' := by
  have HG : Hid (ErrT w) := hg
  have hlt := hg.lt
  clear hg
  go_enter Tryz.func38, Tryz.ntmps38
  go_wp2_with fail
  refine (as_hit n ⟨w.heap.size, 0, none⟩ (.int .i64 0) _ (HG.out.below ((Below.refl _ w).alloc (Nat.le_refl _) _)) (by simp) (by simp)).mono ?_
  rintro e w' ⟨rfl, rfl⟩
  go_wp2
  go_ret
  exact ⟨rfl, (((((Below.refl _ w).alloc (Nat.le_refl _) _).alloc (by simp) _).alloc (by simp; omega) _).alloc (by simp; omega) _).alloc (by simp; omega) _⟩

theorem notUnwrap (n : Int) (w : World) : (Instr.typeAssert (.iface 56 (.int .i64 n)) 26 184 true).run Tryz.prog w = .ok (.tuple #[.nilIface, .bool false]) w := run_typeAssert_lacksB Tryz.underlying184 (by kernel_rfl) (by kernel_rfl) _ 26 w
end Go.Proofs.YthbhfhagbaommaaGreatDoor.As

/- roll: all is safe, and a new segment begins at the end; Flush; noting. -/
namespace Go.Proofs.YthbhfhagbaommaaGreatDoor.Lg
open Go.RowKit Go.Maps
set_option maxRecDepth 100000
set_option linter.unusedSimpArgs false
set_option linter.unusedVariables false
attribute [local go_sem] Oper.semAt_some
open Dk (DA DiskAt Parts Did errR errV)
open Sg (SegAt sfoot pls Both Came nextOf flat)

/-- roll, of what a log is whose last segment is m, and whose end is n. -/
def rollS (A : DA) (dir : ByteArray) (v : LV) (n : Nat) (m : Nat × List Bt.Bat) (ss : List (Nat × List Bt.Bat)) : Int × DA × LV × List (Nat × List Bt.Bat) :=
  if (A.sync (Sn.nameB dir m.1).data.toList).1 = 0 then
    ((beginS (A.sync (Sn.nameB dir m.1).data.toList).2 dir n ss).1, (beginS (A.sync (Sn.nameB dir m.1).data.toList).2 dir n ss).2.1, { v with safe := (n : Int) }, (beginS (A.sync (Sn.nameB dir m.1).data.toList).2 dir n ss).2.2)
  else ((A.sync (Sn.nameB dir m.1).data.toList).1, (A.sync (Sn.nameB dir m.1).data.toList).2, v, ss)
theorem LDid.turn {w w' : World} {base d : Nat} {G : List Nat} {A' : DA} {lb : Nat} {dir : ByteArray} {v' : LV} {ss' : List (Nat × List Bt.Bat)} (h : LDid w w' base d G A' lb dir v' ss') : Turn G w w' := by
  obtain ⟨F', gv', ms', hl, hm, ht2, hf⟩ := h; exact ht2
/-- One behind the other. -/
theorem LDid.then {w w1 w' : World} {base d lb : Nat} {F : List Nat} {G : List Nat} {A' : DA} {gv : Value} {dir : ByteArray} {v' : LV} {ms : List SM} {ss' : List (Nat × List Bt.Bat)} (h : LDid w1 w' base d (lfoot F lb gv ms) A' lb dir v' ss') (ht : Turn G w w1) (hf : ∀ k ∈ lfoot F lb gv ms, k ∈ G ∨ w.heap.size ≤ k) : LDid w w' base d G A' lb dir v' ss' := by
  obtain ⟨F', gv', ms', hl, hm, ht2, hf2⟩ := h
  refine ⟨F', gv', ms', hl, hm, ht.trans ht2 hf, fun k hk => ?_⟩
  rcases hf2 k hk with h | h
  · exact hf k h
  · exact .inr (Nat.le_trans ht.size h)
set_option maxHeartbeats 2000000 in
theorem roll_any (w : World) (base d : Nat) (F : List Nat) (A : DA) (lb : Nat) (gv : Value) (dir : ByteArray) (v : LV) (ms0 : List SM) (m : SM) (h : LogAt w base d F A lb gv dir v (ms0 ++ [m])) (hl : ms0.length ≤ 900000) (hx : m.xs.length ≤ 1000000) (hmn : m.n ≤ 1099511627776) (hdir : dir.size ≤ 1000) (n : Nat) (hn : n ≤ 1099511627776) (hnx : nextOf m.n m.xs = n) (hv : ∀ Z, Turn (lfoot F lb gv (ms0 ++ [m])) w Z → Sn.TabT Z) :
    Calls Tryz.prog 52 #[.pointer (some ⟨lb, 0, none⟩)] w fun e w' => e = .returned (errR (rollS A dir v n m.abs ((ms0 ++ [m]).map SM.abs)).1) ∧
      LDid w w' base d (lfoot F lb gv (ms0 ++ [m])) (rollS A dir v n m.abs ((ms0 ++ [m]).map SM.abs)).2.1 lb dir (rollS A dir v n m.abs ((ms0 ++ [m]).map SM.abs)).2.2.1 (rollS A dir v n m.abs ((ms0 ++ [m]).map SM.abs)).2.2.2 := by
  have H := hide h
  have HV := hide hv
  have hsy := sync_any w base d F A lb gv dir v ms0 m h (by omega) hx (Sg.nameB_len hmn hdir)
  rw [hnx] at hsy
  have HNX := hide hnx
  clear h hnx hv
  obtain ⟨c, hc⟩ : ∃ c, c = (A.sync (Sn.nameB dir m.n).data.toList).1 := ⟨_, rfl⟩
  obtain ⟨A2, hA2⟩ : ∃ A2, A2 = (A.sync (Sn.nameB dir m.n).data.toList).2 := ⟨_, rfl⟩
  rw [← hc, ← hA2] at hsy
  have HC := hide hc
  have HA := hide hA2
  clear hc hA2
  go_enter Tryz.func52, Tryz.ntmps52
  go_wp2_with fail
  refine hsy.mono ?_
  rintro e w2 ⟨rfl, hd2⟩
  by_cases hc0 : c = 0
  · have hr0 : errR c = .nilIface := by rw [hc0]; rfl
    have hs : safeIf c v (n : Int) = { v with safe := (n : Int) } := by unfold safeIf; rw [if_pos hc0]
    rw [hs] at hd2
    rw [hr0]
    obtain ⟨F2, gv2, ms2, hl2, hm2, ht2, hf2⟩ := hd2
    rw [List.map_append, List.map_singleton] at hm2
    obtain ⟨ms20, m2, rfl, hm20, hm2a⟩ := split_last hm2
    have hlen : ms20.length = ms0.length := by rw [← List.length_map (f := SM.abs), hm20, List.length_map]
    have e1 : m2.n = m.n := congrArg Prod.fst hm2a
    have e2 : m2.xs = m.xs := congrArg Prod.snd hm2a
    have hen := end_any w2 base d F2 A2 lb gv2 dir _ ms20 m2 hl2 (by omega) (by rw [e2]; exact hx)
    rw [e1, e2, HNX.out] at hen
    have HC0 := hide hc0
    have HEN := hide hen
    have HL2 := hide hl2
    have HM2 := hide hm2
    have HT2 := hide ht2
    have HF2 := hide hf2
    have HLEN := hide hlen
    clear hc0 hr0 hs hl2 hm2 ht2 hf2 hen hm20 hm2a hlen e1 e2 hsy
    go_wp2_with fail
    refine HEN.out.mono ?_
    rintro e w3 ⟨rfl, ht3⟩
    have hb := begin_any w3 base d F2 A2 lb gv2 dir _ (ms20 ++ [m2]) (HL2.out.still ht3) (by rw [List.length_append, List.length_singleton, HLEN.out]; omega) hdir n hn (HV.out w3 (HT2.out.same (ht3.mono (by simp))))
    rw [show (ms20 ++ [m2]).map SM.abs = (ms0 ++ [m]).map SM.abs by rw [List.map_append, List.map_append, List.map_singleton, List.map_singleton, ← HM2.out, List.map_append, List.map_singleton]] at hb
    have HB := hide hb
    have HT3 := hide ht3
    clear hb ht3 HEN
    go_wp2_with fail
    refine HB.out.mono ?_
    rintro e w4 ⟨rfl, hd4⟩
    obtain ⟨r, hr⟩ : ∃ r, r = errR (beginS A2 dir n ((ms0 ++ [m]).map SM.abs)).1 := ⟨_, rfl⟩
    rw [← hr]
    have HR := hide hr
    have HD := hide (hd4.then (HT2.out.same (HT3.out.mono (by simp))) HF2.out)
    clear hr hd4 HB
    go_wp2
    go_ret
    unfold rollS SM.abs
    simp only
    rw [← HC.out, ← HA.out, if_pos HC0.out]
    simp only
    exact ⟨by rw [HR.out]; rfl, HD.out⟩
  · have hr0 : errR c = .iface 56 (.int .i64 c) := by unfold errR; rw [if_neg hc0]; rfl
    have hs : safeIf c v (n : Int) = v := by unfold safeIf; rw [if_neg hc0]
    rw [hs] at hd2
    rw [hr0]
    have HC0 := hide hc0
    have HR0 := hide hr0
    have HD := hide hd2
    clear hc0 hr0 hs hd2 hsy
    go_wp2
    go_ret
    unfold rollS SM.abs
    simp only
    rw [← HC.out, ← HA.out, if_neg HC0.out]
    simp only
    exact ⟨by rw [HR0.out]; rfl, HD.out⟩
end Go.Proofs.YthbhfhagbaommaaGreatDoor.Lg

/- plog.batch: records that stand from an offset on, whatever they tell of their own. -/
namespace Go.Proofs.YthbhfhagbaommaaGreatDoor
open Go.RowKit Go.Maps
set_option maxRecDepth 100000
set_option linter.unusedSimpArgs false
set_option linter.unusedVariables false
attribute [local go_sem] Oper.semAt_some

/-- The first k are numbered. -/
def mix (b : Int) (rs : List Bt.Rec) (k : Nat) : List Bt.Rec := renum b (rs.take k) ++ rs.drop k
theorem mix_zero (b : Int) (rs : List Bt.Rec) : mix b rs 0 = rs := by simp [mix, renum]
theorem mix_all (b : Int) (rs : List Bt.Rec) : mix b rs rs.length = renum b rs := by simp [mix]
theorem mix_len (b : Int) (rs : List Bt.Rec) {k : Nat} (hk : k ≤ rs.length) : (mix b rs k).length = rs.length := by
  unfold mix
  rw [List.length_append, renum_len, List.length_take, List.length_drop]; omega
theorem mix_at (b : Int) (rs : List Bt.Rec) {k : Nat} (hk : k < rs.length) : (mix b rs k)[k]'(by rw [mix_len b rs (by omega)]; exact hk) = rs[k] := by
  have hl : (renum b (rs.take k)).length = k := by rw [renum_len, List.length_take]; omega
  have h : (mix b rs k)[k]? = some rs[k] := by
    unfold mix
    rw [List.getElem?_append_right (by omega), hl, Nat.sub_self, List.getElem?_drop, Nat.add_zero, List.getElem?_eq_getElem hk]
  rw [List.getElem?_eq_getElem (by rw [mix_len b rs (by omega)]; exact hk)] at h
  exact Option.some.inj h
theorem mix_set (b : Int) (rs : List Bt.Rec) {k : Nat} (hk : k < rs.length) : (mix b rs k).set k { rs[k] with off := b + k } = mix b rs (k + 1) := by
  have hl : (renum b (rs.take k)).length = k := by rw [renum_len, List.length_take]; omega
  unfold mix
  rw [List.set_append_right _ _ (by omega), hl, Nat.sub_self, List.drop_eq_getElem_cons hk, List.set_cons_zero, renum_snoc b rs hk, List.append_assoc, List.singleton_append]
set_option maxHeartbeats 4000000 in
theorem lbatch_any (w : World) (b : Int) (v : Value) (rs : List Bt.Rec) (h : RecsAt w v rs) (hb : 0 ≤ b) (hb2 : b ≤ 1099511627776) (hl : rs.length ≤ 1000000) :
    Calls Tryz.prog 23 #[.int .i64 b, v] w fun e w' => ∃ sv, e = .returned (.agg #[.int .i64 b, .int .i64 (b + rs.length), sv]) ∧ GRow 42 6 recC w' w.heap.size sv (renum b rs) ∧ Turn [] w w' := by
  have H := hide h
  clear h
  go_enter Tryz.func23, Tryz.ntmps23
  go_wp2_with fail
  obtain ⟨w0, hw0⟩ : ∃ w0, w0 = w.alloc (.cells #[.int .i64 0, .int .i64 0, .slice none 0 0] 70) := ⟨_, rfl⟩
  have ht0 : Turn [] w w0 := by rw [hw0]; exact (Turn.refl [] w).alloc _
  have hX0 : w0.heap[w.heap.size]? = some (.cells #[.int .i64 0, .int .i64 0, .slice none 0 0] 70 (0, 0)) := by rw [hw0]; exact heap_new w _
  have hs0 : w0.heap.size = w.heap.size + 1 := by rw [hw0, World.size_alloc]
  rw [← hw0]
  refine (clone_rec w0 v rs (H.out.still ht0) hl).mono ?_
  rintro e w1 ⟨sv, rfl, hrow, ht1⟩
  obtain ⟨sa, sc, rfl, hslc, hscm⟩ := hrow.form
  have hX1 := ht1.heap hX0 (by simp)
  have hst : GRow 42 6 recC w1 (w.heap.size + 1) (.slice sa rs.length sc) (mix b rs 0) ∧ w1.heap[w.heap.size]? = some (.cells #[.int .i64 0, .int .i64 0, .slice none 0 0] 70 (0, 0)) ∧ Turn [] w w1 := by
    rw [mix_zero, ← hs0]
    exact ⟨hrow, hX1, ht0.same ht1⟩
  have hmx : maxLen = 9223372036854775807 := by simp [maxLen]
  rw [hmx] at hscm
  have HST := hide hst
  clear hw0 ht0 hX0 hs0 hrow ht1 hX1 hst
  go_wp2
  go_loopw [10] (fun kv wr => ∃ k : Nat, k ≤ rs.length ∧ kv = .int .i64 k ∧ GRow 42 6 recC wr (w.heap.size + 1) (.slice sa rs.length sc) (mix b rs k) ∧ wr.heap[w.heap.size]? = some (.cells #[.int .i64 0, .int .i64 0, .slice none 0 0] 70 (0, 0)) ∧ Turn [] w wr) (fun kv _ => rs.length - (intOf kv).toNat)
  case atStart => exact ⟨0, Nat.zero_le _, rfl, HST.out⟩
  case round =>
    obtain ⟨k, hk, rfl, hrow, hX, htw⟩ := hrel
    have HROW := hide hrow
    have HX := hide hX
    have HTW := hide htw
    clear hrow hX htw
    by_cases hlt : k < rs.length
    · obtain ⟨g, cap, e, hc, hfz⟩ := HROW.out.at recC_len (j := k) (by rw [mix_len b rs hk]; exact hlt)
      rw [mix_len b rs hk] at e
      simp only [Value.slice.injEq, true_and] at e
      obtain ⟨rfl, rfl⟩ := e
      have c0 : wr.cell? ⟨g, k * 6, none⟩ = some (.int .i64 (rs[k]).off) := by
        have := hc 0 (by omega)
        rw [mix_at b rs hlt] at this
        simpa [recC] using this
      have f0 := hfz (k * 6)
      have hg := HROW.out.lt g (by simp [Value.ownBlock])
      have z1 := hg.2
      have hset := HROW.out.set recC_len (j := k) (i := 0) (by rw [mix_len b rs hk]; exact hlt) (by omega) (u := .int .i64 (b + k)) (x' := { rs[k] with off := b + k }) (by rw [mix_at b rs hlt]; rfl)
      rw [mix_set b rs hlt, Nat.add_zero] at hset
      have hts : Turn [g] wr (wr.setCell ⟨g, k * 6, none⟩ (.int .i64 (b + k))) := (Turn.refl _ _).setCell (.inl (by simp)) _
      have hX2 := hts.heap HX.out (by simp; omega)
      have ht2 := HTW.out.trans hts (fun j hj => .inr (by simp at hj; omega))
      have HSET := hide hset
      have HX2 := hide hX2
      have HT2 := hide ht2
      clear hset hts hX2 ht2 hc hfz hg
      go_wp2
      all_goals refine ⟨⟨k + 1, by omega, by go_num, HSET.out, HX2.out, HT2.out⟩, ?_⟩
      all_goals (simp only [intOf]; omega)
    · obtain rfl : k = rs.length := by omega
      have y0 : wr.cell? ⟨w.heap.size, 0, none⟩ = some (.int .i64 0) := by simpa using cell_of HX.out 0
      have y1 : wr.cell? ⟨w.heap.size, 1, none⟩ = some (.int .i64 0) := by simpa using cell_of HX.out 1
      have y2 : wr.cell? ⟨w.heap.size, 2, none⟩ = some (.slice none 0 0) := by simpa using cell_of HX.out 2
      have q0 : wr.frozen? ⟨w.heap.size, 0, none⟩ = false := frozen_of HX.out 0
      have q1 : wr.frozen? ⟨w.heap.size, 1, none⟩ = false := frozen_of HX.out 1
      have q2 : wr.frozen? ⟨w.heap.size, 2, none⟩ = false := frozen_of HX.out 2
      have z1 := lt_of_heap HX.out
      go_wp2
      have hy := heap_set (heap_set (heap_set HX.out 0 (.int .i64 b)) 1 (.int .i64 (b + rs.length))) 2 (.slice sa rs.length sc)
      have ht : Turn [w.heap.size] wr (((wr.setCell ⟨w.heap.size, 0, none⟩ (.int .i64 b)).setCell ⟨w.heap.size, 1, none⟩ (.int .i64 (b + rs.length))).setCell ⟨w.heap.size, 2, none⟩ (.slice sa rs.length sc)) :=
        (((Turn.refl _ _).setCell (.inl (by simp)) _).setCell (.inl (by simp)) _).setCell (.inl (by simp)) _
      have hld := load_bat (by simpa using hy)
      refine bodyPost_ret (v := .agg #[.int .i64 b, .int .i64 (b + rs.length), .slice sa rs.length sc]) (by simp [results, Tryz.results23, asAddr, hld, Result.andThen]) rfl ⟨_, rfl, ?_, HTW.out.trans ht (fun k hk => .inr (by simp at hk; omega))⟩
      rw [← mix_all]
      exact (HROW.out.kept ht (fun k hk hm => by have := (HROW.out.lt k hk).1; simp at hm; omega)).base_le (by omega)
end Go.Proofs.YthbhfhagbaommaaGreatDoor

/- (*plog.Log).add: a batch behind all others, in the last segment or in a new one. -/
namespace Go.Proofs.YthbhfhagbaommaaGreatDoor.Lg
open Go.RowKit Go.Maps
set_option maxRecDepth 100000
set_option linter.unusedSimpArgs false
set_option linter.unusedVariables false
attribute [local go_sem] Oper.semAt_some
open Dk (DA DiskAt Parts Did errR errV)
open Sg (SegAt sfoot pls Both Came nextOf flat)

/-- A batch put into the last segment. -/
def putS (A : DA) (dir : ByteArray) (v : LV) (ss0 : List (Nat × List Bt.Bat)) (m : Nat × List Bt.Bat) (x : Bt.Bat) : Int × DA × LV × List (Nat × List Bt.Bat) :=
  ((A.add (Sn.nameB dir m.1).data.toList (Bt.encB x)).1, (A.add (Sn.nameB dir m.1).data.toList (Bt.encB x)).2, v, ss0 ++ [(m.1, if (A.add (Sn.nameB dir m.1).data.toList (Bt.encB x)).1 = 0 then m.2 ++ [x] else m.2)])
/-- add, of what a log is. -/
def addS (A : DA) (dir : ByteArray) (v : LV) (n : Nat) (ss0 : List (Nat × List Bt.Bat)) (m : Nat × List Bt.Bat) (x : Bt.Bat) : Int × DA × LV × List (Nat × List Bt.Bat) :=
  if Bt.encErr x ≠ 0 then (Bt.encErr x, A, v, ss0 ++ [m])
  else if 0 < (flat m.2).length ∧ v.most < ((flat m.2).length + (Bt.encB x).length : Nat) then
    (if (rollS A dir v n m (ss0 ++ [m])).1 ≠ 0 then rollS A dir v n m (ss0 ++ [m])
     else putS (rollS A dir v n m (ss0 ++ [m])).2.1 dir (rollS A dir v n m (ss0 ++ [m])).2.2.1 (ss0 ++ [m]) (n, []) x)
  else putS A dir v ss0 m x

theorem rollS_ok {A : DA} {dir : ByteArray} {v : LV} {n : Nat} {m : Nat × List Bt.Bat} {ss : List (Nat × List Bt.Bat)} (h : (rollS A dir v n m ss).1 = 0) : (rollS A dir v n m ss).2.2.2 = ss ++ [(n, [])] := by
  unfold rollS at h ⊢
  split at h
  · rename_i h0
    rw [if_pos h0]
    unfold beginS at h ⊢
    simp only at h ⊢
    rw [if_pos h]
  · rename_i h0
    exact absurd h h0

/-- The last segment's Add. -/
theorem seg_add (w : World) (base d : Nat) (F : List Nat) (A : DA) (lb : Nat) (gv : Value) (dir : ByteArray) (v : LV) (ms0 : List SM) (m : SM) (h : LogAt w base d F A lb gv dir v (ms0 ++ [m])) (hmn : m.n ≤ 1099511627776) (hdir : dir.size ≤ 1000) (hfl : (flat m.xs).length ≤ 1048576)
    (va : Value) (x : Bt.Bat) (hx : BatAt w (.agg #[.int .i64 x.base, .int .i64 x.fin, va]) x) (hxe : Bt.encErr x = 0) (hxb : nextOf m.n m.xs ≤ x.base) (hxs : ∀ k ∈ va.ownBlock, k < w.heap.size → k ∉ lfoot F lb gv (ms0 ++ [m])) :
    Calls Tryz.prog 53 #[.pointer (some ⟨m.sb, 0, none⟩), .agg #[.int .i64 x.base, .int .i64 x.fin, va]] w fun e w' => e = .returned (errR (putS A dir v (ms0.map SM.abs) m.abs x).1) ∧
      LDid w w' base d (lfoot F lb gv (ms0 ++ [m])) (putS A dir v (ms0.map SM.abs) m.abs x).2.1 lb dir v (putS A dir v (ms0.map SM.abs) m.abs x).2.2.2 := by
  have hlen := Sg.flat_len m.xs
  refine (Sg.add_any w base d F A m.sb m.sv (Sn.nameB dir m.n) m.n _ (h.both (by simp)) (Sg.nameB_len hmn hdir) (by rw [Sg.pls_len]; omega) (by rw [Sg.sizeP_pls]; omega) va x hx (fun k hk hlt => ⟨fun hm => hxs k hk hlt (mem_lfoot.2 (.inr (.inr (.inr hm)))), fun hm => hxs k hk hlt (mem_lfoot.2 (.inr (.inr (.inl ⟨m, by simp, hm⟩))))⟩)).mono ?_
  rintro e w' (⟨h1, -, -⟩ | ⟨-, h1, -, -⟩ | ⟨-, -, rfl, hc⟩)
  · exact absurd hxe h1
  · rw [Sg.nextP_pls] at h1; omega
  · refine ⟨rfl, ?_⟩
    unfold putS SM.abs
    simp only
    unfold Sg.psIf at hc
    rw [Sg.plOf_pls] at hc
    have hm0 : ms0.map (fun m => (m.n, m.xs)) = ms0.map SM.abs := rfl
    split
    · rename_i h0
      rw [if_pos h0] at hc
      exact h.came hc
    · rename_i h0
      rw [if_neg h0] at hc
      exact h.came hc
set_option maxHeartbeats 4000000 in
theorem ladd_any (w : World) (base d : Nat) (F : List Nat) (A : DA) (lb : Nat) (gv : Value) (dir : ByteArray) (v : LV) (ms0 : List SM) (m : SM) (h : LogAt w base d F A lb gv dir v (ms0 ++ [m])) (hl : ms0.length ≤ 900000) (hmn : m.n ≤ 1099511627776) (hdir : dir.size ≤ 1000) (hfl : (flat m.xs).length ≤ 1048576) (hmo : v.most ≤ 1048576 ∧ 0 ≤ v.most)
    (n : Nat) (hn : n ≤ 1099511627776) (hnx : nextOf m.n m.xs = n) (hv : ∀ Z, Turn (lfoot F lb gv (ms0 ++ [m])) w Z → Sn.TabT Z)
    (va : Option Addr) (vn vc : Nat) (x : Bt.Bat) (hx : BatAt w (.agg #[.int .i64 x.base, .int .i64 x.fin, .slice va vn vc]) x) (hxb : x.base = n) (hxs : ∀ k ∈ (Value.slice va vn vc).ownBlock, k < w.heap.size ∧ k ∉ lfoot F lb gv (ms0 ++ [m])) :
    Calls Tryz.prog 24 #[.pointer (some ⟨lb, 0, none⟩), .agg #[.int .i64 x.base, .int .i64 x.fin, .slice va vn vc]] w fun e w' => e = .returned (errR (addS A dir v n (ms0.map SM.abs) m.abs x).1) ∧
      LDid w w' base d (lfoot F lb gv (ms0 ++ [m])) (addS A dir v n (ms0.map SM.abs) m.abs x).2.1 lb dir (addS A dir v n (ms0.map SM.abs) m.abs x).2.2.1 (addS A dir v n (ms0.map SM.abs) m.abs x).2.2.2 := by
  have hlen := Sg.flat_len m.xs
  have H := hide h
  have HV := hide hv
  have HXS := hide hxs
  have HNX := hide hnx
  have HXB := hide hxb
  have HBX := hide hx
  have hlb := lt_of_heap h.box
  obtain ⟨sv0, hsv0, hr, b1, b2, f1, f2⟩ := hx
  simp only [Value.agg.injEq, Array.mk.injEq, List.cons.injEq, Value.int.injEq, true_and, and_true] at hsv0
  subst hsv0
  have HREC := hide hr
  obtain ⟨z, hz⟩ : ∃ z, z = (flat m.xs).length := ⟨_, rfl⟩
  have hzl : z ≤ 1048576 := by omega
  have HZ := hide hz
  clear h hnx hv hxs hxb hr hz
  go_enter Tryz.func24, Tryz.ntmps24
  go_wp2_with fail
  obtain ⟨w0, hw0⟩ : ∃ w0, w0 = w.alloc (.cells #[.int .i64 x.base, .int .i64 x.fin, .slice va vn vc] 70) := ⟨_, rfl⟩
  have ht0 : Turn [] w w0 := by rw [hw0]; exact (Turn.refl [] w).alloc _
  have hX0 : w0.heap[w.heap.size]? = some (.cells #[.int .i64 x.base, .int .i64 x.fin, .slice va vn vc] 70 (0, 0)) := by rw [hw0]; exact heap_new w _
  have hs0 : w0.heap.size = w.heap.size + 1 := by rw [hw0, World.size_alloc]
  rw [← hw0]
  refine (enc_any w0 _ x ⟨_, rfl, HREC.out.still ht0, b1, b2, f1, f2⟩).mono ?_
  rintro e wa ⟨vb, rfl, hta, hrowa⟩
  have HTA := hide (ht0.same hta)
  have HXA := hide (hta.heap hX0 (by simp))
  have HROWA := hide hrowa
  have HRECA := hide (HREC.out.still (ht0.same hta))
  clear hw0 ht0 hX0 hs0 hta hrowa
  by_cases he : Bt.encErr x = 0
  · have hee : As.errN (Bt.encErr x) = .nilIface := by rw [he]; rfl
    rw [hee]
    have hrow := HROWA.out
    unfold encR at hrow
    rw [if_pos he] at hrow
    obtain ⟨ba, bc, hvb, hblc, hbcm⟩ := hrow.form
    subst hvb
    have hel : (Bt.encB x).length ≤ 6000 := by have := (Bt.encErr_ok he).2; rw [Bt.encB_len]; exact this
    have HXE := hide he
    clear he hee hrow HROWA hblc hbcm
    go_wp2_with fail
    refine (last_any _ base d F A lb gv dir v ms0 m (H.out.still HTA.out) (by omega)).mono ?_
    rintro e wb ⟨rfl, htb⟩
    have HTB := hide (HTA.out.same htb)
    have HXb := hide (htb.heap HXA.out (by simp))
    have HRECB := hide (HRECA.out.still htb)
    clear htb
    go_wp2_with fail
    refine (Sg.size_any _ base d m.sb m.sv _ m.n _ ((H.out.segs m (by simp)).still HTB.out) (by rw [Sg.pls_len]; omega) (by rw [Sg.sizeP_pls]; omega)).mono ?_
    rintro e wc ⟨rfl, htc⟩
    rw [Sg.sizeP_pls, ← HZ.out]
    have HTC := hide (HTB.out.same htc)
    have HXC := hide (htc.heap HXb.out (by simp))
    have HRECC := hide (HRECB.out.still htc)
    have HLC := hide (H.out.still (HTB.out.same htc))
    have c2 := HLC.out.c2
    have hlc := lt_of_heap HLC.out.box
    clear htc
    by_cases hz0 : 0 < (z : Int)
    · by_cases hgt : v.most < (z : Int) + (Bt.encB x).length
      · go_wp2_with fail
        have hro := roll_any wc base d F A lb gv dir v ms0 m HLC.out hl (by omega) hmn hdir n hn HNX.out (fun Z hZ => HV.out Z ((HTC.out.mono (T := lfoot F lb gv (ms0 ++ [m])) (by simp)).same hZ))
        obtain ⟨ss, hss⟩ : ∃ ss, ss = (ms0 ++ [m]).map SM.abs := ⟨_, rfl⟩
        rw [← hss] at hro
        have hss' : ss = ms0.map SM.abs ++ [m.abs] := by rw [hss, List.map_append, List.map_singleton]
        have HSS := hide hss'
        have HRO := hide hro
        have hlt : ∀ k ∈ lfoot F lb gv (ms0 ++ [m]), k < w.heap.size := fun k hk => (H.out.lt k hk).2
        have HLT := hide hlt
        clear hro hss hss' hlt
        go_wp2_with fail
        refine HRO.out.mono ?_
        rintro e wd ⟨rfl, hd⟩
        obtain ⟨c, hc⟩ : ∃ c, c = (rollS A dir v n m.abs ss).1 := ⟨_, rfl⟩
        rw [← hc]
        have HC := hide hc
        by_cases hc0 : c = 0
        · have hr0 : errR c = .nilIface := by rw [hc0]; rfl
          rw [hr0]
          have hok := rollS_ok (A := A) (dir := dir) (v := v) (n := n) (m := m.abs) (ss := ss) (by rw [← hc]; exact hc0)
          obtain ⟨A2, hA2⟩ : ∃ A2, A2 = (rollS A dir v n m.abs ss).2.1 := ⟨_, rfl⟩
          obtain ⟨v2, hv2⟩ : ∃ v2, v2 = (rollS A dir v n m.abs ss).2.2.1 := ⟨_, rfl⟩
          rw [hok, ← hA2, ← hv2] at hd
          obtain ⟨F2, gv2, ms2, hl2, hm2, ht2, hf2⟩ := hd
          obtain ⟨ms20, m2, rfl, hm20, hm2a⟩ := split_last hm2
          have hmn2 : m2.n = n := congrArg Prod.fst hm2a
          have hmx2 : m2.xs = [] := congrArg Prod.snd hm2a
          have hlen2 : ms20.length = ms0.length + 1 := by
            rw [← List.length_map (f := SM.abs), hm20, HSS.out, List.length_append, List.length_map, List.length_singleton]
          have hXd := ht2.heap HXC.out (fun hm => by have := HLT.out _ hm; omega)
          have hRd := HRECC.out.kept ht2 (fun k hk _ => (HXS.out k hk).2)
          have HA2 := hide hA2
          have HV2 := hide hv2
          have HC0 := hide hc0
          have HL2 := hide hl2
          have HMS2 := hide hm20
          have HM2N := hide hmn2
          have HM2X := hide hmx2
          have HTD := hide ht2
          have HF2 := hide hf2
          have HXD := hide hXd
          have HRECD := hide hRd
          clear hc hc0 hr0 hok hA2 hv2 hl2 hm2 hm20 hm2a hmn2 hmx2 ht2 hf2 hXd hRd HRO c2 hlc
          go_wp2_with fail
          refine wp_region_tail 3 (Turn []) (by kernel_rfl) (by kernel_rfl) (by kernel_rfl) (by kernel_rfl) (by kernel_rfl) (Nat.le_of_ble_eq_true rfl) rfl (Turn.refl _) (fun _ _ _ h k => h.same k) ?_
          apply Lo.runx 1 rfl rfl [] (by kernel_rfl) (Turn.refl _)
          apply Exists.intro; apply And.intro
          · intro u w1 hR hF
            clear hF
            refine ⟨rfl, fun a ha K hK => ?_⟩
            have e0 := ha 0
            conv at e0 => rhs; whnf
            clear ha
            go_simp
            refine hK _ ?_; rfl
          refine Lo.run 2 rfl rfl [0] (fun y _ => y = .pointer (some ⟨m2.sb, 0, none⟩)) (by kernel_rfl) (fun x w w' h hR => ?_) (fun _ _ h => h) (fun u w1 hR hF => ?_) ?_
          · exact h
          · obtain ⟨h0, -⟩ := hF
            refine ⟨rfl, fun a ha K hK => ?_⟩
            have e38 := (ha 38).trans h0
            clear ha h0
            go_simp
            refine (last_any _ base d F2 A2 lb gv2 dir v2 ms20 m2 (HL2.out.still (((Turn.refl [] _).drew).same hR)) (by omega)).mono ?_
            rintro e w8 ⟨rfl, ht8⟩
            exact hK _ _ rfl ht8
          refine Lo.runv 3 rfl rfl [] (.agg #[.int .i64 x.base, .int .i64 x.fin, .slice va vn vc]) (by kernel_rfl) (fun u w1 hR hF => ?_) (Turn.refl _) ?_
          · clear hF
            refine ⟨rfl, fun a ha K hK => ?_⟩
            have e3 := ha 3
            conv at e3 => rhs; whnf
            clear ha
            have hb := (((Turn.refl [] _).drew).same hR).heap HXD.out (by simp)
            have k0 : w1.cell? ⟨w.heap.size, 0, none⟩ = some (.int .i64 x.base) := by rw [cell_of hb]; rfl
            have k1 : w1.cell? ⟨w.heap.size, 1, none⟩ = some (.int .i64 x.fin) := by rw [cell_of hb]; rfl
            have k2 : w1.cell? ⟨w.heap.size, 2, none⟩ = some (.slice va vn vc) := by rw [cell_of hb]; rfl
            have z1 := lt_of_heap hb
            go_simp
            refine hK _ ?_
            rfl
          refine Lo.done [1, 2] (fun u w1 hRd hSd hF => ?_)
          clear hSd
          obtain ⟨f1, f2, -⟩ := hF
          have d1 := (show (fun y _ => y = .pointer (some ⟨m2.sb, 0, none⟩)) (u 1) w1 from f1)
          dsimp only at d1
          have d2 : u 2 = _ := f2
          clear f1 f2
          simp only [List.take_succ_cons, List.take_zero, List.drop_succ_cons, List.drop_zero, putFrom, Act.put, List.setIfInBounds_toArray, List.set_cons_succ, List.set_cons_zero, Nat.zero_add, Nat.reduceAdd, d2]
          rw [d1]
          have HTd := hide (((Turn.refl [] wd).drew).same hRd)
          clear d1 d2 hRd
          go_wp2_with fail
          refine (seg_add _ base d F2 A2 lb gv2 dir v2 ms20 m2 (HL2.out.still HTd.out) (by rw [HM2N.out]; exact hn) hdir (by rw [HM2X.out]; simp [flat]) (.slice va vn vc) x ⟨_, rfl, HRECD.out.still HTd.out, b1, b2, f1, f2⟩ HXE.out (by rw [HM2N.out, HM2X.out, HXB.out]; exact Int.le_refl _) (fun k hk hlt hm => by
            rcases HF2.out k hm with h | h
            · exact (HXS.out k hk).2 h
            · have := (HXS.out k hk).1; have := HTC.out.size; omega)).mono ?_
          rintro e w9 ⟨rfl, hd⟩
          obtain ⟨r, hr⟩ : ∃ r, r = errR (putS A2 dir v2 (ms20.map SM.abs) m2.abs x).1 := ⟨_, rfl⟩
          rw [← hr]
          have HR := hide hr
          have HD := hide hd
          clear hr hd
          go_wp2
          go_ret
          unfold addS
          rw [if_neg (by rw [HXE.out]; simp), if_pos (by simp only [SM.abs]; rw [← HZ.out]; constructor <;> omega), ← HSS.out, if_neg (by rw [← HC.out, HC0.out]; simp)]
          have hm2' : m2.abs = (n, []) := by unfold SM.abs; rw [HM2N.out, HM2X.out]
          rw [← HA2.out, ← HV2.out, ← HMS2.out, ← hm2']
          rw [← HR.out]
          exact ⟨rfl, (HD.out.before HTd.out).then ((HTC.out.mono (T := lfoot F lb gv (ms0 ++ [m])) (by simp)).same HTD.out) (fun k hk => (HF2.out k hk).imp_right (fun h => by have := HTC.out.size; omega))⟩
        · have hr0 : errR c = .iface 56 (.int .i64 c) := by unfold errR; rw [if_neg hc0]; rfl
          rw [hr0]
          have HC0 := hide hc0
          have HR0 := hide hr0
          have HD := hide hd
          clear hc hc0 hr0 hd HRO
          go_wp2
          go_ret
          unfold addS
          rw [if_neg (by rw [HXE.out]; simp), if_pos (by simp only [SM.abs]; rw [← HZ.out]; constructor <;> omega), ← HSS.out, if_pos (by rw [← HC.out]; exact HC0.out), ← HC.out, HR0.out]
          exact ⟨rfl, HD.out.before HTC.out⟩
      · go_wp2_with fail
        refine wp_region_tail 3 (Turn []) (by kernel_rfl) (by kernel_rfl) (by kernel_rfl) (by kernel_rfl) (by kernel_rfl) (Nat.le_of_ble_eq_true rfl) rfl (Turn.refl _) (fun _ _ _ h k => h.same k) ?_
        apply Lo.runx 1 rfl rfl [] (by kernel_rfl) (Turn.refl _)
        apply Exists.intro; apply And.intro
        · intro u w1 hR hF
          clear hF
          refine ⟨rfl, fun a ha K hK => ?_⟩
          have e0 := ha 0
          conv at e0 => rhs; whnf
          clear ha
          go_simp
          refine hK _ ?_; rfl
        refine Lo.run 2 rfl rfl [0] (fun y _ => y = .pointer (some ⟨m.sb, 0, none⟩)) (by kernel_rfl) (fun x w w' h hR => ?_) (fun _ _ h => h) (fun u w1 hR hF => ?_) ?_
        · exact h
        · obtain ⟨h0, -⟩ := hF
          refine ⟨rfl, fun a ha K hK => ?_⟩
          have e38 := (ha 38).trans h0
          clear ha h0
          go_simp
          refine (last_any _ base d F A lb gv dir v ms0 m (HLC.out.still (((Turn.refl [] _).drew).same hR)) (by omega)).mono ?_
          rintro e w8 ⟨rfl, ht8⟩
          exact hK _ _ rfl ht8
        refine Lo.runv 3 rfl rfl [] (.agg #[.int .i64 x.base, .int .i64 x.fin, .slice va vn vc]) (by kernel_rfl) (fun u w1 hR hF => ?_) (Turn.refl _) ?_
        · clear hF
          refine ⟨rfl, fun a ha K hK => ?_⟩
          have e3 := ha 3
          conv at e3 => rhs; whnf
          clear ha
          have hb := (((Turn.refl [] _).drew).same hR).heap HXC.out (by simp)
          have k0 : w1.cell? ⟨w.heap.size, 0, none⟩ = some (.int .i64 x.base) := by rw [cell_of hb]; rfl
          have k1 : w1.cell? ⟨w.heap.size, 1, none⟩ = some (.int .i64 x.fin) := by rw [cell_of hb]; rfl
          have k2 : w1.cell? ⟨w.heap.size, 2, none⟩ = some (.slice va vn vc) := by rw [cell_of hb]; rfl
          have z1 := lt_of_heap hb
          go_simp
          refine hK _ ?_
          rfl
        refine Lo.done [1, 2] (fun u w1 hRd hSd hF => ?_)
        clear hSd
        obtain ⟨f1, f2, -⟩ := hF
        have d1 := (show (fun y _ => y = .pointer (some ⟨m.sb, 0, none⟩)) (u 1) w1 from f1)
        dsimp only at d1
        have d2 : u 2 = _ := f2
        clear f1 f2
        simp only [List.take_succ_cons, List.take_zero, List.drop_succ_cons, List.drop_zero, putFrom, Act.put, List.setIfInBounds_toArray, List.set_cons_succ, List.set_cons_zero, Nat.zero_add, Nat.reduceAdd, d2]
        rw [d1]
        have HTd := hide (((Turn.refl [] wc).drew).same hRd)
        clear d1 d2 hRd
        go_wp2_with fail
        refine (seg_add _ base d F A lb gv dir v ms0 m (HLC.out.still HTd.out) hmn hdir hfl (.slice va vn vc) x ⟨_, rfl, HRECC.out.still HTd.out, b1, b2, f1, f2⟩ HXE.out (by rw [HNX.out, HXB.out]; exact Int.le_refl _) (fun k hk hlt hm => (HXS.out k hk).2 hm)).mono ?_
        rintro e w9 ⟨rfl, hd⟩
        obtain ⟨r, hr⟩ : ∃ r, r = errR (putS A dir v (ms0.map SM.abs) m.abs x).1 := ⟨_, rfl⟩
        rw [← hr]
        have HR := hide hr
        have HD := hide hd
        clear hr hd
        go_wp2
        go_ret
        unfold addS
        rw [if_neg (by rw [HXE.out]; simp), if_neg (by simp only [SM.abs]; rw [← HZ.out]; omega)]
        rw [← HR.out]
        exact ⟨rfl, HD.out.before (HTC.out.same HTd.out)⟩
    · have hz00 : z = 0 := by omega
      go_wp2_with fail
      refine wp_region_tail 3 (Turn []) (by kernel_rfl) (by kernel_rfl) (by kernel_rfl) (by kernel_rfl) (by kernel_rfl) (Nat.le_of_ble_eq_true rfl) rfl (Turn.refl _) (fun _ _ _ h k => h.same k) ?_
      apply Lo.runx 1 rfl rfl [] (by kernel_rfl) (Turn.refl _)
      apply Exists.intro; apply And.intro
      · intro u w1 hR hF
        clear hF
        refine ⟨rfl, fun a ha K hK => ?_⟩
        have e0 := ha 0
        conv at e0 => rhs; whnf
        clear ha
        go_simp
        refine hK _ ?_; rfl
      refine Lo.run 2 rfl rfl [0] (fun y _ => y = .pointer (some ⟨m.sb, 0, none⟩)) (by kernel_rfl) (fun x w w' h hR => ?_) (fun _ _ h => h) (fun u w1 hR hF => ?_) ?_
      · exact h
      · obtain ⟨h0, -⟩ := hF
        refine ⟨rfl, fun a ha K hK => ?_⟩
        have e38 := (ha 38).trans h0
        clear ha h0
        go_simp
        refine (last_any _ base d F A lb gv dir v ms0 m (HLC.out.still (((Turn.refl [] _).drew).same hR)) (by omega)).mono ?_
        rintro e w8 ⟨rfl, ht8⟩
        exact hK _ _ rfl ht8
      refine Lo.runv 3 rfl rfl [] (.agg #[.int .i64 x.base, .int .i64 x.fin, .slice va vn vc]) (by kernel_rfl) (fun u w1 hR hF => ?_) (Turn.refl _) ?_
      · clear hF
        refine ⟨rfl, fun a ha K hK => ?_⟩
        have e3 := ha 3
        conv at e3 => rhs; whnf
        clear ha
        have hb := (((Turn.refl [] _).drew).same hR).heap HXC.out (by simp)
        have k0 : w1.cell? ⟨w.heap.size, 0, none⟩ = some (.int .i64 x.base) := by rw [cell_of hb]; rfl
        have k1 : w1.cell? ⟨w.heap.size, 1, none⟩ = some (.int .i64 x.fin) := by rw [cell_of hb]; rfl
        have k2 : w1.cell? ⟨w.heap.size, 2, none⟩ = some (.slice va vn vc) := by rw [cell_of hb]; rfl
        have z1 := lt_of_heap hb
        go_simp
        refine hK _ ?_
        rfl
      refine Lo.done [1, 2] (fun u w1 hRd hSd hF => ?_)
      clear hSd
      obtain ⟨f1, f2, -⟩ := hF
      have d1 := (show (fun y _ => y = .pointer (some ⟨m.sb, 0, none⟩)) (u 1) w1 from f1)
      dsimp only at d1
      have d2 : u 2 = _ := f2
      clear f1 f2
      simp only [List.take_succ_cons, List.take_zero, List.drop_succ_cons, List.drop_zero, putFrom, Act.put, List.setIfInBounds_toArray, List.set_cons_succ, List.set_cons_zero, Nat.zero_add, Nat.reduceAdd, d2]
      rw [d1]
      have HTd := hide (((Turn.refl [] wc).drew).same hRd)
      clear d1 d2 hRd
      go_wp2_with fail
      refine (seg_add _ base d F A lb gv dir v ms0 m (HLC.out.still HTd.out) hmn hdir hfl (.slice va vn vc) x ⟨_, rfl, HRECC.out.still HTd.out, b1, b2, f1, f2⟩ HXE.out (by rw [HNX.out, HXB.out]; exact Int.le_refl _) (fun k hk hlt hm => (HXS.out k hk).2 hm)).mono ?_
      rintro e w9 ⟨rfl, hd⟩
      obtain ⟨r, hr⟩ : ∃ r, r = errR (putS A dir v (ms0.map SM.abs) m.abs x).1 := ⟨_, rfl⟩
      rw [← hr]
      have HR := hide hr
      have HD := hide hd
      clear hr hd
      go_wp2
      go_ret
      unfold addS
      rw [if_neg (by rw [HXE.out]; simp), if_neg (by simp only [SM.abs]; rw [← HZ.out]; omega)]
      rw [← HR.out]
      exact ⟨rfl, HD.out.before (HTC.out.same HTd.out)⟩
  · have hne : As.errN (Bt.encErr x) = .iface 56 (.int .i64 (Bt.encErr x)) := by unfold As.errN; rw [if_neg he]
    rw [hne]
    have HE := hide he
    clear he hne
    go_wp2
    go_ret
    unfold addS
    rw [if_pos HE.out]
    exact ⟨by unfold errR; rw [if_neg HE.out]; rfl, by have := H.out.quiet HTA.out; rw [List.map_append] at this; exact this⟩
end Go.Proofs.YthbhfhagbaommaaGreatDoor.Lg

/- noting; (*plog.Log).Add. -/
namespace Go.Proofs.YthbhfhagbaommaaGreatDoor.Lg
open Go.RowKit Go.Maps
set_option maxRecDepth 100000
set_option linter.unusedSimpArgs false
set_option linter.unusedVariables false
attribute [local go_sem] Oper.semAt_some
open Dk (DA DiskAt Parts Did errR errV)
open Sg (SegAt sfoot pls Both Came nextOf flat)

/-- From an ErrDevice on the log is down. -/
def noteV (c : Int) (v : LV) : LV := if c = 14 then { v with down := true } else v
set_option maxHeartbeats 1000000 in
theorem noting_any (w : World) (base d : Nat) (F : List Nat) (A : DA) (lb : Nat) (gv : Value) (dir : ByteArray) (v : LV) (ms : List SM) (h : LogAt w base d F A lb gv dir v ms) (c : Int) (hg : As.ErrT w) :
    Calls Tryz.prog 25 #[.pointer (some ⟨lb, 0, none⟩), .iface 56 (.int .i64 c)] w fun e w' => e = .returned (.iface 56 (.int .i64 c)) ∧ LDid w w' base d (lfoot F lb gv ms) A lb dir (noteV c v) (ms.map SM.abs) := by
  have H := hide h
  have HG := hide hg
  clear h hg
  by_cases hc : c = 14
  · subst hc
    go_enter Tryz.func25, Tryz.ntmps25
    go_wp2_with fail
    refine (As.tell_errno 14 w HG.out).mono ?_
    rintro e w1 ⟨rfl, hb⟩
    have HT := hide (Turn.of_below hb [])
    have hl1 := H.out.still (Turn.of_below hb [])
    have c6 := hl1.c6
    have f6 := hl1.fr 6
    have hlb := lt_of_heap hl1.box
    have HL1 := hide hl1
    clear hb hl1
    go_wp2
    go_ret
    have e : noteV 14 v = { v with down := true } := by unfold noteV; rw [if_pos rfl]
    rw [e]
    refine ⟨rfl, F, gv, ms, HL1.out.setBox (i := 6) (u := .bool true) (v' := { v with down := true }) rfl, rfl, ?_, fun _ hk => .inl hk⟩
    exact (HT.out.mono (T := lfoot F lb gv ms) (by simp)).setCell (.inl (mem_lfoot.2 (.inl rfl))) _
  · have HC := hide hc
    have hcb : (c == 14) = false := by rw [beq_eq_false_iff_ne]; exact hc
    go_enter Tryz.func25, Tryz.ntmps25
    go_wp2_with fail
    refine (As.tell_errno c w HG.out).mono ?_
    rintro e w1 ⟨rfl, hb⟩
    have HT := hide (Turn.of_below hb [])
    clear hb
    go_wp2
    go_ret
    have e : noteV c v = v := by unfold noteV; rw [if_neg HC.out]
    rw [e]
    exact ⟨rfl, H.out.quiet HT.out⟩

set_option maxHeartbeats 2000000 in
theorem Add_down (w : World) (base d : Nat) (F : List Nat) (A : DA) (lb : Nat) (gv : Value) (dir : ByteArray) (v : LV) (ms : List SM) (h : LogAt w base d F A lb gv dir v ms) (hd : v.down = true) (vr : Value) :
    Calls Tryz.prog 9 #[.pointer (some ⟨lb, 0, none⟩), vr] w fun e w' => e = .returned (.tuple #[.int .i64 0, errV 6]) ∧ w = w' := by
  have c6 := h.c6
  rw [hd] at c6
  have hlb := lt_of_heap h.box
  clear h hd
  go_enter Tryz.func9, Tryz.ntmps9
  go_wp2
  go_ret2
  exact ⟨rfl, rfl⟩
/-- The offset that Add tells. -/
def offS (c : Int) (n : Nat) : Int := if c = 0 then (n : Int) else 0
/-- Add, of what a log is. -/
def AddS (A : DA) (dir : ByteArray) (v : LV) (n : Nat) (ss0 : List (Nat × List Bt.Bat)) (m : Nat × List Bt.Bat) (rs : List Bt.Rec) : Int × DA × LV × List (Nat × List Bt.Bat) :=
  ((addS A dir v n ss0 m (batOf n rs)).1, (addS A dir v n ss0 m (batOf n rs)).2.1, noteV (addS A dir v n ss0 m (batOf n rs)).1 (addS A dir v n ss0 m (batOf n rs)).2.2.1, (addS A dir v n ss0 m (batOf n rs)).2.2.2)
set_option maxHeartbeats 4000000 in
theorem Add_any (w : World) (base d : Nat) (F : List Nat) (A : DA) (lb : Nat) (gv : Value) (dir : ByteArray) (v : LV) (ms0 : List SM) (m : SM) (h : LogAt w base d F A lb gv dir v (ms0 ++ [m])) (hl : ms0.length ≤ 900000) (hmn : m.n ≤ 1099511627776) (hdir : dir.size ≤ 1000) (hfl : (flat m.xs).length ≤ 1048576) (hmo : v.most ≤ 1048576 ∧ 0 ≤ v.most) (hdn : v.down = false)
    (n : Nat) (hn : n ≤ 1099511627776) (hnx : nextOf m.n m.xs = n) (hv : ∀ Z, Turn (lfoot F lb gv (ms0 ++ [m])) w Z → Sn.TabT Z ∧ As.ErrT Z)
    (vr : Value) (rs : List Bt.Rec) (hr : RecsAt w vr rs) (hrl : rs.length ≤ 1000000) :
    Calls Tryz.prog 9 #[.pointer (some ⟨lb, 0, none⟩), vr] w fun e w' =>
      e = .returned (.tuple #[.int .i64 (offS (AddS A dir v n (ms0.map SM.abs) m.abs rs).1 n), errR (AddS A dir v n (ms0.map SM.abs) m.abs rs).1]) ∧
      LDid w w' base d (lfoot F lb gv (ms0 ++ [m])) (AddS A dir v n (ms0.map SM.abs) m.abs rs).2.1 lb dir (AddS A dir v n (ms0.map SM.abs) m.abs rs).2.2.1 (AddS A dir v n (ms0.map SM.abs) m.abs rs).2.2.2 := by
  have hlen := Sg.flat_len m.xs
  have H := hide h
  have HV := hide hv
  have HNX := hide hnx
  have HREC := hide hr
  have c6 := h.c6
  rw [hdn] at c6
  have hlb := lt_of_heap h.box
  have HLT : Hid (∀ k ∈ lfoot F lb gv (ms0 ++ [m]), k < w.heap.size) := fun k hk => (h.lt k hk).2
  clear h hv hnx hr hdn
  go_enter Tryz.func9, Tryz.ntmps9
  go_wp2_with fail
  refine (end_any w base d F A lb gv dir v ms0 m H.out (by omega) (by omega)).mono ?_
  rintro e w1 ⟨rfl, ht1⟩
  rw [HNX.out]
  have HT1 := hide ht1
  clear ht1 c6 hlb
  go_wp2_with fail
  refine (lbatch_any _ (n : Int) vr rs (HREC.out.still HT1.out) (by omega) (by omega) hrl).mono ?_
  rintro e w2 ⟨sv, rfl, hrow, ht2⟩
  obtain ⟨sa, sc, hsv, -, -⟩ := hrow.form
  rw [renum_len] at hsv
  subst hsv
  have HT2 := hide (HT1.out.same ht2)
  have HROW := hide hrow
  have hw1 := HT1.out.size
  clear hrow ht2
  obtain ⟨w3, hw3⟩ : ∃ w3, w3 = w2.alloc (.cells #[.int .i64 (n : Int), .int .i64 ((n : Int) + rs.length), .slice sa rs.length sc] 70) := ⟨_, rfl⟩
  have ht3 : Turn [] w2 w3 := by rw [hw3]; exact (Turn.refl [] w2).alloc _
  have hX3 : w3.heap[w2.heap.size]? = some (.cells #[.int .i64 (n : Int), .int .i64 ((n : Int) + rs.length), .slice sa rs.length sc] 70 (0, 0)) := by rw [hw3]; exact heap_new w2 _
  have hok : ∀ r ∈ renum (n : Int) rs, RecOk r := renum_ok (n : Int) rs (fun r hr => by obtain ⟨j, hj, rfl⟩ := List.mem_iff_getElem.1 hr; exact HREC.out.ok hj) (by omega) (by omega) hrl
  have hrec3 : RecsAt w3 (.slice sa rs.length sc) (renum (n : Int) rs) := RecRow.recs (base := w1.heap.size) (HROW.out.still ht3) hok
  have hown : ∀ k ∈ (Value.slice sa rs.length sc).ownBlock, w1.heap.size ≤ k ∧ k < w3.heap.size := fun k hk => ⟨(HROW.out.lt k hk).1, by have := (HROW.out.lt k hk).2; have := ht3.size; omega⟩
  have hw2 := HT2.out.size
  have hla := ladd_any w3 base d F A lb gv dir v ms0 m (H.out.still (HT2.out.same ht3)) hl hmn hdir hfl hmo n hn HNX.out (fun Z hZ => (HV.out Z (((HT2.out.same ht3).mono (T := lfoot F lb gv (ms0 ++ [m])) (by simp)).same hZ)).1)
    sa rs.length sc (batOf n rs) ⟨_, rfl, hrec3, by show _ ≤ (n : Int); omega, by show (n : Int) ≤ _; omega, by show _ ≤ (n : Int) + _; omega, by show (n : Int) + _ ≤ _; omega⟩ rfl (fun k hk => ⟨(hown k hk).2, fun hm => by have := (hown k hk).1; have := HLT.out k hm; omega⟩)
  have HT3 := hide (HT2.out.same ht3)
  have HX3 := hide hX3
  have HLA := hide hla
  clear ht3 hX3 hok hrec3 hown hla
  go_wp2_with fail
  rw [← hw3]
  clear hw3
  obtain ⟨c, hc⟩ : ∃ c, c = (addS A dir v n (ms0.map SM.abs) m.abs (batOf n rs)).1 := ⟨_, rfl⟩
  refine HLA.out.mono ?_
  rintro e w4 ⟨rfl, hd⟩
  rw [← hc]
  obtain ⟨F4, gv4, ms4, hl4, hm4, ht4, hf4⟩ := hd.before HT3.out
  have hX4 := hd.turn.heap HX3.out (fun hm => by have := HLT.out _ hm; omega)
  have HC := hide hc
  have HL4 := hide hl4
  have HM4 := hide hm4
  have HT4 := hide ht4
  have HF4 := hide hf4
  have HX4 := hide hX4
  by_cases hc0 : c = 0
  · have hr0 : errR c = .nilIface := by rw [hc0]; rfl
    rw [hr0]
    have k0 : w4.cell? ⟨w2.heap.size, 0, none⟩ = some (.int .i64 (n : Int)) := by rw [cell_of hX4]; rfl
    have z4 := lt_of_heap hX4
    have HC0 := hide hc0
    clear hc hc0 hr0 hl4 hm4 ht4 hf4 hX4 hd HLA
    go_wp2
    go_ret2
    unfold AddS
    simp only
    have ho : offS c n = (n : Int) := by unfold offS; rw [if_pos HC0.out]
    rw [← HC.out, ho, HC0.out]
    refine ⟨rfl, F4, gv4, ms4, ?_, HM4.out, HT4.out, HF4.out⟩
    unfold noteV
    rw [if_neg (by omega)]
    exact HL4.out
  · have hr0 : errR c = .iface 56 (.int .i64 c) := by unfold errR; rw [if_neg hc0]; rfl
    rw [hr0]
    have hno := noting_any w4 base d F4 _ lb gv4 dir _ ms4 hl4 c (HV.out w4 ht4).2
    have HNO := hide hno
    have HC0 := hide hc0
    have HR0 := hide hr0
    clear hc hc0 hr0 hl4 hm4 ht4 hf4 hX4 hd HLA hno
    go_wp2_with fail
    refine HNO.out.mono ?_
    rintro e w5 ⟨rfl, hd5⟩
    rw [HM4.out] at hd5
    have HD5 := hide (hd5.then HT4.out HF4.out)
    clear hd5 HNO
    go_wp2
    go_ret2
    unfold AddS
    simp only
    have ho : offS c n = 0 := by unfold offS; rw [if_neg HC0.out]
    rw [← HC.out, ho, HR0.out]
    exact ⟨rfl, HD5.out⟩
end Go.Proofs.YthbhfhagbaommaaGreatDoor.Lg

/- What Compact calls: noting of no error, Flush, whole. -/
namespace Go.Proofs.YthbhfhagbaommaaGreatDoor.Lg
open Go.RowKit Go.Maps
set_option maxRecDepth 100000
set_option linter.unusedSimpArgs false
set_option linter.unusedVariables false
attribute [local go_sem] Oper.semAt_some
open Dk (DA DiskAt Parts Did errR errV)
open Sg (SegAt sfoot pls Both Came nextOf flat Chain BRowS BV Least Sel finAbove)

theorem noting_nil (w : World) (lb : Nat) : Calls Tryz.prog 25 #[.pointer (some ⟨lb, 0, none⟩), .nilIface] w fun e w' => e = .returned .nilIface ∧ w = w' := by
  go_enter Tryz.func25, Tryz.ntmps25
  go_wp2_with fail
  refine (As.tell_nil w).mono ?_
  rintro e w1 ⟨rfl, rfl⟩
  go_wp2
  go_ret
  exact ⟨rfl, rfl⟩
/-- Flush, of what a log is. -/
def FlushS (A : DA) (dir : ByteArray) (v : LV) (m : Nat × List Bt.Bat) : Int × DA × LV :=
  ((A.sync (Sn.nameB dir m.1).data.toList).1, (A.sync (Sn.nameB dir m.1).data.toList).2, noteV (A.sync (Sn.nameB dir m.1).data.toList).1 (safeIf (A.sync (Sn.nameB dir m.1).data.toList).1 v (nextOf m.1 m.2)))
set_option maxHeartbeats 1000000 in
theorem Flush_any (w : World) (base d : Nat) (F : List Nat) (A : DA) (lb : Nat) (gv : Value) (dir : ByteArray) (v : LV) (ms0 : List SM) (m : SM) (h : LogAt w base d F A lb gv dir v (ms0 ++ [m])) (hl : ms0.length ≤ 1000000) (hx : m.xs.length ≤ 1000000) (hfs : (Sn.nameB dir m.n).size ≤ maxLen) (hd : v.down = false)
    (hg : ∀ Z, Turn (lfoot F lb gv (ms0 ++ [m])) w Z → As.ErrT Z) :
    Calls Tryz.prog 27 #[.pointer (some ⟨lb, 0, none⟩)] w fun e w' => e = .returned (errR (FlushS A dir v m.abs).1) ∧
      LDid w w' base d (lfoot F lb gv (ms0 ++ [m])) (FlushS A dir v m.abs).2.1 lb dir (FlushS A dir v m.abs).2.2 ((ms0 ++ [m]).map SM.abs) := by
  have hs := sync_any w base d F A lb gv dir v ms0 m h hl hx hfs
  have c6 := h.c6
  rw [hd] at c6
  have hlb := lt_of_heap h.box
  have HG := hide hg
  unfold FlushS
  rw [show m.abs.1 = m.n from rfl, show m.abs.2 = m.xs from rfl]
  obtain ⟨c, hc⟩ : ∃ c, c = (A.sync (Sn.nameB dir m.n).data.toList).1 := ⟨_, rfl⟩
  rw [← hc] at hs ⊢
  have HS := hide hs
  clear hs hc h hg hd
  by_cases h0 : c = 0
  · subst h0
    rw [show errR 0 = .nilIface from rfl] at HS ⊢
    go_enter Tryz.func27, Tryz.ntmps27
    go_wp2_with fail
    refine HS.out.mono ?_
    rintro e w1 ⟨rfl, hd1⟩
    have HD1 := hide hd1
    clear hd1 HS
    go_wp2_with fail
    refine (noting_nil w1 lb).mono ?_
    rintro e w2 ⟨rfl, rfl⟩
    go_wp2
    go_ret
    have e : ∀ v : LV, noteV 0 v = v := fun v => by unfold noteV; rw [if_neg (by omega)]
    rw [e]
    exact ⟨rfl, HD1.out⟩
  · have hr : errR c = .iface 56 (.int .i64 c) := by unfold errR; rw [if_neg h0]; rfl
    rw [hr] at HS ⊢
    clear hr
    go_enter Tryz.func27, Tryz.ntmps27
    go_wp2_with fail
    refine HS.out.mono ?_
    rintro e w1 ⟨rfl, F1, gv1, ms1, hl1, hm1, ht1, hf1⟩
    have hn := noting_any w1 base d F1 _ lb gv1 dir _ ms1 hl1 c (HG.out w1 ht1)
    have HN := hide hn
    have HM1 := hide hm1
    have HT1 := hide ht1
    have HF1 := hide hf1
    clear hn hl1 hm1 ht1 hf1 HS
    go_wp2_with fail
    refine HN.out.mono ?_
    rintro e w2 ⟨rfl, F2, gv2, ms2, hl2, hm2, ht2, hf2⟩
    have hd : LDid w w2 base d (lfoot F lb gv (ms0 ++ [m])) (A.sync (Sn.nameB dir m.n).data.toList).2 lb dir (noteV c (safeIf c v (nextOf (m.n : Int) m.xs))) ((ms0 ++ [m]).map SM.abs) :=
      ⟨F2, gv2, ms2, hl2, hm2.trans HM1.out, HT1.out.trans ht2 (fun k hk => HF1.out k hk), fun k hk => by
        rcases hf2 k hk with h | h
        · exact HF1.out k h
        · exact .inr (Nat.le_trans HT1.out.size h)⟩
    have HD := hide hd
    clear hd hl2 hm2 ht2 hf2 HN
    go_wp2
    go_ret
    exact ⟨rfl, HD.out⟩
/-- A read of all there is. -/
theorem read_all {zs : List Bt.Bat} {b : Int} (hc : Chain b zs) {most : Int} (hm : ((flat zs).length : Int) ≤ most) {m k : Nat} (hl : Least zs.length (finAbove zs b) m) (hs : Sel most (zs.drop m) k) : (zs.drop m).take k = zs := by
  have hm0 : m = 0 := by
    obtain ⟨h1, h2, -⟩ := hl
    rcases Nat.eq_zero_or_pos m with h | h
    · exact h
    · have h3 := h2 0 h
      unfold finAbove at h3
      rw [List.getElem?_eq_getElem (by omega)] at h3
      have h4 := Sg.chain_fin hc zs[0] (List.getElem_mem _)
      simp at h3
      omega
  subst hm0
  rw [List.drop_zero] at hs ⊢
  obtain ⟨h1, -, h3⟩ := hs
  rcases Nat.lt_or_ge k zs.length with h | h
  · obtain ⟨-, h4⟩ := h3 h
    have h5 := congrArg List.length (Sg.take_flat zs (k + 1))
    rw [List.length_take] at h5
    omega
  · exact List.take_of_length_le h
set_option maxHeartbeats 1000000 in
theorem whole_any (w : World) (base d : Nat) (F : List Nat) (A : DA) (sb : Nat) (sv : Value) (file : ByteArray) (n : Nat) (xs : List Bt.Bat) (h : Both w base d F A sb sv file n (pls 0 (-1) xs)) (hfs : file.size ≤ maxLen) (f : Dk.FA) (hf : A.file file.data.toList = some f) (hfb : f.bytes = flat xs) (hch : Chain n xs) :
    Calls Tryz.prog 54 #[.pointer (some ⟨sb, 0, none⟩)] w fun e w' => ∃ lv ys, e = .returned (.tuple #[lv, .nilIface]) ∧ BRowS w' w.heap.size lv ys ∧ ys.map (·.x) = xs ∧ Turn [] w w' := by
  have hfl := Sg.flat_len xs
  have hfsh := Sg.file_short h.disk hf
  rw [hfb] at hfsh
  have hb0 := Sg.baseOf_any w base d sb sv file n _ h.seg
  have hsz := Sg.size_any w base d sb sv file n _ h.seg (by rw [Sg.pls_len]; omega) (by rw [Sg.sizeP_pls]; omega)
  rw [Sg.sizeP_pls] at hsz
  have hrd := fun (Z : World) (hZ : Turn [] w Z) => Sg.read_own Z base d F A sb sv file n xs (h.still hZ) hfs f hf hfb hch (n : Int) ((flat xs).length : Int) (by omega)
  have HB0 := hide hb0
  have HSZ := hide hsz
  have HRD := hide hrd
  have HCH := hide hch
  clear h hf hfb hch hb0 hsz hrd
  go_enter Tryz.func54, Tryz.ntmps54
  go_wp2_with fail
  refine HB0.out.mono ?_
  rintro e w1 ⟨rfl, rfl⟩
  go_wp2_with fail
  refine HSZ.out.mono ?_
  rintro e w2 ⟨rfl, ht2⟩
  have HT2 := hide ht2
  clear ht2
  go_wp2_with fail
  refine (HRD.out w2 HT2.out).mono ?_
  rintro e w3 ⟨lv, ys, m, k, rfl, hle, hbr, hym, hse, ht3⟩
  have hys : ys.map (·.x) = xs := hym.trans (read_all HCH.out (Int.le_refl _) hle hse)
  have hbr2 : BRowS w3 w.heap.size lv ys := ⟨hbr.row.base_le HT2.out.size, fun y hy => (hbr.recs y hy).base_le HT2.out.size, hbr.ok, hbr.apart⟩
  have HYS := hide hys
  have HBR := hide hbr2
  have HT3 := hide (HT2.out.same ht3)
  clear hle hbr hym hse ht3 hys hbr2 HRD HSZ HB0
  go_wp2
  go_ret2
  exact ⟨lv, ys, rfl, HBR.out, HYS.out, HT3.out⟩
end Go.Proofs.YthbhfhagbaommaaGreatDoor.Lg

/- A map from texts to numbers that a call makes; Compact's closure. -/
namespace Go.Proofs.YthbhfhagbaommaaGreatDoor.Lg
open Go.RowKit Go.Maps
set_option maxRecDepth 100000
set_option linter.unusedSimpArgs false
set_option linter.unusedVariables false
attribute [local go_sem] Oper.semAt_some
open Dk (DA DiskAt Parts Did errR errV)

/-- A block is a map from texts to numbers (0 where there is none) of at most so many entries. -/
def IMap (w : World) (mb n : Nat) (f : List UInt8 → Int) : Prop :=
  ∃ D : DataW Unit, w.ownsMap Tryz.prog 9 (plainElem Tryz.prog 3) mb n D ∧ ∀ nm, D.atKey (.string nm) (.lit (.int .i64 0)) = .lit (.int .i64 (f nm))
theorem zeroI (w : World) : (zeroValue 3).run Tryz.prog w = .ok (.int .i64 0) w := by kernel_rfl
theorem IMap.kept {w w' : World} {mb n : Nat} {f : List UInt8 → Int} {S : List Nat} (h : IMap w mb n f) (ht : Turn S w w') (hn : mb ∉ S) : IMap w' mb n f := by
  obtain ⟨D, h1, h2⟩ := h
  exact ⟨D, Dk.ownsMap_turn h1 ht hn, h2⟩
theorem IMap.still {w w' : World} {mb n : Nat} {f : List UInt8 → Int} (h : IMap w mb n f) (ht : Turn [] w w') : IMap w' mb n f := h.kept ht (by simp)
theorem IMap.made (w : World) : IMap (w.alloc (.map #[] 0)) w.heap.size 0 (fun _ => 0) :=
  ⟨.map [], World.ownsMap_made _ _ _ _, fun nm => rfl⟩
theorem IMap.look {w : World} {mb n : Nat} {f : List UInt8 → Int} (h : IMap w mb n f) {s : ByteArray} (hs : s.size ≤ maxLen) : (Instr.lookup 39 (.map (some mb)) (.string s) false).run Tryz.prog w = .ok (.int .i64 (f s.data.toList)) w := by
  obtain ⟨D, h1, h2⟩ := h
  obtain ⟨c, hrun, hat, -⟩ := h1.lookup_int Dk.law Tryz.underlying39 Tryz.underlying3 (zeroI w) (Dk.keyS hs)
  have e := (h2 s.data.toList).symm.trans hat
  simp only [DataW.lit.injEq, Lit.int.injEq, true_and] at e
  rw [hrun, e]
theorem IMap.put {w : World} {mb n : Nat} {f : List UInt8 → Int} (h : IMap w mb n f) (hn : n < maxLen) {s : ByteArray} (hs : s.size ≤ maxLen) {v : Int} (hv : (Lit.int .i64 v).wf = true) :
    ∃ w', (Instr.mapUpdate 39 (.map (some mb)) (.string s) (.int .i64 v)).run Tryz.prog w = .ok () w' ∧ IMap w' mb (n + 1) (fun x => if x = s.data.toList then v else f x) ∧ Turn [mb] w w' := by
  obtain ⟨D, h1, h2⟩ := h
  obtain ⟨w', hrun, ho, hg⟩ := h1.update Dk.law Tryz.underlying39 hn (Dk.keyS hs) (plainElem_int Tryz.underlying3 hv)
  refine ⟨w', hrun, ⟨_, ho, fun nm => ?_⟩, (Turn.refl _ _).grown hg (by intro k hk; cases hk; exact .inl (by simp))⟩
  show _ = DataW.lit (Lit.int .i64 (if nm = s.data.toList then v else f nm))
  by_cases e : nm = s.data.toList
  · subst e
    rw [if_pos rfl]
    exact atKey_put_same h1.isMap (Dk.isKey _) _ _
  · rw [if_neg e, atKey_put_other (Dk.lit_ne e)]
    exact h2 nm

/-- What the boxes of Compact's closure hold. -/
structure CBox (w : World) (B0 B1 B2 mb n : Nat) (f : List UInt8 → Int) (now age : Int) : Prop where
  b0 : w.heap[B0]? = some (.cells #[.map (some mb)] 39 (0, 0))
  b1 : w.heap[B1]? = some (.cells #[.int .i64 now] 3 (0, 0))
  b2 : w.heap[B2]? = some (.cells #[.int .i64 age] 3 (0, 0))
  map : IMap w mb n f
theorem CBox.still {w w' : World} {B0 B1 B2 mb n : Nat} {f : List UInt8 → Int} {now age : Int} (h : CBox w B0 B1 B2 mb n f now age) (ht : Turn [] w w') : CBox w' B0 B1 B2 mb n f now age :=
  ⟨ht.heap h.b0 (by simp), ht.heap h.b1 (by simp), ht.heap h.b2 (by simp), h.map.still ht⟩
theorem CBox.cells {w : World} {B0 B1 B2 mb n : Nat} {f : List UInt8 → Int} {now age : Int} (h : CBox w B0 B1 B2 mb n f now age) : w.cell? ⟨B0, 0, none⟩ = some (.map (some mb)) ∧ w.cell? ⟨B1, 0, none⟩ = some (.int .i64 now) ∧ w.cell? ⟨B2, 0, none⟩ = some (.int .i64 age) :=
  ⟨by rw [cell_of h.b0]; rfl, by rw [cell_of h.b1]; rfl, by rw [cell_of h.b2]; rfl⟩
/-- Whether a record goes. -/
def goesC (f : List UInt8 → Int) (now age : Int) (r : Bt.Rec) : Bool := r.keyed && (decide (r.off < f r.key) || (r.gone && decide (r.time < wrap64 (now - age))))
set_option maxHeartbeats 1000000 in
theorem goesC_any (w : World) (B0 B1 B2 mb n : Nat) (f : List UInt8 → Int) (now age : Int) (h : CBox w B0 B1 B2 mb n f now age) (r : Bt.Rec) (ok : RecOk r) :
    Calls Tryz.prog 29 #[.agg (recC r).toArray, .pointer (some ⟨B0, 0, none⟩), .pointer (some ⟨B1, 0, none⟩), .pointer (some ⟨B2, 0, none⟩)] w fun e w' => e = .returned (.bool (goesC f now age r)) ∧ Turn [] w w' := by
  have hm : maxLen = 9223372036854775807 := by simp [maxLen]
  have ht : Turn [] w (w.alloc (.cells (recC r).toArray 42)) := (Turn.refl _ _).alloc _
  obtain ⟨k0, k1, k2⟩ := h.cells
  have hbox := heap_new w (.cells (recC r).toArray 42)
  have r0 : (w.alloc (.cells (recC r).toArray 42)).cell? ⟨w.heap.size, 0, none⟩ = some (.int .i64 r.off) := by rw [cell_of hbox]; rfl
  have r1 : (w.alloc (.cells (recC r).toArray 42)).cell? ⟨w.heap.size, 1, none⟩ = some (.int .i64 r.time) := by rw [cell_of hbox]; rfl
  have r2 : (w.alloc (.cells (recC r).toArray 42)).cell? ⟨w.heap.size, 2, none⟩ = some (.bool r.keyed) := by rw [cell_of hbox]; rfl
  have r3 : (w.alloc (.cells (recC r).toArray 42)).cell? ⟨w.heap.size, 3, none⟩ = some (.string ⟨r.key.toArray⟩) := by rw [cell_of hbox]; rfl
  have r4 : (w.alloc (.cells (recC r).toArray 42)).cell? ⟨w.heap.size, 4, none⟩ = some (.bool r.gone) := by rw [cell_of hbox]; rfl
  have hlk := (h.still ht).map.look (s := ⟨r.key.toArray⟩) (by rw [hm]; show r.key.toArray.size ≤ _; simpa using ok.key)
  rw [show (⟨r.key.toArray⟩ : ByteArray).data.toList = r.key from by simp] at hlk
  have z0 := lt_of_heap h.b0
  have z1 := lt_of_heap h.b1
  have z2 := lt_of_heap h.b2
  have HT := hide ht
  have HV : Hid (goesC f now age r = (r.keyed && (decide (r.off < f r.key) || (r.gone && decide (r.time < wrap64 (now - age)))))) := rfl
  obtain ⟨X, hX⟩ : ∃ X, X = f r.key := ⟨_, rfl⟩
  rw [← hX] at hlk HV
  clear h hbox ht hX ok
  unfold recC strV at *
  rw [HV.out]
  generalize r.keyed = kb at *
  generalize r.gone = gb at *
  clear HV HT
  cases kb
  · go_enter Tryz.func29, Tryz.ntmps29
    go_wp2
    go_ret
    exact ⟨rfl, (Turn.refl [] w).alloc _⟩
  · by_cases ho : r.off < X
    · have hd : decide (r.off < X) = true := by simpa using ho
      rw [hd]
      clear hd
      go_enter Tryz.func29, Tryz.ntmps29
      go_wp2
      go_ret
      exact ⟨rfl, (Turn.refl [] w).alloc _⟩
    · have hd : decide (r.off < X) = false := by simpa using ho
      rw [hd]
      clear hd
      cases gb
      · go_enter Tryz.func29, Tryz.ntmps29
        go_wp2
        go_ret
        exact ⟨rfl, (Turn.refl [] w).alloc _⟩
      · go_enter Tryz.func29, Tryz.ntmps29
        go_wp2
        go_ret
        exact ⟨by simp, (Turn.refl [] w).alloc _⟩
end Go.Proofs.YthbhfhagbaommaaGreatDoor.Lg

/- slices.IndexFunc and slices.DeleteFunc of records, with Compact's closure. -/
namespace Go.Proofs.YthbhfhagbaommaaGreatDoor.Lg
open Go.RowKit Go.Maps
set_option maxRecDepth 100000
set_option linter.unusedSimpArgs false
set_option linter.unusedVariables false
attribute [local go_sem] Oper.semAt_some

section
variable {w : World} {base g cap : Nat} {rs : List Bt.Rec}
theorem grow_load (h : GRow 42 6 recC w base (.slice (some ⟨g, 0, none⟩) rs.length cap) rs) {j : Nat} (hj : j < rs.length) : (loadVar 42 ⟨g, j * 6, none⟩).run Tryz.prog w = .ok (recV rs[j]) w := by
  obtain ⟨g', cap', e, hc, -⟩ := h.at recC_len hj
  simp only [Value.slice.injEq, Option.some.injEq, Addr.mk.injEq, true_and] at e
  obtain ⟨⟨rfl, -⟩, rfl⟩ := e
  refine load_rec fun i u hu => ?_
  have hi : i < 6 := by have := (List.getElem?_eq_some_iff.1 hu).1; simpa [recC] using this
  rw [Addr.add_lit, hc i hi, hu]
end
theorem turn_setCells (g : Nat) : ∀ (vs : List Value) (o : Nat) (w : World), Turn [g] w (w.setCells g o vs)
  | [], _, w => Turn.refl _ w
  | v :: r, o, w => ((Turn.refl [g] w).setCell (p := ⟨g, o, none⟩) (.inl (by simp)) v).same (turn_setCells g r (o + 1) _)
theorem beyond1 {α : Type} {T : TypeId} {n : Nat} {enc : α → List Value} {w : World} {base g l c : Nat} {xs : List α} (h : GRow T n enc w base (.slice (some ⟨g, 0, none⟩) l c) xs) {o : Nat} (ho : xs.length * n ≤ o) (u : Value) : GRow T n enc (w.setCell ⟨g, o, none⟩ u) base (.slice (some ⟨g, 0, none⟩) l c) xs := by
  rcases h with ⟨e, -⟩ | ⟨g', cap, cur, e, hb, hg, h1, h2, h3, h4⟩
  · simp at e
  · simp only [Value.slice.injEq, Option.some.injEq, Addr.mk.injEq] at e
    obtain ⟨⟨rfl, -, -⟩, rfl, rfl⟩ := e
    refine .inr ⟨g, c, _, rfl, hb, heap_set hg _ u, h1, by rw [Array.size_setIfInBounds]; exact h2, h3, ?_⟩
    rw [Array.toList_setIfInBounds, List.take_set_of_le ho, h4]
theorem beyondL {α : Type} {T : TypeId} {n : Nat} {enc : α → List Value} {base g l c : Nat} {xs : List α} : ∀ (vs : List Value) (o : Nat) (w : World), GRow T n enc w base (.slice (some ⟨g, 0, none⟩) l c) xs → xs.length * n ≤ o → GRow T n enc (w.setCells g o vs) base (.slice (some ⟨g, 0, none⟩) l c) xs
  | [], _, _, h, _ => h
  | v :: r, o, w, h, ho => beyondL r (o + 1) _ (beyond1 h ho v) (by omega)
/-- A record put in the place of another. -/
theorem grow_put {w : World} {base g l c : Nat} {rs : List Bt.Rec} (h : GRow 42 6 recC w base (.slice (some ⟨g, 0, none⟩) l c) rs) {i : Nat} (hi : i < rs.length) (r : Bt.Rec) : GRow 42 6 recC (w.setCells g (i * 6) (recC r)) base (.slice (some ⟨g, 0, none⟩) l c) (rs.set i r) := by
  have h0 := h.set recC_len (j := i) (i := 0) hi (by omega) (u := .int .i64 r.off) (x' := { rs[i] with off := r.off }) rfl
  have h1 := h0.set recC_len (j := i) (i := 1) (by simpa using hi) (by omega) (u := .int .i64 r.time) (x' := { rs[i] with off := r.off, time := r.time }) (by simp [recC])
  have h2 := h1.set recC_len (j := i) (i := 2) (by simpa using hi) (by omega) (u := .bool r.keyed) (x' := { rs[i] with off := r.off, time := r.time, keyed := r.keyed }) (by simp [recC])
  have h3 := h2.set recC_len (j := i) (i := 3) (by simpa using hi) (by omega) (u := strV r.key) (x' := { rs[i] with off := r.off, time := r.time, keyed := r.keyed, key := r.key }) (by simp [recC])
  have h4 := h3.set recC_len (j := i) (i := 4) (by simpa using hi) (by omega) (u := .bool r.gone) (x' := { rs[i] with off := r.off, time := r.time, keyed := r.keyed, key := r.key, gone := r.gone }) (by simp [recC])
  have h5 := h4.set recC_len (j := i) (i := 5) (by simpa using hi) (by omega) (u := strV r.value) (x' := r) (by simp [recC])
  simp only [List.set_set] at h5
  exact h5
/-- Compact's closure. -/
def fnC (B0 B1 B2 : Nat) : Value := .func (.func 29) #[] #[.pointer (some ⟨B0, 0, none⟩), .pointer (some ⟨B1, 0, none⟩), .pointer (some ⟨B2, 0, none⟩)]
set_option maxHeartbeats 1000000 in
theorem index_rec (w : World) (B0 B1 B2 mb n : Nat) (f : List UInt8 → Int) (now age : Int) (hb : CBox w B0 B1 B2 mb n f now age) (base : Nat) (a : Option Addr) (c : Nat) (rs : List Bt.Rec) (h : GRow 42 6 recC w base (.slice a rs.length c) rs) (ok : ∀ r ∈ rs, RecOk r) (hl : rs.length ≤ 1000000) :
    Calls Tryz.prog 87 #[.slice a rs.length c, fnC B0 B1 B2] w fun e w' => ((e = .returned (.int .i64 (-1)) ∧ ∀ j (h : j < rs.length), goesC f now age rs[j] = false) ∨ ∃ k : Nat, e = .returned (.int .i64 k) ∧ ∃ h : k < rs.length, goesC f now age rs[k] = true ∧ ∀ j (h : j < rs.length), j < k → goesC f now age rs[j] = false) ∧ Turn [] w w' := by
  have HB := hide hb
  have H := hide h
  have HOK := hide ok
  clear hb h ok
  unfold fnC
  go_enter Tryz.func87, Tryz.ntmps87
  go_wp2
  go_loopw [8] (fun kv wr => ∃ k : Nat, k ≤ rs.length ∧ kv = .int .i64 k ∧ (∀ j (h : j < rs.length), j < k → goesC f now age rs[j] = false) ∧ Turn [] w wr) (fun kv _ => rs.length - (intOf kv).toNat)
  case atStart => exact ⟨0, Nat.zero_le _, rfl, fun j _ h => absurd h (by omega), Turn.refl _ _⟩
  case round =>
    obtain ⟨k, hk, rfl, hall, htw⟩ := hrel
    have HALL := hide hall
    have HTW := hide htw
    clear hall htw
    by_cases hlt : k < rs.length
    · have hrow := H.out.still HTW.out
      obtain ⟨g, cap, e, hc, -⟩ := hrow.at recC_len hlt
      simp only [Value.slice.injEq, true_and] at e
      obtain ⟨rfl, rfl⟩ := e
      obtain ⟨r, hr⟩ : ∃ r, r = rs[k] := ⟨_, rfl⟩
      rw [← hr] at hc
      have q0 : wr.cell? ⟨g, k * 6, none⟩ = some (.int .i64 r.off) := hc 0 (by omega)
      have q1 : wr.cell? ⟨g, k * 6 + 1, none⟩ = some (.int .i64 r.time) := hc 1 (by omega)
      have q2 : wr.cell? ⟨g, k * 6 + 2, none⟩ = some (.bool r.keyed) := hc 2 (by omega)
      have q3 : wr.cell? ⟨g, k * 6 + 3, none⟩ = some (strV r.key) := hc 3 (by omega)
      have q4 : wr.cell? ⟨g, k * 6 + 4, none⟩ = some (.bool r.gone) := hc 4 (by omega)
      have q5 : wr.cell? ⟨g, k * 6 + 5, none⟩ = some (strV r.value) := hc 5 (by omega)
      unfold strV at q3 q5
      have hgo := goesC_any wr B0 B1 B2 mb n f now age (HB.out.still HTW.out) r (HOK.out r (by rw [hr]; exact List.getElem_mem _))
      have HGO := hide hgo
      have HR := hide hr
      clear hrow hr hgo hc
      have hki : (k : Int) < rs.length := by omega
      go_wp2_with fail
      refine HGO.out.mono ?_
      rintro e w2 ⟨rfl, ht2⟩
      have HT2 := hide (HTW.out.same ht2)
      clear ht2 HGO q0 q1 q2 q3 q4 q5
      cases hg : goesC f now age r
      · have HG := hide hg
        clear hg
        go_wp2
        all_goals refine ⟨⟨k + 1, by omega, by go_num, fun j hj hjk => ?_, HT2.out⟩, ?_⟩
        · by_cases e : j < k
          · exact HALL.out j hj e
          · obtain rfl : j = k := by omega
            rw [← HR.out]
            exact HG.out
        · simp only [intOf]; omega
      · have HG := hide hg
        clear hg
        go_wp2
        go_ret
        exact ⟨.inr ⟨k, rfl, hlt, by rw [← HR.out]; exact HG.out, HALL.out⟩, HT2.out⟩
    · obtain rfl : k = rs.length := by omega
      go_wp2
      go_ret
      exact ⟨.inl ⟨rfl, fun j hj => HALL.out j hj hj⟩, HTW.out⟩
end Go.Proofs.YthbhfhagbaommaaGreatDoor.Lg

/- slices.DeleteFunc of records, with Compact's closure. -/
namespace Go.Proofs.YthbhfhagbaommaaGreatDoor.Lg
open Go.RowKit Go.Maps
set_option maxRecDepth 100000
set_option linter.unusedSimpArgs false
set_option linter.unusedVariables false
attribute [local go_sem] Oper.semAt_some

theorem CBox.keptG {w w' : World} {B0 B1 B2 mb n g : Nat} {f : List UInt8 → Int} {now age : Int} (h : CBox w B0 B1 B2 mb n f now age) (ht : Turn [g] w w') {cs : Array Value} {fr : Nat × Nat} (e : w.heap[g]? = some (.cells cs 42 fr)) : CBox w' B0 B1 B2 mb n f now age := by
  have hne : ∀ {k : Nat} {c2 : Array Value} {T : TypeId} {f2 : Nat × Nat}, w.heap[k]? = some (.cells c2 T f2) → T ≠ 42 → k ∉ [g] := fun {k c2 T f2} e2 hT hm => by
    obtain rfl := List.mem_singleton.1 hm
    rw [e] at e2
    simp at e2
    exact hT e2.2.1.symm
  refine ⟨ht.heap h.b0 (hne h.b0 (by decide)), ht.heap h.b1 (hne h.b1 (by decide)), ht.heap h.b2 (hne h.b2 (by decide)), h.map.kept ht (fun hm => ?_)⟩
  obtain rfl := List.mem_singleton.1 hm
  obtain ⟨D, ⟨es, clock, hb, -⟩, -⟩ := h.map
  rw [hb] at e
  simp at e
theorem zeroR (w : World) : (zeroValue 42).run Tryz.prog w = .ok (.agg #[.int .i64 0, .int .i64 0, .bool false, .string ⟨#[]⟩, .bool false, .string ⟨#[]⟩]) w := by kernel_rfl
def zrV : Value := .agg #[.int .i64 0, .int .i64 0, .bool false, .string ⟨#[]⟩, .bool false, .string ⟨#[]⟩]
theorem clear_rec (w : World) (g o n c : Nat) (ty : TypeId) (hn : 0 < n) (hc : ∀ j, j < n * 6 → (w.cell? ⟨g, o + j, none⟩).isSome = true) (hf : ∀ j, j < n * 6 → w.frozen? ⟨g, o + j, none⟩ = false) :
    (Builtin.clear_ #[33] ty #[.slice (some ⟨g, o, none⟩) n c]).run Tryz.prog w = .ok (.tuple #[]) (w.setCells g o (Builtin.zeroCells zrV.cells n).toList) := by
  have hsz : zrV.cells.size = 6 := by rfl
  have hone : ∀ v ∈ zrV.cells.toList, v.oneCell' = true := by decide
  have hl : (Builtin.zeroCells zrV.cells n).toList.length = n * 6 := by
    rw [Array.length_toList, size_zeroCells, hsz]
  have hst := run_storeCells_cells (P := Tryz.prog) g o (Builtin.zeroCells zrV.cells n).toList 0 w (by rw [hl]; simpa using hc) (by rw [hl]; simpa using hf) (by
    intro v hv
    unfold Builtin.zeroCells at hv
    rw [Array.toList_map, List.mem_map] at hv
    obtain ⟨i, -, rfl⟩ := hv
    have hi : i % zrV.cells.size < zrV.cells.size := Nat.mod_lt _ (by rw [hsz]; omega)
    rw [getElem!_pos zrV.cells _ hi]
    exact hone _ (by simp))
  simp only [Nat.add_zero] at hst
  obtain ⟨m, rfl⟩ : ∃ m, n = m + 1 := ⟨n - 1, by omega⟩
  have hz := fun w => zeroR w
  rw [show (Value.agg #[.int .i64 0, .int .i64 0, .bool false, .string ⟨#[]⟩, .bool false, .string ⟨#[]⟩]) = zrV from rfl] at hz
  simp [Builtin.clear_, run_underlying Tryz.underlying33, hz, hst]
/-- What stays. -/
def staysL (f : List UInt8 → Int) (now age : Int) (rs : List Bt.Rec) : List Bt.Rec := rs.filter (fun r => !goesC f now age r)
theorem stays_snoc (f : List UInt8 → Int) (now age : Int) (rs : List Bt.Rec) {j : Nat} (h : j < rs.length) : staysL f now age (rs.take (j + 1)) = if goesC f now age rs[j] then staysL f now age (rs.take j) else staysL f now age (rs.take j) ++ [rs[j]] := by
  unfold staysL
  rw [List.take_succ_eq_append_getElem h, List.filter_append]
  cases hg : goesC f now age rs[j] <;> simp [hg]
theorem stays_le (f : List UInt8 → Int) (now age : Int) (rs : List Bt.Rec) (j : Nat) : (staysL f now age (rs.take j)).length ≤ j := by
  unfold staysL
  have h1 := List.length_filter_le (fun r => !goesC f now age r) (rs.take j)
  rw [List.length_take] at h1
  omega
theorem stays_all (f : List UInt8 → Int) (now age : Int) (rs : List Bt.Rec) (k : Nat) (h : ∀ j (h : j < rs.length), j < k → goesC f now age rs[j] = false) : staysL f now age (rs.take k) = rs.take k := by
  unfold staysL
  rw [List.filter_eq_self]
  intro r hr
  obtain ⟨j, hj, e⟩ := List.mem_iff_getElem.1 hr
  rw [List.length_take] at hj
  rw [List.getElem_take] at e
  rw [← e, h j (by omega) (by omega)]
  rfl
set_option maxHeartbeats 2000000 in
theorem delete_rec (w : World) (B0 B1 B2 mb n : Nat) (f : List UInt8 → Int) (now age : Int) (hb : CBox w B0 B1 B2 mb n f now age) (base : Nat) (a : Option Addr) (c : Nat) (rs : List Bt.Rec) (h : GRow 42 6 recC w base (.slice a rs.length c) rs) (ok : ∀ r ∈ rs, RecOk r) (hl : rs.length ≤ 1000000) :
    Calls Tryz.prog 56 #[.slice a rs.length c, fnC B0 B1 B2] w fun e w' => e = .returned (.slice a (staysL f now age rs).length c) ∧ GRow 42 6 recC w' base (.slice a (staysL f now age rs).length c) (staysL f now age rs) ∧ Turn (Value.slice a rs.length c).ownBlock.toList w w' := by
  have hix := index_rec w B0 B1 B2 mb n f now age hb base a c rs h ok hl
  obtain ⟨a', c', e', hlc, hcm⟩ := h.form
  simp only [Value.slice.injEq, true_and] at e'
  obtain ⟨rfl, rfl⟩ := e'
  have hmx : maxLen = 9223372036854775807 := by simp [maxLen]
  rw [hmx] at hcm
  have HB := hide hb
  have H := hide h
  have HOK := hide ok
  have HIX := hide hix
  clear hb h ok hix
  unfold fnC at *
  go_enter Tryz.func56, Tryz.ntmps56
  go_wp2_with fail
  refine HIX.out.mono ?_
  rintro e w1 ⟨⟨rfl, hall⟩ | ⟨k, rfl, hk, hgk, hall⟩, ht1⟩
  · have hst : staysL f now age rs = rs := by
      have := stays_all f now age rs rs.length (fun j hj _ => hall j hj)
      rwa [List.take_length] at this
    have HT1 := hide ht1
    clear HIX hall ht1
    go_wp2
    go_ret
    rw [hst]
    exact ⟨rfl, H.out.still HT1.out, HT1.out.mono (by simp)⟩
  · obtain ⟨g, cap, e, -, -⟩ := H.out.at recC_len hk
    simp only [Value.slice.injEq, true_and] at e
    obtain ⟨rfl, rfl⟩ := e
    have hs1 := stays_snoc f now age rs hk
    rw [hgk, if_pos rfl, stays_all f now age rs k hall] at hs1
    have HS1 := hide hs1
    have HT1 := hide ht1
    have hkn : ¬ ((k : Int) = -1) := by omega
    clear HIX hall ht1 hs1
    go_wp2
    have hgw := H.out.still HT1.out
    obtain ⟨cur, hcur⟩ : ∃ cur, w1.heap[g]? = some (.cells cur 42 (0, 0)) := by
      rcases hgw with ⟨e, -⟩ | ⟨g', cap', cur, e, -, hg, -⟩
      · simp at e
      · simp only [Value.slice.injEq, Option.some.injEq, Addr.mk.injEq, true_and] at e
        obtain ⟨⟨rfl, -⟩, -⟩ := e
        exact ⟨cur, hg⟩
    have HGW := hide hgw
    have HCUR := hide hcur
    have HBW := hide (HB.out.still HT1.out)
    clear hgw hcur
    go_loopw [5, 6] (fun iv jv wr => ∃ (j : Nat) (mid : List Bt.Rec), k + 1 ≤ j ∧ j ≤ rs.length ∧ jv = .int .i64 j ∧ iv = .int .i64 ((staysL f now age (rs.take j)).length : Nat) ∧ GRow 42 6 recC wr base (.slice (some ⟨g, 0, none⟩) rs.length c) (staysL f now age (rs.take j) ++ mid ++ rs.drop j) ∧ (staysL f now age (rs.take j)).length + mid.length = j ∧ 0 < mid.length ∧ Turn [g] w1 wr) (fun _ jv _ => rs.length - (intOf jv).toNat)
    case atStart =>
      refine ⟨k + 1, [rs[k]], Nat.le_refl _, hk, by go_num, ?_, ?_, ?_, by simp, Turn.refl _ _⟩
      · rw [HS1.out, List.length_take, Nat.min_eq_left (by omega)]
      · rw [HS1.out, List.append_assoc, List.singleton_append, ← List.drop_eq_getElem_cons hk, List.take_append_drop]
        exact HGW.out
      · rw [HS1.out, List.length_take, Nat.min_eq_left (by omega)]
        rfl
    case round =>
      obtain ⟨j, mid, hkj, hj, rfl, rfl, hrow, hlen, hmid, htw⟩ := hrel
      have hLl : (staysL f now age (rs.take j) ++ mid ++ rs.drop j).length = rs.length := by simp; omega
      obtain ⟨S, hS⟩ : ∃ S, S = staysL f now age (rs.take j) := ⟨_, rfl⟩
      rw [← hS] at hrow hlen hLl ⊢
      have HS := hide hS
      have HROW := hide hrow
      have HTW := hide htw
      have HLEN := hide hlen
      clear hS htw hlen
      by_cases hlt : j < rs.length
      · have hjL : j < (S ++ mid ++ rs.drop j).length := by rw [hLl]; exact hlt
        obtain ⟨g', cap', e, hc, -⟩ := hrow.at recC_len hjL
        simp only [Value.slice.injEq, Option.some.injEq, Addr.mk.injEq, and_true] at e
        obtain ⟨rfl, -, rfl⟩ := e
        obtain ⟨r, hr⟩ : ∃ r, r = rs[j] := ⟨_, rfl⟩
        have hLj : (S ++ mid ++ rs.drop j)[j]'hjL = r := by
          rw [List.getElem_append_right (by rw [List.length_append, HLEN.out]; exact Nat.le_refl _)]
          simp [HLEN.out, hr]
        rw [hLj] at hc
        have q0 : wr.cell? ⟨g, j * 6, none⟩ = some (.int .i64 r.off) := hc 0 (by omega)
        have q1 : wr.cell? ⟨g, j * 6 + 1, none⟩ = some (.int .i64 r.time) := hc 1 (by omega)
        have q2 : wr.cell? ⟨g, j * 6 + 2, none⟩ = some (.bool r.keyed) := hc 2 (by omega)
        have q3 : wr.cell? ⟨g, j * 6 + 3, none⟩ = some (strV r.key) := hc 3 (by omega)
        have q4 : wr.cell? ⟨g, j * 6 + 4, none⟩ = some (.bool r.gone) := hc 4 (by omega)
        have q5 : wr.cell? ⟨g, j * 6 + 5, none⟩ = some (strV r.value) := hc 5 (by omega)
        unfold strV at q3 q5
        have zg := (hrow.lt g (by simp [Value.ownBlock])).2
        have hta : Turn [] wr (wr.alloc (.cells (recC r).toArray 42)) := (Turn.refl _ _).alloc _
        have hgo := goesC_any _ B0 B1 B2 mb n f now age ((HBW.out.keptG HTW.out HCUR.out).still hta) r (HOK.out r (by rw [hr]; exact List.getElem_mem _))
        have hsn := stays_snoc f now age rs hlt
        rw [← hr, ← HS.out] at hsn
        unfold recC strV at hgo
        have HGO := hide hgo
        have HSN := hide hsn
        have HR := hide hr
        clear hrow hc hLj hjL hgo hr hsn hta hLl
        go_wp2_with fail
        refine HGO.out.mono ?_
        rintro e w2 ⟨rfl, ht2⟩
        have HT2 := hide (((Turn.refl [] wr).alloc (.cells #[.int .i64 r.off, .int .i64 r.time, .bool r.keyed, .string ⟨r.key.toArray⟩, .bool r.gone, .string ⟨r.value.toArray⟩] 42)).same ht2)
        have hbx := ht2.heap (heap_new wr (.cells #[.int .i64 r.off, .int .i64 r.time, .bool r.keyed, .string ⟨r.key.toArray⟩, .bool r.gone, .string ⟨r.value.toArray⟩] 42)) (by simp)
        clear ht2 HGO q0 q1 q2 q3 q4 q5
        cases hg : goesC f now age r
        · have HG := hide hg
          clear hg
          have p0 : w2.cell? ⟨wr.heap.size, 0, none⟩ = some (.int .i64 r.off) := by simpa using cell_of hbx 0
          have p1 : w2.cell? ⟨wr.heap.size, 1, none⟩ = some (.int .i64 r.time) := by simpa using cell_of hbx 1
          have p2 : w2.cell? ⟨wr.heap.size, 2, none⟩ = some (.bool r.keyed) := by simpa using cell_of hbx 2
          have p3 : w2.cell? ⟨wr.heap.size, 3, none⟩ = some (.string ⟨r.key.toArray⟩) := by simpa using cell_of hbx 3
          have p4 : w2.cell? ⟨wr.heap.size, 4, none⟩ = some (.bool r.gone) := by simpa using cell_of hbx 4
          have p5 : w2.cell? ⟨wr.heap.size, 5, none⟩ = some (.string ⟨r.value.toArray⟩) := by simpa using cell_of hbx 5
          have hil : ((S.length : Nat) : Int) < rs.length := by have := HLEN.out; omega
          obtain ⟨m0, mt, hmd⟩ : ∃ m0 mt, mid = m0 :: mt := by
            cases mid with
            | nil => exact absurd hmid (by simp)
            | cons m0 mt => exact ⟨m0, mt, rfl⟩
          subst hmd
          have hrow2 := HROW.out.still HT2.out
          have hSL : S.length < (S ++ (m0 :: mt) ++ rs.drop j).length := by rw [List.length_append, List.length_append, List.length_cons]; omega
          obtain ⟨g', cap', e, hc, hfz⟩ := hrow2.at recC_len hSL
          simp only [Value.slice.injEq, Option.some.injEq, Addr.mk.injEq, and_true] at e
          obtain ⟨rfl, -, rfl⟩ := e
          have hLS : (S ++ (m0 :: mt) ++ rs.drop j)[S.length]'hSL = m0 := by
            rw [List.getElem_append_left (by simp), List.getElem_append_right (Nat.le_refl _)]
            simp
          rw [hLS] at hc
          have t0 : w2.cell? ⟨g, S.length * 6, none⟩ = some (.int .i64 m0.off) := hc 0 (by omega)
          have t1 : w2.cell? ⟨g, S.length * 6 + 1, none⟩ = some (.int .i64 m0.time) := hc 1 (by omega)
          have t2 : w2.cell? ⟨g, S.length * 6 + 2, none⟩ = some (.bool m0.keyed) := hc 2 (by omega)
          have t3 : w2.cell? ⟨g, S.length * 6 + 3, none⟩ = some (strV m0.key) := hc 3 (by omega)
          have t4 : w2.cell? ⟨g, S.length * 6 + 4, none⟩ = some (.bool m0.gone) := hc 4 (by omega)
          have t5 : w2.cell? ⟨g, S.length * 6 + 5, none⟩ = some (strV m0.value) := hc 5 (by omega)
          have f0 := hfz (S.length * 6)
          have f1 := hfz (S.length * 6 + 1)
          have f2 := hfz (S.length * 6 + 2)
          have f3 := hfz (S.length * 6 + 3)
          have f4 := hfz (S.length * 6 + 4)
          have f5 := hfz (S.length * 6 + 5)
          have zg2 := (hrow2.lt g (by simp [Value.ownBlock])).2
          have hput := grow_put hrow2 hSL r
          have hst : staysL f now age (rs.take (j + 1)) = S ++ [r] := by rw [HSN.out, HG.out]; rfl
          have heq : (S ++ (m0 :: mt) ++ rs.drop j).set S.length r = (S ++ [r]) ++ (mt ++ [r]) ++ rs.drop (j + 1) := by
            rw [List.append_assoc, List.set_append_right _ _ (Nat.le_refl _), Nat.sub_self, List.cons_append, List.set_cons_zero, List.drop_eq_getElem_cons hlt, ← HR.out]
            simp
          rw [heq] at hput
          have HPUT := hide hput
          have HST := hide hst
          have HT3 := hide (HTW.out.same ((HT2.out.mono (T := [g]) (by simp)).same (turn_setCells g (recC r) (S.length * 6) w2)))
          clear hrow2 hSL hc hfz hLS hput hst heq
          go_wp2
          go_roundw
          case rel =>
            have hln : (S ++ [r]).length + (mt ++ [r]).length = j + 1 := by
              have := HLEN.out
              rw [List.length_cons] at this
              simp only [List.length_append, List.length_singleton]
              omega
            repeat apply Exists.intro
            exact ⟨⟨j + 1, mt ++ [r], by omega, by omega, by go_num, by rw [HST.out, List.length_append, List.length_singleton]; go_num, by rw [HST.out]; exact HPUT.out, by rw [HST.out]; exact hln, by simp, HT3.out⟩, rfl⟩
          case measure => simp [intOf]; omega
        · have hst : staysL f now age (rs.take (j + 1)) = S := by rw [HSN.out, hg]; rfl
          have hrow2 := HROW.out.still HT2.out
          have heq : S ++ mid ++ rs.drop j = S ++ (mid ++ [r]) ++ rs.drop (j + 1) := by
            rw [List.drop_eq_getElem_cons hlt, ← HR.out]
            simp
          rw [heq] at hrow2
          have HROW2 := hide hrow2
          have HST := hide hst
          clear hg hst hrow2 heq
          go_wp2
          go_roundw
          case rel =>
            have hln : S.length + (mid ++ [r]).length = j + 1 := by
              have := HLEN.out
              rw [List.length_append, List.length_singleton]
              omega
            repeat apply Exists.intro
            exact ⟨⟨j + 1, mid ++ [r], by omega, by omega, by go_num, by rw [HST.out], by rw [HST.out]; exact HROW2.out, by rw [HST.out]; exact hln, by simp, HTW.out.same (HT2.out.mono (by simp))⟩, rfl⟩
          case measure => simp [intOf]; omega
      · obtain rfl : j = rs.length := by omega
        have hS' := HS.out
        rw [List.take_length] at hS'
        rw [List.drop_length, List.append_nil] at HROW
        have hSn : S.length < rs.length := by have := HLEN.out; omega
        obtain ⟨zs, hzs⟩ : ∃ zs, zs = (Builtin.zeroCells zrV.cells (rs.length - S.length)).toList := ⟨_, rfl⟩
        have hcl : ∀ ty, (Builtin.clear_ #[33] ty #[.slice (some ⟨g, S.length * 6, none⟩) (rs.length - S.length) (c - S.length)]).run Tryz.prog wr = .ok (.tuple #[]) (wr.setCells g (S.length * 6) zs) := by
          rw [hzs]
          intro ty
          have hin : ∀ o, o < rs.length * 6 → (wr.cell? ⟨g, o, none⟩).isSome = true ∧ wr.frozen? ⟨g, o, none⟩ = false := by
            intro o ho
            rcases HROW.out with ⟨e, -⟩ | ⟨g', cap', cur, e, hb, hg, h1, h2, h3, h4⟩
            · simp at e
            · simp only [Value.slice.injEq, Option.some.injEq, Addr.mk.injEq, true_and] at e
              obtain ⟨⟨rfl, -⟩, e2, rfl⟩ := e
              refine ⟨?_, frozen_of hg _⟩
              rw [cell_of hg, Array.getElem?_eq_getElem (by omega)]
              rfl
          exact clear_rec wr g (S.length * 6) (rs.length - S.length) _ ty (by omega) (fun j hj => (hin _ (by omega)).1) (fun j hj => (hin _ (by omega)).2)
        have hcn : ¬ c = S.length := by omega
        have hsl : ((S.length : Nat) : Int) ≤ (rs.length : Int) := by omega
        have hslc : ((S.length : Nat) : Int) ≤ (c : Int) := by omega
        have hrowS : GRow 42 6 recC wr base (.slice (some ⟨g, 0, none⟩) S.length c) S := by
          rcases HROW.out with ⟨e, -⟩ | ⟨g', cap', cur, e, hb, hg, h1, h2, h3, h4⟩
          · simp at e
          · simp only [Value.slice.injEq, Option.some.injEq, Addr.mk.injEq, true_and] at e
            obtain ⟨⟨rfl, -⟩, e2, rfl⟩ := e
            refine .inr ⟨g, c, cur, rfl, hb, hg, by omega, h2, h3, ?_⟩
            have e1 : ((S ++ mid).flatMap recC).take (S.length * 6) = S.flatMap recC := by
              rw [List.flatMap_append, List.take_append_of_le_length (by rw [gflat_len recC_len]; exact Nat.le_refl _), List.take_of_length_le (by rw [gflat_len recC_len]; exact Nat.le_refl _)]
            rw [← e1, ← h4, List.take_take, Nat.min_eq_left (by rw [List.length_append]; omega)]
        have hfin := beyondL zs (S.length * 6) wr hrowS (Nat.le_refl _)
        have HFIN := hide hfin
        have HTF := hide ((HT1.out.mono (T := [g]) (by simp)).same (HTW.out.same (turn_setCells g zs (S.length * 6) wr)))
        have HSE := hide hS'
        clear hrow hLl hrowS hfin hS' HROW hzs
        go_wp2
        go_ret
        rw [← HSE.out]
        exact ⟨rfl, HFIN.out, HTF.out.mono (by simp [Value.ownBlock])⟩
end Go.Proofs.YthbhfhagbaommaaGreatDoor.Lg

/- (*segment.Segment).leave, replace. -/
namespace Go.Proofs.YthbhfhagbaommaaGreatDoor.Lg
open Go.RowKit Go.Maps
set_option maxRecDepth 100000
set_option linter.unusedSimpArgs false
set_option linter.unusedVariables false
attribute [local go_sem] Oper.semAt_some
open Dk (DA DiskAt Parts Did errR errV)
open Sg (SegAt sfoot pls Both Came nextOf flat Chain BRowS BV Fresh1 disk_size empty_any)

set_option maxHeartbeats 1000000 in
theorem leave_any (w : World) (base d : Nat) (F : List Nat) (A : DA) (sb : Nat) (sv : Value) (file : ByteArray) (b0 : Int) (ps : List Sg.Pl) (h : Both w base d F A sb sv file b0 ps) (hfs : file.size ≤ maxLen) (c : Int) :
    Calls Tryz.prog 90 #[.pointer (some ⟨sb, 0, none⟩), errR c] w fun e w' =>
      e = .returned (errR (if (A.remove file.data.toList).1 ≠ 0 then (A.remove file.data.toList).1 else c)) ∧ Did w w' base d F (A.remove file.data.toList).2 := by
  have hrm := Sg.remove_any w base d F A sb sv file b0 ps h hfs
  have HRM := hide hrm
  clear hrm h
  obtain ⟨er, her⟩ : ∃ er, errR c = er := ⟨_, rfl⟩
  rw [her]
  have HER := hide her
  clear her
  obtain ⟨q, hq⟩ : ∃ q, q = (A.remove file.data.toList).1 := ⟨_, rfl⟩
  rw [← hq] at HRM ⊢
  go_enter Tryz.func90, Tryz.ntmps90
  go_wp2_with fail
  refine HRM.out.mono ?_
  rintro e w1 ⟨rfl, hd⟩
  have HD := hide hd
  clear hd HRM hq
  by_cases h0 : q = 0
  · have hr : errR q = .nilIface := by rw [h0]; rfl
    rw [hr]
    have H0 := hide h0
    clear hr h0
    go_wp2
    go_ret
    all_goals first | exact absurd H0.out ‹_› | (rw [HER.out]; exact ⟨rfl, HD.out⟩)
  · have hr : errR q = .iface 56 (.int .i64 q) := by unfold errR; rw [if_neg h0]; rfl
    rw [hr]
    have HR := hide hr
    have H0 := hide h0
    clear hr h0
    go_wp2
    go_ret
    all_goals first | (rw [HR.out]; exact ⟨rfl, HD.out⟩) | exact absurd ‹_› H0.out

/-- Batches added one behind the other, until one is not. -/
def addsS (nm : List UInt8) (b0 : Int) : DA → List Bt.Bat → List Bt.Bat → Int × DA × List Bt.Bat
  | A, dn, [] => (0, A, dn)
  | A, dn, x :: r => if Bt.encErr x ≠ 0 then (Bt.encErr x, A, dn) else if x.base < nextOf b0 dn then (10, A, dn) else
      if (A.add nm (Bt.encB x)).1 ≠ 0 then ((A.add nm (Bt.encB x)).1, (A.add nm (Bt.encB x)).2, dn) else addsS nm b0 (A.add nm (Bt.encB x)).2 (dn ++ [x]) r
/-- What replace comes to. -/
def replaceS (A : DA) (nm : List UInt8) (tn : ByteArray) (b0 : Int) (xs : List Bt.Bat) : Int × DA × List Bt.Bat :=
  if (addsS nm b0 A [] xs).1 ≠ 0 then addsS nm b0 A [] xs else
  if ((addsS nm b0 A [] xs).2.1.sync nm).1 ≠ 0 then (((addsS nm b0 A [] xs).2.1.sync nm).1, ((addsS nm b0 A [] xs).2.1.sync nm).2, (addsS nm b0 A [] xs).2.2) else
  ((((addsS nm b0 A [] xs).2.1.sync nm).2.rename nm tn).1, (((addsS nm b0 A [] xs).2.1.sync nm).2.rename nm tn).2, (addsS nm b0 A [] xs).2.2)
/-- Where a segment is taken anew: what has turned, and what lies apart of all that was there. -/
def RSt (w w' : World) (base d : Nat) (F : List Nat) (A' : DA) (sb : Nat) (sv : Value) (file : ByteArray) (b0 : Int) (xs : List Bt.Bat) : Prop :=
  ∃ F' sv', Both w' base d F' A' sb sv' file b0 (pls 0 (-1) xs) ∧ Turn (F ++ sfoot sb sv) w w' ∧ (∀ k ∈ F', k ∈ F ∨ w.heap.size ≤ k) ∧ ∀ k ∈ sfoot sb sv', k ∈ sfoot sb sv ∨ w.heap.size ≤ k
theorem RSt.of_turn {w w1 w2 : World} {base d sb : Nat} {F : List Nat} {A' : DA} {sv : Value} {file : ByteArray} {b0 : Int} {xs : List Bt.Bat} (h : RSt w w1 base d F A' sb sv file b0 xs) (ht : Turn [] w1 w2) : RSt w w2 base d F A' sb sv file b0 xs := by
  obtain ⟨F', sv', hb, ht1, hf, hs⟩ := h
  exact ⟨F', sv', hb.still ht, ht1.same (ht.mono (by simp)), hf, hs⟩
theorem RSt.then_came {w w1 w2 : World} {base d sb : Nat} {F F1 : List Nat} {A1 : DA} {sv sv1 : Value} {file : ByteArray} {b0 : Int} {xs1 : List Bt.Bat} (ht : Turn (F ++ sfoot sb sv) w w1) (hf : ∀ k ∈ F1, k ∈ F ∨ w.heap.size ≤ k) (hs : ∀ k ∈ sfoot sb sv1, k ∈ sfoot sb sv ∨ w.heap.size ≤ k)
    (h : Came w1 w2 base d F1 A1 sb sv1 file b0 (pls 0 (-1) xs1)) : RSt w w2 base d F A1 sb sv file b0 xs1 := by
  obtain ⟨F', sv', hb, ht1, hf1, hs1⟩ := h
  refine ⟨F', sv', hb, ht.trans ht1 (fun k hk => ?_), fun k hk => (hf1 k hk).elim (hf k) (fun h => .inr (Nat.le_trans ht.size h)), fun k hk => (hs1 k hk).elim (hs k) (fun h => .inr (Nat.le_trans ht.size h))⟩
  rcases List.mem_append.1 hk with hk | hk
  · exact (hf k hk).imp_left (List.mem_append_left _)
  · exact (hs k hk).imp_left (List.mem_append_right _)
theorem adds_step {w wr wa w3 : World} {base d sb : Nat} {F Fk : List Nat} {A Ak : DA} {sv svk : Value} {file : ByteArray} {b0 : Int} {xs dn r : List Bt.Bat} {x : Bt.Bat} {e : Ending}
    (hB : Both wr base d Fk Ak sb svk file b0 (pls 0 (-1) dn)) (ht : Turn (F ++ sfoot sb sv) w wr) (hf : ∀ k ∈ Fk, k ∈ F ∨ w.heap.size ≤ k) (hs : ∀ k ∈ sfoot sb svk, k ∈ sfoot sb sv ∨ w.heap.size ≤ k)
    (h0 : addsS file.data.toList b0 A [] xs = addsS file.data.toList b0 Ak dn (x :: r)) (hal : Turn [] wr wa)
    (ho : (Bt.encErr x ≠ 0 ∧ e = .returned (errR (Bt.encErr x)) ∧ Turn [] wa w3) ∨ (Bt.encErr x = 0 ∧ x.base < Sg.nextP b0 (pls 0 (-1) dn) ∧ e = .returned (errR 10) ∧ Turn [] wa w3) ∨
      (Bt.encErr x = 0 ∧ Sg.nextP b0 (pls 0 (-1) dn) ≤ x.base ∧ e = .returned (errR (Ak.add file.data.toList (Bt.encB x)).1) ∧ Came wa w3 base d Fk (Ak.add file.data.toList (Bt.encB x)).2 sb svk file b0 (Sg.psIf (Ak.add file.data.toList (Bt.encB x)).1 (pls 0 (-1) dn) (Sg.plOf (pls 0 (-1) dn) x)))) :
    (∃ q Aq, q ≠ 0 ∧ e = .returned (errR q) ∧ RSt w w3 base d F Aq sb sv file b0 dn ∧ addsS file.data.toList b0 A [] xs = (q, Aq, dn)) ∨
    (e = .returned .nilIface ∧ ∃ A' F' sv', Both w3 base d F' A' sb sv' file b0 (pls 0 (-1) (dn ++ [x])) ∧ Turn (F ++ sfoot sb sv) w w3 ∧ (∀ k ∈ F', k ∈ F ∨ w.heap.size ≤ k) ∧ (∀ k ∈ sfoot sb sv', k ∈ sfoot sb sv ∨ w.heap.size ≤ k) ∧ addsS file.data.toList b0 A [] xs = addsS file.data.toList b0 A' (dn ++ [x]) r) := by
  have hta : Turn (F ++ sfoot sb sv) w wa := ht.same (hal.mono (by simp))
  have hst : RSt w wr base d F Ak sb sv file b0 dn := ⟨Fk, svk, hB, ht, hf, hs⟩
  generalize addsS file.data.toList b0 A [] xs = L at h0 ⊢
  unfold addsS at h0
  rw [Sg.nextP_pls] at ho
  rcases ho with ⟨h1, rfl, h3⟩ | ⟨h1, h2, rfl, h3⟩ | ⟨h1, h2, rfl, h3⟩
  · rw [if_pos h1] at h0
    exact .inl ⟨_, _, h1, rfl, hst.of_turn (hal.same h3), h0⟩
  · rw [if_neg (by rw [h1]; simp), if_pos h2] at h0
    exact .inl ⟨_, _, by decide, rfl, hst.of_turn (hal.same h3), h0⟩
  · rw [if_neg (by rw [h1]; simp), if_neg (by omega)] at h0
    by_cases hc : (Ak.add file.data.toList (Bt.encB x)).1 = 0
    · rw [if_neg (by rw [hc]; simp)] at h0
      rw [hc] at h3 ⊢
      unfold Sg.psIf at h3
      rw [if_pos rfl, Sg.plOf_pls] at h3
      obtain ⟨F', sv', hb, ht1, hf1, hs1⟩ := RSt.then_came hta hf hs h3
      exact .inr ⟨rfl, _, F', sv', hb, ht1, hf1, hs1, h0⟩
    · rw [if_pos hc] at h0
      unfold Sg.psIf at h3
      rw [if_neg hc] at h3
      exact .inl ⟨_, _, hc, rfl, RSt.then_came hta hf hs h3, h0⟩
set_option maxHeartbeats 4000000 in
theorem replace_any (w : World) (base d : Nat) (F : List Nat) (A : DA) (sb : Nat) (sv : Value) (file : ByteArray) (b0 : Int) (h : Both w base d F A sb sv file b0 []) (hfs : file.size ≤ maxLen)
    (ob : Nat) (ofile : ByteArray) (ob0 : Int) (ov : Value) (hob : w.heap[ob]? = some (.cells #[.pointer (some ⟨d, 0, none⟩), .string ofile, .int .i64 ob0, ov] 96 (0, 0))) (hobn : ob ∉ F ++ sfoot sb sv) (hofs : ofile.size ≤ maxLen)
    (rb : Nat) (lv : Value) (ys : List BV) (hb : BRowS w rb lv ys) (hyl : ys.length ≤ 900000) (hfl : (flat (ys.map (·.x))).length ≤ 1048576)
    (hbd : ∀ y ∈ ys, -9223372036854775808 ≤ y.x.base ∧ y.x.base ≤ 9223372036854775807 ∧ -9223372036854775808 ≤ y.x.fin ∧ y.x.fin ≤ 9223372036854775807)
    (hsep : ∀ k, (k ∈ lv.ownBlock ∨ ∃ y ∈ ys, k ∈ y.sl.ownBlock) → k ∉ F ++ sfoot sb sv) :
    Calls Tryz.prog 89 #[.pointer (some ⟨sb, 0, none⟩), .pointer (some ⟨ob, 0, none⟩), lv] w fun e w' =>
      e = .returned (errR (replaceS A file.data.toList ofile b0 (ys.map (·.x))).1) ∧ RSt w w' base d F (replaceS A file.data.toList ofile b0 (ys.map (·.x))).2.1 sb sv file b0 (replaceS A file.data.toList ofile b0 (ys.map (·.x))).2.2 := by
  obtain ⟨la, lc, hlv, hllc, hlcm⟩ := hb.row.form
  subst hlv
  have hmx : maxLen = 9223372036854775807 := by simp [maxLen]
  rw [hmx] at hlcm
  have hsb := lt_of_heap h.seg.box
  have hobl := lt_of_heap hob
  obtain ⟨xs, hxs⟩ : ∃ xs, xs = ys.map (fun y : BV => y.x) := ⟨_, rfl⟩
  have hxl : xs.length = ys.length := by rw [hxs, List.length_map]
  rw [← hxs] at hfl ⊢
  obtain ⟨N, hN⟩ : ∃ N, N = ys.length := ⟨_, rfl⟩
  rw [← hN] at hllc hyl hxl ⊢
  have HN := hide hN
  have HXS := hide hxs
  have HB := hide hb
  have H := hide h
  have HOB := hide hob
  have HSEP := hide hsep
  have HBD := hide hbd
  clear hN hxs hb h hob hsep hbd
  go_enter Tryz.func89, Tryz.ntmps89
  go_wp2
  go_loopw [13] (fun kv wr => ∃ (k : Nat) (Ak : DA) (Fk : List Nat) (svk : Value), k ≤ N ∧ kv = .int .i64 k ∧ Both wr base d Fk Ak sb svk file b0 (pls 0 (-1) (xs.take k)) ∧ Turn (F ++ sfoot sb sv) w wr ∧ (∀ j ∈ Fk, j ∈ F ∨ w.heap.size ≤ j) ∧ (∀ j ∈ sfoot sb svk, j ∈ sfoot sb sv ∨ w.heap.size ≤ j) ∧ addsS file.data.toList b0 A [] xs = addsS file.data.toList b0 Ak (xs.take k) (xs.drop k)) (fun kv _ => N - (intOf kv).toNat)
  case atStart => exact ⟨0, A, F, sv, Nat.zero_le _, rfl, H.out, Turn.refl _ _, fun j hj => .inl hj, fun j hj => .inl hj, rfl⟩
  case round =>
    obtain ⟨k, Ak, Fk, svk, hk, rfl, hbk, htk, hfk, hsk, hak⟩ := hrel
    have HBK := hide hbk
    have HTK := hide htk
    have HFK := hide hfk
    have HSK := hide hsk
    have HAK := hide hak
    clear hbk htk hfk hsk hak
    by_cases hlt : k < N
    · have hky : k < ys.length := by rw [← HN.out]; exact hlt
      have hkx : k < xs.length := by rw [hxl]; exact hlt
      obtain ⟨y, hy⟩ : ∃ y, y = ys[k] := ⟨_, rfl⟩
      have hym : y ∈ ys := by rw [hy]; exact List.getElem_mem _
      have hrowk := HB.out.row.kept HTK.out (fun j hj => HSEP.out j (.inl hj))
      obtain ⟨g, cap, e, hc, -⟩ := hrowk.at Sg.batC_len (j := k) hky
      rw [← HN.out] at e
      simp only [Value.slice.injEq, true_and] at e
      obtain ⟨rfl, rfl⟩ := e
      rw [← hy] at hc
      have c0 : wr.cell? ⟨g, k * 3, none⟩ = some (.int .i64 y.x.base) := hc 0 (by omega)
      have c1 : wr.cell? ⟨g, k * 3 + 1, none⟩ = some (.int .i64 y.x.fin) := hc 1 (by omega)
      have c2 : wr.cell? ⟨g, k * 3 + 2, none⟩ = some (.slice y.a y.n y.c) := hc 2 (by omega)
      have hxk : xs.drop k = y.x :: xs.drop (k + 1) := by
        rw [List.drop_eq_getElem_cons hkx]
        congr 1
        have e1 : xs[k]? = some y.x := by rw [HXS.out, List.getElem?_map, List.getElem?_eq_getElem hky, ← hy]; rfl
        rw [List.getElem?_eq_getElem hkx] at e1
        exact Option.some.inj e1
      have htk1 : xs.take (k + 1) = xs.take k ++ [y.x] := by
        rw [List.take_succ_eq_append_getElem hkx]
        rw [List.drop_eq_getElem_cons hkx] at hxk
        rw [(List.cons.inj hxk).1]
      have hgr := (HB.out.recs y hym).kept HTK.out (fun j hj => HSEP.out j (.inr ⟨y, hym, hj⟩))
      have hlow := HB.out.recs y hym
      have hal : Turn [] wr (wr.alloc (.cells #[.int .i64 y.x.base, .int .i64 y.x.fin, .slice y.a y.n y.c] 70)) := (Turn.refl [] wr).alloc _
      have hpl : (pls 0 (-1) (xs.take k)).length ≤ 999999 := by rw [Sg.pls_len, List.length_take]; omega
      have hsz : Sg.sizeP (pls 0 (-1) (xs.take k)) ≤ 1099511627776 := by
        rw [Sg.sizeP_pls]
        have h5 := congrArg List.length (Sg.take_flat xs k)
        rw [List.length_take] at h5
        omega
      have hadd := Sg.add_any _ base d Fk Ak sb svk file b0 _ (HBK.out.still hal) hfs hpl hsz (.slice y.a y.n y.c) y.x ⟨_, rfl, (RecRow.recs hgr (HB.out.ok y hym)).still hal, HBD.out y hym⟩ (fun j hj _ => ⟨fun hm => (HFK.out j hm).elim (fun h' => HSEP.out j (.inr ⟨y, hym, hj⟩) (List.mem_append_left _ h')) (fun h' => by have := (hlow.lt j hj).2; omega), fun hm => (HSK.out j hm).elim (fun h' => HSEP.out j (.inr ⟨y, hym, hj⟩) (List.mem_append_right _ h')) (fun h' => by have := (hlow.lt j hj).2; omega)⟩)
      have hst := fun (e : Ending) (w3 : World) ho => adds_step (xs := xs) (A := A) (e := e) (w3 := w3) HBK.out HTK.out HFK.out HSK.out (HAK.out.trans (congrArg _ hxk)) hal ho
      rw [← htk1] at hst
      have HADD := hide hadd
      have HST := hide hst
      clear hky hkx hy hym hrowk hc hxk htk1 hgr hlow hal hpl hsz hadd hst
      go_wp2_with fail
      refine HADD.out.mono ?_
      intro e w3 ho
      obtain ⟨q, Aq, hq, rfl, hr, ha⟩ | ⟨rfl, A', F', sv', hb', ht', hf', hs', ha'⟩ := HST.out e w3 ho
      · have hr' : errR q = .iface 56 (.int .i64 q) := by unfold errR; rw [if_neg hq]; rfl
        rw [hr']
        have HR' := hide hr'
        have HQ := hide hq
        have HRS := hide hr
        have HA := hide ha
        clear hr' hq hr ha ho HADD HST
        go_wp2
        go_ret
        have e0 : replaceS A file.data.toList ofile b0 xs = (q, Aq, xs.take k) := by
          unfold replaceS
          rw [HA.out]
          simp only
          rw [if_pos HQ.out]
        rw [e0]
        refine ⟨?_, HRS.out⟩
        rw [HR'.out]
        rfl
      · have HB' := hide hb'
        have HT' := hide ht'
        have HF' := hide hf'
        have HS' := hide hs'
        have HA' := hide ha'
        clear hb' ht' hf' hs' ha' ho HADD HST
        go_wp2
        all_goals refine ⟨⟨k + 1, A', F', sv', by omega, by go_num, HB'.out, HT'.out, HF'.out, HS'.out, HA'.out⟩, ?_⟩
        all_goals (simp only [intOf]; omega)
    · obtain rfl : k = N := by omega
      have htl : xs.take xs.length = xs := List.take_length
      rw [← hxl] at HBK HAK
      rw [htl] at HBK HAK
      rw [List.drop_length] at HAK
      have HA0 : Hid (addsS file.data.toList b0 A [] xs = (0, Ak, xs)) := hide (HAK.out.trans (by unfold addsS; rfl))
      have hsy := Sg.sync_any wr base d Fk Ak sb svk file b0 _ HBK.out hfs
      obtain ⟨c, hc⟩ : ∃ c, c = (Ak.sync file.data.toList).1 := ⟨_, rfl⟩
      rw [← hc] at hsy
      have HSY := hide hsy
      have HC := hide hc
      clear htl hsy hc HAK
      go_wp2_with fail
      refine HSY.out.mono ?_
      rintro e wb ⟨rfl, hd⟩
      obtain ⟨F2, sv2, hb2, ht2, hf2, hs2⟩ := RSt.then_came HTK.out HFK.out HSK.out (HBK.out.did hd)
      have HOB2 := hide (ht2.heap HOB.out hobn)
      have HB2 := hide hb2
      have HT2 := hide ht2
      have HF2 := hide hf2
      have HS2 := hide hs2
      have hzs := lt_of_heap hb2.seg.box
      have hzo := lt_of_heap HOB2.out
      clear hd hb2 ht2 hf2 hs2 HSY HBK HTK HFK HSK
      by_cases h0 : c = 0
      · have hr : errR c = .nilIface := by rw [h0]; rfl
        rw [hr]
        have H0 := hide h0
        clear hr h0
        go_wp2
        refine wp_region_tail 12 (Turn []) (by kernel_rfl) (by kernel_rfl) (by kernel_rfl) (by kernel_rfl) (by kernel_rfl) (Nat.le_of_ble_eq_true rfl) rfl (Turn.refl _) (fun _ _ _ h k => h.same k) ?_
        apply Lo.runx 1 rfl rfl [] (by kernel_rfl) (Turn.refl _)
        apply Exists.intro; apply And.intro
        · intro u w1 hR hF
          clear hF
          refine ⟨rfl, fun a ha K hK => ?_⟩
          have e0 := ha 0
          conv at e0 => rhs; whnf
          clear ha
          go_simp
          refine hK _ ?_; rfl
        apply Lo.runx 2 rfl rfl [0] (by kernel_rfl) (Turn.refl _)
        apply Exists.intro; apply And.intro
        · intro u w1 hR hF
          obtain ⟨h0, -⟩ := hF
          refine ⟨rfl, fun a ha K hK => ?_⟩
          have e29 := (ha 29).trans h0
          clear ha h0
          go_simp
          refine hK _ ?_; rfl
        apply Lo.runx 3 rfl rfl [1] (by kernel_rfl) (Turn.refl _)
        apply Exists.intro; apply And.intro
        · intro u w1 hR hF
          obtain ⟨h1, -⟩ := hF
          refine ⟨rfl, fun a ha K hK => ?_⟩
          have e30 := (ha 30).trans h1
          clear ha h1
          go_simp
          refine hK _ ?_; rfl
        apply Lo.runx 4 rfl rfl [2] (by kernel_rfl) (Turn.refl _)
        apply Exists.intro; apply And.intro
        · intro u w1 hR hF
          obtain ⟨h2, -⟩ := hF
          refine ⟨rfl, fun a ha K hK => ?_⟩
          have e31 := (ha 31).trans h2
          clear ha h2
          have hS := HB2.out.seg.still (((Turn.refl [] _).drew).same hR)
          have c0 := hS.c0
          have z1 := lt_of_heap hS.box
          go_simp
          refine hK _ ?_; rfl
        apply Lo.runx 5 rfl rfl [] (by kernel_rfl) (Turn.refl _)
        apply Exists.intro; apply And.intro
        · intro u w1 hR hF
          clear hF
          refine ⟨rfl, fun a ha K hK => ?_⟩
          have e0 := ha 0
          conv at e0 => rhs; whnf
          clear ha
          go_simp
          refine hK _ ?_; rfl
        apply Lo.runx 6 rfl rfl [4] (by kernel_rfl) (Turn.refl _)
        apply Exists.intro; apply And.intro
        · intro u w1 hR hF
          obtain ⟨h4, -⟩ := hF
          refine ⟨rfl, fun a ha K hK => ?_⟩
          have e33 := (ha 33).trans h4
          clear ha h4
          go_simp
          refine hK _ ?_; rfl
        apply Lo.runx 7 rfl rfl [5] (by kernel_rfl) (Turn.refl _)
        apply Exists.intro; apply And.intro
        · intro u w1 hR hF
          obtain ⟨h5, -⟩ := hF
          refine ⟨rfl, fun a ha K hK => ?_⟩
          have e34 := (ha 34).trans h5
          clear ha h5
          go_simp
          refine hK _ ?_; rfl
        apply Lo.runx 8 rfl rfl [6] (by kernel_rfl) (Turn.refl _)
        apply Exists.intro; apply And.intro
        · intro u w1 hR hF
          obtain ⟨h6, -⟩ := hF
          refine ⟨rfl, fun a ha K hK => ?_⟩
          have e35 := (ha 35).trans h6
          clear ha h6
          have hS := HB2.out.seg.still (((Turn.refl [] _).drew).same hR)
          have c1 := hS.c1
          have z1 := lt_of_heap hS.box
          go_simp
          refine hK _ ?_; rfl
        apply Lo.runx 9 rfl rfl [] (by kernel_rfl) (Turn.refl _)
        apply Exists.intro; apply And.intro
        · intro u w1 hR hF
          clear hF
          refine ⟨rfl, fun a ha K hK => ?_⟩
          have e1 := ha 1
          conv at e1 => rhs; whnf
          clear ha
          go_simp
          refine hK _ ?_; rfl
        apply Lo.runx 10 rfl rfl [8] (by kernel_rfl) (Turn.refl _)
        apply Exists.intro; apply And.intro
        · intro u w1 hR hF
          obtain ⟨h8, -⟩ := hF
          refine ⟨rfl, fun a ha K hK => ?_⟩
          have e37 := (ha 37).trans h8
          clear ha h8
          go_simp
          refine hK _ ?_; rfl
        apply Lo.runx 11 rfl rfl [9] (by kernel_rfl) (Turn.refl _)
        apply Exists.intro; apply And.intro
        · intro u w1 hR hF
          obtain ⟨h9, -⟩ := hF
          refine ⟨rfl, fun a ha K hK => ?_⟩
          have e38 := (ha 38).trans h9
          clear ha h9
          go_simp
          refine hK _ ?_; rfl
        apply Lo.runx 12 rfl rfl [10] (by kernel_rfl) (Turn.refl _)
        apply Exists.intro; apply And.intro
        · intro u w1 hR hF
          obtain ⟨h10, -⟩ := hF
          refine ⟨rfl, fun a ha K hK => ?_⟩
          have e39 := (ha 39).trans h10
          clear ha h10
          have hS := (((Turn.refl [] wb).drew).same hR).heap HOB2.out (by simp)
          have c1 : w1.cell? ⟨ob, 1, none⟩ = some (.string ofile) := by rw [cell_of hS]; rfl
          have z1 := lt_of_heap hS
          go_simp
          refine hK _ ?_; rfl
        refine Lo.done [3, 7, 11] (fun u w1 hRd hSd hF => ?_)
        clear hSd
        obtain ⟨f3, f7, f11, -⟩ := hF
        have d3 : u 3 = _ := f3
        have d7 : u 7 = _ := f7
        have d11 : u 11 = _ := f11
        clear f3 f7 f11
        simp only [List.take_succ_cons, List.take_zero, List.drop_succ_cons, List.drop_zero, putFrom, Act.put, List.setIfInBounds_toArray, List.set_cons_succ, List.set_cons_zero, Nat.zero_add, Nat.reduceAdd, d3, d7, d11]
        have HT := hide (((Turn.refl [] wb).drew).same hRd)
        clear d3 d7 d11 hRd
        go_wp2_with fail
        obtain ⟨mref, msd, hp⟩ := HB2.out.disk.kept HT.out (by simp)
        refine (Dk.rename_any hp file hfs ofile hofs).mono ?_
        rintro e w9 ⟨rfl, hd⟩
        obtain ⟨q, hq⟩ : ∃ q, q = (((Ak.sync file.data.toList).2).rename file.data.toList ofile).1 := ⟨_, rfl⟩
        rw [← hq]
        obtain ⟨r, hr⟩ : ∃ r, r = errR q := ⟨_, rfl⟩
        rw [← hr]
        have HQ := hide hq
        have HR := hide hr
        have HD := hide (RSt.then_came HT2.out HF2.out HS2.out (HB2.out.did (Sg.did_before HT.out hd)))
        clear hr hd hp hq
        go_wp2
        go_ret
        have e0 : replaceS A file.data.toList ofile b0 xs = (q, (((Ak.sync file.data.toList).2).rename file.data.toList ofile).2, xs) := by
          unfold replaceS
          rw [HA0.out]
          simp only
          rw [if_neg (by simp), if_neg (by rw [← HC.out, H0.out]; simp), ← HQ.out]
        rw [e0, HR.out]
        exact ⟨rfl, HD.out⟩
      · have hr : errR c = .iface 56 (.int .i64 c) := by unfold errR; rw [if_neg h0]; rfl
        rw [hr]
        have HR := hide hr
        have H0 := hide h0
        clear hr h0
        go_wp2
        go_ret
        have e0 : replaceS A file.data.toList ofile b0 xs = (c, (Ak.sync file.data.toList).2, xs) := by
          unfold replaceS
          rw [HA0.out]
          simp only
          rw [if_neg (by simp), if_pos (by rw [← HC.out]; exact H0.out), ← HC.out]
        rw [e0]
        refine ⟨?_, F2, sv2, HB2.out, HT2.out, HF2.out, HS2.out⟩
        rw [HR.out]
        rfl
end Go.Proofs.YthbhfhagbaommaaGreatDoor.Lg

/- (*segment.Segment).Rewrite. -/
namespace Go.Proofs.YthbhfhagbaommaaGreatDoor.Lg
open Go.RowKit Go.Maps
set_option maxRecDepth 100000
set_option linter.unusedSimpArgs false
set_option linter.unusedVariables false
attribute [local go_sem] Oper.semAt_some
open Dk (DA DiskAt Parts Did errR errV)
open Sg (SegAt sfoot pls Both Came nextOf flat Chain BRowS BV Fresh1 disk_size empty_any)

theorem adds_all (nm : List UInt8) (b0 : Int) : ∀ (xs dn : List Bt.Bat) (A : DA), (addsS nm b0 A dn xs).1 = 0 → (addsS nm b0 A dn xs).2.2 = dn ++ xs
  | [], dn, A, _ => by unfold addsS; simp
  | x :: r, dn, A, h => by
    unfold addsS at h ⊢
    split at h
    · contradiction
    · rename_i h1
      rw [if_neg h1]
      split at h
      · simp at h
      · rename_i h2
        rw [if_neg h2]
        split at h
        · contradiction
        · rename_i h3
          rw [if_neg h3, adds_all nm b0 r (dn ++ [x]) _ h]
          simp
theorem replace_all {A : DA} {nm : List UInt8} {tn : ByteArray} {b0 : Int} {xs : List Bt.Bat} (h : (replaceS A nm tn b0 xs).1 = 0) : (replaceS A nm tn b0 xs).2.2 = xs := by
  unfold replaceS at h ⊢
  split at h
  · contradiction
  · rename_i h1
    rw [if_neg h1]
    have h0 : (addsS nm b0 A [] xs).2.2 = xs := adds_all nm b0 xs [] A (Classical.not_not.1 h1)
    split at h
    · contradiction
    · rename_i h2
      rw [if_neg h2]
      exact h0
/-- What Rewrite comes to, and whether the segment has the new batches. -/
def rewriteS (A : DA) (file : ByteArray) (b0 : Int) (xs : List Bt.Bat) : Int × DA × Bool :=
  if (anewS A (besideB file)).1 ≠ 0 then ((anewS A (besideB file)).1, (anewS A (besideB file)).2, false) else
  if (replaceS (anewS A (besideB file)).2 (besideB file).data.toList file b0 xs).1 ≠ 0 then
    (if ((replaceS (anewS A (besideB file)).2 (besideB file).data.toList file b0 xs).2.1.remove (besideB file).data.toList).1 ≠ 0 then ((replaceS (anewS A (besideB file)).2 (besideB file).data.toList file b0 xs).2.1.remove (besideB file).data.toList).1 else (replaceS (anewS A (besideB file)).2 (besideB file).data.toList file b0 xs).1,
      ((replaceS (anewS A (besideB file)).2 (besideB file).data.toList file b0 xs).2.1.remove (besideB file).data.toList).2, false) else
  (0, (replaceS (anewS A (besideB file)).2 (besideB file).data.toList file b0 xs).2.1, true)
section
variable {w w1 w3 : World} {base d sb sb2 : Nat} {F F1 F3 : List Nat} {A A3 : DA} {sv sv3 : Value} {file B : ByteArray} {b0 : Int} {ps ps3 : List Sg.Pl}
theorem apart_foot (h : Both w base d F A sb sv file b0 ps) (hf1 : ∀ k ∈ F1, k ∈ F ∨ w.heap.size ≤ k) (hs2 : w.heap.size ≤ sb2) : ∀ k ∈ sfoot sb sv, k ∉ F1 ++ sfoot sb2 (.slice none 0 0) := by
  intro k hk hm
  have hl := (h.seg.lt k hk).2
  rcases List.mem_append.1 hm with hm | hm
  · exact (hf1 k hm).elim (h.sep k hk) (fun h' => by omega)
  · simp [sfoot, Value.ownBlock] at hm
    omega
theorem foot_in (hf1 : ∀ k ∈ F1, k ∈ F ∨ w.heap.size ≤ k) (hs2 : w.heap.size ≤ sb2) : ∀ k ∈ F1 ++ sfoot sb2 (.slice none 0 0), k ∈ F ++ sfoot sb sv ∨ w.heap.size ≤ k := by
  intro k hm
  rcases List.mem_append.1 hm with hm | hm
  · exact (hf1 k hm).imp_left (List.mem_append_left _)
  · simp [sfoot, Value.ownBlock] at hm
    exact .inr (by omega)
/-- The new one was given up. -/
theorem came_left (h : Both w base d F A sb sv file b0 ps) (ht1 : Turn F w w1) (hf1 : ∀ k ∈ F1, k ∈ F ∨ w.heap.size ≤ k) (hs2 : w.heap.size ≤ sb2) (ht3 : Turn (F1 ++ sfoot sb2 (.slice none 0 0)) w1 w3) (hf3 : ∀ k ∈ F3, k ∈ F1 ∨ w1.heap.size ≤ k) {w4 : World} {A4 : DA} (hd : Did w3 w4 base d F3 A4) : Came w w4 base d F A4 sb sv file b0 ps := by
  obtain ⟨F4, hd4, ht4, hf4⟩ := hd
  have hf31 : ∀ k ∈ F3, k ∈ F ∨ w.heap.size ≤ k := fun k hk => (hf3 k hk).elim (hf1 k) (fun h' => .inr (Nat.le_trans ht1.size h'))
  have hf41 : ∀ k ∈ F4, k ∈ F ∨ w.heap.size ≤ k := fun k hk => (hf4 k hk).elim (hf31 k) (fun h' => .inr (Nat.le_trans ht1.size (Nat.le_trans ht3.size h')))
  have hn : ∀ {G : List Nat}, (∀ k ∈ G, k ∈ F ∨ w.heap.size ≤ k) → ∀ k ∈ sfoot sb sv, k ∉ G := fun hG k hk hm => (hG k hm).elim (h.sep k hk) (fun h' => by have := (h.seg.lt k hk).2; omega)
  have ht13 : Turn (F ++ sfoot sb sv) w w3 := (ht1.mono (fun k hk => .inl (List.mem_append_left _ hk))).trans ht3 (foot_in hf1 hs2)
  exact ⟨F4, sv, ⟨hd4, ((h.seg.kept ht1 h.sep).kept ht3 (apart_foot h hf1 hs2)).kept ht4 (hn hf31), hn hf41⟩, ht13.trans ht4 (fun k hk => (hf31 k hk).imp_left (List.mem_append_left _)), hf41, fun k hk => .inl hk⟩
/-- The new one's batches are taken. -/
theorem came_taken (h : Both w base d F A sb sv file b0 ps) (ht1 : Turn F w w1) (hf1 : ∀ k ∈ F1, k ∈ F ∨ w.heap.size ≤ k) (hs2 : w.heap.size ≤ sb2) (ht3 : Turn (F1 ++ sfoot sb2 (.slice none 0 0)) w1 w3) (hf3 : ∀ k ∈ F3, k ∈ F1 ∨ w1.heap.size ≤ k)
    (h3 : Both w3 base d F3 A3 sb2 sv3 B b0 ps3) (hs3 : ∀ k ∈ sfoot sb2 sv3, k ∈ sfoot sb2 (.slice none 0 0) ∨ w1.heap.size ≤ k) : Came w (w3.setCell ⟨sb, 3, none⟩ sv3) base d F A3 sb sv file b0 ps3 := by
  have hsl := (h.seg.lt sb (by simp [sfoot])).2
  have hf31 : ∀ k ∈ F3, k ∈ F ∨ w.heap.size ≤ k := fun k hk => (hf3 k hk).elim (hf1 k) (fun h' => .inr (Nat.le_trans ht1.size h'))
  have hs31 : ∀ k ∈ sfoot sb2 sv3, w.heap.size ≤ k := fun k hk => (hs3 k hk).elim (fun h' => by simp [sfoot, Value.ownBlock] at h'; omega) (fun h' => Nat.le_trans ht1.size h')
  have hsb3 : sb ∉ F3 := fun hm => (hf31 sb hm).elim (h.sep sb (by simp [sfoot])) (fun h' => by omega)
  have hown : ∀ k ∈ sv3.ownBlock, k ∈ sfoot sb2 sv3 := fun k hk => by simp [sfoot]; exact .inr (by simpa using hk)
  have hset : Turn [sb] w3 (w3.setCell ⟨sb, 3, none⟩ sv3) := (Turn.refl [sb] w3).setCell (by simp) _
  have ht13 : Turn (F ++ sfoot sb sv) w w3 := (ht1.mono (fun k hk => .inl (List.mem_append_left _ hk))).trans ht3 (foot_in hf1 hs2)
  have hseg := (h.seg.kept ht1 h.sep).kept ht3 (apart_foot h hf1 hs2)
  refine ⟨F3, sv3, ⟨h3.disk.kept hset (fun k hk hm => by obtain rfl := List.mem_singleton.1 hm; exact hsb3 hk), ⟨?_, h3.seg.row.kept hset (fun k hk hm => by obtain rfl := List.mem_singleton.1 hm; have := hs31 _ (hown _ hk); omega), h.seg.low⟩, fun k hk hm => ?_⟩, ht13.trans hset (fun k hk => by obtain rfl := List.mem_singleton.1 hk; exact .inl (by simp [sfoot])), hf31, fun k hk => ?_⟩
  · rw [heap_set hseg.box]; rfl
  · simp only [sfoot, List.mem_cons, Option.mem_toList] at hk
    rcases hk with rfl | hk
    · exact hsb3 hm
    · exact h3.sep k (hown k hk) hm
  · simp only [sfoot, List.mem_cons, Option.mem_toList] at hk
    rcases hk with rfl | hk
    · exact .inl (by simp [sfoot])
    · exact .inr (hs31 k (hown k hk))
end
def takenP (b : Bool) (new old : List Sg.Pl) : List Sg.Pl := if b then new else old
set_option maxHeartbeats 2000000 in
theorem rewrite_any (w : World) (base d : Nat) (F : List Nat) (A : DA) (sb : Nat) (sv : Value) (file : ByteArray) (b0 : Int) (ps : List Sg.Pl) (h : Both w base d F A sb sv file b0 ps) (hfs : file.size ≤ 10000)
    (rb : Nat) (lv : Value) (ys : List BV) (hb : BRowS w rb lv ys) (hyl : ys.length ≤ 900000) (hfl : (flat (ys.map (·.x))).length ≤ 1048576)
    (hbd : ∀ y ∈ ys, -9223372036854775808 ≤ y.x.base ∧ y.x.base ≤ 9223372036854775807 ∧ -9223372036854775808 ≤ y.x.fin ∧ y.x.fin ≤ 9223372036854775807)
    (hsep : ∀ k, (k ∈ lv.ownBlock ∨ ∃ y ∈ ys, k ∈ y.sl.ownBlock) → k ∉ F) :
    Calls Tryz.prog 57 #[.pointer (some ⟨sb, 0, none⟩), lv] w fun e w' =>
      e = .returned (errR (rewriteS A file b0 (ys.map (·.x))).1) ∧ Came w w' base d F (rewriteS A file b0 (ys.map (·.x))).2.1 sb sv file b0 (takenP (rewriteS A file b0 (ys.map (·.x))).2.2 (pls 0 (-1) (ys.map (·.x))) ps) := by
  have hmx : maxLen = 9223372036854775807 := by simp [maxLen]
  have hBs : (besideB file).size ≤ maxLen := by have := besideB_size file; omega
  have hfm : file.size ≤ maxLen := by omega
  have han := anew_any w base d F A sb sv file b0 ps h hfs
  have hlt : ∀ k, (k ∈ lv.ownBlock ∨ ∃ y ∈ ys, k ∈ y.sl.ownBlock) → k < w.heap.size := by
    rintro k (hk | ⟨y, hy, hk⟩)
    · exact (hb.row.lt k hk).2
    · exact ((hb.recs y hy).lt k hk).2
  obtain ⟨xs, hxs⟩ : ∃ xs, xs = ys.map (fun y : BV => y.x) := ⟨_, rfl⟩
  rw [← hxs]
  obtain ⟨RW, hRW⟩ : ∃ RW, RW = rewriteS A file b0 xs := ⟨_, rfl⟩
  rw [← hRW]
  have HRW := hide hRW
  have HXS := hide hxs
  have HB := hide hb
  have H := hide h
  have HLT := hide hlt
  have HSEP := hide hsep
  have HAN := hide han
  have HBD := hide hbd
  have hsb := lt_of_heap h.seg.box
  unfold rewriteS at hRW
  obtain ⟨B, hB⟩ : ∃ B, B = besideB file := ⟨_, rfl⟩
  rw [← hB] at hRW hBs HAN
  obtain ⟨c, A1, hcA⟩ : ∃ c A1, anewS A B = (c, A1) := ⟨_, _, rfl⟩
  rw [hcA] at HAN hRW
  simp only at HAN hRW
  clear hxs hb h hlt hsep han hbd HRW hB hcA
  have HR := hide hRW
  clear hRW
  go_enter Tryz.func57, Tryz.ntmps57
  go_wp2_with fail
  refine HAN.out.mono ?_
  rintro e w1 (⟨h1, rfl, hd⟩ | ⟨h1, sb2, rfl, F1, hb1, ht1, hf1, hs1⟩)
  · have hr : errR c = .iface 56 (.int .i64 c) := by unfold errR; rw [if_neg h1]; rfl
    rw [hr]
    have HRR := hide hr
    have H1 := hide h1
    have HD := hide (H.out.did hd)
    clear hr h1 hd HAN
    go_wp2
    go_ret
    have e0 : RW = (c, A1, false) := by rw [HR.out, if_pos H1.out]
    rw [e0]
    exact ⟨by rw [HRR.out]; rfl, HD.out⟩
  · have hbr : BRowS w1 rb lv ys := ⟨HB.out.row.kept ht1 (fun k hk => HSEP.out k (.inl hk)), fun y hy => (HB.out.recs y hy).kept ht1 (fun k hk => HSEP.out k (.inr ⟨y, hy, hk⟩)), HB.out.ok, HB.out.apart⟩
    have hrp := replace_any w1 base d F1 A1 sb2 (.slice none 0 0) B b0 hb1 hBs sb file b0 sv (H.out.seg.kept ht1 H.out.sep).box (apart_foot H.out hf1 hs1 sb (by simp [sfoot])) hfm rb lv ys hbr hyl hfl HBD.out
      (fun k hk hm => (foot_in (sb := sb) (sv := sv) hf1 hs1 k hm).elim (fun h' => by
        rcases List.mem_append.1 hm with hm | hm
        · exact (hf1 k hm).elim (HSEP.out k hk) (fun h2 => by have := HLT.out k hk; omega)
        · simp [sfoot, Value.ownBlock] at hm; have := HLT.out k hk; omega) (fun h' => by have := HLT.out k hk; omega))
    rw [← HXS.out] at hrp
    obtain ⟨q, A3, xs3, hq⟩ : ∃ q A3 xs3, replaceS A1 B.data.toList file b0 xs = (q, A3, xs3) := ⟨_, _, _, rfl⟩
    have hall : q = 0 → xs3 = xs := fun e0 => by
      have := replace_all (A := A1) (nm := B.data.toList) (tn := file) (b0 := b0) (xs := xs) (by rw [hq]; exact e0)
      rw [hq] at this
      exact this
    have hR := HR.out
    rw [if_neg (by rw [h1]; simp), hq] at hR
    rw [hq] at hrp
    simp only at hR hrp
    have HR2 := hide hR
    have HRP := hide hrp
    have HALL := hide hall
    have HT1 := hide ht1
    have HF1 := hide hf1
    have hws := ht1.size
    clear hbr hrp hq hall hR HR HAN hb1 ht1 hf1 h1
    go_wp2_with fail
    refine HRP.out.mono ?_
    rintro e w3 ⟨rfl, F3, sv3, hb3, ht3, hf3, hs3⟩
    by_cases h0 : q = 0
    · have hr : errR q = .nilIface := by rw [h0]; rfl
      rw [hr]
      have hx3 := HALL.out h0
      rw [hx3] at hb3
      have H0 := hide h0
      obtain ⟨va, vc, hv3, hvl, hvm⟩ := hb3.seg.row.form
      have hct := came_taken H.out HT1.out HF1.out hs1 ht3 hf3 hb3 hs3
      have hsg := (H.out.seg.kept HT1.out H.out.sep).kept ht3 (apart_foot H.out HF1.out hs1)
      have hv3' := hv3
      subst hv3
      have c3 := hb3.seg.c3
      have z3 := lt_of_heap hb3.seg.box
      have o3 := hsg.c3
      have zo := lt_of_heap hsg.box
      have fo := hsg.fr 3
      obtain ⟨ga, gc, hgv, -, -⟩ := H.out.seg.row.form
      rw [hgv] at o3
      have HCT := hide hct
      clear hr h0 hx3 hb3 ht3 hf3 hs3 hsg hct HRP HALL hv3' hgv
      go_wp2
      go_ret
      have e0 : RW = (0, A3, true) := by rw [HR2.out, if_neg (by rw [H0.out]; simp)]
      rw [e0]
      exact ⟨rfl, HCT.out⟩
    · have hr : errR q = .iface 56 (.int .i64 q) := by unfold errR; rw [if_neg h0]; rfl
      have hlv := leave_any w3 base d F3 A3 sb2 sv3 B b0 _ hb3 hBs q
      obtain ⟨cc, hcc⟩ : ∃ cc, cc = (if (A3.remove B.data.toList).1 ≠ 0 then (A3.remove B.data.toList).1 else q) := ⟨_, rfl⟩
      obtain ⟨A4, hA4⟩ : ∃ A4, A4 = (A3.remove B.data.toList).2 := ⟨_, rfl⟩
      have hR3 := HR2.out
      rw [if_pos h0] at hR3
      rw [← hcc, ← hA4] at hR3 hlv
      rw [hr] at hlv ⊢
      obtain ⟨er, her⟩ : ∃ er, errR cc = er := ⟨_, rfl⟩
      rw [her] at hlv
      have HR3 := hide hR3
      have HLV := hide hlv
      have HER := hide her
      have HCL := fun (w4 : World) (hd : Did w3 w4 base d F3 A4) => came_left H.out HT1.out HF1.out hs1 ht3 hf3 hd
      have HCL' := hide HCL
      clear hr hlv hcc hA4 hR3 her HCL hb3 ht3 hf3 hs3 HRP HALL HR2 h0
      go_wp2_with fail
      refine HLV.out.mono ?_
      rintro e w4 ⟨rfl, hd⟩
      have HC := hide (HCL'.out w4 hd)
      clear hd HCL' HLV
      go_wp2
      go_ret
      rw [HR3.out, HER.out]
      exact ⟨rfl, HC.out⟩
end Go.Proofs.YthbhfhagbaommaaGreatDoor.Lg

/- A disk that has a log's files alone: what its operations come to. -/
namespace Go.Proofs.YthbhfhagbaommaaGreatDoor.Lg
open Go.RowKit Go.Maps
set_option linter.unusedSimpArgs false
set_option linter.unusedVariables false
open Dk (DA FA usedL)
open Sg (Chain flat nextOf)

def nmL (dir : ByteArray) (n : Nat) : List UInt8 := (Sn.nameB dir n).data.toList
theorem nmL_inj {dir : ByteArray} {n m : Nat} (hn : n ≤ 1099511627776) (hm : m ≤ 1099511627776) (h : nmL dir n = nmL dir m) : n = m :=
  Sn.name_inj (d := dir.data.toList) hn hm h
structure LogDisk (A : DA) (room : Nat) (dir : ByteArray) (ss : List (Nat × List Bt.Bat)) : Prop where
  lim : A.limited = false
  room : A.room = room
  files : A.files.map (fun f => (f.name, f.bytes)) = ss.map (fun p => (nmL dir p.1, flat p.2))
  base : ∀ p ∈ ss, p.1 ≤ 1099511627776
  nd : (ss.map (·.1)).Nodup
theorem flat_batsL : ∀ ss : List (Nat × List Bt.Bat), (flat (batsL ss)).length = (ss.map (fun p => (flat p.2).length)).sum
  | [] => by simp [batsL, flat]
  | p :: r => by
    have h := flat_batsL r
    unfold batsL at h ⊢
    rw [List.flatMap_cons, Sg.flat_append, List.length_append, h, List.map_cons, List.sum_cons]
theorem key_eq {ss : List (Nat × List Bt.Bat)} (h : (ss.map (·.1)).Nodup) {p q : Nat × List Bt.Bat} (hp : p ∈ ss) (hq : q ∈ ss) (e : p.1 = q.1) : p = q := by
  induction ss with
  | nil => simp at hp
  | cons a r ih =>
    rw [List.map_cons, List.nodup_cons] at h
    rcases List.mem_cons.1 hp with rfl | hpr
    · rcases List.mem_cons.1 hq with rfl | hq
      · rfl
      · exact absurd (show p.1 ∈ r.map (·.1) from List.mem_map.2 ⟨q, hq, e.symm⟩) h.1
    · rcases List.mem_cons.1 hq with rfl | hq
      · exact absurd (show q.1 ∈ r.map (·.1) from List.mem_map.2 ⟨p, hpr, e⟩) h.1
      · exact ih h.2 hpr hq
section
variable {A : DA} {room : Nat} {dir : ByteArray} {ss ss0 : List (Nat × List Bt.Bat)} {p m : Nat × List Bt.Bat}
theorem LogDisk.fails (h : LogDisk A room dir ss) : A.fails = false := by unfold DA.fails; rw [h.lim]; rfl
theorem LogDisk.tick (h : LogDisk A room dir ss) : A.tick = A := by unfold DA.tick; rw [h.lim]; rfl
theorem LogDisk.find (h : LogDisk A room dir ss) (nm : List UInt8) : (A.file nm).map (fun f => (f.name, f.bytes)) = (ss.find? (fun p => nmL dir p.1 == nm)).map (fun p => (nmL dir p.1, flat p.2)) := by
  have h1 : (A.files.map (fun f => (f.name, f.bytes))).find? (fun q => q.1 == nm) = (A.file nm).map (fun f => (f.name, f.bytes)) := by
    rw [List.find?_map]; rfl
  have h2 : (ss.map (fun p => (nmL dir p.1, flat p.2))).find? (fun q => q.1 == nm) = (ss.find? (fun p => nmL dir p.1 == nm)).map (fun p => (nmL dir p.1, flat p.2)) := by
    rw [List.find?_map]; rfl
  rw [← h1, h.files, h2]
theorem LogDisk.find_mem (h : LogDisk A room dir ss) (hp : p ∈ ss) : ss.find? (fun q => nmL dir q.1 == nmL dir p.1) = some p := by
  cases hf : ss.find? (fun q => nmL dir q.1 == nmL dir p.1) with
  | none =>
    have := List.find?_eq_none.1 hf p hp
    simp at this
  | some q =>
    have h1 := List.find?_some hf
    have h2 := List.mem_of_find?_eq_some hf
    rw [beq_iff_eq] at h1
    rw [key_eq h.nd h2 hp (nmL_inj (h.base q h2) (h.base p hp) h1)]
theorem LogDisk.file (h : LogDisk A room dir ss) (hp : p ∈ ss) : ∃ f, A.file (nmL dir p.1) = some f ∧ f.bytes = flat p.2 := by
  have h1 := h.find (nmL dir p.1)
  rw [h.find_mem hp] at h1
  simp only [Option.map_some] at h1
  obtain ⟨f, hf, e⟩ := Option.map_eq_some_iff.1 h1
  exact ⟨f, hf, congrArg Prod.snd e⟩
theorem LogDisk.has (h : LogDisk A room dir ss) (hp : p ∈ ss) : A.has (nmL dir p.1) = true := by
  obtain ⟨f, hf, -⟩ := h.file hp
  rw [Dk.has_file, hf]; rfl
theorem LogDisk.hasn (h : LogDisk A room dir ss) {n : Nat} (hn : n ≤ 1099511627776) (hno : n ∉ ss.map (·.1)) : A.has (nmL dir n) = false := by
  have h1 := h.find (nmL dir n)
  have h2 : ss.find? (fun p => nmL dir p.1 == nmL dir n) = none := by
    rw [List.find?_eq_none]
    intro q hq
    simp only [beq_iff_eq]
    intro e
    exact hno (List.mem_map.2 ⟨q, hq, nmL_inj (h.base q hq) hn e⟩)
  rw [h2] at h1
  rw [Dk.has_file]
  cases hf : A.file (nmL dir n) with
  | none => rfl
  | some f => rw [hf] at h1; simp at h1
theorem LogDisk.len (h : LogDisk A room dir ss) : A.files.length = ss.length := by
  have := congrArg List.length h.files
  simpa using this
theorem LogDisk.used (h : LogDisk A room dir ss) : usedL A.files = (flat (batsL ss)).length := by
  rw [flat_batsL]
  have := congrArg (fun l : List (List UInt8 × List UInt8) => (l.map (fun q => q.2.length)).sum) h.files
  simpa [usedL, Function.comp_def] using this
theorem LogDisk.make (h : LogDisk A room dir ss) {n : Nat} (hn : n ≤ 1099511627776) (hno : n ∉ ss.map (·.1)) (hok : Dk.nameB (Sn.nameB dir n) = true) (hl : ss.length < 200) : (A.make (Sn.nameB dir n)).1 = 0 ∧ LogDisk (A.make (Sn.nameB dir n)).2 room dir (ss ++ [(n, [])]) := by
  have e : A.make (Sn.nameB dir n) = (0, { A.tick with files := A.files ++ [⟨(Sn.nameB dir n).data.toList, [], 0⟩] }) := by
    unfold DA.make
    rw [h.fails, hok, show A.has (Sn.nameB dir n).data.toList = false from h.hasn hn hno, h.len, if_neg (by simp), if_neg (by simp), if_neg (by simp), if_neg (by omega)]
  rw [e, h.tick]
  refine ⟨rfl, h.lim, h.room, ?_, fun q hq => ?_, ?_⟩
  · simp only [List.map_append, h.files, List.map_cons, List.map_nil]
    rfl
  · rcases List.mem_append.1 hq with hq | hq
    · exact h.base q hq
    · obtain rfl := List.mem_singleton.1 hq
      exact hn
  · rw [List.map_append, List.nodup_append]
    refine ⟨h.nd, by simp, fun a ha b hb => ?_⟩
    simp only [List.map_cons, List.map_nil, List.mem_singleton] at hb
    subst hb
    rintro rfl
    exact hno ha
theorem LogDisk.upd (h : LogDisk A room dir (ss0 ++ [m])) (g : FA → FA) (hg : ∀ f, (g f).name = f.name) (xs' : List Bt.Bat) (hb : ∀ f : FA, f.bytes = flat m.2 → (g f).bytes = flat xs') : LogDisk (A.upd (nmL dir m.1) g) room dir (ss0 ++ [(m.1, xs')]) := by
  refine ⟨h.lim, h.room, ?_, fun q hq => ?_, by have := h.nd; rw [List.map_append] at this ⊢; exact this⟩
  · have hfs := h.files
    have hm0 : ∀ q ∈ ss0, q.1 ≠ m.1 := fun q hq e => by
      have := h.nd
      rw [List.map_append, List.nodup_append] at this
      exact this.2.2 q.1 (List.mem_map.2 ⟨q, hq, rfl⟩) m.1 (by simp) e
    rw [List.map_append, List.map_singleton] at hfs
    obtain ⟨f0, f1, hf, h0, h1⟩ := List.map_eq_append_iff.1 hfs
    obtain ⟨f, f2, rfl, h2, h3⟩ := List.map_eq_cons_iff.1 h1
    obtain rfl := List.map_eq_nil_iff.1 h3
    unfold DA.upd Dk.setF
    rw [hf]
    have hfn : f.name = nmL dir m.1 := congrArg Prod.fst h2
    have hfb : f.bytes = flat m.2 := congrArg Prod.snd h2
    have hpre : f0.map (fun f => if f.name == nmL dir m.1 then g f else f) = f0 := by
      have : f0.map (fun f => if f.name == nmL dir m.1 then g f else f) = f0.map id := by
        apply List.map_congr_left
        intro x hx
        have hx2 : (x.name, x.bytes) ∈ ss0.map (fun p => (nmL dir p.1, flat p.2)) := by rw [← h0]; exact List.mem_map.2 ⟨x, hx, rfl⟩
        obtain ⟨q, hq, e⟩ := List.mem_map.1 hx2
        have e1 : nmL dir q.1 = x.name := congrArg Prod.fst e
        have : (x.name == nmL dir m.1) = false := by
          rw [beq_eq_false_iff_ne, ← e1]
          intro he
          exact hm0 q hq (nmL_inj (h.base q (by simp [hq])) (h.base m (by simp)) he)
        rw [this]; rfl
      rw [this, List.map_id]
    simp only [List.map_append, List.map_cons, List.map_nil]
    rw [hpre, h0, hfn]
    simp only [beq_self_eq_true, if_true]
    rw [hg f, hb f hfb, hfn]
  · rcases List.mem_append.1 hq with hq | hq
    · exact h.base q (by simp [hq])
    · obtain rfl := List.mem_singleton.1 hq
      exact h.base m (by simp)
theorem LogDisk.sync (h : LogDisk A room dir (ss0 ++ [m])) : (A.sync (nmL dir m.1)).1 = 0 ∧ LogDisk (A.sync (nmL dir m.1)).2 room dir (ss0 ++ [m]) := by
  have e : A.sync (nmL dir m.1) = (0, A.tick.upd (nmL dir m.1) (fun f => { f with safe := f.bytes.length })) := by
    unfold DA.sync
    rw [h.fails, h.has (p := m) (by simp), if_neg (by simp), if_neg (by simp)]
  rw [e, h.tick]
  exact ⟨rfl, h.upd (fun f => { f with safe := f.bytes.length }) (fun _ => rfl) m.2 (fun f hf => hf)⟩
theorem LogDisk.add (h : LogDisk A room dir (ss0 ++ [m])) (x : Bt.Bat) (hr : (flat (batsL (ss0 ++ [m]))).length + (Bt.encB x).length ≤ room) : (A.add (nmL dir m.1) (Bt.encB x)).1 = 0 ∧ LogDisk (A.add (nmL dir m.1) (Bt.encB x)).2 room dir (ss0 ++ [(m.1, m.2 ++ [x])]) := by
  have e : A.add (nmL dir m.1) (Bt.encB x) = (0, A.tick.upd (nmL dir m.1) (fun f => { f with bytes := f.bytes ++ Bt.encB x })) := by
    unfold DA.add
    rw [h.fails, h.has (p := m) (by simp), h.used, h.room, if_neg (by simp), if_neg (by simp), if_neg (by omega)]
  rw [e, h.tick]
  exact ⟨rfl, h.upd (fun f => { f with bytes := f.bytes ++ Bt.encB x }) (fun _ => rfl) (m.2 ++ [x]) (fun f hf => by rw [Sg.flat_append, Sg.flat_one, ← hf])⟩
end
end Go.Proofs.YthbhfhagbaommaaGreatDoor.Lg

/- What Add makes of a log on a disk that does not fail and has room. -/
namespace Go.Proofs.YthbhfhagbaommaaGreatDoor.Lg
open Go.RowKit Go.Maps
set_option linter.unusedSimpArgs false
set_option linter.unusedVariables false
open Dk (DA FA usedL)
open Sg (Chain flat nextOf)

structure GInv (A : DA) (room : Nat) (dir : ByteArray) (st n : Nat) (ss0 : List (Nat × List Bt.Bat)) (m : Nat × List Bt.Bat) : Prop where
  disk : LogDisk A room dir (ss0 ++ [m])
  chains : ∀ p ∈ ss0 ++ [m], Chain p.1 p.2
  chain : Chain st (batsL (ss0 ++ [m]))
  next : nextOf m.1 m.2 = n
  fins : ∀ x ∈ batsL (ss0 ++ [m]), x.fin ≤ n
  keys : ∀ p ∈ ss0, p.1 < m.1
  le : m.1 ≤ n
  st : st ≤ n
  srt : ((ss0 ++ [m]).map (·.1)).Pairwise (· < ·)
theorem nextOf_le : ∀ {xs : List Bt.Bat} {b n : Int}, b ≤ n → (∀ x ∈ xs, x.fin ≤ n) → nextOf b xs ≤ n
  | [], b, n, h, _ => by simpa [nextOf] using h
  | x :: r, b, n, h, hf => by
    rw [Sg.nextOf_cons]
    exact nextOf_le (hf x (by simp)) (fun y hy => hf y (by simp [hy]))
theorem batsL_snoc (ss0 : List (Nat × List Bt.Bat)) (m : Nat × List Bt.Bat) : batsL (ss0 ++ [m]) = batsL ss0 ++ m.2 := by
  unfold batsL
  rw [List.flatMap_append]
  simp
theorem GInv.ok {A : DA} {room : Nat} {dir : ByteArray} {st n : Nat} {ss0 : List (Nat × List Bt.Bat)} {m : Nat × List Bt.Bat} (h : GInv A room dir st n ss0 m) (hl : (ss0 ++ [m]).length ≤ 1000) : OkS A dir (ss0 ++ [m]) :=
  ⟨h.disk.base, fun p hp => h.disk.file hp, h.chains, hl⟩
section
variable {A : DA} {room : Nat} {dir : ByteArray} {st n : Nat} {ss0 : List (Nat × List Bt.Bat)} {m : Nat × List Bt.Bat} {v : LV} {x : Bt.Bat}
/-- A batch put into the last segment. -/
theorem GInv.put (h : GInv A room dir st n ss0 m) (hx : Bt.encErr x = 0) (hb : x.base = n) {n' : Nat} (hf : x.fin = n') (hr : (flat (batsL (ss0 ++ [m]))).length + (Bt.encB x).length ≤ room) (v : LV) :
    ∃ A', putS A dir v ss0 m x = (0, A', v, ss0 ++ [(m.1, m.2 ++ [x])]) ∧ GInv A' room dir st n' ss0 (m.1, m.2 ++ [x]) ∧ batsL (ss0 ++ [(m.1, m.2 ++ [x])]) = batsL (ss0 ++ [m]) ++ [x] := by
  obtain ⟨h1, h2⟩ := h.disk.add x hr
  have hlt := bat_lt hx
  have hnn : n < n' := by omega
  have hbl : batsL (ss0 ++ [(m.1, m.2 ++ [x])]) = batsL (ss0 ++ [m]) ++ [x] := by rw [batsL_snoc, batsL_snoc, List.append_assoc]
  refine ⟨_, ?_, ⟨h2, fun p hp => ?_, ?_, ?_, fun y hy => ?_, h.keys, by have := h.le; simp only; omega, by have := h.st; omega, by have := h.srt; rw [List.map_append] at this ⊢; exact this⟩, hbl⟩
  · unfold putS
    rw [show A.add (Sn.nameB dir m.1).data.toList (Bt.encB x) = A.add (nmL dir m.1) (Bt.encB x) from rfl, h1, if_pos rfl]
  · rcases List.mem_append.1 hp with hp | hp
    · exact h.chains p (by simp [hp])
    · obtain rfl := List.mem_singleton.1 hp
      exact Sg.chain_snoc (h.chains m (by simp)) hx (by rw [h.next, hb]; exact Int.le_refl _)
  · rw [hbl]
    exact Sg.chain_snoc h.chain hx (by rw [hb]; exact nextOf_le (by have := h.st; omega) h.fins)
  · simp only
    rw [Sg.nextOf_snoc, hf]
  · rw [hbl] at hy
    rcases List.mem_append.1 hy with hy | hy
    · have := h.fins y hy; omega
    · obtain rfl := List.mem_singleton.1 hy
      omega
/-- A new segment at the end. -/
theorem GInv.roll (h : GInv A room dir st n ss0 m) (hn : n ≤ 1099511627776) (hz : 0 < (flat m.2).length) (hok : Dk.nameB (Sn.nameB dir n) = true) (hl : (ss0 ++ [m]).length < 200) (v : LV) :
    ∃ A', rollS A dir v n m (ss0 ++ [m]) = (0, A', { v with safe := (n : Int) }, ss0 ++ [m] ++ [(n, [])]) ∧ GInv A' room dir st n (ss0 ++ [m]) (n, []) ∧ batsL (ss0 ++ [m] ++ [(n, [])]) = batsL (ss0 ++ [m]) := by
  obtain ⟨h1, h2⟩ := h.disk.sync
  have hmn : m.1 < n := by
    cases hm2 : m.2 with
    | nil => rw [hm2] at hz; simp [flat] at hz
    | cons y r =>
      have hc := h.chains m (by simp)
      rw [hm2] at hc
      have h3 := Sg.chain_fin hc y (by simp)
      have h4 := h.fins y (by rw [batsL_snoc, hm2]; simp)
      omega
  have hno : n ∉ (ss0 ++ [m]).map (·.1) := by
    intro hc
    obtain ⟨p, hp, e⟩ := List.mem_map.1 hc
    rcases List.mem_append.1 hp with hp | hp
    · have := h.keys p hp; omega
    · obtain rfl := List.mem_singleton.1 hp
      omega
  obtain ⟨h3, h4⟩ := h2.make hn hno hok hl
  have hbl : batsL (ss0 ++ [m] ++ [(n, [])]) = batsL (ss0 ++ [m]) := by rw [batsL_snoc, List.append_nil]
  refine ⟨_, ?_, ⟨h4, fun p hp => ?_, ?_, by simp [nextOf], ?_, fun p hp => ?_, Nat.le_refl _, h.st, ?_⟩, hbl⟩
  · unfold rollS beginS
    rw [show A.sync (Sn.nameB dir m.1).data.toList = A.sync (nmL dir m.1) from rfl, if_pos h1, h3, if_pos rfl]
  · rcases List.mem_append.1 hp with hp | hp
    · exact h.chains p hp
    · obtain rfl := List.mem_singleton.1 hp
      trivial
  · rw [hbl]; exact h.chain
  · rw [hbl]; exact h.fins
  · simp only
    rcases List.mem_append.1 hp with hp | hp
    · have := h.keys p hp; omega
    · obtain rfl := List.mem_singleton.1 hp
      exact hmn
  · rw [List.map_append, List.pairwise_append]
    refine ⟨h.srt, by simp, fun a ha b hb => ?_⟩
    obtain rfl : b = n := by simpa using hb
    obtain ⟨p, hp, rfl⟩ := List.mem_map.1 ha
    rcases List.mem_append.1 hp with hp | hp
    · have := h.keys p hp; omega
    · obtain rfl := List.mem_singleton.1 hp
      exact hmn
theorem encErr_few (x : Bt.Bat) : Bt.encErr x ≠ 14 := by
  have hrec : ∀ (rs : List Bt.Rec) (lo hi : Int), Bt.recsErr rs lo hi ≤ 4 := by
    intro rs
    induction rs with
    | nil => intro lo hi; simp [Bt.recsErr]
    | cons r rs ih =>
      intro lo hi
      unfold Bt.recsErr
      split
      · exact ih _ _
      · unfold Bt.recErr
        split
        · omega
        · split
          · omega
          · split <;> omega
  have hc : Bt.chk x ≤ 4 := by
    unfold Bt.chk
    split
    · omega
    · split
      · omega
      · split
        · omega
        · exact hrec _ _ _
  unfold Bt.encErr
  split
  · split <;> omega
  · omega
/-- Add, where the batch has bytes. -/
theorem GInv.add (h : GInv A room dir st n ss0 m) (hn : n ≤ 1099511627776) (rs : List Bt.Rec) (hx : Bt.encErr (batOf n rs) = 0) (hok : Dk.nameB (Sn.nameB dir n) = true) (hl : (ss0 ++ [m]).length < 200) (hr : (flat (batsL (ss0 ++ [m]))).length + (Bt.encB (batOf n rs)).length ≤ room) (v : LV) :
    ∃ A' v' ss0' m', AddS A dir v n ss0 m rs = (0, A', v', ss0' ++ [m']) ∧ v'.start = v.start ∧ v'.most = v.most ∧ v'.down = v.down ∧ GInv A' room dir st (n + rs.length) ss0' m' ∧ batsL (ss0' ++ [m']) = batsL (ss0 ++ [m]) ++ [batOf n rs] ∧ ss0'.length ≤ ss0.length + 1 := by
  unfold AddS addS
  rw [if_neg (by rw [hx]; simp)]
  have hno : ∀ w : LV, noteV 0 w = w := fun w => by unfold noteV; rw [if_neg (by omega)]
  by_cases hc : 0 < (flat m.2).length ∧ v.most < ((flat m.2).length + (Bt.encB (batOf n rs)).length : Nat)
  · rw [if_pos hc]
    obtain ⟨A1, e1, g1, b1⟩ := h.roll hn hc.1 hok hl v
    rw [e1, if_neg (fun hc2 => hc2 rfl)]
    obtain ⟨A2, e2, g2, b2⟩ := g1.put (x := batOf n rs) hx rfl (n' := n + rs.length) (by show ((n : Int) + rs.length) = _; omega) (by rw [b1]; exact hr) { v with safe := (n : Int) }
    simp only
    rw [e2]
    exact ⟨A2, { v with safe := (n : Int) }, _, _, by rw [hno], rfl, rfl, rfl, g2, by rw [b2, b1], by simp⟩
  · rw [if_neg hc]
    obtain ⟨A2, e2, g2, b2⟩ := h.put (x := batOf n rs) hx rfl (n' := n + rs.length) (by show ((n : Int) + rs.length) = _; omega) hr v
    rw [e2]
    exact ⟨A2, v, _, _, by rw [hno], rfl, rfl, rfl, g2, b2, by omega⟩
/-- Add, where it has none. -/
theorem add_none (rs : List Bt.Rec) (hx : Bt.encErr (batOf n rs) ≠ 0) (v : LV) : AddS A dir v n ss0 m rs = (Bt.encErr (batOf n rs), A, v, ss0 ++ [m]) := by
  unfold AddS addS
  rw [if_pos hx]
  simp only
  unfold noteV
  rw [if_neg (encErr_few _)]
end
end Go.Proofs.YthbhfhagbaommaaGreatDoor.Lg
