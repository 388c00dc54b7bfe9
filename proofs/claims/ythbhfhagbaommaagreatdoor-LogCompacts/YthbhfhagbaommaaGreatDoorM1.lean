/- Turn, Mem, Disk, Used, Nm, Ops, Ops2, Add, KeepA, RestA, Args, Sl, Num, Crc: texts merged. -/
import Derived.WalkKit
import Derived.WalkSpells
import Derived.WalkLawsBesides
import Derived.Maps.OwnSet
import Derived.Maps.RangeWalk
import Derived.Laws.AppendOwnNone
import Derived.Test.YthbhfhagbaommaaGreatDoorProg
import Derived.Sort.KeysCollected
import Derived.Sort.MapsRangeIn
import Derived.Deep.RegionWith
import Derived.Deep.DeepMust
/- What a call may have turned: a list of blocks; rows of bytes with slack behind their capacity; append onto such a row. No program. -/
namespace Go.Proofs.YthbhfhagbaommaaGreatDoor
open Go.RowKit

theorem ret_bool {a b : Bool} (h : a = b) : Ending.returned (.bool a) = .returned (.bool b) := by rw [h]
theorem ret_int {k : IntKind} {a b : Int} (h : a = b) : Ending.returned (.int k a) = .returned (.int k b) := by rw [h]

/-- Of what was there when the call began only the blocks of a list may have turned. -/
structure Turn (S : List Nat) (w w' : World) : Prop where
  os : w'.os = w.os
  tape : w'.tape = w.tape
  output : w'.output = w.output
  size : w.heap.size ≤ w'.heap.size
  block : ∀ k, k < w.heap.size → k ∉ S → w'.heap[k]? = w.heap[k]?

theorem Turn.refl (S : List Nat) (w : World) : Turn S w w := ⟨rfl, rfl, rfl, Nat.le_refl _, fun _ _ _ => rfl⟩
theorem Turn.trans {S T : List Nat} {a b c : World} (h : Turn S a b) (k : Turn T b c) (hT : ∀ x ∈ T, x ∈ S ∨ a.heap.size ≤ x) : Turn S a c :=
  ⟨k.os.trans h.os, k.tape.trans h.tape, k.output.trans h.output, Nat.le_trans h.size k.size, fun i hi hn =>
    (k.block i (Nat.lt_of_lt_of_le hi h.size) (fun hm => (hT i hm).elim hn (by omega))).trans (h.block i hi hn)⟩
theorem Turn.same {S : List Nat} {a b c : World} (h : Turn S a b) (k : Turn S b c) : Turn S a c := h.trans k (fun _ hx => .inl hx)
theorem Turn.mono {S T : List Nat} {a b : World} (h : Turn S a b) (hs : ∀ x ∈ S, x ∈ T ∨ a.heap.size ≤ x) : Turn T a b :=
  (Turn.refl T a).trans h hs
theorem Turn.alloc {S : List Nat} {a w : World} (h : Turn S a w) (o : Obj) : Turn S a (w.alloc o) :=
  h.trans (T := []) ⟨rfl, rfl, rfl, by simp, fun k hk _ => Below.heap_alloc _ _ _ hk⟩ (by simp)
theorem Turn.setCell {S : List Nat} {a w : World} (h : Turn S a w) {p : Addr} (hp : p.block ∈ S ∨ a.heap.size ≤ p.block) (u : Value) : Turn S a (w.setCell p u) :=
  h.trans (T := [p.block]) ⟨rfl, rfl, rfl, by simp [World.setCell], fun k _ hk => Below.heap_setCell _ _ _ _ (by simpa using hk)⟩ (by simpa using hp)
theorem Turn.drew {S : List Nat} {a w : World} (h : Turn S a w) : Turn S a w.drew := ⟨h.os, h.tape, h.output, h.size, h.block⟩
theorem Turn.drewN {S : List Nat} {a w : World} (h : Turn S a w) (n : Nat) : Turn S a (w.drewN n) := ⟨h.os, h.tape, h.output, h.size, h.block⟩
theorem Turn.grown {S : List Nat} {a w w' : World} {row : Option Nat} (h : Turn S a w) (hg : w.grownBy w' row) (hr : ∀ k, row = some k → k ∈ S ∨ a.heap.size ≤ k) : Turn S a w' :=
  h.trans (T := row.toList) ⟨hg.os, hg.tape, hg.output, hg.size, fun k hk hn => hg.block k hk (fun e => hn (by simp [← e]))⟩ (by intro x hx; cases row <;> simp at hx; exact hr _ (by simp [hx]))
theorem Turn.of_below {w w' : World} (h : Below w.heap.size w w') (S : List Nat) : Turn S w w' := ⟨h.os, h.tape, h.output, h.size, fun k hk _ => h.block k hk⟩
theorem Turn.below {S : List Nat} {w w' : World} (h : Turn S w w') {B : Nat} (hB : ∀ x ∈ S, B ≤ x) (hw : B ≤ w.heap.size) : Below B w w' :=
  ⟨h.os, h.tape, h.output, h.size, fun k hk => h.block k (by omega) (fun hm => by have := hB k hm; omega)⟩
theorem Turn.nil {w w' : World} (h : Turn [] w w') : Below w.heap.size w w' := h.below (by simp) (Nat.le_refl _)
theorem Turn.heap {S : List Nat} {w w' : World} (h : Turn S w w') {k : Nat} {o : Obj} (hk : w.heap[k]? = some o) (hn : k ∉ S) : w'.heap[k]? = some o :=
  (h.block k (Array.getElem?_eq_some_iff.1 hk).1 hn).trans hk
theorem Turn.grownBy {S : List Nat} {w w' : World} (h : Turn S w w') {k : Nat} (hk : ∀ x ∈ S, x = k) : w.grownBy w' (some k) :=
  ⟨h.os, h.tape, h.output, h.size, fun i hi hn => h.block i hi (fun hm => hn (by rw [hk i hm]))⟩

theorem lt_of_heap {w : World} {k : Nat} {o : Obj} (h : w.heap[k]? = some o) : k < w.heap.size := (Array.getElem?_eq_some_iff.1 h).1

/-- A cell of a block that is written out. -/
theorem cell_of {w : World} {b : Nat} {cs : Array Value} {t : TypeId} {fr : Nat × Nat} (h : w.heap[b]? = some (.cells cs t fr)) (i : Nat) : w.cell? ⟨b, i, none⟩ = cs[i]? := by
  simp [World.cell?, h]
theorem frozen_of {w : World} {b : Nat} {cs : Array Value} {t : TypeId} (h : w.heap[b]? = some (.cells cs t (0, 0))) (i : Nat) : w.frozen? ⟨b, i, none⟩ = false := by
  simp [World.frozen?, h]
theorem heap_set {w : World} {b : Nat} {cs : Array Value} {t : TypeId} {fr : Nat × Nat} (h : w.heap[b]? = some (.cells cs t fr)) (i : Nat) (u : Value) : (w.setCell ⟨b, i, none⟩ u).heap[b]? = some (.cells (cs.setIfInBounds i u) t fr) := by
  simp [World.setCell, Array.getElem?_modify, h]
theorem heap_new (w : World) (o : Obj) : (w.alloc o).heap[w.heap.size]? = some o := heap_alloc_new w o

/-- A byte as a value. -/
def encB (b : UInt8) : Value := .int .u8 b.toNat

/-- A slice of bytes with a block of its own, from its beginning on; behind its capacity the block may go on. -/
def RowAt (w : World) (e base : Nat) (sl : Value) (bs : List UInt8) : Prop :=
  (sl = .slice none 0 0 ∧ bs = []) ∨
  ∃ g cap cur, sl = .slice (some ⟨g, 0, none⟩) bs.length cap ∧ base ≤ g ∧ w.heap[g]? = some (.cells cur e (0, 0)) ∧ bs.length ≤ cap ∧ cap ≤ cur.size ∧ cap ≤ maxLen ∧ cur.toList.take bs.length = bs.map encB

theorem RowAt.kept {w w' : World} {e base : Nat} {sl : Value} {bs : List UInt8} {S : List Nat} (h : RowAt w e base sl bs) (ht : Turn S w w') (hn : ∀ k ∈ sl.ownBlock, k ∉ S) : RowAt w' e base sl bs := by
  rcases h with h | ⟨g, cap, cur, rfl, hb, hg, r⟩
  · exact .inl h
  · exact .inr ⟨g, cap, cur, rfl, hb, ht.heap hg (hn g (by simp [Value.ownBlock])), r⟩
theorem RowAt.lt {w : World} {e base : Nat} {sl : Value} {bs : List UInt8} (h : RowAt w e base sl bs) : ∀ k ∈ sl.ownBlock, base ≤ k ∧ k < w.heap.size := by
  intro k hk
  rcases h with ⟨rfl, _⟩ | ⟨g, cap, cur, rfl, hb, hg, r⟩
  · simp [Value.ownBlock] at hk
  · simp [Value.ownBlock] at hk; subst hk; exact ⟨hb, lt_of_heap hg⟩
theorem RowAt.form {w : World} {e base : Nat} {sl : Value} {bs : List UInt8} (h : RowAt w e base sl bs) : ∃ a c, sl = .slice a bs.length c ∧ bs.length ≤ c ∧ c ≤ maxLen := by
  rcases h with ⟨rfl, rfl⟩ | ⟨g, cap, cur, rfl, hb, hg, h1, h2, h3, r⟩
  · exact ⟨_, _, rfl, by simp, by simp [maxLen]⟩
  · exact ⟨_, _, rfl, h1, h3⟩
/-- The cells of a slice that is told by its values. -/
def SliceAt (w : World) (v : Value) (xs : List Value) : Prop :=
  (v = .slice none 0 0 ∧ xs = []) ∨ ∃ a cap, v = .slice (some a) xs.length cap ∧ ∀ j u, xs[j]? = some u → w.cell? (a.add j) = some u
theorem addr_add (g j : Nat) : (⟨g, 0, none⟩ : Addr).add j = ⟨g, j, none⟩ := by unfold Addr.add; split <;> simp_all
theorem RowAt.cells {w : World} {e base : Nat} {sl : Value} {bs : List UInt8} (h : RowAt w e base sl bs) : SliceAt w sl (bs.map encB) := by
  rcases h with ⟨rfl, rfl⟩ | ⟨g, cap, cur, rfl, hb, hg, h1, h2, h3, h4⟩
  · exact .inl ⟨rfl, rfl⟩
  · refine .inr ⟨⟨g, 0, none⟩, cap, by simp, fun j u hu => ?_⟩
    rw [addr_add, cell_of hg, ← h4, List.getElem?_take] at *
    split at hu
    · simpa using hu
    · cases hu
theorem SliceAt.kept {w w' : World} {v : Value} {xs : List Value} {S : List Nat} (h : SliceAt w v xs) (ht : Turn S w w') (hn : ∀ k ∈ v.ownBlock, k ∉ S) : SliceAt w' v xs := by
  rcases h with h | ⟨a, cap, rfl, hc⟩
  · exact .inl h
  · refine .inr ⟨a, cap, rfl, fun j u hu => ?_⟩
    have hb : (a.add j).block = a.block := by unfold Addr.add; split <;> rfl
    have hlt := World.block_lt_of_cell? w _ (hc j u hu)
    rw [World.cell?_of_block (w := w) (ht.block _ hlt (by rw [hb]; exact hn _ (by simp [Value.ownBlock]))), hc j u hu]
theorem SliceAt.kept_below {w w' : World} {v : Value} {xs : List Value} {B : Nat} (h : SliceAt w v xs) (ht : Below B w w') (hn : ∀ k ∈ v.ownBlock, k < B) : SliceAt w' v xs := by
  rcases h with h | ⟨a, cap, rfl, hc⟩
  · exact .inl h
  · refine .inr ⟨a, cap, rfl, fun j u hu => ?_⟩
    have hb : (a.add j).block = a.block := by unfold Addr.add; split <;> rfl
    rw [ht.cell (by rw [hb]; exact hn _ (by simp [Value.ownBlock])), hc j u hu]

theorem one_encB (bs : List UInt8) : ∀ u ∈ bs.map encB, u.oneCell' = true := by
  intro u hu; obtain ⟨b, _, rfl⟩ := List.mem_map.1 hu; rfl

variable {P : Program} (w : World)

/-- APPEND of bytes onto such a row: what comes out is one again, in the same block or in a new one. -/
theorem run_append_row (t ty e base : Nat) (i : TypeInfo) (ht : P.underlying t = some (.slice e)) (hi : P.info? e = some i) (hz : i.zero = some (.int .u8 0)) (hsize : i.size = 1) (hby : i.bytes = 1)
    (v x : Value) (bs cs : List UInt8) (hrow : RowAt w e base v bs) (hx : SliceAt w x (cs.map encB)) (hlen : bs.length + cs.length ≤ 1099511627776) (hbase : base ≤ w.heap.size) :
    ∃ v' w', (Builtin.append_ #[t, t] ty #[v, x]).run P w = .ok v' w' ∧ RowAt w' e base v' (bs ++ cs) ∧ Turn v.ownBlock.toList w w' ∧ (∀ k ∈ v'.ownBlock, k ∈ v.ownBlock ∨ w.heap.size ≤ k) := by
  have hmax : maxLen = 9223372036854775807 := by simp [maxLen]
  have new : ∀ old : Nat, old < bs.length + cs.length → RowAt (w.drew.alloc (.cells ((bs.map encB).toArray ++ (cs.map encB).toArray ++ Builtin.zeroCells (Value.cells (.int .u8 0)) (grownCap w (bs.length + cs.length) old e - (bs.length + cs.length))) e)) e base
      (.slice (some ⟨w.heap.size, 0, none⟩) (bs.length + cs.length) (grownCap w (bs.length + cs.length) old e)) (bs ++ cs) ∧
      Turn v.ownBlock.toList w (w.drew.alloc (.cells ((bs.map encB).toArray ++ (cs.map encB).toArray ++ Builtin.zeroCells (Value.cells (.int .u8 0)) (grownCap w (bs.length + cs.length) old e - (bs.length + cs.length))) e)) := by
    intro old ho
    have hge := grownCap_ge w (bs.length + cs.length) old e
    have hcm := grownCap_le_maxLen w (bs.length + cs.length) old e (by rw [hmax]; omega)
    refine ⟨.inr ⟨w.heap.size, _, _, by simp, hbase, heap_new w.drew _, by simpa using hge, ?_, hcm, ?_⟩, ((Turn.refl _ _).drew).alloc _⟩
    · simp only [Array.size_append, List.size_toArray, List.length_map, size_zeroCells, Value.cells]
      simp; omega
    · simp only [Array.toList_append]
      rw [List.take_append_of_le_length (by simp)]
      rw [List.take_of_length_le (by simp)]
      simp
  rcases hx with ⟨rfl, hcs⟩ | ⟨a, c, rfl, hnews⟩
  · have hcs' : cs = [] := by simpa using hcs
    subst hcs'
    rcases hrow with ⟨rfl, rfl⟩ | ⟨g, cap, cur, rfl, hb, hg, h1, h2, h3, h4⟩
    · exact ⟨.slice none 0 0, w, by simp [Builtin.append_, run_underlying ht, sizeOf, typeInfo, hi, Builtin.lenOf, Builtin.firstCells], .inl ⟨rfl, rfl⟩, Turn.refl _ _, by simp [Value.ownBlock]⟩
    · refine ⟨.slice (some ⟨g, 0, none⟩) bs.length cap, w, ?_, by simpa using .inr ⟨g, cap, cur, rfl, hb, hg, h1, h2, h3, h4⟩, Turn.refl _ _, by simp [Value.ownBlock]⟩
      simp [Builtin.append_, run_underlying ht, sizeOf, typeInfo, hi, Builtin.lenOf, Builtin.firstCells, h1, storeCells]
  · simp only [List.length_map] at hnews ⊢
    have hl : (cs.map encB).length = cs.length * i.size := by simp [hsize]
    rcases hrow with ⟨rfl, rfl⟩ | ⟨g, cap, cur, rfl, hb, hg, h1, h2, h3, h4⟩
    · by_cases h0 : cs.length = 0
      · have : cs = [] := List.eq_nil_of_length_eq_zero h0
        subst this
        exact ⟨.slice none 0 0, w, by simp [Builtin.append_, run_underlying ht, sizeOf, typeInfo, hi, Builtin.lenOf, Builtin.firstCells, loadCells, loadCellsFrom], .inl ⟨rfl, rfl⟩, Turn.refl _ _, by simp [Value.ownBlock]⟩
      · have hr := run_append_nil (P := P) w t ty e i _ ht hi hz a cs.length c (cs.map encB) hl hnews (by omega) (by simp at hlen; omega) (by rw [hby]; simp at hlen; omega)
        have hn := new 0 (by simp; omega)
        simp only [List.length_nil, Nat.zero_add, List.map_nil, List.nil_append] at hn
        refine ⟨_, _, hr, ?_, ?_, by simp [Value.ownBlock]⟩
        · simpa using hn.1
        · simpa using hn.2
    · by_cases hroom : bs.length + cs.length ≤ cap
      · have hr := run_append_room (P := P) w t ty e i ht hi g bs.length cap cur hg a cs.length c (cs.map encB) hl hnews (one_encB cs) hroom (by rw [hsize]; simp; omega)
        refine ⟨_, _, hr, .inr ⟨g, cap, _, by simp, hb, setRow_heap w g cur _ e _ hg, by simpa using hroom, ?_, h3, ?_⟩, ⟨rfl, rfl, rfl, by simp, fun k _ hk => setRow_other w g k _ (fun e => hk (by simp [Value.ownBlock, e]))⟩, by simp [Value.ownBlock]⟩
        · simp [hsize]; omega
        · simp only [hsize, Nat.mul_one, h4, List.append_assoc]
          rw [← List.append_assoc, List.take_append_of_le_length (by simp), List.take_of_length_le (by simp)]
          simp
      · have holds : ∀ j u, (bs.map encB)[j]? = some u → w.cell? ((⟨g, 0, none⟩ : Addr).add j) = some u := by
          intro j u hu
          rw [addr_add, cell_of hg]
          rw [← h4, List.getElem?_take] at hu
          split at hu
          · simpa using hu
          · cases hu
        have hr := run_append_grow (P := P) w t ty e i _ ht hi hz ⟨g, 0, none⟩ bs.length cap (bs.map encB) (by simp [hsize]) holds a cs.length c (cs.map encB) hl hnews (by omega) (by omega) (growslice_fits (by omega) (by rw [hby]; omega))
        have hn := new cap (by omega)
        exact ⟨_, _, hr, hn.1, hn.2, by simp [Value.ownBlock]⟩

theorem wpList_append_row {ops : Array Oper} {rest : List Oper} {o : Oper} {a : Act} {Q : Exit → Act → World → Prop} (hgd : o.guard = none) (s x : Operand) (t : TypeId)
    (ho : o.op = .call { callee := .builtin .append, args := #[s, x], argTypes := #[t, t] })
    (e base : Nat) (i : TypeInfo) (ht : P.underlying t = some (.slice e)) (hi : P.info? e = some i) (hz : i.zero = some (.int .u8 0)) (hsize : i.size = 1) (hby : i.bytes = 1)
    (v xv : Value) (bs cs : List UInt8) (hs : a.eval s = v) (hxe : a.eval x = xv) (hrow : RowAt w e base v bs) (hx : SliceAt w xv (cs.map encB)) (hlen : bs.length + cs.length ≤ 1099511627776) (hbase : base ≤ w.heap.size)
    (h : ∀ v' w', RowAt w' e base v' (bs ++ cs) → Turn v.ownBlock.toList w w' → (∀ k ∈ v'.ownBlock, k ∈ v.ownBlock ∨ w.heap.size ≤ k) → wpList P ops Q rest (a.put o.dst v') w') : wpList P ops Q (o :: rest) a w := by
  refine wpList_plain hgd fun _ hK => ?_
  obtain ⟨v', w', hr, h2, h3, h4⟩ := run_append_row (P := P) w t o.type e base i ht hi hz hsize hby v xv bs cs hrow hx hlen hbase
  unfold Oper.wp execOp
  simp only [ho, resolve, invoke, builtin, Sem.run_bind, Sem.run_pure, Result.andThen_ok, List.map_toArray, List.map_cons, List.map_nil, hs, hxe, hr]
  exact hK _ _ (h v' w' h2 h3 h4)

end Go.Proofs.YthbhfhagbaommaaGreatDoor

/- The disk in memory: its struct, its map from names to files, each file's struct, each file's bytes. And what it means: names, bytes, how many are safe. -/
namespace Go.Proofs.YthbhfhagbaommaaGreatDoor.Dk
open Go.RowKit Go.Maps
set_option maxRecDepth 100000

/-- A file: its name, its bytes, how many are safe. -/
structure FA where
  name : List UInt8
  bytes : List UInt8
  safe : Nat
/-- A disk: how many bytes it may have, its files, and how many operations more are done. -/
structure DA where
  room : Nat
  files : List FA
  limited : Bool
  left : Int
/-- A file in memory: the block of its struct, its slice. -/
structure FileM where
  abs : FA
  blk : Nat
  sl : Value
def FileM.foot (m : FileM) : List Nat := m.blk :: m.sl.ownBlock.toList

def ptrOf : Option FileM → Value
  | some m => .pointer (some ⟨m.blk, 0, none⟩)
  | none => .pointer none
/-- How an element of the map reads: the number of its block. -/
def ptrR (v : Value) : Option (DataW Unit × List MemPlace) :=
  match v with
  | .pointer (some ⟨b, 0, none⟩) => some (.lit (.int .i64 b), [])
  | .pointer none => some (.nil, [])
  | _ => none
theorem ptrR_inv {v : Value} {b : Nat} {ps : List MemPlace} (h : ptrR v = some (.lit (.int .i64 (b : Int)), ps)) : v = .pointer (some ⟨b, 0, none⟩) := by
  unfold ptrR at h
  split at h
  · simp at h; obtain ⟨e, _⟩ := h; rw [Int.ofNat_inj.1 e]
  · simp at h
  · cases h
theorem ptrR_nil {v : Value} {ps : List MemPlace} (h : ptrR v = some (.nil, ps)) : v = .pointer none := by
  unfold ptrR at h
  split at h
  · simp at h
  · rfl
  · cases h

def findM (ms : List FileM) (nm : List UInt8) : Option FileM := ms.find? (fun m => m.abs.name == nm)
def blkD (o : Option FileM) (z : DataW Unit) : DataW Unit := match o with
  | some m => .lit (.int .i64 m.blk)
  | none => z

theorem law : Keyed Tryz.prog 9 := string_keyed Tryz.underlying9
theorem zeroP (w : World) : (zeroValue 112).run Tryz.prog w = .ok (.pointer none) w := by kernel_rfl

/-- The map reads as these files' blocks. -/
def Reads (D : DataW Unit) (ms : List FileM) : Prop := size D = ms.length ∧ ∀ nm z, D.atKey (.string nm) z = blkD (findM ms nm) z
def MapAt (w : World) (mref : Option Nat) (ms : List FileM) : Prop :=
  match mref with
  | none => ms = []
  | some mb => ∃ D : DataW Unit, w.ownsMap Tryz.prog 9 ptrR mb ms.length D ∧ Reads D ms

theorem ownsMap_turn {w w' : World} {P : Program} {k : TypeId} {R : Value → Option (DataW Unit × List MemPlace)} {b n : Nat} {D : DataW Unit} {S : List Nat} (h : w.ownsMap P k R b n D) (ht : Turn S w w') (hn : b ∉ S) : w'.ownsMap P k R b n D := by
  obtain ⟨es, clock, hb, r⟩ := h
  exact ⟨es, clock, ht.heap hb hn, r⟩
theorem ownsMap_tight {w : World} {P : Program} {k : TypeId} {R : Value → Option (DataW Unit × List MemPlace)} {b n : Nat} {D : DataW Unit} (h : w.ownsMap P k R b n D) : w.ownsMap P k R b (size D) D := by
  obtain ⟨es, clock, hb, F, hs, rfl⟩ := h
  exact ⟨es, clock, hb, F, by simp [size, length_sorted], rfl⟩
theorem MapAt.kept {w w' : World} {mref : Option Nat} {ms : List FileM} {S : List Nat} (h : MapAt w mref ms) (ht : Turn S w w') (hn : ∀ k ∈ mref, k ∉ S) : MapAt w' mref ms := by
  cases mref with
  | none => exact h
  | some mb => obtain ⟨D, h1, h2⟩ := h; exact ⟨D, ownsMap_turn h1 ht (hn mb rfl), h2⟩
theorem MapAt.lt {w : World} {mref : Option Nat} {ms : List FileM} (h : MapAt w mref ms) : ∀ k ∈ mref, k < w.heap.size := by
  intro k hk
  cases mref with
  | none => simp at hk
  | some mb => obtain ⟨D, h1, _⟩ := h; simp at hk; subst hk; exact h1.lt

theorem keyS {s : ByteArray} (hs : s.size ≤ maxLen) : keyOf Tryz.prog 9 (.string s) = some (.string s.data.toList) := Go.WideMaps.keyOf_string_mk Tryz.underlying9 hs

/-- m[name] -/
theorem MapAt.look {w : World} {mref : Option Nat} {ms : List FileM} (h : MapAt w mref ms) {s : ByteArray} (hs : s.size ≤ maxLen) :
    (Instr.lookup 57 (.map mref) (.string s) false).run Tryz.prog w = .ok (ptrOf (findM ms s.data.toList)) w := by
  cases mref with
  | none =>
    have h' : ms = [] := h
    subst h'
    exact Maps.look_nil false law Tryz.underlying57 (zeroP w) (keyS hs)
  | some mb =>
    obtain ⟨D, h1, h2, h3⟩ := h
    obtain ⟨v, ps, hrun, hv⟩ := h1.lookup law Tryz.underlying57 (zeroP w) (zd := .nil) (zp := []) rfl (keyS hs)
    rw [hrun]
    rw [h3] at hv
    congr 1
    cases hf : findM ms s.data.toList with
    | none => rw [hf] at hv; exact ptrR_nil hv
    | some m => rw [hf] at hv; exact ptrR_inv hv
/-- len(m) -/
theorem MapAt.len {w : World} {mref : Option Nat} {ms : List FileM} (h : MapAt w mref ms) (ty : TypeId) :
    (Builtin.len_ #[57] ty #[.map mref]).run Tryz.prog w = .ok (.int .i64 ms.length) w := by
  cases mref with
  | none =>
    have h' : ms = [] := h
    subst h'
    exact Maps.len_nil Tryz.underlying57 ty
  | some mb =>
    obtain ⟨D, h1, h2, h3⟩ := h
    rw [h1.len Tryz.underlying57 ty, h2]

theorem isKey (nm : List UInt8) : WideAt.IsKeyLit (.string nm) := trivial
theorem lit_ne {a b : List UInt8} (h : a ≠ b) : (Lit.string a) ≠ Lit.string b := by simpa using h
theorem has_of_reads {D : DataW Unit} {ms : List FileM} (h : Reads D ms) (nm : List UInt8) : has D (.string nm) = (findM ms nm).isSome := by
  cases hf : findM ms nm with
  | none => exact has_false_of_atKey (fun z => by rw [h.2, hf]; rfl)
  | some m => exact has_true_of_atKey (y := .lit (.int .i64 m.blk)) (fun z => by rw [h.2, hf]; rfl)

def dropM (ms : List FileM) (nm : List UInt8) : List FileM := ms.filter (fun m => !(m.abs.name == nm))
theorem findM_drop_same (ms : List FileM) (nm : List UInt8) : findM (dropM ms nm) nm = none := by
  unfold findM dropM
  rw [List.find?_eq_none]
  intro m hm
  have := (List.mem_filter.1 hm).2
  simpa using this
theorem findM_drop_other (ms : List FileM) {nm k : List UInt8} (h : k ≠ nm) : findM (dropM ms nm) k = findM ms k := by
  unfold findM dropM
  apply find_filter_keep
  intro m hm
  have : m.abs.name = k := by simpa using hm
  rw [this]; simpa using h
theorem drop_length (ms : List FileM) (nm : List UInt8) (hn : (ms.map (·.abs.name)).Nodup) : (dropM ms nm).length + (if (findM ms nm).isSome then 1 else 0) = ms.length := by
  induction ms with
  | nil => rfl
  | cons m r ih =>
    simp only [List.map_cons, List.nodup_cons] at hn
    have ih := ih hn.2
    unfold dropM findM at *
    by_cases hm : m.abs.name = nm
    · have hr : r.find? (fun m => m.abs.name == nm) = none := by
        rw [List.find?_eq_none]
        intro x hx
        have : x.abs.name ≠ m.abs.name := fun e => hn.1 (by rw [← e]; exact List.mem_map.2 ⟨x, hx, rfl⟩)
        simpa [← hm] using this
      rw [hr] at ih
      simp [hm] at ih ⊢
      exact ih
    · have hm' : (m.abs.name == nm) = false := by simpa using hm
      simp only [List.filter_cons, hm', List.find?_cons, Bool.not_false, if_true, List.length_cons]
      omega
theorem findM_append (ms : List FileM) (m : FileM) (k : List UInt8) : findM (ms ++ [m]) k = (findM ms k).or (if m.abs.name == k then some m else none) := by
  unfold findM
  rw [List.find?_append]
  congr 1
  simp [List.find?_cons]
  split <;> simp_all

theorem Reads.put {D : DataW Unit} {ms : List FileM} (h : Reads D ms) (hn : (ms.map (·.abs.name)).Nodup) (hT : Tidy D) (m : FileM) : Reads (D.put (.string m.abs.name) (.lit (.int .i64 m.blk))) (dropM ms m.abs.name ++ [m]) := by
  refine ⟨?_, fun nm z => ?_⟩
  · rw [size_put hT, has_of_reads h, h.1]
    have := drop_length ms m.abs.name hn
    rw [List.length_append, List.length_singleton]
    split at this <;> rename_i hc <;> simp [hc] <;> omega
  · rw [findM_append]
    by_cases e : nm = m.abs.name
    · subst e
      rw [atKey_put_same hT.isMap (isKey _), findM_drop_same]
      simp [blkD]
    · rw [atKey_put_other (lit_ne e), h.2, findM_drop_other _ e]
      have : (m.abs.name == nm) = false := by simpa using fun e' => e e'.symm
      simp [this]
theorem Reads.del {D : DataW Unit} {ms : List FileM} (h : Reads D ms) (hn : (ms.map (·.abs.name)).Nodup) (hT : Tidy D) (nm : List UInt8) : Reads (D.del (.string nm)) (dropM ms nm) := by
  refine ⟨?_, fun k z => ?_⟩
  · have h1 := size_del (k := .string nm) hT
    rw [has_of_reads h, h.1] at h1
    have := drop_length ms nm hn
    omega
  · by_cases e : k = nm
    · subst e; rw [atKey_del_same, findM_drop_same]; rfl
    · rw [atKey_del_other (lit_ne e), h.2, findM_drop_other _ e]
/-- Only blocks count: files may be told otherwise, as long as names and blocks are the same. -/
theorem Reads.congr {D : DataW Unit} {ms ms' : List FileM} (h : Reads D ms) (e : ms.map (fun m => (m.abs.name, m.blk)) = ms'.map (fun m => (m.abs.name, m.blk))) : Reads D ms' := by
  have hl : ms.length = ms'.length := by simpa using congrArg List.length e
  refine ⟨h.1.trans hl, fun nm z => ?_⟩
  rw [h.2]
  clear h hl
  induction ms generalizing ms' with
  | nil => cases ms' with
    | nil => rfl
    | cons => simp at e
  | cons m r ih => cases ms' with
    | nil => simp at e
    | cons m' r' =>
      simp only [List.map_cons, List.cons.injEq, Prod.mk.injEq] at e
      unfold findM at *
      simp only [List.find?_cons]
      rw [e.1.1]
      cases m'.abs.name == nm
      · exact ih e.2
      · simp [blkD, e.1.2]
theorem MapAt.congr {w : World} {mref : Option Nat} {ms ms' : List FileM} (h : MapAt w mref ms) (e : ms.map (fun m => (m.abs.name, m.blk)) = ms'.map (fun m => (m.abs.name, m.blk))) : MapAt w mref ms' := by
  have hl : ms.length = ms'.length := by simpa using congrArg List.length e
  cases mref with
  | none =>
    have h' : ms = [] := h
    subst h'
    exact List.eq_nil_of_length_eq_zero hl.symm
  | some mb => obtain ⟨D, h1, h2⟩ := h; exact ⟨D, hl ▸ h1, h2.congr e⟩

end Go.Proofs.YthbhfhagbaommaaGreatDoor.Dk

/- The disk in memory, whole; what count and operate do. -/
namespace Go.Proofs.YthbhfhagbaommaaGreatDoor.Dk
open Go.RowKit Go.Maps

def usedL (l : List FA) : Nat := (l.map (·.bytes.length)).sum
structure Good (A : DA) : Prop where
  room : A.room ≤ 1048576
  used : usedL A.files ≤ A.room
  count : A.files.length ≤ 200
  names : (A.files.map (·.name)).Nodup
  short : ∀ f ∈ A.files, f.name.length ≤ 40
  safe : ∀ f ∈ A.files, f.safe ≤ f.bytes.length
  left : A.limited = true → 0 ≤ A.left ∧ A.left ≤ 9223372036854775807

def FileAt (w : World) (base : Nat) (m : FileM) : Prop :=
  w.heap[m.blk]? = some (.cells #[m.sl, .int .i64 m.abs.safe] 114 (0, 0)) ∧ RowAt w 5 base m.sl m.abs.bytes

structure Parts (w : World) (base d : Nat) (F : List Nat) (A : DA) (mref : Option Nat) (ms : List FileM) : Prop where
  foot : F = d :: (mref.toList ++ ms.flatMap FileM.foot)
  nodup : F.Nodup
  low : ∀ k ∈ F, base ≤ k
  self : w.heap[d]? = some (.cells #[.int .i64 A.room, .map mref, .bool A.limited, .int .i64 A.left] 59 (0, 0))
  map : MapAt w mref ms
  each : ∀ m ∈ ms, FileAt w base m
  files : A.files = ms.map (·.abs)
  good : Good A
def DiskAt (w : World) (base d : Nat) (F : List Nat) (A : DA) : Prop := ∃ mref ms, Parts w base d F A mref ms

theorem FileAt.kept {w w' : World} {base : Nat} {m : FileM} {S : List Nat} (h : FileAt w base m) (ht : Turn S w w') (hn : ∀ k ∈ m.foot, k ∉ S) : FileAt w' base m :=
  ⟨ht.heap h.1 (hn _ (by simp [FileM.foot])), h.2.kept ht (fun k hk => hn k (by simp [FileM.foot]; right; simpa using hk))⟩
theorem FileAt.lt {w : World} {base : Nat} {m : FileM} (h : FileAt w base m) : ∀ k ∈ m.foot, k < w.heap.size := by
  intro k hk
  simp only [FileM.foot, List.mem_cons, Option.mem_toList] at hk
  rcases hk with rfl | hk
  · exact lt_of_heap h.1
  · exact (h.2.lt k hk).2
section
variable {w w' : World} {base d : Nat} {F : List Nat} {A A' : DA} {mref : Option Nat} {ms : List FileM}
theorem Parts.mem_self (h : Parts w base d F A mref ms) : d ∈ F := by rw [h.foot]; simp
theorem Parts.mem_map (h : Parts w base d F A mref ms) {k : Nat} (hk : k ∈ mref) : k ∈ F := by
  rw [h.foot]; simp only [List.mem_cons, List.mem_append, Option.mem_toList]; exact .inr (.inl hk)
theorem Parts.mem_file (h : Parts w base d F A mref ms) {m : FileM} (hm : m ∈ ms) {k : Nat} (hk : k ∈ m.foot) : k ∈ F := by
  rw [h.foot]; simp only [List.mem_cons, List.mem_append, List.mem_flatMap]; exact .inr (.inr ⟨m, hm, hk⟩)
theorem Parts.lt (h : Parts w base d F A mref ms) : ∀ k ∈ F, k < w.heap.size := by
  intro k hk
  rw [h.foot] at hk
  simp only [List.mem_cons, List.mem_append, List.mem_flatMap, Option.mem_toList] at hk
  rcases hk with rfl | hk | ⟨m, hm, hk⟩
  · exact lt_of_heap h.self
  · exact h.map.lt k hk
  · exact (h.each m hm).lt k hk
theorem Parts.kept {S : List Nat} (h : Parts w base d F A mref ms) (ht : Turn S w w') (hn : ∀ k ∈ F, k ∉ S) : Parts w' base d F A mref ms :=
  { h with
    self := ht.heap h.self (hn _ h.mem_self)
    map := h.map.kept ht (fun _ hk => hn _ (h.mem_map hk))
    each := fun m hm => (h.each m hm).kept ht (fun _ hk => hn _ (h.mem_file hm hk)) }
theorem DiskAt.kept {S : List Nat} (h : DiskAt w base d F A) (ht : Turn S w w') (hn : ∀ k ∈ F, k ∉ S) : DiskAt w' base d F A := by
  obtain ⟨mref, ms, h⟩ := h; exact ⟨mref, ms, h.kept ht hn⟩
theorem DiskAt.lt (h : DiskAt w base d F A) : ∀ k ∈ F, k < w.heap.size := by obtain ⟨mref, ms, h⟩ := h; exact h.lt
theorem DiskAt.low (h : DiskAt w base d F A) : ∀ k ∈ F, base ≤ k := by obtain ⟨mref, ms, h⟩ := h; exact h.low
theorem DiskAt.good (h : DiskAt w base d F A) : Good A := by obtain ⟨mref, ms, h⟩ := h; exact h.good
/-- The disk's own block is told anew; all else lies as it lay. -/
theorem Parts.setSelf (h : Parts w base d F A mref ms) (ht : Turn [d] w w') (hs : w'.heap[d]? = some (.cells #[.int .i64 A'.room, .map mref, .bool A'.limited, .int .i64 A'.left] 59 (0, 0)))
    (hf : A'.files = A.files) (hg : Good A') : Parts w' base d F A' mref ms := by
  have hnd := h.nodup
  rw [h.foot, List.nodup_cons] at hnd
  have hne : ∀ k, (k ∈ mref ∨ ∃ m ∈ ms, k ∈ m.foot) → k ∉ [d] := by
    intro k hk e
    simp only [List.mem_singleton] at e
    subst e
    exact hnd.1 (by simpa [List.mem_flatMap] using hk)
  exact { foot := h.foot, nodup := h.nodup, low := h.low, self := hs, files := hf.trans h.files, good := hg
          map := h.map.kept ht (fun k hk => hne k (.inl hk))
          each := fun m hm => (h.each m hm).kept ht (fun k hk => hne k (.inr ⟨m, hm, hk⟩)) }
end

def DA.fails (A : DA) : Bool := A.limited && (A.left == 0)
def DA.tick (A : DA) : DA := if A.limited then { A with left := A.left - 1 } else A
theorem tick_files (A : DA) : A.tick.files = A.files := by unfold DA.tick; split <;> rfl
theorem tick_room (A : DA) : A.tick.room = A.room := by unfold DA.tick; split <;> rfl
theorem tick_limited (A : DA) : A.tick.limited = A.limited := by unfold DA.tick; split <;> rfl
theorem Good.tick {A : DA} (h : Good A) (hf : A.fails = false) : Good A.tick where
  room := by rw [tick_room]; exact h.room
  used := by rw [tick_room, tick_files]; exact h.used
  count := by rw [tick_files]; exact h.count
  names := by rw [tick_files]; exact h.names
  short := by rw [tick_files]; exact h.short
  safe := by rw [tick_files]; exact h.safe
  left := fun hl => by
    rw [tick_limited] at hl
    have := h.left hl
    simp [DA.fails, hl] at hf
    simp only [DA.tick, hl, if_true]
    omega

/-- An error as a value of error: none for 0. -/
def errV (n : Int) : Value := .iface 56 (.int .i64 n)

section
variable {w : World} {base d : Nat} {F : List Nat} {A : DA} {mref : Option Nat} {ms : List FileM}
theorem Parts.c0 (h : Parts w base d F A mref ms) : w.cell? ⟨d, 0, none⟩ = some (.int .i64 A.room) := by rw [cell_of h.self]; rfl
theorem Parts.c1 (h : Parts w base d F A mref ms) : w.cell? ⟨d, 1, none⟩ = some (.map mref) := by rw [cell_of h.self]; rfl
theorem Parts.c2 (h : Parts w base d F A mref ms) : w.cell? ⟨d, 2, none⟩ = some (.bool A.limited) := by rw [cell_of h.self]; rfl
theorem Parts.c3 (h : Parts w base d F A mref ms) : w.cell? ⟨d, 3, none⟩ = some (.int .i64 A.left) := by rw [cell_of h.self]; rfl
theorem Parts.fr (h : Parts w base d F A mref ms) (i : Nat) : w.frozen? ⟨d, i, none⟩ = false := frozen_of h.self i

set_option maxHeartbeats 400000 in
theorem count_fails (h : Parts w base d F A mref ms) (hf : A.fails = true) :
    Calls Tryz.prog 114 #[.pointer (some ⟨d, 0, none⟩)] w fun e w' => e = .returned (errV 14) ∧ w = w' := by
  have c2 := h.c2; have c3 := h.c3
  simp only [DA.fails, Bool.and_eq_true] at hf
  obtain ⟨hl, hz⟩ := hf
  rw [hl] at c2
  clear hl
  go_enter Tryz.func114, Tryz.ntmps114
  go_wp2
  go_ret
  exact ⟨rfl, rfl⟩

set_option maxHeartbeats 400000 in
theorem count_ok (h : Parts w base d F A mref ms) (hf : A.fails = false) :
    Calls Tryz.prog 114 #[.pointer (some ⟨d, 0, none⟩)] w fun e w' => e = .returned .nilIface ∧ Parts w' base d F A.tick mref ms ∧ Turn [d] w w' := by
  have c2 := h.c2; have c3 := h.c3; have f3 := h.fr 3
  have hl3 := h.good.left
  have hgt := h.good.tick hf
  have H : Hid (Parts w base d F A mref ms) := h
  cases hl : A.limited
  · rw [hl] at c2
    clear h hf hl3
    have HL : Hid (A.limited = false) := hl
    clear hl
    go_enter Tryz.func114, Tryz.ntmps114
    go_wp2
    go_ret
    have e : A.tick = A := by simp [DA.tick, HL.out]
    exact ⟨rfl, by rw [e]; exact H.out, Turn.refl _ _⟩
  · rw [hl] at c2
    have hb := hl3 hl
    have hz : (A.left == 0) = false := by simpa [DA.fails, hl] using hf
    clear h hf hl3
    have HL : Hid (A.limited = true) := hl
    clear hl
    go_enter Tryz.func114, Tryz.ntmps114
    go_wp2
    go_ret
    have e : A.tick = { A with left := A.left - 1 } := by simp [DA.tick, HL.out]
    have t : Turn [d] w (w.setCell ⟨d, 3, none⟩ (.int .i64 (A.left - 1))) := (Turn.refl _ _).setCell (by simp) _
    refine ⟨rfl, H.out.setSelf t ?_ (tick_files A) hgt, t⟩
    rw [heap_set H.out.self, e]
    simp

set_option maxHeartbeats 400000 in
theorem operate_fails (h : Parts w base d F A mref ms) (hf : A.fails = true) (s : ByteArray) :
    Calls Tryz.prog 77 #[.pointer (some ⟨d, 0, none⟩), .string s] w fun e w' => e = .returned (.tuple #[.pointer none, errV 14]) ∧ w = w' := by
  have H : Hid (Parts w base d F A mref ms) := h
  clear h
  go_enter Tryz.func77, Tryz.ntmps77
  go_wp2_with (go_at_call 114; refine (count_fails H.out hf).mono ?_; rintro e w' ⟨rfl, rfl⟩; unfold errV)
  go_ret2
  exact ⟨rfl, rfl⟩

/-- What operate hands back. -/
def opRes : Option FileM → Value
  | some m => .tuple #[.pointer (some ⟨m.blk, 0, none⟩), .nilIface]
  | none => .tuple #[.pointer none, errV 7]

set_option maxHeartbeats 400000 in
theorem operate_ok (h : Parts w base d F A mref ms) (hf : A.fails = false) (s : ByteArray) (hs : s.size ≤ maxLen) (o : Option FileM) (ho : findM ms s.data.toList = o) :
    Calls Tryz.prog 77 #[.pointer (some ⟨d, 0, none⟩), .string s] w fun e w' =>
      e = .returned (opRes o) ∧ Parts w' base d F A.tick mref ms ∧ Turn [d] w w' := by
  have H : Hid (Parts w base d F A mref ms) := h
  have HO : Hid (findM ms s.data.toList = o) := ho
  clear h ho
  cases o
  all_goals
    go_enter Tryz.func77, Tryz.ntmps77
    go_wp2_with fail
    refine (count_ok H.out hf).mono ?_
    rintro e w1 ⟨rfl, hp, ht⟩
    have c1 := hp.c1
    have hlook := hp.map.look hs
    rw [HO.out] at hlook
    simp only [ptrOf] at hlook
    have HP : Hid (Parts w1 base d F A.tick mref ms) := hp
    clear hp
    go_wp2
    go_ret2
    exact ⟨rfl, HP.out, ht⟩
end

end Go.Proofs.YthbhfhagbaommaaGreatDoor.Dk

/- Used: how many bytes all files have. -/
namespace Go.Proofs.YthbhfhagbaommaaGreatDoor.Dk
set_option linter.unusedSimpArgs false
open Go.RowKit Go.Maps

def sumNot (left : Lit → Bool) : List FileM → Nat
  | [] => 0
  | m :: r => (if left (.string m.abs.name) then 0 else m.abs.bytes.length) + sumNot left r
theorem sumNot_le (left : Lit → Bool) : ∀ ms : List FileM, sumNot left ms ≤ usedL (ms.map (·.abs))
  | [] => Nat.le_refl _
  | m :: r => by
    have ih := sumNot_le left r
    simp only [sumNot, usedL, List.map_cons, List.sum_cons] at *
    split <;> omega
theorem sumNot_end {left : Lit → Bool} (h : ∀ kl, left kl = false) : ∀ ms : List FileM, sumNot left ms = usedL (ms.map (·.abs))
  | [] => rfl
  | m :: r => by
    have ih := sumNot_end h r
    simp only [sumNot, usedL, List.map_cons, List.sum_cons] at *
    simp [h, ih]
theorem sumNot_all {left : Lit → Bool} : ∀ ms : List FileM, (∀ m ∈ ms, left (.string m.abs.name) = true) → sumNot left ms = 0
  | [], _ => rfl
  | m :: r, h => by
    simp only [sumNot, h m (by simp), if_true]
    rw [sumNot_all r (fun x hx => h x (by simp [hx]))]
theorem sumNot_start {D : DataW Unit} {ms : List FileM} (h : Reads D ms) : sumNot (has D) ms = 0 := by
  apply sumNot_all
  intro m hm
  rw [has_of_reads h]
  unfold findM; rw [List.find?_isSome]; exact ⟨m, hm, by simp⟩
theorem sameKey_str (a b : List UInt8) : (Lit.string a).sameKey (.string b) = (a == b) := by
  by_cases h : a = b
  · subst h; simp [WideAt.sameKey_self (isKey a)]
  · rw [sameKey_ne (lit_ne h)]; simpa using h
theorem sumNot_same (left : Lit → Bool) (nm : List UInt8) : ∀ ms : List FileM, nm ∉ ms.map (·.abs.name) → sumNot (fun z => left z && !z.sameKey (.string nm)) ms = sumNot left ms
  | [], _ => rfl
  | m :: r, h => by
    simp only [List.map_cons, List.mem_cons, not_or] at h
    have hb : (m.abs.name == nm) = false := by simpa using fun e => h.1 e.symm
    simp only [sumNot, sameKey_str, hb, Bool.not_false, Bool.and_true]
    rw [sumNot_same left nm r h.2]
theorem sumNot_step (left : Lit → Bool) (nm : List UInt8) (m : FileM) (hl : left (.string nm) = true) : ∀ ms : List FileM, (ms.map (·.abs.name)).Nodup → findM ms nm = some m →
    sumNot (fun z => left z && !z.sameKey (.string nm)) ms = sumNot left ms + m.abs.bytes.length
  | [], _, hf => by simp [findM] at hf
  | a :: r, hn, hf => by
    simp only [List.map_cons, List.nodup_cons] at hn
    unfold findM at hf
    rw [List.find?_cons] at hf
    by_cases ha : a.abs.name = nm
    · have hb : (a.abs.name == nm) = true := by simpa using ha
      rw [hb] at hf
      simp at hf
      subst hf
      have hs : (Lit.string a.abs.name).sameKey (.string nm) = true := by rw [sameKey_str]; exact hb
      have hla : left (.string a.abs.name) = true := by rw [ha]; exact hl
      simp only [sumNot, hs, hla, sumNot_same left nm r (by rw [← ha]; exact hn.1)]
      simp; omega
    · have hb : (a.abs.name == nm) = false := by simpa using ha
      rw [hb] at hf
      have hs : (Lit.string a.abs.name).sameKey (.string nm) = false := by rw [sameKey_str]; exact hb
      simp only [sumNot, hs, sumNot_step left nm m hl r hn.2 hf]
      simp; omega

def mkP (c : Option Nat) : Value := match c with
  | some b => .pointer (some ⟨b, 0, none⟩)
  | none => .pointer none
theorem invP (v : Value) (y : DataW Unit × List MemPlace) (h : ptrR v = some y) : ∃ c, v = mkP c := by
  unfold ptrR at h
  split at h
  · exact ⟨some _, rfl⟩
  · exact ⟨none, rfl⟩
  · cases h
theorem who {D : DataW Unit} {ms : List FileM} (hr : Reads D ms) {x : ByteArray} {c : Option Nat} {kl : Lit} {y : DataW Unit × List MemPlace} (hk : keyOf Tryz.prog 9 (.string x) = some kl) (hy : ptrR (mkP c) = some y)
    (hat : ∀ zd, D.atKey kl zd = y.1) : ∃ nm m, kl = .string nm ∧ findM ms nm = some m ∧ c = some m.blk := by
  have e : kl = .string x.data.toList := by
    simp only [keyOf, mapKey, Tryz.underlying9] at hk
    split at hk <;> simp_all
  subst e
  refine ⟨x.data.toList, ?_⟩
  cases hf : findM ms x.data.toList with
  | none =>
    have h1 := hat .nil; have h2 := hat (.lit (.bool true))
    rw [hr.2, hf] at h1 h2
    rw [← h1] at h2
    cases h2
  | some m =>
    have h1 := hat .nil
    rw [hr.2, hf] at h1
    refine ⟨m, rfl, rfl, ?_⟩
    cases c with
    | none => simp [mkP, ptrR] at hy; subst hy; cases h1
    | some b => simp [mkP, ptrR] at hy; subst hy; simp [blkD] at h1; rw [Int.ofNat_inj.1 h1]

section
variable {w : World} {base d : Nat} {F : List Nat} {A : DA} {mref : Option Nat} {ms : List FileM}
theorem findM_mem {nm : List UInt8} {m : FileM} (h : findM ms nm = some m) : m ∈ ms ∧ m.abs.name = nm := by
  unfold findM at h
  exact ⟨List.mem_of_find?_eq_some h, by simpa using List.find?_some h⟩
theorem Parts.names (h : Parts w base d F A mref ms) : (ms.map (·.abs.name)).Nodup := by
  have := h.good.names
  rw [h.files, List.map_map] at this
  exact this

set_option maxHeartbeats 400000 in
theorem used_any (h : Parts w base d F A mref ms) :
    Calls Tryz.prog 123 #[.pointer (some ⟨d, 0, none⟩)] w fun e w' => e = .returned (.int .i64 (usedL A.files)) ∧ Turn [] w w' := by
  have H : Hid (Parts w base d F A mref ms) := h
  have c1 := h.c1
  have hnam := h.names
  have hu := h.good.used
  have hroom := h.good.room
  have hfil := h.files
  have hmap := h.map
  clear h
  cases mref with
  | none =>
    have hms : ms = [] := hmap
    subst hms
    have hz : A.files = [] := by rw [hfil]; rfl
    have HZ : Hid (usedL A.files = 0) := by rw [hz]; rfl
    clear hz hfil hmap
    have hrn := fun w => run_range_nilMap (P := Tryz.prog) w _ _ _ Tryz.underlying57
    have hnx := fun (w : World) ty a b s => run_next_nilMap (P := Tryz.prog) w ty a b s
    go_enter Tryz.func123, Tryz.ntmps123
    go_wp2
    refine wp_loop_rounds 1 ?_
    rw [rounds_succ]
    go_wp2
    go_ret
    exact ⟨by rw [HZ.out]; rfl, (Turn.refl _ _).alloc _⟩
  | some mb =>
    obtain ⟨D, hown, hrd⟩ := hmap
    have HR : Hid (Reads D ms) := hrd
    have HN : Hid ((ms.map (·.abs.name)).Nodup) := hnam
    have HF : Hid (A.files = ms.map (·.abs)) := hfil
    have hle := fun left => sumNot_le left ms
    rw [hfil] at hu
    have hle2 : ∀ left, sumNot left ms ≤ 1048576 := fun left => by have := hle left; omega
    have h0 := sumNot_start hrd
    clear hle hu hroom hnam hrd hfil
    go_enter Tryz.func123, Tryz.ntmps123
    go_wp2_with (first
      | (at_range; refine wpList_range_own _ rfl _ 57 rfl 9 112 law Tryz.underlying57 ptrR mb ms.length D rfl hown ?_; intro w0 hrg0 hg0 hs0)
      | go_in)
    go_frame
    go_loopw [3] (fun s wr => ∃ left cnt, s = .int .i64 (sumNot left ms) ∧ wr.ranges Tryz.prog 9 ptrR mb w.heap.size ms.length D left cnt ∧ Turn [] w wr) (fun _ wr => wr.rangeLeft mb w.heap.size)
    case atStart => exact ⟨has D, size D, by rw [h0]; rfl, hrg0, (Turn.refl _ _).grown hg0 (by simp)⟩
    case round =>
      obtain ⟨left, cnt, rfl, hrg, ht⟩ := hrel
      have hb := hle2 left
      clear hrg0 hg0 hs0 h0
      go_wp2_with (at_next; refine wpList_next_ranges _ rfl _ rfl 9 law ptrR Value.string mkP (fun _ _ hk => Maps.keyOf_string_inv Tryz.underlying9 hk) invP mb w.heap.size ms.length D left cnt rfl hrg ?_ ?_)
      · intro hc0 hl0
        have hend := sumNot_end hl0 ms
        have HE : Hid (sumNot left ms = usedL (ms.map (·.abs))) := hend
        clear hend
        go_wp2
        go_ret
        exact ⟨ret_int (by rw [HF.out, HE.out]), ht⟩
      · intro x c kl yd yp w1 cnt1 hk hlk hy hat hrg1 hlt hg1 hs1 hen
        obtain ⟨nm, m, rfl, hfm, rfl⟩ := who HR.out hk hy hat
        have ht1 : Turn [] w w1 := ht.grown hg1 (by simp)
        have hm := findM_mem hfm
        have hfa := (H.out.each m hm.1).kept ht1 (by simp)
        obtain ⟨sa, sc, hsl, hsl1, hsl2⟩ := hfa.2.form
        have cf : w1.cell? ⟨m.blk, 0, none⟩ = some (.slice sa m.abs.bytes.length sc) := by rw [cell_of hfa.1, hsl]; rfl
        have hst := sumNot_step left nm m hlk ms HN.out hfm
        have hb1 := hle2 (fun z => left z && !z.sameKey (.string nm))
        rw [hst] at hb1
        have HST : Hid (sumNot (fun z => left z && !z.sameKey (.string nm)) ms = sumNot left ms + m.abs.bytes.length) := hst
        simp only [mkP] at hen ⊢
        clear hst hfm hm hfa hsl hk hy hat hlk
        go_wp2
        go_roundw
        case rel =>
          repeat apply Exists.intro
          exact ⟨⟨_, cnt1, by rw [HST.out]; go_num, hrg1, ht1⟩, rfl⟩
        case measure => rw [hrg1.left_eq, hrg.left_eq]; omega
end

end Go.Proofs.YthbhfhagbaommaaGreatDoor.Dk

/- Which texts may be names: what the program's Name answers. -/
namespace Go.Proofs.YthbhfhagbaommaaGreatDoor.Dk
open Go.RowKit
/-- Which bytes may be in a name. -/
def nb (c : Int) : Bool := decide (97 ≤ c ∧ c ≤ 122 ∨ 48 ≤ c ∧ c ≤ 57 ∨ c = 45 ∨ c = 46 ∨ c = 47)

set_option maxHeartbeats 400000 in
theorem nameByte_any (c : Int) (w : World) :
    Calls Tryz.prog 180 #[.int .u8 c] w fun e w' => e = .returned (.bool (nb c)) ∧ w' = w := by
  go_enter Tryz.func180, Tryz.ntmps180
  go_wp2
  all_goals
    go_ret
    exact ⟨ret_bool (by unfold nb; first | (symm; apply decide_eq_true; omega) | (symm; apply decide_eq_false; omega) | (rw [Bool.eq_iff_iff]; simp; omega)), rfl⟩

/-- All bytes of a text are so. -/
def allB (p : UInt8 → Bool) (s : ByteArray) : Bool := s.data.toList.all p
theorem all_snoc (p : UInt8 → Bool) (s : ByteArray) (k : Nat) (h : k < s.size) : (s.data.toList.take (k + 1)).all p = ((s.data.toList.take k).all p && p s[k]) := by
  rw [List.take_succ_eq_append_getElem (by simpa using h), List.all_append]
  simp; rfl
theorem all_false (p : UInt8 → Bool) (s : ByteArray) (k : Nat) (h : k < s.size) (hp : p s[k] = false) : allB p s = false := by
  unfold allB; rw [List.all_eq_false]
  exact ⟨s[k], by show s.data.toList[k]'(by simpa using h) ∈ _; exact List.getElem_mem _, by simp [hp]⟩
theorem all_take (p : UInt8 → Bool) (s : ByteArray) (k : Nat) (h : s.size ≤ k) : (s.data.toList.take k).all p = allB p s := by
  unfold allB; rw [List.take_of_length_le (by simpa using h)]

/-- Which bytes may be in a name, of a byte. -/
def nb8 (c : UInt8) : Bool := nb c.toNat
def nameB (s : ByteArray) : Bool := allB nb8 s && (decide (1 ≤ s.size) && decide (s.size ≤ 40))

set_option maxHeartbeats 400000 in
theorem name_loop (s : ByteArray) (w : World) (hs : s.size ≤ maxLen) :
    Calls Tryz.prog 159 #[.string s] w fun e w' => e = .returned (.bool (nameB s)) ∧ w' = w := by
  unfold maxLen at hs
  go_enter Tryz.func159, Tryz.ntmps159
  go_wp2
  go_loop [6] (fun i => ∃ k : Nat, k ≤ s.size ∧ i = .int .i64 k ∧ (s.data.toList.take k).all nb8 = true) (fun i => s.size - (intOf i).toNat)
  case atStart => exact ⟨0, Nat.zero_le _, rfl, rfl⟩
  case round =>
    obtain ⟨k, hk, rfl, ha⟩ := hrel
    have HA : Hid ((s.data.toList.take k).all nb8 = true) := ha
    clear ha
    by_cases hlt : k < s.size
    · have hsn := all_snoc nb8 s k hlt
      have HS : Hid ((s.data.toList.take (k + 1)).all nb8 = ((s.data.toList.take k).all nb8 && nb8 s[k])) := hsn
      clear hsn
      cases hi : nb s[k].toNat
      · have hz := all_false nb8 s k hlt hi
        have HZ : Hid (allB nb8 s = false) := hz
        clear hz
        go_wp2_with (go_at_call 180; refine (nameByte_any _ _).mono ?_; rintro e w' ⟨rfl, rfl⟩)
        go_ret
        exact ⟨ret_bool (by unfold nameB; rw [HZ.out]; rfl), rfl⟩
      · have H1 : Hid (nb8 s[k] = true) := hi
        go_wp2_with (go_at_call 180; refine (nameByte_any _ _).mono ?_; rintro e w' ⟨rfl, rfl⟩)
        go_round
        case rel => exact ⟨k + 1, by omega, by go_num, by rw [HS.out, HA.out, H1.out]; rfl⟩
        case measure => simp [intOf]; omega
    · have H := all_take nb8 s k (by omega)
      have HH : Hid (allB nb8 s = true) := H.symm.trans HA.out
      clear H
      by_cases h1 : 1 ≤ s.size <;> by_cases h2 : s.size ≤ 40
      all_goals go_wp2
      all_goals
        go_ret
        exact ⟨ret_bool (by have hq := HH.out; rw [Bool.eq_iff_iff]; simp [nameB, hq]; omega), rfl⟩
end Go.Proofs.YthbhfhagbaommaaGreatDoor.Dk

/- New, Make, Sync, Add: what they do with the disk. -/
namespace Go.Proofs.YthbhfhagbaommaaGreatDoor.Dk
open Go.RowKit Go.Maps
set_option linter.unusedSimpArgs false

/-- An error: none for 0. -/
def errR (n : Int) : Value := if n = 0 then .nilIface else errV n

theorem new_bad (r : Int) (h : r < 0 ∨ 1048576 < r) (w : World) :
    Calls Tryz.prog 6 #[.int .i64 r] w fun e w' => e = .returned (.tuple #[.pointer none, errV 2]) ∧ w = w' := by
  by_cases h1 : r < 0
  · go_enter Tryz.func6, Tryz.ntmps6
    go_wp2
    go_ret2
    exact ⟨rfl, rfl⟩
  · have h2 : 1048576 < r := by omega
    go_enter Tryz.func6, Tryz.ntmps6
    go_wp2
    go_ret2
    exact ⟨rfl, rfl⟩

def DA.empty (r : Nat) : DA := ⟨r, [], false, 0⟩
theorem new_ok (r : Nat) (h : r ≤ 1048576) (w : World) (base : Nat) (hb : base ≤ w.heap.size) :
    Calls Tryz.prog 6 #[.int .i64 r] w fun e w' => e = .returned (.tuple #[.pointer (some ⟨w.heap.size, 0, none⟩), .nilIface]) ∧ DiskAt w' base w.heap.size [w.heap.size] (DA.empty r) ∧ Turn [] w w' := by
  go_enter Tryz.func6, Tryz.ntmps6
  go_wp2
  go_ret2
  refine ⟨rfl, ⟨none, [], ?_⟩, (Turn.refl _ _).alloc _⟩
  exact { foot := rfl, nodup := by simp, low := by simpa using hb, self := heap_new w _, map := rfl, each := by simp, files := rfl
          good := { room := h, used := by simp [usedL, DA.empty], count := by simp [DA.empty], names := by simp [DA.empty], short := by simp [DA.empty], safe := by simp [DA.empty], left := by simp [DA.empty] } }

/-- What an operation has come to. -/
def Did (w w' : World) (base d : Nat) (F : List Nat) (A' : DA) : Prop := ∃ F', DiskAt w' base d F' A' ∧ Turn F w w' ∧ ∀ k ∈ F', k ∈ F ∨ w.heap.size ≤ k
section
variable {w w' : World} {base d : Nat} {F : List Nat} {A A' : DA} {mref : Option Nat} {ms : List FileM}
theorem Did.same (h : Parts w' base d F A' mref ms) (ht : Turn F w w') : Did w w' base d F A' := ⟨F, ⟨_, _, h⟩, ht, fun _ hk => .inl hk⟩
theorem Did.tick (h : Parts w' base d F A' mref ms) (hd : d ∈ F) (ht : Turn [d] w w') : Did w w' base d F A' := Did.same h (ht.mono (by simpa using .inl hd))
theorem Did.none (h : Parts w base d F A mref ms) : Did w w base d F A := Did.same h (Turn.refl _ _)

def DA.has (A : DA) (nm : List UInt8) : Bool := (A.files.find? (fun f => f.name == nm)).isSome
def DA.make (A : DA) (s : ByteArray) : Int × DA :=
  if A.fails then (14, A)
  else if !nameB s then (5, A.tick)
  else if A.has s.data.toList then (9, A.tick)
  else if 200 ≤ A.files.length then (4, A.tick)
  else (0, { A.tick with files := A.files ++ [⟨s.data.toList, [], 0⟩] })
theorem has_find (h : Parts w base d F A mref ms) (nm : List UInt8) : A.has nm = (findM ms nm).isSome := by
  unfold DA.has findM
  rw [h.files, List.find?_map]
  simp [Function.comp_def]

/-- A new file, empty, in a new block. -/
theorem Parts.addFile (h : Parts w base d F A mref ms) {mb : Nat} {D : DataW Unit} {s : ByteArray} {F' : List Nat} {A' : DA} {k : Nat} (hk : k ∉ F) (hkb : base ≤ k)
    (ht : Turn (d :: mref.toList) w w') (hs : w'.heap[d]? = some (.cells #[.int .i64 A'.room, .map (some mb), .bool A'.limited, .int .i64 A'.left] 59 (0, 0)))
    (hmb : mref = some mb ∨ (mref = none ∧ mb ∉ F ∧ base ≤ mb ∧ mb ≠ k)) (hown : w'.ownsMap Tryz.prog 9 ptrR mb (ms.length + 1) D) (hrd : Reads D (ms ++ [⟨⟨s.data.toList, [], 0⟩, k, .slice none 0 0⟩]))
    (hnew : w'.heap[k]? = some (.cells #[.slice none 0 0, .int .i64 0] 114 (0, 0))) (hf : A'.files = A.files ++ [⟨s.data.toList, [], 0⟩]) (hg : Good A')
    (hF : F' = d :: (mb :: (ms.flatMap FileM.foot ++ [k]))) :
    Parts w' base d F' A' (some mb) (ms ++ [⟨⟨s.data.toList, [], 0⟩, k, .slice none 0 0⟩]) := by
  have hnd := h.nodup
  have hlo := h.low
  have hfoot := h.foot
  rw [hfoot] at hnd hlo hk hmb
  simp only [List.mem_cons, List.mem_append, not_or] at hk
  have hsep : ∀ x ∈ ms.flatMap FileM.foot, x ∉ d :: mref.toList := by
    intro x hx e
    rw [List.nodup_cons, List.nodup_append] at hnd
    rcases List.mem_cons.1 e with rfl | e
    · exact hnd.1 (List.mem_append.2 (.inr hx))
    · exact hnd.2.2.2 x e x hx rfl
  refine { foot := ?_, nodup := ?_, low := ?_, self := hs, map := ⟨D, by simpa using hown, hrd⟩, each := ?_, files := ?_, good := hg }
  · rw [hF]; simp [FileM.foot, Value.ownBlock, List.flatMap_append]
  · rw [hF]
    rw [List.nodup_cons, List.nodup_append] at hnd
    have hmb' : d ≠ mb ∧ mb ∉ ms.flatMap FileM.foot ∧ mb ≠ k := by
      rcases hmb with rfl | ⟨rfl, h1, _, h3⟩
      · simp at hnd hk
        refine ⟨hnd.1.1, fun e => ?_, fun e => hk.2.1 e.symm⟩
        exact hsep mb e (by simp)
      · simp at h1
        exact ⟨fun e => h1.1 e.symm, by simpa using h1.2, h3⟩
    simp only [List.nodup_cons, List.mem_cons, List.mem_append, List.nodup_append, List.not_mem_nil, or_false, not_or, not_false_eq_true, true_and, List.nodup_nil, and_true]
    refine ⟨⟨hmb'.1, fun e => hnd.1 (List.mem_append.2 (.inr e)), fun e => hk.1 e.symm⟩, ⟨hmb'.2.1, hmb'.2.2⟩, hnd.2.2.1, ?_⟩
    intro x hx y hy e
    subst hy; subst e
    exact hk.2.2 hx
  · rw [hF]
    intro x hx
    simp only [List.mem_cons, List.mem_append, List.mem_singleton, List.not_mem_nil, or_false] at hx
    rcases hx with rfl | rfl | hx | rfl
    · exact hlo _ (by simp)
    · rcases hmb with rfl | ⟨rfl, _, h2, _⟩
      · exact hlo _ (by simp)
      · exact h2
    · exact hlo _ (List.mem_cons.2 (.inr (List.mem_append.2 (.inr hx))))
    · exact hkb
  · intro m hm
    rcases List.mem_append.1 hm with hm | hm
    · exact (h.each m hm).kept ht (fun x hx => hsep x (List.mem_flatMap.2 ⟨m, hm, hx⟩))
    · simp only [List.mem_singleton] at hm
      subst hm
      exact ⟨hnew, .inl ⟨rfl, rfl⟩⟩
  · rw [hf, h.files]; simp
theorem Good.addFile (h : Good A) {s : ByteArray} (hn : nameB s = true) (hh : A.has s.data.toList = false) (hc : A.files.length < 200) : Good { A with files := A.files ++ [⟨s.data.toList, [], 0⟩] } where
  room := h.room
  used := by have := h.used; simpa [usedL] using this
  count := by simp; omega
  names := by
    simp only [List.map_append, List.map_cons, List.map_nil]
    rw [List.nodup_append]
    refine ⟨h.names, by simp, ?_⟩
    intro a ha b hb e
    simp only [List.mem_singleton] at hb
    subst hb; subst e
    obtain ⟨f, hf, he⟩ := List.mem_map.1 ha
    unfold DA.has at hh
    rw [Option.isSome_eq_false_iff, Option.isNone_iff_eq_none, List.find?_eq_none] at hh
    exact hh f hf (by simpa using he)
  short := by
    intro f hf
    rcases List.mem_append.1 hf with hf | hf
    · exact h.short f hf
    · simp only [List.mem_singleton] at hf
      subst hf
      simp only [nameB, Bool.and_eq_true, decide_eq_true_eq] at hn
      simpa using hn.2.2
  safe := by
    intro f hf
    rcases List.mem_append.1 hf with hf | hf
    · exact h.safe f hf
    · simp only [List.mem_singleton] at hf; subst hf; simp
  left := h.left

theorem run_eql_map_nil' (w : World) (x : Option Nat) : (binOp .eql 57 (.map x) (.map none)).run Tryz.prog w = .ok (.bool x.isNone) w := by
  exact Go.run_eql_map_nil w _ _ _ x Tryz.underlying57

set_option maxRecDepth 100000 in
set_option maxHeartbeats 1000000 in
theorem make_any (h : Parts w base d F A mref ms) (s : ByteArray) (hs : s.size ≤ maxLen) :
    Calls Tryz.prog 119 #[.pointer (some ⟨d, 0, none⟩), .string s] w fun e w' => e = .returned (errR (A.make s).1) ∧ Did w w' base d F (A.make s).2 := by
  have H : Hid (Parts w base d F A mref ms) := h
  have hdF := h.mem_self
  have hhas := has_find h s.data.toList
  have hlen : A.files.length = ms.length := by rw [h.files]; simp
  clear h
  cases hf : A.fails
  case true =>
    have HV : Hid (A.make s = (14, A)) := by show A.make s = (14, A); simp [DA.make, hf]
    have HF : Hid (A.fails = true) := hf
    clear hf hhas hlen
    go_enter Tryz.func119, Tryz.ntmps119
    go_wp2_with (go_at_call 114; refine (count_fails H.out HF.out).mono ?_; rintro e w' ⟨rfl, rfl⟩; unfold errV)
    go_ret
    exact ⟨by rw [HV.out]; rfl, by rw [HV.out]; exact Did.none H.out⟩
  case false =>
    have HF : Hid (A.fails = false) := hf
    cases hn : nameB s
    case false =>
      have HV : Hid (A.make s = (5, A.tick)) := by show A.make s = _; simp [DA.make, hf, hn]
      clear hf hhas hlen
      go_enter Tryz.func119, Tryz.ntmps119
      go_wp2_with (first | (go_at_call 114; refine (count_ok H.out HF.out).mono ?_; rintro e w1 ⟨rfl, hp, ht⟩) | (go_at_call 159; refine (name_loop _ _ hs).mono ?_; rintro e w' ⟨rfl, rfl⟩))
      go_ret
      exact ⟨by rw [HV.out]; rfl, by rw [HV.out]; exact Did.tick hp hdF ht⟩
    case true =>
      have hlk := fun (w1 : World) (hp : Parts w1 base d F A.tick mref ms) => hp.map.look hs
      have hln := fun (w1 : World) (hp : Parts w1 base d F A.tick mref ms) ty => hp.map.len ty
      cases hm : findM ms s.data.toList with
      | some m =>
        have HV : Hid (A.make s = (9, A.tick)) := by show A.make s = _; simp [DA.make, hf, hn, hhas, hm]
        have HM : Hid (findM ms s.data.toList = some m) := hm
        clear hf hhas hlen hm
        go_enter Tryz.func119, Tryz.ntmps119
        go_wp2_with fail
        refine (count_ok H.out HF.out).mono ?_
        rintro e w1 ⟨rfl, hp, ht⟩
        have c1 := hp.c1
        have hlook := hlk w1 hp
        rw [HM.out] at hlook
        simp only [ptrOf] at hlook
        have HP : Hid (Parts w1 base d F A.tick mref ms) := hp
        clear hp hlk hln
        go_wp2_with (first | (go_at_call 159; refine (name_loop _ _ hs).mono ?_; rintro e w' ⟨rfl, rfl⟩))
        go_ret
        exact ⟨by rw [HV.out]; rfl, by rw [HV.out]; exact Did.tick HP.out hdF ht⟩
      | none =>
        have HM : Hid (findM ms s.data.toList = none) := hm
        have hq := run_eql_map_nil'
        by_cases hc : 200 ≤ A.files.length
        · have HV : Hid (A.make s = (4, A.tick)) := by show A.make s = _; simp [DA.make, hf, hn, hhas, hm, hc]
          rw [hlen] at hc
          clear hf hhas hlen hm
          go_enter Tryz.func119, Tryz.ntmps119
          go_wp2_with fail
          refine (count_ok H.out HF.out).mono ?_
          rintro e w1 ⟨rfl, hp, ht⟩
          have c1 := hp.c1
          have hlook := hlk w1 hp
          have hl := hln w1 hp
          rw [HM.out] at hlook
          simp only [ptrOf] at hlook
          have HP : Hid (Parts w1 base d F A.tick mref ms) := hp
          clear hp hlk hln
          go_wp2_with (first | (go_at_call 159; refine (name_loop _ _ hs).mono ?_; rintro e w' ⟨rfl, rfl⟩))
          go_ret
          exact ⟨by rw [HV.out]; rfl, by rw [HV.out]; exact Did.tick HP.out hdF ht⟩
        · have HV : Hid (A.make s = (0, { A.tick with files := A.files ++ [⟨s.data.toList, [], 0⟩] })) := by show A.make s = _; simp [DA.make, hf, hn, hhas, hm, hc]
          have hg := H.out.good.tick hf
          have hgA : Good { A.tick with files := A.tick.files ++ [⟨s.data.toList, [], 0⟩] } := hg.addFile hn (by rw [DA.has, tick_files]; rw [DA.has, hm] at hhas; exact hhas) (by rw [tick_files]; omega)
          have HG : Hid (Good { A.tick with files := A.tick.files ++ [⟨s.data.toList, [], 0⟩] }) := hgA
          rw [hlen] at hc
          have hcl : ¬ (200 : Int) ≤ (ms.length : Int) := by omega
          have hnam := H.out.names
          have HN : Hid ((ms.map (·.abs.name)).Nodup) := hnam
          have hdrop : dropM ms s.data.toList = ms := by
            unfold dropM; rw [List.filter_eq_self]; intro x hx
            have := (List.find?_eq_none.1 hm) x hx
            simpa using this
          have HD : Hid (dropM ms s.data.toList = ms) := hdrop
          clear hf hhas hlen hm hg hgA hc hnam hdrop
          cases mref with
          | none =>
            go_enter Tryz.func119, Tryz.ntmps119
            go_wp2_with fail
            refine (count_ok H.out HF.out).mono ?_
            rintro e w1 ⟨rfl, hp, ht⟩
            have c1 := hp.c1
            have f1 := hp.fr 1
            have hlook := hlk w1 hp
            have hl := hln w1 hp
            rw [HM.out] at hlook
            simp only [ptrOf] at hlook
            have HP : Hid (Parts w1 base d F A.tick .none ms) := hp
            have hdlt := hp.lt d hdF
            have hmm := @run_makeMap Tryz.prog
            clear hp hlk hln
            go_wp2_with (first | (go_at_call 159; refine (name_loop _ _ hs).mono ?_; rintro e w' ⟨rfl, rfl⟩))
            have hms : ms = [] := HP.out.map
            subst hms
            have ho0 := World.ownsMap_made (w'.setCell ⟨d, 1, none⟩ (.map (some w'.heap.size))) Tryz.prog 9 ptrR
            have hsz : (w'.setCell ⟨d, 1, none⟩ (.map (some w'.heap.size))).heap.size = w'.heap.size := by simp [World.setCell]
            rw [hsz] at ho0
            obtain ⟨w2, hrun, ho2, hgr⟩ := (ho0.alloc (.cells #[.slice .none 0 0, .int .i64 0] 114)).store law Tryz.underlying57 (by simp [maxLen]) (keyS hs) (val := .pointer (some ⟨w'.heap.size + 1, 0, .none⟩)) (d := .lit (.int .i64 ((w'.heap.size + 1 : Nat) : Int))) (ps := []) rfl
            rw [hrun]
            simp only [Result.andThen]
            rw [Oper.upon_skip]
            go_wp2
            go_ret
            have ht0 : Turn [d] w' (w'.setCell ⟨d, 1, .none⟩ (.map (some w'.heap.size))) := (Turn.refl _ _).setCell (by simp) _
            have ht1 := (ht0.alloc (.map #[] 0)).alloc (.cells #[.slice .none 0 0, .int .i64 0] 114)
            have ht2 := ht1.grown hgr.grown (by intro k hk; cases hk; simp)
            have hold : ∀ k ∈ F, k < w'.heap.size := HP.out.lt
            have hbase := HP.out.low d hdF
            have hself : w2.heap[d]? = some (.cells #[.int .i64 A.tick.room, .map (some w'.heap.size), .bool A.tick.limited, .int .i64 A.tick.left] 59 (0, 0)) := by
              have h1 : (w'.setCell ⟨d, 1, .none⟩ (.map (some w'.heap.size))).heap[d]? = some (.cells #[.int .i64 A.tick.room, .map (some w'.heap.size), .bool A.tick.limited, .int .i64 A.tick.left] 59 (0, 0)) := by
                rw [heap_set HP.out.self]; simp
              have h2 := (((Turn.refl [] _).alloc (.map #[] 0)).alloc (.cells #[.slice .none 0 0, .int .i64 0] 114)).heap h1 (by simp)
              exact ((Turn.refl [w'.heap.size] _).grown hgr.grown (by intro k hk; cases hk; simp)).heap h2 (by simp; omega)
            have hnew : w2.heap[w'.heap.size + 1]? = some (.cells #[.slice .none 0 0, .int .i64 0] 114 (0, 0)) := by
              have h1 := heap_new ((w'.setCell ⟨d, 1, .none⟩ (.map (some w'.heap.size))).alloc (.map #[] 0)) (.cells #[.slice .none 0 0, .int .i64 0] 114)
              have hs2 : ((w'.setCell ⟨d, 1, .none⟩ (.map (some w'.heap.size))).alloc (.map #[] 0)).heap.size = w'.heap.size + 1 := by simp [World.setCell]
              rw [hs2] at h1
              exact ((Turn.refl [w'.heap.size] _).grown hgr.grown (by intro k hk; cases hk; simp)).heap h1 (by simp)
            have hrd : Reads ((DataW.map [] : DataW Unit).put (.string s.data.toList) (.lit (.int .i64 ((w'.heap.size + 1 : Nat) : Int)))) ([] ++ [⟨⟨s.data.toList, [], 0⟩, w'.heap.size + 1, .slice .none 0 0⟩]) :=
              Reads.put (ms := []) ⟨rfl, fun nm z => rfl⟩ (by simp) tidy_empty ⟨⟨s.data.toList, [], 0⟩, w'.heap.size + 1, .slice .none 0 0⟩
            have hP := HP.out.addFile (mb := w'.heap.size) (k := w'.heap.size + 1) (w' := w2) (A' := { A.tick with files := A.tick.files ++ [⟨s.data.toList, [], 0⟩] }) (fun e => by have := hold _ e; omega) (by have := hold d hdF; omega) (by simpa using ht2) hself (.inr ⟨rfl, fun e => by have := hold _ e; omega, by have := hold d hdF; omega, by omega⟩)
              (by simpa using ho2) hrd hnew rfl HG.out rfl
            rw [tick_files] at hP
            refine ⟨by rw [HV.out]; rfl, ?_⟩
            rw [HV.out]
            refine ⟨_, ⟨_, _, hP⟩, (ht.mono (by simpa using .inl hdF)).trans ht2 (by simpa using .inl hdF), ?_⟩
            intro k hk
            have hle := ht.size
            simp at hk
            rcases hk with rfl | rfl | rfl
            · exact .inl hdF
            · exact .inr hle
            · exact .inr (by omega)
          | some mb =>
            go_enter Tryz.func119, Tryz.ntmps119
            go_wp2_with fail
            refine (count_ok H.out HF.out).mono ?_
            rintro e w1 ⟨rfl, hp, ht⟩
            have c1 := hp.c1
            have hlook := hlk w1 hp
            have hl := hln w1 hp
            rw [HM.out] at hlook
            simp only [ptrOf] at hlook
            have HP : Hid (Parts w1 base d F A.tick (.some mb) ms) := hp
            have hdlt := hp.lt d hdF
            clear hp hlk hln
            go_wp2_with (first | (go_at_call 159; refine (name_loop _ _ hs).mono ?_; rintro e w' ⟨rfl, rfl⟩))
            obtain ⟨D, hown, hrd⟩ := HP.out.map
            have hsm := HP.out.good.count
            rw [HP.out.files, List.length_map] at hsm
            obtain ⟨w2, hrun, ho2, hgr⟩ := (hown.alloc (.cells #[.slice .none 0 0, .int .i64 0] 114)).store law Tryz.underlying57 (by simp only [maxLen]; omega) (keyS hs) (val := .pointer (some ⟨w'.heap.size, 0, .none⟩)) (d := .lit (.int .i64 (w'.heap.size : Int))) (ps := []) rfl
            rw [hrun]
            simp only [Result.andThen]
            rw [Oper.upon_skip]
            go_wp2
            go_ret
            have hmbF : mb ∈ F := HP.out.mem_map rfl
            have ht2 : Turn [mb] w' w2 := ((Turn.refl [mb] w').alloc (.cells #[.slice .none 0 0, .int .i64 0] 114)).grown hgr.grown (by intro k hk; cases hk; simp)
            have hold : ∀ k ∈ F, k < w'.heap.size := HP.out.lt
            have hnd := HP.out.nodup
            rw [HP.out.foot] at hnd
            simp at hnd
            have hself := ht2.heap HP.out.self (by simpa using hnd.1.1)
            have hnew : w2.heap[w'.heap.size]? = some (.cells #[.slice .none 0 0, .int .i64 0] 114 (0, 0)) :=
              ((Turn.refl [mb] _).grown hgr.grown (by intro k hk; cases hk; simp)).heap (heap_new w' _) (by simp; have := hold mb hmbF; omega)
            have hrd2 := hrd.put HN.out (hown.tidy law) ⟨⟨s.data.toList, [], 0⟩, w'.heap.size, .slice .none 0 0⟩
            simp only [HD.out] at hrd2
            have hP := HP.out.addFile (mb := mb) (k := w'.heap.size) (w' := w2) (A' := { A.tick with files := A.tick.files ++ [⟨s.data.toList, [], 0⟩] }) (fun e => by have := hold _ e; omega) (by have := HP.out.low d hdF; have := hold d hdF; omega) (ht2.mono (by simp)) hself (.inl rfl)
              ho2 hrd2 hnew rfl HG.out rfl
            rw [tick_files] at hP
            refine ⟨by rw [HV.out]; rfl, ?_⟩
            rw [HV.out]
            refine ⟨_, ⟨_, _, hP⟩, (ht.mono (by simpa using .inl hdF)).trans ht2 (by simpa using .inl hmbF), ?_⟩
            intro k hk
            have hle := ht.size
            have hft := HP.out.foot
            simp only [List.mem_cons, List.mem_append, List.not_mem_nil, or_false] at hk
            rcases hk with rfl | rfl | hk | rfl
            · exact .inl hdF
            · exact .inl hmbF
            · exact .inl (by rw [hft]; exact List.mem_cons.2 (.inr (List.mem_append.2 (.inr hk))))
            · exact .inr hle
end

end Go.Proofs.YthbhfhagbaommaaGreatDoor.Dk

/- Sync, Add: what they do with the disk. -/
namespace Go.Proofs.YthbhfhagbaommaaGreatDoor.Dk
open Go.RowKit Go.Maps
set_option linter.unusedSimpArgs false

theorem nodup_swap {X Y o o' : List Nat} (h : (X ++ (o ++ Y)).Nodup) (ho : o'.Nodup) (hs : ∀ k ∈ o', k ∈ o ∨ (k ∉ X ∧ k ∉ Y)) : (X ++ (o' ++ Y)).Nodup := by
  simp only [List.nodup_append, List.mem_append] at *
  obtain ⟨hX, ⟨_, hY, hoY⟩, hXr⟩ := h
  refine ⟨hX, ⟨ho, hY, ?_⟩, ?_⟩
  · intro a ha b hb e
    rcases hs a ha with h1 | h1
    · exact hoY a h1 b hb e
    · exact h1.2 (e ▸ hb)
  · intro a ha b hb e
    rcases hb with hb | hb
    · rcases hs b hb with h1 | h1
      · exact hXr a ha b (.inl h1) e
      · exact h1.1 (e ▸ ha)
    · exact hXr a ha b (.inr hb) e

def setF (l : List FA) (nm : List UInt8) (g : FA → FA) : List FA := l.map (fun f => if f.name == nm then g f else f)
theorem setF_len (l : List FA) (nm : List UInt8) (g : FA → FA) : (setF l nm g).length = l.length := by simp [setF]
theorem setF_at (pre post : List FA) (f : FA) (g : FA → FA) (hn : ((pre ++ f :: post).map (·.name)).Nodup) : setF (pre ++ f :: post) f.name g = pre ++ g f :: post := by
  have h1 : ∀ x ∈ pre, (x.name == f.name) = false := by
    intro x hx
    simp only [List.map_append, List.map_cons, List.nodup_append] at hn
    have := hn.2.2 x.name (List.mem_map.2 ⟨x, hx, rfl⟩) f.name (by simp)
    simpa using this
  have h2 : ∀ x ∈ post, (x.name == f.name) = false := by
    intro x hx
    simp only [List.map_append, List.map_cons, List.nodup_append, List.nodup_cons] at hn
    have : x.name ≠ f.name := fun e => hn.2.1.1 (by rw [← e]; exact List.mem_map.2 ⟨x, hx, rfl⟩)
    simpa using this
  unfold setF
  rw [List.map_append, List.map_cons]
  congr 1
  · conv => rhs; rw [← List.map_id pre]
    apply List.map_congr_left
    intro x hx; simp [h1 x hx]
  · congr 1
    · simp
    · conv => rhs; rw [← List.map_id post]
      apply List.map_congr_left
      intro x hx; simp [h2 x hx]

section
variable {w w' : World} {base d : Nat} {F : List Nat} {A A' : DA} {mref : Option Nat} {ms : List FileM}

theorem split_at {nm : List UInt8} {m : FileM} (h : findM ms nm = some m) : ∃ pre post, ms = pre ++ m :: post ∧ m.abs.name = nm := by
  obtain ⟨h1, h2⟩ := findM_mem h
  obtain ⟨pre, post, e⟩ := List.append_of_mem h1
  exact ⟨pre, post, e, h2⟩

/-- A file is told anew; all others lie as they lay. -/
theorem Parts.setFile {pre post : List FileM} {m m' : FileM} (h : Parts w base d F A mref (pre ++ m :: post)) (hn : m'.abs.name = m.abs.name) (hb : m'.blk = m.blk) (ht : Turn m.foot w w') (hfa : FileAt w' base m')
    (hown : ∀ k ∈ m'.sl.ownBlock, k ∈ m.sl.ownBlock ∨ w.heap.size ≤ k) (hroom : A'.room = A.room) (hlim : A'.limited = A.limited) (hleft : A'.left = A.left) (hf : A'.files = pre.map (·.abs) ++ m'.abs :: post.map (·.abs)) (hg : Good A') :
    ∃ F', Parts w' base d F' A' mref (pre ++ m' :: post) ∧ (∀ k ∈ F', k ∈ F ∨ k ∈ m'.sl.ownBlock) ∧ ∀ k ∈ F', k ∈ F ∨ w.heap.size ≤ k := by
  have hnd := h.nodup
  have hlt := h.lt
  have hlo := h.low
  have hft := h.foot
  have hF : F = (d :: (mref.toList ++ pre.flatMap FileM.foot)) ++ (m.foot ++ post.flatMap FileM.foot) := by rw [hft]; simp [List.flatMap_append]
  rw [hF] at hnd
  have hblk : m.blk ∈ F := by rw [hF]; simp [FileM.foot]
  have hfresh : ∀ k ∈ m'.foot, k ∈ m.foot ∨ (k ∉ (d :: (mref.toList ++ pre.flatMap FileM.foot)) ∧ k ∉ post.flatMap FileM.foot) := by
    intro k hk
    simp only [FileM.foot, List.mem_cons, Option.mem_toList] at hk
    rcases hk with rfl | hk
    · exact .inl (by simp [FileM.foot, hb])
    · rcases hown k hk with h1 | h1
      · exact .inl (by simp only [FileM.foot, List.mem_cons, Option.mem_toList]; exact .inr h1)
      · refine .inr ⟨fun e => ?_, fun e => ?_⟩
        · have := hlt k (by rw [hF]; exact List.mem_append.2 (.inl e)); omega
        · have := hlt k (by rw [hF]; exact List.mem_append.2 (.inr (List.mem_append.2 (.inr e)))); omega
  have hnd' : m'.foot.Nodup := by
    simp only [FileM.foot, List.nodup_cons, Option.mem_toList]
    refine ⟨fun e => ?_, by cases m'.sl.ownBlock <;> simp⟩
    rcases hown _ e with h1 | h1
    · rw [hb] at h1
      have : m.foot.Nodup := by
        have := hnd
        rw [List.nodup_append, List.nodup_append] at this
        exact this.2.1.1
      simp only [FileM.foot, List.nodup_cons, Option.mem_toList] at this
      exact this.1 h1
    · rw [hb] at h1; have := hlt _ hblk; omega
  have hsw := nodup_swap hnd hnd' hfresh
  have hsep : ∀ x, (x ∈ (d :: (mref.toList ++ pre.flatMap FileM.foot)) ∨ x ∈ post.flatMap FileM.foot) → x ∉ m.foot := by
    intro x hx e
    rw [List.nodup_append, List.nodup_append] at hnd
    rcases hx with hx | hx
    · exact hnd.2.2 x hx x (List.mem_append.2 (.inl e)) rfl
    · exact hnd.2.1.2.2 x e x hx rfl
  have hin0 : ∀ k ∈ (d :: (mref.toList ++ pre.flatMap FileM.foot)) ++ (m'.foot ++ post.flatMap FileM.foot), k ∈ F ∨ k ∈ m'.sl.ownBlock := by
    intro k hk
    rw [hF]
    simp only [List.mem_append] at hk ⊢
    rcases hk with hk | hk | hk
    · exact .inl (.inl hk)
    · simp only [FileM.foot, List.mem_cons, Option.mem_toList] at hk
      rcases hk with rfl | hk
      · exact .inl (.inr (.inl (by simp [FileM.foot, hb])))
      · exact .inr hk
    · exact .inl (.inr (.inr hk))
  have hin : ∀ k ∈ (d :: (mref.toList ++ pre.flatMap FileM.foot)) ++ (m'.foot ++ post.flatMap FileM.foot), k ∈ F ∨ w.heap.size ≤ k := by
    intro k hk
    rw [hF]
    simp only [List.mem_append] at hk ⊢
    rcases hk with hk | hk | hk
    · exact .inl (.inl hk)
    · simp only [FileM.foot, List.mem_cons, Option.mem_toList] at hk
      rcases hk with rfl | hk
      · exact .inl (.inr (.inl (by simp [FileM.foot, hb])))
      · rcases hown k hk with h1 | h1
        · exact .inl (.inr (.inl (by simp only [FileM.foot, List.mem_cons, Option.mem_toList]; exact .inr h1)))
        · exact .inr h1
    · exact .inl (.inr (.inr hk))
  refine ⟨_, { foot := ?_, nodup := hsw, low := ?_, self := ?_, map := ?_, each := ?_, files := ?_, good := hg }, hin0, hin⟩
  · simp [List.flatMap_append]
  · intro k hk
    rcases hin k hk with h1 | h1
    · exact hlo k h1
    · have := hlo _ hblk; have := hlt _ hblk; omega
  · rw [hroom, hlim, hleft]
    exact ht.heap h.self (hsep d (.inl (by simp)))
  · refine (h.map.kept ht (fun k hk => hsep k (.inl ?_))).congr ?_
    · simp only [List.mem_cons, List.mem_append, Option.mem_toList]; exact .inr (.inl hk)
    · simp [hn, hb]
  · intro x hx
    rcases List.mem_append.1 hx with hx | hx
    · exact (h.each x (by simp [hx])).kept ht (fun k hk => hsep k (.inl (by simp only [List.mem_cons, List.mem_append, List.mem_flatMap]; exact .inr (.inr ⟨x, hx, hk⟩))))
    · rcases List.mem_cons.1 hx with rfl | hx
      · exact hfa
      · exact (h.each x (by simp [hx])).kept ht (fun k hk => hsep k (.inr (List.mem_flatMap.2 ⟨x, hx, hk⟩)))
  · rw [hf]; simp

/-- The disk with one file told anew. -/
def DA.upd (A : DA) (nm : List UInt8) (g : FA → FA) : DA := { A with files := setF A.files nm g }
theorem upd_at {pre post : List FileM} {m : FileM} (h : Parts w base d F A mref (pre ++ m :: post)) (g : FA → FA) : (A.upd m.abs.name g).files = pre.map (·.abs) ++ g m.abs :: post.map (·.abs) := by
  have hn := h.good.names
  unfold DA.upd
  have hf := h.files
  simp only [List.map_append, List.map_cons] at hf
  rw [hf] at hn ⊢
  exact setF_at _ _ _ g hn
theorem Good.upd (h : Good A) {nm : List UInt8} {g : FA → FA} (hn : ∀ f ∈ A.files, (g f).name = f.name) (hs : ∀ f ∈ A.files, f.safe ≤ f.bytes.length → (g f).safe ≤ (g f).bytes.length) (hu : usedL (setF A.files nm g) ≤ A.room) : Good (A.upd nm g) where
  room := h.room
  used := hu
  count := by simp [DA.upd, setF_len]; exact h.count
  names := by
    have : (setF A.files nm g).map (·.name) = A.files.map (·.name) := by
      unfold setF; rw [List.map_map]
      apply List.map_congr_left
      intro f hf; simp only [Function.comp_def]; split
      · exact hn f hf
      · rfl
    show ((setF A.files nm g).map (·.name)).Nodup
    rw [this]; exact h.names
  short := by
    intro f hf
    obtain ⟨f', hf', rfl⟩ := List.mem_map.1 hf
    split
    · rw [hn f' hf']; exact h.short f' hf'
    · exact h.short f' hf'
  safe := by
    intro f hf
    obtain ⟨f', hf', rfl⟩ := List.mem_map.1 hf
    split
    · exact hs f' hf' (h.safe f' hf')
    · exact h.safe f' hf'
  left := h.left

def DA.sync (A : DA) (nm : List UInt8) : Int × DA :=
  if A.fails then (14, A)
  else if !A.has nm then (7, A.tick)
  else (0, A.tick.upd nm (fun f => { f with safe := f.bytes.length }))

theorem used_same {l : List FA} {nm : List UInt8} {g : FA → FA} (h : ∀ f ∈ l, (g f).bytes.length = f.bytes.length) : usedL (setF l nm g) = usedL l := by
  unfold usedL setF
  rw [List.map_map]
  congr 1
  apply List.map_congr_left
  intro f hf; simp only [Function.comp_def]; split
  · exact h f hf
  · rfl

set_option maxRecDepth 100000 in
set_option maxHeartbeats 1000000 in
theorem sync_any (h : Parts w base d F A mref ms) (s : ByteArray) (hs : s.size ≤ maxLen) :
    Calls Tryz.prog 80 #[.pointer (some ⟨d, 0, none⟩), .string s] w fun e w' => e = .returned (errR (A.sync s.data.toList).1) ∧ Did w w' base d F (A.sync s.data.toList).2 := by
  have H : Hid (Parts w base d F A mref ms) := h
  have hdF := h.mem_self
  have hhas := has_find h s.data.toList
  clear h
  cases hf : A.fails
  case true =>
    have HV : Hid (A.sync s.data.toList = (14, A)) := by show _ = _; simp [DA.sync, hf]
    have HF : Hid (A.fails = true) := hf
    clear hf hhas
    go_enter Tryz.func80, Tryz.ntmps80
    go_wp2_with (go_at_call 77; refine (operate_fails H.out HF.out _).mono ?_; rintro e w' ⟨rfl, rfl⟩; unfold errV)
    go_ret
    exact ⟨by rw [HV.out]; rfl, by rw [HV.out]; exact Did.none H.out⟩
  case false =>
    have HF : Hid (A.fails = false) := hf
    cases hm : findM ms s.data.toList with
    | none =>
      have HV : Hid (A.sync s.data.toList = (7, A.tick)) := by show _ = _; simp [DA.sync, hf, hhas, hm]
      have HM : Hid (findM ms s.data.toList = none) := hm
      clear hf hhas hm
      go_enter Tryz.func80, Tryz.ntmps80
      go_wp2_with (go_at_call 77; refine (operate_ok H.out HF.out _ hs _ HM.out).mono ?_; rintro e w1 ⟨rfl, hp, ht⟩; simp only [opRes]; unfold errV)
      go_ret
      exact ⟨by rw [HV.out]; rfl, by rw [HV.out]; exact Did.tick hp hdF ht⟩
    | some m =>
      have HV : Hid (A.sync s.data.toList = (0, A.tick.upd s.data.toList (fun f => { f with safe := f.bytes.length }))) := by show _ = _; simp [DA.sync, hf, hhas, hm]
      have HM : Hid (findM ms s.data.toList = some m) := hm
      clear hf hhas hm
      go_enter Tryz.func80, Tryz.ntmps80
      go_wp2_with fail
      refine (operate_ok H.out HF.out _ hs _ HM.out).mono ?_
      rintro e w1 ⟨rfl, hp, ht⟩
      simp only [opRes]
      have HP : Hid (Parts w1 base d F A.tick mref ms) := hp
      obtain ⟨pre, post, rfl, hnm⟩ := split_at HM.out
      have hfa := hp.each m (by simp)
      obtain ⟨sa, sc, hsl, hsl1, hsl2⟩ := hfa.2.form
      have cf : w1.cell? ⟨m.blk, 0, none⟩ = some (.slice sa m.abs.bytes.length sc) := by rw [cell_of hfa.1, hsl]; rfl
      have cg : w1.cell? ⟨m.blk, 1, none⟩ = some (.int .i64 m.abs.safe) := by rw [cell_of hfa.1]; rfl
      have ff : w1.frozen? ⟨m.blk, 1, none⟩ = false := frozen_of hfa.1 1
      have HFA : Hid (FileAt w1 base m) := hfa
      have HS : Hid (m.sl = .slice sa m.abs.bytes.length sc) := hsl
      have HNM : Hid (m.abs.name = s.data.toList) := hnm
      clear hp hfa hsl hnm
      go_wp2
      go_ret
      have ht2 : Turn m.foot w1 (w1.setCell ⟨m.blk, 1, none⟩ (.int .i64 m.abs.bytes.length)) := (Turn.refl _ _).setCell (by simp [FileM.foot]) _
      have hnew : FileAt (w1.setCell ⟨m.blk, 1, none⟩ (.int .i64 m.abs.bytes.length)) base ⟨{ m.abs with safe := m.abs.bytes.length }, m.blk, m.sl⟩ := by
        refine ⟨by rw [heap_set HFA.out.1]; simp, ?_⟩
        have hnd := HP.out.nodup
        rw [HP.out.foot] at hnd
        simp only [List.flatMap_append, List.flatMap_cons, List.nodup_cons, List.nodup_append, FileM.foot, List.mem_append, List.mem_cons] at hnd
        exact HFA.out.2.kept (S := [m.blk]) ((Turn.refl _ _).setCell (by simp) _) (by
          intro k hk e
          simp only [List.mem_singleton] at e
          subst e
          exact hnd.2.2.1.2.1.1.1 (by simpa using hk))
      have hgood : Good (A.tick.upd m.abs.name (fun f => { f with safe := f.bytes.length })) := HP.out.good.upd (fun _ _ => rfl) (fun _ _ _ => Nat.le_refl _) (by rw [used_same (g := fun f => { f with safe := f.bytes.length }) (fun _ _ => rfl)]; exact HP.out.good.used)
      obtain ⟨F', hP, _, hF'⟩ := HP.out.setFile (m' := ⟨{ m.abs with safe := m.abs.bytes.length }, m.blk, m.sl⟩) rfl rfl ht2 hnew (fun k hk => .inl hk) (A' := A.tick.upd m.abs.name (fun f => { f with safe := f.bytes.length })) rfl rfl rfl (upd_at HP.out _) hgood
      refine ⟨by rw [HV.out]; rfl, ?_⟩
      rw [HV.out, ← HNM.out]
      refine ⟨F', ⟨_, _, hP⟩, (ht.mono (by simpa using .inl hdF)).trans ht2 (fun k hk => .inl (HP.out.mem_file (m := m) (by simp) hk)), fun k hk => ?_⟩
      rcases hF' k hk with h1 | h1
      · exact .inl h1
      · have := ht.size; exact .inr (by omega)
end

end Go.Proofs.YthbhfhagbaommaaGreatDoor.Dk

/- Add: bytes at a file's end. -/
namespace Go.Proofs.YthbhfhagbaommaaGreatDoor.Dk
open Go.RowKit Go.Maps
set_option linter.unusedSimpArgs false

section
variable {w w' : World} {base d : Nat} {F : List Nat} {A A' : DA} {mref : Option Nat} {ms : List FileM}

def DA.add (A : DA) (nm : List UInt8) (bs : List UInt8) : Int × DA :=
  if A.fails then (14, A)
  else if !A.has nm then (7, A.tick)
  else if A.room < usedL A.files + bs.length then (12, A.tick)
  else (0, A.tick.upd nm (fun f => { f with bytes := f.bytes ++ bs }))

theorem usedL_split (l r : List FA) (f : FA) : usedL (l ++ f :: r) = usedL l + f.bytes.length + usedL r := by
  simp [usedL, List.sum_append]; omega

theorem Tryz.infoB : (Tryz.prog.info? 5).map (fun i => (i.zero, i.size, i.bytes)) = some (some (.int .u8 0), 1, 1) := by kernel_rfl

set_option maxRecDepth 100000 in
set_option maxHeartbeats 1000000 in
theorem add_any (h : Parts w base d F A mref ms) (s : ByteArray) (hs : s.size ≤ maxLen) (v : Value) (bs : List UInt8) (hxk : ∀ Z, Turn F w Z → SliceAt Z v (bs.map encB)) (hbs : bs.length ≤ 1099511627776) :
    Calls Tryz.prog 85 #[.pointer (some ⟨d, 0, none⟩), .string s, v] w fun e w' => e = .returned (errR (A.add s.data.toList bs).1) ∧ Did w w' base d F (A.add s.data.toList bs).2 := by
  have hx := hxk w (Turn.refl _ _)
  have H : Hid (Parts w base d F A mref ms) := h
  have hdF := h.mem_self
  have hhas := has_find h s.data.toList
  have hroom := h.good.room
  have hused := h.good.used
  clear h
  cases hf : A.fails
  case true =>
    have HV : Hid (A.add s.data.toList bs = (14, A)) := by show _ = _; simp [DA.add, hf]
    have HF : Hid (A.fails = true) := hf
    clear hf hhas hroom hused hx
    go_enter Tryz.func85, Tryz.ntmps85
    go_wp2_with (go_at_call 77; refine (operate_fails H.out HF.out _).mono ?_; rintro e w' ⟨rfl, rfl⟩; unfold errV)
    go_ret
    exact ⟨by rw [HV.out]; rfl, by rw [HV.out]; exact Did.none H.out⟩
  case false =>
    have HF : Hid (A.fails = false) := hf
    cases hm : findM ms s.data.toList with
    | none =>
      have HV : Hid (A.add s.data.toList bs = (7, A.tick)) := by show _ = _; simp [DA.add, hf, hhas, hm]
      have HM : Hid (findM ms s.data.toList = none) := hm
      clear hf hhas hm hroom hused hx
      go_enter Tryz.func85, Tryz.ntmps85
      go_wp2_with (go_at_call 77; refine (operate_ok H.out HF.out _ hs _ HM.out).mono ?_; rintro e w1 ⟨rfl, hp, ht⟩; simp only [opRes]; unfold errV)
      go_ret
      exact ⟨by rw [HV.out]; rfl, by rw [HV.out]; exact Did.tick hp hdF ht⟩
    | some m =>
      have HM : Hid (findM ms s.data.toList = some m) := hm
      have hsl0 : ∃ xa xc, v = .slice xa bs.length xc := by
        rcases hx with ⟨rfl, hb⟩ | ⟨a, c, rfl, _⟩
        · have : bs = [] := by simpa using hb
          subst this; exact ⟨_, _, rfl⟩
        · exact ⟨some a, c, by simp⟩
      obtain ⟨xa, xc, rfl⟩ := hsl0
      have HX : Hid (SliceAt w (.slice xa bs.length xc) (bs.map encB)) := hx
      have hwr : IntKind.i64.wrap ((usedL A.files : Int) + (bs.length : Int)) = (usedL A.files : Int) + (bs.length : Int) := by
        rw [IntWalk.i64_left, IntWalk.wrap64_in _ (by omega)]
      by_cases hfull : A.room < usedL A.files + bs.length
      · have HV : Hid (A.add s.data.toList bs = (12, A.tick)) := by show _ = _; simp [DA.add, hf, hhas, hm, hfull]
        clear hf hhas hm hx
        have hfi : (A.room : Int) < (usedL A.files : Int) + bs.length := by omega
        go_enter Tryz.func85, Tryz.ntmps85
        go_wp2_with fail
        refine (operate_ok H.out HF.out _ hs _ HM.out).mono ?_
        rintro e w1 ⟨rfl, hp, ht⟩
        simp only [opRes]
        have c0 := hp.c0
        rw [tick_room] at c0
        have hu1 : ∀ W, Turn [] w1 W → Calls Tryz.prog 123 #[.pointer (some ⟨d, 0, none⟩)] W fun e w' => e = .returned (.int .i64 (usedL A.files)) ∧ Turn [] W w' := by
          intro W hW
          have hq := used_any (hp.kept hW (by simp))
          rw [tick_files] at hq
          exact hq
        have HP : Hid (Parts w1 base d F A.tick mref ms) := hp
        have HU : Hid (∀ W, Turn [] w1 W → Calls Tryz.prog 123 #[.pointer (some ⟨d, 0, none⟩)] W fun e w' => e = .returned (.int .i64 (usedL A.files)) ∧ Turn [] W w') := hu1
        clear hp hu1
        go_wp2_with fail
        go_region_with (go_at_call 123; refine (HU.out _ (by repeat (first | exact Turn.refl _ _ | refine Turn.drew ?_))).mono ?_; rintro e w2 ⟨rfl, ht2⟩; have ht3 : Turn [] w1 w2 := Turn.same (by repeat (first | exact Turn.refl _ _ | refine Turn.drew ?_)) ht2; have c02 : w2.cell? ⟨d, 0, none⟩ = some (.int .i64 A.room) := by { have hq := (HP.out.kept ht3 (by simp)).c0; rw [tick_room] at hq; exact hq })
        all_goals
          go_wp2
          go_ret
          exact ⟨by rw [HV.out]; rfl, by rw [HV.out]; exact Did.tick (HP.out.kept ht3 (by simp)) hdF (ht.trans ht3 (by simp))⟩
      · have HV : Hid (A.add s.data.toList bs = (0, A.tick.upd s.data.toList (fun f => { f with bytes := f.bytes ++ bs }))) := by show _ = _; simp [DA.add, hf, hhas, hm, hfull]
        obtain ⟨i0, hi, hz, hz1, hz2⟩ := info_parts Tryz.infoB
        clear hf hhas hm hx
        have hfi : ((usedL A.files : Int) + bs.length ≤ A.room) := by omega
        go_enter Tryz.func85, Tryz.ntmps85
        go_wp2_with fail
        refine (operate_ok H.out HF.out _ hs _ HM.out).mono ?_
        rintro e w1 ⟨rfl, hp, ht⟩
        simp only [opRes]
        have c0 := hp.c0
        rw [tick_room] at c0
        have hu1 : ∀ W, Turn [] w1 W → Calls Tryz.prog 123 #[.pointer (some ⟨d, 0, none⟩)] W fun e w' => e = .returned (.int .i64 (usedL A.files)) ∧ Turn [] W w' := by
          intro W hW
          have hq := used_any (hp.kept hW (by simp))
          rw [tick_files] at hq
          exact hq
        have HP : Hid (Parts w1 base d F A.tick mref ms) := hp
        have HU : Hid (∀ W, Turn [] w1 W → Calls Tryz.prog 123 #[.pointer (some ⟨d, 0, none⟩)] W fun e w' => e = .returned (.int .i64 (usedL A.files)) ∧ Turn [] W w') := hu1
        clear hp hu1
        obtain ⟨pre, post, rfl, hnm⟩ := split_at HM.out
        have HNM : Hid (m.abs.name = s.data.toList) := hnm
        clear hnm
        go_wp2_with fail
        go_region_with (go_at_call 123; refine (HU.out _ (by repeat (first | exact Turn.refl _ _ | refine Turn.drew ?_))).mono ?_; rintro e w2 ⟨rfl, ht2⟩; have ht3 : Turn [] w1 w2 := Turn.same (by repeat (first | exact Turn.refl _ _ | refine Turn.drew ?_)) ht2; have c02 : w2.cell? ⟨d, 0, none⟩ = some (.int .i64 A.room) := by { have hq := (HP.out.kept ht3 (by simp)).c0; rw [tick_room] at hq; exact hq })
        all_goals
          have HP2 : Hid (Parts w2 base d F A.tick mref (pre ++ m :: post)) := HP.out.kept ht3 (by simp)
          have hfa := HP2.out.each m (by simp)
          obtain ⟨sa, sc, hsl, hsl1, hsl2⟩ := hfa.2.form
          have cf : w2.cell? ⟨m.blk, 0, none⟩ = some (.slice sa m.abs.bytes.length sc) := by rw [cell_of hfa.1, hsl]; rfl
          have HFA : Hid (FileAt w2 base m) := hfa
          have HS : Hid (m.sl = .slice sa m.abs.bytes.length sc) := hsl
          have hX2 : SliceAt w2 (.slice xa bs.length xc) (bs.map encB) := hxk w2 ((ht.mono (by simpa using .inl hdF)).trans ht3 (by simp))
          have hml : m.abs.bytes.length ≤ usedL A.files := by
            have hq := HP.out.files
            rw [tick_files] at hq
            rw [hq, List.map_append, List.map_cons, usedL_split]; omega
          have hbl : base ≤ w2.heap.size := by have := HP2.out.low d hdF; have := HP2.out.lt d hdF; omega
          have HX2 : Hid (SliceAt w2 (.slice xa bs.length xc) (bs.map encB)) := hX2
          have hnb : m.blk ∉ m.sl.ownBlock.toList := by
            have hnd := HP.out.nodup
            rw [HP.out.foot] at hnd
            simp only [List.flatMap_append, List.flatMap_cons, List.nodup_cons, List.nodup_append, FileM.foot] at hnd
            exact hnd.2.2.1.2.1.1.1
          have HNB : Hid (m.blk ∉ m.sl.ownBlock.toList) := hnb
          clear hfa hsl hX2 hnb
          go_wp2_with (at_builtin; go_must (refine wpList_append_row _ rfl _ _ 50 rfl 5 base i0 Tryz.underlying50 hi hz hz1 hz2 (.slice sa m.abs.bytes.length sc) (.slice xa bs.length xc) m.abs.bytes bs rfl rfl (by rw [← HS.out]; exact HFA.out.2) HX2.out (by omega) hbl ?_; intro v3 w3 hrow3 ht4 hown3; rw [← HS.out] at ht4 hown3; have hb3 := ht4.heap HFA.out.1 HNB.out; have cf3 := cell_of hb3 0; have ff3 := frozen_of hb3 0; simp only [List.getElem?_toArray, List.getElem?_cons_zero] at cf3; have HB3 : Hid (w3.heap[m.blk]? = _) := hb3; clear hb3; obtain ⟨a3, c3, hv3, h31, h32⟩ := hrow3.form; rw [List.length_append] at hv3; subst hv3; have HR3 : Hid (RowAt w3 5 base _ (m.abs.bytes ++ bs)) := hrow3; clear hrow3))
          go_ret
          have ht5 : Turn m.foot w2 (w3.setCell ⟨m.blk, 0, none⟩ (.slice a3 (m.abs.bytes.length + bs.length) c3)) := (ht4.mono (by intro k hk; exact .inl (by simp only [FileM.foot, List.mem_cons]; exact .inr hk))).setCell (by simp [FileM.foot]) _
          have hle4 := ht4.size
          have hne3 : m.blk ∉ (Value.slice a3 (m.abs.bytes.length + bs.length) c3).ownBlock := by
            intro e
            rcases hown3 _ e with h1 | h1
            · exact HNB.out (by simpa using h1)
            · have := lt_of_heap HFA.out.1; omega
          have hnew : FileAt (w3.setCell ⟨m.blk, 0, none⟩ (.slice a3 (m.abs.bytes.length + bs.length) c3)) base ⟨{ m.abs with bytes := m.abs.bytes ++ bs }, m.blk, .slice a3 (m.abs.bytes.length + bs.length) c3⟩ :=
            ⟨by rw [heap_set HB3.out]; simp, HR3.out.kept (S := [m.blk]) ((Turn.refl _ _).setCell (by simp) _) (by intro k hk e; simp only [List.mem_singleton] at e; subst e; exact hne3 hk)⟩
          have hgood : Good (A.tick.upd m.abs.name (fun f => { f with bytes := f.bytes ++ bs })) := HP.out.good.upd (fun _ _ => rfl) (fun f _ hh => by show f.safe ≤ (f.bytes ++ bs).length; rw [List.length_append]; omega) (by
            have hu := upd_at HP.out (fun f => { f with bytes := f.bytes ++ bs })
            have hq := HP.out.files
            have hu2 : usedL A.files + bs.length ≤ A.room := by omega
            have e : setF A.tick.files m.abs.name (fun f => { f with bytes := f.bytes ++ bs }) = (A.tick.upd m.abs.name (fun f => { f with bytes := f.bytes ++ bs })).files := rfl
            rw [e, hu, usedL_split, tick_room]
            rw [tick_files] at hq
            rw [hq, List.map_append, List.map_cons, usedL_split] at hu2
            simp only [List.length_append]
            omega)
          obtain ⟨F', hP, _, hF'⟩ := HP2.out.setFile (m' := ⟨{ m.abs with bytes := m.abs.bytes ++ bs }, m.blk, .slice a3 (m.abs.bytes.length + bs.length) c3⟩) rfl rfl ht5 hnew hown3 (A' := A.tick.upd m.abs.name (fun f => { f with bytes := f.bytes ++ bs })) rfl rfl rfl (upd_at HP.out _) hgood
          refine ⟨by rw [HV.out]; rfl, ?_⟩
          rw [HV.out, ← HNM.out]
          refine ⟨F', ⟨_, _, hP⟩, ((ht.mono (by simpa using .inl hdF)).trans ht3 (by simp)).trans ht5 (fun k hk => .inl (HP.out.mem_file (m := m) (by simp) hk)), fun k hk => ?_⟩
          rcases hF' k hk with h1 | h1
          · exact .inl h1
          · have := ht.size; have := ht3.size; exact .inr (by omega)
end

end Go.Proofs.YthbhfhagbaommaaGreatDoor.Dk

/- keep, fate: what a crash does with one file. -/
namespace Go.Proofs.YthbhfhagbaommaaGreatDoor.Dk
open Go.RowKit Go.Maps
set_option linter.unusedSimpArgs false
set_option linter.unusedVariables false

section
variable {w w' : World} {base d : Nat} {F : List Nat} {A A' : DA} {mref : Option Nat} {ms : List FileM}

theorem run_min2 (ts : Array TypeId) (t : TypeId) (x y : Int) (w : World) : (Builtin.min_ ts t #[.int .i64 x, .int .i64 y]).run Tryz.prog w = .ok (.int .i64 (if y < x then y else x)) w := by
  simp [Builtin.min_, Builtin.min2]

/-- The slice behind keep. -/
def cutSl (sl : Value) (n : Nat) : Value := match sl with
  | .slice a _ _ => .slice a n n
  | v => v
theorem RowAt.cut {w : World} {e base : Nat} {sl : Value} {bs : List UInt8} {n : Nat} (h : RowAt w e base sl bs) (hn : n ≤ bs.length) : RowAt w e base (cutSl sl n) (bs.take n) := by
  rcases h with ⟨rfl, rfl⟩ | ⟨g, cap, cur, rfl, hb, hg, h1, h2, h3, h4⟩
  · have : n = 0 := by simpa using hn
    subst this
    exact .inl ⟨rfl, rfl⟩
  · refine .inr ⟨g, n, cur, by simp [cutSl]; omega, hb, hg, by simp; omega, by omega, by omega, ?_⟩
    rw [show (bs.take n).length = n by simp; omega]
    rw [List.map_take, ← h4, List.take_take]
    congr 1; omega
theorem cutSl_own (sl : Value) (n : Nat) : ∀ k ∈ (cutSl sl n).ownBlock, k ∈ sl.ownBlock := by
  intro k hk
  unfold cutSl at hk
  split at hk
  · rename_i a _ _
    cases a <;> simp [Value.ownBlock] at hk ⊢
    exact hk
  · exact hk

set_option maxRecDepth 100000 in
set_option maxHeartbeats 1000000 in
theorem keep_any {m : FileM} (h : FileAt w base m) (hnb : m.blk ∉ m.sl.ownBlock) (n : Nat) (hn : n ≤ m.abs.bytes.length) (hbig : m.abs.bytes.length ≤ 1048576) (hsafe : m.abs.safe ≤ m.abs.bytes.length) :
    Calls Tryz.prog 65 #[.pointer (some ⟨m.blk, 0, none⟩), .int .i64 n] w fun e w' => e = .returned (.tuple #[]) ∧ FileAt w' base ⟨{ m.abs with bytes := m.abs.bytes.take n, safe := min m.abs.safe n }, m.blk, cutSl m.sl n⟩ ∧ Turn [m.blk] w w' := by
  obtain ⟨sa, sc, hsl, hsl1, hsl2⟩ := h.2.form
  have cf : w.cell? ⟨m.blk, 0, none⟩ = some (.slice sa m.abs.bytes.length sc) := by rw [cell_of h.1, hsl]; rfl
  have cg : w.cell? ⟨m.blk, 1, none⟩ = some (.int .i64 m.abs.safe) := by rw [cell_of h.1]; rfl
  have f0 : w.frozen? ⟨m.blk, 0, none⟩ = false := frozen_of h.1 0
  have f1 : w.frozen? ⟨m.blk, 1, none⟩ = false := frozen_of h.1 1
  have H : Hid (FileAt w base m) := h
  have HS : Hid (m.sl = .slice sa m.abs.bytes.length sc) := hsl
  have HNB : Hid (m.blk ∉ m.sl.ownBlock) := hnb
  have hs3 : ∀ w, (Instr.slice 50 (.slice sa m.abs.bytes.length sc) none (some (.int .i64 (n : Int))) (some (.int .i64 (n : Int)))).run Tryz.prog w = .ok (.slice sa n n) w := by
    intro w
    have hsz : (sizeOf 5).run Tryz.prog w = .ok 1 w := by kernel_rfl
    simp [Instr.slice, run_underlying Tryz.underlying50, Instr.sliceBounds, run_sliceBound, hsz, Result.andThen, (by omega : n ≤ sc), Addr.add]
  have hmin := run_min2
  clear h hsl hnb
  have HC : Hid (cutSl m.sl n = .slice sa n n) := by show _ = _; rw [HS.out]; rfl
  have HR : Hid (RowAt w 5 base (.slice sa n n) (m.abs.bytes.take n)) := by have := RowAt.cut H.out.2 hn; rw [HC.out] at this; exact this
  have hfin : ∀ q : Nat, q = min m.abs.safe n → FileAt ((w.setCell ⟨m.blk, 0, none⟩ (.slice sa n n)).setCell ⟨m.blk, 1, none⟩ (.int .i64 (q : Int))) base ⟨{ m.abs with bytes := m.abs.bytes.take n, safe := min m.abs.safe n }, m.blk, cutSl m.sl n⟩ := by
    intro q hq
    refine ⟨?_, ?_⟩
    · rw [heap_set (heap_set H.out.1 0 _) 1, HC.out, hq]; simp
    · show RowAt _ _ _ (cutSl m.sl n) (m.abs.bytes.take n)
      rw [HC.out]
      refine HR.out.kept (S := [m.blk]) (((Turn.refl _ _).setCell (by simp) _).setCell (by simp) _) ?_
      intro k hk e
      simp only [List.mem_singleton] at e
      subst e
      exact HNB.out (cutSl_own m.sl n _ (by rw [HC.out]; exact hk))
  have HFin : Hid (∀ q : Nat, q = min m.abs.safe n → FileAt ((w.setCell ⟨m.blk, 0, none⟩ (.slice sa n n)).setCell ⟨m.blk, 1, none⟩ (.int .i64 (q : Int))) base ⟨{ m.abs with bytes := m.abs.bytes.take n, safe := min m.abs.safe n }, m.blk, cutSl m.sl n⟩) := hfin
  clear hfin
  by_cases hsn : (n : Int) < (m.abs.safe : Int)
  all_goals
    go_enter Tryz.func65, Tryz.ntmps65
    go_wp2
    go_end0
    exact ⟨rfl, HFin.out _ (by omega), ((Turn.refl _ _).setCell (by simp) _).setCell (by simp) _⟩

end

end Go.Proofs.YthbhfhagbaommaaGreatDoor.Dk

/- Size, Cut. -/
namespace Go.Proofs.YthbhfhagbaommaaGreatDoor.Dk
open Go.RowKit Go.Maps
set_option maxRecDepth 100000
set_option linter.unusedSimpArgs false
set_option linter.unusedVariables false

theorem setF_names (l : List FA) (nm : List UInt8) (g : FA → FA) (hg : ∀ f, (g f).name = f.name) : (setF l nm g).map (·.name) = l.map (·.name) := by
  unfold setF; rw [List.map_map]
  apply List.map_congr_left
  intro f _; simp only [Function.comp_def]; split
  · exact hg f
  · rfl
theorem usedL_le {l : List FA} {nm : List UInt8} {g : FA → FA} (h : ∀ f ∈ l, (g f).bytes.length ≤ f.bytes.length) : usedL (setF l nm g) ≤ usedL l := by
  unfold usedL setF
  induction l with
  | nil => exact Nat.le_refl _
  | cons a r ih =>
    have ih := ih (fun f hf => h f (by simp [hf]))
    have h1 := h a (by simp)
    simp only [List.map_cons, List.sum_cons]
    split <;> omega

section
variable {w w' : World} {base d : Nat} {F : List Nat} {A A' : DA} {mref : Option Nat} {ms ms' : List FileM} {mb : Nat}

def DA.file (A : DA) (nm : List UInt8) : Option FA := A.files.find? (fun f => f.name == nm)
theorem file_find (h : Parts w base d F A mref ms) (nm : List UInt8) : A.file nm = (findM ms nm).map (·.abs) := by
  unfold DA.file findM
  rw [h.files, List.find?_map]
  rfl
theorem has_file (A : DA) (nm : List UInt8) : A.has nm = (A.file nm).isSome := rfl

/-! ### Size -/
def DA.sizeOf (A : DA) (nm : List UInt8) : Int := match A.file nm with
  | some f => f.bytes.length
  | none => -1
set_option maxHeartbeats 400000 in
theorem size_any (h : Parts w base d F A mref ms) (s : ByteArray) (hs : s.size ≤ maxLen) :
    Calls Tryz.prog 115 #[.pointer (some ⟨d, 0, none⟩), .string s] w fun e w' => e = .returned (.int .i64 (A.sizeOf s.data.toList)) ∧ w = w' := by
  have c1 := h.c1
  have hlook := h.map.look hs
  have hff := file_find h s.data.toList
  cases hm : findM ms s.data.toList with
  | none =>
    have HV : Hid (A.sizeOf s.data.toList = -1) := by show _ = _; simp [DA.sizeOf, hff, hm]
    rw [hm] at hlook
    simp only [ptrOf] at hlook
    clear h hff hm
    go_enter Tryz.func115, Tryz.ntmps115
    go_wp2
    go_ret
    exact ⟨by rw [HV.out]; rfl, rfl⟩
  | some m =>
    have HV : Hid (A.sizeOf s.data.toList = m.abs.bytes.length) := by show _ = _; simp [DA.sizeOf, hff, hm]
    have hfa := h.each m (findM_mem hm).1
    obtain ⟨sa, sc, hsl, hsl1, hsl2⟩ := hfa.2.form
    have cf : w.cell? ⟨m.blk, 0, none⟩ = some (.slice sa m.abs.bytes.length sc) := by rw [cell_of hfa.1, hsl]; rfl
    rw [hm] at hlook
    simp only [ptrOf] at hlook
    clear h hff hm hfa hsl
    go_enter Tryz.func115, Tryz.ntmps115
    go_wp2
    go_ret
    exact ⟨by rw [HV.out]; rfl, rfl⟩

/-! ### Cut -/
def cut1 (n : Nat) (f : FA) : FA := { f with bytes := f.bytes.take n, safe := min f.safe n }
def DA.cut (A : DA) (nm : List UInt8) (n : Int) : Int × DA :=
  if A.fails then (14, A)
  else match A.file nm with
    | none => (7, A.tick)
    | some f => if n < 0 ∨ (f.bytes.length : Int) < n then (2, A.tick) else (0, A.tick.upd nm (cut1 n.toNat))
set_option maxHeartbeats 1000000 in
theorem cut_any (h : Parts w base d F A mref ms) (s : ByteArray) (hs : s.size ≤ maxLen) (n : Int) :
    Calls Tryz.prog 118 #[.pointer (some ⟨d, 0, none⟩), .string s, .int .i64 n] w fun e w' => e = .returned (errR (A.cut s.data.toList n).1) ∧ Did w w' base d F (A.cut s.data.toList n).2 := by
  have H : Hid (Parts w base d F A mref ms) := h
  have hdF := h.mem_self
  have hff := file_find h s.data.toList
  clear h
  cases hf : A.fails
  case true =>
    have HV : Hid (A.cut s.data.toList n = (14, A)) := by show _ = _; simp [DA.cut, hf]
    have HF : Hid (A.fails = true) := hf
    clear hf hff
    go_enter Tryz.func118, Tryz.ntmps118
    go_wp2_with (go_at_call 77; refine (operate_fails H.out HF.out _).mono ?_; rintro e w' ⟨rfl, rfl⟩; unfold errV)
    go_ret
    exact ⟨by rw [HV.out]; rfl, by rw [HV.out]; exact Did.none H.out⟩
  case false =>
    have HF : Hid (A.fails = false) := hf
    cases hm : findM ms s.data.toList with
    | none =>
      have HV : Hid (A.cut s.data.toList n = (7, A.tick)) := by show _ = _; simp [DA.cut, hf, hff, hm]
      have HM : Hid (findM ms s.data.toList = none) := hm
      clear hf hff hm
      go_enter Tryz.func118, Tryz.ntmps118
      go_wp2_with (go_at_call 77; refine (operate_ok H.out HF.out _ hs _ HM.out).mono ?_; rintro e w1 ⟨rfl, hp, ht⟩; simp only [opRes]; unfold errV)
      go_ret
      exact ⟨by rw [HV.out]; rfl, by rw [HV.out]; exact Did.tick hp hdF ht⟩
    | some m =>
      have HM : Hid (findM ms s.data.toList = some m) := hm
      by_cases hr : n < 0 ∨ (m.abs.bytes.length : Int) < n
      · have HV : Hid (A.cut s.data.toList n = (2, A.tick)) := by show _ = _; simp [DA.cut, hf, hff, hm, hr]
        have HR : Hid (n < 0 ∨ (m.abs.bytes.length : Int) < n) := hr
        clear hf hff hm hr
        by_cases h1 : n < 0
        all_goals
          have h2 : n < 0 ∨ (m.abs.bytes.length : Int) < n := HR.out
          go_enter Tryz.func118, Tryz.ntmps118
          go_wp2_with fail
          refine (operate_ok H.out HF.out _ hs _ HM.out).mono ?_
          rintro e w1 ⟨rfl, hp, ht⟩
          simp only [opRes]
          have HP : Hid (Parts w1 base d F A.tick mref ms) := hp
          have hfa := hp.each m (findM_mem HM.out).1
          obtain ⟨sa, sc, hsl, hsl1, hsl2⟩ := hfa.2.form
          have cf : w1.cell? ⟨m.blk, 0, none⟩ = some (.slice sa m.abs.bytes.length sc) := by rw [cell_of hfa.1, hsl]; rfl
          try (have h3 : (m.abs.bytes.length : Int) < n := by (have := HR.out; omega))
          clear hp hfa hsl h2
          go_wp2
          go_ret
          exact ⟨by rw [HV.out]; rfl, by rw [HV.out]; exact Did.tick HP.out hdF ht⟩
      · have HV : Hid (A.cut s.data.toList n = (0, A.tick.upd s.data.toList (cut1 n.toNat))) := by show _ = _; simp [DA.cut, hf, hff, hm, hr]
        obtain ⟨k, rfl⟩ := Int.eq_ofNat_of_zero_le (show 0 ≤ n by omega)
        have h1 : ¬ (k : Int) < 0 := by omega
        have h2 : ¬ (m.abs.bytes.length : Int) < k := by omega
        have hkn : k ≤ m.abs.bytes.length := by omega
        clear hf hff hm hr
        go_enter Tryz.func118, Tryz.ntmps118
        go_wp2_with fail
        refine (operate_ok H.out HF.out _ hs _ HM.out).mono ?_
        rintro e w1 ⟨rfl, hp, ht⟩
        simp only [opRes]
        have HP : Hid (Parts w1 base d F A.tick mref ms) := hp
        obtain ⟨pre, post, rfl, hnm⟩ := split_at HM.out
        have hfa := hp.each m (by simp)
        obtain ⟨sa, sc, hsl, hsl1, hsl2⟩ := hfa.2.form
        have cf : w1.cell? ⟨m.blk, 0, none⟩ = some (.slice sa m.abs.bytes.length sc) := by rw [cell_of hfa.1, hsl]; rfl
        have HFA : Hid (FileAt w1 base m) := hfa
        have HNM : Hid (m.abs.name = s.data.toList) := hnm
        have hnb : m.blk ∉ m.sl.ownBlock := by
          have hnd := hp.nodup
          rw [hp.foot] at hnd
          simp only [List.flatMap_append, List.flatMap_cons, List.nodup_cons, List.nodup_append, FileM.foot] at hnd
          intro e
          exact hnd.2.2.1.2.1.1.1 (by simpa using e)
        have hbytes : m.abs.bytes.length ≤ 1048576 := by
          have h1 := hp.good.used
          have h2 := hp.good.room
          rw [hp.files, List.map_append, List.map_cons, usedL_split] at h1
          omega
        have hsafe := hp.good.safe m.abs (by rw [hp.files]; simp)
        have HB : Hid (m.blk ∉ m.sl.ownBlock ∧ m.abs.bytes.length ≤ 1048576 ∧ m.abs.safe ≤ m.abs.bytes.length) := ⟨hnb, hbytes, hsafe⟩
        clear hp hfa hsl hnm hnb hbytes hsafe
        go_wp2_with fail
        refine (keep_any HFA.out HB.out.1 k hkn HB.out.2.1 HB.out.2.2).mono ?_
        rintro e w2 ⟨rfl, hfa2, ht2⟩
        go_wp2
        go_ret
        have htf : Turn m.foot w1 w2 := ht2.mono (by intro x hx; simp only [List.mem_singleton] at hx; subst hx; exact .inl (by simp [FileM.foot]))
        have hgood : Good (A.tick.upd m.abs.name (cut1 k)) := HP.out.good.upd (fun _ _ => rfl) (fun f _ hh => by simp only [cut1, List.length_take]; omega) (Nat.le_trans (usedL_le (fun f _ => by simp only [cut1, List.length_take]; omega)) HP.out.good.used)
        obtain ⟨F', hP, hsub, _⟩ := HP.out.setFile (m' := ⟨cut1 k m.abs, m.blk, cutSl m.sl k⟩) rfl rfl htf hfa2 (fun x hx => .inl (cutSl_own m.sl k x hx)) (A' := A.tick.upd m.abs.name (cut1 k)) rfl rfl rfl (upd_at HP.out _) hgood
        refine ⟨by rw [HV.out]; rfl, ?_⟩
        rw [HV.out]
        simp only [Int.toNat_natCast]
        rw [← HNM.out]
        refine ⟨F', ⟨_, _, hP⟩, (ht.mono (by simpa using .inl hdF)).trans htf (fun x hx => .inl (HP.out.mem_file (m := m) (by simp) hx)), fun x hx => .inl ?_⟩
        rcases hsub x hx with h1 | h1
        · exact h1
        · exact HP.out.mem_file (m := m) (by simp) (by simp only [FileM.foot, List.mem_cons, Option.mem_toList]; exact .inr (cutSl_own m.sl k x h1))
end

end Go.Proofs.YthbhfhagbaommaaGreatDoor.Dk

/- Slices of bytes that come in; their cells; bytes as a text. -/
namespace Go.Proofs.YthbhfhagbaommaaGreatDoor
open Go.RowKit Go.Maps
set_option linter.unusedSimpArgs false
set_option linter.unusedVariables false

theorem hide {p : Prop} (h : p) : Hid p := h
theorem take_snoc (bs : List UInt8) (k : Nat) (h : k < bs.length) : bs.take (k + 1) = bs.take k ++ [bs[k]] := List.take_succ_eq_append_getElem h
/-- A slice that is told by its values, whether or not it is nil. -/
theorem SliceAt.form {w : World} {v : Value} {xs : List Value} (h : SliceAt w v xs) : ∃ a c, v = .slice a xs.length c ∧ ∀ j u, xs[j]? = some u → ∃ p, a = some p ∧ w.cell? (p.add j) = some u := by
  rcases h with ⟨rfl, rfl⟩ | ⟨a, c, rfl, hc⟩
  · exact ⟨none, 0, rfl, by simp⟩
  · exact ⟨some a, c, rfl, fun j u hu => ⟨a, rfl, hc j u hu⟩⟩
theorem enc_at (bs : List UInt8) (k : Nat) (h : k < bs.length) : (bs.map encB)[k]? = some (.int .u8 bs[k].toNat) := by
  simp [List.getElem?_eq_getElem h, encB]

/-- A row of bytes that came in. -/
theorem argB {w : World} {a : Option Addr} {len cap : Nat} {zs : List Int}
    (h : (a = none ∧ len = 0 ∧ cap = 0 ∧ zs = []) ∨ ∃ x, a = some x ∧ len ≤ cap ∧ cap ≤ maxLen ∧ zs.length = cap ∧ (∀ i, i < zs.length → w.cell? (x.add i) = some (.int .u8 (zs.getD i 0))) ∧ ∀ n ∈ zs, (Lit.int .u8 n).wf = true) :
    ∃ bs : List UInt8, len = bs.length ∧ bs.length ≤ maxLen ∧ ∀ Z, Turn [] w Z → SliceAt Z (.slice a len cap) (bs.map encB) := by
  rcases h with ⟨rfl, rfl, rfl, rfl⟩ | ⟨x, rfl, h1, h2, h3, h4, h5⟩
  · exact ⟨[], rfl, by simp, fun Z _ => .inl ⟨rfl, rfl⟩⟩
  · have hlen : ((zs.take len).map (fun z => UInt8.ofNat z.toNat)).length = len := by simp; omega
    refine ⟨(zs.take len).map (fun z => UInt8.ofNat z.toNat), hlen.symm, by rw [hlen]; omega, fun Z hZ => SliceAt.kept (S := []) (.inr ⟨x, cap, by rw [List.length_map, hlen], fun j u hu => ?_⟩) hZ (by simp)⟩
    have hj : j < len := by have := (List.getElem?_eq_some_iff.1 hu).1; simp at this; omega
    have hjz : j < zs.length := by omega
    rw [h4 j hjz]
    have hw := h5 (zs[j]) (List.getElem_mem _)
    have hb : 0 ≤ zs[j] ∧ zs[j] < 256 := by
      simp only [Lit.wf, IntKind.min, IntKind.max, IntKind.signed, IntKind.bits, Bool.and_eq_true, decide_eq_true_eq] at hw
      have h1 := hw.1
      have h2 := hw.2
      simp at h1 h2
      exact ⟨h1, by omega⟩
    have hu2 : u = encB (UInt8.ofNat (zs[j]).toNat) := by
      simp [List.getElem?_take_of_lt hj, List.getElem?_eq_getElem hjz] at hu
      exact hu.symm
    rw [hu2]
    unfold encB
    have : ((UInt8.ofNat (zs[j]).toNat).toNat : Int) = zs[j] := by
      rw [UInt8.toNat_ofNat_of_lt' (by show (zs[j]).toNat < 256; omega)]; omega
    rw [this]
    simp [List.getD, List.getElem?_eq_getElem hjz]

/-- Bytes as a text. -/
theorem convB {w : World} {a : Option Addr} {c : Nat} {bs : List UInt8} (h : SliceAt w (.slice a bs.length c) (bs.map encB)) :
    (convert 50 9 (.slice a bs.length c)).run Tryz.prog w = .ok (.string ⟨bs.toArray⟩) w := by
  rcases h with ⟨h1, h2⟩ | ⟨x, c', h1, h2⟩
  · have h3 : bs = [] := by simpa using h2
    simp only [Value.slice.injEq] at h1
    obtain ⟨rfl, _, rfl⟩ := h1
    rw [h3]
    exact run_convert_bytes_nil w 50 5 Tryz.underlying50 Tryz.underlying5 0 0 9 Tryz.underlying9
  · simp only [Value.slice.injEq] at h1
    obtain ⟨rfl, _, rfl⟩ := h1
    exact run_convert_bytes_back w 50 9 5 x c bs Tryz.underlying50 Tryz.underlying5 Tryz.underlying9 (fun j hj => h2 j _ (by rw [List.getElem?_map, List.getElem?_eq_getElem hj]; rfl))

end Go.Proofs.YthbhfhagbaommaaGreatDoor

/- Rows of bytes that are read: their pieces. -/
namespace Go.Proofs.YthbhfhagbaommaaGreatDoor
open Go.RowKit Go.Maps
set_option linter.unusedSimpArgs false
set_option linter.unusedVariables false

/-- A slice that tells these bytes: its room, its cells. -/
def BytesAt (w : World) (v : Value) (bs : List UInt8) : Prop :=
  ∃ a c, v = .slice a bs.length c ∧ bs.length ≤ c ∧ c ≤ maxLen ∧ (a = none → c = 0) ∧ ∀ j (h : j < bs.length), ∃ p, a = some p ∧ w.cell? (p.add j) = some (encB bs[j])

theorem add_block (a : Addr) (j : Nat) : (a.add j).block = a.block := by unfold Addr.add; split <;> rfl
theorem add_add (a : Addr) (i j : Nat) : (a.add i).add j = a.add (i + j) := by
  unfold Addr.add
  repeat' split
  all_goals simp_all
  all_goals omega
theorem add_zero (a : Addr) : a.add 0 = a := by unfold Addr.add; rw [if_pos rfl]

theorem BytesAt.slice {w : World} {v : Value} {bs : List UInt8} (h : BytesAt w v bs) : SliceAt w v (bs.map encB) := by
  obtain ⟨a, c, rfl, h1, h2, h3, h4⟩ := h
  cases a with
  | none =>
    have hc := h3 rfl
    have hb : bs = [] := List.eq_nil_of_length_eq_zero (by omega)
    subst hb; subst hc
    exact .inl ⟨rfl, rfl⟩
  | some p =>
    refine .inr ⟨p, c, by simp, fun j u hu => ?_⟩
    have hj : j < bs.length := by have := (List.getElem?_eq_some_iff.1 hu).1; simpa using this
    obtain ⟨q, hq, hc⟩ := h4 j hj
    cases hq
    rw [hc]
    simpa [List.getElem?_eq_getElem hj] using hu
theorem BytesAt.kept {w w' : World} {v : Value} {bs : List UInt8} {S : List Nat} (h : BytesAt w v bs) (ht : Turn S w w') (hn : ∀ k ∈ v.ownBlock, k < w.heap.size → k ∉ S) : BytesAt w' v bs := by
  obtain ⟨a, c, rfl, h1, h2, h3, h4⟩ := h
  refine ⟨a, c, rfl, h1, h2, h3, fun j hj => ?_⟩
  obtain ⟨p, rfl, hc⟩ := h4 j hj
  have hlt := World.block_lt_of_cell? w _ hc
  refine ⟨p, rfl, ?_⟩
  rw [World.cell?_of_block (w := w) (ht.block _ hlt (by rw [add_block] at hlt ⊢; exact hn _ (by simp [Value.ownBlock]) hlt)), hc]
theorem BytesAt.still {w w' : World} {v : Value} {bs : List UInt8} (h : BytesAt w v bs) (ht : Turn [] w w') : BytesAt w' v bs := h.kept ht (by simp)
theorem RowAt.bytes {w : World} {e base : Nat} {v : Value} {bs : List UInt8} (h : RowAt w e base v bs) : BytesAt w v bs := by
  rcases h with ⟨rfl, rfl⟩ | ⟨g, cap, cur, rfl, hb, hg, h1, h2, h3, h4⟩
  · exact ⟨none, 0, rfl, by simp, by simp [maxLen], by simp, by simp⟩
  · refine ⟨some ⟨g, 0, none⟩, cap, rfl, h1, h3, by simp, fun j hj => ⟨_, rfl, ?_⟩⟩
    rw [addr_add, cell_of hg]
    have : (cur.toList.take bs.length)[j]? = some (encB bs[j]) := by rw [h4, List.getElem?_map, List.getElem?_eq_getElem hj]; rfl
    rw [List.getElem?_take_of_lt hj] at this
    simpa using this
theorem BytesAt.form {w : World} {v : Value} {bs : List UInt8} (h : BytesAt w v bs) : ∃ a c, v = .slice a bs.length c ∧ bs.length ≤ c ∧ c ≤ maxLen ∧ ∀ j (h : j < bs.length), ∃ p, a = some p ∧ w.cell? (p.add j) = some (.int .u8 bs[j].toNat) := by
  obtain ⟨a, c, rfl, h1, h2, h3, h4⟩ := h
  exact ⟨a, c, rfl, h1, h2, h4⟩

/-- Where a piece begins. -/
def advA (a : Option Addr) (n c : Nat) : Option Addr := if c = n then a else a.map (·.add n)
theorem BytesAt.drop {w : World} {a : Option Addr} {c n : Nat} {bs : List UInt8} (h : BytesAt w (.slice a bs.length c) bs) (hn : n ≤ bs.length) : BytesAt w (.slice (advA a n c) (bs.length - n) (c - n)) (bs.drop n) := by
  obtain ⟨a', c', e, h1, h2, h3, h4⟩ := h
  simp only [Value.slice.injEq] at e
  obtain ⟨rfl, -, rfl⟩ := e
  refine ⟨advA a n c, c - n, by simp, by simp; omega, by omega, ?_, fun j hj => ?_⟩
  · intro e
    unfold advA at e
    split at e
    · omega
    · cases a with
      | none => have := h3 rfl; omega
      | some p => simp at e
  · simp at hj
    obtain ⟨p, rfl, hc⟩ := h4 (n + j) (by omega)
    refine ⟨p.add n, by simp only [advA, if_neg (by omega : ¬ c = n), Option.map_some], ?_⟩
    rw [add_add, hc]; simp
theorem BytesAt.take {w : World} {a : Option Addr} {c n : Nat} {bs : List UInt8} (h : BytesAt w (.slice a bs.length c) bs) (hn : n ≤ bs.length) : BytesAt w (.slice a n c) (bs.take n) := by
  obtain ⟨a', c', e, h1, h2, h3, h4⟩ := h
  simp only [Value.slice.injEq] at e
  obtain ⟨rfl, -, rfl⟩ := e
  refine ⟨a, c, by simp; omega, by simp; omega, h2, h3, fun j hj => ?_⟩
  simp at hj
  obtain ⟨p, rfl, hc⟩ := h4 j (by omega)
  exact ⟨p, rfl, by rw [hc]; simp⟩

theorem sizeB (w : World) : (sizeOf 5).run Tryz.prog w = .ok 1 w := by kernel_rfl
theorem run_from (a : Option Addr) (l c n : Nat) (hn : n ≤ l) (w : World) : (Instr.slice 50 (.slice a l c) (some (.int .i64 (n : Int))) none none).run Tryz.prog w = .ok (.slice (advA a n c) (l - n) (c - n)) w := by
  have h := sizeB w
  simp [Instr.slice, run_underlying Tryz.underlying50, Instr.sliceBounds, run_sliceBound, h, Result.andThen, hn, advA]
theorem run_to (a : Option Addr) (l c n : Nat) (hn : n ≤ c) (w : World) : (Instr.slice 50 (.slice a l c) none (some (.int .i64 (n : Int))) none).run Tryz.prog w = .ok (.slice a n c) w := by
  have h := sizeB w
  cases a <;> simp [Instr.slice, run_underlying Tryz.underlying50, Instr.sliceBounds, run_sliceBound, h, Result.andThen, hn, add_zero]
theorem run_from_to (a : Option Addr) (l c n m : Nat) (hn : n ≤ m) (hm : m ≤ c) (w : World) : (Instr.slice 50 (.slice a l c) (some (.int .i64 (n : Int))) (some (.int .i64 (m : Int))) none).run Tryz.prog w = .ok (.slice (advA a n c) (m - n) (c - n)) w := by
  have h := sizeB w
  simp [Instr.slice, run_underlying Tryz.underlying50, Instr.sliceBounds, run_sliceBound, h, Result.andThen, hn, hm, advA]

/-- Bytes that came in. -/
theorem argBytes {w : World} {a : Option Addr} {len cap : Nat} {zs : List Int}
    (h : (a = none ∧ len = 0 ∧ cap = 0 ∧ zs = []) ∨ ∃ x, a = some x ∧ len ≤ cap ∧ cap ≤ maxLen ∧ zs.length = cap ∧ (∀ i, i < zs.length → w.cell? (x.add i) = some (.int .u8 (zs.getD i 0))) ∧ ∀ n ∈ zs, (Lit.int .u8 n).wf = true) :
    ∃ bs : List UInt8, len = bs.length ∧ BytesAt w (.slice a bs.length cap) bs := by
  obtain ⟨bs, hl, hm, hx⟩ := argB h
  have hs := hx w (Turn.refl _ _)
  refine ⟨bs, hl, a, cap, rfl, ?_, ?_, ?_, fun j hj => ?_⟩
  · rcases h with ⟨rfl, rfl, rfl, rfl⟩ | ⟨x, rfl, h1, h2, h3, h4, h5⟩ <;> omega
  · rcases h with ⟨rfl, rfl, rfl, rfl⟩ | ⟨x, rfl, h1, h2, h3, h4, h5⟩
    · omega
    · exact h2
  · rcases h with ⟨rfl, rfl, rfl, rfl⟩ | ⟨x, rfl, h1, h2, h3, h4, h5⟩ <;> simp
  · obtain ⟨a', c', e, hc⟩ := hs.form
    simp only [Value.slice.injEq] at e
    obtain ⟨rfl, -, rfl⟩ := e
    exact hc j _ (enc_at bs j hj)
/-- Bytes as a text. -/
theorem BytesAt.conv {w : World} {v : Value} {bs : List UInt8} (h : BytesAt w v bs) : (convert 50 9 v).run Tryz.prog w = .ok (.string ⟨bs.toArray⟩) w := by
  obtain ⟨a, c, rfl, -⟩ := h.form
  exact convB h.slice
theorem text_ne {a b : List UInt8} (h : a ≠ b) : ({ data := a.toArray } : ByteArray) ≠ { data := b.toArray } := by
  intro e
  exact h (by have := congrArg (fun b : ByteArray => b.data.toList) e; simpa using this)

end Go.Proofs.YthbhfhagbaommaaGreatDoor

/- Numbers as bytes, seven bits each, the least ones first: what is written is read again; what is read was written. No program. -/
namespace Go.Proofs.YthbhfhagbaommaaGreatDoor.Nu

/-- The bytes of a number. -/
def putF : Nat → Nat → List UInt8
  | 0, _ => []
  | f + 1, n => if n < 128 then [UInt8.ofNat n] else UInt8.ofNat (n % 128 + 128) :: putF f (n / 128)
def put (n : Nat) : List UInt8 := putF (n + 1) n
theorem putF_enough : ∀ f n, n < f → ∀ g, n < g → putF f n = putF g n
  | 0, _, h, _, _ => by omega
  | _ + 1, _, _, 0, h => by omega
  | f + 1, n, h, g + 1, k => by
    unfold putF
    split
    · rfl
    · rw [putF_enough f (n / 128) (by omega) g (by omega)]
theorem put_small {n : Nat} (h : n < 128) : put n = [UInt8.ofNat n] := by simp [put, putF, h]
theorem put_big {n : Nat} (h : 128 ≤ n) : put n = UInt8.ofNat (n % 128 + 128) :: put (n / 128) := by
  show putF (n + 1) n = _
  unfold putF
  rw [if_neg (by omega)]
  congr 1
  exact putF_enough _ _ (by omega) _ (by omega)
theorem put_pos (n : Nat) : 0 < (put n).length := by
  by_cases h : n < 128
  · simp [put_small h]
  · simp [put_big (by omega : 128 ≤ n)]
theorem put_len : ∀ (k n : Nat), n < 128 ^ (k + 1) → (put n).length ≤ k + 1
  | 0, n, h => by simp [put_small (show n < 128 by simpa using h)]
  | k + 1, n, h => by
    by_cases h1 : n < 128
    · simp [put_small h1]
    · rw [put_big (by omega)]
      have := put_len k (n / 128) (by rw [Nat.div_lt_iff_lt_mul (by omega)]; rw [Nat.pow_succ] at h; exact h)
      simp; omega
theorem put_len6 {n : Nat} (h : n ≤ 1099511627776) : (put n).length ≤ 6 := put_len 5 n (by omega)

/-- The number that bytes tell. -/
def val : List UInt8 → Nat
  | [] => 0
  | c :: r => c.toNat % 128 + 128 * val r
theorem val_snoc : ∀ (l : List UInt8) (c : UInt8), val (l ++ [c]) = val l + c.toNat % 128 * 128 ^ l.length
  | [], c => by simp [val]
  | d :: l, c => by
    simp only [List.cons_append, val, val_snoc l c, List.length_cons, Nat.pow_succ]
    rw [Nat.mul_add, Nat.add_assoc, Nat.mul_comm (128 ^ l.length) 128, ← Nat.mul_assoc (c.toNat % 128), Nat.mul_comm (c.toNat % 128) 128, Nat.mul_assoc]
theorem val_lt : ∀ (l : List UInt8), val l < 128 ^ l.length
  | [] => by simp [val]
  | c :: l => by
    have := val_lt l
    simp only [val, List.length_cons, Nat.pow_succ]
    omega
theorem val_mono (l r : List UInt8) : val l ≤ val (l ++ r) := by
  induction l with
  | nil => simp [val]
  | cons c l ih => simp only [List.cons_append, val]; omega
theorem val_put : ∀ (f n : Nat), n < f → val (put n) = n
  | 0, _, h => by omega
  | f + 1, n, h => by
    by_cases h1 : n < 128
    · rw [put_small h1]; simp [val, Nat.mod_eq_of_lt (show n < 256 by omega), Nat.mod_eq_of_lt h1]
    · rw [put_big (by omega)]
      simp only [val, val_put f (n / 128) (by omega)]
      rw [show (UInt8.ofNat (n % 128 + 128)).toNat = n % 128 + 128 by simp; omega]
      omega
theorem val_of_put (n : Nat) : val (put n) = n := val_put (n + 1) n (by omega)

/-- All bytes say that there are more. -/
def more (l : List UInt8) : Bool := l.all (fun c => decide (128 ≤ c.toNat))
theorem more_snoc (l : List UInt8) (c : UInt8) : more (l ++ [c]) = (more l && decide (128 ≤ c.toNat)) := by simp [more]

/-- Such bytes, and one that is the last, are a number's just when it is not 0, or is alone. -/
theorem put_val : ∀ (l : List UInt8) (c : UInt8), more l = true → c.toNat < 128 → (l = [] ∨ c.toNat ≠ 0) → put (val (l ++ [c])) = l ++ [c]
  | [], c, _, h, _ => by
    simp only [List.nil_append, val]
    rw [put_small (by omega)]
    congr 1
    apply UInt8.toNat.inj
    simp; omega
  | d :: l, c, hm, h, h0 => by
    simp only [more, List.all_cons, Bool.and_eq_true, decide_eq_true_eq] at hm
    have h0 : c.toNat ≠ 0 := by simpa using h0
    have hd := d.toNat_lt
    have hv : 0 < val (l ++ [c]) := by
      rw [val_snoc, Nat.mod_eq_of_lt h]
      have : 0 < c.toNat * 128 ^ l.length := Nat.mul_pos (by omega) (Nat.pow_pos (by omega))
      omega
    simp only [List.cons_append, val]
    rw [put_big (by omega), show (d.toNat % 128 + 128 * val (l ++ [c])) / 128 = val (l ++ [c]) by omega, put_val l c hm.2 h (.inr h0)]
    congr 1
    apply UInt8.toNat.inj
    simp; omega
/-- What a number's bytes are: ones that say that there are more, and a last one. -/
theorem put_form : ∀ (f n : Nat), n < f → ∃ l c, put n = l ++ [c] ∧ more l = true ∧ c.toNat < 128 ∧ (l = [] ∨ c.toNat ≠ 0)
  | 0, _, h => by omega
  | f + 1, n, h => by
    by_cases h1 : n < 128
    · exact ⟨[], UInt8.ofNat n, by rw [put_small h1]; rfl, rfl, by simp; omega, .inl rfl⟩
    · obtain ⟨l, c, e, hm, hc, h0⟩ := put_form f (n / 128) (by omega)
      refine ⟨UInt8.ofNat (n % 128 + 128) :: l, c, by rw [put_big (by omega), e]; rfl, ?_, hc, .inr ?_⟩
      · simp only [more, List.all_cons, Bool.and_eq_true, decide_eq_true_eq]
        exact ⟨by simp; omega, hm⟩
      · rcases h0 with rfl | h0
        · have := val_of_put (n / 128)
          rw [e] at this
          simp only [List.nil_append, val] at this
          omega
        · exact h0

theorem put_ne (n : Nat) (l : List UInt8) (c : UInt8) (h1 : l ≠ []) (h2 : c.toNat = 0) : put n ≠ l ++ [c] := by
  obtain ⟨l', c', e, -, -, h0⟩ := put_form (n + 1) n (by omega)
  rw [e]
  intro e2
  obtain ⟨e3, e4⟩ := List.append_inj' e2 rfl
  subst e3
  simp only [List.cons.injEq, and_true] at e4
  subst e4
  rcases h0 with h | h
  · exact h1 h
  · exact h h2

/-- What Get tells of bytes: k have been looked at. -/
def getF : Nat → List UInt8 → List UInt8 → Nat × Nat
  | 0, _, _ => (0, 0)
  | _, _, [] => (0, 0)
  | f + 1, l, c :: r => if 128 ≤ c.toNat then getF f (l ++ [c]) r
    else if 1099511627776 < val (l ++ [c]) ∨ (l ≠ [] ∧ c.toNat = 0) then (0, 0) else (val (l ++ [c]), l.length + 1)
def get (b : List UInt8) : Nat × Nat := getF 6 [] b

/-- Once it is above MaxTime it stays so. -/
theorem getF_above : ∀ (f : Nat) (l r : List UInt8), 1099511627776 < val l → getF f l r = (0, 0)
  | 0, _, _, _ => rfl
  | _ + 1, _, [], _ => rfl
  | f + 1, l, c :: r, h => by
    have := val_mono l [c]
    unfold getF
    split
    · exact getF_above f _ r (by omega)
    · rw [if_pos (.inl (by omega))]
theorem getF_none (f : Nat) (l : List UInt8) : getF f l [] = (0, 0) := by cases f <;> rfl
theorem getF_more {f : Nat} {l r : List UInt8} {c : UInt8} (h : 128 ≤ c.toNat) : getF (f + 1) l (c :: r) = getF f (l ++ [c]) r := by
  rw [getF, if_pos h]
theorem getF_last {f : Nat} {l r : List UInt8} {c : UInt8} (h : c.toNat < 128) : getF (f + 1) l (c :: r) = if 1099511627776 < val (l ++ [c]) ∨ (l ≠ [] ∧ c.toNat = 0) then (0, 0) else (val (l ++ [c]), l.length + 1) := by
  rw [getF, if_neg (by omega)]
theorem getF_put : ∀ (f : Nat) (p l : List UInt8) (c : UInt8) (r : List UInt8), more l = true → c.toNat < 128 → l.length < f → 
    getF f p (l ++ c :: r) = if 1099511627776 < val (p ++ l ++ [c]) ∨ (p ++ l ≠ [] ∧ c.toNat = 0) then (0, 0) else (val (p ++ l ++ [c]), p.length + l.length + 1)
  | 0, _, _, _, _, _, _, h => by omega
  | f + 1, p, [], c, r, _, hc, _ => by rw [List.nil_append, getF_last hc]; simp
  | f + 1, p, d :: l, c, r, hm, hc, hl => by
    simp only [more, List.all_cons, Bool.and_eq_true, decide_eq_true_eq] at hm
    rw [List.cons_append, getF_more hm.1, getF_put f _ l c r hm.2 hc (by simp at hl; omega)]
    have e : p ++ [d] ++ l = p ++ (d :: l) := by simp
    have e2 : (p ++ [d]).length + l.length + 1 = p.length + (d :: l).length + 1 := by simp; omega
    rw [e, e2]
/-- WHAT IS WRITTEN IS READ AGAIN. -/
theorem get_put {n : Nat} (h : n ≤ 1099511627776) (r : List UInt8) : get (put n ++ r) = (n, (put n).length) := by
  obtain ⟨l, c, e, hm, hc, h0⟩ := put_form (n + 1) n (by omega)
  have hl := put_len6 h
  have hv := val_of_put n
  rw [e] at hv hl
  rw [e, List.append_assoc, List.singleton_append]
  unfold get
  rw [getF_put 6 [] l c r hm hc (by simp at hl; omega), if_neg]
  · simp only [List.nil_append, hv]; simp
  · simp only [List.nil_append, hv]
    rintro (h1 | ⟨h1, h2⟩)
    · omega
    · rcases h0 with h0 | h0
      · exact h1 h0
      · exact h0 h2
/-- WHAT IS READ WAS WRITTEN. -/
theorem getF_some : ∀ (f : Nat) (p b : List UInt8) (n s : Nat), more p = true → getF f p b = (n, s) → s ≠ 0 →
    n ≤ 1099511627776 ∧ p.length ≤ s ∧ s ≤ p.length + b.length ∧ put n = p ++ b.take (s - p.length)
  | 0, _, _, _, _, _, h, hs => by simp [getF] at h; omega
  | _ + 1, _, [], _, _, _, h, hs => by simp [getF] at h; omega
  | f + 1, p, c :: b, n, s, hm, h, hs => by
    by_cases hc : 128 ≤ c.toNat
    · rw [getF_more hc] at h
      obtain ⟨h1, h2, h3, h4⟩ := getF_some f _ b n s (by rw [more_snoc, hm]; simpa using hc) h hs
      simp only [List.length_append, List.length_cons, List.length_nil] at h2 h3 h4
      refine ⟨h1, by omega, by simp; omega, ?_⟩
      rw [h4, List.append_assoc, show s - p.length = (s - (p.length + (0 + 1))) + 1 by omega, List.take_succ_cons]; rfl
    · have hc' : c.toNat < 128 := by omega
      rw [getF_last hc'] at h
      split at h
      · simp at h; omega
      · rename_i hn
        simp only [Prod.mk.injEq] at h
        obtain ⟨rfl, rfl⟩ := h
        refine ⟨by omega, by omega, by simp, ?_⟩
        rw [put_val p c hm hc' (by by_cases e : p = []; exact .inl e; exact .inr (fun e2 => hn (.inr ⟨e, e2⟩)))]
        rw [show p.length + 1 - p.length = 1 by omega]; rfl
theorem get_some {b : List UInt8} {n s : Nat} (h : get b = (n, s)) (hs : s ≠ 0) : n ≤ 1099511627776 ∧ s ≤ b.length ∧ put n = b.take s := by
  obtain ⟨h1, _, h3, h4⟩ := getF_some 6 [] b n s rfl h hs
  exact ⟨h1, by simpa using h3, by simpa using h4⟩
theorem get_size {b : List UInt8} : (get b).2 ≤ b.length ∧ (get b).1 ≤ 1099511627776 ∧ ((get b).2 = 0 → (get b).1 = 0) := by
  have aux : ∀ (f : Nat) (p b : List UInt8), (getF f p b).2 = 0 → (getF f p b).1 = 0 := by
    intro f
    induction f with
    | zero => intro p b _; rfl
    | succ f ih =>
      intro p b h
      cases b with
      | nil => rfl
      | cons c b =>
        by_cases hc : 128 ≤ c.toNat
        · rw [getF_more hc] at h ⊢; exact ih _ _ h
        · rw [getF_last (by omega)] at h ⊢
          split
          · rfl
          · rename_i hn; rw [if_neg hn] at h; simp at h
  by_cases hs : (get b).2 = 0
  · have := aux 6 [] b hs
    exact ⟨by omega, by show (get b).1 ≤ _; unfold get; omega, fun _ => this⟩
  · obtain ⟨h1, h2, _⟩ := get_some (b := b) (n := (get b).1) (s := (get b).2) rfl hs
    exact ⟨h2, h1, fun e => absurd e hs⟩
/-- No beginning of a number's bytes is one. -/
theorem get_short {n : Nat} {k : Nat} (hk : k < (put n).length) : get ((put n).take k) = (0, 0) := by
  obtain ⟨l, c, e, hm, hc, h0⟩ := put_form (n + 1) n (by omega)
  rw [e] at hk ⊢
  have hk' : k ≤ l.length := by simp at hk; omega
  rw [List.take_append_of_le_length hk']
  have : more (l.take k) = true := by
    simp only [more, List.all_eq_true] at hm ⊢
    intro x hx; exact hm x (List.mem_of_mem_take hx)
  have aux : ∀ (f : Nat) (p b : List UInt8), more b = true → getF f p b = (0, 0) := by
    intro f
    induction f with
    | zero => intro p b _; rfl
    | succ f ih =>
      intro p b h
      cases b with
      | nil => rfl
      | cons d b =>
        simp only [more, List.all_cons, Bool.and_eq_true, decide_eq_true_eq] at h
        rw [getF_more h.1]; exact ih _ _ h.2
  exact aux 6 [] _ this

end Go.Proofs.YthbhfhagbaommaaGreatDoor.Nu

/- The check of bytes, as numbers: the program's way, bit by bit from the least one, and the document's, from the greatest one, are one. No program. -/
namespace Go.Proofs.YthbhfhagbaommaaGreatDoor.Cr

/-- One bit of the program's. -/
def step (s : Nat) : Nat := s / 2 ^^^ 3988292384 * (s % 2)
def steps : Nat → Nat → Nat
  | 0, s => s
  | n + 1, s => step (steps n s)
/-- One byte of the program's. -/
def byte (s : Nat) (c : UInt8) : Nat := steps 8 (s ^^^ c.toNat)
def crc (bs : List UInt8) : Nat := bs.foldl byte 4294967295
def sum (bs : List UInt8) : Nat := 4294967295 - crc bs

theorem step_lt {s : Nat} (h : s < 4294967296) : step s < 4294967296 := by
  unfold step
  refine Nat.xor_lt_two_pow (n := 32) (by omega) ?_
  have : s % 2 = 0 ∨ s % 2 = 1 := by omega
  rcases this with e | e <;> rw [e] <;> decide
theorem steps_lt {s : Nat} (h : s < 4294967296) : ∀ n, steps n s < 4294967296
  | 0 => h
  | n + 1 => step_lt (steps_lt h n)
theorem xor_lt {s : Nat} (h : s < 4294967296) (c : UInt8) : s ^^^ c.toNat < 4294967296 :=
  Nat.xor_lt_two_pow (n := 32) (by omega) (by have := c.toNat_lt; omega)
theorem byte_lt {s : Nat} (h : s < 4294967296) (c : UInt8) : byte s c < 4294967296 := steps_lt (xor_lt h c) 8
theorem fold_lt (bs : List UInt8) : ∀ s, s < 4294967296 → bs.foldl byte s < 4294967296 := by
  induction bs with
  | nil => intro s h; exact h
  | cons c bs ih => intro s h; exact ih _ (byte_lt h c)
theorem crc_lt (bs : List UInt8) : crc bs < 4294967296 := fold_lt bs _ (by omega)
theorem crc_snoc (bs : List UInt8) (c : UInt8) : crc (bs ++ [c]) = byte (crc bs) c := by simp [crc]

/-- One bit of the document's. -/
def up (v : Nat) (i : Bool) : Nat := (if i != v.testBit 31 then 79764919 else 0) ^^^ (v * 2 % 4294967296)
def ups (c : Nat) : Nat → Nat → Nat
  | 0, v => v
  | n + 1, v => up (ups c n v) (c.testBit n)
def rbyte (v : Nat) (c : UInt8) : Nat := ups c.toNat 8 v
def rcrc (bs : List UInt8) : Nat := bs.foldl rbyte 4294967295
theorem up_lt {v : Nat} (i : Bool) : up v i < 4294967296 := by
  unfold up
  refine Nat.xor_lt_two_pow (n := 32) ?_ (Nat.mod_lt _ (by omega))
  split <;> decide
theorem ups_lt {v : Nat} (c : Nat) (h : v < 4294967296) : ∀ n, ups c n v < 4294967296
  | 0 => h
  | _ + 1 => up_lt _
theorem rcrc_snoc (bs : List UInt8) (c : UInt8) : rcrc (bs ++ [c]) = rbyte (rcrc bs) c := by simp [rcrc]
theorem rfold_lt (bs : List UInt8) : ∀ s, s < 4294967296 → bs.foldl rbyte s < 4294967296 := by
  induction bs with
  | nil => intro s h; exact h
  | cons c bs ih => intro s h; exact ih _ (ups_lt _ h 8)
theorem rcrc_lt (bs : List UInt8) : rcrc bs < 4294967296 := rfold_lt bs _ (by omega)

/-- Two numbers of 32 bits, one turned round. -/
def Rev (v s : Nat) : Prop := ∀ i, i < 32 → v.testBit i = s.testBit (31 - i)

theorem poly : ∀ i : Fin 32, (79764919 : Nat).testBit i.val = (3988292384 : Nat).testBit (31 - i.val) := by decide
theorem tb_high {s : Nat} (h : s < 4294967296) {i : Nat} (hi : 32 ≤ i) : s.testBit i = false :=
  Nat.testBit_lt_two_pow (Nat.lt_of_lt_of_le h (by have : 2 ^ 32 ≤ 2 ^ i := Nat.pow_le_pow_right (by omega) hi; simpa using this))

theorem rev_step {v p q : Nat} (hp : p < 4294967296) (hq : q < 4294967296) (h : Rev v (p ^^^ q)) : Rev (up v (q.testBit 0)) (step p ^^^ q / 2) := by
  intro i hi
  have ht : v.testBit 31 = (p.testBit 0 ^^ q.testBit 0) := by have := h 31 (by omega); rwa [Nat.sub_self, Nat.testBit_xor] at this
  have hd : (q.testBit 0 != v.testBit 31) = p.testBit 0 := by rw [ht]; cases p.testBit 0 <;> cases q.testBit 0 <;> rfl
  have hv : (v * 2 % 4294967296).testBit i = ((p ^^^ q).testBit (31 - i + 1)) := by
    rw [show (4294967296 : Nat) = 2 ^ 32 by decide, Nat.testBit_mod_two_pow]
    cases i with
    | zero => simp [tb_high hp, tb_high hq]
    | succ j =>
      rw [show v * 2 = 2 ^ 1 * v by omega, Nat.testBit_two_pow_mul, h _ (by omega)]
      rw [show 31 - (j + 1) + 1 = 31 - j by omega]
      simp; omega
  unfold up step
  rw [hd, Nat.testBit_xor, hv, Nat.testBit_xor, Nat.testBit_xor, Nat.testBit_xor, Nat.testBit_succ, Nat.testBit_succ]
  have hm : p % 2 = if p.testBit 0 then 1 else 0 := by rw [Nat.testBit_zero]; by_cases e : p % 2 = 1 <;> simp [e] ; omega
  have hpl := poly ⟨i, hi⟩
  simp only at hpl
  cases hb : p.testBit 0
  · simp [hm, hb]
  · simp only [hm, hb, if_true, Nat.mul_one, hpl]
    cases Nat.testBit (p / 2) (31 - i) <;> cases Nat.testBit (q / 2) (31 - i) <;> cases Nat.testBit 3988292384 (31 - i) <;> rfl

theorem rev_steps {v s : Nat} (c : Nat) (hs : s < 4294967296) (hc : c < 256) (h : Rev v s) : ∀ n, Rev (ups c n v) (steps n (s ^^^ c) ^^^ c / 2 ^ n)
  | 0 => by simpa [ups, steps, Nat.xor_assoc] using h
  | n + 1 => by
    have hx : s ^^^ c < 4294967296 := Nat.xor_lt_two_pow (n := 32) (by omega) (by omega)
    have hq : c / 2 ^ n < 4294967296 := Nat.lt_of_le_of_lt (Nat.div_le_self _ _) (by omega)
    have := rev_step (steps_lt hx n) hq (rev_steps c hs hc h n)
    rw [Nat.testBit_zero, ← Nat.testBit_zero, Nat.testBit_div_two_pow, Nat.zero_add] at this
    rw [Nat.pow_succ, ← Nat.div_div_eq_div_mul]
    exact this

theorem rev_byte {v s : Nat} (c : UInt8) (hs : s < 4294967296) (h : Rev v s) : Rev (rbyte v c) (byte s c) := by
  have hc := c.toNat_lt
  have := rev_steps c.toNat hs (by omega) h 8
  rw [Nat.div_eq_of_lt (by omega), Nat.xor_zero] at this
  exact this
theorem rev_fold (bs : List UInt8) : ∀ v s, s < 4294967296 → Rev v s → Rev (bs.foldl rbyte v) (bs.foldl byte s) := by
  induction bs with
  | nil => intro v s _ h; exact h
  | cons c bs ih => intro v s hs h; exact ih _ _ (byte_lt hs c) (rev_byte c hs h)
theorem rev_ones : Rev 4294967295 4294967295 := by
  intro i hi
  have : ∀ i : Fin 32, (4294967295 : Nat).testBit i.val = (4294967295 : Nat).testBit (31 - i.val) := by decide
  exact this ⟨i, hi⟩
theorem rev_crc (bs : List UInt8) : Rev (rcrc bs) (crc bs) := rev_fold bs _ _ (by omega) rev_ones

/-- What the document's last loop has told behind k bits. -/
def part (n k : Nat) : Nat := n / 2 ^ (32 - k) * 2 ^ (32 - k)
theorem part_all (n : Nat) : part n 32 = n := by simp [part]
theorem part_zero {n : Nat} (h : n < 4294967296) : part n 0 = 0 := by
  unfold part; rw [Nat.div_eq_of_lt (by simpa using h), Nat.zero_mul]
theorem not_bit {s i : Nat} (hs : s < 4294967296) (hi : i < 32) : (4294967295 - s).testBit i = !s.testBit i := by
  have := Nat.testBit_two_pow_sub_succ (n := 32) (x := s) (by simpa using hs) i
  rw [show 2 ^ 32 - (s + 1) = 4294967295 - s by omega] at this
  rw [this]; simp [hi]
theorem part_succ {s v k : Nat} (hs : s < 4294967296) (hk : k < 32) (h : Rev v s) :
    part (4294967295 - s) (k + 1) = part (4294967295 - s) k + if v / 2 ^ k % 2 = 0 then 2 ^ (31 - k) else 0 := by
  have hb := not_bit hs (show 31 - k < 32 by omega)
  rw [← h k hk, Nat.testBit_eq_decide_div_mod_eq, Nat.testBit_eq_decide_div_mod_eq] at hb
  generalize 4294967295 - s = n at *
  unfold part
  rw [show 32 - (k + 1) = 31 - k by omega, show 32 - k = 31 - k + 1 by omega, Nat.pow_succ, ← Nat.div_div_eq_div_mul]
  generalize n / 2 ^ (31 - k) = m at *
  generalize 2 ^ (31 - k) = q at *
  have h2 : m % 2 = if v / 2 ^ k % 2 = 0 then 1 else 0 := by
    by_cases e : v / 2 ^ k % 2 = 0
    · have : ¬ v / 2 ^ k % 2 = 1 := by omega
      simp only [this, decide_false, Bool.not_false, decide_eq_true_eq] at hb
      simp [e, hb]
    · have : v / 2 ^ k % 2 = 1 := by omega
      simp only [this, decide_true, Bool.not_true, decide_eq_false_iff_not] at hb
      simp [e]; omega
  have h3 : m = 2 * (m / 2) + m % 2 := by omega
  have : m * q = (m / 2) * (q * 2) + (m % 2) * q := by
    conv => lhs; rw [h3]
    rw [Nat.add_mul, Nat.mul_comm 2, Nat.mul_assoc, Nat.mul_comm 2]
  rw [this, h2]
  split <;> simp

end Go.Proofs.YthbhfhagbaommaaGreatDoor.Cr
