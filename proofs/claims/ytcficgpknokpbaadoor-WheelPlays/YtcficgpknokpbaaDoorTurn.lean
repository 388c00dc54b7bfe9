/- What a call may have turned: a list of blocks; rows of bytes with slack behind their capacity; append onto such a row. No program. -/
import Derived.WalkKit
import Derived.WalkSpells
import Derived.WalkLawsBesides
import Derived.Maps.OwnSet
import Derived.Maps.RangeWalk
import Derived.Laws.AppendOwnNone
namespace Go.Proofs.YtcficgpknokpbaaDoor
open Go.RowKit

theorem ret_bool {a b : Bool} (h : a = b) : Ending.returned (.bool a) = .returned (.bool b) := by rw [h]
theorem ret_int {k : IntKind} {a b : Int} (h : a = b) : Ending.returned (.int k a) = .returned (.int k b) := by rw [h]

/-- Of what was there when the call began only the blocks of a list may have turned. -/
structure Turn (S : List Nat) (w w' : World) : Prop where
  os : w'.os = w.os
  tape : w'.tape = w.tape
  output : w'.output = w.output
  size : w.heap.size ≤ w'.heap.size
  block : ∀ k, k < w.heap.size → k ∉ S → w'.heap[k]? = w.heap[k]?

theorem Turn.refl (S : List Nat) (w : World) : Turn S w w := ⟨rfl, rfl, rfl, Nat.le_refl _, fun _ _ _ => rfl⟩
theorem Turn.trans {S T : List Nat} {a b c : World} (h : Turn S a b) (k : Turn T b c) (hT : ∀ x ∈ T, x ∈ S ∨ a.heap.size ≤ x) : Turn S a c :=
  ⟨k.os.trans h.os, k.tape.trans h.tape, k.output.trans h.output, Nat.le_trans h.size k.size, fun i hi hn =>
    (k.block i (Nat.lt_of_lt_of_le hi h.size) (fun hm => (hT i hm).elim hn (by omega))).trans (h.block i hi hn)⟩
theorem Turn.same {S : List Nat} {a b c : World} (h : Turn S a b) (k : Turn S b c) : Turn S a c := h.trans k (fun _ hx => .inl hx)
theorem Turn.mono {S T : List Nat} {a b : World} (h : Turn S a b) (hs : ∀ x ∈ S, x ∈ T ∨ a.heap.size ≤ x) : Turn T a b :=
  (Turn.refl T a).trans h hs
theorem Turn.alloc {S : List Nat} {a w : World} (h : Turn S a w) (o : Obj) : Turn S a (w.alloc o) :=
  h.trans (T := []) ⟨rfl, rfl, rfl, by simp, fun k hk _ => Below.heap_alloc _ _ _ hk⟩ (by simp)
theorem Turn.setCell {S : List Nat} {a w : World} (h : Turn S a w) {p : Addr} (hp : p.block ∈ S ∨ a.heap.size ≤ p.block) (u : Value) : Turn S a (w.setCell p u) :=
  h.trans (T := [p.block]) ⟨rfl, rfl, rfl, by simp [World.setCell], fun k _ hk => Below.heap_setCell _ _ _ _ (by simpa using hk)⟩ (by simpa using hp)
theorem Turn.drew {S : List Nat} {a w : World} (h : Turn S a w) : Turn S a w.drew := ⟨h.os, h.tape, h.output, h.size, h.block⟩
theorem Turn.drewN {S : List Nat} {a w : World} (h : Turn S a w) (n : Nat) : Turn S a (w.drewN n) := ⟨h.os, h.tape, h.output, h.size, h.block⟩
theorem Turn.grown {S : List Nat} {a w w' : World} {row : Option Nat} (h : Turn S a w) (hg : w.grownBy w' row) (hr : ∀ k, row = some k → k ∈ S ∨ a.heap.size ≤ k) : Turn S a w' :=
  h.trans (T := row.toList) ⟨hg.os, hg.tape, hg.output, hg.size, fun k hk hn => hg.block k hk (fun e => hn (by simp [← e]))⟩ (by intro x hx; cases row <;> simp at hx; exact hr _ (by simp [hx]))
theorem Turn.of_below {w w' : World} (h : Below w.heap.size w w') (S : List Nat) : Turn S w w' := ⟨h.os, h.tape, h.output, h.size, fun k hk _ => h.block k hk⟩
theorem Turn.below {S : List Nat} {w w' : World} (h : Turn S w w') {B : Nat} (hB : ∀ x ∈ S, B ≤ x) (hw : B ≤ w.heap.size) : Below B w w' :=
  ⟨h.os, h.tape, h.output, h.size, fun k hk => h.block k (by omega) (fun hm => by have := hB k hm; omega)⟩
theorem Turn.nil {w w' : World} (h : Turn [] w w') : Below w.heap.size w w' := h.below (by simp) (Nat.le_refl _)
theorem Turn.heap {S : List Nat} {w w' : World} (h : Turn S w w') {k : Nat} {o : Obj} (hk : w.heap[k]? = some o) (hn : k ∉ S) : w'.heap[k]? = some o :=
  (h.block k (Array.getElem?_eq_some_iff.1 hk).1 hn).trans hk
theorem Turn.grownBy {S : List Nat} {w w' : World} (h : Turn S w w') {k : Nat} (hk : ∀ x ∈ S, x = k) : w.grownBy w' (some k) :=
  ⟨h.os, h.tape, h.output, h.size, fun i hi hn => h.block i hi (fun hm => hn (by rw [hk i hm]))⟩

theorem lt_of_heap {w : World} {k : Nat} {o : Obj} (h : w.heap[k]? = some o) : k < w.heap.size := (Array.getElem?_eq_some_iff.1 h).1

/-- A cell of a block that is written out. -/
theorem cell_of {w : World} {b : Nat} {cs : Array Value} {t : TypeId} {fr : Nat × Nat} (h : w.heap[b]? = some (.cells cs t fr)) (i : Nat) : w.cell? ⟨b, i, none⟩ = cs[i]? := by
  simp [World.cell?, h]
theorem frozen_of {w : World} {b : Nat} {cs : Array Value} {t : TypeId} (h : w.heap[b]? = some (.cells cs t (0, 0))) (i : Nat) : w.frozen? ⟨b, i, none⟩ = false := by
  simp [World.frozen?, h]
theorem heap_set {w : World} {b : Nat} {cs : Array Value} {t : TypeId} {fr : Nat × Nat} (h : w.heap[b]? = some (.cells cs t fr)) (i : Nat) (u : Value) : (w.setCell ⟨b, i, none⟩ u).heap[b]? = some (.cells (cs.setIfInBounds i u) t fr) := by
  simp [World.setCell, Array.getElem?_modify, h]
theorem heap_new (w : World) (o : Obj) : (w.alloc o).heap[w.heap.size]? = some o := heap_alloc_new w o

/-- A byte as a value. -/
def encB (b : UInt8) : Value := .int .u8 b.toNat

/-- A slice of bytes with a block of its own, from its beginning on; behind its capacity the block may go on. -/
def RowAt (w : World) (e base : Nat) (sl : Value) (bs : List UInt8) : Prop :=
  (sl = .slice none 0 0 ∧ bs = []) ∨
  ∃ g cap cur, sl = .slice (some ⟨g, 0, none⟩) bs.length cap ∧ base ≤ g ∧ w.heap[g]? = some (.cells cur e (0, 0)) ∧ bs.length ≤ cap ∧ cap ≤ cur.size ∧ cap ≤ maxLen ∧ cur.toList.take bs.length = bs.map encB

theorem RowAt.kept {w w' : World} {e base : Nat} {sl : Value} {bs : List UInt8} {S : List Nat} (h : RowAt w e base sl bs) (ht : Turn S w w') (hn : ∀ k ∈ sl.ownBlock, k ∉ S) : RowAt w' e base sl bs := by
  rcases h with h | ⟨g, cap, cur, rfl, hb, hg, r⟩
  · exact .inl h
  · exact .inr ⟨g, cap, cur, rfl, hb, ht.heap hg (hn g (by simp [Value.ownBlock])), r⟩
theorem RowAt.lt {w : World} {e base : Nat} {sl : Value} {bs : List UInt8} (h : RowAt w e base sl bs) : ∀ k ∈ sl.ownBlock, base ≤ k ∧ k < w.heap.size := by
  intro k hk
  rcases h with ⟨rfl, _⟩ | ⟨g, cap, cur, rfl, hb, hg, r⟩
  · simp [Value.ownBlock] at hk
  · simp [Value.ownBlock] at hk; subst hk; exact ⟨hb, lt_of_heap hg⟩
theorem RowAt.form {w : World} {e base : Nat} {sl : Value} {bs : List UInt8} (h : RowAt w e base sl bs) : ∃ a c, sl = .slice a bs.length c ∧ bs.length ≤ c ∧ c ≤ maxLen := by
  rcases h with ⟨rfl, rfl⟩ | ⟨g, cap, cur, rfl, hb, hg, h1, h2, h3, r⟩
  · exact ⟨_, _, rfl, by simp, by simp [maxLen]⟩
  · exact ⟨_, _, rfl, h1, h3⟩
/-- The cells of a slice that is told by its values. -/
def SliceAt (w : World) (v : Value) (xs : List Value) : Prop :=
  (v = .slice none 0 0 ∧ xs = []) ∨ ∃ a cap, v = .slice (some a) xs.length cap ∧ ∀ j u, xs[j]? = some u → w.cell? (a.add j) = some u
theorem addr_add (g j : Nat) : (⟨g, 0, none⟩ : Addr).add j = ⟨g, j, none⟩ := by unfold Addr.add; split <;> simp_all
theorem RowAt.cells {w : World} {e base : Nat} {sl : Value} {bs : List UInt8} (h : RowAt w e base sl bs) : SliceAt w sl (bs.map encB) := by
  rcases h with ⟨rfl, rfl⟩ | ⟨g, cap, cur, rfl, hb, hg, h1, h2, h3, h4⟩
  · exact .inl ⟨rfl, rfl⟩
  · refine .inr ⟨⟨g, 0, none⟩, cap, by simp, fun j u hu => ?_⟩
    rw [addr_add, cell_of hg, ← h4, List.getElem?_take] at *
    split at hu
    · simpa using hu
    · cases hu
theorem SliceAt.kept {w w' : World} {v : Value} {xs : List Value} {S : List Nat} (h : SliceAt w v xs) (ht : Turn S w w') (hn : ∀ k ∈ v.ownBlock, k ∉ S) : SliceAt w' v xs := by
  rcases h with h | ⟨a, cap, rfl, hc⟩
  · exact .inl h
  · refine .inr ⟨a, cap, rfl, fun j u hu => ?_⟩
    have hb : (a.add j).block = a.block := by unfold Addr.add; split <;> rfl
    have hlt := World.block_lt_of_cell? w _ (hc j u hu)
    rw [World.cell?_of_block (w := w) (ht.block _ hlt (by rw [hb]; exact hn _ (by simp [Value.ownBlock]))), hc j u hu]
theorem SliceAt.kept_below {w w' : World} {v : Value} {xs : List Value} {B : Nat} (h : SliceAt w v xs) (ht : Below B w w') (hn : ∀ k ∈ v.ownBlock, k < B) : SliceAt w' v xs := by
  rcases h with h | ⟨a, cap, rfl, hc⟩
  · exact .inl h
  · refine .inr ⟨a, cap, rfl, fun j u hu => ?_⟩
    have hb : (a.add j).block = a.block := by unfold Addr.add; split <;> rfl
    rw [ht.cell (by rw [hb]; exact hn _ (by simp [Value.ownBlock])), hc j u hu]

theorem one_encB (bs : List UInt8) : ∀ u ∈ bs.map encB, u.oneCell' = true := by
  intro u hu; obtain ⟨b, _, rfl⟩ := List.mem_map.1 hu; rfl

variable {P : Program} (w : World)

/-- APPEND of bytes onto such a row: what comes out is one again, in the same block or in a new one. -/
theorem run_append_row (t ty e base : Nat) (i : TypeInfo) (ht : P.underlying t = some (.slice e)) (hi : P.info? e = some i) (hz : i.zero = some (.int .u8 0)) (hsize : i.size = 1) (hby : i.bytes = 1)
    (v x : Value) (bs cs : List UInt8) (hrow : RowAt w e base v bs) (hx : SliceAt w x (cs.map encB)) (hlen : bs.length + cs.length ≤ 1099511627776) (hbase : base ≤ w.heap.size) :
    ∃ v' w', (Builtin.append_ #[t, t] ty #[v, x]).run P w = .ok v' w' ∧ RowAt w' e base v' (bs ++ cs) ∧ Turn v.ownBlock.toList w w' ∧ (∀ k ∈ v'.ownBlock, k ∈ v.ownBlock ∨ w.heap.size ≤ k) := by
  have hmax : maxLen = 9223372036854775807 := by simp [maxLen]
  have new : ∀ old : Nat, old < bs.length + cs.length → RowAt (w.drew.alloc (.cells ((bs.map encB).toArray ++ (cs.map encB).toArray ++ Builtin.zeroCells (Value.cells (.int .u8 0)) (grownCap w (bs.length + cs.length) old e - (bs.length + cs.length))) e)) e base
      (.slice (some ⟨w.heap.size, 0, none⟩) (bs.length + cs.length) (grownCap w (bs.length + cs.length) old e)) (bs ++ cs) ∧
      Turn v.ownBlock.toList w (w.drew.alloc (.cells ((bs.map encB).toArray ++ (cs.map encB).toArray ++ Builtin.zeroCells (Value.cells (.int .u8 0)) (grownCap w (bs.length + cs.length) old e - (bs.length + cs.length))) e)) := by
    intro old ho
    have hge := grownCap_ge w (bs.length + cs.length) old e
    have hcm := grownCap_le_maxLen w (bs.length + cs.length) old e (by rw [hmax]; omega)
    refine ⟨.inr ⟨w.heap.size, _, _, by simp, hbase, heap_new w.drew _, by simpa using hge, ?_, hcm, ?_⟩, ((Turn.refl _ _).drew).alloc _⟩
    · simp only [Array.size_append, List.size_toArray, List.length_map, size_zeroCells, Value.cells]
      simp; omega
    · simp only [Array.toList_append]
      rw [List.take_append_of_le_length (by simp)]
      rw [List.take_of_length_le (by simp)]
      simp
  rcases hx with ⟨rfl, hcs⟩ | ⟨a, c, rfl, hnews⟩
  · have hcs' : cs = [] := by simpa using hcs
    subst hcs'
    rcases hrow with ⟨rfl, rfl⟩ | ⟨g, cap, cur, rfl, hb, hg, h1, h2, h3, h4⟩
    · exact ⟨.slice none 0 0, w, by simp [Builtin.append_, run_underlying ht, sizeOf, typeInfo, hi, Builtin.lenOf, Builtin.firstCells], .inl ⟨rfl, rfl⟩, Turn.refl _ _, by simp [Value.ownBlock]⟩
    · refine ⟨.slice (some ⟨g, 0, none⟩) bs.length cap, w, ?_, by simpa using .inr ⟨g, cap, cur, rfl, hb, hg, h1, h2, h3, h4⟩, Turn.refl _ _, by simp [Value.ownBlock]⟩
      simp [Builtin.append_, run_underlying ht, sizeOf, typeInfo, hi, Builtin.lenOf, Builtin.firstCells, h1, storeCells]
  · simp only [List.length_map] at hnews ⊢
    have hl : (cs.map encB).length = cs.length * i.size := by simp [hsize]
    rcases hrow with ⟨rfl, rfl⟩ | ⟨g, cap, cur, rfl, hb, hg, h1, h2, h3, h4⟩
    · by_cases h0 : cs.length = 0
      · have : cs = [] := List.eq_nil_of_length_eq_zero h0
        subst this
        exact ⟨.slice none 0 0, w, by simp [Builtin.append_, run_underlying ht, sizeOf, typeInfo, hi, Builtin.lenOf, Builtin.firstCells, loadCells, loadCellsFrom], .inl ⟨rfl, rfl⟩, Turn.refl _ _, by simp [Value.ownBlock]⟩
      · have hr := run_append_nil (P := P) w t ty e i _ ht hi hz a cs.length c (cs.map encB) hl hnews (by omega) (by simp at hlen; omega) (by rw [hby]; simp at hlen; omega)
        have hn := new 0 (by simp; omega)
        simp only [List.length_nil, Nat.zero_add, List.map_nil, List.nil_append] at hn
        refine ⟨_, _, hr, ?_, ?_, by simp [Value.ownBlock]⟩
        · simpa using hn.1
        · simpa using hn.2
    · by_cases hroom : bs.length + cs.length ≤ cap
      · have hr := run_append_room (P := P) w t ty e i ht hi g bs.length cap cur hg a cs.length c (cs.map encB) hl hnews (one_encB cs) hroom (by rw [hsize]; simp; omega)
        refine ⟨_, _, hr, .inr ⟨g, cap, _, by simp, hb, setRow_heap w g cur _ e _ hg, by simpa using hroom, ?_, h3, ?_⟩, ⟨rfl, rfl, rfl, by simp, fun k _ hk => setRow_other w g k _ (fun e => hk (by simp [Value.ownBlock, e]))⟩, by simp [Value.ownBlock]⟩
        · simp [hsize]; omega
        · simp only [hsize, Nat.mul_one, h4, List.append_assoc]
          rw [← List.append_assoc, List.take_append_of_le_length (by simp), List.take_of_length_le (by simp)]
          simp
      · have holds : ∀ j u, (bs.map encB)[j]? = some u → w.cell? ((⟨g, 0, none⟩ : Addr).add j) = some u := by
          intro j u hu
          rw [addr_add, cell_of hg]
          rw [← h4, List.getElem?_take] at hu
          split at hu
          · simpa using hu
          · cases hu
        have hr := run_append_grow (P := P) w t ty e i _ ht hi hz ⟨g, 0, none⟩ bs.length cap (bs.map encB) (by simp [hsize]) holds a cs.length c (cs.map encB) hl hnews (by omega) (by omega) (growslice_fits (by omega) (by rw [hby]; omega))
        have hn := new cap (by omega)
        exact ⟨_, _, hr, hn.1, hn.2, by simp [Value.ownBlock]⟩

theorem wpList_append_row {ops : Array Oper} {rest : List Oper} {o : Oper} {a : Act} {Q : Exit → Act → World → Prop} (hgd : o.guard = none) (s x : Operand) (t : TypeId)
    (ho : o.op = .call { callee := .builtin .append, args := #[s, x], argTypes := #[t, t] })
    (e base : Nat) (i : TypeInfo) (ht : P.underlying t = some (.slice e)) (hi : P.info? e = some i) (hz : i.zero = some (.int .u8 0)) (hsize : i.size = 1) (hby : i.bytes = 1)
    (v xv : Value) (bs cs : List UInt8) (hs : a.eval s = v) (hxe : a.eval x = xv) (hrow : RowAt w e base v bs) (hx : SliceAt w xv (cs.map encB)) (hlen : bs.length + cs.length ≤ 1099511627776) (hbase : base ≤ w.heap.size)
    (h : ∀ v' w', RowAt w' e base v' (bs ++ cs) → Turn v.ownBlock.toList w w' → (∀ k ∈ v'.ownBlock, k ∈ v.ownBlock ∨ w.heap.size ≤ k) → wpList P ops Q rest (a.put o.dst v') w') : wpList P ops Q (o :: rest) a w := by
  refine wpList_plain hgd fun _ hK => ?_
  obtain ⟨v', w', hr, h2, h3, h4⟩ := run_append_row (P := P) w t o.type e base i ht hi hz hsize hby v xv bs cs hrow hx hlen hbase
  unfold Oper.wp execOp
  simp only [ho, resolve, invoke, builtin, Sem.run_bind, Sem.run_pure, Result.andThen_ok, List.map_toArray, List.map_cons, List.map_nil, hs, hxe, hr]
  exact hK _ _ (h v' w' h2 h3 h4)

end Go.Proofs.YtcficgpknokpbaaDoor
