/- A text's bytes appended onto a row; record.putText, marks, putRecord. -/
import Derived.Test.YtodadoaindfecaaDoorPutP
import Derived.Test.YtodadoaindfecaaDoorBatA
import Derived.Deep.AppendSrc
namespace Go.Proofs.YtodadoaindfecaaDoor
open Go.RowKit Go.Maps
set_option maxRecDepth 100000
set_option linter.unusedSimpArgs false
set_option linter.unusedVariables false

section
variable {P : Program} (w : World)
theorem cells_str (s : List UInt8) : byteCells ⟨s.toArray⟩ = s.map encB := rfl
theorem run_append_room_str (t tx ty e : TypeId) (i : TypeInfo) (ht : P.underlying t = some (.slice e)) (hx : P.underlying tx = some .string) (hi : P.info? e = some i) (hz1 : i.size = 1)
    (g sLen sCap : Nat) (cur : Array Value) (hg : w.heap[g]? = some (.cells cur e (0, 0))) (s : ByteArray) (hroom : sLen + s.size ≤ sCap) (hfit : sLen + s.size ≤ cur.size) :
    (Builtin.append_ #[t, tx] ty #[.slice (some ⟨g, 0, none⟩) sLen sCap, .string s]).run P w =
      .ok (.slice (some ⟨g, 0, none⟩) (sLen + s.size) sCap) (w.setRow g (cur.toList.take sLen ++ byteCells s ++ cur.toList.drop (sLen + s.size)).toArray) := by
  have hf := firstCells_string (P := P) s w
  have hst := run_storeCells_at P g sLen e (byteCells s) 0 cur w hg (by rw [byteCells_length]; exact hfit) (fun u hu => by
    obtain ⟨_, _, rfl⟩ := List.mem_map.1 hu
    rfl)
  simp only [Nat.add_zero, byteCells_length] at hst
  simp [Builtin.append_, run_underlying ht, run_underlying hx, sizeOf, typeInfo, hi, hz1, Builtin.lenOf, hroom, hf, Addr.add_lit, hst]

/-- APPEND of a text's bytes onto a row. -/
theorem run_append_row_str (t tx ty e base : Nat) (i : TypeInfo) (ht : P.underlying t = some (.slice e)) (hx : P.underlying tx = some .string) (hi : P.info? e = some i) (hz : i.zero = some (.int .u8 0)) (hsize : i.size = 1) (hby : i.bytes = 1)
    (v : Value) (bs cs : List UInt8) (hrow : RowAt w e base v bs) (hlen : bs.length + cs.length ≤ 1099511627776) (hbase : base ≤ w.heap.size) :
    ∃ v' w', (Builtin.append_ #[t, tx] ty #[v, .string ⟨cs.toArray⟩]).run P w = .ok v' w' ∧ RowAt w' e base v' (bs ++ cs) ∧ Turn v.ownBlock.toList w w' ∧ (∀ k ∈ v'.ownBlock, k ∈ v.ownBlock ∨ w.heap.size ≤ k) := by
  have hmax : maxLen = 9223372036854775807 := by simp [maxLen]
  have hsz : (ByteArray.mk cs.toArray).size = cs.length := by simp [ByteArray.size]
  have hsrc : Src P i.size tx (.string ⟨cs.toArray⟩) cs.length (cs.map encB) w := by
    have := Src.ofString (P := P) w hx ⟨cs.toArray⟩
    rw [hsz, cells_str] at this
    rw [hsize]; exact this
  have new : ∀ old : Nat, old < bs.length + cs.length → RowAt (w.drew.alloc (.cells ((bs.map encB ++ cs.map encB).toArray ++ Builtin.zeroCells (Value.cells (.int .u8 0)) (grownCap w (bs.length + cs.length) old e - (bs.length + cs.length))) e)) e base
      (.slice (some ⟨w.heap.size, 0, none⟩) (bs.length + cs.length) (grownCap w (bs.length + cs.length) old e)) (bs ++ cs) ∧
      Turn v.ownBlock.toList w (w.drew.alloc (.cells ((bs.map encB ++ cs.map encB).toArray ++ Builtin.zeroCells (Value.cells (.int .u8 0)) (grownCap w (bs.length + cs.length) old e - (bs.length + cs.length))) e)) := by
    intro old ho
    have hge := grownCap_ge w (bs.length + cs.length) old e
    have hcm := grownCap_le_maxLen w (bs.length + cs.length) old e (by rw [hmax]; omega)
    refine ⟨.inr ⟨w.heap.size, _, _, by simp, hbase, heap_new w.drew _, by simpa using hge, ?_, hcm, ?_⟩, ((Turn.refl _ _).drew).alloc _⟩
    · simp only [Array.size_append, List.size_toArray, List.length_map, List.length_append, size_zeroCells, Value.cells]
      simp; omega
    · simp only [Array.toList_append]
      rw [List.take_append_of_le_length (by simp)]
      rw [List.take_of_length_le (by simp)]
      simp
  rcases hrow with ⟨rfl, rfl⟩ | ⟨g, cap, cur, rfl, hb, hg, h1, h2, h3, h4⟩
  · by_cases h0 : cs.length = 0
    · have : cs = [] := List.eq_nil_of_length_eq_zero h0
      subst this
      have e0 : (ByteArray.mk #[]) = ByteArray.empty := rfl
      exact ⟨.slice none 0 0, w, by simp [Builtin.append_, run_underlying ht, run_underlying hx, sizeOf, typeInfo, hi, Builtin.lenOf, Builtin.firstCells, storeCells, e0], .inl ⟨rfl, rfl⟩, Turn.refl _ _, by simp [Value.ownBlock]⟩
    · have hr := run_append_grow_src (P := P) w t tx ty e i _ ht hi hz none 0 0 [] (run_firstCells_none w.drew i.size 0 0 0) _ cs.length (cs.map encB) hsrc (by omega) (by simp at hlen; omega) (growslice_fits (by omega) (by rw [hby]; simp at hlen; omega))
      have hn := new 0 (by simp; omega)
      simp only [List.length_nil, Nat.zero_add, List.map_nil, List.nil_append] at hn hr
      exact ⟨_, _, hr, by simpa using hn.1, by simpa using hn.2, by simp [Value.ownBlock]⟩
  · by_cases hroom : bs.length + cs.length ≤ cap
    · have hr := run_append_room_str (P := P) w t tx ty e i ht hx hi hsize g bs.length cap cur hg ⟨cs.toArray⟩ (by rw [hsz]; exact hroom) (by rw [hsz]; omega)
      rw [hsz, cells_str] at hr
      refine ⟨_, _, hr, .inr ⟨g, cap, _, by simp, hb, setRow_heap w g cur _ e _ hg, by simpa using hroom, ?_, h3, ?_⟩, ⟨rfl, rfl, rfl, by simp, fun k _ hk => setRow_other w g k _ (fun e => hk (by simp [Value.ownBlock, e]))⟩, by simp [Value.ownBlock]⟩
      · simp; omega
      · simp only [h4, List.append_assoc]
        rw [← List.append_assoc, List.take_append_of_le_length (by simp), List.take_of_length_le (by simp)]
        simp
    · have holds : ∀ j u, (bs.map encB)[j]? = some u → w.drew.cell? ((⟨g, 0, none⟩ : Addr).add j) = some u := by
        intro j u hu
        rw [addr_add]
        show w.cell? ⟨g, j, none⟩ = some u
        rw [cell_of hg]
        rw [← h4, List.getElem?_take] at hu
        split at hu
        · simpa using hu
        · cases hu
      have hr := run_append_grow_src (P := P) w t tx ty e i _ ht hi hz (some ⟨g, 0, none⟩) bs.length cap (bs.map encB) (run_firstCells_some w.drew i.size bs.length ⟨g, 0, none⟩ bs.length cap (bs.map encB) (by simp [hsize]) holds) _ cs.length (cs.map encB) hsrc (by omega) (by omega) (growslice_fits (by omega) (by rw [hby]; omega))
      have hn := new cap (by omega)
      exact ⟨_, _, hr, hn.1, hn.2, by simp [Value.ownBlock]⟩
end
theorem wpList_append_str {P : Program} {ops : Array Oper} {rest : List Oper} {o : Oper} {a : Act} {Q : Exit → Act → World → Prop} {w : World} (hgd : o.guard = none) (s x : Operand) (t tx : TypeId)
    (ho : o.op = .call { callee := .builtin .append, args := #[s, x], argTypes := #[t, tx] })
    (e base : Nat) (i : TypeInfo) (ht : P.underlying t = some (.slice e)) (hx : P.underlying tx = some .string) (hi : P.info? e = some i) (hz : i.zero = some (.int .u8 0)) (hsize : i.size = 1) (hby : i.bytes = 1)
    (v : Value) (bs cs : List UInt8) (hs : a.eval s = v) (hxe : a.eval x = .string ⟨cs.toArray⟩) (hrow : RowAt w e base v bs) (hlen : bs.length + cs.length ≤ 1099511627776) (hbase : base ≤ w.heap.size)
    (h : ∀ v' w', RowAt w' e base v' (bs ++ cs) → Turn v.ownBlock.toList w w' → (∀ k ∈ v'.ownBlock, k ∈ v.ownBlock ∨ w.heap.size ≤ k) → wpList P ops Q rest (a.put o.dst v') w') : wpList P ops Q (o :: rest) a w := by
  refine wpList_plain hgd fun _ hK => ?_
  obtain ⟨v', w', hr, h2, h3, h4⟩ := run_append_row_str (P := P) w t tx o.type e base i ht hx hi hz hsize hby v bs cs hrow hlen hbase
  unfold Oper.wp execOp
  simp only [ho, resolve, invoke, builtin, Sem.run_bind, Sem.run_pure, Result.andThen_ok, List.map_toArray, List.map_cons, List.map_nil, hs, hxe, hr]
  exact hK _ _ (h v' w' h2 h3 h4)

/-- What a call that grows a row leaves. -/
def Grew (w w' : World) (base : Nat) (v v' : Value) (bs : List UInt8) : Prop :=
  RowAt w' 5 base v' bs ∧ Turn v.ownBlock.toList w w' ∧ (∀ k ∈ v'.ownBlock, k ∈ v.ownBlock ∨ w.heap.size ≤ k)
theorem Grew.trans {w w1 w2 : World} {base : Nat} {v v1 v2 : Value} {b1 b2 : List UInt8} (h : Grew w w1 base v v1 b1) (k : Grew w1 w2 base v1 v2 b2) : Grew w w2 base v v2 b2 := by
  obtain ⟨h1, h2, h3⟩ := h
  obtain ⟨k1, k2, k3⟩ := k
  refine ⟨k1, h2.trans k2 (fun x hx => ?_), fun x hx => ?_⟩
  · rcases h3 x (by simpa using hx) with h | h
    · exact .inl (by simpa using h)
    · exact .inr h
  · rcases k3 x hx with h | h
    · exact h3 x h
    · have := h2.size; exact .inr (by omega)
theorem Grew.pre {w w1 w2 : World} {base : Nat} {v v2 : Value} {b : List UInt8} (h : Turn [] w w1) (k : Grew w1 w2 base v v2 b) : Grew w w2 base v v2 b := by
  obtain ⟨k1, k2, k3⟩ := k
  refine ⟨k1, h.mono (by simp) |>.trans k2 (fun x hx => .inl hx), fun x hx => ?_⟩
  rcases k3 x hx with h' | h'
  · exact .inl h'
  · have := h.size; exact .inr (by omega)

end Go.Proofs.YtodadoaindfecaaDoor
