/- Rows of bytes that are read: their pieces. -/
import Derived.Test.YtodadoaindfecaaDoorArgs
namespace Go.Proofs.YtodadoaindfecaaDoor
open Go.RowKit Go.Maps
set_option linter.unusedSimpArgs false
set_option linter.unusedVariables false

/-- A slice that tells these bytes: its room, its cells. -/
def BytesAt (w : World) (v : Value) (bs : List UInt8) : Prop :=
  ∃ a c, v = .slice a bs.length c ∧ bs.length ≤ c ∧ c ≤ maxLen ∧ (a = none → c = 0) ∧ ∀ j (h : j < bs.length), ∃ p, a = some p ∧ w.cell? (p.add j) = some (encB bs[j])

theorem add_block (a : Addr) (j : Nat) : (a.add j).block = a.block := by unfold Addr.add; split <;> rfl
theorem add_add (a : Addr) (i j : Nat) : (a.add i).add j = a.add (i + j) := by
  unfold Addr.add
  repeat' split
  all_goals simp_all
  all_goals omega
theorem add_zero (a : Addr) : a.add 0 = a := by unfold Addr.add; rw [if_pos rfl]

theorem BytesAt.slice {w : World} {v : Value} {bs : List UInt8} (h : BytesAt w v bs) : SliceAt w v (bs.map encB) := by
  obtain ⟨a, c, rfl, h1, h2, h3, h4⟩ := h
  cases a with
  | none =>
    have hc := h3 rfl
    have hb : bs = [] := List.eq_nil_of_length_eq_zero (by omega)
    subst hb; subst hc
    exact .inl ⟨rfl, rfl⟩
  | some p =>
    refine .inr ⟨p, c, by simp, fun j u hu => ?_⟩
    have hj : j < bs.length := by have := (List.getElem?_eq_some_iff.1 hu).1; simpa using this
    obtain ⟨q, hq, hc⟩ := h4 j hj
    cases hq
    rw [hc]
    simpa [List.getElem?_eq_getElem hj] using hu
theorem BytesAt.kept {w w' : World} {v : Value} {bs : List UInt8} {S : List Nat} (h : BytesAt w v bs) (ht : Turn S w w') (hn : ∀ k ∈ v.ownBlock, k < w.heap.size → k ∉ S) : BytesAt w' v bs := by
  obtain ⟨a, c, rfl, h1, h2, h3, h4⟩ := h
  refine ⟨a, c, rfl, h1, h2, h3, fun j hj => ?_⟩
  obtain ⟨p, rfl, hc⟩ := h4 j hj
  have hlt := World.block_lt_of_cell? w _ hc
  refine ⟨p, rfl, ?_⟩
  rw [World.cell?_of_block (w := w) (ht.block _ hlt (by rw [add_block] at hlt ⊢; exact hn _ (by simp [Value.ownBlock]) hlt)), hc]
theorem BytesAt.still {w w' : World} {v : Value} {bs : List UInt8} (h : BytesAt w v bs) (ht : Turn [] w w') : BytesAt w' v bs := h.kept ht (by simp)
theorem RowAt.bytes {w : World} {e base : Nat} {v : Value} {bs : List UInt8} (h : RowAt w e base v bs) : BytesAt w v bs := by
  rcases h with ⟨rfl, rfl⟩ | ⟨g, cap, cur, rfl, hb, hg, h1, h2, h3, h4⟩
  · exact ⟨none, 0, rfl, by simp, by simp [maxLen], by simp, by simp⟩
  · refine ⟨some ⟨g, 0, none⟩, cap, rfl, h1, h3, by simp, fun j hj => ⟨_, rfl, ?_⟩⟩
    rw [addr_add, cell_of hg]
    have : (cur.toList.take bs.length)[j]? = some (encB bs[j]) := by rw [h4, List.getElem?_map, List.getElem?_eq_getElem hj]; rfl
    rw [List.getElem?_take_of_lt hj] at this
    simpa using this
theorem BytesAt.form {w : World} {v : Value} {bs : List UInt8} (h : BytesAt w v bs) : ∃ a c, v = .slice a bs.length c ∧ bs.length ≤ c ∧ c ≤ maxLen ∧ ∀ j (h : j < bs.length), ∃ p, a = some p ∧ w.cell? (p.add j) = some (.int .u8 bs[j].toNat) := by
  obtain ⟨a, c, rfl, h1, h2, h3, h4⟩ := h
  exact ⟨a, c, rfl, h1, h2, h4⟩

/-- Where a piece begins. -/
def advA (a : Option Addr) (n c : Nat) : Option Addr := if c = n then a else a.map (·.add n)
theorem BytesAt.drop {w : World} {a : Option Addr} {c n : Nat} {bs : List UInt8} (h : BytesAt w (.slice a bs.length c) bs) (hn : n ≤ bs.length) : BytesAt w (.slice (advA a n c) (bs.length - n) (c - n)) (bs.drop n) := by
  obtain ⟨a', c', e, h1, h2, h3, h4⟩ := h
  simp only [Value.slice.injEq] at e
  obtain ⟨rfl, -, rfl⟩ := e
  refine ⟨advA a n c, c - n, by simp, by simp; omega, by omega, ?_, fun j hj => ?_⟩
  · intro e
    unfold advA at e
    split at e
    · omega
    · cases a with
      | none => have := h3 rfl; omega
      | some p => simp at e
  · simp at hj
    obtain ⟨p, rfl, hc⟩ := h4 (n + j) (by omega)
    refine ⟨p.add n, by simp only [advA, if_neg (by omega : ¬ c = n), Option.map_some], ?_⟩
    rw [add_add, hc]; simp
theorem BytesAt.take {w : World} {a : Option Addr} {c n : Nat} {bs : List UInt8} (h : BytesAt w (.slice a bs.length c) bs) (hn : n ≤ bs.length) : BytesAt w (.slice a n c) (bs.take n) := by
  obtain ⟨a', c', e, h1, h2, h3, h4⟩ := h
  simp only [Value.slice.injEq] at e
  obtain ⟨rfl, -, rfl⟩ := e
  refine ⟨a, c, by simp; omega, by simp; omega, h2, h3, fun j hj => ?_⟩
  simp at hj
  obtain ⟨p, rfl, hc⟩ := h4 j (by omega)
  exact ⟨p, rfl, by rw [hc]; simp⟩

theorem sizeB (w : World) : (sizeOf 5).run Tryd.prog w = .ok 1 w := by kernel_rfl
theorem run_from (a : Option Addr) (l c n : Nat) (hn : n ≤ l) (w : World) : (Instr.slice 49 (.slice a l c) (some (.int .i64 (n : Int))) none none).run Tryd.prog w = .ok (.slice (advA a n c) (l - n) (c - n)) w := by
  have h := sizeB w
  simp [Instr.slice, run_underlying Tryd.underlying49, Instr.sliceBounds, run_sliceBound, h, Result.andThen, hn, advA]
theorem run_to (a : Option Addr) (l c n : Nat) (hn : n ≤ c) (w : World) : (Instr.slice 49 (.slice a l c) none (some (.int .i64 (n : Int))) none).run Tryd.prog w = .ok (.slice a n c) w := by
  have h := sizeB w
  cases a <;> simp [Instr.slice, run_underlying Tryd.underlying49, Instr.sliceBounds, run_sliceBound, h, Result.andThen, hn, add_zero]
theorem run_from_to (a : Option Addr) (l c n m : Nat) (hn : n ≤ m) (hm : m ≤ c) (w : World) : (Instr.slice 49 (.slice a l c) (some (.int .i64 (n : Int))) (some (.int .i64 (m : Int))) none).run Tryd.prog w = .ok (.slice (advA a n c) (m - n) (c - n)) w := by
  have h := sizeB w
  simp [Instr.slice, run_underlying Tryd.underlying49, Instr.sliceBounds, run_sliceBound, h, Result.andThen, hn, hm, advA]

/-- Bytes that came in. -/
theorem argBytes {w : World} {a : Option Addr} {len cap : Nat} {zs : List Int}
    (h : (a = none ∧ len = 0 ∧ cap = 0 ∧ zs = []) ∨ ∃ x, a = some x ∧ len ≤ cap ∧ cap ≤ maxLen ∧ zs.length = cap ∧ (∀ i, i < zs.length → w.cell? (x.add i) = some (.int .u8 (zs.getD i 0))) ∧ ∀ n ∈ zs, (Lit.int .u8 n).wf = true) :
    ∃ bs : List UInt8, len = bs.length ∧ BytesAt w (.slice a bs.length cap) bs := by
  obtain ⟨bs, hl, hm, hx⟩ := argB h
  have hs := hx w (Turn.refl _ _)
  refine ⟨bs, hl, a, cap, rfl, ?_, ?_, ?_, fun j hj => ?_⟩
  · rcases h with ⟨rfl, rfl, rfl, rfl⟩ | ⟨x, rfl, h1, h2, h3, h4, h5⟩ <;> omega
  · rcases h with ⟨rfl, rfl, rfl, rfl⟩ | ⟨x, rfl, h1, h2, h3, h4, h5⟩
    · omega
    · exact h2
  · rcases h with ⟨rfl, rfl, rfl, rfl⟩ | ⟨x, rfl, h1, h2, h3, h4, h5⟩ <;> simp
  · obtain ⟨a', c', e, hc⟩ := hs.form
    simp only [Value.slice.injEq] at e
    obtain ⟨rfl, -, rfl⟩ := e
    exact hc j _ (enc_at bs j hj)
/-- Bytes as a text. -/
theorem BytesAt.conv {w : World} {v : Value} {bs : List UInt8} (h : BytesAt w v bs) : (convert 49 9 v).run Tryd.prog w = .ok (.string ⟨bs.toArray⟩) w := by
  obtain ⟨a, c, rfl, -⟩ := h.form
  exact convB h.slice
theorem text_ne {a b : List UInt8} (h : a ≠ b) : ({ data := a.toArray } : ByteArray) ≠ { data := b.toArray } := by
  intro e
  exact h (by have := congrArg (fun b : ByteArray => b.data.toList) e; simpa using this)

end Go.Proofs.YtodadoaindfecaaDoor
