/- The document's disk and what it stands for. -/
import Derived.Test.YtlcgcckllecjpaaDoorRRem
import Derived.Test.YtlcgcckllecjpaaDoorRName
namespace Go.Proofs.YtlcgcckllecjpaaDoor.Dk
open Go.RowKit Go.Maps
set_option linter.unusedSimpArgs false
set_option linter.unusedVariables false

def leftOf (A : DA) : Int := if A.limited then A.left else -1
structure Ref (w : World) (r : Nat) (sv : Value) (ms : List RM) (A : DA) : Prop where
  mem : RefAt w r sv ms A.room (leftOf A)
  files : A.files = ms.map (·.abs)
def RDid (w w' : World) (r : Nat) (sv : Value) (ms : List RM) (A' : DA) : Prop := ∃ sv' ms', Ref w' r sv' ms' A' ∧ Turn (RFoot r sv ms) w w' ∧ ∀ k ∈ RFoot r sv' ms', k ∈ RFoot r sv ms ∨ w.heap.size ≤ k
theorem leftOf_fails {A : DA} (hg : Good A) : leftOf A = 0 ↔ A.fails = true := by
  unfold leftOf DA.fails
  cases hl : A.limited
  · simp
  · simp
theorem leftOf_tick {A : DA} (hg : Good A) (hf : ¬ A.fails = true) : leftOf A.tick = if 0 < leftOf A then leftOf A - 1 else leftOf A := by
  unfold leftOf DA.tick
  unfold DA.fails at hf
  cases hl : A.limited
  · simp [hl]
  · have := hg.left hl
    rw [hl] at hf
    have h0 : A.left ≠ 0 := by simpa using hf
    simp only [if_true]
    rw [if_pos (by omega)]
theorem leftOf_bound {A : DA} (hg : Good A) : -1 ≤ leftOf A ∧ leftOf A ≤ 9223372036854775807 := by
  unfold leftOf
  cases hl : A.limited
  · simp
  · have := hg.left hl; simp only [if_true]; omega
theorem findR_file {A : DA} {ms : List RM} (h : A.files = ms.map (·.abs)) (nm : List UInt8) : A.file nm = (findR ms nm).map (·.abs) := by
  unfold DA.file findR
  rw [h, List.find?_map]
  rfl
theorem findR_has {A : DA} {ms : List RM} (h : A.files = ms.map (·.abs)) (nm : List UInt8) : A.has nm = (findR ms nm).isSome := by
  rw [has_file, findR_file h]; simp
section
variable {w w' : World} {r : Nat} {sv : Value} {ms : List RM} {A A' : DA}
theorem Ref.len (h : Ref w r sv ms A) (hg : Good A) : ms.length ≤ 200 := by have := hg.count; rw [h.files, List.length_map] at this; exact this
theorem Ref.short (h : Ref w r sv ms A) (hg : Good A) : ∀ m ∈ ms, m.abs.name.length ≤ 40 := fun m hm => hg.short _ (by rw [h.files]; exact List.mem_map.2 ⟨m, hm, rfl⟩)
theorem Ref.used (h : Ref w r sv ms A) (hg : Good A) : usedR ms ≤ 1048576 := by have := hg.used; have := hg.room; rw [h.files] at *; unfold usedR; omega
theorem Ref.one (h : Ref w r sv ms A) (hg : Good A) : ∀ m ∈ ms, m.abs.bytes.length ≤ 1048576 := by
  intro m hm
  have h1 := h.used hg
  obtain ⟨l, l', e⟩ := List.append_of_mem hm
  rw [e] at h1
  unfold usedR at h1
  rw [List.map_append, List.map_cons, usedL_split] at h1
  omega
theorem Ref.names (h : Ref w r sv ms A) (hg : Good A) : (ms.map (·.abs.name)).Nodup := by have := hg.names; rw [h.files, List.map_map] at this; exact this
theorem Ref.still (h : Ref w r sv ms A) (ht : Turn [] w w') : Ref w' r sv ms A := ⟨h.mem.still ht, h.files⟩
theorem Ref.did (h : Ref w' r sv ms A) (ht : Turn [r] w w') : RDid w w' r sv ms A := ⟨sv, ms, h, ht.mono (fun x hx => .inl (by simp at hx; subst hx; exact foot_r _ _ _)), fun k hk => .inl hk⟩
/-- A file in its place, changed. -/
theorem set_files {k : Nat} (h : A.files = ms.map (·.abs)) (hk : k < ms.length) (hn : (ms.map (·.abs.name)).Nodup) (m' : RM) (g : FA → FA) (hg : m'.abs = g ms[k].abs) : (A.upd ms[k].abs.name g).files = (ms.set k m').map (·.abs) := by
  unfold DA.upd
  simp only
  have e : ms = ms.take k ++ ms[k] :: ms.drop (k + 1) := by rw [← List.drop_eq_getElem_cons hk, List.take_append_drop]
  have e2 : ms.set k m' = ms.take k ++ m' :: ms.drop (k + 1) := by rw [List.set_eq_take_append_cons_drop, if_pos hk]
  rw [h, e2]
  have e3 : ms.map (·.abs) = (ms.take k).map (·.abs) ++ ms[k].abs :: (ms.drop (k + 1)).map (·.abs) := by
    have := congrArg (List.map (·.abs)) e
    rwa [List.map_append, List.map_cons] at this
  have hn2 : (((ms.take k).map (·.abs) ++ ms[k].abs :: (ms.drop (k + 1)).map (·.abs)).map (·.name)).Nodup := by
    rw [← e3, List.map_map]; exact hn
  rw [e3, setF_at _ _ _ g hn2]
  simp [hg]
theorem RefAt.frz {p : Addr} {l c room : Nat} {left : Int} (h : RefAt w r (.slice (some p) l c) ms room left) {j : Nat} (hj : j < ms.length) (i : Nat) : w.frozen? ⟨(p.add (j * 3)).block, (p.add (j * 3)).off + i, none⟩ = false := by
  obtain ⟨g, cap, e, -, hf⟩ := h.row.at fileC_len hj
  simp only [Value.slice.injEq, Option.some.injEq] at e
  obtain ⟨rfl, rfl, rfl⟩ := e
  rw [addr_add]; exact hf _
/-- One cell of a file, set: the disk is as if that file had changed so. -/
theorem setDid {w w3 : World} {p : Addr} {l c k i : Nat} {u : Value} {m' : RM} {g : FA → FA} (h3 : Ref w3 r (.slice (some p) l c) ms A) (ht3 : Turn [r] w w3) (hlow : ∀ j ∈ RFoot r (.slice (some p) l c) ms, j < w.heap.size) (hk : k < ms.length) (hi : i < 3) (he : fileC m' = (fileC ms[k]).set i u)
    (hb : BytesAt w3 m'.sl m'.abs.bytes) (hown : ∀ j ∈ m'.sl.ownBlock, j ∈ ms[k].sl.ownBlock ∨ (w.heap.size ≤ j ∧ j < w3.heap.size)) (hg : m'.abs = g ms[k].abs) (hn : (ms.map (·.abs.name)).Nodup) :
    Ref (w3.setCell ⟨(p.add (k * 3)).block, (p.add (k * 3)).off + i, none⟩ u) r (.slice (some p) l c) (ms.set k m') (A.upd ms[k].abs.name g) ∧
    Turn (RFoot r (.slice (some p) l c) ms) w (w3.setCell ⟨(p.add (k * 3)).block, (p.add (k * 3)).off + i, none⟩ u) ∧ ∀ j ∈ RFoot r (.slice (some p) l c) (ms.set k m'), j ∈ RFoot r (.slice (some p) l c) ms ∨ w.heap.size ≤ j := by
  have hmk := List.getElem_mem hk
  have hp : p.block ∈ RFoot r (.slice (some p) l c) ms := foot_sv (by simp [Value.ownBlock])
  refine ⟨⟨?_, set_files h3.files hk hn m' g hg⟩, ?_, ?_⟩
  · refine h3.mem.setFile hk hi he hb (fun j hj => ?_)
    rcases hown j hj with h | h
    · have := (h3.mem.each _ hmk).2 j h
      exact ⟨this.1, this.2.1, fun e => this.2.2 (by simp [Value.ownBlock, e])⟩
    · exact ⟨h.2, fun e => by have := hlow r (foot_r _ _ _); omega, fun e => by have := hlow _ hp; omega⟩
  · exact (ht3.mono (fun x hx => .inl (by simp at hx; subst hx; exact foot_r _ _ _))).setCell (.inl (by rw [show (⟨(p.add (k * 3)).block, (p.add (k * 3)).off + i, none⟩ : Addr).block = p.block from add_block _ _]; exact hp)) _
  · intro j hj
    simp only [RFoot, List.mem_cons, List.mem_append, List.mem_flatMap] at hj ⊢
    rcases hj with rfl | hj | ⟨m, hm, hj⟩
    · exact .inl (.inl rfl)
    · exact .inl (.inr (.inl hj))
    · rcases List.mem_or_eq_of_mem_set hm with hm | rfl
      · exact .inl (.inr (.inr ⟨m, hm, hj⟩))
      · rcases hown j (by simpa using hj) with h | h
        · exact .inl (.inr (.inr ⟨_, hmk, by simpa using h⟩))
        · exact .inr h.1
theorem own_eq (a : Option Addr) (l c l' c' : Nat) : (Value.slice a l c).ownBlock = (Value.slice a l' c').ownBlock := by cases a <;> rfl
theorem upd_upd (A : DA) (nm : List UInt8) (g1 g2 : FA → FA) (h1 : ∀ f, (g1 f).name = f.name) : (A.upd nm g1).upd nm g2 = A.upd nm (fun f => g2 (g1 f)) := by
  unfold DA.upd setF
  simp only [List.map_map]
  congr 1
  apply List.map_congr_left
  intro f _
  simp only [Function.comp_def]
  by_cases h : f.name == nm
  · simp [h, h1]
  · simp [h]
end
end Go.Proofs.YtlcgcckllecjpaaDoor.Dk
