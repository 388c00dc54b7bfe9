/- record's reader: a whole batch. -/
import Derived.Test.YtodadoaindfecaaDoorRd
import Derived.Test.YtodadoaindfecaaDoorPutN
namespace Go.Proofs.YtodadoaindfecaaDoor
open Go.RowKit Go.Maps
set_option maxRecDepth 100000
set_option linter.unusedSimpArgs false
set_option linter.unusedVariables false

/-- A slice of records with a block of its own; behind its capacity the block may go on. -/
def RecRow (w : World) (base : Nat) (sv : Value) (rs : List Bt.Rec) : Prop :=
  (sv = .slice none 0 0 ∧ rs = []) ∨
  ∃ g cap cur, sv = .slice (some ⟨g, 0, none⟩) rs.length cap ∧ base ≤ g ∧ w.heap[g]? = some (.cells cur 133 (0, 0)) ∧ rs.length ≤ cap ∧ cap * 6 ≤ cur.size ∧ cap ≤ maxLen ∧ cur.toList.take (rs.length * 6) = rs.flatMap recC
theorem recC_len (r : Bt.Rec) : (recC r).length = 6 := rfl
theorem flat_len : ∀ (rs : List Bt.Rec), (rs.flatMap recC).length = rs.length * 6
  | [] => rfl
  | r :: rs => by rw [List.flatMap_cons, List.length_append, flat_len rs, recC_len, List.length_cons]; omega
theorem RecRow.kept {w w' : World} {base : Nat} {sv : Value} {rs : List Bt.Rec} {S : List Nat} (h : RecRow w base sv rs) (ht : Turn S w w') (hn : ∀ k ∈ sv.ownBlock, k ∉ S) : RecRow w' base sv rs := by
  rcases h with h | ⟨g, cap, cur, rfl, hb, hg, r⟩
  · exact .inl h
  · exact .inr ⟨g, cap, cur, rfl, hb, ht.heap hg (hn g (by simp [Value.ownBlock])), r⟩
theorem RecRow.lt {w : World} {base : Nat} {sv : Value} {rs : List Bt.Rec} (h : RecRow w base sv rs) : ∀ k ∈ sv.ownBlock, base ≤ k ∧ k < w.heap.size := by
  intro k hk
  rcases h with ⟨rfl, _⟩ | ⟨g, cap, cur, rfl, hb, hg, r⟩
  · simp [Value.ownBlock] at hk
  · simp [Value.ownBlock] at hk; subst hk; exact ⟨hb, lt_of_heap hg⟩
theorem RecRow.some_slice {w : World} {base : Nat} {sv : Value} {rs : List Bt.Rec} (h : RecRow w base sv rs) : ∃ a n c, sv = .slice a n c := by
  rcases h with ⟨rfl, _⟩ | ⟨g, cap, cur, rfl, r⟩
  · exact ⟨_, _, _, rfl⟩
  · exact ⟨_, _, _, rfl⟩
theorem flat_at : ∀ (rs : List Bt.Rec) (j i : Nat) (h : j < rs.length) (u : Value), (recC rs[j])[i]? = some u → (rs.flatMap recC)[j * 6 + i]? = some u
  | [], _, _, h, _, _ => by simp at h
  | r :: rs, 0, i, h, u, hu => by
    have hi : i < 6 := by have := (List.getElem?_eq_some_iff.1 hu).1; simpa [recC] using this
    rw [List.flatMap_cons, Nat.zero_mul, Nat.zero_add, List.getElem?_append_left (by rw [recC_len]; exact hi)]
    simpa using hu
  | r :: rs, j + 1, i, h, u, hu => by
    rw [List.flatMap_cons, List.getElem?_append_right (by rw [recC_len]; omega), recC_len, show (j + 1) * 6 + i - 6 = j * 6 + i by omega]
    exact flat_at rs j i (by simpa using h) u (by simpa using hu)
theorem RecRow.recs {w : World} {base : Nat} {sv : Value} {rs : List Bt.Rec} (h : RecRow w base sv rs) (ok : ∀ r ∈ rs, RecOk r) : RecsAt w sv rs := by
  rcases h with ⟨rfl, rfl⟩ | ⟨g, cap, cur, rfl, hb, hg, h1, h2, h3, h4⟩
  · exact ⟨none, 0, rfl, Nat.le_refl _, Nat.zero_le _, fun _ => rfl, fun j hj => absurd hj (Nat.not_lt_zero _)⟩
  · refine ⟨_, cap, rfl, h1, h3, by simp, fun j hj => ⟨ok _ (List.getElem_mem _), _, rfl, fun i u hu => ?_⟩⟩
    have hi : i < 6 := by have := (List.getElem?_eq_some_iff.1 hu).1; simpa [recC] using this
    rw [add_add, addr_add, cell_of hg]
    have h5 := flat_at rs j i hj u hu
    rw [← h4, List.getElem?_take_of_lt (by omega)] at h5
    simpa using h5

theorem Tryd.infoR : (Tryd.prog.info? 133).map (fun i => (i.zero.map (fun z => z.cells.size), i.size, i.bytes)) = some (some 6, 6, 64) := by kernel_rfl
theorem infoR_parts : ∃ i z, Tryd.prog.info? 133 = some i ∧ i.zero = some z ∧ z.cells.size = 6 ∧ i.size = 6 ∧ i.bytes = 64 := by
  have h := Tryd.infoR
  cases hi : Tryd.prog.info? 133 with
  | none => rw [hi] at h; cases h
  | some i =>
    rw [hi] at h
    simp only [Option.map_some, Option.some.injEq, Prod.mk.injEq, Option.map_eq_some_iff] at h
    obtain ⟨⟨z, hz, hz2⟩, h2, h3⟩ := h
    exact ⟨i, z, rfl, hz, hz2, h2, h3⟩
theorem run_append_rec (w : World) (base : Nat) (v : Value) (rs : List Bt.Rec) (r : Bt.Rec) (k : Nat) (hrow : RecRow w base v rs) (hk : w.heap[k]? = some (.cells (recC r).toArray 133 (0, 0))) (hlen : rs.length ≤ 1000000) (hbase : base ≤ w.heap.size) :
    ∃ v' w', (Builtin.append_ #[46, 46] 46 #[v, .slice (some ⟨k, 0, none⟩) 1 1]).run Tryd.prog w = .ok v' w' ∧ RecRow w' base v' (rs ++ [r]) ∧ Turn v.ownBlock.toList w w' ∧ (∀ j ∈ v'.ownBlock, j ∈ v.ownBlock ∨ w.heap.size ≤ j) := by
  obtain ⟨i, z, hi, hz, hzs, hsize, hby⟩ := infoR_parts
  have hmax : maxLen = 9223372036854775807 := by simp [maxLen]
  have hl : (recC r).length = 1 * i.size := by rw [hsize]; rfl
  have hnews : ∀ j u, (recC r)[j]? = some u → w.cell? ((⟨k, 0, none⟩ : Addr).add j) = some u := fun j u hu => by
    rw [addr_add, cell_of hk]; simpa using hu
  have hone : ∀ u ∈ recC r, u.oneCell' = true := by
    intro u hu
    simp only [recC, strV, List.mem_cons, List.not_mem_nil, or_false] at hu
    rcases hu with rfl | rfl | rfl | rfl | rfl | rfl <;> rfl
  rcases hrow with ⟨rfl, rfl⟩ | ⟨g, cap, cur, rfl, hb, hg, h1, h2, h3, h4⟩
  · have hr := run_append_nil (P := Tryd.prog) w 46 46 133 i z Tryd.underlying46 hi hz ⟨k, 0, none⟩ 1 1 (recC r) hl hnews (by omega) (by omega) (by rw [hby]; omega)
    have hge := grownCap_ge w 1 0 133
    have hcm := grownCap_le_maxLen w 1 0 133 (by rw [hmax]; omega)
    refine ⟨_, _, hr, .inr ⟨w.heap.size, _, _, by simp, hbase, heap_new w.drew _, by simpa using hge, ?_, hcm, ?_⟩, ((Turn.refl _ _).drew).alloc _, by simp [Value.ownBlock]⟩
    · simp only [Array.size_append, List.size_toArray, size_zeroCells, hzs, recC_len]
      omega
    · simp [recC]
  · have hfl : (rs.flatMap recC ++ recC r).length = (rs.length + 1) * 6 := by rw [List.length_append, flat_len, recC_len]; omega
    by_cases hroom : rs.length + 1 ≤ cap
    · have hr := run_append_room (P := Tryd.prog) w 46 46 133 i Tryd.underlying46 hi g rs.length cap cur hg ⟨k, 0, none⟩ 1 1 (recC r) hl hnews hone hroom (by rw [hsize, recC_len]; omega)
      rw [hsize] at hr
      refine ⟨_, _, hr, .inr ⟨g, cap, _, by simp, hb, setRow_heap w g cur _ 133 _ hg, by simpa using hroom, ?_, h3, ?_⟩, ⟨rfl, rfl, rfl, by simp, fun k _ hk => setRow_other w g k _ (fun e => hk (by simp [Value.ownBlock, e]))⟩, by simp [Value.ownBlock]⟩
      · simp [recC_len]; omega
      · simp only [h4, List.append_assoc]
        rw [← List.append_assoc, List.take_append_of_le_length (by rw [hfl]; simp), List.take_of_length_le (by rw [hfl]; simp)]
        simp
    · have holds : ∀ j u, (rs.flatMap recC)[j]? = some u → w.cell? ((⟨g, 0, none⟩ : Addr).add j) = some u := by
        intro j u hu
        rw [addr_add, cell_of hg]
        have hj : j < rs.length * 6 := by have := (List.getElem?_eq_some_iff.1 hu).1; rwa [flat_len] at this
        rw [← h4, List.getElem?_take_of_lt hj] at hu
        simpa using hu
      have hr := run_append_grow (P := Tryd.prog) w 46 46 133 i z Tryd.underlying46 hi hz ⟨g, 0, none⟩ rs.length cap (rs.flatMap recC) (by rw [flat_len, hsize]) holds ⟨k, 0, none⟩ 1 1 (recC r) hl hnews (by omega) (by omega) (growslice_fits (by omega) (by rw [hby]; omega))
      have hge := grownCap_ge w (rs.length + 1) cap 133
      have hcm := grownCap_le_maxLen w (rs.length + 1) cap 133 (by rw [hmax]; omega)
      refine ⟨_, _, hr, .inr ⟨w.heap.size, _, _, by simp, hbase, heap_new w.drew _, by simpa using hge, ?_, hcm, ?_⟩, ((Turn.refl _ _).drew).alloc _, by simp [Value.ownBlock]⟩
      · simp only [Array.size_append, List.size_toArray, size_zeroCells, hzs, recC_len, flat_len]
        omega
      · simp only [Array.toList_append]
        rw [List.take_append_of_le_length (by show (rs ++ [r]).length * 6 ≤ (rs.flatMap recC ++ recC r).length; rw [hfl]; simp), List.take_of_length_le (by show (rs.flatMap recC ++ recC r).length ≤ (rs ++ [r]).length * 6; rw [hfl]; simp)]
        simp
end Go.Proofs.YtodadoaindfecaaDoor
