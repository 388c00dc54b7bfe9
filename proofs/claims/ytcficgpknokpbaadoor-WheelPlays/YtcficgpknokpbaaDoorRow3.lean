/- Append of a row of structs onto another. No program. -/
import Derived.Test.YtcficgpknokpbaaDoorRow2
namespace Go.Proofs.YtcficgpknokpbaaDoor
open Go.RowKit
set_option linter.unusedSimpArgs false
set_option linter.unusedVariables false
section
variable {α : Type} {T : TypeId} {n : Nat} {enc : α → List Value}
/-- What is appended: a slice wherever it lies. -/
def GSrc (enc : α → List Value) (w : World) (sx : Value) (ys : List α) : Prop :=
  (sx = .slice none 0 0 ∧ ys = []) ∨ ∃ a c, sx = .slice (some a) ys.length c ∧ ∀ j u, (ys.flatMap enc)[j]? = some u → w.cell? (a.add j) = some u
theorem GRow.src (hn : ∀ x, (enc x).length = n) {w : World} {base : Nat} {v : Value} {xs : List α} (h : GRow T n enc w base v xs) : GSrc enc w v xs := by
  rcases h with h | ⟨g, cap, cur, rfl, -, hg, h1, h2, h3, h4⟩
  · exact .inl h
  · refine .inr ⟨_, _, rfl, fun j u hu => ?_⟩
    rw [addr_add, cell_of hg]
    have hj : j < xs.length * n := by have := (List.getElem?_eq_some_iff.1 hu).1; rwa [gflat_len hn] at this
    rw [← h4, List.getElem?_take_of_lt hj] at hu
    simpa using hu
/-- APPEND of many. -/
theorem run_append_gs {P : Program} (t ty : TypeId) (ht : P.underlying t = some (.slice T)) (i : TypeInfo) (z : Value) (hi : P.info? T = some i) (hz : i.zero = some z) (hzs : z.cells.size = n) (hsize : i.size = n) (hby : i.bytes ≤ 1000) (hn : ∀ x, (enc x).length = n) (hone : ∀ x, ∀ u ∈ enc x, u.oneCell' = true)
    (w : World) (base : Nat) (v sx : Value) (xs ys : List α) (hrow : GRow T n enc w base v xs) (hx : GSrc enc w sx ys) (hlen : xs.length + ys.length ≤ 1000000) (hbase : base ≤ w.heap.size) :
    ∃ v' w', (Builtin.append_ #[t, t] ty #[v, sx]).run P w = .ok v' w' ∧ GRow T n enc w' base v' (xs ++ ys) ∧ Turn v.ownBlock.toList w w' ∧ (∀ j ∈ v'.ownBlock, j ∈ v.ownBlock ∨ w.heap.size ≤ j) := by
  have hmax : maxLen = 9223372036854775807 := by simp [maxLen]
  have hones : ∀ u ∈ ys.flatMap enc, u.oneCell' = true := fun u hu => by
    obtain ⟨x, -, hx⟩ := List.mem_flatMap.1 hu
    exact hone x u hx
  have new : ∀ old : Nat, old < xs.length + ys.length → GRow T n enc (w.drew.alloc (.cells ((xs.flatMap enc).toArray ++ (ys.flatMap enc).toArray ++ Builtin.zeroCells z.cells (grownCap w (xs.length + ys.length) old T - (xs.length + ys.length))) T)) base
      (.slice (some ⟨w.heap.size, 0, none⟩) (xs.length + ys.length) (grownCap w (xs.length + ys.length) old T)) (xs ++ ys) ∧
      Turn v.ownBlock.toList w (w.drew.alloc (.cells ((xs.flatMap enc).toArray ++ (ys.flatMap enc).toArray ++ Builtin.zeroCells z.cells (grownCap w (xs.length + ys.length) old T - (xs.length + ys.length))) T)) := by
    intro old ho
    have hge := grownCap_ge w (xs.length + ys.length) old T
    have hcm := grownCap_le_maxLen w (xs.length + ys.length) old T (by rw [hmax]; omega)
    have hfl : (xs.flatMap enc ++ ys.flatMap enc).length = (xs ++ ys).length * n := by rw [List.length_append, gflat_len hn, gflat_len hn, List.length_append, Nat.add_mul]
    refine ⟨.inr ⟨w.heap.size, _, _, by simp, hbase, heap_new w.drew _, by simpa using hge, ?_, hcm, ?_⟩, ((Turn.refl _ _).drew).alloc _⟩
    · simp only [Array.size_append, List.size_toArray, size_zeroCells, hzs, gflat_len hn]
      have : grownCap w (xs.length + ys.length) old T * n = (xs.length + ys.length) * n + (grownCap w (xs.length + ys.length) old T - (xs.length + ys.length)) * n := by rw [← Nat.add_mul]; congr 1; omega
      rw [Nat.add_mul] at this
      omega
    · simp only [Array.toList_append]
      rw [List.take_append_of_le_length (by show (xs ++ ys).length * n ≤ (xs.flatMap enc ++ ys.flatMap enc).length; rw [hfl]; exact Nat.le_refl _), List.take_of_length_le (by show (xs.flatMap enc ++ ys.flatMap enc).length ≤ (xs ++ ys).length * n; rw [hfl]; exact Nat.le_refl _)]
      simp
  rcases hx with ⟨rfl, rfl⟩ | ⟨a, c, rfl, hnews⟩
  · rcases hrow with ⟨rfl, rfl⟩ | ⟨g, cap, cur, rfl, hb, hg, h1, h2, h3, h4⟩
    · exact ⟨.slice none 0 0, w, by simp [Builtin.append_, run_underlying ht, sizeOf, typeInfo, hi, Builtin.lenOf, Builtin.firstCells], .inl ⟨rfl, rfl⟩, Turn.refl _ _, by simp [Value.ownBlock]⟩
    · refine ⟨.slice (some ⟨g, 0, none⟩) xs.length cap, w, ?_, by rw [List.append_nil]; exact .inr ⟨g, cap, cur, rfl, hb, hg, h1, h2, h3, h4⟩, Turn.refl _ _, by simp [Value.ownBlock]⟩
      simp [Builtin.append_, run_underlying ht, sizeOf, typeInfo, hi, Builtin.lenOf, Builtin.firstCells, h1, storeCells]
  · have hl : (ys.flatMap enc).length = ys.length * i.size := by rw [gflat_len hn, hsize]
    rcases hrow with ⟨rfl, rfl⟩ | ⟨g, cap, cur, rfl, hb, hg, h1, h2, h3, h4⟩
    · by_cases h0 : ys.length = 0
      · have : ys = [] := List.eq_nil_of_length_eq_zero h0
        subst this
        exact ⟨.slice none 0 0, w, by simp [Builtin.append_, run_underlying ht, sizeOf, typeInfo, hi, Builtin.lenOf, Builtin.firstCells, loadCells, loadCellsFrom], .inl ⟨rfl, rfl⟩, Turn.refl _ _, by simp [Value.ownBlock]⟩
      · have hr := run_append_nil (P := P) w t ty T i z ht hi hz a ys.length c (ys.flatMap enc) hl hnews (by omega) (by simp at hlen; omega) (by have : ys.length * i.bytes ≤ 1000000 * 1000 := Nat.mul_le_mul (by simp at hlen; omega) hby; omega)
        have hn' := new 0 (by simp; omega)
        simp only [List.length_nil, Nat.zero_add, List.flatMap_nil, List.nil_append] at hn'
        refine ⟨_, _, hr, ?_, ?_, by simp [Value.ownBlock]⟩
        · simpa using hn'.1
        · simpa using hn'.2
    · by_cases hroom : xs.length + ys.length ≤ cap
      · have hfit : (xs.length + ys.length) * n ≤ cur.size := Nat.le_trans (Nat.mul_le_mul_right _ hroom) h2
        have hr := run_append_room (P := P) w t ty T i ht hi g xs.length cap cur hg a ys.length c (ys.flatMap enc) hl hnews hones hroom (by rw [hsize, gflat_len hn]; rw [Nat.add_mul] at hfit; omega)
        rw [hsize] at hr
        have hfl : (xs.flatMap enc ++ ys.flatMap enc).length = (xs ++ ys).length * n := by rw [List.length_append, gflat_len hn, gflat_len hn, List.length_append, Nat.add_mul]
        refine ⟨_, _, hr, .inr ⟨g, cap, _, by simp, hb, setRow_heap w g cur _ T _ hg, by simpa using hroom, ?_, h3, ?_⟩, ⟨rfl, rfl, rfl, by simp, fun k _ hk => setRow_other w g k _ (fun e => hk (by simp [Value.ownBlock, e]))⟩, by simp [Value.ownBlock]⟩
        · simp [gflat_len hn]
          rw [Nat.add_mul] at hfit
          have hcs : xs.length * n ≤ cur.size := by omega
          rw [Nat.min_eq_left hcs]
          omega
        · simp only [h4, List.append_assoc]
          rw [← List.append_assoc, List.take_append_of_le_length (by rw [hfl]; exact Nat.le_refl _), List.take_of_length_le (by rw [hfl]; exact Nat.le_refl _)]
          simp
      · have holds : ∀ j u, (xs.flatMap enc)[j]? = some u → w.cell? ((⟨g, 0, none⟩ : Addr).add j) = some u := by
          intro j u hu
          rw [addr_add, cell_of hg]
          have hj : j < xs.length * n := by have := (List.getElem?_eq_some_iff.1 hu).1; rwa [gflat_len hn] at this
          rw [← h4, List.getElem?_take_of_lt hj] at hu
          simpa using hu
        have hr := run_append_grow (P := P) w t ty T i z ht hi hz ⟨g, 0, none⟩ xs.length cap (xs.flatMap enc) (by rw [gflat_len hn, hsize]) holds a ys.length c (ys.flatMap enc) hl hnews (by omega) (by omega) (growslice_fits (by omega) (by have : (xs.length + ys.length) * i.bytes ≤ 1000000 * 1000 := Nat.mul_le_mul hlen hby; omega))
        have hn' := new cap (by omega)
        exact ⟨_, _, hr, hn'.1, hn'.2, by simp [Value.ownBlock]⟩
end
end Go.Proofs.YtcficgpknokpbaaDoor
