/- Rows of structs, told by a list: append onto one; one cell set. No program. -/
import Derived.Test.YtcficgpknokpbaaDoorTurn
namespace Go.Proofs.YtcficgpknokpbaaDoor
open Go.RowKit
set_option linter.unusedSimpArgs false
set_option linter.unusedVariables false

section
variable {α : Type} {T : TypeId} {n : Nat} {enc : α → List Value}
/-- A slice of structs of n cells with a block of its own, from its beginning on; behind its capacity the block may go on. -/
def GRow (T : TypeId) (n : Nat) (enc : α → List Value) (w : World) (base : Nat) (sv : Value) (xs : List α) : Prop :=
  (sv = .slice none 0 0 ∧ xs = []) ∨
  ∃ g cap cur, sv = .slice (some ⟨g, 0, none⟩) xs.length cap ∧ base ≤ g ∧ w.heap[g]? = some (.cells cur T (0, 0)) ∧ xs.length ≤ cap ∧ cap * n ≤ cur.size ∧ cap ≤ maxLen ∧ cur.toList.take (xs.length * n) = xs.flatMap enc
theorem GRow.kept {w w' : World} {base : Nat} {sv : Value} {xs : List α} {S : List Nat} (h : GRow T n enc w base sv xs) (ht : Turn S w w') (hn : ∀ k ∈ sv.ownBlock, k ∉ S) : GRow T n enc w' base sv xs := by
  rcases h with h | ⟨g, cap, cur, rfl, hb, hg, r⟩
  · exact .inl h
  · exact .inr ⟨g, cap, cur, rfl, hb, ht.heap hg (hn g (by simp [Value.ownBlock])), r⟩
theorem GRow.still {w w' : World} {base : Nat} {sv : Value} {xs : List α} (h : GRow T n enc w base sv xs) (ht : Turn [] w w') : GRow T n enc w' base sv xs := h.kept ht (by simp)
theorem GRow.lt {w : World} {base : Nat} {sv : Value} {xs : List α} (h : GRow T n enc w base sv xs) : ∀ k ∈ sv.ownBlock, base ≤ k ∧ k < w.heap.size := by
  intro k hk
  rcases h with ⟨rfl, _⟩ | ⟨g, cap, cur, rfl, hb, hg, r⟩
  · simp [Value.ownBlock] at hk
  · simp [Value.ownBlock] at hk; subst hk; exact ⟨hb, lt_of_heap hg⟩
theorem GRow.form {w : World} {base : Nat} {sv : Value} {xs : List α} (h : GRow T n enc w base sv xs) : ∃ a c, sv = .slice a xs.length c ∧ xs.length ≤ c ∧ c ≤ maxLen := by
  rcases h with ⟨rfl, rfl⟩ | ⟨g, cap, cur, rfl, hb, hg, h1, h2, h3, h4⟩
  · exact ⟨_, _, rfl, Nat.le_refl _, Nat.zero_le _⟩
  · exact ⟨_, _, rfl, h1, h3⟩
theorem GRow.base_le {w : World} {base base' : Nat} {sv : Value} {xs : List α} (h : GRow T n enc w base sv xs) (hb : base' ≤ base) : GRow T n enc w base' sv xs := by
  rcases h with h | ⟨g, cap, cur, rfl, h1, r⟩
  · exact .inl h
  · exact .inr ⟨g, cap, cur, rfl, by omega, r⟩
theorem gflat_len (hn : ∀ x, (enc x).length = n) : ∀ xs : List α, (xs.flatMap enc).length = xs.length * n
  | [] => by simp
  | x :: xs => by rw [List.flatMap_cons, List.length_append, gflat_len hn xs, hn, List.length_cons, Nat.add_mul]; omega
theorem gflat_at (hn : ∀ x, (enc x).length = n) : ∀ (xs : List α) (j i : Nat) (h : j < xs.length), i < n → (xs.flatMap enc)[j * n + i]? = (enc xs[j])[i]?
  | [], _, _, h, _ => by simp at h
  | x :: xs, 0, i, h, hi => by
    rw [List.flatMap_cons, Nat.zero_mul, Nat.zero_add, List.getElem?_append_left (by rw [hn]; exact hi)]
    rfl
  | x :: xs, j + 1, i, h, hi => by
    rw [List.flatMap_cons, List.getElem?_append_right (by rw [hn, Nat.add_mul]; omega), hn, show (j + 1) * n + i - n = j * n + i by rw [Nat.add_mul]; omega]
    exact gflat_at hn xs j i (by simpa using h) hi
theorem gflat_set (hn : ∀ x, (enc x).length = n) : ∀ (xs : List α) (j i : Nat) (h : j < xs.length) (u : Value) (x' : α), i < n → enc x' = (enc xs[j]).set i u → (xs.flatMap enc).set (j * n + i) u = (xs.set j x').flatMap enc
  | [], _, _, h, _, _, _, _ => by simp at h
  | x :: xs, 0, i, h, u, x', hi, he => by
    rw [List.flatMap_cons, Nat.zero_mul, Nat.zero_add, List.set_append_left _ _ (by rw [hn]; exact hi)]
    simp only [List.getElem_cons_zero] at he
    simp [he]
  | x :: xs, j + 1, i, h, u, x', hi, he => by
    rw [List.flatMap_cons, List.set_append_right _ _ (by rw [hn, Nat.add_mul]; omega), hn, show (j + 1) * n + i - n = j * n + i by rw [Nat.add_mul]; omega, gflat_set hn xs j i (by simpa using h) u x' hi (by simpa using he)]
    simp
/-- The cells of an element. -/
theorem GRow.at {w : World} {base : Nat} {sv : Value} {xs : List α} (hn : ∀ x, (enc x).length = n) (h : GRow T n enc w base sv xs) {j : Nat} (hj : j < xs.length) :
    ∃ g cap, sv = .slice (some ⟨g, 0, none⟩) xs.length cap ∧ (∀ i, i < n → w.cell? ⟨g, j * n + i, none⟩ = (enc xs[j])[i]?) ∧ ∀ i, w.frozen? ⟨g, i, none⟩ = false := by
  rcases h with ⟨rfl, rfl⟩ | ⟨g, cap, cur, rfl, hb, hg, h1, h2, h3, h4⟩
  · simp at hj
  · refine ⟨g, cap, rfl, fun i hi => ?_, fun i => frozen_of hg i⟩
    rw [cell_of hg, ← gflat_at hn xs j i hj hi, ← h4, List.getElem?_take_of_lt]
    · simp
    · have : (j + 1) * n ≤ xs.length * n := Nat.mul_le_mul_right _ hj
      rw [Nat.add_mul] at this; omega
/-- One cell of an element, set. -/
theorem GRow.set {w : World} {base : Nat} {g c : Nat} {l : Nat} {xs : List α} (hn : ∀ x, (enc x).length = n) (h : GRow T n enc w base (.slice (some ⟨g, 0, none⟩) l c) xs) {j i : Nat} (hj : j < xs.length) (hi : i < n) {u : Value} {x' : α} (he : enc x' = (enc xs[j]).set i u) :
    GRow T n enc (w.setCell ⟨g, j * n + i, none⟩ u) base (.slice (some ⟨g, 0, none⟩) l c) (xs.set j x') := by
  rcases h with ⟨h, -⟩ | ⟨g', cap, cur, h, hb, hg, h1, h2, h3, h4⟩
  · simp at h
  · simp only [Value.slice.injEq, Option.some.injEq, Addr.mk.injEq] at h
    obtain ⟨⟨rfl, -, -⟩, rfl, rfl⟩ := h
    refine .inr ⟨g, c, _, by rw [List.length_set], hb, heap_set hg _ u, by rw [List.length_set]; exact h1, by rw [Array.size_setIfInBounds]; exact h2, h3, ?_⟩
    rw [List.length_set, Array.toList_setIfInBounds, List.take_set, h4]
    exact gflat_set hn xs j i hj u x' hi he

/-- APPEND of one struct. -/
theorem run_append_g {P : Program} (t ty : TypeId) (ht : P.underlying t = some (.slice T)) (i : TypeInfo) (z : Value) (hi : P.info? T = some i) (hz : i.zero = some z) (hzs : z.cells.size = n) (hsize : i.size = n) (hby : i.bytes ≤ 1000) (hn : ∀ x, (enc x).length = n) (hone : ∀ x, ∀ u ∈ enc x, u.oneCell' = true)
    (w : World) (base : Nat) (v : Value) (xs : List α) (x : α) (k : Nat) (hrow : GRow T n enc w base v xs) (hk : w.heap[k]? = some (.cells (enc x).toArray T (0, 0))) (hlen : xs.length ≤ 1000000) (hbase : base ≤ w.heap.size) :
    ∃ v' w', (Builtin.append_ #[t, t] ty #[v, .slice (some ⟨k, 0, none⟩) 1 1]).run P w = .ok v' w' ∧ GRow T n enc w' base v' (xs ++ [x]) ∧ Turn v.ownBlock.toList w w' ∧ (∀ j ∈ v'.ownBlock, j ∈ v.ownBlock ∨ w.heap.size ≤ j) := by
  have hmax : maxLen = 9223372036854775807 := by simp [maxLen]
  have hl : (enc x).length = 1 * i.size := by rw [hsize, hn]; omega
  have hnews : ∀ j u, (enc x)[j]? = some u → w.cell? ((⟨k, 0, none⟩ : Addr).add j) = some u := fun j u hu => by
    rw [addr_add, cell_of hk]; simpa using hu
  rcases hrow with ⟨rfl, rfl⟩ | ⟨g, cap, cur, rfl, hb, hg, h1, h2, h3, h4⟩
  · have hr := run_append_nil (P := P) w t ty T i z ht hi hz ⟨k, 0, none⟩ 1 1 (enc x) hl hnews (by omega) (by omega) (by omega)
    have hge := grownCap_ge w 1 0 T
    have hcm := grownCap_le_maxLen w 1 0 T (by rw [hmax]; omega)
    refine ⟨_, _, hr, .inr ⟨w.heap.size, _, _, by simp, hbase, heap_new w.drew _, by simpa using hge, ?_, hcm, ?_⟩, ((Turn.refl _ _).drew).alloc _, by simp [Value.ownBlock]⟩
    · simp only [Array.size_append, List.size_toArray, size_zeroCells, hzs, hn]
      have : grownCap w 1 0 T * n = 1 * n + (grownCap w 1 0 T - 1) * n := by rw [← Nat.add_mul]; congr 1; omega
      omega
    · simp only [Array.toList_append, List.nil_append, List.length_singleton]
      rw [List.take_append_of_le_length (by simp [hn]), List.take_of_length_le (by simp [hn])]
      simp
  · have hfl : (xs.flatMap enc ++ enc x).length = (xs.length + 1) * n := by rw [List.length_append, gflat_len hn, hn, Nat.add_mul]; omega
    by_cases hroom : xs.length + 1 ≤ cap
    · have hfit : (xs.length + 1) * n ≤ cur.size := Nat.le_trans (Nat.mul_le_mul_right _ hroom) h2
      have hr := run_append_room (P := P) w t ty T i ht hi g xs.length cap cur hg ⟨k, 0, none⟩ 1 1 (enc x) hl hnews (hone x) hroom (by rw [hsize, hn]; rw [Nat.add_mul] at hfit; omega)
      rw [hsize] at hr
      refine ⟨_, _, hr, .inr ⟨g, cap, _, by simp, hb, setRow_heap w g cur _ T _ hg, by simpa using hroom, ?_, h3, ?_⟩, ⟨rfl, rfl, rfl, by simp, fun k _ hk => setRow_other w g k _ (fun e => hk (by simp [Value.ownBlock, e]))⟩, by simp [Value.ownBlock]⟩
      · simp [hn]
        rw [Nat.add_mul] at hfit
        have hcs : xs.length * n ≤ cur.size := by omega
        rw [Nat.min_eq_left hcs]
        omega
      · simp only [h4, List.append_assoc]
        rw [← List.append_assoc, List.take_append_of_le_length (by rw [hfl]; simp), List.take_of_length_le (by rw [hfl]; simp)]
        simp
    · have holds : ∀ j u, (xs.flatMap enc)[j]? = some u → w.cell? ((⟨g, 0, none⟩ : Addr).add j) = some u := by
        intro j u hu
        rw [addr_add, cell_of hg]
        have hj : j < xs.length * n := by have := (List.getElem?_eq_some_iff.1 hu).1; rwa [gflat_len hn] at this
        rw [← h4, List.getElem?_take_of_lt hj] at hu
        simpa using hu
      have hr := run_append_grow (P := P) w t ty T i z ht hi hz ⟨g, 0, none⟩ xs.length cap (xs.flatMap enc) (by rw [gflat_len hn, hsize]) holds ⟨k, 0, none⟩ 1 1 (enc x) hl hnews (by omega) (by omega) (growslice_fits (by omega) (by have : (xs.length + 1) * i.bytes ≤ 1000001 * 1000 := Nat.mul_le_mul (by omega) hby; omega))
      have hge := grownCap_ge w (xs.length + 1) cap T
      have hcm := grownCap_le_maxLen w (xs.length + 1) cap T (by rw [hmax]; omega)
      refine ⟨_, _, hr, .inr ⟨w.heap.size, _, _, by simp, hbase, heap_new w.drew _, by simpa using hge, ?_, hcm, ?_⟩, ((Turn.refl _ _).drew).alloc _, by simp [Value.ownBlock]⟩
      · simp only [Array.size_append, List.size_toArray, size_zeroCells, hzs, hn, gflat_len hn]
        have : grownCap w (xs.length + 1) cap T * n = (xs.length + 1) * n + (grownCap w (xs.length + 1) cap T - (xs.length + 1)) * n := by rw [← Nat.add_mul]; congr 1; omega
        rw [Nat.add_mul] at this
        omega
      · simp only [Array.toList_append]
        rw [List.take_append_of_le_length (by show (xs ++ [x]).length * n ≤ (xs.flatMap enc ++ enc x).length; rw [hfl]; simp), List.take_of_length_le (by show (xs.flatMap enc ++ enc x).length ≤ (xs ++ [x]).length * n; rw [hfl]; simp)]
        simp
end
end Go.Proofs.YtcficgpknokpbaaDoor
