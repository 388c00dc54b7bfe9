/- Append onto a row of structs: in place or in a new block, told apart ahead. No program. -/
import Derived.Test.YtcficgpknokpbaaDoorRow
namespace Go.Proofs.YtcficgpknokpbaaDoor
open Go.RowKit
set_option linter.unusedSimpArgs false
set_option linter.unusedVariables false

def incV : Value → Value
  | .slice a n c => .slice a (n + 1) c
  | v => v
def slackB : Value → Bool
  | .slice _ n c => decide (n < c)
  | _ => false
theorem incV_own {v : Value} {k : Nat} (h : k ∈ (incV v).ownBlock) : k ∈ v.ownBlock := by
  unfold incV at h
  split at h
  · rename_i a n c
    cases a <;> exact h
  · exact h
section
variable {α : Type} {T : TypeId} {n : Nat} {enc : α → List Value}
/-- What an append has left, whatever has turned since but the row itself (L: how great the heap was). -/
def Apd (T : TypeId) (n : Nat) (enc : α → List Value) (base L : Nat) (v : Value) (ys : List α) (x : Value) (w : World) : Prop :=
  (slackB v = true ∧ x = incV v) ∨ (slackB v = false ∧ GRow T n enc w base x ys ∧ ∀ j ∈ x.ownBlock, L ≤ j)
/-- And the row itself. -/
def Apr (T : TypeId) (n : Nat) (enc : α → List Value) (base : Nat) (v : Value) (ys : List α) (w : World) : Prop := slackB v = true → GRow T n enc w base (incV v) ys
theorem Apd.kept {S : List Nat} {w w' : World} {base L : Nat} {v x : Value} {ys : List α} (h : Apd T n enc base L v ys x w) (ht : Turn S w w') (hS : ∀ k ∈ S, k < L) : Apd T n enc base L v ys x w' := by
  rcases h with h | ⟨h0, h1, h2⟩
  · exact .inl h
  · exact .inr ⟨h0, h1.kept ht (fun k hk hm => by have := h2 k hk; have := hS k hm; omega), h2⟩
theorem Apr.kept {S : List Nat} {w w' : World} {base : Nat} {v : Value} {ys : List α} (h : Apr T n enc base v ys w) (ht : Turn S w w') (hS : ∀ k ∈ v.ownBlock, k ∉ S) : Apr T n enc base v ys w' :=
  fun hs => (h hs).kept ht (fun k hk => hS k (incV_own hk))
theorem Apd.row {w : World} {base L : Nat} {v x : Value} {ys : List α} (h : Apd T n enc base L v ys x w) (hr : Apr T n enc base v ys w) : GRow T n enc w base x ys ∧ ∀ j ∈ x.ownBlock, j ∈ v.ownBlock ∨ L ≤ j := by
  rcases h with ⟨h0, rfl⟩ | ⟨h0, h1, h2⟩
  · exact ⟨hr h0, fun j hj => .inl (incV_own hj)⟩
  · exact ⟨h1, fun j hj => .inr (h2 j hj)⟩
theorem Apd.mk {w : World} {base L : Nat} {v x : Value} {ys : List α} (h : GRow T n enc w base x ys) {k : Nat} (hk : L ≤ k) (h2 : (slackB v = true ∧ x = incV v) ∨ (slackB v = false ∧ ∀ j ∈ x.ownBlock, k ≤ j)) : Apd T n enc base L v ys x w ∧ Apr T n enc base v ys w := by
  rcases h2 with ⟨h0, rfl⟩ | ⟨h0, h2⟩
  · exact ⟨.inl ⟨h0, rfl⟩, fun _ => h⟩
  · exact ⟨.inr ⟨h0, h, fun j hj => Nat.le_trans hk (h2 j hj)⟩, fun hs => by rw [h0] at hs; cases hs⟩

/-- Rows of different types lie apart. -/
theorem GRow.apart {β : Type} {T' : TypeId} {m : Nat} {enc' : β → List Value} {w : World} {base base' : Nat} {v v' : Value} {xs : List α} {ys : List β} (h : GRow T n enc w base v xs) (h' : GRow T' m enc' w base' v' ys) (hne : T ≠ T') : ∀ k ∈ v.ownBlock, k ∉ v'.ownBlock := by
  rcases h with ⟨rfl, -⟩ | ⟨g, cap, cur, rfl, -, hg, -⟩
  · simp [Value.ownBlock]
  · rcases h' with ⟨rfl, -⟩ | ⟨g', cap', cur', rfl, -, hg', -⟩
    · simp [Value.ownBlock]
    · intro k hk hk'
      simp [Value.ownBlock] at hk hk'
      subst hk
      subst hk'
      rw [hg] at hg'
      simp at hg'
      exact hne hg'.2

/-- APPEND of one struct: in place where there is slack, else in a new block. -/
theorem run_append_g2 {P : Program} (t ty : TypeId) (ht : P.underlying t = some (.slice T)) (i : TypeInfo) (z : Value) (hi : P.info? T = some i) (hz : i.zero = some z) (hzs : z.cells.size = n) (hsize : i.size = n) (hby : i.bytes ≤ 1000) (hn : ∀ x, (enc x).length = n) (hone : ∀ x, ∀ u ∈ enc x, u.oneCell' = true)
    (w : World) (base : Nat) (v : Value) (xs : List α) (x : α) (k : Nat) (hrow : GRow T n enc w base v xs) (hk : w.heap[k]? = some (.cells (enc x).toArray T (0, 0))) (hlen : xs.length ≤ 1000000) (hbase : base ≤ w.heap.size) :
    ∃ v' w', (Builtin.append_ #[t, t] ty #[v, .slice (some ⟨k, 0, none⟩) 1 1]).run P w = .ok v' w' ∧ GRow T n enc w' base v' (xs ++ [x]) ∧ Turn v.ownBlock.toList w w' ∧ ((slackB v = true ∧ v' = incV v) ∨ (slackB v = false ∧ ∀ j ∈ v'.ownBlock, w.heap.size ≤ j)) := by
  have hmax : maxLen = 9223372036854775807 := by simp [maxLen]
  have hl : (enc x).length = 1 * i.size := by rw [hsize, hn]; omega
  have hnews : ∀ j u, (enc x)[j]? = some u → w.cell? ((⟨k, 0, none⟩ : Addr).add j) = some u := fun j u hu => by
    rw [addr_add, cell_of hk]; simpa using hu
  rcases hrow with ⟨rfl, rfl⟩ | ⟨g, cap, cur, rfl, hb, hg, h1, h2, h3, h4⟩
  · have hr := run_append_nil (P := P) w t ty T i z ht hi hz ⟨k, 0, none⟩ 1 1 (enc x) hl hnews (by omega) (by omega) (by omega)
    have hge := grownCap_ge w 1 0 T
    have hcm := grownCap_le_maxLen w 1 0 T (by rw [hmax]; omega)
    refine ⟨_, _, hr, .inr ⟨w.heap.size, _, _, by simp, hbase, heap_new w.drew _, by simpa using hge, ?_, hcm, ?_⟩, ((Turn.refl _ _).drew).alloc _, .inr ⟨rfl, by simp [Value.ownBlock]⟩⟩
    · simp only [Array.size_append, List.size_toArray, size_zeroCells, hzs, hn]
      have : grownCap w 1 0 T * n = 1 * n + (grownCap w 1 0 T - 1) * n := by rw [← Nat.add_mul]; congr 1; omega
      omega
    · simp only [Array.toList_append, List.nil_append, List.length_singleton]
      rw [List.take_append_of_le_length (by simp [hn]), List.take_of_length_le (by simp [hn])]
      simp
  · have hfl : (xs.flatMap enc ++ enc x).length = (xs.length + 1) * n := by rw [List.length_append, gflat_len hn, hn, Nat.add_mul]; omega
    by_cases hroom : xs.length + 1 ≤ cap
    · have hfit : (xs.length + 1) * n ≤ cur.size := Nat.le_trans (Nat.mul_le_mul_right _ hroom) h2
      have hr := run_append_room (P := P) w t ty T i ht hi g xs.length cap cur hg ⟨k, 0, none⟩ 1 1 (enc x) hl hnews (hone x) hroom (by rw [hsize, hn]; rw [Nat.add_mul] at hfit; omega)
      rw [hsize] at hr
      refine ⟨_, _, hr, .inr ⟨g, cap, _, by simp, hb, setRow_heap w g cur _ T _ hg, by simpa using hroom, ?_, h3, ?_⟩, ⟨rfl, rfl, rfl, by simp, fun k _ hk => setRow_other w g k _ (fun e => hk (by simp [Value.ownBlock, e]))⟩, .inl ⟨decide_eq_true (by omega), rfl⟩⟩
      · simp [hn]
        rw [Nat.add_mul] at hfit
        have hcs : xs.length * n ≤ cur.size := by omega
        rw [Nat.min_eq_left hcs]
        omega
      · simp only [h4, List.append_assoc]
        rw [← List.append_assoc, List.take_append_of_le_length (by rw [hfl]; simp), List.take_of_length_le (by rw [hfl]; simp)]
        simp
    · have holds : ∀ j u, (xs.flatMap enc)[j]? = some u → w.cell? ((⟨g, 0, none⟩ : Addr).add j) = some u := by
        intro j u hu
        rw [addr_add, cell_of hg]
        have hj : j < xs.length * n := by have := (List.getElem?_eq_some_iff.1 hu).1; rwa [gflat_len hn] at this
        rw [← h4, List.getElem?_take_of_lt hj] at hu
        simpa using hu
      have hr := run_append_grow (P := P) w t ty T i z ht hi hz ⟨g, 0, none⟩ xs.length cap (xs.flatMap enc) (by rw [gflat_len hn, hsize]) holds ⟨k, 0, none⟩ 1 1 (enc x) hl hnews (by omega) (by omega) (growslice_fits (by omega) (by have : (xs.length + 1) * i.bytes ≤ 1000001 * 1000 := Nat.mul_le_mul (by omega) hby; omega))
      have hge := grownCap_ge w (xs.length + 1) cap T
      have hcm := grownCap_le_maxLen w (xs.length + 1) cap T (by rw [hmax]; omega)
      refine ⟨_, _, hr, .inr ⟨w.heap.size, _, _, by simp, hbase, heap_new w.drew _, by simpa using hge, ?_, hcm, ?_⟩, ((Turn.refl _ _).drew).alloc _, .inr ⟨decide_eq_false (by omega), by simp [Value.ownBlock]⟩⟩
      · simp only [Array.size_append, List.size_toArray, size_zeroCells, hzs, hn, gflat_len hn]
        have : grownCap w (xs.length + 1) cap T * n = (xs.length + 1) * n + (grownCap w (xs.length + 1) cap T - (xs.length + 1)) * n := by rw [← Nat.add_mul]; congr 1; omega
        rw [Nat.add_mul] at this
        omega
      · simp only [Array.toList_append]
        rw [List.take_append_of_le_length (by show (xs ++ [x]).length * n ≤ (xs.flatMap enc ++ enc x).length; rw [hfl]; simp), List.take_of_length_le (by show (xs.flatMap enc ++ enc x).length ≤ (xs ++ [x]).length * n; rw [hfl]; simp)]
        simp
end
end Go.Proofs.YtcficgpknokpbaaDoor
