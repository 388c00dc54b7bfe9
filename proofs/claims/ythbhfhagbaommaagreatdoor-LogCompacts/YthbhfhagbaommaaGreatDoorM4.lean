/- Row, Sgm, Sgn, Sga, Sgf, NShelf, NameM, SnV, SnB, Clone: texts merged. -/
import Derived.Test.YthbhfhagbaommaaGreatDoorM1
import Derived.Test.YthbhfhagbaommaaGreatDoorM3
import Derived.Test.YthbhfhagbaommaaGreatDoorM2
import Derived.Shelf.Strings.Builder1
import Derived.Shelf.Strings.Builder2
import Derived.Shelf.Small.Bits
import Derived.Shelf.Strings.BuilderF
import Derived.Shelf.Strconv.Atoi
import Derived.Shelf.Strconv.Itoa0
import Derived.Shelf.Strconv.Itoa1
import Derived.Shelf.LaysM
import Derived.Shelf.Strconv.Itoa2
import Derived.Shelf.Strconv.Itoa3
import Derived.Shelf.Strconv.AtoiErrFast
import Derived.Shelf.Strconv.ParseIntEmpty
import Derived.Shelf.Strconv.AtoiFail
import Derived.Shelf.Strconv.Clone
import Derived.Shelf.Strconv.SyntaxError
import Derived.Shelf.LaysC
import Derived.Shelf.Strconv.ToError
import Derived.Shelf.Strconv.Lower
import Derived.Shelf.Strconv.ParseUint10
import Derived.Shelf.Strconv.ParseUint10Empty
import Derived.Shelf.Strconv.ParseUint10Any
import Derived.Shelf.Strconv.ParseInt10
import Derived.Shelf.Strconv.AtoiLong
import Derived.Shelf.Strconv.AtoiInnerAll
import Derived.Shelf.Strconv.RangeError
import Derived.Shelf.Strconv.ToErrorRange
import Derived.Shelf.Strconv.AtoiAll
import Derived.Shelf.Strconv.ErrVarAll
import Derived.Shelf.Strconv.ParseUintEmpty
import Derived.Shelf.Strconv.ParseUint10b64
import Derived.Shelf.Strconv.ParseUint10b32
import Derived.Shelf.Strconv.ParseUint10b16
import Derived.Shelf.Strconv.ParseUint10b8
import Derived.Shelf.Strconv.ParseUint10At
import Derived.Shelf.Strconv.ParseInt10At64
import Derived.Shelf.Strconv.ParseInt10At32
import Derived.Shelf.Strconv.ParseInt10At16
import Derived.Shelf.Strconv.ParseInt10At8
import Derived.Shelf.Strconv.ParseInt10All
import Derived.Shelf.Strings.Prefix
import Derived.Shelf.Bits.Mul64
import Derived.Shelf.Strings.Repeat
import Derived.Ground.Names2Prog
import Derived.Shelf.Slices.SearchI
import Derived.Test.YthbhfhagbaommaaGreatDoorProg
import Derived.WalkKit
import Derived.Lib.AtoiAll
import Derived.Lib.ItoaNum
import Derived.Lib.TrimByte
import Derived.Lib.Strings
import Derived.Lib.ParseIntBTie
import Derived.Lib.ItoaLen
import Derived.Lib.ItoaMem
import Derived.Lib.Repeat
import Derived.LoopIn
/- Rows of structs, told by a list: append onto one; one cell set. No program. -/
namespace Go.Proofs.YthbhfhagbaommaaGreatDoor
open Go.RowKit
set_option linter.unusedSimpArgs false
set_option linter.unusedVariables false

section
variable {α : Type} {T : TypeId} {n : Nat} {enc : α → List Value}
/-- A slice of structs of n cells with a block of its own, from its beginning on; behind its capacity the block may go on. -/
def GRow (T : TypeId) (n : Nat) (enc : α → List Value) (w : World) (base : Nat) (sv : Value) (xs : List α) : Prop :=
  (sv = .slice none 0 0 ∧ xs = []) ∨
  ∃ g cap cur, sv = .slice (some ⟨g, 0, none⟩) xs.length cap ∧ base ≤ g ∧ w.heap[g]? = some (.cells cur T (0, 0)) ∧ xs.length ≤ cap ∧ cap * n ≤ cur.size ∧ cap ≤ maxLen ∧ cur.toList.take (xs.length * n) = xs.flatMap enc
theorem GRow.kept {w w' : World} {base : Nat} {sv : Value} {xs : List α} {S : List Nat} (h : GRow T n enc w base sv xs) (ht : Turn S w w') (hn : ∀ k ∈ sv.ownBlock, k ∉ S) : GRow T n enc w' base sv xs := by
  rcases h with h | ⟨g, cap, cur, rfl, hb, hg, r⟩
  · exact .inl h
  · exact .inr ⟨g, cap, cur, rfl, hb, ht.heap hg (hn g (by simp [Value.ownBlock])), r⟩
theorem GRow.still {w w' : World} {base : Nat} {sv : Value} {xs : List α} (h : GRow T n enc w base sv xs) (ht : Turn [] w w') : GRow T n enc w' base sv xs := h.kept ht (by simp)
theorem GRow.lt {w : World} {base : Nat} {sv : Value} {xs : List α} (h : GRow T n enc w base sv xs) : ∀ k ∈ sv.ownBlock, base ≤ k ∧ k < w.heap.size := by
  intro k hk
  rcases h with ⟨rfl, _⟩ | ⟨g, cap, cur, rfl, hb, hg, r⟩
  · simp [Value.ownBlock] at hk
  · simp [Value.ownBlock] at hk; subst hk; exact ⟨hb, lt_of_heap hg⟩
theorem GRow.form {w : World} {base : Nat} {sv : Value} {xs : List α} (h : GRow T n enc w base sv xs) : ∃ a c, sv = .slice a xs.length c ∧ xs.length ≤ c ∧ c ≤ maxLen := by
  rcases h with ⟨rfl, rfl⟩ | ⟨g, cap, cur, rfl, hb, hg, h1, h2, h3, h4⟩
  · exact ⟨_, _, rfl, Nat.le_refl _, Nat.zero_le _⟩
  · exact ⟨_, _, rfl, h1, h3⟩
theorem GRow.base_le {w : World} {base base' : Nat} {sv : Value} {xs : List α} (h : GRow T n enc w base sv xs) (hb : base' ≤ base) : GRow T n enc w base' sv xs := by
  rcases h with h | ⟨g, cap, cur, rfl, h1, r⟩
  · exact .inl h
  · exact .inr ⟨g, cap, cur, rfl, by omega, r⟩
theorem gflat_len (hn : ∀ x, (enc x).length = n) : ∀ xs : List α, (xs.flatMap enc).length = xs.length * n
  | [] => by simp
  | x :: xs => by rw [List.flatMap_cons, List.length_append, gflat_len hn xs, hn, List.length_cons, Nat.add_mul]; omega
theorem gflat_at (hn : ∀ x, (enc x).length = n) : ∀ (xs : List α) (j i : Nat) (h : j < xs.length), i < n → (xs.flatMap enc)[j * n + i]? = (enc xs[j])[i]?
  | [], _, _, h, _ => by simp at h
  | x :: xs, 0, i, h, hi => by
    rw [List.flatMap_cons, Nat.zero_mul, Nat.zero_add, List.getElem?_append_left (by rw [hn]; exact hi)]
    rfl
  | x :: xs, j + 1, i, h, hi => by
    rw [List.flatMap_cons, List.getElem?_append_right (by rw [hn, Nat.add_mul]; omega), hn, show (j + 1) * n + i - n = j * n + i by rw [Nat.add_mul]; omega]
    exact gflat_at hn xs j i (by simpa using h) hi
theorem gflat_set (hn : ∀ x, (enc x).length = n) : ∀ (xs : List α) (j i : Nat) (h : j < xs.length) (u : Value) (x' : α), i < n → enc x' = (enc xs[j]).set i u → (xs.flatMap enc).set (j * n + i) u = (xs.set j x').flatMap enc
  | [], _, _, h, _, _, _, _ => by simp at h
  | x :: xs, 0, i, h, u, x', hi, he => by
    rw [List.flatMap_cons, Nat.zero_mul, Nat.zero_add, List.set_append_left _ _ (by rw [hn]; exact hi)]
    simp only [List.getElem_cons_zero] at he
    simp [he]
  | x :: xs, j + 1, i, h, u, x', hi, he => by
    rw [List.flatMap_cons, List.set_append_right _ _ (by rw [hn, Nat.add_mul]; omega), hn, show (j + 1) * n + i - n = j * n + i by rw [Nat.add_mul]; omega, gflat_set hn xs j i (by simpa using h) u x' hi (by simpa using he)]
    simp
/-- The cells of an element. -/
theorem GRow.at {w : World} {base : Nat} {sv : Value} {xs : List α} (hn : ∀ x, (enc x).length = n) (h : GRow T n enc w base sv xs) {j : Nat} (hj : j < xs.length) :
    ∃ g cap, sv = .slice (some ⟨g, 0, none⟩) xs.length cap ∧ (∀ i, i < n → w.cell? ⟨g, j * n + i, none⟩ = (enc xs[j])[i]?) ∧ ∀ i, w.frozen? ⟨g, i, none⟩ = false := by
  rcases h with ⟨rfl, rfl⟩ | ⟨g, cap, cur, rfl, hb, hg, h1, h2, h3, h4⟩
  · simp at hj
  · refine ⟨g, cap, rfl, fun i hi => ?_, fun i => frozen_of hg i⟩
    rw [cell_of hg, ← gflat_at hn xs j i hj hi, ← h4, List.getElem?_take_of_lt]
    · simp
    · have : (j + 1) * n ≤ xs.length * n := Nat.mul_le_mul_right _ hj
      rw [Nat.add_mul] at this; omega
/-- One cell of an element, set. -/
theorem GRow.set {w : World} {base : Nat} {g c : Nat} {l : Nat} {xs : List α} (hn : ∀ x, (enc x).length = n) (h : GRow T n enc w base (.slice (some ⟨g, 0, none⟩) l c) xs) {j i : Nat} (hj : j < xs.length) (hi : i < n) {u : Value} {x' : α} (he : enc x' = (enc xs[j]).set i u) :
    GRow T n enc (w.setCell ⟨g, j * n + i, none⟩ u) base (.slice (some ⟨g, 0, none⟩) l c) (xs.set j x') := by
  rcases h with ⟨h, -⟩ | ⟨g', cap, cur, h, hb, hg, h1, h2, h3, h4⟩
  · simp at h
  · simp only [Value.slice.injEq, Option.some.injEq, Addr.mk.injEq] at h
    obtain ⟨⟨rfl, -, -⟩, rfl, rfl⟩ := h
    refine .inr ⟨g, c, _, by rw [List.length_set], hb, heap_set hg _ u, by rw [List.length_set]; exact h1, by rw [Array.size_setIfInBounds]; exact h2, h3, ?_⟩
    rw [List.length_set, Array.toList_setIfInBounds, List.take_set, h4]
    exact gflat_set hn xs j i hj u x' hi he

/-- APPEND of one struct. -/
theorem run_append_g {P : Program} (t ty : TypeId) (ht : P.underlying t = some (.slice T)) (i : TypeInfo) (z : Value) (hi : P.info? T = some i) (hz : i.zero = some z) (hzs : z.cells.size = n) (hsize : i.size = n) (hby : i.bytes ≤ 1000) (hn : ∀ x, (enc x).length = n) (hone : ∀ x, ∀ u ∈ enc x, u.oneCell' = true)
    (w : World) (base : Nat) (v : Value) (xs : List α) (x : α) (k : Nat) (hrow : GRow T n enc w base v xs) (hk : w.heap[k]? = some (.cells (enc x).toArray T (0, 0))) (hlen : xs.length ≤ 1000000) (hbase : base ≤ w.heap.size) :
    ∃ v' w', (Builtin.append_ #[t, t] ty #[v, .slice (some ⟨k, 0, none⟩) 1 1]).run P w = .ok v' w' ∧ GRow T n enc w' base v' (xs ++ [x]) ∧ Turn v.ownBlock.toList w w' ∧ (∀ j ∈ v'.ownBlock, j ∈ v.ownBlock ∨ w.heap.size ≤ j) := by
  have hmax : maxLen = 9223372036854775807 := by simp [maxLen]
  have hl : (enc x).length = 1 * i.size := by rw [hsize, hn]; omega
  have hnews : ∀ j u, (enc x)[j]? = some u → w.cell? ((⟨k, 0, none⟩ : Addr).add j) = some u := fun j u hu => by
    rw [addr_add, cell_of hk]; simpa using hu
  rcases hrow with ⟨rfl, rfl⟩ | ⟨g, cap, cur, rfl, hb, hg, h1, h2, h3, h4⟩
  · have hr := run_append_nil (P := P) w t ty T i z ht hi hz ⟨k, 0, none⟩ 1 1 (enc x) hl hnews (by omega) (by omega) (by omega)
    have hge := grownCap_ge w 1 0 T
    have hcm := grownCap_le_maxLen w 1 0 T (by rw [hmax]; omega)
    refine ⟨_, _, hr, .inr ⟨w.heap.size, _, _, by simp, hbase, heap_new w.drew _, by simpa using hge, ?_, hcm, ?_⟩, ((Turn.refl _ _).drew).alloc _, by simp [Value.ownBlock]⟩
    · simp only [Array.size_append, List.size_toArray, size_zeroCells, hzs, hn]
      have : grownCap w 1 0 T * n = 1 * n + (grownCap w 1 0 T - 1) * n := by rw [← Nat.add_mul]; congr 1; omega
      omega
    · simp only [Array.toList_append, List.nil_append, List.length_singleton]
      rw [List.take_append_of_le_length (by simp [hn]), List.take_of_length_le (by simp [hn])]
      simp
  · have hfl : (xs.flatMap enc ++ enc x).length = (xs.length + 1) * n := by rw [List.length_append, gflat_len hn, hn, Nat.add_mul]; omega
    by_cases hroom : xs.length + 1 ≤ cap
    · have hfit : (xs.length + 1) * n ≤ cur.size := Nat.le_trans (Nat.mul_le_mul_right _ hroom) h2
      have hr := run_append_room (P := P) w t ty T i ht hi g xs.length cap cur hg ⟨k, 0, none⟩ 1 1 (enc x) hl hnews (hone x) hroom (by rw [hsize, hn]; rw [Nat.add_mul] at hfit; omega)
      rw [hsize] at hr
      refine ⟨_, _, hr, .inr ⟨g, cap, _, by simp, hb, setRow_heap w g cur _ T _ hg, by simpa using hroom, ?_, h3, ?_⟩, ⟨rfl, rfl, rfl, by simp, fun k _ hk => setRow_other w g k _ (fun e => hk (by simp [Value.ownBlock, e]))⟩, by simp [Value.ownBlock]⟩
      · simp [hn]
        rw [Nat.add_mul] at hfit
        have hcs : xs.length * n ≤ cur.size := by omega
        rw [Nat.min_eq_left hcs]
        omega
      · simp only [h4, List.append_assoc]
        rw [← List.append_assoc, List.take_append_of_le_length (by rw [hfl]; simp), List.take_of_length_le (by rw [hfl]; simp)]
        simp
    · have holds : ∀ j u, (xs.flatMap enc)[j]? = some u → w.cell? ((⟨g, 0, none⟩ : Addr).add j) = some u := by
        intro j u hu
        rw [addr_add, cell_of hg]
        have hj : j < xs.length * n := by have := (List.getElem?_eq_some_iff.1 hu).1; rwa [gflat_len hn] at this
        rw [← h4, List.getElem?_take_of_lt hj] at hu
        simpa using hu
      have hr := run_append_grow (P := P) w t ty T i z ht hi hz ⟨g, 0, none⟩ xs.length cap (xs.flatMap enc) (by rw [gflat_len hn, hsize]) holds ⟨k, 0, none⟩ 1 1 (enc x) hl hnews (by omega) (by omega) (growslice_fits (by omega) (by have : (xs.length + 1) * i.bytes ≤ 1000001 * 1000 := Nat.mul_le_mul (by omega) hby; omega))
      have hge := grownCap_ge w (xs.length + 1) cap T
      have hcm := grownCap_le_maxLen w (xs.length + 1) cap T (by rw [hmax]; omega)
      refine ⟨_, _, hr, .inr ⟨w.heap.size, _, _, by simp, hbase, heap_new w.drew _, by simpa using hge, ?_, hcm, ?_⟩, ((Turn.refl _ _).drew).alloc _, by simp [Value.ownBlock]⟩
      · simp only [Array.size_append, List.size_toArray, size_zeroCells, hzs, hn, gflat_len hn]
        have : grownCap w (xs.length + 1) cap T * n = (xs.length + 1) * n + (grownCap w (xs.length + 1) cap T - (xs.length + 1)) * n := by rw [← Nat.add_mul]; congr 1; omega
        rw [Nat.add_mul] at this
        omega
      · simp only [Array.toList_append]
        rw [List.take_append_of_le_length (by show (xs ++ [x]).length * n ≤ (xs.flatMap enc ++ enc x).length; rw [hfl]; simp), List.take_of_length_le (by show (xs.flatMap enc ++ enc x).length ≤ (xs ++ [x]).length * n; rw [hfl]; simp)]
        simp
end
end Go.Proofs.YthbhfhagbaommaaGreatDoor

/- A segment in memory; last, Next, Size, Latest, Batches, Base. -/
namespace Go.Proofs.YthbhfhagbaommaaGreatDoor.Sg
open Go.RowKit Go.Maps
set_option maxRecDepth 100000
set_option linter.unusedSimpArgs false
set_option linter.unusedVariables false
attribute [local go_sem] Oper.semAt_some

def plC (p : Pl) : List Value := [.int .i64 p.at, .int .i64 p.size, .int .i64 p.sum, .int .i64 p.fin, .int .i64 p.latest]
theorem plC_len : ∀ p, (plC p).length = 5 := fun _ => rfl
def plV (p : Pl) : Value := .agg (plC p).toArray
def noPl : Pl := ⟨0, 0, 0, 0, 0⟩
/-- A segment: its box, and the row of its places. -/
structure SegAt (w : World) (base d sb : Nat) (sv : Value) (file : ByteArray) (b0 : Int) (ps : List Pl) : Prop where
  box : w.heap[sb]? = some (.cells #[.pointer (some ⟨d, 0, none⟩), .string file, .int .i64 b0, sv] 96 (0, 0))
  row : GRow 120 5 plC w base sv ps
  low : base ≤ sb
def sfoot (sb : Nat) (sv : Value) : List Nat := sb :: sv.ownBlock.toList
section
variable {w w' : World} {base d sb : Nat} {sv : Value} {file : ByteArray} {b0 : Int} {ps : List Pl}
theorem SegAt.kept {S : List Nat} (h : SegAt w base d sb sv file b0 ps) (ht : Turn S w w') (hn : ∀ k ∈ sfoot sb sv, k ∉ S) : SegAt w' base d sb sv file b0 ps :=
  ⟨ht.heap h.box (hn sb (by simp [sfoot])), h.row.kept ht (fun k hk => hn k (by simp [sfoot]; exact .inr (by simpa using hk))), h.low⟩
theorem SegAt.still (h : SegAt w base d sb sv file b0 ps) (ht : Turn [] w w') : SegAt w' base d sb sv file b0 ps := h.kept ht (by simp)
theorem SegAt.lt (h : SegAt w base d sb sv file b0 ps) : ∀ k ∈ sfoot sb sv, base ≤ k ∧ k < w.heap.size := by
  intro k hk
  simp only [sfoot, List.mem_cons, Option.mem_toList] at hk
  rcases hk with rfl | hk
  · exact ⟨h.low, lt_of_heap h.box⟩
  · exact h.row.lt k hk
theorem SegAt.c0 (h : SegAt w base d sb sv file b0 ps) : w.cell? ⟨sb, 0, none⟩ = some (.pointer (some ⟨d, 0, none⟩)) := by rw [cell_of h.box]; rfl
theorem SegAt.c1 (h : SegAt w base d sb sv file b0 ps) : w.cell? ⟨sb, 1, none⟩ = some (.string file) := by rw [cell_of h.box]; rfl
theorem SegAt.c2 (h : SegAt w base d sb sv file b0 ps) : w.cell? ⟨sb, 2, none⟩ = some (.int .i64 b0) := by rw [cell_of h.box]; rfl
theorem SegAt.c3 (h : SegAt w base d sb sv file b0 ps) : w.cell? ⟨sb, 3, none⟩ = some sv := by rw [cell_of h.box]; rfl
theorem SegAt.fr (h : SegAt w base d sb sv file b0 ps) (i : Nat) : w.frozen? ⟨sb, i, none⟩ = false := frozen_of h.box i
end
theorem sizePl (w : World) : (sizeOf 120).run Tryz.prog w = .ok 5 w := by kernel_rfl
theorem aggPl (w : World) : (isAgg 120).run Tryz.prog w = .ok true w := by kernel_rfl
theorem load_pl {w : World} {a : Addr} {p : Pl} (h : ∀ i, i < 5 → w.cell? (a.add i) = (plC p)[i]?) : (loadVar 120 a).run Tryz.prog w = .ok (plV p) w := by
  have c0 : w.cell? (a.add 0) = some (.int .i64 p.at) := h 0 (by omega)
  have c1 : w.cell? (a.add 1) = some (.int .i64 p.size) := h 1 (by omega)
  have c2 : w.cell? (a.add 2) = some (.int .i64 p.sum) := h 2 (by omega)
  have c3 : w.cell? (a.add 3) = some (.int .i64 p.fin) := h 3 (by omega)
  have c4 : w.cell? (a.add 4) = some (.int .i64 p.latest) := h 4 (by omega)
  simp [loadVar, aggPl, sizePl, Result.andThen, loadCells, loadCellsFrom, plV, plC, c0, c1, c2, c3, c4]
theorem load_plBox {w : World} {Y : Nat} {p : Pl} (h : w.heap[Y]? = some (.cells (plC p).toArray 120 (0, 0))) : (loadVar 120 ⟨Y, 0, none⟩).run Tryz.prog w = .ok (plV p) w := by
  refine load_pl fun i hi => ?_
  rw [addr_add, cell_of h]
  simp
/-- The element of a row of places. -/
theorem grow_pl {w : World} {base : Nat} {sv : Value} {ps : List Pl} (h : GRow 120 5 plC w base sv ps) {j : Nat} (hj : j < ps.length) :
    ∃ g cap, sv = .slice (some ⟨g, 0, none⟩) ps.length cap ∧ (loadVar 120 ⟨g, j * 5, none⟩).run Tryz.prog w = .ok (plV ps[j]) w := by
  obtain ⟨g, cap, e, hc, _⟩ := h.at plC_len hj
  refine ⟨g, cap, e, load_pl fun i hi => ?_⟩
  have : (⟨g, j * 5, none⟩ : Addr).add i = ⟨g, j * 5 + i, none⟩ := by unfold Addr.add; split <;> simp_all
  rw [this]; exact hc i hi

def putPl (w : World) (X : Nat) (p : Pl) : World := ((((w.setCell ⟨X, 0, none⟩ (.int .i64 p.at)).setCell ⟨X, 1, none⟩ (.int .i64 p.size)).setCell ⟨X, 2, none⟩ (.int .i64 p.sum)).setCell ⟨X, 3, none⟩ (.int .i64 p.fin)).setCell ⟨X, 4, none⟩ (.int .i64 p.latest)
theorem put_pl {w : World} {X : Nat} {a0 a1 a2 a3 a4 : Value} (h : w.heap[X]? = some (.cells #[a0, a1, a2, a3, a4] 120 (0, 0))) (p : Pl) :
    (loadVar 120 ⟨X, 0, none⟩).run Tryz.prog (putPl w X p) = .ok (plV p) (putPl w X p) ∧ (putPl w X p).heap[X]? = some (.cells (plC p).toArray 120 (0, 0)) ∧ Turn [X] w (putPl w X p) := by
  have hy : (putPl w X p).heap[X]? = some (.cells (plC p).toArray 120 (0, 0)) := by
    have := heap_set (heap_set (heap_set (heap_set (heap_set h 0 (.int .i64 p.at)) 1 (.int .i64 p.size)) 2 (.int .i64 p.sum)) 3 (.int .i64 p.fin)) 4 (.int .i64 p.latest)
    simpa [putPl, plC] using this
  exact ⟨load_plBox hy, hy, (((((Turn.refl [X] w).setCell (.inl (by simp)) _).setCell (.inl (by simp)) _).setCell (.inl (by simp)) _).setCell (.inl (by simp)) _).setCell (.inl (by simp)) _⟩

set_option maxHeartbeats 2000000 in
theorem last_none (w : World) (base d sb : Nat) (sv : Value) (file : ByteArray) (b0 : Int) (h : SegAt w base d sb sv file b0 []) :
    Calls Tryz.prog 69 #[.pointer (some ⟨sb, 0, none⟩)] w fun e w' => e = .returned (.tuple #[plV noPl, .bool false]) ∧ Turn [] w w' := by
  obtain ⟨a, c, hsv, -, -⟩ := h.row.form
  subst hsv
  have c3 := h.c3
  simp only [List.length_nil] at c3
  have hlt := lt_of_heap h.box
  clear h
  go_enter Tryz.func69, Tryz.ntmps69
  go_wp2
  have hld : (loadVar 120 ⟨w.heap.size, 0, none⟩).run Tryz.prog (w.alloc (.cells #[.int .i64 0, .int .i64 0, .int .i64 0, .int .i64 0, .int .i64 0] 120)) = .ok (plV noPl) (w.alloc (.cells #[.int .i64 0, .int .i64 0, .int .i64 0, .int .i64 0, .int .i64 0] 120)) := load_plBox (p := noPl) (heap_new w _)
  refine bodyPost_ret (v := .tuple #[plV noPl, .bool false]) ?_ rfl ⟨rfl, (Turn.refl [] w).alloc _⟩
  simp [results, Tryz.results69, asAddr, hld, Result.andThen]
set_option maxHeartbeats 2000000 in
theorem last_some (w : World) (base d sb : Nat) (sv : Value) (file : ByteArray) (b0 : Int) (ps : List Pl) (p : Pl) (h : SegAt w base d sb sv file b0 (ps ++ [p])) (hl : ps.length ≤ 1000000) :
    Calls Tryz.prog 69 #[.pointer (some ⟨sb, 0, none⟩)] w fun e w' => e = .returned (.tuple #[plV p, .bool true]) ∧ Turn [] w w' := by
  obtain ⟨g, cap, hsv, hld⟩ := grow_pl h.row (j := ps.length) (by simp)
  subst hsv
  have c3 := h.c3
  simp only [List.length_append, List.length_singleton] at c3
  have hlt := lt_of_heap h.box
  have HS := hide h
  clear h hld
  go_enter Tryz.func69, Tryz.ntmps69
  go_wp2
  obtain ⟨wr, hwr⟩ : ∃ wr, wr = w.alloc (.cells #[.int .i64 0, .int .i64 0, .int .i64 0, .int .i64 0, .int .i64 0] 120) := ⟨_, rfl⟩
  rw [← hwr]
  have hX : wr.heap[w.heap.size]? = some (.cells #[.int .i64 0, .int .i64 0, .int .i64 0, .int .i64 0, .int .i64 0] 120 (0, 0)) := by rw [hwr]; exact heap_new w _
  have HT : Hid (Turn [] w wr) := by rw [hwr]; exact (Turn.refl [] w).alloc _
  have hXs : w.heap.size < wr.heap.size := lt_of_heap hX
  have HX := hide hX
  clear hwr hX c3
  refine wp_region_tail 12 (Turn []) (by kernel_rfl) (by kernel_rfl) (by kernel_rfl) (by kernel_rfl) (by kernel_rfl) (Nat.le_of_ble_eq_true rfl) rfl (Turn.refl _) (fun _ _ _ h k => h.same k) ?_
  apply Lo.runx 1 rfl rfl [] (by kernel_rfl) (Turn.refl _)
  apply Exists.intro; apply And.intro
  · intro u w1 hR hF
    clear hF
    refine ⟨rfl, fun a ha K hK => ?_⟩
    have e0 := ha 0
    conv at e0 => rhs; whnf
    clear ha
    go_simp
    refine hK _ ?_; rfl
  apply Lo.runx 2 rfl rfl [0] (by kernel_rfl) (Turn.refl _)
  apply Exists.intro; apply And.intro
  · intro u w1 hR hF
    obtain ⟨h0, -⟩ := hF
    refine ⟨rfl, fun a ha K hK => ?_⟩
    have e11 := (ha 11).trans h0
    clear ha h0
    go_simp
    refine hK _ ?_; rfl
  apply Lo.runx 3 rfl rfl [1] (by kernel_rfl) (Turn.refl _)
  apply Exists.intro; apply And.intro
  · intro u w1 hR hF
    obtain ⟨h1, -⟩ := hF
    refine ⟨rfl, fun a ha K hK => ?_⟩
    have e12 := (ha 12).trans h1
    clear ha h1
    go_simp
    refine hK _ ?_; rfl
  apply Lo.runx 4 rfl rfl [2] (by kernel_rfl) (Turn.refl _)
  apply Exists.intro; apply And.intro
  · intro u w1 hR hF
    obtain ⟨h2, -⟩ := hF
    refine ⟨rfl, fun a ha K hK => ?_⟩
    have e13 := (ha 13).trans h2
    clear ha h2
    have c3 := (HS.out.still (HT.out.same ((Turn.refl [] wr).drew.same hR))).c3
    simp only [List.length_append, List.length_singleton] at c3
    go_simp
    refine hK _ ?_; rfl
  apply Lo.runx 5 rfl rfl [] (by kernel_rfl) (Turn.refl _)
  apply Exists.intro; apply And.intro
  · intro u w1 hR hF
    clear hF
    refine ⟨rfl, fun a ha K hK => ?_⟩
    have e0 := ha 0
    conv at e0 => rhs; whnf
    clear ha
    go_simp
    refine hK _ ?_; rfl
  apply Lo.runx 6 rfl rfl [4] (by kernel_rfl) (Turn.refl _)
  apply Exists.intro; apply And.intro
  · intro u w1 hR hF
    obtain ⟨h4, -⟩ := hF
    refine ⟨rfl, fun a ha K hK => ?_⟩
    have e15 := (ha 15).trans h4
    clear ha h4
    go_simp
    refine hK _ ?_; rfl
  apply Lo.runx 7 rfl rfl [5] (by kernel_rfl) (Turn.refl _)
  apply Exists.intro; apply And.intro
  · intro u w1 hR hF
    obtain ⟨h5, -⟩ := hF
    refine ⟨rfl, fun a ha K hK => ?_⟩
    have e16 := (ha 16).trans h5
    clear ha h5
    go_simp
    refine hK _ ?_; rfl
  apply Lo.runx 8 rfl rfl [6] (by kernel_rfl) (Turn.refl _)
  apply Exists.intro; apply And.intro
  · intro u w1 hR hF
    obtain ⟨h6, -⟩ := hF
    refine ⟨rfl, fun a ha K hK => ?_⟩
    have e17 := (ha 17).trans h6
    clear ha h6
    have c3 := (HS.out.still (HT.out.same ((Turn.refl [] wr).drew.same hR))).c3
    simp only [List.length_append, List.length_singleton] at c3
    go_simp
    refine hK _ ?_; rfl
  apply Lo.runx 9 rfl rfl [7] (by kernel_rfl) (Turn.refl _)
  apply Exists.intro; apply And.intro
  · intro u w1 hR hF
    obtain ⟨h7, -⟩ := hF
    refine ⟨rfl, fun a ha K hK => ?_⟩
    have e18 := (ha 18).trans h7
    clear ha h7
    go_simp
    refine hK _ ?_; rfl
  refine Lo.runv 10 rfl rfl [8] (.int .i64 (ps.length : Int)) (by kernel_rfl) (fun u w1 hR hF => ?_) (Turn.refl _) ?_
  · obtain ⟨h8, -⟩ := hF
    refine ⟨rfl, fun a ha K hK => ?_⟩
    have e19 := (ha 19).trans h8
    clear ha h8
    go_simp
    refine hK _ ?_
    rw [IntWalk.i64_left, IntWalk.wrap64_in _ (by omega)]
  refine Lo.runv 11 rfl rfl [3, 9] (.pointer (some ⟨g, ps.length * 5, none⟩)) (by kernel_rfl) (fun u w1 hR hF => ?_) (Turn.refl _) ?_
  · obtain ⟨h3, h9, -⟩ := hF
    refine ⟨rfl, fun a ha K hK => ?_⟩
    have e14 := (ha 14).trans h3
    have e20 := (ha 20).trans h9
    clear ha h3 h9
    have h10 : (ps.length : Int) < ps.length + 1 := by omega
    go_simp
    refine hK _ ?_
    rfl
  refine Lo.runv 12 rfl rfl [10] (plV p) (by kernel_rfl) (fun u w1 hR hF => ?_) (Turn.refl _) ?_
  · obtain ⟨h10, -⟩ := hF
    refine ⟨rfl, fun a ha K hK => ?_⟩
    have e21 := (ha 21).trans h10
    clear ha h10
    have hc : ∀ i, i < 5 → w1.cell? ⟨g, ps.length * 5 + i, none⟩ = (plC p)[i]? := by
      obtain ⟨g', cap', e, hc, _⟩ := (HS.out.still (HT.out.same ((Turn.refl [] wr).drew.same hR))).row.at plC_len (j := ps.length) (by simp)
      simp at e
      obtain ⟨rfl, rfl⟩ := e
      simpa using hc
    have k0 : w1.cell? ⟨g, ps.length * 5, none⟩ = some (.int .i64 p.at) := hc 0 (by omega)
    have k1 : w1.cell? ⟨g, ps.length * 5 + 1, none⟩ = some (.int .i64 p.size) := hc 1 (by omega)
    have k2 : w1.cell? ⟨g, ps.length * 5 + 2, none⟩ = some (.int .i64 p.sum) := hc 2 (by omega)
    have k3 : w1.cell? ⟨g, ps.length * 5 + 3, none⟩ = some (.int .i64 p.fin) := hc 3 (by omega)
    have k4 : w1.cell? ⟨g, ps.length * 5 + 4, none⟩ = some (.int .i64 p.latest) := hc 4 (by omega)
    clear hc
    go_simp
    refine hK _ ?_
    rfl
  refine Lo.done [11] (fun u w1 hRd hSd hF => ?_)
  clear hSd
  obtain ⟨f11, -⟩ := hF
  have d11 : u 11 = _ := f11
  clear f11
  simp only [List.take_succ_cons, List.take_zero, List.drop_succ_cons, List.drop_zero, putFrom, Act.put, List.setIfInBounds_toArray, List.set_cons_succ, List.set_cons_zero, Nat.zero_add, Nat.reduceAdd, d11]
  have ht1 : Turn [] w w1 := HT.out.same ((Turn.refl [] wr).drew.same hRd)
  have hY := hRd.heap (show wr.drew.heap[w.heap.size]? = _ from HX.out) (by simp)
  have hXw := lt_of_heap hY
  have y0 : w1.cell? ⟨w.heap.size, 0, none⟩ = some (.int .i64 0) := by simpa using cell_of hY 0
  have y1 : w1.cell? ⟨w.heap.size, 1, none⟩ = some (.int .i64 0) := by simpa using cell_of hY 1
  have y2 : w1.cell? ⟨w.heap.size, 2, none⟩ = some (.int .i64 0) := by simpa using cell_of hY 2
  have y3 : w1.cell? ⟨w.heap.size, 3, none⟩ = some (.int .i64 0) := by simpa using cell_of hY 3
  have y4 : w1.cell? ⟨w.heap.size, 4, none⟩ = some (.int .i64 0) := by simpa using cell_of hY 4
  have q0 : w1.frozen? ⟨w.heap.size, 0, none⟩ = false := frozen_of hY 0
  have q1 : w1.frozen? ⟨w.heap.size, 1, none⟩ = false := frozen_of hY 1
  have q2 : w1.frozen? ⟨w.heap.size, 2, none⟩ = false := frozen_of hY 2
  have q3 : w1.frozen? ⟨w.heap.size, 3, none⟩ = false := frozen_of hY 3
  have q4 : w1.frozen? ⟨w.heap.size, 4, none⟩ = false := frozen_of hY 4
  have HY := hide hY
  have HT1 := hide ht1
  clear hY ht1 hRd hXs
  clear d11
  rw [show plV p = .agg #[.int .i64 p.at, .int .i64 p.size, .int .i64 p.sum, .int .i64 p.fin, .int .i64 p.latest] from rfl]
  go_wp2
  obtain ⟨hld, -, ht2⟩ := put_pl HY.out p
  unfold putPl at hld ht2
  refine bodyPost_ret (v := .tuple #[plV p, .bool true]) (by simp [results, Tryz.results69, asAddr, hld, Result.andThen]) rfl ⟨rfl, HT1.out.trans ht2 (fun k hk => .inr (by simp at hk; omega))⟩

/-- What last hands back. -/
def lastOf (ps : List Pl) : Pl := ps.getLast?.getD noPl
theorem last_any (w : World) (base d sb : Nat) (sv : Value) (file : ByteArray) (b0 : Int) (ps : List Pl) (h : SegAt w base d sb sv file b0 ps) (hl : ps.length ≤ 1000000) :
    Calls Tryz.prog 69 #[.pointer (some ⟨sb, 0, none⟩)] w fun e w' => e = .returned (.tuple #[plV (lastOf ps), .bool !ps.isEmpty]) ∧ Turn [] w w' := by
  rcases List.eq_nil_or_concat ps with rfl | ⟨qs, p, rfl⟩
  · exact last_none w base d sb sv file b0 h
  · rw [List.concat_eq_append] at h hl ⊢
    have := last_some w base d sb sv file b0 qs p h (by simp at hl; omega)
    have e1 : lastOf (qs ++ [p]) = p := by simp [lastOf]
    have e2 : (!(qs ++ [p]).isEmpty) = true := by simp
    rw [e1, e2]; exact this

/-- Next, Size, Latest of places. -/
def nextP (b0 : Int) (ps : List Pl) : Int := if ps.isEmpty then b0 else (lastOf ps).fin
def sizeP (ps : List Pl) : Nat := (lastOf ps).at + (lastOf ps).size
def latestP (ps : List Pl) : Int := if ps.isEmpty then -1 else (lastOf ps).latest
set_option maxHeartbeats 1000000 in
theorem next_any (w : World) (base d sb : Nat) (sv : Value) (file : ByteArray) (b0 : Int) (ps : List Pl) (h : SegAt w base d sb sv file b0 ps) (hl : ps.length ≤ 1000000) :
    Calls Tryz.prog 41 #[.pointer (some ⟨sb, 0, none⟩)] w fun e w' => e = .returned (.int .i64 (nextP b0 ps)) ∧ Turn [] w w' := by
  have HS := hide h
  have hlt := lt_of_heap h.box
  have hla := last_any w base d sb sv file b0 ps h hl
  unfold plV plC at hla
  cases hb : ps.isEmpty with
  | true =>
    have HN : Hid (nextP b0 ps = b0) := by show _ = _; simp [nextP, hb]
    rw [hb] at hla
    clear h hb
    go_enter Tryz.func41, Tryz.ntmps41
    go_wp2_with fail
    refine hla.mono ?_
    rintro e w1 ⟨rfl, ht1⟩
    have c2 := (HS.out.still ht1).c2
    have hlt1 := lt_of_heap (HS.out.still ht1).box
    have HT1 := hide ht1
    clear ht1 hla
    go_wp2
    go_ret
    exact ⟨ret_int HN.out.symm, HT1.out.alloc _⟩
  | false =>
    have HN : Hid (nextP b0 ps = (lastOf ps).fin) := by show _ = _; simp [nextP, hb]
    rw [hb] at hla
    clear h hb
    go_enter Tryz.func41, Tryz.ntmps41
    go_wp2_with fail
    refine hla.mono ?_
    rintro e w1 ⟨rfl, ht1⟩
    have HT1 := hide ht1
    clear ht1 hla
    go_wp2
    go_ret
    exact ⟨ret_int HN.out.symm, HT1.out.alloc _⟩
set_option maxHeartbeats 1000000 in
theorem latest_any (w : World) (base d sb : Nat) (sv : Value) (file : ByteArray) (b0 : Int) (ps : List Pl) (h : SegAt w base d sb sv file b0 ps) (hl : ps.length ≤ 1000000) :
    Calls Tryz.prog 61 #[.pointer (some ⟨sb, 0, none⟩)] w fun e w' => e = .returned (.int .i64 (latestP ps)) ∧ Turn [] w w' := by
  have HS := hide h
  have hlt := lt_of_heap h.box
  have hla := last_any w base d sb sv file b0 ps h hl
  unfold plV plC at hla
  cases hb : ps.isEmpty with
  | true =>
    have HN : Hid (latestP ps = -1) := by show _ = _; simp [latestP, hb]
    rw [hb] at hla
    clear h hb
    go_enter Tryz.func61, Tryz.ntmps61
    go_wp2_with fail
    refine hla.mono ?_
    rintro e w1 ⟨rfl, ht1⟩
    have HT1 := hide ht1
    clear ht1 hla
    go_wp2
    go_ret
    exact ⟨ret_int HN.out.symm, HT1.out.alloc _⟩
  | false =>
    have HN : Hid (latestP ps = (lastOf ps).latest) := by show _ = _; simp [latestP, hb]
    rw [hb] at hla
    clear h hb
    go_enter Tryz.func61, Tryz.ntmps61
    go_wp2_with fail
    refine hla.mono ?_
    rintro e w1 ⟨rfl, ht1⟩
    have HT1 := hide ht1
    clear ht1 hla
    go_wp2
    go_ret
    exact ⟨ret_int HN.out.symm, HT1.out.alloc _⟩
set_option maxHeartbeats 1000000 in
theorem size_any (w : World) (base d sb : Nat) (sv : Value) (file : ByteArray) (b0 : Int) (ps : List Pl) (h : SegAt w base d sb sv file b0 ps) (hl : ps.length ≤ 1000000) (hs : sizeP ps ≤ 1099511627776) :
    Calls Tryz.prog 51 #[.pointer (some ⟨sb, 0, none⟩)] w fun e w' => e = .returned (.int .i64 (sizeP ps)) ∧ Turn [] w w' := by
  have hla := last_any w base d sb sv file b0 ps h hl
  unfold plV plC at hla
  unfold sizeP at hs ⊢
  clear h
  go_enter Tryz.func51, Tryz.ntmps51
  go_wp2_with fail
  refine hla.mono ?_
  rintro e w1 ⟨rfl, ht1⟩
  have HT1 := hide ht1
  clear ht1 hla
  go_wp2
  go_ret
  exact ⟨ret_int (by omega), HT1.out.alloc _⟩
theorem baseOf_any (w : World) (base d sb : Nat) (sv : Value) (file : ByteArray) (b0 : Int) (ps : List Pl) (h : SegAt w base d sb sv file b0 ps) :
    Calls Tryz.prog 22 #[.pointer (some ⟨sb, 0, none⟩)] w fun e w' => e = .returned (.int .i64 b0) ∧ w = w' := by
  have c2 := h.c2
  clear h
  go_enter Tryz.func22, Tryz.ntmps22
  go_wp2
  go_ret
  exact ⟨rfl, rfl⟩

/-! What the numbers of batches' places are. -/
theorem lastOf_pls (xs : List Bt.Bat) (x : Bt.Bat) : lastOf (pls 0 (-1) (xs ++ [x])) = ⟨(flat xs).length, (Bt.encB x).length, Cr.sum (Bt.encB x), x.fin, latOf (-1) (xs ++ [x])⟩ := by
  unfold lastOf
  rw [pls_snoc, List.getLast?_concat, Nat.zero_add, latOf_snoc]
  rfl
theorem pls_empty (xs : List Bt.Bat) : (pls 0 (-1) xs).isEmpty = xs.isEmpty := by cases xs <;> rfl
theorem nextP_pls (b0 : Int) (xs : List Bt.Bat) : nextP b0 (pls 0 (-1) xs) = nextOf b0 xs := by
  rcases List.eq_nil_or_concat xs with rfl | ⟨ys, x, rfl⟩
  · rfl
  · rw [List.concat_eq_append]; unfold nextP; rw [pls_empty, lastOf_pls, nextOf_snoc]; simp
theorem sizeP_pls (xs : List Bt.Bat) : sizeP (pls 0 (-1) xs) = (flat xs).length := by
  rcases List.eq_nil_or_concat xs with rfl | ⟨ys, x, rfl⟩
  · rfl
  · rw [List.concat_eq_append]; unfold sizeP; rw [lastOf_pls, flat_append, List.length_append, flat_one]
theorem latestP_pls (xs : List Bt.Bat) : latestP (pls 0 (-1) xs) = latOf (-1) xs := by
  rcases List.eq_nil_or_concat xs with rfl | ⟨ys, x, rfl⟩
  · rfl
  · rw [List.concat_eq_append]; unfold latestP; rw [pls_empty, lastOf_pls]; simp
end Go.Proofs.YthbhfhagbaommaaGreatDoor.Sg

/- (*segment.Segment).note: one more place. -/
namespace Go.Proofs.YthbhfhagbaommaaGreatDoor.Sg
open Go.RowKit Go.Maps
set_option maxRecDepth 100000
set_option linter.unusedSimpArgs false
set_option linter.unusedVariables false
attribute [local go_sem] Oper.semAt_some

theorem Tryz.infoPl : (Tryz.prog.info? 120).map (fun i => (i.zero, i.size, i.bytes)) = some (some (.agg #[.int .i64 0, .int .i64 0, .int .i64 0, .int .i64 0, .int .i64 0]), 5, 40) := by kernel_rfl
theorem app_pl (w : World) (base : Nat) (v : Value) (xs : List Pl) (x : Pl) (k : Nat) (hrow : GRow 120 5 plC w base v xs) (hk : w.heap[k]? = some (.cells (plC x).toArray 120 (0, 0))) (hlen : xs.length ≤ 1000000) (hbase : base ≤ w.heap.size) :
    ∃ v' w', (Builtin.append_ #[94, 94] 94 #[v, .slice (some ⟨k, 0, none⟩) 1 1]).run Tryz.prog w = .ok v' w' ∧ GRow 120 5 plC w' base v' (xs ++ [x]) ∧ Turn v.ownBlock.toList w w' ∧ (∀ j ∈ v'.ownBlock, j ∈ v.ownBlock ∨ w.heap.size ≤ j) := by
  obtain ⟨i, hi, e⟩ := Option.map_eq_some_iff.1 Tryz.infoPl
  simp only [Prod.mk.injEq] at e
  exact run_append_g (P := Tryz.prog) 94 94 Tryz.underlying94 i _ hi e.1 (by rfl) e.2.1 (by omega) plC_len (fun x u hu => by simp [plC] at hu; rcases hu with rfl | rfl | rfl | rfl | rfl <;> rfl) w base v xs x k hrow hk hlen hbase
theorem lat_snoc (l : Int) (rs : List Bt.Rec) {k : Nat} (hk : k < rs.length) : lat l (rs.take (k + 1)) = max (lat l (rs.take k)) rs[k].time := by
  unfold lat; rw [List.take_succ_eq_append_getElem hk, List.foldl_append]; rfl
theorem max_if (a b : Int) : (if a < b then b else a) = max a b := by split <;> omega

set_option maxHeartbeats 4000000 in
theorem note_any (w : World) (base d sb : Nat) (sv : Value) (file : ByteArray) (b0 : Int) (ps : List Pl) (h : SegAt w base d sb sv file b0 ps) (hl : ps.length ≤ 999999) (hz : sizeP ps ≤ 1099511627776)
    (vb : Value) (bs : List UInt8) (hb : ∀ Z, Turn (sfoot sb sv) w Z → BytesAt Z vb bs) (hbl : bs.length ≤ 1099511627776) (xb xf : Int) (va : Value) (rs : List Bt.Rec) (hr : RecsAt w va rs) :
    Calls Tryz.prog 86 #[.pointer (some ⟨sb, 0, none⟩), .agg #[.int .i64 xb, .int .i64 xf, va], vb] w fun e w' => e = .returned (.tuple #[]) ∧
      ∃ sv', SegAt w' base d sb sv' file b0 (ps ++ [⟨sizeP ps, bs.length, Cr.sum bs, xf, lat (latestP ps) rs⟩]) ∧ Turn (sfoot sb sv) w w' ∧ ∀ k ∈ sfoot sb sv', k ∈ sfoot sb sv ∨ w.heap.size ≤ k := by
  obtain ⟨ra, rc, rfl, hrlc, hrcm, hrn0, hrp⟩ := hr.form
  have hmx : maxLen = 9223372036854775807 := by simp [maxLen]
  rw [hmx] at hrcm
  obtain ⟨ba, bc, rfl, hblc, hbcm, -⟩ := (hb w (Turn.refl _ _)).form
  rw [hmx] at hbcm
  have HR := hide hr
  have HS := hide h
  have HB := hide hb
  have hsb := lt_of_heap h.box
  clear h hr hb hrn0
  go_enter Tryz.func86, Tryz.ntmps86
  go_wp2_with fail
  have ht0 : Turn [] w (w.alloc (.cells #[.int .i64 xb, .int .i64 xf, .slice ra rs.length rc] 70)) := (Turn.refl [] w).alloc _
  refine (latest_any _ base d sb sv file b0 ps (HS.out.still ht0) (by omega)).mono ?_
  rintro e w1 ⟨rfl, ht1⟩
  have hbx := ht1.heap (heap_new w (.cells #[.int .i64 xb, .int .i64 xf, .slice ra rs.length rc] 70)) (by simp)
  have HBX := hide hbx
  have HT1 := hide (ht0.same ht1)
  have hsz1 := lt_of_heap hbx
  have k2 : w1.cell? ⟨w.heap.size, 2, none⟩ = some (.slice ra rs.length rc) := by simpa using cell_of hbx 2
  clear ht0 ht1 hbx
  go_wp2
  go_loopw [6, 14] (fun t i wr => ∃ k : Nat, k ≤ rs.length ∧ i = .int .i64 k ∧ t = .int .i64 (lat (latestP ps) (rs.take k)) ∧ Turn [] w1 wr) (fun _ i _ => rs.length - (intOf i).toNat)
  case atStart => exact ⟨0, Nat.zero_le _, rfl, rfl, Turn.refl _ _⟩
  case round =>
    obtain ⟨k, hk, rfl, rfl, ht⟩ := hrel
    have HTW := hide ht
    clear ht
    by_cases hlt : k < rs.length
    · obtain ⟨p, rfl⟩ := hrp k hlt
      obtain ⟨g0, g1, g2, g3, g4, g5⟩ := (HR.out.still (HT1.out.same HTW.out)).six hlt
      obtain ⟨r, hre⟩ : ∃ r, r = rs[k] := ⟨_, rfl⟩
      have HLS := hide (lat_snoc (latestP ps) rs hlt)
      rw [← hre] at g0 g1 g2 g3 g4 g5 HLS
      clear hre
      go_wp2
      all_goals refine ⟨⟨k + 1, by omega, by go_num, by first | (rw [HLS.out]; done) | (rw [HLS.out]; exact congrArg _ (max_if _ _)), HTW.out.alloc _⟩, ?_⟩
      all_goals (simp only [intOf]; omega)
    · obtain rfl : k = rs.length := by omega
      rw [List.take_length]
      obtain ⟨lt, hlt'⟩ : ∃ lt, lt = lat (latestP ps) rs := ⟨_, rfl⟩
      rw [← hlt']
      obtain ⟨xa, xc, hsv, hxl, hxm⟩ := HS.out.row.form
      subst hsv
      rw [hmx] at hxm
      have HL : Hid (lt = lat (latestP ps) rs) := hlt'
      have HT2 := hide (HT1.out.same HTW.out)
      have HBX2 := hide (HTW.out.heap HBX.out (by simp))
      have hown : sb ∉ (Value.slice xa ps.length xc).ownBlock := fun hk => by
        rcases HS.out.row with ⟨e, -⟩ | ⟨g, cap, cur, e, hb', hg, -⟩
        · rw [e] at hk; simp [Value.ownBlock] at hk
        · rw [e] at hk
          simp [Value.ownBlock] at hk
          subst hk
          have := HS.out.box
          rw [hg] at this
          simp at this
      have hcells : ∀ Z, Turn (Value.slice xa ps.length xc).ownBlock.toList wr Z → (Z.heap[sb]? = some (.cells #[.pointer (some ⟨d, 0, none⟩), .string file, .int .i64 b0, .slice xa ps.length xc] 96 (0, 0)) ∧ Z.cell? ⟨sb, 3, none⟩ = some (.slice xa ps.length xc)) ∧
          (Z.heap[w.heap.size]? = some (.cells #[.int .i64 xb, .int .i64 xf, .slice ra rs.length rc] 70 (0, 0)) ∧ Z.cell? ⟨w.heap.size, 1, none⟩ = some (.int .i64 xf)) ∧ BytesAt Z (.slice ba bs.length bc) bs ∧ (sb < Z.heap.size ∧ w.heap.size < Z.heap.size) ∧ Turn (sfoot sb (.slice xa ps.length xc)) w Z := by
        intro Z hZ
        have h1 := hZ.heap (HS.out.still HT2.out).box (by simpa using hown)
        have h2 := hZ.heap HBX2.out (fun hm => by have := (HS.out.row.lt _ (by simpa using hm)).2; omega)
        have ht : Turn (sfoot sb (.slice xa ps.length xc)) w Z := (HT2.out.mono (by simp)).trans hZ (fun k hk => .inl (by simp [sfoot]; exact .inr (by simpa using hk)))
        exact ⟨⟨h1, by rw [cell_of h1]; rfl⟩, ⟨h2, by rw [cell_of h2]; rfl⟩, HB.out Z ht, ⟨lt_of_heap h1, lt_of_heap h2⟩, ht⟩
      have HC := hide hcells
      have HOWN := hide hown
      obtain ⟨np, hnp⟩ : ∃ np : Pl, np = ⟨sizeP ps, bs.length, Cr.sum bs, xf, lt⟩ := ⟨_, rfl⟩
      have HNP := hide hnp
      clear hcells hown hlt' hnp hlt k2 hsz1
      go_wp2
      refine wp_region_loud 19 (Turn (Value.slice xa ps.length xc).ownBlock.toList) (Turn []) (fun k w => match k with | 0 => (fun w => SegAt w base d sb (.slice xa ps.length xc) file b0 ps) w | 1 => (fun w => SegAt w base d sb (.slice xa ps.length xc) file b0 ps) w | _ => (fun w => w.heap[sb]? = some (.cells #[.pointer (some ⟨d, 0, none⟩), .string file, .int .i64 b0, .slice xa ps.length xc] 96 (0, 0))) w) [6, 16] (by kernel_rfl) (by kernel_rfl) (by kernel_rfl) (by kernel_rfl) (by kernel_rfl) (by kernel_rfl) (Nat.le_of_ble_eq_true rfl) (by decide) rfl (Turn.refl _) (fun _ _ _ h k => h.same k) (fun _ _ h => h.mono (by simp)) ?_ ?_ ?_
      · intro k a b hk hR
        match k, hk with
        | 0, hk =>
          have hk := (show (fun w => SegAt w base d sb (.slice xa ps.length xc) file b0 ps) a from hk)
          dsimp only at hk
          show (fun w => SegAt w base d sb (.slice xa ps.length xc) file b0 ps) b
          dsimp only
          first | exact hk.still hR | exact hR.heap hk (by simp)
        | 1, hk =>
          have hk := (show (fun w => SegAt w base d sb (.slice xa ps.length xc) file b0 ps) a from hk)
          dsimp only at hk
          show (fun w => SegAt w base d sb (.slice xa ps.length xc) file b0 ps) b
          dsimp only
          first | exact hk.still hR | exact hR.heap hk (by simp)
        | _ + 2, hk =>
          have hk := (show (fun w => w.heap[sb]? = some (.cells #[.pointer (some ⟨d, 0, none⟩), .string file, .int .i64 b0, .slice xa ps.length xc] 96 (0, 0))) a from hk)
          dsimp only at hk
          show (fun w => w.heap[sb]? = some (.cells #[.pointer (some ⟨d, 0, none⟩), .string file, .int .i64 b0, .slice xa ps.length xc] 96 (0, 0))) b
          dsimp only
          first | exact hk.still hR | exact hR.heap hk (by simp)
      · show (fun w => SegAt w base d sb (.slice xa ps.length xc) file b0 ps) _
        dsimp only
        exact (HS.out.still HT2.out).still ((Turn.refl [] _).drew)
      apply Lo.runx 1 rfl rfl [] (by kernel_rfl) (Turn.refl _)
      apply Exists.intro; apply And.intro
      · intro u w1 hR hF
        clear hF
        refine ⟨rfl, fun a ha K hK => ?_⟩
        have e0 := ha 0
        conv at e0 => rhs; whnf
        clear ha
        go_simp
        refine hK _ ?_; rfl
      apply Lo.runx 2 rfl rfl [] (by kernel_rfl) (Turn.refl _)
      apply Exists.intro; apply And.intro
      · intro u w1 hR hF
        clear hF
        refine ⟨rfl, fun a ha K hK => ?_⟩
        have e0 := ha 0
        conv at e0 => rhs; whnf
        clear ha
        go_simp
        refine hK _ ?_; rfl
      apply Lo.runx 3 rfl rfl [1] (by kernel_rfl) (Turn.refl _)
      apply Exists.intro; apply And.intro
      · intro u w1 hR hF
        obtain ⟨h1, -⟩ := hF
        refine ⟨rfl, fun a ha K hK => ?_⟩
        have e24 := (ha 24).trans h1
        clear ha h1
        go_simp
        refine hK _ ?_; rfl
      apply Lo.runx 4 rfl rfl [2] (by kernel_rfl) (Turn.refl _)
      apply Exists.intro; apply And.intro
      · intro u w1 hR hF
        obtain ⟨h2, -⟩ := hF
        refine ⟨rfl, fun a ha K hK => ?_⟩
        have e25 := (ha 25).trans h2
        clear ha h2
        go_simp
        refine hK _ ?_; rfl
      apply Lo.runx 5 rfl rfl [3] (by kernel_rfl) (Turn.refl _)
      apply Exists.intro; apply And.intro
      · intro u w1 hR hF
        obtain ⟨h3, -⟩ := hF
        refine ⟨rfl, fun a ha K hK => ?_⟩
        have e26 := (ha 26).trans h3
        clear ha h3
        obtain ⟨⟨-, c3⟩, -, -, ⟨z1, z2⟩, -⟩ := HC.out w1 (((Turn.refl _ _).drew).same hR)
        go_simp
        refine hK _ ?_; rfl
      apply Lo.runx 6 rfl rfl [] (by kernel_rfl) (Turn.refl _)
      apply Exists.intro; apply And.intro
      · intro u w1 hR hF
        clear hF
        refine ⟨rfl, fun a ha K hK => ?_⟩
        have e0 := ha 0
        conv at e0 => rhs; whnf
        clear ha
        go_simp
        refine hK _ ?_; rfl
      refine Lo.noisy 7 rfl 0 rfl [5] (fun y _ => y = .int .i64 (sizeP ps : Nat)) (by kernel_rfl) (fun x w w' h hR => ?_) (.inr (fun x w w' h hR => by exact h)) (fun u w1 hR hS hF => ?_) ?_
      · exact h
      · obtain ⟨h5, -⟩ := hF
        have hS := (show (fun w => SegAt w base d sb (.slice xa ps.length xc) file b0 ps) w1 from hS)
        dsimp only at hS
        refine ⟨rfl, fun a ha K hK => ?_⟩
        have e28 := (ha 28).trans h5
        clear ha h5
        go_simp
        refine (size_any _ base d sb _ file b0 ps hS (by omega) hz).mono ?_
        rintro e w2 ⟨rfl, ht2⟩
        exact hK _ _ rfl (ht2.mono (by simp)) (hS.still ht2)
      apply Lo.runx 8 rfl rfl [] (by kernel_rfl) (Turn.refl _)
      apply Exists.intro; apply And.intro
      · intro u w1 hR hF
        clear hF
        refine ⟨rfl, fun a ha K hK => ?_⟩
        have e2 := ha 2
        conv at e2 => rhs; whnf
        clear ha
        go_simp
        refine hK _ ?_; rfl
      apply Lo.runx 9 rfl rfl [7] (by kernel_rfl) (Turn.refl _)
      apply Exists.intro; apply And.intro
      · intro u w1 hR hF
        obtain ⟨h7, -⟩ := hF
        refine ⟨rfl, fun a ha K hK => ?_⟩
        have e30 := (ha 30).trans h7
        clear ha h7
        go_simp
        refine hK _ ?_; rfl
      apply Lo.runx 10 rfl rfl [] (by kernel_rfl) (Turn.refl _)
      apply Exists.intro; apply And.intro
      · intro u w1 hR hF
        clear hF
        refine ⟨rfl, fun a ha K hK => ?_⟩
        have e2 := ha 2
        conv at e2 => rhs; whnf
        clear ha
        go_simp
        refine hK _ ?_; rfl
      refine Lo.run 11 rfl rfl [9] (fun y _ => y = .int .i64 (Cr.sum bs : Nat)) (by kernel_rfl) (fun x w w' h hR => ?_) (fun _ _ h => h.mono (by simp)) (fun u w1 hR hF => ?_) ?_
      · exact h
      · obtain ⟨h9, -⟩ := hF
        refine ⟨rfl, fun a ha K hK => ?_⟩
        have e32 := (ha 32).trans h9
        clear ha h9
        have hby := (HC.out w1 (((Turn.refl _ _).drew).same hR)).2.2.1
        go_simp
        refine (sum_any _ _ bs hby.slice (by omega)).mono ?_
        rintro e w2 ⟨rfl, rfl⟩
        exact hK _ _ rfl (Turn.refl _ _)
      apply Lo.runx 12 rfl rfl [] (by kernel_rfl) (Turn.refl _)
      apply Exists.intro; apply And.intro
      · intro u w1 hR hF
        clear hF
        refine ⟨rfl, fun a ha K hK => ?_⟩
        have e4 := ha 4
        conv at e4 => rhs; whnf
        clear ha
        go_simp
        refine hK _ ?_; rfl
      apply Lo.runx 13 rfl rfl [11] (by kernel_rfl) (Turn.refl _)
      apply Exists.intro; apply And.intro
      · intro u w1 hR hF
        obtain ⟨h11, -⟩ := hF
        refine ⟨rfl, fun a ha K hK => ?_⟩
        have e34 := (ha 34).trans h11
        clear ha h11
        obtain ⟨-, ⟨-, cx⟩, -, ⟨z1, z2⟩, -⟩ := HC.out w1 (((Turn.refl _ _).drew).same hR)
        go_simp
        refine hK _ ?_; rfl
      apply Lo.runx 14 rfl rfl [] (by kernel_rfl) (Turn.refl _)
      apply Exists.intro; apply And.intro
      · intro u w1 hR hF
        clear hF
        refine ⟨rfl, fun a ha K hK => ?_⟩
        have e6 := ha 6
        conv at e6 => rhs; whnf
        clear ha
        go_simp
        refine hK _ ?_; rfl
      refine Lo.runv 15 rfl rfl [6, 8, 10, 12, 13] (plV np) (by kernel_rfl) (fun u w1 hR hF => ?_) (Turn.refl _) ?_
      · obtain ⟨h6, h8, h10, h12, h13, -⟩ := hF
        refine ⟨rfl, fun a ha K hK => ?_⟩
        have e29 : a.tmps.getD 29 undef = u 6 := ha 29
        have e31 := (ha 31).trans h8
        have e33 : a.tmps.getD 33 undef = u 10 := ha 33
        have e35 := (ha 35).trans h12
        have e36 := (ha 36).trans h13
        have h6 := (show (fun y _ => y = .int .i64 (sizeP ps : Nat)) (u 6) w1 from h6)
        dsimp only at h6
        have h10 := (show (fun y _ => y = .int .i64 (Cr.sum bs : Nat)) (u 10) w1 from h10)
        dsimp only at h10
        clear ha h8 h12 h13
        rw [h6] at e29
        rw [h10] at e33
        rw [Array.getD_eq_getD_getElem?] at e29 e31 e33 e35 e36
        go_simp
        refine hK _ ?_
        rw [HNP.out]; rfl
      refine Lo.run 16 rfl rfl [14] (fun x w' => ∃ k, x = .slice (some ⟨k, 0, none⟩) 1 1 ∧ w'.heap[k]? = some (.cells (plC np).toArray 120 (0, 0)) ∧ wr.heap.size ≤ k) (by kernel_rfl) (fun x w w' h hR => ?_) (fun _ _ h => h.mono (by simp)) (fun u w1 hR hF => ?_) ?_
      · obtain ⟨k, h1, h2, h3⟩ := h; exact ⟨k, h1, hR.heap h2 (fun hm => by have := ((HS.out.still HT2.out).row.lt k (by simpa using hm)).2; omega), h3⟩
      · obtain ⟨h14, -⟩ := hF
        refine ⟨rfl, fun a ha K hK => ?_⟩
        have e37 := (ha 37).trans h14
        clear ha h14
        have e37' : a.tmps[37]?.getD undef = .agg #[.int .i64 np.at, .int .i64 np.size, .int .i64 np.sum, .int .i64 np.fin, .int .i64 np.latest] := by rw [← Array.getD_eq_getD_getElem?, e37]; rfl
        go_simp
        exact hK _ _ ⟨w1.heap.size, rfl, heap_new w1 _, hR.size⟩ ((Turn.refl [] _).alloc _)
      refine Lo.noisy 17 rfl 1 rfl [4, 15] (fun x w' => GRow 120 5 plC w' base x (ps ++ [np]) ∧ ∀ j ∈ x.ownBlock, j ∈ (Value.slice xa ps.length xc).ownBlock ∨ wr.heap.size ≤ j) (by kernel_rfl) (fun x w w' h hR => ?_) (.inl (by kernel_rfl)) (fun u w1 hR hS hF => ?_) ?_
      · exact ⟨h.1.still hR, h.2⟩
      · obtain ⟨h4, h15, -⟩ := hF
        have hS := (show (fun w => SegAt w base d sb (.slice xa ps.length xc) file b0 ps) w1 from hS)
        dsimp only at hS
        refine ⟨rfl, fun a ha K hK => ?_⟩
        have e27 := (ha 27).trans h4
        have e38 : a.tmps.getD 38 undef = u 15 := ha 38
        have h15 := (show (fun x w' => ∃ k, x = .slice (some ⟨k, 0, none⟩) 1 1 ∧ w'.heap[k]? = some (.cells (plC np).toArray 120 (0, 0)) ∧ wr.heap.size ≤ k) (u 15) w1 from h15)
        dsimp only at h15
        clear ha h4
        obtain ⟨kk, hx15, hc15, hk15⟩ := h15
        rw [hx15] at e38
        obtain ⟨v7, w7, hr7, hrow7, ht7, hown7⟩ := app_pl w1 base (.slice xa ps.length xc) ps np kk hS.row hc15 (by omega) (by have := hS.low; have := lt_of_heap hS.box; omega)
        have hsz7 := hR.size
        have hbx7 := ht7.heap hS.box (by simpa using HOWN.out)
        clear hx15 hc15
        exact oper_append rfl e27 e38 hr7 (hK _ _ ⟨hrow7, fun j hj => (hown7 j hj).elim .inl (fun h => .inr (Nat.le_trans hsz7 h))⟩ ht7 hbx7)
      apply Lo.runx 18 rfl rfl [0] (by kernel_rfl) (Turn.refl _)
      apply Exists.intro; apply And.intro
      · intro u w1 hR hF
        obtain ⟨h0, -⟩ := hF
        refine ⟨rfl, fun a ha K hK => ?_⟩
        have e23 := (ha 23).trans h0
        clear ha h0
        go_simp
        refine hK _ ?_; rfl
      apply Lo.runx 19 rfl rfl [17] (by kernel_rfl) (Turn.refl _)
      apply Exists.intro; apply And.intro
      · intro u w1 hR hF
        obtain ⟨h17, -⟩ := hF
        refine ⟨rfl, fun a ha K hK => ?_⟩
        have e40 := (ha 40).trans h17
        clear ha h17
        go_simp
        refine hK _ ?_; rfl
      refine Lo.done [16, 18] (fun u w1 hRd hSd hF => ?_)
      have hSd := (show (fun w => w.heap[sb]? = some (.cells #[.pointer (some ⟨d, 0, none⟩), .string file, .int .i64 b0, .slice xa ps.length xc] 96 (0, 0))) w1 from hSd)
      dsimp only at hSd
      obtain ⟨f16, f18, -⟩ := hF
      have d16 := (show (fun x w' => GRow 120 5 plC w' base x (ps ++ [np]) ∧ ∀ j ∈ x.ownBlock, j ∈ (Value.slice xa ps.length xc).ownBlock ∨ wr.heap.size ≤ j) (u 16) w1 from f16)
      dsimp only at d16
      have d18 : u 18 = _ := f18
      clear f16 f18
      simp only [List.take_succ_cons, List.take_zero, List.drop_succ_cons, List.drop_zero, putFrom, Act.put, List.setIfInBounds_toArray, List.set_cons_succ, List.set_cons_zero, Nat.zero_add, Nat.reduceAdd, d18]
      obtain ⟨hrow7, hown7⟩ := d16
      obtain ⟨ya, yc, hyv, -, -⟩ := hrow7.form
      rw [hyv] at hrow7 hown7 ⊢
      rw [List.length_append, List.length_singleton] at hrow7 hown7 ⊢
      have ht7 : Turn (Value.slice xa ps.length xc).ownBlock.toList wr w1 := ((Turn.refl _ _).drew).same hRd
      obtain ⟨⟨hbox, c3⟩, -, -, ⟨z1, -⟩, htw⟩ := HC.out w1 ht7
      have f3 : w1.frozen? ⟨sb, 3, none⟩ = false := frozen_of hbox 3
      have hws : w.heap.size ≤ wr.heap.size := HT2.out.size
      have hrn : sb ∉ (Value.slice ya (ps.length + 1) yc).ownBlock := fun hk => (hown7 sb hk).elim (fun h => HOWN.out h) (fun h => by omega)
      have HROW7 := hide hrow7
      have HOWN7 := hide hown7
      have HTW7 := hide htw
      have HBOX := hide hbox
      have HRN := hide hrn
      clear hrow7 hown7 ht7 hbox htw hrn hRd hSd hyv d18
      go_wp2
      go_end0
      have e : np = ⟨sizeP ps, bs.length, Cr.sum bs, xf, lat (latestP ps) rs⟩ := by rw [HNP.out, HL.out]
      have hts : Turn [sb] w1 (w1.setCell ⟨sb, 3, none⟩ (.slice ya (ps.length + 1) yc)) := (Turn.refl _ _).setCell (.inl (by simp)) _
      rw [← e]
      refine ⟨rfl, _, ⟨by simpa using heap_set HBOX.out 3 _, HROW7.out.kept hts (fun k hk => by simp only [List.mem_singleton]; intro e; subst e; exact HRN.out hk), HS.out.low⟩, HTW7.out.trans hts (fun k hk => .inl (by simp at hk; subst hk; simp [sfoot])), fun k hk => ?_⟩
      simp only [sfoot, List.mem_cons, Option.mem_toList] at hk ⊢
      rcases hk with rfl | hk
      · exact .inl (.inl rfl)
      · rcases HOWN7.out k hk with h | h
        · exact .inl (.inr h)
        · exact .inr (Nat.le_trans hws h)
end Go.Proofs.YthbhfhagbaommaaGreatDoor.Sg

/- (*segment.Segment).Add: a batch put at the end. -/
namespace Go.Proofs.YthbhfhagbaommaaGreatDoor.Sg
open Go.RowKit Go.Maps
set_option maxRecDepth 100000
set_option linter.unusedSimpArgs false
set_option linter.unusedVariables false
attribute [local go_sem] Oper.semAt_some
open Dk (DA DiskAt Parts Did errR errV)

/-- A disk, and a segment on it. -/
structure Both (w : World) (base d : Nat) (F : List Nat) (A : DA) (sb : Nat) (sv : Value) (file : ByteArray) (b0 : Int) (ps : List Pl) : Prop where
  disk : DiskAt w base d F A
  seg : SegAt w base d sb sv file b0 ps
  sep : ∀ k ∈ sfoot sb sv, k ∉ F
section
variable {w w' : World} {base d sb : Nat} {F : List Nat} {A : DA} {sv : Value} {file : ByteArray} {b0 : Int} {ps : List Pl}
theorem Both.kept {S : List Nat} (h : Both w base d F A sb sv file b0 ps) (ht : Turn S w w') (h1 : ∀ k ∈ F, k ∉ S) (h2 : ∀ k ∈ sfoot sb sv, k ∉ S) : Both w' base d F A sb sv file b0 ps :=
  ⟨h.disk.kept ht h1, h.seg.kept ht h2, h.sep⟩
theorem Both.still (h : Both w base d F A sb sv file b0 ps) (ht : Turn [] w w') : Both w' base d F A sb sv file b0 ps := h.kept ht (by simp) (by simp)
end
/-- What an operation on a disk and a segment has come to. -/
def Came (w w' : World) (base d : Nat) (F : List Nat) (A' : DA) (sb : Nat) (sv : Value) (file : ByteArray) (b0 : Int) (ps' : List Pl) : Prop :=
  ∃ F' sv', Both w' base d F' A' sb sv' file b0 ps' ∧ Turn (F ++ sfoot sb sv) w w' ∧ (∀ k ∈ F', k ∈ F ∨ w.heap.size ≤ k) ∧ ∀ k ∈ sfoot sb sv', k ∈ sfoot sb sv ∨ w.heap.size ≤ k
def plOf (ps : List Pl) (x : Bt.Bat) : Pl := ⟨sizeP ps, (Bt.encB x).length, Cr.sum (Bt.encB x), x.fin, lat (latestP ps) x.recs⟩
def psIf (c : Int) (ps : List Pl) (p : Pl) : List Pl := if c = 0 then ps ++ [p] else ps
theorem plOf_pls (xs : List Bt.Bat) (x : Bt.Bat) : pls 0 (-1) xs ++ [plOf (pls 0 (-1) xs) x] = pls 0 (-1) (xs ++ [x]) := by
  rw [pls_snoc, plOf, sizeP_pls, latestP_pls, Nat.zero_add]

set_option maxHeartbeats 4000000 in
theorem add_any (w : World) (base d : Nat) (F : List Nat) (A : DA) (sb : Nat) (sv : Value) (file : ByteArray) (b0 : Int) (ps : List Pl) (h : Both w base d F A sb sv file b0 ps) (hfs : file.size ≤ maxLen) (hl : ps.length ≤ 999999) (hz : sizeP ps ≤ 1099511627776)
    (va : Value) (x : Bt.Bat) (hx : BatAt w (.agg #[.int .i64 x.base, .int .i64 x.fin, va]) x) (hxs : ∀ k ∈ va.ownBlock, k < w.heap.size → k ∉ F ∧ k ∉ sfoot sb sv) :
    Calls Tryz.prog 53 #[.pointer (some ⟨sb, 0, none⟩), .agg #[.int .i64 x.base, .int .i64 x.fin, va]] w fun e w' =>
      (Bt.encErr x ≠ 0 ∧ e = .returned (errR (Bt.encErr x)) ∧ Turn [] w w') ∨ (Bt.encErr x = 0 ∧ x.base < nextP b0 ps ∧ e = .returned (errR 10) ∧ Turn [] w w') ∨
      (Bt.encErr x = 0 ∧ nextP b0 ps ≤ x.base ∧ e = .returned (errR (A.add file.data.toList (Bt.encB x)).1) ∧ Came w w' base d F (A.add file.data.toList (Bt.encB x)).2 sb sv file b0 (psIf (A.add file.data.toList (Bt.encB x)).1 ps (plOf ps x))) := by
  have HBX := hide hx
  obtain ⟨sv0, hsv0, hr, b1, b2, f1, f2⟩ := hx
  simp only [Value.agg.injEq, Array.mk.injEq, List.cons.injEq, Value.int.injEq, true_and, and_true] at hsv0
  subst hsv0
  have HB := hide h
  have HXS := hide hxs
  have HR := hide hr
  have hmx : maxLen = 9223372036854775807 := by simp [maxLen]
  have hsb := lt_of_heap h.seg.box
  clear h hxs hr
  go_enter Tryz.func53, Tryz.ntmps53
  go_wp2_with fail
  have ht0 : Turn [] w (w.alloc (.cells #[.int .i64 x.base, .int .i64 x.fin, va] 70)) := (Turn.refl [] w).alloc _
  have hbb : BatAt (w.alloc (.cells #[.int .i64 x.base, .int .i64 x.fin, va] 70)) (.agg #[.int .i64 x.base, .int .i64 x.fin, va]) x := ⟨va, rfl, HR.out.still ht0, b1, b2, f1, f2⟩
  refine (enc_any _ _ x hbb).mono ?_
  rintro e w1 ⟨vb, rfl, ht1, hrow1⟩
  have hX := ht1.heap (heap_new w (.cells #[.int .i64 x.base, .int .i64 x.fin, va] 70)) (by simp)
  have HX := hide hX
  have HT1 := hide (ht0.same ht1)
  have HROW := hide hrow1
  have hsz1 := lt_of_heap hX
  clear ht0 hbb ht1 hrow1 hX
  by_cases he : Bt.encErr x = 0
  · have hee : As.errN (Bt.encErr x) = .nilIface := by rw [he]; rfl
    have hrow1 := HROW.out
    unfold encR at hrow1
    rw [if_pos he] at hrow1
    obtain ⟨ba, bc, hvb, hblc, hbcm⟩ := hrow1.form
    subst hvb
    have HE := hide he
    have HROW1 := hide hrow1
    rw [hee]
    clear he hee hrow1 HROW
    go_wp2
    obtain ⟨nx, hnx⟩ : ∃ nx, nx = nextP b0 ps := ⟨_, rfl⟩
    have HNX := hide hnx
    clear hnx
    refine wp_region_tail 4 (Turn []) (by kernel_rfl) (by kernel_rfl) (by kernel_rfl) (by kernel_rfl) (by kernel_rfl) (Nat.le_of_ble_eq_true rfl) rfl (Turn.refl _) (fun _ _ _ h k => h.same k) ?_
    apply Lo.runx 1 rfl rfl [] (by kernel_rfl) (Turn.refl _)
    apply Exists.intro; apply And.intro
    · intro u w1 hR hF
      clear hF
      refine ⟨rfl, fun a ha K hK => ?_⟩
      have e3 := ha 3
      conv at e3 => rhs; whnf
      clear ha
      go_simp
      refine hK _ ?_; rfl
    apply Lo.runx 2 rfl rfl [0] (by kernel_rfl) (Turn.refl _)
    apply Exists.intro; apply And.intro
    · intro u w1 hR hF
      obtain ⟨h0, -⟩ := hF
      refine ⟨rfl, fun a ha K hK => ?_⟩
      have e16 := (ha 16).trans h0
      clear ha h0
      have hX := (((Turn.refl [] _).drew).same hR).heap HX.out (by simp)
      have c0 : w1.cell? ⟨w.heap.size, 0, none⟩ = some (.int .i64 x.base) := by rw [cell_of hX]; rfl
      have z1 := lt_of_heap hX
      go_simp
      refine hK _ ?_; rfl
    apply Lo.runx 3 rfl rfl [] (by kernel_rfl) (Turn.refl _)
    apply Exists.intro; apply And.intro
    · intro u w1 hR hF
      clear hF
      refine ⟨rfl, fun a ha K hK => ?_⟩
      have e0 := ha 0
      conv at e0 => rhs; whnf
      clear ha
      go_simp
      refine hK _ ?_; rfl
    refine Lo.run 4 rfl rfl [2] (fun y _ => y = .int .i64 nx) (by kernel_rfl) (fun x w w' h hR => ?_) (fun _ _ h => h) (fun u w1 hR hF => ?_) ?_
    · exact h
    · obtain ⟨h2, -⟩ := hF
      refine ⟨rfl, fun a ha K hK => ?_⟩
      have e18 := (ha 18).trans h2
      clear ha h2
      go_simp
      refine (next_any _ base d sb sv file b0 ps (HB.out.seg.still (HT1.out.same (((Turn.refl [] _).drew).same hR))) (by omega)).mono ?_
      rintro e w2 ⟨rfl, ht2⟩
      exact hK _ _ (by rw [HNX.out]) ht2
    refine Lo.done [1, 3] (fun u w1 hRd hSd hF => ?_)
    clear hSd
    obtain ⟨f1, f3, -⟩ := hF
    have d1 : u 1 = _ := f1
    have d3 := (show (fun y _ => y = .int .i64 nx) (u 3) w1 from f3)
    dsimp only at d3
    clear f1 f3
    simp only [List.take_succ_cons, List.take_zero, List.drop_succ_cons, List.drop_zero, putFrom, Act.put, List.setIfInBounds_toArray, List.set_cons_succ, List.set_cons_zero, Nat.zero_add, Nat.reduceAdd, d1]
    rw [d3]
    have HT2 := hide (HT1.out.same (((Turn.refl [] _).drew).same hRd))
    have HX2 := hide ((((Turn.refl [] _).drew).same hRd).heap HX.out (by simp))
    have HROW2 := hide (HROW1.out.kept (((Turn.refl [] _).drew).same hRd) (by simp))
    clear d1 d3 hRd
    by_cases hlt : x.base < nx
    · have HLT := hide hlt
      go_wp2
      go_ret
      exact .inr (.inl ⟨HE.out, by rw [← HNX.out]; exact HLT.out, rfl, HT2.out⟩)
    · have HLT := hide hlt
      go_wp2
      refine wp_region_tail 9 (Turn []) (by kernel_rfl) (by kernel_rfl) (by kernel_rfl) (by kernel_rfl) (by kernel_rfl) (Nat.le_of_ble_eq_true rfl) rfl (Turn.refl _) (fun _ _ _ h k => h.same k) ?_
      apply Lo.runx 1 rfl rfl [] (by kernel_rfl) (Turn.refl _)
      apply Exists.intro; apply And.intro
      · intro u w1 hR hF
        clear hF
        refine ⟨rfl, fun a ha K hK => ?_⟩
        have e0 := ha 0
        conv at e0 => rhs; whnf
        clear ha
        go_simp
        refine hK _ ?_; rfl
      apply Lo.runx 2 rfl rfl [0] (by kernel_rfl) (Turn.refl _)
      apply Exists.intro; apply And.intro
      · intro u w1 hR hF
        obtain ⟨h0, -⟩ := hF
        refine ⟨rfl, fun a ha K hK => ?_⟩
        have e22 := (ha 22).trans h0
        clear ha h0
        go_simp
        refine hK _ ?_; rfl
      apply Lo.runx 3 rfl rfl [1] (by kernel_rfl) (Turn.refl _)
      apply Exists.intro; apply And.intro
      · intro u w1 hR hF
        obtain ⟨h1, -⟩ := hF
        refine ⟨rfl, fun a ha K hK => ?_⟩
        have e23 := (ha 23).trans h1
        clear ha h1
        go_simp
        refine hK _ ?_; rfl
      apply Lo.runx 4 rfl rfl [2] (by kernel_rfl) (Turn.refl _)
      apply Exists.intro; apply And.intro
      · intro u w1 hR hF
        obtain ⟨h2, -⟩ := hF
        refine ⟨rfl, fun a ha K hK => ?_⟩
        have e24 := (ha 24).trans h2
        clear ha h2
        have hS := HB.out.seg.still (HT2.out.same (((Turn.refl [] _).drew).same hR))
        have c0 := hS.c0
        have z1 := lt_of_heap hS.box
        go_simp
        refine hK _ ?_; rfl
      apply Lo.runx 5 rfl rfl [] (by kernel_rfl) (Turn.refl _)
      apply Exists.intro; apply And.intro
      · intro u w1 hR hF
        clear hF
        refine ⟨rfl, fun a ha K hK => ?_⟩
        have e0 := ha 0
        conv at e0 => rhs; whnf
        clear ha
        go_simp
        refine hK _ ?_; rfl
      apply Lo.runx 6 rfl rfl [4] (by kernel_rfl) (Turn.refl _)
      apply Exists.intro; apply And.intro
      · intro u w1 hR hF
        obtain ⟨h4, -⟩ := hF
        refine ⟨rfl, fun a ha K hK => ?_⟩
        have e26 := (ha 26).trans h4
        clear ha h4
        go_simp
        refine hK _ ?_; rfl
      apply Lo.runx 7 rfl rfl [5] (by kernel_rfl) (Turn.refl _)
      apply Exists.intro; apply And.intro
      · intro u w1 hR hF
        obtain ⟨h5, -⟩ := hF
        refine ⟨rfl, fun a ha K hK => ?_⟩
        have e27 := (ha 27).trans h5
        clear ha h5
        go_simp
        refine hK _ ?_; rfl
      apply Lo.runx 8 rfl rfl [6] (by kernel_rfl) (Turn.refl _)
      apply Exists.intro; apply And.intro
      · intro u w1 hR hF
        obtain ⟨h6, -⟩ := hF
        refine ⟨rfl, fun a ha K hK => ?_⟩
        have e28 := (ha 28).trans h6
        clear ha h6
        have hS := HB.out.seg.still (HT2.out.same (((Turn.refl [] _).drew).same hR))
        have c1 := hS.c1
        have z1 := lt_of_heap hS.box
        go_simp
        refine hK _ ?_; rfl
      apply Lo.runx 9 rfl rfl [] (by kernel_rfl) (Turn.refl _)
      apply Exists.intro; apply And.intro
      · intro u w1 hR hF
        clear hF
        refine ⟨rfl, fun a ha K hK => ?_⟩
        have e5 := ha 5
        conv at e5 => rhs; whnf
        clear ha
        go_simp
        refine hK _ ?_; rfl
      refine Lo.done [3, 7, 8] (fun u w1 hRd hSd hF => ?_)
      clear hSd
      obtain ⟨f3, f7, f8, -⟩ := hF
      have d3 : u 3 = _ := f3
      have d7 : u 7 = _ := f7
      have d8 : u 8 = _ := f8
      clear f3 f7 f8
      simp only [List.take_succ_cons, List.take_zero, List.drop_succ_cons, List.drop_zero, putFrom, Act.put, List.setIfInBounds_toArray, List.set_cons_succ, List.set_cons_zero, Nat.zero_add, Nat.reduceAdd, d3, d7, d8]
      have HT3 := hide (HT2.out.same (((Turn.refl [] _).drew).same hRd))
      have HX3 := hide ((((Turn.refl [] _).drew).same hRd).heap HX2.out (by simp))
      have HROW3 := hide (HROW2.out.kept (((Turn.refl [] _).drew).same hRd) (by simp))
      clear d3 d7 d8 hRd
      have hboth := HB.out.still HT3.out
      obtain ⟨mref, ms, hparts⟩ := hboth.disk
      have hFlt : ∀ k ∈ F, k < w.heap.size := HB.out.disk.lt
      have hGlt : ∀ k ∈ sfoot sb sv, base ≤ k ∧ k < w.heap.size := HB.out.seg.lt
      have hws := HT1.out.size
      have hbown : ∀ k ∈ (Value.slice ba (Bt.encB x).length bc).ownBlock, w.heap.size ≤ k := fun k hk => by
        have := (HROW3.out.lt k hk).1
        simp at this
        omega
      have hsl : ∀ Z, Turn F w1 Z → SliceAt Z (.slice ba (Bt.encB x).length bc) ((Bt.encB x).map encB) := fun Z hZ =>
        HROW3.out.cells.kept hZ (fun k hk hm => by have := hbown k hk; have := hFlt k hm; omega)
      have hen : (Bt.encB x).length ≤ 6000 := by have := (Bt.encErr_ok HE.out).2; rw [Bt.encB_len]; exact this
      have HSL := hide hsl
      have hlt' : nx ≤ x.base := HLT.out
      have HGE : Hid (nextP b0 ps ≤ x.base) := by rw [HNX.out] at hlt'; exact hlt'
      have HBO := hide hbown
      have HF := hide hFlt
      have HG := hide hGlt
      clear hsl hlt' hbown hFlt hGlt hboth hblc hbcm
      go_wp2_with fail
      refine (Dk.add_any hparts file hfs _ (Bt.encB x) HSL.out (by omega)).mono ?_
      rintro e w2 ⟨rfl, F', hd2, ht2, hf2⟩
      have hws1 := HT3.out.size
      have hdis : ∀ k ∈ sfoot sb sv, k ∉ F' := fun k hk hm => (hf2 k hm).elim (fun h => HB.out.sep k hk h) (fun h => by have := (HG.out k hk).2; omega)
      have hX2 := ht2.heap HX3.out (fun hm => by have := HF.out _ hm; omega)
      have hs2 := (HB.out.seg.still HT3.out).kept ht2 (fun k hk => HB.out.sep k hk)
      have htw2 : Turn F w w2 := (HT3.out.mono (by simp)).same ht2
      obtain ⟨c, hc⟩ : ∃ c, c = (A.add file.data.toList (Bt.encB x)).1 := ⟨_, rfl⟩
      obtain ⟨A2, hA2⟩ : ∃ A2, A2 = (A.add file.data.toList (Bt.encB x)).2 := ⟨_, rfl⟩
      have HCE := hide hc
      have HAE := hide hA2
      rw [← hA2] at hd2
      rw [← hc]
      have HD2 := hide hd2
      have HT2' := hide ht2
      have HF2 := hide hf2
      have HDIS := hide hdis
      have HS2 := hide hs2
      have HTW2 := hide htw2
      by_cases hc0 : c = 0
      · have hr0 : errR c = .nilIface := by rw [hc0]; rfl
        have k0 : w2.cell? ⟨w.heap.size, 0, none⟩ = some (.int .i64 x.base) := by rw [cell_of hX2]; rfl
        have k1 : w2.cell? ⟨w.heap.size, 1, none⟩ = some (.int .i64 x.fin) := by rw [cell_of hX2]; rfl
        have k2 : w2.cell? ⟨w.heap.size, 2, none⟩ = some va := by rw [cell_of hX2]; rfl
        have z2 := lt_of_heap hX2
        have HC0 := hide hc0
        have HR0 := hide hr0
        rw [hr0]
        clear hc hA2 hd2 ht2 hf2 hdis hs2 htw2 hX2 hc0 hr0 hparts
        go_wp2_with fail
        refine (note_any w2 base d sb sv file b0 ps HS2.out hl hz _ (Bt.encB x) (fun Z hZ => ?_) (by omega) x.base x.fin va x.recs (HR.out.kept HTW2.out (fun k hk hlt => (HXS.out k hk hlt).1))).mono ?_
        · exact ((HROW3.out.kept HT2'.out (fun k hk hm => by have := HBO.out k hk; have := HF.out k hm; omega)).kept hZ (fun k hk hm => by have := HBO.out k hk; have := (HG.out k hm).2; omega)).bytes
        rintro e w3 ⟨rfl, sv', hseg, ht3, hg⟩
        go_wp2
        go_ret
        refine .inr (.inr ⟨HE.out, HGE.out, by rw [← HCE.out, HR0.out]; rfl, F', sv', ⟨by rw [← HAE.out]; exact HD2.out.kept ht3 (fun k hk hm => HDIS.out k hm hk), ?_, fun k hk hm => ?_⟩, ?_, fun k hk => (HF2.out k hk).imp_right (Nat.le_trans hws1), fun k hk => (hg k hk).imp_right (Nat.le_trans HTW2.out.size)⟩)
        · rw [← HCE.out, HC0.out]; exact hseg
        · rcases hg k hk with h | h
          · exact HDIS.out k h hm
          · have := HD2.out.lt k hm; omega
        · exact (HTW2.out.mono (fun k hk => .inl (List.mem_append_left _ hk))).trans ht3 (fun k hk => .inl (List.mem_append_right _ hk))
      · have hr0 : errR c = .iface 56 (.int .i64 c) := by unfold errR; rw [if_neg hc0]; rfl
        have HC0 := hide hc0
        have HR0 := hide hr0
        rw [hr0]
        clear hc hA2 hd2 ht2 hf2 hdis hs2 htw2 hX2 hc0 hr0 hparts
        go_wp2
        go_ret
        refine .inr (.inr ⟨HE.out, HGE.out, by rw [← HCE.out, HR0.out]; rfl, F', sv, ⟨by rw [← HAE.out]; exact HD2.out, ?_, HDIS.out⟩, HTW2.out.mono (fun k hk => .inl (List.mem_append_left _ hk)), fun k hk => (HF2.out k hk).imp_right (Nat.le_trans hws1), fun k hk => .inl hk⟩)
        unfold psIf
        rw [← HCE.out, if_neg HC0.out]; exact HS2.out
  · have hee : As.errN (Bt.encErr x) = errR (Bt.encErr x) := rfl
    have hne : errR (Bt.encErr x) = .iface 56 (.int .i64 (Bt.encErr x)) := by unfold errR; rw [if_neg he]; rfl
    rw [hee, hne]
    have HNE := hide hne
    have HE := hide he
    clear hee hne he HROW
    go_wp2
    go_ret
    exact .inl ⟨HE.out, by rw [HNE.out]; rfl, HT1.out⟩
end Go.Proofs.YthbhfhagbaommaaGreatDoor.Sg

/- (*segment.Segment).find: the batches at the beginning of bytes. -/
namespace Go.Proofs.YthbhfhagbaommaaGreatDoor.Sg
open Go.RowKit Go.Maps
set_option maxRecDepth 100000
set_option linter.unusedSimpArgs false
set_option linter.unusedVariables false
attribute [local go_sem] Oper.semAt_some

def lenOfV : Value → Nat
  | .slice _ n _ => n
  | _ => 0
/-- Where find's loop stands. -/
structure FSt (w wr : World) (base d sb : Nat) (sv : Value) (file : ByteArray) (b0 : Int) (pre : List Bt.Bat) (l : List UInt8) (dn : List Bt.Bat) (sv' : Value) (l' : List UInt8) (bv : Value) : Prop where
  scan : ∀ xs, Scan (nextOf b0 (pre ++ dn)) l' xs → Scan (nextOf b0 pre) l (dn ++ xs)
  bytes : BytesAt wr bv l'
  own : ∀ k ∈ bv.ownBlock, k < w.heap.size → k ∉ sfoot sb sv
  own2 : ∀ k ∈ bv.ownBlock, k < wr.heap.size → k ∉ sfoot sb sv'
  seg : SegAt wr base d sb sv' file b0 (pls 0 (-1) (pre ++ dn))
  turn : Turn (sfoot sb sv) w wr
  foot : ∀ k ∈ sfoot sb sv', k ∈ sfoot sb sv ∨ w.heap.size ≤ k
  len : l'.length + (flat dn).length ≤ l.length
theorem advA_block {a : Option Addr} {n c m e : Nat} : ∀ k ∈ (Value.slice (advA a n c) m e).ownBlock, ∃ q r, k ∈ (Value.slice a q r).ownBlock := by
  intro k hk
  refine ⟨0, 0, ?_⟩
  cases a with
  | none => unfold advA at hk; split at hk <;> simp [Value.ownBlock] at hk
  | some p =>
    unfold advA at hk
    split at hk
    · simpa [Value.ownBlock] using hk
    · simp [Value.ownBlock, add_block] at hk ⊢; exact hk
theorem own_slice {a : Option Addr} {n m c e k : Nat} (h : k ∈ (Value.slice a n c).ownBlock) : k ∈ (Value.slice a m e).ownBlock := by
  cases a <;> simp [Value.ownBlock] at h ⊢; exact h

set_option maxHeartbeats 8000000 in
theorem find_any (w : World) (base d sb : Nat) (sv : Value) (file : ByteArray) (b0 : Int) (pre : List Bt.Bat) (h : SegAt w base d sb sv file b0 (pls 0 (-1) pre)) (bv : Value) (l : List UInt8) (hb : BytesAt w bv l)
    (ho : ∀ k ∈ bv.ownBlock, k < w.heap.size → k ∉ sfoot sb sv) (hl : (flat pre).length + l.length ≤ 2000000) :
    Calls Tryz.prog 116 #[.pointer (some ⟨sb, 0, none⟩), bv] w fun e w' => e = .returned (.tuple #[]) ∧
      ∃ xs sv', Scan (nextOf b0 pre) l xs ∧ SegAt w' base d sb sv' file b0 (pls 0 (-1) (pre ++ xs)) ∧ Turn (sfoot sb sv) w w' ∧ ∀ k ∈ sfoot sb sv', k ∈ sfoot sb sv ∨ w.heap.size ≤ k := by
  have HST : Hid (FSt w w base d sb sv file b0 pre l [] sv l bv) := ⟨fun xs h => by simpa using h, hb, ho, ho, by simpa using h, Turn.refl _ _, fun k hk => .inl hk, by simp [flat]⟩
  have hmx : maxLen = 9223372036854775807 := by simp [maxLen]
  clear h hb ho
  go_enter Tryz.func116, Tryz.ntmps116
  go_wp2
  go_loopw [1] (fun bv wr => ∃ dn sv' l', FSt w wr base d sb sv file b0 pre l dn sv' l' bv) (fun bv _ => lenOfV bv)
  case atStart => exact ⟨[], sv, l, HST.out⟩
  case round =>
    obtain ⟨dn, sv', l', hst⟩ := hrel
    obtain ⟨ba, bc, rfl, hlc, hcm, -⟩ := hst.bytes.form
    rw [hmx] at hcm
    have HS := hide hst
    have hll := hst.len
    have hfl := flat_len (pre ++ dn)
    have hfa : (flat (pre ++ dn)).length = (flat pre).length + (flat dn).length := by rw [flat_append, List.length_append]
    clear hst HST
    go_wp2_with fail
    refine (dec_any wr _ l' HS.out.bytes (by omega)).mono ?_
    rintro e wa ⟨rv, rfl, hrec, ht1⟩
    obtain ⟨ra, rc, hrv, hrlc, hrcm, -⟩ := hrec.form
    obtain ⟨x, hx⟩ : ∃ x, x = (dec l').1 := ⟨_, rfl⟩
    obtain ⟨sz, hsz⟩ : ∃ sz, sz = (dec l').2.1 := ⟨_, rfl⟩
    obtain ⟨er, her⟩ : ∃ er, er = (dec l').2.2 := ⟨_, rfl⟩
    have HX := hide hx
    have HSZ := hide hsz
    have HER := hide her
    rw [← hx] at hrec hrv
    subst hrv
    rw [← hx, ← hsz, ← her]
    have HREC := hide hrec
    have HT1 := hide ht1
    clear hx hsz her hrec ht1 hrlc hrcm
    obtain ⟨nx, hnx⟩ : ∃ nx, nx = nextP b0 (pls 0 (-1) (pre ++ dn)) := ⟨_, rfl⟩
    have HNX := hide hnx
    clear hnx
    by_cases he : er = 0
    · have hen : As.errN er = .nilIface := by rw [he]; rfl
      rw [hen]
      have HE := hide he
      clear hen he
      obtain ⟨hok1, hok2, hok3⟩ := dec_ok (b := l') (by rw [← HER.out, HE.out])
      rw [← HX.out] at hok1 hok2 hok3
      rw [← HSZ.out] at hok2 hok3
      have hepos := encB_pos x
      have hsl : sz ≤ l'.length := by
        have := congrArg List.length hok3
        rw [List.length_append] at this
        omega
      have hbase := (Bt.chk_ok (Bt.encErr_ok hok1).1)
      have HOK1 := hide hok1
      have HOK2 := hide hok2
      have HOK3 := hide hok3
      clear hok1 hok2 hok3
      go_wp2
      obtain ⟨w2, hw2⟩ : ∃ w2, w2 = wa.alloc (.cells #[.int .i64 x.base, .int .i64 x.fin, .slice ra x.recs.length rc] 70) := ⟨_, rfl⟩
      rw [← hw2]
      have hB2 : w2.heap[wa.heap.size]? = some (.cells #[.int .i64 x.base, .int .i64 x.fin, .slice ra x.recs.length rc] 70 (0, 0)) := by rw [hw2]; exact heap_new wa _
      have HT2 : Hid (Turn [] wr w2) := by show Turn _ _ _; rw [hw2]; exact HT1.out.alloc _
      have HT12 : Hid (Turn [] wa w2) := by show Turn _ _ _; rw [hw2]; exact (Turn.refl [] wa).alloc _
      have HB2 := hide hB2
      clear hw2 hB2
      refine wp_region_loose (Turn []) (by kernel_rfl) (by kernel_rfl) (by kernel_rfl) (by kernel_rfl) rfl (Turn.refl _) (fun _ _ _ h k => h.same k) ?_
      apply Lo.runx 1 rfl rfl [] (by kernel_rfl) (Turn.refl _)
      apply Exists.intro; apply And.intro
      · intro u w1 hR hF
        clear hF
        refine ⟨rfl, fun a ha K hK => ?_⟩
        have e6 := ha 6
        conv at e6 => rhs; whnf
        clear ha
        go_simp
        refine hK _ ?_; rfl
      apply Lo.runx 2 rfl rfl [0] (by kernel_rfl) (Turn.refl _)
      apply Exists.intro; apply And.intro
      · intro u w1 hR hF
        obtain ⟨h0, -⟩ := hF
        refine ⟨rfl, fun a ha K hK => ?_⟩
        have e13 := (ha 13).trans h0
        clear ha h0
        go_simp
        refine hK _ ?_; rfl
      apply Lo.runx 3 rfl rfl [1] (by kernel_rfl) (Turn.refl _)
      apply Exists.intro; apply And.intro
      · intro u w1 hR hF
        obtain ⟨h1, -⟩ := hF
        refine ⟨rfl, fun a ha K hK => ?_⟩
        have e14 := (ha 14).trans h1
        clear ha h1
        go_simp
        refine hK _ ?_; rfl
      apply Lo.runx 4 rfl rfl [2] (by kernel_rfl) (Turn.refl _)
      apply Exists.intro; apply And.intro
      · intro u w1 hR hF
        obtain ⟨h2, -⟩ := hF
        refine ⟨.inl ⟨false, h2, rfl⟩, fun a ha K hK => ?_⟩
        have e4 := ha 4
        conv at e4 => rhs; whnf
        clear ha h2
        go_simp
        refine hK _ ?_; rfl
      apply Lo.runx 5 rfl rfl [2, 3] (by kernel_rfl) (Turn.refl _)
      apply Exists.intro; apply And.intro
      · intro u w1 hR hF
        obtain ⟨h2, h3, -⟩ := hF
        refine ⟨.inl ⟨false, h2, rfl⟩, fun a ha K hK => ?_⟩
        have e16 := (ha 16).trans h3
        clear ha h2 h3
        have hB := (((Turn.refl [] _).drew).same hR).heap HB2.out (by simp)
        have c0 : w1.cell? ⟨wa.heap.size, 0, none⟩ = some (.int .i64 x.base) := by rw [cell_of hB]; rfl
        have z1 := lt_of_heap hB
        go_simp
        refine hK _ ?_; rfl
      apply Lo.runx 6 rfl rfl [2] (by kernel_rfl) (Turn.refl _)
      apply Exists.intro; apply And.intro
      · intro u w1 hR hF
        obtain ⟨h2, -⟩ := hF
        refine ⟨.inl ⟨false, h2, rfl⟩, fun a ha K hK => ?_⟩
        have e0 := ha 0
        conv at e0 => rhs; whnf
        clear ha h2
        go_simp
        refine hK _ ?_; rfl
      refine Lo.run 7 rfl rfl [2, 5] (fun y _ => y = .int .i64 nx) (by kernel_rfl) (fun x w w' h hR => ?_) (fun _ _ h => h) (fun u w1 hR hF => ?_) ?_
      · exact h
      · obtain ⟨h2, h5, -⟩ := hF
        refine ⟨.inl ⟨false, h2, rfl⟩, fun a ha K hK => ?_⟩
        have e18 := (ha 18).trans h5
        clear ha h2 h5
        go_simp
        refine (next_any _ base d sb sv' file b0 _ (HS.out.seg.still (HT2.out.same (((Turn.refl [] _).drew).same hR))) (by rw [pls_len]; omega)).mono ?_
        rintro e w3 ⟨rfl, ht3⟩
        exact hK _ _ (by rw [HNX.out]) ht3
      refine Lo.runv 8 rfl rfl [2, 4, 6] (.bool (decide (x.base < nx))) (by kernel_rfl) (fun u w1 hR hF => ?_) (Turn.refl _) ?_
      · obtain ⟨h2, h4, h6, -⟩ := hF
        refine ⟨.inl ⟨false, h2, rfl⟩, fun a ha K hK => ?_⟩
        have e17 := (ha 17).trans h4
        have e19 : a.tmps.getD 19 undef = u 6 := ha 19
        have h6 := (show (fun y _ => y = .int .i64 nx) (u 6) w1 from h6)
        dsimp only at h6
        clear ha h2 h4
        rw [h6] at e19
        go_simp
        refine hK _ ?_
        rfl
      refine Lo.runv 9 rfl rfl [2, 7] (.bool (decide (x.base < nx))) (by kernel_rfl) (fun u w1 hR hF => ?_) (Turn.refl _) ?_
      · obtain ⟨h2, h7, -⟩ := hF
        refine ⟨rfl, fun a ha K hK => ?_⟩
        have e15 := (ha 15).trans h2
        have e20 := (ha 20).trans h7
        clear ha h2 h7
        go_simp
        refine hK _ ?_
        rfl
      refine Lo.done [8] (fun u w1 hRd hSd hF => ?_)
      clear hSd
      obtain ⟨f8, -⟩ := hF
      have d8 : u 8 = _ := f8
      clear f8
      simp only [putFrom, Act.put, List.setIfInBounds_toArray, List.set_cons_succ, List.set_cons_zero, Nat.zero_add, Nat.reduceAdd, d8]
      have HT3 := hide (((Turn.refl [] w2).drew).same hRd)
      have HB3 := hide ((((Turn.refl [] w2).drew).same hRd).heap HB2.out (by simp))
      clear d8 hRd
      by_cases hlt : x.base < nx
      · have HLT := hide hlt
        go_wp2
        refine bodyPost_ret (v := .tuple #[]) (by simp [results, Tryz.results116]) rfl ?_
        have htw : Turn [] wr w1 := HT2.out.same HT3.out
        refine ⟨rfl, dn ++ [], sv', HS.out.scan [] (.stop ?_), ?_, HS.out.turn.trans htw (by simp), HS.out.foot⟩
        · rintro ⟨-, h2⟩
          rw [← HX.out, ← nextP_pls, ← HNX.out] at h2
          have := HLT.out
          omega
        · rw [List.append_nil]; exact HS.out.seg.still htw
      · have HLT := hide hlt
        go_wp2
        refine wp_region_tail 5 (Turn []) (by kernel_rfl) (by kernel_rfl) (by kernel_rfl) (by kernel_rfl) (by kernel_rfl) (Nat.le_of_ble_eq_true rfl) rfl (Turn.refl _) (fun _ _ _ h k => h.same k) ?_
        apply Lo.runx 1 rfl rfl [] (by kernel_rfl) (Turn.refl _)
        apply Exists.intro; apply And.intro
        · intro u w1 hR hF
          clear hF
          refine ⟨rfl, fun a ha K hK => ?_⟩
          have e0 := ha 0
          conv at e0 => rhs; whnf
          clear ha
          go_simp
          refine hK _ ?_; rfl
        apply Lo.runx 2 rfl rfl [] (by kernel_rfl) (Turn.refl _)
        apply Exists.intro; apply And.intro
        · intro u w1 hR hF
          clear hF
          refine ⟨rfl, fun a ha K hK => ?_⟩
          have e4 := ha 4
          conv at e4 => rhs; whnf
          clear ha
          have hB := (((Turn.refl [] _).drew).same hR).heap HB3.out (by simp)
          have c0 : w1.cell? ⟨wa.heap.size, 0, none⟩ = some (.int .i64 x.base) := by rw [cell_of hB]; rfl
          have c1 : w1.cell? ⟨wa.heap.size, 1, none⟩ = some (.int .i64 x.fin) := by rw [cell_of hB]; rfl
          have c2 : w1.cell? ⟨wa.heap.size, 2, none⟩ = some (.slice ra x.recs.length rc) := by rw [cell_of hB]; rfl
          have z1 := lt_of_heap hB
          go_simp
          refine hK _ ?_; rfl
        apply Lo.runx 3 rfl rfl [] (by kernel_rfl) (Turn.refl _)
        apply Exists.intro; apply And.intro
        · intro u w1 hR hF
          clear hF
          refine ⟨rfl, fun a ha K hK => ?_⟩
          have e1 := ha 1
          conv at e1 => rhs; whnf
          clear ha
          go_simp
          refine hK _ ?_; rfl
        apply Lo.runx 4 rfl rfl [] (by kernel_rfl) (Turn.refl _)
        apply Exists.intro; apply And.intro
        · intro u w1 hR hF
          clear hF
          refine ⟨rfl, fun a ha K hK => ?_⟩
          have e5 := ha 5
          conv at e5 => rhs; whnf
          clear ha
          go_simp
          refine hK _ ?_; rfl
        refine Lo.runv 5 rfl rfl [2, 3] (.slice ba sz bc) (by kernel_rfl) (fun u w1 hR hF => ?_) (Turn.refl _) ?_
        · obtain ⟨h2, h3, -⟩ := hF
          refine ⟨rfl, fun a ha K hK => ?_⟩
          have e24 := (ha 24).trans h2
          have e25 := (ha 25).trans h3
          clear ha h2 h3
          have hrt : ∀ w, (Instr.slice 50 (.slice ba l'.length bc) none (some (.int .i64 (sz : Int))) none).run Tryz.prog w = .ok (.slice ba sz bc) w := fun w => @run_to ba l'.length bc sz (by omega) w
          go_simp
          refine hK _ ?_
          rfl
        refine Lo.done [0, 1, 4] (fun u w1 hRd hSd hF => ?_)
        clear hSd
        obtain ⟨f0, f1, f4, -⟩ := hF
        have d0 : u 0 = _ := f0
        have d1 : u 1 = _ := f1
        have d4 : u 4 = _ := f4
        clear f0 f1 f4
        simp only [List.take_succ_cons, List.take_zero, List.drop_succ_cons, List.drop_zero, putFrom, Act.put, List.setIfInBounds_toArray, List.set_cons_succ, List.set_cons_zero, Nat.zero_add, Nat.reduceAdd, d0, d1, d4]
        have htw : Turn [] wr w1 := HT2.out.same (HT3.out.same (((Turn.refl [] _).drew).same hRd))
        have htaw : Turn [] wa w1 := HT12.out.same (HT3.out.same (((Turn.refl [] _).drew).same hRd))
        have HTW := hide htw
        have HREC1 := hide (HREC.out.still htaw)
        clear d0 d1 d4 hRd htw htaw
        have hlne : l' ≠ [] := fun e => by have e2 := HOK2.out; rw [e] at hsl; simp at hsl; omega
        have hownl := HS.out.bytes.lt hlne
        have htk : l'.take sz = Bt.encB x := by
          have := HOK3.out
          have e2 := HOK2.out
          conv => lhs; rw [this, e2]
          simp
        have HTK := hide htk
        have HOL := hide hownl
        have HNE := hide hlne
        clear htk hownl hlne
        have hby1 : ∀ Z, Turn (sfoot sb sv') w1 Z → BytesAt Z (.slice ba sz bc) (Bt.encB x) := fun Z hZ => by
          have h1 := (HS.out.bytes.still HTW.out).kept hZ (fun k hk _ => HS.out.own2 k hk (HOL.out k hk))
          have h2 := BytesAt.take (n := sz) h1 hsl
          rw [HTK.out] at h2
          exact h2
        have hln : (pls 0 (-1) (pre ++ dn)).length ≤ 999999 := by rw [pls_len]; omega
        have hlz : sizeP (pls 0 (-1) (pre ++ dn)) ≤ 1099511627776 := by rw [sizeP_pls]; omega
        have hle : (Bt.encB x).length ≤ 1099511627776 := by rw [← HOK2.out]; omega
        have hn := note_any w1 base d sb sv' file b0 _ (HS.out.seg.still HTW.out) hln hlz (.slice ba sz bc) (Bt.encB x) hby1 hle x.base x.fin _ x.recs HREC1.out
        have HN := hide hn
        clear hby1 hln hlz hle hn
        go_wp2_with fail
        refine HN.out.mono ?_
        rintro e w5 ⟨rfl, sv5, hseg5, ht5, hg5⟩
        have HSEG5 := hide hseg5
        have HT5 := hide ht5
        have HG5 := hide hg5
        have hrf : ∀ w, (Instr.slice 50 (.slice ba l'.length bc) (some (.int .i64 (sz : Int))) none none).run Tryz.prog w = .ok (.slice (advA ba sz bc) (l'.length - sz) (bc - sz)) w := fun w => run_from ba l'.length bc sz hsl w
        clear hseg5 ht5 hg5
        go_wp2
        all_goals refine ⟨⟨dn ++ [x], sv5, l'.drop sz, ?_⟩, ?_⟩
        · have htw5 : Turn (sfoot sb sv') wr w5 := (HTW.out.mono (by simp)).trans HT5.out (fun k hk => .inl hk)
          have hown' : ∀ k ∈ (Value.slice (advA ba sz bc) (l'.length - sz) (bc - sz)).ownBlock, k ∈ (Value.slice ba l'.length bc).ownBlock := fun k hk => by
            obtain ⟨q, r, h⟩ := advA_block k hk
            exact own_slice h
          have hby := (HS.out.bytes.still HTW.out).kept HT5.out (fun k hk _ => HS.out.own2 k hk (HOL.out k hk))
          have hby2 := BytesAt.drop (n := sz) hby hsl
          have hap : pls 0 (-1) (pre ++ dn) ++ [plOf (pls 0 (-1) (pre ++ dn)) x] = pls 0 (-1) (pre ++ (dn ++ [x])) := by rw [plOf_pls, List.append_assoc]
          refine ⟨fun xs hs => ?_, hby2, fun k hk hlt => HS.out.own k (hown' k hk) hlt, fun k hk hlt hm => ?_, by rw [← hap]; exact HSEG5.out, HS.out.turn.trans htw5 (fun k hk => ?_), fun k hk => ?_, ?_⟩
          · have h1 := HS.out.scan (x :: xs) ?_
            · simpa using h1
            · have h2 := Scan.step (nx := nextOf b0 (pre ++ dn)) (b := l') (xs := xs) (by rw [← HER.out, HE.out]) (by rw [← HX.out, ← nextP_pls, ← HNX.out]; exact HLT.out) (by rw [← HX.out, ← HSZ.out]; rw [← List.append_assoc, nextOf_snoc] at hs; exact hs)
              rw [← HX.out] at h2
              exact h2
          · have hk1 := hown' k hk
            have hk2 := HOL.out k hk1
            rcases HG5.out k hm with h | h
            · exact HS.out.own2 k hk1 hk2 h
            · have := HTW.out.size; omega
          · exact (HS.out.foot k hk)
          · rcases HG5.out k hk with h | h
            · exact HS.out.foot k h
            · exact .inr (Nat.le_trans (HS.out.turn.trans (HTW.out.mono (by simp)) (fun k hk => .inl hk)).size h)
          · rw [flat_append, List.length_append, flat_one, List.length_drop, ← HOK2.out]; omega
        · show (l'.length - sz) < l'.length
          have := HOK2.out
          omega
    · have hen : As.errN er = .iface 56 (.int .i64 er) := by unfold As.errN; rw [if_neg he]
      rw [hen]
      have HE := hide he
      clear hen he
      go_wp2
      refine wp_region_loose (Turn []) (by kernel_rfl) (by kernel_rfl) (by kernel_rfl) (by kernel_rfl) rfl (Turn.refl _) (fun _ _ _ h k => h.same k) ?_
      apply Lo.runx 1 rfl rfl [] (by kernel_rfl) (Turn.refl _)
      apply Exists.intro; apply And.intro
      · intro u w1 hR hF
        clear hF
        refine ⟨rfl, fun a ha K hK => ?_⟩
        have e6 := ha 6
        conv at e6 => rhs; whnf
        clear ha
        go_simp
        refine hK _ ?_; rfl
      apply Lo.runx 2 rfl rfl [0] (by kernel_rfl) (Turn.refl _)
      apply Exists.intro; apply And.intro
      · intro u w1 hR hF
        obtain ⟨h0, -⟩ := hF
        refine ⟨rfl, fun a ha K hK => ?_⟩
        have e13 := (ha 13).trans h0
        clear ha h0
        go_simp
        refine hK _ ?_; rfl
      apply Lo.runx 3 rfl rfl [1] (by kernel_rfl) (Turn.refl _)
      apply Exists.intro; apply And.intro
      · intro u w1 hR hF
        obtain ⟨h1, -⟩ := hF
        refine ⟨rfl, fun a ha K hK => ?_⟩
        have e14 := (ha 14).trans h1
        clear ha h1
        go_simp
        refine hK _ ?_; rfl
      refine Lo.pass 4 rfl rfl [2] (by kernel_rfl) (Turn.refl _) (fun u w1 hR hF => ?_) ?_
      · exact .inl ⟨true, hF.1, rfl⟩
      refine Lo.pass 5 rfl rfl [2] (by kernel_rfl) (Turn.refl _) (fun u w1 hR hF => ?_) ?_
      · exact .inl ⟨true, hF.1, rfl⟩
      refine Lo.pass 6 rfl rfl [2] (by kernel_rfl) (Turn.refl _) (fun u w1 hR hF => ?_) ?_
      · exact .inl ⟨true, hF.1, rfl⟩
      refine Lo.pass 7 rfl rfl [2] (by kernel_rfl) (Turn.refl _) (fun u w1 hR hF => ?_) ?_
      · exact .inl ⟨true, hF.1, rfl⟩
      refine Lo.pass 8 rfl rfl [2] (by kernel_rfl) (Turn.refl _) (fun u w1 hR hF => ?_) ?_
      · exact .inl ⟨true, hF.1, rfl⟩
      apply Lo.runx 9 rfl rfl [2, 7] (by kernel_rfl) (Turn.refl _)
      apply Exists.intro; apply And.intro
      · intro u w1 hR hF
        obtain ⟨h2, h7, -⟩ := hF
        refine ⟨rfl, fun a ha K hK => ?_⟩
        have e15 := (ha 15).trans h2
        have e20 := (ha 20).trans h7
        clear ha h2 h7
        go_simp
        refine hK _ ?_; rfl
      refine Lo.done [8] (fun u w1 hRd hSd hF => ?_)
      clear hSd
      obtain ⟨f8, -⟩ := hF
      have d8 : u 8 = _ := f8
      clear f8
      simp only [putFrom, Act.put, List.setIfInBounds_toArray, List.set_cons_succ, List.set_cons_zero, Nat.zero_add, Nat.reduceAdd, d8]
      clear d8
      go_wp2
      refine bodyPost_ret (v := .tuple #[]) (by simp [results, Tryz.results116]) rfl ?_
      have htw : Turn [] wr w1 := (HT1.out.alloc _).drew.same hRd
      refine ⟨rfl, dn ++ [], sv', HS.out.scan [] (.stop ?_), ?_, HS.out.turn.trans htw (by simp), HS.out.foot⟩
      · rintro ⟨h2, -⟩
        rw [← HER.out] at h2
        exact HE.out h2
      · rw [List.append_nil]; exact HS.out.seg.still htw
end Go.Proofs.YthbhfhagbaommaaGreatDoor.Sg

/- The library at this program, in plain words (made by the guide's lay-plain). -/
namespace Go.Proofs
open Go.Shelf
def Tryz.laysM171_ren : Go.Shelf.Ren := ⟨fun | 171 => 108 | 243 => 146 | 246 => 172 | 283 => 193 | 284 => 194 | 285 => 195 | 286 => 196 | 129 => 145 | 317 => 207 | 318 => 208 | 319 => 209 | 320 => 210 | 337 => 212 | 338 => 213 | n => n, fun | 3 => 3 | 9 => 9 | 2 => 2 | 4 => 4 | 171 => 251 | 0 => 0 | 53 => 202 | 37 => 50 | 5 => 5 | 173 => 253 | 212 => 266 | 51 => 172 | 20 => 20 | 213 => 267 | 46 => 55 | 232 => 269 | 233 => 270 | n => n, fun | 17 => 3 | 18 => 5 | 19 => 6 | n => n⟩
theorem Tryz.laysM171 : Go.Proofs.LaysM.n171 Tryz.prog Tryz.laysM171_ren := {
  mixed := by kernel_rfl
  f129 := Tryz.func145.trans (congrArg some (by kernel_rfl))
  f171 := Tryz.func108.trans (congrArg some (by kernel_rfl))
  f243 := Tryz.func146.trans (congrArg some (by kernel_rfl))
  f246 := Tryz.func172.trans (congrArg some (by kernel_rfl))
  f283 := Tryz.func193.trans (congrArg some (by kernel_rfl))
  f284 := Tryz.func194.trans (congrArg some (by kernel_rfl))
  f285 := Tryz.func195.trans (congrArg some (by kernel_rfl))
  f286 := Tryz.func196.trans (congrArg some (by kernel_rfl))
  f317 := Tryz.func207.trans (congrArg some (by kernel_rfl))
  f318 := Tryz.func208.trans (congrArg some (by kernel_rfl))
  f319 := Tryz.func209.trans (congrArg some (by kernel_rfl))
  f320 := Tryz.func210.trans (congrArg some (by kernel_rfl))
  f337 := Tryz.func212.trans (congrArg some (by kernel_rfl))
  f338 := Tryz.func213.trans (congrArg some (by kernel_rfl))
  t0 := Tryz.underlying0
  a0 := Tryz.isAgg0
  z0 := Tryz.sizeOf0
  v0 := Tryz.zeroValue0
  t2 := Tryz.underlying2
  a2 := Tryz.isAgg2
  z2 := Tryz.sizeOf2
  v2 := Tryz.zeroValue2
  t3 := Tryz.underlying3
  a3 := Tryz.isAgg3
  z3 := Tryz.sizeOf3
  v3 := Tryz.zeroValue3
  t4 := Tryz.underlying4
  a4 := Tryz.isAgg4
  z4 := Tryz.sizeOf4
  v4 := Tryz.zeroValue4
  t5 := Tryz.underlying5
  a5 := Tryz.isAgg5
  z5 := Tryz.sizeOf5
  v5 := Tryz.zeroValue5
  t9 := Tryz.underlying9
  a9 := Tryz.isAgg9
  z9 := Tryz.sizeOf9
  v9 := Tryz.zeroValue9
  t20 := Tryz.underlying20
  a20 := Tryz.isAgg20
  z20 := Tryz.sizeOf20
  v20 := Tryz.zeroValue20
  t37 := Tryz.underlying50
  a37 := Tryz.isAgg50
  z37 := Tryz.sizeOf50
  v37 := Tryz.zeroValue50
  t46 := Tryz.underlying55
  a46 := Tryz.isAgg55
  z46 := Tryz.sizeOf55
  v46 := Tryz.zeroValue55
  t51 := Tryz.underlying172
  a51 := Tryz.isAgg172
  z51 := Tryz.sizeOf172
  v51 := Tryz.zeroValue172
  t53 := Tryz.underlying202
  a53 := Tryz.isAgg202
  z53 := Tryz.sizeOf202
  v53 := Tryz.zeroValue202
  t171 := Tryz.underlying251
  a171 := Tryz.isAgg251
  z171 := Tryz.sizeOf251
  v171 := Tryz.zeroValue251
  t173 := Tryz.underlying253
  a173 := Tryz.isAgg253
  z173 := Tryz.sizeOf253
  v173 := Tryz.zeroValue253
  t212 := Tryz.underlying266
  a212 := Tryz.isAgg266
  z212 := Tryz.sizeOf266
  v212 := Tryz.zeroValue266
  t213 := Tryz.underlying267
  a213 := Tryz.isAgg267
  z213 := Tryz.sizeOf267
  t232 := Tryz.underlying269
  a232 := Tryz.isAgg269
  z232 := Tryz.sizeOf269
  v232 := Tryz.zeroValue269
  t233 := Tryz.underlying270
  a233 := Tryz.isAgg270
  z233 := Tryz.sizeOf270
  v233 := Tryz.zeroValue270
  g17 := by kernel_rfl
  g18 := by kernel_rfl
  g19 := by kernel_rfl
  i0 := by kernel_rfl
  i2 := by kernel_rfl
  i3 := by kernel_rfl
  i4 := by kernel_rfl
  i5 := by kernel_rfl
  i9 := by kernel_rfl
  i20 := by kernel_rfl
  i37 := by kernel_rfl
  i46 := by kernel_rfl
  i51 := by kernel_rfl
  i53 := by kernel_rfl
  i171 := by kernel_rfl
  i173 := by kernel_rfl
  i212 := by kernel_rfl
  i232 := by kernel_rfl
  i233 := by kernel_rfl
  m17 := by kernel_rfl
  m18 := by kernel_rfl
  m19 := by kernel_rfl }
open Go.RowKit Go.Sort Go.Lib in
theorem Tryz.strconv_Itoa (n : Int) (h0 : -9223372036854775808 ≤ n) (h1 : n ≤ 9223372036854775807) (w : World) (htab : Lib.TabIs Tryz.prog w "internal/strconv.uint64pow10" .u64 Lib.pow10Tab) :
    Calls Tryz.prog 108 #[.int .i64 n] w fun e w' => e = .returned (.string ⟨(Lib.itoa n).toArray⟩) ∧ ∃ k os, w' = grow (w.drewN k) os := Any.strconv_Itoa Tryz.laysM171 n h0 h1 w htab
def Tryz.laysC172_ren : Go.Shelf.Ren := ⟨fun | 172 => 75 | 244 => 112 | 245 => 113 | 247 => 153 | 279 => 154 | 280 => 155 | 281 => 156 | 282 => 157 | 287 => 177 | 316 => 178 | 171 => 108 | 205 => 179 | 321 => 199 | 322 => 200 | 243 => 146 | 246 => 172 | 283 => 193 | 284 => 194 | 285 => 195 | 286 => 196 | 129 => 145 | 317 => 207 | 318 => 208 | 319 => 209 | 320 => 210 | 337 => 212 | 338 => 213 | n => n, fun | 9 => 9 | 3 => 3 | 75 => 26 | 76 => 34 | 4 => 4 | 5 => 5 | 167 => 209 | 37 => 50 | 0 => 0 | 85 => 210 | 2 => 2 | 168 => 212 | 53 => 202 | 175 => 235 | 46 => 55 | 210 => 239 | 127 => 234 | 145 => 260 | 143 => 258 | 21 => 21 | 171 => 251 | 173 => 253 | 212 => 266 | 51 => 172 | 20 => 20 | 213 => 267 | 232 => 269 | 233 => 270 | 80 => 208 | n => n, fun | 15 => 1 | 16 => 2 | 17 => 3 | 18 => 5 | 19 => 6 | n => n⟩
theorem Tryz.laysC172 : Go.Proofs.LaysC.n172 Tryz.prog Tryz.laysC172_ren := {
  mixed := by kernel_rfl
  f129 := Tryz.func145.trans (congrArg some (by kernel_rfl))
  f171 := Tryz.func108.trans (congrArg some (by kernel_rfl))
  f172 := Tryz.func75.trans (congrArg some (by kernel_rfl))
  f205 := Tryz.func179.trans (congrArg some (by kernel_rfl))
  f243 := Tryz.func146.trans (congrArg some (by kernel_rfl))
  f244 := Tryz.func112.trans (congrArg some (by kernel_rfl))
  f245 := Tryz.func113.trans (congrArg some (by kernel_rfl))
  f246 := Tryz.func172.trans (congrArg some (by kernel_rfl))
  f247 := Tryz.func153.trans (congrArg some (by kernel_rfl))
  f279 := Tryz.func154.trans (congrArg some (by kernel_rfl))
  f280 := Tryz.func155.trans (congrArg some (by kernel_rfl))
  f281 := Tryz.func156.trans (congrArg some (by kernel_rfl))
  f282 := Tryz.func157.trans (congrArg some (by kernel_rfl))
  f283 := Tryz.func193.trans (congrArg some (by kernel_rfl))
  f284 := Tryz.func194.trans (congrArg some (by kernel_rfl))
  f285 := Tryz.func195.trans (congrArg some (by kernel_rfl))
  f286 := Tryz.func196.trans (congrArg some (by kernel_rfl))
  f287 := Tryz.func177.trans (congrArg some (by kernel_rfl))
  f316 := Tryz.func178.trans (congrArg some (by kernel_rfl))
  f317 := Tryz.func207.trans (congrArg some (by kernel_rfl))
  f318 := Tryz.func208.trans (congrArg some (by kernel_rfl))
  f319 := Tryz.func209.trans (congrArg some (by kernel_rfl))
  f320 := Tryz.func210.trans (congrArg some (by kernel_rfl))
  f321 := Tryz.func199.trans (congrArg some (by kernel_rfl))
  f322 := Tryz.func200.trans (congrArg some (by kernel_rfl))
  f337 := Tryz.func212.trans (congrArg some (by kernel_rfl))
  f338 := Tryz.func213.trans (congrArg some (by kernel_rfl))
  t0 := Tryz.underlying0
  a0 := Tryz.isAgg0
  z0 := Tryz.sizeOf0
  v0 := Tryz.zeroValue0
  t2 := Tryz.underlying2
  a2 := Tryz.isAgg2
  z2 := Tryz.sizeOf2
  v2 := Tryz.zeroValue2
  t3 := Tryz.underlying3
  a3 := Tryz.isAgg3
  z3 := Tryz.sizeOf3
  v3 := Tryz.zeroValue3
  t4 := Tryz.underlying4
  a4 := Tryz.isAgg4
  z4 := Tryz.sizeOf4
  v4 := Tryz.zeroValue4
  t5 := Tryz.underlying5
  a5 := Tryz.isAgg5
  z5 := Tryz.sizeOf5
  v5 := Tryz.zeroValue5
  t9 := Tryz.underlying9
  a9 := Tryz.isAgg9
  z9 := Tryz.sizeOf9
  v9 := Tryz.zeroValue9
  t20 := Tryz.underlying20
  a20 := Tryz.isAgg20
  z20 := Tryz.sizeOf20
  v20 := Tryz.zeroValue20
  t21 := Tryz.underlying21
  a21 := Tryz.isAgg21
  z21 := Tryz.sizeOf21
  v21 := Tryz.zeroValue21
  t37 := Tryz.underlying50
  a37 := Tryz.isAgg50
  z37 := Tryz.sizeOf50
  v37 := Tryz.zeroValue50
  t46 := Tryz.underlying55
  a46 := Tryz.isAgg55
  z46 := Tryz.sizeOf55
  v46 := Tryz.zeroValue55
  t51 := Tryz.underlying172
  a51 := Tryz.isAgg172
  z51 := Tryz.sizeOf172
  v51 := Tryz.zeroValue172
  t53 := Tryz.underlying202
  a53 := Tryz.isAgg202
  z53 := Tryz.sizeOf202
  v53 := Tryz.zeroValue202
  t75 := Tryz.underlying26
  a75 := Tryz.isAgg26
  z75 := Tryz.sizeOf26
  v75 := Tryz.zeroValue26
  t76 := Tryz.underlying34
  a76 := Tryz.isAgg34
  z76 := Tryz.sizeOf34
  v76 := Tryz.zeroValue34
  t85 := Tryz.underlying210
  a85 := Tryz.isAgg210
  z85 := Tryz.sizeOf210
  v85 := Tryz.zeroValue210
  t127 := Tryz.underlying234
  a127 := Tryz.isAgg234
  z127 := Tryz.sizeOf234
  v127 := Tryz.zeroValue234
  t143 := Tryz.underlying258
  a143 := Tryz.isAgg258
  z143 := Tryz.sizeOf258
  v143 := Tryz.zeroValue258
  t145 := Tryz.underlying260
  a145 := Tryz.isAgg260
  z145 := Tryz.sizeOf260
  v145 := Tryz.zeroValue260
  t167 := Tryz.underlying209
  a167 := Tryz.isAgg209
  z167 := Tryz.sizeOf209
  v167 := Tryz.zeroValue209
  t168 := Tryz.underlying212
  a168 := Tryz.isAgg212
  z168 := Tryz.sizeOf212
  v168 := Tryz.zeroValue212
  t171 := Tryz.underlying251
  a171 := Tryz.isAgg251
  z171 := Tryz.sizeOf251
  v171 := Tryz.zeroValue251
  t173 := Tryz.underlying253
  a173 := Tryz.isAgg253
  z173 := Tryz.sizeOf253
  v173 := Tryz.zeroValue253
  t175 := Tryz.underlying235
  a175 := Tryz.isAgg235
  z175 := Tryz.sizeOf235
  v175 := Tryz.zeroValue235
  t210 := Tryz.underlying239
  a210 := Tryz.isAgg239
  z210 := Tryz.sizeOf239
  v210 := Tryz.zeroValue239
  t212 := Tryz.underlying266
  a212 := Tryz.isAgg266
  z212 := Tryz.sizeOf266
  v212 := Tryz.zeroValue266
  t213 := Tryz.underlying267
  a213 := Tryz.isAgg267
  z213 := Tryz.sizeOf267
  t232 := Tryz.underlying269
  a232 := Tryz.isAgg269
  z232 := Tryz.sizeOf269
  v232 := Tryz.zeroValue269
  t233 := Tryz.underlying270
  a233 := Tryz.isAgg270
  z233 := Tryz.sizeOf270
  v233 := Tryz.zeroValue270
  g15 := by kernel_rfl
  g16 := by kernel_rfl
  g17 := by kernel_rfl
  g18 := by kernel_rfl
  g19 := by kernel_rfl
  t80 := Tryz.underlying208
  a80 := Tryz.isAgg208
  z80 := Tryz.sizeOf208
  v80 := Tryz.zeroValue208
  i0 := by kernel_rfl
  i2 := by kernel_rfl
  i3 := by kernel_rfl
  i4 := by kernel_rfl
  i5 := by kernel_rfl
  i9 := by kernel_rfl
  i20 := by kernel_rfl
  i21 := by kernel_rfl
  i37 := by kernel_rfl
  i46 := by kernel_rfl
  i51 := by kernel_rfl
  i53 := by kernel_rfl
  i75 := by kernel_rfl
  i76 := by kernel_rfl
  i80 := by kernel_rfl
  i85 := by kernel_rfl
  i127 := by kernel_rfl
  i143 := by kernel_rfl
  i145 := by kernel_rfl
  i167 := by kernel_rfl
  i168 := by kernel_rfl
  i171 := by kernel_rfl
  i173 := by kernel_rfl
  i175 := by kernel_rfl
  i210 := by kernel_rfl
  i212 := by kernel_rfl
  i232 := by kernel_rfl
  i233 := by kernel_rfl
  m15 := by kernel_rfl
  m16 := by kernel_rfl
  m17 := by kernel_rfl
  m18 := by kernel_rfl
  m19 := by kernel_rfl
  c0 := by kernel_rfl
  c2 := by kernel_rfl
  c3 := by kernel_rfl
  c4 := by kernel_rfl
  c5 := by kernel_rfl
  c9 := by kernel_rfl
  c20 := by kernel_rfl
  c21 := by kernel_rfl
  c37 := by kernel_rfl
  c46 := by kernel_rfl
  c51 := by kernel_rfl
  c53 := by kernel_rfl
  c75 := by kernel_rfl
  c76 := by kernel_rfl
  c80 := by kernel_rfl
  c85 := by kernel_rfl
  c127 := by kernel_rfl
  c143 := by kernel_rfl
  c145 := by kernel_rfl
  c167 := by kernel_rfl
  c168 := by kernel_rfl
  c171 := by kernel_rfl
  c173 := by kernel_rfl
  c175 := by kernel_rfl
  c210 := by kernel_rfl
  c212 := by kernel_rfl
  c213 := by kernel_rfl
  c232 := by kernel_rfl
  c233 := by kernel_rfl }
open Go.RowKit in
theorem Tryz.strconv_Atoi_ok (s : ByteArray) (hmax : s.size ≤ 9223372036854775806) (v : Int) (h : Lib.atoiAll s.data.toList = .ok v) (w : World) :
    Calls Tryz.prog 75 #[.string s] w fun e w' => e = .returned (.tuple #[.int .i64 v, .nilIface]) ∧ (w' = w ∨ ∃ t, w' = Lib.bytesWorld w 5 t) := Any.strconv_Atoi_ok Tryz.laysC172 s hmax v h w
open Go.RowKit in
theorem Tryz.strconv_Atoi_syntax_var (s : ByteArray) (hlim : s.size ≤ 281474976710656) (h : Lib.atoiAll s.data.toList = .«syntax») (tp : TypeId) (p : Value) (w : World) (hvar : w.var? Tryz.prog "strconv.ErrSyntax" = some #[.iface tp p]) :
    Calls Tryz.prog 75 #[.string s] w fun e w' => ∃ N, e = .returned (.tuple #[.int .i64 0, .iface 212 (.pointer (some ⟨N, 0, none⟩))]) ∧ w.heap.size ≤ N ∧ w'.heap[N]? = some (.cells #[.string ⟨#[65, 116, 111, 105]⟩, .string s, .iface tp p] 239 (0, 0)) ∧ Below w.heap.size w w' := Any.strconv_Atoi_syntax_var Tryz.laysC172 s hlim h tp p w hvar
open Go.RowKit in
theorem Tryz.strconv_Atoi_range_var (s : ByteArray) (hlim : s.size ≤ 281474976710656) (h : Lib.atoiAll s.data.toList = .range) (tp : TypeId) (p : Value) (w : World) (hvar : w.var? Tryz.prog "strconv.ErrRange" = some #[.iface tp p]) :
    Calls Tryz.prog 75 #[.string s] w fun e w' => ∃ N, e = .returned (.tuple #[.int .i64 (Lib.atoiSat s.data.toList), .iface 212 (.pointer (some ⟨N, 0, none⟩))]) ∧ w.heap.size ≤ N ∧ w'.heap[N]? = some (.cells #[.string ⟨#[65, 116, 111, 105]⟩, .string s, .iface tp p] 239 (0, 0)) ∧ Below w.heap.size w w' := Any.strconv_Atoi_range_var Tryz.laysC172 s hlim h tp p w hvar
def Tryz.lays101_ren : Go.Shelf.Ren := ⟨fun | 101 => 74 | 208 => 111 | 206 => 127 | n => n, fun | 9 => 9 | 4 => 4 | 3 => 3 | n => n, fun | n => n⟩
theorem Tryz.lays101 : Go.Proofs.Lays.n101 Tryz.prog Tryz.lays101_ren := {
  mixed := by kernel_rfl
  f101 := Tryz.func74.trans (congrArg some (by kernel_rfl))
  f206 := Tryz.func127.trans (congrArg some (by kernel_rfl))
  f208 := Tryz.func111.trans (congrArg some (by kernel_rfl))
  t3 := Tryz.underlying3
  a3 := Tryz.isAgg3
  z3 := Tryz.sizeOf3
  v3 := Tryz.zeroValue3
  t4 := Tryz.underlying4
  a4 := Tryz.isAgg4
  z4 := Tryz.sizeOf4
  v4 := Tryz.zeroValue4
  t9 := Tryz.underlying9
  a9 := Tryz.isAgg9
  z9 := Tryz.sizeOf9
  v9 := Tryz.zeroValue9 }
open Go.RowKit Go.Lib in
theorem Tryz.strings_TrimPrefix (s p : ByteArray) (w : World) :
    Calls Tryz.prog 74 #[.string s, .string p] w fun e w' => e = .returned (.string ⟨(Lib.trimPrefix s.data.toList p.data.toList).toArray⟩) ∧ w' = w := Any.strings_TrimPrefix Tryz.lays101 s p w
def Tryz.lays102_ren : Go.Shelf.Ren := ⟨fun | 102 => 73 | 209 => 110 | 207 => 152 | n => n, fun | 9 => 9 | 4 => 4 | 3 => 3 | n => n, fun | n => n⟩
theorem Tryz.lays102 : Go.Proofs.Lays.n102 Tryz.prog Tryz.lays102_ren := {
  mixed := by kernel_rfl
  f102 := Tryz.func73.trans (congrArg some (by kernel_rfl))
  f207 := Tryz.func152.trans (congrArg some (by kernel_rfl))
  f209 := Tryz.func110.trans (congrArg some (by kernel_rfl))
  t3 := Tryz.underlying3
  a3 := Tryz.isAgg3
  z3 := Tryz.sizeOf3
  v3 := Tryz.zeroValue3
  t4 := Tryz.underlying4
  a4 := Tryz.isAgg4
  z4 := Tryz.sizeOf4
  v4 := Tryz.zeroValue4
  t9 := Tryz.underlying9
  a9 := Tryz.isAgg9
  z9 := Tryz.sizeOf9
  v9 := Tryz.zeroValue9 }
open Go.RowKit Go.Lib in
theorem Tryz.strings_TrimSuffix (s p : ByteArray) (w : World) (hs : s.size ≤ 9223372036854775807) :
    Calls Tryz.prog 73 #[.string s, .string p] w fun e w' => e = .returned (.string ⟨(Lib.trimSuffix s.data.toList p.data.toList).toArray⟩) ∧ w' = w := Any.strings_TrimSuffix Tryz.lays102 s p w hs
def Tryz.lays105_ren : Go.Shelf.Ren := ⟨fun | 105 => 109 | 212 => 147 | 99 => 97 | 165 => 148 | 166 => 149 | 170 => 150 | 169 => 151 | 263 => 173 | 264 => 174 | 206 => 127 | 240 => 175 | 241 => 176 | 276 => 197 | 277 => 198 | n => n, fun | 9 => 9 | 3 => 3 | 4 => 4 | 20 => 20 | 0 => 0 | 46 => 55 | 109 => 203 | 5 => 5 | 72 => 207 | 76 => 34 | 51 => 172 | 146 => 230 | 53 => 202 | 148 => 232 | 70 => 205 | 37 => 50 | 75 => 26 | 127 => 234 | 164 => 146 | 80 => 208 | n => n, fun | n => n⟩
theorem Tryz.lays105 : Go.Proofs.Lays.n105 Tryz.prog Tryz.lays105_ren := {
  mixed := by kernel_rfl
  f99 := Tryz.func97.trans (congrArg some (by kernel_rfl))
  f105 := Tryz.func109.trans (congrArg some (by kernel_rfl))
  f165 := Tryz.func148.trans (congrArg some (by kernel_rfl))
  f166 := Tryz.func149.trans (congrArg some (by kernel_rfl))
  f169 := Tryz.func151.trans (congrArg some (by kernel_rfl))
  f170 := Tryz.func150.trans (congrArg some (by kernel_rfl))
  f206 := Tryz.func127.trans (congrArg some (by kernel_rfl))
  f212 := Tryz.func147.trans (congrArg some (by kernel_rfl))
  f240 := Tryz.func175.trans (congrArg some (by kernel_rfl))
  f241 := Tryz.func176.trans (congrArg some (by kernel_rfl))
  f263 := Tryz.func173.trans (congrArg some (by kernel_rfl))
  f264 := Tryz.func174.trans (congrArg some (by kernel_rfl))
  f276 := Tryz.func197.trans (congrArg some (by kernel_rfl))
  f277 := Tryz.func198.trans (congrArg some (by kernel_rfl))
  t0 := Tryz.underlying0
  a0 := Tryz.isAgg0
  z0 := Tryz.sizeOf0
  v0 := Tryz.zeroValue0
  t3 := Tryz.underlying3
  a3 := Tryz.isAgg3
  z3 := Tryz.sizeOf3
  v3 := Tryz.zeroValue3
  t4 := Tryz.underlying4
  a4 := Tryz.isAgg4
  z4 := Tryz.sizeOf4
  v4 := Tryz.zeroValue4
  t5 := Tryz.underlying5
  a5 := Tryz.isAgg5
  z5 := Tryz.sizeOf5
  v5 := Tryz.zeroValue5
  t9 := Tryz.underlying9
  a9 := Tryz.isAgg9
  z9 := Tryz.sizeOf9
  v9 := Tryz.zeroValue9
  t20 := Tryz.underlying20
  a20 := Tryz.isAgg20
  z20 := Tryz.sizeOf20
  v20 := Tryz.zeroValue20
  t37 := Tryz.underlying50
  a37 := Tryz.isAgg50
  z37 := Tryz.sizeOf50
  v37 := Tryz.zeroValue50
  t46 := Tryz.underlying55
  a46 := Tryz.isAgg55
  z46 := Tryz.sizeOf55
  v46 := Tryz.zeroValue55
  t51 := Tryz.underlying172
  a51 := Tryz.isAgg172
  z51 := Tryz.sizeOf172
  v51 := Tryz.zeroValue172
  t53 := Tryz.underlying202
  a53 := Tryz.isAgg202
  z53 := Tryz.sizeOf202
  v53 := Tryz.zeroValue202
  t70 := Tryz.underlying205
  a70 := Tryz.isAgg205
  z70 := Tryz.sizeOf205
  v70 := Tryz.zeroValue205
  t72 := Tryz.underlying207
  a72 := Tryz.isAgg207
  z72 := Tryz.sizeOf207
  v72 := Tryz.zeroValue207
  t75 := Tryz.underlying26
  a75 := Tryz.isAgg26
  z75 := Tryz.sizeOf26
  v75 := Tryz.zeroValue26
  t76 := Tryz.underlying34
  a76 := Tryz.isAgg34
  z76 := Tryz.sizeOf34
  v76 := Tryz.zeroValue34
  t109 := Tryz.underlying203
  a109 := Tryz.isAgg203
  z109 := Tryz.sizeOf203
  v109 := Tryz.zeroValue203
  t127 := Tryz.underlying234
  a127 := Tryz.isAgg234
  z127 := Tryz.sizeOf234
  v127 := Tryz.zeroValue234
  t146 := Tryz.underlying230
  a146 := Tryz.isAgg230
  z146 := Tryz.sizeOf230
  v146 := Tryz.zeroValue230
  t148 := Tryz.underlying232
  a148 := Tryz.isAgg232
  z148 := Tryz.sizeOf232
  v148 := Tryz.zeroValue232
  t164 := Tryz.underlying146
  a164 := Tryz.isAgg146
  z164 := Tryz.sizeOf146
  v164 := Tryz.zeroValue146 }
theorem Tryz.Builder_Extra_105 : Builder.Extra Tryz.prog Tryz.lays105_ren := {
  sizeBuilder := by kernel_rfl
  liesBuilder := by kernel_rfl
  t5 := Tryz.underlying5
  a5 := Tryz.isAgg5
  z5 := Tryz.sizeOf5
  v5 := Tryz.zeroValue5
  infoByte := by kernel_rfl
  cellsByte := by kernel_rfl
  sizeByte := by kernel_rfl
  neB5 := by decide }
open Go.RowKit Go.Lib in
theorem Tryz.strings_Repeat (s : ByteArray) (c : Nat) (w : World) (hc : c ≤ 9223372036854775807) (hlen : s.size * c ≤ 140737488355328) :
    Calls Tryz.prog 109 #[.string s, .int .i64 c] w fun e w' => e = .returned (.string ⟨(Lib.repeatL s.data.toList c).toArray⟩) ∧ Below w.heap.size w w' := Any.strings_Repeat Tryz.lays105 Tryz.Builder_Extra_105 s c w hc hlen
end Go.Proofs

/- Names of segments: what is written, and read again. No program. -/
namespace Go.Proofs.YthbhfhagbaommaaGreatDoor.Sn
open Go.Lib
set_option linter.unusedSimpArgs false
set_option linter.unusedVariables false

/-- A number of 10 digits at least. -/
def pad (l : List UInt8) : List UInt8 := List.replicate (10 - l.length) 48 ++ l
/-- A segment's file. -/
def nameL (dir : List UInt8) (n : Nat) : List UInt8 := dir ++ [47] ++ pad (decDigits n) ++ [46, 108, 111, 103]
theorem dec_ne (n : Nat) : decDigits n ≠ [] := by
  rw [decDigits]; split <;> simp
theorem dec_step {n : Nat} (h : ¬ n < 10) : decDigits n = decDigits (n / 10) ++ [UInt8.ofNat (48 + n % 10)] := by rw [decDigits, dif_neg h]
theorem digit_nat {d : Nat} (h : d < 10) : (UInt8.ofNat (48 + d)).toNat = 48 + d := UInt8.toNat_ofNat_of_lt' (by show _ < 256; omega)
/-- What digits spell behind a number. -/
theorem parse_dec : ∀ (f n acc : Nat) (r : List UInt8), n < f → n < 10000000000000 → acc ≤ 10000 → parseUint10 (acc * 10 ^ (decDigits n).length + n) r = parseUint10 acc (decDigits n ++ r) ∨ 0 < acc
  | 0, n, _, _, h, _, _ => absurd h (Nat.not_lt_zero _)
  | f + 1, n, acc, r, h, hn, ha => by
    by_cases h0 : 0 < acc
    · exact .inr h0
    · left
      have : acc = 0 := by omega
      subst this
      by_cases h10 : n < 10
      · rw [decDigits, dif_pos h10]
        simp only [List.cons_append, List.nil_append, parseUint10, digit_nat h10]
        rw [if_pos (by omega), if_neg (by omega), if_neg (by omega)]
        congr 1
        simp
      · have hq : n / 10 < f := by omega
        have ih := (parse_dec f (n / 10) 0 (UInt8.ofNat (48 + n % 10) :: r) hq (by omega) (by omega)).resolve_right (by omega)
        rw [dec_step h10, List.append_assoc, List.singleton_append, ← ih]
        simp only [Nat.zero_mul, Nat.zero_add, parseUint10]
        rw [digit_nat (Nat.mod_lt _ (by omega)), if_pos (by omega), if_neg (by omega), if_neg (by omega)]
        congr 1
        omega
theorem parse_dec0 {n : Nat} (hn : n < 10000000000000) : parseUint10 0 (decDigits n) = .ok n := by
  have := (parse_dec (n + 1) n 0 [] (by omega) hn (by omega)).resolve_right (by omega)
  rw [List.append_nil] at this
  rw [← this]; simp [parseUint10]
theorem parse_zeros : ∀ (k : Nat) (l : List UInt8), parseUint10 0 (List.replicate k 48 ++ l) = parseUint10 0 l
  | 0, l => rfl
  | k + 1, l => by
    rw [List.replicate_succ, List.cons_append, parseUint10]
    rw [if_pos (by decide), if_neg (by decide), if_neg (by decide)]
    exact parse_zeros k l
theorem dec_digit : ∀ (f n : Nat), n < f → ∀ c ∈ decDigits n, 48 ≤ c.toNat ∧ c.toNat ≤ 57
  | 0, n, h, _, _ => absurd h (Nat.not_lt_zero _)
  | f + 1, n, h, c, hc => by
    by_cases h10 : n < 10
    · rw [decDigits, dif_pos h10] at hc
      simp only [List.mem_singleton] at hc
      subst hc
      rw [digit_nat h10]; omega
    · rw [dec_step h10] at hc
      rcases List.mem_append.1 hc with hc | hc
      · exact dec_digit f (n / 10) (by omega) c hc
      · simp only [List.mem_singleton] at hc
        subst hc
        rw [digit_nat (Nat.mod_lt _ (by omega))]; omega
theorem pad_ne (n : Nat) : pad (decDigits n) ≠ [] := by
  unfold pad; simp [dec_ne]
theorem pad_digit (n : Nat) : ∀ c ∈ pad (decDigits n), 48 ≤ c.toNat ∧ c.toNat ≤ 57 := by
  intro c hc
  unfold pad at hc
  rcases List.mem_append.1 hc with hc | hc
  · have := List.eq_of_mem_replicate hc
    subst this; decide
  · exact dec_digit (n + 1) n (by omega) c hc
theorem mag_ok {l : List UInt8} {n : Nat} (hne : l ≠ []) (hd : ∀ c ∈ l, 48 ≤ c.toNat ∧ c.toNat ≤ 57) (hp : parseUint10 0 l = .ok n) (hn : n < 10000000000000) : atoiAll l = .ok n := by
  cases l with
  | nil => exact absurd rfl hne
  | cons c r =>
    have hc := hd c (by simp)
    unfold atoiAll
    simp only
    rw [if_neg (by omega)]
    unfold parseMag
    rw [if_neg (by simp), hp]
    simp only
    rw [if_neg (by omega), if_neg (by omega), if_neg (by omega)]
theorem atoi_pad {n : Nat} (hn : n < 10000000000000) : atoiAll (pad (decDigits n)) = .ok n :=
  mag_ok (pad_ne n) (pad_digit n) (by unfold pad; rw [parse_zeros, parse_dec0 hn]) hn
theorem atoi_dec {n : Nat} (hn : n < 10000000000000) : atoiAll (decDigits n) = .ok n :=
  mag_ok (dec_ne n) (dec_digit (n + 1) n (by omega)) (parse_dec0 hn) hn
/-- The first digit of a number above 0 is none. -/
theorem dec_head : ∀ (f n : Nat), n < f → 0 < n → ∃ c r, decDigits n = c :: r ∧ c ≠ 48
  | 0, n, h, _ => absurd h (Nat.not_lt_zero _)
  | f + 1, n, h, h0 => by
    by_cases h10 : n < 10
    · refine ⟨_, [], by rw [decDigits, dif_pos h10], fun e => ?_⟩
      have := congrArg UInt8.toNat e
      rw [digit_nat h10] at this
      have h48 : (48 : UInt8).toNat = 48 := rfl
      omega
    · obtain ⟨c, r, e, hc⟩ := dec_head f (n / 10) (by omega) (by omega)
      exact ⟨c, r ++ [UInt8.ofNat (48 + n % 10)], by rw [dec_step h10, e]; rfl, hc⟩
theorem trimLeft_zeros : ∀ (k : Nat) (l : List UInt8), trimLeftB (List.replicate k 48 ++ l) 48 = trimLeftB l 48
  | 0, l => rfl
  | k + 1, l => by
    rw [List.replicate_succ, List.cons_append]
    unfold trimLeftB
    rw [List.dropWhile_cons_of_pos (by decide)]
    exact trimLeft_zeros k l
theorem trimLeft_pad (n : Nat) : trimLeftB (pad (decDigits n)) 48 = if n = 0 then [] else decDigits n := by
  unfold pad
  rw [trimLeft_zeros]
  by_cases h0 : n = 0
  · subst h0
    rw [if_pos rfl, decDigits, dif_pos (by omega)]
    decide
  · rw [if_neg h0]
    obtain ⟨c, r, e, hc⟩ := dec_head (n + 1) n (by omega) (by omega)
    rw [e]
    unfold trimLeftB
    rw [List.dropWhile_cons_of_neg (by simpa using hc)]
theorem dropWhile_all {p : UInt8 → Bool} : ∀ {l : List UInt8}, l.dropWhile p = [] ↔ ∀ c ∈ l, p c = true
  | [] => by simp
  | c :: r => by
    cases h : p c
    · rw [List.dropWhile_cons_of_neg (by simp [h])]
      simp [h]
    · rw [List.dropWhile_cons_of_pos h, dropWhile_all]
      simp [h]
theorem trim_nil (l : List UInt8) : trimB l 48 = [] ↔ ∀ c ∈ l, c = 48 := by
  unfold trimB trimLeftB trimRightB
  constructor
  · intro h
    have h1 := dropWhile_all.1 h
    intro c hc
    by_cases h48 : c = 48
    · exact h48
    · exfalso
      have : c ∈ (l.reverse.dropWhile (· == 48)) := by
        have hs := List.takeWhile_append_dropWhile (p := (· == (48 : UInt8))) (l := l.reverse)
        have hm : c ∈ l.reverse := by simpa using hc
        rw [← hs] at hm
        rcases List.mem_append.1 hm with hm | hm
        · exact absurd (by simpa using List.all_eq_true.1 (List.all_takeWhile (p := (· == (48 : UInt8))) (l := l.reverse)) c hm) h48
        · exact hm
      have := h1 c (by simpa using this)
      exact h48 (by simpa using this)
  · intro h
    rw [dropWhile_all]
    intro c hc
    have : c ∈ l := by
      have hm : c ∈ l.reverse.dropWhile (· == 48) := by simpa using hc
      have := (List.dropWhile_sublist (p := (· == (48 : UInt8))) (l := l.reverse)).subset hm
      simpa using this
    simpa using h c this
theorem trim_pad (n : Nat) : trimB (pad (decDigits n)) 48 = [] ↔ n = 0 := by
  rw [trim_nil]
  constructor
  · intro h
    by_cases h0 : n = 0
    · exact h0
    · exfalso
      obtain ⟨c, r, e, hc⟩ := dec_head (n + 1) n (by omega) (by omega)
      exact hc (h c (by unfold pad; rw [e]; simp))
  · rintro rfl c hc
    unfold pad at hc
    rcases List.mem_append.1 hc with hc | hc
    · exact List.eq_of_mem_replicate hc
    · rw [decDigits, dif_pos (by omega)] at hc
      simpa using hc
/-- What is left of a segment's file without its directory and its ending. -/
theorem rest_name (dir : List UInt8) (n : Nat) : trimSuffix (trimPrefix (nameL dir n) (dir ++ [47])) [46, 108, 111, 103] = pad (decDigits n) := by
  have h1 : trimPrefix (nameL dir n) (dir ++ [47]) = pad (decDigits n) ++ [46, 108, 111, 103] := by
    unfold trimPrefix nameL hasPrefix
    rw [List.append_assoc (dir ++ [47])]
    rw [if_pos (by simp)]
    simp
  rw [h1]
  unfold trimSuffix hasSuffix
  rw [if_pos (by simp)]
  simp
end Go.Proofs.YthbhfhagbaommaaGreatDoor.Sn

/- Names of segments: the library's variables that are read; segment.Name, conveyorref.Told of one number, conveyorref.SegName. -/
namespace Go.Proofs.YthbhfhagbaommaaGreatDoor.Sn
open Go.Lib Go.RowKit
set_option linter.unusedSimpArgs false
set_option linter.unusedVariables false
attribute [local go_sem] Oper.semAt_some

/-- The powers of ten lie as the library's own text lays them. -/
def TabT (w : World) : Prop := TabIs Tryz.prog w "internal/strconv.uint64pow10" .u64 pow10Tab
/-- The library's variables lie as its own text lays them. -/
structure VarT (w : World) : Prop where
  tab : TabT w
  syn : ∃ tp p, w.var? Tryz.prog "strconv.ErrSyntax" = some #[.iface tp p]
  rng : ∃ tp p, w.var? Tryz.prog "strconv.ErrRange" = some #[.iface tp p]

theorem var_below {w w' : World} {n : String} {cs : Array Value} (hb : Below w.heap.size w w') (h : w.var? Tryz.prog n = some cs) : w'.var? Tryz.prog n = some cs := by
  unfold World.var? at h ⊢
  cases hg : Tryz.prog.globalNamed n with
  | none => rw [hg] at h; cases h
  | some g =>
    rw [hg] at h
    simp only [Option.bind_some] at h ⊢
    by_cases hl : g < w.heap.size
    · rw [hb.block g hl]; exact h
    · rw [Array.getElem?_eq_none (by omega)] at h; cases h
theorem TabT.below {w w' : World} (h : TabT w) (hb : Below w.heap.size w w') : TabT w' := var_below hb h
theorem VarT.below {w w' : World} (h : VarT w) (hb : Below w.heap.size w w') : VarT w' :=
  ⟨var_below hb h.tab, h.syn.imp fun tp ⟨p, e⟩ => ⟨p, var_below hb e⟩, h.rng.imp fun tp ⟨p, e⟩ => ⟨p, var_below hb e⟩⟩
theorem below_grow (w : World) (k : Nat) (os : Array Obj) : Below w.heap.size w (Go.Sort.grow (w.drewN k) os) :=
  ⟨rfl, rfl, rfl, by simp [Go.Sort.grow], fun i hi => by simp [Go.Sort.grow, Array.getElem?_append_left hi]⟩
theorem below_bytes (w : World) (e : TypeId) (s : ByteArray) : Below w.heap.size w (bytesWorld w e s) :=
  ⟨rfl, rfl, rfl, by rw [bytesWorld_size]; omega, fun j hj => bytesWorld_at_old w e s j hj⟩
theorem below_step {a b c : World} (h : Below a.heap.size a b) (k : Below b.heap.size b c) : Below a.heap.size a c := h.trans (k.mono h.size)

theorem itoa_any (n : Nat) (hn : n ≤ 1099511627776) (w : World) (hv : TabT w) :
    Calls Tryz.prog 108 #[.int .i64 (n : Int)] w fun e w' => ∃ S : ByteArray, e = .returned (.string S) ∧ S.data.toList = decDigits n ∧ Below w.heap.size w w' := by
  refine (Tryz.strconv_Itoa (n : Int) (by omega) (by omega) w hv).mono ?_
  rintro e w' ⟨rfl, k, os, rfl⟩
  exact ⟨_, rfl, by simp [itoa_nonneg], below_grow w k os⟩
theorem rep_zero : ∀ c, repeatL [48] c = List.replicate c 48
  | 0 => rfl
  | c + 1 => by rw [repeatL, rep_zero c]; rfl
theorem dec_short {n : Nat} (hn : n ≤ 1099511627776) : (decDigits n).length ≤ 21 := by
  have := itoa_length_le (n : Int) (by omega) (by omega)
  rwa [itoa_nonneg] at this

theorem rep_any (c : Nat) (hc : c ≤ 10) (w : World) :
    Calls Tryz.prog 109 #[.string ⟨#[48]⟩, .int .i64 (c : Int)] w fun e w' => ∃ R : ByteArray, e = .returned (.string R) ∧ R.data.toList = List.replicate c 48 ∧ Below w.heap.size w w' := by
  refine (Tryz.strings_Repeat ⟨#[48]⟩ c w (by omega) (by show 1 * c ≤ _; omega)).mono ?_
  rintro e w' ⟨rfl, hb⟩
  exact ⟨_, rfl, by simp [rep_zero], hb⟩
/-- A segment's file, as a text. -/
def nameB (dir : ByteArray) (n : Nat) : ByteArray := ⟨(nameL dir.data.toList n).toArray⟩

theorem nameB_of {dir S R : ByteArray} (n : Nat) (hS : S.data.toList = decDigits n) (hR : R.data.toList = List.replicate (10 - S.size) 48) : dir ++ ⟨#[47]⟩ ++ R ++ S ++ ⟨#[46, 108, 111, 103]⟩ = nameB dir n := by
  apply ByteArray.ext
  apply Array.toList_inj.1
  unfold nameB nameL pad
  have hz : S.size = (decDigits n).length := by rw [size_eq, hS]
  simp [ByteArray.data_append, hS, hR, hz]

set_option maxHeartbeats 1000000 in
theorem name_any (dir : ByteArray) (n : Nat) (hn : n ≤ 1099511627776) (hd : dir.size ≤ 1000) (w : World) (hv : TabT w) :
    Calls Tryz.prog 72 #[.string dir, .int .i64 (n : Int)] w fun e w' => e = .returned (.string (nameB dir n)) ∧ Below w.heap.size w w' := by
  have HV := hide hv
  clear hv
  go_enter Tryz.func72, Tryz.ntmps72
  go_wp2_with fail
  refine (itoa_any n hn _ HV.out).mono ?_
  rintro e w1 ⟨S, rfl, hS, hb1⟩
  have hsz : S.size ≤ 21 := by rw [size_eq, hS]; exact dec_short hn
  have hmax : max (10 - (S.size : Int)) 0 = ((10 - S.size : Nat) : Int) := by omega
  go_wp2_with fail
  clear hmax
  refine (rep_any (10 - S.size) (by omega) _).mono ?_
  rintro e w2 ⟨R, rfl, hR, hb2⟩
  have HE : Hid (dir ++ ⟨#[47]⟩ ++ R ++ S ++ ⟨#[46, 108, 111, 103]⟩ = nameB dir n) := nameB_of n hS hR
  have hRs : R.size ≤ 10 := by rw [size_eq, hR]; simp
  clear hS hR
  go_wp2_with fail
  go_ret
  exact ⟨by rw [← HE.out]; rfl, below_step hb1 hb2⟩

theorem oper_append1 {P : Program} {o : Oper} {a : Act} {K : Act → World → Prop} {Q : Exit → Act → World → Prop} {w w' : World} {s x : Operand} {t tx : TypeId} {v xv v' : Value}
    (ho : o.op = .call { callee := .builtin .append, args := #[s, x], argTypes := #[t, tx] }) (hs : a.eval s = v) (hx : a.eval x = xv) (hr : (Builtin.append_ #[t, tx] o.type #[v, xv]).run P w = .ok v' w') (h : K (a.put o.dst v') w') : o.wp P a w K Q := by
  unfold Oper.wp execOp
  simp only [ho, resolve, invoke, builtin, Sem.run_bind, Sem.run_pure, Result.andThen_ok, List.map_toArray, List.map_cons, List.map_nil, hs, hx, hr]
  exact h
theorem wpList_append1 {P : Program} {ops : Array Oper} {rest : List Oper} {o : Oper} {a : Act} {Q : Exit → Act → World → Prop} {w w' : World} (hgd : o.guard = none) {s x : Operand} {t tx : TypeId} {v xv v' : Value}
    (ho : o.op = .call { callee := .builtin .append, args := #[s, x], argTypes := #[t, tx] }) (hs : a.eval s = v) (hx : a.eval x = xv) (hr : (Builtin.append_ #[t, tx] o.type #[v, xv]).run P w = .ok v' w') (h : wpList P ops Q rest (a.put o.dst v') w') : wpList P ops Q (o :: rest) a w :=
  wpList_plain hgd fun _ hK => oper_append1 ho hs hx hr (hK _ _ h)
theorem Tryz.infoSt : (Tryz.prog.info? 9).map (fun i => (i.zero, i.size, i.bytes)) = some (some (.string ⟨#[]⟩), 1, 16) := by kernel_rfl
theorem info_parts1 {P : Program} {t : TypeId} {z : Value} {s b : Nat} (h : (P.info? t).map (fun i => (i.zero, i.size, i.bytes)) = some (some z, s, b)) : ∃ i, P.info? t = some i ∧ i.zero = some z ∧ i.size = s ∧ i.bytes = b := by
  obtain ⟨i, hi, e⟩ := Option.map_eq_some_iff.1 h
  simp only [Prod.mk.injEq] at e
  exact ⟨i, hi, e.1, e.2.1, e.2.2⟩

end Go.Proofs.YthbhfhagbaommaaGreatDoor.Sn

/- Names of segments: segment.Base and conveyorref.SegBase answer alike. -/
namespace Go.Proofs.YthbhfhagbaommaaGreatDoor.Sn
open Go.Lib Go.RowKit
set_option linter.unusedSimpArgs false
set_option linter.unusedVariables false
attribute [local go_sem] Oper.semAt_some
set_option maxRecDepth 100000

theorem name_inj {d : List UInt8} {n m : Nat} (hn : n ≤ 1099511627776) (hm : m ≤ 1099511627776) (h : nameL d n = nameL d m) : n = m := by
  have h1 := rest_name d n
  rw [h, rest_name d m] at h1
  have a := atoi_pad (n := n) (by omega)
  have b := atoi_pad (n := m) (by omega)
  rw [h1] at b
  rw [a] at b
  have : (n : Int) = m := by simpa using b
  omega
open Classical in
/-- The offset in a file's name. -/
noncomputable def baseS (d l : List UInt8) : Int := if h : ∃ n : Nat, n ≤ 1099511627776 ∧ l = nameL d n then (h.choose : Int) else -1
theorem baseS_yes {d : List UInt8} {n : Nat} (hn : n ≤ 1099511627776) : baseS d (nameL d n) = n := by
  have h : ∃ m : Nat, m ≤ 1099511627776 ∧ nameL d n = nameL d m := ⟨n, hn, rfl⟩
  unfold baseS
  rw [dif_pos h, name_inj h.choose_spec.1 hn h.choose_spec.2.symm]
theorem baseS_no {d l : List UInt8} (h : ¬ ∃ n : Nat, n ≤ 1099511627776 ∧ l = nameL d n) : baseS d l = -1 := by
  unfold baseS
  rw [dif_neg h]

/-- What is left of a name without its directory and its ending. -/
def restL (d l : List UInt8) : List UInt8 := trimSuffix (trimPrefix l (d ++ [47])) [46, 108, 111, 103]
theorem restL_len (d l : List UInt8) : (restL d l).length ≤ l.length := by
  unfold restL trimSuffix trimPrefix
  repeat' split
  all_goals simp
  all_goals omega

theorem offset_any (z : Int) (w : World) :
    Calls Tryz.prog 76 #[.int .i64 z] w fun e w' => e = .returned (.bool (decide (0 ≤ z ∧ z ≤ 1099511627776))) ∧ w' = w := by
  by_cases h : 0 ≤ z ∧ z ≤ 1099511627776
  · have HD : Hid (decide (0 ≤ z ∧ z ≤ 1099511627776) = true) := decide_eq_true h
    obtain ⟨h1, h2⟩ := h
    go_enter Tryz.func76, Tryz.ntmps76
    go_wp2
    go_ret
    exact ⟨ret_bool HD.out.symm, rfl⟩
  · have HD : Hid (decide (0 ≤ z ∧ z ≤ 1099511627776) = false) := decide_eq_false h
    by_cases h1 : 0 ≤ z
    · have h2 : ¬ z ≤ 1099511627776 := fun e => h ⟨h1, e⟩
      clear h
      go_enter Tryz.func76, Tryz.ntmps76
      go_wp2
      go_ret
      exact ⟨ret_bool (by rw [eq_comm, Bool.eq_false_iff]; simp; omega), rfl⟩
    · clear h
      go_enter Tryz.func76, Tryz.ntmps76
      go_wp2
      go_ret
      exact ⟨ret_bool (by rw [eq_comm, Bool.eq_false_iff]; simp; omega), rfl⟩

theorem pre_any (name dir : ByteArray) (w : World) :
    Calls Tryz.prog 74 #[.string name, .string (dir ++ (⟨#[47]⟩ : ByteArray))] w fun e w' => ∃ P : ByteArray, e = .returned (.string P) ∧ P.data.toList = trimPrefix name.data.toList (dir.data.toList ++ [47]) ∧ w = w' := by
  have h := Tryz.strings_TrimPrefix name (dir ++ (⟨#[47]⟩ : ByteArray)) w
  refine h.mono ?_
  rintro e w' ⟨rfl, rfl⟩
  exact ⟨⟨(trimPrefix name.data.toList (dir ++ (⟨#[47]⟩ : ByteArray)).data.toList).toArray⟩, rfl, by rw [ByteArray.data_append]; simp, rfl⟩
theorem suf_any (P : ByteArray) (w : World) (hP : P.size ≤ 1000) :
    Calls Tryz.prog 73 #[.string P, .string ⟨#[46, 108, 111, 103]⟩] w fun e w' => ∃ R : ByteArray, e = .returned (.string R) ∧ R.data.toList = trimSuffix P.data.toList [46, 108, 111, 103] ∧ w = w' := by
  have h9 : P.size ≤ 9223372036854775807 := Nat.le_trans hP (by decide)
  have h := Tryz.strings_TrimSuffix P ⟨#[46, 108, 111, 103]⟩ w h9
  refine h.mono ?_
  rintro e w' ⟨rfl, rfl⟩
  exact ⟨⟨(trimSuffix P.data.toList [46, 108, 111, 103]).toArray⟩, rfl, rfl, rfl⟩
theorem pre_len (l p : List UInt8) : (trimPrefix l p).length ≤ l.length := by
  unfold trimPrefix; split <;> simp
theorem below_same {w w' : World} {e : TypeId} (h : w' = w ∨ ∃ t, w' = bytesWorld w e t) : Below w.heap.size w w' := by
  rcases h with rfl | ⟨t, rfl⟩
  · exact Below.refl _ _
  · exact below_bytes _ _ _
theorem atoi_bounds {l : List UInt8} {v : Int} (h : atoiAll l = .ok v) : -9223372036854775808 ≤ v ∧ v ≤ 9223372036854775807 := by
  rw [← parseIntB_64] at h
  have := parseIntB_bounds h
  omega
theorem atoi_any (R : ByteArray) (hR : R.size ≤ 1000) (w : World) (hv : VarT w) :
    Calls Tryz.prog 75 #[.string R] w fun e w' => (∃ v er, e = .returned (.tuple #[.int .i64 v, er]) ∧ ((er = .nilIface ∧ atoiAll R.data.toList = .ok v) ∨ ((∀ u, atoiAll R.data.toList ≠ .ok u) ∧ ∃ N, er = .iface 212 (.pointer (some ⟨N, 0, none⟩))))) ∧ Below w.heap.size w w' := by
  obtain ⟨tp, p, h1⟩ := hv.syn
  obtain ⟨tq, q, h2⟩ := hv.rng
  cases hA : atoiAll R.data.toList with
  | ok v =>
    refine (Tryz.strconv_Atoi_ok R (by omega) v hA w).mono ?_
    rintro e w' ⟨rfl, h⟩
    exact ⟨⟨_, _, rfl, .inl ⟨rfl, rfl⟩⟩, below_same h⟩
  | «syntax» =>
    refine (Tryz.strconv_Atoi_syntax_var R (by omega) hA tp p w h1).mono ?_
    rintro e w' ⟨N, rfl, _, _, hb⟩
    exact ⟨⟨_, _, rfl, .inr ⟨fun u e => (by cases e), N, rfl⟩⟩, hb⟩
  | range =>
    refine (Tryz.strconv_Atoi_range_var R (by omega) hA tq q w h2).mono ?_
    rintro e w' ⟨N, rfl, _, _, hb⟩
    exact ⟨⟨_, _, rfl, .inr ⟨fun u e => (by cases e), N, rfl⟩⟩, hb⟩

theorem name_ne {dir name : ByteArray} (h : ¬ ∃ n : Nat, n ≤ 1099511627776 ∧ name.data.toList = nameL dir.data.toList n) {n : Nat} (hn : n ≤ 1099511627776) : ((nameB dir n).toList == name.toList) = false := by
  rw [beq_eq_false_iff_ne]
  intro e
  refine h ⟨n, hn, ?_⟩
  rw [toList_data, toList_data] at e
  rw [← e]; simp [nameB]
theorem name_eq {dir name : ByteArray} {n : Nat} (h : name.data.toList = nameL dir.data.toList n) : ((nameB dir n).toList == name.toList) = true := by
  rw [beq_iff_eq, toList_data, toList_data, h]; simp [nameB]

set_option maxHeartbeats 1000000 in
theorem base_no (dir name : ByteArray) (hd : dir.size ≤ 1000) (hl : name.size ≤ 1000) (w : World) (hv : VarT w) (hno : ¬ ∃ n : Nat, n ≤ 1099511627776 ∧ name.data.toList = nameL dir.data.toList n) :
    Calls Tryz.prog 43 #[.string dir, .string name] w fun e w' => e = .returned (.int .i64 (-1)) ∧ Below w.heap.size w w' := by
  have HV := hide hv
  have HN := hide hno
  clear hv hno
  go_enter Tryz.func43, Tryz.ntmps43
  go_wp2_with fail
  refine (pre_any name dir _).mono ?_
  rintro e w' ⟨P, rfl, hP, rfl⟩
  have hPs : P.size ≤ 1000 := by rw [size_eq, hP]; have := pre_len name.data.toList (dir.data.toList ++ [47]); rw [size_eq] at hl; omega
  go_wp2_with fail
  refine (suf_any P _ hPs).mono ?_
  rintro e w' ⟨R, rfl, hR, rfl⟩
  rw [hP] at hR
  have hRl : R.data.toList = restL dir.data.toList name.data.toList := hR
  have hRs : R.size ≤ 1000 := by rw [size_eq, hRl]; have := restL_len dir.data.toList name.data.toList; rw [size_eq] at hl; omega
  clear hP hR hRl
  go_wp2_with fail
  refine (atoi_any R hRs _ HV.out).mono ?_
  rintro e w1 ⟨⟨v, er, rfl, hor⟩, hb1⟩
  have HB1 := hide hb1
  clear hb1
  rcases hor with ⟨rfl, hat⟩ | ⟨hat, N, rfl⟩
  · have hat2 := atoi_bounds hat
    clear hat
    obtain ⟨v1, v2⟩ := hat2
    by_cases h : 0 ≤ v ∧ v ≤ 1099511627776
    · have hdc : decide (0 ≤ v ∧ v ≤ 1099511627776) = true := by simp [h]
      go_wp2_with (go_at_call 76; refine (offset_any _ _).mono ?_; rintro e w' ⟨rfl, rfl⟩)
      obtain ⟨n, rfl⟩ := Int.eq_ofNat_of_zero_le h.1
      refine (name_any dir n (by omega) hd _ (HV.out.below HB1.out).tab).mono ?_
      rintro e w2 ⟨rfl, hb2⟩
      have hne := name_ne HN.out (show n ≤ 1099511627776 by omega)
      go_wp2_with fail
      go_ret
      exact ⟨rfl, below_step HB1.out hb2⟩
    · have hdc : decide (0 ≤ v ∧ v ≤ 1099511627776) = false := by simp [h]
      go_wp2_with (go_at_call 76; refine (offset_any _ _).mono ?_; rintro e w' ⟨rfl, rfl⟩)
      go_ret
      exact ⟨rfl, HB1.out⟩
  · clear hat
    go_wp2
    go_ret
    exact ⟨rfl, HB1.out⟩

set_option maxHeartbeats 1000000 in
theorem base_yes (dir name : ByteArray) (hd : dir.size ≤ 1000) (hl : name.size ≤ 1000) (w : World) (hv : VarT w) (n : Nat) (hn : n ≤ 1099511627776) (hna : name.data.toList = nameL dir.data.toList n) :
    Calls Tryz.prog 43 #[.string dir, .string name] w fun e w' => e = .returned (.int .i64 n) ∧ Below w.heap.size w w' := by
  have HV := hide hv
  have HN := hide hna
  clear hv hna
  go_enter Tryz.func43, Tryz.ntmps43
  go_wp2_with fail
  refine (pre_any name dir _).mono ?_
  rintro e w' ⟨P, rfl, hP, rfl⟩
  have hPs : P.size ≤ 1000 := by rw [size_eq, hP]; have := pre_len name.data.toList (dir.data.toList ++ [47]); rw [size_eq] at hl; omega
  go_wp2_with fail
  refine (suf_any P _ hPs).mono ?_
  rintro e w' ⟨R, rfl, hR, rfl⟩
  rw [hP] at hR
  have hRl : R.data.toList = restL dir.data.toList name.data.toList := hR
  have hRs : R.size ≤ 1000 := by rw [size_eq, hRl]; have := restL_len dir.data.toList name.data.toList; rw [size_eq] at hl; omega
  rw [HN.out] at hR
  rw [rest_name] at hR
  have hat : atoiAll R.data.toList = .ok (n : Int) := by rw [hR]; exact atoi_pad (by omega)
  have HA := hide hat
  clear hP hR hRl hat
  go_wp2_with fail
  refine (atoi_any R hRs _ HV.out).mono ?_
  rintro e w1 ⟨⟨v, er, rfl, hor⟩, hb1⟩
  have HB1 := hide hb1
  clear hb1
  rcases hor with ⟨rfl, hat⟩ | ⟨hat, N, rfl⟩
  · obtain rfl : v = (n : Int) := by rw [HA.out] at hat; simpa using hat.symm
    clear hat
    have hdc : decide (0 ≤ (n : Int) ∧ (n : Int) ≤ 1099511627776) = true := decide_eq_true ⟨by omega, by omega⟩
    go_wp2_with (go_at_call 76; refine (offset_any _ _).mono ?_; rintro e w' ⟨rfl, rfl⟩)
    refine (name_any dir n (by omega) hd _ (HV.out.below HB1.out).tab).mono ?_
    rintro e w2 ⟨rfl, hb2⟩
    have hne := name_eq HN.out
    go_wp2_with fail
    go_ret
    exact ⟨rfl, below_step HB1.out hb2⟩
  · exact absurd HA.out (hat _)
end Go.Proofs.YthbhfhagbaommaaGreatDoor.Sn

/- slices.Clone of bytes; Read. -/
namespace Go.Proofs.YthbhfhagbaommaaGreatDoor.Dk
open Go.RowKit Go.Maps
set_option linter.unusedSimpArgs false

section
variable {w w' : World} {base d : Nat} {F : List Nat} {A A' : DA} {mref : Option Nat} {ms : List FileM}

set_option maxRecDepth 100000 in
set_option maxHeartbeats 1000000 in
theorem clone_any (w : World) (v : Value) (bs : List UInt8) (hx : SliceAt w v (bs.map encB)) (hbs : bs.length ≤ 1099511627776) :
    Calls Tryz.prog 158 #[v] w fun e w' => ∃ v', e = .returned v' ∧ RowAt w' 5 w.heap.size v' bs ∧ Turn [] w w' := by
  obtain ⟨i0, hi, hz, hz1, hz2⟩ := info_parts Tryz.infoB
  have hq : ∀ (w : World) (a : Option Addr) (n c : Nat), (binOp .eql 50 (.slice a n c) (.slice none 0 0)).run Tryz.prog w = .ok (.bool a.isNone) w := fun w a n c => Go.Lib.run_eql_slice_nil w _ _ a n c 0 0 Tryz.underlying50
  rcases hx with ⟨rfl, hb⟩ | ⟨a, c, rfl, hc⟩
  · have hb' : bs = [] := by simpa using hb
    subst hb'
    go_enter Tryz.func158, Tryz.ntmps158
    go_wp2
    go_ret
    exact ⟨_, rfl, .inl ⟨rfl, rfl⟩, Turn.refl _ _⟩
  · simp only [List.length_map]
    have HX : Hid (SliceAt w (.slice (some a) bs.length c) (bs.map encB)) := .inr ⟨a, c, by simp, hc⟩
    clear hc
    go_enter Tryz.func158, Tryz.ntmps158
    go_wp2_with (at_builtin; go_must (refine wpList_append_row _ rfl _ _ 50 rfl 5 w.heap.size i0 Tryz.underlying50 hi hz hz1 hz2 (.slice (some ⟨w.heap.size, 0, none⟩) 0 0) (.slice (some a) bs.length c) [] bs rfl rfl (.inr ⟨w.heap.size, 0, #[], rfl, Nat.le_refl _, heap_new w _, by simp, by simp, by simp, by simp⟩) (HX.out.kept ((Turn.refl [] w).alloc _) (by simp)) (by simp; omega) (by simp) ?_; intro v3 w3 hrow3 ht4 hown3; rw [List.nil_append] at hrow3))
    go_ret
    exact ⟨_, rfl, hrow3, ((Turn.refl [] w).alloc (.cells #[] 5)).trans ht4 (by simp [Value.ownBlock])⟩

/-- What Read tells. -/
def readL (bs : List UInt8) (off most : Int) : List UInt8 := if off < 0 ∨ (bs.length : Int) ≤ off ∨ most ≤ 0 then [] else (bs.drop off.toNat).take most.toNat
def DA.bytesOf (A : DA) (nm : List UInt8) : List UInt8 := match A.files.find? (fun f => f.name == nm) with
  | some f => f.bytes
  | none => []
theorem bytesOf_eq (h : Parts w base d F A mref ms) (nm : List UInt8) : A.bytesOf nm = match findM ms nm with
  | some m => m.abs.bytes
  | none => [] := by
  unfold DA.bytesOf findM
  rw [h.files, List.find?_map]
  simp only [Function.comp_def]
  cases List.find? (fun m => m.abs.name == nm) ms <;> rfl

theorem RowAt.zero {w : World} {e base : Nat} : RowAt w e base (.slice none 0 0) [] := .inl ⟨rfl, rfl⟩

set_option maxRecDepth 100000 in
set_option maxHeartbeats 1000000 in
theorem read_none (h : Parts w base d F A mref ms) (s : ByteArray) (hs : s.size ≤ maxLen) (off most : Int) (hn : findM ms s.data.toList = none) :
    Calls Tryz.prog 117 #[.pointer (some ⟨d, 0, none⟩), .string s, .int .i64 off, .int .i64 most] w fun e w' => e = .returned (.slice none 0 0) ∧ w = w' := by
  have c1 := h.c1
  have hlook := h.map.look hs
  rw [hn] at hlook
  simp only [ptrOf] at hlook
  clear hn h
  go_enter Tryz.func117, Tryz.ntmps117
  go_wp2
  go_ret
  exact ⟨rfl, rfl⟩

set_option maxRecDepth 100000 in
set_option maxHeartbeats 1000000 in
theorem read_some (h : Parts w base d F A mref ms) (s : ByteArray) (hs : s.size ≤ maxLen) (off most : Int) (m : FileM) (hn : findM ms s.data.toList = some m) (hm : -9223372036854775808 ≤ most ∧ most ≤ 9223372036854775807) :
    Calls Tryz.prog 117 #[.pointer (some ⟨d, 0, none⟩), .string s, .int .i64 off, .int .i64 most] w fun e w' => ∃ v, e = .returned v ∧ RowAt w' 5 w.heap.size v (readL m.abs.bytes off most) ∧ Turn [] w w' := by
  have c1 := h.c1
  have hlook := h.map.look hs
  rw [hn] at hlook
  simp only [ptrOf] at hlook
  have hfa := h.each m (findM_mem hn).1
  obtain ⟨sa, sc, hsl, hsl1, hsl2⟩ := hfa.2.form
  have cf : w.cell? ⟨m.blk, 0, none⟩ = some (.slice sa m.abs.bytes.length sc) := by rw [cell_of hfa.1, hsl]; rfl
  have hlen : m.abs.bytes.length ≤ 1048576 := by
    have h1 := h.good.used
    have h2 := h.good.room
    rw [h.files] at h1
    obtain ⟨pre, post, e, _⟩ := split_at hn
    rw [e, List.map_append, List.map_cons, usedL_split] at h1
    omega
  by_cases hz : off < 0 ∨ (m.abs.bytes.length : Int) ≤ off ∨ most ≤ 0
  · have HE : Hid (readL m.abs.bytes off most = []) := by show _ = _; simp [readL, hz]
    have HF : Hid (off < 0 ∨ (m.abs.bytes.length : Int) ≤ off ∨ most ≤ 0) := hz
    clear hn h hfa hsl hz
    by_cases h1 : off < 0
    · go_enter Tryz.func117, Tryz.ntmps117
      go_wp2
      go_ret
      exact ⟨_, rfl, by rw [HE.out]; exact RowAt.zero, Turn.refl _ _⟩
    · by_cases h2 : (m.abs.bytes.length : Int) ≤ off
      · go_enter Tryz.func117, Tryz.ntmps117
        go_wp2
        go_ret
        exact ⟨_, rfl, by rw [HE.out]; exact RowAt.zero, Turn.refl _ _⟩
      · have h3 : most ≤ 0 := by have := HF.out; omega
        go_enter Tryz.func117, Tryz.ntmps117
        go_wp2
        go_ret
        exact ⟨_, rfl, by rw [HE.out]; exact RowAt.zero, Turn.refl _ _⟩
  · have HE : Hid (readL m.abs.bytes off most = (m.abs.bytes.drop off.toNat).take most.toNat) := by show _ = _; simp only [readL, hz, if_false]
    have h1 : ¬ off < 0 := by omega
    have h2 : ¬ (m.abs.bytes.length : Int) ≤ off := by omega
    have h3 : ¬ most ≤ 0 := by omega
    obtain ⟨n, rfl⟩ := Int.eq_ofNat_of_zero_le (show 0 ≤ off by omega)
    obtain ⟨k, rfl⟩ := Int.eq_ofNat_of_zero_le (show 0 ≤ most by omega)
    have hR := hfa.2
    rcases hR with ⟨_, hb0⟩ | ⟨g, cap, cur, hsl', hbg, hg, hc1, hc2, hc3, htk⟩
    · rw [hb0] at h2; simp at h2
    clear cf hsl1 hsl2
    have cf : w.cell? ⟨m.blk, 0, none⟩ = some (.slice (some ⟨g, 0, none⟩) m.abs.bytes.length cap) := by rw [cell_of hfa.1, hsl']; rfl
    have hn1 : n < m.abs.bytes.length := by omega
    have hk1 : 0 < k := by omega
    have hs1 : ∀ w, (Instr.slice 50 (.slice (some ⟨g, 0, none⟩) m.abs.bytes.length cap) (some (.int .i64 (n : Int))) none none).run Tryz.prog w = .ok (.slice (some ⟨g, n, none⟩) (m.abs.bytes.length - n) (cap - n)) w := by
      intro w
      have hsz : (sizeOf 5).run Tryz.prog w = .ok 1 w := by kernel_rfl
      have hne : ¬ cap = n := by omega
      simp [Instr.slice, run_underlying Tryz.underlying50, Instr.sliceBounds, run_sliceBound, hsz, Result.andThen, (by omega : n ≤ m.abs.bytes.length), hne, addr_add]
    have hs2 : ∀ (j : Nat) w, j ≤ cap - n → (Instr.slice 50 (.slice (some ⟨g, n, none⟩) (m.abs.bytes.length - n) (cap - n)) none (some (.int .i64 (j : Int))) none).run Tryz.prog w = .ok (.slice (some ⟨g, n, none⟩) j (cap - n)) w := by
      intro j w hj
      have hsz : (sizeOf 5).run Tryz.prog w = .ok 1 w := by kernel_rfl
      simp [Instr.slice, run_underlying Tryz.underlying50, Instr.sliceBounds, run_sliceBound, hsz, Result.andThen, hj, Addr.add]
    have HE2 : Hid (∀ j : Nat, j ≤ m.abs.bytes.length - n → SliceAt w (.slice (some ⟨g, n, none⟩) j (cap - n)) (((m.abs.bytes.drop n).take j).map encB)) := by
      intro j hj
      refine .inr ⟨⟨g, n, none⟩, cap - n, by simp; omega, fun i u hu => ?_⟩
      have ha : (⟨g, n, none⟩ : Addr).add i = ⟨g, n + i, none⟩ := by unfold Addr.add; split <;> simp_all
      rw [ha, cell_of hg]
      have hi : i < j := by
        have := (List.getElem?_eq_some_iff.1 hu).1
        simp at this; omega
      have hq : (m.abs.bytes.map encB)[n + i]? = some u := by
        rw [List.map_take, List.map_drop, List.getElem?_take_of_lt hi, List.getElem?_drop] at hu
        exact hu
      rw [← htk, List.getElem?_take_of_lt (by omega)] at hq
      simpa using hq
    clear hn h hfa hsl hz hsl' hg htk h1 h3
    have hwr : IntKind.i64.wrap ((m.abs.bytes.length : Int) - (n : Int)) = (m.abs.bytes.length : Int) - (n : Int) := by
      rw [IntWalk.i64_left, IntWalk.wrap64_in _ (by omega)]
    by_cases hkk : (k : Int) ≤ m.abs.bytes.length - n
    · have hj := fun w => hs2 k w (by omega)
      have hmin : ∀ ts t w, (Builtin.min_ ts t #[.int .i64 (k : Int), .int .i64 ((m.abs.bytes.length : Int) - (n : Int))]).run Tryz.prog w = .ok (.int .i64 (k : Int)) w := by
        intro ts t w
        have : ¬ ((m.abs.bytes.length : Int) - (n : Int) < (k : Int)) := by omega
        simp [Builtin.min_, Builtin.min2, this]
      have hcl := fun W (hW : Turn [] w W) => clone_any W (.slice (some ⟨g, n, none⟩) k (cap - n)) ((m.abs.bytes.drop n).take k) ((HE2.out k (by omega)).kept hW (by simp)) (by simp; omega)
      have HC : Hid (∀ W, Turn [] w W → Calls Tryz.prog 158 #[.slice (some ⟨g, n, none⟩) k (cap - n)] W fun e w' => ∃ v', e = .returned v' ∧ RowAt w' 5 W.heap.size v' ((m.abs.bytes.drop n).take k) ∧ Turn [] W w') := hcl
      clear hs2 hcl
      go_enter Tryz.func117, Tryz.ntmps117
      go_wp2
      go_region_with (go_at_call 158; refine (HC.out _ (by repeat (first | exact Turn.refl _ _ | refine Turn.drew ?_))).mono ?_; rintro e w2 ⟨v, rfl, hrow, ht2⟩)
      all_goals
        go_wp2
        go_ret
        exact ⟨v, rfl, by rw [HE.out]; simpa using hrow, ((Turn.refl [] w).drew).same ht2⟩
    · have hj := fun w => hs2 (m.abs.bytes.length - n) w (by omega)
      rw [show ((m.abs.bytes.length - n : Nat) : Int) = (m.abs.bytes.length : Int) - (n : Int) by omega] at hj
      have hmin : ∀ ts t w, (Builtin.min_ ts t #[.int .i64 (k : Int), .int .i64 ((m.abs.bytes.length : Int) - (n : Int))]).run Tryz.prog w = .ok (.int .i64 ((m.abs.bytes.length : Int) - (n : Int))) w := by
        intro ts t w
        have : ((m.abs.bytes.length : Int) - (n : Int) < (k : Int)) := by omega
        simp [Builtin.min_, Builtin.min2, this]
      have hcl := fun W (hW : Turn [] w W) => clone_any W (.slice (some ⟨g, n, none⟩) (m.abs.bytes.length - n) (cap - n)) ((m.abs.bytes.drop n).take (m.abs.bytes.length - n)) ((HE2.out (m.abs.bytes.length - n) (by omega)).kept hW (by simp)) (by simp; omega)
      have HC : Hid (∀ W, Turn [] w W → Calls Tryz.prog 158 #[.slice (some ⟨g, n, none⟩) (m.abs.bytes.length - n) (cap - n)] W fun e w' => ∃ v', e = .returned v' ∧ RowAt w' 5 W.heap.size v' ((m.abs.bytes.drop n).take (m.abs.bytes.length - n)) ∧ Turn [] W w') := hcl
      have HT : Hid ((m.abs.bytes.drop n).take k = (m.abs.bytes.drop n).take (m.abs.bytes.length - n)) := by
        show _ = _
        rw [List.take_of_length_le (by simp; omega), List.take_of_length_le (by simp)]
      clear hs2 hcl
      go_enter Tryz.func117, Tryz.ntmps117
      go_wp2
      go_region_with (go_at_call 158; refine (HC.out _ (by repeat (first | exact Turn.refl _ _ | refine Turn.drew ?_))).mono ?_; rintro e w2 ⟨v, rfl, hrow, ht2⟩)
      all_goals
        go_wp2
        go_ret
        refine ⟨v, rfl, ?_, ((Turn.refl [] w).drew).same ht2⟩
        rw [HE.out]
        simp only [Int.toNat_natCast]
        rw [HT.out]
        exact hrow
end

end Go.Proofs.YthbhfhagbaommaaGreatDoor.Dk
