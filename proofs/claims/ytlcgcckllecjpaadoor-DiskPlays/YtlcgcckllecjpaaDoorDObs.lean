/- Both disks, side by side: what is read off them. -/
import Derived.Test.YtlcgcckllecjpaaDoorDPl
import Derived.Test.YtlcgcckllecjpaaDoorClone
import Derived.Test.YtlcgcckllecjpaaDoorRRead
namespace Go.Proofs.YtlcgcckllecjpaaDoor.Dk
open Go.RowKit Go.Maps Go.Sort
set_option maxRecDepth 100000
set_option linter.unusedSimpArgs false
set_option linter.unusedVariables false

/-- A slice of texts. -/
def StrAt (w : World) (v : Value) (L : List (List UInt8)) : Prop := ∃ a c, v = .slice a L.length c ∧ (a = none → L = []) ∧ ∀ p, a = some p → ∀ j x, L[j]? = some x → w.cell? (p.add j) = some (encL x)
theorem StrAt.still {w w' : World} {v : Value} {L : List (List UInt8)} (h : StrAt w v L) (ht : Turn [] w w') : StrAt w' v L := by
  obtain ⟨a, c, rfl, h1, h2⟩ := h
  refine ⟨a, c, rfl, h1, fun p hp j x hx => ?_⟩
  have h3 := h2 p hp j x hx
  have hlt := World.block_lt_of_cell? w _ h3
  rw [World.cell?_of_block (w := w) (ht.block _ hlt (by simp)), h3]
theorem strAt_own {w : World} {B : Nat} {v : Value} {L : List (List UInt8)} (h : w.ownsRow B 9 1 v L.length (L.map encStr)) : StrAt w v L := by
  obtain ⟨va, vc, rfl, hr⟩ := rowS_of h
  rcases hr with rfl | ⟨g, cur, rfl, -, hg, hc⟩
  · exact ⟨va, vc, rfl, fun _ => rfl, fun p _ j x hx => by simp at hx⟩
  · refine ⟨_, vc, rfl, by simp, fun p hp j x hx => ?_⟩
    cases hp
    rw [addr_add, cell_of hg, hc j x hx]; rfl
theorem strAt_row {w : World} {B : Nat} {v : Value} {L : List (List UInt8)} (h : GRow 9 1 encS w B v L) : StrAt w v L := by
  rcases h with ⟨rfl, rfl⟩ | ⟨g, cap, cur, rfl, -, hg, h1, h2, h3, h4⟩
  · exact ⟨none, 0, rfl, fun _ => rfl, fun p hp => by cases hp⟩
  · refine ⟨_, cap, rfl, by simp, fun p hp j x hx => ?_⟩
    cases hp
    rw [addr_add, cell_of hg]
    have hj := (List.getElem?_eq_some_iff.1 hx).1
    have h5 : (cur.toList.take (L.length * 1))[j]? = (L.flatMap encS)[j]? := by rw [h4]
    rw [flat_encS, List.getElem?_map, hx, List.getElem?_take_of_lt (by omega)] at h5
    have h6 : cur[j]? = some (encStr x) := by simpa using h5
    exact h6
theorem same_strs {w : World} {v v' : Value} {L : List (List UInt8)} (h : StrAt w v L) (h' : StrAt w v' L) (hl : L.length ≤ 1048576) :
    Calls Tryd.prog 25 #[v, v'] w fun e w' => e = .returned (.bool true) ∧ Turn [] w w' := by
  obtain ⟨a, c, rfl, h1, h2⟩ := h
  obtain ⟨a', c', rfl, h1', h2'⟩ := h'
  refine (sameTexts_any w a a' c c' L L hl hl h2 h2' h1 h1').mono ?_
  rintro e w' ⟨rfl, ht⟩
  exact ⟨by simp, ht⟩

theorem bytesOf_find {A : DA} {ms : List RM} (h : A.files = ms.map (·.abs)) (nm : List UInt8) : A.bytesOf nm = bytesR (findR ms nm) := by
  have := findR_file h nm
  unfold DA.file at this
  unfold DA.bytesOf bytesR
  rw [this]
  cases findR ms nm <;> rfl
theorem sizeOf_find {A : DA} {ms : List RM} (h : A.files = ms.map (·.abs)) (nm : List UInt8) : A.sizeOf nm = sizeR (findR ms nm) := by
  unfold DA.sizeOf sizeR
  rw [findR_file h nm]
  cases findR ms nm <;> rfl

section
variable {W w : World} {d r : Nat} {K : List (Nat × Obj)} {A : DA} {F : List Nat} {sv : Value} {ms : List RM}
theorem obs_used (h : PlS W w d r K A F sv ms) : Calls Tryd.prog 21 #[.pointer (some ⟨d, 0, none⟩)] w fun e w' => e = .returned (.int .i64 (usedL A.files : Nat)) ∧ Turn [] w w' := by
  obtain ⟨mref, mm, hp⟩ := h.dk
  exact used_any hp
theorem obs_rused (h : PlS W w d r K A F sv ms) : Calls Tryd.prog 22 #[.pointer (some ⟨r, 0, none⟩)] w fun e w' => e = .returned (.int .i64 (usedL A.files : Nat)) ∧ Turn [] w w' := by
  have hl := h.rf.len h.good
  have := refUsed_any h.rf.mem (by omega) (h.rf.used h.good)
  rw [h.rf.files]; exact this
theorem obs_size (h : PlS W w d r K A F sv ms) (nm : List UInt8) (hn : nm.length ≤ 1000000) : Calls Tryd.prog 23 #[.pointer (some ⟨d, 0, none⟩), .string ⟨nm.toArray⟩] w fun e w' => e = .returned (.int .i64 (A.sizeOf nm)) ∧ Turn [] w w' := by
  obtain ⟨mref, mm, hp⟩ := h.dk
  refine (size_any hp ⟨nm.toArray⟩ (by simp [ByteArray.size, maxLen]; omega)).mono ?_
  rintro e w' ⟨rfl, rfl⟩
  exact ⟨rfl, Turn.refl _ _⟩
theorem obs_rsize (h : PlS W w d r K A F sv ms) (nm : List UInt8) : Calls Tryd.prog 24 #[.pointer (some ⟨r, 0, none⟩), .string ⟨nm.toArray⟩] w fun e w' => e = .returned (.int .i64 (A.sizeOf nm)) ∧ Turn [] w w' := by
  have hl := h.rf.len h.good
  rw [sizeOf_find h.rf.files]
  exact refSize_any h.rf.mem (by omega) nm
theorem obs_list (h : PlS W w d r K A F sv ms) (nm : List UInt8) (hn : nm.length ≤ 1000000) : Calls Tryd.prog 26 #[.pointer (some ⟨d, 0, none⟩), .string ⟨nm.toArray⟩] w fun e w' => ∃ v, e = .returned v ∧ StrAt w' v (namesOf A nm) ∧ Turn [] w w' := by
  obtain ⟨mref, mm, hp⟩ := h.dk
  refine (list_any hp ⟨nm.toArray⟩ (by simp [ByteArray.size, maxLen]; omega)).mono ?_
  rintro e w' ⟨v, rfl, hr, ht⟩
  exact ⟨v, rfl, strAt_own hr, ht⟩
theorem obs_rlist (h : PlS W w d r K A F sv ms) (nm : List UInt8) (hn : nm.length ≤ 1000000) : Calls Tryd.prog 27 #[.pointer (some ⟨r, 0, none⟩), .string ⟨nm.toArray⟩] w fun e w' => ∃ v, e = .returned v ∧ StrAt w' v (namesOf A nm) ∧ Turn [] w w' := by
  have hl := h.rf.len h.good
  refine (refList_any h.rf.mem (by omega) (fun m hm => by have := h.rf.short h.good m hm; omega) nm hn).mono ?_
  rintro e w' ⟨v, rfl, hr, ht⟩
  refine ⟨v, rfl, ?_, ht⟩
  have hsn : (namesR ms).mergeSort leB = sortedN A := by unfold sortedN namesR; rw [h.rf.files, List.map_map]; rfl
  rw [hsn] at hr
  exact strAt_row hr
theorem obs_read (h : PlS W w d r K A F sv ms) (nm : List UInt8) (hn : nm.length ≤ 1000000) (off most : Int) (hm : -9223372036854775808 ≤ most ∧ most ≤ 9223372036854775807) : Calls Tryd.prog 28 #[.pointer (some ⟨d, 0, none⟩), .string ⟨nm.toArray⟩, .int .i64 off, .int .i64 most] w fun e w' => ∃ v, e = .returned v ∧ BytesAt w' v (readL (A.bytesOf nm) off most) ∧ Turn [] w w' := by
  obtain ⟨mref, mm, hp⟩ := h.dk
  have hb := bytesOf_eq hp nm
  rcases hf : findM mm nm with _ | m
  · rw [hf] at hb
    refine (read_none hp ⟨nm.toArray⟩ (by simp [ByteArray.size, maxLen]; omega) off most hf).mono ?_
    rintro e w' ⟨rfl, rfl⟩
    refine ⟨_, rfl, ?_, Turn.refl _ _⟩
    have hb' : A.bytesOf nm = [] := hb
    have : readL (A.bytesOf nm) off most = [] := by rw [hb']; unfold readL; split <;> simp
    rw [this]
    exact ⟨none, 0, rfl, Nat.le_refl _, Nat.zero_le _, fun _ => rfl, fun j hj => absurd hj (Nat.not_lt_zero _)⟩
  · rw [hf] at hb
    refine (read_some hp ⟨nm.toArray⟩ (by simp [ByteArray.size, maxLen]; omega) off most m hf hm).mono ?_
    rintro e w' ⟨v, rfl, hr, ht⟩
    refine ⟨v, rfl, ?_, ht⟩
    rw [hb]
    exact hr.bytes
theorem obs_rread (h : PlS W w d r K A F sv ms) (nm : List UInt8) (off most : Int) (ho : off ≤ 9223372036854775807) : Calls Tryd.prog 29 #[.pointer (some ⟨r, 0, none⟩), .string ⟨nm.toArray⟩, .int .i64 off, .int .i64 most] w fun e w' => ∃ v, e = .returned v ∧ BytesAt w' v (readL (A.bytesOf nm) off most) ∧ Turn [] w w' := by
  have hl := h.rf.len h.good
  rw [bytesOf_find h.rf.files]
  exact refRead_any h.rf.mem (by omega) (h.rf.one h.good) nm off most ho
theorem names_few (h : PlS W w d r K A F sv ms) (nm : List UInt8) : (namesOf A nm).length ≤ 1048576 := by
  have := h.good.count
  unfold namesOf sortedN
  have h2 := List.length_filter_le (preL nm) ((A.files.map (·.name)).mergeSort leB)
  rw [List.length_mergeSort, List.length_map] at h2
  omega
end
end Go.Proofs.YtlcgcckllecjpaaDoor.Dk
