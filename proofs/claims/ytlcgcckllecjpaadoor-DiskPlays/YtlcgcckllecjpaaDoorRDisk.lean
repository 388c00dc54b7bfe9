/- The document's disk in memory; at, Used, Size. -/
import Derived.Test.YtlcgcckllecjpaaDoorRow
import Derived.Test.YtlcgcckllecjpaaDoorSl
import Derived.Test.YtlcgcckllecjpaaDoorRest2
namespace Go.Proofs.YtlcgcckllecjpaaDoor.Dk
open Go.RowKit Go.Maps
set_option maxRecDepth 100000
set_option linter.unusedSimpArgs false
set_option linter.unusedVariables false

/-- A file of the document's in memory. -/
structure RM where
  abs : FA
  a : Option Addr
  c : Nat
def RM.sl (m : RM) : Value := .slice m.a m.abs.bytes.length m.c
def fileC (m : RM) : List Value := [.string ⟨m.abs.name.toArray⟩, m.sl, .int .i64 m.abs.safe]
theorem fileC_len (m : RM) : (fileC m).length = 3 := rfl
structure RefAt (w : World) (r : Nat) (sv : Value) (ms : List RM) (room : Nat) (left : Int) : Prop where
  self : w.heap[r]? = some (.cells #[sv, .int .i64 room, .int .i64 left] 33 (0, 0))
  row : GRow 88 3 fileC w 0 sv ms
  each : ∀ m ∈ ms, BytesAt w m.sl m.abs.bytes ∧ ∀ k ∈ m.sl.ownBlock, k < w.heap.size ∧ k ≠ r ∧ k ∉ sv.ownBlock
  rsv : r ∉ sv.ownBlock
def RFoot (r : Nat) (sv : Value) (ms : List RM) : List Nat := r :: (sv.ownBlock.toList ++ ms.flatMap (fun m => m.sl.ownBlock.toList))
theorem foot_r (r : Nat) (sv : Value) (ms : List RM) : r ∈ RFoot r sv ms := by simp [RFoot]
theorem foot_sv {r : Nat} {sv : Value} {ms : List RM} {k : Nat} (h : k ∈ sv.ownBlock) : k ∈ RFoot r sv ms := by simp only [RFoot, List.mem_cons, List.mem_append]; exact .inr (.inl (by simpa using h))
theorem foot_m {r : Nat} {sv : Value} {ms : List RM} {m : RM} (hm : m ∈ ms) {k : Nat} (h : k ∈ m.sl.ownBlock) : k ∈ RFoot r sv ms := by
  simp only [RFoot, List.mem_cons, List.mem_append, List.mem_flatMap]; exact .inr (.inr ⟨m, hm, by simpa using h⟩)
section
variable {w w' : World} {r : Nat} {sv : Value} {ms : List RM} {room : Nat} {left : Int}
theorem RefAt.kept {S : List Nat} (h : RefAt w r sv ms room left) (ht : Turn S w w') (hn : ∀ k ∈ RFoot r sv ms, k ∉ S) : RefAt w' r sv ms room left where
  self := ht.heap h.self (hn _ (foot_r _ _ _))
  row := h.row.kept ht (fun k hk => hn k (foot_sv hk))
  each := fun m hm => ⟨(h.each m hm).1.kept ht (fun k hk _ => hn k (foot_m hm hk)), fun k hk => ⟨Nat.lt_of_lt_of_le ((h.each m hm).2 k hk).1 ht.size, ((h.each m hm).2 k hk).2⟩⟩
  rsv := h.rsv
theorem RefAt.still (h : RefAt w r sv ms room left) (ht : Turn [] w w') : RefAt w' r sv ms room left := h.kept ht (by simp)
theorem RefAt.lt (h : RefAt w r sv ms room left) : ∀ k ∈ RFoot r sv ms, k < w.heap.size := by
  intro k hk
  simp only [RFoot, List.mem_cons, List.mem_append, List.mem_flatMap, Option.mem_toList] at hk
  rcases hk with rfl | hk | ⟨m, hm, hk⟩
  · exact lt_of_heap h.self
  · exact (h.row.lt k hk).2
  · exact ((h.each m hm).2 k hk).1
theorem RefAt.c (h : RefAt w r sv ms room left) : w.cell? ⟨r, 0, none⟩ = some sv ∧ w.cell? ⟨r, 1, none⟩ = some (.int .i64 room) ∧ w.cell? ⟨r, 2, none⟩ = some (.int .i64 left) :=
  ⟨by rw [cell_of h.self]; rfl, by rw [cell_of h.self]; rfl, by rw [cell_of h.self]; rfl⟩
theorem RefAt.f (h : RefAt w r sv ms room left) : w.frozen? ⟨r, 0, none⟩ = false ∧ w.frozen? ⟨r, 1, none⟩ = false ∧ w.frozen? ⟨r, 2, none⟩ = false :=
  ⟨frozen_of h.self _, frozen_of h.self _, frozen_of h.self _⟩
/-- An element's cells, as a walk meets them. -/
theorem RefAt.three {a : Option Addr} {l c : Nat} (h : RefAt w r (.slice a l c) ms room left) {j : Nat} (hj : j < ms.length) :
    ∃ p, a = some p ∧ w.cell? (p.add (j * 3)) = some (.string ⟨ms[j].abs.name.toArray⟩) ∧ w.cell? ⟨(p.add (j * 3)).block, (p.add (j * 3)).off + 1, none⟩ = some ms[j].sl ∧ w.cell? ⟨(p.add (j * 3)).block, (p.add (j * 3)).off + 2, none⟩ = some (.int .i64 ms[j].abs.safe) ∧
      ∃ q d, ms[j].sl = .slice q ms[j].abs.bytes.length d ∧ ms[j].abs.bytes.length ≤ d ∧ d ≤ 9223372036854775807 := by
  have hb := ((h.each _ (List.getElem_mem hj)).1).form
  obtain ⟨q, d, hq1, hq2, hq3, -⟩ := hb
  obtain ⟨g, cap, e, h1, -⟩ := h.row.at fileC_len hj
  simp only [Value.slice.injEq] at e
  obtain ⟨rfl, rfl, rfl⟩ := e
  refine ⟨_, rfl, ?_, ?_, ?_, q, d, hq1, hq2, by simpa [maxLen] using hq3⟩
  · rw [addr_add]; exact h1 0 (by omega)
  · rw [addr_add]; exact h1 1 (by omega)
  · rw [addr_add]; exact h1 2 (by omega)
theorem RefAt.form (h : RefAt w r sv ms room left) : ∃ a c, sv = .slice a ms.length c ∧ ms.length ≤ c ∧ c ≤ maxLen := h.row.form
end

section
variable {w w' : World} {r : Nat} {sv : Value} {ms : List RM} {room : Nat} {left : Int}
/-- One cell of a file, set. -/
theorem RefAt.setFile {p : Addr} {l c : Nat} (h : RefAt w r (.slice (some p) l c) ms room left) {j i : Nat} (hj : j < ms.length) (hi : i < 3) {u : Value} {m' : RM} (he : fileC m' = (fileC ms[j]).set i u)
    (hb : BytesAt w m'.sl m'.abs.bytes) (hk : ∀ k ∈ m'.sl.ownBlock, k < w.heap.size ∧ k ≠ r ∧ k ≠ p.block) :
    RefAt (w.setCell ⟨(p.add (j * 3)).block, (p.add (j * 3)).off + i, none⟩ u) r (.slice (some p) l c) (ms.set j m') room left := by
  obtain ⟨g, cap, e, -, -⟩ := h.row.at fileC_len hj
  simp only [Value.slice.injEq, Option.some.injEq] at e
  obtain ⟨rfl, rfl, rfl⟩ := e
  rw [addr_add]
  have ht : Turn [g] w (w.setCell ⟨g, j * 3 + i, none⟩ u) := (Turn.refl _ _).setCell (.inl (by simp)) _
  have hr : r ≠ g := fun e => h.rsv (by simp [Value.ownBlock, e])
  refine ⟨ht.heap h.self (by simpa using hr), GRow.set fileC_len h.row hj hi he, fun m hm => ?_, h.rsv⟩
  have hm' : (BytesAt w m.sl m.abs.bytes ∧ ∀ k ∈ m.sl.ownBlock, k < w.heap.size ∧ k ≠ r ∧ k ≠ g) := by
    rcases List.mem_or_eq_of_mem_set hm with hm | rfl
    · exact ⟨(h.each m hm).1, fun k hk => ⟨((h.each m hm).2 k hk).1, ((h.each m hm).2 k hk).2.1, fun e => ((h.each m hm).2 k hk).2.2 (by simp [Value.ownBlock, e])⟩⟩
    · exact ⟨hb, hk⟩
  refine ⟨hm'.1.kept ht (fun k hk _ => by simpa using (hm'.2 k hk).2.2), fun k hk => ⟨Nat.lt_of_lt_of_le (hm'.2 k hk).1 ht.size, (hm'.2 k hk).2.1, fun e => ?_⟩⟩
  have : k = g := by simpa [Value.ownBlock] using e.symm
  exact (hm'.2 k hk).2.2 this
/-- The list of files, stored anew. -/
theorem RefAt.setRow {sv' : Value} {ms' : List RM} (h : RefAt w r sv ms room left) (hrow : GRow 88 3 fileC w 0 sv' ms') (hr : r ∉ sv'.ownBlock)
    (he : ∀ m ∈ ms', BytesAt w m.sl m.abs.bytes ∧ ∀ k ∈ m.sl.ownBlock, k < w.heap.size ∧ k ≠ r ∧ k ∉ sv'.ownBlock) : RefAt (w.setCell ⟨r, 0, none⟩ sv') r sv' ms' room left := by
  have ht : Turn [r] w (w.setCell ⟨r, 0, none⟩ sv') := (Turn.refl _ _).setCell (.inl (by simp)) _
  refine ⟨by simpa using heap_set h.self 0 sv', hrow.kept ht (fun k hk => by simp; rintro rfl; exact hr hk), fun m hm => ⟨(he m hm).1.kept ht (fun k hk _ => by simpa using ((he m hm).2 k hk).2.1), fun k hk => ⟨Nat.lt_of_lt_of_le ((he m hm).2 k hk).1 ht.size, ((he m hm).2 k hk).2⟩⟩, hr⟩
theorem RefAt.mkRow {sv0 sv' : Value} {ms' : List RM} (hself : w.heap[r]? = some (.cells #[sv0, .int .i64 room, .int .i64 left] 33 (0, 0))) (hrow : GRow 88 3 fileC w 0 sv' ms') (hr : r ∉ sv'.ownBlock)
    (he : ∀ m ∈ ms', BytesAt w m.sl m.abs.bytes ∧ ∀ k ∈ m.sl.ownBlock, k < w.heap.size ∧ k ≠ r ∧ k ∉ sv'.ownBlock) : RefAt (w.setCell ⟨r, 0, none⟩ sv') r sv' ms' room left := by
  have ht : Turn [r] w (w.setCell ⟨r, 0, none⟩ sv') := (Turn.refl _ _).setCell (.inl (by simp)) _
  refine ⟨by simpa using heap_set hself 0 sv', hrow.kept ht (fun k hk => by simp; rintro rfl; exact hr hk), fun m hm => ⟨(he m hm).1.kept ht (fun k hk _ => by simpa using ((he m hm).2 k hk).2.1), fun k hk => ⟨Nat.lt_of_lt_of_le ((he m hm).2 k hk).1 ht.size, ((he m hm).2 k hk).2⟩⟩, hr⟩
/-- How many operations are left, stored anew. -/
theorem RefAt.setLeft (h : RefAt w r sv ms room left) (left' : Int) : RefAt (w.setCell ⟨r, 2, none⟩ (.int .i64 left')) r sv ms room left' := by
  have ht : Turn [r] w (w.setCell ⟨r, 2, none⟩ (.int .i64 left')) := (Turn.refl _ _).setCell (.inl (by simp)) _
  refine ⟨by simpa using heap_set h.self 2 (.int .i64 left'), h.row.kept ht (fun k hk => by simp; rintro rfl; exact h.rsv hk), fun m hm => ⟨(h.each m hm).1.kept ht (fun k hk _ => by simpa using ((h.each m hm).2 k hk).2.1), fun k hk => ⟨Nat.lt_of_lt_of_le ((h.each m hm).2 k hk).1 ht.size, ((h.each m hm).2 k hk).2⟩⟩, h.rsv⟩
end

/-- Where a name stands. -/
def idxM (ms : List RM) (nm : List UInt8) : Option Nat := ms.findIdx? (fun m => m.abs.name == nm)
def idxI (ms : List RM) (nm : List UInt8) : Int := match idxM ms nm with
  | some k => k
  | none => -1
theorem idxM_here {ms : List RM} {nm : List UInt8} {k : Nat} (hk : k < ms.length) (h : ms[k].abs.name = nm) (hn : ∀ j (hj : j < k), (ms[j]'(by omega)).abs.name ≠ nm) : idxM ms nm = some k := by
  unfold idxM
  rw [List.findIdx?_eq_some_iff_getElem]
  exact ⟨hk, by simpa using h, fun j hj => by simpa using hn j hj⟩
theorem idxM_none {ms : List RM} {nm : List UInt8} (hn : ∀ j (hj : j < ms.length), ms[j].abs.name ≠ nm) : idxM ms nm = none := by
  unfold idxM
  rw [List.findIdx?_eq_none_iff]
  intro x hx
  obtain ⟨j, hj, rfl⟩ := List.mem_iff_getElem.1 hx
  simpa using hn j hj
theorem str_val (nm : List UInt8) : Value.string ⟨nm.toArray⟩ = .string ⟨nm.toArray⟩ := rfl

set_option maxHeartbeats 2000000 in
theorem at_any {w : World} {r : Nat} {sv : Value} {ms : List RM} {room : Nat} {left : Int} (h : RefAt w r sv ms room left) (hl : ms.length ≤ 1000000) (nm : List UInt8) :
    Calls Tryd.prog 50 #[.pointer (some ⟨r, 0, none⟩), .string ⟨nm.toArray⟩] w fun e w' => e = .returned (.int .i64 (idxI ms nm)) ∧ Turn [] w w' := by
  obtain ⟨a, c, rfl, hlc, hcm⟩ := h.form
  have hmx : maxLen = 9223372036854775807 := by simp [maxLen]
  rw [hmx] at hcm
  have H := hide h
  obtain ⟨c0, -, -⟩ := h.c
  clear h
  go_enter Tryd.func50, Tryd.ntmps50
  go_wp2
  go_loopw [12] (fun i wr => ∃ k : Nat, k ≤ ms.length ∧ i = .int .i64 k ∧ Turn [] w wr ∧ ∀ j (hj : j < k) (hj' : j < ms.length), ms[j].abs.name ≠ nm) (fun i _ => ms.length - (intOf i).toNat)
  case atStart => exact ⟨0, Nat.zero_le _, rfl, Turn.refl _ _, fun j hj => absurd hj (Nat.not_lt_zero _)⟩
  case round =>
    obtain ⟨k, hk, rfl, ht, hno⟩ := hrel
    have HT := hide ht
    have HNO := hide hno
    clear ht hno
    by_cases hlt : k < ms.length
    · obtain ⟨p, rfl, g0, g1, g2, q, d, hq, -, -⟩ := (H.out.still HT.out).three hlt
      obtain ⟨m, hm⟩ : ∃ m, m = ms[k] := ⟨_, rfl⟩
      rw [hq] at g1
      clear hq
      rw [← hm] at g0 g1 g2
      have HM := hide hm
      clear hm
      by_cases he : m.abs.name = nm
      · have HE := hide he
        rw [he] at g0
        clear he
        go_wp2
        go_ret
        refine ⟨?_, (HT.out.alloc _)⟩
        rw [idxI, idxM_here hlt (by rw [← HM.out]; exact HE.out) (fun j hj => HNO.out j hj (by omega))]; rfl
      · have HE := hide he
        have hs : (m.abs.name == nm) = false := by simpa using he
        clear he
        go_wp2
        refine ⟨⟨k + 1, by omega, by go_num, HT.out.alloc _, fun j hj hj' => ?_⟩, ?_⟩
        · by_cases hjk : j = k
          · subst hjk; rw [← HM.out]; exact HE.out
          · exact HNO.out j (by omega) hj'
        · simp only [intOf]; omega
    · obtain rfl : k = ms.length := by omega
      go_wp2
      go_ret
      refine ⟨?_, HT.out⟩
      rw [idxI, idxM_none (fun j hj => HNO.out j hj hj)]; rfl

/-- What is in its first files. -/
def usedR (ms : List RM) : Nat := usedL (ms.map (·.abs))
set_option maxHeartbeats 2000000 in
theorem refUsed_any {w : World} {r : Nat} {sv : Value} {ms : List RM} {room : Nat} {left : Int} (h : RefAt w r sv ms room left) (hl : ms.length ≤ 1000000) (hu : usedR ms ≤ 1048576) :
    Calls Tryd.prog 22 #[.pointer (some ⟨r, 0, none⟩)] w fun e w' => e = .returned (.int .i64 (usedR ms)) ∧ Turn [] w w' := by
  obtain ⟨a, c, rfl, hlc, hcm⟩ := h.form
  have hmx : maxLen = 9223372036854775807 := by simp [maxLen]
  rw [hmx] at hcm
  have H := hide h
  obtain ⟨c0, -, -⟩ := h.c
  clear h
  go_enter Tryd.func22, Tryd.ntmps22
  go_wp2
  go_loopw [3, 11] (fun n i wr => ∃ k : Nat, k ≤ ms.length ∧ i = .int .i64 k ∧ n = .int .i64 (usedR (ms.take k)) ∧ Turn [] w wr) (fun _ i _ => ms.length - (intOf i).toNat)
  case atStart => exact ⟨0, Nat.zero_le _, rfl, rfl, Turn.refl _ _⟩
  case round =>
    obtain ⟨k, hk, rfl, rfl, ht⟩ := hrel
    have HT := hide ht
    clear ht
    by_cases hlt : k < ms.length
    · obtain ⟨p, rfl, g0, g1, g2, q, d, hq, -, -⟩ := (H.out.still HT.out).three hlt
      have hus : usedR (ms.take (k + 1)) = usedR (ms.take k) + ms[k].abs.bytes.length := by
        rw [show ms.take (k + 1) = ms.take k ++ [ms[k]] by simp]
        unfold usedR usedL
        rw [List.map_append, List.map_append, List.sum_append]
        simp only [List.map_cons, List.map_nil, List.sum_cons, List.sum_nil]
        omega
      have hle : usedR (ms.take (k + 1)) ≤ usedR ms := by
        unfold usedR
        rw [List.map_take]
        exact used_sub (List.take_sublist _ _)
      obtain ⟨m, hm⟩ : ∃ m, m = ms[k] := ⟨_, rfl⟩
      rw [hq] at g1
      clear hq
      rw [← hm] at g0 g1 g2 hus
      clear hm
      obtain ⟨U, hU⟩ : ∃ U, U = usedR (ms.take k) := ⟨_, rfl⟩
      obtain ⟨V, hV⟩ : ∃ V, V = usedR (ms.take (k + 1)) := ⟨_, rfl⟩
      rw [← hU, ← hV] at hus
      rw [← hV] at hle
      rw [← hU]
      have HV := hide hV
      clear hU hV
      go_wp2
      refine ⟨⟨k + 1, by omega, by go_num, by rw [← HV.out, hus]; go_num, HT.out.alloc _⟩, ?_⟩
      simp only [intOf]; omega
    · obtain rfl : k = ms.length := by omega
      rw [List.take_length]
      go_wp2
      go_ret
      exact ⟨rfl, HT.out⟩
end Go.Proofs.YtlcgcckllecjpaaDoor.Dk
