/- The names of a disk's files, in order, handed out one by one. -/
import Derived.Test.YtlcgcckllecjpaaDoorKeep
import Derived.Test.YtlcgcckllecjpaaDoorIter
import Derived.RangeFuncNested
import Derived.RangeFuncBound
import Derived.RangeFuncCalls
import Derived.RangeFuncLeaves
import Derived.Shelf.Abstract
import Derived.Shelf.RegionOpen
import Derived.OwnWalkIn
import Derived.TacticsInMore
import Derived.LoopNIn
import Derived.LoopIn
namespace Go.Proofs.YtlcgcckllecjpaaDoor.Dk
open Go.RowKit Go.Maps Go.Shelf Go.Sort
set_option linter.unusedSimpArgs false
set_option linter.unusedVariables false
attribute [local go_sem] Oper.semAt_some

def preB (p s : ByteArray) : Bool := p.data.toList.isPrefixOf s.data.toList

theorem preB_short {p s : ByteArray} (h : s.size < p.size) : preB p s = false := by
  unfold preB
  rw [Bool.eq_false_iff]
  intro e
  have := (List.isPrefixOf_iff_prefix.1 e).length_le
  rw [← Lib.size_eq, ← Lib.size_eq] at this
  omega
theorem preB_extract {p s : ByteArray} (_h : p.size ≤ s.size) : ((s.extract 0 p.size).toList == p.toList) = preB p s := by
  unfold preB
  rw [Bool.eq_iff_iff, List.isPrefixOf_iff_prefix, beq_iff_eq, List.prefix_iff_eq_take, Lib.toList_data, Lib.toList_data, Lib.extract_data, ← Lib.size_eq]
  simp
  exact eq_comm

set_option maxHeartbeats 400000 in
theorem hasPrefix_any (s p : ByteArray) (hs : s.size ≤ maxLen) (hp : p.size ≤ maxLen) (w : World) :
    Calls Tryd.prog 57 #[.string s, .string p] w fun e w' => e = .returned (.bool (preB p s)) ∧ w = w' := by
  unfold maxLen at hs hp
  by_cases h : p.size ≤ s.size
  · have HE : Hid (((s.extract 0 p.size).toList == p.toList) = preB p s) := preB_extract h
    go_enter Tryd.func57, Tryd.ntmps57
    go_wp2
    go_ret
    exact ⟨ret_bool HE.out, rfl⟩
  · have HE : Hid (preB p s = false) := preB_short (by omega)
    go_enter Tryd.func57, Tryd.ntmps57
    go_wp2
    go_ret
    exact ⟨ret_bool HE.out.symm, rfl⟩

/-- The names that begin so, in order. -/
def sortedN (A : DA) : List (List UInt8) := (A.files.map (·.name)).mergeSort leB
def preL (bg : List UInt8) (nm : List UInt8) : Bool := bg.isPrefixOf nm
def namesOf (A : DA) (bg : List UInt8) : List (List UInt8) := (sortedN A).filter (preL bg)

/-- A name of one of a disk's files. -/
abbrev NameIn (A : DA) : Type := { x : List UInt8 // x ∈ sortedN A }
def namesAt (A : DA) (bg : List UInt8) : List (NameIn A) := (sortedN A).attach.filter (fun x => preL bg x.1)
theorem namesAt_val (A : DA) (bg : List UInt8) : (namesAt A bg).map (·.1) = namesOf A bg := by
  unfold namesAt namesOf
  conv => rhs; rw [← List.attach_map_subtype_val (sortedN A)]
  rw [List.filter_map]
  rfl

theorem names_in (d : Nat) (s : ByteArray) (w : World) :
    CallsIn Fence.wide 5 Tryd.prog 53 #[.pointer (some ⟨d, 0, none⟩), .string s] w fun e w' =>
      e = .returned (.func (.func 87) #[] #[.pointer (some ⟨w.heap.size, 0, none⟩), .pointer (some ⟨w.heap.size + 1, 0, none⟩)]) ∧
      w' = (w.alloc (.cells #[.pointer (some ⟨d, 0, none⟩)] 23)).alloc (.cells #[.string s] 9) := by
  refine callsIn_wide.2 ?_
  have hmf : ∀ (fn : Fn) (first cap : Array Value) (w : World), (Instr.makeFunc fn first cap).run Tryd.prog w = .ok (.func fn first cap) w := fun _ _ _ _ => rfl
  go_enter Tryd.func53, Tryd.ntmps53
  go_wp2
  go_ret
  exact ⟨rfl, rfl⟩

/-- What a round of a loop over the names keeps: all cells but those of a list of blocks. -/
structure KpT (T : List Nat) (W W' : World) : Prop where
  size : W.heap.size ≤ W'.heap.size
  cells : ∀ k cs t fr, W.heap[k]? = some (.cells cs t fr) → k ∉ T → W'.heap[k]? = some (.cells cs t fr)
theorem KpT.refl (T : List Nat) (W : World) : KpT T W W := ⟨Nat.le_refl _, fun _ _ _ _ h _ => h⟩
theorem kpT_t {T : List Nat} {A B C : World} (h : KpT T A B) (k : KpT T B C) : KpT T A C := ⟨Nat.le_trans h.size k.size, fun i cs t fr hi hn => k.cells i cs t fr (h.cells i cs t fr hi hn) hn⟩
theorem kpT_b {T : List Nat} {w : World} (W : World) (l : Nat) (o o' : Obj) (_ : w.heap.size ≤ l) (h : W.heap[l]? = some o) (ho : o.isCells = false) (_ : o.isWalk = false) : KpT T W (W.putObj l o') := by
  refine ⟨by simp, fun k cs t fr hk _ => ?_⟩
  have hne : k ≠ l := by
    intro e; subst e; rw [h] at hk; cases hk; cases ho
  rw [World.putObj_heap_other hne]; exact hk
theorem KpT.of_turn {T S : List Nat} {W W' : World} (h : Turn S W W') (hs : ∀ k ∈ S, k ∈ T ∨ W.heap.size ≤ k) : KpT T W W' := by
  refine ⟨h.size, fun k cs t fr hk hn => ?_⟩
  refine h.heap hk (fun e => ?_)
  rcases hs k e with h1 | h1
  · exact hn h1
  · have := lt_of_heap hk; omega

section
variable {w w' : World} {base d : Nat} {F : List Nat} {A A' : DA} {mref : Option Nat} {ms : List FileM}
theorem perm_names {D : DataW Unit} {mb n : Nat} (hown : w.ownsMap Tryd.prog 9 ptrR mb n D) (hr : Reads D ms) (hn : (ms.map (·.abs.name)).Nodup) : (ms.map (·.abs.name)).Perm (strKeys D) := by
  have hc : Collected D (fun _ => false) (ms.map (·.abs.name)) := by
    refine ⟨hn, fun x => ?_⟩
    rw [has_of_reads hr]
    unfold findM
    rw [List.find?_isSome]
    simp only [List.mem_map, beq_iff_eq, and_true]
  exact hc.perm hown law Tryd.underlying9 (fun _ => rfl)

/-- A row of texts in a block of its own. -/
def RowS (w : World) (B : Nat) (va : Option Addr) (L : List (List UInt8)) : Prop :=
  L = [] ∨ ∃ g cur, va = some ⟨g, 0, none⟩ ∧ B ≤ g ∧ w.heap[g]? = some (.cells cur 9 (0, 0)) ∧ ∀ (j : Nat) (x : List UInt8), L[j]? = some x → cur[j]? = some (encStr x)
theorem rowS_of {B : Nat} {v : Value} {L : List (List UInt8)} (h : w.ownsRow B 9 1 v L.length (L.map encStr)) : ∃ va vc, v = .slice va L.length vc ∧ RowS w B va L := by
  rcases h.2 with ⟨rfl, h0⟩ | ⟨g, cap, cur, rfl, hb, hg, _, _, _, ht⟩
  · exact ⟨none, 0, by rw [h0], .inl (List.eq_nil_of_length_eq_zero h0)⟩
  · refine ⟨_, _, rfl, .inr ⟨g, cur, rfl, hb, hg, fun j x hx => ?_⟩⟩
    have hj := (List.getElem?_eq_some_iff.1 hx).1
    have : (L.map encStr)[j]? = some (encStr x) := by rw [List.getElem?_map, hx]; rfl
    rw [← ht, List.getElem?_take_of_lt (by omega)] at this
    simpa using this

/-- maps.Keys and slices.Sorted, of a disk's map: a new row with the names in order. -/
theorem sorted_row (h : Parts w base d F A mref ms) :
    CallsIn Fence.wide 5 Tryd.prog 88 #[.func (.func 123) #[] #[.pointer (some ⟨w.heap.size, 0, none⟩)]] (w.alloc (.cells #[.map mref] 75)) fun e w' => ∃ va vc, e = .returned (.slice va (sortedN A).length vc) ∧
      RowS w' (w.heap.size + 1) va (sortedN A) ∧ Below (w.heap.size + 1) (w.alloc (.cells #[.map mref] 75)) w' := by
  have hfil := h.files
  have hnam := h.names
  have hcnt := h.good.count
  have hm := h.map
  have hnl : A.files.map (·.name) = ms.map (·.abs.name) := by rw [hfil, List.map_map]; rfl
  cases mref with
  | none =>
    have hms : ms = [] := hm
    have hs0 : sortedN A = [] := by unfold sortedN; rw [hnl, hms]; simp
    refine (Tryd.slices_Sorted_keys_nil_88_89 w).mono ?_
    rintro e w' ⟨v, ss, rfl, rfl, hrow, hnil, hb⟩
    simp only [World.size_alloc] at hrow hb
    rw [show ([] : List (List UInt8)).length = (sortedN A).length by rw [hs0], show (([] : List (List UInt8)).mergeSort fun x y => decide (x ≤ y)) = sortedN A by rw [hs0]; simp] at hrow
    obtain ⟨va, vc, rfl, hr⟩ := rowS_of hrow
    exact ⟨va, vc, rfl, hr, hb⟩
  | some mb =>
    obtain ⟨D, hown, hrd⟩ := hm
    have hmsl : ms.length ≤ 200 := by rw [hfil, List.length_map] at hcnt; exact hcnt
    refine (Tryd.slices_Sorted_keys_88_89 mb ms.length D ptrR w hown (by rw [hrd.1]; simp only [maxLen]; omega) (by rw [hrd.1]; omega)).mono ?_
    rintro e w' ⟨v, ss, rfl, hp, hrow, hnil, hb⟩
    simp only [World.size_alloc] at hrow hb
    have hp2 : ss.Perm (A.files.map (·.name)) := by rw [hnl]; exact hp.trans (perm_names hown hrd hnam).symm
    have hs0 : ss.mergeSort leB = sortedN A := mergeSort_of_perm hp2
    have hl : ss.length = (sortedN A).length := by rw [← hs0]; simp
    have hrow2 : w'.ownsRow (w.heap.size + 1) 9 1 v (sortedN A).length ((sortedN A).map encStr) := by rw [← hl, ← hs0]; exact hrow
    obtain ⟨va, vc, rfl, hr⟩ := rowS_of hrow2
    exact ⟨va, vc, rfl, hr, hb⟩

theorem sortedN_short (h : Good A) : ∀ x ∈ sortedN A, x.length ≤ 40 := by
  intro x hx
  unfold sortedN at hx
  rw [List.mem_mergeSort] at hx
  obtain ⟨f, hf, rfl⟩ := List.mem_map.1 hx
  exact h.short f hf
theorem sortedN_len (A : DA) : (sortedN A).length = A.files.length := by simp [sortedN]
theorem filter_take_succ {α : Type} (p : α → Bool) (L : List α) (k : Nat) (h : k < L.length) : (L.take (k + 1)).filter p = (L.take k).filter p ++ (if p L[k] then [L[k]] else []) := by
  rw [List.take_succ_eq_append_getElem h, List.filter_append]
  congr 1
  simp [List.filter_cons]
theorem encStr_size (x : List UInt8) : (⟨x.toArray⟩ : ByteArray).size = x.length := by simp [ByteArray.size]

theorem all_any (h : Parts w base d F A mref ms) :
    Calls Tryd.prog 55 #[.pointer (some ⟨d, 0, none⟩)] w fun e w' => e = .returned (.map mref) ∧ w = w' := by
  have c1 := h.c1
  clear h
  go_enter Tryd.func55, Tryd.ntmps55
  go_wp2
  go_ret
  exact ⟨rfl, rfl⟩

set_option maxRecDepth 100000 in
set_option maxHeartbeats 2000000 in
theorem iter_stopsK (h : Parts w base d F A mref ms) (s : ByteArray) (hs : s.size ≤ maxLen) (B1 B2 : Nat) (hB1 : w.heap[B1]? = some (.cells #[.pointer (some ⟨d, 0, none⟩)] 23 (0, 0))) (hB2 : w.heap[B2]? = some (.cells #[.string s] 9 (0, 0)))
    (Kp : World → World → Prop) (hKr : ∀ W, Kp W W) (hKt : ∀ {A B C : World}, Kp A B → Kp B C → Kp A C)
    (hKc : ∀ (W0 W W' : World) (k : Nat) (cs : Array Value) (t : TypeId) (fr : Nat × Nat), Below w.heap.size w W0 → Below W0.heap.size W0 W → (k = B2 ∨ W0.heap.size < k) → Kp W W' → W.heap[k]? = some (.cells cs t fr) → W'.heap[k]? = some (.cells cs t fr)) :
    SeqStopsK Fence.wide 6 Tryd.prog 87 #[.pointer (some ⟨B1, 0, none⟩), .pointer (some ⟨B2, 0, none⟩)] (fun x : NameIn A => #[encStr x.1]) Kp
      (fun xs => xs = namesAt A s.data.toList) (fun pre => pre <+: namesAt A s.data.toList) (namesAt A s.data.toList).length w := fun l J Jx W hW hJ hJx hY h0 => by
  have hP : Parts W base d F A mref ms := h.kept (Turn.of_below hW []) (by simp)
  have hP1 : Parts (W.alloc (.cells #[.map mref] 75)) base d F A mref ms := hP.kept ((Turn.refl [] _).alloc _) (by simp)
  have c1 := hP.c1
  have hb1 : W.cell? ⟨B1, 0, none⟩ = some (.pointer (some ⟨d, 0, none⟩)) := by rw [hW.cell (p := ⟨B1, 0, none⟩) (lt_of_heap hB1), cell_of hB1]; rfl
  have hrow0 := sorted_row hP
  have HR : Hid (CallsIn Fence.wide 5 Tryd.prog 88 #[.func (.func 123) #[] #[.pointer (some ⟨W.heap.size, 0, none⟩)]] (W.alloc (.cells #[.map mref] 75)) fun e w' => ∃ va vc, e = .returned (.slice va (sortedN A).length vc) ∧
      RowS w' (W.heap.size + 1) va (sortedN A) ∧ Below (W.heap.size + 1) (W.alloc (.cells #[.map mref] 75)) w') := hrow0
  have hsz := hW.size
  have f1 : Fence.wide.fn 55 := trivial
  have f2 : Fence.wide.fn 89 := trivial
  have f3 : Fence.wide.fn 88 := trivial
  have f4 : Fence.wide.fn 57 := trivial
  have HG : Hid (Good A) := hP.good
  have HA : Hid (Calls Tryd.prog 55 #[.pointer (some ⟨d, 0, none⟩)] W fun e w' => e = .returned (.map mref) ∧ W = w') := all_any hP
  clear hP hP1 hrow0 h
  refine callsIn_of_wp Tryd.func87 rfl trivial ?_ rfl
  simp only [Tryd.ntmps87, List.size_toArray, List.length_cons, List.length_nil, Nat.reduceAdd, Nat.reduceSub, Array.replicate_succ, Array.replicate_zero, List.push_toArray, List.append_toArray, List.nil_append, List.cons_append]
  gi_wp2_with (first
    | (gi_at_call 89; refine (Tryd.maps_Keys_89 _ _).mono ?_; rintro e w' ⟨rfl, rfl⟩)
    | (gi_at_call 88; refine HR.out.mono ?_; rintro e W2 ⟨va, vc, rfl, hrow, hb⟩)
    | (gi_at_call 55; refine (callsIn_wide.2 HA.out).mono ?_; rintro e w' ⟨rfl, rfl⟩))
  have hB2T : B2 < w.heap.size := lt_of_heap hB2
  have hbel : Below W.heap.size W W2 := ((Below.refl _ W).alloc (Nat.le_refl _) _).trans (hb.mono (by omega))
  have hg2 : W2.heap[B2]? = some (.cells #[.string s] 9 (0, 0)) := (hbel.block B2 (by omega)).trans ((hW.block B2 hB2T).trans hB2)
  have hJ2 : J [] W2 := hJ _ _ _ none h0 ⟨hbel.os, hbel.tape, hbel.output, hbel.size, fun k hk _ => hbel.block k hk⟩ (by simp)
  have hlen : (sortedN A).length ≤ 200 := by rw [sortedN_len]; exact HG.out.count
  have HRow : Hid (RowS W2 (W.heap.size + 1) va (sortedN A)) := hrow
  have HY : Hid (∀ (pre : List (NameIn A)) (x : NameIn A) (W1 : World), J pre W1 → pre.length < (namesAt A s.data.toList).length → YieldAt Fence.wide (6 - 1) Tryd.prog l #[encStr x.1] W1 fun e W' =>
      (e = .returned (.bool true) ∧ J (pre ++ [x]) W' ∧ Kp W1 W') ∨ (e = .returned (.bool false) ∧ Jx (pre ++ [x]) W')) := hY
  have HBel : Hid (Below W.heap.size W W2) := hbel
  have HW : Hid (Below w.heap.size w W) := hW
  clear hrow hb hY h0 HR hbel HA c1 hb1
  gi_loopw [11] (fun i wr => ∃ k : Nat, k ≤ (sortedN A).length ∧ i = .int .i64 k ∧ J (((sortedN A).attach.take k).filter (fun x => preL s.data.toList x.1)) wr ∧ Kp W2 wr)
    (fun i _ => (sortedN A).length - (intOf i).toNat)
  case atStart => exact ⟨0, Nat.zero_le _, rfl, by simpa using hJ2, hKr _⟩
  case round =>
    obtain ⟨k, hk, rfl, hJs, hkp⟩ := hrel
    by_cases hlt : k < (sortedN A).length
    · have hlt2 : k < (sortedN A).attach.length := by simpa using hlt
      obtain ⟨x, hxe⟩ : ∃ x, (sortedN A).attach[k] = x := ⟨_, rfl⟩
      have hx : (sortedN A)[k]? = some x.1 := by rw [List.getElem?_eq_getElem hlt, ← hxe, List.getElem_attach]
      rcases HRow.out with h0 | ⟨g, cur, rfl, hgb, hgc, hcur⟩
      · rw [h0] at hlt; simp at hlt
      have hgc2 := hKc W W2 wr g cur _ _ HW.out HBel.out (.inr (by omega)) hkp hgc
      have hcx : wr.cell? ⟨g, k, none⟩ = some (encStr x.1) := by rw [cell_of hgc2]; exact hcur k x.1 hx
      have hB2r := hKc W W2 wr B2 _ _ _ HW.out HBel.out (.inl rfl) hkp hg2
      have hcb : wr.cell? ⟨B2, 0, none⟩ = some (.string s) := by rw [cell_of hB2r]; rfl
      have hxs : x.1.length ≤ 40 := sortedN_short HG.out x.1 x.2
      have hft := filter_take_succ (fun x : NameIn A => preL s.data.toList x.1) (sortedN A).attach k hlt2
      rw [hxe] at hft
      have hpre := fun W => hasPrefix_any ⟨x.1.toArray⟩ s (by rw [encStr_size]; simp only [maxLen]; omega) hs W
      have HP : Hid (∀ W, Calls Tryd.prog 57 #[.string ⟨x.1.toArray⟩, .string s] W fun e w' => e = .returned (.bool (preB s ⟨x.1.toArray⟩)) ∧ W = w') := hpre
      have HF : Hid (((sortedN A).attach.take (k + 1)).filter (fun x => preL s.data.toList x.1) = ((sortedN A).attach.take k).filter (fun x => preL s.data.toList x.1) ++ (if preL s.data.toList x.1 then [x] else [])) := hft
      have HJs : Hid (J (((sortedN A).attach.take k).filter (fun x => preL s.data.toList x.1)) wr) := hJs
      unfold encStr at hcx
      clear hgc hcur hgc2 hB2r hpre hft hx hxe hJs hlt2
      cases hpx : preB s ⟨x.1.toArray⟩
      · have HPX : Hid (preL s.data.toList x.1 = false) := by show _ = _; simpa [preB, preL] using hpx
        gi_wp2_with (gi_at_call 57; refine (callsIn_wide.2 (HP.out _)).mono ?_; rintro e w' ⟨rfl, rfl⟩)
        refine ⟨fun _ h => (by cases h), ?_⟩
        gi_wp2
        go_roundw
        case rel => exact ⟨k + 1, by omega, by go_num, by rw [HF.out, HPX.out]; simpa using HJs.out, hkp⟩
        case measure => simp [intOf]; omega
      · have HPX : Hid (preL s.data.toList x.1 = true) := by show _ = _; simpa [preB, preL] using hpx
        have hflt : (((sortedN A).attach.take k).filter (fun x => preL s.data.toList x.1)).length < (namesAt A s.data.toList).length := by
          have e := List.take_append_drop (k + 1) (sortedN A).attach
          unfold namesAt
          conv => rhs; rw [← e]
          rw [List.filter_append, HF.out, HPX.out]
          simp
        obtain ⟨fn, tmps, assign, body, hy, hR⟩ := HY.out _ x wr HJs.out hflt
        unfold encStr at hy
        have hpf : ((sortedN A).attach.take (k + 1)).filter (fun x => preL s.data.toList x.1) <+: namesAt A s.data.toList := by
          unfold namesAt; exact (List.take_prefix _ _).filter _
        have HPF : Hid (((sortedN A).attach.take (k + 1)).filter (fun x => preL s.data.toList x.1) <+: namesAt A s.data.toList) := hpf
        clear hflt hpf
        gi_wp2_with (gi_at_call 57; refine (callsIn_wide.2 (HP.out _)).mono ?_; rintro e w' ⟨rfl, rfl⟩)
        refine hR.mono ?_
        rintro e W3 (⟨rfl, hJ3, hk3⟩ | ⟨rfl, hJx3⟩)
        · have HJ3 : Hid (J (((sortedN A).attach.take k).filter (fun x => preL s.data.toList x.1) ++ [x]) W3) := hJ3
          clear hJ3
          gi_wp2
          go_roundw
          case rel => exact ⟨k + 1, by omega, by go_num, by rw [HF.out, HPX.out]; exact HJ3.out, hKt hkp hk3⟩
          case measure => simp [intOf]; omega
        · have HJ3 : Hid (Jx (((sortedN A).attach.take k).filter (fun x => preL s.data.toList x.1) ++ [x]) W3) := hJx3
          clear hJx3
          gi_wp2
          refine bodyPost_ret (results_none rfl _ _ _) rfl ?_
          refine ⟨⟨_, rfl⟩, .inr ⟨_, ?_, HJ3.out⟩⟩
          have := HPF.out
          rw [HF.out, HPX.out] at this
          exact this
    · obtain rfl : k = (sortedN A).length := by omega
      have HJs : Hid (J (((sortedN A).attach.take (sortedN A).length).filter (fun x => preL s.data.toList x.1)) wr) := hJs
      clear hJs
      gi_wp2
      go_end0
      refine ⟨⟨_, rfl⟩, .inl ⟨_, rfl, ?_⟩⟩
      have := HJs.out
      rw [List.take_of_length_le (by simp)] at this
      exact this
theorem iter_stops (h : Parts w base d F A mref ms) (s : ByteArray) (hs : s.size ≤ maxLen) (B1 B2 : Nat) (hB1 : w.heap[B1]? = some (.cells #[.pointer (some ⟨d, 0, none⟩)] 23 (0, 0))) (hB2 : w.heap[B2]? = some (.cells #[.string s] 9 (0, 0)))
    (T : List Nat) (hT : ∀ k ∈ T, k < w.heap.size) (hBT : B2 ∉ T) :
    SeqStopsK Fence.wide 6 Tryd.prog 87 #[.pointer (some ⟨B1, 0, none⟩), .pointer (some ⟨B2, 0, none⟩)] (fun x : NameIn A => #[encStr x.1]) (KpT T)
      (fun xs => xs = namesAt A s.data.toList) (fun pre => pre <+: namesAt A s.data.toList) (namesAt A s.data.toList).length w :=
  iter_stopsK h s hs B1 B2 hB1 hB2 (KpT T) (KpT.refl T) kpT_t (fun W0 W W' k cs t fr hb0 hb1 hk hkp hc => hkp.cells k cs t fr hc (by
    rcases hk with rfl | hk
    · exact hBT
    · intro e
      have := hT k e
      have := hb0.size
      omega))
end

end Go.Proofs.YtlcgcckllecjpaaDoor.Dk
