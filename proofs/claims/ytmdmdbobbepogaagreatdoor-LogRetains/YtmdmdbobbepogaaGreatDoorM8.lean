/- Names, Round, Crash, List, Sort0, Lgn, Lgl, Lgv, OpA, OpC, Same, One, Lgw, Lv: texts merged. -/
import Derived.Test.YtmdmdbobbepogaaGreatDoorM7
import Derived.RangeFuncNested
import Derived.RangeFuncBound
import Derived.RangeFuncCalls
import Derived.RangeFuncLeaves
import Derived.Shelf.Abstract
import Derived.Shelf.RegionOpen
import Derived.OwnWalkIn
import Derived.TacticsInMore
import Derived.LoopNIn
import Derived.LoopIn
import Derived.Test.YtmdmdbobbepogaaGreatDoorM1
import Derived.Deep.QuietTactic
import Derived.BigQuiet
import Derived.OrdersIn
import Derived.Test.YtmdmdbobbepogaaGreatDoorM4
import Derived.Maps.OwnIn
import Derived.Maps.AppendAt
import Derived.Test.YtmdmdbobbepogaaGreatDoorProg
import Derived.Test.YtmdmdbobbepogaaGreatDoorM6
import Derived.Test.YtmdmdbobbepogaaGreatDoorM3
import Derived.Test.YtmdmdbobbepogaaGreatDoorM5
import Derived.Test.YtmdmdbobbepogaaGreatDoorRows
import Derived.LaidSub
import Derived.MakeChecks
import Derived.LaidHandle
import Derived.Stop.LaidErr
import Derived.Lib.LaidTab
/- The names of a disk's files, in order, handed out one by one. -/
namespace Go.Proofs.YtmdmdbobbepogaaGreatDoor.Dk
open Go.RowKit Go.Maps Go.Shelf Go.Sort
set_option linter.unusedSimpArgs false
set_option linter.unusedVariables false
attribute [local go_sem] Oper.semAt_some

def preB (p s : ByteArray) : Bool := p.data.toList.isPrefixOf s.data.toList

theorem preB_short {p s : ByteArray} (h : s.size < p.size) : preB p s = false := by
  unfold preB
  rw [Bool.eq_false_iff]
  intro e
  have := (List.isPrefixOf_iff_prefix.1 e).length_le
  rw [← Lib.size_eq, ← Lib.size_eq] at this
  omega
theorem preB_extract {p s : ByteArray} (_h : p.size ≤ s.size) : ((s.extract 0 p.size).toList == p.toList) = preB p s := by
  unfold preB
  rw [Bool.eq_iff_iff, List.isPrefixOf_iff_prefix, beq_iff_eq, List.prefix_iff_eq_take, Lib.toList_data, Lib.toList_data, Lib.extract_data, ← Lib.size_eq]
  simp
  exact eq_comm

set_option maxHeartbeats 400000 in
theorem hasPrefix_any (s p : ByteArray) (hs : s.size ≤ maxLen) (hp : p.size ≤ maxLen) (w : World) :
    Calls Tryz.prog 101 #[.string s, .string p] w fun e w' => e = .returned (.bool (preB p s)) ∧ w = w' := by
  unfold maxLen at hs hp
  by_cases h : p.size ≤ s.size
  · have HE : Hid (((s.extract 0 p.size).toList == p.toList) = preB p s) := preB_extract h
    go_enter Tryz.func101, Tryz.ntmps101
    go_wp2
    go_ret
    exact ⟨ret_bool HE.out, rfl⟩
  · have HE : Hid (preB p s = false) := preB_short (by omega)
    go_enter Tryz.func101, Tryz.ntmps101
    go_wp2
    go_ret
    exact ⟨ret_bool HE.out.symm, rfl⟩

/-- The names that begin so, in order. -/
def sortedN (A : DA) : List (List UInt8) := (A.files.map (·.name)).mergeSort leB
def preL (bg : List UInt8) (nm : List UInt8) : Bool := bg.isPrefixOf nm
def namesOf (A : DA) (bg : List UInt8) : List (List UInt8) := (sortedN A).filter (preL bg)

/-- A name of one of a disk's files. -/
abbrev NameIn (A : DA) : Type := { x : List UInt8 // x ∈ sortedN A }
def namesAt (A : DA) (bg : List UInt8) : List (NameIn A) := (sortedN A).attach.filter (fun x => preL bg x.1)
theorem namesAt_val (A : DA) (bg : List UInt8) : (namesAt A bg).map (·.1) = namesOf A bg := by
  unfold namesAt namesOf
  conv => rhs; rw [← List.attach_map_subtype_val (sortedN A)]
  rw [List.filter_map]
  rfl

theorem names_in (d : Nat) (s : ByteArray) (w : World) :
    CallsIn Fence.wide 5 Tryz.prog 71 #[.pointer (some ⟨d, 0, none⟩), .string s] w fun e w' =>
      e = .returned (.func (.func 97) #[] #[.pointer (some ⟨w.heap.size, 0, none⟩), .pointer (some ⟨w.heap.size + 1, 0, none⟩)]) ∧
      w' = (w.alloc (.cells #[.pointer (some ⟨d, 0, none⟩)] 23)).alloc (.cells #[.string s] 9) := by
  refine callsIn_wide.2 ?_
  have hmf : ∀ (fn : Fn) (first cap : Array Value) (w : World), (Instr.makeFunc fn first cap).run Tryz.prog w = .ok (.func fn first cap) w := fun _ _ _ _ => rfl
  go_enter Tryz.func71, Tryz.ntmps71
  go_wp2
  go_ret
  exact ⟨rfl, rfl⟩

/-- What a round of a loop over the names keeps: all cells but those of a list of blocks. -/
structure KpT (T : List Nat) (W W' : World) : Prop where
  size : W.heap.size ≤ W'.heap.size
  cells : ∀ k cs t fr, W.heap[k]? = some (.cells cs t fr) → k ∉ T → W'.heap[k]? = some (.cells cs t fr)
theorem KpT.refl (T : List Nat) (W : World) : KpT T W W := ⟨Nat.le_refl _, fun _ _ _ _ h _ => h⟩
theorem kpT_t {T : List Nat} {A B C : World} (h : KpT T A B) (k : KpT T B C) : KpT T A C := ⟨Nat.le_trans h.size k.size, fun i cs t fr hi hn => k.cells i cs t fr (h.cells i cs t fr hi hn) hn⟩
theorem kpT_b {T : List Nat} {w : World} (W : World) (l : Nat) (o o' : Obj) (_ : w.heap.size ≤ l) (h : W.heap[l]? = some o) (ho : o.isCells = false) (_ : o.isWalk = false) : KpT T W (W.putObj l o') := by
  refine ⟨by simp, fun k cs t fr hk _ => ?_⟩
  have hne : k ≠ l := by
    intro e; subst e; rw [h] at hk; cases hk; cases ho
  rw [World.putObj_heap_other hne]; exact hk
theorem KpT.of_turn {T S : List Nat} {W W' : World} (h : Turn S W W') (hs : ∀ k ∈ S, k ∈ T ∨ W.heap.size ≤ k) : KpT T W W' := by
  refine ⟨h.size, fun k cs t fr hk hn => ?_⟩
  refine h.heap hk (fun e => ?_)
  rcases hs k e with h1 | h1
  · exact hn h1
  · have := lt_of_heap hk; omega

section
variable {w w' : World} {base d : Nat} {F : List Nat} {A A' : DA} {mref : Option Nat} {ms : List FileM}
theorem perm_names {D : DataW Unit} {mb n : Nat} (hown : w.ownsMap Tryz.prog 9 ptrR mb n D) (hr : Reads D ms) (hn : (ms.map (·.abs.name)).Nodup) : (ms.map (·.abs.name)).Perm (strKeys D) := by
  have hc : Collected D (fun _ => false) (ms.map (·.abs.name)) := by
    refine ⟨hn, fun x => ?_⟩
    rw [has_of_reads hr]
    unfold findM
    rw [List.find?_isSome]
    simp only [List.mem_map, beq_iff_eq, and_true]
  exact hc.perm hown law Tryz.underlying9 (fun _ => rfl)

/-- A row of texts in a block of its own. -/
def RowS (w : World) (B : Nat) (va : Option Addr) (L : List (List UInt8)) : Prop :=
  L = [] ∨ ∃ g cur, va = some ⟨g, 0, none⟩ ∧ B ≤ g ∧ w.heap[g]? = some (.cells cur 9 (0, 0)) ∧ ∀ (j : Nat) (x : List UInt8), L[j]? = some x → cur[j]? = some (encStr x)
theorem rowS_of {B : Nat} {v : Value} {L : List (List UInt8)} (h : w.ownsRow B 9 1 v L.length (L.map encStr)) : ∃ va vc, v = .slice va L.length vc ∧ RowS w B va L := by
  rcases h.2 with ⟨rfl, h0⟩ | ⟨g, cap, cur, rfl, hb, hg, _, _, _, ht⟩
  · exact ⟨none, 0, by rw [h0], .inl (List.eq_nil_of_length_eq_zero h0)⟩
  · refine ⟨_, _, rfl, .inr ⟨g, cur, rfl, hb, hg, fun j x hx => ?_⟩⟩
    have hj := (List.getElem?_eq_some_iff.1 hx).1
    have : (L.map encStr)[j]? = some (encStr x) := by rw [List.getElem?_map, hx]; rfl
    rw [← ht, List.getElem?_take_of_lt (by omega)] at this
    simpa using this

/-- maps.Keys and slices.Sorted, of a disk's map: a new row with the names in order. -/
theorem sorted_row (h : Parts w base d F A mref ms) :
    CallsIn Fence.wide 5 Tryz.prog 98 #[.func (.func 130) #[] #[.pointer (some ⟨w.heap.size, 0, none⟩)]] (w.alloc (.cells #[.map mref] 63)) fun e w' => ∃ va vc, e = .returned (.slice va (sortedN A).length vc) ∧
      RowS w' (w.heap.size + 1) va (sortedN A) ∧ Below (w.heap.size + 1) (w.alloc (.cells #[.map mref] 63)) w' := by
  have hfil := h.files
  have hnam := h.names
  have hcnt := h.good.count
  have hm := h.map
  have hnl : A.files.map (·.name) = ms.map (·.abs.name) := by rw [hfil, List.map_map]; rfl
  cases mref with
  | none =>
    have hms : ms = [] := hm
    have hs0 : sortedN A = [] := by unfold sortedN; rw [hnl, hms]; simp
    refine (Tryz.slices_Sorted_keys_nil_98_99 w).mono ?_
    rintro e w' ⟨v, ss, rfl, rfl, hrow, hnil, hb⟩
    simp only [World.size_alloc] at hrow hb
    rw [show ([] : List (List UInt8)).length = (sortedN A).length by rw [hs0], show (([] : List (List UInt8)).mergeSort fun x y => decide (x ≤ y)) = sortedN A by rw [hs0]; simp] at hrow
    obtain ⟨va, vc, rfl, hr⟩ := rowS_of hrow
    exact ⟨va, vc, rfl, hr, hb⟩
  | some mb =>
    obtain ⟨D, hown, hrd⟩ := hm
    have hmsl : ms.length ≤ 200 := by rw [hfil, List.length_map] at hcnt; exact hcnt
    refine (Tryz.slices_Sorted_keys_98_99 mb ms.length D ptrR w hown (by rw [hrd.1]; simp only [maxLen]; omega) (by rw [hrd.1]; omega)).mono ?_
    rintro e w' ⟨v, ss, rfl, hp, hrow, hnil, hb⟩
    simp only [World.size_alloc] at hrow hb
    have hp2 : ss.Perm (A.files.map (·.name)) := by rw [hnl]; exact hp.trans (perm_names hown hrd hnam).symm
    have hs0 : ss.mergeSort leB = sortedN A := mergeSort_of_perm hp2
    have hl : ss.length = (sortedN A).length := by rw [← hs0]; simp
    have hrow2 : w'.ownsRow (w.heap.size + 1) 9 1 v (sortedN A).length ((sortedN A).map encStr) := by rw [← hl, ← hs0]; exact hrow
    obtain ⟨va, vc, rfl, hr⟩ := rowS_of hrow2
    exact ⟨va, vc, rfl, hr, hb⟩

theorem sortedN_short (h : Good A) : ∀ x ∈ sortedN A, x.length ≤ 40 := by
  intro x hx
  unfold sortedN at hx
  rw [List.mem_mergeSort] at hx
  obtain ⟨f, hf, rfl⟩ := List.mem_map.1 hx
  exact h.short f hf
theorem sortedN_len (A : DA) : (sortedN A).length = A.files.length := by simp [sortedN]
theorem filter_take_succ {α : Type} (p : α → Bool) (L : List α) (k : Nat) (h : k < L.length) : (L.take (k + 1)).filter p = (L.take k).filter p ++ (if p L[k] then [L[k]] else []) := by
  rw [List.take_succ_eq_append_getElem h, List.filter_append]
  congr 1
  simp [List.filter_cons]
theorem encStr_size (x : List UInt8) : (⟨x.toArray⟩ : ByteArray).size = x.length := by simp [ByteArray.size]

theorem all_any (h : Parts w base d F A mref ms) :
    Calls Tryz.prog 100 #[.pointer (some ⟨d, 0, none⟩)] w fun e w' => e = .returned (.map mref) ∧ w = w' := by
  have c1 := h.c1
  clear h
  go_enter Tryz.func100, Tryz.ntmps100
  go_wp2
  go_ret
  exact ⟨rfl, rfl⟩

set_option maxRecDepth 100000 in
set_option maxHeartbeats 2000000 in
theorem iter_stopsK (h : Parts w base d F A mref ms) (s : ByteArray) (hs : s.size ≤ maxLen) (B1 B2 : Nat) (hB1 : w.heap[B1]? = some (.cells #[.pointer (some ⟨d, 0, none⟩)] 23 (0, 0))) (hB2 : w.heap[B2]? = some (.cells #[.string s] 9 (0, 0)))
    (Kp : World → World → Prop) (hKr : ∀ W, Kp W W) (hKt : ∀ {A B C : World}, Kp A B → Kp B C → Kp A C)
    (hKc : ∀ (W0 W W' : World) (k : Nat) (cs : Array Value) (t : TypeId) (fr : Nat × Nat), Below w.heap.size w W0 → Below W0.heap.size W0 W → (k = B2 ∨ W0.heap.size < k) → Kp W W' → W.heap[k]? = some (.cells cs t fr) → W'.heap[k]? = some (.cells cs t fr)) :
    SeqStopsK Fence.wide 6 Tryz.prog 97 #[.pointer (some ⟨B1, 0, none⟩), .pointer (some ⟨B2, 0, none⟩)] (fun x : NameIn A => #[encStr x.1]) Kp
      (fun xs => xs = namesAt A s.data.toList) (fun pre => pre <+: namesAt A s.data.toList) (namesAt A s.data.toList).length w := fun l J Jx W hW hJ hJx hY h0 => by
  have hP : Parts W base d F A mref ms := h.kept (Turn.of_below hW []) (by simp)
  have hP1 : Parts (W.alloc (.cells #[.map mref] 63)) base d F A mref ms := hP.kept ((Turn.refl [] _).alloc _) (by simp)
  have c1 := hP.c1
  have hb1 : W.cell? ⟨B1, 0, none⟩ = some (.pointer (some ⟨d, 0, none⟩)) := by rw [hW.cell (p := ⟨B1, 0, none⟩) (lt_of_heap hB1), cell_of hB1]; rfl
  have hrow0 := sorted_row hP
  have HR : Hid (CallsIn Fence.wide 5 Tryz.prog 98 #[.func (.func 130) #[] #[.pointer (some ⟨W.heap.size, 0, none⟩)]] (W.alloc (.cells #[.map mref] 63)) fun e w' => ∃ va vc, e = .returned (.slice va (sortedN A).length vc) ∧
      RowS w' (W.heap.size + 1) va (sortedN A) ∧ Below (W.heap.size + 1) (W.alloc (.cells #[.map mref] 63)) w') := hrow0
  have hsz := hW.size
  have f1 : Fence.wide.fn 100 := trivial
  have f2 : Fence.wide.fn 99 := trivial
  have f3 : Fence.wide.fn 98 := trivial
  have f4 : Fence.wide.fn 101 := trivial
  have HG : Hid (Good A) := hP.good
  have HA : Hid (Calls Tryz.prog 100 #[.pointer (some ⟨d, 0, none⟩)] W fun e w' => e = .returned (.map mref) ∧ W = w') := all_any hP
  clear hP hP1 hrow0 h
  refine callsIn_of_wp Tryz.func97 rfl trivial ?_ rfl
  simp only [Tryz.ntmps97, List.size_toArray, List.length_cons, List.length_nil, Nat.reduceAdd, Nat.reduceSub, Array.replicate_succ, Array.replicate_zero, List.push_toArray, List.append_toArray, List.nil_append, List.cons_append]
  gi_wp2_with (first
    | (gi_at_call 99; refine (Tryz.maps_Keys_99 _ _).mono ?_; rintro e w' ⟨rfl, rfl⟩)
    | (gi_at_call 98; refine HR.out.mono ?_; rintro e W2 ⟨va, vc, rfl, hrow, hb⟩)
    | (gi_at_call 100; refine (callsIn_wide.2 HA.out).mono ?_; rintro e w' ⟨rfl, rfl⟩))
  have hB2T : B2 < w.heap.size := lt_of_heap hB2
  have hbel : Below W.heap.size W W2 := ((Below.refl _ W).alloc (Nat.le_refl _) _).trans (hb.mono (by omega))
  have hg2 : W2.heap[B2]? = some (.cells #[.string s] 9 (0, 0)) := (hbel.block B2 (by omega)).trans ((hW.block B2 hB2T).trans hB2)
  have hJ2 : J [] W2 := hJ _ _ _ none h0 ⟨hbel.os, hbel.tape, hbel.output, hbel.size, fun k hk _ => hbel.block k hk⟩ (by simp)
  have hlen : (sortedN A).length ≤ 200 := by rw [sortedN_len]; exact HG.out.count
  have HRow : Hid (RowS W2 (W.heap.size + 1) va (sortedN A)) := hrow
  have HY : Hid (∀ (pre : List (NameIn A)) (x : NameIn A) (W1 : World), J pre W1 → pre.length < (namesAt A s.data.toList).length → YieldAt Fence.wide (6 - 1) Tryz.prog l #[encStr x.1] W1 fun e W' =>
      (e = .returned (.bool true) ∧ J (pre ++ [x]) W' ∧ Kp W1 W') ∨ (e = .returned (.bool false) ∧ Jx (pre ++ [x]) W')) := hY
  have HBel : Hid (Below W.heap.size W W2) := hbel
  have HW : Hid (Below w.heap.size w W) := hW
  clear hrow hb hY h0 HR hbel HA c1 hb1
  gi_loopw [11] (fun i wr => ∃ k : Nat, k ≤ (sortedN A).length ∧ i = .int .i64 k ∧ J (((sortedN A).attach.take k).filter (fun x => preL s.data.toList x.1)) wr ∧ Kp W2 wr)
    (fun i _ => (sortedN A).length - (intOf i).toNat)
  case atStart => exact ⟨0, Nat.zero_le _, rfl, by simpa using hJ2, hKr _⟩
  case round =>
    obtain ⟨k, hk, rfl, hJs, hkp⟩ := hrel
    by_cases hlt : k < (sortedN A).length
    · have hlt2 : k < (sortedN A).attach.length := by simpa using hlt
      obtain ⟨x, hxe⟩ : ∃ x, (sortedN A).attach[k] = x := ⟨_, rfl⟩
      have hx : (sortedN A)[k]? = some x.1 := by rw [List.getElem?_eq_getElem hlt, ← hxe, List.getElem_attach]
      rcases HRow.out with h0 | ⟨g, cur, rfl, hgb, hgc, hcur⟩
      · rw [h0] at hlt; simp at hlt
      have hgc2 := hKc W W2 wr g cur _ _ HW.out HBel.out (.inr (by omega)) hkp hgc
      have hcx : wr.cell? ⟨g, k, none⟩ = some (encStr x.1) := by rw [cell_of hgc2]; exact hcur k x.1 hx
      have hB2r := hKc W W2 wr B2 _ _ _ HW.out HBel.out (.inl rfl) hkp hg2
      have hcb : wr.cell? ⟨B2, 0, none⟩ = some (.string s) := by rw [cell_of hB2r]; rfl
      have hxs : x.1.length ≤ 40 := sortedN_short HG.out x.1 x.2
      have hft := filter_take_succ (fun x : NameIn A => preL s.data.toList x.1) (sortedN A).attach k hlt2
      rw [hxe] at hft
      have hpre := fun W => hasPrefix_any ⟨x.1.toArray⟩ s (by rw [encStr_size]; simp only [maxLen]; omega) hs W
      have HP : Hid (∀ W, Calls Tryz.prog 101 #[.string ⟨x.1.toArray⟩, .string s] W fun e w' => e = .returned (.bool (preB s ⟨x.1.toArray⟩)) ∧ W = w') := hpre
      have HF : Hid (((sortedN A).attach.take (k + 1)).filter (fun x => preL s.data.toList x.1) = ((sortedN A).attach.take k).filter (fun x => preL s.data.toList x.1) ++ (if preL s.data.toList x.1 then [x] else [])) := hft
      have HJs : Hid (J (((sortedN A).attach.take k).filter (fun x => preL s.data.toList x.1)) wr) := hJs
      unfold encStr at hcx
      clear hgc hcur hgc2 hB2r hpre hft hx hxe hJs hlt2
      cases hpx : preB s ⟨x.1.toArray⟩
      · have HPX : Hid (preL s.data.toList x.1 = false) := by show _ = _; simpa [preB, preL] using hpx
        gi_wp2_with (gi_at_call 101; refine (callsIn_wide.2 (HP.out _)).mono ?_; rintro e w' ⟨rfl, rfl⟩)
        refine ⟨fun _ h => (by cases h), ?_⟩
        gi_wp2
        go_roundw
        case rel => exact ⟨k + 1, by omega, by go_num, by rw [HF.out, HPX.out]; simpa using HJs.out, hkp⟩
        case measure => simp [intOf]; omega
      · have HPX : Hid (preL s.data.toList x.1 = true) := by show _ = _; simpa [preB, preL] using hpx
        have hflt : (((sortedN A).attach.take k).filter (fun x => preL s.data.toList x.1)).length < (namesAt A s.data.toList).length := by
          have e := List.take_append_drop (k + 1) (sortedN A).attach
          unfold namesAt
          conv => rhs; rw [← e]
          rw [List.filter_append, HF.out, HPX.out]
          simp
        obtain ⟨fn, tmps, assign, body, hy, hR⟩ := HY.out _ x wr HJs.out hflt
        unfold encStr at hy
        have hpf : ((sortedN A).attach.take (k + 1)).filter (fun x => preL s.data.toList x.1) <+: namesAt A s.data.toList := by
          unfold namesAt; exact (List.take_prefix _ _).filter _
        have HPF : Hid (((sortedN A).attach.take (k + 1)).filter (fun x => preL s.data.toList x.1) <+: namesAt A s.data.toList) := hpf
        clear hflt hpf
        gi_wp2_with (gi_at_call 101; refine (callsIn_wide.2 (HP.out _)).mono ?_; rintro e w' ⟨rfl, rfl⟩)
        refine hR.mono ?_
        rintro e W3 (⟨rfl, hJ3, hk3⟩ | ⟨rfl, hJx3⟩)
        · have HJ3 : Hid (J (((sortedN A).attach.take k).filter (fun x => preL s.data.toList x.1) ++ [x]) W3) := hJ3
          clear hJ3
          gi_wp2
          go_roundw
          case rel => exact ⟨k + 1, by omega, by go_num, by rw [HF.out, HPX.out]; exact HJ3.out, hKt hkp hk3⟩
          case measure => simp [intOf]; omega
        · have HJ3 : Hid (Jx (((sortedN A).attach.take k).filter (fun x => preL s.data.toList x.1) ++ [x]) W3) := hJx3
          clear hJx3
          gi_wp2
          refine bodyPost_ret (results_none rfl _ _ _) rfl ?_
          refine ⟨⟨_, rfl⟩, .inr ⟨_, ?_, HJ3.out⟩⟩
          have := HPF.out
          rw [HF.out, HPX.out] at this
          exact this
    · obtain rfl : k = (sortedN A).length := by omega
      have HJs : Hid (J (((sortedN A).attach.take (sortedN A).length).filter (fun x => preL s.data.toList x.1)) wr) := hJs
      clear hJs
      gi_wp2
      go_end0
      refine ⟨⟨_, rfl⟩, .inl ⟨_, rfl, ?_⟩⟩
      have := HJs.out
      rw [List.take_of_length_le (by simp)] at this
      exact this
theorem iter_stops (h : Parts w base d F A mref ms) (s : ByteArray) (hs : s.size ≤ maxLen) (B1 B2 : Nat) (hB1 : w.heap[B1]? = some (.cells #[.pointer (some ⟨d, 0, none⟩)] 23 (0, 0))) (hB2 : w.heap[B2]? = some (.cells #[.string s] 9 (0, 0)))
    (T : List Nat) (hT : ∀ k ∈ T, k < w.heap.size) (hBT : B2 ∉ T) :
    SeqStopsK Fence.wide 6 Tryz.prog 97 #[.pointer (some ⟨B1, 0, none⟩), .pointer (some ⟨B2, 0, none⟩)] (fun x : NameIn A => #[encStr x.1]) (KpT T)
      (fun xs => xs = namesAt A s.data.toList) (fun pre => pre <+: namesAt A s.data.toList) (namesAt A s.data.toList).length w :=
  iter_stopsK h s hs B1 B2 hB1 hB2 (KpT T) (KpT.refl T) kpT_t (fun W0 W W' k cs t fr hb0 hb1 hk hkp hc => hkp.cells k cs t fr hc (by
    rcases hk with rfl | hk
    · exact hBT
    · intro e
      have := hT k e
      have := hb0.size
      omega))
end

end Go.Proofs.YtmdmdbobbepogaaGreatDoor.Dk

/- A region that draws its order, in a round of a loop over a function: its operations only read, but for the last one, which waits for all others: one walk in the order of the text serves every order. No program. -/
namespace Go.Proofs.YtmdmdbobbepogaaGreatDoor
open Go.RowKit
set_option linter.unusedSimpArgs false
set_option linter.unusedVariables false

section
variable {n l : Nat} {P : Program} {C : World → Prop}

/-- A quiet operation, carried out in a round. -/
theorem wpIn_of_quiet {o : Oper} {a : Act} {K : Act → Prop} {K' : Act → World → Prop} {Q' : Exit → Act → World → Prop} {w : World} (hp : ∀ c, o.op ≠ .defer c) (hw : C w) (h : ∀ a w', C w' → K a → K' a w') (hh : o.quiet P a C K) :
    o.wpIn (Fence.wide.inRound l) n P a w K' Q' := by
  obtain ⟨v, h1, h2⟩ := hh
  have h3 := h1 w hw
  unfold Oper.quietAt at h3
  unfold Oper.wpIn
  refine ⟨fun f _ => trivial, ?_⟩
  rw [Oper.semAt_eq _ _ _ hp]
  generalize (execOp a.eval o).run P w = r at *
  cases r with
  | ok x w' =>
    cases x <;> simp only [Oper.quietUpon] at h3 <;> simp only [Oper.uponIn]
    case value u => obtain ⟨e1, e2⟩ := h3; rw [e1, e2]; exact h _ _ hw h2
    case skip => obtain ⟨e1, e2⟩ := h3; rw [e1, ← e2]; exact h _ _ hw h2
    case enter f args =>
      obtain ⟨e1, hc⟩ := h3
      rw [e1]
      exact ⟨fun hd => by simp [Fence.wide] at hd, CallsIn.inRound l (callsIn_wide.2 (hc.mono fun e w'' ⟨he, hw''⟩ => by subst he; exact h _ _ hw'' h2))⟩
  | halt x w' => simp only [Oper.quietUpon] at h3

theorem any_of_quiet {ls : List Oper} {o : Oper} {Q : Exit → Act → World → Prop} (hc : coverB ls o = true) (hp : plainB ls = true) (hg : guardsB ls = true) (hon : ∀ e ∈ o.after.toList, e.on < ls.length) (hlex : ∀ (i : Nat) (x : Oper), ls[i]? = some x → ∀ e ∈ x.after.toList, Region.binds .any e = true → e.on < i) :
    ∀ (fuel : Nat) (listed : Array Bool) (a : Act) (w : World), listed.size = ls.length → Down ls listed → C w →
      wpAnyQ P .any ls.toArray C (fun a' => ∀ w', C w' → wpOpIn (Fence.wide.inRound l) n P (ls ++ [o]).toArray Q ls.length (fun a w => Q .normal a w) a' w') fuel listed a →
      wpAnyIn (Fence.wide.inRound l) n P .any (ls ++ [o]).toArray Q (fuel + 1) (listed.push false) a w := by
  have last : (ls ++ [o])[ls.length]? = some o := by simp
  have dn : ∀ listed : Array Bool, Down ls listed → listed.size = ls.length → Down (ls ++ [o]) listed := by
    intro listed hd hs i x hx hi
    by_cases h1 : i < ls.length
    · rw [List.getElem?_append_left h1] at hx; exact hd i x hx hi
    · exfalso
      have := listed_lt hi
      omega
  -- nothing of the first ones ready: all of them are listed
  have full : ∀ listed : Array Bool, listed.size = ls.length → Region.ready .any ls.toArray listed = [] → ∀ i, i < ls.length → Listed listed i := by
    intro listed hs hr i
    induction i using Nat.strongRecOn with
    | ind i ih =>
      intro hi
      refine Classical.byContradiction fun hn => ?_
      have hm : i ∈ Region.ready .any ls.toArray listed := by
        rw [mem_ready]
        refine ⟨by simpa using hi, ?_, ls[i], by simp [hi], fun e he hb => ih e.on (hlex i _ (by simp [hi]) e he hb) (by have := hlex i _ (by simp [hi] : ls[i]? = some ls[i]) e he hb; omega)⟩
        unfold Listed at hn
        rw [Array.getElem?_eq_getElem (by omega)] at hn ⊢
        simpa using hn
      rw [hr] at hm; cases hm
  -- the last one, when all others are listed
  have fin : ∀ (fuel : Nat) (listed : Array Bool) (a : Act) (w : World), listed.size = ls.length → (∀ i, i < ls.length → Listed listed i) → C w →
      (∀ w', C w' → wpOpIn (Fence.wide.inRound l) n P (ls ++ [o]).toArray Q ls.length (fun a w => Q .normal a w) a w') →
      wpOpIn (Fence.wide.inRound l) n P (ls ++ [o]).toArray Q ls.length (wpAnyIn (Fence.wide.inRound l) n P .any (ls ++ [o]).toArray Q fuel ((listed.push false).setIfInBounds ls.length true)) a w := by
    intro fuel listed a w hs hall hw h
    refine wpOpIn_mono (fun a' w' hq => ?_) (h w hw)
    have hr : Region.ready .any (ls ++ [o]).toArray ((listed.push false).setIfInBounds ls.length true) = [] := by
      rw [List.eq_nil_iff_forall_not_mem]
      intro i hi
      rw [mem_ready] at hi
      obtain ⟨h1, h2, _⟩ := hi
      simp only [List.size_toArray, List.length_append, List.length_cons, List.length_nil] at h1
      by_cases hil : i < ls.length
      · have := hall i hil
        have h5 : Listed ((listed.push false).setIfInBounds ls.length true) i := listed_set.2 (.inl (listed_push.2 this))
        unfold Listed at h5
        rw [h5] at h2; cases h2
      · have : i = ls.length := by omega
        subst this
        have h5 : Listed ((listed.push false).setIfInBounds ls.length true) ls.length := listed_set.2 (.inr ⟨rfl, by simp; omega⟩)
        unfold Listed at h5
        rw [h5] at h2; cases h2
    cases fuel with
    | zero => exact ⟨hr, hq⟩
    | succ fuel => exact ⟨fun _ => hq, fun i hi => by rw [hr] at hi; cases hi⟩
  intro fuel
  induction fuel with
  | zero =>
    intro listed a w hs hd hw h
    have hall := full listed hs h.1
    refine ⟨fun hr => ?_, fun i hi => ?_⟩
    · exfalso
      have hm : ls.length ∈ Region.ready .any (ls ++ [o]).toArray (listed.push false) := by
        rw [mem_ready]
        refine ⟨by simp, by rw [← hs]; simp, o, by simp, fun e he _ => listed_push.2 (hall _ (hon e he))⟩
      rw [hr] at hm; cases hm
    · have hi' := hi
      rw [mem_ready] at hi
      obtain ⟨h1, h2, _⟩ := hi
      simp only [List.size_toArray, List.length_append, List.length_cons, List.length_nil] at h1
      by_cases hil : i < ls.length
      · exfalso
        have := hall i hil
        rw [false_push (by omega)] at h2
        unfold Listed at this
        rw [this] at h2; cases h2
      · have : i = ls.length := by omega
        subst this
        exact fin 0 listed a w hs hall hw h.2
  | succ fuel ih =>
    intro listed a w hs hd hw h
    refine ⟨fun hr => ?_, fun i hi => ?_⟩
    · exfalso
      by_cases he : Region.ready .any ls.toArray listed = []
      · have hall := full listed hs he
        have hm : ls.length ∈ Region.ready .any (ls ++ [o]).toArray (listed.push false) := by
          rw [mem_ready]
          exact ⟨by simp, by rw [← hs]; simp, o, by simp, fun e he _ => listed_push.2 (hall _ (hon e he))⟩
        rw [hr] at hm; cases hm
      · obtain ⟨i, hi⟩ := List.exists_mem_of_ne_nil _ he
        rw [mem_ready] at hi
        obtain ⟨h1, h2, x, hx, h3⟩ := hi
        simp only [List.size_toArray] at h1
        have hm : i ∈ Region.ready .any (ls ++ [o]).toArray (listed.push false) := by
          rw [mem_ready]
          refine ⟨by simp; omega, (false_push (by omega)).2 h2, x, ?_, fun e he hb => listed_push.2 (h3 e he hb)⟩
          simpa [List.getElem?_append_left h1] using hx
        rw [hr] at hm; cases hm
    · have hi' := hi
      rw [mem_ready] at hi
      obtain ⟨h1, h2, x, hx, h3⟩ := hi
      simp only [List.size_toArray, List.length_append, List.length_cons, List.length_nil] at h1
      by_cases hil : i < ls.length
      · have hx' : ls[i]? = some x := by simpa [List.getElem?_append_left hil] using hx
        have hm : i ∈ Region.ready .any ls.toArray listed := by
          rw [mem_ready]
          exact ⟨by simpa using hil, (false_push (by omega)).1 h2, x, by simpa using hx', fun e he hb => listed_push.1 (h3 e he hb)⟩
        have hq := h.2 i hm
        unfold qOp at hq
        rw [show ls.toArray[i]? = some x by simpa using hx'] at hq
        simp only at hq
        have hdn : Down ls (listed.setIfInBounds i true) := down_set hd hx' (fun e he hb => listed_push.1 (h3 e he hb))
        unfold wpOpIn
        rw [hx]
        simp only [wanted_pre hg hx']
        rw [push_set (by omega)]
        split
        · rename_i hw'
          rw [if_pos hw'] at hq
          exact wpIn_of_quiet (plain_of hp hx') hw (fun a' w' hC hK => ih _ a' w' (by simpa using hs) hdn hC hK) hq
        · rename_i hw'
          rw [if_neg hw'] at hq
          exact ⟨fun f _ => trivial, ih _ _ w (by simpa using hs) hdn hw hq⟩
      · have : i = ls.length := by omega
        subst this
        have hxo : x = o := by simpa using hx.symm
        subst hxo
        have hall := all_listed hc (dn _ hd hs) (fun e he hb => listed_push.1 (h3 e he hb))
        refine fin (fuel + 1) listed a w hs hall hw (h.1 ?_)
        rw [List.eq_nil_iff_forall_not_mem]
        intro i hi
        rw [mem_ready] at hi
        obtain ⟨g1, g2, _⟩ := hi
        simp only [List.size_toArray] at g1
        have := hall i g1
        unfold Listed at this
        rw [this] at g2; cases g2

def lastB (ls : List Oper) (o : Oper) : Bool := coverB ls o && plainB ls && guardsB ls && edgesB ls && o.after.toList.all fun e => decide (e.on < ls.length)

/-- THE LAST ONE WAITS FOR ALL OTHERS, which only read: one walk of the order of the text serves every order. -/
theorem wpIn_round_quiet_last {id m : Nat} {lo : List Oper} {o : Oper} {Q : Exit → Act → World → Prop} {a : Act} {w : World} (hget : lo[m]? = some o) (hlen : m + 1 = lo.length) (hm : P.follows .mixedOrders = true)
    (hB : Region.lexB .any (lo.take m).toArray = true) (hl : lastB (lo.take m) o = true)
    (h : wpQuiet P (lo.take m).toArray (fun w' => ∃ k, w' = w.drewN k) (fun a' => ∀ w', (∃ k, w' = w.drewN k) → wpListIn (Fence.wide.inRound l) n P lo.toArray Q [o] a' w') (lo.take m) a) :
    (Code.region id lo.toArray true).wpIn (Fence.wide.inRound l) n P Q a w := by
  have hlm : (lo.take m).length = m := by simp; omega
  have hsplit : lo = lo.take m ++ [o] := by
    have h1 := List.take_append_drop m lo
    have h2 : lo.drop m = [o] := by
      obtain ⟨hi, he⟩ := List.getElem?_eq_some_iff.1 hget
      rw [List.drop_eq_getElem_cons hi, he, List.drop_of_length_le (by omega)]
    rw [h2] at h1; exact h1.symm
  simp only [lastB, Bool.and_eq_true] at hl
  obtain ⟨⟨⟨⟨h1, h2⟩, h3⟩, h4⟩, h5⟩ := hl
  simp only [Region.lexB, Bool.and_eq_true] at hB
  have hq := wpAnyQ_lex (C := fun w' => ∃ k, w' = w.drewN k) (md := .any) hB.1 (lo.take m) 0 (Array.replicate (lo.take m).toArray.size false) a (by simp) (by simpa using hB.2) h
  have hfin : ∀ a' w', wpListIn (Fence.wide.inRound l) n P lo.toArray Q [o] a' w' → wpOpIn (Fence.wide.inRound l) n P (lo.take m ++ [o]).toArray Q (lo.take m).length (fun a w => Q .normal a w) a' w' := by
    intro a' w' hh
    rw [← hsplit, hlm]
    unfold wpOpIn
    rw [show lo.toArray[m]? = some o by simpa using hget]
    exact hh
  have hq2 : wpAnyQ P .any (lo.take m).toArray (fun w' => ∃ k, w' = w.drewN k) (fun a' => ∀ w', (∃ k, w' = w.drewN k) → wpOpIn (Fence.wide.inRound l) n P (lo.take m ++ [o]).toArray Q (lo.take m).length (fun a w => Q .normal a w) a' w') (lo.take m).length (Array.replicate (lo.take m).toArray.size false) a := by
    have mono : ∀ (fuel : Nat) (listed : Array Bool) (a : Act), wpAnyQ P .any (lo.take m).toArray (fun w' => ∃ k, w' = w.drewN k) (fun a' => ∀ w', (∃ k, w' = w.drewN k) → wpListIn (Fence.wide.inRound l) n P lo.toArray Q [o] a' w') fuel listed a →
        wpAnyQ P .any (lo.take m).toArray (fun w' => ∃ k, w' = w.drewN k) (fun a' => ∀ w', (∃ k, w' = w.drewN k) → wpOpIn (Fence.wide.inRound l) n P (lo.take m ++ [o]).toArray Q (lo.take m).length (fun a w => Q .normal a w) a' w') fuel listed a := by
      intro fuel
      induction fuel with
      | zero => intro listed a hh; exact ⟨hh.1, fun w' hw' => hfin _ _ (hh.2 w' hw')⟩
      | succ fuel ih => intro listed a hh; exact ⟨fun hr w' hw' => hfin _ _ (hh.1 hr w' hw'), fun i hi => qOp_mono (fun a => ih _ a) (hh.2 i hi)⟩
    exact mono _ _ _ hq
  have hany := any_of_quiet (n := n) (l := l) (Q := Q) h1 h2 h3 (fun e he => by simpa using (List.all_eq_true.1 h5) e he) (by
    intro i x hx e he hb
    have hi : i < (lo.take m).length := (List.getElem?_eq_some_iff.1 hx).1
    have h6 := (List.all_eq_true.1 h4) i (List.mem_range.2 hi)
    rw [hx, Option.map_some, Option.getD_some] at h6
    have h7 := (List.all_eq_true.1 h6) e he
    rw [hb] at h7
    simpa using h7) (lo.take m).length (Array.replicate (lo.take m).toArray.size false) a { w with drawn := w.drawn + 1 } (by simp) (by
      intro i x _ hi
      unfold Listed at hi
      rw [Array.getElem?_replicate] at hi
      split at hi <;> cases hi) ⟨1, rfl⟩ hq2
  refine wpIn_region_any hm ?_
  rw [← hsplit] at hany
  have e1 : (Array.replicate (lo.take m).toArray.size false).push false = Array.replicate lo.toArray.size false := by
    rw [← Array.replicate_succ]
    congr 1
    simp; omega
  have e2 : (lo.take m).length + 1 = lo.toArray.size := by rw [hlm]; simpa using hlen
  rw [e1, e2] at hany
  exact hany
end

end Go.Proofs.YtmdmdbobbepogaaGreatDoor

/- Crash: what it leaves of each file. -/
namespace Go.Proofs.YtmdmdbobbepogaaGreatDoor.Dk
open Go.RowKit Go.Maps Go.Shelf Go.Sort
set_option linter.unusedSimpArgs false
set_option linter.unusedVariables false
attribute [local go_sem] Oper.semAt_some

/-- What a crash leaves of a file. -/
def crash1 (fs : List UInt8) (k : Nat) (f : FA) : FA := { f with bytes := f.bytes.take (min (f.safe + fateN fs k) f.bytes.length), safe := min (f.safe + fateN fs k) f.bytes.length }
def crashTo (A : DA) (fs : List UInt8) (pre : List (List UInt8)) : DA := pre.zipIdx.foldl (fun B p => B.upd p.1 (crash1 fs p.2)) A
def DA.crash (A : DA) (fs : List UInt8) : DA := { crashTo A fs (sortedN A) with limited := false }
theorem crashTo_snoc (A : DA) (fs : List UInt8) (pre : List (List UInt8)) (x : List UInt8) : crashTo A fs (pre ++ [x]) = (crashTo A fs pre).upd x (crash1 fs pre.length) := by
  simp [crashTo, List.zipIdx_append, List.foldl_append]
theorem crash1_name (fs : List UInt8) (k : Nat) (f : FA) : (crash1 fs k f).name = f.name := rfl
theorem snoc_ind {α : Type} {p : List α → Prop} (h0 : p []) (hs : ∀ l x, p l → p (l ++ [x])) : ∀ l, p l := by
  have : ∀ l : List α, p l.reverse := by
    intro l
    induction l with
    | nil => exact h0
    | cons x l ih => rw [List.reverse_cons]; exact hs _ _ ih
  intro l
  have := this l.reverse
  rwa [List.reverse_reverse] at this
theorem crashTo_names (A : DA) (fs : List UInt8) : ∀ pre : List (List UInt8), (crashTo A fs pre).files.map (·.name) = A.files.map (·.name) := by
  refine snoc_ind rfl ?_
  intro pre x ih
  rw [crashTo_snoc]; show ((setF _ _ _).map (·.name)) = _; rw [setF_names _ _ _ (crash1_name fs _), ih]
theorem crashTo_room (A : DA) (fs : List UInt8) : ∀ pre : List (List UInt8), (crashTo A fs pre).room = A.room ∧ (crashTo A fs pre).limited = A.limited ∧ (crashTo A fs pre).left = A.left := by
  refine snoc_ind ⟨rfl, rfl, rfl⟩ ?_
  intro pre x ih
  rw [crashTo_snoc]; exact ih
theorem keepsFrom_of_turn {B : Nat} {S : List Nat} {W W' : World} (h : Turn S W W') (hs : ∀ k ∈ S, k < B) : KeepsFrom B W W' :=
  ⟨h.size, fun k o hB hk _ => h.heap hk (fun e => by have := hs k e; omega)⟩

section
variable {w w' : World} {base d : Nat} {F : List Nat} {A A' : DA} {mref : Option Nat} {ms : List FileM}

theorem find_name (h : Parts w base d F A mref ms) {x : List UInt8} (hx : x ∈ A.files.map (·.name)) : ∃ m, findM ms x = some m := by
  rw [h.files, List.map_map] at hx
  obtain ⟨m, hm, e⟩ := List.mem_map.1 hx
  have : (findM ms x).isSome := by unfold findM; rw [List.find?_isSome]; exact ⟨m, hm, by simpa using e⟩
  exact Option.isSome_iff_exists.1 this

/-- How the world stands between two rounds. -/
def CrashI (w : World) (base d : Nat) (F : List Nat) (A : DA) (mref : Option Nat) (v : Value) (fs : List UInt8) (pre : List (NameIn A)) (W : World) : Prop :=
  (∃ F' ms', Parts W base d F' (crashTo A fs (pre.map (·.1))) mref ms' ∧ ∀ k ∈ F', k ∈ F) ∧ Turn F w W ∧
  W.heap[w.heap.size]? = some (.cells #[.pointer (some ⟨d, 0, none⟩)] 23 (0, 0)) ∧ W.heap[w.heap.size + 1]? = some (.cells #[v] 57 (0, 0)) ∧ W.heap[w.heap.size + 1 + 1]? = some (.cells #[.int .i64 pre.length] 3 (0, 0))

set_option maxRecDepth 100000 in
set_option maxHeartbeats 2000000 in
theorem crash_any (h : Parts w base d F A mref ms) (v : Value) (fs : List UInt8) (hxk : ∀ Z, Turn F w Z → SliceAt Z v (fs.map encB)) (hfl : fs.length ≤ 9223372036854775807) :
    Calls Tryz.prog 49 #[.pointer (some ⟨d, 0, none⟩), v] w fun e w' => e = .returned (.tuple #[]) ∧ Did w w' base d F (A.crash fs) := by
  have hdF := h.mem_self
  have hdlt := h.lt d hdF
  have hx := hxk w (Turn.refl _ _)
  have hvf : ∃ xa xc, v = .slice xa fs.length xc := by
    rcases hx with ⟨rfl, hb⟩ | ⟨a, c, rfl, _⟩
    · have : fs = [] := by simpa using hb
      subst this; exact ⟨_, _, rfl⟩
    · exact ⟨some a, c, by simp⟩
  obtain ⟨xa, xc, rfl⟩ := hvf
  refine (callsIn_wide (n := 7)).1 ?_
  have H : Hid (Parts w base d F A mref ms) := h
  have HX : Hid (SliceAt w (.slice xa fs.length xc) (fs.map encB)) := hx
  have HXK : Hid (∀ Z, Turn F w Z → SliceAt Z (.slice xa fs.length xc) (fs.map encB)) := hxk
  clear h hx hxk
  have f1 : Fence.wide.fn 71 := trivial
  refine callsIn_of_wp_marks Tryz.func49 rfl trivial ?_ rfl
  simp only [Tryz.ntmps49, List.size_toArray, List.length_cons, List.length_nil, Nat.reduceAdd, Nat.reduceSub, Array.replicate_succ, Array.replicate_zero, List.push_toArray, List.append_toArray, List.nil_append, List.cons_append]
  gi_wp2_with (gi_at_call 71; refine (callsIn_wide.2 (callsIn_wide.1 (names_in d _ _))).mono ?_; rintro e w' ⟨rfl, rfl⟩)
  obtain ⟨W3, hW3⟩ : ∃ W3, (((w.alloc (.cells #[.pointer (some ⟨d, 0, none⟩)] 23)).alloc (.cells #[.slice xa fs.length xc] 57)).alloc (.cells #[.int .i64 0] 3)) = W3 := ⟨_, rfl⟩
  have hs3 : W3.heap.size = w.heap.size + 3 := by rw [← hW3]; simp
  have hb3 : Below w.heap.size w W3 := by
    rw [← hW3]
    exact (((Below.refl _ w).alloc (Nat.le_refl _) _).alloc (by simp) _).alloc (by simp; omega) _
  have hd3 : W3.heap[w.heap.size]? = some (.cells #[.pointer (some ⟨d, 0, none⟩)] 23 (0, 0)) := by
    rw [← hW3, Below.heap_alloc _ _ _ (by simp; omega), Below.heap_alloc _ _ _ (by simp)]; exact heap_new w _
  have hf3 : W3.heap[w.heap.size + 1]? = some (.cells #[.slice xa fs.length xc] 57 (0, 0)) := by
    rw [← hW3, Below.heap_alloc _ _ _ (by simp)]
    have := heap_new (w.alloc (.cells #[.pointer (some ⟨d, 0, none⟩)] 23)) (.cells #[.slice xa fs.length xc] 57)
    rwa [World.size_alloc] at this
  have hk3 : W3.heap[w.heap.size + 1 + 1]? = some (.cells #[.int .i64 0] 3 (0, 0)) := by
    rw [← hW3]
    have := heap_new ((w.alloc (.cells #[.pointer (some ⟨d, 0, none⟩)] 23)).alloc (.cells #[.slice xa fs.length xc] 57)) (.cells #[.int .i64 0] 3)
    rwa [World.size_alloc, World.size_alloc] at this
  simp only [hW3]
  obtain ⟨W5, hW5⟩ : ∃ W5, (W3.alloc (.cells #[.pointer (some ⟨d, 0, none⟩)] 23)).alloc (.cells #[.string { data := #[] }] 9) = W5 := ⟨_, rfl⟩
  have hs5 : W5.heap.size = w.heap.size + 5 := by rw [← hW5]; simp [hs3]
  have hb5 : Turn [] W3 W5 := by rw [← hW5]; exact ((Turn.refl [] W3).alloc _).alloc _
  have hB1 : W5.heap[w.heap.size + 1 + 1 + 1]? = some (.cells #[.pointer (some ⟨d, 0, none⟩)] 23 (0, 0)) := by
    rw [← hW5, Below.heap_alloc _ _ _ (by simp [hs3])]
    have := heap_new W3 (.cells #[.pointer (some ⟨d, 0, none⟩)] 23)
    rwa [hs3] at this
  have hB2 : W5.heap[w.heap.size + 1 + 1 + 1 + 1]? = some (.cells #[.string { data := #[] }] 9 (0, 0)) := by
    rw [← hW5]
    have := heap_new (W3.alloc (.cells #[.pointer (some ⟨d, 0, none⟩)] 23)) (.cells #[.string { data := #[] }] 9)
    rwa [World.size_alloc, hs3] at this
  have hFlt := H.out.lt
  have htw5 : Turn [] w W5 := (Turn.of_below hb3 []).same hb5
  have hP5 : Parts W5 base d F A mref ms := H.out.kept htw5 (by simp)
  have hI5 : CrashI w base d F A mref (.slice xa fs.length xc) fs [] W5 :=
    ⟨⟨F, ms, hP5, fun _ hk => hk⟩, htw5.mono (by simp), hb5.heap hd3 (by simp), hb5.heap hf3 (by simp), hb5.heap hk3 (by simp)⟩
  have hseq := iter_stops hP5 { data := #[] } (by simp [maxLen, ByteArray.size]) (w.heap.size + 1 + 1 + 1) (w.heap.size + 1 + 1 + 1 + 1) hB1 hB2 (F ++ [w.heap.size + 1 + 1])
    (by intro k hk; rcases List.mem_append.1 hk with hk | hk; · have := hFlt k hk; omega
        · simp only [List.mem_singleton] at hk; omega)
    (by intro hk; rcases List.mem_append.1 hk with hk | hk; · have := hFlt _ hk; omega
        · simp only [List.mem_singleton] at hk; omega)
  rw [hW5]
  have HSeq : Hid (SeqStopsK Fence.wide 6 Tryz.prog 97 #[.pointer (some ⟨w.heap.size + 1 + 1 + 1, 0, none⟩), .pointer (some ⟨w.heap.size + 1 + 1 + 1 + 1, 0, none⟩)] (fun x : NameIn A => #[encStr x.1]) (KpT (F ++ [w.heap.size + 1 + 1]))
      (fun xs => xs = namesAt A ({ data := #[] } : ByteArray).data.toList) (fun pre => pre <+: namesAt A ({ data := #[] } : ByteArray).data.toList) (namesAt A ({ data := #[] } : ByteArray).data.toList).length W5) := hseq
  have HI5 : Hid (CrashI w base d F A mref (.slice xa fs.length xc) fs [] W5) := hI5
  clear hd3 hf3 hk3 hB1 hB2 htw5 hP5 hI5 hseq hb5 hb3 hW5 hW3 f1
  refine wpIn_rangeFunc_ownG rfl (by omega) (gf := 97) (lb := #[.pointer (some ⟨w.heap.size + 1 + 1 + 1, 0, none⟩), .pointer (some ⟨w.heap.size + 1 + 1 + 1 + 1, 0, none⟩)]) rfl trivial (enters_of Tryz.func97 (by kernel_rfl) rfl)
    HSeq.out (fun h k => kpT_t h k) (fun W l o o' h1 h2 h3 h4 => kpT_b (w := W5) W l o o' h1 h2 h3 h4) (Below.refl _ _) (fun _ => rfl)
    (CrashI w base d F A mref (.slice xa fs.length xc) fs) (fun _ _ _ => False) ?own (fun _ _ _ _ _ hs _ _ => hs) HI5.out
    (fun x => { tmps := #[.pointer (some ⟨d, 0, none⟩), .slice xa fs.length xc, .pointer (some ⟨w.heap.size, 0, none⟩), .pointer (some ⟨w.heap.size + 1, 0, none⟩), .pointer (some ⟨w.heap.size + 1 + 1, 0, none⟩), encStr x.1, undef, .pointer (some ⟨d, 0, none⟩), .bool false, .pointer (some ⟨d, 0, none⟩),
      .func (.func 97) #[] #[.pointer (some ⟨w.heap.size + 1 + 1 + 1, 0, none⟩), .pointer (some ⟨w.heap.size + 1 + 1 + 1 + 1, 0, none⟩)], encStr x.1, undef, undef, undef, undef, undef, undef, undef, undef, undef, undef, undef, undef, undef, undef, undef, undef, undef, undef, undef, undef, undef, undef, undef, undef, undef, undef, undef, undef, undef, undef, undef, undef, undef, undef, undef], defers := [] }) ?assign ?body ?done ?stop
  case own =>
    rintro pre X Y row ⟨⟨F', ms', hP, hF'⟩, ht, hd, hf, hk⟩ hg hr
    have t : Turn row.toList X Y := (Turn.refl _ _).grown hg (by intro k hk; exact .inl (by simp [hk]))
    have hrow : ∀ k ∈ row.toList, w.heap.size + 5 ≤ k := by
      intro k hk
      simp only [Option.mem_toList] at hk
      have := (hr k hk).1
      omega
    refine ⟨⟨F', ms', hP.kept t (fun k hk e => ?_), hF'⟩, ht.trans t (fun k hk => .inr (by have := hrow k hk; omega)), t.heap hd (fun e => ?_), t.heap hf (fun e => ?_), t.heap hk (fun e => ?_)⟩
    · have := hrow k e; have := hFlt k (hF' k hk); omega
    · have := hrow _ e; omega
    · have := hrow _ e; omega
    · have := hrow _ e; omega
  case assign =>
    intro l x W K hK
    gi_wp2
    exact hK
  case body =>
    rintro l pre x W ⟨⟨F', ms', hP, hF'⟩, ht, hd, hf, hk⟩ hlen
    have hmx : (Tryz.prog).follows .mixedOrders = true := by kernel_rfl
    have hxn : x.1 ∈ (crashTo A fs (pre.map (·.1))).files.map (·.name) := by
      rw [crashTo_names]
      have := x.2
      unfold sortedN at this
      rwa [List.mem_mergeSort] at this
    obtain ⟨m, hm⟩ := find_name hP hxn
    obtain ⟨pr, po, rfl, hnm⟩ := split_at hm
    have hfa := hP.each m (by simp)
    obtain ⟨sa, sc, hsl, hsl1, hsl2⟩ := hfa.2.form
    have hxl : x.1.length ≤ maxLen := by have := sortedN_short H.out.good x.1 x.2; simp only [maxLen]; omega
    have hlook := hP.map.look (s := ⟨x.1.toArray⟩) (by rw [encStr_size]; exact hxl)
    rw [show (⟨x.1.toArray⟩ : ByteArray).data.toList = x.1 by simp, hm] at hlook
    simp only [ptrOf] at hlook
    have c1 := hP.c1
    have cd : W.cell? ⟨w.heap.size, 0, none⟩ = some (.pointer (some ⟨d, 0, none⟩)) := by rw [cell_of hd]; rfl
    have cv : W.cell? ⟨w.heap.size + 1, 0, none⟩ = some (.slice xa fs.length xc) := by rw [cell_of hf]; rfl
    have ck : W.cell? ⟨w.heap.size + 1 + 1, 0, none⟩ = some (.int .i64 pre.length) := by rw [cell_of hk]; rfl
    have cf : W.cell? ⟨m.blk, 0, none⟩ = some (.slice sa m.abs.bytes.length sc) := by rw [cell_of hfa.1, hsl]; rfl
    have cg : W.cell? ⟨m.blk, 1, none⟩ = some (.int .i64 m.abs.safe) := by rw [cell_of hfa.1]; rfl
    have hgood := hP.good
    have hfilm : m.abs ∈ (crashTo A fs (pre.map (·.1))).files := by rw [hP.files]; simp
    have hsafe := hgood.safe m.abs hfilm
    have hbytes : m.abs.bytes.length ≤ 1048576 := by
      have h1 := hgood.used
      have h2 := hgood.room
      rw [hP.files, List.map_append, List.map_cons, usedL_split] at h1
      omega
    have hplen : pre.length ≤ 200 := by
      have h1 : (namesAt A ({ data := #[] } : ByteArray).data.toList).length ≤ 200 := by
        have h2 : (namesAt A ({ data := #[] } : ByteArray).data.toList).length ≤ (sortedN A).attach.length := List.length_filter_le _ _
        have h3 := H.out.good.count
        rw [List.length_attach, sortedN_len] at h2
        omega
      omega
    have hfate := fun Z (hZ : Turn F w Z) => fate_any Z (.slice xa fs.length xc) fs (HXK.out Z hZ) pre.length (by omega) (by omega)
    have hfn : fateN fs pre.length ≤ 255 := by
      unfold fateN; split
      · omega
      · have := UInt8.toNat_lt (fs.getD (pre.length % fs.length) 0); omega
    obtain ⟨n, hn⟩ : ∃ n, n = min (m.abs.safe + fateN fs pre.length) m.abs.bytes.length := ⟨_, rfl⟩
    have hnle : n ≤ m.abs.bytes.length := by omega
    have hwr : IntKind.i64.wrap ((m.abs.safe : Int) + (fateN fs pre.length : Int)) = (m.abs.safe : Int) + (fateN fs pre.length : Int) := by
      rw [IntWalk.i64_left, IntWalk.wrap64_in _ (by omega)]
    have hmin : ∀ ts t w, (Builtin.min_ ts t #[.int .i64 ((m.abs.safe : Int) + (fateN fs pre.length : Int)), .int .i64 (m.abs.bytes.length : Int)]).run Tryz.prog w = .ok (.int .i64 (n : Int)) w := by
      intro ts t w
      rw [run_min2]
      congr 2
      split <;> omega
    have hnb : m.blk ∉ m.sl.ownBlock := by
      have hnd := hP.nodup
      rw [hP.foot] at hnd
      simp only [List.flatMap_append, List.flatMap_cons, List.nodup_cons, List.nodup_append, FileM.foot] at hnd
      intro e
      exact hnd.2.2.1.2.1.1.1 (by simpa using e)
    have hkeep := fun Z (hZ : Turn [] W Z) => keep_any (hfa.kept hZ (by simp)) hnb n hnle hbytes hsafe
    have hlt1 : m.blk < w.heap.size := hFlt _ (hF' _ (hP.mem_file (m := m) (by simp) (by simp [FileM.foot])))
    have HFate : Hid (∀ Z, Turn F w Z → Calls Tryz.prog 73 #[.slice xa fs.length xc, .int .i64 pre.length] Z fun e w' => e = .returned (.int .i64 (fateN fs pre.length)) ∧ Z = w') := hfate
    have HKeep : Hid (∀ Z, Turn [] W Z → Calls Tryz.prog 72 #[.pointer (some ⟨m.blk, 0, none⟩), .int .i64 n] Z fun e w' => e = .returned (.tuple #[]) ∧ FileAt w' base ⟨{ m.abs with bytes := m.abs.bytes.take n, safe := min m.abs.safe n }, m.blk, cutSl m.sl n⟩ ∧ Turn [m.blk] Z w') := hkeep
    have HP : Hid (Parts W base d F' (crashTo A fs (pre.map (·.1))) mref (pr ++ m :: po)) := hP
    have HT : Hid (Turn F w W) := ht
    have HN : Hid (n = min (m.abs.safe + fateN fs pre.length) m.abs.bytes.length) := hn
    have HNM : Hid (m.abs.name = x.1) := hnm
    have HNB : Hid (m.blk ∉ m.sl.ownBlock) := hnb
    have HC : Hid (cutSl m.sl n = .slice sa n n) := by show _ = _; rw [hsl]; rfl
    have HLT : Hid (m.blk < w.heap.size) := hlt1
    have hwk : IntKind.i64.wrap ((pre.length : Int) + 1) = (pre.length : Int) + 1 := by rw [IntWalk.i64_left, IntWalk.wrap64_in _ (by omega)]
    have g1 : Fence.wide.fn 73 := trivial
    have g2 : Fence.wide.fn 72 := trivial
    unfold encStr
    have HD : Hid (W.heap[w.heap.size]? = _) := hd
    have HFv : Hid (W.heap[w.heap.size + 1]? = _) := hf
    have HK : Hid (W.heap[w.heap.size + 1 + 1]? = _) := hk
    clear hP ht hfa hsl hm hn hnm hfate hkeep hgood hfilm hxn hd hf hk hnb hlen
    gi_wp2
    refine wpIn_round_quiet_last (m := 15) rfl rfl hmx (by kernel_rfl) (by kernel_rfl) ?_
    simp only [List.take_succ_cons, List.take_zero]
    repeat (any_goals (first | go_big_quiet_step ((go_at_call 73; exact Calls.quiet_of_same ((HFate.out _ (by exact HT.out.drewN _)).mono (fun e w' ⟨he, hw'⟩ => ⟨he, hw'.symm⟩)))) | quiet_step (fail)))
    refine wpQuiet_nil ?_
    intro _ hw'
    obtain ⟨nq, hw''⟩ := hw'
    subst hw''
    gi_wp2_with fail
    refine (CallsIn.inRound l (callsIn_wide.2 (HKeep.out _ (by exact (Turn.refl [] W).drewN _)))).mono ?_
    rintro e W2 ⟨rfl, hfa2, ht2⟩
    have HA2 : Hid (FileAt W2 base ⟨{ m.abs with bytes := m.abs.bytes.take n, safe := min m.abs.safe n }, m.blk, cutSl m.sl n⟩) := hfa2
    have HT2 : Hid (Turn [m.blk] (W.drewN nq) W2) := ht2
    have b1 : W2.cell? ⟨m.blk, 0, none⟩ = some (.slice sa n n) := by rw [cell_of hfa2.1, HC.out]; rfl
    have b2 : W2.frozen? ⟨m.blk, 1, none⟩ = false := frozen_of hfa2.1 1
    have hkk : W2.heap[w.heap.size + 1 + 1]? = some (.cells #[.int .i64 pre.length] 3 (0, 0)) := by
      refine ht2.heap (by simpa using HK.out) ?_
      have := HLT.out
      simp; omega
    have b3 : W2.cell? ⟨w.heap.size + 1 + 1, 0, none⟩ = some (.int .i64 pre.length) := by rw [cell_of hkk]; rfl
    have b5 : W2.cell? ⟨m.blk, 1, none⟩ = some (.int .i64 (min m.abs.safe n : Nat)) := by rw [cell_of hfa2.1]; rfl
    have n1 : (w.heap.size + 1 + 1 == m.blk) = false := by have := HLT.out; rw [beq_eq_false_iff_ne]; omega
    have n2 : ¬ (w.heap.size + 1 + 1 = m.blk) := by have := HLT.out; omega
    have n3 : ¬ (m.blk = w.heap.size + 1 + 1) := by have := HLT.out; omega
    have b4 : W2.frozen? ⟨w.heap.size + 1 + 1, 0, none⟩ = false := frozen_of hkk 0
    have HKK : Hid (W2.heap[w.heap.size + 1 + 1]? = some (.cells #[.int .i64 pre.length] 3 (0, 0))) := hkk
    clear hfa2 ht2 hkk
    gi_wp2
    have t1 : Turn [m.blk] W (W2.setCell ⟨m.blk, 1, none⟩ (.int .i64 n)) := (((Turn.refl [m.blk] W).drewN nq).same HT2.out).setCell (by simp) _
    have t2 : Turn [w.heap.size + 1 + 1] (W2.setCell ⟨m.blk, 1, none⟩ (.int .i64 n)) ((W2.setCell ⟨m.blk, 1, none⟩ (.int .i64 n)).setCell ⟨w.heap.size + 1 + 1, 0, none⟩ (.int .i64 (pre.length + 1))) := (Turn.refl _ _).setCell (by simp) _
    have hnew : FileAt (W2.setCell ⟨m.blk, 1, none⟩ (.int .i64 n)) base ⟨crash1 fs pre.length m.abs, m.blk, cutSl m.sl n⟩ := by
      have e1 : crash1 fs pre.length m.abs = { m.abs with bytes := m.abs.bytes.take n, safe := n } := by unfold crash1; rw [← HN.out]
      rw [e1]
      refine ⟨by rw [heap_set HA2.out.1 1]; simp, ?_⟩
      exact HA2.out.2.kept (S := [m.blk]) ((Turn.refl _ _).setCell (by simp) _) (by
        intro k hk e
        simp only [List.mem_singleton] at e
        subst e
        exact HNB.out (cutSl_own m.sl n _ hk))
    have hgood : Good ((crashTo A fs (pre.map (·.1))).upd m.abs.name (crash1 fs pre.length)) := HP.out.good.upd (fun _ _ => rfl) (fun f _ _ => by simp only [crash1, List.length_take]; omega) (Nat.le_trans (usedL_le (fun f _ => by simp only [crash1, List.length_take]; omega)) HP.out.good.used)
    obtain ⟨F'', hP2, hsub, _⟩ := HP.out.setFile (m' := ⟨crash1 fs pre.length m.abs, m.blk, cutSl m.sl n⟩) rfl rfl (t1.mono (by intro k hk; simp only [List.mem_singleton] at hk; subst hk; exact .inl (by simp [FileM.foot]))) hnew (fun k hk => .inl (cutSl_own m.sl n k hk)) (A' := (crashTo A fs (pre.map (·.1))).upd m.abs.name (crash1 fs pre.length)) rfl rfl rfl (upd_at HP.out _) hgood
    have hF2 : ∀ k ∈ F'', k ∈ F := by
      intro k hk
      rcases hsub k hk with h1 | h1
      · exact hF' k h1
      · exact hF' k (HP.out.mem_file (m := m) (by simp) (by simp only [FileM.foot, List.mem_cons, Option.mem_toList]; exact .inr (cutSl_own m.sl n k h1)))
    have hmF : m.blk ∈ F := hF' _ (HP.out.mem_file (m := m) (by simp) (by simp [FileM.foot]))
    have hall : Turn (m.blk :: [w.heap.size + 1 + 1]) W ((W2.setCell ⟨m.blk, 1, none⟩ (.int .i64 n)).setCell ⟨w.heap.size + 1 + 1, 0, none⟩ (.int .i64 (pre.length + 1))) := (t1.mono (by intro k hk; exact .inl (by simp at hk; simp [hk]))).trans t2 (by intro k hk; exact .inl (by simp at hk; simp [hk]))
    refine ⟨keepsFrom_of_turn hall ?_, KpT.of_turn hall ?_, ⟨F'', pr ++ ⟨crash1 fs pre.length m.abs, m.blk, cutSl m.sl n⟩ :: po, ?_, hF2⟩, HT.out.trans hall ?_, hall.heap HD.out ?_, hall.heap HFv.out ?_, ?_⟩
    · intro k hk
      have := HLT.out
      simp only [List.mem_cons, List.not_mem_nil, or_false] at hk
      rcases hk with rfl | rfl <;> omega
    · intro k hk
      simp only [List.mem_cons, List.not_mem_nil, or_false] at hk
      rcases hk with rfl | rfl
      · exact .inl (by simp [hmF])
      · exact .inl (by simp)
    · have e2 : crashTo A fs ((pre ++ [x]).map (·.1)) = (crashTo A fs (pre.map (·.1))).upd m.abs.name (crash1 fs pre.length) := by
        rw [List.map_append, List.map_cons, List.map_nil, crashTo_snoc, HNM.out, List.length_map]
      rw [e2]
      exact hP2.kept t2 (by intro k hk e; have := hFlt k (hF2 k hk); simp only [List.mem_singleton] at e; omega)
    · intro k hk
      simp only [List.mem_cons, List.not_mem_nil, or_false] at hk
      rcases hk with rfl | rfl
      · exact .inl hmF
      · exact .inr (by omega)
    · intro e
      have := HLT.out
      simp only [List.mem_cons, List.not_mem_nil, or_false] at e
      omega
    · intro e
      have := HLT.out
      simp only [List.mem_cons, List.not_mem_nil, or_false] at e
      omega
    · rw [heap_set (show (W2.setCell ⟨m.blk, 1, none⟩ (.int .i64 n)).heap[w.heap.size + 1 + 1]? = some (.cells #[.int .i64 pre.length] 3 (0, 0)) from ((Turn.refl [m.blk] W2).setCell (by simp) _).heap HKK.out (by simp; exact n2)) 0]
      simp
  case done =>
    rintro D xs W hD rfl ⟨⟨F', ms', hP, hF'⟩, ht, hd, hf, hk⟩ hK
    have cd : W.cell? ⟨w.heap.size, 0, none⟩ = some (.pointer (some ⟨d, 0, none⟩)) := by rw [cell_of hd]; rfl
    have c2 := hP.c2
    have ff : W.frozen? ⟨d, 2, none⟩ = false := frozen_of hP.self 2
    have HP : Hid (Parts W base d F' (crashTo A fs ((namesAt A ({ data := #[] } : ByteArray).data.toList).map (·.1))) mref ms') := hP
    have HT : Hid (Turn F w W) := ht
    have HK : Hid (W.heap[D]? = some (.deferred (some []))) := hK
    clear hP ht hd hf hk hK
    gi_wp2
    have hne : D ≠ d := by omega
    have hK' : (W.setCell ⟨d, 2, none⟩ (.bool false)).heap[D]? = some (.deferred (some [])) := ((Turn.refl [d] W).setCell (by simp) _).heap HK.out (by simpa using hne)
    have ht1 : Turn [d] W ((W.setCell ⟨d, 2, none⟩ (.bool false)).putObj D (.deferred none)) ∨ True := .inr trivial
    refine ⟨by simp, .inl ⟨_, _, rfl, run_takeDeferred hK', ?_⟩⟩
    have eN : (namesAt A ([] : List UInt8)).map (·.1) = sortedN A := by
      rw [namesAt_val]; unfold namesOf; rw [List.filter_eq_self]; intro a _; simp [preL]
    have hP := HP.out
    simp only [show ({ data := #[] } : ByteArray).data.toList = [] from rfl, eN] at hP
    have hPs : Parts (W.setCell ⟨d, 2, none⟩ (.bool false)) base d F' (A.crash fs) mref ms' := by
      refine hP.setSelf ((Turn.refl _ _).setCell (by simp) _) ?_ rfl ?_
      · rw [heap_set hP.self 2]; simp [DA.crash]
      · have hg := hP.good
        exact { room := hg.room, used := hg.used, count := hg.count, names := hg.names, short := hg.short, safe := hg.safe, left := by intro h; simp [DA.crash] at h }
    have tS : Turn F w (W.setCell ⟨d, 2, none⟩ (.bool false)) := HT.out.setCell (.inl hdF) _
    have tD : Turn [D] (W.setCell ⟨d, 2, none⟩ (.bool false)) ((W.setCell ⟨d, 2, none⟩ (.bool false)).putObj D (.deferred none)) := by
      refine ⟨rfl, rfl, rfl, by simp, fun k _ hn => ?_⟩
      exact World.putObj_heap_other (by simpa using hn)
    have hfin : Did w ((W.setCell ⟨d, 2, none⟩ (.bool false)).putObj D (.deferred none)) base d F (A.crash fs) := by
      refine ⟨F', ⟨_, _, hPs.kept tD ?_⟩, tS.trans tD ?_, fun k hk => .inl (hF' k hk)⟩
      · intro k hk e
        have := hFlt k (hF' k hk)
        simp only [List.mem_singleton] at e
        omega
      · intro k hk
        simp only [List.mem_singleton] at hk
        exact .inr (by omega)
    clear ht1
    refine ⟨.tuple #[], ?_, rfl, hfin⟩
    simp [results, Tryz.f49, go_sem]
  case stop =>
    rintro D c pre W hD _ h _
    exact h.elim
end

end Go.Proofs.YtmdmdbobbepogaaGreatDoor.Dk

/- List: the names that begin so, collected into a new slice. -/
namespace Go.Proofs.YtmdmdbobbepogaaGreatDoor.Dk
open Go.RowKit Go.Maps Go.Shelf Go.Sort
set_option maxRecDepth 100000
set_option linter.unusedSimpArgs false
set_option linter.unusedVariables false
attribute [local go_sem] Oper.semAt_some

/-- The block that a box's slice owns. -/
def ownOf (Bs : Nat) (W : World) : Option Nat := match W.heap[Bs]? with
  | some (.cells cs _ _) => (cs[0]?).bind Value.ownBlock
  | _ => none
theorem ownOf_box {Bs : Nat} {W : World} {v : Value} {t : TypeId} {fr : Nat × Nat} (h : W.heap[Bs]? = some (.cells #[v] t fr)) : ownOf Bs W = v.ownBlock := by simp [ownOf, h]
/-- What a round keeps: all cells but the box's, and those of the block that the box's slice owns; that block stays, or is new. -/
structure KpR (Bs : Nat) (W W' : World) : Prop where
  size : W.heap.size ≤ W'.heap.size
  cells : ∀ k cs t fr, W.heap[k]? = some (.cells cs t fr) → k ≠ Bs → ownOf Bs W ≠ some k → W'.heap[k]? = some (.cells cs t fr)
  own : ownOf Bs W' = ownOf Bs W ∨ ∃ b, ownOf Bs W' = some b ∧ W.heap.size ≤ b
theorem KpR.refl (Bs : Nat) (W : World) : KpR Bs W W := ⟨Nat.le_refl _, fun _ _ _ _ h _ _ => h, .inl rfl⟩
theorem kpR_t {Bs : Nat} {A B C : World} (h : KpR Bs A B) (k : KpR Bs B C) : KpR Bs A C := by
  refine ⟨Nat.le_trans h.size k.size, fun i cs t fr hi hn ho => ?_, ?_⟩
  · refine k.cells i cs t fr (h.cells i cs t fr hi hn ho) hn (fun e => ?_)
    rcases h.own with h1 | ⟨b, h1, h2⟩
    · exact ho (h1 ▸ e)
    · rw [h1] at e; cases e
      have := lt_of_heap hi; omega
  · rcases k.own with h1 | ⟨b, h1, h2⟩
    · rw [h1]; exact h.own
    · exact .inr ⟨b, h1, Nat.le_trans h.size h2⟩
theorem kpR_b {Bs : Nat} {w : World} (hB : Bs < w.heap.size) (W : World) (l : Nat) (o o' : Obj) (hl : w.heap.size ≤ l) (h : W.heap[l]? = some o) (ho : o.isCells = false) (_ : o.isWalk = false) : KpR Bs W (W.putObj l o') := by
  refine ⟨by simp, fun k cs t fr hk _ _ => ?_, .inl ?_⟩
  · have hne : k ≠ l := by
      intro e; subst e; rw [h] at hk; cases hk; cases ho
    rw [World.putObj_heap_other hne]; exact hk
  · unfold ownOf; rw [World.putObj_heap_other (show Bs ≠ l by omega)]

theorem ownsRow_cells {W W' : World} {row : Option Nat} {base : Nat} {e : TypeId} {size : Nat} {v : Value} {k : Nat} {xs : List Value} (h : W.ownsRow base e size v k xs) (hg : W.grownBy W' row)
    (hrow : ∀ r, row = some r → ∃ o : Obj, W.heap[r]? = some o ∧ o.isCells = false) : W'.ownsRow base e size v k xs := by
  refine h.kept hg ?_
  rcases h.2 with ⟨rfl, _⟩ | ⟨g, cap, cur, rfl, _, hgb, _⟩
  · exact .inl rfl
  · refine .inr fun e' => ?_
    obtain ⟨o, ho, hw⟩ := hrow g (by simpa [Value.ownBlock] using e'.symm)
    rw [hgb] at ho; cases ho; cases hw
theorem ownsRow_sep {W : World} {base : Nat} {e : TypeId} {size : Nat} {v : Value} {k : Nat} {xs : List Value} (h : W.ownsRow base e size v k xs) {j : Nat} {cs : Array Value} {t : TypeId} (hj : W.heap[j]? = some (.cells cs t (0, 0))) (hno : t ≠ e) :
    v.ownBlock ≠ some j := by
  rcases h.2 with ⟨rfl, _⟩ | ⟨g, cap, cur, rfl, _, hgb, _⟩
  · simp [Value.ownBlock]
  · intro e'
    have : g = j := by simpa [Value.ownBlock] using e'
    subst this; rw [hgb] at hj; cases hj; exact hno rfl
theorem ownsRow_slice {W : World} {base : Nat} {e : TypeId} {v : Value} {k : Nat} {xs : List Value} (h : W.ownsRow base e 1 v k xs) : ∃ a n c, v = .slice a n c := by
  rcases h.2 with ⟨rfl, _⟩ | ⟨g, cap, cur, rfl, _⟩
  · exact ⟨_, _, _, rfl⟩
  · exact ⟨_, _, _, rfl⟩
theorem ownsRow_block {W : World} {base : Nat} {e : TypeId} {size : Nat} {v : Value} {k : Nat} {xs : List Value} (h : W.ownsRow base e size v k xs) {g : Nat} (hg : v.ownBlock = some g) : base ≤ g ∧ ∃ cur, W.heap[g]? = some (.cells cur e (0, 0)) := by
  rcases h.2 with ⟨rfl, _⟩ | ⟨g', cap, cur, rfl, hb, hgb, _⟩
  · simp [Value.ownBlock] at hg
  · have : g' = g := by simpa [Value.ownBlock] using hg
    subst this
    exact ⟨hb, cur, hgb⟩
theorem append_box {W w3 : World} {b : Nat} {v : Value} {t : TypeId} {o : Obj} (h : W.heap[b]? = some (.cells #[v] t (0, 0))) (hs : v.ownBlock ≠ some b) (hg : (W.alloc o).grownBy w3 v.ownBlock) : w3.heap[b]? = some (.cells #[v] t (0, 0)) := by
  have t1 : Turn v.ownBlock.toList (W.alloc o) w3 := (Turn.refl _ _).grown hg (by intro k hk; exact .inl (by simp [hk]))
  refine t1.heap (((Turn.refl [] W).alloc o).heap h (by simp)) ?_
  intro e
  exact hs (by simpa using e)
theorem Tryz.infoS : (Tryz.prog.info? 9).map (fun i => (i.zero, i.size, i.bytes)) = some (some (.string ⟨#[]⟩), 1, 16) := by kernel_rfl

section
variable {w w' : World} {base d : Nat} {F : List Nat} {A A' : DA} {mref : Option Nat} {ms : List FileM}

/-- How the world stands between two rounds. -/
def ListI (w : World) (A : DA) (pre : List (NameIn A)) (W : World) : Prop :=
  ∃ v, W.heap[w.heap.size]? = some (.cells #[v] 93 (0, 0)) ∧ W.ownsRow w.heap.size 9 1 v pre.length (pre.map (fun x => encStr x.1)) ∧ Turn [] w W

set_option maxHeartbeats 2000000 in
theorem appendSeq_any (h : Parts w base d F A mref ms) (s : ByteArray) (hs : s.size ≤ maxLen) (B1 B2 : Nat) (hB1 : w.heap[B1]? = some (.cells #[.pointer (some ⟨d, 0, none⟩)] 23 (0, 0))) (hB2 : w.heap[B2]? = some (.cells #[.string s] 9 (0, 0))) :
    Calls Tryz.prog 138 #[.slice none 0 0, .func (.func 97) #[] #[.pointer (some ⟨B1, 0, none⟩), .pointer (some ⟨B2, 0, none⟩)]] w fun e w' =>
      ∃ v, e = .returned v ∧ w'.ownsRow w.heap.size 9 1 v (namesAt A s.data.toList).length ((namesAt A s.data.toList).map (fun x => encStr x.1)) ∧ Turn [] w w' := by
  refine (callsIn_wide (n := 7)).1 ?_
  have H : Hid (Parts w base d F A mref ms) := h
  have hcount := h.good.count
  clear h
  refine callsIn_of_wp_marks Tryz.func138 rfl trivial ?_ rfl
  simp only [Tryz.ntmps138, List.size_toArray, List.length_cons, List.length_nil, Nat.reduceAdd, Nat.reduceSub, Array.replicate_succ, Array.replicate_zero, List.push_toArray, List.append_toArray, List.nil_append, List.cons_append]
  gi_wp2
  obtain ⟨W1, hW1⟩ : ∃ W1, w.alloc (.cells #[.slice none 0 0] 93) = W1 := ⟨_, rfl⟩
  rw [hW1]
  have hs1 : W1.heap.size = w.heap.size + 1 := by rw [← hW1]; simp
  have t1 : Turn [] w W1 := by rw [← hW1]; exact (Turn.refl _ _).alloc _
  have hbox : W1.heap[w.heap.size]? = some (.cells #[.slice none 0 0] 93 (0, 0)) := by rw [← hW1]; exact heap_new w _
  have hb1 : W1.heap[B1]? = _ := t1.heap hB1 (by simp)
  have hb2 : W1.heap[B2]? = _ := t1.heap hB2 (by simp)
  have hP1 := H.out.kept t1 (by simp)
  have hB2l : B2 < w.heap.size := lt_of_heap hB2
  have hseq := iter_stopsK hP1 s hs B1 B2 hb1 hb2 (KpR w.heap.size) (KpR.refl _) kpR_t (fun W0 W W' k cs t fr hb0 hb hk hkp hc => by
    have e1 : W.heap[w.heap.size]? = some (.cells #[.slice none 0 0] 93 (0, 0)) := by
      have h0 := hb0.block w.heap.size (by omega)
      have h1 := hb.block w.heap.size (by have := hb0.size; omega)
      rw [h1, h0]; exact hbox
    refine hkp.cells k cs t fr hc ?_ ?_
    · have := hb0.size
      rcases hk with rfl | hk <;> omega
    · rw [ownOf_box e1]; simp [Value.ownBlock])
  have HSeq : Hid (SeqStopsK Fence.wide 6 Tryz.prog 97 #[.pointer (some ⟨B1, 0, none⟩), .pointer (some ⟨B2, 0, none⟩)] (fun x : NameIn A => #[encStr x.1]) (KpR w.heap.size)
      (fun xs => xs = namesAt A s.data.toList) (fun pre => pre <+: namesAt A s.data.toList) (namesAt A s.data.toList).length W1) := hseq
  have HI : Hid (ListI w A [] W1) := ⟨_, hbox, World.ownsRow_nil _ _ _ _, t1⟩
  have hnl : (namesAt A s.data.toList).length ≤ 200 := by
    have h2 : (namesAt A s.data.toList).length ≤ (sortedN A).attach.length := List.length_filter_le _ _
    rw [List.length_attach, sortedN_len] at h2
    omega
  clear hseq hbox hb1 hb2 hP1 hW1 t1
  refine wpIn_rangeFunc_ownG rfl (by omega) (gf := 97) (lb := #[.pointer (some ⟨B1, 0, none⟩), .pointer (some ⟨B2, 0, none⟩)]) rfl trivial (enters_of Tryz.func97 (by kernel_rfl) rfl)
    HSeq.out (fun h k => kpR_t h k) (fun W l o o' h1 h2 h3 h4 => kpR_b (w := W1) (by omega) W l o o' h1 h2 h3 h4) (Below.refl _ _) (fun _ => rfl)
    (ListI w A) (fun _ _ _ => False) ?own (fun _ _ _ _ _ hs _ _ => hs) HI.out
    (fun x => { tmps := #[.slice none 0 0, .func (.func 97) #[] #[.pointer (some ⟨B1, 0, none⟩), .pointer (some ⟨B2, 0, none⟩)], .pointer (some ⟨w.heap.size, 0, none⟩), undef, .slice none 0 0, encStr x.1, .func (.func 97) #[] #[.pointer (some ⟨B1, 0, none⟩), .pointer (some ⟨B2, 0, none⟩)], encStr x.1, undef, undef, undef, undef, undef], defers := [] }) ?assign ?body ?done ?stop
  case own =>
    rintro pre X Y row ⟨v, hv, hr, ht⟩ hg hrow
    have t : Turn row.toList X Y := (Turn.refl _ _).grown hg (by intro k hk; exact .inl (by simp [hk]))
    refine ⟨v, t.heap hv (fun e => ?_), ownsRow_cells hr hg (fun r e => (hrow r e).2), ht.trans t (fun k hk => .inr ?_)⟩
    · obtain ⟨o, ho, hw⟩ := (hrow _ (by simpa using e)).2
      rw [hv] at ho; cases ho; cases hw
    · have := (hrow k (by simpa using hk)).1
      omega
  case assign =>
    intro l x W K hK
    gi_wp2
    exact hK
  case body =>
    rintro l pre x W ⟨v, hv, hr, ht⟩ hlen
    obtain ⟨i0, hi, hz0, hz1, hz2⟩ := info_parts Tryz.infoS
    have cb : W.cell? ⟨w.heap.size, 0, none⟩ = some v := by rw [cell_of hv]; rfl
    have hle := ht.size
    have hvl := lt_of_heap hv
    have HV : Hid (W.heap[w.heap.size]? = some (.cells #[v] 93 (0, 0))) := hv
    have HT : Hid (Turn [] w W) := ht
    have hsep := ownsRow_sep hr hv (by decide)
    have HS : Hid (v.ownBlock ≠ some w.heap.size) := hsep
    clear hv ht hsep
    gi_wp2_with (first
      | (gi_at_builtin; refine wpListIn_append_own_at _ rfl _ _ 93 rfl w.heap.size 9 i0 (.string ⟨#[]⟩) 1 16 Tryz.underlying93 hi hz0 hz1 hz2 rfl (by decide) _ _ _ rfl (hr.alloc _) ⟨W.heap.size, 0, none⟩ 1 1 [encStr x.1] rfl rfl (cell_one_new _ _ _) (by simp [Value.oneCell', encStr]) (by simp only [maxLen]; omega) (by omega) (by simp; omega) ?_; intro v' w3 hown' hg3 hnil3 hob3; obtain ⟨a3, n3, c3, rfl⟩ := ownsRow_slice hown')
      | gi_in)
    all_goals
      have HB3 : Hid (w3.heap[w.heap.size]? = some (.cells #[v] 93 (0, 0))) := append_box HV.out HS.out hg3
      have cb3 : w3.cell? ⟨w.heap.size, 0, none⟩ = some v := by rw [cell_of HB3.out]; rfl
      have ff3 : w3.frozen? ⟨w.heap.size, 0, none⟩ = false := frozen_of HB3.out 0
      have HR : Hid (W.ownsRow w.heap.size 9 1 v pre.length (pre.map (fun x => encStr x.1))) := hr
      have HG3 : Hid ((W.alloc (.cells #[encStr x.1] 9)).grownBy w3 v.ownBlock) := hg3
      have HO : Hid (w3.ownsRow w.heap.size 9 1 (.slice a3 n3 c3) (pre.length + 1) (pre.map (fun x => encStr x.1) ++ [encStr x.1])) := hown'
      have HOB : Hid ((Value.slice a3 n3 c3).ownBlock = v.ownBlock ∨ (Value.slice a3 n3 c3).ownBlock = some (W.alloc (.cells #[encStr x.1] 9)).heap.size) := hob3
      clear hr hown' hg3 hnil3 hob3
      first
        | (exfalso; have e : w3.frozen? ⟨w.heap.size, 0, none⟩ = true := (by assumption); rw [ff3] at e; cases e; done)
        | (exfalso; have e : w3.cell? ⟨w.heap.size, 0, none⟩ = none := (by assumption); rw [cb3] at e; cases e; done)
        | skip
    have t3 : Turn v.ownBlock.toList W w3 := ((Turn.refl _ W).alloc _).grown HG3.out (by intro k hk; exact .inl (by simp [hk]))
    have t4 : Turn (w.heap.size :: v.ownBlock.toList) W (w3.setCell ⟨w.heap.size, 0, none⟩ (.slice a3 n3 c3)) := (t3.mono (by intro k hk; exact .inl (by simp only [List.mem_cons]; exact .inr hk))).setCell (by simp) _
    have hbox4 : (w3.setCell ⟨w.heap.size, 0, none⟩ (.slice a3 n3 c3)).heap[w.heap.size]? = some (.cells #[.slice a3 n3 c3] 93 (0, 0)) := by rw [heap_set HB3.out]; simp
    refine ⟨⟨t4.size, fun k o hB hk ho => t4.heap hk (fun e => ?_)⟩, ⟨t4.size, fun k cs t fr hk hn ho => t4.heap hk (fun e => ?_), ?_⟩, .slice a3 n3 c3, hbox4, ?_, HT.out.trans t4 (fun k hk => ?_)⟩
    · simp only [List.mem_cons, Option.mem_toList] at e
      rcases e with rfl | e
      · omega
      · obtain ⟨_, cur, hc⟩ := ownsRow_block HR.out e
        rw [hk] at hc; cases hc; cases ho
    · simp only [List.mem_cons, Option.mem_toList] at e
      rcases e with rfl | e
      · exact hn rfl
      · rw [ownOf_box HV.out] at ho
        exact ho e
    · rw [ownOf_box hbox4, ownOf_box HV.out]
      rcases HOB.out with h1 | h1
      · exact .inl h1
      · exact .inr ⟨_, h1, by simp⟩
    · have hq := HO.out.kept (((Turn.refl [w.heap.size] w3).setCell (p := ⟨w.heap.size, 0, none⟩) (by simp) (.slice a3 n3 c3)).grownBy (k := w.heap.size) (by simp)) (.inr (ownsRow_sep HO.out HB3.out (by decide)))
      simpa using hq
    · simp only [List.mem_cons, Option.mem_toList] at hk
      rcases hk with rfl | hk
      · exact .inr (Nat.le_refl _)
      · exact .inr (ownsRow_block HR.out hk).1
  case done =>
    rintro D xs W hD rfl ⟨v, hv, hr, ht⟩ hK
    have cb : W.cell? ⟨w.heap.size, 0, none⟩ = some v := by rw [cell_of hv]; rfl
    gi_wp2
    refine ⟨by simp, .inl ⟨_, _, rfl, run_takeDeferred hK, ?_⟩⟩
    have tD : Turn [D] W (W.putObj D (.deferred none)) := ⟨rfl, rfl, rfl, by simp, fun k _ hn => World.putObj_heap_other (by simpa using hn)⟩
    refine ⟨v, ?_, v, rfl, ownsRow_cells hr (tD.grownBy (k := D) (by simp)) (fun r e => by cases e; exact ⟨_, hK, rfl⟩), ht.trans tD (fun k hk => ?_)⟩
    · simp [results, Tryz.f138, go_sem]
    · simp only [List.mem_singleton] at hk
      exact .inr (by omega)
  case stop =>
    rintro D c pre W hD _ h _
    exact h.elim

theorem collect_any (h : Parts w base d F A mref ms) (s : ByteArray) (hs : s.size ≤ maxLen) (B1 B2 : Nat) (hB1 : w.heap[B1]? = some (.cells #[.pointer (some ⟨d, 0, none⟩)] 23 (0, 0))) (hB2 : w.heap[B2]? = some (.cells #[.string s] 9 (0, 0))) :
    Calls Tryz.prog 109 #[.func (.func 97) #[] #[.pointer (some ⟨B1, 0, none⟩), .pointer (some ⟨B2, 0, none⟩)]] w fun e w' =>
      ∃ v, e = .returned v ∧ w'.ownsRow w.heap.size 9 1 v (namesAt A s.data.toList).length ((namesAt A s.data.toList).map (fun x => encStr x.1)) ∧ Turn [] w w' := by
  have HC : Hid (Calls Tryz.prog 138 #[.slice none 0 0, .func (.func 97) #[] #[.pointer (some ⟨B1, 0, none⟩), .pointer (some ⟨B2, 0, none⟩)]] w fun e w' =>
      ∃ v, e = .returned v ∧ w'.ownsRow w.heap.size 9 1 v (namesAt A s.data.toList).length ((namesAt A s.data.toList).map (fun x => encStr x.1)) ∧ Turn [] w w') := appendSeq_any h s hs B1 B2 hB1 hB2
  clear h hB1 hB2
  go_enter Tryz.func109, Tryz.ntmps109
  go_wp2_with fail
  refine HC.out.mono ?_
  rintro e w' ⟨v, rfl, hr, ht⟩
  go_wp2
  go_ret
  exact ⟨v, rfl, hr, ht⟩

theorem list_any (h : Parts w base d F A mref ms) (s : ByteArray) (hs : s.size ≤ maxLen) :
    Calls Tryz.prog 76 #[.pointer (some ⟨d, 0, none⟩), .string s] w fun e w' =>
      ∃ v, e = .returned v ∧ w'.ownsRow w.heap.size 9 1 v (namesOf A s.data.toList).length ((namesOf A s.data.toList).map encStr) ∧ Turn [] w w' := by
  have H : Hid (Parts w base d F A mref ms) := h
  clear h
  go_enter Tryz.func76, Tryz.ntmps76
  go_wp2_with fail
  refine (callsIn_wide.1 (names_in d s w)).mono ?_
  rintro e w' ⟨rfl, rfl⟩
  go_wp2_with fail
  have t2 : Turn [] w ((w.alloc (.cells #[.pointer (some ⟨d, 0, none⟩)] 23)).alloc (.cells #[.string s] 9)) := ((Turn.refl [] w).alloc _).alloc _
  have e1 : ((w.alloc (.cells #[.pointer (some ⟨d, 0, none⟩)] 23)).alloc (.cells #[.string s] 9)).heap[w.heap.size]? = some (.cells #[.pointer (some ⟨d, 0, none⟩)] 23 (0, 0)) := by
    rw [Below.heap_alloc _ _ _ (by simp)]; exact heap_new w _
  have e2 : ((w.alloc (.cells #[.pointer (some ⟨d, 0, none⟩)] 23)).alloc (.cells #[.string s] 9)).heap[w.heap.size + 1]? = some (.cells #[.string s] 9 (0, 0)) := by
    have := heap_new (w.alloc (.cells #[.pointer (some ⟨d, 0, none⟩)] 23)) (.cells #[.string s] 9)
    rwa [World.size_alloc] at this
  refine (collect_any (H.out.kept t2 (by simp)) s hs w.heap.size (w.heap.size + 1) e1 e2).mono ?_
  rintro e w' ⟨v, rfl, hr, ht⟩
  go_wp2
  go_ret
  refine ⟨v, rfl, ?_, t2.trans ht (by simp)⟩
  rw [← namesAt_val, List.map_map, List.length_map]
  exact ⟨hr.1, hr.2.imp id (fun ⟨g, cap, cur, h1, h2, h3⟩ => ⟨g, cap, cur, h1, by simp at h2; omega, h3⟩)⟩
end

end Go.Proofs.YtmdmdbobbepogaaGreatDoor.Dk

/- slices.Sort of no ints. -/
namespace Go.Proofs.YtmdmdbobbepogaaGreatDoor.Lg
open Go.RowKit Go.Maps
set_option maxRecDepth 100000
set_option linter.unusedSimpArgs false
set_option linter.unusedVariables false
attribute [local go_sem] Oper.semAt_some
theorem insert_none (p : Option Addr) (cap : Nat) (w : World) : Calls Tryz.prog 139 #[.slice p 0 cap, .int .i64 0, .int .i64 0] w fun e w' => e = .returned (.tuple #[]) ∧ Turn [] w w' := by
  go_enter Tryz.func139, Tryz.ntmps139
  go_wp2
  refine wp_loop_rounds 1 ?_
  rw [rounds_succ]
  go_wp2
  go_end0
  exact ⟨rfl, Turn.refl _ _⟩
theorem pdq_none (p : Option Addr) (cap : Nat) (k : Int) (w : World) : Calls Tryz.prog 110 #[.slice p 0 cap, .int .i64 0, .int .i64 0, .int .i64 k] w fun e w' => e = .returned (.tuple #[]) ∧ Turn [] w w' := by
  go_enter Tryz.func110, Tryz.ntmps110
  go_wp2
  refine wp_loop_rounds 1 ?_
  rw [rounds_succ]
  go_wp2_with fail
  refine (insert_none p cap _).mono ?_
  rintro e w' ⟨rfl, ht⟩
  go_wp2
  refine bodyPost_ret (results_none rfl _ _ _) rfl ?_
  exact ⟨rfl, ht⟩
theorem len64_0 (w : World) : Calls Tryz.prog 149 #[.int .u64 0] w fun e w' => e = .returned (.int .i64 0) ∧ Turn [] w w' := by
  go_enter Tryz.func149, Tryz.ntmps149
  go_wp2
  go_ret
  exact ⟨by kernel_rfl, Turn.refl _ _⟩
theorem len_0 (w : World) : Calls Tryz.prog 111 #[.int .u64 0] w fun e w' => e = .returned (.int .i64 0) ∧ Turn [] w w' := by
  go_enter Tryz.func111, Tryz.ntmps111
  go_wp2_with fail
  refine (len64_0 _).mono ?_
  rintro e w' ⟨rfl, ht⟩
  go_wp2
  go_ret
  exact ⟨rfl, ht⟩
theorem sort_none (p : Option Addr) (cap : Nat) (w : World) : Calls Tryz.prog 77 #[.slice p 0 cap] w fun e w' => e = .returned (.tuple #[]) ∧ Turn [] w w' := by
  go_enter Tryz.func77, Tryz.ntmps77
  go_wp2_with fail
  refine (len_0 _).mono ?_
  rintro e w' ⟨rfl, ht⟩
  go_wp2_with fail
  refine (pdq_none p cap _ _).mono ?_
  rintro e w' ⟨rfl, ht2⟩
  go_wp2
  go_end0
  exact ⟨rfl, ht.same ht2⟩
end Go.Proofs.YtmdmdbobbepogaaGreatDoor.Lg

/- A log of a directory without files; what find does there; the laws' directory. -/
namespace Go.Proofs.YtmdmdbobbepogaaGreatDoor.Lg
open Go.RowKit Go.Maps
set_option maxRecDepth 100000
set_option linter.unusedSimpArgs false
set_option linter.unusedVariables false
attribute [local go_sem] Oper.semAt_some
open Dk (DA DiskAt Parts Did errR errV)
open Sg (SegAt sfoot pls Both Came nextOf flat Chain)

/-- The directory of the laws. -/
def dirP : ByteArray := ⟨#[112]⟩
theorem nameP_ok (n : Nat) (hn : n ≤ 1099511627776) : Dk.nameB (Sn.nameB dirP n) = true := by
  have hd : ∀ c ∈ Sn.pad (Lib.decDigits n), Dk.nb8 c = true := by
    intro c hc
    have h := Sn.pad_digit n c hc
    unfold Dk.nb8 Dk.nb
    rw [decide_eq_true_eq]
    omega
  have hl := Sn.dec_short hn
  have hsz : (Sn.nameB dirP n).size = (Sn.nameL [112] n).length := by rw [Lib.size_eq]; rfl
  have hlen : (Sn.nameL [112] n).length ≤ 40 ∧ 1 ≤ (Sn.nameL [112] n).length := by
    unfold Sn.nameL Sn.pad
    simp
    omega
  unfold Dk.nameB
  rw [hsz]
  have ha : Dk.allB Dk.nb8 (Sn.nameB dirP n) = true := by
    unfold Dk.allB
    show (Sn.nameL [112] n).all Dk.nb8 = true
    rw [List.all_eq_true]
    intro c hc
    unfold Sn.nameL at hc
    simp only [List.mem_append, List.mem_cons, List.mem_nil_iff, or_false] at hc
    rcases hc with ((rfl | rfl) | hc) | hc
    · decide
    · decide
    · exact hd c hc
    · rcases hc with rfl | rfl | rfl | rfl <;> decide
  rw [ha]
  simp [hlen]
theorem rec_kind {w : World} {base d lb : Nat} {F : List Nat} {A : DA} {gv : Value} {dir : ByteArray} {v : LV} {ms : List SM} (h : LogAt w base d F A lb gv dir v ms) {base' : Nat} {sv : Value} {xs : List Bt.Rec} (hr : GRow 37 6 recC w base' sv xs) : ∀ k ∈ sv.ownBlock, k ∉ lfoot F lb gv ms := by
  intro k hk hm
  obtain ⟨cs, e⟩ := hr.kind k hk
  rcases mem_lfoot.1 hm with rfl | hm | ⟨x, hx, hm⟩ | hm
  · exact ne_of_type h.box e (by decide) rfl
  · obtain ⟨cs', e'⟩ := h.row.kind k hm
    exact ne_of_type e' e (by decide) rfl
  · obtain ⟨cs', T, e', hT⟩ := seg_kind (h.segs x hx) k hm
    rcases hT with rfl | rfl <;> exact ne_of_type e' e (by decide) rfl
  · rcases disk_kind h.disk hm e with e | e | e <;> exact absurd e (by decide)
/-- A log of one empty segment on an empty disk. -/
theorem GInv.first (room st : Nat) (hs : st ≤ 1099511627776) : ((DA.empty room).make (Sn.nameB dirP st)).1 = 0 ∧ (((DA.empty room).make (Sn.nameB dirP st)).2.sync (Sn.nameB dirP st).data.toList).1 = 0 ∧
    GInv (((DA.empty room).make (Sn.nameB dirP st)).2.sync (Sn.nameB dirP st).data.toList).2 room dirP st st [] (st, []) := by
  have h0 : LogDisk (DA.empty room) room dirP [] := ⟨rfl, rfl, rfl, by simp, by simp⟩
  obtain ⟨h1, h2⟩ := h0.make hs (by simp) (nameP_ok st hs) (by simp)
  obtain ⟨h3, h4⟩ := LogDisk.sync (ss0 := []) (m := (st, [])) h2
  exact ⟨h1, h3, ⟨h4, by simp [Chain], by simp [batsL, Chain], by simp [nextOf], by simp [batsL], by simp, Nat.le_refl _, Nat.le_refl _, by simp⟩⟩

set_option maxHeartbeats 400000 in
theorem files_none (w : World) (base d : Nat) (F : List Nat) (A : DA) (lb : Nat) (gv : Value) (dir : ByteArray) (v : LV) (ms : List SM) (h : LogAt w base d F A lb gv dir v ms) (hdir : dir.size ≤ 1000) (hn : Dk.namesOf A (dir ++ ⟨#[47]⟩ : ByteArray).data.toList = []) :
    Calls Tryz.prog 52 #[.pointer (some ⟨lb, 0, none⟩)] w fun e w' => ∃ a c, e = .returned (.slice a 0 c) ∧ Turn [] w w' := by
  have H := hide h
  have HN := hide hn
  clear h hn
  go_enter Tryz.func52, Tryz.ntmps52
  go_wp2
  refine wp_region_tail 9 (Turn []) (by kernel_rfl) (by kernel_rfl) (by kernel_rfl) (by kernel_rfl) (by kernel_rfl) (Nat.le_of_ble_eq_true rfl) rfl (Turn.refl _) (fun _ _ _ h k => h.same k) ?_
  apply Lo.runx 1 rfl rfl [] (by kernel_rfl) (Turn.refl _)
  apply Exists.intro; apply And.intro
  · intro u w1 hR hF
    clear hF
    refine ⟨rfl, fun a ha K hK => ?_⟩
    have e0 := ha 0
    conv at e0 => rhs; whnf
    clear ha
    go_simp
    refine hK _ ?_; rfl
  apply Lo.runx 2 rfl rfl [0] (by kernel_rfl) (Turn.refl _)
  apply Exists.intro; apply And.intro
  · intro u w1 hR hF
    obtain ⟨h0, -⟩ := hF
    refine ⟨rfl, fun a ha K hK => ?_⟩
    have e10 := (ha 10).trans h0
    clear ha h0
    go_simp
    refine hK _ ?_; rfl
  apply Lo.runx 3 rfl rfl [1] (by kernel_rfl) (Turn.refl _)
  apply Exists.intro; apply And.intro
  · intro u w1 hR hF
    obtain ⟨h1, -⟩ := hF
    refine ⟨rfl, fun a ha K hK => ?_⟩
    have e11 := (ha 11).trans h1
    clear ha h1
    go_simp
    refine hK _ ?_; rfl
  apply Lo.runx 4 rfl rfl [2] (by kernel_rfl) (Turn.refl _)
  apply Exists.intro; apply And.intro
  · intro u w1 hR hF
    obtain ⟨h2, -⟩ := hF
    refine ⟨rfl, fun a ha K hK => ?_⟩
    have e12 := (ha 12).trans h2
    clear ha h2
    have hL := H.out.still (((Turn.refl [] _).drew).same hR)
    have c0 := hL.c0
    have z1 := lt_of_heap hL.box
    go_simp
    refine hK _ ?_; rfl
  apply Lo.runx 5 rfl rfl [] (by kernel_rfl) (Turn.refl _)
  apply Exists.intro; apply And.intro
  · intro u w1 hR hF
    clear hF
    refine ⟨rfl, fun a ha K hK => ?_⟩
    have e0 := ha 0
    conv at e0 => rhs; whnf
    clear ha
    go_simp
    refine hK _ ?_; rfl
  apply Lo.runx 6 rfl rfl [4] (by kernel_rfl) (Turn.refl _)
  apply Exists.intro; apply And.intro
  · intro u w1 hR hF
    obtain ⟨h4, -⟩ := hF
    refine ⟨rfl, fun a ha K hK => ?_⟩
    have e14 := (ha 14).trans h4
    clear ha h4
    go_simp
    refine hK _ ?_; rfl
  apply Lo.runx 7 rfl rfl [5] (by kernel_rfl) (Turn.refl _)
  apply Exists.intro; apply And.intro
  · intro u w1 hR hF
    obtain ⟨h5, -⟩ := hF
    refine ⟨rfl, fun a ha K hK => ?_⟩
    have e15 := (ha 15).trans h5
    clear ha h5
    go_simp
    refine hK _ ?_; rfl
  apply Lo.runx 8 rfl rfl [6] (by kernel_rfl) (Turn.refl _)
  apply Exists.intro; apply And.intro
  · intro u w1 hR hF
    obtain ⟨h6, -⟩ := hF
    refine ⟨rfl, fun a ha K hK => ?_⟩
    have e16 := (ha 16).trans h6
    clear ha h6
    have hL := H.out.still (((Turn.refl [] _).drew).same hR)
    have c1 := hL.c1
    have z1 := lt_of_heap hL.box
    go_simp
    refine hK _ ?_; rfl
  refine Lo.runv 9 rfl rfl [7] (.string (dir ++ ⟨#[47]⟩)) (by kernel_rfl) (fun u w1 hR hF => ?_) (Turn.refl _) ?_
  · obtain ⟨h7, -⟩ := hF
    refine ⟨rfl, fun a ha K hK => ?_⟩
    have e17 := (ha 17).trans h7
    clear ha h7
    have hsz : ¬ (9223372036854775807 < dir.size + 1) := by omega
    go_simp
    refine hK _ ?_
    rfl
  refine Lo.done [3, 8] (fun u w1 hRd hSd hF => ?_)
  clear hSd
  obtain ⟨f3, f8, -⟩ := hF
  have d3 : u 3 = _ := f3
  have d8 : u 8 = _ := f8
  clear f3 f8
  simp only [List.take_succ_cons, List.take_zero, List.drop_succ_cons, List.drop_zero, putFrom, Act.put, List.setIfInBounds_toArray, List.set_cons_succ, List.set_cons_zero, Nat.zero_add, Nat.reduceAdd, d3, d8]
  have HT := hide (((Turn.refl [] w).drew).same hRd)
  clear d3 d8 hRd
  obtain ⟨mref, msd, hp⟩ := H.out.disk.kept HT.out (by simp)
  have hsz : (dir ++ ⟨#[47]⟩ : ByteArray).size ≤ maxLen := by
    rw [show (dir ++ ⟨#[47]⟩ : ByteArray).size = dir.size + 1 from ByteArray.size_append]
    simp only [maxLen]
    omega
  have hli := Dk.list_any hp (dir ++ ⟨#[47]⟩ : ByteArray) hsz
  rw [HN.out] at hli
  have HLI := hide hli
  clear hli hp hsz
  go_wp2_with fail
  refine HLI.out.mono ?_
  rintro e w2 ⟨v1, rfl, hr, ht1⟩
  have hv1 : ∃ a c, v1 = .slice a 0 c := by
    rcases hr.2 with ⟨rfl, -⟩ | ⟨g, cap, cur, rfl, -⟩
    · exact ⟨_, _, rfl⟩
    · exact ⟨_, _, rfl⟩
  obtain ⟨a1, c1, rfl⟩ := hv1
  have HT1 := hide (HT.out.same ht1)
  clear hr ht1 HLI
  go_wp2
  refine wp_loop_rounds 1 ?_
  rw [rounds_succ]
  go_wp2_with fail
  refine (sort_none none 0 _).mono ?_
  rintro e w3 ⟨rfl, ht3⟩
  have HT3 := hide (HT1.out.same ht3)
  clear ht3
  go_wp2
  refine wp_loop_rounds 1 ?_
  rw [rounds_succ]
  go_wp2
  go_ret
  exact ⟨_, _, rfl, HT3.out⟩
set_option maxHeartbeats 400000 in
theorem find_none (w : World) (base d : Nat) (F : List Nat) (A : DA) (lb : Nat) (gv : Value) (dir : ByteArray) (v : LV) (ms : List SM) (h : LogAt w base d F A lb gv dir v ms) (hdir : dir.size ≤ 1000) (hn : Dk.namesOf A (dir ++ ⟨#[47]⟩ : ByteArray).data.toList = []) :
    Calls Tryz.prog 26 #[.pointer (some ⟨lb, 0, none⟩)] w fun e w' => e = .returned .nilIface ∧ Turn [] w w' := by
  have hf := files_none w base d F A lb gv dir v ms h hdir hn
  clear h hn
  have HF := hide hf
  clear hf
  go_enter Tryz.func26, Tryz.ntmps26
  go_wp2_with fail
  refine HF.out.mono ?_
  rintro e w1 ⟨a, c, rfl, ht⟩
  have HT := hide ht
  clear ht HF
  go_wp2
  refine wp_loop_rounds 1 ?_
  rw [rounds_succ]
  go_wp2
  go_ret
  exact ⟨rfl, HT.out⟩
/-- A new disk has no names. -/
theorem names_empty (room : Nat) (bg : List UInt8) : Dk.namesOf (DA.empty room) bg = [] := by
  have h : Dk.sortedN (DA.empty room) = [] := by
    have := Dk.sortedN_len (DA.empty room)
    exact List.eq_nil_of_length_eq_zero this
  unfold Dk.namesOf
  rw [h]
  rfl
end Go.Proofs.YtmdmdbobbepogaaGreatDoor.Lg

/- conveyorkeep.all: each record from Start on, read piece by piece. -/
namespace Go.Proofs.YtmdmdbobbepogaaGreatDoor.Lg
open Go.RowKit Go.Maps
set_option maxRecDepth 100000
set_option linter.unusedSimpArgs false
set_option linter.unusedVariables false
attribute [local go_sem] Oper.semAt_some
open Dk (DA DiskAt Parts Did errR errV)
open Sg (Chain flat pls Both nextOf)

/-- The records of batches. -/
def recsL (xs : List Bt.Bat) : List Bt.Rec := xs.flatMap (·.recs)
theorem sinceL_recs (fr : Int) : ∀ xs : List Bt.Bat, sinceL fr xs = fromL fr (recsL xs)
  | [] => rfl
  | x :: r => by
    have h := sinceL_recs fr r
    unfold sinceL recsL fromL at *
    rw [List.flatMap_cons, List.flatMap_cons, List.filter_append, h]
theorem recsErr_sorted : ∀ {rs : List Bt.Rec} {lo hi : Int}, Bt.recsErr rs lo hi = 0 → rs.Pairwise (fun a b => a.off < b.off)
  | [], _, _, _ => List.Pairwise.nil
  | q :: rs, lo, hi, h => by
    unfold Bt.recsErr at h
    split at h
    · rw [List.pairwise_cons]
      exact ⟨fun r hr => by have := recsErr_mem h r hr; omega, recsErr_sorted h⟩
    · rename_i h0
      exact absurd h h0
theorem recs_ge {xs : List Bt.Bat} {b : Int} (h : Chain b xs) : ∀ r ∈ recsL xs, b ≤ r.off := by
  intro r hr
  obtain ⟨x, hx, hr⟩ := List.mem_flatMap.1 hr
  have := chain_base h x hx
  have := (bat_mem (Sg.Chain.mem h x hx) r hr).1
  omega
theorem recs_sorted : ∀ {xs : List Bt.Bat} {b : Int}, Chain b xs → (recsL xs).Pairwise (fun a b => a.off < b.off)
  | [], _, _ => List.Pairwise.nil
  | x :: r, b, h => by
    unfold recsL
    rw [List.flatMap_cons, List.pairwise_append]
    refine ⟨recsErr_sorted (Bt.chk_ok (Bt.encErr_ok h.1).1).2.2.2.2.2, recs_sorted h.2.2, fun p hp q hq => ?_⟩
    have h1 := (bat_mem h.1 p hp).2
    have h2 := recs_ge h.2.2 q hq
    omega
/-- One piece, and what is left. -/
theorem piece {L P Q : List Bt.Rec} (hs : L.Pairwise (fun a b => a.off < b.off)) (e : L = P ++ Q) {fr : Int} {R : List Bt.Rec} (hR : R = fromL fr P) (h0 : R ≠ []) : fr ≤ (R.getLast h0).off ∧ R.getLast h0 ∈ L ∧ fromL fr L = R ++ fromL ((R.getLast h0).off + 1) L := by
  obtain ⟨z, hz⟩ : ∃ z, z = R.getLast h0 := ⟨_, rfl⟩
  have hzR : z ∈ R := by rw [hz]; exact List.getLast_mem h0
  have hzP : z ∈ P ∧ fr ≤ z.off := by
    rw [hR] at hzR
    unfold fromL at hzR
    have := List.mem_filter.1 hzR
    exact ⟨this.1, by simpa using this.2⟩
  rw [← hz]
  rw [e] at hs
  have hs' := List.pairwise_append.1 hs
  have hRs : R.Pairwise (fun a b => a.off < b.off) := by rw [hR]; exact hs'.1.filter _
  have hle : ∀ r ∈ R, r.off ≤ z.off := by
    intro r hr
    have e2 : R = R.dropLast ++ [z] := by rw [hz]; exact (List.dropLast_concat_getLast h0).symm
    rw [e2] at hr hRs
    rcases List.mem_append.1 hr with h | h
    · have := (List.pairwise_append.1 hRs).2.2 r h z (by simp)
      omega
    · obtain rfl := List.mem_singleton.1 h
      exact Int.le_refl _
  refine ⟨hzP.2, by rw [e]; exact List.mem_append_left _ hzP.1, ?_⟩
  have h1 : fromL (z.off + 1) P = [] := fromL_none fun r hr => by
    rcases Int.lt_or_le r.off fr with h | h
    · omega
    · have : r ∈ R := by rw [hR]; unfold fromL; exact List.mem_filter.2 ⟨hr, by simpa using h⟩
      have := hle r this
      omega
  have h2 : fromL fr Q = Q := fromL_all fun r hr => by have := hs'.2.2 z hzP.1 r hr; omega
  have h3 : fromL (z.off + 1) Q = Q := fromL_all fun r hr => by have := hs'.2.2 z hzP.1 r hr; omega
  have hap : ∀ (f : Int) (a b : List Bt.Rec), fromL f (a ++ b) = fromL f a ++ fromL f b := fun f a b => by unfold fromL; rw [List.filter_append]
  rw [e, hap, hap, h1, h2, h3, hR, List.nil_append]
set_option maxHeartbeats 8000000 in
theorem all_any (w : World) (base d : Nat) (F : List Nat) (A : DA) (lb : Nat) (gv : Value) (dir : ByteArray) (v : LV) (ms0 : List SM) (m : SM) (h : LogAt w base d F A lb gv dir v (ms0 ++ [m])) (hdir : dir.size ≤ 1000) (hok : OkS A dir ((ms0 ++ [m]).map SM.abs)) (most : Int) (hmo : -9223372036854775808 ≤ most ∧ most ≤ 9223372036854775807)
    (b0 : Int) (hch : Chain b0 (batsL ((ms0 ++ [m]).map SM.abs))) (hen : ∀ x ∈ batsL ((ms0 ++ [m]).map SM.abs), x.fin ≤ nextOf m.n m.xs) (hst : v.start ≤ nextOf m.n m.xs) (hst0 : 0 ≤ v.start) (hen2 : nextOf m.n m.xs ≤ 1099511627776) (hfew : (sinceL v.start (batsL ((ms0 ++ [m]).map SM.abs))).length < 5000) :
    Calls Tryz.prog 12 #[.pointer (some ⟨lb, 0, none⟩), .int .i64 most] w fun e w' => ∃ ov, e = .returned (.tuple #[ov, .bool true]) ∧ GRow 37 6 recC w' w.heap.size ov (sinceL v.start (batsL ((ms0 ++ [m]).map SM.abs))) ∧ Turn [] w w' := by
  obtain ⟨bs, hbs⟩ : ∃ bs, bs = batsL ((ms0 ++ [m]).map SM.abs) := ⟨_, rfl⟩
  obtain ⟨nx, hnx⟩ : ∃ nx, nx = nextOf m.n m.xs := ⟨_, rfl⟩
  have hrd := fun (wr : World) (ht : Turn [] w wr) (fr : Int) (h1 : v.start ≤ fr) (h2 : fr ≤ nextOf m.n m.xs) => Read_any wr base d F A lb gv dir v ms0 m (h.still ht) hdir hok fr most hmo h1 h2
  rw [← hbs] at hrd hch hen hfew ⊢
  rw [← hnx] at hrd hen hst hen2
  have hso := recs_sorted hch
  have H := hide h
  have HRD := hide hrd
  have HSO := hide hso
  have HEN := hide hen
  have HCH := hide hch
  have HFEW := hide hfew
  clear h hrd hso hch hen hfew hok hnx hbs
  go_enter Tryz.func12, Tryz.ntmps12
  go_wp2_with fail
  refine (start_any w base d F A lb gv dir v _ H.out).mono ?_
  rintro e w1 ⟨rfl, rfl⟩
  go_wp2
  go_loopw [6, 7, 8] (fun ov fv iv wr => ∃ (i : Nat) (fr : Int) (acc : List Bt.Rec), iv = .int .i64 i ∧ fv = .int .i64 fr ∧ GRow 37 6 recC wr w.heap.size ov acc ∧ v.start ≤ fr ∧ fr ≤ nx ∧ acc ++ sinceL fr bs = sinceL v.start bs ∧ i ≤ acc.length ∧ Turn [] w wr) (fun _ _ iv _ => 5000 - (intOf iv).toNat)
  case atStart => exact ⟨0, v.start, [], rfl, rfl, .inl ⟨rfl, rfl⟩, Int.le_refl _, hst, rfl, Nat.zero_le _, Turn.refl _ _⟩
  case round =>
    obtain ⟨i, fr, acc, rfl, rfl, hov, hf1, hf2, hacc, hia, htw⟩ := hrel
    have hal : acc.length + (sinceL fr bs).length < 5000 := by
      have := congrArg List.length hacc
      rw [List.length_append] at this
      have := HFEW.out
      omega
    obtain ⟨oa, oc, hoe, -, -⟩ := hov.form
    subst hoe
    have HOV := hide hov
    have HACC := hide hacc
    have HTW := hide htw
    clear hov hacc htw
    have hi5 : (i : Int) < 5000 := by omega
    go_wp2_with fail
    refine (HRD.out wr HTW.out fr hf1 hf2).mono ?_
    rintro e w2 ⟨rv, q, rfl, hrow, hemp, ht2⟩
    obtain ⟨R, hR⟩ : ∃ R, R = sinceL fr (bs.take q) := ⟨_, rfl⟩
    rw [← hR] at hrow hemp
    obtain ⟨ra, rc, hre, hrlc, hrcm⟩ := hrow.form
    subst hre
    have hmx : maxLen = 9223372036854775807 := by simp [maxLen]
    rw [hmx] at hrcm
    have HR := hide hR
    have HROW := hide hrow
    have HEM := hide hemp
    have HT2 := hide (HTW.out.same ht2)
    have HT12 := hide ht2
    clear hR hrow hemp ht2
    by_cases hR0 : R = []
    · have hR00 : (R.length : Int) = 0 := by rw [hR0]; rfl
      have hno := HEM.out hR0
      have hfin := HACC.out
      rw [hno, List.append_nil] at hfin
      have HFIN := hide hfin
      clear hno hfin hR0
      go_wp2
      go_ret2
      exact ⟨_, rfl, by rw [← HFIN.out]; exact HOV.out.still HT12.out, HT2.out⟩
    · obtain ⟨n, hn⟩ : ∃ n, R.length = n + 1 := ⟨R.length - 1, by have := List.length_pos_iff.2 hR0; omega⟩
      have hRpos : ((n : Int) + 1 == 0) = false := by rw [beq_eq_false_iff_ne]; omega
      have hsplit : recsL bs = recsL (bs.take q) ++ recsL (bs.drop q) := by unfold recsL; rw [← List.flatMap_append, List.take_append_drop]
      obtain ⟨p1, p2, p3⟩ := piece HSO.out hsplit (fr := fr) (by rw [HR.out, sinceL_recs]) hR0
      obtain ⟨z, hz⟩ : ∃ z, z = R.getLast hR0 := ⟨_, rfl⟩
      rw [← hz] at p1 p2 p3
      have hzn : R[n]'(by omega) = z := by
        rw [hz, List.getLast_eq_getElem]
        congr 1
        omega
      obtain ⟨x, hx, hzx⟩ := List.mem_flatMap.1 p2
      have hzb := (bat_mem (Sg.Chain.mem HCH.out x hx) z hzx).2
      have hxe := HEN.out x hx
      have hRlen : acc.length + R.length < 5000 := by
        have h1 : R.length ≤ (sinceL fr bs).length := by rw [sinceL_recs, p3, List.length_append]; omega
        omega
      have hown : ∀ k ∈ (Value.slice oa acc.length oc).ownBlock, w.heap.size ≤ k ∧ k < wr.heap.size := HOV.out.lt
      obtain ⟨v7, w7, hr7, hrow7, ht7, -⟩ := app_recs w2 w.heap.size (.slice oa acc.length oc) (.slice ra R.length rc) acc R (HOV.out.still HT12.out) (HROW.out.src recC_len) (by omega) (Nat.le_trans HTW.out.size HT12.out.size)
      have hrow2 := HROW.out.kept ht7 (fun k hk hm => by have := (HROW.out.lt k hk).1; have := (hown k (by simpa using hm)).2; omega)
      obtain ⟨g, cap, e, hc, -⟩ := hrow2.at recC_len (j := n) (by omega)
      simp only [Value.slice.injEq, true_and] at e
      obtain ⟨rfl, rfl⟩ := e
      rw [hzn] at hc
      have c0 : w7.cell? ⟨g, n * 6, none⟩ = some (.int .i64 z.off) := hc 0 (by omega)
      have hnb : n < 5000 := by omega
      obtain ⟨va7, vc7, hv7, -, -⟩ := hrow7.form
      subst hv7
      have hacc2 : (acc ++ R) ++ sinceL (z.off + 1) bs = sinceL v.start bs := by
        rw [← HACC.out, List.append_assoc]
        congr 1
        rw [sinceL_recs, sinceL_recs, p3]
      have HACC2 := hide hacc2
      have HROW7 := hide hrow7
      have HT7 := hide (HT2.out.trans ht7 (fun k hk => .inr (hown k (by simpa using hk)).1))
      have hz1 : v.start ≤ z.off := by omega
      have hz2 : z.off + 1 ≤ nx := by omega
      have HR7 := hide hr7
      have hlap : i + 1 ≤ (acc ++ R).length := by rw [List.length_append]; omega
      have HLAP := hide hlap
      rw [hn] at HR7 ⊢
      clear hsplit p1 p2 p3 hz hzn hx hzx hzb hxe hown hr7 hrow7 ht7 hrow2 hc hacc2 hlap hR0 hRlen hn hal
      go_wp2_with (at_builtin; go_must (refine wpList_append_told rfl rfl rfl rfl HR7.out ?_))
      all_goals refine ⟨⟨i + 1, z.off + 1, acc ++ R, by go_num, by go_num, ?_, by omega, hz2, HACC2.out, HLAP.out, HT7.out⟩, ?_⟩
      all_goals first | (simp only [intOf]; omega) | (have := HROW7.out; rw [List.length_append] at this; exact this)
end Go.Proofs.YtmdmdbobbepogaaGreatDoor.Lg

/- conveyorkeep.logged: a fact: two records. -/
namespace Go.Proofs.YtmdmdbobbepogaaGreatDoor.Lg
open Go.RowKit Go.Maps
set_option maxRecDepth 100000
set_option linter.unusedSimpArgs false
set_option linter.unusedVariables false
attribute [local go_sem] Oper.semAt_some
open Dk (DA DiskAt Parts Did errR errV)
open Sg (SegAt sfoot pls Both Came nextOf flat Chain)

def rA : Bt.Rec := ⟨0, 0, false, [], false, [97]⟩
def rB : Bt.Rec := ⟨0, 0, false, [], false, [98]⟩
theorem ab_err : Bt.encErr (batOf 0 [rA, rB]) = 0 := by kernel_rfl
theorem ab_len : (Bt.encB (batOf 0 [rA, rB])).length ≤ 100 := by decide +kernel
set_option maxHeartbeats 8000000 in
theorem logged_any (W : World) (hv : Sn.VarT W) (hg : As.ErrT W) : Calls Tryz.prog 8 #[] W fun e w' => e = .returned (.bool true) ∧ Turn [] W w' := by
  have HV := hide hv
  have HG := hide hg
  clear hv hg
  go_enter Tryz.func8, Tryz.ntmps8
  go_wp2_with fail
  refine (Dk.new_ok 10000 (by omega) W W.heap.size (Nat.le_refl _)).mono ?_
  rintro e w1 ⟨rfl, hd1, ht1⟩
  have HD1 := hide hd1
  have HT1 := hide ht1
  clear hd1 ht1
  obtain ⟨h1, h2, h3'⟩ := GInv.first 10000 0 (by omega)
  have hop := open_fresh w1 W.heap.size W.heap.size [W.heap.size] (DA.empty 10000) HD1.out dirP (by decide) 300 0 (by omega) (by omega) (by omega) h1 h2 (fun Z hZ => (HV.out.below ((HT1.out.trans hZ (fun k hk => .inr (by simp at hk; omega))).nil)).tab) (fun Z lb _ hL => find_none Z _ _ _ _ lb _ _ _ _ hL (by decide) (names_empty _ _))
  have HOP := hide hop
  have HGI := hide h3'
  clear h1 h2 h3' hop
  go_wp2_with fail
  refine HOP.out.mono ?_
  rintro e w4 ⟨lb, F4, gv4, m4, rfl, hl4, hm4, ht4, hf4⟩
  have HL4 := hide hl4
  have HM4 := hide hm4
  have HT4 := hide (HT1.out.trans ht4 (fun k hk => .inr (by simp at hk; omega)))
  clear hl4 hm4 ht4 hf4 HOP
  go_wp2_with fail
  obtain ⟨w5, hw5⟩ : ∃ w5, w5 = w4.alloc (.cells #[.int .i64 0, .int .i64 0, .bool false, .string ⟨#[]⟩, .bool false, .string ⟨#[97]⟩, .int .i64 0, .int .i64 0, .bool false, .string ⟨#[]⟩, .bool false, .string ⟨#[98]⟩] 37) := ⟨_, rfl⟩
  rw [← hw5]
  have hal : Turn [] w4 w5 := by rw [hw5]; exact (Turn.refl [] w4).alloc _
  have hrr : RecsAt w5 (.slice (some ⟨w4.heap.size, 0, none⟩) 2 2) [rA, rB] := RecRow.recs (base := 0) (.inr ⟨_, 2, _, rfl, Nat.zero_le _, by rw [hw5]; exact heap_new w4 _, by simp, by simp, by simp [maxLen], by simp [recC, rA, rB]; exact ⟨rfl, rfl, rfl, rfl⟩⟩) (fun r hr => by
    simp only [List.mem_cons, List.mem_nil_iff, or_false] at hr
    rcases hr with rfl | rfl <;> exact ⟨by decide, by decide, by decide, by decide, by decide, by decide⟩)
  have hm4 := HM4.out
  have hmn : m4.n = 0 := congrArg Prod.fst hm4
  have hmx : m4.xs = [] := congrArg Prod.snd hm4
  have HT5 := hide (HT4.out.same hal)
  have hadd := Add_any w5 W.heap.size W.heap.size F4 _ lb gv4 dirP _ [] m4 (HL4.out.still hal) (by simp) (by rw [hmn]; omega) (by decide) (by rw [hmx]; simp [flat]) (by simp) rfl 0 (by omega) (by rw [hmn, hmx]; rfl)
    (fun Z hZ => by
      have hT := HT5.out.trans hZ (fun k hk => .inr ((HL4.out.still hal).lt k hk).1)
      exact ⟨(HV.out.below hT.nil).tab, HG.out.below hT.nil⟩) _ [rA, rB] hrr (by simp)
  obtain ⟨A', v', ss0', m', e1, e2, e3, e4, g', b', l'⟩ := HGI.out.add (by omega) [rA, rB] ab_err (nameP_ok 0 (by omega)) (by simp) (by have : (Bt.encB (batOf ((0 : Nat) : Int) [rA, rB])).length ≤ 100 := ab_len; simp only [batsL, flat, List.nil_append, List.flatMap_cons, List.flatMap_nil, List.length_nil]; omega) ⟨((300 : Nat) : Int), ((0 : Nat) : Int), ((0 : Nat) : Int), false⟩
  rw [List.map_nil, hm4, e1] at hadd
  have HADD := hide hadd
  have HG2 := hide g'
  have HB2 := hide b'
  have HE2 := hide e2
  have HLL := hide l'
  have HL5 := hide (HL4.out.still hal)
  clear hw5 hal hrr hm4 hmn hmx hadd e1 e2 e3 e4 g' b' l' HL4 HM4 HGI
  refine HADD.out.mono ?_
  rintro e w6 ⟨rfl, hd6⟩
  rw [show errR 0 = .nilIface from rfl, show offS 0 0 = 0 from rfl]
  obtain ⟨F6, gv6, ms6, hl6, hm6, ht6, hf6⟩ := hd6
  obtain ⟨ms60, m6, rfl, hm60, hm6a⟩ := split_last hm6
  have hab : (ms60 ++ [m6]).map SM.abs = ss0' ++ [m'] := by rw [List.map_append, List.map_singleton, hm60, hm6a]
  have hln := congrArg List.length hm60
  rw [List.length_map] at hln
  have hl0 : ss0'.length ≤ 1 := HLL.out
  have hbl : batsL (ss0' ++ [m']) = [batOf 0 [rA, rB]] := HB2.out
  have hnx : nextOf m6.n m6.xs = 2 := by
    have := HG2.out.next
    rw [← hm6a] at this
    exact this
  have hfl : (flat m6.xs).length ≤ 1048576 := by
    have hp : m6.abs ∈ ss0' ++ [m'] := by rw [hm6a]; simp
    exact flat_short hl6.disk (HG2.out.ok (by simp; omega)) hp
  have hfl2 := Sg.flat_len m6.xs
  have hrd := Read_any w6 W.heap.size W.heap.size F6 A' lb gv6 dirP v' ms60 m6 hl6 (by decide) (by rw [hab]; exact HG2.out.ok (by simp; omega)) 1 99 (by omega) (by rw [HE2.out]; decide) (by rw [hnx]; omega)
  rw [hab, hbl] at hrd
  have hend := fun (Z : World) (hZ : Turn [] w6 Z) => end_any Z W.heap.size W.heap.size F6 A' lb gv6 dirP v' ms60 m6 (hl6.still hZ) (by omega) (by omega)
  rw [hnx] at hend
  have HRD := hide hrd
  have HEND := hide hend
  have HT6 := hide (HT5.out.trans ht6 (fun k hk => .inr ((HL5.out.lt k hk).1)))
  clear hab hln hl0 hbl hnx hfl hfl2 hrd hend hl6 hm60 hm6a ht6 hf6 HADD HG2 HB2 HE2 HLL
  go_wp2_with fail
  refine HRD.out.mono ?_
  rintro e w7 ⟨ov, q, rfl, hov, hemp, ht7⟩
  have hs : sinceL 1 ([batOf 0 [rA, rB]].take q) = [⟨1, 0, false, [], false, [98]⟩] := by
    cases q with
    | zero => exact absurd (hemp rfl) (by decide)
    | succ q =>
      rw [List.take_of_length_le (by simp)]
      rfl
  rw [hs] at hov
  obtain ⟨g, cap, e, hc, -⟩ := hov.at recC_len (j := 0) (by simp)
  subst e
  have k0 : w7.cell? ⟨g, 0, none⟩ = some (.int .i64 1) := hc 0 (by omega)
  have k5 : w7.cell? ⟨g, 5, none⟩ = some (.string ⟨#[98]⟩) := hc 5 (by omega)
  have HT7 := hide ht7
  clear hov hemp hs hc ht7 HRD
  go_wp2_with fail
  refine (HEND.out w7 HT7.out).mono ?_
  rintro e w8 ⟨rfl, ht8⟩
  have k0' : w8.cell? ⟨g, 0, none⟩ = some (.int .i64 1) := (World.cell?_of_block (w := w7) (ht8.block _ (World.block_lt_of_cell? _ _ k0) (by simp))).trans k0
  have k5' : w8.cell? ⟨g, 5, none⟩ = some (.string ⟨#[98]⟩) := (World.cell?_of_block (w := w7) (ht8.block _ (World.block_lt_of_cell? _ _ k5) (by simp))).trans k5
  have HT8 := hide (HT6.out.same (HT7.out.same ht8))
  clear ht8 k0 k5
  go_wp2
  go_ret
  exact ⟨rfl, HT8.out⟩
end Go.Proofs.YtmdmdbobbepogaaGreatDoor.Lg

/- Integers and lists of records that came in (of a law). -/
namespace Go.Proofs.YtmdmdbobbepogaaGreatDoor
open Go.RowKit Go.Maps
set_option maxRecDepth 100000
set_option linter.unusedSimpArgs false
set_option linter.unusedVariables false
variable {H : Type} {enc : TypeId × Value → H} {base : Nat} {spare : Nat → Bool} {held : Bool}
theorem open_int {w : World} {r : Reach} {b0 : Nat} {v : Value} {d : DataW H} {ps : List MemPlace} (hv : Value.okWide Tryz.prog w r b0 3 v) (h : DataW.Trod enc Tryz.prog w base spare held 3 v d ps) : ∃ z : Int, v = .int .i64 z ∧ -9223372036854775808 ≤ z ∧ z ≤ 9223372036854775807 := by
  obtain ⟨z, rfl⟩ := WideShapes.okWide_int Tryz.underlying3 hv
  obtain ⟨n, h⟩ := h
  simp only [Value.cells] at h
  obtain ⟨m, e, -, hw⟩ := DataW.trod_int Tryz.underlying3 h
  simp only [List.cons.injEq, and_true, Value.int.injEq, true_and] at e
  subst e
  exact ⟨_, rfl, wf_i64 hw⟩
theorem open_rows {w : World} {r : Reach} {b0 : Nat} {v : Value} {d : DataW H} {ps : List MemPlace} (hv : Value.okWide Tryz.prog w r b0 33 v) (h : DataW.Trod enc Tryz.prog w base spare held 33 v d ps) : ∃ rs, RecsAt w v rs := by
  obtain ⟨a', len', cap', rfl⟩ := WideShapes.okWide_slice Tryz.underlying33 hv
  obtain ⟨n, h⟩ := h
  simp only [Value.cells] at h
  exact open_recs h
end Go.Proofs.YtmdmdbobbepogaaGreatDoor

/- Lists of lists of records that came in (of a law). -/
namespace Go.Proofs.YtmdmdbobbepogaaGreatDoor
open Go.RowKit Go.Maps
set_option maxRecDepth 100000
set_option linter.unusedSimpArgs false
set_option linter.unusedVariables false
/-- Lists of records that came in. -/
structure RecssAt (W : World) (v : Value) (rss : List (List Bt.Rec)) : Prop where
  form : ∃ a c, v = .slice a rss.length c ∧ rss.length ≤ c ∧ c ≤ maxLen
  at_ : ∀ Z, Turn [] W Z → ∀ j (h : j < rss.length), ∃ p c sj, v = .slice (some p) rss.length c ∧ Z.cell? (p.add j) = some sj ∧ RecsAt Z sj rss[j]
theorem cells_rs : Tryz.prog.cellsOf 33 = 1 := by kernel_rfl
variable {H : Type} {enc : TypeId × Value → H} {base : Nat} {spare : Nat → Bool} {held : Bool}
theorem open_rowss {w : World} {r : Reach} {b0 : Nat} {v : Value} {d : DataW H} {ps : List MemPlace} (hv : Value.okWide Tryz.prog w r b0 22 v) (h : DataW.Trod enc Tryz.prog w base spare held 22 v d ps) : ∃ rss, RecssAt w v rss := by
  obtain ⟨a', len', cap', rfl⟩ := WideShapes.okWide_slice Tryz.underlying22 hv
  obtain ⟨n, h⟩ := h
  simp only [Value.cells] at h
  rcases Deep.open_slice Tryz.underlying22 h with ⟨hcs, -⟩ | ⟨a, len, cap, m, k, D, Pl, hcs, -, h1, h2, h3, -, h4⟩
  · simp only [List.cons.injEq, and_true] at hcs
    rw [hcs]
    exact ⟨[], ⟨none, 0, rfl, Nat.le_refl _, Nat.zero_le _⟩, fun Z _ j hj => absurd hj (Nat.not_lt_zero _)⟩
  · simp only [List.cons.injEq, and_true] at hcs
    rw [hcs]
    have hlm : len ≤ m := by rw [h3]; split <;> omega
    rw [cells_rs] at h4
    have hr : ∀ i, i < len → ∃ rs, ∃ sj, w.cell? (a.add i) = some sj ∧ RecsAt w sj rs := by
      intro i hi
      obtain ⟨cs', g1, g2⟩ := h4 i (by omega)
      obtain ⟨-, -, g3⟩ := World.cells?_some g1
      have hone : ∃ sj, cs' = [sj] := by
        rcases Deep.open_slice Tryz.underlying33 g2 with ⟨e, -⟩ | ⟨a2, len2, cap2, m2, k2, D2, P2, e, -⟩
        · exact ⟨_, e⟩
        · exact ⟨_, e⟩
      obtain ⟨sj, rfl⟩ := hone
      obtain ⟨rs, hrs⟩ := open_recs g2
      have := g3 0 (by omega)
      rw [add_add, Nat.mul_one, Nat.add_zero] at this
      exact ⟨rs, sj, this, hrs⟩
    let rss : List (List Bt.Rec) := (List.range len).attach.map fun i => (hr i.1 (List.mem_range.1 i.2)).choose
    have hl : rss.length = len := by simp [rss]
    refine ⟨rss, ⟨some a, cap, by rw [hl], by rw [hl]; exact h1, h2⟩, fun Z hZ j hj => ?_⟩
    have hj' : j < len := by omega
    have e : rss[j] = (hr j hj').choose := by simp [rss]
    obtain ⟨sj, h5, h6⟩ := (hr j hj').choose_spec
    refine ⟨a, cap, sj, by rw [hl], ?_, ?_⟩
    · rw [World.cell?_of_block (w := w) (hZ.block _ (World.block_lt_of_cell? _ _ h5) (by simp)), h5]
    · rw [e]
      exact h6.still hZ
end Go.Proofs.YtmdmdbobbepogaaGreatDoor

/- plain.Same of equal records: true. -/
namespace Go.Proofs.YtmdmdbobbepogaaGreatDoor
open Go.RowKit Go.Maps
set_option maxRecDepth 100000
set_option linter.unusedSimpArgs false
set_option linter.unusedVariables false

set_option maxHeartbeats 2000000 in
theorem same_any (w : World) (v v' : Value) (recs : List Bt.Rec) (h : RecsAt w v recs) (h' : RecsAt w v' recs) :
    Calls Tryz.prog 13 #[v, v'] w fun e w' => e = .returned (.bool true) ∧ Turn [] w w' := by
  obtain ⟨a, c, rfl, hlc, hcm, hn0, hp⟩ := h.form
  obtain ⟨a', c', rfl, hlc', hcm', hn0', hp'⟩ := h'.form
  have hmx : maxLen = 9223372036854775807 := by simp [maxLen]
  rw [hmx] at hcm hcm'
  have HR : Hid (RecsAt w (.slice a recs.length c) recs) := h
  have HR' : Hid (RecsAt w (.slice a' recs.length c') recs) := h'
  clear h h' hn0 hn0'
  go_enter Tryz.func13, Tryz.ntmps13
  go_wp2
  go_loopw [13] (fun i wr => ∃ k : Nat, k ≤ recs.length ∧ i = .int .i64 k ∧ Turn [] w wr) (fun i _ => recs.length - (intOf i).toNat)
  case atStart => exact ⟨0, Nat.zero_le _, rfl, Turn.refl _ _⟩
  case round =>
    obtain ⟨k, hk, rfl, ht⟩ := hrel
    have HT := hide ht
    clear ht
    by_cases hlt : k < recs.length
    · obtain ⟨p, rfl⟩ := hp k hlt
      obtain ⟨p', rfl⟩ := hp' k hlt
      have HC := hide (fun Z (hZ : Turn [] wr Z) => ((HR.out.still HT.out).still hZ).six hlt)
      have HC' := hide (fun Z (hZ : Turn [] wr Z) => ((HR'.out.still HT.out).still hZ).six hlt)
      clear hp hp'
      obtain ⟨r, hr⟩ : ∃ r, r = recs[k] := ⟨_, rfl⟩
      rw [← hr] at HC HC'
      clear hr
      go_wp2
      refine wp_region_loose (Turn []) (by kernel_rfl) (by kernel_rfl) (by kernel_rfl) (by kernel_rfl) rfl (Turn.refl _) (fun _ _ _ h k => h.same k) ?_
      apply Lo.runx 1 rfl rfl [] (by kernel_rfl) (Turn.refl _)
      apply Exists.intro; apply And.intro
      · intro u w1 hR hF
        clear hF
        refine ⟨rfl, fun a ha K hK => ?_⟩
        have e0 := ha 0
        conv at e0 => rhs; whnf
        clear ha
        go_simp
        refine hK _ ?_; rfl
      apply Lo.runx 2 rfl rfl [] (by kernel_rfl) (Turn.refl _)
      apply Exists.intro; apply And.intro
      · intro u w1 hR hF
        clear hF
        refine ⟨rfl, fun a ha K hK => ?_⟩
        have e5 := ha 5
        conv at e5 => rhs; whnf
        clear ha
        go_simp
        refine hK _ ?_; rfl
      apply Lo.runx 3 rfl rfl [0, 1] (by kernel_rfl) (Turn.refl _)
      apply Exists.intro; apply And.intro
      · intro u w1 hR hF
        obtain ⟨h0, h1, -⟩ := hF
        refine ⟨rfl, fun a ha K hK => ?_⟩
        have e16 := (ha 16).trans h0
        have e17 := (ha 17).trans h1
        clear ha h0 h1
        go_simp
        refine hK _ ?_; rfl
      apply Lo.runx 4 rfl rfl [2] (by kernel_rfl) (Turn.refl _)
      apply Exists.intro; apply And.intro
      · intro u w1 hR hF
        obtain ⟨h2, -⟩ := hF
        refine ⟨rfl, fun a ha K hK => ?_⟩
        have e18 := (ha 18).trans h2
        clear ha h2
        obtain ⟨g0, g1, g2, g3, g4, g5⟩ := HC.out w1 ((Turn.refl [] _).drew.same hR)
        go_simp
        refine hK _ ?_; rfl
      apply Lo.runx 5 rfl rfl [] (by kernel_rfl) (Turn.refl _)
      apply Exists.intro; apply And.intro
      · intro u w1 hR hF
        clear hF
        refine ⟨rfl, fun a ha K hK => ?_⟩
        have e1 := ha 1
        conv at e1 => rhs; whnf
        clear ha
        go_simp
        refine hK _ ?_; rfl
      apply Lo.runx 6 rfl rfl [] (by kernel_rfl) (Turn.refl _)
      apply Exists.intro; apply And.intro
      · intro u w1 hR hF
        clear hF
        refine ⟨rfl, fun a ha K hK => ?_⟩
        have e5 := ha 5
        conv at e5 => rhs; whnf
        clear ha
        go_simp
        refine hK _ ?_; rfl
      apply Lo.runx 7 rfl rfl [4, 5] (by kernel_rfl) (Turn.refl _)
      apply Exists.intro; apply And.intro
      · intro u w1 hR hF
        obtain ⟨h4, h5, -⟩ := hF
        refine ⟨rfl, fun a ha K hK => ?_⟩
        have e20 := (ha 20).trans h4
        have e21 := (ha 21).trans h5
        clear ha h4 h5
        go_simp
        refine hK _ ?_; rfl
      apply Lo.runx 8 rfl rfl [6] (by kernel_rfl) (Turn.refl _)
      apply Exists.intro; apply And.intro
      · intro u w1 hR hF
        obtain ⟨h6, -⟩ := hF
        refine ⟨rfl, fun a ha K hK => ?_⟩
        have e22 := (ha 22).trans h6
        clear ha h6
        obtain ⟨g0, g1, g2, g3, g4, g5⟩ := HC'.out w1 ((Turn.refl [] _).drew.same hR)
        go_simp
        refine hK _ ?_; rfl
      refine Lo.runv 9 rfl rfl [3, 7] (.bool (false)) (by kernel_rfl) (fun u w1 hR hF => ?_) (Turn.refl _) ?_
      · obtain ⟨h3, h7, -⟩ := hF
        refine ⟨rfl, fun a ha K hK => ?_⟩
        have e19 := (ha 19).trans h3
        have e23 := (ha 23).trans h7
        clear ha h3 h7
        go_simp
        refine hK _ ?_
        simp
      refine Lo.done [8] (fun u w1 hRd hSd hF => ?_)
      clear hSd
      obtain ⟨f8, -⟩ := hF
      have d8 : u 8 = _ := f8
      clear f8
      simp only [putFrom, Act.put, List.setIfInBounds_toArray, List.set_cons_succ, List.set_cons_zero, Nat.zero_add, Nat.reduceAdd, d8]
      have HT1 := hide (HT.out.same ((Turn.refl [] wr).drew.same hRd))
      clear hRd
      go_wp2
      refine ⟨⟨k + 1, by omega, by go_num, HT1.out⟩, ?_⟩
      simp only [intOf]; omega
    · obtain rfl : k = recs.length := by omega
      go_wp2
      go_ret
      exact ⟨rfl, HT.out⟩
end Go.Proofs.YtmdmdbobbepogaaGreatDoor

/- A disk of one file: what its operations come to. -/
namespace Go.Proofs.YtmdmdbobbepogaaGreatDoor.Sg
set_option linter.unusedSimpArgs false
set_option linter.unusedVariables false
open Go.RowKit
open Dk (DA)

structure One (A : DA) (room : Nat) (nm bs : List UInt8) : Prop where
  lim : A.limited = false
  room : A.room = room
  one : ∃ sf, A.files = [⟨nm, bs, sf⟩]
theorem One.fails {A : DA} {room : Nat} {nm bs : List UInt8} (h : One A room nm bs) : A.fails = false := by unfold DA.fails; rw [h.lim]; rfl
theorem One.tick {A : DA} {room : Nat} {nm bs : List UInt8} (h : One A room nm bs) : A.tick = A := by unfold DA.tick; rw [h.lim]; rfl
theorem One.file {A : DA} {room : Nat} {nm bs : List UInt8} (h : One A room nm bs) : ∃ f, A.file nm = some f ∧ f.bytes = bs := by
  obtain ⟨sf, e⟩ := h.one
  exact ⟨⟨nm, bs, sf⟩, by unfold DA.file; rw [e]; simp, rfl⟩
theorem One.has {A : DA} {room : Nat} {nm bs : List UInt8} (h : One A room nm bs) : A.has nm = true := by
  obtain ⟨f, e, -⟩ := h.file
  rw [Dk.has_file, e]; rfl
theorem One.used {A : DA} {room : Nat} {nm bs : List UInt8} (h : One A room nm bs) : Dk.usedL A.files = bs.length := by
  obtain ⟨sf, e⟩ := h.one
  rw [e]; simp [Dk.usedL]
theorem One.upd {A : DA} {room : Nat} {nm bs : List UInt8} (h : One A room nm bs) (g : Dk.FA → Dk.FA) (hg : ∀ f, (g f).name = f.name) (bs' : List UInt8) (hb : ∀ sf, (g ⟨nm, bs, sf⟩).bytes = bs') : One (A.upd nm g) room nm bs' := by
  obtain ⟨sf, e⟩ := h.one
  refine ⟨h.lim, h.room, (g ⟨nm, bs, sf⟩).safe, ?_⟩
  unfold DA.upd Dk.setF
  rw [e]
  have h1 := hg ⟨nm, bs, sf⟩
  have h2 := hb sf
  simp only [List.map_cons, List.map_nil, beq_self_eq_true, if_true]
  generalize g ⟨nm, bs, sf⟩ = y at *
  cases y
  simp_all
theorem One.add {A : DA} {room : Nat} {nm bs : List UInt8} (h : One A room nm bs) (b : List UInt8) (hr : bs.length + b.length ≤ room) : (A.add nm b).1 = 0 ∧ One (A.add nm b).2 room nm (bs ++ b) := by
  have e : A.add nm b = (0, A.tick.upd nm (fun f => { f with bytes := f.bytes ++ b })) := by
    unfold DA.add
    rw [h.fails, h.has, h.used, h.room, if_neg (by simp), if_neg (by simp), if_neg (by omega)]
  rw [e, h.tick]
  exact ⟨rfl, h.upd (fun f => { f with bytes := f.bytes ++ b }) (fun _ => rfl) (bs ++ b) (fun _ => rfl)⟩
theorem One.cut {A : DA} {room : Nat} {nm bs : List UInt8} (h : One A room nm bs) (n : Nat) (hn : n ≤ bs.length) : (A.cut nm n).1 = 0 ∧ One (A.cut nm n).2 room nm (bs.take n) := by
  obtain ⟨f, hf, hb⟩ := h.file
  have e : A.cut nm n = (0, A.tick.upd nm (Dk.cut1 n)) := by
    unfold DA.cut
    rw [h.fails, hf, if_neg (by simp)]
    simp only
    rw [if_neg (by rw [hb]; omega)]
    simp
  rw [e, h.tick]
  exact ⟨rfl, h.upd (Dk.cut1 n) (fun _ => rfl) (bs.take n) (fun _ => rfl)⟩
theorem One.size {A : DA} {room : Nat} {nm bs : List UInt8} (h : One A room nm bs) : A.sizeOf nm = bs.length := by
  obtain ⟨f, hf, hb⟩ := h.file
  rw [sizeOf_some hf, hb]
theorem make_one (r : Nat) (s : ByteArray) (hs : Dk.nameB s = true) : ((Dk.DA.empty r).make s).1 = 0 ∧ One ((Dk.DA.empty r).make s).2 r s.data.toList [] := by
  have e : (Dk.DA.empty r).make s = (0, { (Dk.DA.empty r).tick with files := (Dk.DA.empty r).files ++ [⟨s.data.toList, [], 0⟩] }) := by
    unfold DA.make
    rw [hs]
    rfl
  rw [e]
  exact ⟨rfl, rfl, rfl, 0, rfl⟩
/-- The directory of the laws. -/
def dirS : ByteArray := ⟨#[115]⟩
theorem nameS_ok (n : Nat) (hn : n ≤ 1099511627776) : Dk.nameB (Sn.nameB dirS n) = true := by
  have hd : ∀ c ∈ Sn.pad (Lib.decDigits n), Dk.nb8 c = true := by
    intro c hc
    have h := Sn.pad_digit n c hc
    unfold Dk.nb8 Dk.nb
    rw [decide_eq_true_eq]
    omega
  have hl := Sn.dec_short hn
  have hsz : (Sn.nameB dirS n).size = (Sn.nameL [115] n).length := by rw [Lib.size_eq]; rfl
  have hlen : (Sn.nameL [115] n).length ≤ 40 ∧ 1 ≤ (Sn.nameL [115] n).length := by
    unfold Sn.nameL Sn.pad
    simp
    omega
  unfold Dk.nameB
  rw [hsz]
  have ha : Dk.allB Dk.nb8 (Sn.nameB dirS n) = true := by
    unfold Dk.allB
    show (Sn.nameL [115] n).all Dk.nb8 = true
    rw [List.all_eq_true]
    intro c hc
    unfold Sn.nameL at hc
    simp only [List.mem_append, List.mem_cons, List.mem_nil_iff, or_false] at hc
    rcases hc with ((rfl | rfl) | hc) | hc
    · decide
    · decide
    · exact hd c hc
    · rcases hc with rfl | rfl | rfl | rfl <;> decide
  rw [ha]
  simp [hlen]
end Go.Proofs.YtmdmdbobbepogaaGreatDoor.Sg

/- conveyorkeep.LogGrows, walked . -/
namespace Go.Proofs.YtmdmdbobbepogaaGreatDoor.Lg
open Go.RowKit Go.Maps
set_option maxRecDepth 100000
set_option linter.unusedSimpArgs false
set_option linter.unusedVariables false
attribute [local go_sem] Oper.semAt_some
open Dk (DA DiskAt Parts Did errR errV)
open Sg (SegAt sfoot pls Both Came nextOf flat Chain)

theorem recsL_snoc (xs : List Bt.Bat) (x : Bt.Bat) : recsL (xs ++ [x]) = recsL xs ++ x.recs := by
  unfold recsL
  rw [List.flatMap_append]
  simp
/-- Where the law's loop stands. -/
structure GSt (W wr : World) (d lb : Nat) (mo st i : Nat) (wv : Value) (wants : List Bt.Rec) : Prop where
  log : ∃ F gv v ms0 m A ss0 mm, LogAt wr W.heap.size d F A lb gv dirP v (ms0 ++ [m]) ∧ (ms0.map SM.abs = ss0 ∧ m.abs = mm) ∧ GInv A 1048576 dirP st (st + wants.length) ss0 mm ∧ (v.start = st ∧ v.most = mo ∧ v.down = false) ∧ recsL (batsL (ss0 ++ [mm])) = wants ∧ ss0.length ≤ i ∧ (flat (batsL (ss0 ++ [mm]))).length ≤ 6000 * i
  row : GRow 37 6 recC wr W.heap.size wv wants
  len : wants.length ≤ 60 * i
  ok : ∀ r ∈ wants, RecOk r
  turn : Turn [] W wr
set_option maxHeartbeats 8000000 in
theorem grows_any (W : World) (a z u : Int) (v3 : Value) (rss : List (List Bt.Rec)) (h3 : RecssAt W v3 rss) (hv : Sn.VarT W) (hg : As.ErrT W) :
    Calls Tryz.prog 3 #[.int .i64 a, .int .i64 z, .int .i64 u, v3] W fun e w' => e = .returned (.bool true) ∧ Below W.heap.size W w' := by
  obtain ⟨a3, c3, rfl, hlc3, hcm3⟩ := h3.form
  have hmx : maxLen = 9223372036854775807 := by simp [maxLen]
  rw [hmx] at hcm3
  have H3 := hide h3
  have HV := hide hv
  have HG := hide hg
  clear h3 hv hg
  by_cases hz : z < 0
  · go_enter Tryz.func3, Tryz.ntmps3
    go_wp2
    go_ret
    exact ⟨rfl, Below.refl _ _⟩
  by_cases hz2 : 1099511618776 < z
  · go_enter Tryz.func3, Tryz.ntmps3
    go_wp2
    go_ret
    exact ⟨rfl, Below.refl _ _⟩
  by_cases hl : 20 < (rss.length : Int)
  · go_enter Tryz.func3, Tryz.ntmps3
    go_wp2
    go_ret
    exact ⟨rfl, Below.refl _ _⟩
  obtain ⟨st, rfl⟩ := Int.eq_ofNat_of_zero_le (by omega : 0 ≤ z)
  have hst : st ≤ 1099511618776 := by omega
  clear hz
  go_enter Tryz.func3, Tryz.ntmps3
  go_wp2_with fail
  refine (Dk.new_ok 1048576 (by omega) W W.heap.size (Nat.le_refl _)).mono ?_
  rintro e w1 ⟨rfl, hd1, ht1⟩
  have HT1 := hide ht1
  go_wp2_with fail
  refine (logged_any _ (HV.out.below HT1.out.nil) (HG.out.below HT1.out.nil)).mono ?_
  rintro e w2 ⟨rfl, ht2⟩
  have HD2 := hide (hd1.kept ht2 (by simp))
  have HT2 := hide (HT1.out.same ht2)
  clear hd1 ht1 ht2
  go_wp2_with fail
  refine (pickN_any a 3000 (by omega) (by omega) w2).mono ?_
  rintro e w3 ⟨⟨q, hq, rfl⟩, rfl⟩
  obtain ⟨h1, h2, h3'⟩ := GInv.first 1048576 st (by omega)
  have hop := open_fresh w2 W.heap.size W.heap.size [W.heap.size] (DA.empty 1048576) HD2.out dirP (by decide) (100 + q) st (by omega) (by omega) (by omega) h1 h2 (fun Z hZ => (HV.out.below ((HT2.out.trans hZ (fun k hk => .inr (by simp at hk; omega))).nil)).tab) (fun Z lb _ hL => find_none Z _ _ _ _ lb _ _ _ _ hL (by decide) (names_empty _ _))
  rw [show (((100 + q : Nat)) : Int) = 100 + (q : Int) by omega] at hop
  have HOP := hide hop
  have HGI := hide h3'
  clear h1 h2 h3' hop
  go_wp2_with fail
  refine HOP.out.mono ?_
  rintro e w4 ⟨lb, F4, gv4, m4, rfl, hl4, hm4, ht4, hf4⟩
  have hst0 : GSt W w4 W.heap.size lb (100 + q) st 0 (.slice none 0 0) [] := by
    refine ⟨⟨F4, gv4, _, [], m4, _, [], (st, []), hl4, ⟨rfl, hm4⟩, by simpa using HGI.out, ⟨rfl, by simp, rfl⟩, by simp [batsL, recsL], Nat.le_refl _, by simp [batsL, flat]⟩, .inl ⟨rfl, rfl⟩, Nat.zero_le _, by simp, HT2.out.trans ht4 (fun k hk => .inr (by simp at hk; omega))⟩
  have HST0 := hide hst0
  clear hl4 hm4 ht4 hf4 hst0 HOP
  go_wp2
  go_loopw [12, 13] (fun wv iv wr => ∃ (i : Nat) (wants : List Bt.Rec), i ≤ rss.length ∧ iv = .int .i64 i ∧ GSt W wr W.heap.size lb (100 + q) st i wv wants) (fun _ iv _ => rss.length - (intOf iv).toNat)
  case atStart => exact ⟨0, [], Nat.zero_le _, rfl, HST0.out⟩
  case round =>
    obtain ⟨i, wants, hi, rfl, hgs⟩ := hrel
    have HS := hide hgs
    obtain ⟨⟨F, gv, v, ms0, m, A, ss0, mm, hlog, ⟨hss, hmm⟩, hgi, ⟨hv1, hv2, hv3⟩, hrecs, hsl, hflt⟩, hrow, hlen, hokr, htw⟩ := hgs
    obtain ⟨wa, wc, hwe, -, -⟩ := hrow.form
    subst hwe
    have hln := congrArg List.length hss
    rw [List.length_map] at hln
    by_cases hlt : i < rss.length
    · obtain ⟨p, c, sj, he, hcellW, hrecW⟩ := H3.out.at_ W (Turn.refl [] W) i hlt
      simp only [Value.slice.injEq, true_and] at he
      obtain ⟨rfl, rfl⟩ := he
      obtain ⟨ra, rc, rfl, hrlc, hrcm, -⟩ := hrecW.form
      obtain ⟨rs, hrs⟩ : ∃ rs, rs = rss[i] := ⟨_, rfl⟩
      rw [← hrs] at hrecW hcellW hrlc
      rw [hmx] at hrcm
      have hcl : ∀ Z, Turn [] W Z → Z.cell? (p.add i) = some (.slice ra rs.length rc) ∧ RecsAt Z (.slice ra rs.length rc) rs := fun Z hZ =>
        ⟨by rw [World.cell?_of_block (w := W) (hZ.block _ (World.block_lt_of_cell? _ _ hcellW) (by simp)), hcellW], hrecW.still hZ⟩
      have HCL := hide hcl
      obtain ⟨hcell, hrec⟩ := hcl wr htw
      clear hcl hcellW hrecW
      by_cases h60 : 60 < (rs.length : Int)
      · have HTW := hide htw
        clear hlog hgi hrow htw hrec hrs hss hmm hrecs hokr hv1 hv2 hv3 hln
        go_wp2_with fail
        go_ret
        exact ⟨rfl, HTW.out.nil⟩
      · have hfl : (flat m.xs).length ≤ 1048576 := by
          have hp : m.abs ∈ ss0 ++ [mm] := by rw [hmm]; simp
          exact flat_short hlog.disk (hgi.ok (by simp; omega)) hp
        have hnx : nextOf m.n m.xs = ((st + wants.length : Nat) : Int) := by
          have := hgi.next
          rw [← hmm] at this
          exact this
        have hmn : m.n ≤ 1099511627776 := hgi.disk.base m.abs (by rw [hmm]; simp)
        have hadd := Add_any wr W.heap.size W.heap.size F A lb gv dirP v ms0 m hlog (by omega) hmn (by decide) hfl (by rw [hv2]; omega) hv3 (st + wants.length) (by omega) hnx
          (fun Z hZ => by
            have hT := htw.trans hZ (fun k hk => .inr (hlog.lt k hk).1)
            exact ⟨(HV.out.below hT.nil).tab, HG.out.below hT.nil⟩) (.slice ra rs.length rc) rs hrec (by omega)
        rw [hss, hmm] at hadd
        have HADD := hide hadd
        have HLOG := hide hlog
        have HGI2 := hide hgi
        have HROW := hide hrow
        have HOKR := hide hokr
        have HTW := hide htw
        have HREC := hide hrec
        have HV1 := hide hv1
        have HV2 := hide hv2
        have HV3 := hide hv3
        have HRECS := hide hrecs
        have HSS := hide hss
        have HMM := hide hmm
        clear hadd hlog hgi hrow hokr htw hrec hrs hss hmm hrecs hv1 hv2 hv3 hnx
        go_wp2_with fail
        refine HADD.out.mono ?_
        rintro e w5 ⟨rfl, hd5⟩
        by_cases hx : Bt.encErr (batOf ((st + wants.length : Nat) : Int) rs) = 0
        · obtain ⟨A', v', ss0', m', e1, e2, e3, e4, g', b', l'⟩ := HGI2.out.add (by omega) rs hx (nameP_ok _ (by omega)) (by simp; omega) (by have := (Bt.encErr_ok hx).2; have := Bt.encB_len (batOf ((st + wants.length : Nat) : Int) rs); omega) v
          have hby := (Bt.encErr_ok hx).2
          have hbl := Bt.encB_len (batOf ((st + wants.length : Nat) : Int) rs)
          have hfl6 : (flat (batsL (ss0' ++ [m']))).length ≤ 6000 * (i + 1) := by
            rw [b', Sg.flat_append, Sg.flat_one, List.length_append]
            omega
          rw [e1] at hd5 ⊢
          simp only at hd5 ⊢
          rw [show errR 0 = .nilIface from rfl, show offS 0 (st + wants.length) = (st : Int) + wants.length by unfold offS; rw [if_pos rfl]; omega]
          obtain ⟨F5, gv5, ms5, hl5, hm5, ht5, hf5⟩ := hd5
          obtain ⟨ms50, m5, rfl, hm50, hm5a⟩ := split_last hm5
          have hrow5 := HROW.out.kept ht5 (rec_kind HLOG.out HROW.out)
          have hT5 : Turn [] W w5 := HTW.out.trans ht5 (fun k hk => .inr (HLOG.out.lt k hk).1)
          have hren := renum_len ((st : Int) + wants.length) rs
          have hrec' : recsL (batsL (ss0' ++ [m'])) = wants ++ renum ((st : Int) + wants.length) rs := by
            rw [b', recsL_snoc, HRECS.out]
            show wants ++ renum (((st + wants.length : Nat)) : Int) rs = _
            rw [show (((st + wants.length : Nat)) : Int) = (st : Int) + wants.length by omega]
          have hok' : ∀ r ∈ renum ((st : Int) + wants.length) rs, RecOk r := renum_ok _ rs (fun r hr => by obtain ⟨j, hj, rfl⟩ := List.mem_iff_getElem.1 hr; exact HREC.out.ok hj) (by omega) (by omega) (by omega)
          have hg2 : GInv A' 1048576 dirP st (st + (wants ++ renum ((st : Int) + wants.length) rs).length) ss0' m' := by
            rw [List.length_append, hren, ← Nat.add_assoc]; exact g'
          have HL5 := hide hl5
          have HROW5 := hide hrow5
          have HT5 := hide hT5
          have HM5 := hide hm50
          have HM5A := hide hm5a
          have HG2 := hide hg2
          have HREC2 := hide hrec'
          have HOK2 := hide hok'
          have HE2 := hide (e2.trans HV1.out)
          have HE3 := hide (e3.trans HV2.out)
          have HE4 := hide (e4.trans HV3.out)
          have HREN := hide hren
          have c5 := (HCL.out w5 hT5).1
          clear e1 e2 e3 e4 g' b' hl5 hm5 ht5 hf5 hm50 hm5a hrow5 hT5 hren hrec' hok' hg2 HADD hby hbl hcell hx HLOG HGI2
          go_wp2_with fail
          go_loopw [12, 16] (fun wv kv wi => ∃ k : Nat, k ≤ rs.length ∧ kv = .int .i64 k ∧ GRow 37 6 recC wi W.heap.size wv (wants ++ renum ((st : Int) + wants.length) (rs.take k)) ∧ LogAt wi W.heap.size W.heap.size F5 A' lb gv5 dirP v' (ms50 ++ [m5]) ∧ Turn [] W wi) (fun _ kv _ => rs.length - (intOf kv).toNat)
          case atStart => exact ⟨0, Nat.zero_le _, rfl, by simpa [renum] using HROW5.out, HL5.out, HT5.out⟩
          case round =>
            obtain ⟨k, hk, rfl, hrowk, hlk, hTk⟩ := hrel
            obtain ⟨c0, hreck⟩ := HCL.out _ hTk
            have HROWK := hide hrowk
            have HLK := hide hlk
            have HTK := hide hTk
            obtain ⟨ka, kc, hke, -, -⟩ := hrowk.form
            subst hke
            by_cases hkl : k < rs.length
            · obtain ⟨p2, rfl⟩ : ∃ p2, ra = some p2 := by
                obtain ⟨a', c', e, -, -, -, h4⟩ := hreck
                simp only [Value.slice.injEq] at e
                obtain ⟨-, p', hp, -⟩ := h4 k hkl
                exact ⟨p', e.1.trans hp⟩
              obtain ⟨g0, g1, g2, g3, g4, g5⟩ := hreck.six hkl
              obtain ⟨r, hr⟩ : ∃ r, r = rs[k] := ⟨_, rfl⟩
              have hsn := renum_snoc ((st : Int) + wants.length) rs hkl
              rw [← hr] at g0 g1 g2 g3 g4 g5 hsn
              have HSN := hide hsn
              have hw7 : Turn [] wr ((wr.alloc (.cells #[.int .i64 ((st : Int) + wants.length + k), .int .i64 r.time, .bool r.keyed, .string ⟨r.key.toArray⟩, .bool r.gone, .string ⟨r.value.toArray⟩] 37)).alloc (.cells #[.int .i64 ((st : Int) + wants.length + k), .int .i64 r.time, .bool r.keyed, .string ⟨r.key.toArray⟩, .bool r.gone, .string ⟨r.value.toArray⟩] 37)) := ((Turn.refl [] wr).alloc _).alloc _
              have hk7 : ((wr.alloc (.cells #[.int .i64 ((st : Int) + wants.length + k), .int .i64 r.time, .bool r.keyed, .string ⟨r.key.toArray⟩, .bool r.gone, .string ⟨r.value.toArray⟩] 37)).alloc (.cells #[.int .i64 ((st : Int) + wants.length + k), .int .i64 r.time, .bool r.keyed, .string ⟨r.key.toArray⟩, .bool r.gone, .string ⟨r.value.toArray⟩] 37)).heap[wr.heap.size + 1]? = some (.cells (recC ⟨(st : Int) + wants.length + k, r.time, r.keyed, r.key, r.gone, r.value⟩).toArray 37 (0, 0)) := by
                have := heap_new (wr.alloc (.cells #[.int .i64 ((st : Int) + wants.length + k), .int .i64 r.time, .bool r.keyed, .string ⟨r.key.toArray⟩, .bool r.gone, .string ⟨r.value.toArray⟩] 37)) (.cells #[.int .i64 ((st : Int) + wants.length + k), .int .i64 r.time, .bool r.keyed, .string ⟨r.key.toArray⟩, .bool r.gone, .string ⟨r.value.toArray⟩] 37)
                rwa [World.size_alloc] at this
              have hlk2 : (wants ++ renum ((st : Int) + wants.length) (rs.take k)).length ≤ 1000000 := by rw [List.length_append, renum_len, List.length_take]; omega
              obtain ⟨v7, w7, hr7, hrow7, ht7, -⟩ := run_append_rec _ W.heap.size (.slice ka (wants ++ renum ((st : Int) + wants.length) (rs.take k)).length kc) (wants ++ renum ((st : Int) + wants.length) (rs.take k)) ⟨(st : Int) + wants.length + k, r.time, r.keyed, r.key, r.gone, r.value⟩ (wr.heap.size + 1) (HROWK.out.still hw7) hk7 hlk2 (by have := (HTK.out.same hw7).size; exact this)
              have hlk7 := (HLK.out.still hw7).kept ht7 (fun j hj hm => rec_kind (HLK.out.still hw7) (HROWK.out.still hw7) j (by simpa using hm) hj)
              have HT7 := hide ((HTK.out.same hw7).trans ht7 (fun j hj => .inr (HROWK.out.lt j (by simpa using hj)).1))
              have hrow7' : GRow 37 6 recC w7 W.heap.size v7 (wants ++ renum ((st : Int) + wants.length) (rs.take (k + 1))) := by
                rw [hsn, ← List.append_assoc]; exact hrow7
              have HROW7 := hide hrow7'
              have HL7 := hide hlk7
              have HR7 := hide hr7
              clear hr hsn hw7 hk7 hlk2 hr7 hrow7 hrow7' ht7 hlk7 hreck hrowk hlk hTk
              go_wp2_with (at_builtin; go_must (refine wpList_append_told rfl rfl rfl rfl HR7.out ?_))
              all_goals refine ⟨⟨k + 1, by omega, by go_num, HROW7.out, HL7.out, HT7.out⟩, ?_⟩
              all_goals (simp only [intOf]; omega)
            · obtain rfl : k = rs.length := by omega
              rw [List.take_length] at HROWK ⊢
              have hgs5 : GSt W wr W.heap.size lb (100 + q) st (i + 1) (.slice ka (wants ++ renum ((st : Int) + wants.length) rs).length kc) (wants ++ renum ((st : Int) + wants.length) rs) :=
                ⟨⟨F5, gv5, v', ms50, m5, A', ss0', m', HLK.out, ⟨HM5.out, HM5A.out⟩, HG2.out, ⟨HE2.out, HE3.out, HE4.out⟩, HREC2.out, by omega, hfl6⟩, HROWK.out, by rw [List.length_append, HREN.out]; omega, fun r hr => (List.mem_append.1 hr).elim (HOKR.out r) (HOK2.out r), HTK.out⟩
              have HGS5 := hide hgs5
              clear hgs5 hrowk hlk hTk hreck
              go_wp2
              all_goals refine ⟨⟨i + 1, _, by omega, by go_num, HGS5.out⟩, ?_⟩
              all_goals (simp only [intOf]; omega)
        · rw [add_none rs hx v] at hd5 ⊢
          have hr0 : errR (Bt.encErr (batOf ((st + wants.length : Nat) : Int) rs)) = .iface 62 (.int .i64 (Bt.encErr (batOf ((st + wants.length : Nat) : Int) rs))) := by unfold errR; rw [if_neg hx]; rfl
          have ho : offS (Bt.encErr (batOf ((st + wants.length : Nat) : Int) rs)) (st + wants.length) = 0 := by unfold offS; rw [if_neg hx]
          simp only
          rw [hr0, ho]
          obtain ⟨F5, gv5, ms5, hl5, hm5, ht5, hf5⟩ := hd5
          simp only at hl5 hm5
          obtain ⟨ms50, m5, rfl, hm50, hm5a⟩ := split_last hm5
          have hrow5 := HROW.out.kept ht5 (rec_kind HLOG.out HROW.out)
          have hgs5 : GSt W w5 W.heap.size lb (100 + q) st (i + 1) (.slice wa wants.length wc) wants :=
            ⟨⟨F5, gv5, v, ms50, m5, A, ss0, mm, hl5, ⟨hm50, hm5a⟩, HGI2.out, ⟨HV1.out, HV2.out, HV3.out⟩, HRECS.out, by omega, by omega⟩, hrow5, by omega, HOKR.out, HTW.out.trans ht5 (fun k hk => .inr (HLOG.out.lt k hk).1)⟩
          have HGS5 := hide hgs5
          clear hr0 ho hl5 hm5 ht5 hf5 hm50 hm5a hrow5 hgs5 hx HADD
          go_wp2
          all_goals refine ⟨⟨i + 1, wants, by omega, by go_num, HGS5.out⟩, ?_⟩
          all_goals (simp only [intOf]; omega)
    · obtain rfl : i = rss.length := by omega
      have hal := hgi.ok (by simp; omega)
      have hch := hgi.chain
      have hge := recs_ge hch
      have hsi : sinceL v.start (batsL (ss0 ++ [mm])) = wants := by
        rw [hv1, sinceL_recs, hrecs]
        exact fromL_all (fun r hr => hge r (by rw [hrecs]; exact hr))
      have hnx : nextOf m.n m.xs = (st : Int) + wants.length := by
        have := hgi.next
        rw [← hmm] at this
        have e : nextOf m.abs.1 m.abs.2 = nextOf m.n m.xs := rfl
        rw [← e, this]
        omega
      have hfl : (flat m.xs).length ≤ 1048576 := by
        have hp : m.abs ∈ ss0 ++ [mm] := by rw [hmm]; simp
        exact flat_short hlog.disk hal hp
      have hfl2 := Sg.flat_len m.xs
      have hab : (ms0 ++ [m]).map SM.abs = ss0 ++ [mm] := by rw [List.map_append, List.map_singleton, hss, hmm]
      have hall := fun (pp : Nat) (hpp : pp < 3000) => all_any wr W.heap.size W.heap.size F A lb gv dirP v ms0 m hlog (by decide) (by rw [hab]; exact hal) (pp : Int) (by omega) (st : Int) (by rw [hab]; exact hch) (by rw [hab, hnx]; intro x hx; have := hgi.fins x hx; omega) (by rw [hnx, hv1]; omega) (by rw [hv1]; omega) (by rw [hnx]; omega) (by rw [hab, hsi]; omega)
      rw [hab, hsi] at hall
      have hend := fun (Z : World) (hZ : Turn [] wr Z) => end_any Z W.heap.size W.heap.size F A lb gv dirP v ms0 m (hlog.still hZ) (by omega) (by omega)
      rw [hnx] at hend
      have hsta := fun (Z : World) (hZ : Turn [] wr Z) => start_any Z W.heap.size W.heap.size F A lb gv dirP v _ (hlog.still hZ)
      rw [hv1] at hsta
      have HALL := hide hall
      have HEND := hide hend
      have HSTA := hide hsta
      have HROW := hide hrow
      have HOKR := hide hokr
      have HTW := hide htw
      clear hal hch hge hsi hnx hfl hfl2 hab hall hend hsta hlog hgi hrow hokr htw hss hmm hrecs hv1 hv2 hv3 hln
      go_wp2_with fail
      refine (pickN_any u 3000 (by omega) (by omega) wr).mono ?_
      rintro e w5 ⟨⟨pp, hpp, rfl⟩, rfl⟩
      go_wp2_with fail
      refine (HALL.out pp hpp).mono ?_
      rintro e w5 ⟨ov, rfl, hov, ht5⟩
      obtain ⟨oa, oc, hoe, -, -⟩ := hov.form
      subst hoe
      have HOV := hide hov
      have HT5 := hide ht5
      clear hov ht5 HALL
      go_wp2_with fail
      refine (same_any _ _ _ wants (RecRow.recs (base := wr.heap.size) HOV.out HOKR.out) (RecRow.recs (base := W.heap.size) (HROW.out.still HT5.out) HOKR.out)).mono ?_
      rintro e w6 ⟨rfl, ht6⟩
      have HT6 := hide (HT5.out.same ht6)
      clear ht6
      go_wp2_with fail
      refine (HEND.out w6 HT6.out).mono ?_
      rintro e w7 ⟨rfl, ht7⟩
      have HT7 := hide (HT6.out.same ht7)
      clear ht7
      go_wp2_with fail
      refine (HSTA.out w7 HT7.out).mono ?_
      rintro e w8 ⟨rfl, rfl⟩
      have hT := HTW.out.same HT7.out
      go_wp2
      go_ret
      exact ⟨rfl, hT.nil⟩
end Go.Proofs.YtmdmdbobbepogaaGreatDoor.Lg

/- What a row's listed variables give the walks: strconv's table and sentinels, errors.errorType, whatever else is listed, in whatever order. -/
namespace Go.Proofs.YtmdmdbobbepogaaGreatDoor.Lv
open Go.RowKit
set_option maxRecDepth 100000
set_option linter.unusedSimpArgs false
set_option linter.unusedVariables false
theorem gTab : Tryz.prog.globalNamed "internal/strconv.uint64pow10" = some ((Tryz.prog.globalNamed "internal/strconv.uint64pow10").getD 0) := by kernel_rfl
theorem gTabT : (Tryz.prog.globals[(Tryz.prog.globalNamed "internal/strconv.uint64pow10").getD 0]?).map (·.type) = some 270 := by kernel_rfl
theorem cTab : Tryz.prog.cellsOf 270 = 20 := by kernel_rfl
theorem cU64 : Tryz.prog.cellsOf 206 = 1 := by kernel_rfl
theorem gRng : Tryz.prog.globalNamed "strconv.ErrRange" = some ((Tryz.prog.globalNamed "strconv.ErrRange").getD 0) := by kernel_rfl
theorem gRngT : (Tryz.prog.globals[(Tryz.prog.globalNamed "strconv.ErrRange").getD 0]?).map (·.type) = some 25 := by kernel_rfl
theorem gSyn : Tryz.prog.globalNamed "strconv.ErrSyntax" = some ((Tryz.prog.globalNamed "strconv.ErrSyntax").getD 0) := by kernel_rfl
theorem gSynT : (Tryz.prog.globals[(Tryz.prog.globalNamed "strconv.ErrSyntax").getD 0]?).map (·.type) = some 25 := by kernel_rfl
theorem starES : "*" ++ "errors.errorString" = "*errors.errorString" := by decide
theorem rowES (u : TypeId) (h : Tryz.prog.typeName? 3 u = some "*errors.errorString") : u = 262 :=
  typeName_ptr_named (nm := "errors.errorString") (by rw [starES]; kernel_rfl) (by kernel_rfl) (by decide) u (by rw [starES]; exact h)
theorem cES : Tryz.prog.cellsOf 264 = 1 := by kernel_rfl
theorem cStr : Tryz.prog.cellsOf 9 = 1 := by kernel_rfl
theorem tabEq : (Rows.laid_internal_strconv_uint64pow10 : DataW Unit) = Lib.tabData .u64 Lib.pow10Tab := by kernel_rfl

theorem et : Tryz.prog.globalNamed "errors.errorType" = some 0 := by kernel_rfl
theorem rt : (Tryz.prog.cutTypes.find? (·.1 == "internal/reflectlite.rtype")).map (·.2) = some 180 := by kernel_rfl
theorem oneRow : ((List.range Tryz.prog.types.size).filter fun t => Tryz.prog.rowNamed t [101, 114, 114, 111, 114]) = [25] := by kernel_rfl
def BothT (W : World) : Prop := Sn.VarT W ∧ As.ErrT W
/-- One variable of the list. -/
def only (n : String) (l : List (String × DataW Unit)) : List (String × DataW Unit) := l.filter (fun x => x.1 == n)
theorem vars_of {l : List (String × DataW Unit)} (hs : only "strconv.ErrSyntax" l = [("strconv.ErrSyntax", Rows.laid_strconv_ErrSyntax)]) (hr : only "strconv.ErrRange" l = [("strconv.ErrRange", Rows.laid_strconv_ErrRange)])
    (ht : only "internal/strconv.uint64pow10" l = [("internal/strconv.uint64pow10", Rows.laid_internal_strconv_uint64pow10)]) (he : only "errors.errorType" l = [("errors.errorType", Rows.laid_errors_errorType)]) {W : World} (h0 : laidMetH Tryz.prog l W) : BothT W := by
  have h1 : laidMetH Tryz.prog (only "strconv.ErrSyntax" l) W := laidMetH.filter _ h0
  have h2 : laidMetH Tryz.prog (only "strconv.ErrRange" l) W := laidMetH.filter _ h0
  have h3 : laidMetH Tryz.prog (only "internal/strconv.uint64pow10" l) W := laidMetH.filter _ h0
  have h4 : laidMetH Tryz.prog (only "errors.errorType" l) W := laidMetH.filter _ h0
  rw [hs, MakeChecks.laidMetH_plain _ _ _ (by kernel_rfl)] at h1
  rw [hr, MakeChecks.laidMetH_plain _ _ _ (by kernel_rfl)] at h2
  rw [ht, MakeChecks.laidMetH_plain _ _ _ (by kernel_rfl), tabEq] at h3
  rw [he] at h4
  have h5 : laidMet Tryz.prog [] W ∧ handlesMet Tryz.prog [("errors.errorType", Rows.laid_errors_errorType)] W := h4
  obtain ⟨a, s, e, -⟩ := laid_sentinel h2 gRng gRngT Tryz.underlying25 rowES Tryz.underlying262 Tryz.underlying264 rfl rfl Tryz.underlying9 cES cStr
  obtain ⟨a', s', e', -⟩ := laid_sentinel h1 gSyn gSynT Tryz.underlying25 rowES Tryz.underlying262 Tryz.underlying264 rfl rfl Tryz.underlying9 cES cStr
  obtain ⟨name, u, ty, e1, e2, e3, e4, e5⟩ := h5.2 _ (List.mem_singleton.2 rfl)
  have en : name = [101, 114, 114, 111, 114] := (Option.some.inj e1).symm
  subst en
  obtain rfl := Option.some.inj (rt.symm.trans e2)
  have hm : ty ∈ (List.range Tryz.prog.types.size).filter fun t => Tryz.prog.rowNamed t [101, 114, 114, 111, 114] := List.mem_filter.2 ⟨List.mem_range.2 e3, e4⟩
  rw [oneRow] at hm
  obtain rfl := List.mem_singleton.1 hm
  have hd : typeHandle Tryz.prog 25 = .pointer (some ⟨7, 25, none⟩) := by kernel_rfl
  rw [hd] at e5
  exact ⟨⟨Lib.tabIs_of_head gTab gTabT Tryz.underlying270 Tryz.underlying206 cU64 cTab h3, ⟨_, _, e'⟩, ⟨_, _, e⟩⟩, by simpa [As.ErrT] using World.var?_cell et e5 0⟩
end Go.Proofs.YtmdmdbobbepogaaGreatDoor.Lv
