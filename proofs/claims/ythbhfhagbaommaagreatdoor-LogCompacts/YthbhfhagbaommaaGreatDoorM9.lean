/- Iter, Names, Round, Crash, List, Sort0, Lgn, Cpn, Cpp, AppI, Lgz: texts merged. -/
import Derived.Test.YthbhfhagbaommaaGreatDoorM8
import Derived.RangeFuncNested
import Derived.RangeFuncBound
import Derived.RangeFuncCalls
import Derived.RangeFuncLeaves
import Derived.Shelf.Abstract
import Derived.Shelf.RegionOpen
import Derived.OwnWalkIn
import Derived.TacticsInMore
import Derived.LoopNIn
import Derived.LoopIn
import Derived.Test.YthbhfhagbaommaaGreatDoorM1
import Derived.Test.YthbhfhagbaommaaGreatDoorM2
import Derived.Deep.QuietTactic
import Derived.BigQuiet
import Derived.OrdersIn
import Derived.Maps.OwnIn
import Derived.Maps.AppendAt
import Derived.Test.YthbhfhagbaommaaGreatDoorProg
import Derived.Test.YthbhfhagbaommaaGreatDoorM7
import Derived.Test.YthbhfhagbaommaaGreatDoorM5
import Derived.Test.YthbhfhagbaommaaGreatDoorM6
/- The library's contracts on the sorted keys of a map, at this program. -/
namespace Go.Proofs
open Go.RowKit Go.Maps Go.Sort Go.Shelf


theorem Tryz.sorts94 (m : Nat) : AnyZ.SortsIn Tryz.prog Tryz.sorted94_ren Fence.wide m :=
  ⟨fun blk off cap ss W hH hblk hsz => callsIn_wide.2 (AnyM.slices_Sort_string Tryz.sort125 blk off cap ss W hH hblk hsz),
   fun p cap W => callsIn_wide.2 (AnyM.slices_Sort_string_none Tryz.sort125 p cap W)⟩

theorem Tryz.maps_Keys_95 (mb : Option Nat) (W : World) : CallsIn Fence.wide 5 Tryz.prog 95 #[.map mb] W fun e w' => e = .returned (.func (.func 126) #[] #[.pointer (some ⟨W.heap.size, 0, none⟩)]) ∧ w' = W.alloc (.cells #[.map mb] 57) :=
  AnyZ.keys_in Tryz.keys95 Fence.wide 5 trivial rfl mb W

set_option maxHeartbeats 1000000 in
theorem Tryz.slices_Sorted_keys_94_95 {H : Type} (b nn : Nat) (D0 : DataW H) (R : Value → Option (DataW H × List MemPlace)) (w : World) (hown : w.ownsMap Tryz.prog 9 R b nn D0) (hmax : Maps.size D0 ≤ maxLen) (hbytes : Maps.size D0 * 16 ≤ 140737488355328) :
    CallsIn Fence.wide 5 Tryz.prog 94 #[.func (.func 126) #[] #[.pointer (some ⟨w.heap.size, 0, none⟩)]] (w.alloc (.cells #[.map (some b)] 57)) fun e w' => ∃ (v : Value) (ss : List (List UInt8)), e = .returned v ∧ ss.Perm (strKeys D0) ∧
      w'.ownsRow (w.alloc (.cells #[.map (some b)] 57)).heap.size 9 1 v ss.length ((ss.mergeSort (fun x y => decide (x ≤ y))).map encStr) ∧ (v = .slice none 0 0 ↔ ss = []) ∧ Below (w.alloc (.cells #[.map (some b)] 57)).heap.size (w.alloc (.cells #[.map (some b)] 57)) w' := by
  have hbl := hown.lt
  have hseq : SeqGives Fence.wide 2 Tryz.prog 126 #[.pointer (some ⟨w.heap.size, 0, none⟩)] encStr (fun ss => ss.Perm (strKeys D0)) (Maps.size D0) (w.alloc (.cells #[.map (some b)] 57)) :=
    AnyZ.keys_gives (ρ := Tryz.keys95_ren) { Tryz.keys95 with } Fence.wide _ trivial rfl (by omega) w.heap.size b nn D0 _ (by simp) (by simp) (by
      obtain ⟨es, clock, hb, Ft, hs, hD⟩ := hown
      exact ⟨es, clock, (Below.heap_alloc _ _ b hbl).trans hb, Ft, hs, hD⟩)
  exact AnyZ.sorted_in Tryz.sorted94 Fence.wide 5 trivial trivial trivial trivial rfl (by omega) (Tryz.sorts94 _) (enters_of Tryz.func125 (by kernel_rfl) rfl) 126 #[.pointer (some ⟨w.heap.size, 0, none⟩)] trivial (enters_of Tryz.func126 (by kernel_rfl) rfl) _ _ hmax hbytes _ hseq

set_option maxHeartbeats 1000000 in
theorem Tryz.slices_Sorted_keys_nil_94_95 (w : World) :
    CallsIn Fence.wide 5 Tryz.prog 94 #[.func (.func 126) #[] #[.pointer (some ⟨w.heap.size, 0, none⟩)]] (w.alloc (.cells #[.map none] 57)) fun e w' => ∃ (v : Value) (ss : List (List UInt8)), e = .returned v ∧ ss = [] ∧
      w'.ownsRow (w.alloc (.cells #[.map none] 57)).heap.size 9 1 v ss.length ((ss.mergeSort (fun x y => decide (x ≤ y))).map encStr) ∧ (v = .slice none 0 0 ↔ ss = []) ∧ Below (w.alloc (.cells #[.map none] 57)).heap.size (w.alloc (.cells #[.map none] 57)) w' := by
  have hseq : SeqGives Fence.wide 2 Tryz.prog 126 #[.pointer (some ⟨w.heap.size, 0, none⟩)] encStr (fun ss : List (List UInt8) => ss = []) 0 (w.alloc (.cells #[.map none] 57)) :=
    AnyZ.keys_gives_nil (ρ := Tryz.keys95_ren) { Tryz.keys95 with } Fence.wide _ trivial rfl w.heap.size _ (by simp) (by simp)
  exact AnyZ.sorted_in Tryz.sorted94 Fence.wide 5 trivial trivial trivial trivial rfl (by omega) (Tryz.sorts94 _) (enters_of Tryz.func125 (by kernel_rfl) rfl) 126 #[.pointer (some ⟨w.heap.size, 0, none⟩)] trivial (enters_of Tryz.func126 (by kernel_rfl) rfl) _ 0 (Nat.zero_le _) (by omega) _ hseq



end Go.Proofs

/- The names of a disk's files, in order, handed out one by one. -/
namespace Go.Proofs.YthbhfhagbaommaaGreatDoor.Dk
open Go.RowKit Go.Maps Go.Shelf Go.Sort
set_option linter.unusedSimpArgs false
set_option linter.unusedVariables false
attribute [local go_sem] Oper.semAt_some

def preB (p s : ByteArray) : Bool := p.data.toList.isPrefixOf s.data.toList

theorem preB_short {p s : ByteArray} (h : s.size < p.size) : preB p s = false := by
  unfold preB
  rw [Bool.eq_false_iff]
  intro e
  have := (List.isPrefixOf_iff_prefix.1 e).length_le
  rw [← Lib.size_eq, ← Lib.size_eq] at this
  omega
theorem preB_extract {p s : ByteArray} (_h : p.size ≤ s.size) : ((s.extract 0 p.size).toList == p.toList) = preB p s := by
  unfold preB
  rw [Bool.eq_iff_iff, List.isPrefixOf_iff_prefix, beq_iff_eq, List.prefix_iff_eq_take, Lib.toList_data, Lib.toList_data, Lib.extract_data, ← Lib.size_eq]
  simp
  exact eq_comm

set_option maxHeartbeats 400000 in
theorem hasPrefix_any (s p : ByteArray) (hs : s.size ≤ maxLen) (hp : p.size ≤ maxLen) (w : World) :
    Calls Tryz.prog 97 #[.string s, .string p] w fun e w' => e = .returned (.bool (preB p s)) ∧ w = w' := by
  unfold maxLen at hs hp
  by_cases h : p.size ≤ s.size
  · have HE : Hid (((s.extract 0 p.size).toList == p.toList) = preB p s) := preB_extract h
    go_enter Tryz.func97, Tryz.ntmps97
    go_wp2
    go_ret
    exact ⟨ret_bool HE.out, rfl⟩
  · have HE : Hid (preB p s = false) := preB_short (by omega)
    go_enter Tryz.func97, Tryz.ntmps97
    go_wp2
    go_ret
    exact ⟨ret_bool HE.out.symm, rfl⟩

/-- The names that begin so, in order. -/
def sortedN (A : DA) : List (List UInt8) := (A.files.map (·.name)).mergeSort leB
def preL (bg : List UInt8) (nm : List UInt8) : Bool := bg.isPrefixOf nm
def namesOf (A : DA) (bg : List UInt8) : List (List UInt8) := (sortedN A).filter (preL bg)

/-- A name of one of a disk's files. -/
abbrev NameIn (A : DA) : Type := { x : List UInt8 // x ∈ sortedN A }
def namesAt (A : DA) (bg : List UInt8) : List (NameIn A) := (sortedN A).attach.filter (fun x => preL bg x.1)
theorem namesAt_val (A : DA) (bg : List UInt8) : (namesAt A bg).map (·.1) = namesOf A bg := by
  unfold namesAt namesOf
  conv => rhs; rw [← List.attach_map_subtype_val (sortedN A)]
  rw [List.filter_map]
  rfl

theorem names_in (d : Nat) (s : ByteArray) (w : World) :
    CallsIn Fence.wide 5 Tryz.prog 64 #[.pointer (some ⟨d, 0, none⟩), .string s] w fun e w' =>
      e = .returned (.func (.func 93) #[] #[.pointer (some ⟨w.heap.size, 0, none⟩), .pointer (some ⟨w.heap.size + 1, 0, none⟩)]) ∧
      w' = (w.alloc (.cells #[.pointer (some ⟨d, 0, none⟩)] 24)).alloc (.cells #[.string s] 9) := by
  refine callsIn_wide.2 ?_
  have hmf : ∀ (fn : Fn) (first cap : Array Value) (w : World), (Instr.makeFunc fn first cap).run Tryz.prog w = .ok (.func fn first cap) w := fun _ _ _ _ => rfl
  go_enter Tryz.func64, Tryz.ntmps64
  go_wp2
  go_ret
  exact ⟨rfl, rfl⟩

/-- What a round of a loop over the names keeps: all cells but those of a list of blocks. -/
structure KpT (T : List Nat) (W W' : World) : Prop where
  size : W.heap.size ≤ W'.heap.size
  cells : ∀ k cs t fr, W.heap[k]? = some (.cells cs t fr) → k ∉ T → W'.heap[k]? = some (.cells cs t fr)
theorem KpT.refl (T : List Nat) (W : World) : KpT T W W := ⟨Nat.le_refl _, fun _ _ _ _ h _ => h⟩
theorem kpT_t {T : List Nat} {A B C : World} (h : KpT T A B) (k : KpT T B C) : KpT T A C := ⟨Nat.le_trans h.size k.size, fun i cs t fr hi hn => k.cells i cs t fr (h.cells i cs t fr hi hn) hn⟩
theorem kpT_b {T : List Nat} {w : World} (W : World) (l : Nat) (o o' : Obj) (_ : w.heap.size ≤ l) (h : W.heap[l]? = some o) (ho : o.isCells = false) (_ : o.isWalk = false) : KpT T W (W.putObj l o') := by
  refine ⟨by simp, fun k cs t fr hk _ => ?_⟩
  have hne : k ≠ l := by
    intro e; subst e; rw [h] at hk; cases hk; cases ho
  rw [World.putObj_heap_other hne]; exact hk
theorem KpT.of_turn {T S : List Nat} {W W' : World} (h : Turn S W W') (hs : ∀ k ∈ S, k ∈ T ∨ W.heap.size ≤ k) : KpT T W W' := by
  refine ⟨h.size, fun k cs t fr hk hn => ?_⟩
  refine h.heap hk (fun e => ?_)
  rcases hs k e with h1 | h1
  · exact hn h1
  · have := lt_of_heap hk; omega

section
variable {w w' : World} {base d : Nat} {F : List Nat} {A A' : DA} {mref : Option Nat} {ms : List FileM}
theorem perm_names {D : DataW Unit} {mb n : Nat} (hown : w.ownsMap Tryz.prog 9 ptrR mb n D) (hr : Reads D ms) (hn : (ms.map (·.abs.name)).Nodup) : (ms.map (·.abs.name)).Perm (strKeys D) := by
  have hc : Collected D (fun _ => false) (ms.map (·.abs.name)) := by
    refine ⟨hn, fun x => ?_⟩
    rw [has_of_reads hr]
    unfold findM
    rw [List.find?_isSome]
    simp only [List.mem_map, beq_iff_eq, and_true]
  exact hc.perm hown law Tryz.underlying9 (fun _ => rfl)

/-- A row of texts in a block of its own. -/
def RowS (w : World) (B : Nat) (va : Option Addr) (L : List (List UInt8)) : Prop :=
  L = [] ∨ ∃ g cur, va = some ⟨g, 0, none⟩ ∧ B ≤ g ∧ w.heap[g]? = some (.cells cur 9 (0, 0)) ∧ ∀ (j : Nat) (x : List UInt8), L[j]? = some x → cur[j]? = some (encStr x)
theorem rowS_of {B : Nat} {v : Value} {L : List (List UInt8)} (h : w.ownsRow B 9 1 v L.length (L.map encStr)) : ∃ va vc, v = .slice va L.length vc ∧ RowS w B va L := by
  rcases h.2 with ⟨rfl, h0⟩ | ⟨g, cap, cur, rfl, hb, hg, _, _, _, ht⟩
  · exact ⟨none, 0, by rw [h0], .inl (List.eq_nil_of_length_eq_zero h0)⟩
  · refine ⟨_, _, rfl, .inr ⟨g, cur, rfl, hb, hg, fun j x hx => ?_⟩⟩
    have hj := (List.getElem?_eq_some_iff.1 hx).1
    have : (L.map encStr)[j]? = some (encStr x) := by rw [List.getElem?_map, hx]; rfl
    rw [← ht, List.getElem?_take_of_lt (by omega)] at this
    simpa using this

/-- maps.Keys and slices.Sorted, of a disk's map: a new row with the names in order. -/
theorem sorted_row (h : Parts w base d F A mref ms) :
    CallsIn Fence.wide 5 Tryz.prog 94 #[.func (.func 126) #[] #[.pointer (some ⟨w.heap.size, 0, none⟩)]] (w.alloc (.cells #[.map mref] 57)) fun e w' => ∃ va vc, e = .returned (.slice va (sortedN A).length vc) ∧
      RowS w' (w.heap.size + 1) va (sortedN A) ∧ Below (w.heap.size + 1) (w.alloc (.cells #[.map mref] 57)) w' := by
  have hfil := h.files
  have hnam := h.names
  have hcnt := h.good.count
  have hm := h.map
  have hnl : A.files.map (·.name) = ms.map (·.abs.name) := by rw [hfil, List.map_map]; rfl
  cases mref with
  | none =>
    have hms : ms = [] := hm
    have hs0 : sortedN A = [] := by unfold sortedN; rw [hnl, hms]; simp
    refine (Tryz.slices_Sorted_keys_nil_94_95 w).mono ?_
    rintro e w' ⟨v, ss, rfl, rfl, hrow, hnil, hb⟩
    simp only [World.size_alloc] at hrow hb
    rw [show ([] : List (List UInt8)).length = (sortedN A).length by rw [hs0], show (([] : List (List UInt8)).mergeSort fun x y => decide (x ≤ y)) = sortedN A by rw [hs0]; simp] at hrow
    obtain ⟨va, vc, rfl, hr⟩ := rowS_of hrow
    exact ⟨va, vc, rfl, hr, hb⟩
  | some mb =>
    obtain ⟨D, hown, hrd⟩ := hm
    have hmsl : ms.length ≤ 200 := by rw [hfil, List.length_map] at hcnt; exact hcnt
    refine (Tryz.slices_Sorted_keys_94_95 mb ms.length D ptrR w hown (by rw [hrd.1]; simp only [maxLen]; omega) (by rw [hrd.1]; omega)).mono ?_
    rintro e w' ⟨v, ss, rfl, hp, hrow, hnil, hb⟩
    simp only [World.size_alloc] at hrow hb
    have hp2 : ss.Perm (A.files.map (·.name)) := by rw [hnl]; exact hp.trans (perm_names hown hrd hnam).symm
    have hs0 : ss.mergeSort leB = sortedN A := mergeSort_of_perm hp2
    have hl : ss.length = (sortedN A).length := by rw [← hs0]; simp
    have hrow2 : w'.ownsRow (w.heap.size + 1) 9 1 v (sortedN A).length ((sortedN A).map encStr) := by rw [← hl, ← hs0]; exact hrow
    obtain ⟨va, vc, rfl, hr⟩ := rowS_of hrow2
    exact ⟨va, vc, rfl, hr, hb⟩

theorem sortedN_short (h : Good A) : ∀ x ∈ sortedN A, x.length ≤ 40 := by
  intro x hx
  unfold sortedN at hx
  rw [List.mem_mergeSort] at hx
  obtain ⟨f, hf, rfl⟩ := List.mem_map.1 hx
  exact h.short f hf
theorem sortedN_len (A : DA) : (sortedN A).length = A.files.length := by simp [sortedN]
theorem filter_take_succ {α : Type} (p : α → Bool) (L : List α) (k : Nat) (h : k < L.length) : (L.take (k + 1)).filter p = (L.take k).filter p ++ (if p L[k] then [L[k]] else []) := by
  rw [List.take_succ_eq_append_getElem h, List.filter_append]
  congr 1
  simp [List.filter_cons]
theorem encStr_size (x : List UInt8) : (⟨x.toArray⟩ : ByteArray).size = x.length := by simp [ByteArray.size]

theorem all_any (h : Parts w base d F A mref ms) :
    Calls Tryz.prog 96 #[.pointer (some ⟨d, 0, none⟩)] w fun e w' => e = .returned (.map mref) ∧ w = w' := by
  have c1 := h.c1
  clear h
  go_enter Tryz.func96, Tryz.ntmps96
  go_wp2
  go_ret
  exact ⟨rfl, rfl⟩

set_option maxRecDepth 100000 in
set_option maxHeartbeats 2000000 in
theorem iter_stopsK (h : Parts w base d F A mref ms) (s : ByteArray) (hs : s.size ≤ maxLen) (B1 B2 : Nat) (hB1 : w.heap[B1]? = some (.cells #[.pointer (some ⟨d, 0, none⟩)] 24 (0, 0))) (hB2 : w.heap[B2]? = some (.cells #[.string s] 9 (0, 0)))
    (Kp : World → World → Prop) (hKr : ∀ W, Kp W W) (hKt : ∀ {A B C : World}, Kp A B → Kp B C → Kp A C)
    (hKc : ∀ (W0 W W' : World) (k : Nat) (cs : Array Value) (t : TypeId) (fr : Nat × Nat), Below w.heap.size w W0 → Below W0.heap.size W0 W → (k = B2 ∨ W0.heap.size < k) → Kp W W' → W.heap[k]? = some (.cells cs t fr) → W'.heap[k]? = some (.cells cs t fr)) :
    SeqStopsK Fence.wide 6 Tryz.prog 93 #[.pointer (some ⟨B1, 0, none⟩), .pointer (some ⟨B2, 0, none⟩)] (fun x : NameIn A => #[encStr x.1]) Kp
      (fun xs => xs = namesAt A s.data.toList) (fun pre => pre <+: namesAt A s.data.toList) (namesAt A s.data.toList).length w := fun l J Jx W hW hJ hJx hY h0 => by
  have hP : Parts W base d F A mref ms := h.kept (Turn.of_below hW []) (by simp)
  have hP1 : Parts (W.alloc (.cells #[.map mref] 57)) base d F A mref ms := hP.kept ((Turn.refl [] _).alloc _) (by simp)
  have c1 := hP.c1
  have hb1 : W.cell? ⟨B1, 0, none⟩ = some (.pointer (some ⟨d, 0, none⟩)) := by rw [hW.cell (p := ⟨B1, 0, none⟩) (lt_of_heap hB1), cell_of hB1]; rfl
  have hrow0 := sorted_row hP
  have HR : Hid (CallsIn Fence.wide 5 Tryz.prog 94 #[.func (.func 126) #[] #[.pointer (some ⟨W.heap.size, 0, none⟩)]] (W.alloc (.cells #[.map mref] 57)) fun e w' => ∃ va vc, e = .returned (.slice va (sortedN A).length vc) ∧
      RowS w' (W.heap.size + 1) va (sortedN A) ∧ Below (W.heap.size + 1) (W.alloc (.cells #[.map mref] 57)) w') := hrow0
  have hsz := hW.size
  have f1 : Fence.wide.fn 96 := trivial
  have f2 : Fence.wide.fn 95 := trivial
  have f3 : Fence.wide.fn 94 := trivial
  have f4 : Fence.wide.fn 97 := trivial
  have HG : Hid (Good A) := hP.good
  have HA : Hid (Calls Tryz.prog 96 #[.pointer (some ⟨d, 0, none⟩)] W fun e w' => e = .returned (.map mref) ∧ W = w') := all_any hP
  clear hP hP1 hrow0 h
  refine callsIn_of_wp Tryz.func93 rfl trivial ?_ rfl
  simp only [Tryz.ntmps93, List.size_toArray, List.length_cons, List.length_nil, Nat.reduceAdd, Nat.reduceSub, Array.replicate_succ, Array.replicate_zero, List.push_toArray, List.append_toArray, List.nil_append, List.cons_append]
  gi_wp2_with (first
    | (gi_at_call 95; refine (Tryz.maps_Keys_95 _ _).mono ?_; rintro e w' ⟨rfl, rfl⟩)
    | (gi_at_call 94; refine HR.out.mono ?_; rintro e W2 ⟨va, vc, rfl, hrow, hb⟩)
    | (gi_at_call 96; refine (callsIn_wide.2 HA.out).mono ?_; rintro e w' ⟨rfl, rfl⟩))
  have hB2T : B2 < w.heap.size := lt_of_heap hB2
  have hbel : Below W.heap.size W W2 := ((Below.refl _ W).alloc (Nat.le_refl _) _).trans (hb.mono (by omega))
  have hg2 : W2.heap[B2]? = some (.cells #[.string s] 9 (0, 0)) := (hbel.block B2 (by omega)).trans ((hW.block B2 hB2T).trans hB2)
  have hJ2 : J [] W2 := hJ _ _ _ none h0 ⟨hbel.os, hbel.tape, hbel.output, hbel.size, fun k hk _ => hbel.block k hk⟩ (by simp)
  have hlen : (sortedN A).length ≤ 200 := by rw [sortedN_len]; exact HG.out.count
  have HRow : Hid (RowS W2 (W.heap.size + 1) va (sortedN A)) := hrow
  have HY : Hid (∀ (pre : List (NameIn A)) (x : NameIn A) (W1 : World), J pre W1 → pre.length < (namesAt A s.data.toList).length → YieldAt Fence.wide (6 - 1) Tryz.prog l #[encStr x.1] W1 fun e W' =>
      (e = .returned (.bool true) ∧ J (pre ++ [x]) W' ∧ Kp W1 W') ∨ (e = .returned (.bool false) ∧ Jx (pre ++ [x]) W')) := hY
  have HBel : Hid (Below W.heap.size W W2) := hbel
  have HW : Hid (Below w.heap.size w W) := hW
  clear hrow hb hY h0 HR hbel HA c1 hb1
  gi_loopw [11] (fun i wr => ∃ k : Nat, k ≤ (sortedN A).length ∧ i = .int .i64 k ∧ J (((sortedN A).attach.take k).filter (fun x => preL s.data.toList x.1)) wr ∧ Kp W2 wr)
    (fun i _ => (sortedN A).length - (intOf i).toNat)
  case atStart => exact ⟨0, Nat.zero_le _, rfl, by simpa using hJ2, hKr _⟩
  case round =>
    obtain ⟨k, hk, rfl, hJs, hkp⟩ := hrel
    by_cases hlt : k < (sortedN A).length
    · have hlt2 : k < (sortedN A).attach.length := by simpa using hlt
      obtain ⟨x, hxe⟩ : ∃ x, (sortedN A).attach[k] = x := ⟨_, rfl⟩
      have hx : (sortedN A)[k]? = some x.1 := by rw [List.getElem?_eq_getElem hlt, ← hxe, List.getElem_attach]
      rcases HRow.out with h0 | ⟨g, cur, rfl, hgb, hgc, hcur⟩
      · rw [h0] at hlt; simp at hlt
      have hgc2 := hKc W W2 wr g cur _ _ HW.out HBel.out (.inr (by omega)) hkp hgc
      have hcx : wr.cell? ⟨g, k, none⟩ = some (encStr x.1) := by rw [cell_of hgc2]; exact hcur k x.1 hx
      have hB2r := hKc W W2 wr B2 _ _ _ HW.out HBel.out (.inl rfl) hkp hg2
      have hcb : wr.cell? ⟨B2, 0, none⟩ = some (.string s) := by rw [cell_of hB2r]; rfl
      have hxs : x.1.length ≤ 40 := sortedN_short HG.out x.1 x.2
      have hft := filter_take_succ (fun x : NameIn A => preL s.data.toList x.1) (sortedN A).attach k hlt2
      rw [hxe] at hft
      have hpre := fun W => hasPrefix_any ⟨x.1.toArray⟩ s (by rw [encStr_size]; simp only [maxLen]; omega) hs W
      have HP : Hid (∀ W, Calls Tryz.prog 97 #[.string ⟨x.1.toArray⟩, .string s] W fun e w' => e = .returned (.bool (preB s ⟨x.1.toArray⟩)) ∧ W = w') := hpre
      have HF : Hid (((sortedN A).attach.take (k + 1)).filter (fun x => preL s.data.toList x.1) = ((sortedN A).attach.take k).filter (fun x => preL s.data.toList x.1) ++ (if preL s.data.toList x.1 then [x] else [])) := hft
      have HJs : Hid (J (((sortedN A).attach.take k).filter (fun x => preL s.data.toList x.1)) wr) := hJs
      unfold encStr at hcx
      clear hgc hcur hgc2 hB2r hpre hft hx hxe hJs hlt2
      cases hpx : preB s ⟨x.1.toArray⟩
      · have HPX : Hid (preL s.data.toList x.1 = false) := by show _ = _; simpa [preB, preL] using hpx
        gi_wp2_with (gi_at_call 97; refine (callsIn_wide.2 (HP.out _)).mono ?_; rintro e w' ⟨rfl, rfl⟩)
        refine ⟨fun _ h => (by cases h), ?_⟩
        gi_wp2
        go_roundw
        case rel => exact ⟨k + 1, by omega, by go_num, by rw [HF.out, HPX.out]; simpa using HJs.out, hkp⟩
        case measure => simp [intOf]; omega
      · have HPX : Hid (preL s.data.toList x.1 = true) := by show _ = _; simpa [preB, preL] using hpx
        have hflt : (((sortedN A).attach.take k).filter (fun x => preL s.data.toList x.1)).length < (namesAt A s.data.toList).length := by
          have e := List.take_append_drop (k + 1) (sortedN A).attach
          unfold namesAt
          conv => rhs; rw [← e]
          rw [List.filter_append, HF.out, HPX.out]
          simp
        obtain ⟨fn, tmps, assign, body, hy, hR⟩ := HY.out _ x wr HJs.out hflt
        unfold encStr at hy
        have hpf : ((sortedN A).attach.take (k + 1)).filter (fun x => preL s.data.toList x.1) <+: namesAt A s.data.toList := by
          unfold namesAt; exact (List.take_prefix _ _).filter _
        have HPF : Hid (((sortedN A).attach.take (k + 1)).filter (fun x => preL s.data.toList x.1) <+: namesAt A s.data.toList) := hpf
        clear hflt hpf
        gi_wp2_with (gi_at_call 97; refine (callsIn_wide.2 (HP.out _)).mono ?_; rintro e w' ⟨rfl, rfl⟩)
        refine hR.mono ?_
        rintro e W3 (⟨rfl, hJ3, hk3⟩ | ⟨rfl, hJx3⟩)
        · have HJ3 : Hid (J (((sortedN A).attach.take k).filter (fun x => preL s.data.toList x.1) ++ [x]) W3) := hJ3
          clear hJ3
          gi_wp2
          go_roundw
          case rel => exact ⟨k + 1, by omega, by go_num, by rw [HF.out, HPX.out]; exact HJ3.out, hKt hkp hk3⟩
          case measure => simp [intOf]; omega
        · have HJ3 : Hid (Jx (((sortedN A).attach.take k).filter (fun x => preL s.data.toList x.1) ++ [x]) W3) := hJx3
          clear hJx3
          gi_wp2
          refine bodyPost_ret (results_none rfl _ _ _) rfl ?_
          refine ⟨⟨_, rfl⟩, .inr ⟨_, ?_, HJ3.out⟩⟩
          have := HPF.out
          rw [HF.out, HPX.out] at this
          exact this
    · obtain rfl : k = (sortedN A).length := by omega
      have HJs : Hid (J (((sortedN A).attach.take (sortedN A).length).filter (fun x => preL s.data.toList x.1)) wr) := hJs
      clear hJs
      gi_wp2
      go_end0
      refine ⟨⟨_, rfl⟩, .inl ⟨_, rfl, ?_⟩⟩
      have := HJs.out
      rw [List.take_of_length_le (by simp)] at this
      exact this
theorem iter_stops (h : Parts w base d F A mref ms) (s : ByteArray) (hs : s.size ≤ maxLen) (B1 B2 : Nat) (hB1 : w.heap[B1]? = some (.cells #[.pointer (some ⟨d, 0, none⟩)] 24 (0, 0))) (hB2 : w.heap[B2]? = some (.cells #[.string s] 9 (0, 0)))
    (T : List Nat) (hT : ∀ k ∈ T, k < w.heap.size) (hBT : B2 ∉ T) :
    SeqStopsK Fence.wide 6 Tryz.prog 93 #[.pointer (some ⟨B1, 0, none⟩), .pointer (some ⟨B2, 0, none⟩)] (fun x : NameIn A => #[encStr x.1]) (KpT T)
      (fun xs => xs = namesAt A s.data.toList) (fun pre => pre <+: namesAt A s.data.toList) (namesAt A s.data.toList).length w :=
  iter_stopsK h s hs B1 B2 hB1 hB2 (KpT T) (KpT.refl T) kpT_t (fun W0 W W' k cs t fr hb0 hb1 hk hkp hc => hkp.cells k cs t fr hc (by
    rcases hk with rfl | hk
    · exact hBT
    · intro e
      have := hT k e
      have := hb0.size
      omega))
end

end Go.Proofs.YthbhfhagbaommaaGreatDoor.Dk

/- A region that draws its order, in a round of a loop over a function: its operations only read, but for the last one, which waits for all others: one walk in the order of the text serves every order. No program. -/
namespace Go.Proofs.YthbhfhagbaommaaGreatDoor
open Go.RowKit
set_option linter.unusedSimpArgs false
set_option linter.unusedVariables false

section
variable {n l : Nat} {P : Program} {C : World → Prop}

/-- A quiet operation, carried out in a round. -/
theorem wpIn_of_quiet {o : Oper} {a : Act} {K : Act → Prop} {K' : Act → World → Prop} {Q' : Exit → Act → World → Prop} {w : World} (hp : ∀ c, o.op ≠ .defer c) (hw : C w) (h : ∀ a w', C w' → K a → K' a w') (hh : o.quiet P a C K) :
    o.wpIn (Fence.wide.inRound l) n P a w K' Q' := by
  obtain ⟨v, h1, h2⟩ := hh
  have h3 := h1 w hw
  unfold Oper.quietAt at h3
  unfold Oper.wpIn
  refine ⟨fun f _ => trivial, ?_⟩
  rw [Oper.semAt_eq _ _ _ hp]
  generalize (execOp a.eval o).run P w = r at *
  cases r with
  | ok x w' =>
    cases x <;> simp only [Oper.quietUpon] at h3 <;> simp only [Oper.uponIn]
    case value u => obtain ⟨e1, e2⟩ := h3; rw [e1, e2]; exact h _ _ hw h2
    case skip => obtain ⟨e1, e2⟩ := h3; rw [e1, ← e2]; exact h _ _ hw h2
    case enter f args =>
      obtain ⟨e1, hc⟩ := h3
      rw [e1]
      exact ⟨fun hd => by simp [Fence.wide] at hd, CallsIn.inRound l (callsIn_wide.2 (hc.mono fun e w'' ⟨he, hw''⟩ => by subst he; exact h _ _ hw'' h2))⟩
  | halt x w' => simp only [Oper.quietUpon] at h3

theorem any_of_quiet {ls : List Oper} {o : Oper} {Q : Exit → Act → World → Prop} (hc : coverB ls o = true) (hp : plainB ls = true) (hg : guardsB ls = true) (hon : ∀ e ∈ o.after.toList, e.on < ls.length) (hlex : ∀ (i : Nat) (x : Oper), ls[i]? = some x → ∀ e ∈ x.after.toList, Region.binds .any e = true → e.on < i) :
    ∀ (fuel : Nat) (listed : Array Bool) (a : Act) (w : World), listed.size = ls.length → Down ls listed → C w →
      wpAnyQ P .any ls.toArray C (fun a' => ∀ w', C w' → wpOpIn (Fence.wide.inRound l) n P (ls ++ [o]).toArray Q ls.length (fun a w => Q .normal a w) a' w') fuel listed a →
      wpAnyIn (Fence.wide.inRound l) n P .any (ls ++ [o]).toArray Q (fuel + 1) (listed.push false) a w := by
  have last : (ls ++ [o])[ls.length]? = some o := by simp
  have dn : ∀ listed : Array Bool, Down ls listed → listed.size = ls.length → Down (ls ++ [o]) listed := by
    intro listed hd hs i x hx hi
    by_cases h1 : i < ls.length
    · rw [List.getElem?_append_left h1] at hx; exact hd i x hx hi
    · exfalso
      have := listed_lt hi
      omega
  -- nothing of the first ones ready: all of them are listed
  have full : ∀ listed : Array Bool, listed.size = ls.length → Region.ready .any ls.toArray listed = [] → ∀ i, i < ls.length → Listed listed i := by
    intro listed hs hr i
    induction i using Nat.strongRecOn with
    | ind i ih =>
      intro hi
      refine Classical.byContradiction fun hn => ?_
      have hm : i ∈ Region.ready .any ls.toArray listed := by
        rw [mem_ready]
        refine ⟨by simpa using hi, ?_, ls[i], by simp [hi], fun e he hb => ih e.on (hlex i _ (by simp [hi]) e he hb) (by have := hlex i _ (by simp [hi] : ls[i]? = some ls[i]) e he hb; omega)⟩
        unfold Listed at hn
        rw [Array.getElem?_eq_getElem (by omega)] at hn ⊢
        simpa using hn
      rw [hr] at hm; cases hm
  -- the last one, when all others are listed
  have fin : ∀ (fuel : Nat) (listed : Array Bool) (a : Act) (w : World), listed.size = ls.length → (∀ i, i < ls.length → Listed listed i) → C w →
      (∀ w', C w' → wpOpIn (Fence.wide.inRound l) n P (ls ++ [o]).toArray Q ls.length (fun a w => Q .normal a w) a w') →
      wpOpIn (Fence.wide.inRound l) n P (ls ++ [o]).toArray Q ls.length (wpAnyIn (Fence.wide.inRound l) n P .any (ls ++ [o]).toArray Q fuel ((listed.push false).setIfInBounds ls.length true)) a w := by
    intro fuel listed a w hs hall hw h
    refine wpOpIn_mono (fun a' w' hq => ?_) (h w hw)
    have hr : Region.ready .any (ls ++ [o]).toArray ((listed.push false).setIfInBounds ls.length true) = [] := by
      rw [List.eq_nil_iff_forall_not_mem]
      intro i hi
      rw [mem_ready] at hi
      obtain ⟨h1, h2, _⟩ := hi
      simp only [List.size_toArray, List.length_append, List.length_cons, List.length_nil] at h1
      by_cases hil : i < ls.length
      · have := hall i hil
        have h5 : Listed ((listed.push false).setIfInBounds ls.length true) i := listed_set.2 (.inl (listed_push.2 this))
        unfold Listed at h5
        rw [h5] at h2; cases h2
      · have : i = ls.length := by omega
        subst this
        have h5 : Listed ((listed.push false).setIfInBounds ls.length true) ls.length := listed_set.2 (.inr ⟨rfl, by simp; omega⟩)
        unfold Listed at h5
        rw [h5] at h2; cases h2
    cases fuel with
    | zero => exact ⟨hr, hq⟩
    | succ fuel => exact ⟨fun _ => hq, fun i hi => by rw [hr] at hi; cases hi⟩
  intro fuel
  induction fuel with
  | zero =>
    intro listed a w hs hd hw h
    have hall := full listed hs h.1
    refine ⟨fun hr => ?_, fun i hi => ?_⟩
    · exfalso
      have hm : ls.length ∈ Region.ready .any (ls ++ [o]).toArray (listed.push false) := by
        rw [mem_ready]
        refine ⟨by simp, by rw [← hs]; simp, o, by simp, fun e he _ => listed_push.2 (hall _ (hon e he))⟩
      rw [hr] at hm; cases hm
    · have hi' := hi
      rw [mem_ready] at hi
      obtain ⟨h1, h2, _⟩ := hi
      simp only [List.size_toArray, List.length_append, List.length_cons, List.length_nil] at h1
      by_cases hil : i < ls.length
      · exfalso
        have := hall i hil
        rw [false_push (by omega)] at h2
        unfold Listed at this
        rw [this] at h2; cases h2
      · have : i = ls.length := by omega
        subst this
        exact fin 0 listed a w hs hall hw h.2
  | succ fuel ih =>
    intro listed a w hs hd hw h
    refine ⟨fun hr => ?_, fun i hi => ?_⟩
    · exfalso
      by_cases he : Region.ready .any ls.toArray listed = []
      · have hall := full listed hs he
        have hm : ls.length ∈ Region.ready .any (ls ++ [o]).toArray (listed.push false) := by
          rw [mem_ready]
          exact ⟨by simp, by rw [← hs]; simp, o, by simp, fun e he _ => listed_push.2 (hall _ (hon e he))⟩
        rw [hr] at hm; cases hm
      · obtain ⟨i, hi⟩ := List.exists_mem_of_ne_nil _ he
        rw [mem_ready] at hi
        obtain ⟨h1, h2, x, hx, h3⟩ := hi
        simp only [List.size_toArray] at h1
        have hm : i ∈ Region.ready .any (ls ++ [o]).toArray (listed.push false) := by
          rw [mem_ready]
          refine ⟨by simp; omega, (false_push (by omega)).2 h2, x, ?_, fun e he hb => listed_push.2 (h3 e he hb)⟩
          simpa [List.getElem?_append_left h1] using hx
        rw [hr] at hm; cases hm
    · have hi' := hi
      rw [mem_ready] at hi
      obtain ⟨h1, h2, x, hx, h3⟩ := hi
      simp only [List.size_toArray, List.length_append, List.length_cons, List.length_nil] at h1
      by_cases hil : i < ls.length
      · have hx' : ls[i]? = some x := by simpa [List.getElem?_append_left hil] using hx
        have hm : i ∈ Region.ready .any ls.toArray listed := by
          rw [mem_ready]
          exact ⟨by simpa using hil, (false_push (by omega)).1 h2, x, by simpa using hx', fun e he hb => listed_push.1 (h3 e he hb)⟩
        have hq := h.2 i hm
        unfold qOp at hq
        rw [show ls.toArray[i]? = some x by simpa using hx'] at hq
        simp only at hq
        have hdn : Down ls (listed.setIfInBounds i true) := down_set hd hx' (fun e he hb => listed_push.1 (h3 e he hb))
        unfold wpOpIn
        rw [hx]
        simp only [wanted_pre hg hx']
        rw [push_set (by omega)]
        split
        · rename_i hw'
          rw [if_pos hw'] at hq
          exact wpIn_of_quiet (plain_of hp hx') hw (fun a' w' hC hK => ih _ a' w' (by simpa using hs) hdn hC hK) hq
        · rename_i hw'
          rw [if_neg hw'] at hq
          exact ⟨fun f _ => trivial, ih _ _ w (by simpa using hs) hdn hw hq⟩
      · have : i = ls.length := by omega
        subst this
        have hxo : x = o := by simpa using hx.symm
        subst hxo
        have hall := all_listed hc (dn _ hd hs) (fun e he hb => listed_push.1 (h3 e he hb))
        refine fin (fuel + 1) listed a w hs hall hw (h.1 ?_)
        rw [List.eq_nil_iff_forall_not_mem]
        intro i hi
        rw [mem_ready] at hi
        obtain ⟨g1, g2, _⟩ := hi
        simp only [List.size_toArray] at g1
        have := hall i g1
        unfold Listed at this
        rw [this] at g2; cases g2

def lastB (ls : List Oper) (o : Oper) : Bool := coverB ls o && plainB ls && guardsB ls && edgesB ls && o.after.toList.all fun e => decide (e.on < ls.length)

/-- THE LAST ONE WAITS FOR ALL OTHERS, which only read: one walk of the order of the text serves every order. -/
theorem wpIn_round_quiet_last {id m : Nat} {lo : List Oper} {o : Oper} {Q : Exit → Act → World → Prop} {a : Act} {w : World} (hget : lo[m]? = some o) (hlen : m + 1 = lo.length) (hm : P.follows .mixedOrders = true)
    (hB : Region.lexB .any (lo.take m).toArray = true) (hl : lastB (lo.take m) o = true)
    (h : wpQuiet P (lo.take m).toArray (fun w' => ∃ k, w' = w.drewN k) (fun a' => ∀ w', (∃ k, w' = w.drewN k) → wpListIn (Fence.wide.inRound l) n P lo.toArray Q [o] a' w') (lo.take m) a) :
    (Code.region id lo.toArray true).wpIn (Fence.wide.inRound l) n P Q a w := by
  have hlm : (lo.take m).length = m := by simp; omega
  have hsplit : lo = lo.take m ++ [o] := by
    have h1 := List.take_append_drop m lo
    have h2 : lo.drop m = [o] := by
      obtain ⟨hi, he⟩ := List.getElem?_eq_some_iff.1 hget
      rw [List.drop_eq_getElem_cons hi, he, List.drop_of_length_le (by omega)]
    rw [h2] at h1; exact h1.symm
  simp only [lastB, Bool.and_eq_true] at hl
  obtain ⟨⟨⟨⟨h1, h2⟩, h3⟩, h4⟩, h5⟩ := hl
  simp only [Region.lexB, Bool.and_eq_true] at hB
  have hq := wpAnyQ_lex (C := fun w' => ∃ k, w' = w.drewN k) (md := .any) hB.1 (lo.take m) 0 (Array.replicate (lo.take m).toArray.size false) a (by simp) (by simpa using hB.2) h
  have hfin : ∀ a' w', wpListIn (Fence.wide.inRound l) n P lo.toArray Q [o] a' w' → wpOpIn (Fence.wide.inRound l) n P (lo.take m ++ [o]).toArray Q (lo.take m).length (fun a w => Q .normal a w) a' w' := by
    intro a' w' hh
    rw [← hsplit, hlm]
    unfold wpOpIn
    rw [show lo.toArray[m]? = some o by simpa using hget]
    exact hh
  have hq2 : wpAnyQ P .any (lo.take m).toArray (fun w' => ∃ k, w' = w.drewN k) (fun a' => ∀ w', (∃ k, w' = w.drewN k) → wpOpIn (Fence.wide.inRound l) n P (lo.take m ++ [o]).toArray Q (lo.take m).length (fun a w => Q .normal a w) a' w') (lo.take m).length (Array.replicate (lo.take m).toArray.size false) a := by
    have mono : ∀ (fuel : Nat) (listed : Array Bool) (a : Act), wpAnyQ P .any (lo.take m).toArray (fun w' => ∃ k, w' = w.drewN k) (fun a' => ∀ w', (∃ k, w' = w.drewN k) → wpListIn (Fence.wide.inRound l) n P lo.toArray Q [o] a' w') fuel listed a →
        wpAnyQ P .any (lo.take m).toArray (fun w' => ∃ k, w' = w.drewN k) (fun a' => ∀ w', (∃ k, w' = w.drewN k) → wpOpIn (Fence.wide.inRound l) n P (lo.take m ++ [o]).toArray Q (lo.take m).length (fun a w => Q .normal a w) a' w') fuel listed a := by
      intro fuel
      induction fuel with
      | zero => intro listed a hh; exact ⟨hh.1, fun w' hw' => hfin _ _ (hh.2 w' hw')⟩
      | succ fuel ih => intro listed a hh; exact ⟨fun hr w' hw' => hfin _ _ (hh.1 hr w' hw'), fun i hi => qOp_mono (fun a => ih _ a) (hh.2 i hi)⟩
    exact mono _ _ _ hq
  have hany := any_of_quiet (n := n) (l := l) (Q := Q) h1 h2 h3 (fun e he => by simpa using (List.all_eq_true.1 h5) e he) (by
    intro i x hx e he hb
    have hi : i < (lo.take m).length := (List.getElem?_eq_some_iff.1 hx).1
    have h6 := (List.all_eq_true.1 h4) i (List.mem_range.2 hi)
    rw [hx, Option.map_some, Option.getD_some] at h6
    have h7 := (List.all_eq_true.1 h6) e he
    rw [hb] at h7
    simpa using h7) (lo.take m).length (Array.replicate (lo.take m).toArray.size false) a { w with drawn := w.drawn + 1 } (by simp) (by
      intro i x _ hi
      unfold Listed at hi
      rw [Array.getElem?_replicate] at hi
      split at hi <;> cases hi) ⟨1, rfl⟩ hq2
  refine wpIn_region_any hm ?_
  rw [← hsplit] at hany
  have e1 : (Array.replicate (lo.take m).toArray.size false).push false = Array.replicate lo.toArray.size false := by
    rw [← Array.replicate_succ]
    congr 1
    simp; omega
  have e2 : (lo.take m).length + 1 = lo.toArray.size := by rw [hlm]; simpa using hlen
  rw [e1, e2] at hany
  exact hany
end

end Go.Proofs.YthbhfhagbaommaaGreatDoor

/- Crash: what it leaves of each file. -/
namespace Go.Proofs.YthbhfhagbaommaaGreatDoor.Dk
open Go.RowKit Go.Maps Go.Shelf Go.Sort
set_option linter.unusedSimpArgs false
set_option linter.unusedVariables false
attribute [local go_sem] Oper.semAt_some

/-- What a crash leaves of a file. -/
def crash1 (fs : List UInt8) (k : Nat) (f : FA) : FA := { f with bytes := f.bytes.take (min (f.safe + fateN fs k) f.bytes.length), safe := min (f.safe + fateN fs k) f.bytes.length }
def crashTo (A : DA) (fs : List UInt8) (pre : List (List UInt8)) : DA := pre.zipIdx.foldl (fun B p => B.upd p.1 (crash1 fs p.2)) A
def DA.crash (A : DA) (fs : List UInt8) : DA := { crashTo A fs (sortedN A) with limited := false }
theorem crashTo_snoc (A : DA) (fs : List UInt8) (pre : List (List UInt8)) (x : List UInt8) : crashTo A fs (pre ++ [x]) = (crashTo A fs pre).upd x (crash1 fs pre.length) := by
  simp [crashTo, List.zipIdx_append, List.foldl_append]
theorem crash1_name (fs : List UInt8) (k : Nat) (f : FA) : (crash1 fs k f).name = f.name := rfl
theorem snoc_ind {α : Type} {p : List α → Prop} (h0 : p []) (hs : ∀ l x, p l → p (l ++ [x])) : ∀ l, p l := by
  have : ∀ l : List α, p l.reverse := by
    intro l
    induction l with
    | nil => exact h0
    | cons x l ih => rw [List.reverse_cons]; exact hs _ _ ih
  intro l
  have := this l.reverse
  rwa [List.reverse_reverse] at this
theorem crashTo_names (A : DA) (fs : List UInt8) : ∀ pre : List (List UInt8), (crashTo A fs pre).files.map (·.name) = A.files.map (·.name) := by
  refine snoc_ind rfl ?_
  intro pre x ih
  rw [crashTo_snoc]; show ((setF _ _ _).map (·.name)) = _; rw [setF_names _ _ _ (crash1_name fs _), ih]
theorem crashTo_room (A : DA) (fs : List UInt8) : ∀ pre : List (List UInt8), (crashTo A fs pre).room = A.room ∧ (crashTo A fs pre).limited = A.limited ∧ (crashTo A fs pre).left = A.left := by
  refine snoc_ind ⟨rfl, rfl, rfl⟩ ?_
  intro pre x ih
  rw [crashTo_snoc]; exact ih
theorem keepsFrom_of_turn {B : Nat} {S : List Nat} {W W' : World} (h : Turn S W W') (hs : ∀ k ∈ S, k < B) : KeepsFrom B W W' :=
  ⟨h.size, fun k o hB hk _ => h.heap hk (fun e => by have := hs k e; omega)⟩

section
variable {w w' : World} {base d : Nat} {F : List Nat} {A A' : DA} {mref : Option Nat} {ms : List FileM}

theorem find_name (h : Parts w base d F A mref ms) {x : List UInt8} (hx : x ∈ A.files.map (·.name)) : ∃ m, findM ms x = some m := by
  rw [h.files, List.map_map] at hx
  obtain ⟨m, hm, e⟩ := List.mem_map.1 hx
  have : (findM ms x).isSome := by unfold findM; rw [List.find?_isSome]; exact ⟨m, hm, by simpa using e⟩
  exact Option.isSome_iff_exists.1 this

/-- How the world stands between two rounds. -/
def CrashI (w : World) (base d : Nat) (F : List Nat) (A : DA) (mref : Option Nat) (v : Value) (fs : List UInt8) (pre : List (NameIn A)) (W : World) : Prop :=
  (∃ F' ms', Parts W base d F' (crashTo A fs (pre.map (·.1))) mref ms' ∧ ∀ k ∈ F', k ∈ F) ∧ Turn F w W ∧
  W.heap[w.heap.size]? = some (.cells #[.pointer (some ⟨d, 0, none⟩)] 24 (0, 0)) ∧ W.heap[w.heap.size + 1]? = some (.cells #[v] 50 (0, 0)) ∧ W.heap[w.heap.size + 1 + 1]? = some (.cells #[.int .i64 pre.length] 3 (0, 0))

set_option maxRecDepth 100000 in
set_option maxHeartbeats 2000000 in
theorem crash_any (h : Parts w base d F A mref ms) (v : Value) (fs : List UInt8) (hxk : ∀ Z, Turn F w Z → SliceAt Z v (fs.map encB)) (hfl : fs.length ≤ 9223372036854775807) :
    Calls Tryz.prog 37 #[.pointer (some ⟨d, 0, none⟩), v] w fun e w' => e = .returned (.tuple #[]) ∧ Did w w' base d F (A.crash fs) := by
  have hdF := h.mem_self
  have hdlt := h.lt d hdF
  have hx := hxk w (Turn.refl _ _)
  have hvf : ∃ xa xc, v = .slice xa fs.length xc := by
    rcases hx with ⟨rfl, hb⟩ | ⟨a, c, rfl, _⟩
    · have : fs = [] := by simpa using hb
      subst this; exact ⟨_, _, rfl⟩
    · exact ⟨some a, c, by simp⟩
  obtain ⟨xa, xc, rfl⟩ := hvf
  refine (callsIn_wide (n := 7)).1 ?_
  have H : Hid (Parts w base d F A mref ms) := h
  have HX : Hid (SliceAt w (.slice xa fs.length xc) (fs.map encB)) := hx
  have HXK : Hid (∀ Z, Turn F w Z → SliceAt Z (.slice xa fs.length xc) (fs.map encB)) := hxk
  clear h hx hxk
  have f1 : Fence.wide.fn 64 := trivial
  refine callsIn_of_wp_marks Tryz.func37 rfl trivial ?_ rfl
  simp only [Tryz.ntmps37, List.size_toArray, List.length_cons, List.length_nil, Nat.reduceAdd, Nat.reduceSub, Array.replicate_succ, Array.replicate_zero, List.push_toArray, List.append_toArray, List.nil_append, List.cons_append]
  gi_wp2_with (gi_at_call 64; refine (callsIn_wide.2 (callsIn_wide.1 (names_in d _ _))).mono ?_; rintro e w' ⟨rfl, rfl⟩)
  obtain ⟨W3, hW3⟩ : ∃ W3, (((w.alloc (.cells #[.pointer (some ⟨d, 0, none⟩)] 24)).alloc (.cells #[.slice xa fs.length xc] 50)).alloc (.cells #[.int .i64 0] 3)) = W3 := ⟨_, rfl⟩
  have hs3 : W3.heap.size = w.heap.size + 3 := by rw [← hW3]; simp
  have hb3 : Below w.heap.size w W3 := by
    rw [← hW3]
    exact (((Below.refl _ w).alloc (Nat.le_refl _) _).alloc (by simp) _).alloc (by simp; omega) _
  have hd3 : W3.heap[w.heap.size]? = some (.cells #[.pointer (some ⟨d, 0, none⟩)] 24 (0, 0)) := by
    rw [← hW3, Below.heap_alloc _ _ _ (by simp; omega), Below.heap_alloc _ _ _ (by simp)]; exact heap_new w _
  have hf3 : W3.heap[w.heap.size + 1]? = some (.cells #[.slice xa fs.length xc] 50 (0, 0)) := by
    rw [← hW3, Below.heap_alloc _ _ _ (by simp)]
    have := heap_new (w.alloc (.cells #[.pointer (some ⟨d, 0, none⟩)] 24)) (.cells #[.slice xa fs.length xc] 50)
    rwa [World.size_alloc] at this
  have hk3 : W3.heap[w.heap.size + 1 + 1]? = some (.cells #[.int .i64 0] 3 (0, 0)) := by
    rw [← hW3]
    have := heap_new ((w.alloc (.cells #[.pointer (some ⟨d, 0, none⟩)] 24)).alloc (.cells #[.slice xa fs.length xc] 50)) (.cells #[.int .i64 0] 3)
    rwa [World.size_alloc, World.size_alloc] at this
  simp only [hW3]
  obtain ⟨W5, hW5⟩ : ∃ W5, (W3.alloc (.cells #[.pointer (some ⟨d, 0, none⟩)] 24)).alloc (.cells #[.string { data := #[] }] 9) = W5 := ⟨_, rfl⟩
  have hs5 : W5.heap.size = w.heap.size + 5 := by rw [← hW5]; simp [hs3]
  have hb5 : Turn [] W3 W5 := by rw [← hW5]; exact ((Turn.refl [] W3).alloc _).alloc _
  have hB1 : W5.heap[w.heap.size + 1 + 1 + 1]? = some (.cells #[.pointer (some ⟨d, 0, none⟩)] 24 (0, 0)) := by
    rw [← hW5, Below.heap_alloc _ _ _ (by simp [hs3])]
    have := heap_new W3 (.cells #[.pointer (some ⟨d, 0, none⟩)] 24)
    rwa [hs3] at this
  have hB2 : W5.heap[w.heap.size + 1 + 1 + 1 + 1]? = some (.cells #[.string { data := #[] }] 9 (0, 0)) := by
    rw [← hW5]
    have := heap_new (W3.alloc (.cells #[.pointer (some ⟨d, 0, none⟩)] 24)) (.cells #[.string { data := #[] }] 9)
    rwa [World.size_alloc, hs3] at this
  have hFlt := H.out.lt
  have htw5 : Turn [] w W5 := (Turn.of_below hb3 []).same hb5
  have hP5 : Parts W5 base d F A mref ms := H.out.kept htw5 (by simp)
  have hI5 : CrashI w base d F A mref (.slice xa fs.length xc) fs [] W5 :=
    ⟨⟨F, ms, hP5, fun _ hk => hk⟩, htw5.mono (by simp), hb5.heap hd3 (by simp), hb5.heap hf3 (by simp), hb5.heap hk3 (by simp)⟩
  have hseq := iter_stops hP5 { data := #[] } (by simp [maxLen, ByteArray.size]) (w.heap.size + 1 + 1 + 1) (w.heap.size + 1 + 1 + 1 + 1) hB1 hB2 (F ++ [w.heap.size + 1 + 1])
    (by intro k hk; rcases List.mem_append.1 hk with hk | hk; · have := hFlt k hk; omega
        · simp only [List.mem_singleton] at hk; omega)
    (by intro hk; rcases List.mem_append.1 hk with hk | hk; · have := hFlt _ hk; omega
        · simp only [List.mem_singleton] at hk; omega)
  rw [hW5]
  have HSeq : Hid (SeqStopsK Fence.wide 6 Tryz.prog 93 #[.pointer (some ⟨w.heap.size + 1 + 1 + 1, 0, none⟩), .pointer (some ⟨w.heap.size + 1 + 1 + 1 + 1, 0, none⟩)] (fun x : NameIn A => #[encStr x.1]) (KpT (F ++ [w.heap.size + 1 + 1]))
      (fun xs => xs = namesAt A ({ data := #[] } : ByteArray).data.toList) (fun pre => pre <+: namesAt A ({ data := #[] } : ByteArray).data.toList) (namesAt A ({ data := #[] } : ByteArray).data.toList).length W5) := hseq
  have HI5 : Hid (CrashI w base d F A mref (.slice xa fs.length xc) fs [] W5) := hI5
  clear hd3 hf3 hk3 hB1 hB2 htw5 hP5 hI5 hseq hb5 hb3 hW5 hW3 f1
  refine wpIn_rangeFunc_ownG rfl (by omega) (gf := 93) (lb := #[.pointer (some ⟨w.heap.size + 1 + 1 + 1, 0, none⟩), .pointer (some ⟨w.heap.size + 1 + 1 + 1 + 1, 0, none⟩)]) rfl trivial (enters_of Tryz.func93 (by kernel_rfl) rfl)
    HSeq.out (fun h k => kpT_t h k) (fun W l o o' h1 h2 h3 h4 => kpT_b (w := W5) W l o o' h1 h2 h3 h4) (Below.refl _ _) (fun _ => rfl)
    (CrashI w base d F A mref (.slice xa fs.length xc) fs) (fun _ _ _ => False) ?own (fun _ _ _ _ _ hs _ _ => hs) HI5.out
    (fun x => { tmps := #[.pointer (some ⟨d, 0, none⟩), .slice xa fs.length xc, .pointer (some ⟨w.heap.size, 0, none⟩), .pointer (some ⟨w.heap.size + 1, 0, none⟩), .pointer (some ⟨w.heap.size + 1 + 1, 0, none⟩), encStr x.1, undef, .pointer (some ⟨d, 0, none⟩), .bool false, .pointer (some ⟨d, 0, none⟩),
      .func (.func 93) #[] #[.pointer (some ⟨w.heap.size + 1 + 1 + 1, 0, none⟩), .pointer (some ⟨w.heap.size + 1 + 1 + 1 + 1, 0, none⟩)], encStr x.1, undef, undef, undef, undef, undef, undef, undef, undef, undef, undef, undef, undef, undef, undef, undef, undef, undef, undef, undef, undef, undef, undef, undef, undef, undef, undef, undef, undef, undef, undef, undef, undef, undef, undef, undef], defers := [] }) ?assign ?body ?done ?stop
  case own =>
    rintro pre X Y row ⟨⟨F', ms', hP, hF'⟩, ht, hd, hf, hk⟩ hg hr
    have t : Turn row.toList X Y := (Turn.refl _ _).grown hg (by intro k hk; exact .inl (by simp [hk]))
    have hrow : ∀ k ∈ row.toList, w.heap.size + 5 ≤ k := by
      intro k hk
      simp only [Option.mem_toList] at hk
      have := (hr k hk).1
      omega
    refine ⟨⟨F', ms', hP.kept t (fun k hk e => ?_), hF'⟩, ht.trans t (fun k hk => .inr (by have := hrow k hk; omega)), t.heap hd (fun e => ?_), t.heap hf (fun e => ?_), t.heap hk (fun e => ?_)⟩
    · have := hrow k e; have := hFlt k (hF' k hk); omega
    · have := hrow _ e; omega
    · have := hrow _ e; omega
    · have := hrow _ e; omega
  case assign =>
    intro l x W K hK
    gi_wp2
    exact hK
  case body =>
    rintro l pre x W ⟨⟨F', ms', hP, hF'⟩, ht, hd, hf, hk⟩ hlen
    have hmx : (Tryz.prog).follows .mixedOrders = true := by kernel_rfl
    have hxn : x.1 ∈ (crashTo A fs (pre.map (·.1))).files.map (·.name) := by
      rw [crashTo_names]
      have := x.2
      unfold sortedN at this
      rwa [List.mem_mergeSort] at this
    obtain ⟨m, hm⟩ := find_name hP hxn
    obtain ⟨pr, po, rfl, hnm⟩ := split_at hm
    have hfa := hP.each m (by simp)
    obtain ⟨sa, sc, hsl, hsl1, hsl2⟩ := hfa.2.form
    have hxl : x.1.length ≤ maxLen := by have := sortedN_short H.out.good x.1 x.2; simp only [maxLen]; omega
    have hlook := hP.map.look (s := ⟨x.1.toArray⟩) (by rw [encStr_size]; exact hxl)
    rw [show (⟨x.1.toArray⟩ : ByteArray).data.toList = x.1 by simp, hm] at hlook
    simp only [ptrOf] at hlook
    have c1 := hP.c1
    have cd : W.cell? ⟨w.heap.size, 0, none⟩ = some (.pointer (some ⟨d, 0, none⟩)) := by rw [cell_of hd]; rfl
    have cv : W.cell? ⟨w.heap.size + 1, 0, none⟩ = some (.slice xa fs.length xc) := by rw [cell_of hf]; rfl
    have ck : W.cell? ⟨w.heap.size + 1 + 1, 0, none⟩ = some (.int .i64 pre.length) := by rw [cell_of hk]; rfl
    have cf : W.cell? ⟨m.blk, 0, none⟩ = some (.slice sa m.abs.bytes.length sc) := by rw [cell_of hfa.1, hsl]; rfl
    have cg : W.cell? ⟨m.blk, 1, none⟩ = some (.int .i64 m.abs.safe) := by rw [cell_of hfa.1]; rfl
    have hgood := hP.good
    have hfilm : m.abs ∈ (crashTo A fs (pre.map (·.1))).files := by rw [hP.files]; simp
    have hsafe := hgood.safe m.abs hfilm
    have hbytes : m.abs.bytes.length ≤ 1048576 := by
      have h1 := hgood.used
      have h2 := hgood.room
      rw [hP.files, List.map_append, List.map_cons, usedL_split] at h1
      omega
    have hplen : pre.length ≤ 200 := by
      have h1 : (namesAt A ({ data := #[] } : ByteArray).data.toList).length ≤ 200 := by
        have h2 : (namesAt A ({ data := #[] } : ByteArray).data.toList).length ≤ (sortedN A).attach.length := List.length_filter_le _ _
        have h3 := H.out.good.count
        rw [List.length_attach, sortedN_len] at h2
        omega
      omega
    have hfate := fun Z (hZ : Turn F w Z) => fate_any Z (.slice xa fs.length xc) fs (HXK.out Z hZ) pre.length (by omega) (by omega)
    have hfn : fateN fs pre.length ≤ 255 := by
      unfold fateN; split
      · omega
      · have := UInt8.toNat_lt (fs.getD (pre.length % fs.length) 0); omega
    obtain ⟨n, hn⟩ : ∃ n, n = min (m.abs.safe + fateN fs pre.length) m.abs.bytes.length := ⟨_, rfl⟩
    have hnle : n ≤ m.abs.bytes.length := by omega
    have hwr : IntKind.i64.wrap ((m.abs.safe : Int) + (fateN fs pre.length : Int)) = (m.abs.safe : Int) + (fateN fs pre.length : Int) := by
      rw [IntWalk.i64_left, IntWalk.wrap64_in _ (by omega)]
    have hmin : ∀ ts t w, (Builtin.min_ ts t #[.int .i64 ((m.abs.safe : Int) + (fateN fs pre.length : Int)), .int .i64 (m.abs.bytes.length : Int)]).run Tryz.prog w = .ok (.int .i64 (n : Int)) w := by
      intro ts t w
      rw [run_min2]
      congr 2
      split <;> omega
    have hnb : m.blk ∉ m.sl.ownBlock := by
      have hnd := hP.nodup
      rw [hP.foot] at hnd
      simp only [List.flatMap_append, List.flatMap_cons, List.nodup_cons, List.nodup_append, FileM.foot] at hnd
      intro e
      exact hnd.2.2.1.2.1.1.1 (by simpa using e)
    have hkeep := fun Z (hZ : Turn [] W Z) => keep_any (hfa.kept hZ (by simp)) hnb n hnle hbytes hsafe
    have hlt1 : m.blk < w.heap.size := hFlt _ (hF' _ (hP.mem_file (m := m) (by simp) (by simp [FileM.foot])))
    have HFate : Hid (∀ Z, Turn F w Z → Calls Tryz.prog 66 #[.slice xa fs.length xc, .int .i64 pre.length] Z fun e w' => e = .returned (.int .i64 (fateN fs pre.length)) ∧ Z = w') := hfate
    have HKeep : Hid (∀ Z, Turn [] W Z → Calls Tryz.prog 65 #[.pointer (some ⟨m.blk, 0, none⟩), .int .i64 n] Z fun e w' => e = .returned (.tuple #[]) ∧ FileAt w' base ⟨{ m.abs with bytes := m.abs.bytes.take n, safe := min m.abs.safe n }, m.blk, cutSl m.sl n⟩ ∧ Turn [m.blk] Z w') := hkeep
    have HP : Hid (Parts W base d F' (crashTo A fs (pre.map (·.1))) mref (pr ++ m :: po)) := hP
    have HT : Hid (Turn F w W) := ht
    have HN : Hid (n = min (m.abs.safe + fateN fs pre.length) m.abs.bytes.length) := hn
    have HNM : Hid (m.abs.name = x.1) := hnm
    have HNB : Hid (m.blk ∉ m.sl.ownBlock) := hnb
    have HC : Hid (cutSl m.sl n = .slice sa n n) := by show _ = _; rw [hsl]; rfl
    have HLT : Hid (m.blk < w.heap.size) := hlt1
    have hwk : IntKind.i64.wrap ((pre.length : Int) + 1) = (pre.length : Int) + 1 := by rw [IntWalk.i64_left, IntWalk.wrap64_in _ (by omega)]
    have g1 : Fence.wide.fn 66 := trivial
    have g2 : Fence.wide.fn 65 := trivial
    unfold encStr
    have HD : Hid (W.heap[w.heap.size]? = _) := hd
    have HFv : Hid (W.heap[w.heap.size + 1]? = _) := hf
    have HK : Hid (W.heap[w.heap.size + 1 + 1]? = _) := hk
    clear hP ht hfa hsl hm hn hnm hfate hkeep hgood hfilm hxn hd hf hk hnb hlen
    gi_wp2
    refine wpIn_round_quiet_last (m := 15) rfl rfl hmx (by kernel_rfl) (by kernel_rfl) ?_
    simp only [List.take_succ_cons, List.take_zero]
    repeat (any_goals (first | go_big_quiet_step ((go_at_call 66; exact Calls.quiet_of_same ((HFate.out _ (by exact HT.out.drewN _)).mono (fun e w' ⟨he, hw'⟩ => ⟨he, hw'.symm⟩)))) | quiet_step (fail)))
    refine wpQuiet_nil ?_
    intro _ hw'
    obtain ⟨nq, hw''⟩ := hw'
    subst hw''
    gi_wp2_with fail
    refine (CallsIn.inRound l (callsIn_wide.2 (HKeep.out _ (by exact (Turn.refl [] W).drewN _)))).mono ?_
    rintro e W2 ⟨rfl, hfa2, ht2⟩
    have HA2 : Hid (FileAt W2 base ⟨{ m.abs with bytes := m.abs.bytes.take n, safe := min m.abs.safe n }, m.blk, cutSl m.sl n⟩) := hfa2
    have HT2 : Hid (Turn [m.blk] (W.drewN nq) W2) := ht2
    have b1 : W2.cell? ⟨m.blk, 0, none⟩ = some (.slice sa n n) := by rw [cell_of hfa2.1, HC.out]; rfl
    have b2 : W2.frozen? ⟨m.blk, 1, none⟩ = false := frozen_of hfa2.1 1
    have hkk : W2.heap[w.heap.size + 1 + 1]? = some (.cells #[.int .i64 pre.length] 3 (0, 0)) := by
      refine ht2.heap (by simpa using HK.out) ?_
      have := HLT.out
      simp; omega
    have b3 : W2.cell? ⟨w.heap.size + 1 + 1, 0, none⟩ = some (.int .i64 pre.length) := by rw [cell_of hkk]; rfl
    have b5 : W2.cell? ⟨m.blk, 1, none⟩ = some (.int .i64 (min m.abs.safe n : Nat)) := by rw [cell_of hfa2.1]; rfl
    have n1 : (w.heap.size + 1 + 1 == m.blk) = false := by have := HLT.out; rw [beq_eq_false_iff_ne]; omega
    have n2 : ¬ (w.heap.size + 1 + 1 = m.blk) := by have := HLT.out; omega
    have n3 : ¬ (m.blk = w.heap.size + 1 + 1) := by have := HLT.out; omega
    have b4 : W2.frozen? ⟨w.heap.size + 1 + 1, 0, none⟩ = false := frozen_of hkk 0
    have HKK : Hid (W2.heap[w.heap.size + 1 + 1]? = some (.cells #[.int .i64 pre.length] 3 (0, 0))) := hkk
    clear hfa2 ht2 hkk
    gi_wp2
    have t1 : Turn [m.blk] W (W2.setCell ⟨m.blk, 1, none⟩ (.int .i64 n)) := (((Turn.refl [m.blk] W).drewN nq).same HT2.out).setCell (by simp) _
    have t2 : Turn [w.heap.size + 1 + 1] (W2.setCell ⟨m.blk, 1, none⟩ (.int .i64 n)) ((W2.setCell ⟨m.blk, 1, none⟩ (.int .i64 n)).setCell ⟨w.heap.size + 1 + 1, 0, none⟩ (.int .i64 (pre.length + 1))) := (Turn.refl _ _).setCell (by simp) _
    have hnew : FileAt (W2.setCell ⟨m.blk, 1, none⟩ (.int .i64 n)) base ⟨crash1 fs pre.length m.abs, m.blk, cutSl m.sl n⟩ := by
      have e1 : crash1 fs pre.length m.abs = { m.abs with bytes := m.abs.bytes.take n, safe := n } := by unfold crash1; rw [← HN.out]
      rw [e1]
      refine ⟨by rw [heap_set HA2.out.1 1]; simp, ?_⟩
      exact HA2.out.2.kept (S := [m.blk]) ((Turn.refl _ _).setCell (by simp) _) (by
        intro k hk e
        simp only [List.mem_singleton] at e
        subst e
        exact HNB.out (cutSl_own m.sl n _ hk))
    have hgood : Good ((crashTo A fs (pre.map (·.1))).upd m.abs.name (crash1 fs pre.length)) := HP.out.good.upd (fun _ _ => rfl) (fun f _ _ => by simp only [crash1, List.length_take]; omega) (Nat.le_trans (usedL_le (fun f _ => by simp only [crash1, List.length_take]; omega)) HP.out.good.used)
    obtain ⟨F'', hP2, hsub, _⟩ := HP.out.setFile (m' := ⟨crash1 fs pre.length m.abs, m.blk, cutSl m.sl n⟩) rfl rfl (t1.mono (by intro k hk; simp only [List.mem_singleton] at hk; subst hk; exact .inl (by simp [FileM.foot]))) hnew (fun k hk => .inl (cutSl_own m.sl n k hk)) (A' := (crashTo A fs (pre.map (·.1))).upd m.abs.name (crash1 fs pre.length)) rfl rfl rfl (upd_at HP.out _) hgood
    have hF2 : ∀ k ∈ F'', k ∈ F := by
      intro k hk
      rcases hsub k hk with h1 | h1
      · exact hF' k h1
      · exact hF' k (HP.out.mem_file (m := m) (by simp) (by simp only [FileM.foot, List.mem_cons, Option.mem_toList]; exact .inr (cutSl_own m.sl n k h1)))
    have hmF : m.blk ∈ F := hF' _ (HP.out.mem_file (m := m) (by simp) (by simp [FileM.foot]))
    have hall : Turn (m.blk :: [w.heap.size + 1 + 1]) W ((W2.setCell ⟨m.blk, 1, none⟩ (.int .i64 n)).setCell ⟨w.heap.size + 1 + 1, 0, none⟩ (.int .i64 (pre.length + 1))) := (t1.mono (by intro k hk; exact .inl (by simp at hk; simp [hk]))).trans t2 (by intro k hk; exact .inl (by simp at hk; simp [hk]))
    refine ⟨keepsFrom_of_turn hall ?_, KpT.of_turn hall ?_, ⟨F'', pr ++ ⟨crash1 fs pre.length m.abs, m.blk, cutSl m.sl n⟩ :: po, ?_, hF2⟩, HT.out.trans hall ?_, hall.heap HD.out ?_, hall.heap HFv.out ?_, ?_⟩
    · intro k hk
      have := HLT.out
      simp only [List.mem_cons, List.not_mem_nil, or_false] at hk
      rcases hk with rfl | rfl <;> omega
    · intro k hk
      simp only [List.mem_cons, List.not_mem_nil, or_false] at hk
      rcases hk with rfl | rfl
      · exact .inl (by simp [hmF])
      · exact .inl (by simp)
    · have e2 : crashTo A fs ((pre ++ [x]).map (·.1)) = (crashTo A fs (pre.map (·.1))).upd m.abs.name (crash1 fs pre.length) := by
        rw [List.map_append, List.map_cons, List.map_nil, crashTo_snoc, HNM.out, List.length_map]
      rw [e2]
      exact hP2.kept t2 (by intro k hk e; have := hFlt k (hF2 k hk); simp only [List.mem_singleton] at e; omega)
    · intro k hk
      simp only [List.mem_cons, List.not_mem_nil, or_false] at hk
      rcases hk with rfl | rfl
      · exact .inl hmF
      · exact .inr (by omega)
    · intro e
      have := HLT.out
      simp only [List.mem_cons, List.not_mem_nil, or_false] at e
      omega
    · intro e
      have := HLT.out
      simp only [List.mem_cons, List.not_mem_nil, or_false] at e
      omega
    · rw [heap_set (show (W2.setCell ⟨m.blk, 1, none⟩ (.int .i64 n)).heap[w.heap.size + 1 + 1]? = some (.cells #[.int .i64 pre.length] 3 (0, 0)) from ((Turn.refl [m.blk] W2).setCell (by simp) _).heap HKK.out (by simp; exact n2)) 0]
      simp
  case done =>
    rintro D xs W hD rfl ⟨⟨F', ms', hP, hF'⟩, ht, hd, hf, hk⟩ hK
    have cd : W.cell? ⟨w.heap.size, 0, none⟩ = some (.pointer (some ⟨d, 0, none⟩)) := by rw [cell_of hd]; rfl
    have c2 := hP.c2
    have ff : W.frozen? ⟨d, 2, none⟩ = false := frozen_of hP.self 2
    have HP : Hid (Parts W base d F' (crashTo A fs ((namesAt A ({ data := #[] } : ByteArray).data.toList).map (·.1))) mref ms') := hP
    have HT : Hid (Turn F w W) := ht
    have HK : Hid (W.heap[D]? = some (.deferred (some []))) := hK
    clear hP ht hd hf hk hK
    gi_wp2
    have hne : D ≠ d := by omega
    have hK' : (W.setCell ⟨d, 2, none⟩ (.bool false)).heap[D]? = some (.deferred (some [])) := ((Turn.refl [d] W).setCell (by simp) _).heap HK.out (by simpa using hne)
    have ht1 : Turn [d] W ((W.setCell ⟨d, 2, none⟩ (.bool false)).putObj D (.deferred none)) ∨ True := .inr trivial
    refine ⟨by simp, .inl ⟨_, _, rfl, run_takeDeferred hK', ?_⟩⟩
    have eN : (namesAt A ([] : List UInt8)).map (·.1) = sortedN A := by
      rw [namesAt_val]; unfold namesOf; rw [List.filter_eq_self]; intro a _; simp [preL]
    have hP := HP.out
    simp only [show ({ data := #[] } : ByteArray).data.toList = [] from rfl, eN] at hP
    have hPs : Parts (W.setCell ⟨d, 2, none⟩ (.bool false)) base d F' (A.crash fs) mref ms' := by
      refine hP.setSelf ((Turn.refl _ _).setCell (by simp) _) ?_ rfl ?_
      · rw [heap_set hP.self 2]; simp [DA.crash]
      · have hg := hP.good
        exact { room := hg.room, used := hg.used, count := hg.count, names := hg.names, short := hg.short, safe := hg.safe, left := by intro h; simp [DA.crash] at h }
    have tS : Turn F w (W.setCell ⟨d, 2, none⟩ (.bool false)) := HT.out.setCell (.inl hdF) _
    have tD : Turn [D] (W.setCell ⟨d, 2, none⟩ (.bool false)) ((W.setCell ⟨d, 2, none⟩ (.bool false)).putObj D (.deferred none)) := by
      refine ⟨rfl, rfl, rfl, by simp, fun k _ hn => ?_⟩
      exact World.putObj_heap_other (by simpa using hn)
    have hfin : Did w ((W.setCell ⟨d, 2, none⟩ (.bool false)).putObj D (.deferred none)) base d F (A.crash fs) := by
      refine ⟨F', ⟨_, _, hPs.kept tD ?_⟩, tS.trans tD ?_, fun k hk => .inl (hF' k hk)⟩
      · intro k hk e
        have := hFlt k (hF' k hk)
        simp only [List.mem_singleton] at e
        omega
      · intro k hk
        simp only [List.mem_singleton] at hk
        exact .inr (by omega)
    clear ht1
    refine ⟨.tuple #[], ?_, rfl, hfin⟩
    simp [results, Tryz.f37, go_sem]
  case stop =>
    rintro D c pre W hD _ h _
    exact h.elim
end

end Go.Proofs.YthbhfhagbaommaaGreatDoor.Dk

/- List: the names that begin so, collected into a new slice. -/
namespace Go.Proofs.YthbhfhagbaommaaGreatDoor.Dk
open Go.RowKit Go.Maps Go.Shelf Go.Sort
set_option maxRecDepth 100000
set_option linter.unusedSimpArgs false
set_option linter.unusedVariables false
attribute [local go_sem] Oper.semAt_some

/-- The block that a box's slice owns. -/
def ownOf (Bs : Nat) (W : World) : Option Nat := match W.heap[Bs]? with
  | some (.cells cs _ _) => (cs[0]?).bind Value.ownBlock
  | _ => none
theorem ownOf_box {Bs : Nat} {W : World} {v : Value} {t : TypeId} {fr : Nat × Nat} (h : W.heap[Bs]? = some (.cells #[v] t fr)) : ownOf Bs W = v.ownBlock := by simp [ownOf, h]
/-- What a round keeps: all cells but the box's, and those of the block that the box's slice owns; that block stays, or is new. -/
structure KpR (Bs : Nat) (W W' : World) : Prop where
  size : W.heap.size ≤ W'.heap.size
  cells : ∀ k cs t fr, W.heap[k]? = some (.cells cs t fr) → k ≠ Bs → ownOf Bs W ≠ some k → W'.heap[k]? = some (.cells cs t fr)
  own : ownOf Bs W' = ownOf Bs W ∨ ∃ b, ownOf Bs W' = some b ∧ W.heap.size ≤ b
theorem KpR.refl (Bs : Nat) (W : World) : KpR Bs W W := ⟨Nat.le_refl _, fun _ _ _ _ h _ _ => h, .inl rfl⟩
theorem kpR_t {Bs : Nat} {A B C : World} (h : KpR Bs A B) (k : KpR Bs B C) : KpR Bs A C := by
  refine ⟨Nat.le_trans h.size k.size, fun i cs t fr hi hn ho => ?_, ?_⟩
  · refine k.cells i cs t fr (h.cells i cs t fr hi hn ho) hn (fun e => ?_)
    rcases h.own with h1 | ⟨b, h1, h2⟩
    · exact ho (h1 ▸ e)
    · rw [h1] at e; cases e
      have := lt_of_heap hi; omega
  · rcases k.own with h1 | ⟨b, h1, h2⟩
    · rw [h1]; exact h.own
    · exact .inr ⟨b, h1, Nat.le_trans h.size h2⟩
theorem kpR_b {Bs : Nat} {w : World} (hB : Bs < w.heap.size) (W : World) (l : Nat) (o o' : Obj) (hl : w.heap.size ≤ l) (h : W.heap[l]? = some o) (ho : o.isCells = false) (_ : o.isWalk = false) : KpR Bs W (W.putObj l o') := by
  refine ⟨by simp, fun k cs t fr hk _ _ => ?_, .inl ?_⟩
  · have hne : k ≠ l := by
      intro e; subst e; rw [h] at hk; cases hk; cases ho
    rw [World.putObj_heap_other hne]; exact hk
  · unfold ownOf; rw [World.putObj_heap_other (show Bs ≠ l by omega)]

theorem ownsRow_cells {W W' : World} {row : Option Nat} {base : Nat} {e : TypeId} {size : Nat} {v : Value} {k : Nat} {xs : List Value} (h : W.ownsRow base e size v k xs) (hg : W.grownBy W' row)
    (hrow : ∀ r, row = some r → ∃ o : Obj, W.heap[r]? = some o ∧ o.isCells = false) : W'.ownsRow base e size v k xs := by
  refine h.kept hg ?_
  rcases h.2 with ⟨rfl, _⟩ | ⟨g, cap, cur, rfl, _, hgb, _⟩
  · exact .inl rfl
  · refine .inr fun e' => ?_
    obtain ⟨o, ho, hw⟩ := hrow g (by simpa [Value.ownBlock] using e'.symm)
    rw [hgb] at ho; cases ho; cases hw
theorem ownsRow_sep {W : World} {base : Nat} {e : TypeId} {size : Nat} {v : Value} {k : Nat} {xs : List Value} (h : W.ownsRow base e size v k xs) {j : Nat} {cs : Array Value} {t : TypeId} (hj : W.heap[j]? = some (.cells cs t (0, 0))) (hno : t ≠ e) :
    v.ownBlock ≠ some j := by
  rcases h.2 with ⟨rfl, _⟩ | ⟨g, cap, cur, rfl, _, hgb, _⟩
  · simp [Value.ownBlock]
  · intro e'
    have : g = j := by simpa [Value.ownBlock] using e'
    subst this; rw [hgb] at hj; cases hj; exact hno rfl
theorem ownsRow_slice {W : World} {base : Nat} {e : TypeId} {v : Value} {k : Nat} {xs : List Value} (h : W.ownsRow base e 1 v k xs) : ∃ a n c, v = .slice a n c := by
  rcases h.2 with ⟨rfl, _⟩ | ⟨g, cap, cur, rfl, _⟩
  · exact ⟨_, _, _, rfl⟩
  · exact ⟨_, _, _, rfl⟩
theorem ownsRow_block {W : World} {base : Nat} {e : TypeId} {size : Nat} {v : Value} {k : Nat} {xs : List Value} (h : W.ownsRow base e size v k xs) {g : Nat} (hg : v.ownBlock = some g) : base ≤ g ∧ ∃ cur, W.heap[g]? = some (.cells cur e (0, 0)) := by
  rcases h.2 with ⟨rfl, _⟩ | ⟨g', cap, cur, rfl, hb, hgb, _⟩
  · simp [Value.ownBlock] at hg
  · have : g' = g := by simpa [Value.ownBlock] using hg
    subst this
    exact ⟨hb, cur, hgb⟩
theorem append_box {W w3 : World} {b : Nat} {v : Value} {t : TypeId} {o : Obj} (h : W.heap[b]? = some (.cells #[v] t (0, 0))) (hs : v.ownBlock ≠ some b) (hg : (W.alloc o).grownBy w3 v.ownBlock) : w3.heap[b]? = some (.cells #[v] t (0, 0)) := by
  have t1 : Turn v.ownBlock.toList (W.alloc o) w3 := (Turn.refl _ _).grown hg (by intro k hk; exact .inl (by simp [hk]))
  refine t1.heap (((Turn.refl [] W).alloc o).heap h (by simp)) ?_
  intro e
  exact hs (by simpa using e)
theorem Tryz.infoS : (Tryz.prog.info? 9).map (fun i => (i.zero, i.size, i.bytes)) = some (some (.string ⟨#[]⟩), 1, 16) := by kernel_rfl

section
variable {w w' : World} {base d : Nat} {F : List Nat} {A A' : DA} {mref : Option Nat} {ms : List FileM}

/-- How the world stands between two rounds. -/
def ListI (w : World) (A : DA) (pre : List (NameIn A)) (W : World) : Prop :=
  ∃ v, W.heap[w.heap.size]? = some (.cells #[v] 86 (0, 0)) ∧ W.ownsRow w.heap.size 9 1 v pre.length (pre.map (fun x => encStr x.1)) ∧ Turn [] w W

set_option maxHeartbeats 2000000 in
theorem appendSeq_any (h : Parts w base d F A mref ms) (s : ByteArray) (hs : s.size ≤ maxLen) (B1 B2 : Nat) (hB1 : w.heap[B1]? = some (.cells #[.pointer (some ⟨d, 0, none⟩)] 24 (0, 0))) (hB2 : w.heap[B2]? = some (.cells #[.string s] 9 (0, 0))) :
    Calls Tryz.prog 134 #[.slice none 0 0, .func (.func 93) #[] #[.pointer (some ⟨B1, 0, none⟩), .pointer (some ⟨B2, 0, none⟩)]] w fun e w' =>
      ∃ v, e = .returned v ∧ w'.ownsRow w.heap.size 9 1 v (namesAt A s.data.toList).length ((namesAt A s.data.toList).map (fun x => encStr x.1)) ∧ Turn [] w w' := by
  refine (callsIn_wide (n := 7)).1 ?_
  have H : Hid (Parts w base d F A mref ms) := h
  have hcount := h.good.count
  clear h
  refine callsIn_of_wp_marks Tryz.func134 rfl trivial ?_ rfl
  simp only [Tryz.ntmps134, List.size_toArray, List.length_cons, List.length_nil, Nat.reduceAdd, Nat.reduceSub, Array.replicate_succ, Array.replicate_zero, List.push_toArray, List.append_toArray, List.nil_append, List.cons_append]
  gi_wp2
  obtain ⟨W1, hW1⟩ : ∃ W1, w.alloc (.cells #[.slice none 0 0] 86) = W1 := ⟨_, rfl⟩
  rw [hW1]
  have hs1 : W1.heap.size = w.heap.size + 1 := by rw [← hW1]; simp
  have t1 : Turn [] w W1 := by rw [← hW1]; exact (Turn.refl _ _).alloc _
  have hbox : W1.heap[w.heap.size]? = some (.cells #[.slice none 0 0] 86 (0, 0)) := by rw [← hW1]; exact heap_new w _
  have hb1 : W1.heap[B1]? = _ := t1.heap hB1 (by simp)
  have hb2 : W1.heap[B2]? = _ := t1.heap hB2 (by simp)
  have hP1 := H.out.kept t1 (by simp)
  have hB2l : B2 < w.heap.size := lt_of_heap hB2
  have hseq := iter_stopsK hP1 s hs B1 B2 hb1 hb2 (KpR w.heap.size) (KpR.refl _) kpR_t (fun W0 W W' k cs t fr hb0 hb hk hkp hc => by
    have e1 : W.heap[w.heap.size]? = some (.cells #[.slice none 0 0] 86 (0, 0)) := by
      have h0 := hb0.block w.heap.size (by omega)
      have h1 := hb.block w.heap.size (by have := hb0.size; omega)
      rw [h1, h0]; exact hbox
    refine hkp.cells k cs t fr hc ?_ ?_
    · have := hb0.size
      rcases hk with rfl | hk <;> omega
    · rw [ownOf_box e1]; simp [Value.ownBlock])
  have HSeq : Hid (SeqStopsK Fence.wide 6 Tryz.prog 93 #[.pointer (some ⟨B1, 0, none⟩), .pointer (some ⟨B2, 0, none⟩)] (fun x : NameIn A => #[encStr x.1]) (KpR w.heap.size)
      (fun xs => xs = namesAt A s.data.toList) (fun pre => pre <+: namesAt A s.data.toList) (namesAt A s.data.toList).length W1) := hseq
  have HI : Hid (ListI w A [] W1) := ⟨_, hbox, World.ownsRow_nil _ _ _ _, t1⟩
  have hnl : (namesAt A s.data.toList).length ≤ 200 := by
    have h2 : (namesAt A s.data.toList).length ≤ (sortedN A).attach.length := List.length_filter_le _ _
    rw [List.length_attach, sortedN_len] at h2
    omega
  clear hseq hbox hb1 hb2 hP1 hW1 t1
  refine wpIn_rangeFunc_ownG rfl (by omega) (gf := 93) (lb := #[.pointer (some ⟨B1, 0, none⟩), .pointer (some ⟨B2, 0, none⟩)]) rfl trivial (enters_of Tryz.func93 (by kernel_rfl) rfl)
    HSeq.out (fun h k => kpR_t h k) (fun W l o o' h1 h2 h3 h4 => kpR_b (w := W1) (by omega) W l o o' h1 h2 h3 h4) (Below.refl _ _) (fun _ => rfl)
    (ListI w A) (fun _ _ _ => False) ?own (fun _ _ _ _ _ hs _ _ => hs) HI.out
    (fun x => { tmps := #[.slice none 0 0, .func (.func 93) #[] #[.pointer (some ⟨B1, 0, none⟩), .pointer (some ⟨B2, 0, none⟩)], .pointer (some ⟨w.heap.size, 0, none⟩), undef, .slice none 0 0, encStr x.1, .func (.func 93) #[] #[.pointer (some ⟨B1, 0, none⟩), .pointer (some ⟨B2, 0, none⟩)], encStr x.1, undef, undef, undef, undef, undef], defers := [] }) ?assign ?body ?done ?stop
  case own =>
    rintro pre X Y row ⟨v, hv, hr, ht⟩ hg hrow
    have t : Turn row.toList X Y := (Turn.refl _ _).grown hg (by intro k hk; exact .inl (by simp [hk]))
    refine ⟨v, t.heap hv (fun e => ?_), ownsRow_cells hr hg (fun r e => (hrow r e).2), ht.trans t (fun k hk => .inr ?_)⟩
    · obtain ⟨o, ho, hw⟩ := (hrow _ (by simpa using e)).2
      rw [hv] at ho; cases ho; cases hw
    · have := (hrow k (by simpa using hk)).1
      omega
  case assign =>
    intro l x W K hK
    gi_wp2
    exact hK
  case body =>
    rintro l pre x W ⟨v, hv, hr, ht⟩ hlen
    obtain ⟨i0, hi, hz0, hz1, hz2⟩ := info_parts Tryz.infoS
    have cb : W.cell? ⟨w.heap.size, 0, none⟩ = some v := by rw [cell_of hv]; rfl
    have hle := ht.size
    have hvl := lt_of_heap hv
    have HV : Hid (W.heap[w.heap.size]? = some (.cells #[v] 86 (0, 0))) := hv
    have HT : Hid (Turn [] w W) := ht
    have hsep := ownsRow_sep hr hv (by decide)
    have HS : Hid (v.ownBlock ≠ some w.heap.size) := hsep
    clear hv ht hsep
    gi_wp2_with (first
      | (gi_at_builtin; refine wpListIn_append_own_at _ rfl _ _ 86 rfl w.heap.size 9 i0 (.string ⟨#[]⟩) 1 16 Tryz.underlying86 hi hz0 hz1 hz2 rfl (by decide) _ _ _ rfl (hr.alloc _) ⟨W.heap.size, 0, none⟩ 1 1 [encStr x.1] rfl rfl (cell_one_new _ _ _) (by simp [Value.oneCell', encStr]) (by simp only [maxLen]; omega) (by omega) (by simp; omega) ?_; intro v' w3 hown' hg3 hnil3 hob3; obtain ⟨a3, n3, c3, rfl⟩ := ownsRow_slice hown')
      | gi_in)
    all_goals
      have HB3 : Hid (w3.heap[w.heap.size]? = some (.cells #[v] 86 (0, 0))) := append_box HV.out HS.out hg3
      have cb3 : w3.cell? ⟨w.heap.size, 0, none⟩ = some v := by rw [cell_of HB3.out]; rfl
      have ff3 : w3.frozen? ⟨w.heap.size, 0, none⟩ = false := frozen_of HB3.out 0
      have HR : Hid (W.ownsRow w.heap.size 9 1 v pre.length (pre.map (fun x => encStr x.1))) := hr
      have HG3 : Hid ((W.alloc (.cells #[encStr x.1] 9)).grownBy w3 v.ownBlock) := hg3
      have HO : Hid (w3.ownsRow w.heap.size 9 1 (.slice a3 n3 c3) (pre.length + 1) (pre.map (fun x => encStr x.1) ++ [encStr x.1])) := hown'
      have HOB : Hid ((Value.slice a3 n3 c3).ownBlock = v.ownBlock ∨ (Value.slice a3 n3 c3).ownBlock = some (W.alloc (.cells #[encStr x.1] 9)).heap.size) := hob3
      clear hr hown' hg3 hnil3 hob3
      first
        | (exfalso; have e : w3.frozen? ⟨w.heap.size, 0, none⟩ = true := (by assumption); rw [ff3] at e; cases e; done)
        | (exfalso; have e : w3.cell? ⟨w.heap.size, 0, none⟩ = none := (by assumption); rw [cb3] at e; cases e; done)
        | skip
    have t3 : Turn v.ownBlock.toList W w3 := ((Turn.refl _ W).alloc _).grown HG3.out (by intro k hk; exact .inl (by simp [hk]))
    have t4 : Turn (w.heap.size :: v.ownBlock.toList) W (w3.setCell ⟨w.heap.size, 0, none⟩ (.slice a3 n3 c3)) := (t3.mono (by intro k hk; exact .inl (by simp only [List.mem_cons]; exact .inr hk))).setCell (by simp) _
    have hbox4 : (w3.setCell ⟨w.heap.size, 0, none⟩ (.slice a3 n3 c3)).heap[w.heap.size]? = some (.cells #[.slice a3 n3 c3] 86 (0, 0)) := by rw [heap_set HB3.out]; simp
    refine ⟨⟨t4.size, fun k o hB hk ho => t4.heap hk (fun e => ?_)⟩, ⟨t4.size, fun k cs t fr hk hn ho => t4.heap hk (fun e => ?_), ?_⟩, .slice a3 n3 c3, hbox4, ?_, HT.out.trans t4 (fun k hk => ?_)⟩
    · simp only [List.mem_cons, Option.mem_toList] at e
      rcases e with rfl | e
      · omega
      · obtain ⟨_, cur, hc⟩ := ownsRow_block HR.out e
        rw [hk] at hc; cases hc; cases ho
    · simp only [List.mem_cons, Option.mem_toList] at e
      rcases e with rfl | e
      · exact hn rfl
      · rw [ownOf_box HV.out] at ho
        exact ho e
    · rw [ownOf_box hbox4, ownOf_box HV.out]
      rcases HOB.out with h1 | h1
      · exact .inl h1
      · exact .inr ⟨_, h1, by simp⟩
    · have hq := HO.out.kept (((Turn.refl [w.heap.size] w3).setCell (p := ⟨w.heap.size, 0, none⟩) (by simp) (.slice a3 n3 c3)).grownBy (k := w.heap.size) (by simp)) (.inr (ownsRow_sep HO.out HB3.out (by decide)))
      simpa using hq
    · simp only [List.mem_cons, Option.mem_toList] at hk
      rcases hk with rfl | hk
      · exact .inr (Nat.le_refl _)
      · exact .inr (ownsRow_block HR.out hk).1
  case done =>
    rintro D xs W hD rfl ⟨v, hv, hr, ht⟩ hK
    have cb : W.cell? ⟨w.heap.size, 0, none⟩ = some v := by rw [cell_of hv]; rfl
    gi_wp2
    refine ⟨by simp, .inl ⟨_, _, rfl, run_takeDeferred hK, ?_⟩⟩
    have tD : Turn [D] W (W.putObj D (.deferred none)) := ⟨rfl, rfl, rfl, by simp, fun k _ hn => World.putObj_heap_other (by simpa using hn)⟩
    refine ⟨v, ?_, v, rfl, ownsRow_cells hr (tD.grownBy (k := D) (by simp)) (fun r e => by cases e; exact ⟨_, hK, rfl⟩), ht.trans tD (fun k hk => ?_)⟩
    · simp [results, Tryz.f134, go_sem]
    · simp only [List.mem_singleton] at hk
      exact .inr (by omega)
  case stop =>
    rintro D c pre W hD _ h _
    exact h.elim

theorem collect_any (h : Parts w base d F A mref ms) (s : ByteArray) (hs : s.size ≤ maxLen) (B1 B2 : Nat) (hB1 : w.heap[B1]? = some (.cells #[.pointer (some ⟨d, 0, none⟩)] 24 (0, 0))) (hB2 : w.heap[B2]? = some (.cells #[.string s] 9 (0, 0))) :
    Calls Tryz.prog 105 #[.func (.func 93) #[] #[.pointer (some ⟨B1, 0, none⟩), .pointer (some ⟨B2, 0, none⟩)]] w fun e w' =>
      ∃ v, e = .returned v ∧ w'.ownsRow w.heap.size 9 1 v (namesAt A s.data.toList).length ((namesAt A s.data.toList).map (fun x => encStr x.1)) ∧ Turn [] w w' := by
  have HC : Hid (Calls Tryz.prog 134 #[.slice none 0 0, .func (.func 93) #[] #[.pointer (some ⟨B1, 0, none⟩), .pointer (some ⟨B2, 0, none⟩)]] w fun e w' =>
      ∃ v, e = .returned v ∧ w'.ownsRow w.heap.size 9 1 v (namesAt A s.data.toList).length ((namesAt A s.data.toList).map (fun x => encStr x.1)) ∧ Turn [] w w') := appendSeq_any h s hs B1 B2 hB1 hB2
  clear h hB1 hB2
  go_enter Tryz.func105, Tryz.ntmps105
  go_wp2_with fail
  refine HC.out.mono ?_
  rintro e w' ⟨v, rfl, hr, ht⟩
  go_wp2
  go_ret
  exact ⟨v, rfl, hr, ht⟩

theorem list_any (h : Parts w base d F A mref ms) (s : ByteArray) (hs : s.size ≤ maxLen) :
    Calls Tryz.prog 70 #[.pointer (some ⟨d, 0, none⟩), .string s] w fun e w' =>
      ∃ v, e = .returned v ∧ w'.ownsRow w.heap.size 9 1 v (namesOf A s.data.toList).length ((namesOf A s.data.toList).map encStr) ∧ Turn [] w w' := by
  have H : Hid (Parts w base d F A mref ms) := h
  clear h
  go_enter Tryz.func70, Tryz.ntmps70
  go_wp2_with fail
  refine (callsIn_wide.1 (names_in d s w)).mono ?_
  rintro e w' ⟨rfl, rfl⟩
  go_wp2_with fail
  have t2 : Turn [] w ((w.alloc (.cells #[.pointer (some ⟨d, 0, none⟩)] 24)).alloc (.cells #[.string s] 9)) := ((Turn.refl [] w).alloc _).alloc _
  have e1 : ((w.alloc (.cells #[.pointer (some ⟨d, 0, none⟩)] 24)).alloc (.cells #[.string s] 9)).heap[w.heap.size]? = some (.cells #[.pointer (some ⟨d, 0, none⟩)] 24 (0, 0)) := by
    rw [Below.heap_alloc _ _ _ (by simp)]; exact heap_new w _
  have e2 : ((w.alloc (.cells #[.pointer (some ⟨d, 0, none⟩)] 24)).alloc (.cells #[.string s] 9)).heap[w.heap.size + 1]? = some (.cells #[.string s] 9 (0, 0)) := by
    have := heap_new (w.alloc (.cells #[.pointer (some ⟨d, 0, none⟩)] 24)) (.cells #[.string s] 9)
    rwa [World.size_alloc] at this
  refine (collect_any (H.out.kept t2 (by simp)) s hs w.heap.size (w.heap.size + 1) e1 e2).mono ?_
  rintro e w' ⟨v, rfl, hr, ht⟩
  go_wp2
  go_ret
  refine ⟨v, rfl, ?_, t2.trans ht (by simp)⟩
  rw [← namesAt_val, List.map_map, List.length_map]
  exact ⟨hr.1, hr.2.imp id (fun ⟨g, cap, cur, h1, h2, h3⟩ => ⟨g, cap, cur, h1, by simp at h2; omega, h3⟩)⟩
end

end Go.Proofs.YthbhfhagbaommaaGreatDoor.Dk

/- slices.Sort of no ints. -/
namespace Go.Proofs.YthbhfhagbaommaaGreatDoor.Lg
open Go.RowKit Go.Maps
set_option maxRecDepth 100000
set_option linter.unusedSimpArgs false
set_option linter.unusedVariables false
attribute [local go_sem] Oper.semAt_some
theorem insert_none (p : Option Addr) (cap : Nat) (w : World) : Calls Tryz.prog 135 #[.slice p 0 cap, .int .i64 0, .int .i64 0] w fun e w' => e = .returned (.tuple #[]) ∧ Turn [] w w' := by
  go_enter Tryz.func135, Tryz.ntmps135
  go_wp2
  refine wp_loop_rounds 1 ?_
  rw [rounds_succ]
  go_wp2
  go_end0
  exact ⟨rfl, Turn.refl _ _⟩
theorem pdq_none (p : Option Addr) (cap : Nat) (k : Int) (w : World) : Calls Tryz.prog 106 #[.slice p 0 cap, .int .i64 0, .int .i64 0, .int .i64 k] w fun e w' => e = .returned (.tuple #[]) ∧ Turn [] w w' := by
  go_enter Tryz.func106, Tryz.ntmps106
  go_wp2
  refine wp_loop_rounds 1 ?_
  rw [rounds_succ]
  go_wp2_with fail
  refine (insert_none p cap _).mono ?_
  rintro e w' ⟨rfl, ht⟩
  go_wp2
  refine bodyPost_ret (results_none rfl _ _ _) rfl ?_
  exact ⟨rfl, ht⟩
theorem len64_0 (w : World) : Calls Tryz.prog 145 #[.int .u64 0] w fun e w' => e = .returned (.int .i64 0) ∧ Turn [] w w' := by
  go_enter Tryz.func145, Tryz.ntmps145
  go_wp2
  go_ret
  exact ⟨by kernel_rfl, Turn.refl _ _⟩
theorem len_0 (w : World) : Calls Tryz.prog 107 #[.int .u64 0] w fun e w' => e = .returned (.int .i64 0) ∧ Turn [] w w' := by
  go_enter Tryz.func107, Tryz.ntmps107
  go_wp2_with fail
  refine (len64_0 _).mono ?_
  rintro e w' ⟨rfl, ht⟩
  go_wp2
  go_ret
  exact ⟨rfl, ht⟩
theorem sort_none (p : Option Addr) (cap : Nat) (w : World) : Calls Tryz.prog 71 #[.slice p 0 cap] w fun e w' => e = .returned (.tuple #[]) ∧ Turn [] w w' := by
  go_enter Tryz.func71, Tryz.ntmps71
  go_wp2_with fail
  refine (len_0 _).mono ?_
  rintro e w' ⟨rfl, ht⟩
  go_wp2_with fail
  refine (pdq_none p cap _ _).mono ?_
  rintro e w' ⟨rfl, ht2⟩
  go_wp2
  go_end0
  exact ⟨rfl, ht.same ht2⟩
end Go.Proofs.YthbhfhagbaommaaGreatDoor.Lg

/- A log of a directory without files; what find does there; the laws' directory. -/
namespace Go.Proofs.YthbhfhagbaommaaGreatDoor.Lg
open Go.RowKit Go.Maps
set_option maxRecDepth 100000
set_option linter.unusedSimpArgs false
set_option linter.unusedVariables false
attribute [local go_sem] Oper.semAt_some
open Dk (DA DiskAt Parts Did errR errV)
open Sg (SegAt sfoot pls Both Came nextOf flat Chain)

/-- The directory of the laws. -/
def dirP : ByteArray := ⟨#[112]⟩
theorem nameP_ok (n : Nat) (hn : n ≤ 1099511627776) : Dk.nameB (Sn.nameB dirP n) = true := by
  have hd : ∀ c ∈ Sn.pad (Lib.decDigits n), Dk.nb8 c = true := by
    intro c hc
    have h := Sn.pad_digit n c hc
    unfold Dk.nb8 Dk.nb
    rw [decide_eq_true_eq]
    omega
  have hl := Sn.dec_short hn
  have hsz : (Sn.nameB dirP n).size = (Sn.nameL [112] n).length := by rw [Lib.size_eq]; rfl
  have hlen : (Sn.nameL [112] n).length ≤ 40 ∧ 1 ≤ (Sn.nameL [112] n).length := by
    unfold Sn.nameL Sn.pad
    simp
    omega
  unfold Dk.nameB
  rw [hsz]
  have ha : Dk.allB Dk.nb8 (Sn.nameB dirP n) = true := by
    unfold Dk.allB
    show (Sn.nameL [112] n).all Dk.nb8 = true
    rw [List.all_eq_true]
    intro c hc
    unfold Sn.nameL at hc
    simp only [List.mem_append, List.mem_cons, List.mem_nil_iff, or_false] at hc
    rcases hc with ((rfl | rfl) | hc) | hc
    · decide
    · decide
    · exact hd c hc
    · rcases hc with rfl | rfl | rfl | rfl <;> decide
  rw [ha]
  simp [hlen]
theorem rec_kind {w : World} {base d lb : Nat} {F : List Nat} {A : DA} {gv : Value} {dir : ByteArray} {v : LV} {ms : List SM} (h : LogAt w base d F A lb gv dir v ms) {base' : Nat} {sv : Value} {xs : List Bt.Rec} (hr : GRow 42 6 recC w base' sv xs) : ∀ k ∈ sv.ownBlock, k ∉ lfoot F lb gv ms := by
  intro k hk hm
  obtain ⟨cs, e⟩ := hr.kind k hk
  rcases mem_lfoot.1 hm with rfl | hm | ⟨x, hx, hm⟩ | hm
  · exact ne_of_type h.box e (by decide) rfl
  · obtain ⟨cs', e'⟩ := h.row.kind k hm
    exact ne_of_type e' e (by decide) rfl
  · obtain ⟨cs', T, e', hT⟩ := seg_kind (h.segs x hx) k hm
    rcases hT with rfl | rfl <;> exact ne_of_type e' e (by decide) rfl
  · rcases disk_kind h.disk hm e with e | e | e <;> exact absurd e (by decide)
/-- A log of one empty segment on an empty disk. -/
theorem GInv.first (room st : Nat) (hs : st ≤ 1099511627776) : ((DA.empty room).make (Sn.nameB dirP st)).1 = 0 ∧ (((DA.empty room).make (Sn.nameB dirP st)).2.sync (Sn.nameB dirP st).data.toList).1 = 0 ∧
    GInv (((DA.empty room).make (Sn.nameB dirP st)).2.sync (Sn.nameB dirP st).data.toList).2 room dirP st st [] (st, []) := by
  have h0 : LogDisk (DA.empty room) room dirP [] := ⟨rfl, rfl, rfl, by simp, by simp⟩
  obtain ⟨h1, h2⟩ := h0.make hs (by simp) (nameP_ok st hs) (by simp)
  obtain ⟨h3, h4⟩ := LogDisk.sync (ss0 := []) (m := (st, [])) h2
  exact ⟨h1, h3, ⟨h4, by simp [Chain], by simp [batsL, Chain], by simp [nextOf], by simp [batsL], by simp, Nat.le_refl _, Nat.le_refl _, by simp⟩⟩

set_option maxHeartbeats 400000 in
theorem files_none (w : World) (base d : Nat) (F : List Nat) (A : DA) (lb : Nat) (gv : Value) (dir : ByteArray) (v : LV) (ms : List SM) (h : LogAt w base d F A lb gv dir v ms) (hdir : dir.size ≤ 1000) (hn : Dk.namesOf A (dir ++ ⟨#[47]⟩ : ByteArray).data.toList = []) :
    Calls Tryz.prog 42 #[.pointer (some ⟨lb, 0, none⟩)] w fun e w' => ∃ a c, e = .returned (.slice a 0 c) ∧ Turn [] w w' := by
  have H := hide h
  have HN := hide hn
  clear h hn
  go_enter Tryz.func42, Tryz.ntmps42
  go_wp2
  refine wp_region_tail 9 (Turn []) (by kernel_rfl) (by kernel_rfl) (by kernel_rfl) (by kernel_rfl) (by kernel_rfl) (Nat.le_of_ble_eq_true rfl) rfl (Turn.refl _) (fun _ _ _ h k => h.same k) ?_
  apply Lo.runx 1 rfl rfl [] (by kernel_rfl) (Turn.refl _)
  apply Exists.intro; apply And.intro
  · intro u w1 hR hF
    clear hF
    refine ⟨rfl, fun a ha K hK => ?_⟩
    have e0 := ha 0
    conv at e0 => rhs; whnf
    clear ha
    go_simp
    refine hK _ ?_; rfl
  apply Lo.runx 2 rfl rfl [0] (by kernel_rfl) (Turn.refl _)
  apply Exists.intro; apply And.intro
  · intro u w1 hR hF
    obtain ⟨h0, -⟩ := hF
    refine ⟨rfl, fun a ha K hK => ?_⟩
    have e10 := (ha 10).trans h0
    clear ha h0
    go_simp
    refine hK _ ?_; rfl
  apply Lo.runx 3 rfl rfl [1] (by kernel_rfl) (Turn.refl _)
  apply Exists.intro; apply And.intro
  · intro u w1 hR hF
    obtain ⟨h1, -⟩ := hF
    refine ⟨rfl, fun a ha K hK => ?_⟩
    have e11 := (ha 11).trans h1
    clear ha h1
    go_simp
    refine hK _ ?_; rfl
  apply Lo.runx 4 rfl rfl [2] (by kernel_rfl) (Turn.refl _)
  apply Exists.intro; apply And.intro
  · intro u w1 hR hF
    obtain ⟨h2, -⟩ := hF
    refine ⟨rfl, fun a ha K hK => ?_⟩
    have e12 := (ha 12).trans h2
    clear ha h2
    have hL := H.out.still (((Turn.refl [] _).drew).same hR)
    have c0 := hL.c0
    have z1 := lt_of_heap hL.box
    go_simp
    refine hK _ ?_; rfl
  apply Lo.runx 5 rfl rfl [] (by kernel_rfl) (Turn.refl _)
  apply Exists.intro; apply And.intro
  · intro u w1 hR hF
    clear hF
    refine ⟨rfl, fun a ha K hK => ?_⟩
    have e0 := ha 0
    conv at e0 => rhs; whnf
    clear ha
    go_simp
    refine hK _ ?_; rfl
  apply Lo.runx 6 rfl rfl [4] (by kernel_rfl) (Turn.refl _)
  apply Exists.intro; apply And.intro
  · intro u w1 hR hF
    obtain ⟨h4, -⟩ := hF
    refine ⟨rfl, fun a ha K hK => ?_⟩
    have e14 := (ha 14).trans h4
    clear ha h4
    go_simp
    refine hK _ ?_; rfl
  apply Lo.runx 7 rfl rfl [5] (by kernel_rfl) (Turn.refl _)
  apply Exists.intro; apply And.intro
  · intro u w1 hR hF
    obtain ⟨h5, -⟩ := hF
    refine ⟨rfl, fun a ha K hK => ?_⟩
    have e15 := (ha 15).trans h5
    clear ha h5
    go_simp
    refine hK _ ?_; rfl
  apply Lo.runx 8 rfl rfl [6] (by kernel_rfl) (Turn.refl _)
  apply Exists.intro; apply And.intro
  · intro u w1 hR hF
    obtain ⟨h6, -⟩ := hF
    refine ⟨rfl, fun a ha K hK => ?_⟩
    have e16 := (ha 16).trans h6
    clear ha h6
    have hL := H.out.still (((Turn.refl [] _).drew).same hR)
    have c1 := hL.c1
    have z1 := lt_of_heap hL.box
    go_simp
    refine hK _ ?_; rfl
  refine Lo.runv 9 rfl rfl [7] (.string (dir ++ ⟨#[47]⟩)) (by kernel_rfl) (fun u w1 hR hF => ?_) (Turn.refl _) ?_
  · obtain ⟨h7, -⟩ := hF
    refine ⟨rfl, fun a ha K hK => ?_⟩
    have e17 := (ha 17).trans h7
    clear ha h7
    have hsz : ¬ (9223372036854775807 < dir.size + 1) := by omega
    go_simp
    refine hK _ ?_
    rfl
  refine Lo.done [3, 8] (fun u w1 hRd hSd hF => ?_)
  clear hSd
  obtain ⟨f3, f8, -⟩ := hF
  have d3 : u 3 = _ := f3
  have d8 : u 8 = _ := f8
  clear f3 f8
  simp only [List.take_succ_cons, List.take_zero, List.drop_succ_cons, List.drop_zero, putFrom, Act.put, List.setIfInBounds_toArray, List.set_cons_succ, List.set_cons_zero, Nat.zero_add, Nat.reduceAdd, d3, d8]
  have HT := hide (((Turn.refl [] w).drew).same hRd)
  clear d3 d8 hRd
  obtain ⟨mref, msd, hp⟩ := H.out.disk.kept HT.out (by simp)
  have hsz : (dir ++ ⟨#[47]⟩ : ByteArray).size ≤ maxLen := by
    rw [show (dir ++ ⟨#[47]⟩ : ByteArray).size = dir.size + 1 from ByteArray.size_append]
    simp only [maxLen]
    omega
  have hli := Dk.list_any hp (dir ++ ⟨#[47]⟩ : ByteArray) hsz
  rw [HN.out] at hli
  have HLI := hide hli
  clear hli hp hsz
  go_wp2_with fail
  refine HLI.out.mono ?_
  rintro e w2 ⟨v1, rfl, hr, ht1⟩
  have hv1 : ∃ a c, v1 = .slice a 0 c := by
    rcases hr.2 with ⟨rfl, -⟩ | ⟨g, cap, cur, rfl, -⟩
    · exact ⟨_, _, rfl⟩
    · exact ⟨_, _, rfl⟩
  obtain ⟨a1, c1, rfl⟩ := hv1
  have HT1 := hide (HT.out.same ht1)
  clear hr ht1 HLI
  go_wp2
  refine wp_loop_rounds 1 ?_
  rw [rounds_succ]
  go_wp2_with fail
  refine (sort_none none 0 _).mono ?_
  rintro e w3 ⟨rfl, ht3⟩
  have HT3 := hide (HT1.out.same ht3)
  clear ht3
  go_wp2
  refine wp_loop_rounds 1 ?_
  rw [rounds_succ]
  go_wp2
  go_ret
  exact ⟨_, _, rfl, HT3.out⟩
set_option maxHeartbeats 400000 in
theorem find_none (w : World) (base d : Nat) (F : List Nat) (A : DA) (lb : Nat) (gv : Value) (dir : ByteArray) (v : LV) (ms : List SM) (h : LogAt w base d F A lb gv dir v ms) (hdir : dir.size ≤ 1000) (hn : Dk.namesOf A (dir ++ ⟨#[47]⟩ : ByteArray).data.toList = []) :
    Calls Tryz.prog 19 #[.pointer (some ⟨lb, 0, none⟩)] w fun e w' => e = .returned .nilIface ∧ Turn [] w w' := by
  have hf := files_none w base d F A lb gv dir v ms h hdir hn
  clear h hn
  have HF := hide hf
  clear hf
  go_enter Tryz.func19, Tryz.ntmps19
  go_wp2_with fail
  refine HF.out.mono ?_
  rintro e w1 ⟨a, c, rfl, ht⟩
  have HT := hide ht
  clear ht HF
  go_wp2
  refine wp_loop_rounds 1 ?_
  rw [rounds_succ]
  go_wp2
  go_ret
  exact ⟨rfl, HT.out⟩
/-- A new disk has no names. -/
theorem names_empty (room : Nat) (bg : List UInt8) : Dk.namesOf (DA.empty room) bg = [] := by
  have h : Dk.sortedN (DA.empty room) = [] := by
    have := Dk.sortedN_len (DA.empty room)
    exact List.eq_nil_of_length_eq_zero this
  unfold Dk.namesOf
  rw [h]
  rfl
end Go.Proofs.YthbhfhagbaommaaGreatDoor.Lg

/- The names of the laws' directory. No program. -/
namespace Go.Proofs.YthbhfhagbaommaaGreatDoor.Lg
open Go.RowKit Go.Maps
set_option linter.unusedSimpArgs false
set_option linter.unusedVariables false
open Dk (DA FA usedL)

theorem trim_back (X s : List UInt8) : Lib.trimSuffix (X ++ s) s = X := by
  unfold Lib.trimSuffix
  rw [if_pos (by unfold Lib.hasSuffix; simp)]
  simp
theorem besideP_ok (n : Nat) (hn : n ≤ 1099511627776) : Dk.nameB (besideB (Sn.nameB dirP n)) = true := by
  have h := nameP_ok n hn
  unfold Dk.nameB at h ⊢
  simp only [Bool.and_eq_true, decide_eq_true_eq] at h ⊢
  obtain ⟨h1, h2, h3⟩ := h
  have e1 : (besideB (Sn.nameB dirP n)).data.toList = (Lib.trimSuffix (Sn.nameB dirP n).data.toList [46, 108, 111, 103]) ++ [46, 110, 101, 119] := by
    unfold besideB
    simp [ByteArray.data_append]
  have e2 : (Sn.nameB dirP n).data.toList = (dirP.data.toList ++ [47] ++ Sn.pad (Lib.decDigits n)) ++ [46, 108, 111, 103] := by
    unfold Sn.nameB Sn.nameL
    simp
  have e3 : Lib.trimSuffix (Sn.nameB dirP n).data.toList [46, 108, 111, 103] = dirP.data.toList ++ [47] ++ Sn.pad (Lib.decDigits n) := by
    rw [e2]
    exact trim_back _ _
  have hsz : (besideB (Sn.nameB dirP n)).size = (Sn.nameB dirP n).size := by
    rw [Lib.size_eq, Lib.size_eq, e1, e3, e2]
    simp
  refine ⟨?_, by omega, by omega⟩
  unfold Dk.allB at h1 ⊢
  rw [e2, List.all_append] at h1
  rw [e1, e3, List.all_append]
  simp only [Bool.and_eq_true] at h1 ⊢
  exact ⟨h1.1, by decide⟩
end Go.Proofs.YthbhfhagbaommaaGreatDoor.Lg

/- A log on a disk that does not fail, its files in whatever order: what Compact comes to. No program. -/
namespace Go.Proofs.YthbhfhagbaommaaGreatDoor.Lg
open Go.RowKit Go.Maps
set_option linter.unusedSimpArgs false
set_option linter.unusedVariables false
open Dk (DA FA usedL)
open Sg (Chain flat nextOf)

structure PInv (A : DA) (room : Nat) (dir : ByteArray) (st n : Nat) (ss0 : List (Nat × List Bt.Bat)) (m : Nat × List Bt.Bat) : Prop where
  disk : LogP A room dir (ss0 ++ [m])
  chains : ∀ p ∈ ss0 ++ [m], Chain p.1 p.2
  chain : Chain st (batsL (ss0 ++ [m]))
  next : nextOf m.1 m.2 = n
  fins : ∀ x ∈ batsL (ss0 ++ [m]), x.fin ≤ n
  st : st ≤ n
theorem GInv.p {A : DA} {room : Nat} {dir : ByteArray} {st n : Nat} {ss0 : List (Nat × List Bt.Bat)} {m : Nat × List Bt.Bat} (h : GInv A room dir st n ss0 m) : PInv A room dir st n ss0 m := ⟨h.disk.p, h.chains, h.chain, h.next, h.fins, h.st⟩
theorem file_bytes {A : DA} {nm b : List UInt8} (h : bytesAt A nm = some b) : ∃ f, A.file nm = some f ∧ f.bytes = b := by
  unfold bytesAt at h
  exact Option.map_eq_some_iff.1 h
theorem PInv.ok {A : DA} {room : Nat} {dir : ByteArray} {st n : Nat} {ss0 : List (Nat × List Bt.Bat)} {m : Nat × List Bt.Bat} (h : PInv A room dir st n ss0 m) (hl : (ss0 ++ [m]).length ≤ 1000) : OkS A dir (ss0 ++ [m]) :=
  ⟨h.disk.base, fun p hp => file_bytes (h.disk.bytes hp), h.chains, hl⟩
theorem sync_p {A : DA} {room : Nat} {dir : ByteArray} {ss : List (Nat × List Bt.Bat)} (h : LogP A room dir ss) {p : Nat × List Bt.Bat} (hp : p ∈ ss) : (A.sync (nmL dir p.1)).1 = 0 ∧ LogP (A.sync (nmL dir p.1)).2 room dir ss := by
  obtain ⟨f, hf, hb⟩ := file_bytes (h.bytes hp)
  have e : A.sync (nmL dir p.1) = (0, A.upd (nmL dir p.1) (fun f => { f with safe := f.bytes.length })) := by
    unfold DA.sync
    have h1 : A.has (nmL dir p.1) = true := by rw [Dk.has_file, hf]; rfl
    rw [fails_free h.lim, h1, if_neg (by simp), if_neg (by simp), tick_free h.lim]
  rw [e]
  refine ⟨rfl, h.lim, h.room, ?_, h.base, h.nd⟩
  have : (A.upd (nmL dir p.1) (fun f => { f with safe := f.bytes.length })).files.map (fun f => (f.name, f.bytes)) = A.files.map (fun f => (f.name, f.bytes)) := by
    unfold DA.upd Dk.setF
    simp only [List.map_map]
    apply List.map_congr_left
    intro x _
    simp only [Function.comp]
    split <;> rfl
  rw [this]
  exact h.files
theorem batsL_stay (f : List UInt8 → Int) (now age : Int) (ss : List (Nat × List Bt.Bat)) : batsL (ss.map (fun p => (p.1, p.2.map (stayB f now age)))) = (batsL ss).map (stayB f now age) := by
  induction ss with
  | nil => rfl
  | cons p r ih => rw [List.map_cons, batsL_cons, batsL_cons, List.map_append, ih]
theorem PInv.compact {A : DA} {room : Nat} {dir : ByteArray} {st n hi : Nat} {ss0 : List (Nat × List Bt.Bat)} {m : Nat × List Bt.Bat} (h : PInv A room dir st n ss0 m) (hok : ∀ n, n ≤ 1099511627776 → Dk.nameB (besideB (Sn.nameB dir n)) = true ∧ Dk.nameB (Sn.nameB dir n) = true) (hl : (ss0 ++ [m]).length < 200) (hf : (flat (batsL (ss0 ++ [m]))).length ≤ hi) (hr : 2 * hi ≤ room) (v : LV) (now age : Int) (f : List UInt8 → Int) (hfl : f = lastF (recsL (batsL (ss0 ++ [m])))) :
    ∃ A' v', CompactS A dir v ss0 m now age = (goneB f now age (batsL ss0), 0, A', v', ss0.map (fun p => (p.1, p.2.map (stayB f now age))) ++ [m]) ∧ v'.start = v.start ∧ v'.down = v.down ∧ PInv A' room dir st n (ss0.map (fun p => (p.1, p.2.map (stayB f now age)))) m ∧ (flat (batsL (ss0.map (fun p => (p.1, p.2.map (stayB f now age))) ++ [m]))).length ≤ hi := by
  obtain ⟨s1, s2⟩ := sync_p h.disk (p := m) (by simp)
  have hno : ∀ w : LV, noteV 0 w = w := fun w => by unfold noteV; rw [if_neg (by omega)]
  have hcs : ∀ p ∈ ss0, Chain p.1 p.2 := fun p hp => h.chains p (by simp [hp])
  obtain ⟨k1, k2, k3⟩ := comp_all (f := f) (now := now) (age := age) hok hi ss0 [] [m] (A.sync (nmL dir m.1)).2 (by simpa using s2) (by simpa using hl) hcs (by simpa using hf) hr
  have hch := h.chain
  rw [batsL_snoc, Sg.chain_append] at hch
  have hch2 : Chain st (batsL (ss0.map (fun p => (p.1, p.2.map (stayB f now age))) ++ [m])) := by
    rw [batsL_snoc, batsL_stay, Sg.chain_append, stay_next]
    exact ⟨stay_chain f now age hch.1, hch.2⟩
  have hsf := stay_flat f now age hch.1
  refine ⟨_, safeIf 0 v (nextOf m.1 m.2), ?_, ?_, ?_, ⟨by simpa using k2, fun p hp => ?_, hch2, h.next, fun x hx => ?_, h.st⟩, ?_⟩
  · unfold CompactS FlushS
    rw [show A.sync (Sn.nameB dir m.1).data.toList = A.sync (nmL dir m.1) from rfl, s1, if_neg (by simp), ← hfl]
    simp only
    rw [k1, k3, hno, hno]
  · unfold safeIf; split <;> rfl
  · unfold safeIf; split <;> rfl
  · rcases List.mem_append.1 hp with hp | hp
    · obtain ⟨q, hq, rfl⟩ := List.mem_map.1 hp
      exact stay_chain f now age (hcs q hq)
    · exact h.chains p (by simp [List.mem_singleton.1 hp])
  · rw [batsL_snoc, batsL_stay] at hx
    rcases List.mem_append.1 hx with hx | hx
    · obtain ⟨y, hy, rfl⟩ := List.mem_map.1 hx
      exact h.fins y (by rw [batsL_snoc]; exact List.mem_append_left _ hy)
    · exact h.fins x (by rw [batsL_snoc]; exact List.mem_append_right _ hx)
  · rw [batsL_snoc, Sg.flat_append, List.length_append] at hf ⊢
    rw [batsL_stay]
    omega
/-! ### what is told behind a Compact -/
theorem recsL_append (xs ys : List Bt.Bat) : recsL (xs ++ ys) = recsL xs ++ recsL ys := by unfold recsL; rw [List.flatMap_append]
theorem recs_stay (f : List UInt8 → Int) (now age : Int) (ss0 : List (Nat × List Bt.Bat)) (m : Nat × List Bt.Bat) : recsL (batsL (ss0.map (fun p => (p.1, p.2.map (stayB f now age))) ++ [m])) = staysL f now age (recsL (batsL ss0)) ++ recsL m.2 := by
  rw [batsL_snoc, batsL_stay, recsL_append, stay_recs]
theorem gone_twice {A : DA} {room : Nat} {dir : ByteArray} {n : Nat} {ss0 : List (Nat × List Bt.Bat)} {m : Nat × List Bt.Bat} (h : PInv A room dir 0 n ss0 m) (now age : Int) (f : List UInt8 → Int) (hfl : f = lastF (recsL (batsL (ss0 ++ [m])))) :
    goneB (lastF (recsL (batsL (ss0.map (fun p => (p.1, p.2.map (stayB f now age))) ++ [m])))) now age (batsL (ss0.map (fun p => (p.1, p.2.map (stayB f now age))))) = 0 := by
  have hs := recs_sorted h.chain
  have h0 := recs_ge h.chain
  rw [batsL_snoc, recsL_append] at hs h0
  have ht := stays_twice (now := now) (age := age) hs (fun r hr => by have := h0 r hr; omega)
  rw [batsL_snoc, recsL_append] at hfl
  rw [← hfl] at ht
  rw [recs_stay, batsL_stay]
  have hg := gone_recs (lastF (staysL f now age (recsL (batsL ss0)) ++ recsL m.2)) now age ((batsL ss0).map (stayB f now age))
  rw [stay_recs, ht] at hg
  omega
/-- What is left to be met: of the first so many. -/
def restL (f : List UInt8 → Int) (now age : Int) (P Q : List Bt.Rec) (i : Nat) : List Bt.Rec := staysL f now age (P.drop i) ++ Q.drop (i - P.length)
theorem rest_zero (f : List UInt8 → Int) (now age : Int) (P Q : List Bt.Rec) : restL f now age P Q 0 = staysL f now age P ++ Q := by unfold restL; simp
theorem rest_end (f : List UInt8 → Int) (now age : Int) (P Q : List Bt.Rec) : restL f now age P Q (P ++ Q).length = [] := by
  unfold restL
  rw [List.drop_of_length_le (by simp), List.drop_of_length_le (by simp)]
  rfl
theorem rest_step {f : List UInt8 → Int} {now age : Int} {P Q : List Bt.Rec} (hs : (P ++ Q).Pairwise (fun a b => a.off < b.off)) {i : Nat} (hi : i < (P ++ Q).length) :
    restL f now age P Q i = (P ++ Q)[i] :: restL f now age P Q (i + 1) ∨ (goesC f now age (P ++ Q)[i] = true ∧ restL f now age P Q i = restL f now age P Q (i + 1) ∧ ∀ x ∈ restL f now age P Q i, (P ++ Q)[i].off < x.off) := by
  rcases Nat.lt_or_ge i P.length with h | h
  · have he : (P ++ Q)[i] = P[i] := List.getElem_append_left h
    have hd := List.drop_eq_getElem_cons h
    rw [he]
    unfold restL
    rw [hd, show i - P.length = 0 by omega, show i + 1 - P.length = 0 by omega, List.drop_zero]
    unfold staysL
    rw [List.filter_cons]
    cases hg : goesC f now age P[i] with
    | false => exact .inl (by simp)
    | true =>
      refine .inr ⟨rfl, by simp, fun x hx => ?_⟩
      have hsub : (P[i] :: (P.drop (i + 1) ++ Q)).Pairwise (fun a b => a.off < b.off) := by
        have h1 : (P ++ Q).drop i = P[i] :: (P.drop (i + 1) ++ Q) := by
          rw [List.drop_append_of_le_length (by omega), hd]
          rfl
        rw [← h1]
        exact hs.sublist (List.drop_sublist _ _)
      rw [List.pairwise_cons] at hsub
      simp only [Bool.not_true, Bool.false_eq_true, if_false] at hx
      refine hsub.1 x ?_
      rcases List.mem_append.1 hx with hx | hx
      · exact List.mem_append_left _ (List.mem_filter.1 hx).1
      · exact List.mem_append_right _ hx
  · rw [List.length_append] at hi
    have hj : i - P.length < Q.length := by omega
    have he : (P ++ Q)[i]'(by rw [List.length_append]; omega) = Q[i - P.length] := List.getElem_append_right h
    left
    rw [he]
    unfold restL
    rw [List.drop_of_length_le h, List.drop_of_length_le (show P.length ≤ i + 1 by omega), List.drop_eq_getElem_cons hj, show i + 1 - P.length = i - P.length + 1 by omega]
    rfl
end Go.Proofs.YthbhfhagbaommaaGreatDoor.Lg

/- Rows of ints; append of one. -/
namespace Go.Proofs.YthbhfhagbaommaaGreatDoor.Lg
open Go.RowKit Go.Maps
set_option maxRecDepth 100000
set_option linter.unusedSimpArgs false
set_option linter.unusedVariables false

def inC (n : Nat) : List Value := [.int .i64 (n : Int)]
theorem inC_len : ∀ n, (inC n).length = 1 := fun _ => rfl
theorem infoIn : (Tryz.prog.info? 3).map (fun i => (i.zero.map (fun z => z.cells.size), i.size, i.bytes)) = some (some 1, 1, 8) := by kernel_rfl
theorem infoIn_parts : ∃ i z, Tryz.prog.info? 3 = some i ∧ i.zero = some z ∧ z.cells.size = 1 ∧ i.size = 1 ∧ i.bytes ≤ 1000 := by
  have h := infoIn
  cases hi : Tryz.prog.info? 3 with
  | none => rw [hi] at h; cases h
  | some i =>
    rw [hi] at h
    simp only [Option.map_some, Option.some.injEq, Prod.mk.injEq, Option.map_eq_some_iff] at h
    obtain ⟨⟨z, hz, hz2⟩, h2, h3⟩ := h
    exact ⟨i, z, rfl, hz, hz2, h2, by omega⟩
theorem app_in (w : World) (base : Nat) (v : Value) (xs : List Nat) (x : Nat) (k : Nat) (hrow : GRow 3 1 inC w base v xs) (hk : w.heap[k]? = some (.cells (inC x).toArray 3 (0, 0))) (hlen : xs.length ≤ 1000000) (hbase : base ≤ w.heap.size) :
    ∃ v' w', (Builtin.append_ #[47, 47] 47 #[v, .slice (some ⟨k, 0, none⟩) 1 1]).run Tryz.prog w = .ok v' w' ∧ GRow 3 1 inC w' base v' (xs ++ [x]) ∧ Turn v.ownBlock.toList w w' ∧ (∀ j ∈ v'.ownBlock, j ∈ v.ownBlock ∨ w.heap.size ≤ j) := by
  obtain ⟨i, z, hi, hz, hzs, hs, hb⟩ := infoIn_parts
  exact run_append_g (P := Tryz.prog) 47 47 Tryz.underlying47 i z hi hz hzs hs hb inC_len (by intro x u hu; simp [inC] at hu; subst hu; rfl) w base v xs x k hrow hk hlen hbase
end Go.Proofs.YthbhfhagbaommaaGreatDoor.Lg

/- Size and Segments of a log; the closure of Retain. -/
namespace Go.Proofs.YthbhfhagbaommaaGreatDoor.Lg
open Go.RowKit Go.Maps
set_option maxRecDepth 100000
set_option linter.unusedSimpArgs false
set_option linter.unusedVariables false
attribute [local go_sem] Oper.semAt_some
open Dk (DA DiskAt Parts Did errR errV)
open Sg (SegAt sfoot pls Both Came nextOf flat Chain)

/-- How many bytes all segments have. -/
def sizeL (ms : List SM) : Nat := (ms.map (fun m => (flat m.xs).length)).sum
theorem sizeL_take (ms : List SM) {k : Nat} (h : k < ms.length) : sizeL (ms.take (k + 1)) = sizeL (ms.take k) + (flat ms[k].xs).length := by
  unfold sizeL
  rw [List.take_succ_eq_append_getElem h, List.map_append, List.sum_append]
  simp
set_option maxHeartbeats 2000000 in
theorem Size_any (w : World) (base d : Nat) (F : List Nat) (A : DA) (lb : Nat) (gv : Value) (dir : ByteArray) (v : LV) (ms : List SM) (h : LogAt w base d F A lb gv dir v ms) (hok : OkS A dir (ms.map SM.abs)) :
    Calls Tryz.prog 62 #[.pointer (some ⟨lb, 0, none⟩)] w fun e w' => e = .returned (.int .i64 (sizeL ms)) ∧ sizeL ms ≤ 1048576 * ms.length ∧ Turn [] w w' := by
  have hmany := hok.many
  rw [List.length_map] at hmany
  obtain ⟨ga, gc, hgv, hglc, hgcm⟩ := h.row.form
  subst hgv
  have hmx : maxLen = 9223372036854775807 := by simp [maxLen]
  rw [hmx] at hgcm
  have c3 := h.c3
  have hlb := lt_of_heap h.box
  have H := hide h
  have HOK := hide hok
  clear h hok
  go_enter Tryz.func62, Tryz.ntmps62
  go_wp2
  go_loopw [3, 11] (fun sv kv wr => ∃ k s : Nat, k ≤ ms.length ∧ sv = .int .i64 s ∧ kv = .int .i64 k ∧ s ≤ 1048576 * k ∧ Turn [] w wr ∧ Hid (s = sizeL (ms.take k))) (fun _ kv _ => ms.length - (intOf kv).toNat)
  case atStart => exact ⟨0, 0, Nat.zero_le _, rfl, rfl, by omega, Turn.refl _ _, by show _ = _; simp [sizeL]⟩
  case round =>
    obtain ⟨k, s, hk, rfl, rfl, hs, htw, HSE⟩ := hrel
    have HTW := hide htw
    clear htw
    by_cases hlt : k < ms.length
    · obtain ⟨g, cap, e, hc, -⟩ := (H.out.still HTW.out).row.at smC_len (j := k) hlt
      simp only [Value.slice.injEq, true_and] at e
      obtain ⟨rfl, rfl⟩ := e
      obtain ⟨mk, hmk⟩ : ∃ mk, mk = ms[k] := ⟨_, rfl⟩
      have hmem : mk ∈ ms := by rw [hmk]; exact List.getElem_mem _
      rw [← hmk] at hc
      have c0 : wr.cell? ⟨g, k, none⟩ = some (.pointer (some ⟨mk.sb, 0, none⟩)) := by simpa [smC] using hc 0 (by omega)
      have habs : mk.abs ∈ ms.map SM.abs := List.mem_map_of_mem hmem
      have hfs : (flat mk.xs).length ≤ 1048576 := flat_short H.out.disk HOK.out habs
      have hfl := Sg.flat_len mk.xs
      have hsz := Sg.size_any wr base d mk.sb mk.sv _ mk.n _ ((H.out.segs mk hmem).still HTW.out) (by rw [Sg.pls_len]; omega) (by rw [Sg.sizeP_pls]; omega)
      rw [Sg.sizeP_pls] at hsz
      obtain ⟨fz, hfz⟩ : ∃ fz, fz = (flat mk.xs).length := ⟨_, rfl⟩
      rw [← hfz] at hsz hfs
      have hse2 : s + fz = sizeL (ms.take (k + 1)) := by rw [sizeL_take ms hlt, ← hmk, ← hfz, HSE.out]
      have HSE2 := hide hse2
      have HSZ := hide hsz
      clear hc hmk hmem habs hfl hsz hfz hse2
      go_wp2_with fail
      refine HSZ.out.mono ?_
      rintro e w2 ⟨rfl, ht2⟩
      have HT2 := hide (HTW.out.same ht2)
      clear ht2 HSZ
      go_wp2
      all_goals refine ⟨⟨k + 1, s + fz, by omega, by go_num, by go_num, by omega, HT2.out, HSE2⟩, ?_⟩
      all_goals (simp only [intOf]; omega)
    · obtain rfl : k = ms.length := by omega
      have hse := HSE.out
      rw [List.take_length] at hse
      have HSF := hide hse
      clear hse
      go_wp2
      go_ret
      rw [← HSF.out]
      exact ⟨rfl, hs, HTW.out⟩

set_option maxHeartbeats 2000000 in
theorem Segments_any (w : World) (base d : Nat) (F : List Nat) (A : DA) (lb : Nat) (gv : Value) (dir : ByteArray) (v : LV) (ms : List SM) (h : LogAt w base d F A lb gv dir v ms) (hl : ms.length ≤ 1000) :
    Calls Tryz.prog 63 #[.pointer (some ⟨lb, 0, none⟩)] w fun e w' => ∃ ov, e = .returned ov ∧ GRow 3 1 inC w' w.heap.size ov (ms.map (·.n)) ∧ Turn [] w w' := by
  obtain ⟨ga, gc, hgv, hglc, hgcm⟩ := h.row.form
  subst hgv
  have hmx : maxLen = 9223372036854775807 := by simp [maxLen]
  rw [hmx] at hgcm
  have c3 := h.c3
  have hlb := lt_of_heap h.box
  have H := hide h
  clear h
  go_enter Tryz.func63, Tryz.ntmps63
  go_wp2
  go_loopw [3, 11] (fun sv kv wr => ∃ k : Nat, k ≤ ms.length ∧ GRow 3 1 inC wr w.heap.size sv ((ms.map (·.n)).take k) ∧ kv = .int .i64 k ∧ Turn [] w wr) (fun _ kv _ => ms.length - (intOf kv).toNat)
  case atStart => exact ⟨0, Nat.zero_le _, .inl ⟨rfl, by simp⟩, rfl, Turn.refl _ _⟩
  case round =>
    obtain ⟨k, hk, hrow, rfl, htw⟩ := hrel
    have HTW := hide htw
    obtain ⟨sa, sc, hse, -, -⟩ := hrow.form
    subst hse
    rw [List.length_take, List.length_map, Nat.min_eq_left hk] at hrow ⊢
    have HROW := hide hrow
    clear htw hrow
    by_cases hlt : k < ms.length
    · obtain ⟨g, cap, e, hc, -⟩ := (H.out.still HTW.out).row.at smC_len (j := k) hlt
      simp only [Value.slice.injEq, true_and] at e
      obtain ⟨rfl, rfl⟩ := e
      obtain ⟨mk, hmk⟩ : ∃ mk, mk = ms[k] := ⟨_, rfl⟩
      have hmem : mk ∈ ms := by rw [hmk]; exact List.getElem_mem _
      have hsn : (ms.map (·.n)).take (k + 1) = (ms.map (·.n)).take k ++ [mk.n] := by
        rw [List.take_succ_eq_append_getElem (by rw [List.length_map]; exact hlt), List.getElem_map, hmk]
      have HSN := hide hsn
      rw [← hmk] at hc
      have c0 : wr.cell? ⟨g, k, none⟩ = some (.pointer (some ⟨mk.sb, 0, none⟩)) := by simpa [smC] using hc 0 (by omega)
      have hba := Sg.baseOf_any wr base d mk.sb mk.sv _ mk.n _ ((H.out.segs mk hmem).still HTW.out)
      have HBA := hide hba
      clear hc hmk hmem hsn hba
      go_wp2_with fail
      refine HBA.out.mono ?_
      rintro e w2 ⟨rfl, rfl⟩
      clear HBA
      have hal : Turn [] wr (wr.alloc (.cells #[.int .i64 (mk.n : Int)] 3)) := (Turn.refl [] wr).alloc _
      have hws := HTW.out.size
      obtain ⟨v7, w7, hr7, hrow7, ht7, hown7⟩ := app_in (wr.alloc (.cells #[.int .i64 (mk.n : Int)] 3)) w.heap.size _ _ mk.n wr.heap.size (HROW.out.still hal) (heap_new wr _) (by rw [List.length_take, List.length_map]; omega) (by have := hal.size; omega)
      rw [← HSN.out] at hrow7
      have HR7 := hide hr7
      have HROW7 := hide hrow7
      have HT7 := hide ((HTW.out.same hal).trans ht7 (fun j hj => .inr (HROW.out.lt j (by simpa using hj)).1))
      clear hal hr7 hrow7 ht7 hown7
      go_wp2_with (at_builtin; go_must (refine wpList_append_told rfl rfl rfl rfl HR7.out ?_))
      all_goals refine ⟨⟨k + 1, by omega, HROW7.out, by go_num, HT7.out⟩, ?_⟩
      all_goals (simp only [intOf]; omega)
    · obtain rfl : k = ms.length := by omega
      rw [List.take_of_length_le (by rw [List.length_map]; exact Nat.le_refl _)] at HROW
      go_wp2
      go_ret
      exact ⟨_, rfl, HROW.out, HTW.out⟩
end Go.Proofs.YthbhfhagbaommaaGreatDoor.Lg
