/- Used: how many bytes all files have. -/
import Derived.Test.YtlcgcckllecjpaaDoorDisk
import Derived.Sort.MapsRangeIn
namespace Go.Proofs.YtlcgcckllecjpaaDoor.Dk
set_option linter.unusedSimpArgs false
open Go.RowKit Go.Maps

def sumNot (left : Lit → Bool) : List FileM → Nat
  | [] => 0
  | m :: r => (if left (.string m.abs.name) then 0 else m.abs.bytes.length) + sumNot left r
theorem sumNot_le (left : Lit → Bool) : ∀ ms : List FileM, sumNot left ms ≤ usedL (ms.map (·.abs))
  | [] => Nat.le_refl _
  | m :: r => by
    have ih := sumNot_le left r
    simp only [sumNot, usedL, List.map_cons, List.sum_cons] at *
    split <;> omega
theorem sumNot_end {left : Lit → Bool} (h : ∀ kl, left kl = false) : ∀ ms : List FileM, sumNot left ms = usedL (ms.map (·.abs))
  | [] => rfl
  | m :: r => by
    have ih := sumNot_end h r
    simp only [sumNot, usedL, List.map_cons, List.sum_cons] at *
    simp [h, ih]
theorem sumNot_all {left : Lit → Bool} : ∀ ms : List FileM, (∀ m ∈ ms, left (.string m.abs.name) = true) → sumNot left ms = 0
  | [], _ => rfl
  | m :: r, h => by
    simp only [sumNot, h m (by simp), if_true]
    rw [sumNot_all r (fun x hx => h x (by simp [hx]))]
theorem sumNot_start {D : DataW Unit} {ms : List FileM} (h : Reads D ms) : sumNot (has D) ms = 0 := by
  apply sumNot_all
  intro m hm
  rw [has_of_reads h]
  unfold findM; rw [List.find?_isSome]; exact ⟨m, hm, by simp⟩
theorem sameKey_str (a b : List UInt8) : (Lit.string a).sameKey (.string b) = (a == b) := by
  by_cases h : a = b
  · subst h; simp [WideAt.sameKey_self (isKey a)]
  · rw [sameKey_ne (lit_ne h)]; simpa using h
theorem sumNot_same (left : Lit → Bool) (nm : List UInt8) : ∀ ms : List FileM, nm ∉ ms.map (·.abs.name) → sumNot (fun z => left z && !z.sameKey (.string nm)) ms = sumNot left ms
  | [], _ => rfl
  | m :: r, h => by
    simp only [List.map_cons, List.mem_cons, not_or] at h
    have hb : (m.abs.name == nm) = false := by simpa using fun e => h.1 e.symm
    simp only [sumNot, sameKey_str, hb, Bool.not_false, Bool.and_true]
    rw [sumNot_same left nm r h.2]
theorem sumNot_step (left : Lit → Bool) (nm : List UInt8) (m : FileM) (hl : left (.string nm) = true) : ∀ ms : List FileM, (ms.map (·.abs.name)).Nodup → findM ms nm = some m →
    sumNot (fun z => left z && !z.sameKey (.string nm)) ms = sumNot left ms + m.abs.bytes.length
  | [], _, hf => by simp [findM] at hf
  | a :: r, hn, hf => by
    simp only [List.map_cons, List.nodup_cons] at hn
    unfold findM at hf
    rw [List.find?_cons] at hf
    by_cases ha : a.abs.name = nm
    · have hb : (a.abs.name == nm) = true := by simpa using ha
      rw [hb] at hf
      simp at hf
      subst hf
      have hs : (Lit.string a.abs.name).sameKey (.string nm) = true := by rw [sameKey_str]; exact hb
      have hla : left (.string a.abs.name) = true := by rw [ha]; exact hl
      simp only [sumNot, hs, hla, sumNot_same left nm r (by rw [← ha]; exact hn.1)]
      simp; omega
    · have hb : (a.abs.name == nm) = false := by simpa using ha
      rw [hb] at hf
      have hs : (Lit.string a.abs.name).sameKey (.string nm) = false := by rw [sameKey_str]; exact hb
      simp only [sumNot, hs, sumNot_step left nm m hl r hn.2 hf]
      simp; omega

def mkP (c : Option Nat) : Value := match c with
  | some b => .pointer (some ⟨b, 0, none⟩)
  | none => .pointer none
theorem invP (v : Value) (y : DataW Unit × List MemPlace) (h : ptrR v = some y) : ∃ c, v = mkP c := by
  unfold ptrR at h
  split at h
  · exact ⟨some _, rfl⟩
  · exact ⟨none, rfl⟩
  · cases h
theorem who {D : DataW Unit} {ms : List FileM} (hr : Reads D ms) {x : ByteArray} {c : Option Nat} {kl : Lit} {y : DataW Unit × List MemPlace} (hk : keyOf Tryd.prog 9 (.string x) = some kl) (hy : ptrR (mkP c) = some y)
    (hat : ∀ zd, D.atKey kl zd = y.1) : ∃ nm m, kl = .string nm ∧ findM ms nm = some m ∧ c = some m.blk := by
  have e : kl = .string x.data.toList := by
    simp only [keyOf, mapKey, Tryd.underlying9] at hk
    split at hk <;> simp_all
  subst e
  refine ⟨x.data.toList, ?_⟩
  cases hf : findM ms x.data.toList with
  | none =>
    have h1 := hat .nil; have h2 := hat (.lit (.bool true))
    rw [hr.2, hf] at h1 h2
    rw [← h1] at h2
    cases h2
  | some m =>
    have h1 := hat .nil
    rw [hr.2, hf] at h1
    refine ⟨m, rfl, rfl, ?_⟩
    cases c with
    | none => simp [mkP, ptrR] at hy; subst hy; cases h1
    | some b => simp [mkP, ptrR] at hy; subst hy; simp [blkD] at h1; rw [Int.ofNat_inj.1 h1]

section
variable {w : World} {base d : Nat} {F : List Nat} {A : DA} {mref : Option Nat} {ms : List FileM}
theorem findM_mem {nm : List UInt8} {m : FileM} (h : findM ms nm = some m) : m ∈ ms ∧ m.abs.name = nm := by
  unfold findM at h
  exact ⟨List.mem_of_find?_eq_some h, by simpa using List.find?_some h⟩
theorem Parts.names (h : Parts w base d F A mref ms) : (ms.map (·.abs.name)).Nodup := by
  have := h.good.names
  rw [h.files, List.map_map] at this
  exact this

set_option maxHeartbeats 400000 in
theorem used_any (h : Parts w base d F A mref ms) :
    Calls Tryd.prog 21 #[.pointer (some ⟨d, 0, none⟩)] w fun e w' => e = .returned (.int .i64 (usedL A.files)) ∧ Turn [] w w' := by
  have H : Hid (Parts w base d F A mref ms) := h
  have c1 := h.c1
  have hnam := h.names
  have hu := h.good.used
  have hroom := h.good.room
  have hfil := h.files
  have hmap := h.map
  clear h
  cases mref with
  | none =>
    have hms : ms = [] := hmap
    subst hms
    have hz : A.files = [] := by rw [hfil]; rfl
    have HZ : Hid (usedL A.files = 0) := by rw [hz]; rfl
    clear hz hfil hmap
    have hrn := fun w => run_range_nilMap (P := Tryd.prog) w _ _ _ Tryd.underlying75
    have hnx := fun (w : World) ty a b s => run_next_nilMap (P := Tryd.prog) w ty a b s
    go_enter Tryd.func21, Tryd.ntmps21
    go_wp2
    refine wp_loop_rounds 1 ?_
    rw [rounds_succ]
    go_wp2
    go_ret
    exact ⟨by rw [HZ.out]; rfl, (Turn.refl _ _).alloc _⟩
  | some mb =>
    obtain ⟨D, hown, hrd⟩ := hmap
    have HR : Hid (Reads D ms) := hrd
    have HN : Hid ((ms.map (·.abs.name)).Nodup) := hnam
    have HF : Hid (A.files = ms.map (·.abs)) := hfil
    have hle := fun left => sumNot_le left ms
    rw [hfil] at hu
    have hle2 : ∀ left, sumNot left ms ≤ 1048576 := fun left => by have := hle left; omega
    have h0 := sumNot_start hrd
    clear hle hu hroom hnam hrd hfil
    go_enter Tryd.func21, Tryd.ntmps21
    go_wp2_with (first
      | (at_range; refine wpList_range_own _ rfl _ 75 rfl 9 82 law Tryd.underlying75 ptrR mb ms.length D rfl hown ?_; intro w0 hrg0 hg0 hs0)
      | go_in)
    go_frame
    go_loopw [3] (fun s wr => ∃ left cnt, s = .int .i64 (sumNot left ms) ∧ wr.ranges Tryd.prog 9 ptrR mb w.heap.size ms.length D left cnt ∧ Turn [] w wr) (fun _ wr => wr.rangeLeft mb w.heap.size)
    case atStart => exact ⟨has D, size D, by rw [h0]; rfl, hrg0, (Turn.refl _ _).grown hg0 (by simp)⟩
    case round =>
      obtain ⟨left, cnt, rfl, hrg, ht⟩ := hrel
      have hb := hle2 left
      clear hrg0 hg0 hs0 h0
      go_wp2_with (at_next; refine wpList_next_ranges _ rfl _ rfl 9 law ptrR Value.string mkP (fun _ _ hk => Maps.keyOf_string_inv Tryd.underlying9 hk) invP mb w.heap.size ms.length D left cnt rfl hrg ?_ ?_)
      · intro hc0 hl0
        have hend := sumNot_end hl0 ms
        have HE : Hid (sumNot left ms = usedL (ms.map (·.abs))) := hend
        clear hend
        go_wp2
        go_ret
        exact ⟨ret_int (by rw [HF.out, HE.out]), ht⟩
      · intro x c kl yd yp w1 cnt1 hk hlk hy hat hrg1 hlt hg1 hs1 hen
        obtain ⟨nm, m, rfl, hfm, rfl⟩ := who HR.out hk hy hat
        have ht1 : Turn [] w w1 := ht.grown hg1 (by simp)
        have hm := findM_mem hfm
        have hfa := (H.out.each m hm.1).kept ht1 (by simp)
        obtain ⟨sa, sc, hsl, hsl1, hsl2⟩ := hfa.2.form
        have cf : w1.cell? ⟨m.blk, 0, none⟩ = some (.slice sa m.abs.bytes.length sc) := by rw [cell_of hfa.1, hsl]; rfl
        have hst := sumNot_step left nm m hlk ms HN.out hfm
        have hb1 := hle2 (fun z => left z && !z.sameKey (.string nm))
        rw [hst] at hb1
        have HST : Hid (sumNot (fun z => left z && !z.sameKey (.string nm)) ms = sumNot left ms + m.abs.bytes.length) := hst
        simp only [mkP] at hen ⊢
        clear hst hfm hm hfa hsl hk hy hat hlk
        go_wp2
        go_roundw
        case rel =>
          repeat apply Exists.intro
          exact ⟨⟨_, cnt1, by rw [HST.out]; go_num, hrg1, ht1⟩, rfl⟩
        case measure => rw [hrg1.left_eq, hrg.left_eq]; omega
end

end Go.Proofs.YtlcgcckllecjpaaDoor.Dk
