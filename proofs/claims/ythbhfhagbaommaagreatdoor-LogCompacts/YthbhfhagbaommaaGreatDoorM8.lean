/- Lgt, Cpk, Cpl, Lgl, Cpi, Cpe, Cpm, Cpj, Cpo, Lgj, Keep, IterShelf: texts merged. -/
import Derived.Test.YthbhfhagbaommaaGreatDoorM7
import Derived.Test.YthbhfhagbaommaaGreatDoorM6
import Derived.Test.YthbhfhagbaommaaGreatDoorM1
import Derived.Shelf.SlIter.Nil
import Derived.Shelf.SortM.Plain
import Derived.Shelf.SortM.SortNone
import Derived.Ground.GgzProg
import Derived.Ground.SlgmProg
import Derived.Test.YthbhfhagbaommaaGreatDoorProg
/- What taking the first segment away makes of a log on a disk that does not fail. -/
namespace Go.Proofs.YthbhfhagbaommaaGreatDoor.Lg
open Go.RowKit Go.Maps
set_option linter.unusedSimpArgs false
set_option linter.unusedVariables false
open Dk (DA FA usedL)
open Sg (Chain flat nextOf)

section
variable {A : DA} {room : Nat} {dir : ByteArray} {st n : Nat} {ss ss0 : List (Nat × List Bt.Bat)} {p m : Nat × List Bt.Bat}
theorem LogDisk.remove (h : LogDisk A room dir (p :: ss)) : (A.remove (nmL dir p.1)).1 = 0 ∧ LogDisk (A.remove (nmL dir p.1)).2 room dir ss := by
  have e : A.remove (nmL dir p.1) = (0, { A.tick with files := Dk.outF A.files (nmL dir p.1) }) := by
    unfold DA.remove
    rw [h.fails, h.has (p := p) (by simp), if_neg (by simp), if_neg (by simp)]
  rw [e, h.tick]
  have hfs := h.files
  rw [List.map_cons] at hfs
  obtain ⟨f, fs, hf, h1, h2⟩ := List.map_eq_cons_iff.1 hfs
  have hfn : f.name = nmL dir p.1 := congrArg Prod.fst h1
  have hnd := h.nd
  rw [List.map_cons, List.nodup_cons] at hnd
  have hout : Dk.outF A.files (nmL dir p.1) = fs := by
    unfold Dk.outF
    rw [hf, List.filter_cons, if_neg (by simp [hfn]), List.filter_eq_self]
    intro x hx
    have hx2 : (x.name, x.bytes) ∈ ss.map (fun p => (nmL dir p.1, flat p.2)) := by rw [← h2]; exact List.mem_map.2 ⟨x, hx, rfl⟩
    obtain ⟨q, hq, e⟩ := List.mem_map.1 hx2
    have e1 : nmL dir q.1 = x.name := congrArg Prod.fst e
    have : (x.name == nmL dir p.1) = false := by
      rw [beq_eq_false_iff_ne, ← e1]
      intro he
      exact hnd.1 (List.mem_map.2 ⟨q, hq, nmL_inj (h.base q (by simp [hq])) (h.base p (by simp)) he⟩)
    rw [this]; rfl
  exact ⟨rfl, h.lim, h.room, by show (Dk.outF A.files (nmL dir p.1)).map _ = _; rw [hout]; exact h2, fun q hq => h.base q (by simp [hq]), hnd.2⟩
/-- The first base. -/
def headK (ss0 : List (Nat × List Bt.Bat)) (m : Nat × List Bt.Bat) : Nat := match ss0 with
  | [] => m.1
  | q :: _ => q.1
theorem chain_at {xs : List Bt.Bat} {b c : Int} (h : Chain b xs) (hc : ∀ x ∈ xs, c ≤ x.base) : Chain c xs := by
  cases xs with
  | nil => trivial
  | cons x r => exact ⟨h.1, hc x (by simp), h.2.2⟩
theorem batsL_cons (p : Nat × List Bt.Bat) (ss : List (Nat × List Bt.Bat)) : batsL (p :: ss) = p.2 ++ batsL ss := by
  unfold batsL
  rw [List.flatMap_cons]
theorem headK_le (h : ((ss0 ++ [m]).map (·.1)).Pairwise (· < ·)) : ∀ p ∈ ss0 ++ [m], headK ss0 m ≤ p.1 := by
  cases ss0 with
  | nil =>
    intro p hp
    obtain rfl : p = m := by simpa using hp
    exact Nat.le_refl _
  | cons q r =>
    intro p hp
    rw [List.cons_append, List.map_cons, List.pairwise_cons] at h
    rw [List.cons_append] at hp
    rcases List.mem_cons.1 hp with rfl | hp
    · exact Nat.le_refl _
    · exact Nat.le_of_lt (h.1 p.1 (List.mem_map.2 ⟨p, hp, rfl⟩))
theorem GInv.tail (h : GInv A room dir st n (p :: ss0) m) : (A.remove (nmL dir p.1)).1 = 0 ∧ GInv (A.remove (nmL dir p.1)).2 room dir (headK ss0 m) n ss0 m ∧ p.1 < headK ss0 m := by
  obtain ⟨h1, h2⟩ := LogDisk.remove (p := p) (ss := ss0 ++ [m]) h.disk
  have hs := h.srt
  rw [List.cons_append, List.map_cons, List.pairwise_cons] at hs
  have hc := h.chain
  rw [List.cons_append, batsL_cons, Sg.chain_append] at hc
  have hcs : ∀ q ∈ ss0 ++ [m], Chain q.1 q.2 := fun q hq => h.chains q (by rw [List.cons_append]; exact List.mem_cons_of_mem _ hq)
  have hhd : headK ss0 m ∈ (ss0 ++ [m]).map (·.1) := by
    cases ss0 with
    | nil => simp [headK]
    | cons q r => simp [headK]
  refine ⟨h1, ⟨h2, hcs, chain_at hc.2 (fun x hx => ?_), h.next, fun x hx => h.fins x (by rw [List.cons_append, batsL_cons]; exact List.mem_append_right _ hx), fun q hq => h.keys q (by simp [hq]), h.le, ?_, hs.2⟩, hs.1 _ hhd⟩
  · obtain ⟨q, hq, hx⟩ := List.mem_flatMap.1 hx
    have h3 := chain_base (hcs q hq) x hx
    have h4 := headK_le hs.2 q hq
    omega
  · have := headK_le hs.2 m (by simp)
    have := h.le
    omega
/-- Add, where the batch has bytes: the first base stays. -/
theorem GInv.addK (h : GInv A room dir st n ss0 m) (hn : n ≤ 1099511627776) (rs : List Bt.Rec) (hx : Bt.encErr (batOf n rs) = 0) (hok : Dk.nameB (Sn.nameB dir n) = true) (hl : (ss0 ++ [m]).length < 200) (hr : (flat (batsL (ss0 ++ [m]))).length + (Bt.encB (batOf n rs)).length ≤ room) (v : LV) :
    ∃ A' v' ss0' m', AddS A dir v n ss0 m rs = (0, A', v', ss0' ++ [m']) ∧ v'.start = v.start ∧ v'.most = v.most ∧ v'.down = v.down ∧ GInv A' room dir st (n + rs.length) ss0' m' ∧ batsL (ss0' ++ [m']) = batsL (ss0 ++ [m]) ++ [batOf n rs] ∧ ss0'.length ≤ ss0.length + 1 ∧ headK ss0' m' = headK ss0 m := by
  unfold AddS addS
  rw [if_neg (by rw [hx]; simp)]
  have hno : ∀ w : LV, noteV 0 w = w := fun w => by unfold noteV; rw [if_neg (by omega)]
  by_cases hc : 0 < (flat m.2).length ∧ v.most < ((flat m.2).length + (Bt.encB (batOf n rs)).length : Nat)
  · rw [if_pos hc]
    obtain ⟨A1, e1, g1, b1⟩ := h.roll hn hc.1 hok hl v
    rw [e1, if_neg (fun hc2 => hc2 rfl)]
    obtain ⟨A2, e2, g2, b2⟩ := g1.put (x := batOf n rs) hx rfl (n' := n + rs.length) (by show ((n : Int) + rs.length) = _; omega) (by rw [b1]; exact hr) { v with safe := (n : Int) }
    simp only
    rw [e2]
    exact ⟨A2, { v with safe := (n : Int) }, _, _, by rw [hno], rfl, rfl, rfl, g2, by rw [b2, b1], by simp, by cases ss0 <;> rfl⟩
  · rw [if_neg hc]
    obtain ⟨A2, e2, g2, b2⟩ := h.put (x := batOf n rs) hx rfl (n' := n + rs.length) (by show ((n : Int) + rs.length) = _; omega) hr v
    rw [e2]
    exact ⟨A2, v, _, _, by rw [hno], rfl, rfl, rfl, g2, b2, by omega, by cases ss0 <;> rfl⟩
theorem segs_at (ss0 : List (Nat × List Bt.Bat)) (mm : Nat × List Bt.Bat) {i : Nat} (h : i ≤ ss0.length) : ((ss0 ++ [mm]).map (·.1))[i]? = some (headK (ss0.drop i) mm) := by
  rw [List.getElem?_map]
  rcases Nat.lt_or_ge i ss0.length with h1 | h1
  · rw [List.getElem?_append_left h1, List.getElem?_eq_getElem h1, List.drop_eq_getElem_cons h1]
    rfl
  · obtain rfl : i = ss0.length := by omega
    rw [List.getElem?_append_right (Nat.le_refl _), List.drop_length]
    simp [headK]
end
end Go.Proofs.YthbhfhagbaommaaGreatDoor.Lg

/- What Rewrite makes of a disk: which files hold what. No program. -/
namespace Go.Proofs.YthbhfhagbaommaaGreatDoor.Lg
open Go.RowKit Go.Maps
set_option linter.unusedSimpArgs false
set_option linter.unusedVariables false
open Dk (DA FA usedL setF outF)
open Sg (Chain flat nextOf)

/-- What a file holds. -/
def bytesAt (A : DA) (nm : List UInt8) : Option (List UInt8) := (A.file nm).map (·.bytes)
/-- But for some names, files hold what they held. -/
def SameF (A A' : DA) (S : List (List UInt8)) : Prop := ∀ nm, nm ∉ S → bytesAt A' nm = bytesAt A nm
theorem SameF.refl (A : DA) (S : List (List UInt8)) : SameF A A S := fun _ _ => rfl
theorem SameF.trans {A B C : DA} {S : List (List UInt8)} (h : SameF A B S) (k : SameF B C S) : SameF A C S := fun nm hn => (k nm hn).trans (h nm hn)
theorem SameF.mono {A B : DA} {S T : List (List UInt8)} (h : SameF A B S) (k : ∀ x ∈ S, x ∈ T) : SameF A B T := fun nm hn => h nm (fun hm => hn (k nm hm))
theorem tick_at (A : DA) (nm : List UInt8) : bytesAt A.tick nm = bytesAt A nm := by unfold bytesAt DA.file; rw [Dk.tick_files]
theorem tick_same (A : DA) (S : List (List UInt8)) : SameF A A.tick S := fun nm _ => tick_at A nm
theorem find_upd (A : DA) (nm : List UInt8) (g : FA → FA) (hg : ∀ f, (g f).name = f.name) (nm' : List UInt8) : (A.upd nm g).file nm' = (A.file nm').map (fun f => if f.name == nm then g f else f) := by
  unfold DA.upd DA.file Dk.setF
  rw [List.find?_map]
  congr 1
  congr 1
  funext f
  simp only [Function.comp]
  split
  · rw [hg]
  · rfl
theorem file_name {A : DA} {nm : List UInt8} {f : FA} (h : A.file nm = some f) : f.name = nm := by
  have := List.find?_some h
  simpa using this
theorem upd_same (A : DA) (nm : List UInt8) (g : FA → FA) (hg : ∀ f, (g f).name = f.name) : SameF A (A.upd nm g) [nm] := by
  intro nm' hn
  unfold bytesAt
  rw [find_upd A nm g hg]
  cases hf : A.file nm' with
  | none => rfl
  | some f =>
    have := file_name hf
    have hne : ¬ f.name = nm := by rw [this]; simpa using hn
    simp [hne]
theorem upd_at (A : DA) (nm : List UInt8) (g : FA → FA) (hg : ∀ f, (g f).name = f.name) {f : FA} (hf : A.file nm = some f) : bytesAt (A.upd nm g) nm = some (g f).bytes := by
  unfold bytesAt
  rw [find_upd A nm g hg, hf]
  simp [file_name hf]
theorem make_same (A : DA) (s : ByteArray) : SameF A (A.make s).2 [s.data.toList] := by
  unfold DA.make
  split
  · exact SameF.refl _ _
  split
  · exact tick_same _ _
  split
  · exact tick_same _ _
  split
  · exact tick_same _ _
  · intro nm hn
    unfold bytesAt DA.file
    simp only
    rw [List.find?_append]
    have : ([⟨s.data.toList, [], 0⟩] : List FA).find? (fun f => f.name == nm) = none := by
      simp only [List.find?_cons, List.find?_nil]
      have : (s.data.toList == nm) = false := by simp only [List.mem_singleton] at hn; simpa using fun e => hn e.symm
      rw [this]
    rw [this, Option.or_none]
theorem make_at {A : DA} {s : ByteArray} (h : (A.make s).1 = 0) : bytesAt (A.make s).2 s.data.toList = some [] := by
  unfold DA.make at h ⊢
  split
  · rename_i h1; rw [if_pos h1] at h; simp at h
  split
  · rename_i h1 h2; rw [if_neg h1, if_pos h2] at h; simp at h
  split
  · rename_i h1 h2 h3; rw [if_neg h1, if_neg h2, if_pos h3] at h; simp at h
  split
  · rename_i h1 h2 h3 h4; rw [if_neg h1, if_neg h2, if_neg h3, if_pos h4] at h; simp at h
  · rename_i h1 h2 h3 h4
    unfold bytesAt DA.file
    simp only
    have h5 : A.files.find? (fun f => f.name == s.data.toList) = none := by
      have : A.has s.data.toList = false := by simpa using h3
      unfold DA.has at this
      simpa using this
    rw [List.find?_append, h5]
    simp
theorem sync_same (A : DA) (nm : List UInt8) (S : List (List UInt8)) : SameF A (A.sync nm).2 S := by
  unfold DA.sync
  split
  · exact SameF.refl _ _
  split
  · exact tick_same _ _
  · intro nm' _
    unfold bytesAt
    simp only
    rw [find_upd A.tick nm (fun f => { f with safe := f.bytes.length }) (fun _ => rfl)]
    have := tick_at A nm'
    unfold bytesAt at this
    rw [← this]
    cases A.tick.file nm' with
    | none => rfl
    | some f => simp only [Option.map_some]; split <;> rfl
theorem add_same (A : DA) (nm bs : List UInt8) : SameF A (A.add nm bs).2 [nm] := by
  unfold DA.add
  split
  · exact SameF.refl _ _
  split
  · exact tick_same _ _
  split
  · exact tick_same _ _
  · exact (tick_same A _).trans (upd_same _ _ _ (fun _ => rfl))
theorem add_at {A : DA} {nm bs b : List UInt8} (h : (A.add nm bs).1 = 0) (hb : bytesAt A nm = some b) : bytesAt (A.add nm bs).2 nm = some (b ++ bs) := by
  unfold DA.add at h ⊢
  split
  · rename_i h1; rw [if_pos h1] at h; simp at h
  split
  · rename_i h1 h2; rw [if_neg h1, if_pos h2] at h; simp at h
  split
  · rename_i h1 h2 h3; rw [if_neg h1, if_neg h2, if_pos h3] at h; simp at h
  · rw [← tick_at] at hb
    unfold bytesAt at hb
    cases hf : A.tick.file nm with
    | none => rw [hf] at hb; simp at hb
    | some f =>
      rw [hf] at hb
      simp only [Option.map_some, Option.some.injEq] at hb
      simp only
      rw [upd_at A.tick nm (fun f => { f with bytes := f.bytes ++ bs }) (fun _ => rfl) hf]
      simp only [hb]
theorem out_find (l : List FA) (nm nm' : List UInt8) (h : nm' ≠ nm) : (outF l nm).find? (fun f => f.name == nm') = l.find? (fun f => f.name == nm') := by
  unfold Dk.outF
  rw [List.find?_filter]
  congr 1
  funext f
  by_cases e : f.name = nm'
  · have : (f.name == nm) = false := by rw [e]; simpa using h
    simp [e, h]
  · simp [e]
theorem remove_same (A : DA) (nm : List UInt8) : SameF A (A.remove nm).2 [nm] := by
  unfold DA.remove
  split
  · exact SameF.refl _ _
  split
  · exact tick_same _ _
  · intro nm' hn
    unfold bytesAt DA.file
    rw [out_find _ _ _ (by simpa using hn)]
theorem rename_same (A : DA) (nm : List UInt8) (tn : ByteArray) : SameF A (A.rename nm tn).2 [nm, tn.data.toList] := by
  unfold DA.rename
  split
  · exact SameF.refl _ _
  split
  · exact tick_same _ _
  · rename_i f hf
    split
    · exact tick_same _ _
    · intro nm' hn
      simp only [List.mem_cons, List.not_mem_nil, or_false, not_or] at hn
      unfold bytesAt DA.file
      simp only
      rw [List.find?_append, out_find _ _ _ hn.2, out_find _ _ _ hn.1]
      have : ([{ f with name := tn.data.toList }] : List FA).find? (fun f => f.name == nm') = none := by
        simp only [List.find?_cons, List.find?_nil]
        have : (tn.data.toList == nm') = false := by simpa using fun e => hn.2 e.symm
        rw [this]
      rw [this, Option.or_none]
theorem rename_fail {A : DA} {nm : List UInt8} {tn : ByteArray} (h : (A.rename nm tn).1 ≠ 0) (S : List (List UInt8)) : SameF A (A.rename nm tn).2 S := by
  unfold DA.rename at h ⊢
  by_cases h1 : A.fails = true
  · rw [if_pos h1]; exact SameF.refl _ _
  · rw [if_neg h1] at h ⊢
    cases hf : A.file nm with
    | none => exact tick_same _ _
    | some f =>
      rw [hf] at h
      simp only at h ⊢
      by_cases h2 : (!Dk.nameB tn) = true
      · rw [if_pos h2]; exact tick_same _ _
      · rw [if_neg h2] at h
        exact absurd rfl h
theorem rename_at {A : DA} {nm b : List UInt8} {tn : ByteArray} (h : (A.rename nm tn).1 = 0) (hb : bytesAt A nm = some b) : bytesAt (A.rename nm tn).2 tn.data.toList = some b := by
  unfold DA.rename at h ⊢
  by_cases h1 : A.fails = true
  · rw [if_pos h1] at h; simp at h
  · rw [if_neg h1] at h ⊢
    unfold bytesAt at hb
    cases hf : A.file nm with
    | none => rw [hf] at hb; simp at hb
    | some f =>
      rw [hf] at h hb
      simp only [Option.map_some, Option.some.injEq] at hb
      simp only at h ⊢
      by_cases h2 : (!Dk.nameB tn) = true
      · rw [if_pos h2] at h; simp at h
      · rw [if_neg h2]
        unfold bytesAt DA.file
        simp only
        have hno : (outF (outF A.files nm) tn.data.toList).find? (fun f => f.name == tn.data.toList) = none := by
          rw [List.find?_eq_none]
          intro x hx
          unfold Dk.outF at hx
          have := (List.mem_filter.1 hx).2
          simpa using this
        rw [List.find?_append, hno]
        simp [hb]
/-- A file beside another one bears another name than any segment. -/
theorem beside_ne (file dir : ByteArray) (n : Nat) : (besideB file).data.toList ≠ nmL dir n := by
  intro e
  have e1 : (besideB file).data.toList = (Lib.trimSuffix file.data.toList [46, 108, 111, 103]) ++ [46, 110, 101, 119] := by
    unfold besideB
    simp [ByteArray.data_append]
  have e2 : nmL dir n = (dir.data.toList ++ [47] ++ Sn.pad (Lib.decDigits n)) ++ [46, 108, 111, 103] := by
    unfold nmL Sn.nameB Sn.nameL
    simp
  rw [e1, e2] at e
  have := (List.append_inj' e rfl).2
  simp at this
theorem anew_same (A : DA) (s : ByteArray) : SameF A (anewS A s).2 [s.data.toList] := by
  unfold anewS
  have h1 : SameF A (clearS A s.data.toList).2 [s.data.toList] := by
    unfold clearS
    split
    · exact remove_same _ _
    · exact SameF.refl _ _
  split
  · exact h1
  · exact h1.trans (make_same _ _)
theorem anew_at {A : DA} {s : ByteArray} (h : (anewS A s).1 = 0) : bytesAt (anewS A s).2 s.data.toList = some [] := by
  unfold anewS at h ⊢
  split
  · rename_i h1
    rw [if_pos h1] at h
    exact absurd h h1
  · rename_i h1
    rw [if_neg h1] at h
    exact make_at h
theorem adds_same (nm : List UInt8) (b0 : Int) : ∀ (xs dn : List Bt.Bat) (A : DA), SameF A (addsS nm b0 A dn xs).2.1 [nm]
  | [], dn, A => SameF.refl _ _
  | x :: r, dn, A => by
    unfold addsS
    split
    · exact SameF.refl _ _
    split
    · exact SameF.refl _ _
    split
    · exact add_same _ _ _
    · exact (add_same _ _ _).trans (adds_same nm b0 r _ _)
theorem adds_at (nm : List UInt8) (b0 : Int) : ∀ (xs dn : List Bt.Bat) (A : DA) (b : List UInt8), (addsS nm b0 A dn xs).1 = 0 → bytesAt A nm = some b → bytesAt (addsS nm b0 A dn xs).2.1 nm = some (b ++ flat xs)
  | [], dn, A, b, _, hb => by simp [addsS, flat]; exact hb
  | x :: r, dn, A, b, h, hb => by
    unfold addsS at h ⊢
    split
    · rename_i h1; rw [if_pos h1] at h; exact absurd h h1
    split
    · rename_i h1 h2; rw [if_neg h1, if_pos h2] at h; simp at h
    split
    · rename_i h1 h2 h3; rw [if_neg h1, if_neg h2, if_pos h3] at h; exact absurd h h3
    · rename_i h1 h2 h3
      rw [if_neg h1, if_neg h2, if_neg h3] at h
      have h4 := adds_at nm b0 r _ _ (b ++ Bt.encB x) h (add_at (by simpa using h3) hb)
      rw [h4]
      simp [flat]
theorem replace_same (A : DA) (nm : List UInt8) (tn : ByteArray) (b0 : Int) (xs : List Bt.Bat) : SameF A (replaceS A nm tn b0 xs).2.1 [nm, tn.data.toList] := by
  have h1 := (adds_same nm b0 xs [] A).mono (T := [nm, tn.data.toList]) (by simp)
  unfold replaceS
  split
  · exact h1
  split
  · exact h1.trans (sync_same _ _ _)
  · exact (h1.trans (sync_same _ _ _)).trans (rename_same _ _ _)
theorem replace_fail {A : DA} {nm : List UInt8} {tn : ByteArray} {b0 : Int} {xs : List Bt.Bat} (h : (replaceS A nm tn b0 xs).1 ≠ 0) : SameF A (replaceS A nm tn b0 xs).2.1 [nm] := by
  have h1 := adds_same nm b0 xs [] A
  unfold replaceS at h ⊢
  split
  · exact h1
  split
  · exact h1.trans (sync_same _ _ _)
  · rename_i h2 h3
    rw [if_neg h2, if_neg h3] at h
    exact (h1.trans (sync_same _ _ _)).trans (rename_fail h _)
theorem replace_at {A : DA} {nm : List UInt8} {tn : ByteArray} {b0 : Int} {xs : List Bt.Bat} (h : (replaceS A nm tn b0 xs).1 = 0) (hb : bytesAt A nm = some []) : bytesAt (replaceS A nm tn b0 xs).2.1 tn.data.toList = some (flat xs) := by
  unfold replaceS at h ⊢
  split
  · rename_i h2; rw [if_pos h2] at h; exact absurd h h2
  split
  · rename_i h2 h3; rw [if_neg h2, if_pos h3] at h; exact absurd h h3
  · rename_i h2 h3
    rw [if_neg h2, if_neg h3] at h
    refine rename_at h ?_
    rw [sync_same _ _ [] nm (by simp)]
    have := adds_at nm b0 xs [] A [] (by simpa using h2) hb
    rw [this]
    rfl
/-- Rewrite: all files but the one beside, and its own. -/
theorem rewrite_same (A : DA) (file : ByteArray) (b0 : Int) (xs : List Bt.Bat) : SameF A (rewriteS A file b0 xs).2.1 [(besideB file).data.toList, file.data.toList] := by
  have h1 := (anew_same A (besideB file)).mono (T := [(besideB file).data.toList, file.data.toList]) (by simp)
  unfold rewriteS
  split
  · exact h1
  split
  · exact (h1.trans (replace_same _ _ _ _ _)).trans ((remove_same _ _).mono (by simp))
  · exact h1.trans (replace_same _ _ _ _ _)
theorem rewrite_old {A : DA} {file : ByteArray} {b0 : Int} {xs : List Bt.Bat} (h : (rewriteS A file b0 xs).2.2 = false) : SameF A (rewriteS A file b0 xs).2.1 [(besideB file).data.toList] := by
  have h1 := anew_same A (besideB file)
  unfold rewriteS at h ⊢
  split
  · exact h1
  split
  · rename_i h2 h3
    exact (h1.trans (replace_fail h3)).trans (remove_same _ _)
  · rename_i h2 h3
    rw [if_neg h2, if_neg h3] at h
    simp at h
theorem rewrite_new {A : DA} {file : ByteArray} {b0 : Int} {xs : List Bt.Bat} (h : (rewriteS A file b0 xs).2.2 = true) : (rewriteS A file b0 xs).1 = 0 ∧ bytesAt (rewriteS A file b0 xs).2.1 file.data.toList = some (flat xs) := by
  unfold rewriteS at h ⊢
  split
  · rename_i h2; rw [if_pos h2] at h; simp at h
  split
  · rename_i h2 h3; rw [if_neg h2, if_pos h3] at h; simp at h
  · rename_i h2 h3
    exact ⟨rfl, replace_at (by simpa using h3) (anew_at (by simpa using h2))⟩
theorem rewrite_iff (A : DA) (file : ByteArray) (b0 : Int) (xs : List Bt.Bat) : (rewriteS A file b0 xs).2.2 = true ↔ (rewriteS A file b0 xs).1 = 0 := by
  refine ⟨fun h => (rewrite_new h).1, fun h => ?_⟩
  unfold rewriteS at h ⊢
  split
  · rename_i h2; rw [if_pos h2] at h; exact absurd h h2
  split
  · rename_i h2 h3
    rw [if_neg h2, if_pos h3] at h
    simp only at h
    split at h
    · rename_i h4; exact absurd h h4
    · exact absurd h h3
  · rfl
end Go.Proofs.YthbhfhagbaommaaGreatDoor.Lg

/- A disk of a log's files alone, in whatever order they lie; Rewrite there. No program. -/
namespace Go.Proofs.YthbhfhagbaommaaGreatDoor.Lg
open Go.RowKit Go.Maps
set_option linter.unusedSimpArgs false
set_option linter.unusedVariables false
open Dk (DA FA usedL setF outF)
open Sg (Chain flat nextOf)

structure LogP (A : DA) (room : Nat) (dir : ByteArray) (ss : List (Nat × List Bt.Bat)) : Prop where
  lim : A.limited = false
  room : A.room = room
  files : (A.files.map (fun f => (f.name, f.bytes))).Perm (ss.map (fun p => (nmL dir p.1, flat p.2)))
  base : ∀ p ∈ ss, p.1 ≤ 1099511627776
  nd : (ss.map (·.1)).Nodup
theorem LogDisk.p {A : DA} {room : Nat} {dir : ByteArray} {ss : List (Nat × List Bt.Bat)} (h : LogDisk A room dir ss) : LogP A room dir ss := ⟨h.lim, h.room, by rw [h.files], h.base, h.nd⟩
theorem perm_sum {l l' : List Nat} (h : l.Perm l') : l.sum = l'.sum := by
  induction h with
  | nil => rfl
  | cons x _ ih => simp [ih]
  | swap x y l => simp; omega
  | trans _ _ h1 h2 => exact h1.trans h2
theorem find_nd : ∀ {l : List FA}, (l.map (·.name)).Nodup → ∀ {f : FA}, f ∈ l → l.find? (fun g => g.name == f.name) = some f
  | [], _, f, hf => by simp at hf
  | g :: r, h, f, hf => by
    rw [List.map_cons, List.nodup_cons] at h
    rcases List.mem_cons.1 hf with rfl | hf
    · simp
    · have hne : (g.name == f.name) = false := by
        rw [beq_eq_false_iff_ne]
        intro e
        exact h.1 (List.mem_map.2 ⟨f, hf, e.symm⟩)
      rw [List.find?_cons, hne]
      exact find_nd h.2 hf
section
variable {A : DA} {room : Nat} {dir : ByteArray} {ss s1 s2 : List (Nat × List Bt.Bat)} {p : Nat × List Bt.Bat}
theorem LogP.names (h : LogP A room dir ss) : (A.files.map (·.name)).Perm (ss.map (fun p => nmL dir p.1)) := by
  have := h.files.map Prod.fst
  simpa [Function.comp_def] using this
theorem LogP.nodup (h : LogP A room dir ss) : (A.files.map (·.name)).Nodup := by
  rw [h.names.nodup_iff]
  have h1 := h.nd
  unfold List.Nodup at h1 ⊢
  rw [List.pairwise_map] at h1 ⊢
  exact h1.imp_of_mem (fun ha hb hab e => hab (nmL_inj (h.base _ ha) (h.base _ hb) e))
theorem LogP.bytes (h : LogP A room dir ss) (hp : p ∈ ss) : bytesAt A (nmL dir p.1) = some (flat p.2) := by
  have h1 : (nmL dir p.1, flat p.2) ∈ A.files.map (fun f => (f.name, f.bytes)) := h.files.mem_iff.2 (List.mem_map.2 ⟨p, hp, rfl⟩)
  obtain ⟨f, hf, e⟩ := List.mem_map.1 h1
  have e1 : f.name = nmL dir p.1 := congrArg Prod.fst e
  have e2 : f.bytes = flat p.2 := congrArg Prod.snd e
  unfold bytesAt DA.file
  have := find_nd h.nodup hf
  rw [e1] at this
  rw [this]
  simp [e2]
theorem LogP.len (h : LogP A room dir ss) : A.files.length = ss.length := by
  have := h.files.length_eq
  simpa using this
theorem LogP.used (h : LogP A room dir ss) : usedL A.files = (flat (batsL ss)).length := by
  rw [flat_batsL]
  have := perm_sum (h.files.map (fun q => q.2.length))
  simpa [usedL, Function.comp_def] using this
theorem find_no {l : List FA} {nm : List UInt8} (h : nm ∉ l.map (·.name)) : l.find? (fun f => f.name == nm) = none := by
  rw [List.find?_eq_none]
  intro x hx e
  exact h (List.mem_map.2 ⟨x, hx, by simpa using e⟩)
theorem upd_last {A : DA} {pre : List FA} {f : FA} (hA : A.files = pre ++ [f]) (hn : f.name ∉ pre.map (·.name)) (g : FA → FA) : (A.upd f.name g).files = pre ++ [g f] := by
  unfold DA.upd Dk.setF
  simp only [hA, List.map_append, List.map_cons, List.map_nil, beq_self_eq_true, if_true]
  congr 1
  have : pre.map (fun x => if x.name == f.name then g x else x) = pre.map id := by
    apply List.map_congr_left
    intro x hx
    have : (x.name == f.name) = false := by
      rw [beq_eq_false_iff_ne]
      intro e
      exact hn (List.mem_map.2 ⟨x, hx, e⟩)
    rw [this]
    rfl
  rw [this, List.map_id]
theorem tick_free {A : DA} (h : A.limited = false) : A.tick = A := by unfold DA.tick; rw [h]; rfl
theorem fails_free {A : DA} (h : A.limited = false) : A.fails = false := by unfold DA.fails; rw [h]; rfl
theorem has_last {A : DA} {pre : List FA} {f : FA} (hA : A.files = pre ++ [f]) : A.has f.name = true := by
  unfold DA.has
  rw [hA, List.find?_append]
  cases pre.find? (fun g => g.name == f.name) <;> simp
theorem used_last (pre : List FA) (f : FA) : usedL (pre ++ [f]) = usedL pre + f.bytes.length := by simp [usedL]
theorem adds_ok (nm : List UInt8) (b0 : Int) (pre : List FA) (hn : nm ∉ pre.map (·.name)) (s : Nat) : ∀ (xs dn : List Bt.Bat) (A : DA), A.limited = false → A.files = pre ++ [⟨nm, flat dn, s⟩] → usedL pre + (flat dn).length + (flat xs).length ≤ A.room → Chain (nextOf b0 dn) xs →
    ∃ A', addsS nm b0 A dn xs = (0, A', dn ++ xs) ∧ A'.limited = false ∧ A'.room = A.room ∧ A'.files = pre ++ [⟨nm, flat (dn ++ xs), s⟩]
  | [], dn, A, hl, hf, _, _ => ⟨A, by simp [addsS], hl, rfl, by simpa using hf⟩
  | x :: r, dn, A, hl, hf, hr, hc => by
    have hfl : (flat (x :: r)).length = (Bt.encB x).length + (flat r).length := by simp [flat]
    have e : A.add nm (Bt.encB x) = (0, A.upd nm (fun f => { f with bytes := f.bytes ++ Bt.encB x })) := by
      unfold DA.add
      have h1 : A.has nm = true := has_last (f := ⟨nm, flat dn, s⟩) hf
      rw [fails_free hl, h1, hf, used_last, tick_free hl, if_neg (by simp), if_neg (by simp), if_neg (by simp only; omega)]
    have hf2 : (A.upd nm (fun f => { f with bytes := f.bytes ++ Bt.encB x })).files = pre ++ [⟨nm, flat (dn ++ [x]), s⟩] := by
      have := upd_last (f := ⟨nm, flat dn, s⟩) hf hn (fun f => { f with bytes := f.bytes ++ Bt.encB x })
      rw [Sg.flat_append, Sg.flat_one]
      exact this
    have h1 := hc.1
    have h2 := hc.2.1
    have hd := Sg.flat_append dn [x]
    have hlen : (flat (dn ++ [x])).length = (flat dn).length + (Bt.encB x).length := by rw [Sg.flat_append, Sg.flat_one, List.length_append]
    obtain ⟨A', g1, g2, g3, g4⟩ := adds_ok nm b0 pre hn s r (dn ++ [x]) (A.upd nm (fun f => { f with bytes := f.bytes ++ Bt.encB x })) hl hf2 (by show _ ≤ A.room; omega) (by rw [Sg.nextOf_snoc]; exact hc.2.2)
    refine ⟨A', ?_, g2, g3, ?_⟩
    · unfold addsS
      rw [if_neg (by simp [h1]), if_neg (by omega), e, if_neg (by simp), g1]
      simp
    · rw [g4]
      simp
theorem LogP.rewrite {n : Nat} {ys : List Bt.Bat} (h : LogP A room dir (s1 ++ (n, ys) :: s2)) (xs : List Bt.Bat) (hch : Chain n xs) (hok : Dk.nameB (besideB (Sn.nameB dir n)) = true) (hok2 : Dk.nameB (Sn.nameB dir n) = true) (hl : (s1 ++ (n, ys) :: s2).length < 200) (hr : (flat (batsL (s1 ++ (n, ys) :: s2))).length + (flat xs).length ≤ room) :
    (rewriteS A (Sn.nameB dir n) n xs).1 = 0 ∧ LogP (rewriteS A (Sn.nameB dir n) n xs).2.1 room dir (s1 ++ (n, xs) :: s2) := by
  obtain ⟨nb, hnb⟩ : ∃ nb, nb = (besideB (Sn.nameB dir n)).data.toList := ⟨_, rfl⟩
  have hno : nb ∉ A.files.map (·.name) := by
    intro hm
    rw [h.names.mem_iff] at hm
    obtain ⟨q, hq, e⟩ := List.mem_map.1 hm
    exact beside_ne (Sn.nameB dir n) dir q.1 (by rw [← hnb]; exact e.symm)
  have hf := fails_free h.lim
  have htk := tick_free h.lim
  have hfile : A.file nb = none := find_no hno
  have hhas : A.has nb = false := by rw [Dk.has_file, hfile]; rfl
  have hlen := h.len
  have hcl : clearS A nb = (0, A) := by
    unfold clearS DA.sizeOf
    rw [hfile]
    rfl
  have han : anewS A (besideB (Sn.nameB dir n)) = (0, { A with files := A.files ++ [⟨nb, [], 0⟩] }) := by
    unfold anewS
    rw [← hnb, hcl, if_neg (by simp)]
    simp only
    unfold DA.make
    rw [hf, hok, ← hnb, hhas, if_neg (by simp), if_neg (by simp), if_neg (by simp), if_neg (by omega), htk]
  obtain ⟨A1, hA1⟩ : ∃ A1 : DA, A1 = { A with files := A.files ++ [⟨nb, [], 0⟩] } := ⟨_, rfl⟩
  have hu := h.used
  obtain ⟨A2, k1, k2, k3, k4⟩ := adds_ok nb n A.files hno 0 xs [] A1 (by rw [hA1]; exact h.lim) (by rw [hA1]; simp [flat]) (by rw [hA1, hu]; simp only [flat, List.flatMap_nil, List.length_nil]; rw [h.room]; simp [flat] at hr ⊢; omega) (by simpa [nextOf] using hch)
  rw [List.nil_append] at k1 k4
  have hsy : A2.sync nb = (0, A2.upd nb (fun f => { f with safe := f.bytes.length })) := by
    unfold DA.sync
    have h1 : A2.has nb = true := has_last (f := ⟨nb, flat xs, 0⟩) k4
    rw [fails_free k2, h1, tick_free k2, if_neg (by simp), if_neg (by simp)]
  obtain ⟨A3, hA3⟩ : ∃ A3 : DA, A3 = A2.upd nb (fun f => { f with safe := f.bytes.length }) := ⟨_, rfl⟩
  have hf3 : A3.files = A.files ++ [⟨nb, flat xs, (flat xs).length⟩] := by
    rw [hA3]
    exact upd_last (f := ⟨nb, flat xs, 0⟩) k4 hno (fun f => { f with safe := f.bytes.length })
  have hl3 : A3.limited = false := by rw [hA3]; exact k2
  have hr3 : A3.room = room := by rw [hA3]; show A2.room = room; rw [k3, hA1]; exact h.room
  have hout1 : outF (A.files ++ [⟨nb, flat xs, (flat xs).length⟩]) nb = A.files := by
    unfold Dk.outF
    rw [List.filter_append]
    have e1 : A.files.filter (fun f => !(f.name == nb)) = A.files := by
      rw [List.filter_eq_self]
      intro x hx
      have : (x.name == nb) = false := by
        rw [beq_eq_false_iff_ne]
        intro e
        exact hno (List.mem_map.2 ⟨x, hx, e⟩)
      simp [this]
    rw [e1]
    simp
  have hre : A3.rename nb (Sn.nameB dir n) = (0, { A3 with files := outF A.files (nmL dir n) ++ [⟨nmL dir n, flat xs, (flat xs).length⟩] }) := by
    unfold DA.rename
    have h1 : A3.file nb = some ⟨nb, flat xs, (flat xs).length⟩ := by
      unfold DA.file
      rw [hf3, List.find?_append, find_no hno]
      simp
    rw [fails_free hl3, if_neg (by simp), h1]
    simp only
    rw [hok2, if_neg (by simp), tick_free hl3, hf3, hout1]
    rfl
  have hrw : rewriteS A (Sn.nameB dir n) n xs = (0, { A3 with files := outF A.files (nmL dir n) ++ [⟨nmL dir n, flat xs, (flat xs).length⟩] }, true) := by
    have hrp : replaceS A1 nb (Sn.nameB dir n) n xs = (0, { A3 with files := outF A.files (nmL dir n) ++ [⟨nmL dir n, flat xs, (flat xs).length⟩] }, xs) := by
      unfold replaceS
      rw [k1, if_neg (by simp)]
      simp only
      rw [hsy, ← hA3, if_neg (by simp)]
      simp only
      rw [hre]
    unfold rewriteS
    rw [han, ← hA1, ← hnb, if_neg (by simp)]
    simp only
    rw [hrp, if_neg (by simp)]
  rw [hrw]
  refine ⟨rfl, hl3, hr3, ?_, fun q hq => ?_, ?_⟩
  · simp only [List.map_append, List.map_cons, List.map_nil]
    have hff : (outF A.files (nmL dir n)).map (fun f => (f.name, f.bytes)) = (A.files.map (fun f => (f.name, f.bytes))).filter (fun q => !(q.1 == nmL dir n)) := by
      unfold Dk.outF
      rw [List.filter_map]
      rfl
    have hnd := h.nd
    have hbs := h.base
    have hkeep : ∀ q ∈ s1 ++ s2, (!(nmL dir q.1 == nmL dir n)) = true := by
      intro q hq
      have hq' : q ∈ s1 ++ (n, ys) :: s2 := by
        rcases List.mem_append.1 hq with hq | hq
        · exact List.mem_append_left _ hq
        · exact List.mem_append_right _ (List.mem_cons_of_mem _ hq)
      have : (nmL dir q.1 == nmL dir n) = false := by
        rw [beq_eq_false_iff_ne]
        intro e
        have e2 := nmL_inj (hbs q hq') (hbs (n, ys) (by simp)) e
        rw [List.map_append, List.map_cons, List.nodup_append, List.nodup_cons] at hnd
        rcases List.mem_append.1 hq with hq | hq
        · exact hnd.2.2 q.1 (List.mem_map.2 ⟨q, hq, rfl⟩) n (by simp) e2
        · exact hnd.2.1.1 (List.mem_map.2 ⟨q, hq, e2⟩)
      rw [this]
      rfl
    have hside : ((s1 ++ (n, ys) :: s2).map (fun p => (nmL dir p.1, flat p.2))).filter (fun q => !(q.1 == nmL dir n)) = s1.map (fun p => (nmL dir p.1, flat p.2)) ++ s2.map (fun p => (nmL dir p.1, flat p.2)) := by
      rw [List.map_append, List.map_cons, List.filter_append, List.filter_cons, if_neg (by simp)]
      congr 1
      · rw [List.filter_eq_self]
        intro q hq
        obtain ⟨q', hq', rfl⟩ := List.mem_map.1 hq
        exact hkeep q' (List.mem_append_left _ hq')
      · rw [List.filter_eq_self]
        intro q hq
        obtain ⟨q', hq', rfl⟩ := List.mem_map.1 hq
        exact hkeep q' (List.mem_append_right _ hq')
    rw [hff]
    refine (List.Perm.append_right _ (h.files.filter _)).trans ?_
    rw [hside, List.append_assoc]
    refine List.Perm.append_left _ ?_
    exact List.perm_append_comm.trans (by simp)
  · have hb := h.base
    rcases List.mem_append.1 hq with hq | hq
    · exact hb q (List.mem_append_left _ hq)
    · rcases List.mem_cons.1 hq with rfl | hq
      · exact hb (n, ys) (by simp)
      · exact hb q (List.mem_append_right _ (List.mem_cons_of_mem _ hq))
  · have := h.nd
    rw [List.map_append, List.map_cons] at this ⊢
    exact this
end
end Go.Proofs.YthbhfhagbaommaaGreatDoor.Lg

/- conveyorkeep.all: each record from Start on, read piece by piece. -/
namespace Go.Proofs.YthbhfhagbaommaaGreatDoor.Lg
open Go.RowKit Go.Maps
set_option maxRecDepth 100000
set_option linter.unusedSimpArgs false
set_option linter.unusedVariables false
attribute [local go_sem] Oper.semAt_some
open Dk (DA DiskAt Parts Did errR errV)
open Sg (Chain flat pls Both nextOf)

/-- The records of batches. -/
def recsL (xs : List Bt.Bat) : List Bt.Rec := xs.flatMap (·.recs)
theorem sinceL_recs (fr : Int) : ∀ xs : List Bt.Bat, sinceL fr xs = fromL fr (recsL xs)
  | [] => rfl
  | x :: r => by
    have h := sinceL_recs fr r
    unfold sinceL recsL fromL at *
    rw [List.flatMap_cons, List.flatMap_cons, List.filter_append, h]
theorem recsErr_sorted : ∀ {rs : List Bt.Rec} {lo hi : Int}, Bt.recsErr rs lo hi = 0 → rs.Pairwise (fun a b => a.off < b.off)
  | [], _, _, _ => List.Pairwise.nil
  | q :: rs, lo, hi, h => by
    unfold Bt.recsErr at h
    split at h
    · rw [List.pairwise_cons]
      exact ⟨fun r hr => by have := recsErr_mem h r hr; omega, recsErr_sorted h⟩
    · rename_i h0
      exact absurd h h0
theorem recs_ge {xs : List Bt.Bat} {b : Int} (h : Chain b xs) : ∀ r ∈ recsL xs, b ≤ r.off := by
  intro r hr
  obtain ⟨x, hx, hr⟩ := List.mem_flatMap.1 hr
  have := chain_base h x hx
  have := (bat_mem (Sg.Chain.mem h x hx) r hr).1
  omega
theorem recs_sorted : ∀ {xs : List Bt.Bat} {b : Int}, Chain b xs → (recsL xs).Pairwise (fun a b => a.off < b.off)
  | [], _, _ => List.Pairwise.nil
  | x :: r, b, h => by
    unfold recsL
    rw [List.flatMap_cons, List.pairwise_append]
    refine ⟨recsErr_sorted (Bt.chk_ok (Bt.encErr_ok h.1).1).2.2.2.2.2, recs_sorted h.2.2, fun p hp q hq => ?_⟩
    have h1 := (bat_mem h.1 p hp).2
    have h2 := recs_ge h.2.2 q hq
    omega
/-- One piece, and what is left. -/
theorem piece {L P Q : List Bt.Rec} (hs : L.Pairwise (fun a b => a.off < b.off)) (e : L = P ++ Q) {fr : Int} {R : List Bt.Rec} (hR : R = fromL fr P) (h0 : R ≠ []) : fr ≤ (R.getLast h0).off ∧ R.getLast h0 ∈ L ∧ fromL fr L = R ++ fromL ((R.getLast h0).off + 1) L := by
  obtain ⟨z, hz⟩ : ∃ z, z = R.getLast h0 := ⟨_, rfl⟩
  have hzR : z ∈ R := by rw [hz]; exact List.getLast_mem h0
  have hzP : z ∈ P ∧ fr ≤ z.off := by
    rw [hR] at hzR
    unfold fromL at hzR
    have := List.mem_filter.1 hzR
    exact ⟨this.1, by simpa using this.2⟩
  rw [← hz]
  rw [e] at hs
  have hs' := List.pairwise_append.1 hs
  have hRs : R.Pairwise (fun a b => a.off < b.off) := by rw [hR]; exact hs'.1.filter _
  have hle : ∀ r ∈ R, r.off ≤ z.off := by
    intro r hr
    have e2 : R = R.dropLast ++ [z] := by rw [hz]; exact (List.dropLast_concat_getLast h0).symm
    rw [e2] at hr hRs
    rcases List.mem_append.1 hr with h | h
    · have := (List.pairwise_append.1 hRs).2.2 r h z (by simp)
      omega
    · obtain rfl := List.mem_singleton.1 h
      exact Int.le_refl _
  refine ⟨hzP.2, by rw [e]; exact List.mem_append_left _ hzP.1, ?_⟩
  have h1 : fromL (z.off + 1) P = [] := fromL_none fun r hr => by
    rcases Int.lt_or_le r.off fr with h | h
    · omega
    · have : r ∈ R := by rw [hR]; unfold fromL; exact List.mem_filter.2 ⟨hr, by simpa using h⟩
      have := hle r this
      omega
  have h2 : fromL fr Q = Q := fromL_all fun r hr => by have := hs'.2.2 z hzP.1 r hr; omega
  have h3 : fromL (z.off + 1) Q = Q := fromL_all fun r hr => by have := hs'.2.2 z hzP.1 r hr; omega
  have hap : ∀ (f : Int) (a b : List Bt.Rec), fromL f (a ++ b) = fromL f a ++ fromL f b := fun f a b => by unfold fromL; rw [List.filter_append]
  rw [e, hap, hap, h1, h2, h3, hR, List.nil_append]
set_option maxHeartbeats 8000000 in
theorem all_any (w : World) (base d : Nat) (F : List Nat) (A : DA) (lb : Nat) (gv : Value) (dir : ByteArray) (v : LV) (ms0 : List SM) (m : SM) (h : LogAt w base d F A lb gv dir v (ms0 ++ [m])) (hdir : dir.size ≤ 1000) (hok : OkS A dir ((ms0 ++ [m]).map SM.abs)) (most : Int) (hmo : -9223372036854775808 ≤ most ∧ most ≤ 9223372036854775807)
    (b0 : Int) (hch : Chain b0 (batsL ((ms0 ++ [m]).map SM.abs))) (hen : ∀ x ∈ batsL ((ms0 ++ [m]).map SM.abs), x.fin ≤ nextOf m.n m.xs) (hst : v.start ≤ nextOf m.n m.xs) (hst0 : 0 ≤ v.start) (hen2 : nextOf m.n m.xs ≤ 1099511627776) (hfew : (sinceL v.start (batsL ((ms0 ++ [m]).map SM.abs))).length < 5000) :
    Calls Tryz.prog 10 #[.pointer (some ⟨lb, 0, none⟩), .int .i64 most] w fun e w' => ∃ ov, e = .returned (.tuple #[ov, .bool true]) ∧ GRow 42 6 recC w' w.heap.size ov (sinceL v.start (batsL ((ms0 ++ [m]).map SM.abs))) ∧ Turn [] w w' := by
  obtain ⟨bs, hbs⟩ : ∃ bs, bs = batsL ((ms0 ++ [m]).map SM.abs) := ⟨_, rfl⟩
  obtain ⟨nx, hnx⟩ : ∃ nx, nx = nextOf m.n m.xs := ⟨_, rfl⟩
  have hrd := fun (wr : World) (ht : Turn [] w wr) (fr : Int) (h1 : v.start ≤ fr) (h2 : fr ≤ nextOf m.n m.xs) => Read_any wr base d F A lb gv dir v ms0 m (h.still ht) hdir hok fr most hmo h1 h2
  rw [← hbs] at hrd hch hen hfew ⊢
  rw [← hnx] at hrd hen hst hen2
  have hso := recs_sorted hch
  have H := hide h
  have HRD := hide hrd
  have HSO := hide hso
  have HEN := hide hen
  have HCH := hide hch
  have HFEW := hide hfew
  clear h hrd hso hch hen hfew hok hnx hbs
  go_enter Tryz.func10, Tryz.ntmps10
  go_wp2_with fail
  refine (start_any w base d F A lb gv dir v _ H.out).mono ?_
  rintro e w1 ⟨rfl, rfl⟩
  go_wp2
  go_loopw [6, 7, 8] (fun ov fv iv wr => ∃ (i : Nat) (fr : Int) (acc : List Bt.Rec), iv = .int .i64 i ∧ fv = .int .i64 fr ∧ GRow 42 6 recC wr w.heap.size ov acc ∧ v.start ≤ fr ∧ fr ≤ nx ∧ acc ++ sinceL fr bs = sinceL v.start bs ∧ i ≤ acc.length ∧ Turn [] w wr) (fun _ _ iv _ => 5000 - (intOf iv).toNat)
  case atStart => exact ⟨0, v.start, [], rfl, rfl, .inl ⟨rfl, rfl⟩, Int.le_refl _, hst, rfl, Nat.zero_le _, Turn.refl _ _⟩
  case round =>
    obtain ⟨i, fr, acc, rfl, rfl, hov, hf1, hf2, hacc, hia, htw⟩ := hrel
    have hal : acc.length + (sinceL fr bs).length < 5000 := by
      have := congrArg List.length hacc
      rw [List.length_append] at this
      have := HFEW.out
      omega
    obtain ⟨oa, oc, hoe, -, -⟩ := hov.form
    subst hoe
    have HOV := hide hov
    have HACC := hide hacc
    have HTW := hide htw
    clear hov hacc htw
    have hi5 : (i : Int) < 5000 := by omega
    go_wp2_with fail
    refine (HRD.out wr HTW.out fr hf1 hf2).mono ?_
    rintro e w2 ⟨rv, q, rfl, hrow, hemp, ht2⟩
    obtain ⟨R, hR⟩ : ∃ R, R = sinceL fr (bs.take q) := ⟨_, rfl⟩
    rw [← hR] at hrow hemp
    obtain ⟨ra, rc, hre, hrlc, hrcm⟩ := hrow.form
    subst hre
    have hmx : maxLen = 9223372036854775807 := by simp [maxLen]
    rw [hmx] at hrcm
    have HR := hide hR
    have HROW := hide hrow
    have HEM := hide hemp
    have HT2 := hide (HTW.out.same ht2)
    have HT12 := hide ht2
    clear hR hrow hemp ht2
    by_cases hR0 : R = []
    · have hR00 : (R.length : Int) = 0 := by rw [hR0]; rfl
      have hno := HEM.out hR0
      have hfin := HACC.out
      rw [hno, List.append_nil] at hfin
      have HFIN := hide hfin
      clear hno hfin hR0
      go_wp2
      go_ret2
      exact ⟨_, rfl, by rw [← HFIN.out]; exact HOV.out.still HT12.out, HT2.out⟩
    · obtain ⟨n, hn⟩ : ∃ n, R.length = n + 1 := ⟨R.length - 1, by have := List.length_pos_iff.2 hR0; omega⟩
      have hRpos : ((n : Int) + 1 == 0) = false := by rw [beq_eq_false_iff_ne]; omega
      have hsplit : recsL bs = recsL (bs.take q) ++ recsL (bs.drop q) := by unfold recsL; rw [← List.flatMap_append, List.take_append_drop]
      obtain ⟨p1, p2, p3⟩ := piece HSO.out hsplit (fr := fr) (by rw [HR.out, sinceL_recs]) hR0
      obtain ⟨z, hz⟩ : ∃ z, z = R.getLast hR0 := ⟨_, rfl⟩
      rw [← hz] at p1 p2 p3
      have hzn : R[n]'(by omega) = z := by
        rw [hz, List.getLast_eq_getElem]
        congr 1
        omega
      obtain ⟨x, hx, hzx⟩ := List.mem_flatMap.1 p2
      have hzb := (bat_mem (Sg.Chain.mem HCH.out x hx) z hzx).2
      have hxe := HEN.out x hx
      have hRlen : acc.length + R.length < 5000 := by
        have h1 : R.length ≤ (sinceL fr bs).length := by rw [sinceL_recs, p3, List.length_append]; omega
        omega
      have hown : ∀ k ∈ (Value.slice oa acc.length oc).ownBlock, w.heap.size ≤ k ∧ k < wr.heap.size := HOV.out.lt
      obtain ⟨v7, w7, hr7, hrow7, ht7, -⟩ := app_recs w2 w.heap.size (.slice oa acc.length oc) (.slice ra R.length rc) acc R (HOV.out.still HT12.out) (HROW.out.src recC_len) (by omega) (Nat.le_trans HTW.out.size HT12.out.size)
      have hrow2 := HROW.out.kept ht7 (fun k hk hm => by have := (HROW.out.lt k hk).1; have := (hown k (by simpa using hm)).2; omega)
      obtain ⟨g, cap, e, hc, -⟩ := hrow2.at recC_len (j := n) (by omega)
      simp only [Value.slice.injEq, true_and] at e
      obtain ⟨rfl, rfl⟩ := e
      rw [hzn] at hc
      have c0 : w7.cell? ⟨g, n * 6, none⟩ = some (.int .i64 z.off) := hc 0 (by omega)
      have hnb : n < 5000 := by omega
      obtain ⟨va7, vc7, hv7, -, -⟩ := hrow7.form
      subst hv7
      have hacc2 : (acc ++ R) ++ sinceL (z.off + 1) bs = sinceL v.start bs := by
        rw [← HACC.out, List.append_assoc]
        congr 1
        rw [sinceL_recs, sinceL_recs, p3]
      have HACC2 := hide hacc2
      have HROW7 := hide hrow7
      have HT7 := hide (HT2.out.trans ht7 (fun k hk => .inr (hown k (by simpa using hk)).1))
      have hz1 : v.start ≤ z.off := by omega
      have hz2 : z.off + 1 ≤ nx := by omega
      have HR7 := hide hr7
      have hlap : i + 1 ≤ (acc ++ R).length := by rw [List.length_append]; omega
      have HLAP := hide hlap
      rw [hn] at HR7 ⊢
      clear hsplit p1 p2 p3 hz hzn hx hzx hzb hxe hown hr7 hrow7 ht7 hrow2 hc hacc2 hlap hR0 hRlen hn hal
      go_wp2_with (at_builtin; go_must (refine wpList_append_told rfl rfl rfl rfl HR7.out ?_))
      all_goals refine ⟨⟨i + 1, z.off + 1, acc ++ R, by go_num, by go_num, ?_, by omega, hz2, HACC2.out, HLAP.out, HT7.out⟩, ?_⟩
      all_goals first | (simp only [intOf]; omega) | (have := HROW7.out; rw [List.length_append] at this; exact this)
end Go.Proofs.YthbhfhagbaommaaGreatDoor.Lg

/- plog.takeOut: what a row of batches is with the records of one taken out. -/
namespace Go.Proofs.YthbhfhagbaommaaGreatDoor.Lg
open Go.RowKit Go.Maps
set_option maxRecDepth 100000
set_option linter.unusedSimpArgs false
set_option linter.unusedVariables false
attribute [local go_sem] Oper.semAt_some
open Dk (DA DiskAt Parts Did errR errV)
open Sg (SegAt sfoot pls Both Came nextOf flat Chain BRowS BV batC batC_len gkind gsep)

theorem CBox.keptT {w w' : World} {B0 B1 B2 mb n g : Nat} {f : List UInt8 → Int} {now age : Int} (h : CBox w B0 B1 B2 mb n f now age) (ht : Turn [g] w w') {cs : Array Value} {fr : Nat × Nat} {T : TypeId} (e : w.heap[g]? = some (.cells cs T fr)) (h1 : T ≠ 39) (h2 : T ≠ 3) : CBox w' B0 B1 B2 mb n f now age := by
  have hne : ∀ {k : Nat} {c2 : Array Value} {T2 : TypeId} {f2 : Nat × Nat}, w.heap[k]? = some (.cells c2 T2 f2) → T ≠ T2 → k ∉ [g] := fun {k c2 T2 f2} e2 hT hm => by
    obtain rfl := List.mem_singleton.1 hm
    rw [e] at e2
    simp at e2
    exact hT e2.2.1
  refine ⟨ht.heap h.b0 (hne h.b0 h1), ht.heap h.b1 (hne h.b1 h2), ht.heap h.b2 (hne h.b2 h2), h.map.kept ht (fun hm => ?_)⟩
  obtain rfl := List.mem_singleton.1 hm
  obtain ⟨D, ⟨es, clock, hb, -⟩, -⟩ := h.map
  rw [hb] at e
  simp at e
/-- A batch without the records that go, where it lies. -/
def stay1 (f : List UInt8 → Int) (now age : Int) (y : BV) : BV := ⟨{ y.x with recs := staysL f now age y.x.recs }, y.a, (staysL f now age y.x.recs).length, y.c⟩
theorem stay1_own (f : List UInt8 → Int) (now age : Int) (y : BV) : (stay1 f now age y).sl.ownBlock = y.sl.ownBlock := by
  show (Value.slice y.a _ y.c).ownBlock = (Value.slice y.a y.n y.c).ownBlock
  cases y.a <;> simp [Value.ownBlock]
theorem stays_ok {f : List UInt8 → Int} {now age : Int} {rs : List Bt.Rec} (h : ∀ r ∈ rs, RecOk r) : ∀ r ∈ staysL f now age rs, RecOk r := fun r hr => by
  unfold staysL at hr
  exact h r (List.mem_filter.1 hr).1
theorem stay_step {w w2 : World} {base g c l j : Nat} {Y : List BV} {f : List UInt8 → Int} {now age : Int} (h : BRowS w base (.slice (some ⟨g, 0, none⟩) l c) Y) (hj : j < Y.length)
    (hrow : GRow 42 6 recC w2 base (.slice Y[j].a (staysL f now age Y[j].x.recs).length Y[j].c) (staysL f now age Y[j].x.recs)) (ht : Turn Y[j].sl.ownBlock.toList w w2) :
    BRowS (w2.setCell ⟨g, j * 3 + 2, none⟩ (.slice Y[j].a (staysL f now age Y[j].x.recs).length Y[j].c)) base (.slice (some ⟨g, 0, none⟩) l c) (Y.set j (stay1 f now age Y[j])) := by
  obtain ⟨y, hy⟩ : ∃ y, y = Y[j] := ⟨_, rfl⟩
  have hym : y ∈ Y := by rw [hy]; exact List.getElem_mem _
  have hrowl := h.row.kept ht (fun k hk hm => gsep h.row (h.recs Y[j] (List.getElem_mem _)) k (by simpa using hm) hk)
  have hset := hrowl.set batC_len hj (i := 2) (by omega) (u := .slice Y[j].a (staysL f now age Y[j].x.recs).length Y[j].c) (x' := stay1 f now age Y[j]) rfl
  have hts : Turn [g] w2 (w2.setCell ⟨g, j * 3 + 2, none⟩ (.slice Y[j].a (staysL f now age Y[j].x.recs).length Y[j].c)) := (Turn.refl [g] w2).setCell (by simp) _
  have hgl : g ∈ (Value.slice (some ⟨g, 0, none⟩) l c).ownBlock := by simp [Value.ownBlock]
  have hsl : ∀ i (hi : i < (Y.set j (stay1 f now age Y[j])).length), ((Y.set j (stay1 f now age Y[j]))[i]).sl.ownBlock = (Y[i]'(by simpa using hi)).sl.ownBlock := by
    intro i hi
    rw [List.getElem_set]
    split
    · rename_i e; subst e; exact stay1_own _ _ _ _
    · rfl
  have hap := List.pairwise_iff_getElem.1 h.apart
  refine ⟨hset, fun z hz => ?_, fun z hz => ?_, ?_⟩
  · obtain ⟨i, hi, rfl⟩ := List.mem_iff_getElem.1 hz
    have hi' : i < Y.length := by simpa using hi
    have hown := hsl i hi
    rw [List.getElem_set] at hown ⊢
    split
    · rename_i e
      subst e
      refine GRow.kept (sv := (stay1 f now age Y[j]).sl) hrow hts (fun k hk hm => ?_)
      obtain rfl := List.mem_singleton.1 hm
      rw [stay1_own] at hk
      exact gsep h.row (h.recs Y[j] (List.getElem_mem _)) _ hk hgl
    · rename_i e
      have hr := h.recs Y[i] (List.getElem_mem _)
      refine (hr.kept ht (fun k hk hm => ?_)).kept hts (fun k hk hm => ?_)
      · have hm' : k ∈ Y[j].sl.ownBlock := by simpa using hm
        rcases Nat.lt_or_gt_of_ne e with e | e
        · exact hap j i hj hi' e k hm' hk
        · exact hap i j hi' hj e k hk hm'
      · obtain rfl := List.mem_singleton.1 hm
        exact gsep h.row hr _ hk hgl
  · obtain ⟨i, hi, rfl⟩ := List.mem_iff_getElem.1 hz
    rw [List.getElem_set]
    split
    · exact stays_ok (h.ok Y[j] (List.getElem_mem _))
    · exact h.ok _ (List.getElem_mem _)
  · rw [List.pairwise_iff_getElem]
    intro a b ha hb hab k hk
    rw [hsl a ha] at hk
    rw [hsl b hb]
    exact hap a b (by simpa using ha) (by simpa using hb) hab k hk
/-- How many records go. -/
def goneN (f : List UInt8 → Int) (now age : Int) (ys : List BV) : Nat := (ys.map (fun y => y.x.recs.length - (staysL f now age y.x.recs).length)).sum
def stayK (f : List UInt8 → Int) (now age : Int) (k : Nat) (ys : List BV) : List BV := (ys.take k).map (stay1 f now age) ++ ys.drop k
theorem stayK_len (f : List UInt8 → Int) (now age : Int) (k : Nat) (ys : List BV) : (stayK f now age k ys).length = ys.length := by
  unfold stayK; simp; omega
theorem stayK_at (f : List UInt8 → Int) (now age : Int) {k : Nat} {ys : List BV} (hk : k < ys.length) : (stayK f now age k ys)[k]'(by rw [stayK_len]; exact hk) = ys[k] := by
  unfold stayK
  rw [List.getElem_append_right (by simp; omega)]
  simp [Nat.min_eq_left (Nat.le_of_lt hk)]
theorem stayK_step (f : List UInt8 → Int) (now age : Int) {k : Nat} {ys : List BV} (hk : k < ys.length) : (stayK f now age k ys).set k (stay1 f now age ys[k]) = stayK f now age (k + 1) ys := by
  unfold stayK
  rw [List.set_append_right _ _ (by simp; omega), List.take_succ_eq_append_getElem hk, List.map_append]
  simp [Nat.min_eq_left (Nat.le_of_lt hk)]
  rw [List.drop_eq_getElem_cons hk]
  rfl
theorem goneN_step (f : List UInt8 → Int) (now age : Int) {k : Nat} {ys : List BV} (hk : k < ys.length) : goneN f now age (ys.take (k + 1)) = goneN f now age (ys.take k) + (ys[k].x.recs.length - (staysL f now age ys[k].x.recs).length) := by
  unfold goneN
  rw [List.take_succ_eq_append_getElem hk, List.map_append, List.sum_append]
  simp
end Go.Proofs.YthbhfhagbaommaaGreatDoor.Lg

/- plog.latest: the offset of the last record of each key. -/
namespace Go.Proofs.YthbhfhagbaommaaGreatDoor.Lg
open Go.RowKit Go.Maps
set_option maxRecDepth 100000
set_option linter.unusedSimpArgs false
set_option linter.unusedVariables false
attribute [local go_sem] Oper.semAt_some
open Dk (DA DiskAt Parts Did errR errV)
open Sg (SegAt sfoot pls Both Came nextOf flat Chain BRowS BV)

/-- What the map tells behind these records. -/
def latF : (List UInt8 → Int) → List Bt.Rec → (List UInt8 → Int)
  | f, [] => f
  | f, r :: rs => latF (if r.keyed then (fun x => if x = r.key then r.off else f x) else f) rs
theorem latF_append : ∀ (xs ys : List Bt.Rec) (f : List UInt8 → Int), latF f (xs ++ ys) = latF (latF f xs) ys
  | [], _, _ => rfl
  | x :: r, ys, f => by
    show latF (if x.keyed then (fun z => if z = x.key then x.off else f z) else f) (r ++ ys) = latF (latF (if x.keyed then (fun z => if z = x.key then x.off else f z) else f) r) ys
    exact latF_append r ys _
theorem latF_snoc (f : List UInt8 → Int) (rs : List Bt.Rec) {j : Nat} (h : j < rs.length) : latF f (rs.take (j + 1)) = if rs[j].keyed then (fun x => if x = rs[j].key then rs[j].off else latF f (rs.take j) x) else latF f (rs.take j) := by
  rw [List.take_succ_eq_append_getElem h, latF_append]
  rfl
set_option maxHeartbeats 4000000 in
theorem latest_any (w : World) (base d : Nat) (F : List Nat) (A : DA) (lb : Nat) (gv : Value) (dir : ByteArray) (v : LV) (ms : List SM) (h : LogAt w base d F A lb gv dir v ms) (hdir : dir.size ≤ 1000) (hok : OkS A dir (ms.map SM.abs)) :
    Calls Tryz.prog 28 #[.pointer (some ⟨lb, 0, none⟩)] w fun e w' => ∃ mb n, e = .returned (.tuple #[.map (some mb), .nilIface]) ∧ IMap w' mb n (latF (fun _ => 0) (recsL (batsL (ms.map SM.abs)))) ∧ w.heap.size ≤ mb ∧ n ≤ 1000000000 ∧ Turn [] w w' := by
  have hmany := hok.many
  rw [List.length_map] at hmany
  obtain ⟨ga, gc, hgv, hglc, hgcm⟩ := h.row.form
  subst hgv
  have hmx : maxLen = 9223372036854775807 := by simp [maxLen]
  rw [hmx] at hgcm
  have H := hide h
  have HOK := hide hok
  have c3 := (h.still ((Turn.refl [] w).alloc (.map #[] 0))).c3
  have hlb := lt_of_heap h.box
  have hmm := @run_makeMap Tryz.prog
  clear h hok
  go_enter Tryz.func28, Tryz.ntmps28
  go_wp2
  go_loopw [17] (fun kv wr => ∃ k n : Nat, k ≤ ms.length ∧ kv = .int .i64 k ∧ n ≤ k * 400000 ∧ w.heap.size < wr.heap.size ∧ IMap wr w.heap.size n (latF (fun _ => 0) (recsL (batsL ((ms.map SM.abs).take k)))) ∧ Turn [] w wr) (fun kv _ => ms.length - (intOf kv).toNat)
  case atStart => exact ⟨0, 0, Nat.zero_le _, rfl, Nat.zero_le _, by rw [World.size_alloc]; omega, IMap.made w, (Turn.refl [] w).alloc _⟩
  case round =>
    obtain ⟨k, n, hk, rfl, hn, hgt, him, htw⟩ := hrel
    have HIM := hide him
    have HTW := hide htw
    clear him htw hmm c3
    by_cases hlt : k < ms.length
    · obtain ⟨g, cap, e, hc, -⟩ := (H.out.still HTW.out).row.at smC_len (j := k) hlt
      simp only [Value.slice.injEq, true_and] at e
      obtain ⟨rfl, rfl⟩ := e
      obtain ⟨m, hm⟩ : ∃ m, m = ms[k] := ⟨_, rfl⟩
      have hmem : m ∈ ms := by rw [hm]; exact List.getElem_mem _
      have hpa : m.abs ∈ ms.map SM.abs := List.mem_map_of_mem hmem
      have hkm : k < (ms.map SM.abs).length := by rw [List.length_map]; exact hlt
      have hka : (ms.map SM.abs)[k] = m.abs := by rw [List.getElem_map, hm]
      have hn0 : m.n ≤ 1099511627776 := HOK.out.base _ hpa
      obtain ⟨f, hf, hfb⟩ := HOK.out.file _ hpa
      have hch : Chain (m.n : Int) m.xs := HOK.out.chain _ hpa
      have hfl : (flat m.xs).length ≤ 1048576 := flat_short H.out.disk HOK.out hpa
      have hrf := recs_few m.xs
      have hxl := Sg.flat_len m.xs
      have hwh := fun (Z : World) (hZ : Turn [] w Z) => whole_any Z base d F A m.sb m.sv _ m.n m.xs ((H.out.still hZ).both hmem) (Sg.nameB_len hn0 hdir) f hf hfb hch
      have hba := fun (Z : World) (hZ : Turn [] w Z) => Sg.baseOf_any Z base d m.sb m.sv _ m.n _ ((H.out.still hZ).segs m hmem)
      have hsn : recsL (batsL ((ms.map SM.abs).take (k + 1))) = recsL (batsL ((ms.map SM.abs).take k)) ++ recsL m.xs := by
        rw [batsL_take _ hkm, hka]
        unfold recsL
        rw [List.flatMap_append]
        rfl
      have hall : sinceL (m.n : Int) m.xs = recsL m.xs := by rw [sinceL_recs, fromL_all (recs_ge hch)]
      rw [← hm] at hc
      have c0 : wr.cell? ⟨g, k, none⟩ = some (.pointer (some ⟨m.sb, 0, none⟩)) := by simpa [smC] using hc 0 (by omega)
      have HWH := hide hwh
      have HBA := hide hba
      have HSN := hide hsn
      have HALL := hide hall
      have HNUM := hide (And.intro hfl (And.intro hrf hxl))
      clear hc hm hmem hpa hkm hka hn0 hf hfb hch hfl hrf hxl hwh hba hsn hall
      go_wp2_with fail
      refine (HWH.out wr HTW.out).mono ?_
      rintro e w2 ⟨lv, ys, rfl, hbr, hys, ht2⟩
      have HBR := hide hbr
      have HYS := hide hys
      have HT2 := hide ht2
      have hs2 := ht2.size
      clear hbr hys ht2 HWH
      go_wp2_with fail
      refine (HBA.out w2 (HTW.out.same HT2.out)).mono ?_
      rintro e w3 ⟨rfl, rfl⟩
      clear HBA
      go_wp2_with fail
      refine (since_any w2 wr.heap.size lv ys HBR.out.toB (m.n : Int) (by have := HNUM.out; have := congrArg List.length HYS.out; rw [List.length_map] at this; omega) (by have := HNUM.out; rw [HYS.out]; omega)).mono ?_
      rintro e w4 ⟨ov, rfl, hrow, ht4⟩
      rw [HYS.out, HALL.out] at hrow
      obtain ⟨ra, rc, hov, hrlc, hrcm⟩ := hrow.form
      subst hov
      have hrok : ∀ r ∈ recsL m.xs, RecOk r := by
        intro r hr
        obtain ⟨x, hx, hr⟩ := List.mem_flatMap.1 hr
        rw [← HYS.out] at hx
        obtain ⟨y, hy, rfl⟩ := List.mem_map.1 hx
        exact HBR.out.ok y hy r hr
      have hrl : (recsL m.xs).length ≤ 400000 := by have := HNUM.out; unfold recsL; omega
      obtain ⟨rs, hrs⟩ : ∃ rs, rs = recsL m.xs := ⟨_, rfl⟩
      rw [← hrs] at hrow hrlc hrok hrl HSN ⊢
      obtain ⟨f0, hf0⟩ : ∃ f0, f0 = latF (fun _ => 0) (recsL (batsL ((ms.map SM.abs).take k))) := ⟨_, rfl⟩
      rw [← hf0] at HIM
      have hsn : latF (fun _ => 0) (recsL (batsL ((ms.map SM.abs).take (k + 1)))) = latF f0 rs := by rw [HSN.out, latF_append, ← hf0]
      have hs4 := ht4.size
      have HT4 := hide ((HTW.out.same HT2.out).same ht4)
      have HIM4 := hide (HIM.out.still (HT2.out.same ht4))
      have HROW := hide hrow
      have HROK := hide hrok
      have HSNL := hide hsn
      rw [hmx] at hrcm
      clear hrow hrok hsn hrs hf0 HSN HIM HBR HYS HALL HNUM ht4
      go_wp2
      go_loopw [34] (fun jv wi => ∃ j q : Nat, j ≤ rs.length ∧ jv = .int .i64 j ∧ q ≤ n + j ∧ IMap wi w.heap.size q (latF f0 (rs.take j)) ∧ Turn [w.heap.size] w4 wi ∧ Turn [] w wi) (fun jv _ => rs.length - (intOf jv).toNat)
      case atStart => exact ⟨0, n, Nat.zero_le _, rfl, by omega, HIM4.out, Turn.refl _ _, HT4.out⟩
      case round =>
        obtain ⟨j, q, hj, rfl, hq, him, hti, htwi⟩ := hrel
        have HTI := hide hti
        have HTWI := hide htwi
        have HIMI := hide him
        have hsi := hti.size
        clear hti htwi him
        by_cases hjl : j < rs.length
        · have hrowi := HROW.out.kept HTI.out (by intro b hb; have := (HROW.out.lt b hb).1; simp; omega)
          obtain ⟨g2, cap2, e2, hc2, -⟩ := hrowi.at recC_len (j := j) hjl
          simp only [Value.slice.injEq, true_and] at e2
          obtain ⟨rfl, rfl⟩ := e2
          have hls := latF_snoc f0 rs hjl
          have hrk := HROK.out rs[j] (List.getElem_mem _)
          obtain ⟨r, hr⟩ : ∃ r, r = rs[j] := ⟨_, rfl⟩
          rw [← hr] at hc2 hls hrk
          have g0 : wr.cell? ⟨g2, j * 6, none⟩ = some (.int .i64 r.off) := hc2 0 (by omega)
          have g1 : wr.cell? ⟨g2, j * 6 + 1, none⟩ = some (.int .i64 r.time) := hc2 1 (by omega)
          have g22 : wr.cell? ⟨g2, j * 6 + 2, none⟩ = some (.bool r.keyed) := hc2 2 (by omega)
          have g3 : wr.cell? ⟨g2, j * 6 + 3, none⟩ = some (.string ⟨r.key.toArray⟩) := hc2 3 (by omega)
          have g4 : wr.cell? ⟨g2, j * 6 + 4, none⟩ = some (.bool r.gone) := hc2 4 (by omega)
          have g5 : wr.cell? ⟨g2, j * 6 + 5, none⟩ = some (.string ⟨r.value.toArray⟩) := hc2 5 (by omega)
          have HLS := hide hls
          have HRK := hide hrk
          have hks : (⟨r.key.toArray⟩ : ByteArray).size ≤ maxLen := by rw [hmx]; show r.key.toArray.size ≤ _; simpa using hrk.key
          have HKS := hide hks
          clear hrowi hc2 hls hrk hr hks
          cases hkd : r.keyed
          · rw [hkd] at g22 HLS
            clear hkd HKS
            go_wp2
            all_goals refine ⟨⟨j + 1, q, by omega, by go_num, by omega, ?_, HTI.out.alloc _, HTWI.out.alloc _⟩, ?_⟩
            all_goals first | (simp only [intOf]; omega) | (rw [HLS.out, if_neg Bool.false_ne_true]; exact HIMI.out.still ((Turn.refl [] wr).alloc _))
          · rw [hkd] at g22 HLS
            clear hkd
            have hal : Turn [] wr (wr.alloc (.cells #[.int .i64 r.off, .int .i64 r.time, .bool true, .string ⟨r.key.toArray⟩, .bool r.gone, .string ⟨r.value.toArray⟩] 42)) := (Turn.refl [] wr).alloc _
            obtain ⟨w7, hr7, him7, ht7⟩ := (HIMI.out.still hal).put (by rw [hmx]; omega) HKS.out (v := r.off) (by have := HRK.out.off1; have := HRK.out.off2; simp [Lit.wf, IntKind.min, IntKind.max, IntKind.signed, IntKind.bits]; omega)
            have HAL := hide hal
            rw [show (⟨r.key.toArray⟩ : ByteArray).data.toList = r.key from by simp] at him7
            have HIM7 := hide him7
            have HT7 := hide ht7
            clear hal him7 ht7
            go_wp2
            all_goals refine ⟨⟨j + 1, q + 1, by omega, by go_num, by omega, ?_, (HTI.out.alloc _).same HT7.out, (HTWI.out.alloc _).trans HT7.out (fun x hx => .inr (by simp at hx; omega))⟩, ?_⟩
            all_goals first | (simp only [intOf]; omega) | (rw [HLS.out, if_pos rfl]; exact HIM7.out)
        · obtain rfl : j = rs.length := by omega
          rw [List.take_length] at HIMI
          go_wp2
          all_goals refine ⟨⟨k + 1, q, by omega, by go_num, by omega, by omega, ?_, HTWI.out⟩, ?_⟩
          all_goals first | (simp only [intOf]; omega) | (rw [HSNL.out]; exact HIMI.out)
    · obtain rfl : k = ms.length := by omega
      have htk : (ms.map SM.abs).take ms.length = ms.map SM.abs := List.take_of_length_le (by rw [List.length_map]; exact Nat.le_refl _)
      rw [htk] at HIM
      clear htk
      go_wp2
      go_ret2
      exact ⟨_, n, rfl, HIM.out, Nat.le_refl _, by omega, HTW.out⟩
end Go.Proofs.YthbhfhagbaommaaGreatDoor.Lg

/- Batches without the records that go; what goes, goes once. No program. -/
namespace Go.Proofs.YthbhfhagbaommaaGreatDoor.Lg
open Go.RowKit Go.Maps
set_option linter.unusedSimpArgs false
set_option linter.unusedVariables false
open Dk (DA FA usedL)
open Sg (Chain flat nextOf)

theorem put_mono : ∀ (f m n : Nat), n < f → m ≤ n → (Nu.put m).length ≤ (Nu.put n).length
  | 0, _, _, h, _ => by omega
  | f + 1, m, n, h, hm => by
    by_cases h1 : m < 128
    · rw [Nu.put_small h1]
      have := Nu.put_pos n
      simp only [List.length_cons, List.length_nil]
      omega
    · rw [Nu.put_big (by omega : 128 ≤ m), Nu.put_big (by omega : 128 ≤ n), List.length_cons, List.length_cons]
      have := put_mono f (m / 128) (n / 128) (by omega) (by omega)
      omega
theorem recErr_lo {r : Bt.Rec} {lo lo' hi : Int} (h : Bt.recErr r lo hi = 0) (hl : lo' ≤ lo) : Bt.recErr r lo' hi = 0 := by
  unfold Bt.recErr at h ⊢
  split at h
  · omega
  · rename_i h1
    rw [if_neg (fun hc => h1 (hc.imp_left (fun h => by omega)))]
    exact h
theorem recsErr_lo : ∀ {rs : List Bt.Rec} {lo lo' hi : Int}, Bt.recsErr rs lo hi = 0 → lo' ≤ lo → Bt.recsErr rs lo' hi = 0
  | [], _, _, _, _, _ => rfl
  | r :: rs, lo, lo', hi, h, hl => by
    unfold Bt.recsErr at h ⊢
    split at h
    · rename_i h1
      rw [if_pos (recErr_lo h1 hl)]
      exact h
    · rename_i h1
      exact absurd h h1
theorem recsErr_filter (p : Bt.Rec → Bool) : ∀ {rs : List Bt.Rec} {lo hi : Int}, Bt.recsErr rs lo hi = 0 → Bt.recsErr (rs.filter p) lo hi = 0
  | [], _, _, _ => rfl
  | r :: rs, lo, hi, h => by
    unfold Bt.recsErr at h
    split at h
    · rename_i h1
      have ih := recsErr_filter p h
      rw [List.filter_cons]
      split
      · unfold Bt.recsErr
        rw [if_pos h1]
        exact ih
      · exact recsErr_lo ih (by have := (Bt.recErr_ok h1).1; omega)
    · rename_i h1
      exact absurd h h1
theorem recsB_filter (p : Bt.Rec → Bool) (base : Int) : ∀ rs : List Bt.Rec, (Bt.recsB base (rs.filter p)).length ≤ (Bt.recsB base rs).length
  | [] => Nat.le_refl _
  | r :: rs => by
    have ih := recsB_filter p base rs
    unfold Bt.recsB at ih ⊢
    rw [List.filter_cons]
    split
    · simp only [List.flatMap_cons, List.length_append]; omega
    · simp only [List.flatMap_cons, List.length_append]; omega
section
variable (f : List UInt8 → Int) (now age : Int)
/-- A batch without the records that go. -/
def stayB (x : Bt.Bat) : Bt.Bat := { x with recs := staysL f now age x.recs }
def goneB (xs : List Bt.Bat) : Nat := (xs.map (fun x => x.recs.length - (staysL f now age x.recs).length)).sum
theorem stays_len (rs : List Bt.Rec) : (staysL f now age rs).length ≤ rs.length := List.length_filter_le _ _
theorem stayB_len {x : Bt.Bat} (h : Bt.encErr x = 0) : (Bt.encB (stayB f now age x)).length ≤ (Bt.encB x).length := by
  have h1 := put_mono (x.recs.length + 1) (staysL f now age x.recs).length x.recs.length (by omega) (stays_len f now age _)
  have h2 := recsB_filter (fun r => !goesC f now age r) x.base x.recs
  unfold Bt.encB Bt.body stayB staysL at *
  simp only [List.length_append, Bt.four_len]
  omega
theorem stayB_err {x : Bt.Bat} (h : Bt.encErr x = 0) : Bt.encErr (stayB f now age x) = 0 := by
  have hl := stayB_len f now age h
  have hk := (Bt.encErr_ok h).1
  obtain ⟨k1, k2, k3, k4, k5, k6⟩ := Bt.chk_ok hk
  have hs := stays_len f now age x.recs
  have hc : Bt.chk (stayB f now age x) = 0 := by
    unfold Bt.chk stayB
    simp only
    rw [if_neg (by omega), if_neg (by omega), if_neg (by omega)]
    exact recsErr_filter _ k6
  have hb := (Bt.encErr_ok h).2
  have e1 := Bt.encB_len x
  have e2 := Bt.encB_len (stayB f now age x)
  unfold Bt.encErr
  rw [if_pos hc, if_neg (by omega)]
theorem stay_chain : ∀ {xs : List Bt.Bat} {b : Int}, Chain b xs → Chain b (xs.map (stayB f now age))
  | [], _, _ => trivial
  | x :: r, b, h => ⟨stayB_err f now age h.1, h.2.1, stay_chain h.2.2⟩
theorem stay_flat : ∀ {xs : List Bt.Bat} {b : Int}, Chain b xs → (flat (xs.map (stayB f now age))).length ≤ (flat xs).length
  | [], _, _ => Nat.le_refl _
  | x :: r, b, h => by
    have h1 := stayB_len f now age h.1
    have h2 := stay_flat h.2.2
    unfold flat at h2 ⊢
    simp only [List.map_cons, List.flatMap_cons, List.length_append]
    omega
theorem stay_next : ∀ (xs : List Bt.Bat) (b : Int), nextOf b (xs.map (stayB f now age)) = nextOf b xs
  | [], b => rfl
  | x :: r, b => by
    rw [List.map_cons, Sg.nextOf_cons, Sg.nextOf_cons]
    exact stay_next r _
theorem stay_recs (xs : List Bt.Bat) : recsL (xs.map (stayB f now age)) = staysL f now age (recsL xs) := by
  induction xs with
  | nil => rfl
  | cons x r ih =>
    unfold recsL staysL at ih ⊢
    rw [List.map_cons, List.flatMap_cons, List.flatMap_cons, List.filter_append, ih]
    rfl
theorem gone_recs (xs : List Bt.Bat) : (staysL f now age (recsL xs)).length + goneB f now age xs = (recsL xs).length := by
  induction xs with
  | nil => rfl
  | cons x r ih =>
    have h1 := stays_len f now age x.recs
    simp only [recsL, staysL, goneB] at h1 ih ⊢
    simp only [List.map_cons, List.flatMap_cons, List.filter_append, List.length_append, List.sum_cons]
    omega
theorem gone_none {xs : List Bt.Bat} (h : goneB f now age xs = 0) : xs.map (stayB f now age) = xs := by
  have : ∀ x ∈ xs, stayB f now age x = x := by
    intro x hx
    have h1 : x.recs.length - (staysL f now age x.recs).length = 0 := by
      unfold goneB at h
      rw [List.sum_eq_zero_iff_forall_eq_nat] at h
      exact h _ (List.mem_map.2 ⟨x, hx, rfl⟩)
    have h2 : staysL f now age x.recs = x.recs := by
      unfold staysL at h1 ⊢
      exact List.filter_eq_self.2 (by
        have := List.length_filter_eq_length_iff.1 (show (x.recs.filter (fun r => !goesC f now age r)).length = x.recs.length by have := List.length_filter_le (fun r => !goesC f now age r) x.recs; omega)
        exact this)
    unfold stayB
    rw [h2]
  have := List.map_congr_left this
  simpa using this
end
/-! ### what is last -/
theorem latF_ge {L : List Bt.Rec} : ∀ {f : List UInt8 → Int}, L.Pairwise (fun a b => a.off < b.off) → (∀ k, ∀ r ∈ L, f k ≤ r.off) → ∀ r ∈ L, r.keyed = true → r.off ≤ latF f L r.key := by
  have hup : ∀ (L : List Bt.Rec) (f : List UInt8 → Int) (k : List UInt8), L.Pairwise (fun a b => a.off < b.off) → (∀ r ∈ L, f k ≤ r.off) → f k ≤ latF f L k := by
    intro L
    induction L with
    | nil => intro f k _ _; exact Int.le_refl _
    | cons r rs ih =>
      intro f k hs hf
      rw [List.pairwise_cons] at hs
      unfold latF
      refine Int.le_trans ?_ (ih _ k hs.2 (fun x hx => ?_))
      · split
        · dsimp only
          split
          · rename_i e; exact hf r (by simp)
          · exact Int.le_refl _
        · exact Int.le_refl _
      · have h1 := hs.1 x hx
        have h2 := hf x (by simp [hx])
        split
        · dsimp only
          split
          · omega
          · exact h2
        · exact h2
  induction L with
  | nil => intro f _ _ r hr; simp at hr
  | cons q rs ih =>
    intro f hs hf r hr hk
    rw [List.pairwise_cons] at hs
    unfold latF
    rcases List.mem_cons.1 hr with rfl | hr
    · rw [if_pos hk]
      refine Int.le_trans ?_ (hup rs _ r.key hs.2 (fun x hx => ?_))
      · simp
      · simp only [if_true]
        exact Int.le_of_lt (hs.1 x hx)
    · refine ih hs.2 (fun k x hx => ?_) r hr hk
      have h1 := hs.1 x hx
      have h2 := hf k x (by simp [hx])
      split
      · dsimp only
        split
        · omega
        · exact h2
      · exact h2
theorem latF_mem : ∀ (L : List Bt.Rec) (f : List UInt8 → Int) (k : List UInt8), (∃ r ∈ L, r.keyed = true ∧ r.key = k ∧ latF f L k = r.off) ∨ latF f L k = f k
  | [], f, k => .inr rfl
  | q :: rs, f, k => by
    unfold latF
    rcases latF_mem rs (if q.keyed then (fun x => if x = q.key then q.off else f x) else f) k with ⟨r, hr, h1, h2, h3⟩ | h
    · exact .inl ⟨r, by simp [hr], h1, h2, h3⟩
    · rw [h]
      cases hq : q.keyed with
      | false => exact .inr (by simp)
      | true =>
        by_cases e : k = q.key
        · exact .inl ⟨q, by simp, hq, e.symm, by simp [e]⟩
        · exact .inr (by simp [e])
/-- The last offsets of what there is. -/
def lastF (L : List Bt.Rec) : List UInt8 → Int := latF (fun _ => 0) L
theorem lastF_ge {L : List Bt.Rec} (hs : L.Pairwise (fun a b => a.off < b.off)) (h0 : ∀ r ∈ L, 0 ≤ r.off) : ∀ r ∈ L, r.keyed = true → r.off ≤ lastF L r.key := latF_ge hs (fun _ r hr => h0 r hr)
/-- What stays of it once, stays. -/
theorem stays_twice {P Q : List Bt.Rec} {now age : Int} (hs : (P ++ Q).Pairwise (fun a b => a.off < b.off)) (h0 : ∀ r ∈ P ++ Q, 0 ≤ r.off) :
    staysL (lastF (staysL (lastF (P ++ Q)) now age P ++ Q)) now age (staysL (lastF (P ++ Q)) now age P) = staysL (lastF (P ++ Q)) now age P := by
  obtain ⟨f, hf⟩ : ∃ f, f = lastF (P ++ Q) := ⟨_, rfl⟩
  rw [← hf]
  obtain ⟨P', hP⟩ : ∃ P', P' = staysL f now age P := ⟨_, rfl⟩
  rw [← hP]
  have hsub : P'.Sublist P := by rw [hP]; exact List.filter_sublist
  have hsub2 : (P' ++ Q).Sublist (P ++ Q) := hsub.append_right Q
  have hs2 := hs.sublist hsub2
  have hge := lastF_ge hs2 (fun r hr => h0 r (hsub2.subset hr))
  have hge1 := lastF_ge hs h0
  unfold staysL
  rw [List.filter_eq_self]
  intro r hr
  have hr1 : goesC f now age r = false := by
    rw [hP] at hr
    unfold staysL at hr
    simpa using (List.mem_filter.1 hr).2
  cases hk : r.keyed with
  | false => simp [goesC, hk]
  | true =>
    unfold goesC at hr1 ⊢
    rw [hk] at hr1 ⊢
    simp only [Bool.true_and, Bool.or_eq_false_iff, decide_eq_false_iff_not] at hr1 ⊢
    rw [hr1.2]
    have h1 := hge r (List.mem_append_left _ hr) hk
    have h2 : lastF (P' ++ Q) r.key ≤ f r.key := by
      rcases latF_mem (P' ++ Q) (fun _ => 0) r.key with ⟨q, hq, q1, q2, q3⟩ | h
      · have h3 : lastF (P' ++ Q) r.key = q.off := q3
        have h4 := hge1 q (hsub2.subset hq) q1
        rw [q2] at h4
        rw [h3, hf]
        exact h4
      · have h3 : lastF (P' ++ Q) r.key = 0 := h
        have h4 := hge1 r (hsub2.subset (List.mem_append_left _ hr)) hk
        have h5 := h0 r (hsub2.subset (List.mem_append_left _ hr))
        rw [h3, hf]
        omega
    have h3 : ¬ r.off < lastF (P' ++ Q) r.key := by have := hr1.1; omega
    simp [h3]
/-! ### all segments but the last one -/
def compS (dir : ByteArray) (f : List UInt8 → Int) (now age : Int) : DA → List (Nat × List Bt.Bat) → Int × DA × Nat × List (Nat × List Bt.Bat)
  | A, [] => (0, A, 0, [])
  | A, p :: r =>
    if goneB f now age p.2 = 0 then ((compS dir f now age A r).1, (compS dir f now age A r).2.1, (compS dir f now age A r).2.2.1, p :: (compS dir f now age A r).2.2.2)
    else if (rewriteS A (Sn.nameB dir p.1) p.1 (p.2.map (stayB f now age))).1 ≠ 0 then ((rewriteS A (Sn.nameB dir p.1) p.1 (p.2.map (stayB f now age))).1, (rewriteS A (Sn.nameB dir p.1) p.1 (p.2.map (stayB f now age))).2.1, 0, p :: r)
    else ((compS dir f now age (rewriteS A (Sn.nameB dir p.1) p.1 (p.2.map (stayB f now age))).2.1 r).1, (compS dir f now age (rewriteS A (Sn.nameB dir p.1) p.1 (p.2.map (stayB f now age))).2.1 r).2.1,
      goneB f now age p.2 + (compS dir f now age (rewriteS A (Sn.nameB dir p.1) p.1 (p.2.map (stayB f now age))).2.1 r).2.2.1, (p.1, p.2.map (stayB f now age)) :: (compS dir f now age (rewriteS A (Sn.nameB dir p.1) p.1 (p.2.map (stayB f now age))).2.1 r).2.2.2)
/-- A Rewrite of one segment leaves all files right. -/
theorem OkS.rewrite {A : DA} {dir : ByteArray} {s1 s2 : List (Nat × List Bt.Bat)} {p : Nat × List Bt.Bat} (h : OkS A dir (s1 ++ p :: s2)) (hnd : ((s1 ++ p :: s2).map (·.1)).Nodup) (f : List UInt8 → Int) (now age : Int) :
    ((rewriteS A (Sn.nameB dir p.1) p.1 (p.2.map (stayB f now age))).1 ≠ 0 → OkS (rewriteS A (Sn.nameB dir p.1) p.1 (p.2.map (stayB f now age))).2.1 dir (s1 ++ p :: s2)) ∧
    ((rewriteS A (Sn.nameB dir p.1) p.1 (p.2.map (stayB f now age))).1 = 0 → OkS (rewriteS A (Sn.nameB dir p.1) p.1 (p.2.map (stayB f now age))).2.1 dir (s1 ++ (p.1, p.2.map (stayB f now age)) :: s2)) := by
  have hiff := rewrite_iff A (Sn.nameB dir p.1) p.1 (p.2.map (stayB f now age))
  have hat : ∀ q ∈ s1 ++ p :: s2, bytesAt A (nmL dir q.1) = some (flat q.2) := by
    intro q hq
    obtain ⟨g, hg, hb⟩ := h.file q hq
    unfold bytesAt nmL
    rw [hg, Option.map_some, hb]
  have hback : ∀ (A' : DA) (q : Nat × List Bt.Bat), bytesAt A' (nmL dir q.1) = some (flat q.2) → ∃ g, A'.file (Sn.nameB dir q.1).data.toList = some g ∧ g.bytes = flat q.2 := by
    intro A' q e
    unfold bytesAt nmL at e
    obtain ⟨g, hg, hb⟩ := Option.map_eq_some_iff.1 e
    exact ⟨g, hg, hb⟩
  constructor
  · intro hne
    have hf : (rewriteS A (Sn.nameB dir p.1) p.1 (p.2.map (stayB f now age))).2.2 = false := by
      cases e : (rewriteS A (Sn.nameB dir p.1) p.1 (p.2.map (stayB f now age))).2.2 with
      | false => rfl
      | true => exact absurd (hiff.1 e) hne
    refine ⟨h.base, fun q hq => hback _ q ?_, h.chain, h.many⟩
    rw [rewrite_old hf _ (by simp only [List.mem_singleton]; exact fun e => beside_ne _ _ _ e.symm)]
    exact hat q hq
  · intro h0
    have hnew := (rewrite_new (hiff.2 h0)).2
    refine ⟨fun q hq => ?_, fun q hq => hback _ q ?_, fun q hq => ?_, by have := h.many; simpa using this⟩
    · rcases List.mem_append.1 hq with hq | hq
      · exact h.base q (List.mem_append_left _ hq)
      · rcases List.mem_cons.1 hq with rfl | hq
        · exact h.base p (by simp)
        · exact h.base q (by simp [hq])
    · have hoth : ∀ q ∈ s1 ++ p :: s2, q.1 ≠ p.1 → bytesAt (rewriteS A (Sn.nameB dir p.1) p.1 (p.2.map (stayB f now age))).2.1 (nmL dir q.1) = some (flat q.2) := by
        intro q hq hne
        rw [rewrite_same A _ _ _ _ (by
          simp only [List.mem_cons, List.not_mem_nil, or_false, not_or]
          exact ⟨fun e => beside_ne _ _ _ e.symm, fun e => hne (nmL_inj (h.base q hq) (h.base p (by simp)) e)⟩)]
        exact hat q hq
      rw [List.map_append, List.map_cons, List.nodup_append, List.nodup_cons] at hnd
      rcases List.mem_append.1 hq with hq | hq
      · exact hoth q (List.mem_append_left _ hq) (fun e => hnd.2.2 q.1 (List.mem_map.2 ⟨q, hq, rfl⟩) p.1 (by simp) e)
      · rcases List.mem_cons.1 hq with rfl | hq
        · exact hnew
        · exact hoth q (by simp [hq]) (fun e => hnd.2.1.1 (List.mem_map.2 ⟨q, hq, e⟩))
    · rcases List.mem_append.1 hq with hq | hq
      · exact h.chain q (List.mem_append_left _ hq)
      · rcases List.mem_cons.1 hq with rfl | hq
        · exact stay_chain f now age (h.chain p (by simp))
        · exact h.chain q (by simp [hq])
/-- On a disk that does not fail and has room all is done. -/
theorem comp_all {room : Nat} {dir : ByteArray} {f : List UInt8 → Int} {now age : Int} (hok : ∀ n, n ≤ 1099511627776 → Dk.nameB (besideB (Sn.nameB dir n)) = true ∧ Dk.nameB (Sn.nameB dir n) = true) (hi : Nat) : ∀ (ss s1 s2 : List (Nat × List Bt.Bat)) (A : DA), LogP A room dir (s1 ++ ss ++ s2) → (s1 ++ ss ++ s2).length < 200 → (∀ p ∈ ss, Chain p.1 p.2) → (flat (batsL (s1 ++ ss ++ s2))).length ≤ hi → 2 * hi ≤ room →
    (compS dir f now age A ss).1 = 0 ∧ LogP (compS dir f now age A ss).2.1 room dir (s1 ++ ss.map (fun p => (p.1, p.2.map (stayB f now age))) ++ s2) ∧ (compS dir f now age A ss).2.2 = (goneB f now age (batsL ss), ss.map (fun p => (p.1, p.2.map (stayB f now age))))
  | [], s1, s2, A, h, _, _, _, _ => ⟨rfl, by simpa [compS] using h, rfl⟩
  | p :: r, s1, s2, A, h, hl, hc, hf, hr => by
    have hbl : goneB f now age (batsL (p :: r)) = goneB f now age p.2 + goneB f now age (batsL r) := by
      rw [batsL_cons]
      unfold goneB
      rw [List.map_append, List.sum_append]
    unfold compS
    by_cases h0 : goneB f now age p.2 = 0
    · have hst := gone_none f now age h0
      obtain ⟨k1, k2, k3⟩ := comp_all hok hi r (s1 ++ [p]) s2 A (by simpa using h) (by simpa using hl) (fun q hq => hc q (by simp [hq])) (by simpa using hf) hr
      rw [if_pos h0, List.map_cons, hst]
      refine ⟨k1, by simpa using k2, ?_⟩
      simp only
      rw [k3, hbl, h0]
      simp
    · have h' : LogP A room dir (s1 ++ (p.1, p.2) :: (r ++ s2)) := by simpa using h
      have hpc := hc p (by simp)
      have hsf := stay_flat f now age hpc
      have hpl : (flat p.2).length ≤ (flat (batsL (s1 ++ (p :: r) ++ s2))).length := by
        rw [flat_batsL]
        simp only [List.map_append, List.map_cons, List.sum_append, List.sum_cons]
        omega
      obtain ⟨q1, q2⟩ := h'.rewrite (p.2.map (stayB f now age)) (stay_chain f now age hpc) (hok p.1 (h.base p (by simp))).1 (hok p.1 (h.base p (by simp))).2 (by simpa using hl) (by
        have e : (s1 ++ (p.1, p.2) :: (r ++ s2)) = s1 ++ (p :: r) ++ s2 := by simp
        rw [e]
        omega)
      have hf2 : (flat (batsL (s1 ++ [(p.1, p.2.map (stayB f now age))] ++ r ++ s2))).length ≤ hi := by
        rw [flat_batsL] at hf ⊢
        simp only [List.map_append, List.map_cons, List.map_nil, List.sum_append, List.sum_cons, List.sum_nil] at hf ⊢
        omega
      obtain ⟨k1, k2, k3⟩ := comp_all hok hi r (s1 ++ [(p.1, p.2.map (stayB f now age))]) s2 (rewriteS A (Sn.nameB dir p.1) p.1 (p.2.map (stayB f now age))).2.1 (by simpa using q2) (by simpa using hl) (fun q hq => hc q (by simp [hq])) hf2 hr
      rw [if_neg h0, if_neg (by simp [q1]), List.map_cons]
      refine ⟨k1, by simpa using k2, ?_⟩
      simp only
      rw [k3, hbl]
end Go.Proofs.YthbhfhagbaommaaGreatDoor.Lg

/- plog.takeOut. -/
namespace Go.Proofs.YthbhfhagbaommaaGreatDoor.Lg
open Go.RowKit Go.Maps
set_option maxRecDepth 100000
set_option linter.unusedSimpArgs false
set_option linter.unusedVariables false
attribute [local go_sem] Oper.semAt_some
open Dk (DA DiskAt Parts Did errR errV)
open Sg (SegAt sfoot pls Both Came nextOf flat Chain BRowS BV batC batC_len gkind gsep)

theorem CBox.kept {w w' : World} {B0 B1 B2 mb n : Nat} {f : List UInt8 → Int} {now age : Int} {S : List Nat} (h : CBox w B0 B1 B2 mb n f now age) (ht : Turn S w w') (h0 : B0 ∉ S) (h1 : B1 ∉ S) (h2 : B2 ∉ S) (h3 : mb ∉ S) : CBox w' B0 B1 B2 mb n f now age :=
  ⟨ht.heap h.b0 h0, ht.heap h.b1 h1, ht.heap h.b2 h2, h.map.kept ht h3⟩
theorem CBox.keptR {α : Type} {T : TypeId} {n' : Nat} {enc : α → List Value} {w w' : World} {B0 B1 B2 mb n base : Nat} {f : List UInt8 → Int} {now age : Int} {sv : Value} {xs : List α} (h : CBox w B0 B1 B2 mb n f now age) (hr : GRow T n' enc w base sv xs) (ht : Turn sv.ownBlock.toList w w') (h1 : T ≠ 39) (h2 : T ≠ 3) : CBox w' B0 B1 B2 mb n f now age := by
  rcases hr with ⟨rfl, -⟩ | ⟨g, cap, cs, rfl, -, hg, -⟩
  · exact h.still (by simpa [Value.ownBlock] using ht)
  · exact h.keptT (by simpa [Value.ownBlock] using ht) hg h1 h2
theorem goneN_B (f : List UInt8 → Int) (now age : Int) (ys : List BV) : goneN f now age ys = goneB f now age (ys.map (·.x)) := by
  unfold goneN goneB
  rw [List.map_map]
  rfl
theorem goneN_le (f : List UInt8 → Int) (now age : Int) (ys : List BV) : goneN f now age ys ≤ (recsL (ys.map (·.x))).length := by
  rw [goneN_B]
  have := gone_recs f now age (ys.map (·.x))
  omega
theorem stayK_all (f : List UInt8 → Int) (now age : Int) (ys : List BV) : (stayK f now age ys.length ys).map (·.x) = (ys.map (·.x)).map (stayB f now age) := by
  unfold stayK
  simp [stay1, stayB, Function.comp_def]
/-- What a round leaves: the batch's box, the row's cell. -/
theorem round_cells {w1 w2 : World} {Z g k l c base : Nat} {y : BV} {V : Value} {ys : List BV} {rs : List Bt.Rec} (hz : w1.heap[Z]? = some (.cells #[.int .i64 y.x.base, .int .i64 y.x.fin, .slice y.a y.x.recs.length y.c] 70 (0, 0)))
    (hrow : GRow 70 3 batC w1 base (.slice (some ⟨g, 0, none⟩) l c) ys) (hne : Z ≠ g) (hk : k < ys.length) (hr : GRow 42 6 recC w1 base (.slice y.a y.x.recs.length y.c) rs) (ht : Turn (Value.slice y.a y.x.recs.length y.c).ownBlock.toList w1 w2) :
    (w2.cell? ⟨g, k * 3 + 2, none⟩).isSome = true ∧ w2.frozen? ⟨g, k * 3 + 2, none⟩ = false ∧ w2.cell? ⟨Z, 2, none⟩ = some (.slice y.a y.x.recs.length y.c) ∧ ∀ Q, Turn [] (w2.setCell ⟨g, k * 3 + 2, none⟩ V) Q → Q.cell? ⟨Z, 2, none⟩ = some (.slice y.a y.x.recs.length y.c) ∧ Q.cell? ⟨g, k * 3 + 2, none⟩ = some V ∧ Q.heap[Z]? = some (.cells #[.int .i64 y.x.base, .int .i64 y.x.fin, .slice y.a y.x.recs.length y.c] 70 (0, 0)) := by
  have hzs : Z ∉ (Value.slice y.a y.x.recs.length y.c).ownBlock.toList := fun hm => by
    obtain ⟨cs, e⟩ := gkind hr Z (by simpa using hm)
    rw [hz] at e
    simp at e
  have hz2 := ht.heap hz hzs
  have hrow2 := hrow.kept ht (fun q hq hm => gsep hrow hr q (by simpa using hm) hq)
  obtain ⟨g', cap', e, hc, hf⟩ := hrow2.at batC_len (j := k) hk
  simp only [Value.slice.injEq, Option.some.injEq, Addr.mk.injEq, and_true] at e
  obtain ⟨rfl, -⟩ := e
  obtain ⟨cs, hg⟩ := gkind hrow2 g (by simp [Value.ownBlock])
  have c2 := hc 2 (by omega)
  refine ⟨by rw [c2]; rfl, hf _, by rw [cell_of hz2]; rfl, fun Q hQ => ?_⟩
  have hts : Turn [g] w2 (w2.setCell ⟨g, k * 3 + 2, none⟩ V) := (Turn.refl [g] w2).setCell (by simp) _
  have hz3 := hQ.heap (hts.heap hz2 (by simpa using hne)) (by simp)
  have hg3 := hQ.heap (heap_set hg (k * 3 + 2) V) (by simp)
  refine ⟨by rw [cell_of hz3]; rfl, ?_, hz3⟩
  rw [cell_of hg3]
  have hsz : k * 3 + 2 < cs.size := by
    rw [cell_of hg] at c2
    have := (Array.getElem?_eq_some_iff.1 c2).1
    exact this
  simp [hsz]
/-- What takeOut leaves. -/
def takeP (w : World) (base d : Nat) (F : List Nat) (A : DA) (sb : Nat) (sv : Value) (file : ByteArray) (n : Nat) (xs : List Bt.Bat) (fl : List UInt8 → Int) (now age : Int) (e : Ending) (w' : World) : Prop :=
  (goneB fl now age xs = 0 ∧ e = .returned (.tuple #[.int .i64 0, .nilIface]) ∧ Turn [] w w') ∨
  (goneB fl now age xs ≠ 0 ∧ (rewriteS A file n (xs.map (stayB fl now age))).1 = 0 ∧ e = .returned (.tuple #[.int .i64 (goneB fl now age xs : Nat), .nilIface]) ∧
    Came w w' base d F (rewriteS A file n (xs.map (stayB fl now age))).2.1 sb sv file n (pls 0 (-1) (xs.map (stayB fl now age)))) ∨
  (goneB fl now age xs ≠ 0 ∧ (rewriteS A file n (xs.map (stayB fl now age))).1 ≠ 0 ∧ e = .returned (.tuple #[.int .i64 0, .iface 56 (.int .i64 (rewriteS A file n (xs.map (stayB fl now age))).1)]) ∧
    Came w w' base d F (rewriteS A file n (xs.map (stayB fl now age))).2.1 sb sv file n (pls 0 (-1) xs))
set_option maxHeartbeats 8000000 in
theorem takeOut_any (w : World) (base d : Nat) (F : List Nat) (A : DA) (sb : Nat) (sv : Value) (file : ByteArray) (n : Nat) (xs : List Bt.Bat) (h : Both w base d F A sb sv file n (pls 0 (-1) xs)) (hfs : file.size ≤ 10000) (f : Dk.FA) (hf : A.file file.data.toList = some f) (hfb : f.bytes = flat xs) (hch : Chain n xs)
    (B0 B1 B2 mb nn : Nat) (fl : List UInt8 → Int) (now age : Int) (hcb : CBox w B0 B1 B2 mb nn fl now age) (hsh : (flat xs).length ≤ 1048576) :
    Calls Tryz.prog 30 #[.pointer (some ⟨sb, 0, none⟩), fnC B0 B1 B2] w (takeP w base d F A sb sv file n xs fl now age) := by
  have hmx : maxLen = 9223372036854775807 := by simp [maxLen]
  have hwh := whole_any w base d F A sb sv file n xs h (by omega) f hf hfb hch
  have hxl := Sg.flat_len xs
  have hrf := recs_few xs
  have HWH := hide hwh
  have H := hide h
  have HCB := hide hcb
  have HCH := hide hch
  clear hwh h hf hfb hch hcb
  unfold fnC
  go_enter Tryz.func30, Tryz.ntmps30
  go_wp2_with fail
  refine HWH.out.mono ?_
  rintro e w1 ⟨lv, ys, rfl, hbr, hys, ht1⟩
  obtain ⟨la, lc, hlv, hllc, hlcm⟩ := hbr.row.form
  subst hlv
  rw [hmx] at hlcm
  have hyl : ys.length ≤ 900000 := by have := congrArg List.length hys; rw [List.length_map] at this; omega
  have hgl : ∀ k, goneN fl now age (ys.take k) ≤ 1000000 := by
    intro k
    have h1 := goneN_le fl now age ys
    rw [hys] at h1
    have h2 : goneN fl now age (ys.take k) ≤ goneN fl now age ys := by
      unfold goneN
      conv => rhs; rw [← List.take_append_drop k ys, List.map_append, List.sum_append]
      omega
    unfold recsL at h1
    omega
  obtain ⟨N, hN⟩ : ∃ N, N = ys.length := ⟨_, rfl⟩
  rw [← hN] at hllc hyl
  have hrl : ∀ y ∈ ys, y.x.recs.length ≤ 900000 := by
    intro y hy
    have hm : y.x ∈ xs := by rw [← hys]; exact List.mem_map_of_mem hy
    obtain ⟨i, hi, e⟩ := List.mem_iff_getElem.1 hm
    have := take_le xs i hi
    rw [e] at this
    omega
  have HN := hide hN
  have HBR := hide hbr
  have HYS := hide hys
  have HT1 := hide ht1
  have HRL := hide hrl
  have HGL := hide hgl
  clear hbr hys ht1 HWH hrl hgl
  rw [← hN]
  clear hN
  go_wp2
  go_loopw [8, 22] (fun nv kv wr => ∃ k : Nat, k ≤ N ∧ kv = .int .i64 k ∧ nv = .int .i64 (goneN fl now age (ys.take k) : Nat) ∧ BRowS wr w.heap.size (.slice la N lc) (stayK fl now age k ys) ∧ CBox wr B0 B1 B2 mb nn fl now age ∧ Turn [] w wr) (fun _ kv _ => N - (intOf kv).toNat)
  case atStart =>
    refine ⟨0, Nat.zero_le _, rfl, rfl, ?_, HCB.out.still HT1.out, HT1.out⟩
    have := HBR.out
    rw [← HN.out] at this
    exact this
  case round =>
    obtain ⟨k, hk, rfl, rfl, hrow, hcb, htw⟩ := hrel
    have HROW := hide hrow
    have HCB2 := hide hcb
    have HTW := hide htw
    clear hrow hcb htw
    by_cases hlt : k < N
    · have hky : k < ys.length := by rw [← HN.out]; exact hlt
      have hks : k < (stayK fl now age k ys).length := by rw [stayK_len]; exact hky
      have hya := stayK_at fl now age hky
      obtain ⟨y, hy⟩ : ∃ y, y = ys[k] := ⟨_, rfl⟩
      have hym : y ∈ ys := by rw [hy]; exact List.getElem_mem _
      obtain ⟨g, cap, e, hc, hfz⟩ := HROW.out.row.at batC_len (j := k) hks
      rw [stayK_len, ← HN.out] at e
      simp only [Value.slice.injEq, true_and] at e
      obtain ⟨rfl, rfl⟩ := e
      rw [hya, ← hy] at hc
      obtain ⟨Z, hZ⟩ : ∃ Z, Z = wr.heap.size := ⟨_, rfl⟩
      obtain ⟨wq, hwq⟩ : ∃ wq, wq = wr.alloc (.cells #[.int .i64 y.x.base, .int .i64 y.x.fin, .slice y.a y.x.recs.length y.c] 70) := ⟨_, rfl⟩
      have hal : Turn [] wr wq := by rw [hwq]; exact (Turn.refl [] wr).alloc _
      have hbq : wq.heap[Z]? = some (.cells #[.int .i64 y.x.base, .int .i64 y.x.fin, .slice y.a y.x.recs.length y.c] 70 (0, 0)) := by rw [hwq, hZ]; exact heap_new wr _
      have hrowq := HROW.out.still hal
      have hrec := hrowq.recs _ (List.getElem_mem hks)
      have hrok := hrowq.ok _ (List.getElem_mem hks)
      rw [hya, ← hy] at hrec hrok
      obtain ⟨ra, rc, hyv, hrlc, hrcm⟩ := hrec.form
      have hyn : y.n = y.x.recs.length := by
        unfold BV.sl at hyv
        simp only [Value.slice.injEq] at hyv
        exact hyv.2.1
      have hyc : y.c ≤ 9223372036854775807 ∧ y.x.recs.length ≤ y.c := by
        unfold BV.sl at hyv
        simp only [Value.slice.injEq] at hyv
        rw [hyv.2.2, ← hmx]
        exact ⟨hrcm, hrlc⟩
      have hrec' := hrec
      unfold BV.sl at hrec'
      rw [hyn] at hrec'
      have c0 : wr.cell? ⟨g, k * 3, none⟩ = some (.int .i64 y.x.base) := hc 0 (by omega)
      have c1 : wr.cell? ⟨g, k * 3 + 1, none⟩ = some (.int .i64 y.x.fin) := hc 1 (by omega)
      have c2 : wr.cell? ⟨g, k * 3 + 2, none⟩ = some (.slice y.a y.x.recs.length y.c) := by rw [← hyn]; exact hc 2 (by omega)
      have hgz : g < wr.heap.size := (HROW.out.row.lt g (by simp [Value.ownBlock])).2
      have hne : Z ≠ g := by omega
      have hstep : ∀ w2 : World, GRow 42 6 recC w2 w.heap.size (.slice y.a (staysL fl now age y.x.recs).length y.c) (staysL fl now age y.x.recs) → Turn (Value.slice y.a y.x.recs.length y.c).ownBlock.toList wq w2 →
          BRowS (w2.setCell ⟨g, k * 3 + 2, none⟩ (.slice y.a (staysL fl now age y.x.recs).length y.c)) w.heap.size (.slice (some ⟨g, 0, none⟩) N lc) (stayK fl now age (k + 1) ys) ∧ CBox (w2.setCell ⟨g, k * 3 + 2, none⟩ (.slice y.a (staysL fl now age y.x.recs).length y.c)) B0 B1 B2 mb nn fl now age ∧ Turn [] w (w2.setCell ⟨g, k * 3 + 2, none⟩ (.slice y.a (staysL fl now age y.x.recs).length y.c)) := by
        intro w2 h1 h2
        have hst := stay_step (w := wq) (w2 := w2) (f := fl) (now := now) (age := age) hrowq hks (by rw [hya, ← hy]; exact h1) (by rw [hya, ← hy]; unfold BV.sl; rw [hyn]; exact h2)
        rw [hya, stayK_step fl now age hky, ← hy] at hst
        have hrow2 := hrowq.row.kept h2 (fun q hq hm => gsep hrowq.row hrec' q (by simpa using hm) hq)
        have hts : Turn [g] w2 (w2.setCell ⟨g, k * 3 + 2, none⟩ (.slice y.a (staysL fl now age y.x.recs).length y.c)) := (Turn.refl [g] w2).setCell (by simp) _
        refine ⟨hst, (((HCB2.out.still hal).keptR hrec' h2 (by decide) (by decide)).keptR hrow2 (by simpa [Value.ownBlock] using hts) (by decide) (by decide)), ?_⟩
        refine ((HTW.out.same hal).trans h2 (fun q hq => .inr (hrec'.lt q (by simpa using hq)).1)).trans hts (fun q hq => ?_)
        obtain rfl := List.mem_singleton.1 hq
        exact .inr (hrowq.row.lt _ (by simp [Value.ownBlock])).1
      have hcl := fun (w2 : World) (h2 : Turn (Value.slice y.a y.x.recs.length y.c).ownBlock.toList wq w2) => round_cells (V := .slice y.a (staysL fl now age y.x.recs).length y.c) hbq hrowq.row hne hks hrec' h2
      have hdel := delete_rec wq B0 B1 B2 mb nn fl now age (HCB2.out.still hal) w.heap.size y.a y.c y.x.recs hrec' hrok (by have := HRL.out y hym; omega)
      unfold fnC at hdel
      have hry := HRL.out y hym
      have hgs := goneN_step fl now age hky
      rw [← hy] at hgs
      have hsl := stays_len fl now age y.x.recs
      have hg1 := HGL.out k
      have hg2 := HGL.out (k + 1)
      obtain ⟨sl, hslv⟩ : ∃ sl, sl = (staysL fl now age y.x.recs).length := ⟨_, rfl⟩
      obtain ⟨rl, hrlv⟩ : ∃ rl, rl = y.x.recs.length := ⟨_, rfl⟩
      have HDEL := hide hdel
      have HSTEP := hide hstep
      have HCL := hide hcl
      have HGS := hide hgs
      have HZ := hide hZ
      have HWQ := hide hwq
      have HBQ := hide hbq
      have hzq : Z < wq.heap.size := lt_of_heap hbq
      have hgq : g < wq.heap.size := by have := hal.size; omega
      have b2 : wq.cell? ⟨Z, 2, none⟩ = some (.slice y.a y.x.recs.length y.c) := by rw [cell_of hbq]; rfl
      clear hya hy hym hc hfz hrec hrok hyv hrlc hrcm hdel hstep hgs hal hrowq hrec' hcl hZ hwq hbq hks
      go_upto_region 8 with fail
      rw [show wr.alloc (.cells #[.int .i64 y.x.base, .int .i64 y.x.fin, .slice y.a y.x.recs.length y.c] 70) = wq from HWQ.out.symm, ← HZ.out]
      clear c0 c1 c2
      go_wp2_with fail
      refine HDEL.out.mono ?_
      rintro e w2 ⟨rfl, hrow2, ht2⟩
      have hs := HSTEP.out w2 hrow2 ht2
      obtain ⟨k1, k2, k3, k4⟩ := HCL.out w2 ht2
      obtain ⟨oldv, hold⟩ := Option.isSome_iff_exists.1 k1
      have HS := hide hs
      have HK4 := hide k4
      have hz2 : Z < w2.heap.size := Nat.lt_of_lt_of_le hzq ht2.size
      have hg2' : g < w2.heap.size := Nat.lt_of_lt_of_le hgq ht2.size
      clear hs k4 k1 hrow2 ht2 HDEL HSTEP HCL b2
      go_upto_region 9 with fail
      have hki : (k : Int) < (N : Int) := by omega
      have hki0 : (0 : Int) ≤ (k : Int) := by omega
      refine wp_region_tail 12 (Turn []) (by kernel_rfl) (by kernel_rfl) (by kernel_rfl) (by kernel_rfl) (by kernel_rfl) (Nat.le_of_ble_eq_true rfl) rfl (Turn.refl _) (fun _ _ _ h k => h.same k) ?_
      apply Lo.runx 1 rfl rfl [] (by kernel_rfl) (Turn.refl _)
      apply Exists.intro; apply And.intro
      · intro u w1 hR hF
        clear hF
        refine ⟨rfl, fun a ha K hK => ?_⟩
        have e8 := ha 8
        conv at e8 => rhs; whnf
        clear ha
        go_simp
        refine hK _ ?_; rfl
      apply Lo.runx 2 rfl rfl [] (by kernel_rfl) (Turn.refl _)
      apply Exists.intro; apply And.intro
      · intro u w1 hR hF
        clear hF
        refine ⟨rfl, fun a ha K hK => ?_⟩
        have e10 := ha 10
        conv at e10 => rhs; whnf
        clear ha
        go_simp
        refine hK _ ?_; rfl
      apply Lo.runx 3 rfl rfl [1] (by kernel_rfl) (Turn.refl _)
      apply Exists.intro; apply And.intro
      · intro u w1 hR hF
        obtain ⟨h1, -⟩ := hF
        refine ⟨rfl, fun a ha K hK => ?_⟩
        have e36 := (ha 36).trans h1
        clear ha h1
        have q0 := (HK4.out w1 (((Turn.refl [] _).drew).same hR)).1
        go_simp
        refine hK _ ?_; rfl
      apply Lo.runx 4 rfl rfl [2] (by kernel_rfl) (Turn.refl _)
      apply Exists.intro; apply And.intro
      · intro u w1 hR hF
        obtain ⟨h2, -⟩ := hF
        refine ⟨rfl, fun a ha K hK => ?_⟩
        have e37 := (ha 37).trans h2
        clear ha h2
        go_simp
        refine hK _ ?_; rfl
      apply Lo.runx 5 rfl rfl [] (by kernel_rfl) (Turn.refl _)
      apply Exists.intro; apply And.intro
      · intro u w1 hR hF
        clear hF
        refine ⟨rfl, fun a ha K hK => ?_⟩
        have e6 := ha 6
        conv at e6 => rhs; whnf
        clear ha
        go_simp
        refine hK _ ?_; rfl
      apply Lo.runx 6 rfl rfl [] (by kernel_rfl) (Turn.refl _)
      apply Exists.intro; apply And.intro
      · intro u w1 hR hF
        clear hF
        refine ⟨rfl, fun a ha K hK => ?_⟩
        have e9 := ha 9
        conv at e9 => rhs; whnf
        clear ha
        go_simp
        refine hK _ ?_; rfl
      apply Lo.runx 7 rfl rfl [4, 5] (by kernel_rfl) (Turn.refl _)
      apply Exists.intro; apply And.intro
      · intro u w1 hR hF
        obtain ⟨h4, h5, -⟩ := hF
        refine ⟨rfl, fun a ha K hK => ?_⟩
        have e39 := (ha 39).trans h4
        have e40 := (ha 40).trans h5
        clear ha h4 h5
        go_simp
        refine hK _ ?_; rfl
      apply Lo.runx 8 rfl rfl [6] (by kernel_rfl) (Turn.refl _)
      apply Exists.intro; apply And.intro
      · intro u w1 hR hF
        obtain ⟨h6, -⟩ := hF
        refine ⟨rfl, fun a ha K hK => ?_⟩
        have e41 := (ha 41).trans h6
        clear ha h6
        go_simp
        refine hK _ ?_; rfl
      apply Lo.runx 9 rfl rfl [7] (by kernel_rfl) (Turn.refl _)
      apply Exists.intro; apply And.intro
      · intro u w1 hR hF
        obtain ⟨h7, -⟩ := hF
        refine ⟨rfl, fun a ha K hK => ?_⟩
        have e42 := (ha 42).trans h7
        clear ha h7
        have q1 := (HK4.out w1 (((Turn.refl [] _).drew).same hR)).2.1
        go_simp
        refine hK _ ?_; rfl
      apply Lo.runx 10 rfl rfl [8] (by kernel_rfl) (Turn.refl _)
      apply Exists.intro; apply And.intro
      · intro u w1 hR hF
        obtain ⟨h8, -⟩ := hF
        refine ⟨rfl, fun a ha K hK => ?_⟩
        have e43 := (ha 43).trans h8
        clear ha h8
        go_simp
        refine hK _ ?_; rfl
      refine Lo.runv 11 rfl rfl [3, 9] (.int .i64 ((y.x.recs.length - (staysL fl now age y.x.recs).length : Nat) : Int)) (by kernel_rfl) (fun u w1 hR hF => ?_) (Turn.refl _) ?_
      · obtain ⟨h3, h9, -⟩ := hF
        refine ⟨rfl, fun a ha K hK => ?_⟩
        have e38 := (ha 38).trans h3
        have e44 := (ha 44).trans h9
        clear ha h3 h9
        go_simp
        refine hK _ ?_
        rw [IntWalk.i64_in _ (by omega)]; congr 1; omega
      refine Lo.runv 12 rfl rfl [0, 10] (.int .i64 ((goneN fl now age (ys.take (k + 1)) : Nat) : Int)) (by kernel_rfl) (fun u w1 hR hF => ?_) (Turn.refl _) ?_
      · obtain ⟨h0, h10, -⟩ := hF
        refine ⟨rfl, fun a ha K hK => ?_⟩
        have e35 := (ha 35).trans h0
        have e45 := (ha 45).trans h10
        clear ha h0 h10
        go_simp
        refine hK _ ?_
        have hgs2 := HGS.out
        rw [IntWalk.i64_in _ (by omega)]; congr 1; omega
      refine Lo.done [11] (fun u w1 hRd hSd hF => ?_)
      clear hSd
      obtain ⟨f11, -⟩ := hF
      have d11 : u 11 = _ := f11
      clear f11
      simp only [List.take_succ_cons, List.take_zero, List.drop_succ_cons, List.drop_zero, putFrom, Act.put, List.setIfInBounds_toArray, List.set_cons_succ, List.set_cons_zero, Nat.zero_add, Nat.reduceAdd, d11]
      have hw1 : Turn [] (w2.setCell ⟨g, k * 3 + 2, none⟩ (.slice y.a (staysL fl now age y.x.recs).length y.c)) w1 := ((Turn.refl [] _).drew).same hRd
      obtain ⟨e1, e2, e3⟩ := HS.out
      have HE1 := hide (e1.still hw1)
      have HE2 := hide (e2.still hw1)
      have HE3 := hide (e3.same hw1)
      clear e1 e2 e3 hw1 hRd HS HK4 k2 k3 hold
      obtain ⟨gn, hgn⟩ : ∃ gn, gn = goneN fl now age (ys.take (k + 1)) := ⟨_, rfl⟩
      rw [← hgn] at d11
      have HGN := hide hgn
      clear hgn
      go_wp2
      all_goals refine ⟨⟨k + 1, by omega, by go_num, by rw [← HGN.out], HE1.out, HE2.out, HE3.out⟩, ?_⟩
      all_goals (simp only [intOf]; omega)
    · obtain rfl : k = N := by omega
      have htk : ys.take k = ys := by rw [HN.out]; exact List.take_length
      have hgb : goneN fl now age (ys.take k) = goneB fl now age xs := by rw [htk, goneN_B, HYS.out]
      have hsx : (stayK fl now age k ys).map (·.x) = xs.map (stayB fl now age) := by rw [HN.out, stayK_all, HYS.out]
      rw [hgb]
      have hG := HGL.out k
      rw [hgb] at hG
      have HSX := hide hsx
      clear htk hgb hsx hlt
      by_cases h0 : goneB fl now age xs = 0
      · have hb : ((goneB fl now age xs : Int) == 0) = true := by simp; omega
        have H0 := hide h0
        clear h0
        go_wp2
        go_ret2
        exact Or.inl ⟨H0.out, rfl, HTW.out⟩
      · have hb : ((goneB fl now age xs : Int) == 0) = false := by simp; omega
        have H0 := hide h0
        clear h0
        have hch2 := stay_chain fl now age HCH.out
        have hsf := stay_flat fl now age HCH.out
        have hrw := rewrite_any wr base d F A sb sv file n (pls 0 (-1) xs) (H.out.still HTW.out) hfs w.heap.size (.slice la k lc) (stayK fl now age k ys) HROW.out (by rw [stayK_len, ← HN.out]; exact hyl) (by rw [HSX.out]; omega)
          (fun y hy => by
            have hm : y.x ∈ xs.map (stayB fl now age) := by rw [← HSX.out]; exact List.mem_map_of_mem hy
            obtain ⟨k1, k2, k3, -⟩ := Bt.chk_ok (Bt.encErr_ok (Sg.Chain.mem hch2 y.x hm)).1
            omega)
          (fun q hq hm => by
            have h1 := H.out.disk.lt q hm
            rcases hq with hq | ⟨y, hy, hq⟩
            · have := (HROW.out.row.lt q hq).1; omega
            · have := ((HROW.out.recs y hy).lt q hq).1; omega)
        rw [HSX.out] at hrw
        obtain ⟨c, A', tk, hRW⟩ : ∃ c A' tk, rewriteS A file (n : Int) (xs.map (stayB fl now age)) = (c, A', tk) := ⟨_, _, _, rfl⟩
        rw [hRW] at hrw
        simp only at hrw
        have HRWE := hide hRW
        have hiff := rewrite_iff A file (n : Int) (xs.map (stayB fl now age))
        rw [hRW] at hiff
        simp only at hiff
        have HIFF := hide hiff
        clear hiff
        have HRW := hide hrw
        clear hrw hRW hch2 hsf
        by_cases hc0 : c = 0
        · subst hc0
          rw [show errR 0 = .nilIface from rfl] at HRW
          go_wp2_with fail
          refine HRW.out.mono ?_
          rintro e w3 ⟨rfl, hcm⟩
          obtain ⟨F', sv', hb', ht', hF', hs'⟩ := hcm
          have HCM : Hid (Came w w3 base d F A' sb sv file n (takenP tk (pls 0 (-1) (xs.map (stayB fl now age))) (pls 0 (-1) xs))) :=
            hide ⟨F', sv', hb', (HTW.out.mono (by simp)).trans ht' (fun q hq => .inl hq), fun q hq => (hF' q hq).imp_right (fun h => Nat.le_trans HTW.out.size h), fun q hq => (hs' q hq).imp_right (fun h => Nat.le_trans HTW.out.size h)⟩
          clear hb' ht' hF' hs' HRW
          go_wp2
          go_ret2
          have hcm := HCM.out
          rw [HIFF.out.2 (by trivial)] at hcm
          refine Or.inr (Or.inl ⟨H0.out, ?_, rfl, ?_⟩)
          · rw [HRWE.out]
          · rw [HRWE.out]; exact hcm
        · have hr : errR c = .iface 56 (.int .i64 c) := by unfold errR; rw [if_neg hc0]; rfl
          rw [hr] at HRW
          have HR := hide hr
          have HC0 := hide hc0
          clear hr hc0
          go_wp2_with fail
          refine HRW.out.mono ?_
          rintro e w3 ⟨rfl, hcm⟩
          obtain ⟨F', sv', hb', ht', hF', hs'⟩ := hcm
          have HCM : Hid (Came w w3 base d F A' sb sv file n (takenP tk (pls 0 (-1) (xs.map (stayB fl now age))) (pls 0 (-1) xs))) :=
            hide ⟨F', sv', hb', (HTW.out.mono (by simp)).trans ht' (fun q hq => .inl hq), fun q hq => (hF' q hq).imp_right (fun h => Nat.le_trans HTW.out.size h), fun q hq => (hs' q hq).imp_right (fun h => Nat.le_trans HTW.out.size h)⟩
          clear hb' ht' hF' hs' HRW
          go_wp2
          go_ret2
          have hcm := HCM.out
          have htk : tk = false := by
            cases htk : tk with
            | false => rfl
            | true => exact absurd (HIFF.out.1 htk) HC0.out
          rw [htk] at hcm
          refine Or.inr (Or.inr ⟨H0.out, ?_, ?_, ?_⟩)
          · rw [HRWE.out]; exact HC0.out
          · rw [HRWE.out]; rfl
          · rw [HRWE.out]; exact hcm
end Go.Proofs.YthbhfhagbaommaaGreatDoor.Lg

/- (*plog.Log).Compact. -/
namespace Go.Proofs.YthbhfhagbaommaaGreatDoor.Lg
open Go.RowKit Go.Maps
set_option maxRecDepth 100000
set_option linter.unusedSimpArgs false
set_option linter.unusedVariables false
attribute [local go_sem] Oper.semAt_some
open Dk (DA DiskAt Parts Did errR errV)
open Sg (SegAt sfoot pls Both Came nextOf flat Chain BRowS BV)

theorem name_short {dir : ByteArray} {n : Nat} (hn : n ≤ 1099511627776) (hd : dir.size ≤ 1000) : (Sn.nameB dir n).size ≤ 10000 := by
  have h := Sn.dec_short hn
  rw [Lib.size_eq]
  unfold Sn.nameB Sn.nameL Sn.pad
  have e : dir.data.toList.length = dir.size := by simp
  simp
  omega
theorem sizeP8 (w : World) : (sizeOf 68).run Tryz.prog w = .ok 1 w := by kernel_rfl
theorem run_to_seg (a : Option Addr) (l c n : Nat) (hn : n ≤ c) (w : World) : (Instr.slice 63 (.slice a l c) none (some (.int .i64 (n : Int))) none).run Tryz.prog w = .ok (.slice a n c) w := by
  have h := sizeP8 w
  cases a <;> simp [Instr.slice, run_underlying Tryz.underlying63, Instr.sliceBounds, run_sliceBound, h, Result.andThen, hn, add_zero]
/-- What Compact comes to: how many went, the error, the disk, what the box says, the segments. -/
def CompactS (A : DA) (dir : ByteArray) (v : LV) (ss0 : List (Nat × List Bt.Bat)) (m : Nat × List Bt.Bat) (now age : Int) : Nat × Int × DA × LV × List (Nat × List Bt.Bat) :=
  if (FlushS A dir v m).1 ≠ 0 then (0, (FlushS A dir v m).1, (FlushS A dir v m).2.1, (FlushS A dir v m).2.2, ss0 ++ [m]) else
  ((compS dir (lastF (recsL (batsL (ss0 ++ [m])))) now age (FlushS A dir v m).2.1 ss0).2.2.1, (compS dir (lastF (recsL (batsL (ss0 ++ [m])))) now age (FlushS A dir v m).2.1 ss0).1,
    (compS dir (lastF (recsL (batsL (ss0 ++ [m])))) now age (FlushS A dir v m).2.1 ss0).2.1, noteV (compS dir (lastF (recsL (batsL (ss0 ++ [m])))) now age (FlushS A dir v m).2.1 ss0).1 (FlushS A dir v m).2.2,
    (compS dir (lastF (recsL (batsL (ss0 ++ [m])))) now age (FlushS A dir v m).2.1 ss0).2.2.2 ++ [m])
theorem OkS.same {A A' : DA} {dir : ByteArray} {ss : List (Nat × List Bt.Bat)} (h : OkS A dir ss) (hs : SameF A A' []) : OkS A' dir ss := by
  refine ⟨h.base, fun p hp => ?_, h.chain, h.many⟩
  obtain ⟨f, hf, hb⟩ := h.file p hp
  have := hs (Sn.nameB dir p.1).data.toList (by simp)
  unfold bytesAt at this
  rw [hf, Option.map_some] at this
  obtain ⟨g, hg, e⟩ := Option.map_eq_some_iff.1 this
  exact ⟨g, hg, e.trans hb⟩
theorem gone_few {fl : List UInt8 → Int} {now age : Int} {xs : List Bt.Bat} (h : (flat xs).length ≤ 1048576) : goneB fl now age xs ≤ 400000 := by
  have h1 := gone_recs fl now age xs
  have h2 := recs_few xs
  unfold recsL at h1
  omega
set_option maxHeartbeats 16000000 in
theorem Compact_any (w : World) (base d : Nat) (F : List Nat) (A : DA) (lb : Nat) (gv : Value) (dir : ByteArray) (v : LV) (ms0 : List SM) (m : SM) (h : LogAt w base d F A lb gv dir v (ms0 ++ [m])) (hdir : dir.size ≤ 1000) (hok : OkS A dir ((ms0 ++ [m]).map SM.abs)) (hnd : (((ms0 ++ [m]).map SM.abs).map (·.1)).Nodup) (hd : v.down = false)
    (hg : ∀ Z, Turn (lfoot F lb gv (ms0 ++ [m])) w Z → As.ErrT Z) (now age : Int) (hn1 : -9223372036854775808 ≤ now) (hn2 : now ≤ 9223372036854775807) (ha1 : -9223372036854775808 ≤ age) (ha2 : age ≤ 9223372036854775807) (ss0 : List (Nat × List Bt.Bat)) (mm : Nat × List Bt.Bat) (hss : ms0.map SM.abs = ss0) (hmm : m.abs = mm) :
    Calls Tryz.prog 11 #[.pointer (some ⟨lb, 0, none⟩), .int .i64 now, .int .i64 age] w fun e w' => e = .returned (.tuple #[.int .i64 ((CompactS A dir v ss0 mm now age).1 : Nat), errR (CompactS A dir v ss0 mm now age).2.1]) ∧
      LDid w w' base d (lfoot F lb gv (ms0 ++ [m])) (CompactS A dir v ss0 mm now age).2.2.1 lb dir (CompactS A dir v ss0 mm now age).2.2.2.1 (CompactS A dir v ss0 mm now age).2.2.2.2 := by
  have hmany := hok.many
  rw [List.length_map, List.length_append, List.length_singleton] at hmany
  have hmx0 : maxLen = 9223372036854775807 := by simp [maxLen]
  have hfm : (flat m.xs).length ≤ 1048576 := flat_short (p := m.abs) h.disk hok (by simp)
  have hxm := Sg.flat_len m.xs
  obtain ⟨L0, hL0⟩ : ∃ L0, L0 = lfoot F lb gv (ms0 ++ [m]) := ⟨_, rfl⟩
  have hlt0 : ∀ k ∈ L0, k < w.heap.size := by rw [hL0]; exact fun k hk => (h.lt k hk).2
  obtain ⟨wa, hwa⟩ : ∃ wa, wa = (w.alloc (.cells #[.int .i64 now] 3)).alloc (.cells #[.int .i64 age] 3) := ⟨_, rfl⟩
  have hta : Turn [] w wa := by rw [hwa]; exact ((Turn.refl [] w).alloc _).alloc _
  have hb1 : wa.heap[w.heap.size]? = some (.cells #[.int .i64 now] 3 (0, 0)) := by rw [hwa]; exact ((Turn.refl [] _).alloc _).heap (heap_new w _) (by simp)
  have hb2 : wa.heap[w.heap.size + 1]? = some (.cells #[.int .i64 age] 3 (0, 0)) := by
    have := heap_new (w.alloc (.cells #[.int .i64 now] 3)) (.cells #[.int .i64 age] 3)
    rw [World.size_alloc] at this
    rw [hwa]
    exact this
  have hsza : wa.heap.size = w.heap.size + 2 := by rw [hwa]; simp
  have hfl := Flush_any wa base d F A lb gv dir v ms0 m (h.still hta) (by omega) (by omega) (by have := name_short (hok.base m.abs (by simp)) hdir; show (Sn.nameB dir m.abs.1).size ≤ maxLen; omega) hd
    (fun Z hZ => hg Z ((hta.mono (by simp)).same hZ))
  have hsame := sync_same A (nmL dir m.abs.1) []
  have hok1 : OkS (FlushS A dir v m.abs).2.1 dir ((ms0 ++ [m]).map SM.abs) := hok.same hsame
  rw [← hL0] at hfl hg ⊢
  rw [hmm] at hfl hok1
  have hfe : CompactS A dir v ss0 mm now age = if (FlushS A dir v mm).1 ≠ 0 then (0, (FlushS A dir v mm).1, (FlushS A dir v mm).2.1, (FlushS A dir v mm).2.2, ss0 ++ [mm]) else
    ((compS dir (lastF (recsL (batsL (ss0 ++ [mm])))) now age (FlushS A dir v mm).2.1 ss0).2.2.1, (compS dir (lastF (recsL (batsL (ss0 ++ [mm])))) now age (FlushS A dir v mm).2.1 ss0).1,
    (compS dir (lastF (recsL (batsL (ss0 ++ [mm])))) now age (FlushS A dir v mm).2.1 ss0).2.1, noteV (compS dir (lastF (recsL (batsL (ss0 ++ [mm])))) now age (FlushS A dir v mm).2.1 ss0).1 (FlushS A dir v mm).2.2,
    (compS dir (lastF (recsL (batsL (ss0 ++ [mm])))) now age (FlushS A dir v mm).2.1 ss0).2.2.2 ++ [mm]) := rfl
  obtain ⟨ec, A1, v1, hFS⟩ : ∃ ec A1 v1, FlushS A dir v mm = (ec, A1, v1) := ⟨_, _, _, rfl⟩
  rw [hFS] at hfl hok1 hfe
  simp only at hfl hok1 hfe
  have hmap : (ms0 ++ [m]).map SM.abs = ss0 ++ [mm] := by rw [List.map_append, List.map_singleton, hss, hmm]
  rw [hmap] at hfl hok1 hnd
  obtain ⟨fl, hflv⟩ : ∃ fl, fl = lastF (recsL (batsL (ss0 ++ [mm]))) := ⟨_, rfl⟩
  rw [← hflv] at hfe
  obtain ⟨RES, hRES⟩ : ∃ RES, RES = compS dir fl now age A1 ss0 := ⟨_, rfl⟩
  rw [← hRES] at hfe
  obtain ⟨CS, hCS⟩ : ∃ CS, CS = CompactS A dir v ss0 mm now age := ⟨_, rfl⟩
  rw [← hCS] at hfe ⊢
  have hlen0 : ss0.length = ms0.length := by rw [← hss, List.length_map]
  have HFL := hide hfl
  have HOK := hide hok1
  have HFE := hide hfe
  have HRES := hide hRES
  have HFLV := hide hflv
  have HG := hide hg
  have HLT0 := hide hlt0
  have HTA := hide hta
  have HB1 := hide hb1
  have HB2 := hide hb2
  have HWA := hide hwa
  have HND := hide hnd
  have hlb := lt_of_heap h.box
  clear h hok hfl hok1 hsame hfe hFS hRES hCS hflv hg hlt0 hta hb1 hb2 hwa hnd hmap hss hmm hL0 hfm hxm hd
  go_enter Tryz.func11, Tryz.ntmps11
  go_wp2_with fail
  rw [show (w.alloc (.cells #[.int .i64 now] 3)).alloc (.cells #[.int .i64 age] 3) = wa from HWA.out.symm]
  refine HFL.out.mono ?_
  rintro e wf ⟨rfl, hdf⟩
  by_cases h0 : ec = 0
  · subst h0
    rw [show errR 0 = .nilIface from rfl]
    obtain ⟨F1, gv1, ms1, hl1, hm1, ht1, hf1⟩ := hdf
    have hlat := latest_any wf base d F1 A1 lb gv1 dir v1 ms1 hl1 hdir (by rw [hm1]; exact HOK.out)
    rw [hm1] at hlat
    have hlt1 : ∀ k ∈ lfoot F1 lb gv1 ms1, k < wf.heap.size := fun k hk => (hl1.lt k hk).2
    have HL1 := hide hl1
    have HM1 := hide hm1
    have HT1 := hide ht1
    have HF1 := hide hf1
    have HLAT := hide hlat
    have HLT1 := hide hlt1
    have hszf := ht1.size
    clear hl1 hm1 ht1 hf1 hlat hlt1 HFL
    go_wp2_with fail
    refine HLAT.out.mono ?_
    rintro e w2 ⟨mb, nn, rfl, him, hmb, hnn, ht2⟩
    have hsz2 := ht2.size
    obtain ⟨wb, hwb⟩ : ∃ wb, wb = w2.alloc (.cells #[.map (some mb)] 39) := ⟨_, rfl⟩
    have htb : Turn [] wf wb := by rw [hwb]; exact ht2.alloc _
    have hszb : wb.heap.size = w2.heap.size + 1 := by rw [hwb]; simp
    have hcb : CBox wb w2.heap.size w.heap.size (w.heap.size + 1) mb nn fl now age := by
      refine ⟨by rw [hwb]; exact heap_new w2 _, ?_, ?_, ?_⟩
      · exact htb.heap (HT1.out.heap HB1.out (fun hm => by have := HLT0.out _ hm; omega)) (by simp)
      · exact htb.heap (HT1.out.heap HB2.out (fun hm => by have := HLT0.out _ hm; omega)) (by simp)
      · rw [HFLV.out, hwb]
        exact him.still ((Turn.refl [] w2).alloc _)
    obtain ⟨ms2, m2, rfl, hm2, hm2a⟩ := split_last HM1.out
    have hmbs : mb < wb.heap.size := by
      have := hcb.map
      obtain ⟨D, ⟨es, clock, hb, -⟩, -⟩ := this
      exact (Array.getElem?_eq_some_iff.1 hb).1
    have hlb1 := HL1.out.still htb
    obtain ⟨g1, cap1, hgv1⟩ : ∃ g cap, gv1 = .slice (some ⟨g, 0, none⟩) (ms2.length + 1) cap := by
      obtain ⟨g, cap, e, -⟩ := hlb1.row.at smC_len (j := ms2.length) (by simp)
      exact ⟨g, cap, by rw [e]; simp⟩
    subst hgv1
    obtain ⟨ga, gc, e9, hcap1, hcap2⟩ := hlb1.row.form
    simp only [List.length_append, List.length_singleton, Value.slice.injEq, true_and] at e9
    obtain ⟨-, rfl⟩ := e9
    rw [List.length_append, List.length_singleton] at hcap1
    rw [hmx0] at hcap2
    obtain ⟨L1, hL1⟩ : ∃ L1, L1 = lfoot F1 lb (.slice (some ⟨g1, 0, none⟩) (ms2.length + 1) cap1) (ms2 ++ [m2]) := ⟨_, rfl⟩
    have hl1b : ∀ x ∈ L1, x < wf.heap.size ∧ (x ∈ L0 ∨ wa.heap.size ≤ x) := by
      rw [hL1]
      exact fun x hx => ⟨HLT1.out x hx, HF1.out x hx⟩
    have hbx : ∀ S : List Nat, (∀ x ∈ S, x ∈ L1 ∨ wb.heap.size ≤ x) → w2.heap.size ∉ S ∧ w.heap.size ∉ S ∧ w.heap.size + 1 ∉ S ∧ mb ∉ S := by
      intro S hS
      have hno : ∀ x, x < wb.heap.size → (x < wf.heap.size → x ∉ L0 ∧ x < wa.heap.size) → x ∉ S := by
        intro x h1 h2 hm
        rcases hS x hm with h | h
        · have h3 := hl1b x h
          have h4 := h2 h3.1
          rcases h3.2 with h5 | h5
          · exact h4.1 h5
          · omega
        · omega
      refine ⟨hno _ (by omega) (fun h => by omega), hno _ (by omega) (fun h => ⟨fun hm => by have := HLT0.out _ hm; omega, by omega⟩), hno _ (by omega) (fun h => ⟨fun hm => by have := HLT0.out _ hm; omega, by omega⟩), hno _ hmbs (fun h => by omega)⟩
    have htwb : Turn L0 w wb := ((HTA.out.mono (T := L0) (by simp)).same HT1.out).same (htb.mono (by simp))
    have hlen2 : ms2.length ≤ 999 := by have : ms2.length = ms0.length := by rw [← hlen0, ← hm2, List.length_map]
                                        omega
    have hkey0 : ((ms2 ++ [m2]).map SM.abs).map (·.1) = (ss0 ++ [mm]).map (·.1) := by rw [List.map_append, List.map_singleton, hm2, hm2a]
    have hok2 : OkS A1 dir ((ms2 ++ [m2]).map SM.abs) := by rw [List.map_append, List.map_singleton, hm2, hm2a]; exact HOK.out
    have HLB := hide hlb1
    have HCB := hide hcb
    have HBX := hide hbx
    have HTWB := hide htwb
    have HM2 := hide hm2
    have HM2A := hide hm2a
    have HKEY := hide hkey0
    have HOK2 := hide hok2
    have HWB := hide hwb
    have HL1D := hide hL1
    have HL1B := hide hl1b
    clear hlen0 hlb1 hcb hbx htwb hm2 hm2a hkey0 hok2 hwb hl1b him htb hmb hnn ht2 HLAT HM1 HL1 HOK hmbs
    go_upto_region 9 with fail
    rw [show w2.alloc (.cells #[.map (some mb)] 39) = wb from HWB.out.symm]
    refine wp_region_loose (Turn []) (by kernel_rfl) (by kernel_rfl) (by kernel_rfl) (by kernel_rfl) rfl (Turn.refl _) (fun _ _ _ h k => h.same k) ?_
    apply Lo.runx 1 rfl rfl [] (by kernel_rfl) (Turn.refl _)
    apply Exists.intro; apply And.intro
    · intro u w1 hR hF
      clear hF
      refine ⟨rfl, fun a ha K hK => ?_⟩
      have e0 := ha 0
      conv at e0 => rhs; whnf
      clear ha
      go_simp
      refine hK _ ?_; rfl
    apply Lo.runx 2 rfl rfl [0] (by kernel_rfl) (Turn.refl _)
    apply Exists.intro; apply And.intro
    · intro u w1 hR hF
      obtain ⟨h0, -⟩ := hF
      refine ⟨rfl, fun a ha K hK => ?_⟩
      have e31 := (ha 31).trans h0
      clear ha h0
      go_simp
      refine hK _ ?_; rfl
    apply Lo.runx 3 rfl rfl [1] (by kernel_rfl) (Turn.refl _)
    apply Exists.intro; apply And.intro
    · intro u w1 hR hF
      obtain ⟨h1, -⟩ := hF
      refine ⟨rfl, fun a ha K hK => ?_⟩
      have e32 := (ha 32).trans h1
      clear ha h1
      go_simp
      refine hK _ ?_; rfl
    refine Lo.runv 4 rfl rfl [2] (.slice (some ⟨g1, 0, none⟩) (ms2.length + 1) cap1) (by kernel_rfl) (fun u w1 hR hF => ?_) (Turn.refl _) ?_
    · obtain ⟨h2, -⟩ := hF
      refine ⟨rfl, fun a ha K hK => ?_⟩
      have e33 := (ha 33).trans h2
      clear ha h2
      have hL := HLB.out.still (((Turn.refl [] _).drew).same hR)
      have c3 := hL.c3
      have z1 := lt_of_heap hL.box
      go_simp
      refine hK _ ?_
      rfl
    apply Lo.runx 5 rfl rfl [] (by kernel_rfl) (Turn.refl _)
    apply Exists.intro; apply And.intro
    · intro u w1 hR hF
      clear hF
      refine ⟨rfl, fun a ha K hK => ?_⟩
      have e0 := ha 0
      conv at e0 => rhs; whnf
      clear ha
      go_simp
      refine hK _ ?_; rfl
    apply Lo.runx 6 rfl rfl [4] (by kernel_rfl) (Turn.refl _)
    apply Exists.intro; apply And.intro
    · intro u w1 hR hF
      obtain ⟨h4, -⟩ := hF
      refine ⟨rfl, fun a ha K hK => ?_⟩
      have e35 := (ha 35).trans h4
      clear ha h4
      go_simp
      refine hK _ ?_; rfl
    apply Lo.runx 7 rfl rfl [5] (by kernel_rfl) (Turn.refl _)
    apply Exists.intro; apply And.intro
    · intro u w1 hR hF
      obtain ⟨h5, -⟩ := hF
      refine ⟨rfl, fun a ha K hK => ?_⟩
      have e36 := (ha 36).trans h5
      clear ha h5
      go_simp
      refine hK _ ?_; rfl
    refine Lo.runv 8 rfl rfl [6] (.slice (some ⟨g1, 0, none⟩) (ms2.length + 1) cap1) (by kernel_rfl) (fun u w1 hR hF => ?_) (Turn.refl _) ?_
    · obtain ⟨h6, -⟩ := hF
      refine ⟨rfl, fun a ha K hK => ?_⟩
      have e37 := (ha 37).trans h6
      clear ha h6
      have hL := HLB.out.still (((Turn.refl [] _).drew).same hR)
      have c3 := hL.c3
      have z1 := lt_of_heap hL.box
      go_simp
      refine hK _ ?_
      rfl
    apply Lo.runx 9 rfl rfl [7] (by kernel_rfl) (Turn.refl _)
    apply Exists.intro; apply And.intro
    · intro u w1 hR hF
      obtain ⟨h7, -⟩ := hF
      refine ⟨rfl, fun a ha K hK => ?_⟩
      have e38 := (ha 38).trans h7
      clear ha h7
      go_simp
      refine hK _ ?_; rfl
    refine Lo.runv 10 rfl rfl [8] (.int .i64 (ms2.length : Int)) (by kernel_rfl) (fun u w1 hR hF => ?_) (Turn.refl _) ?_
    · obtain ⟨h8, -⟩ := hF
      refine ⟨rfl, fun a ha K hK => ?_⟩
      have e39 := (ha 39).trans h8
      clear ha h8
      go_simp
      refine hK _ ?_
      first | (rw [IntWalk.i64_in _ (by omega)]; done) | (rw [IntWalk.i64_in _ (by omega)]; congr 1; omega)
    refine Lo.runv 11 rfl rfl [3, 9] (.slice (some ⟨g1, 0, none⟩) ms2.length cap1) (by kernel_rfl) (fun u w1 hR hF => ?_) (Turn.refl _) ?_
    · obtain ⟨h3, h9, -⟩ := hF
      refine ⟨rfl, fun a ha K hK => ?_⟩
      have e34 := (ha 34).trans h3
      have e40 := (ha 40).trans h9
      clear ha h3 h9
      have hst3 := run_to_seg (some ⟨g1, 0, none⟩) (ms2.length + 1) cap1 ms2.length (by omega)
      go_simp
      refine hK _ ?_
      rfl
    refine Lo.runv 12 rfl rfl [10] (.int .i64 (ms2.length : Int)) (by kernel_rfl) (fun u w1 hR hF => ?_) (Turn.refl _) ?_
    · obtain ⟨h10, -⟩ := hF
      refine ⟨rfl, fun a ha K hK => ?_⟩
      have e41 := (ha 41).trans h10
      clear ha h10
      go_simp
      refine hK _ ?_
      rfl
    apply Lo.runx 13 rfl rfl [] (by kernel_rfl) (Turn.refl _)
    apply Exists.intro; apply And.intro
    · intro u w1 hR hF
      clear hF
      refine ⟨rfl, fun a ha K hK => ?_⟩
      clear ha
      go_simp
      refine hK _ ?_; rfl
    refine Lo.done [10, 11, 12] (fun u w1 hRd hSd hF => ?_)
    clear hSd
    obtain ⟨f10, f11, f12, -⟩ := hF
    have d10 : u 10 = _ := f10
    have d11 : u 11 = _ := f11
    have d12 : u 12 = _ := f12
    clear f10 f11 f12
    simp only [putFrom, Act.put, List.setIfInBounds_toArray, List.set_cons_succ, List.set_cons_zero, Nat.zero_add, Nat.reduceAdd, d10, d11, d12]
    have htw1 : Turn [] wb w1 := ((Turn.refl [] _).drew).same hRd
    obtain ⟨wc, rfl⟩ : ∃ wc, wc = w1 := ⟨_, rfl⟩
    have HTWC := hide htw1
    clear htw1 hRd
    go_wp2
    go_loopw [12, 43] (fun sv kv wr => ∃ (k sum : Nat) (Ak : DA) (Fk : List Nat) (dn : List SM), k ≤ ms2.length ∧ kv = .int .i64 k ∧ sv = .int .i64 sum ∧ sum ≤ 400000 * k ∧ dn.length = k ∧
      LogAt wr base d Fk Ak lb (.slice (some ⟨g1, 0, none⟩) (ms2.length + 1) cap1) dir v1 (dn ++ ms2.drop k ++ [m2]) ∧ OkS Ak dir ((dn ++ ms2.drop k ++ [m2]).map SM.abs) ∧ ((dn ++ ms2.drop k ++ [m2]).map SM.abs).map (·.1) = (ss0 ++ [mm]).map (·.1) ∧
      RES = ((compS dir fl now age Ak ((ms2.drop k).map SM.abs)).1, (compS dir fl now age Ak ((ms2.drop k).map SM.abs)).2.1, sum + (compS dir fl now age Ak ((ms2.drop k).map SM.abs)).2.2.1, dn.map SM.abs ++ (compS dir fl now age Ak ((ms2.drop k).map SM.abs)).2.2.2) ∧
      CBox wr w2.heap.size w.heap.size (w.heap.size + 1) mb nn fl now age ∧ Turn L1 wb wr ∧ ∀ x ∈ lfoot Fk lb (.slice (some ⟨g1, 0, none⟩) (ms2.length + 1) cap1) (dn ++ ms2.drop k ++ [m2]), x ∈ L1 ∨ wb.heap.size ≤ x) (fun _ kv _ => ms2.length - (intOf kv).toNat)
    case atStart =>
      refine ⟨0, 0, A1, F1, [], Nat.zero_le _, rfl, rfl, by omega, rfl, by simpa using HLB.out.still HTWC.out, by simpa using HOK2.out, by simpa using HKEY.out, ?_, HCB.out.still HTWC.out, HTWC.out.mono (by simp), ?_⟩
      · rw [HRES.out, List.drop_zero, HM2.out]
        simp
      · intro x hx
        rw [HL1D.out]
        exact .inl (by simpa using hx)
    case round =>
      obtain ⟨k, sum, Ak, Fk, dn, hk, rfl, rfl, hsum, hdn, hlog, hokk, hkey, hre, hcbk, htw, hft⟩ := hrel
      by_cases hlt : k < ms2.length
      · have hdr : ms2.drop k = ms2[k] :: ms2.drop (k + 1) := List.drop_eq_getElem_cons hlt
        obtain ⟨mk, hmk⟩ : ∃ mk, mk = ms2[k] := ⟨_, rfl⟩
        rw [← hmk] at hdr
        obtain ⟨R, hR⟩ : ∃ R, R = ms2.drop (k + 1) := ⟨_, rfl⟩
        rw [← hR] at hdr
        rw [hdr] at hlog hokk hkey hre hft
        have happ : dn ++ mk :: R ++ [m2] = dn ++ mk :: (R ++ [m2]) := by simp
        rw [happ] at hlog hokk hkey hft
        obtain ⟨g', cap', e, hc, -⟩ := hlog.row.at smC_len (j := k) (by simp; omega)
        simp only [Value.slice.injEq, Option.some.injEq, Addr.mk.injEq, and_true] at e
        obtain ⟨rfl, -, rfl⟩ := e
        have hgk : (dn ++ mk :: (R ++ [m2]))[k]'(by simp; omega) = mk := by
          rw [List.getElem_append_right (by omega)]
          simp [hdn]
        rw [hgk] at hc
        have c0 : wr.cell? ⟨g1, k, none⟩ = some (.pointer (some ⟨mk.sb, 0, none⟩)) := by simpa [smC] using hc 0 (by omega)
        have hmap : (dn ++ mk :: (R ++ [m2])).map SM.abs = dn.map SM.abs ++ mk.abs :: (R ++ [m2]).map SM.abs := by simp
        have hpm : mk.abs ∈ (dn ++ mk :: (R ++ [m2])).map SM.abs := by simp
        have hbn : mk.n ≤ 1099511627776 := hokk.base mk.abs hpm
        obtain ⟨fi, hfi, hfib⟩ := hokk.file mk.abs hpm
        have hchk : Chain (mk.n : Int) mk.xs := hokk.chain mk.abs hpm
        have hfs : (flat mk.xs).length ≤ 1048576 := flat_short hlog.disk hokk hpm
        have htake := takeOut_any wr base d Fk Ak mk.sb mk.sv (Sn.nameB dir mk.n) mk.n mk.xs (hlog.both (by simp)) (name_short hbn hdir) fi hfi hfib hchk _ _ _ mb nn fl now age hcbk hfs
        unfold fnC at htake
        have hgf := gone_few (fl := fl) (now := now) (age := age) hfs
        have hnds := HND.out
        rw [← hkey] at hnds
        rw [hmap] at hokk hnds
        have hrwk := hokk.rewrite (s1 := dn.map SM.abs) (p := mk.abs) (s2 := (R ++ [m2]).map SM.abs) hnds fl now age
        have HTAKE := hide htake
        have HLOG := hide hlog
        have HOKK := hide hokk
        have HKEYK := hide hkey
        have HRE := hide hre
        have HCBK := hide hcbk
        have HTW := hide htw
        have HFT := hide hft
        have HRWK := hide hrwk
        have HRD := hide hR
        have HMAP := hide hmap
        have hk1 : k + 1 ≤ ms2.length := hlt
        clear hdr hmk hlog hokk hkey hre hcbk htw hft hc hgk hmap hpm hbn hfi hfib hchk hfs htake hnds hrwk hR happ
        go_wp2_with fail
        refine HTAKE.out.mono ?_
        rintro e w3 hp
        rcases hp with ⟨hz, rfl, ht3⟩ | ⟨hz, hr0, rfl, hcm⟩ | ⟨hz, hr0, rfl, hcm⟩
        · have hl3 : LogAt w3 base d Fk Ak lb (.slice (some ⟨g1, 0, none⟩) (ms2.length + 1) cap1) dir v1 (dn ++ [mk] ++ ms2.drop (k + 1) ++ [m2]) := by
            rw [← HRD.out]; simpa using HLOG.out.still ht3
          have ho3 : OkS Ak dir ((dn ++ [mk] ++ ms2.drop (k + 1) ++ [m2]).map SM.abs) := by rw [← HRD.out]; simpa using HOKK.out
          have hk3 : ((dn ++ [mk] ++ ms2.drop (k + 1) ++ [m2]).map SM.abs).map (·.1) = (ss0 ++ [mm]).map (·.1) := by rw [← HRD.out]; simpa using HKEYK.out
          have hr3 : RES = ((compS dir fl now age Ak ((ms2.drop (k + 1)).map SM.abs)).1, (compS dir fl now age Ak ((ms2.drop (k + 1)).map SM.abs)).2.1, sum + (compS dir fl now age Ak ((ms2.drop (k + 1)).map SM.abs)).2.2.1, (dn ++ [mk]).map SM.abs ++ (compS dir fl now age Ak ((ms2.drop (k + 1)).map SM.abs)).2.2.2) := by
            rw [HRE.out, ← HRD.out, List.map_cons, compS, if_pos (show goneB fl now age mk.abs.2 = 0 from hz)]
            simp
          have hf3 : ∀ x ∈ lfoot Fk lb (.slice (some ⟨g1, 0, none⟩) (ms2.length + 1) cap1) (dn ++ [mk] ++ ms2.drop (k + 1) ++ [m2]), x ∈ L1 ∨ wb.heap.size ≤ x := by
            rw [← HRD.out]; intro x hx; exact HFT.out x (by simpa using hx)
          have HL3 := hide hl3
          have HO3 := hide ho3
          have HK3 := hide hk3
          have HR3 := hide hr3
          have HF3 := hide hf3
          have HC3 := hide (HCBK.out.still ht3)
          have HT3 := hide (HTW.out.same (ht3.mono (by simp)))
          clear hl3 ho3 hk3 hr3 hf3 ht3 hz HTAKE
          go_wp2
          all_goals refine ⟨⟨k + 1, sum, Ak, Fk, dn ++ [mk], hk1, by go_num, by go_num, by omega, by simp [hdn], HL3.out, HO3.out, HK3.out, HR3.out, HC3.out, HT3.out, HF3.out⟩, ?_⟩
          all_goals (simp only [intOf]; omega)
        · obtain ⟨F3, sv3, hl3', ht3, hf3'⟩ := HLOG.out.back hcm
          obtain ⟨A3, hA3⟩ : ∃ A3, A3 = (rewriteS Ak (Sn.nameB dir mk.n) mk.n (mk.xs.map (stayB fl now age))).2.1 := ⟨_, rfl⟩
          have ho3' := HRWK.out.2 hr0
          rw [show (rewriteS Ak (Sn.nameB dir mk.abs.1) mk.abs.1 (mk.abs.2.map (stayB fl now age))).2.1 = A3 from hA3.symm] at ho3'
          rw [← hA3] at hl3'
          obtain ⟨mk3, hmk3⟩ : ∃ mk3 : SM, mk3 = ⟨mk.sb, sv3, mk.n, mk.xs.map (stayB fl now age)⟩ := ⟨_, rfl⟩
          rw [← hmk3] at hl3' hf3'
          have habs : mk3.abs = (mk.n, mk.xs.map (stayB fl now age)) := by rw [hmk3]; rfl
          have hn3 : mk3.n = mk.n := by rw [hmk3]
          have hx3 : mk3.xs = mk.xs.map (stayB fl now age) := by rw [hmk3]
          have hl3 : LogAt w3 base d F3 A3 lb (.slice (some ⟨g1, 0, none⟩) (ms2.length + 1) cap1) dir v1 (dn ++ [mk3] ++ ms2.drop (k + 1) ++ [m2]) := by
            rw [← HRD.out]; simpa using hl3'
          have ho3 : OkS A3 dir ((dn ++ [mk3] ++ ms2.drop (k + 1) ++ [m2]).map SM.abs) := by
            rw [← HRD.out]
            have e : (dn ++ [mk3] ++ R ++ [m2]).map SM.abs = dn.map SM.abs ++ (mk.abs.1, mk.abs.2.map (stayB fl now age)) :: (R ++ [m2]).map SM.abs := by
              simp only [List.map_append, List.map_cons, List.map_nil, habs, List.append_assoc, List.cons_append, List.nil_append]
              rfl
            rw [e]
            exact ho3'
          have hk3 : ((dn ++ [mk3] ++ ms2.drop (k + 1) ++ [m2]).map SM.abs).map (·.1) = (ss0 ++ [mm]).map (·.1) := by
            rw [← HRD.out, ← HKEYK.out]
            simp [hn3, SM.abs]
          have hr3 : RES = ((compS dir fl now age A3 ((ms2.drop (k + 1)).map SM.abs)).1, (compS dir fl now age A3 ((ms2.drop (k + 1)).map SM.abs)).2.1, (sum + goneB fl now age mk.xs) + (compS dir fl now age A3 ((ms2.drop (k + 1)).map SM.abs)).2.2.1, (dn ++ [mk3]).map SM.abs ++ (compS dir fl now age A3 ((ms2.drop (k + 1)).map SM.abs)).2.2.2) := by
            rw [HRE.out, ← HRD.out, List.map_cons, compS, if_neg (show ¬ goneB fl now age mk.abs.2 = 0 from hz), if_neg (show ¬ (rewriteS Ak (Sn.nameB dir mk.abs.1) mk.abs.1 (mk.abs.2.map (stayB fl now age))).1 ≠ 0 from fun h => h hr0)]
            rw [show (rewriteS Ak (Sn.nameB dir mk.abs.1) mk.abs.1 (mk.abs.2.map (stayB fl now age))).2.1 = A3 from hA3.symm]
            simp [hn3, hx3, SM.abs, Nat.add_assoc]
          have hin : ∀ x ∈ Fk ++ mk.foot, x ∈ lfoot Fk lb (.slice (some ⟨g1, 0, none⟩) (ms2.length + 1) cap1) (dn ++ mk :: (R ++ [m2])) := fun x hx => by
            rcases List.mem_append.1 hx with h1 | h1
            · exact mem_lfoot.2 (.inr (.inr (.inr h1)))
            · exact mem_lfoot.2 (.inr (.inr (.inl ⟨mk, by simp, h1⟩)))
          have hf3 : ∀ x ∈ lfoot F3 lb (.slice (some ⟨g1, 0, none⟩) (ms2.length + 1) cap1) (dn ++ [mk3] ++ ms2.drop (k + 1) ++ [m2]), x ∈ L1 ∨ wb.heap.size ≤ x := by
            rw [← HRD.out]
            intro x hx
            rcases hf3' x (by simpa using hx) with h1 | h1
            · exact HFT.out x h1
            · exact .inr (Nat.le_trans HTW.out.size h1)
          obtain ⟨q0, q1, q2, q3⟩ := HBX.out (Fk ++ mk.foot) (fun x hx => HFT.out x (hin x hx))
          have HL3 := hide hl3
          have HO3 := hide ho3
          have HK3 := hide hk3
          have HR3 := hide hr3
          have HF3 := hide hf3
          have HC3 := hide (HCBK.out.kept ht3 q0 q1 q2 q3)
          have HT3 := hide (HTW.out.trans ht3 (fun x hx => HFT.out x (hin x hx)))
          clear hl3 ho3 hk3 hr3 hf3 ht3 hz hr0 hcm hl3' hf3' hA3 ho3' hmk3 habs hn3 hx3 hin q0 q1 q2 q3 HTAKE
          go_wp2
          all_goals refine ⟨⟨k + 1, sum + goneB fl now age mk.xs, A3, F3, dn ++ [mk3], hk1, by go_num, by go_num, by omega, by simp [hdn], HL3.out, HO3.out, HK3.out, HR3.out, HC3.out, HT3.out, HF3.out⟩, ?_⟩
          all_goals (simp only [intOf]; omega)
        · obtain ⟨F3, sv3, hl3, ht3, hf3⟩ := HLOG.out.back hcm
          obtain ⟨A3, hA3⟩ : ∃ A3, A3 = (rewriteS Ak (Sn.nameB dir mk.n) mk.n (mk.xs.map (stayB fl now age))).2.1 := ⟨_, rfl⟩
          obtain ⟨c, hcv⟩ : ∃ c, c = (rewriteS Ak (Sn.nameB dir mk.n) mk.n (mk.xs.map (stayB fl now age))).1 := ⟨_, rfl⟩
          rw [← hA3] at hl3
          rw [← hcv] at hr0 ⊢
          have hin : ∀ x ∈ Fk ++ mk.foot, x ∈ lfoot Fk lb (.slice (some ⟨g1, 0, none⟩) (ms2.length + 1) cap1) (dn ++ mk :: (R ++ [m2])) := fun x hx => by
            rcases List.mem_append.1 hx with h1 | h1
            · exact mem_lfoot.2 (.inr (.inr (.inr h1)))
            · exact mem_lfoot.2 (.inr (.inr (.inl ⟨mk, by simp, h1⟩)))
          have hto : Turn L1 wb w3 := HTW.out.trans ht3 (fun x hx => HFT.out x (hin x hx))
          have hl10 : ∀ x ∈ L1, x ∈ L0 ∨ w.heap.size ≤ x := fun x hx => (HL1B.out x hx).2.imp_right (fun h => by omega)
          have ht0 : Turn L0 w w3 := HTWB.out.trans hto hl10
          have hnt := noting_any w3 base d F3 A3 lb _ dir v1 _ hl3 c (HG.out w3 ht0)
          have hft3 : ∀ x ∈ lfoot F3 lb (.slice (some ⟨g1, 0, none⟩) (ms2.length + 1) cap1) (dn ++ ⟨mk.sb, sv3, mk.n, mk.xs⟩ :: (R ++ [m2])), x ∈ L0 ∨ w.heap.size ≤ x := by
            intro x hx
            rcases hf3 x hx with h1 | h1
            · rcases HFT.out x h1 with h2 | h2
              · exact hl10 x h2
              · exact .inr (by have := HTWB.out.size; omega)
            · exact .inr (by have := HTWB.out.size; have := HTW.out.size; omega)
          have hr3 : RES = (c, A3, sum, dn.map SM.abs ++ (mk.abs :: R.map SM.abs)) := by
            rw [HRE.out, List.map_cons, compS, if_neg (show ¬ goneB fl now age mk.abs.2 = 0 from hz), if_pos (show (rewriteS Ak (Sn.nameB dir mk.abs.1) mk.abs.1 (mk.abs.2.map (stayB fl now age))).1 ≠ 0 from by rw [show (rewriteS Ak (Sn.nameB dir mk.abs.1) mk.abs.1 (mk.abs.2.map (stayB fl now age))).1 = c from hcv.symm]; exact hr0)]
            rw [show (rewriteS Ak (Sn.nameB dir mk.abs.1) mk.abs.1 (mk.abs.2.map (stayB fl now age))).2.1 = A3 from hA3.symm, show (rewriteS Ak (Sn.nameB dir mk.abs.1) mk.abs.1 (mk.abs.2.map (stayB fl now age))).1 = c from hcv.symm]
            rfl
          have hcs : CS = (sum, c, A3, noteV c v1, (dn ++ ⟨mk.sb, sv3, mk.n, mk.xs⟩ :: (R ++ [m2])).map SM.abs) := by
            rw [HFE.out, if_neg (by simp), hr3]
            simp [← HM2A.out, SM.abs]
          have HNT := hide hnt
          have HCS := hide hcs
          have HT0 := hide ht0
          have HFT3 := hide hft3
          have HR0 := hide hr0
          clear hnt hcs ht0 hft3 hr0 hcv hA3 hin hto hl10 hr3 hz hcm hl3 ht3 hf3 HTAKE
          go_wp2_with fail
          refine HNT.out.mono ?_
          rintro e w4 ⟨rfl, hd4⟩
          have hd5 := hd4.then HT0.out HFT3.out
          have HD5 := hide hd5
          clear hd4 hd5 HNT
          go_wp2
          go_ret2
          rw [HCS.out]
          refine ⟨?_, HD5.out⟩
          have : errR c = .iface 56 (.int .i64 c) := by unfold errR; rw [if_neg HR0.out]; rfl
          rw [this]
          rfl
      · obtain rfl : k = ms2.length := by omega
        have hdz : ms2.drop ms2.length = [] := List.drop_length
        rw [hdz] at hlog hre hft
        have hcs : CS = (sum, 0, Ak, v1, (dn ++ [] ++ [m2]).map SM.abs) := by
          rw [HFE.out, if_neg (by simp), hre]
          have e : ∀ v : LV, noteV 0 v = v := fun v => by unfold noteV; rw [if_neg (by omega)]
          simp [compS, HM2A.out, e]
        have hl10 : ∀ x ∈ L1, x ∈ L0 ∨ w.heap.size ≤ x := fun x hx => (HL1B.out x hx).2.imp_right (fun h => by omega)
        have ht0 : Turn L0 w wr := HTWB.out.trans htw hl10
        have hfin : LDid w wr base d L0 Ak lb dir v1 ((dn ++ [] ++ [m2]).map SM.abs) := ⟨_, _, _, hlog, rfl, ht0, fun x hx => by
          rcases hft x hx with h2 | h2
          · exact hl10 x h2
          · exact .inr (by have := HTWB.out.size; omega)⟩
        have HCS := hide hcs
        have HFIN := hide hfin
        clear hcs hfin hl10 ht0 hlog hokk hkey hre hcbk htw hft hdz
        go_wp2
        go_ret2
        rw [HCS.out]
        exact ⟨rfl, HFIN.out⟩
  · have hr : errR ec = .iface 56 (.int .i64 ec) := by unfold errR; rw [if_neg h0]; rfl
    have hcs : CS = (0, ec, A1, v1, ss0 ++ [mm]) := by rw [HFE.out, if_pos h0]
    have HCS := hide hcs
    have HR := hide hr
    have HD := hide (LDid.before HTA.out hdf)
    rw [hr]
    clear hr hcs hdf HFL h0
    go_wp2
    go_ret2
    rw [HCS.out]
    refine ⟨?_, HD.out⟩
    rw [HR.out]
    rfl
end Go.Proofs.YthbhfhagbaommaaGreatDoor.Lg

/- plog.Open where there is no segment yet (what find does of it is told). -/
namespace Go.Proofs.YthbhfhagbaommaaGreatDoor.Lg
open Go.RowKit Go.Maps
set_option maxRecDepth 100000
set_option linter.unusedSimpArgs false
set_option linter.unusedVariables false
attribute [local go_sem] Oper.semAt_some
open Dk (DA DiskAt Parts Did errR errV)
open Sg (SegAt sfoot pls Both Came nextOf flat)

set_option maxHeartbeats 4000000 in
theorem open_fresh (w : World) (base d : Nat) (F : List Nat) (A : DA) (hd : DiskAt w base d F A) (dir : ByteArray) (hdir : dir.size ≤ 1000) (mo st : Nat) (hm1 : 100 ≤ mo) (hm2 : mo ≤ 1048576) (hs : st ≤ 1099511627776)
    (hmk : (A.make (Sn.nameB dir st)).1 = 0) (hsy : ((A.make (Sn.nameB dir st)).2.sync (Sn.nameB dir st).data.toList).1 = 0)
    (hv : ∀ Z, Turn F w Z → Sn.TabT Z)
    (hfind : ∀ Z lb, Turn [] w Z → LogAt Z base d F A lb (.slice none 0 0) dir ⟨mo, 0, 0, false⟩ [] → Calls Tryz.prog 19 #[.pointer (some ⟨lb, 0, none⟩)] Z fun e w' => e = .returned .nilIface ∧ Turn [] Z w') :
    Calls Tryz.prog 8 #[.pointer (some ⟨d, 0, none⟩), .string dir, .int .i64 (mo : Int), .int .i64 (st : Int)] w fun e w' => ∃ lb F' gv m, e = .returned (.tuple #[.pointer (some ⟨lb, 0, none⟩), .nilIface]) ∧
      LogAt w' base d F' ((A.make (Sn.nameB dir st)).2.sync (Sn.nameB dir st).data.toList).2 lb gv dir ⟨mo, st, st, false⟩ [m] ∧ m.abs = (st, []) ∧ Turn F w w' ∧ ∀ k ∈ lfoot F' lb gv [m], k ∈ F ∨ w.heap.size ≤ k := by
  have HD := hide hd
  have HV := hide hv
  have HF := hide hfind
  have HMK := hide hmk
  have HSY := hide hsy
  have hbw := Sg.base_le hd
  clear hd hv hfind hmk hsy
  go_enter Tryz.func8, Tryz.ntmps8
  go_wp2_with fail
  obtain ⟨w0, hw0⟩ : ∃ w0, w0 = w.alloc (.cells (boxC d dir (.slice none 0 0) ⟨mo, 0, 0, false⟩) 65) := ⟨_, rfl⟩
  have ht0 : Turn [] w w0 := by rw [hw0]; exact (Turn.refl [] w).alloc _
  have hl0 : LogAt w0 base d F A w.heap.size (.slice none 0 0) dir ⟨mo, 0, 0, false⟩ [] :=
    ⟨HD.out.kept ht0 (by simp), by rw [hw0]; exact heap_new w _, .inl ⟨rfl, rfl⟩, hbw, by simp, List.Pairwise.nil⟩
  unfold boxC at hw0
  simp only at hw0
  rw [← hw0]
  refine (HF.out w0 w.heap.size ht0 hl0).mono ?_
  rintro e w1 ⟨rfl, ht1⟩
  have hl1 := hl0.still ht1
  have c3 := hl1.c3
  have hlb := lt_of_heap hl1.box
  have HL1 := hide hl1
  have HT1 := hide (ht0.same ht1)
  clear hw0 ht0 hl0 ht1 hl1
  go_wp2_with fail
  refine (begin_any w1 base d F A w.heap.size _ dir _ [] HL1.out (by simp) hdir st hs (HV.out w1 (HT1.out.mono (by simp)))).mono ?_
  rintro e w2 ⟨rfl, hd2⟩
  unfold beginS at hd2 ⊢
  simp only [List.map_nil, List.nil_append] at hd2 ⊢
  rw [HMK.out, if_pos rfl] at hd2
  rw [HMK.out, show errR 0 = .nilIface from rfl]
  obtain ⟨A2, hA2⟩ : ∃ A2, A2 = (A.make (Sn.nameB dir st)).2 := ⟨_, rfl⟩
  rw [← hA2] at hd2 HSY
  have HAE := hide hA2
  obtain ⟨F2, gv2, ms2, hl2, hm2, ht2, hf2⟩ := hd2
  obtain ⟨ms20, m2, rfl, hm20, hm2a⟩ := split_last (r := []) (by simpa using hm2)
  obtain rfl := List.map_eq_nil_iff.1 hm20
  rw [List.nil_append] at hl2 hf2
  have hmn : m2.n = st := congrArg Prod.fst hm2a
  have hmx : m2.xs = [] := congrArg Prod.snd hm2a
  have hsy := sync_any w2 base d F2 A2 w.heap.size gv2 dir _ [] m2 hl2 (by simp) (by rw [hmx]; simp) (by rw [hmn]; exact Sg.nameB_len hs hdir)
  rw [hmn, hmx, HSY.out] at hsy
  have HS := hide hsy
  have HT2 := hide ((HT1.out.mono (T := F) (by simp)).trans ht2 (fun k hk => by
    rcases mem_lfoot.1 hk with rfl | hk | ⟨x, hx, -⟩ | hk
    · exact .inr (Nat.le_refl _)
    · simp [Value.ownBlock] at hk
    · simp at hx
    · exact .inl hk))
  have hlf : ∀ k ∈ lfoot F2 w.heap.size gv2 [m2], k ∈ F ∨ w.heap.size ≤ k := fun k hk => by
    rcases hf2 k hk with h | h
    · rcases mem_lfoot.1 h with rfl | h | ⟨x, hx, -⟩ | h
      · exact .inr (Nat.le_refl _)
      · simp [Value.ownBlock] at h
      · simp at hx
      · exact .inl h
    · exact .inr (Nat.le_trans HT1.out.size h)
  have HLF := hide hlf
  have HM2 : Hid (m2.abs = (st, [])) := hm2a
  clear c3 hlb hA2 hl2 hm2 ht2 hf2 hm2a hm20 hmn hmx hsy hlf
  go_wp2_with fail
  refine HS.out.mono ?_
  rintro e w3 ⟨rfl, hd3⟩
  rw [show errR 0 = .nilIface from rfl]
  obtain ⟨F3, gv3, ms3, hl3, hm3, ht3, hf3⟩ := hd3
  obtain ⟨ms30, m3, rfl, hm30, hm3a⟩ := split_last (r := []) (by simpa using hm3)
  obtain rfl := List.map_eq_nil_iff.1 hm30
  rw [List.nil_append] at hl3 hf3
  have hm3' : m3.abs = (st, []) := hm3a.trans HM2.out
  have hmn : m3.n = st := congrArg Prod.fst hm3'
  have hmx : m3.xs = [] := congrArg Prod.snd hm3'
  have hv3 : safeIf 0 (⟨mo, 0, 0, false⟩ : LV) (nextOf st []) = ⟨mo, 0, st, false⟩ := rfl
  rw [hv3] at hl3
  obtain ⟨g, cap, hgv, hc, -⟩ := hl3.row.at smC_len (j := 0) (by simp)
  rw [List.length_singleton] at hgv
  subst hgv
  have c3 := hl3.c3
  have hlb := lt_of_heap hl3.box
  have c0 : w3.cell? ⟨g, 0, none⟩ = some (.pointer (some ⟨m3.sb, 0, none⟩)) := hc 0 (by omega)
  have hba := Sg.baseOf_any w3 base d m3.sb m3.sv _ m3.n _ (hl3.segs m3 (by simp))
  have hen := end_any w3 base d F3 _ w.heap.size _ dir _ [] m3 hl3 (by simp) (by rw [hmx]; simp)
  rw [hmn] at hba
  rw [hmn, hmx, show nextOf (st : Int) [] = (st : Int) from rfl] at hen
  have HM3 := hide hm3'
  have HL3 := hide hl3
  have HBA := hide hba
  have HEN := hide hen
  have HT3 := hide (HT2.out.trans ht3 HLF.out)
  have HF3 : Hid (∀ k ∈ lfoot F3 w.heap.size (.slice (some ⟨g, 0, none⟩) 1 cap) [m3], k ∈ F ∨ w.heap.size ≤ k) := fun k hk => by
    rcases hf3 k hk with h | h
    · exact HLF.out k h
    · exact .inr (Nat.le_trans HT2.out.size h)
  clear hm3a hm3 hm30 hm3' hmn hmx hv3 hl3 hc hba hen ht3 hf3 HS
  go_wp2_with fail
  refine HBA.out.mono ?_
  rintro e w4 ⟨rfl, rfl⟩
  go_wp2_with fail
  refine HEN.out.mono ?_
  rintro e w4 ⟨rfl, ht4⟩
  have hl4 := HL3.out.still ht4
  have hlb4 := lt_of_heap hl4.box
  have c44 := hl4.c4
  have f4 := hl4.fr 4
  have HL4 := hide hl4
  have HT4 := hide (HT3.out.same (ht4.mono (by simp)))
  clear ht4 hl4 HBA HEN c3 c0 hlb
  go_wp2
  go_ret2
  rw [← HAE.out]
  refine ⟨_, F3, _, m3, rfl, ?_, HM3.out, HT4.out.setCell (.inr (Nat.le_refl _)) _, HF3.out⟩
  exact HL4.out.setBox (i := 4) (u := .int .i64 (st : Int)) (v' := ⟨mo, st, st, false⟩) rfl
end Go.Proofs.YthbhfhagbaommaaGreatDoor.Lg

/- keep, fate: what a crash does with one file. -/
namespace Go.Proofs.YthbhfhagbaommaaGreatDoor.Dk
open Go.RowKit Go.Maps
set_option linter.unusedSimpArgs false
set_option linter.unusedVariables false

/-- What a crash's fates tell of the k-th file. -/
def fateN (fs : List UInt8) (k : Nat) : Nat := if fs.length = 0 then 0 else (fs.getD (k % fs.length) 0).toNat

set_option maxRecDepth 100000 in
set_option maxHeartbeats 1000000 in
theorem fate_any (w : World) (v : Value) (fs : List UInt8) (hx : SliceAt w v (fs.map encB)) (k : Nat) (hk : k ≤ 1048576) (hl : fs.length ≤ 9223372036854775807) :
    Calls Tryz.prog 66 #[v, .int .i64 k] w fun e w' => e = .returned (.int .i64 (fateN fs k)) ∧ w = w' := by
  rcases hx with ⟨rfl, hb⟩ | ⟨a, c, rfl, hc⟩
  · have hb' : fs = [] := by simpa using hb
    subst hb'
    go_enter Tryz.func66, Tryz.ntmps66
    go_wp2
    go_ret
    exact ⟨rfl, rfl⟩
  · simp only [List.length_map]
    by_cases h0 : fs.length = 0
    · have HE : Hid (fateN fs k = 0) := by show _ = _; simp [fateN, h0]
      have hz : ((fs.length : Int) == 0) = true := by simp [h0]
      clear hc h0
      go_enter Tryz.func66, Tryz.ntmps66
      go_wp2
      go_ret
      exact ⟨ret_int (by rw [HE.out]; rfl), rfl⟩
    · have hlt : k % fs.length < fs.length := Nat.mod_lt _ (Nat.pos_of_ne_zero h0)
      have HE : Hid (fateN fs k = (fs.getD (k % fs.length) 0).toNat) := by show _ = _; simp [fateN, h0]
      have hz : ((fs.length : Int) == 0) = false := by rw [beq_eq_false_iff_ne]; omega
      have hcell := hc (k % fs.length) (encB (fs.getD (k % fs.length) 0)) (by simp [List.getElem?_eq_getElem hlt, List.getD])
      unfold encB at hcell
      have hb8 : (fs.getD (k % fs.length) 0).toNat < 256 := (fs.getD (k % fs.length) 0).toNat_lt
      clear hc
      have hpos : (0 : Int) < (fs.length : Int) := by omega
      go_enter Tryz.func66, Tryz.ntmps66
      go_wp2
      go_ret
      exact ⟨ret_int (by rw [HE.out]; have := UInt8.toNat_lt fs[k % fs.length]; simp [List.getD, List.getElem?_eq_getElem hlt]; exact IntWalk.wrap64_in _ (by omega)), rfl⟩

end Go.Proofs.YthbhfhagbaommaaGreatDoor.Dk

/- The library at this program, in plain words (made by the guide's lay-plain). -/
namespace Go.Proofs
open Go.Shelf
def Tryz.keys95_ren : Go.Shelf.Ren := ⟨fun | 7 => 95 | 10 => 126 | n => n, fun | 23 => 57 | 26 => 9 | 3 => 112 | 28 => 110 | 0 => 0 | 27 => 109 | 33 => 141 | 4 => 4 | n => n, fun | n => n⟩
theorem Tryz.keys95 : Go.Proofs.SlLaysZ.n7 Tryz.prog Tryz.keys95_ren := {
  mixed := by kernel_rfl
  f7 := ⟨Tryz.f95.name, by decide, Tryz.func95.trans (congrArg some (by kernel_rfl))⟩
  f10 := ⟨Tryz.f126.name, by decide, Tryz.func126.trans (congrArg some (by kernel_rfl))⟩
  t0 := Tryz.underlying0
  a0 := Tryz.isAgg0
  z0 := Tryz.sizeOf0
  v0 := Tryz.zeroValue0
  t4 := Tryz.underlying4
  a4 := Tryz.isAgg4
  z4 := Tryz.sizeOf4
  v4 := Tryz.zeroValue4
  t23 := Tryz.underlying57
  a23 := Tryz.isAgg57
  z23 := Tryz.sizeOf57
  v23 := Tryz.zeroValue57
  t26 := Tryz.underlying9
  a26 := Tryz.isAgg9
  z26 := Tryz.sizeOf9
  v26 := Tryz.zeroValue9
  t27 := Tryz.underlying109
  a27 := Tryz.isAgg109
  z27 := Tryz.sizeOf109
  v27 := Tryz.zeroValue109
  t28 := Tryz.underlying110
  a28 := Tryz.isAgg110
  z28 := Tryz.sizeOf110
  v28 := Tryz.zeroValue110
  t33 := Tryz.underlying141
  a33 := Tryz.isAgg141
  z33 := Tryz.sizeOf141
  v33 := Tryz.zeroValue141 }
def Tryz.sorted94_ren : Go.Shelf.Ren := ⟨fun | 6 => 94 | 8 => 105 | 9 => 125 | 11 => 134 | 13 => 107 | 12 => 162 | 23 => 144 | 24 => 145 | 14 => 181 | 15 => 182 | 16 => 183 | 17 => 184 | 18 => 185 | 19 => 186 | 20 => 187 | 21 => 188 | 22 => 189 | 25 => 201 | 26 => 167 | 27 => 168 | 28 => 202 | 29 => 203 | 30 => 204 | 31 => 211 | n => n, fun | 26 => 9 | 28 => 110 | 24 => 86 | 0 => 0 | 3 => 3 | 37 => 55 | 48 => 172 | 50 => 202 | 4 => 4 | 40 => 194 | 39 => 193 | 45 => 198 | 5 => 5 | 9 => 9 | 51 => 223 | 55 => 227 | 57 => 248 | 58 => 249 | 33 => 141 | n => n, fun | n => n⟩
theorem Tryz.sorted94 : Go.Proofs.SlLaysZ.n6 Tryz.prog Tryz.sorted94_ren := {
  mixed := by kernel_rfl
  f6 := ⟨Tryz.f94.name, by decide, Tryz.func94.trans (congrArg some (by kernel_rfl))⟩
  f8 := ⟨Tryz.f105.name, by decide, Tryz.func105.trans (congrArg some (by kernel_rfl))⟩
  f11 := ⟨Tryz.f134.name, by decide, Tryz.func134.trans (congrArg some (by kernel_rfl))⟩
  t0 := Tryz.underlying0
  a0 := Tryz.isAgg0
  z0 := Tryz.sizeOf0
  v0 := Tryz.zeroValue0
  t24 := Tryz.underlying86
  a24 := Tryz.isAgg86
  z24 := Tryz.sizeOf86
  v24 := Tryz.zeroValue86
  t26 := Tryz.underlying9
  a26 := Tryz.isAgg9
  z26 := Tryz.sizeOf9
  v26 := Tryz.zeroValue9
  t28 := Tryz.underlying110
  a28 := Tryz.isAgg110
  z28 := Tryz.sizeOf110
  v28 := Tryz.zeroValue110
  i26 := by kernel_rfl }
def Tryz.sort125_ren : Go.Shelf.Ren := ⟨fun | 6 => 125 | 8 => 107 | 9 => 162 | 19 => 144 | 20 => 145 | 21 => 181 | 22 => 182 | 23 => 183 | 24 => 184 | 25 => 185 | 26 => 186 | 27 => 187 | 28 => 188 | 29 => 189 | 36 => 201 | 31 => 167 | 32 => 168 | 37 => 202 | 38 => 203 | 39 => 204 | 41 => 211 | n => n, fun | 27 => 86 | 29 => 9 | 3 => 3 | 32 => 55 | 26 => 86 | 0 => 0 | 44 => 172 | 46 => 202 | 4 => 4 | 36 => 194 | 35 => 193 | 41 => 198 | 5 => 5 | 9 => 9 | 53 => 223 | 57 => 227 | 63 => 248 | 64 => 249 | n => n, fun | n => n⟩
theorem Tryz.sort125 : Go.Proofs.SlLaysM.n6 Tryz.prog Tryz.sort125_ren := {
  mixed := by kernel_rfl
  f6 := ⟨Tryz.f125.name, by decide, Tryz.func125.trans (congrArg some (by kernel_rfl))⟩
  f8 := Tryz.func107.trans (congrArg some (by kernel_rfl))
  f9 := ⟨Tryz.f162.name, by decide, Tryz.func162.trans (congrArg some (by kernel_rfl))⟩
  f19 := Tryz.func144.trans (congrArg some (by kernel_rfl))
  f20 := Tryz.func145.trans (congrArg some (by kernel_rfl))
  f21 := ⟨Tryz.f181.name, by decide, Tryz.func181.trans (congrArg some (by kernel_rfl))⟩
  f22 := ⟨Tryz.f182.name, by decide, Tryz.func182.trans (congrArg some (by kernel_rfl))⟩
  f23 := ⟨Tryz.f183.name, by decide, Tryz.func183.trans (congrArg some (by kernel_rfl))⟩
  f24 := ⟨Tryz.f184.name, by decide, Tryz.func184.trans (congrArg some (by kernel_rfl))⟩
  f25 := ⟨Tryz.f185.name, by decide, Tryz.func185.trans (congrArg some (by kernel_rfl))⟩
  f26 := ⟨Tryz.f186.name, by decide, Tryz.func186.trans (congrArg some (by kernel_rfl))⟩
  f27 := ⟨Tryz.f187.name, by decide, Tryz.func187.trans (congrArg some (by kernel_rfl))⟩
  f28 := ⟨Tryz.f188.name, by decide, Tryz.func188.trans (congrArg some (by kernel_rfl))⟩
  f29 := ⟨Tryz.f189.name, by decide, Tryz.func189.trans (congrArg some (by kernel_rfl))⟩
  f31 := Tryz.func167.trans (congrArg some (by kernel_rfl))
  f32 := Tryz.func168.trans (congrArg some (by kernel_rfl))
  f36 := ⟨Tryz.f201.name, by decide, Tryz.func201.trans (congrArg some (by kernel_rfl))⟩
  f37 := ⟨Tryz.f202.name, by decide, Tryz.func202.trans (congrArg some (by kernel_rfl))⟩
  f38 := ⟨Tryz.f203.name, by decide, Tryz.func203.trans (congrArg some (by kernel_rfl))⟩
  f39 := ⟨Tryz.f204.name, by decide, Tryz.func204.trans (congrArg some (by kernel_rfl))⟩
  f41 := ⟨Tryz.f211.name, by decide, Tryz.func211.trans (congrArg some (by kernel_rfl))⟩
  t0 := Tryz.underlying0
  a0 := Tryz.isAgg0
  z0 := Tryz.sizeOf0
  v0 := Tryz.zeroValue0
  t3 := Tryz.underlying3
  a3 := Tryz.isAgg3
  z3 := Tryz.sizeOf3
  v3 := Tryz.zeroValue3
  t4 := Tryz.underlying4
  a4 := Tryz.isAgg4
  z4 := Tryz.sizeOf4
  v4 := Tryz.zeroValue4
  t5 := Tryz.underlying5
  a5 := Tryz.isAgg5
  z5 := Tryz.sizeOf5
  v5 := Tryz.zeroValue5
  t9 := Tryz.underlying9
  a9 := Tryz.isAgg9
  z9 := Tryz.sizeOf9
  v9 := Tryz.zeroValue9
  t26 := Tryz.underlying86
  a26 := Tryz.isAgg86
  z26 := Tryz.sizeOf86
  v26 := Tryz.zeroValue86
  t27 := Tryz.underlying86
  a27 := Tryz.isAgg86
  z27 := Tryz.sizeOf86
  v27 := Tryz.zeroValue86
  t29 := Tryz.underlying9
  a29 := Tryz.isAgg9
  z29 := Tryz.sizeOf9
  v29 := Tryz.zeroValue9
  t32 := Tryz.underlying55
  a32 := Tryz.isAgg55
  z32 := Tryz.sizeOf55
  v32 := Tryz.zeroValue55
  t35 := Tryz.underlying193
  a35 := Tryz.isAgg193
  z35 := Tryz.sizeOf193
  v35 := Tryz.zeroValue193
  t36 := Tryz.underlying194
  a36 := Tryz.isAgg194
  z36 := Tryz.sizeOf194
  v36 := Tryz.zeroValue194
  t41 := Tryz.underlying198
  a41 := Tryz.isAgg198
  z41 := Tryz.sizeOf198
  v41 := Tryz.zeroValue198
  t44 := Tryz.underlying172
  a44 := Tryz.isAgg172
  z44 := Tryz.sizeOf172
  v44 := Tryz.zeroValue172
  t46 := Tryz.underlying202
  a46 := Tryz.isAgg202
  z46 := Tryz.sizeOf202
  v46 := Tryz.zeroValue202
  t53 := Tryz.underlying223
  a53 := Tryz.isAgg223
  z53 := Tryz.sizeOf223
  v53 := Tryz.zeroValue223
  t57 := Tryz.underlying227
  a57 := Tryz.isAgg227
  z57 := Tryz.sizeOf227
  v57 := Tryz.zeroValue227
  t63 := Tryz.underlying248
  a63 := Tryz.isAgg248
  z63 := Tryz.sizeOf248
  v63 := Tryz.zeroValue248
  t64 := Tryz.underlying249
  a64 := Tryz.isAgg249
  z64 := Tryz.sizeOf249
  v64 := Tryz.zeroValue249 }
end Go.Proofs
