/- The disk in memory, whole; what count and operate do. -/
import Derived.Test.YtlcgcckllecjpaaDoorMem
namespace Go.Proofs.YtlcgcckllecjpaaDoor.Dk
open Go.RowKit Go.Maps

def usedL (l : List FA) : Nat := (l.map (·.bytes.length)).sum
structure Good (A : DA) : Prop where
  room : A.room ≤ 1048576
  used : usedL A.files ≤ A.room
  count : A.files.length ≤ 200
  names : (A.files.map (·.name)).Nodup
  short : ∀ f ∈ A.files, f.name.length ≤ 40
  safe : ∀ f ∈ A.files, f.safe ≤ f.bytes.length
  left : A.limited = true → 0 ≤ A.left ∧ A.left ≤ 9223372036854775807

def FileAt (w : World) (base : Nat) (m : FileM) : Prop :=
  w.heap[m.blk]? = some (.cells #[m.sl, .int .i64 m.abs.safe] 84 (0, 0)) ∧ RowAt w 5 base m.sl m.abs.bytes

structure Parts (w : World) (base d : Nat) (F : List Nat) (A : DA) (mref : Option Nat) (ms : List FileM) : Prop where
  foot : F = d :: (mref.toList ++ ms.flatMap FileM.foot)
  nodup : F.Nodup
  low : ∀ k ∈ F, base ≤ k
  self : w.heap[d]? = some (.cells #[.int .i64 A.room, .map mref, .bool A.limited, .int .i64 A.left] 77 (0, 0))
  map : MapAt w mref ms
  each : ∀ m ∈ ms, FileAt w base m
  files : A.files = ms.map (·.abs)
  good : Good A
def DiskAt (w : World) (base d : Nat) (F : List Nat) (A : DA) : Prop := ∃ mref ms, Parts w base d F A mref ms

theorem FileAt.kept {w w' : World} {base : Nat} {m : FileM} {S : List Nat} (h : FileAt w base m) (ht : Turn S w w') (hn : ∀ k ∈ m.foot, k ∉ S) : FileAt w' base m :=
  ⟨ht.heap h.1 (hn _ (by simp [FileM.foot])), h.2.kept ht (fun k hk => hn k (by simp [FileM.foot]; right; simpa using hk))⟩
theorem FileAt.lt {w : World} {base : Nat} {m : FileM} (h : FileAt w base m) : ∀ k ∈ m.foot, k < w.heap.size := by
  intro k hk
  simp only [FileM.foot, List.mem_cons, Option.mem_toList] at hk
  rcases hk with rfl | hk
  · exact lt_of_heap h.1
  · exact (h.2.lt k hk).2
section
variable {w w' : World} {base d : Nat} {F : List Nat} {A A' : DA} {mref : Option Nat} {ms : List FileM}
theorem Parts.mem_self (h : Parts w base d F A mref ms) : d ∈ F := by rw [h.foot]; simp
theorem Parts.mem_map (h : Parts w base d F A mref ms) {k : Nat} (hk : k ∈ mref) : k ∈ F := by
  rw [h.foot]; simp only [List.mem_cons, List.mem_append, Option.mem_toList]; exact .inr (.inl hk)
theorem Parts.mem_file (h : Parts w base d F A mref ms) {m : FileM} (hm : m ∈ ms) {k : Nat} (hk : k ∈ m.foot) : k ∈ F := by
  rw [h.foot]; simp only [List.mem_cons, List.mem_append, List.mem_flatMap]; exact .inr (.inr ⟨m, hm, hk⟩)
theorem Parts.lt (h : Parts w base d F A mref ms) : ∀ k ∈ F, k < w.heap.size := by
  intro k hk
  rw [h.foot] at hk
  simp only [List.mem_cons, List.mem_append, List.mem_flatMap, Option.mem_toList] at hk
  rcases hk with rfl | hk | ⟨m, hm, hk⟩
  · exact lt_of_heap h.self
  · exact h.map.lt k hk
  · exact (h.each m hm).lt k hk
theorem Parts.kept {S : List Nat} (h : Parts w base d F A mref ms) (ht : Turn S w w') (hn : ∀ k ∈ F, k ∉ S) : Parts w' base d F A mref ms :=
  { h with
    self := ht.heap h.self (hn _ h.mem_self)
    map := h.map.kept ht (fun _ hk => hn _ (h.mem_map hk))
    each := fun m hm => (h.each m hm).kept ht (fun _ hk => hn _ (h.mem_file hm hk)) }
theorem DiskAt.kept {S : List Nat} (h : DiskAt w base d F A) (ht : Turn S w w') (hn : ∀ k ∈ F, k ∉ S) : DiskAt w' base d F A := by
  obtain ⟨mref, ms, h⟩ := h; exact ⟨mref, ms, h.kept ht hn⟩
theorem DiskAt.lt (h : DiskAt w base d F A) : ∀ k ∈ F, k < w.heap.size := by obtain ⟨mref, ms, h⟩ := h; exact h.lt
theorem DiskAt.low (h : DiskAt w base d F A) : ∀ k ∈ F, base ≤ k := by obtain ⟨mref, ms, h⟩ := h; exact h.low
theorem DiskAt.good (h : DiskAt w base d F A) : Good A := by obtain ⟨mref, ms, h⟩ := h; exact h.good
/-- The disk's own block is told anew; all else lies as it lay. -/
theorem Parts.setSelf (h : Parts w base d F A mref ms) (ht : Turn [d] w w') (hs : w'.heap[d]? = some (.cells #[.int .i64 A'.room, .map mref, .bool A'.limited, .int .i64 A'.left] 77 (0, 0)))
    (hf : A'.files = A.files) (hg : Good A') : Parts w' base d F A' mref ms := by
  have hnd := h.nodup
  rw [h.foot, List.nodup_cons] at hnd
  have hne : ∀ k, (k ∈ mref ∨ ∃ m ∈ ms, k ∈ m.foot) → k ∉ [d] := by
    intro k hk e
    simp only [List.mem_singleton] at e
    subst e
    exact hnd.1 (by simpa [List.mem_flatMap] using hk)
  exact { foot := h.foot, nodup := h.nodup, low := h.low, self := hs, files := hf.trans h.files, good := hg
          map := h.map.kept ht (fun k hk => hne k (.inl hk))
          each := fun m hm => (h.each m hm).kept ht (fun k hk => hne k (.inr ⟨m, hm, hk⟩)) }
end

def DA.fails (A : DA) : Bool := A.limited && (A.left == 0)
def DA.tick (A : DA) : DA := if A.limited then { A with left := A.left - 1 } else A
theorem tick_files (A : DA) : A.tick.files = A.files := by unfold DA.tick; split <;> rfl
theorem tick_room (A : DA) : A.tick.room = A.room := by unfold DA.tick; split <;> rfl
theorem tick_limited (A : DA) : A.tick.limited = A.limited := by unfold DA.tick; split <;> rfl
theorem Good.tick {A : DA} (h : Good A) (hf : A.fails = false) : Good A.tick where
  room := by rw [tick_room]; exact h.room
  used := by rw [tick_room, tick_files]; exact h.used
  count := by rw [tick_files]; exact h.count
  names := by rw [tick_files]; exact h.names
  short := by rw [tick_files]; exact h.short
  safe := by rw [tick_files]; exact h.safe
  left := fun hl => by
    rw [tick_limited] at hl
    have := h.left hl
    simp [DA.fails, hl] at hf
    simp only [DA.tick, hl, if_true]
    omega

/-- An error as a value of error: none for 0. -/
def errV (n : Int) : Value := .iface 29 (.int .i64 n)

section
variable {w : World} {base d : Nat} {F : List Nat} {A : DA} {mref : Option Nat} {ms : List FileM}
theorem Parts.c0 (h : Parts w base d F A mref ms) : w.cell? ⟨d, 0, none⟩ = some (.int .i64 A.room) := by rw [cell_of h.self]; rfl
theorem Parts.c1 (h : Parts w base d F A mref ms) : w.cell? ⟨d, 1, none⟩ = some (.map mref) := by rw [cell_of h.self]; rfl
theorem Parts.c2 (h : Parts w base d F A mref ms) : w.cell? ⟨d, 2, none⟩ = some (.bool A.limited) := by rw [cell_of h.self]; rfl
theorem Parts.c3 (h : Parts w base d F A mref ms) : w.cell? ⟨d, 3, none⟩ = some (.int .i64 A.left) := by rw [cell_of h.self]; rfl
theorem Parts.fr (h : Parts w base d F A mref ms) (i : Nat) : w.frozen? ⟨d, i, none⟩ = false := frozen_of h.self i

set_option maxHeartbeats 400000 in
theorem count_fails (h : Parts w base d F A mref ms) (hf : A.fails = true) :
    Calls Tryd.prog 46 #[.pointer (some ⟨d, 0, none⟩)] w fun e w' => e = .returned (errV 14) ∧ w = w' := by
  have c2 := h.c2; have c3 := h.c3
  simp only [DA.fails, Bool.and_eq_true] at hf
  obtain ⟨hl, hz⟩ := hf
  rw [hl] at c2
  clear hl
  go_enter Tryd.func46, Tryd.ntmps46
  go_wp2
  go_ret
  exact ⟨rfl, rfl⟩

set_option maxHeartbeats 400000 in
theorem count_ok (h : Parts w base d F A mref ms) (hf : A.fails = false) :
    Calls Tryd.prog 46 #[.pointer (some ⟨d, 0, none⟩)] w fun e w' => e = .returned .nilIface ∧ Parts w' base d F A.tick mref ms ∧ Turn [d] w w' := by
  have c2 := h.c2; have c3 := h.c3; have f3 := h.fr 3
  have hl3 := h.good.left
  have hgt := h.good.tick hf
  have H : Hid (Parts w base d F A mref ms) := h
  cases hl : A.limited
  · rw [hl] at c2
    clear h hf hl3
    have HL : Hid (A.limited = false) := hl
    clear hl
    go_enter Tryd.func46, Tryd.ntmps46
    go_wp2
    go_ret
    have e : A.tick = A := by simp [DA.tick, HL.out]
    exact ⟨rfl, by rw [e]; exact H.out, Turn.refl _ _⟩
  · rw [hl] at c2
    have hb := hl3 hl
    have hz : (A.left == 0) = false := by simpa [DA.fails, hl] using hf
    clear h hf hl3
    have HL : Hid (A.limited = true) := hl
    clear hl
    go_enter Tryd.func46, Tryd.ntmps46
    go_wp2
    go_ret
    have e : A.tick = { A with left := A.left - 1 } := by simp [DA.tick, HL.out]
    have t : Turn [d] w (w.setCell ⟨d, 3, none⟩ (.int .i64 (A.left - 1))) := (Turn.refl _ _).setCell (by simp) _
    refine ⟨rfl, H.out.setSelf t ?_ (tick_files A) hgt, t⟩
    rw [heap_set H.out.self, e]
    simp

set_option maxHeartbeats 400000 in
theorem operate_fails (h : Parts w base d F A mref ms) (hf : A.fails = true) (s : ByteArray) :
    Calls Tryd.prog 48 #[.pointer (some ⟨d, 0, none⟩), .string s] w fun e w' => e = .returned (.tuple #[.pointer none, errV 14]) ∧ w = w' := by
  have H : Hid (Parts w base d F A mref ms) := h
  clear h
  go_enter Tryd.func48, Tryd.ntmps48
  go_wp2_with (go_at_call 46; refine (count_fails H.out hf).mono ?_; rintro e w' ⟨rfl, rfl⟩; unfold errV)
  go_ret2
  exact ⟨rfl, rfl⟩

/-- What operate hands back. -/
def opRes : Option FileM → Value
  | some m => .tuple #[.pointer (some ⟨m.blk, 0, none⟩), .nilIface]
  | none => .tuple #[.pointer none, errV 7]

set_option maxHeartbeats 400000 in
theorem operate_ok (h : Parts w base d F A mref ms) (hf : A.fails = false) (s : ByteArray) (hs : s.size ≤ maxLen) (o : Option FileM) (ho : findM ms s.data.toList = o) :
    Calls Tryd.prog 48 #[.pointer (some ⟨d, 0, none⟩), .string s] w fun e w' =>
      e = .returned (opRes o) ∧ Parts w' base d F A.tick mref ms ∧ Turn [d] w w' := by
  have H : Hid (Parts w base d F A mref ms) := h
  have HO : Hid (findM ms s.data.toList = o) := ho
  clear h ho
  cases o
  all_goals
    go_enter Tryd.func48, Tryd.ntmps48
    go_wp2_with fail
    refine (count_ok H.out hf).mono ?_
    rintro e w1 ⟨rfl, hp, ht⟩
    have c1 := hp.c1
    have hlook := hp.map.look hs
    rw [HO.out] at hlook
    simp only [ptrOf] at hlook
    have HP : Hid (Parts w1 base d F A.tick mref ms) := hp
    clear hp
    go_wp2
    go_ret2
    exact ⟨rfl, HP.out, ht⟩
end

end Go.Proofs.YtlcgcckllecjpaaDoor.Dk
