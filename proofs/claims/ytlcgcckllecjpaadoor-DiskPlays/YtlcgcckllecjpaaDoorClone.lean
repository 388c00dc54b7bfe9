/- slices.Clone of bytes; Read. -/
import Derived.Test.YtlcgcckllecjpaaDoorAdd
namespace Go.Proofs.YtlcgcckllecjpaaDoor.Dk
open Go.RowKit Go.Maps
set_option linter.unusedSimpArgs false

section
variable {w w' : World} {base d : Nat} {F : List Nat} {A A' : DA} {mref : Option Nat} {ms : List FileM}

set_option maxRecDepth 100000 in
set_option maxHeartbeats 1000000 in
theorem clone_any (w : World) (v : Value) (bs : List UInt8) (hx : SliceAt w v (bs.map encB)) (hbs : bs.length ≤ 1099511627776) :
    Calls Tryd.prog 59 #[v] w fun e w' => ∃ v', e = .returned v' ∧ RowAt w' 5 w.heap.size v' bs ∧ Turn [] w w' := by
  obtain ⟨i0, hi, hz, hz1, hz2⟩ := info_parts Tryd.infoB
  have hq : ∀ (w : World) (a : Option Addr) (n c : Nat), (binOp .eql 35 (.slice a n c) (.slice none 0 0)).run Tryd.prog w = .ok (.bool a.isNone) w := fun w a n c => Go.Lib.run_eql_slice_nil w _ _ a n c 0 0 Tryd.underlying35
  rcases hx with ⟨rfl, hb⟩ | ⟨a, c, rfl, hc⟩
  · have hb' : bs = [] := by simpa using hb
    subst hb'
    go_enter Tryd.func59, Tryd.ntmps59
    go_wp2
    go_ret
    exact ⟨_, rfl, .inl ⟨rfl, rfl⟩, Turn.refl _ _⟩
  · simp only [List.length_map]
    have HX : Hid (SliceAt w (.slice (some a) bs.length c) (bs.map encB)) := .inr ⟨a, c, by simp, hc⟩
    clear hc
    go_enter Tryd.func59, Tryd.ntmps59
    go_wp2_with (at_builtin; go_must (refine wpList_append_row _ rfl _ _ 35 rfl 5 w.heap.size i0 Tryd.underlying35 hi hz hz1 hz2 (.slice (some ⟨w.heap.size, 0, none⟩) 0 0) (.slice (some a) bs.length c) [] bs rfl rfl (.inr ⟨w.heap.size, 0, #[], rfl, Nat.le_refl _, heap_new w _, by simp, by simp, by simp, by simp⟩) (HX.out.kept ((Turn.refl [] w).alloc _) (by simp)) (by simp; omega) (by simp) ?_; intro v3 w3 hrow3 ht4 hown3; rw [List.nil_append] at hrow3))
    go_ret
    exact ⟨_, rfl, hrow3, ((Turn.refl [] w).alloc (.cells #[] 5)).trans ht4 (by simp [Value.ownBlock])⟩

/-- What Read tells. -/
def readL (bs : List UInt8) (off most : Int) : List UInt8 := if off < 0 ∨ (bs.length : Int) ≤ off ∨ most ≤ 0 then [] else (bs.drop off.toNat).take most.toNat
def DA.bytesOf (A : DA) (nm : List UInt8) : List UInt8 := match A.files.find? (fun f => f.name == nm) with
  | some f => f.bytes
  | none => []
theorem bytesOf_eq (h : Parts w base d F A mref ms) (nm : List UInt8) : A.bytesOf nm = match findM ms nm with
  | some m => m.abs.bytes
  | none => [] := by
  unfold DA.bytesOf findM
  rw [h.files, List.find?_map]
  simp only [Function.comp_def]
  cases List.find? (fun m => m.abs.name == nm) ms <;> rfl

theorem RowAt.zero {w : World} {e base : Nat} : RowAt w e base (.slice none 0 0) [] := .inl ⟨rfl, rfl⟩

set_option maxRecDepth 100000 in
set_option maxHeartbeats 1000000 in
theorem read_none (h : Parts w base d F A mref ms) (s : ByteArray) (hs : s.size ≤ maxLen) (off most : Int) (hn : findM ms s.data.toList = none) :
    Calls Tryd.prog 28 #[.pointer (some ⟨d, 0, none⟩), .string s, .int .i64 off, .int .i64 most] w fun e w' => e = .returned (.slice none 0 0) ∧ w = w' := by
  have c1 := h.c1
  have hlook := h.map.look hs
  rw [hn] at hlook
  simp only [ptrOf] at hlook
  clear hn h
  go_enter Tryd.func28, Tryd.ntmps28
  go_wp2
  go_ret
  exact ⟨rfl, rfl⟩

set_option maxRecDepth 100000 in
set_option maxHeartbeats 1000000 in
theorem read_some (h : Parts w base d F A mref ms) (s : ByteArray) (hs : s.size ≤ maxLen) (off most : Int) (m : FileM) (hn : findM ms s.data.toList = some m) (hm : -9223372036854775808 ≤ most ∧ most ≤ 9223372036854775807) :
    Calls Tryd.prog 28 #[.pointer (some ⟨d, 0, none⟩), .string s, .int .i64 off, .int .i64 most] w fun e w' => ∃ v, e = .returned v ∧ RowAt w' 5 w.heap.size v (readL m.abs.bytes off most) ∧ Turn [] w w' := by
  have c1 := h.c1
  have hlook := h.map.look hs
  rw [hn] at hlook
  simp only [ptrOf] at hlook
  have hfa := h.each m (findM_mem hn).1
  obtain ⟨sa, sc, hsl, hsl1, hsl2⟩ := hfa.2.form
  have cf : w.cell? ⟨m.blk, 0, none⟩ = some (.slice sa m.abs.bytes.length sc) := by rw [cell_of hfa.1, hsl]; rfl
  have hlen : m.abs.bytes.length ≤ 1048576 := by
    have h1 := h.good.used
    have h2 := h.good.room
    rw [h.files] at h1
    obtain ⟨pre, post, e, _⟩ := split_at hn
    rw [e, List.map_append, List.map_cons, usedL_split] at h1
    omega
  by_cases hz : off < 0 ∨ (m.abs.bytes.length : Int) ≤ off ∨ most ≤ 0
  · have HE : Hid (readL m.abs.bytes off most = []) := by show _ = _; simp [readL, hz]
    have HF : Hid (off < 0 ∨ (m.abs.bytes.length : Int) ≤ off ∨ most ≤ 0) := hz
    clear hn h hfa hsl hz
    by_cases h1 : off < 0
    · go_enter Tryd.func28, Tryd.ntmps28
      go_wp2
      go_ret
      exact ⟨_, rfl, by rw [HE.out]; exact RowAt.zero, Turn.refl _ _⟩
    · by_cases h2 : (m.abs.bytes.length : Int) ≤ off
      · go_enter Tryd.func28, Tryd.ntmps28
        go_wp2
        go_ret
        exact ⟨_, rfl, by rw [HE.out]; exact RowAt.zero, Turn.refl _ _⟩
      · have h3 : most ≤ 0 := by have := HF.out; omega
        go_enter Tryd.func28, Tryd.ntmps28
        go_wp2
        go_ret
        exact ⟨_, rfl, by rw [HE.out]; exact RowAt.zero, Turn.refl _ _⟩
  · have HE : Hid (readL m.abs.bytes off most = (m.abs.bytes.drop off.toNat).take most.toNat) := by show _ = _; simp only [readL, hz, if_false]
    have h1 : ¬ off < 0 := by omega
    have h2 : ¬ (m.abs.bytes.length : Int) ≤ off := by omega
    have h3 : ¬ most ≤ 0 := by omega
    obtain ⟨n, rfl⟩ := Int.eq_ofNat_of_zero_le (show 0 ≤ off by omega)
    obtain ⟨k, rfl⟩ := Int.eq_ofNat_of_zero_le (show 0 ≤ most by omega)
    have hR := hfa.2
    rcases hR with ⟨_, hb0⟩ | ⟨g, cap, cur, hsl', hbg, hg, hc1, hc2, hc3, htk⟩
    · rw [hb0] at h2; simp at h2
    clear cf hsl1 hsl2
    have cf : w.cell? ⟨m.blk, 0, none⟩ = some (.slice (some ⟨g, 0, none⟩) m.abs.bytes.length cap) := by rw [cell_of hfa.1, hsl']; rfl
    have hn1 : n < m.abs.bytes.length := by omega
    have hk1 : 0 < k := by omega
    have hs1 : ∀ w, (Instr.slice 35 (.slice (some ⟨g, 0, none⟩) m.abs.bytes.length cap) (some (.int .i64 (n : Int))) none none).run Tryd.prog w = .ok (.slice (some ⟨g, n, none⟩) (m.abs.bytes.length - n) (cap - n)) w := by
      intro w
      have hsz : (sizeOf 5).run Tryd.prog w = .ok 1 w := by kernel_rfl
      have hne : ¬ cap = n := by omega
      simp [Instr.slice, run_underlying Tryd.underlying35, Instr.sliceBounds, run_sliceBound, hsz, Result.andThen, (by omega : n ≤ m.abs.bytes.length), hne, addr_add]
    have hs2 : ∀ (j : Nat) w, j ≤ cap - n → (Instr.slice 35 (.slice (some ⟨g, n, none⟩) (m.abs.bytes.length - n) (cap - n)) none (some (.int .i64 (j : Int))) none).run Tryd.prog w = .ok (.slice (some ⟨g, n, none⟩) j (cap - n)) w := by
      intro j w hj
      have hsz : (sizeOf 5).run Tryd.prog w = .ok 1 w := by kernel_rfl
      simp [Instr.slice, run_underlying Tryd.underlying35, Instr.sliceBounds, run_sliceBound, hsz, Result.andThen, hj, Addr.add]
    have HE2 : Hid (∀ j : Nat, j ≤ m.abs.bytes.length - n → SliceAt w (.slice (some ⟨g, n, none⟩) j (cap - n)) (((m.abs.bytes.drop n).take j).map encB)) := by
      intro j hj
      refine .inr ⟨⟨g, n, none⟩, cap - n, by simp; omega, fun i u hu => ?_⟩
      have ha : (⟨g, n, none⟩ : Addr).add i = ⟨g, n + i, none⟩ := by unfold Addr.add; split <;> simp_all
      rw [ha, cell_of hg]
      have hi : i < j := by
        have := (List.getElem?_eq_some_iff.1 hu).1
        simp at this; omega
      have hq : (m.abs.bytes.map encB)[n + i]? = some u := by
        rw [List.map_take, List.map_drop, List.getElem?_take_of_lt hi, List.getElem?_drop] at hu
        exact hu
      rw [← htk, List.getElem?_take_of_lt (by omega)] at hq
      simpa using hq
    clear hn h hfa hsl hz hsl' hg htk h1 h3
    have hwr : IntKind.i64.wrap ((m.abs.bytes.length : Int) - (n : Int)) = (m.abs.bytes.length : Int) - (n : Int) := by
      rw [IntWalk.i64_left, IntWalk.wrap64_in _ (by omega)]
    by_cases hkk : (k : Int) ≤ m.abs.bytes.length - n
    · have hj := fun w => hs2 k w (by omega)
      have hmin : ∀ ts t w, (Builtin.min_ ts t #[.int .i64 (k : Int), .int .i64 ((m.abs.bytes.length : Int) - (n : Int))]).run Tryd.prog w = .ok (.int .i64 (k : Int)) w := by
        intro ts t w
        have : ¬ ((m.abs.bytes.length : Int) - (n : Int) < (k : Int)) := by omega
        simp [Builtin.min_, Builtin.min2, this]
      have hcl := fun W (hW : Turn [] w W) => clone_any W (.slice (some ⟨g, n, none⟩) k (cap - n)) ((m.abs.bytes.drop n).take k) ((HE2.out k (by omega)).kept hW (by simp)) (by simp; omega)
      have HC : Hid (∀ W, Turn [] w W → Calls Tryd.prog 59 #[.slice (some ⟨g, n, none⟩) k (cap - n)] W fun e w' => ∃ v', e = .returned v' ∧ RowAt w' 5 W.heap.size v' ((m.abs.bytes.drop n).take k) ∧ Turn [] W w') := hcl
      clear hs2 hcl
      go_enter Tryd.func28, Tryd.ntmps28
      go_wp2
      go_region_with (go_at_call 59; refine (HC.out _ (by repeat (first | exact Turn.refl _ _ | refine Turn.drew ?_))).mono ?_; rintro e w2 ⟨v, rfl, hrow, ht2⟩)
      all_goals
        go_wp2
        go_ret
        exact ⟨v, rfl, by rw [HE.out]; simpa using hrow, ((Turn.refl [] w).drew).same ht2⟩
    · have hj := fun w => hs2 (m.abs.bytes.length - n) w (by omega)
      rw [show ((m.abs.bytes.length - n : Nat) : Int) = (m.abs.bytes.length : Int) - (n : Int) by omega] at hj
      have hmin : ∀ ts t w, (Builtin.min_ ts t #[.int .i64 (k : Int), .int .i64 ((m.abs.bytes.length : Int) - (n : Int))]).run Tryd.prog w = .ok (.int .i64 ((m.abs.bytes.length : Int) - (n : Int))) w := by
        intro ts t w
        have : ((m.abs.bytes.length : Int) - (n : Int) < (k : Int)) := by omega
        simp [Builtin.min_, Builtin.min2, this]
      have hcl := fun W (hW : Turn [] w W) => clone_any W (.slice (some ⟨g, n, none⟩) (m.abs.bytes.length - n) (cap - n)) ((m.abs.bytes.drop n).take (m.abs.bytes.length - n)) ((HE2.out (m.abs.bytes.length - n) (by omega)).kept hW (by simp)) (by simp; omega)
      have HC : Hid (∀ W, Turn [] w W → Calls Tryd.prog 59 #[.slice (some ⟨g, n, none⟩) (m.abs.bytes.length - n) (cap - n)] W fun e w' => ∃ v', e = .returned v' ∧ RowAt w' 5 W.heap.size v' ((m.abs.bytes.drop n).take (m.abs.bytes.length - n)) ∧ Turn [] W w') := hcl
      have HT : Hid ((m.abs.bytes.drop n).take k = (m.abs.bytes.drop n).take (m.abs.bytes.length - n)) := by
        show _ = _
        rw [List.take_of_length_le (by simp; omega), List.take_of_length_le (by simp)]
      clear hs2 hcl
      go_enter Tryd.func28, Tryd.ntmps28
      go_wp2
      go_region_with (go_at_call 59; refine (HC.out _ (by repeat (first | exact Turn.refl _ _ | refine Turn.drew ?_))).mono ?_; rintro e w2 ⟨v, rfl, hrow, ht2⟩)
      all_goals
        go_wp2
        go_ret
        refine ⟨v, rfl, ?_, ((Turn.refl [] w).drew).same ht2⟩
        rw [HE.out]
        simp only [Int.toNat_natCast]
        rw [HT.out]
        exact hrow
end

end Go.Proofs.YtlcgcckllecjpaaDoor.Dk
