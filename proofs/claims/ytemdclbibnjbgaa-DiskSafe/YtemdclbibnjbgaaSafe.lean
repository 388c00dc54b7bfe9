/- DiskSafe: a disk of one file, what the law calls. -/
import Derived.Test.YtemdclbibnjbgaaCrash
import Derived.Test.YtemdclbibnjbgaaClone
import Derived.Lib.SlBytesConst
import Derived.Laws.DeepStrings4
import Derived.WalkLawsBesides
namespace Go.Proofs.Ytemdclbibnjbgaa.Dk
open Go.RowKit Go.Maps
set_option linter.unusedSimpArgs false
set_option linter.unusedVariables false

/-- A disk with the one file 'a'. -/
def one (r : Nat) (b : List UInt8) (s : Nat) : DA := ⟨r, [⟨[97], b, s⟩], false, 0⟩
theorem one_make (r : Nat) : (DA.empty r).make { data := #[97] } = (0, one r [] 0) := by
  have h : nameB { data := #[97] } = true := by kernel_rfl
  simp [DA.make, DA.empty, DA.fails, DA.has, DA.tick, one, h]
theorem one_add (r : Nat) (b bs : List UInt8) (s : Nat) (h : b.length + bs.length ≤ r) : (one r b s).add [97] bs = (0, one r (b ++ bs) s) := by
  have h2 : ¬ r < b.length + bs.length := by omega
  simp [DA.add, DA.fails, DA.has, DA.tick, one, usedL, DA.upd, setF, h2]
theorem one_sync (r : Nat) (b : List UInt8) (s : Nat) : (one r b s).sync [97] = (0, one r b b.length) := by
  simp [DA.sync, DA.fails, DA.has, DA.tick, one, DA.upd, setF]
theorem one_crash (r : Nat) (b fs : List UInt8) (s : Nat) : (one r b s).crash fs = one r (b.take (min (s + fateN fs 0) b.length)) (min (s + fateN fs 0) b.length) := by
  have h : sortedN (one r b s) = [[97]] := by simp [sortedN, one]
  have h2 : ([[97]] : List (List UInt8)).zipIdx = [([97], 0)] := rfl
  unfold DA.crash
  rw [h]
  simp [crashTo, h2, DA.upd, setF, crash1, one]

section
variable {w0 w : World} {d : Nat} {F : List Nat} {r s : Nat} {b : List UInt8}

theorem turn_over {A : DA} {Z : World} (t : Turn [] w0 w) (h : DiskAt w w0.heap.size d F A) (k : Turn F w Z) : Turn [] w0 Z :=
  t.trans k (fun x hx => .inr (h.low x hx))

theorem make_c (h : DiskAt w w0.heap.size d F (DA.empty r)) (t : Turn [] w0 w) :
    Calls Try.prog 9 #[.pointer (some ⟨d, 0, none⟩), .string { data := #[97] }] w fun e w' => e = .returned .nilIface ∧ ∃ F', DiskAt w' w0.heap.size d F' (one r [] 0) ∧ Turn [] w0 w' := by
  obtain ⟨mref, ms, hp⟩ := h
  refine (make_any hp { data := #[97] } (by decide)).mono ?_
  rintro e w' ⟨rfl, F', h1, h2, h3⟩
  rw [one_make] at h1 ⊢
  exact ⟨rfl, F', h1, turn_over t ⟨mref, ms, hp⟩ h2⟩

theorem add_c (h : DiskAt w w0.heap.size d F (one r b s)) (t : Turn [] w0 w) (v : Value) (bs : List UInt8) (hx : ∀ Z, Turn F w Z → SliceAt Z v (bs.map encB)) (hl : b.length + bs.length ≤ r) :
    Calls Try.prog 10 #[.pointer (some ⟨d, 0, none⟩), .string { data := #[97] }, v] w fun e w' => e = .returned .nilIface ∧ ∃ F', DiskAt w' w0.heap.size d F' (one r (b ++ bs) s) ∧ Turn [] w0 w' := by
  have hr := h.good.room
  obtain ⟨mref, ms, hp⟩ := h
  refine (add_any hp { data := #[97] } (by decide) v bs hx (by have : (one r b s).room = r := rfl; omega)).mono ?_
  rintro e w' ⟨rfl, F', h1, h2, h3⟩
  rw [show ({ data := #[97] } : ByteArray).data.toList = [97] from rfl, one_add _ _ _ _ hl] at h1 ⊢
  exact ⟨rfl, F', h1, turn_over t ⟨mref, ms, hp⟩ h2⟩

theorem sync_c (h : DiskAt w w0.heap.size d F (one r b s)) (t : Turn [] w0 w) :
    Calls Try.prog 11 #[.pointer (some ⟨d, 0, none⟩), .string { data := #[97] }] w fun e w' => e = .returned .nilIface ∧ ∃ F', DiskAt w' w0.heap.size d F' (one r b b.length) ∧ Turn [] w0 w' := by
  obtain ⟨mref, ms, hp⟩ := h
  refine (sync_any hp { data := #[97] } (by decide)).mono ?_
  rintro e w' ⟨rfl, F', h1, h2, h3⟩
  rw [show ({ data := #[97] } : ByteArray).data.toList = [97] from rfl, one_sync] at h1 ⊢
  exact ⟨rfl, F', h1, turn_over t ⟨mref, ms, hp⟩ h2⟩

theorem crash_c (h : DiskAt w w0.heap.size d F (one r b s)) (t : Turn [] w0 w) (v : Value) (fs : List UInt8) (hx : ∀ Z, Turn F w Z → SliceAt Z v (fs.map encB)) (hl : fs.length ≤ 9223372036854775807) :
    Calls Try.prog 13 #[.pointer (some ⟨d, 0, none⟩), v] w fun e w' => e = .returned (.tuple #[]) ∧ ∃ F', DiskAt w' w0.heap.size d F' (one r (b.take (min (s + fateN fs 0) b.length)) (min (s + fateN fs 0) b.length)) ∧ Turn [] w0 w' := by
  obtain ⟨mref, ms, hp⟩ := h
  refine (crash_any hp v fs hx hl).mono ?_
  rintro e w' ⟨rfl, F', h1, h2, h3⟩
  rw [one_crash] at h1
  exact ⟨rfl, F', h1, turn_over t ⟨mref, ms, hp⟩ h2⟩

theorem read_c (h : DiskAt w w0.heap.size d F (one r b s)) (t : Turn [] w0 w) (most : Nat) (hm : most ≤ 1048576) :
    Calls Try.prog 14 #[.pointer (some ⟨d, 0, none⟩), .string { data := #[97] }, .int .i64 0, .int .i64 most] w fun e w' => ∃ a c, e = .returned (.slice a (b.take most).length c) ∧
      (convert 23 9 (.slice a (b.take most).length c)).run Try.prog w' = .ok (.string ⟨(b.take most).toArray⟩) w' ∧ DiskAt w' w0.heap.size d F (one r b s) ∧ Turn [] w0 w' := by
  obtain ⟨mref, ms, hp⟩ := h
  have hf : ∃ m, findM ms [97] = some m ∧ m.abs.bytes = b := by
    have h1 := has_find hp [97]
    have h2 := bytesOf_eq hp [97]
    have h3 : (one r b s).has [97] = true := by simp [DA.has, one]
    rw [h3] at h1
    obtain ⟨m, hm⟩ := Option.isSome_iff_exists.1 h1.symm
    simp only [hm] at h2
    have h4 : (one r b s).bytesOf [97] = b := by simp [DA.bytesOf, one]
    exact ⟨m, hm, h2.symm.trans h4⟩
  obtain ⟨m, hfm, hb⟩ := hf
  have hrd : readL m.abs.bytes 0 most = b.take most := by
    rw [hb]; unfold readL
    split
    · rename_i hz
      rcases hz with hz | hz | hz
      · omega
      · have : b.length = 0 := by omega
        rw [List.length_eq_zero_iff] at this; simp [this]
      · have : most = 0 := by omega
        simp [this]
    · simp
  refine (read_some hp { data := #[97] } (by decide) 0 most m hfm (by omega)).mono ?_
  rintro e w' ⟨v, rfl, hrow, ht⟩
  rw [hrd] at hrow
  have hcells := hrow.cells
  obtain ⟨a, c, rfl, _, _⟩ := hrow.form
  refine ⟨a, c, rfl, ?_, ⟨mref, ms, hp.kept ht (by simp)⟩, t.trans ht (by simp)⟩
  rcases hcells with ⟨h1, h2⟩ | ⟨x, c', h1, h2⟩
  · have h3 : b.take most = [] := by simpa using h2
    simp only [Value.slice.injEq] at h1
    obtain ⟨rfl, _, rfl⟩ := h1
    rw [h3]
    exact run_convert_bytes_nil w' 23 5 Try.underlying23 Try.underlying5 0 0 9 Try.underlying9
  · simp only [Value.slice.injEq] at h1
    obtain ⟨rfl, _, rfl⟩ := h1
    exact run_convert_bytes_back w' 23 9 5 x c (b.take most) Try.underlying23 Try.underlying5 Try.underlying9 (fun j hj => h2 j _ (by rw [List.getElem?_map, List.getElem?_eq_getElem hj]; rfl))
end

/-- The text of a row. -/
theorem conv_any {w : World} {a : Option Addr} {c : Nat} {bs : List UInt8} (h : SliceAt w (.slice a bs.length c) (bs.map encB)) :
    (convert 23 9 (.slice a bs.length c)).run Try.prog w = .ok (.string ⟨bs.toArray⟩) w := by
  rcases h with ⟨h1, h2⟩ | ⟨x, c', h1, h2⟩
  · have h3 : bs = [] := by simpa using h2
    simp only [Value.slice.injEq] at h1
    obtain ⟨rfl, _, rfl⟩ := h1
    rw [h3]
    exact run_convert_bytes_nil w 23 5 Try.underlying23 Try.underlying5 0 0 9 Try.underlying9
  · simp only [Value.slice.injEq] at h1
    obtain ⟨rfl, _, rfl⟩ := h1
    exact run_convert_bytes_back w 23 9 5 x c bs Try.underlying23 Try.underlying5 Try.underlying9 (fun j hj => h2 j _ (by rw [List.getElem?_map, List.getElem?_eq_getElem hj]; rfl))

/-- A row of bytes that came in. -/
theorem arg_slice {w : World} {a : Option Addr} {len cap : Nat} {zs : List Int}
    (h : (a = none ∧ len = 0 ∧ cap = 0 ∧ zs = []) ∨ ∃ x, a = some x ∧ len ≤ cap ∧ cap ≤ maxLen ∧ zs.length = cap ∧ (∀ i, i < zs.length → w.cell? (x.add i) = some (.int .u8 (zs.getD i 0))) ∧ ∀ n ∈ zs, (Lit.int .u8 n).wf = true) :
    ∃ bs : List UInt8, len = bs.length ∧ bs.length ≤ maxLen ∧ ∀ Z, Turn [] w Z → SliceAt Z (.slice a len cap) (bs.map encB) := by
  rcases h with ⟨rfl, rfl, rfl, rfl⟩ | ⟨x, rfl, h1, h2, h3, h4, h5⟩
  · exact ⟨[], rfl, by simp, fun Z _ => .inl ⟨rfl, rfl⟩⟩
  · have hlen : ((zs.take len).map (fun z => UInt8.ofNat z.toNat)).length = len := by simp; omega
    refine ⟨(zs.take len).map (fun z => UInt8.ofNat z.toNat), hlen.symm, by rw [hlen]; omega, fun Z hZ => SliceAt.kept (S := []) (.inr ⟨x, cap, by rw [List.length_map, hlen], fun j u hu => ?_⟩) hZ (by simp)⟩
    have hj : j < len := by have := (List.getElem?_eq_some_iff.1 hu).1; simp at this; omega
    have hjz : j < zs.length := by omega
    rw [h4 j hjz]
    have hw := h5 (zs[j]) (List.getElem_mem _)
    have hb : 0 ≤ zs[j] ∧ zs[j] < 256 := by
      simp only [Lit.wf, IntKind.min, IntKind.max, IntKind.signed, IntKind.bits, Bool.and_eq_true, decide_eq_true_eq] at hw
      have h1 := hw.1
      have h2 := hw.2
      simp at h1 h2
      exact ⟨h1, by omega⟩
    have hu2 : u = encB (UInt8.ofNat (zs[j]).toNat) := by
      simp [List.getElem?_take_of_lt hj, List.getElem?_eq_getElem hjz] at hu
      exact hu.symm
    rw [hu2]
    unfold encB
    have : ((UInt8.ofNat (zs[j]).toNat).toNat : Int) = zs[j] := by
      rw [UInt8.toNat_ofNat_of_lt' (by show (zs[j]).toNat < 256; omega)]; omega
    rw [this]
    simp [List.getD, List.getElem?_eq_getElem hjz]

theorem pick_any (x : Int) (w : World) : Calls Try.prog 12 #[.int .i64 x, .int .i64 4] w fun e w' => (∃ p : Nat, p < 4 ∧ e = .returned (.int .i64 p)) ∧ w = w' := by
  go_enter Try.func12, Try.ntmps12
  go_wp2
  go_ret
  have h0 : 0 ≤ IntKind.u64.wrap x := by simp [IntKind.wrap, IntKind.bits, IntKind.signed]; omega
  obtain ⟨m, hm⟩ := Int.eq_ofNat_of_zero_le h0
  refine ⟨⟨m % 4, by omega, ?_⟩, rfl⟩
  rw [hm]
  refine congrArg (fun z => Ending.returned (.int .i64 z)) ?_
  have : (m : Int).tmod 4 = ((m % 4 : Nat) : Int) := by rw [Int.tmod_eq_emod_of_nonneg (by omega)]; omega
  rw [this]
  unfold wrap64; omega

/-- A fresh row of constants. -/
theorem fresh_at (w : World) (bs : List UInt8) (fr : Nat × Nat) (F : List Nat) (hF : ∀ k ∈ F, k < w.heap.size) (Z : World) (h : Turn F (w.alloc (.cells (bs.map encB).toArray 5 fr)) Z) :
    SliceAt Z (.slice (some ⟨w.heap.size, 0, none⟩) bs.length bs.length) (bs.map encB) := by
  have hh := h.heap (heap_new w (.cells (bs.map encB).toArray 5 fr)) (fun e => Nat.lt_irrefl _ (hF _ e))
  refine .inr ⟨⟨w.heap.size, 0, none⟩, bs.length, by simp, fun j u hu => ?_⟩
  rw [addr_add, cell_of hh]
  simpa using hu

set_option maxRecDepth 100000 in
set_option maxHeartbeats 1000000 in
theorem kept_any (w : World) : Calls Try.prog 8 #[] w fun e w' => e = .returned (.bool true) ∧ Turn [] w w' := by
  have kc := fun (w : World) (C : Array Value) (n c : Nat) => Lib.run_convert_bytes_const (P := Try.prog) w 23 5 C n c Try.underlying23 Try.underlying5
  go_enter Try.func8, Try.ntmps8
  go_wp2_with fail
  refine (new_ok 10 (by omega) w w.heap.size (Nat.le_refl _)).mono ?_
  rintro e w1 ⟨rfl, h1, t1⟩
  have HK : Hid (∀ (w : World) (C : Array Value) (n c : Nat), _) := kc
  go_wp2_with fail
  refine (make_c h1 t1).mono ?_
  rintro e w2 ⟨rfl, F2, h2, t2⟩
  go_wp2_with fail
  refine (add_c (h2.kept ((Turn.refl [] w2).alloc _) (by simp)) (t2.alloc _) _ [120, 121] (fun Z hZ => fresh_at w2 [120, 121] (2, 3) F2 h2.lt Z hZ) (by simp)).mono ?_
  rintro e w3 ⟨rfl, F3, h3, t3⟩
  go_wp2_with fail
  refine (sync_c h3 t3).mono ?_
  rintro e w4 ⟨rfl, F4, h4, t4⟩
  go_wp2_with fail
  refine (add_c (h4.kept ((Turn.refl [] w4).alloc _) (by simp)) (t4.alloc _) _ [122] (fun Z hZ => fresh_at w4 [122] (1, 2) F4 h4.lt Z hZ) (by simp)).mono ?_
  rintro e w5 ⟨rfl, F5, h5, t5⟩
  go_wp2_with fail
  refine (crash_c h5 t5 _ [] (fun Z _ => .inl ⟨rfl, rfl⟩) (by simp)).mono ?_
  rintro e w6 ⟨rfl, F6, h6, t6⟩
  go_wp2_with fail
  refine (read_c h6 t6 9 (by omega)).mono ?_
  rintro e w7 ⟨a, c, rfl, hcv, h7, t7⟩
  have hf0 : fateN [] 0 = 0 := by simp [fateN]
  simp [fateN] at hcv
  go_wp2
  go_ret
  exact ⟨rfl, t7⟩

end Go.Proofs.Ytemdclbibnjbgaa.Dk
