/- Sgo, Rest2A, Sgd, Row2, Lgm, Lgo, Late, Lgb: texts merged. -/
import Derived.Test.YthbhfhagbaommaaGreatDoorM4
import Derived.Test.YthbhfhagbaommaaGreatDoorM1
import Derived.Test.YthbhfhagbaommaaGreatDoorM2
/- segment.Make, segment.Open. -/
namespace Go.Proofs.YthbhfhagbaommaaGreatDoor.Sg
open Go.RowKit Go.Maps
set_option maxRecDepth 100000
set_option linter.unusedSimpArgs false
set_option linter.unusedVariables false
attribute [local go_sem] Oper.semAt_some
open Dk (DA DiskAt Parts Did errR errV)

theorem base_le {w : World} {base d : Nat} {F : List Nat} {A : DA} (h : DiskAt w base d F A) : base ≤ w.heap.size := by
  obtain ⟨mref, ms, h⟩ := h
  have h1 := h.low d h.mem_self
  have h2 := h.lt d h.mem_self
  omega
theorem nameB_len {dir : ByteArray} {n : Nat} (hn : n ≤ 1099511627776) (hd : dir.size ≤ 1000) : (Sn.nameB dir n).size ≤ maxLen := by
  have := Sn.dec_short hn
  have hm : maxLen = 9223372036854775807 := by simp [maxLen]
  rw [hm]
  rw [Lib.size_eq] at hd ⊢
  simp [Sn.nameB, Sn.nameL, Sn.pad]
  simp at hd
  omega
theorem offset_yes (n : Nat) (hn : n ≤ 1099511627776) (w : World) : Calls Tryz.prog 76 #[.int .i64 n] w fun e w' => e = .returned (.bool true) ∧ w = w' := by
  refine (Sn.offset_any n w).mono ?_
  rintro e w' ⟨rfl, rfl⟩
  exact ⟨by rw [decide_eq_true (p := 0 ≤ (n : Int) ∧ (n : Int) ≤ 1099511627776) ⟨by omega, by omega⟩], rfl⟩
/-- A new segment, and its file. -/
def Fresh1 (w w' : World) (base d : Nat) (F : List Nat) (A' : DA) (sb : Nat) (file : ByteArray) (b0 : Int) : Prop :=
  ∃ F', Both w' base d F' A' sb (.slice none 0 0) file b0 [] ∧ Turn F w w' ∧ (∀ k ∈ F', k ∈ F ∨ w.heap.size ≤ k) ∧ w.heap.size ≤ sb

set_option maxHeartbeats 2000000 in
theorem empty_any (w : World) (base d : Nat) (F : List Nat) (A : DA) (h : DiskAt w base d F A) (file : ByteArray) (hf : file.size ≤ maxLen) (b0 : Int) :
    Calls Tryz.prog 79 #[.pointer (some ⟨d, 0, none⟩), .string file, .int .i64 b0] w fun e w' =>
      ((A.make file).1 ≠ 0 ∧ e = .returned (.tuple #[.pointer none, errR (A.make file).1]) ∧ Did w w' base d F (A.make file).2) ∨
      ((A.make file).1 = 0 ∧ ∃ sb, e = .returned (.tuple #[.pointer (some ⟨sb, 0, none⟩), .nilIface]) ∧ Fresh1 w w' base d F (A.make file).2 sb file b0) := by
  have H := hide h
  have HB := hide (base_le h)
  obtain ⟨mref, ms, hp⟩ := h
  go_enter Tryz.func79, Tryz.ntmps79
  go_wp2_with fail
  refine (Dk.make_any hp file hf).mono ?_
  rintro e w1 ⟨rfl, hd1⟩
  obtain ⟨c, hc⟩ : ∃ c, c = (A.make file).1 := ⟨_, rfl⟩
  have HC := hide hc
  have HD := hide hd1
  rw [← hc]
  clear hc hd1 hp
  by_cases h0 : c = 0
  · have hr : errR c = .nilIface := by rw [h0]; rfl
    rw [hr]
    have H0 := hide h0
    clear hr h0
    go_wp2
    go_ret2
    obtain ⟨F', hd, ht, hf'⟩ := HD.out
    have ht2 : Turn [] w1 (w1.alloc (.cells #[.pointer (some ⟨d, 0, none⟩), .string file, .int .i64 b0, .slice none 0 0] 96)) := (Turn.refl [] w1).alloc _
    refine .inr ⟨HC.out.symm.trans H0.out, _, rfl, F', ⟨hd.kept ht2 (by simp), ⟨heap_new w1 _, .inl ⟨rfl, rfl⟩, Nat.le_trans HB.out ht.size⟩, fun k hk hm => ?_⟩, ht.trans ht2 (by simp), hf', ht.size⟩
    simp [sfoot, Value.ownBlock] at hk
    have := hd.lt k hm
    omega
  · have hr : errR c = .iface 56 (.int .i64 c) := by unfold errR; rw [if_neg h0]; rfl
    rw [hr]
    have HR := hide hr
    have H0 := hide h0
    clear hr h0
    go_wp2
    go_ret2
    refine .inl ⟨fun e => H0.out (HC.out.trans e), ?_, HD.out⟩
    rw [← HC.out, HR.out]; rfl
set_option maxHeartbeats 2000000 in
theorem make_any (w : World) (base d : Nat) (F : List Nat) (A : DA) (h : DiskAt w base d F A) (dir : ByteArray) (hd : dir.size ≤ 1000) (n : Nat) (hn : n ≤ 1099511627776) (hv : Sn.TabT w) :
    Calls Tryz.prog 47 #[.pointer (some ⟨d, 0, none⟩), .string dir, .int .i64 n] w fun e w' =>
      ((A.make (Sn.nameB dir n)).1 ≠ 0 ∧ e = .returned (.tuple #[.pointer none, errR (A.make (Sn.nameB dir n)).1]) ∧ Did w w' base d F (A.make (Sn.nameB dir n)).2) ∨
      ((A.make (Sn.nameB dir n)).1 = 0 ∧ ∃ sb, e = .returned (.tuple #[.pointer (some ⟨sb, 0, none⟩), .nilIface]) ∧ Fresh1 w w' base d F (A.make (Sn.nameB dir n)).2 sb (Sn.nameB dir n) n) := by
  have H := hide h
  have HV := hide hv
  clear h hv
  go_enter Tryz.func47, Tryz.ntmps47
  go_wp2_with (go_at_call 76; refine (offset_yes n hn _).mono ?_; rintro e w' ⟨rfl, rfl⟩)
  refine (Sn.name_any dir n hn hd _ HV.out).mono ?_
  rintro e w1 ⟨rfl, hb1⟩
  have ht1 : Turn [] _ w1 := Turn.of_below hb1 []
  have HT1 := hide ht1
  clear hb1 ht1
  obtain ⟨file, hfile⟩ : ∃ f, f = Sn.nameB dir n := ⟨_, rfl⟩
  have HFI := hide hfile
  rw [← hfile]
  clear hfile
  go_wp2_with fail
  refine (empty_any w1 base d F A (H.out.kept HT1.out (by simp)) file (by rw [HFI.out]; exact nameB_len hn hd) n).mono ?_
  rintro e w2 (⟨h1, rfl, hdid⟩ | ⟨h1, sb, rfl, hfr⟩)
  · have HD := hide hdid
    have H1 := hide h1
    clear hdid h1
    go_wp2
    go_ret2
    rw [← HFI.out]
    obtain ⟨F', hd2, ht2, hf2⟩ := HD.out
    exact .inl ⟨H1.out, rfl, F', hd2, (HT1.out.mono (by simp)).same ht2, fun k hk => (hf2 k hk).imp_right (Nat.le_trans HT1.out.size)⟩
  · have HD := hide hfr
    have H1 := hide h1
    clear hfr h1
    go_wp2
    go_ret2
    rw [← HFI.out]
    obtain ⟨F', hb, ht2, hf2, hs⟩ := HD.out
    exact .inr ⟨H1.out, sb, rfl, F', hb, (HT1.out.mono (by simp)).same ht2, fun k hk => (hf2 k hk).imp_right (Nat.le_trans HT1.out.size), Nat.le_trans HT1.out.size hs⟩

theorem sizeOf_some {A : DA} {nm : List UInt8} {f : Dk.FA} (h : A.file nm = some f) : A.sizeOf nm = f.bytes.length := by unfold DA.sizeOf; rw [h]
theorem sizeOf_none {A : DA} {nm : List UInt8} (h : A.file nm = none) : A.sizeOf nm = -1 := by unfold DA.sizeOf; rw [h]
theorem readL_all (bs : List UInt8) : Dk.readL bs 0 bs.length = bs := by
  unfold Dk.readL
  by_cases h : bs.length = 0
  · rw [if_pos (.inr (.inl (by omega)))]; exact (List.eq_nil_of_length_eq_zero h).symm
  · rw [if_neg (by omega)]; simp
theorem read_file {w : World} {base d : Nat} {F : List Nat} {A : DA} (h : DiskAt w base d F A) (s : ByteArray) (hs : s.size ≤ maxLen) {f : Dk.FA} (hf : A.file s.data.toList = some f) (off most : Int) (hm : -9223372036854775808 ≤ most ∧ most ≤ 9223372036854775807) :
    Calls Tryz.prog 117 #[.pointer (some ⟨d, 0, none⟩), .string s, .int .i64 off, .int .i64 most] w fun e w' => ∃ v, e = .returned v ∧ RowAt w' 5 w.heap.size v (Dk.readL f.bytes off most) ∧ Turn [] w w' := by
  obtain ⟨mref, ms, hp⟩ := h
  have e := Dk.file_find hp s.data.toList
  rw [hf] at e
  obtain ⟨m, hm1, hm2⟩ := Option.map_eq_some_iff.1 e.symm
  have := Dk.read_some hp s hs off most m hm1 hm
  rw [hm2] at this
  exact this
theorem disk_size {w : World} {base d : Nat} {F : List Nat} {A : DA} (h : DiskAt w base d F A) (s : ByteArray) (hs : s.size ≤ maxLen) :
    Calls Tryz.prog 115 #[.pointer (some ⟨d, 0, none⟩), .string s] w fun e w' => e = .returned (.int .i64 (A.sizeOf s.data.toList)) ∧ w = w' := by
  obtain ⟨mref, ms, hp⟩ := h
  exact Dk.size_any hp s hs
theorem le_sum : ∀ {l : List Nat} {x : Nat}, x ∈ l → x ≤ l.sum
  | a :: r, x, h => by
    rcases List.mem_cons.1 h with rfl | h
    · simp
    · have := le_sum h; simp; omega
theorem file_short {w : World} {base d : Nat} {F : List Nat} {A : DA} (h : DiskAt w base d F A) {nm : List UInt8} {f : Dk.FA} (hf : A.file nm = some f) : f.bytes.length ≤ 1048576 := by
  have hg := h.good
  have hm : f ∈ A.files := List.mem_of_find?_eq_some hf
  have h1 : f.bytes.length ≤ Dk.usedL A.files := by
    unfold Dk.usedL
    exact le_sum (List.mem_map_of_mem (f := fun f : Dk.FA => f.bytes.length) hm)
  have := hg.used
  have := hg.room
  omega

set_option maxHeartbeats 2000000 in
theorem open_none (w : World) (base d : Nat) (F : List Nat) (A : DA) (h : DiskAt w base d F A) (dir : ByteArray) (hd : dir.size ≤ 1000) (n : Nat) (hn : n ≤ 1099511627776) (hv : Sn.TabT w) (hf : A.file (Sn.nameB dir n).data.toList = none) :
    Calls Tryz.prog 78 #[.pointer (some ⟨d, 0, none⟩), .string dir, .int .i64 n] w fun e w' => e = .returned (.tuple #[.pointer none, .int .i64 0, errV 7]) ∧ Turn [] w w' := by
  have H := hide h
  have HV := hide hv
  have HF := hide hf
  clear h hv hf
  go_enter Tryz.func78, Tryz.ntmps78
  go_wp2_with fail
  refine (Sn.name_any dir n hn hd _ HV.out).mono ?_
  rintro e w1 ⟨rfl, hb1⟩
  have HT1 := hide (Turn.of_below hb1 [])
  clear hb1
  go_wp2_with fail
  refine (disk_size (H.out.kept HT1.out (by simp)) _ (nameB_len hn hd)).mono ?_
  rintro e w' ⟨rfl, rfl⟩
  rw [sizeOf_none HF.out]
  go_wp2_with (go_at_call 76; refine (offset_yes n hn _).mono ?_; rintro e w' ⟨rfl, rfl⟩)
  refine bodyPost_ret (v := .tuple #[.pointer none, .int .i64 0, errV 7]) (by simp [results, Tryz.results78, errV]) rfl ⟨rfl, HT1.out⟩

/-- What Open has come to: a segment of the batches at the file's beginning; what is behind them is cut off. -/
def Opened (w w' : World) (base d : Nat) (F : List Nat) (A : DA) (file : ByteArray) (b0 : Int) (f : Dk.FA) (xs : List Bt.Bat) (e : Ending) : Prop :=
  (f.bytes.length = (flat xs).length ∧ ∃ sb sv, e = .returned (.tuple #[.pointer (some ⟨sb, 0, none⟩), .int .i64 0, .nilIface]) ∧ Both w' base d F A sb sv file b0 (pls 0 (-1) xs) ∧ Turn [] w w' ∧ ∀ k ∈ sfoot sb sv, w.heap.size ≤ k) ∨
  ((flat xs).length < f.bytes.length ∧ (A.cut file.data.toList (flat xs).length).1 ≠ 0 ∧ e = .returned (.tuple #[.pointer none, .int .i64 0, errR (A.cut file.data.toList (flat xs).length).1]) ∧ Did w w' base d F (A.cut file.data.toList (flat xs).length).2) ∨
  ((flat xs).length < f.bytes.length ∧ (A.cut file.data.toList (flat xs).length).1 = 0 ∧ ∃ F' sb sv, e = .returned (.tuple #[.pointer (some ⟨sb, 0, none⟩), .int .i64 ((f.bytes.length - (flat xs).length : Nat) : Int), .nilIface]) ∧
    Both w' base d F' (A.cut file.data.toList (flat xs).length).2 sb sv file b0 (pls 0 (-1) xs) ∧ Turn F w w' ∧ (∀ k ∈ F', k ∈ F ∨ w.heap.size ≤ k) ∧ ∀ k ∈ sfoot sb sv, w.heap.size ≤ k)
set_option maxHeartbeats 4000000 in
theorem open_some (w : World) (base d : Nat) (F : List Nat) (A : DA) (h : DiskAt w base d F A) (dir : ByteArray) (hd : dir.size ≤ 1000) (n : Nat) (hn : n ≤ 1099511627776) (hv : Sn.TabT w) (f : Dk.FA) (hf : A.file (Sn.nameB dir n).data.toList = some f) :
    Calls Tryz.prog 78 #[.pointer (some ⟨d, 0, none⟩), .string dir, .int .i64 n] w fun e w' => ∃ xs, Scan n f.bytes xs ∧ Opened w w' base d F A (Sn.nameB dir n) n f xs e := by
  have H := hide h
  have HV := hide hv
  have HF := hide hf
  have hfs := file_short h hf
  clear h hv hf
  obtain ⟨file, hfile⟩ : ∃ f, f = Sn.nameB dir n := ⟨_, rfl⟩
  have HFI := hide hfile
  rw [← hfile]
  have HFL : Hid (file.size ≤ maxLen) := by show _ ≤ _; rw [hfile]; exact nameB_len hn hd
  rw [← hfile] at HF
  clear hfile
  go_enter Tryz.func78, Tryz.ntmps78
  go_wp2_with fail
  refine (Sn.name_any dir n hn hd _ HV.out).mono ?_
  rintro e w1 ⟨rfl, hb1⟩
  have HT1 := hide (Turn.of_below hb1 [])
  rw [← HFI.out]
  clear hb1
  go_wp2_with fail
  refine (disk_size (H.out.kept HT1.out (by simp)) _ HFL.out).mono ?_
  rintro e w' ⟨rfl, rfl⟩
  rw [sizeOf_some HF.out]
  go_wp2_with (go_at_call 76; refine (offset_yes n hn _).mono ?_; rintro e w' ⟨rfl, rfl⟩)
  have hsg : SegAt (w1.alloc (.cells #[.pointer (some ⟨d, 0, none⟩), .string file, .int .i64 n, .slice none 0 0] 96)) base d w1.heap.size (.slice none 0 0) file n (pls 0 (-1) []) :=
    ⟨heap_new w1 _, .inl ⟨rfl, rfl⟩, base_le (H.out.kept HT1.out (by simp))⟩
  have hta : Turn [] w (w1.alloc (.cells #[.pointer (some ⟨d, 0, none⟩), .string file, .int .i64 n, .slice none 0 0] 96)) := HT1.out.alloc _
  refine (read_file (H.out.kept hta (by simp)) file HFL.out HF.out 0 f.bytes.length (by omega)).mono ?_
  rintro e w2 ⟨v, rfl, hrow, ht2⟩
  rw [readL_all] at hrow
  have HROW := hide hrow
  have HSG := hide (hsg.still ht2)
  have HT2 := hide (hta.same ht2)
  obtain ⟨sb, hsb⟩ : ∃ sb, sb = w1.heap.size := ⟨_, rfl⟩
  have HSB : Hid (w.heap.size ≤ sb) := by show _ ≤ _; rw [hsb]; exact HT1.out.size
  have HOWN : Hid (∀ k ∈ v.ownBlock, k < w2.heap.size → k ∉ sfoot sb (.slice none 0 0)) := fun k hk _ hm => by
    have := (HROW.out.lt k hk).1
    simp [sfoot, Value.ownBlock] at hm this
    omega
  rw [← hsb] at HSG
  rw [← hsb]
  clear hsg hta hrow ht2 hsb
  go_wp2_with fail
  refine (find_any w2 base d sb _ file n [] HSG.out v f.bytes HROW.out.bytes HOWN.out (by simp [flat]; omega)).mono ?_
  rintro e w3 ⟨rfl, xs, sv, hscan, hseg, ht3, hft⟩
  have hsc : Scan n f.bytes xs := hscan
  obtain ⟨hch, hwh⟩ := hsc.whole
  have hfl := flat_len xs
  have hlf : (flat xs).length ≤ f.bytes.length := by have := congrArg List.length hwh; rw [List.length_append] at this; omega
  have htw : Turn [] w w3 := HT2.out.trans ht3 (fun k hk => .inr (by simp [sfoot, Value.ownBlock] at hk; have := HSB.out; omega))
  have hfoot : ∀ k ∈ sfoot sb sv, w.heap.size ≤ k := fun k hk => by
    rcases hft k hk with h | h
    · simp [sfoot, Value.ownBlock] at h; have := HSB.out; omega
    · exact Nat.le_trans HT2.out.size h
  have hboth : Both w3 base d F A sb sv file n (pls 0 (-1) xs) := ⟨H.out.kept htw (by simp), hseg, fun k hk hm => by have := hfoot k hk; have := H.out.lt k hm; omega⟩
  have HBO := hide hboth
  have HSC := hide hsc
  have HTW := hide htw
  have HFT := hide hfoot
  clear hscan hseg ht3 hft hsc hch hwh htw hfoot hboth
  by_cases hls : f.bytes.length = (flat xs).length
  · go_wp2_with fail
    refine (size_any w3 base d sb sv file n _ HBO.out.seg (by rw [pls_len]; omega) (by rw [sizeP_pls]; omega)).mono ?_
    rintro e w4 ⟨rfl, ht4⟩
    rw [sizeP_pls]
    have HT4 := hide ht4
    have HLS := hide hls
    clear ht4 hls
    have h0 : ((f.bytes.length : Int) - ((flat xs).length : Int)) = 0 := by have := HLS.out; omega
    go_wp2
    refine bodyPost_ret (v := .tuple #[.pointer (some ⟨sb, 0, none⟩), .int .i64 0, .nilIface]) (by simp [results, Tryz.results78]) rfl ⟨xs, HSC.out, .inl ⟨HLS.out, sb, sv, rfl, HBO.out.still HT4.out, HTW.out.same HT4.out, HFT.out⟩⟩
  · have hlt : (flat xs).length < f.bytes.length := by omega
    have HLT := hide hlt
    have h0 : ¬ ((f.bytes.length : Int) - ((flat xs).length : Int)) = 0 := by omega
    clear hls hlt
    go_wp2_with fail
    refine (size_any w3 base d sb sv file n _ HBO.out.seg (by rw [pls_len]; omega) (by rw [sizeP_pls]; omega)).mono ?_
    rintro e w4 ⟨rfl, ht4⟩
    rw [sizeP_pls]
    have HB4 := hide (HBO.out.still ht4)
    have HT4 := hide (HTW.out.same ht4)
    clear ht4
    go_wp2_with fail
    refine (size_any w4 base d sb sv file n _ HB4.out.seg (by rw [pls_len]; omega) (by rw [sizeP_pls]; omega)).mono ?_
    rintro e w5 ⟨rfl, ht5⟩
    rw [sizeP_pls]
    have HB5 := hide (HB4.out.still ht5)
    have HT5 := hide (HT4.out.same ht5)
    clear ht5
    obtain ⟨mref, ms, hp⟩ := HB5.out.disk
    go_wp2_with fail
    refine (Dk.cut_any hp file HFL.out (flat xs).length).mono ?_
    rintro e w6 ⟨rfl, F', hd6, ht6, hf6⟩
    obtain ⟨c, hc⟩ : ∃ c, c = (A.cut file.data.toList (flat xs).length).1 := ⟨_, rfl⟩
    have HC := hide hc
    rw [← hc]
    have HD6 := hide hd6
    have HT6 := hide ht6
    have HF6 := hide hf6
    clear hc hd6 ht6 hf6 hp
    by_cases hc0 : c = 0
    · have hr : errR c = .nilIface := by rw [hc0]; rfl
      rw [hr]
      have HC0 := hide hc0
      clear hr hc0
      go_wp2
      refine bodyPost_ret (v := .tuple #[.pointer (some ⟨sb, 0, none⟩), .int .i64 ((f.bytes.length - (flat xs).length : Nat) : Int), .nilIface]) ?_ rfl ⟨xs, HSC.out, .inr (.inr ⟨HLT.out, HC.out.symm.trans HC0.out, F', sb, sv, rfl, ⟨HD6.out, HB5.out.seg.kept HT6.out HB5.out.sep, fun k hk hm => ?_⟩, (HT5.out.mono (by simp)).same HT6.out, fun k hk => (HF6.out k hk).imp_right (Nat.le_trans HT5.out.size), HFT.out⟩)⟩
      · have e : ((f.bytes.length - (flat xs).length : Nat) : Int) = (f.bytes.length : Int) - ((flat xs).length : Int) := by omega
        simp [results, Tryz.results78, e]
      · rcases HF6.out k hm with h | h
        · exact HB5.out.sep k hk h
        · have := (HB5.out.seg.lt k hk).2; omega
    · have hr : errR c = .iface 56 (.int .i64 c) := by unfold errR; rw [if_neg hc0]; rfl
      rw [hr]
      have HR := hide hr
      have HC0 := hide hc0
      clear hr hc0
      go_wp2
      refine bodyPost_ret (v := .tuple #[.pointer none, .int .i64 0, errR c]) (by rw [HR.out]; simp [results, Tryz.results78]) rfl ⟨xs, HSC.out, .inr (.inl ⟨HLT.out, fun e => HC0.out (HC.out.trans e), by rw [← HC.out], F', HD6.out, (HT5.out.mono (by simp)).same HT6.out, fun k hk => (HF6.out k hk).imp_right (Nat.le_trans HT5.out.size)⟩)⟩
end Go.Proofs.YthbhfhagbaommaaGreatDoor.Sg

/- Remove, Rename: files that leave the map, and come back under another name. -/
namespace Go.Proofs.YthbhfhagbaommaaGreatDoor.Dk
open Go.RowKit Go.Maps
set_option maxRecDepth 100000
set_option linter.unusedSimpArgs false
set_option linter.unusedVariables false

theorem sub_flat {l l' : List FileM} (h : l.Sublist l') : (l.flatMap FileM.foot).Sublist (l'.flatMap FileM.foot) := by
  induction h with
  | slnil => exact List.Sublist.refl _
  | cons a _ ih => rw [List.flatMap_cons]; exact ih.trans (List.sublist_append_right _ _)
  | cons_cons a _ ih => rw [List.flatMap_cons, List.flatMap_cons]; exact List.Sublist.append (List.Sublist.refl _) ih

section
variable {w w' : World} {base d : Nat} {F : List Nat} {A A' : DA} {mref : Option Nat} {ms ms' : List FileM} {mb : Nat}

/-- The map is told anew; each of its files lies where one lay. -/
theorem Parts.setMap (h : Parts w base d F A (some mb) ms) (ht : Turn [mb] w w') (hm : MapAt w' (some mb) ms')
    (hin : ∀ x ∈ ms', ∃ m ∈ ms, x.blk = m.blk ∧ x.sl = m.sl ∧ x.abs.bytes = m.abs.bytes ∧ x.abs.safe = m.abs.safe) (hnd : (ms'.flatMap FileM.foot).Nodup)
    (hroom : A'.room = A.room) (hlim : A'.limited = A.limited) (hleft : A'.left = A.left) (hf : A'.files = ms'.map (·.abs)) (hg : Good A') :
    Parts w' base d (d :: mb :: ms'.flatMap FileM.foot) A' (some mb) ms' ∧ ∀ k ∈ d :: mb :: ms'.flatMap FileM.foot, k ∈ F := by
  have hfoot := h.foot
  have hnd0 := h.nodup
  rw [hfoot] at hnd0
  simp only [Option.toList_some, List.cons_append, List.nil_append, List.nodup_cons, List.mem_cons, not_or] at hnd0
  have hsub : ∀ k ∈ ms'.flatMap FileM.foot, k ∈ ms.flatMap FileM.foot := by
    intro k hk
    obtain ⟨x, hx, hkx⟩ := List.mem_flatMap.1 hk
    obtain ⟨m, hm1, e1, e2, _⟩ := hin x hx
    exact List.mem_flatMap.2 ⟨m, hm1, by rw [FileM.foot, e1, e2] at hkx; exact hkx⟩
  have hall : ∀ k ∈ d :: mb :: ms'.flatMap FileM.foot, k ∈ F := by
    intro k hk
    rw [hfoot]
    simp only [List.mem_cons] at hk
    rcases hk with rfl | rfl | hk
    · simp
    · simp
    · have := hsub k hk
      simp only [List.mem_cons, List.mem_append]
      exact .inr (.inr this)
  refine ⟨{ foot := by simp, nodup := ?_, low := fun k hk => h.low k (hall k hk), self := ?_, map := hm, each := ?_, files := hf, good := hg }, hall⟩
  · simp only [List.nodup_cons, List.mem_cons, not_or]
    exact ⟨⟨hnd0.1.1, fun e => hnd0.1.2 (hsub _ e)⟩, fun e => hnd0.2.1 (hsub _ e), hnd⟩
  · rw [hroom, hlim, hleft]
    exact ht.heap h.self (by simp; exact hnd0.1.1)
  · intro x hx
    obtain ⟨m, hm1, e1, e2, e3, e4⟩ := hin x hx
    have hq := (h.each m hm1).kept ht (by
      intro k hk e
      simp only [List.mem_singleton] at e
      subst e
      exact hnd0.2.1 (List.mem_flatMap.2 ⟨m, hm1, hk⟩))
    unfold FileAt at hq ⊢
    rw [e1, e2, e3, e4]
    exact hq

theorem drop_split (pre post : List FileM) (m : FileM) (hn : ((pre ++ m :: post).map (·.abs.name)).Nodup) : dropM (pre ++ m :: post) m.abs.name = pre ++ post := by
  have h1 : ∀ x ∈ pre, (!(x.abs.name == m.abs.name)) = true := by
    intro x hx
    simp only [List.map_append, List.map_cons, List.nodup_append] at hn
    have := hn.2.2 x.abs.name (List.mem_map.2 ⟨x, hx, rfl⟩) m.abs.name (by simp)
    simpa using this
  have h2 : ∀ x ∈ post, (!(x.abs.name == m.abs.name)) = true := by
    intro x hx
    simp only [List.map_append, List.map_cons, List.nodup_append, List.nodup_cons] at hn
    have : x.abs.name ≠ m.abs.name := fun e => hn.2.1.1 (by rw [← e]; exact List.mem_map.2 ⟨x, hx, rfl⟩)
    simpa using this
  unfold dropM
  rw [List.filter_append, List.filter_cons]
  simp only [beq_self_eq_true, Bool.not_true, Bool.false_eq_true, if_false]
  rw [List.filter_eq_self.2 h1, List.filter_eq_self.2 h2]

/-- A list of files without one name. -/
def outF (l : List FA) (nm : List UInt8) : List FA := l.filter (fun f => !(f.name == nm))
theorem out_drop (ms : List FileM) (nm : List UInt8) : (dropM ms nm).map (·.abs) = outF (ms.map (·.abs)) nm := by
  unfold dropM outF
  rw [List.filter_map]; rfl
theorem used_sub {l l' : List FA} (h : l.Sublist l') : usedL l ≤ usedL l' := by
  unfold usedL
  induction h with
  | slnil => exact Nat.le_refl _
  | cons a _ ih => simp only [List.map_cons, List.sum_cons]; omega
  | cons_cons a _ ih => simp only [List.map_cons, List.sum_cons]; omega
theorem Good.sub (h : Good A) {l : List FA} (hs : l.Sublist A.files) : Good { A with files := l } where
  room := h.room
  used := Nat.le_trans (used_sub hs) h.used
  count := Nat.le_trans hs.length_le h.count
  names := (hs.map _).nodup h.names
  short := fun f hf => h.short f (hs.subset hf)
  safe := fun f hf => h.safe f (hs.subset hf)
  left := h.left

def DA.remove (A : DA) (nm : List UInt8) : Int × DA :=
  if A.fails then (14, A)
  else if !A.has nm then (7, A.tick)
  else (0, { A.tick with files := outF A.files nm })
set_option maxHeartbeats 1000000 in
theorem remove_any (h : Parts w base d F A mref ms) (s : ByteArray) (hs : s.size ≤ maxLen) :
    Calls Tryz.prog 45 #[.pointer (some ⟨d, 0, none⟩), .string s] w fun e w' => e = .returned (errR (A.remove s.data.toList).1) ∧ Did w w' base d F (A.remove s.data.toList).2 := by
  have H : Hid (Parts w base d F A mref ms) := h
  have hdF := h.mem_self
  have hhas := has_find h s.data.toList
  clear h
  cases hf : A.fails
  case true =>
    have HV : Hid (A.remove s.data.toList = (14, A)) := by show _ = _; simp [DA.remove, hf]
    have HF : Hid (A.fails = true) := hf
    clear hf hhas
    go_enter Tryz.func45, Tryz.ntmps45
    go_wp2_with (go_at_call 77; refine (operate_fails H.out HF.out _).mono ?_; rintro e w' ⟨rfl, rfl⟩; unfold errV)
    go_ret
    exact ⟨by rw [HV.out]; rfl, by rw [HV.out]; exact Did.none H.out⟩
  case false =>
    have HF : Hid (A.fails = false) := hf
    cases hm : findM ms s.data.toList with
    | none =>
      have HV : Hid (A.remove s.data.toList = (7, A.tick)) := by show _ = _; simp [DA.remove, hf, hhas, hm]
      have HM : Hid (findM ms s.data.toList = none) := hm
      clear hf hhas hm
      go_enter Tryz.func45, Tryz.ntmps45
      go_wp2_with (go_at_call 77; refine (operate_ok H.out HF.out _ hs _ HM.out).mono ?_; rintro e w1 ⟨rfl, hp, ht⟩; simp only [opRes]; unfold errV)
      go_ret
      exact ⟨by rw [HV.out]; rfl, by rw [HV.out]; exact Did.tick hp hdF ht⟩
    | some m =>
      have HV : Hid (A.remove s.data.toList = (0, { A.tick with files := outF A.files s.data.toList })) := by show _ = _; simp [DA.remove, hf, hhas, hm]
      have HM : Hid (findM ms s.data.toList = some m) := hm
      have HN : Hid ((ms.map (·.abs.name)).Nodup) := H.out.names
      clear hf hhas
      cases mref with
      | none =>
        have hms : ms = [] := H.out.map
        subst hms
        simp [findM] at hm
      | some mb =>
        clear hm
        go_enter Tryz.func45, Tryz.ntmps45
        go_wp2_with fail
        refine (operate_ok H.out HF.out _ hs _ HM.out).mono ?_
        rintro e w1 ⟨rfl, hp, ht⟩
        simp only [opRes]
        have c1 := hp.c1
        have HP : Hid (Parts w1 base d F A.tick (some mb) ms) := hp
        clear hp
        obtain ⟨D, hown, hrd⟩ := HP.out.map
        have HR : Hid (Reads D ms) := hrd
        clear hrd
        go_wp2_with (at_delete; refine wpList_delete_own _ rfl _ _ 57 9 rfl 112 law Tryz.underlying57 ptrR mb ms.length D rfl hown _ _ rfl (keyS hs) ?_; intro w2 hown2 hgr2)
        go_ret
        have ht2 : Turn [mb] w1 w2 := (Turn.refl [mb] w1).grown hgr2.grown (by intro k hk; cases hk; simp)
        have hrd2 := HR.out.del HN.out (hown.tidy law) s.data.toList
        have hmap2 : MapAt w2 (some mb) (dropM ms s.data.toList) := ⟨_, by have := ownsMap_tight hown2; rw [hrd2.1] at this; exact this, hrd2⟩
        have hsub : (dropM ms s.data.toList).Sublist ms := List.filter_sublist
        have hfl : A.tick.files = ms.map (·.abs) := HP.out.files
        have hnd0 : (ms.flatMap FileM.foot).Nodup := by
          have := HP.out.nodup
          rw [HP.out.foot, List.nodup_cons, List.nodup_append] at this
          exact this.2.2.1
        have hP := HP.out.setMap (A' := { A.tick with files := outF A.files s.data.toList }) ht2 hmap2 (fun x hx => ⟨x, hsub.subset hx, rfl, rfl, rfl, rfl⟩) ((sub_flat hsub).nodup hnd0) rfl rfl rfl
          (by rw [out_drop, ← hfl, tick_files]) (by have := HP.out.good.sub (l := outF A.files s.data.toList) (by rw [tick_files]; exact List.filter_sublist); exact this)
        refine ⟨by rw [HV.out]; rfl, ?_⟩
        rw [HV.out]
        exact ⟨_, ⟨_, _, hP.1⟩, (ht.mono (by simpa using .inl hdF)).trans ht2 (by simpa using .inl (HP.out.mem_map rfl)), fun k hk => .inl (hP.2 k hk)⟩

def DA.rename (A : DA) (nm : List UInt8) (tn : ByteArray) : Int × DA :=
  if A.fails then (14, A)
  else match A.file nm with
    | none => (7, A.tick)
    | some f => if !nameB tn then (5, A.tick) else (0, { A.tick with files := outF (outF A.files nm) tn.data.toList ++ [{ f with name := tn.data.toList }] })
theorem nodup_move {X o Y Z : List Nat} (h : (X ++ (o ++ Y)).Nodup) (hz : Z.Sublist (X ++ Y)) : (Z ++ o).Nodup := by
  have h1 : ((X ++ Y) ++ o).Nodup := by
    refine (List.Perm.nodup_iff ?_).1 h
    rw [List.append_assoc]
    exact List.Perm.append_left X List.perm_append_comm
  rw [List.nodup_append] at h1 ⊢
  exact ⟨hz.nodup h1.1, h1.2.1, fun a ha b hb => h1.2.2 a (hz.subset ha) b hb⟩
set_option maxHeartbeats 1000000 in
theorem rename_any (h : Parts w base d F A mref ms) (s : ByteArray) (hs : s.size ≤ maxLen) (s2 : ByteArray) (hs2 : s2.size ≤ maxLen) :
    Calls Tryz.prog 124 #[.pointer (some ⟨d, 0, none⟩), .string s, .string s2] w fun e w' => e = .returned (errR (A.rename s.data.toList s2).1) ∧ Did w w' base d F (A.rename s.data.toList s2).2 := by
  have H : Hid (Parts w base d F A mref ms) := h
  have hdF := h.mem_self
  have hff := file_find h s.data.toList
  clear h
  cases hf : A.fails
  case true =>
    have HV : Hid (A.rename s.data.toList s2 = (14, A)) := by show _ = _; simp [DA.rename, hf]
    have HF : Hid (A.fails = true) := hf
    clear hf hff
    go_enter Tryz.func124, Tryz.ntmps124
    go_wp2_with (go_at_call 77; refine (operate_fails H.out HF.out _).mono ?_; rintro e w' ⟨rfl, rfl⟩; unfold errV)
    go_ret
    exact ⟨by rw [HV.out]; rfl, by rw [HV.out]; exact Did.none H.out⟩
  case false =>
    have HF : Hid (A.fails = false) := hf
    cases hm : findM ms s.data.toList with
    | none =>
      have HV : Hid (A.rename s.data.toList s2 = (7, A.tick)) := by show _ = _; simp [DA.rename, hf, hff, hm]
      have HM : Hid (findM ms s.data.toList = none) := hm
      clear hf hff hm
      go_enter Tryz.func124, Tryz.ntmps124
      go_wp2_with (go_at_call 77; refine (operate_ok H.out HF.out _ hs _ HM.out).mono ?_; rintro e w1 ⟨rfl, hp, ht⟩; simp only [opRes]; unfold errV)
      go_ret
      exact ⟨by rw [HV.out]; rfl, by rw [HV.out]; exact Did.tick hp hdF ht⟩
    | some m =>
      have HM : Hid (findM ms s.data.toList = some m) := hm
      cases hb : nameB s2
      case false =>
        have HV : Hid (A.rename s.data.toList s2 = (5, A.tick)) := by show _ = _; simp [DA.rename, hf, hff, hm, hb]
        clear hf hff hm
        go_enter Tryz.func124, Tryz.ntmps124
        go_wp2_with fail
        refine (operate_ok H.out HF.out _ hs _ HM.out).mono ?_
        rintro e w1 ⟨rfl, hp, ht⟩
        simp only [opRes]
        go_wp2_with (go_at_call 159; refine (name_loop _ _ hs2).mono ?_; rintro e w' ⟨rfl, rfl⟩)
        go_ret
        exact ⟨by rw [HV.out]; rfl, by rw [HV.out]; exact Did.tick hp hdF ht⟩
      case true =>
        have HV : Hid (A.rename s.data.toList s2 = (0, { A.tick with files := outF (outF A.files s.data.toList) s2.data.toList ++ [{ m.abs with name := s2.data.toList }] })) := by show _ = _; simp [DA.rename, hf, hff, hm, hb]
        have HN : Hid ((ms.map (·.abs.name)).Nodup) := H.out.names
        clear hf hff
        cases mref with
        | none =>
          have hms : ms = [] := H.out.map
          subst hms
          simp [findM] at hm
        | some mb =>
          clear hm
          go_enter Tryz.func124, Tryz.ntmps124
          go_wp2_with fail
          refine (operate_ok H.out HF.out _ hs _ HM.out).mono ?_
          rintro e w1 ⟨rfl, hp, ht⟩
          simp only [opRes]
          have c1 := hp.c1
          have HP : Hid (Parts w1 base d F A.tick (some mb) ms) := hp
          have hnd := hp.nodup
          rw [hp.foot] at hnd
          have hdm : d ∉ [mb] := by
            simp only [Option.toList_some, List.cons_append, List.nil_append, List.nodup_cons, List.mem_cons, not_or] at hnd
            simp only [List.mem_singleton]; exact hnd.1.1
          have HD : Hid (d ∉ [mb]) := hdm
          clear hp hnd hdm
          obtain ⟨D, hown, hrd⟩ := HP.out.map
          have HR : Hid (Reads D ms) := hrd
          have hsm := HP.out.good.count
          rw [HP.out.files, List.length_map] at hsm
          clear hrd
          go_wp2_with (first | (go_at_call 159; refine (name_loop _ _ hs2).mono ?_; rintro e w' ⟨rfl, rfl⟩) | (at_delete; refine wpList_delete_own _ rfl _ _ 57 9 rfl 112 law Tryz.underlying57 ptrR mb ms.length D rfl hown _ _ rfl (keyS hs) ?_; intro w2 hown2 hgr2; have c12 := cell_of ((Turn.grown (Turn.refl [mb] _) hgr2.grown (by intro k hk; cases hk; simp)).heap HP.out.self HD.out) 1; simp only [List.getElem?_toArray, List.getElem?_cons_succ, List.getElem?_cons_zero] at c12))
          obtain ⟨w3, hrun, ho3, hgr3⟩ := hown2.store law Tryz.underlying57 (by simp only [maxLen]; omega) (keyS hs2) (val := .pointer (some ⟨m.blk, 0, .none⟩)) (d := .lit (.int .i64 (m.blk : Int))) (ps := []) rfl
          rw [hrun]
          simp only [Result.andThen]
          rw [Oper.upon_skip]
          go_wp2
          go_ret
          have ht2 := (Turn.refl [mb] _).grown hgr2.grown (by intro k hk; cases hk; simp)
          have ht3 := (Turn.refl [mb] w2).grown hgr3.grown (by intro k hk; cases hk; simp)
          have ht23 := ht2.same ht3
          have hrd2 := HR.out.del HN.out (hown.tidy law) s.data.toList
          obtain ⟨pre, post, rfl, hnm⟩ := split_at HM.out
          have hds : dropM (pre ++ m :: post) s.data.toList = pre ++ post := by rw [← hnm]; exact drop_split pre post m HN.out
          rw [hds] at hrd2
          have hnpp : ((pre ++ post).map (·.abs.name)).Nodup := by
            refine (List.Sublist.map _ ?_).nodup HN.out
            exact List.Sublist.append (List.Sublist.refl _) (List.sublist_cons_self _ _)
          have hrd3 := hrd2.put hnpp (hown2.tidy law) ⟨{ m.abs with name := s2.data.toList }, m.blk, m.sl⟩
          obtain ⟨Z, hZ⟩ : ∃ Z, Z = dropM (pre ++ post) s2.data.toList := ⟨_, rfl⟩
          simp only at hrd3
          rw [← hZ] at hrd3
          have hZs : Z.Sublist (pre ++ post) := by rw [hZ]; exact List.filter_sublist
          have hmap3 : MapAt w3 (some mb) (Z ++ [⟨{ m.abs with name := s2.data.toList }, m.blk, m.sl⟩]) := ⟨_, by have := ownsMap_tight ho3; rw [hrd3.1] at this; exact this, hrd3⟩
          have hfl : A.tick.files = (pre ++ m :: post).map (·.abs) := HP.out.files
          have hflat : (Z ++ [(⟨{ m.abs with name := s2.data.toList }, m.blk, m.sl⟩ : FileM)]).flatMap FileM.foot = Z.flatMap FileM.foot ++ m.foot := by
            rw [List.flatMap_append]; simp [FileM.foot]
          have hnd0 : ((Z ++ [(⟨{ m.abs with name := s2.data.toList }, m.blk, m.sl⟩ : FileM)]).flatMap FileM.foot).Nodup := by
            rw [hflat]
            have := HP.out.nodup
            rw [HP.out.foot, List.nodup_cons, List.nodup_append] at this
            have h1 := this.2.2.1
            rw [List.flatMap_append, List.flatMap_cons] at h1
            refine nodup_move h1 ?_
            rw [← List.flatMap_append]
            exact sub_flat hZs
          have hout : outF (outF A.files s.data.toList) s2.data.toList = Z.map (·.abs) := by
            rw [hZ, out_drop, ← hds, out_drop, ← hfl, tick_files]
          have hA' : (outF (outF A.files s.data.toList) s2.data.toList ++ [{ m.abs with name := s2.data.toList }]) = (Z ++ [(⟨{ m.abs with name := s2.data.toList }, m.blk, m.sl⟩ : FileM)]).map (·.abs) := by rw [hout]; simp
          have hZall : ∀ x ∈ Z, x ∈ pre ++ m :: post := fun x hx => by
            have := hZs.subset hx
            simp only [List.mem_append, List.mem_cons] at this ⊢
            rcases this with h | h
            · exact .inl h
            · exact .inr (.inr h)
          have hg := HP.out.good
          have hsz : s2.size ≤ 40 := by
            simp only [nameB, Bool.and_eq_true, decide_eq_true_eq] at hb
            exact hb.2.2
          have hgood : Good { A.tick with files := outF (outF A.files s.data.toList) s2.data.toList ++ [{ m.abs with name := s2.data.toList }] } := by
            refine { room := hg.room, used := ?_, count := ?_, names := ?_, short := ?_, safe := ?_, left := hg.left }
            · have h1 := hg.used
              rw [hfl, List.map_append, List.map_cons, usedL_split] at h1
              have h2 := used_sub (List.Sublist.map (fun x : FileM => x.abs) hZs)
              rw [List.map_append] at h2
              rw [hout, usedL_split]
              have h3 : usedL (pre.map (fun x : FileM => x.abs) ++ post.map (fun x : FileM => x.abs)) = usedL (pre.map (fun x : FileM => x.abs)) + usedL (post.map (fun x : FileM => x.abs)) := by simp [usedL, List.sum_append]
              have h4 : usedL ([] : List FA) = 0 := rfl
              show usedL (Z.map (fun x : FileM => x.abs)) + m.abs.bytes.length + usedL [] ≤ A.tick.room
              omega
            · have h1 := hg.count
              rw [hfl] at h1
              have h2 := hZs.length_le
              rw [hout]
              simp only [List.length_append, List.length_map, List.length_cons, List.length_nil] at h1 h2 ⊢
              omega
            · rw [hout, List.map_append, List.map_cons, List.map_nil, List.nodup_append]
              refine ⟨?_, by simp, ?_⟩
              · rw [List.map_map]
                exact (List.Sublist.map _ hZs).nodup hnpp
              · intro a ha b hb e
                simp only [List.mem_singleton] at hb
                rw [hb] at e
                rw [List.map_map] at ha
                obtain ⟨x, hx, e2⟩ := List.mem_map.1 ha
                rw [hZ] at hx
                have := (List.mem_filter.1 hx).2
                simp only [Function.comp_def] at e2
                rw [e2, e] at this
                simp at this
            · intro f hf
              rw [hA'] at hf
              obtain ⟨x, hx, rfl⟩ := List.mem_map.1 hf
              rcases List.mem_append.1 hx with hx | hx
              · exact hg.short _ (by rw [hfl]; exact List.mem_map.2 ⟨x, hZall x hx, rfl⟩)
              · simp only [List.mem_singleton] at hx
                subst hx
                simpa using hsz
            · intro f hf
              rw [hA'] at hf
              obtain ⟨x, hx, rfl⟩ := List.mem_map.1 hf
              rcases List.mem_append.1 hx with hx | hx
              · exact hg.safe _ (by rw [hfl]; exact List.mem_map.2 ⟨x, hZall x hx, rfl⟩)
              · simp only [List.mem_singleton] at hx
                subst hx
                exact hg.safe m.abs (by rw [hfl]; simp)
          have hP := HP.out.setMap (ms' := Z ++ [⟨{ m.abs with name := s2.data.toList }, m.blk, m.sl⟩]) (A' := { A.tick with files := outF (outF A.files s.data.toList) s2.data.toList ++ [{ m.abs with name := s2.data.toList }] }) ht23 hmap3
            (fun x hx => by
              rcases List.mem_append.1 hx with hx | hx
              · exact ⟨x, hZall x hx, rfl, rfl, rfl, rfl⟩
              · simp only [List.mem_singleton] at hx
                subst hx
                exact ⟨m, by simp, rfl, rfl, rfl, rfl⟩) hnd0 rfl rfl rfl hA' hgood
          refine ⟨by rw [HV.out]; rfl, ?_⟩
          rw [HV.out]
          exact ⟨_, ⟨_, _, hP.1⟩, (ht.mono (by simpa using .inl hdF)).trans ht23 (by simpa using .inl (HP.out.mem_map rfl)), fun k hk => .inl (hP.2 k hk)⟩
end

end Go.Proofs.YthbhfhagbaommaaGreatDoor.Dk

/- (*segment.Segment).Sync, Remove: the disk's, of its file. -/
namespace Go.Proofs.YthbhfhagbaommaaGreatDoor.Sg
open Go.RowKit Go.Maps
set_option maxRecDepth 100000
set_option linter.unusedSimpArgs false
set_option linter.unusedVariables false
attribute [local go_sem] Oper.semAt_some
open Dk (DA DiskAt Parts Did errR errV)

theorem did_before {w w1 w' : World} {base d : Nat} {F : List Nat} {A' : DA} (ht : Turn [] w w1) (h : Did w1 w' base d F A') : Did w w' base d F A' := by
  obtain ⟨F', hd, ht2, hf⟩ := h
  exact ⟨F', hd, (ht.mono (T := F) (by simp)).same ht2, fun k hk => (hf k hk).imp_right (Nat.le_trans ht.size)⟩
theorem Both.did {w w' : World} {base d sb : Nat} {F : List Nat} {A A' : DA} {sv : Value} {file : ByteArray} {b0 : Int} {ps : List Pl} (h : Both w base d F A sb sv file b0 ps) (hd : Did w w' base d F A') : Came w w' base d F A' sb sv file b0 ps := by
  obtain ⟨F', hd, ht, hf⟩ := hd
  exact ⟨F', sv, ⟨hd, h.seg.kept ht h.sep, fun k hk hm => (hf k hm).elim (h.sep k hk) (fun h' => by have := (h.seg.lt k hk).2; omega)⟩, ht.mono (fun k hk => .inl (List.mem_append_left _ hk)), hf, fun _ hk => .inl hk⟩
set_option maxHeartbeats 1000000 in
theorem sync_any (w : World) (base d : Nat) (F : List Nat) (A : DA) (sb : Nat) (sv : Value) (file : ByteArray) (b0 : Int) (ps : List Pl) (h : Both w base d F A sb sv file b0 ps) (hfs : file.size ≤ maxLen) :
    Calls Tryz.prog 48 #[.pointer (some ⟨sb, 0, none⟩)] w fun e w' => e = .returned (errR (A.sync file.data.toList).1) ∧ Did w w' base d F (A.sync file.data.toList).2 := by
  have HB := hide h
  have hsb := lt_of_heap h.seg.box
  clear h
  go_enter Tryz.func48, Tryz.ntmps48
  go_wp2
  refine wp_region_tail 8 (Turn []) (by kernel_rfl) (by kernel_rfl) (by kernel_rfl) (by kernel_rfl) (by kernel_rfl) (Nat.le_of_ble_eq_true rfl) rfl (Turn.refl _) (fun _ _ _ h k => h.same k) ?_
  apply Lo.runx 1 rfl rfl [] (by kernel_rfl) (Turn.refl _)
  apply Exists.intro; apply And.intro
  · intro u w1 hR hF
    clear hF
    refine ⟨rfl, fun a ha K hK => ?_⟩
    have e0 := ha 0
    conv at e0 => rhs; whnf
    clear ha
    go_simp
    refine hK _ ?_; rfl
  apply Lo.runx 2 rfl rfl [0] (by kernel_rfl) (Turn.refl _)
  apply Exists.intro; apply And.intro
  · intro u w1 hR hF
    obtain ⟨h0, -⟩ := hF
    refine ⟨rfl, fun a ha K hK => ?_⟩
    have e3 := (ha 3).trans h0
    clear ha h0
    go_simp
    refine hK _ ?_; rfl
  apply Lo.runx 3 rfl rfl [1] (by kernel_rfl) (Turn.refl _)
  apply Exists.intro; apply And.intro
  · intro u w1 hR hF
    obtain ⟨h1, -⟩ := hF
    refine ⟨rfl, fun a ha K hK => ?_⟩
    have e4 := (ha 4).trans h1
    clear ha h1
    go_simp
    refine hK _ ?_; rfl
  apply Lo.runx 4 rfl rfl [2] (by kernel_rfl) (Turn.refl _)
  apply Exists.intro; apply And.intro
  · intro u w1 hR hF
    obtain ⟨h2, -⟩ := hF
    refine ⟨rfl, fun a ha K hK => ?_⟩
    have e5 := (ha 5).trans h2
    clear ha h2
    have hS := HB.out.seg.still (((Turn.refl [] _).drew).same hR)
    have c0 := hS.c0
    have z1 := lt_of_heap hS.box
    go_simp
    refine hK _ ?_; rfl
  apply Lo.runx 5 rfl rfl [] (by kernel_rfl) (Turn.refl _)
  apply Exists.intro; apply And.intro
  · intro u w1 hR hF
    clear hF
    refine ⟨rfl, fun a ha K hK => ?_⟩
    have e0 := ha 0
    conv at e0 => rhs; whnf
    clear ha
    go_simp
    refine hK _ ?_; rfl
  apply Lo.runx 6 rfl rfl [4] (by kernel_rfl) (Turn.refl _)
  apply Exists.intro; apply And.intro
  · intro u w1 hR hF
    obtain ⟨h4, -⟩ := hF
    refine ⟨rfl, fun a ha K hK => ?_⟩
    have e7 := (ha 7).trans h4
    clear ha h4
    go_simp
    refine hK _ ?_; rfl
  apply Lo.runx 7 rfl rfl [5] (by kernel_rfl) (Turn.refl _)
  apply Exists.intro; apply And.intro
  · intro u w1 hR hF
    obtain ⟨h5, -⟩ := hF
    refine ⟨rfl, fun a ha K hK => ?_⟩
    have e8 := (ha 8).trans h5
    clear ha h5
    go_simp
    refine hK _ ?_; rfl
  apply Lo.runx 8 rfl rfl [6] (by kernel_rfl) (Turn.refl _)
  apply Exists.intro; apply And.intro
  · intro u w1 hR hF
    obtain ⟨h6, -⟩ := hF
    refine ⟨rfl, fun a ha K hK => ?_⟩
    have e9 := (ha 9).trans h6
    clear ha h6
    have hS := HB.out.seg.still (((Turn.refl [] _).drew).same hR)
    have c1 := hS.c1
    have z1 := lt_of_heap hS.box
    go_simp
    refine hK _ ?_; rfl
  refine Lo.done [3, 7] (fun u w1 hRd hSd hF => ?_)
  clear hSd
  obtain ⟨f3, f7, -⟩ := hF
  have d3 : u 3 = _ := f3
  have d7 : u 7 = _ := f7
  clear f3 f7
  simp only [List.take_succ_cons, List.take_zero, List.drop_succ_cons, List.drop_zero, putFrom, Act.put, List.setIfInBounds_toArray, List.set_cons_succ, List.set_cons_zero, Nat.zero_add, Nat.reduceAdd, d3, d7]
  have HT := hide (((Turn.refl [] w).drew).same hRd)
  clear d3 d7 hRd
  go_wp2_with fail
  obtain ⟨mref, ms, hp⟩ := HB.out.disk.kept HT.out (by simp)
  refine (Dk.sync_any hp file hfs).mono ?_
  rintro e w2 ⟨rfl, hd⟩
  obtain ⟨r, hr⟩ : ∃ r, r = errR (A.sync file.data.toList).1 := ⟨_, rfl⟩
  rw [← hr]
  have HR := hide hr
  have HD := hide hd
  clear hr hd hp
  go_wp2
  go_ret
  rw [HR.out]
  exact ⟨rfl, did_before HT.out HD.out⟩
set_option maxHeartbeats 1000000 in
theorem remove_any (w : World) (base d : Nat) (F : List Nat) (A : DA) (sb : Nat) (sv : Value) (file : ByteArray) (b0 : Int) (ps : List Pl) (h : Both w base d F A sb sv file b0 ps) (hfs : file.size ≤ maxLen) :
    Calls Tryz.prog 91 #[.pointer (some ⟨sb, 0, none⟩)] w fun e w' => e = .returned (errR (A.remove file.data.toList).1) ∧ Did w w' base d F (A.remove file.data.toList).2 := by
  have HB := hide h
  have hsb := lt_of_heap h.seg.box
  clear h
  go_enter Tryz.func91, Tryz.ntmps91
  go_wp2
  refine wp_region_tail 8 (Turn []) (by kernel_rfl) (by kernel_rfl) (by kernel_rfl) (by kernel_rfl) (by kernel_rfl) (Nat.le_of_ble_eq_true rfl) rfl (Turn.refl _) (fun _ _ _ h k => h.same k) ?_
  apply Lo.runx 1 rfl rfl [] (by kernel_rfl) (Turn.refl _)
  apply Exists.intro; apply And.intro
  · intro u w1 hR hF
    clear hF
    refine ⟨rfl, fun a ha K hK => ?_⟩
    have e0 := ha 0
    conv at e0 => rhs; whnf
    clear ha
    go_simp
    refine hK _ ?_; rfl
  apply Lo.runx 2 rfl rfl [0] (by kernel_rfl) (Turn.refl _)
  apply Exists.intro; apply And.intro
  · intro u w1 hR hF
    obtain ⟨h0, -⟩ := hF
    refine ⟨rfl, fun a ha K hK => ?_⟩
    have e3 := (ha 3).trans h0
    clear ha h0
    go_simp
    refine hK _ ?_; rfl
  apply Lo.runx 3 rfl rfl [1] (by kernel_rfl) (Turn.refl _)
  apply Exists.intro; apply And.intro
  · intro u w1 hR hF
    obtain ⟨h1, -⟩ := hF
    refine ⟨rfl, fun a ha K hK => ?_⟩
    have e4 := (ha 4).trans h1
    clear ha h1
    go_simp
    refine hK _ ?_; rfl
  apply Lo.runx 4 rfl rfl [2] (by kernel_rfl) (Turn.refl _)
  apply Exists.intro; apply And.intro
  · intro u w1 hR hF
    obtain ⟨h2, -⟩ := hF
    refine ⟨rfl, fun a ha K hK => ?_⟩
    have e5 := (ha 5).trans h2
    clear ha h2
    have hS := HB.out.seg.still (((Turn.refl [] _).drew).same hR)
    have c0 := hS.c0
    have z1 := lt_of_heap hS.box
    go_simp
    refine hK _ ?_; rfl
  apply Lo.runx 5 rfl rfl [] (by kernel_rfl) (Turn.refl _)
  apply Exists.intro; apply And.intro
  · intro u w1 hR hF
    clear hF
    refine ⟨rfl, fun a ha K hK => ?_⟩
    have e0 := ha 0
    conv at e0 => rhs; whnf
    clear ha
    go_simp
    refine hK _ ?_; rfl
  apply Lo.runx 6 rfl rfl [4] (by kernel_rfl) (Turn.refl _)
  apply Exists.intro; apply And.intro
  · intro u w1 hR hF
    obtain ⟨h4, -⟩ := hF
    refine ⟨rfl, fun a ha K hK => ?_⟩
    have e7 := (ha 7).trans h4
    clear ha h4
    go_simp
    refine hK _ ?_; rfl
  apply Lo.runx 7 rfl rfl [5] (by kernel_rfl) (Turn.refl _)
  apply Exists.intro; apply And.intro
  · intro u w1 hR hF
    obtain ⟨h5, -⟩ := hF
    refine ⟨rfl, fun a ha K hK => ?_⟩
    have e8 := (ha 8).trans h5
    clear ha h5
    go_simp
    refine hK _ ?_; rfl
  apply Lo.runx 8 rfl rfl [6] (by kernel_rfl) (Turn.refl _)
  apply Exists.intro; apply And.intro
  · intro u w1 hR hF
    obtain ⟨h6, -⟩ := hF
    refine ⟨rfl, fun a ha K hK => ?_⟩
    have e9 := (ha 9).trans h6
    clear ha h6
    have hS := HB.out.seg.still (((Turn.refl [] _).drew).same hR)
    have c1 := hS.c1
    have z1 := lt_of_heap hS.box
    go_simp
    refine hK _ ?_; rfl
  refine Lo.done [3, 7] (fun u w1 hRd hSd hF => ?_)
  clear hSd
  obtain ⟨f3, f7, -⟩ := hF
  have d3 : u 3 = _ := f3
  have d7 : u 7 = _ := f7
  clear f3 f7
  simp only [List.take_succ_cons, List.take_zero, List.drop_succ_cons, List.drop_zero, putFrom, Act.put, List.setIfInBounds_toArray, List.set_cons_succ, List.set_cons_zero, Nat.zero_add, Nat.reduceAdd, d3, d7]
  have HT := hide (((Turn.refl [] w).drew).same hRd)
  clear d3 d7 hRd
  go_wp2_with fail
  obtain ⟨mref, ms, hp⟩ := HB.out.disk.kept HT.out (by simp)
  refine (Dk.remove_any hp file hfs).mono ?_
  rintro e w2 ⟨rfl, hd⟩
  obtain ⟨r, hr⟩ : ∃ r, r = errR (A.remove file.data.toList).1 := ⟨_, rfl⟩
  rw [← hr]
  have HR := hide hr
  have HD := hide hd
  clear hr hd hp
  go_wp2
  go_ret
  rw [HR.out]
  exact ⟨rfl, did_before HT.out HD.out⟩
end Go.Proofs.YthbhfhagbaommaaGreatDoor.Sg

/- Append onto a row of structs: in place or in a new block, told apart ahead. No program. -/
namespace Go.Proofs.YthbhfhagbaommaaGreatDoor
open Go.RowKit
set_option linter.unusedSimpArgs false
set_option linter.unusedVariables false

def incV : Value → Value
  | .slice a n c => .slice a (n + 1) c
  | v => v
def slackB : Value → Bool
  | .slice _ n c => decide (n < c)
  | _ => false
theorem incV_own {v : Value} {k : Nat} (h : k ∈ (incV v).ownBlock) : k ∈ v.ownBlock := by
  unfold incV at h
  split at h
  · rename_i a n c
    cases a <;> exact h
  · exact h
section
variable {α : Type} {T : TypeId} {n : Nat} {enc : α → List Value}
/-- What an append has left, whatever has turned since but the row itself (L: how great the heap was). -/
def Apd (T : TypeId) (n : Nat) (enc : α → List Value) (base L : Nat) (v : Value) (ys : List α) (x : Value) (w : World) : Prop :=
  (slackB v = true ∧ x = incV v) ∨ (slackB v = false ∧ GRow T n enc w base x ys ∧ ∀ j ∈ x.ownBlock, L ≤ j)
/-- And the row itself. -/
def Apr (T : TypeId) (n : Nat) (enc : α → List Value) (base : Nat) (v : Value) (ys : List α) (w : World) : Prop := slackB v = true → GRow T n enc w base (incV v) ys
theorem Apd.kept {S : List Nat} {w w' : World} {base L : Nat} {v x : Value} {ys : List α} (h : Apd T n enc base L v ys x w) (ht : Turn S w w') (hS : ∀ k ∈ S, k < L) : Apd T n enc base L v ys x w' := by
  rcases h with h | ⟨h0, h1, h2⟩
  · exact .inl h
  · exact .inr ⟨h0, h1.kept ht (fun k hk hm => by have := h2 k hk; have := hS k hm; omega), h2⟩
theorem Apr.kept {S : List Nat} {w w' : World} {base : Nat} {v : Value} {ys : List α} (h : Apr T n enc base v ys w) (ht : Turn S w w') (hS : ∀ k ∈ v.ownBlock, k ∉ S) : Apr T n enc base v ys w' :=
  fun hs => (h hs).kept ht (fun k hk => hS k (incV_own hk))
theorem Apd.row {w : World} {base L : Nat} {v x : Value} {ys : List α} (h : Apd T n enc base L v ys x w) (hr : Apr T n enc base v ys w) : GRow T n enc w base x ys ∧ ∀ j ∈ x.ownBlock, j ∈ v.ownBlock ∨ L ≤ j := by
  rcases h with ⟨h0, rfl⟩ | ⟨h0, h1, h2⟩
  · exact ⟨hr h0, fun j hj => .inl (incV_own hj)⟩
  · exact ⟨h1, fun j hj => .inr (h2 j hj)⟩
theorem Apd.mk {w : World} {base L : Nat} {v x : Value} {ys : List α} (h : GRow T n enc w base x ys) {k : Nat} (hk : L ≤ k) (h2 : (slackB v = true ∧ x = incV v) ∨ (slackB v = false ∧ ∀ j ∈ x.ownBlock, k ≤ j)) : Apd T n enc base L v ys x w ∧ Apr T n enc base v ys w := by
  rcases h2 with ⟨h0, rfl⟩ | ⟨h0, h2⟩
  · exact ⟨.inl ⟨h0, rfl⟩, fun _ => h⟩
  · exact ⟨.inr ⟨h0, h, fun j hj => Nat.le_trans hk (h2 j hj)⟩, fun hs => by rw [h0] at hs; cases hs⟩

/-- Rows of different types lie apart. -/
theorem GRow.apart {β : Type} {T' : TypeId} {m : Nat} {enc' : β → List Value} {w : World} {base base' : Nat} {v v' : Value} {xs : List α} {ys : List β} (h : GRow T n enc w base v xs) (h' : GRow T' m enc' w base' v' ys) (hne : T ≠ T') : ∀ k ∈ v.ownBlock, k ∉ v'.ownBlock := by
  rcases h with ⟨rfl, -⟩ | ⟨g, cap, cur, rfl, -, hg, -⟩
  · simp [Value.ownBlock]
  · rcases h' with ⟨rfl, -⟩ | ⟨g', cap', cur', rfl, -, hg', -⟩
    · simp [Value.ownBlock]
    · intro k hk hk'
      simp [Value.ownBlock] at hk hk'
      subst hk
      subst hk'
      rw [hg] at hg'
      simp at hg'
      exact hne hg'.2

/-- APPEND of one struct: in place where there is slack, else in a new block. -/
theorem run_append_g2 {P : Program} (t ty : TypeId) (ht : P.underlying t = some (.slice T)) (i : TypeInfo) (z : Value) (hi : P.info? T = some i) (hz : i.zero = some z) (hzs : z.cells.size = n) (hsize : i.size = n) (hby : i.bytes ≤ 1000) (hn : ∀ x, (enc x).length = n) (hone : ∀ x, ∀ u ∈ enc x, u.oneCell' = true)
    (w : World) (base : Nat) (v : Value) (xs : List α) (x : α) (k : Nat) (hrow : GRow T n enc w base v xs) (hk : w.heap[k]? = some (.cells (enc x).toArray T (0, 0))) (hlen : xs.length ≤ 1000000) (hbase : base ≤ w.heap.size) :
    ∃ v' w', (Builtin.append_ #[t, t] ty #[v, .slice (some ⟨k, 0, none⟩) 1 1]).run P w = .ok v' w' ∧ GRow T n enc w' base v' (xs ++ [x]) ∧ Turn v.ownBlock.toList w w' ∧ ((slackB v = true ∧ v' = incV v) ∨ (slackB v = false ∧ ∀ j ∈ v'.ownBlock, w.heap.size ≤ j)) := by
  have hmax : maxLen = 9223372036854775807 := by simp [maxLen]
  have hl : (enc x).length = 1 * i.size := by rw [hsize, hn]; omega
  have hnews : ∀ j u, (enc x)[j]? = some u → w.cell? ((⟨k, 0, none⟩ : Addr).add j) = some u := fun j u hu => by
    rw [addr_add, cell_of hk]; simpa using hu
  rcases hrow with ⟨rfl, rfl⟩ | ⟨g, cap, cur, rfl, hb, hg, h1, h2, h3, h4⟩
  · have hr := run_append_nil (P := P) w t ty T i z ht hi hz ⟨k, 0, none⟩ 1 1 (enc x) hl hnews (by omega) (by omega) (by omega)
    have hge := grownCap_ge w 1 0 T
    have hcm := grownCap_le_maxLen w 1 0 T (by rw [hmax]; omega)
    refine ⟨_, _, hr, .inr ⟨w.heap.size, _, _, by simp, hbase, heap_new w.drew _, by simpa using hge, ?_, hcm, ?_⟩, ((Turn.refl _ _).drew).alloc _, .inr ⟨rfl, by simp [Value.ownBlock]⟩⟩
    · simp only [Array.size_append, List.size_toArray, size_zeroCells, hzs, hn]
      have : grownCap w 1 0 T * n = 1 * n + (grownCap w 1 0 T - 1) * n := by rw [← Nat.add_mul]; congr 1; omega
      omega
    · simp only [Array.toList_append, List.nil_append, List.length_singleton]
      rw [List.take_append_of_le_length (by simp [hn]), List.take_of_length_le (by simp [hn])]
      simp
  · have hfl : (xs.flatMap enc ++ enc x).length = (xs.length + 1) * n := by rw [List.length_append, gflat_len hn, hn, Nat.add_mul]; omega
    by_cases hroom : xs.length + 1 ≤ cap
    · have hfit : (xs.length + 1) * n ≤ cur.size := Nat.le_trans (Nat.mul_le_mul_right _ hroom) h2
      have hr := run_append_room (P := P) w t ty T i ht hi g xs.length cap cur hg ⟨k, 0, none⟩ 1 1 (enc x) hl hnews (hone x) hroom (by rw [hsize, hn]; rw [Nat.add_mul] at hfit; omega)
      rw [hsize] at hr
      refine ⟨_, _, hr, .inr ⟨g, cap, _, by simp, hb, setRow_heap w g cur _ T _ hg, by simpa using hroom, ?_, h3, ?_⟩, ⟨rfl, rfl, rfl, by simp, fun k _ hk => setRow_other w g k _ (fun e => hk (by simp [Value.ownBlock, e]))⟩, .inl ⟨decide_eq_true (by omega), rfl⟩⟩
      · simp [hn]
        rw [Nat.add_mul] at hfit
        have hcs : xs.length * n ≤ cur.size := by omega
        rw [Nat.min_eq_left hcs]
        omega
      · simp only [h4, List.append_assoc]
        rw [← List.append_assoc, List.take_append_of_le_length (by rw [hfl]; simp), List.take_of_length_le (by rw [hfl]; simp)]
        simp
    · have holds : ∀ j u, (xs.flatMap enc)[j]? = some u → w.cell? ((⟨g, 0, none⟩ : Addr).add j) = some u := by
        intro j u hu
        rw [addr_add, cell_of hg]
        have hj : j < xs.length * n := by have := (List.getElem?_eq_some_iff.1 hu).1; rwa [gflat_len hn] at this
        rw [← h4, List.getElem?_take_of_lt hj] at hu
        simpa using hu
      have hr := run_append_grow (P := P) w t ty T i z ht hi hz ⟨g, 0, none⟩ xs.length cap (xs.flatMap enc) (by rw [gflat_len hn, hsize]) holds ⟨k, 0, none⟩ 1 1 (enc x) hl hnews (by omega) (by omega) (growslice_fits (by omega) (by have : (xs.length + 1) * i.bytes ≤ 1000001 * 1000 := Nat.mul_le_mul (by omega) hby; omega))
      have hge := grownCap_ge w (xs.length + 1) cap T
      have hcm := grownCap_le_maxLen w (xs.length + 1) cap T (by rw [hmax]; omega)
      refine ⟨_, _, hr, .inr ⟨w.heap.size, _, _, by simp, hbase, heap_new w.drew _, by simpa using hge, ?_, hcm, ?_⟩, ((Turn.refl _ _).drew).alloc _, .inr ⟨decide_eq_false (by omega), by simp [Value.ownBlock]⟩⟩
      · simp only [Array.size_append, List.size_toArray, size_zeroCells, hzs, hn, gflat_len hn]
        have : grownCap w (xs.length + 1) cap T * n = (xs.length + 1) * n + (grownCap w (xs.length + 1) cap T - (xs.length + 1)) * n := by rw [← Nat.add_mul]; congr 1; omega
        rw [Nat.add_mul] at this
        omega
      · simp only [Array.toList_append]
        rw [List.take_append_of_le_length (by show (xs ++ [x]).length * n ≤ (xs.flatMap enc ++ enc x).length; rw [hfl]; simp), List.take_of_length_le (by show (xs.flatMap enc ++ enc x).length ≤ (xs ++ [x]).length * n; rw [hfl]; simp)]
        simp
end
end Go.Proofs.YthbhfhagbaommaaGreatDoor

/- A partition's log in memory: its box, its row of segments, each segment, the disk. -/
namespace Go.Proofs.YthbhfhagbaommaaGreatDoor.Lg
open Go.RowKit Go.Maps
set_option maxRecDepth 100000
set_option linter.unusedSimpArgs false
set_option linter.unusedVariables false
attribute [local go_sem] Oper.semAt_some
open Dk (DA DiskAt Parts Did errR errV)
open Sg (SegAt sfoot pls Both Came)

theorem ne_of_type {w : World} {i j : Nat} {c1 c2 : Array Value} {T1 T2 : TypeId} {f1 f2 : Nat × Nat} (h1 : w.heap[i]? = some (.cells c1 T1 f1)) (h2 : w.heap[j]? = some (.cells c2 T2 f2)) (hT : T1 ≠ T2) : i ≠ j := by
  rintro rfl
  rw [h1] at h2
  simp at h2
  exact hT h2.2.1
theorem _root_.Go.Proofs.YthbhfhagbaommaaGreatDoor.GRow.kind {α : Type} {T : TypeId} {n : Nat} {enc : α → List Value} {w : World} {base : Nat} {sv : Value} {xs : List α} (h : GRow T n enc w base sv xs) : ∀ k ∈ sv.ownBlock, ∃ cs, w.heap[k]? = some (.cells cs T (0, 0)) := by
  intro k hk
  rcases h with ⟨rfl, -⟩ | ⟨g, cap, cur, rfl, -, hg, -⟩
  · simp [Value.ownBlock] at hk
  · simp [Value.ownBlock] at hk; subst hk; exact ⟨_, hg⟩
theorem _root_.Go.Proofs.YthbhfhagbaommaaGreatDoor.GRow.congr {α : Type} {T : TypeId} {n : Nat} {enc : α → List Value} {w : World} {base : Nat} {sv : Value} {xs ys : List α} (h : GRow T n enc w base sv xs) (hl : xs.length = ys.length) (he : xs.flatMap enc = ys.flatMap enc) : GRow T n enc w base sv ys := by
  rcases h with ⟨h1, rfl⟩ | ⟨g, cap, cur, e, hb, hg, r⟩
  · exact .inl ⟨h1, List.eq_nil_of_length_eq_zero hl.symm⟩
  · rw [hl, he] at r
    rw [hl] at e
    exact .inr ⟨g, cap, cur, e, hb, hg, r⟩
theorem seg_kind {w : World} {base d sb : Nat} {sv : Value} {file : ByteArray} {b0 : Int} {ps : List Sg.Pl} (h : SegAt w base d sb sv file b0 ps) : ∀ k ∈ sfoot sb sv, ∃ cs T, w.heap[k]? = some (.cells cs T (0, 0)) ∧ (T = 96 ∨ T = 120) := by
  intro k hk
  simp only [sfoot, List.mem_cons, Option.mem_toList] at hk
  rcases hk with rfl | hk
  · exact ⟨_, _, h.box, .inl rfl⟩
  · obtain ⟨cs, e⟩ := h.row.kind k hk
    exact ⟨_, _, e, .inr rfl⟩
theorem disk_kind {w : World} {base d : Nat} {F : List Nat} {A : DA} (h : DiskAt w base d F A) {k : Nat} (hk : k ∈ F) {cs : Array Value} {T : TypeId} {fr : Nat × Nat} (hc : w.heap[k]? = some (.cells cs T fr)) : T = 59 ∨ T = 114 ∨ T = 5 := by
  obtain ⟨mref, ms, hp⟩ := h
  rw [hp.foot] at hk
  simp only [List.mem_cons, List.mem_append, List.mem_flatMap, Option.mem_toList] at hk
  rcases hk with rfl | hk | ⟨m, hm, hk⟩
  · rw [hp.self] at hc; simp at hc; exact .inl hc.2.1.symm
  · have hmap := hp.map
    cases mref with
    | none => simp at hk
    | some mb =>
      simp at hk
      subst hk
      obtain ⟨D, ⟨es, clock, hb, -⟩, -⟩ := hmap
      rw [hb] at hc
      simp at hc
  · have hf := hp.each m hm
    simp only [Dk.FileM.foot, List.mem_cons, Option.mem_toList] at hk
    rcases hk with rfl | hk
    · rw [hf.1] at hc; simp at hc; exact .inr (.inl hc.2.1.symm)
    · rcases hf.2 with ⟨e, -⟩ | ⟨g, cap, cur, e, -, hg, -⟩
      · rw [e] at hk; simp [Value.ownBlock] at hk
      · rw [e] at hk
        simp [Value.ownBlock] at hk
        subst hk
        rw [hg] at hc; simp at hc; exact .inr (.inr hc.2.1.symm)

/-- A segment of a log: where it lies, its base, its batches. -/
structure SM where
  sb : Nat
  sv : Value
  n : Nat
  xs : List Bt.Bat
def SM.foot (m : SM) : List Nat := sfoot m.sb m.sv
def smC (m : SM) : List Value := [.pointer (some ⟨m.sb, 0, none⟩)]
theorem smC_len : ∀ m, (smC m).length = 1 := fun _ => rfl
/-- What a log's box tells besides. -/
structure LV where
  most : Int
  start : Int
  safe : Int
  down : Bool
def boxC (d : Nat) (dir : ByteArray) (gv : Value) (v : LV) : Array Value := #[.pointer (some ⟨d, 0, none⟩), .string dir, .int .i64 v.most, gv, .int .i64 v.start, .int .i64 v.safe, .bool v.down]
structure LogAt (w : World) (base d : Nat) (F : List Nat) (A : DA) (lb : Nat) (gv : Value) (dir : ByteArray) (v : LV) (ms : List SM) : Prop where
  disk : DiskAt w base d F A
  box : w.heap[lb]? = some (.cells (boxC d dir gv v) 65 (0, 0))
  row : GRow 68 1 smC w base gv ms
  low : base ≤ lb
  segs : ∀ m ∈ ms, SegAt w base d m.sb m.sv (Sn.nameB dir m.n) m.n (pls 0 (-1) m.xs)
  apart : ms.Pairwise (fun a b => ∀ k ∈ a.foot, k ∉ b.foot)
def lfoot (F : List Nat) (lb : Nat) (gv : Value) (ms : List SM) : List Nat := lb :: (gv.ownBlock.toList ++ (ms.flatMap SM.foot ++ F))
theorem mem_lfoot {F : List Nat} {lb : Nat} {gv : Value} {ms : List SM} {k : Nat} : k ∈ lfoot F lb gv ms ↔ k = lb ∨ k ∈ gv.ownBlock ∨ (∃ m ∈ ms, k ∈ m.foot) ∨ k ∈ F := by
  unfold lfoot
  rw [List.mem_cons, List.mem_append, List.mem_append, Option.mem_toList, List.mem_flatMap]
  exact Iff.rfl
section
variable {w w' : World} {base d lb : Nat} {F : List Nat} {A : DA} {gv : Value} {dir : ByteArray} {v : LV} {ms ms0 ms1 : List SM} {m : SM}
theorem LogAt.c0 (h : LogAt w base d F A lb gv dir v ms) : w.cell? ⟨lb, 0, none⟩ = some (.pointer (some ⟨d, 0, none⟩)) := by rw [cell_of h.box]; rfl
theorem LogAt.c1 (h : LogAt w base d F A lb gv dir v ms) : w.cell? ⟨lb, 1, none⟩ = some (.string dir) := by rw [cell_of h.box]; rfl
theorem LogAt.c2 (h : LogAt w base d F A lb gv dir v ms) : w.cell? ⟨lb, 2, none⟩ = some (.int .i64 v.most) := by rw [cell_of h.box]; rfl
theorem LogAt.c3 (h : LogAt w base d F A lb gv dir v ms) : w.cell? ⟨lb, 3, none⟩ = some gv := by rw [cell_of h.box]; rfl
theorem LogAt.c4 (h : LogAt w base d F A lb gv dir v ms) : w.cell? ⟨lb, 4, none⟩ = some (.int .i64 v.start) := by rw [cell_of h.box]; rfl
theorem LogAt.c5 (h : LogAt w base d F A lb gv dir v ms) : w.cell? ⟨lb, 5, none⟩ = some (.int .i64 v.safe) := by rw [cell_of h.box]; rfl
theorem LogAt.c6 (h : LogAt w base d F A lb gv dir v ms) : w.cell? ⟨lb, 6, none⟩ = some (.bool v.down) := by rw [cell_of h.box]; rfl
theorem LogAt.fr (h : LogAt w base d F A lb gv dir v ms) (i : Nat) : w.frozen? ⟨lb, i, none⟩ = false := frozen_of h.box i
theorem LogAt.lt (h : LogAt w base d F A lb gv dir v ms) : ∀ k ∈ lfoot F lb gv ms, base ≤ k ∧ k < w.heap.size := by
  intro k hk
  rcases mem_lfoot.1 hk with rfl | hk | ⟨m, hm, hk⟩ | hk
  · exact ⟨h.low, lt_of_heap h.box⟩
  · exact h.row.lt k hk
  · exact (h.segs m hm).lt k hk
  · exact ⟨h.disk.low k hk, h.disk.lt k hk⟩
theorem LogAt.kept {S : List Nat} (h : LogAt w base d F A lb gv dir v ms) (ht : Turn S w w') (hn : ∀ k ∈ lfoot F lb gv ms, k ∉ S) : LogAt w' base d F A lb gv dir v ms :=
  { disk := h.disk.kept ht (fun k hk => hn k (mem_lfoot.2 (.inr (.inr (.inr hk)))))
    box := ht.heap h.box (hn lb (mem_lfoot.2 (.inl rfl)))
    row := h.row.kept ht (fun k hk => hn k (mem_lfoot.2 (.inr (.inl hk))))
    low := h.low
    segs := fun m hm => (h.segs m hm).kept ht (fun k hk => hn k (mem_lfoot.2 (.inr (.inr (.inl ⟨m, hm, hk⟩)))))
    apart := h.apart }
theorem LogAt.still (h : LogAt w base d F A lb gv dir v ms) (ht : Turn [] w w') : LogAt w' base d F A lb gv dir v ms := h.kept ht (by simp)
theorem LogAt.lb_F (h : LogAt w base d F A lb gv dir v ms) : lb ∉ F := fun hm => by
  rcases disk_kind h.disk hm h.box with e | e | e <;> exact absurd e (by decide)
theorem LogAt.gv_F (h : LogAt w base d F A lb gv dir v ms) : ∀ k ∈ gv.ownBlock, k ∉ F := fun k hk hm => by
  obtain ⟨cs, e⟩ := h.row.kind k hk
  rcases disk_kind h.disk hm e with e | e | e <;> exact absurd e (by decide)
theorem seg_F {sb : Nat} {sv : Value} {file : ByteArray} {b0 : Int} {ps : List Sg.Pl} (h : DiskAt w base d F A) (hs : SegAt w base d sb sv file b0 ps) : ∀ k ∈ sfoot sb sv, k ∉ F := fun k hk hm => by
  obtain ⟨cs, T, e, hT⟩ := seg_kind hs k hk
  rcases hT with rfl | rfl <;> rcases disk_kind h hm e with e | e | e <;> exact absurd e (by decide)
theorem LogAt.lb_seg (h : LogAt w base d F A lb gv dir v ms) (hm : m ∈ ms) : lb ∉ m.foot := fun hk => by
  obtain ⟨cs, T, e, hT⟩ := seg_kind (h.segs m hm) lb hk
  rcases hT with rfl | rfl <;> exact ne_of_type h.box e (by decide) rfl
theorem LogAt.gv_seg (h : LogAt w base d F A lb gv dir v ms) (hm : m ∈ ms) : ∀ k ∈ gv.ownBlock, k ∉ m.foot := fun k hk hs => by
  obtain ⟨cs, e⟩ := h.row.kind k hk
  obtain ⟨cs', T, e', hT⟩ := seg_kind (h.segs m hm) k hs
  rcases hT with rfl | rfl <;> exact ne_of_type e e' (by decide) rfl
theorem LogAt.lb_gv (h : LogAt w base d F A lb gv dir v ms) : lb ∉ gv.ownBlock := fun hk => by
  obtain ⟨cs, e⟩ := h.row.kind lb hk
  exact ne_of_type h.box e (by decide) rfl
/-- A segment of it, and the disk. -/
theorem LogAt.both (h : LogAt w base d F A lb gv dir v ms) (hm : m ∈ ms) : Both w base d F A m.sb m.sv (Sn.nameB dir m.n) m.n (pls 0 (-1) m.xs) :=
  ⟨h.disk, h.segs m hm, seg_F h.disk (h.segs m hm)⟩
/-- Something was done with a segment of it. -/
theorem LogAt.back {A' : DA} {xs' : List Bt.Bat} (h : LogAt w base d F A lb gv dir v (ms0 ++ m :: ms1)) (hc : Came w w' base d F A' m.sb m.sv (Sn.nameB dir m.n) m.n (pls 0 (-1) xs')) :
    ∃ F' sv', LogAt w' base d F' A' lb gv dir v (ms0 ++ ⟨m.sb, sv', m.n, xs'⟩ :: ms1) ∧ Turn (F ++ m.foot) w w' ∧ ∀ k ∈ lfoot F' lb gv (ms0 ++ ⟨m.sb, sv', m.n, xs'⟩ :: ms1), k ∈ lfoot F lb gv (ms0 ++ m :: ms1) ∨ w.heap.size ≤ k := by
  obtain ⟨F', sv', hb, ht, hF, hS⟩ := hc
  have hmm : m ∈ ms0 ++ m :: ms1 := by simp
  have hap := h.apart
  rw [List.pairwise_append, List.pairwise_cons] at hap
  obtain ⟨ap0, ⟨ap1, ap2⟩, ap3⟩ := hap
  have hSm : ∀ k ∈ sfoot m.sb sv', k ∈ m.foot ∨ w.heap.size ≤ k := hS
  have hother : ∀ x, x ∈ ms0 ∨ x ∈ ms1 → ∀ k ∈ x.foot, k ∉ F ++ m.foot := by
    intro x hx k hk hm'
    have hxm : x ∈ ms0 ++ m :: ms1 := by rcases hx with hx | hx <;> simp [hx]
    rcases List.mem_append.1 hm' with h' | h'
    · exact seg_F h.disk (h.segs x hxm) k hk h'
    · rcases hx with hx | hx
      · exact ap3 x hx m (by simp) k hk h'
      · exact ap1 x hx k h' hk
  refine ⟨F', sv', ⟨hb.disk, ?_, ?_, h.low, ?_, ?_⟩, ht, ?_⟩
  · exact ht.heap h.box (fun hm' => (List.mem_append.1 hm').elim h.lb_F (h.lb_seg hmm))
  · refine (h.row.kept ht (fun k hk hm' => (List.mem_append.1 hm').elim (h.gv_F k hk) (h.gv_seg hmm k hk))).congr ?_ ?_
    · simp
    · simp [smC]
  · intro x hx
    rcases List.mem_append.1 hx with hx | hx
    · exact (h.segs x (by simp [hx])).kept ht (hother x (.inl hx))
    · rcases List.mem_cons.1 hx with rfl | hx
      · exact hb.seg
      · exact (h.segs x (by simp [hx])).kept ht (hother x (.inr hx))
  · rw [List.pairwise_append, List.pairwise_cons]
    refine ⟨ap0, ⟨fun x hx k hk hk' => ?_, ap2⟩, fun x hx y hy => ?_⟩
    · rcases hSm k hk with h' | h'
      · exact ap1 x hx k h' hk'
      · have := ((h.segs x (by simp [hx])).lt k hk').2; omega
    · rcases List.mem_cons.1 hy with rfl | hy
      · intro k hk hk'
        rcases hSm k hk' with h' | h'
        · exact ap3 x hx m (by simp) k hk h'
        · have := ((h.segs x (by simp [hx])).lt k hk).2; omega
      · exact ap3 x hx y (by simp [hy])
  · intro k hk
    rcases mem_lfoot.1 hk with rfl | hk | ⟨x, hx, hk⟩ | hk
    · exact .inl (mem_lfoot.2 (.inl rfl))
    · exact .inl (mem_lfoot.2 (.inr (.inl hk)))
    · rcases List.mem_append.1 hx with hx | hx
      · exact .inl (mem_lfoot.2 (.inr (.inr (.inl ⟨x, by simp [hx], hk⟩))))
      · rcases List.mem_cons.1 hx with rfl | hx
        · rcases hSm k hk with h' | h'
          · exact .inl (mem_lfoot.2 (.inr (.inr (.inl ⟨m, hmm, h'⟩))))
          · exact .inr h'
        · exact .inl (mem_lfoot.2 (.inr (.inr (.inl ⟨x, by simp [hx], hk⟩))))
    · rcases hF k hk with h' | h'
      · exact .inl (mem_lfoot.2 (.inr (.inr (.inr h'))))
      · exact .inr h'
end
end Go.Proofs.YthbhfhagbaommaaGreatDoor.Lg

/- What is done with a log, at its end: last, End, Start, sync, begin, roll. -/
namespace Go.Proofs.YthbhfhagbaommaaGreatDoor.Lg
open Go.RowKit Go.Maps
set_option maxRecDepth 100000
set_option linter.unusedSimpArgs false
set_option linter.unusedVariables false
attribute [local go_sem] Oper.semAt_some
open Dk (DA DiskAt Parts Did errR errV)
open Sg (SegAt sfoot pls Both Came nextOf)

def SM.abs (m : SM) : Nat × List Bt.Bat := (m.n, m.xs)
/-- What an operation on a log has come to. -/
def LDid (w w' : World) (base d : Nat) (G : List Nat) (A' : DA) (lb : Nat) (dir : ByteArray) (v' : LV) (ss' : List (Nat × List Bt.Bat)) : Prop :=
  ∃ F' gv' ms', LogAt w' base d F' A' lb gv' dir v' ms' ∧ ms'.map SM.abs = ss' ∧ Turn G w w' ∧ ∀ k ∈ lfoot F' lb gv' ms', k ∈ G ∨ w.heap.size ≤ k
section
variable {w w' w1 : World} {base d lb : Nat} {F G : List Nat} {A A' : DA} {gv : Value} {dir : ByteArray} {v v' : LV} {ms ms0 ms1 : List SM} {m : SM} {ss' : List (Nat × List Bt.Bat)}
theorem LDid.before (ht : Turn [] w w1) (h : LDid w1 w' base d G A' lb dir v' ss') : LDid w w' base d G A' lb dir v' ss' := by
  obtain ⟨F', gv', ms', hl, hm, ht2, hf⟩ := h
  exact ⟨F', gv', ms', hl, hm, (ht.mono (T := G) (by simp)).same ht2, fun k hk => (hf k hk).imp_right (Nat.le_trans ht.size)⟩
theorem LogAt.quiet (h : LogAt w base d F A lb gv dir v ms) (ht : Turn [] w w') : LDid w w' base d (lfoot F lb gv ms) A lb dir v (ms.map SM.abs) :=
  ⟨F, gv, ms, h.still ht, rfl, ht.mono (by simp), fun _ hk => .inl hk⟩
/-- The disk alone has turned. -/
theorem LogAt.did (h : LogAt w base d F A lb gv dir v ms) (hd : Did w w' base d F A') : LDid w w' base d (lfoot F lb gv ms) A' lb dir v (ms.map SM.abs) := by
  obtain ⟨F', hd, ht, hf⟩ := hd
  refine ⟨F', gv, ms, ⟨hd, ht.heap h.box h.lb_F, h.row.kept ht h.gv_F, h.low, fun m hm => (h.segs m hm).kept ht (seg_F h.disk (h.segs m hm)), h.apart⟩, rfl, ht.mono (fun k hk => .inl (mem_lfoot.2 (.inr (.inr (.inr hk))))), fun k hk => ?_⟩
  rcases mem_lfoot.1 hk with h1 | h1 | h1 | h1
  · exact .inl (mem_lfoot.2 (.inl h1))
  · exact .inl (mem_lfoot.2 (.inr (.inl h1)))
  · exact .inl (mem_lfoot.2 (.inr (.inr (.inl h1))))
  · rcases hf k h1 with h2 | h2
    · exact .inl (mem_lfoot.2 (.inr (.inr (.inr h2))))
    · exact .inr h2
/-- A segment, and the disk, have turned. -/
theorem LogAt.came {xs' : List Bt.Bat} (h : LogAt w base d F A lb gv dir v (ms0 ++ m :: ms1)) (hc : Came w w' base d F A' m.sb m.sv (Sn.nameB dir m.n) m.n (pls 0 (-1) xs')) :
    LDid w w' base d (lfoot F lb gv (ms0 ++ m :: ms1)) A' lb dir v (ms0.map SM.abs ++ (m.n, xs') :: ms1.map SM.abs) := by
  obtain ⟨F', sv', hl, ht, hf⟩ := h.back hc
  refine ⟨F', gv, _, hl, by simp [SM.abs], ht.mono (fun k hk => .inl ?_), hf⟩
  rcases List.mem_append.1 hk with h1 | h1
  · exact mem_lfoot.2 (.inr (.inr (.inr h1)))
  · exact mem_lfoot.2 (.inr (.inr (.inl ⟨m, by simp, h1⟩)))
/-- A cell of the log's box has turned. -/
theorem LogAt.setBox {i : Nat} {u : Value} {v' : LV} (h : LogAt w base d F A lb gv dir v ms) (hc : (boxC d dir gv v).setIfInBounds i u = boxC d dir gv v') : LogAt (w.setCell ⟨lb, i, none⟩ u) base d F A lb gv dir v' ms := by
  have ht : Turn [lb] w (w.setCell ⟨lb, i, none⟩ u) := (Turn.refl _ _).setCell (.inl (by simp)) _
  refine ⟨h.disk.kept ht (fun k hk hm => ?_), ?_, h.row.kept ht (fun k hk hm => ?_), h.low, fun m hm => (h.segs m hm).kept ht (fun k hk hm' => ?_), h.apart⟩
  · obtain rfl := List.mem_singleton.1 hm; exact h.lb_F hk
  · rw [heap_set h.box, hc]
  · obtain rfl := List.mem_singleton.1 hm; exact h.lb_gv hk
  · obtain rfl := List.mem_singleton.1 hm'; exact h.lb_seg hm hk
end
theorem split_last {α β : Type} {f : α → β} {l : List α} {r : List β} {b : β} (h : l.map f = r ++ [b]) : ∃ l0 a, l = l0 ++ [a] ∧ l0.map f = r ∧ f a = b := by
  obtain ⟨l0, l1, rfl, h1, h2⟩ := List.map_eq_append_iff.1 h
  obtain ⟨a, l2, rfl, h3, h4⟩ := List.map_eq_cons_iff.1 h2
  obtain rfl := List.map_eq_nil_iff.1 h4
  exact ⟨l0, a, rfl, h1, h3⟩

set_option maxHeartbeats 2000000 in
theorem last_any (w : World) (base d : Nat) (F : List Nat) (A : DA) (lb : Nat) (gv : Value) (dir : ByteArray) (v : LV) (ms0 : List SM) (m : SM) (h : LogAt w base d F A lb gv dir v (ms0 ++ [m])) (hl : ms0.length ≤ 1000000) :
    Calls Tryz.prog 40 #[.pointer (some ⟨lb, 0, none⟩)] w fun e w' => e = .returned (.pointer (some ⟨m.sb, 0, none⟩)) ∧ Turn [] w w' := by
  obtain ⟨g, cap, hgv, hc, -⟩ := h.row.at smC_len (j := ms0.length) (by simp)
  subst hgv
  have H := hide h
  clear h hc
  have hlb := lt_of_heap H.out.box
  go_enter Tryz.func40, Tryz.ntmps40
  go_wp2
  refine wp_region_tail 12 (Turn []) (by kernel_rfl) (by kernel_rfl) (by kernel_rfl) (by kernel_rfl) (by kernel_rfl) (Nat.le_of_ble_eq_true rfl) rfl (Turn.refl _) (fun _ _ _ h k => h.same k) ?_
  apply Lo.runx 1 rfl rfl [] (by kernel_rfl) (Turn.refl _)
  apply Exists.intro; apply And.intro
  · intro u w1 hR hF
    clear hF
    refine ⟨rfl, fun a ha K hK => ?_⟩
    have e0 := ha 0
    conv at e0 => rhs; whnf
    clear ha
    go_simp
    refine hK _ ?_; rfl
  apply Lo.runx 2 rfl rfl [0] (by kernel_rfl) (Turn.refl _)
  apply Exists.intro; apply And.intro
  · intro u w1 hR hF
    obtain ⟨h0, -⟩ := hF
    refine ⟨rfl, fun a ha K hK => ?_⟩
    have e3 := (ha 3).trans h0
    clear ha h0
    go_simp
    refine hK _ ?_; rfl
  apply Lo.runx 3 rfl rfl [1] (by kernel_rfl) (Turn.refl _)
  apply Exists.intro; apply And.intro
  · intro u w1 hR hF
    obtain ⟨h1, -⟩ := hF
    refine ⟨rfl, fun a ha K hK => ?_⟩
    have e4 := (ha 4).trans h1
    clear ha h1
    go_simp
    refine hK _ ?_; rfl
  refine Lo.runv 4 rfl rfl [2] (.slice (some ⟨g, 0, none⟩) (ms0.length + 1) cap) (by kernel_rfl) (fun u w1 hR hF => ?_) (Turn.refl _) ?_
  · obtain ⟨h2, -⟩ := hF
    refine ⟨rfl, fun a ha K hK => ?_⟩
    have e5 := (ha 5).trans h2
    clear ha h2
    have hL := H.out.still (((Turn.refl [] _).drew).same hR)
    have c3 := hL.c3
    have z1 := lt_of_heap hL.box
    rw [List.length_append, List.length_singleton] at c3
    go_simp
    refine hK _ ?_
    rfl
  apply Lo.runx 5 rfl rfl [] (by kernel_rfl) (Turn.refl _)
  apply Exists.intro; apply And.intro
  · intro u w1 hR hF
    clear hF
    refine ⟨rfl, fun a ha K hK => ?_⟩
    have e0 := ha 0
    conv at e0 => rhs; whnf
    clear ha
    go_simp
    refine hK _ ?_; rfl
  apply Lo.runx 6 rfl rfl [4] (by kernel_rfl) (Turn.refl _)
  apply Exists.intro; apply And.intro
  · intro u w1 hR hF
    obtain ⟨h4, -⟩ := hF
    refine ⟨rfl, fun a ha K hK => ?_⟩
    have e7 := (ha 7).trans h4
    clear ha h4
    go_simp
    refine hK _ ?_; rfl
  apply Lo.runx 7 rfl rfl [5] (by kernel_rfl) (Turn.refl _)
  apply Exists.intro; apply And.intro
  · intro u w1 hR hF
    obtain ⟨h5, -⟩ := hF
    refine ⟨rfl, fun a ha K hK => ?_⟩
    have e8 := (ha 8).trans h5
    clear ha h5
    go_simp
    refine hK _ ?_; rfl
  refine Lo.runv 8 rfl rfl [6] (.slice (some ⟨g, 0, none⟩) (ms0.length + 1) cap) (by kernel_rfl) (fun u w1 hR hF => ?_) (Turn.refl _) ?_
  · obtain ⟨h6, -⟩ := hF
    refine ⟨rfl, fun a ha K hK => ?_⟩
    have e9 := (ha 9).trans h6
    clear ha h6
    have hL := H.out.still (((Turn.refl [] _).drew).same hR)
    have c3 := hL.c3
    have z1 := lt_of_heap hL.box
    rw [List.length_append, List.length_singleton] at c3
    go_simp
    refine hK _ ?_
    rfl
  apply Lo.runx 9 rfl rfl [7] (by kernel_rfl) (Turn.refl _)
  apply Exists.intro; apply And.intro
  · intro u w1 hR hF
    obtain ⟨h7, -⟩ := hF
    refine ⟨rfl, fun a ha K hK => ?_⟩
    have e10 := (ha 10).trans h7
    clear ha h7
    go_simp
    refine hK _ ?_; rfl
  refine Lo.runv 10 rfl rfl [8] (.int .i64 (ms0.length : Int)) (by kernel_rfl) (fun u w1 hR hF => ?_) (Turn.refl _) ?_
  · obtain ⟨h8, -⟩ := hF
    refine ⟨rfl, fun a ha K hK => ?_⟩
    have e11 := (ha 11).trans h8
    clear ha h8
    go_simp
    refine hK _ ?_
    rw [IntWalk.i64_left, IntWalk.wrap64_in _ (by omega)]
  refine Lo.runv 11 rfl rfl [3, 9] (.pointer (some ⟨g, ms0.length, none⟩)) (by kernel_rfl) (fun u w1 hR hF => ?_) (Turn.refl _) ?_
  · obtain ⟨h3, h9, -⟩ := hF
    refine ⟨rfl, fun a ha K hK => ?_⟩
    have e6 := (ha 6).trans h3
    have e12 := (ha 12).trans h9
    clear ha h3 h9
    have h10 : (ms0.length : Int) < ms0.length + 1 := by omega
    go_simp
    refine hK _ ?_
    rfl
  refine Lo.runv 12 rfl rfl [10] (.pointer (some ⟨m.sb, 0, none⟩)) (by kernel_rfl) (fun u w1 hR hF => ?_) (Turn.refl _) ?_
  · obtain ⟨h10, -⟩ := hF
    refine ⟨rfl, fun a ha K hK => ?_⟩
    have e13 := (ha 13).trans h10
    clear ha h10
    have hL := H.out.still (((Turn.refl [] _).drew).same hR)
    obtain ⟨g', cap', e, hc, -⟩ := hL.row.at smC_len (j := ms0.length) (by simp)
    simp at e
    obtain ⟨rfl, rfl⟩ := e
    have hc0 : w1.cell? ⟨g, ms0.length, none⟩ = some (.pointer (some ⟨m.sb, 0, none⟩)) := by simpa [smC] using hc 0 (by omega)
    clear hc
    go_simp
    refine hK _ ?_
    rfl
  refine Lo.done [11] (fun u w1 hRd hSd hF => ?_)
  clear hSd
  obtain ⟨f11, -⟩ := hF
  have d11 : u 11 = _ := f11
  clear f11
  simp only [List.take_succ_cons, List.take_zero, List.drop_succ_cons, List.drop_zero, putFrom, Act.put, List.setIfInBounds_toArray, List.set_cons_succ, List.set_cons_zero, Nat.zero_add, Nat.reduceAdd, d11]
  have HT := hide (((Turn.refl [] w).drew).same hRd)
  clear d11 hRd
  go_wp2
  go_ret
  exact ⟨rfl, HT.out⟩

set_option maxHeartbeats 1000000 in
theorem end_any (w : World) (base d : Nat) (F : List Nat) (A : DA) (lb : Nat) (gv : Value) (dir : ByteArray) (v : LV) (ms0 : List SM) (m : SM) (h : LogAt w base d F A lb gv dir v (ms0 ++ [m])) (hl : ms0.length ≤ 1000000) (hx : m.xs.length ≤ 1000000) :
    Calls Tryz.prog 18 #[.pointer (some ⟨lb, 0, none⟩)] w fun e w' => e = .returned (.int .i64 (nextOf m.n m.xs)) ∧ Turn [] w w' := by
  have H := hide h
  have hla := last_any w base d F A lb gv dir v ms0 m h hl
  clear h
  go_enter Tryz.func18, Tryz.ntmps18
  go_wp2_with fail
  refine hla.mono ?_
  rintro e w1 ⟨rfl, ht1⟩
  have HT1 := hide ht1
  clear ht1 hla
  go_wp2_with fail
  refine (Sg.next_any _ base d m.sb m.sv _ m.n _ ((H.out.segs m (by simp)).still HT1.out) (by rw [Sg.pls_len]; exact hx)).mono ?_
  rintro e w2 ⟨rfl, ht2⟩
  rw [Sg.nextP_pls]
  obtain ⟨nx, hnx⟩ : ∃ nx, nx = nextOf m.n m.xs := ⟨_, rfl⟩
  rw [← hnx]
  have HNX := hide hnx
  have HT2 := hide (HT1.out.same ht2)
  clear hnx ht2
  go_wp2
  go_ret
  rw [← HNX.out]
  exact ⟨rfl, HT2.out⟩
theorem start_any (w : World) (base d : Nat) (F : List Nat) (A : DA) (lb : Nat) (gv : Value) (dir : ByteArray) (v : LV) (ms : List SM) (h : LogAt w base d F A lb gv dir v ms) :
    Calls Tryz.prog 26 #[.pointer (some ⟨lb, 0, none⟩)] w fun e w' => e = .returned (.int .i64 v.start) ∧ w = w' := by
  have c4 := h.c4
  have hlb := lt_of_heap h.box
  clear h
  go_enter Tryz.func26, Tryz.ntmps26
  go_wp2
  go_ret
  exact ⟨rfl, rfl⟩

/-- sync: the last segment is made safe; then all is. -/
def safeIf (c : Int) (v : LV) (nx : Int) : LV := if c = 0 then { v with safe := nx } else v
set_option maxHeartbeats 2000000 in
theorem sync_any (w : World) (base d : Nat) (F : List Nat) (A : DA) (lb : Nat) (gv : Value) (dir : ByteArray) (v : LV) (ms0 : List SM) (m : SM) (h : LogAt w base d F A lb gv dir v (ms0 ++ [m])) (hl : ms0.length ≤ 1000000) (hx : m.xs.length ≤ 1000000) (hfs : (Sn.nameB dir m.n).size ≤ maxLen) :
    Calls Tryz.prog 21 #[.pointer (some ⟨lb, 0, none⟩)] w fun e w' => e = .returned (errR (A.sync (Sn.nameB dir m.n).data.toList).1) ∧
      LDid w w' base d (lfoot F lb gv (ms0 ++ [m])) (A.sync (Sn.nameB dir m.n).data.toList).2 lb dir (safeIf (A.sync (Sn.nameB dir m.n).data.toList).1 v (nextOf m.n m.xs)) ((ms0 ++ [m]).map SM.abs) := by
  have H := hide h
  have hla := last_any w base d F A lb gv dir v ms0 m h hl
  clear h
  go_enter Tryz.func21, Tryz.ntmps21
  go_wp2_with fail
  refine hla.mono ?_
  rintro e w1 ⟨rfl, ht1⟩
  have HT1 := hide ht1
  clear ht1 hla
  go_wp2_with fail
  refine (Sg.sync_any _ base d F A m.sb m.sv _ m.n _ ((H.out.still HT1.out).both (by simp)) hfs).mono ?_
  rintro e w2 ⟨rfl, hd⟩
  obtain ⟨c, hc⟩ : ∃ c, c = (A.sync (Sn.nameB dir m.n).data.toList).1 := ⟨_, rfl⟩
  obtain ⟨A2, hA2⟩ : ∃ A2, A2 = (A.sync (Sn.nameB dir m.n).data.toList).2 := ⟨_, rfl⟩
  rw [← hA2] at hd
  rw [← hc]
  have HCE := hide hc
  have HAE := hide hA2
  obtain ⟨F2, gv2, ms2, hl2, hm2, ht2, hf2⟩ := ((H.out.still HT1.out).did hd).before HT1.out
  rw [List.map_append, List.map_singleton] at hm2
  obtain ⟨ms20, m2, rfl, hm20, hm2a⟩ := split_last hm2
  have hla2 := end_any w2 base d F2 A2 lb gv2 dir v ms20 m2 hl2 (by rw [← List.length_map (f := SM.abs), hm20, List.length_map]; exact hl) (by have : m2.xs = m.xs := congrArg Prod.snd hm2a; rw [this]; exact hx)
  have e1 : nextOf m2.n m2.xs = nextOf m.n m.xs := by
    have h1 : m2.n = m.n := congrArg Prod.fst hm2a
    have h2 : m2.xs = m.xs := congrArg Prod.snd hm2a
    rw [h1, h2]
  rw [e1] at hla2
  have HL2 := hide hl2
  have HLA2 := hide hla2
  have HM2 := hide hm2
  have HT2 := hide ht2
  have HF2 := hide hf2
  clear hd hc hA2 hl2 hm2 ht2 hf2 hla2 hm20 hm2a e1
  by_cases hc0 : c = 0
  · have hr0 : errR c = .nilIface := by rw [hc0]; rfl
    have HC0 := hide hc0
    rw [hr0]
    clear hr0 hc0
    go_wp2_with fail
    refine HLA2.out.mono ?_
    rintro e w3 ⟨rfl, ht3⟩
    obtain ⟨nx, hnx⟩ : ∃ nx, nx = nextOf m.n m.xs := ⟨_, rfl⟩
    rw [← hnx]
    have hl3 := HL2.out.still ht3
    have c5 := hl3.c5
    have fr := hl3.fr 5
    have hlb := lt_of_heap hl3.box
    have HL3 := hide hl3
    have HT3 := hide ht3
    have HNX := hide hnx
    clear ht3 hl3 hnx HLA2
    go_wp2
    go_ret
    have e : errR c = .nilIface := by rw [HC0.out]; rfl
    have hs : safeIf c v nx = { v with safe := nx } := by unfold safeIf; rw [if_pos HC0.out]
    rw [← HAE.out, ← HCE.out, ← HNX.out, e, hs]
    refine ⟨rfl, F2, gv2, _, HL3.out.setBox (i := 5) (u := .int .i64 nx) (v' := { v with safe := nx }) rfl, by rw [HM2.out, List.map_append, List.map_singleton], ?_, fun k hk => HF2.out k hk⟩
    exact (HT2.out.same (HT3.out.mono (by simp))).setCell (.inl (mem_lfoot.2 (.inl rfl))) _
  · have hr0 : errR c = .iface 56 (.int .i64 c) := by unfold errR; rw [if_neg hc0]; rfl
    have HC0 := hide hc0
    have HR0 := hide hr0
    rw [hr0]
    clear hr0 hc0 HLA2
    go_wp2
    go_ret
    have hs : safeIf c v (nextOf m.n m.xs) = v := by unfold safeIf; rw [if_neg HC0.out]
    rw [← HAE.out, ← HCE.out, HR0.out, hs]
    exact ⟨rfl, F2, gv2, _, HL2.out, by rw [HM2.out, List.map_append, List.map_singleton], HT2.out, HF2.out⟩
end Go.Proofs.YthbhfhagbaommaaGreatDoor.Lg

/- A loose region's operation that waits for all loud ones. No program. -/
namespace Go.Proofs.YthbhfhagbaommaaGreatDoor
open Go.RowKit
section
variable {P : Program} {l : List Oper} {Q : Exit → Act → World → Prop} {R R' : World → World → Prop} {S : Nat → World → Prop} {loud : List Nat} {a0 : Act} {w0 : World} {E : Act → World → Prop}
/-- Its fact is kept by what is quiet alone. -/
theorem Lo.late {o : Oper} {os : List Oper} {Vs : List (Nat × (Value → World → Prop))} {i : Nat} (n : Nat) (hn : i + 1 = n) (hq : posOf loud i = none) (js : List Nat) (V : Value → World → Prop) (hj : selB l o js = true) (hV : ∀ x w w', V x w → R' w w' → V x w') (hlast : lastL l loud i o = true)
    (h1 : ∀ u w, R w0 w → factsAt Vs u w js → guardIs o (slotF l 0 u a0.tmps) l true ∧ ∀ a : Act, (∀ d, a.tmps.getD d undef = slotF l 0 u a0.tmps d) → ∀ K : Act → World → Prop, (∀ x w', V x w' → R' w w' → K (a.put o.dst x) w') → o.wp P a w K Q)
    (h2 : Lo P l Q E R R' S loud w0 a0 os n ((i, V) :: Vs)) : Lo P l Q E R R' S loud w0 a0 (o :: os) i Vs :=
  ⟨V, hV, fun hl => (by rw [hlast] at hl; cases hl), fun u w hR _ hF => .inl (by unfold relOf; rw [hq]; exact h1 u w hR (factsAt_of hF js hj)), by rw [hn]; exact h2⟩
end
end Go.Proofs.YthbhfhagbaommaaGreatDoor

/- A new segment behind all others: begin, roll. -/
namespace Go.Proofs.YthbhfhagbaommaaGreatDoor.Lg
open Go.RowKit Go.Maps
set_option maxRecDepth 100000
set_option linter.unusedSimpArgs false
set_option linter.unusedVariables false
attribute [local go_sem] Oper.semAt_some
open Dk (DA DiskAt Parts Did errR errV)
open Sg (SegAt sfoot pls Both Came nextOf flat)

theorem Tryz.infoSp : (Tryz.prog.info? 68).map (fun i => (i.zero, i.size, i.bytes)) = some (some (.pointer none), 1, 8) := by kernel_rfl
theorem app_sm (w : World) (base : Nat) (v : Value) (xs : List SM) (x : SM) (k : Nat) (hrow : GRow 68 1 smC w base v xs) (hk : w.heap[k]? = some (.cells (smC x).toArray 68 (0, 0))) (hlen : xs.length ≤ 1000000) (hbase : base ≤ w.heap.size) :
    ∃ v' w', (Builtin.append_ #[63, 63] 63 #[v, .slice (some ⟨k, 0, none⟩) 1 1]).run Tryz.prog w = .ok v' w' ∧ GRow 68 1 smC w' base v' (xs ++ [x]) ∧ Turn v.ownBlock.toList w w' ∧ (∀ j ∈ v'.ownBlock, j ∈ v.ownBlock ∨ w.heap.size ≤ j) := by
  obtain ⟨i, hi, e⟩ := Option.map_eq_some_iff.1 Tryz.infoSp
  simp only [Prod.mk.injEq] at e
  exact run_append_g (P := Tryz.prog) 63 63 Tryz.underlying63 i _ hi e.1 (by rfl) e.2.1 (by omega) smC_len (fun x u hu => by simp [smC] at hu; subst hu; rfl) w base v xs x k hrow hk hlen hbase
section
variable {w w' w1 : World} {base d lb : Nat} {F G : List Nat} {A A' : DA} {gv gv' : Value} {dir : ByteArray} {v v' : LV} {ms ms0 ms1 : List SM} {m : SM}
/-- A segment has come behind all others. -/
theorem LogAt.grow (h : LogAt w base d F A lb gv dir v ms) (ht : Turn gv.ownBlock.toList w w') (hrow : GRow 68 1 smC w' base gv' (ms ++ [m])) (hseg : SegAt w base d m.sb m.sv (Sn.nameB dir m.n) m.n (pls 0 (-1) m.xs)) (hap : ∀ x ∈ ms, ∀ k ∈ x.foot, k ∉ m.foot) :
    LogAt (w'.setCell ⟨lb, 3, none⟩ gv') base d F A lb gv' dir v (ms ++ [m]) := by
  have hb' := ht.heap h.box (by simpa using h.lb_gv)
  have ht2 : Turn [lb] w' (w'.setCell ⟨lb, 3, none⟩ gv') := (Turn.refl _ _).setCell (.inl (by simp)) _
  have hgs : ∀ k ∈ gv.ownBlock, k ∉ m.foot := fun k hk hs => by
    obtain ⟨cs, e⟩ := h.row.kind k hk
    obtain ⟨cs', T, e', hT⟩ := seg_kind hseg k hs
    rcases hT with rfl | rfl <;> exact ne_of_type e e' (by decide) rfl
  have hls : lb ∉ m.foot := fun hs => by
    obtain ⟨cs', T, e', hT⟩ := seg_kind hseg lb hs
    rcases hT with rfl | rfl <;> exact ne_of_type h.box e' (by decide) rfl
  refine ⟨(h.disk.kept ht (fun k hk hm => h.gv_F k (by simpa using hm) hk)).kept ht2 (fun k hk hm => by obtain rfl := List.mem_singleton.1 hm; exact h.lb_F hk), ?_, hrow.kept ht2 (fun k hk hm => ?_), h.low, fun x hx => ?_, ?_⟩
  · rw [heap_set hb']; rfl
  · obtain rfl := List.mem_singleton.1 hm
    obtain ⟨cs, e⟩ := hrow.kind k hk
    exact ne_of_type hb' e (by decide) rfl
  · rcases List.mem_append.1 hx with hx | hx
    · exact ((h.segs x hx).kept ht (fun k hk hm => h.gv_seg hx k (by simpa using hm) hk)).kept ht2 (fun k hk hm => by obtain rfl := List.mem_singleton.1 hm; exact h.lb_seg hx hk)
    · obtain rfl := List.mem_singleton.1 hx
      exact (hseg.kept ht (fun k hk hm => hgs k (by simpa using hm) hk)).kept ht2 (fun k hk hm => by obtain rfl := List.mem_singleton.1 hm; exact hls hk)
  · rw [List.pairwise_append]
    exact ⟨h.apart, List.pairwise_singleton _ _, fun x hx y hy => by obtain rfl := List.mem_singleton.1 hy; exact hap x hx⟩
end

/-- begin, of what a log is. -/
def beginS (A : DA) (dir : ByteArray) (n : Nat) (ss : List (Nat × List Bt.Bat)) : Int × DA × List (Nat × List Bt.Bat) :=
  ((A.make (Sn.nameB dir n)).1, (A.make (Sn.nameB dir n)).2, if (A.make (Sn.nameB dir n)).1 = 0 then ss ++ [(n, [])] else ss)
theorem _root_.Go.Proofs.YthbhfhagbaommaaGreatDoor.Dk.Did.turn {w w' : World} {base d : Nat} {F : List Nat} {A' : DA} (h : Did w w' base d F A') : Turn F w w' := by
  obtain ⟨F', -, h2, -⟩ := h; exact h2
theorem did_first {w w1 w' : World} {base d : Nat} {F : List Nat} {A' : DA} (ht : Turn F w w1) (h : Did w1 w' base d F A') : Did w w' base d F A' := by
  obtain ⟨F', hd, ht2, hf⟩ := h
  exact ⟨F', hd, ht.same ht2, fun k hk => (hf k hk).imp_right (Nat.le_trans ht.size)⟩
theorem did_after {w w1 w' : World} {base d : Nat} {F : List Nat} {A' : DA} (h : Did w w1 base d F A') (ht : Turn [] w1 w') : Did w w' base d F A' := by
  obtain ⟨F', hd, ht2, hf⟩ := h
  exact ⟨F', hd.kept ht (by simp), ht2.same (ht.mono (by simp)), hf⟩
theorem fresh_turn {w w' : World} {base d sb : Nat} {F : List Nat} {A' : DA} {file : ByteArray} {b0 : Int} (h : Sg.Fresh1 w w' base d F A' sb file b0) : Turn F w w' := by
  obtain ⟨F', -, h2, -⟩ := h; exact h2
theorem fresh_first {w w1 w' : World} {base d sb : Nat} {F : List Nat} {A' : DA} {file : ByteArray} {b0 : Int} (ht : Turn F w w1) (h : Sg.Fresh1 w1 w' base d F A' sb file b0) : Sg.Fresh1 w w' base d F A' sb file b0 := by
  obtain ⟨F', hb, ht2, hf, hs⟩ := h
  exact ⟨F', hb, ht.same ht2, fun k hk => (hf k hk).imp_right (Nat.le_trans ht.size), Nat.le_trans ht.size hs⟩
theorem fresh_after {w w1 w' : World} {base d sb : Nat} {F : List Nat} {A' : DA} {file : ByteArray} {b0 : Int} (h : Sg.Fresh1 w w1 base d F A' sb file b0) (ht : Turn [] w1 w') : Sg.Fresh1 w w' base d F A' sb file b0 := by
  obtain ⟨F', hb, ht2, hf, hs⟩ := h
  exact ⟨F', hb.still ht, ht2.same (ht.mono (by simp)), hf, hs⟩
set_option maxHeartbeats 4000000 in
theorem begin_any (w : World) (base d : Nat) (F : List Nat) (A : DA) (lb : Nat) (gv : Value) (dir : ByteArray) (v : LV) (ms : List SM) (h : LogAt w base d F A lb gv dir v ms) (hl : ms.length ≤ 1000000) (hdir : dir.size ≤ 1000) (n : Nat) (hn : n ≤ 1099511627776) (hv : Sn.TabT w) :
    Calls Tryz.prog 20 #[.pointer (some ⟨lb, 0, none⟩), .int .i64 n] w fun e w' => e = .returned (errR (beginS A dir n (ms.map SM.abs)).1) ∧
      LDid w w' base d (lfoot F lb gv ms) (beginS A dir n (ms.map SM.abs)).2.1 lb dir v (beginS A dir n (ms.map SM.abs)).2.2 := by
  obtain ⟨ga, gc, hgv, hglc, hgcm⟩ := h.row.form
  subst hgv
  have H := hide h
  have HV := hide hv
  have hlb := lt_of_heap h.box
  obtain ⟨c, hc⟩ : ∃ c, c = (A.make (Sn.nameB dir n)).1 := ⟨_, rfl⟩
  obtain ⟨A2, hA2⟩ : ∃ A2, (A.make (Sn.nameB dir n)).2 = A2 := ⟨_, rfl⟩
  have HC := hide hc
  have HA2 := hide hA2
  clear h hv hA2
  by_cases hne : c ≠ 0
  · have hr : errR (A.make (Sn.nameB dir n)).1 = .iface 56 (.int .i64 c) := by rw [← hc]; unfold errR; rw [if_neg hne]; rfl
    have HR := hide hr
    have HNE := hide hne
    clear hr hne hc
    go_enter Tryz.func20, Tryz.ntmps20
    go_wp2
    refine wp_region_loud 14 (Turn F) (Turn []) (fun k w => match k with | 0 => (fun w' => DiskAt w' base d F A ∧ Sn.TabT w') w | _ => (fun w' => Sn.TabT w' ∨ True) w) [9] (by kernel_rfl) (by kernel_rfl) (by kernel_rfl) (by kernel_rfl) (by kernel_rfl) (by kernel_rfl) (Nat.le_of_ble_eq_true rfl) (by decide) rfl (Turn.refl _) (fun _ _ _ h k => h.same k) (fun _ _ h => h.mono (by simp)) ?_ ?_ ?_
    · intro k a b hk hR
      match k, hk with
      | 0, hk =>
        have hk := (show (fun w' => DiskAt w' base d F A ∧ Sn.TabT w') a from hk)
        dsimp only at hk
        show (fun w' => DiskAt w' base d F A ∧ Sn.TabT w') b
        dsimp only
        first | exact ⟨hk.1.kept hR (by simp), hk.2.below hR.nil⟩ | exact .inr trivial
      | _ + 1, hk =>
        have hk := (show (fun w' => Sn.TabT w' ∨ True) a from hk)
        dsimp only at hk
        show (fun w' => Sn.TabT w' ∨ True) b
        dsimp only
        first | exact ⟨hk.1.kept hR (by simp), hk.2.below hR.nil⟩ | exact .inr trivial
    · show (fun w' => DiskAt w' base d F A ∧ Sn.TabT w') _
      dsimp only
      exact ⟨H.out.disk.kept ((Turn.refl [] w).drew) (by simp), HV.out.below ((Turn.refl [] w).drew).nil⟩
    apply Lo.runx 1 rfl rfl [] (by kernel_rfl) (Turn.refl _)
    apply Exists.intro; apply And.intro
    · intro u w1 hR hF
      clear hF
      refine ⟨rfl, fun a ha K hK => ?_⟩
      have e0 := ha 0
      conv at e0 => rhs; whnf
      clear ha
      go_simp
      refine hK _ ?_; rfl
    apply Lo.runx 2 rfl rfl [0] (by kernel_rfl) (Turn.refl _)
    apply Exists.intro; apply And.intro
    · intro u w1 hR hF
      obtain ⟨h0, -⟩ := hF
      refine ⟨rfl, fun a ha K hK => ?_⟩
      have e8 := (ha 8).trans h0
      clear ha h0
      go_simp
      refine hK _ ?_; rfl
    apply Lo.runx 3 rfl rfl [1] (by kernel_rfl) (Turn.refl _)
    apply Exists.intro; apply And.intro
    · intro u w1 hR hF
      obtain ⟨h1, -⟩ := hF
      refine ⟨rfl, fun a ha K hK => ?_⟩
      have e9 := (ha 9).trans h1
      clear ha h1
      go_simp
      refine hK _ ?_; rfl
    apply Lo.runx 4 rfl rfl [2] (by kernel_rfl) (Turn.refl _)
    apply Exists.intro; apply And.intro
    · intro u w1 hR hF
      obtain ⟨h2, -⟩ := hF
      refine ⟨rfl, fun a ha K hK => ?_⟩
      have e10 := (ha 10).trans h2
      clear ha h2
      have hb := (((Turn.refl [] w).drew.mono (T := F) (by simp)).same hR).heap H.out.box H.out.lb_F
      have c0 : w1.cell? ⟨lb, 0, none⟩ = some (.pointer (some ⟨d, 0, none⟩)) := by rw [cell_of hb]; rfl
      have z1 := lt_of_heap hb
      go_simp
      refine hK _ ?_; rfl
    apply Lo.runx 5 rfl rfl [] (by kernel_rfl) (Turn.refl _)
    apply Exists.intro; apply And.intro
    · intro u w1 hR hF
      clear hF
      refine ⟨rfl, fun a ha K hK => ?_⟩
      have e0 := ha 0
      conv at e0 => rhs; whnf
      clear ha
      go_simp
      refine hK _ ?_; rfl
    apply Lo.runx 6 rfl rfl [4] (by kernel_rfl) (Turn.refl _)
    apply Exists.intro; apply And.intro
    · intro u w1 hR hF
      obtain ⟨h4, -⟩ := hF
      refine ⟨rfl, fun a ha K hK => ?_⟩
      have e12 := (ha 12).trans h4
      clear ha h4
      go_simp
      refine hK _ ?_; rfl
    apply Lo.runx 7 rfl rfl [5] (by kernel_rfl) (Turn.refl _)
    apply Exists.intro; apply And.intro
    · intro u w1 hR hF
      obtain ⟨h5, -⟩ := hF
      refine ⟨rfl, fun a ha K hK => ?_⟩
      have e13 := (ha 13).trans h5
      clear ha h5
      go_simp
      refine hK _ ?_; rfl
    apply Lo.runx 8 rfl rfl [6] (by kernel_rfl) (Turn.refl _)
    apply Exists.intro; apply And.intro
    · intro u w1 hR hF
      obtain ⟨h6, -⟩ := hF
      refine ⟨rfl, fun a ha K hK => ?_⟩
      have e14 := (ha 14).trans h6
      clear ha h6
      have hb := (((Turn.refl [] w).drew.mono (T := F) (by simp)).same hR).heap H.out.box H.out.lb_F
      have c0 : w1.cell? ⟨lb, 1, none⟩ = some (.string dir) := by rw [cell_of hb]; rfl
      have z1 := lt_of_heap hb
      go_simp
      refine hK _ ?_; rfl
    apply Lo.runx 9 rfl rfl [] (by kernel_rfl) (Turn.refl _)
    apply Exists.intro; apply And.intro
    · intro u w1 hR hF
      clear hF
      refine ⟨rfl, fun a ha K hK => ?_⟩
      have e1 := ha 1
      conv at e1 => rhs; whnf
      clear ha
      go_simp
      refine hK _ ?_; rfl
    refine Lo.noisy 10 rfl 0 rfl [3, 7, 8] (fun x w' => x = .tuple #[.pointer none, .iface 56 (.int .i64 c)] ∧ Did w w' base d F A2) (by kernel_rfl) (fun x w w' h hR => ?_) (.inl (by kernel_rfl)) (fun u w1 hR hS hF => ?_) ?_
    · exact ⟨h.1, did_after h.2 hR⟩
    · obtain ⟨h3, h7, h8, -⟩ := hF
      have hS := (show (fun w' => DiskAt w' base d F A ∧ Sn.TabT w') w1 from hS)
      dsimp only at hS
      refine ⟨rfl, fun a ha K hK => ?_⟩
      have e11 := (ha 11).trans h3
      have e15 := (ha 15).trans h7
      have e16 := (ha 16).trans h8
      clear ha h3 h7 h8
      go_simp
      have hr0 := ((Turn.refl [] w).drew.mono (T := F) (by simp)).same hR
      refine (Sg.make_any w1 base d F A hS.1 dir hdir n hn hS.2).mono ?_
      rintro e w2 (⟨hne, rfl, hd⟩ | ⟨he, -⟩)
      · rw [HR.out]
        rw [HA2.out] at hd
        exact hK _ _ ⟨rfl, did_first hr0 hd⟩ hd.turn (.inr trivial)
      · exact absurd (HC.out.trans he) HNE.out
    refine Lo.late 11 rfl rfl [9] (fun x w' => x = .tuple #[.pointer none, .iface 56 (.int .i64 c)] ∧ Did w w' base d F A2) (by kernel_rfl) (fun x w w' h hR => ?_) (by kernel_rfl) (fun u w1 hR hF => ?_) ?_
    · exact ⟨h.1, did_after h.2 hR⟩
    · obtain ⟨h9, -⟩ := hF
      refine ⟨rfl, fun a ha K hK => ?_⟩
      have e17 : a.tmps.getD 17 undef = u 9 := ha 17
      have h9 := (show (fun x w' => x = .tuple #[.pointer none, .iface 56 (.int .i64 c)] ∧ Did w w' base d F A2) (u 9) w1 from h9)
      dsimp only at h9
      clear ha
      obtain ⟨e9, h9d⟩ := h9
      rw [e9] at e17
      go_simp
      exact hK _ _ ⟨rfl, h9d⟩ (Turn.refl _ _)
    refine Lo.late 12 rfl rfl [10] (fun x w' => x = .pointer none ∧ Did w w' base d F A2) (by kernel_rfl) (fun x w w' h hR => ?_) (by kernel_rfl) (fun u w1 hR hF => ?_) ?_
    · exact ⟨h.1, did_after h.2 hR⟩
    · obtain ⟨h10, -⟩ := hF
      refine ⟨rfl, fun a ha K hK => ?_⟩
      have e7 : a.tmps.getD 7 undef = u 10 := ha 7
      have h10 := (show (fun x w' => x = .tuple #[.pointer none, .iface 56 (.int .i64 c)] ∧ Did w w' base d F A2) (u 10) w1 from h10)
      dsimp only at h10
      clear ha
      obtain ⟨e9, h9d⟩ := h10
      rw [e9] at e7
      go_simp
      exact hK _ _ ⟨rfl, h9d⟩ (Turn.refl _ _)
    refine Lo.runv 13 rfl rfl [10] (.iface 56 (.int .i64 c)) (by kernel_rfl) (fun u w1 hR hF => ?_) (Turn.refl _) ?_
    · obtain ⟨h10, -⟩ := hF
      refine ⟨rfl, fun a ha K hK => ?_⟩
      have e7 : a.tmps.getD 7 undef = u 10 := ha 7
      have h10 := (show (fun x w' => x = .tuple #[.pointer none, .iface 56 (.int .i64 c)] ∧ Did w w' base d F A2) (u 10) w1 from h10)
      dsimp only at h10
      clear ha
      obtain ⟨e9, -⟩ := h10
      rw [e9] at e7
      go_simp
      refine hK _ ?_
      rfl
    refine Lo.late 14 rfl rfl [11] (fun x w' => x = .pointer none ∧ Did w w' base d F A2) (by kernel_rfl) (fun x w w' h hR => ?_) (by kernel_rfl) (fun u w1 hR hF => ?_) ?_
    · exact ⟨h.1, did_after h.2 hR⟩
    · obtain ⟨h11, -⟩ := hF
      refine ⟨rfl, fun a ha K hK => ?_⟩
      have e18 : a.tmps.getD 18 undef = u 11 := ha 18
      have h11 := (show (fun x w' => x = .pointer none ∧ Did w w' base d F A2) (u 11) w1 from h11)
      dsimp only at h11
      clear ha
      go_simp
      exact hK _ _ ⟨rfl, h11.2⟩ (Turn.refl _ _)
    refine Lo.done [12, 13] (fun u w1 hRd hSd hF => ?_)
    have hSd := (show (fun w' => Sn.TabT w' ∨ True) w1 from hSd)
    dsimp only at hSd
    obtain ⟨f12, f13, -⟩ := hF
    have d12 : u 12 = _ := f12
    have d13 := (show (fun x w' => x = .pointer none ∧ Did w w' base d F A2) (u 13) w1 from f13)
    dsimp only at d13
    clear f12 f13
    simp only [List.take_succ_cons, List.take_zero, List.drop_succ_cons, List.drop_zero, putFrom, Act.put, List.setIfInBounds_toArray, List.set_cons_succ, List.set_cons_zero, Nat.zero_add, Nat.reduceAdd, d12]
    obtain ⟨e13, hd13⟩ := d13
    rw [e13]
    have HD := hide (H.out.did hd13)
    clear d12 e13 hd13 hRd hSd
    go_wp2
    go_ret
    unfold beginS
    simp only
    rw [HR.out, HA2.out, if_neg (by rw [← HC.out]; exact HNE.out)]
    exact ⟨rfl, HD.out⟩
  · have hne0 : c = 0 := Classical.not_not.1 hne
    have HNE := hide hne0
    clear hne hne0 hc
    go_enter Tryz.func20, Tryz.ntmps20
    go_wp2
    refine wp_region_loud 14 (Turn F) (Turn []) (fun k w => match k with | 0 => (fun w' => DiskAt w' base d F A ∧ Sn.TabT w') w | _ => (fun w' => Sn.TabT w' ∨ True) w) [9] (by kernel_rfl) (by kernel_rfl) (by kernel_rfl) (by kernel_rfl) (by kernel_rfl) (by kernel_rfl) (Nat.le_of_ble_eq_true rfl) (by decide) rfl (Turn.refl _) (fun _ _ _ h k => h.same k) (fun _ _ h => h.mono (by simp)) ?_ ?_ ?_
    · intro k a b hk hR
      match k, hk with
      | 0, hk =>
        have hk := (show (fun w' => DiskAt w' base d F A ∧ Sn.TabT w') a from hk)
        dsimp only at hk
        show (fun w' => DiskAt w' base d F A ∧ Sn.TabT w') b
        dsimp only
        first | exact ⟨hk.1.kept hR (by simp), hk.2.below hR.nil⟩ | exact .inr trivial
      | _ + 1, hk =>
        have hk := (show (fun w' => Sn.TabT w' ∨ True) a from hk)
        dsimp only at hk
        show (fun w' => Sn.TabT w' ∨ True) b
        dsimp only
        first | exact ⟨hk.1.kept hR (by simp), hk.2.below hR.nil⟩ | exact .inr trivial
    · show (fun w' => DiskAt w' base d F A ∧ Sn.TabT w') _
      dsimp only
      exact ⟨H.out.disk.kept ((Turn.refl [] w).drew) (by simp), HV.out.below ((Turn.refl [] w).drew).nil⟩
    apply Lo.runx 1 rfl rfl [] (by kernel_rfl) (Turn.refl _)
    apply Exists.intro; apply And.intro
    · intro u w1 hR hF
      clear hF
      refine ⟨rfl, fun a ha K hK => ?_⟩
      have e0 := ha 0
      conv at e0 => rhs; whnf
      clear ha
      go_simp
      refine hK _ ?_; rfl
    apply Lo.runx 2 rfl rfl [0] (by kernel_rfl) (Turn.refl _)
    apply Exists.intro; apply And.intro
    · intro u w1 hR hF
      obtain ⟨h0, -⟩ := hF
      refine ⟨rfl, fun a ha K hK => ?_⟩
      have e8 := (ha 8).trans h0
      clear ha h0
      go_simp
      refine hK _ ?_; rfl
    apply Lo.runx 3 rfl rfl [1] (by kernel_rfl) (Turn.refl _)
    apply Exists.intro; apply And.intro
    · intro u w1 hR hF
      obtain ⟨h1, -⟩ := hF
      refine ⟨rfl, fun a ha K hK => ?_⟩
      have e9 := (ha 9).trans h1
      clear ha h1
      go_simp
      refine hK _ ?_; rfl
    apply Lo.runx 4 rfl rfl [2] (by kernel_rfl) (Turn.refl _)
    apply Exists.intro; apply And.intro
    · intro u w1 hR hF
      obtain ⟨h2, -⟩ := hF
      refine ⟨rfl, fun a ha K hK => ?_⟩
      have e10 := (ha 10).trans h2
      clear ha h2
      have hb := (((Turn.refl [] w).drew.mono (T := F) (by simp)).same hR).heap H.out.box H.out.lb_F
      have c0 : w1.cell? ⟨lb, 0, none⟩ = some (.pointer (some ⟨d, 0, none⟩)) := by rw [cell_of hb]; rfl
      have z1 := lt_of_heap hb
      go_simp
      refine hK _ ?_; rfl
    apply Lo.runx 5 rfl rfl [] (by kernel_rfl) (Turn.refl _)
    apply Exists.intro; apply And.intro
    · intro u w1 hR hF
      clear hF
      refine ⟨rfl, fun a ha K hK => ?_⟩
      have e0 := ha 0
      conv at e0 => rhs; whnf
      clear ha
      go_simp
      refine hK _ ?_; rfl
    apply Lo.runx 6 rfl rfl [4] (by kernel_rfl) (Turn.refl _)
    apply Exists.intro; apply And.intro
    · intro u w1 hR hF
      obtain ⟨h4, -⟩ := hF
      refine ⟨rfl, fun a ha K hK => ?_⟩
      have e12 := (ha 12).trans h4
      clear ha h4
      go_simp
      refine hK _ ?_; rfl
    apply Lo.runx 7 rfl rfl [5] (by kernel_rfl) (Turn.refl _)
    apply Exists.intro; apply And.intro
    · intro u w1 hR hF
      obtain ⟨h5, -⟩ := hF
      refine ⟨rfl, fun a ha K hK => ?_⟩
      have e13 := (ha 13).trans h5
      clear ha h5
      go_simp
      refine hK _ ?_; rfl
    apply Lo.runx 8 rfl rfl [6] (by kernel_rfl) (Turn.refl _)
    apply Exists.intro; apply And.intro
    · intro u w1 hR hF
      obtain ⟨h6, -⟩ := hF
      refine ⟨rfl, fun a ha K hK => ?_⟩
      have e14 := (ha 14).trans h6
      clear ha h6
      have hb := (((Turn.refl [] w).drew.mono (T := F) (by simp)).same hR).heap H.out.box H.out.lb_F
      have c0 : w1.cell? ⟨lb, 1, none⟩ = some (.string dir) := by rw [cell_of hb]; rfl
      have z1 := lt_of_heap hb
      go_simp
      refine hK _ ?_; rfl
    apply Lo.runx 9 rfl rfl [] (by kernel_rfl) (Turn.refl _)
    apply Exists.intro; apply And.intro
    · intro u w1 hR hF
      clear hF
      refine ⟨rfl, fun a ha K hK => ?_⟩
      have e1 := ha 1
      conv at e1 => rhs; whnf
      clear ha
      go_simp
      refine hK _ ?_; rfl
    refine Lo.noisy 10 rfl 0 rfl [3, 7, 8] (fun x w' => ∃ sb, x = .tuple #[.pointer (some ⟨sb, 0, none⟩), .nilIface] ∧ Sg.Fresh1 w w' base d F A2 sb (Sn.nameB dir n) n) (by kernel_rfl) (fun x w w' h hR => ?_) (.inl (by kernel_rfl)) (fun u w1 hR hS hF => ?_) ?_
    · obtain ⟨sb, e, h⟩ := h; exact ⟨sb, e, fresh_after h hR⟩
    · obtain ⟨h3, h7, h8, -⟩ := hF
      have hS := (show (fun w' => DiskAt w' base d F A ∧ Sn.TabT w') w1 from hS)
      dsimp only at hS
      refine ⟨rfl, fun a ha K hK => ?_⟩
      have e11 := (ha 11).trans h3
      have e15 := (ha 15).trans h7
      have e16 := (ha 16).trans h8
      clear ha h3 h7 h8
      go_simp
      have hr0 := ((Turn.refl [] w).drew.mono (T := F) (by simp)).same hR
      refine (Sg.make_any w1 base d F A hS.1 dir hdir n hn hS.2).mono ?_
      rintro e w2 (⟨hne, -⟩ | ⟨he, sb, rfl, hfr⟩)
      · exact absurd (HC.out.symm.trans HNE.out) hne
      · rw [HA2.out] at hfr
        exact hK _ _ ⟨sb, rfl, fresh_first hr0 hfr⟩ (fresh_turn hfr) (.inr trivial)
    refine Lo.late 11 rfl rfl [9] (fun x w' => ∃ sb, x = .tuple #[.pointer (some ⟨sb, 0, none⟩), .nilIface] ∧ Sg.Fresh1 w w' base d F A2 sb (Sn.nameB dir n) n) (by kernel_rfl) (fun x w w' h hR => ?_) (by kernel_rfl) (fun u w1 hR hF => ?_) ?_
    · obtain ⟨sb, e, h⟩ := h; exact ⟨sb, e, fresh_after h hR⟩
    · obtain ⟨h9, -⟩ := hF
      refine ⟨rfl, fun a ha K hK => ?_⟩
      have e17 : a.tmps.getD 17 undef = u 9 := ha 17
      have h9 := (show (fun x w' => ∃ sb, x = .tuple #[.pointer (some ⟨sb, 0, none⟩), .nilIface] ∧ Sg.Fresh1 w w' base d F A2 sb (Sn.nameB dir n) n) (u 9) w1 from h9)
      dsimp only at h9
      clear ha
      obtain ⟨sb, e9, h9d⟩ := h9
      rw [e9] at e17
      go_simp
      exact hK _ _ ⟨sb, rfl, h9d⟩ (Turn.refl _ _)
    refine Lo.late 12 rfl rfl [10] (fun x w' => ∃ sb, x = .pointer (some ⟨sb, 0, none⟩) ∧ Sg.Fresh1 w w' base d F A2 sb (Sn.nameB dir n) n) (by kernel_rfl) (fun x w w' h hR => ?_) (by kernel_rfl) (fun u w1 hR hF => ?_) ?_
    · obtain ⟨sb, e, h⟩ := h; exact ⟨sb, e, fresh_after h hR⟩
    · obtain ⟨h10, -⟩ := hF
      refine ⟨rfl, fun a ha K hK => ?_⟩
      have e7 : a.tmps.getD 7 undef = u 10 := ha 7
      have h10 := (show (fun x w' => ∃ sb, x = .tuple #[.pointer (some ⟨sb, 0, none⟩), .nilIface] ∧ Sg.Fresh1 w w' base d F A2 sb (Sn.nameB dir n) n) (u 10) w1 from h10)
      dsimp only at h10
      clear ha
      obtain ⟨sb, e9, h9d⟩ := h10
      rw [e9] at e7
      go_simp
      exact hK _ _ ⟨sb, rfl, h9d⟩ (Turn.refl _ _)
    refine Lo.runv 13 rfl rfl [10] (.nilIface) (by kernel_rfl) (fun u w1 hR hF => ?_) (Turn.refl _) ?_
    · obtain ⟨h10, -⟩ := hF
      refine ⟨rfl, fun a ha K hK => ?_⟩
      have e7 : a.tmps.getD 7 undef = u 10 := ha 7
      have h10 := (show (fun x w' => ∃ sb, x = .tuple #[.pointer (some ⟨sb, 0, none⟩), .nilIface] ∧ Sg.Fresh1 w w' base d F A2 sb (Sn.nameB dir n) n) (u 10) w1 from h10)
      dsimp only at h10
      clear ha
      obtain ⟨sb, e9, h9d⟩ := h10
      rw [e9] at e7
      go_simp
      refine hK _ ?_
      rfl
    refine Lo.late 14 rfl rfl [11] (fun x w' => ∃ sb, x = .pointer (some ⟨sb, 0, none⟩) ∧ Sg.Fresh1 w w' base d F A2 sb (Sn.nameB dir n) n) (by kernel_rfl) (fun x w w' h hR => ?_) (by kernel_rfl) (fun u w1 hR hF => ?_) ?_
    · obtain ⟨sb, e, h⟩ := h; exact ⟨sb, e, fresh_after h hR⟩
    · obtain ⟨h11, -⟩ := hF
      refine ⟨rfl, fun a ha K hK => ?_⟩
      have e18 : a.tmps.getD 18 undef = u 11 := ha 18
      have h11 := (show (fun x w' => ∃ sb, x = .pointer (some ⟨sb, 0, none⟩) ∧ Sg.Fresh1 w w' base d F A2 sb (Sn.nameB dir n) n) (u 11) w1 from h11)
      dsimp only at h11
      clear ha
      go_simp
      exact hK _ _ h11 (Turn.refl _ _)
    refine Lo.done [12, 13] (fun u w1 hRd hSd hF => ?_)
    have hSd := (show (fun w' => Sn.TabT w' ∨ True) w1 from hSd)
    dsimp only at hSd
    obtain ⟨f12, f13, -⟩ := hF
    have d12 : u 12 = _ := f12
    have d13 := (show (fun x w' => ∃ sb, x = .pointer (some ⟨sb, 0, none⟩) ∧ Sg.Fresh1 w w' base d F A2 sb (Sn.nameB dir n) n) (u 13) w1 from f13)
    dsimp only at d13
    clear f12 f13
    simp only [List.take_succ_cons, List.take_zero, List.drop_succ_cons, List.drop_zero, putFrom, Act.put, List.setIfInBounds_toArray, List.set_cons_succ, List.set_cons_zero, Nat.zero_add, Nat.reduceAdd, d12]
    obtain ⟨sb, e13, F2, hb2, ht2, hf2, hs2⟩ := d13
    rw [e13]
    clear d12 e13 hRd hSd
    have hs0 : LogAt w1 base d F2 A2 lb (.slice ga ms.length gc) dir v ms := ⟨hb2.disk, ht2.heap H.out.box H.out.lb_F, H.out.row.kept ht2 H.out.gv_F, H.out.low, fun m hm => (H.out.segs m hm).kept ht2 (seg_F H.out.disk (H.out.segs m hm)), H.out.apart⟩
    have hap : ∀ x ∈ ms, ∀ k ∈ x.foot, k ∉ sfoot sb (.slice none 0 0) := fun x hx k hk hm => by
      simp only [sfoot, Value.ownBlock, List.mem_cons, Option.mem_toList] at hm
      rcases hm with rfl | hm
      · have := ((H.out.segs x hx).lt k hk).2; omega
      · simp at hm
    have HF2 := hide hf2
    have HS2 := hide hs2
    have HT02 := hide ht2
    have c3 := hs0.c3
    have z2 := lt_of_heap hs0.box
    have h23 : Turn [] w1 (w1.alloc (.cells #[.pointer (some ⟨sb, 0, none⟩)] 68)) := (Turn.refl [] w1).alloc _
    obtain ⟨v7, w7, hr7, hrow7, ht7, hown7⟩ := app_sm (w1.alloc (.cells #[.pointer (some ⟨sb, 0, none⟩)] 68)) base (.slice ga ms.length gc) ms ⟨sb, .slice none 0 0, n, []⟩ w1.heap.size (hs0.row.still h23) (heap_new w1 _) hl (by have := (hs0.lt _ (mem_lfoot.2 (.inl rfl))).1; have := h23.size; omega)
    obtain ⟨va7, vc7, hv7, -, -⟩ := hrow7.form
    subst hv7
    have hgr := (hs0.still h23).grow (m := ⟨sb, .slice none 0 0, n, []⟩) ht7 hrow7 ((hb2.still h23).seg) hap
    have hfr := (hs0.still h23).fr 3
    have hbx7 := ht7.heap (hs0.still h23).box (by simpa using (hs0.still h23).lb_gv)
    have fr7 := frozen_of hbx7 3
    have c37 : w7.cell? ⟨lb, 3, none⟩ = some (.slice ga ms.length gc) := by rw [cell_of hbx7]; rfl
    have z7 := lt_of_heap hbx7
    have hlen7 : (ms ++ [(⟨sb, .slice none 0 0, n, []⟩ : SM)]).length = ms.length + 1 := by rw [List.length_append, List.length_singleton]
    rw [hlen7] at hgr hr7 hrow7 hown7
    clear hlen7
    have HR7 := hide hr7
    have HGR := hide hgr
    have HT7 := hide ht7
    have HOWN7 := hide hown7
    have H23 := hide h23
    clear hb2 hf2 hs2 ht2 hs0 hap h23 hr7 hrow7 ht7 hown7 hgr hbx7 hfr
    go_wp2_with (at_builtin; go_must (refine wpList_append_told rfl rfl rfl rfl HR7.out ?_))
    go_ret
    unfold beginS
    simp only
    rw [← HC.out, HA2.out, HNE.out, if_pos rfl]
    refine ⟨rfl, F2, _, _, HGR.out, by simp [SM.abs], ?_, fun k hk => ?_⟩
    · have h1 : Turn (lfoot F lb (.slice ga ms.length gc) ms) w w1 := HT02.out.mono (fun k hk => .inl (mem_lfoot.2 (.inr (.inr (.inr hk)))))
      have h2 := (h1.same (H23.out.mono (by simp))).same (HT7.out.mono (T := lfoot F lb (.slice ga ms.length gc) ms) (fun k hk => .inl (mem_lfoot.2 (.inr (.inl (by simpa using hk))))))
      exact h2.setCell (.inl (mem_lfoot.2 (.inl rfl))) _
    · have hw1 := HT02.out.size
      rcases mem_lfoot.1 hk with h1 | h1 | ⟨x, hx, h1⟩ | h1
      · exact .inl (mem_lfoot.2 (.inl h1))
      · rcases HOWN7.out k h1 with h2 | h2
        · exact .inl (mem_lfoot.2 (.inr (.inl h2)))
        · exact .inr (by have := H23.out.size; omega)
      · rcases List.mem_append.1 hx with hx | hx
        · exact .inl (mem_lfoot.2 (.inr (.inr (.inl ⟨x, hx, h1⟩))))
        · obtain rfl := List.mem_singleton.1 hx
          simp only [SM.foot, sfoot, Value.ownBlock, List.mem_cons, Option.mem_toList] at h1
          rcases h1 with rfl | h1
          · exact .inr (by have := HS2.out; omega)
          · simp at h1
      · rcases HF2.out k h1 with h2 | h2
        · exact .inl (mem_lfoot.2 (.inr (.inr (.inr h2))))
        · exact .inr h2
end Go.Proofs.YthbhfhagbaommaaGreatDoor.Lg
