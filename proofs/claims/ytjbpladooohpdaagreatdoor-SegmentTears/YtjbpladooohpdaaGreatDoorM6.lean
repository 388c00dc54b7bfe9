/- Sgo, One, KBat, Seg5, Sgs, Sgb, Sgr, Same, Row2, OpA, OpC: texts merged. -/
import Derived.Test.YtjbpladooohpdaaGreatDoorM5
import Derived.Test.YtjbpladooohpdaaGreatDoorM4
import Derived.Test.YtjbpladooohpdaaGreatDoorM2
/- segment.Make, segment.Open. -/
namespace Go.Proofs.YtjbpladooohpdaaGreatDoor.Sg
open Go.RowKit Go.Maps
set_option maxRecDepth 100000
set_option linter.unusedSimpArgs false
set_option linter.unusedVariables false
attribute [local go_sem] Oper.semAt_some
open Dk (DA DiskAt Parts Did errR errV)

theorem base_le {w : World} {base d : Nat} {F : List Nat} {A : DA} (h : DiskAt w base d F A) : base ≤ w.heap.size := by
  obtain ⟨mref, ms, h⟩ := h
  have h1 := h.low d h.mem_self
  have h2 := h.lt d h.mem_self
  omega
theorem nameB_len {dir : ByteArray} {n : Nat} (hn : n ≤ 1099511627776) (hd : dir.size ≤ 1000) : (Sn.nameB dir n).size ≤ maxLen := by
  have := Sn.dec_short hn
  have hm : maxLen = 9223372036854775807 := by simp [maxLen]
  rw [hm]
  rw [Lib.size_eq] at hd ⊢
  simp [Sn.nameB, Sn.nameL, Sn.pad]
  simp at hd
  omega
theorem offset_yes (n : Nat) (hn : n ≤ 1099511627776) (w : World) : Calls Tryz.prog 22 #[.int .i64 n] w fun e w' => e = .returned (.bool true) ∧ w = w' := by
  refine (Sn.offset_any n w).mono ?_
  rintro e w' ⟨rfl, rfl⟩
  exact ⟨by rw [decide_eq_true (p := 0 ≤ (n : Int) ∧ (n : Int) ≤ 1099511627776) ⟨by omega, by omega⟩], rfl⟩
/-- A new segment, and its file. -/
def Fresh1 (w w' : World) (base d : Nat) (F : List Nat) (A' : DA) (sb : Nat) (file : ByteArray) (b0 : Int) : Prop :=
  ∃ F', Both w' base d F' A' sb (.slice none 0 0) file b0 [] ∧ Turn F w w' ∧ (∀ k ∈ F', k ∈ F ∨ w.heap.size ≤ k) ∧ w.heap.size ≤ sb

set_option maxHeartbeats 2000000 in
theorem empty_any (w : World) (base d : Nat) (F : List Nat) (A : DA) (h : DiskAt w base d F A) (file : ByteArray) (hf : file.size ≤ maxLen) (b0 : Int) :
    Calls Tryz.prog 23 #[.pointer (some ⟨d, 0, none⟩), .string file, .int .i64 b0] w fun e w' =>
      ((A.make file).1 ≠ 0 ∧ e = .returned (.tuple #[.pointer none, errR (A.make file).1]) ∧ Did w w' base d F (A.make file).2) ∨
      ((A.make file).1 = 0 ∧ ∃ sb, e = .returned (.tuple #[.pointer (some ⟨sb, 0, none⟩), .nilIface]) ∧ Fresh1 w w' base d F (A.make file).2 sb file b0) := by
  have H := hide h
  have HB := hide (base_le h)
  obtain ⟨mref, ms, hp⟩ := h
  go_enter Tryz.func23, Tryz.ntmps23
  go_wp2_with fail
  refine (Dk.make_any hp file hf).mono ?_
  rintro e w1 ⟨rfl, hd1⟩
  obtain ⟨c, hc⟩ : ∃ c, c = (A.make file).1 := ⟨_, rfl⟩
  have HC := hide hc
  have HD := hide hd1
  rw [← hc]
  clear hc hd1 hp
  by_cases h0 : c = 0
  · have hr : errR c = .nilIface := by rw [h0]; rfl
    rw [hr]
    have H0 := hide h0
    clear hr h0
    go_wp2
    go_ret2
    obtain ⟨F', hd, ht, hf'⟩ := HD.out
    have ht2 : Turn [] w1 (w1.alloc (.cells #[.pointer (some ⟨d, 0, none⟩), .string file, .int .i64 b0, .slice none 0 0] 67)) := (Turn.refl [] w1).alloc _
    refine .inr ⟨HC.out.symm.trans H0.out, _, rfl, F', ⟨hd.kept ht2 (by simp), ⟨heap_new w1 _, .inl ⟨rfl, rfl⟩, Nat.le_trans HB.out ht.size⟩, fun k hk hm => ?_⟩, ht.trans ht2 (by simp), hf', ht.size⟩
    simp [sfoot, Value.ownBlock] at hk
    have := hd.lt k hm
    omega
  · have hr : errR c = .iface 55 (.int .i64 c) := by unfold errR; rw [if_neg h0]; rfl
    rw [hr]
    have HR := hide hr
    have H0 := hide h0
    clear hr h0
    go_wp2
    go_ret2
    refine .inl ⟨fun e => H0.out (HC.out.trans e), ?_, HD.out⟩
    rw [← HC.out, HR.out]; rfl
set_option maxHeartbeats 2000000 in
theorem make_any (w : World) (base d : Nat) (F : List Nat) (A : DA) (h : DiskAt w base d F A) (dir : ByteArray) (hd : dir.size ≤ 1000) (n : Nat) (hn : n ≤ 1099511627776) (hv : Sn.TabT w) :
    Calls Tryz.prog 6 #[.pointer (some ⟨d, 0, none⟩), .string dir, .int .i64 n] w fun e w' =>
      ((A.make (Sn.nameB dir n)).1 ≠ 0 ∧ e = .returned (.tuple #[.pointer none, errR (A.make (Sn.nameB dir n)).1]) ∧ Did w w' base d F (A.make (Sn.nameB dir n)).2) ∨
      ((A.make (Sn.nameB dir n)).1 = 0 ∧ ∃ sb, e = .returned (.tuple #[.pointer (some ⟨sb, 0, none⟩), .nilIface]) ∧ Fresh1 w w' base d F (A.make (Sn.nameB dir n)).2 sb (Sn.nameB dir n) n) := by
  have H := hide h
  have HV := hide hv
  clear h hv
  go_enter Tryz.func6, Tryz.ntmps6
  go_wp2_with (go_at_call 22; refine (offset_yes n hn _).mono ?_; rintro e w' ⟨rfl, rfl⟩)
  refine (Sn.name_any dir n hn hd _ HV.out).mono ?_
  rintro e w1 ⟨rfl, hb1⟩
  have ht1 : Turn [] _ w1 := Turn.of_below hb1 []
  have HT1 := hide ht1
  clear hb1 ht1
  obtain ⟨file, hfile⟩ : ∃ f, f = Sn.nameB dir n := ⟨_, rfl⟩
  have HFI := hide hfile
  rw [← hfile]
  clear hfile
  go_wp2_with fail
  refine (empty_any w1 base d F A (H.out.kept HT1.out (by simp)) file (by rw [HFI.out]; exact nameB_len hn hd) n).mono ?_
  rintro e w2 (⟨h1, rfl, hdid⟩ | ⟨h1, sb, rfl, hfr⟩)
  · have HD := hide hdid
    have H1 := hide h1
    clear hdid h1
    go_wp2
    go_ret2
    rw [← HFI.out]
    obtain ⟨F', hd2, ht2, hf2⟩ := HD.out
    exact .inl ⟨H1.out, rfl, F', hd2, (HT1.out.mono (by simp)).same ht2, fun k hk => (hf2 k hk).imp_right (Nat.le_trans HT1.out.size)⟩
  · have HD := hide hfr
    have H1 := hide h1
    clear hfr h1
    go_wp2
    go_ret2
    rw [← HFI.out]
    obtain ⟨F', hb, ht2, hf2, hs⟩ := HD.out
    exact .inr ⟨H1.out, sb, rfl, F', hb, (HT1.out.mono (by simp)).same ht2, fun k hk => (hf2 k hk).imp_right (Nat.le_trans HT1.out.size), Nat.le_trans HT1.out.size hs⟩

theorem sizeOf_some {A : DA} {nm : List UInt8} {f : Dk.FA} (h : A.file nm = some f) : A.sizeOf nm = f.bytes.length := by unfold DA.sizeOf; rw [h]
theorem sizeOf_none {A : DA} {nm : List UInt8} (h : A.file nm = none) : A.sizeOf nm = -1 := by unfold DA.sizeOf; rw [h]
theorem readL_all (bs : List UInt8) : Dk.readL bs 0 bs.length = bs := by
  unfold Dk.readL
  by_cases h : bs.length = 0
  · rw [if_pos (.inr (.inl (by omega)))]; exact (List.eq_nil_of_length_eq_zero h).symm
  · rw [if_neg (by omega)]; simp
theorem read_file {w : World} {base d : Nat} {F : List Nat} {A : DA} (h : DiskAt w base d F A) (s : ByteArray) (hs : s.size ≤ maxLen) {f : Dk.FA} (hf : A.file s.data.toList = some f) (off most : Int) (hm : -9223372036854775808 ≤ most ∧ most ≤ 9223372036854775807) :
    Calls Tryz.prog 12 #[.pointer (some ⟨d, 0, none⟩), .string s, .int .i64 off, .int .i64 most] w fun e w' => ∃ v, e = .returned v ∧ RowAt w' 5 w.heap.size v (Dk.readL f.bytes off most) ∧ Turn [] w w' := by
  obtain ⟨mref, ms, hp⟩ := h
  have e := Dk.file_find hp s.data.toList
  rw [hf] at e
  obtain ⟨m, hm1, hm2⟩ := Option.map_eq_some_iff.1 e.symm
  have := Dk.read_some hp s hs off most m hm1 hm
  rw [hm2] at this
  exact this
theorem disk_size {w : World} {base d : Nat} {F : List Nat} {A : DA} (h : DiskAt w base d F A) (s : ByteArray) (hs : s.size ≤ maxLen) :
    Calls Tryz.prog 19 #[.pointer (some ⟨d, 0, none⟩), .string s] w fun e w' => e = .returned (.int .i64 (A.sizeOf s.data.toList)) ∧ w = w' := by
  obtain ⟨mref, ms, hp⟩ := h
  exact Dk.size_any hp s hs
theorem le_sum : ∀ {l : List Nat} {x : Nat}, x ∈ l → x ≤ l.sum
  | a :: r, x, h => by
    rcases List.mem_cons.1 h with rfl | h
    · simp
    · have := le_sum h; simp; omega
theorem file_short {w : World} {base d : Nat} {F : List Nat} {A : DA} (h : DiskAt w base d F A) {nm : List UInt8} {f : Dk.FA} (hf : A.file nm = some f) : f.bytes.length ≤ 1048576 := by
  have hg := h.good
  have hm : f ∈ A.files := List.mem_of_find?_eq_some hf
  have h1 : f.bytes.length ≤ Dk.usedL A.files := by
    unfold Dk.usedL
    exact le_sum (List.mem_map_of_mem (f := fun f : Dk.FA => f.bytes.length) hm)
  have := hg.used
  have := hg.room
  omega

set_option maxHeartbeats 2000000 in
theorem open_none (w : World) (base d : Nat) (F : List Nat) (A : DA) (h : DiskAt w base d F A) (dir : ByteArray) (hd : dir.size ≤ 1000) (n : Nat) (hn : n ≤ 1099511627776) (hv : Sn.TabT w) (hf : A.file (Sn.nameB dir n).data.toList = none) :
    Calls Tryz.prog 16 #[.pointer (some ⟨d, 0, none⟩), .string dir, .int .i64 n] w fun e w' => e = .returned (.tuple #[.pointer none, .int .i64 0, errV 7]) ∧ Turn [] w w' := by
  have H := hide h
  have HV := hide hv
  have HF := hide hf
  clear h hv hf
  go_enter Tryz.func16, Tryz.ntmps16
  go_wp2_with fail
  refine (Sn.name_any dir n hn hd _ HV.out).mono ?_
  rintro e w1 ⟨rfl, hb1⟩
  have HT1 := hide (Turn.of_below hb1 [])
  clear hb1
  go_wp2_with fail
  refine (disk_size (H.out.kept HT1.out (by simp)) _ (nameB_len hn hd)).mono ?_
  rintro e w' ⟨rfl, rfl⟩
  rw [sizeOf_none HF.out]
  go_wp2_with (go_at_call 22; refine (offset_yes n hn _).mono ?_; rintro e w' ⟨rfl, rfl⟩)
  refine bodyPost_ret (v := .tuple #[.pointer none, .int .i64 0, errV 7]) (by simp [results, Tryz.results16, errV]) rfl ⟨rfl, HT1.out⟩

/-- What Open has come to: a segment of the batches at the file's beginning; what is behind them is cut off. -/
def Opened (w w' : World) (base d : Nat) (F : List Nat) (A : DA) (file : ByteArray) (b0 : Int) (f : Dk.FA) (xs : List Bt.Bat) (e : Ending) : Prop :=
  (f.bytes.length = (flat xs).length ∧ ∃ sb sv, e = .returned (.tuple #[.pointer (some ⟨sb, 0, none⟩), .int .i64 0, .nilIface]) ∧ Both w' base d F A sb sv file b0 (pls 0 (-1) xs) ∧ Turn [] w w' ∧ ∀ k ∈ sfoot sb sv, w.heap.size ≤ k) ∨
  ((flat xs).length < f.bytes.length ∧ (A.cut file.data.toList (flat xs).length).1 ≠ 0 ∧ e = .returned (.tuple #[.pointer none, .int .i64 0, errR (A.cut file.data.toList (flat xs).length).1]) ∧ Did w w' base d F (A.cut file.data.toList (flat xs).length).2) ∨
  ((flat xs).length < f.bytes.length ∧ (A.cut file.data.toList (flat xs).length).1 = 0 ∧ ∃ F' sb sv, e = .returned (.tuple #[.pointer (some ⟨sb, 0, none⟩), .int .i64 ((f.bytes.length - (flat xs).length : Nat) : Int), .nilIface]) ∧
    Both w' base d F' (A.cut file.data.toList (flat xs).length).2 sb sv file b0 (pls 0 (-1) xs) ∧ Turn F w w' ∧ (∀ k ∈ F', k ∈ F ∨ w.heap.size ≤ k) ∧ ∀ k ∈ sfoot sb sv, w.heap.size ≤ k)
set_option maxHeartbeats 4000000 in
theorem open_some (w : World) (base d : Nat) (F : List Nat) (A : DA) (h : DiskAt w base d F A) (dir : ByteArray) (hd : dir.size ≤ 1000) (n : Nat) (hn : n ≤ 1099511627776) (hv : Sn.TabT w) (f : Dk.FA) (hf : A.file (Sn.nameB dir n).data.toList = some f) :
    Calls Tryz.prog 16 #[.pointer (some ⟨d, 0, none⟩), .string dir, .int .i64 n] w fun e w' => ∃ xs, Scan n f.bytes xs ∧ Opened w w' base d F A (Sn.nameB dir n) n f xs e := by
  have H := hide h
  have HV := hide hv
  have HF := hide hf
  have hfs := file_short h hf
  clear h hv hf
  obtain ⟨file, hfile⟩ : ∃ f, f = Sn.nameB dir n := ⟨_, rfl⟩
  have HFI := hide hfile
  rw [← hfile]
  have HFL : Hid (file.size ≤ maxLen) := by show _ ≤ _; rw [hfile]; exact nameB_len hn hd
  rw [← hfile] at HF
  clear hfile
  go_enter Tryz.func16, Tryz.ntmps16
  go_wp2_with fail
  refine (Sn.name_any dir n hn hd _ HV.out).mono ?_
  rintro e w1 ⟨rfl, hb1⟩
  have HT1 := hide (Turn.of_below hb1 [])
  rw [← HFI.out]
  clear hb1
  go_wp2_with fail
  refine (disk_size (H.out.kept HT1.out (by simp)) _ HFL.out).mono ?_
  rintro e w' ⟨rfl, rfl⟩
  rw [sizeOf_some HF.out]
  go_wp2_with (go_at_call 22; refine (offset_yes n hn _).mono ?_; rintro e w' ⟨rfl, rfl⟩)
  have hsg : SegAt (w1.alloc (.cells #[.pointer (some ⟨d, 0, none⟩), .string file, .int .i64 n, .slice none 0 0] 67)) base d w1.heap.size (.slice none 0 0) file n (pls 0 (-1) []) :=
    ⟨heap_new w1 _, .inl ⟨rfl, rfl⟩, base_le (H.out.kept HT1.out (by simp))⟩
  have hta : Turn [] w (w1.alloc (.cells #[.pointer (some ⟨d, 0, none⟩), .string file, .int .i64 n, .slice none 0 0] 67)) := HT1.out.alloc _
  refine (read_file (H.out.kept hta (by simp)) file HFL.out HF.out 0 f.bytes.length (by omega)).mono ?_
  rintro e w2 ⟨v, rfl, hrow, ht2⟩
  rw [readL_all] at hrow
  have HROW := hide hrow
  have HSG := hide (hsg.still ht2)
  have HT2 := hide (hta.same ht2)
  obtain ⟨sb, hsb⟩ : ∃ sb, sb = w1.heap.size := ⟨_, rfl⟩
  have HSB : Hid (w.heap.size ≤ sb) := by show _ ≤ _; rw [hsb]; exact HT1.out.size
  have HOWN : Hid (∀ k ∈ v.ownBlock, k < w2.heap.size → k ∉ sfoot sb (.slice none 0 0)) := fun k hk _ hm => by
    have := (HROW.out.lt k hk).1
    simp [sfoot, Value.ownBlock] at hm this
    omega
  rw [← hsb] at HSG
  rw [← hsb]
  clear hsg hta hrow ht2 hsb
  go_wp2_with fail
  refine (find_any w2 base d sb _ file n [] HSG.out v f.bytes HROW.out.bytes HOWN.out (by simp [flat]; omega)).mono ?_
  rintro e w3 ⟨rfl, xs, sv, hscan, hseg, ht3, hft⟩
  have hsc : Scan n f.bytes xs := hscan
  obtain ⟨hch, hwh⟩ := hsc.whole
  have hfl := flat_len xs
  have hlf : (flat xs).length ≤ f.bytes.length := by have := congrArg List.length hwh; rw [List.length_append] at this; omega
  have htw : Turn [] w w3 := HT2.out.trans ht3 (fun k hk => .inr (by simp [sfoot, Value.ownBlock] at hk; have := HSB.out; omega))
  have hfoot : ∀ k ∈ sfoot sb sv, w.heap.size ≤ k := fun k hk => by
    rcases hft k hk with h | h
    · simp [sfoot, Value.ownBlock] at h; have := HSB.out; omega
    · exact Nat.le_trans HT2.out.size h
  have hboth : Both w3 base d F A sb sv file n (pls 0 (-1) xs) := ⟨H.out.kept htw (by simp), hseg, fun k hk hm => by have := hfoot k hk; have := H.out.lt k hm; omega⟩
  have HBO := hide hboth
  have HSC := hide hsc
  have HTW := hide htw
  have HFT := hide hfoot
  clear hscan hseg ht3 hft hsc hch hwh htw hfoot hboth
  by_cases hls : f.bytes.length = (flat xs).length
  · go_wp2_with fail
    refine (size_any w3 base d sb sv file n _ HBO.out.seg (by rw [pls_len]; omega) (by rw [sizeP_pls]; omega)).mono ?_
    rintro e w4 ⟨rfl, ht4⟩
    rw [sizeP_pls]
    have HT4 := hide ht4
    have HLS := hide hls
    clear ht4 hls
    have h0 : ((f.bytes.length : Int) - ((flat xs).length : Int)) = 0 := by have := HLS.out; omega
    go_wp2
    refine bodyPost_ret (v := .tuple #[.pointer (some ⟨sb, 0, none⟩), .int .i64 0, .nilIface]) (by simp [results, Tryz.results16]) rfl ⟨xs, HSC.out, .inl ⟨HLS.out, sb, sv, rfl, HBO.out.still HT4.out, HTW.out.same HT4.out, HFT.out⟩⟩
  · have hlt : (flat xs).length < f.bytes.length := by omega
    have HLT := hide hlt
    have h0 : ¬ ((f.bytes.length : Int) - ((flat xs).length : Int)) = 0 := by omega
    clear hls hlt
    go_wp2_with fail
    refine (size_any w3 base d sb sv file n _ HBO.out.seg (by rw [pls_len]; omega) (by rw [sizeP_pls]; omega)).mono ?_
    rintro e w4 ⟨rfl, ht4⟩
    rw [sizeP_pls]
    have HB4 := hide (HBO.out.still ht4)
    have HT4 := hide (HTW.out.same ht4)
    clear ht4
    go_wp2_with fail
    refine (size_any w4 base d sb sv file n _ HB4.out.seg (by rw [pls_len]; omega) (by rw [sizeP_pls]; omega)).mono ?_
    rintro e w5 ⟨rfl, ht5⟩
    rw [sizeP_pls]
    have HB5 := hide (HB4.out.still ht5)
    have HT5 := hide (HT4.out.same ht5)
    clear ht5
    obtain ⟨mref, ms, hp⟩ := HB5.out.disk
    go_wp2_with fail
    refine (Dk.cut_any hp file HFL.out (flat xs).length).mono ?_
    rintro e w6 ⟨rfl, F', hd6, ht6, hf6⟩
    obtain ⟨c, hc⟩ : ∃ c, c = (A.cut file.data.toList (flat xs).length).1 := ⟨_, rfl⟩
    have HC := hide hc
    rw [← hc]
    have HD6 := hide hd6
    have HT6 := hide ht6
    have HF6 := hide hf6
    clear hc hd6 ht6 hf6 hp
    by_cases hc0 : c = 0
    · have hr : errR c = .nilIface := by rw [hc0]; rfl
      rw [hr]
      have HC0 := hide hc0
      clear hr hc0
      go_wp2
      refine bodyPost_ret (v := .tuple #[.pointer (some ⟨sb, 0, none⟩), .int .i64 ((f.bytes.length - (flat xs).length : Nat) : Int), .nilIface]) ?_ rfl ⟨xs, HSC.out, .inr (.inr ⟨HLT.out, HC.out.symm.trans HC0.out, F', sb, sv, rfl, ⟨HD6.out, HB5.out.seg.kept HT6.out HB5.out.sep, fun k hk hm => ?_⟩, (HT5.out.mono (by simp)).same HT6.out, fun k hk => (HF6.out k hk).imp_right (Nat.le_trans HT5.out.size), HFT.out⟩)⟩
      · have e : ((f.bytes.length - (flat xs).length : Nat) : Int) = (f.bytes.length : Int) - ((flat xs).length : Int) := by omega
        simp [results, Tryz.results16, e]
      · rcases HF6.out k hm with h | h
        · exact HB5.out.sep k hk h
        · have := (HB5.out.seg.lt k hk).2; omega
    · have hr : errR c = .iface 55 (.int .i64 c) := by unfold errR; rw [if_neg hc0]; rfl
      rw [hr]
      have HR := hide hr
      have HC0 := hide hc0
      clear hr hc0
      go_wp2
      refine bodyPost_ret (v := .tuple #[.pointer none, .int .i64 0, errR c]) (by rw [HR.out]; simp [results, Tryz.results16]) rfl ⟨xs, HSC.out, .inr (.inl ⟨HLT.out, fun e => HC0.out (HC.out.trans e), by rw [← HC.out], F', HD6.out, (HT5.out.mono (by simp)).same HT6.out, fun k hk => (HF6.out k hk).imp_right (Nat.le_trans HT5.out.size)⟩)⟩
end Go.Proofs.YtjbpladooohpdaaGreatDoor.Sg

/- A disk of one file: what its operations come to. -/
namespace Go.Proofs.YtjbpladooohpdaaGreatDoor.Sg
set_option linter.unusedSimpArgs false
set_option linter.unusedVariables false
open Go.RowKit
open Dk (DA)

structure One (A : DA) (room : Nat) (nm bs : List UInt8) : Prop where
  lim : A.limited = false
  room : A.room = room
  one : ∃ sf, A.files = [⟨nm, bs, sf⟩]
theorem One.fails {A : DA} {room : Nat} {nm bs : List UInt8} (h : One A room nm bs) : A.fails = false := by unfold DA.fails; rw [h.lim]; rfl
theorem One.tick {A : DA} {room : Nat} {nm bs : List UInt8} (h : One A room nm bs) : A.tick = A := by unfold DA.tick; rw [h.lim]; rfl
theorem One.file {A : DA} {room : Nat} {nm bs : List UInt8} (h : One A room nm bs) : ∃ f, A.file nm = some f ∧ f.bytes = bs := by
  obtain ⟨sf, e⟩ := h.one
  exact ⟨⟨nm, bs, sf⟩, by unfold DA.file; rw [e]; simp, rfl⟩
theorem One.has {A : DA} {room : Nat} {nm bs : List UInt8} (h : One A room nm bs) : A.has nm = true := by
  obtain ⟨f, e, -⟩ := h.file
  rw [Dk.has_file, e]; rfl
theorem One.used {A : DA} {room : Nat} {nm bs : List UInt8} (h : One A room nm bs) : Dk.usedL A.files = bs.length := by
  obtain ⟨sf, e⟩ := h.one
  rw [e]; simp [Dk.usedL]
theorem One.upd {A : DA} {room : Nat} {nm bs : List UInt8} (h : One A room nm bs) (g : Dk.FA → Dk.FA) (hg : ∀ f, (g f).name = f.name) (bs' : List UInt8) (hb : ∀ sf, (g ⟨nm, bs, sf⟩).bytes = bs') : One (A.upd nm g) room nm bs' := by
  obtain ⟨sf, e⟩ := h.one
  refine ⟨h.lim, h.room, (g ⟨nm, bs, sf⟩).safe, ?_⟩
  unfold DA.upd Dk.setF
  rw [e]
  have h1 := hg ⟨nm, bs, sf⟩
  have h2 := hb sf
  simp only [List.map_cons, List.map_nil, beq_self_eq_true, if_true]
  generalize g ⟨nm, bs, sf⟩ = y at *
  cases y
  simp_all
theorem One.add {A : DA} {room : Nat} {nm bs : List UInt8} (h : One A room nm bs) (b : List UInt8) (hr : bs.length + b.length ≤ room) : (A.add nm b).1 = 0 ∧ One (A.add nm b).2 room nm (bs ++ b) := by
  have e : A.add nm b = (0, A.tick.upd nm (fun f => { f with bytes := f.bytes ++ b })) := by
    unfold DA.add
    rw [h.fails, h.has, h.used, h.room, if_neg (by simp), if_neg (by simp), if_neg (by omega)]
  rw [e, h.tick]
  exact ⟨rfl, h.upd (fun f => { f with bytes := f.bytes ++ b }) (fun _ => rfl) (bs ++ b) (fun _ => rfl)⟩
theorem One.cut {A : DA} {room : Nat} {nm bs : List UInt8} (h : One A room nm bs) (n : Nat) (hn : n ≤ bs.length) : (A.cut nm n).1 = 0 ∧ One (A.cut nm n).2 room nm (bs.take n) := by
  obtain ⟨f, hf, hb⟩ := h.file
  have e : A.cut nm n = (0, A.tick.upd nm (Dk.cut1 n)) := by
    unfold DA.cut
    rw [h.fails, hf, if_neg (by simp)]
    simp only
    rw [if_neg (by rw [hb]; omega)]
    simp
  rw [e, h.tick]
  exact ⟨rfl, h.upd (Dk.cut1 n) (fun _ => rfl) (bs.take n) (fun _ => rfl)⟩
theorem One.size {A : DA} {room : Nat} {nm bs : List UInt8} (h : One A room nm bs) : A.sizeOf nm = bs.length := by
  obtain ⟨f, hf, hb⟩ := h.file
  rw [sizeOf_some hf, hb]
theorem make_one (r : Nat) (s : ByteArray) (hs : Dk.nameB s = true) : ((Dk.DA.empty r).make s).1 = 0 ∧ One ((Dk.DA.empty r).make s).2 r s.data.toList [] := by
  have e : (Dk.DA.empty r).make s = (0, { (Dk.DA.empty r).tick with files := (Dk.DA.empty r).files ++ [⟨s.data.toList, [], 0⟩] }) := by
    unfold DA.make
    rw [hs]
    rfl
  rw [e]
  exact ⟨rfl, rfl, rfl, 0, rfl⟩
/-- The directory of the laws. -/
def dirS : ByteArray := ⟨#[115]⟩
theorem nameS_ok (n : Nat) (hn : n ≤ 1099511627776) : Dk.nameB (Sn.nameB dirS n) = true := by
  have hd : ∀ c ∈ Sn.pad (Lib.decDigits n), Dk.nb8 c = true := by
    intro c hc
    have h := Sn.pad_digit n c hc
    unfold Dk.nb8 Dk.nb
    rw [decide_eq_true_eq]
    omega
  have hl := Sn.dec_short hn
  have hsz : (Sn.nameB dirS n).size = (Sn.nameL [115] n).length := by rw [Lib.size_eq]; rfl
  have hlen : (Sn.nameL [115] n).length ≤ 40 ∧ 1 ≤ (Sn.nameL [115] n).length := by
    unfold Sn.nameL Sn.pad
    simp
    omega
  unfold Dk.nameB
  rw [hsz]
  have ha : Dk.allB Dk.nb8 (Sn.nameB dirS n) = true := by
    unfold Dk.allB
    show (Sn.nameL [115] n).all Dk.nb8 = true
    rw [List.all_eq_true]
    intro c hc
    unfold Sn.nameL at hc
    simp only [List.mem_append, List.mem_cons, List.mem_nil_iff, or_false] at hc
    rcases hc with ((rfl | rfl) | hc) | hc
    · decide
    · decide
    · exact hd c hc
    · rcases hc with rfl | rfl | rfl | rfl <;> decide
  rw [ha]
  simp [hlen]
end Go.Proofs.YtjbpladooohpdaaGreatDoor.Sg

/- conveyorkeep's batch and pick. -/
namespace Go.Proofs.YtjbpladooohpdaaGreatDoor
open Go.RowKit Go.Maps
set_option maxRecDepth 100000
set_option linter.unusedSimpArgs false
set_option linter.unusedVariables false

theorem pickN_any (x : Int) (n : Nat) (hn : 0 < n) (hn2 : n ≤ 1099511627776) (w : World) : Calls Tryz.prog 13 #[.int .i64 x, .int .i64 n] w fun e w' => (∃ p : Nat, p < n ∧ e = .returned (.int .i64 p)) ∧ w = w' := by
  have hw : IntKind.u64.wrap (n : Int) = (n : Int) := by simp [IntKind.wrap, IntKind.bits, IntKind.signed]; omega
  have h0 : 0 ≤ IntKind.u64.wrap x := by simp [IntKind.wrap, IntKind.bits, IntKind.signed]; omega
  have hz : ¬ ((n : Int) = 0) := by omega
  go_enter Tryz.func13, Tryz.ntmps13
  go_wp2
  go_ret
  obtain ⟨m, hm⟩ := Int.eq_ofNat_of_zero_le h0
  refine ⟨⟨m % n, Nat.mod_lt _ hn, ?_⟩, rfl⟩
  rw [hm]
  refine congrArg (fun z => Ending.returned (.int .i64 z)) ?_
  have hlt := Nat.mod_lt m hn
  have : (m : Int) % n = ((m % n : Nat) : Int) := by omega
  rw [this]
  unfold wrap64; omega

/-- The records that batch makes. -/
def renum (b : Int) (rs : List Bt.Rec) : List Bt.Rec := rs.zipIdx.map fun p => { p.1 with off := b + p.2 }
theorem renum_snoc (b : Int) (rs : List Bt.Rec) {k : Nat} (hk : k < rs.length) : renum b (rs.take (k + 1)) = renum b (rs.take k) ++ [{ rs[k] with off := b + k }] := by
  have : rs.take (k + 1) = rs.take k ++ [rs[k]] := by simp
  unfold renum
  rw [this, List.zipIdx_append, List.map_append]
  simp [Nat.min_eq_left (Nat.le_of_lt hk)]
theorem renum_len (b : Int) (rs : List Bt.Rec) : (renum b rs).length = rs.length := by simp [renum]
theorem renum_ok (b : Int) (rs : List Bt.Rec) (h : ∀ r ∈ rs, RecOk r) (hb : 0 ≤ b) (hb2 : b ≤ 1099511627776) (hl : rs.length ≤ 1000000) : ∀ r ∈ renum b rs, RecOk r := by
  intro r hr
  unfold renum at hr
  obtain ⟨⟨q, i⟩, hq, rfl⟩ := List.mem_map.1 hr
  obtain ⟨h1, h2⟩ := List.mem_zipIdx' hq
  obtain ⟨o1, o2, t1, t2, k1, v1⟩ := h q (List.mem_iff_getElem.2 ⟨i, h1, h2.symm⟩)
  exact ⟨by simp only; omega, by simp only; omega, t1, t2, k1, v1⟩
def batOf (b : Int) (rs : List Bt.Rec) : Bt.Bat := ⟨b, b + rs.length, renum b rs⟩

/-- Where batch's loop stands. -/
structure KSt0 (w0 w : World) (X : Nat) (b f : Int) (sv : Value) (rs : List Bt.Rec) : Prop where
  hx : X = w0.heap.size + 1
  x : w.heap[X]? = some (.cells #[.int .i64 b, .int .i64 f, sv] 37 (0, 0))
  y : w.heap[w0.heap.size]? = some (.cells #[.int .i64 0, .int .i64 0, .slice none 0 0] 37 (0, 0))
  row : RecRow w (X + 1) sv rs
  turn : Turn [] w0 w
theorem KSt0.still {w0 w w' : World} {X : Nat} {b f : Int} {sv : Value} {rs : List Bt.Rec} (h : KSt0 w0 w X b f sv rs) (ht : Turn [] w w') : KSt0 w0 w' X b f sv rs :=
  ⟨h.hx, ht.heap h.x (by simp), ht.heap h.y (by simp), h.row.kept ht (by simp), h.turn.same ht⟩
theorem KSt0.setR {w0 w w2 : World} {X : Nat} {b f : Int} {sv s2 : Value} {rs r2 : List Bt.Rec} (h : KSt0 w0 w X b f sv rs) (h1 : RecRow w2 (X + 1) s2 r2) (h2 : Turn sv.ownBlock.toList w w2) : KSt0 w0 (w2.setCell ⟨X, 2, none⟩ s2) X b f s2 r2 := by
  have hx := h.hx
  have ht : Turn [X] w2 (w2.setCell ⟨X, 2, none⟩ s2) := (Turn.refl _ _).setCell (.inl (by simp)) _
  have own : ∀ k ∈ sv.ownBlock.toList, X + 1 ≤ k := fun k hk => (h.row.lt k (by simpa using hk)).1
  have hx2 : w2.heap[X]? = some (.cells #[.int .i64 b, .int .i64 f, sv] 37 (0, 0)) := h2.heap h.x (fun hm => by have := own X hm; omega)
  have hy2 := h2.heap h.y (fun hm => by have := own _ hm; omega)
  refine ⟨hx, by simpa using heap_set hx2 2 s2, ht.heap hy2 (by simp; omega), h1.kept ht (fun k hk => by have := (h1.lt k hk).1; simp; omega), ?_⟩
  exact (h.turn.trans h2 (fun k hk => .inr (by have := own k hk; omega))).trans ht (fun k hk => .inr (by simp at hk; omega))
theorem KSt0.cells {w0 w : World} {X : Nat} {b f : Int} {sv : Value} {rs : List Bt.Rec} (h : KSt0 w0 w X b f sv rs) :
    (w.cell? ⟨X, 0, none⟩ = some (.int .i64 b) ∧ w.cell? ⟨X, 1, none⟩ = some (.int .i64 f) ∧ w.cell? ⟨X, 2, none⟩ = some sv) ∧
    (w.frozen? ⟨X, 0, none⟩ = false ∧ w.frozen? ⟨X, 1, none⟩ = false ∧ w.frozen? ⟨X, 2, none⟩ = false) ∧
    (w.cell? ⟨w0.heap.size, 0, none⟩ = some (.int .i64 0) ∧ w.cell? ⟨w0.heap.size, 1, none⟩ = some (.int .i64 0) ∧ w.cell? ⟨w0.heap.size, 2, none⟩ = some (.slice none 0 0)) ∧
    (w.frozen? ⟨w0.heap.size, 0, none⟩ = false ∧ w.frozen? ⟨w0.heap.size, 1, none⟩ = false ∧ w.frozen? ⟨w0.heap.size, 2, none⟩ = false) ∧ X < w.heap.size ∧ w0.heap.size < w.heap.size :=
  ⟨⟨by simpa using cell_of h.x 0, by simpa using cell_of h.x 1, by simpa using cell_of h.x 2⟩, ⟨frozen_of h.x 0, frozen_of h.x 1, frozen_of h.x 2⟩,
   ⟨by simpa using cell_of h.y 0, by simpa using cell_of h.y 1, by simpa using cell_of h.y 2⟩, ⟨frozen_of h.y 0, frozen_of h.y 1, frozen_of h.y 2⟩, lt_of_heap h.x, lt_of_heap h.y⟩
/-- What is answered, stored. -/
theorem KSt0.fin {w0 w : World} {X : Nat} {b f : Int} {sv : Value} {rs : List Bt.Rec} (h : KSt0 w0 w X b f sv rs) :
    (loadVar 37 ⟨w0.heap.size, 0, none⟩).run Tryz.prog (((w.setCell ⟨w0.heap.size, 0, none⟩ (.int .i64 b)).setCell ⟨w0.heap.size, 1, none⟩ (.int .i64 f)).setCell ⟨w0.heap.size, 2, none⟩ sv) = .ok (.agg #[.int .i64 b, .int .i64 f, sv]) (((w.setCell ⟨w0.heap.size, 0, none⟩ (.int .i64 b)).setCell ⟨w0.heap.size, 1, none⟩ (.int .i64 f)).setCell ⟨w0.heap.size, 2, none⟩ sv) ∧
    RecRow (((w.setCell ⟨w0.heap.size, 0, none⟩ (.int .i64 b)).setCell ⟨w0.heap.size, 1, none⟩ (.int .i64 f)).setCell ⟨w0.heap.size, 2, none⟩ sv) (w0.heap.size + 2) sv rs ∧ Turn [] w0 (((w.setCell ⟨w0.heap.size, 0, none⟩ (.int .i64 b)).setCell ⟨w0.heap.size, 1, none⟩ (.int .i64 f)).setCell ⟨w0.heap.size, 2, none⟩ sv) := by
  have hx := h.hx
  have hy := heap_set (heap_set (heap_set h.y 0 (.int .i64 b)) 1 (.int .i64 f)) 2 sv
  have ht : Turn [w0.heap.size] w (((w.setCell ⟨w0.heap.size, 0, none⟩ (.int .i64 b)).setCell ⟨w0.heap.size, 1, none⟩ (.int .i64 f)).setCell ⟨w0.heap.size, 2, none⟩ sv) :=
    (((Turn.refl _ _).setCell (.inl (by simp)) _).setCell (.inl (by simp)) _).setCell (.inl (by simp)) _
  refine ⟨load_bat (by simpa using hy), ?_, h.turn.trans ht (fun k hk => .inr (by simp at hk; omega))⟩
  rcases h.row.kept ht (fun k hk => by have := (h.row.lt k hk).1; simp; omega) with h | ⟨g, cap, cur, e, hb, r⟩
  · exact .inl h
  · exact .inr ⟨g, cap, cur, e, by omega, r⟩

set_option maxHeartbeats 4000000 in
theorem kbatch_any (w : World) (b : Int) (v : Value) (rs : List Bt.Rec) (h : RecsAt w v rs) (hb : 0 ≤ b) (hb2 : b ≤ 1099511627776) (hl : rs.length ≤ 1000000) :
    Calls Tryz.prog 7 #[.int .i64 b, v] w fun e w' => ∃ sv, e = .returned (.agg #[.int .i64 b, .int .i64 (b + rs.length), sv]) ∧ RecRow w' (w.heap.size + 2) sv (renum b rs) ∧ Turn [] w w' := by
  obtain ⟨a, c, rfl, hlc, hcm, hn0, hp⟩ := h.form
  have hmx : maxLen = 9223372036854775807 := by simp [maxLen]
  rw [hmx] at hcm
  have HR : Hid (RecsAt w (.slice a rs.length c) rs) := h
  clear h hn0
  go_enter Tryz.func7, Tryz.ntmps7
  go_wp2
  have hy1 := heap_new w (.cells #[.int .i64 0, .int .i64 0, .slice none 0 0] 37)
  have hst : KSt0 w ((w.alloc (.cells #[.int .i64 0, .int .i64 0, .slice none 0 0] 37)).alloc (.cells #[.int .i64 b, .int .i64 (b + rs.length), .slice none 0 0] 37)) (w.heap.size + 1) b (b + rs.length) (.slice none 0 0) (renum b (rs.take 0)) := by
    refine ⟨rfl, ?_, ((Turn.refl [] _).alloc _).heap hy1 (by simp), .inl ⟨rfl, by simp [renum]⟩, ((Turn.refl [] w).alloc _).alloc _⟩
    have := heap_new (w.alloc (.cells #[.int .i64 0, .int .i64 0, .slice none 0 0] 37)) (.cells #[.int .i64 b, .int .i64 (b + rs.length), .slice none 0 0] 37)
    rwa [World.size_alloc] at this
  clear hy1
  obtain ⟨X, hX⟩ : ∃ X, X = w.heap.size + 1 := ⟨_, rfl⟩
  rw [← hX] at hst ⊢
  have HST := hide hst
  have HX := hide hX
  clear hst hX
  go_loopw [6] (fun i wr => ∃ (k : Nat) (sv : Value), k ≤ rs.length ∧ i = .int .i64 k ∧ KSt0 w wr X b (b + rs.length) sv (renum b (rs.take k))) (fun i _ => rs.length - (intOf i).toNat)
  case atStart => exact ⟨0, _, Nat.zero_le _, rfl, HST.out⟩
  case round =>
    obtain ⟨k, sv, hk, rfl, hs⟩ := hrel
    have HS := hide hs
    obtain ⟨⟨c0, c1, c2⟩, ⟨f0, f1, f2⟩, ⟨y0, y1, y2⟩, ⟨q0, q1, q2⟩, z1, z2⟩ := hs.cells
    clear hs
    by_cases hlt : k < rs.length
    · obtain ⟨p, rfl⟩ := hp k hlt
      obtain ⟨g0, g1, g2, g3, g4, g5⟩ := (HR.out.still HS.out.turn).six hlt
      obtain ⟨r, hr⟩ : ∃ r, r = rs[k] := ⟨_, rfl⟩
      have HRN := hide (renum_snoc b rs hlt)
      rw [← hr] at g0 g1 g2 g3 g4 g5 HRN
      clear hr
      have hw7 : Turn [] wr ((wr.alloc (.cells #[.int .i64 (b + k), .int .i64 r.time, .bool r.keyed, .string ⟨r.key.toArray⟩, .bool r.gone, .string ⟨r.value.toArray⟩] 53)).alloc (.cells #[.int .i64 (b + k), .int .i64 r.time, .bool r.keyed, .string ⟨r.key.toArray⟩, .bool r.gone, .string ⟨r.value.toArray⟩] 53)) := ((Turn.refl [] wr).alloc _).alloc _
      have hk7 : ((wr.alloc (.cells #[.int .i64 (b + k), .int .i64 r.time, .bool r.keyed, .string ⟨r.key.toArray⟩, .bool r.gone, .string ⟨r.value.toArray⟩] 53)).alloc (.cells #[.int .i64 (b + k), .int .i64 r.time, .bool r.keyed, .string ⟨r.key.toArray⟩, .bool r.gone, .string ⟨r.value.toArray⟩] 53)).heap[wr.heap.size + 1]? = some (.cells (recC ⟨b + k, r.time, r.keyed, r.key, r.gone, r.value⟩).toArray 53 (0, 0)) := by
        have := heap_new (wr.alloc (.cells #[.int .i64 (b + k), .int .i64 r.time, .bool r.keyed, .string ⟨r.key.toArray⟩, .bool r.gone, .string ⟨r.value.toArray⟩] 53)) (.cells #[.int .i64 (b + k), .int .i64 r.time, .bool r.keyed, .string ⟨r.key.toArray⟩, .bool r.gone, .string ⟨r.value.toArray⟩] 53)
        rwa [World.size_alloc] at this
      obtain ⟨v7, w7, hr7, hrow7, ht7, -⟩ := run_append_rec _ (X + 1) sv (renum b (rs.take k)) ⟨b + k, r.time, r.keyed, r.key, r.gone, r.value⟩ (wr.heap.size + 1) ((HS.out.still hw7).row) hk7 (by rw [renum_len, List.length_take]; omega) (by simp; omega)
      have HS7 := hide (HS.out.still hw7)
      obtain ⟨a7, n7, p7, hv7⟩ := hrow7.some_slice
      subst hv7
      have hx7 := ht7.heap HS7.out.x (fun hm => by have := (HS7.out.row.lt X (by simpa using hm)).1; omega)
      have c7 : w7.cell? ⟨X, 2, none⟩ = some sv := by simpa using cell_of hx7 2
      have f7 : w7.frozen? ⟨X, 2, none⟩ = false := frozen_of hx7 2
      have HROW7 := hide hrow7
      have HT7 := hide ht7
      have HR7 := hide hr7
      clear hw7 hk7 hr7 hrow7 ht7 hx7
      go_wp2_with (at_builtin; go_must (refine wpList_append_told rfl rfl rfl rfl HR7.out ?_))
      all_goals refine ⟨⟨k + 1, _, by omega, by go_num, by rw [HRN.out]; exact HS7.out.setR HROW7.out HT7.out⟩, ?_⟩
      all_goals (simp only [intOf]; omega)
    · obtain rfl : k = rs.length := by omega
      rw [List.take_length] at HS
      obtain ⟨sa, sn, sc, hsv⟩ := HS.out.row.some_slice
      subst hsv
      go_wp2
      have hfin := HS.out.fin
      have hld := hfin.1
      refine bodyPost_ret (v := .agg #[.int .i64 b, .int .i64 (b + rs.length), .slice sa sn sc]) (by simp [results, Tryz.results7, asAddr, hld, Result.andThen]) rfl ?_
      exact ⟨_, rfl, hfin.2.1, hfin.2.2⟩
end Go.Proofs.YtjbpladooohpdaaGreatDoor

/- conveyorkeep.segmented: true. -/
namespace Go.Proofs.YtjbpladooohpdaaGreatDoor.Sg
open Go.RowKit Go.Maps
set_option maxRecDepth 100000
set_option linter.unusedSimpArgs false
set_option linter.unusedVariables false
attribute [local go_sem] Oper.semAt_some
open Dk (DA DiskAt Parts Did errR errV)

/-- A batch of the laws' own, put at a segment's end. -/
theorem kadd_any (w : World) (base d : Nat) (F : List Nat) (A : DA) (sb : Nat) (sv : Value) (file : ByteArray) (b0 : Int) (xs : List Bt.Bat) (room : Nat) (bs : List UInt8) (h : Both w base d F A sb sv file b0 (pls 0 (-1) xs)) (ho : One A room file.data.toList (flat xs)) (hfs : file.size ≤ maxLen)
    (va : Value) (base' : Nat) (rs : List Bt.Rec) (nx : Int) (hnx : nx = nextOf b0 xs) (hr : RecRow w base' va (renum nx rs)) (hok : ∀ r ∈ renum nx rs, RecOk r) (hb' : ∀ k ∈ F, k < base') (hb2 : ∀ k ∈ sfoot sb sv, k < base') (hn0 : 0 ≤ nx) (hn1 : nx + rs.length ≤ 1099511627776) (hroom : Bt.encErr (batOf nx rs) = 0 → (flat xs).length + (Bt.encB (batOf nx rs)).length ≤ room) :
    Calls Tryz.prog 9 #[.pointer (some ⟨sb, 0, none⟩), .agg #[.int .i64 nx, .int .i64 (nx + rs.length), va]] w fun e w' =>
      (Bt.encErr (batOf nx rs) ≠ 0 ∧ e = .returned (errR (Bt.encErr (batOf nx rs))) ∧ Turn [] w w') ∨
      (Bt.encErr (batOf nx rs) = 0 ∧ e = .returned .nilIface ∧ ∃ A', One A' room file.data.toList (flat (xs ++ [batOf nx rs])) ∧ Came w w' base d F A' sb sv file b0 (pls 0 (-1) (xs ++ [batOf nx rs]))) := by
  have hfl := flat_len xs
  have hsh : (flat xs).length ≤ 1048576 := by
    obtain ⟨f, hf, hfb⟩ := ho.file
    have := file_short h.disk hf
    rw [hfb] at this; exact this
  have hx : BatAt w (.agg #[.int .i64 (batOf nx rs).base, .int .i64 (batOf nx rs).fin, va]) (batOf nx rs) := ⟨va, rfl, hr.recs hok, by show _ ≤ nx; omega, by show nx ≤ _; omega, by show _ ≤ nx + _; omega, by show nx + _ ≤ _; omega⟩
  refine (add_any w base d F A sb sv file b0 _ h hfs (by rw [pls_len]; omega) (by rw [sizeP_pls]; omega) va (batOf nx rs) hx (fun k hk _ => ?_)).mono ?_
  · have := (hr.lt k hk).1
    exact ⟨fun hm => by have := hb' k hm; omega, fun hm => by have := hb2 k hm; omega⟩
  · rintro e w' (⟨h1, h2, h3⟩ | ⟨h1, h2, -, -⟩ | ⟨h1, h2, h3, h4⟩)
    · exact .inl ⟨h1, h2, h3⟩
    · rw [nextP_pls, ← hnx] at h2
      exact absurd h2 (Int.lt_irrefl _)
    · obtain ⟨a1, a2⟩ := ho.add (Bt.encB (batOf nx rs)) (hroom h1)
      rw [a1] at h3 h4
      refine .inr ⟨h1, h3, _, by rw [flat_append, flat_one]; exact a2, ?_⟩
      unfold psIf at h4
      rw [if_pos rfl, plOf_pls] at h4
      exact h4

theorem nameS_size (n : Nat) (hn : n ≤ 1099511627776) : (Sn.nameB dirS n).size ≤ 40 := by
  have h := nameS_ok n hn
  unfold Dk.nameB at h
  simp only [Bool.and_eq_true, decide_eq_true_eq] at h
  exact h.2.2
def rA : Bt.Rec := ⟨0, 0, false, [], false, [97]⟩
def rB : Bt.Rec := ⟨0, 0, false, [], false, [98]⟩
theorem ab_len : (flat []).length + (Bt.encB (batOf 3 [rA, rB])).length ≤ 1000 := by decide
theorem ab_ok : Bt.encErr (batOf 3 [rA, rB]) = 0 := by decide
set_option maxHeartbeats 4000000 in
theorem segmented_any (w : World) (hv : Sn.VarT w) : Calls Tryz.prog 5 #[] w fun e w' => e = .returned (.bool true) ∧ Turn [] w w' := by
  have HV := hide hv
  clear hv
  go_enter Tryz.func5, Tryz.ntmps5
  go_wp2_with fail
  refine (Dk.new_ok 1000 (by omega) w w.heap.size (Nat.le_refl _)).mono ?_
  rintro e w1 ⟨rfl, hd1, ht1⟩
  obtain ⟨hm1, hm2⟩ := make_one 1000 (Sn.nameB dirS 3) (nameS_ok 3 (by omega))
  have HD1 := hide hd1
  have HT1 := hide ht1
  have HV1 := hide (HV.out.below ht1.nil)
  clear hd1 ht1
  go_wp2_with fail
  refine (make_any w1 w.heap.size w.heap.size [w.heap.size] _ HD1.out dirS (by decide) 3 (by omega) HV1.out.tab).mono ?_
  rintro e w2 (⟨h1, -, -⟩ | ⟨-, sb, rfl, F2, hb2, ht2, hf2, hs2⟩)
  · exact absurd hm1 h1
  have hone2 := hm2
  obtain ⟨A2, hA2⟩ : ∃ A2, A2 = ((DA.empty 1000).make (Sn.nameB dirS 3)).2 := ⟨_, rfl⟩
  rw [← hA2] at hb2 hone2
  have hsg : ∀ k ∈ sfoot sb (.slice none 0 0), k < w2.heap.size := fun k hk => (hb2.seg.lt k hk).2
  have HB2 := hide hb2
  have HO2 := hide hone2
  have HF2 := hide hf2
  have HT2 := hide (HT1.out.trans ht2 (fun k hk => .inr (HD1.out.low k hk)))
  have HF2L := hide hb2.disk.lt
  have HF2W := hide hb2.disk.low
  have HSG := hide hsg
  have HS2 : Hid (w.heap.size ≤ sb) := Nat.le_trans HT1.out.size hs2
  have hrr : ∀ Z, Turn [] (w2.alloc (.cells #[.int .i64 0, .int .i64 0, .bool false, .string ⟨#[]⟩, .bool false, .string ⟨#[97]⟩, .int .i64 0, .int .i64 0, .bool false, .string ⟨#[]⟩, .bool false, .string ⟨#[98]⟩] 53)) Z → RecsAt Z (.slice (some ⟨w2.heap.size, 0, none⟩) 2 2) [rA, rB] := by
    intro Z hZ
    have hb := hZ.heap (heap_new w2 _) (by simp)
    refine RecRow.recs (base := 0) (.inr ⟨w2.heap.size, 2, _, rfl, Nat.zero_le _, hb, Nat.le_refl _, by simp, by simp [maxLen], by simp [rA, rB, recC, strV]⟩) ?_
    intro r hr
    simp only [List.mem_cons, List.mem_nil_iff, or_false] at hr
    rcases hr with rfl | rfl <;> exact ⟨by decide, by decide, by decide, by decide, by decide, by decide⟩
  have HRR := hide hrr
  clear hb2 hone2 hf2 ht2 hsg hA2 hm1 hm2 hrr hs2
  go_wp2_with fail
  refine (kbatch_any _ 3 _ [rA, rB] (HRR.out _ (Turn.refl _ _)) (by omega) (by omega) (by simp)).mono ?_
  rintro e w3 ⟨sv3, rfl, hrow3, ht3⟩
  obtain ⟨s3a, s3n, s3c, hsv3⟩ := hrow3.some_slice
  subst hsv3
  have h23 : Turn [] w2 w3 := ((Turn.refl [] w2).alloc _).same ht3
  have hok3 : ∀ r ∈ renum 3 [rA, rB], RecOk r := by
    intro r hr
    simp [renum, rA, rB] at hr
    rcases hr with rfl | rfl <;> exact ⟨by decide, by decide, by decide, by decide, by decide, by decide⟩
  have hka := kadd_any w3 w.heap.size w.heap.size F2 A2 sb (.slice none 0 0) (Sn.nameB dirS 3) 3 [] 1000 [] (HB2.out.still h23) HO2.out (nameB_len (by omega) (by decide)) (.slice s3a s3n s3c) _ [rA, rB] 3 rfl hrow3 hok3
    (fun k hk => by have := HF2L.out k hk; simp; omega) (fun k hk => by have := HSG.out k hk; simp; omega) (by omega) (by simp) (fun _ => ab_len)
  rw [show ((3 : Int) + (([rA, rB] : List Bt.Rec).length : Int)) = 5 from rfl] at hka ⊢
  have HKA := hide hka
  have HT3 := hide (HT2.out.same h23)
  clear hrow3 ht3 h23 hok3 hka
  go_wp2_with fail
  refine HKA.out.mono ?_
  rintro e w4 (⟨h1, -, -⟩ | ⟨-, rfl, A4, ho4, F4, sv4, hb4, ht4, hf4, hg4⟩)
  · exact absurd ab_ok h1
  rw [List.nil_append] at ho4 hb4
  obtain ⟨x, hx⟩ : ∃ x, x = batOf 3 [rA, rB] := ⟨_, rfl⟩
  have hxe : Bt.encErr x = 0 := by rw [hx]; exact ab_ok
  have hxf : x.fin = 5 ∧ x.base = 3 := by rw [hx]; exact ⟨rfl, rfl⟩
  rw [← hx] at ho4 hb4
  have HT4 := hide (HT3.out.trans ht4 (fun k hk => .inr (by
    rcases List.mem_append.1 hk with h | h
    · exact HF2W.out k h
    · exact (HB2.out.seg.lt k h).1)))
  obtain ⟨f, hf, hfb⟩ := ho4.file
  have hopen := open_some w4 w.heap.size w.heap.size F4 A4 hb4.disk dirS (by decide) 3 (by omega) (HV.out.below HT4.out.nil).tab f hf
  have HB4 := hide hb4
  have HO4 := hide ho4
  have HOP := hide hopen
  have HFB := hide hfb
  have HF := hide hf
  have HXE := hide hxe
  have HXF := hide hxf
  clear ho4 hb4 hopen hfb hf ht4 hf4 hg4 hx hxe hxf
  go_wp2_with fail
  refine HOP.out.mono ?_
  rintro e w5 ⟨xs, hsc, hcase⟩
  have hxs : xs = [x] := by
    rw [HFB.out] at hsc
    exact hsc.unique (scan_whole (xs := [x]) ⟨HXE.out, by rw [HXF.out.2]; decide, trivial⟩)
  subst hxs
  rcases hcase with ⟨-, sb5, sv5, rfl, hb5, ht5, -⟩ | ⟨h, -⟩ | ⟨h, -⟩
  rotate_left
  · rw [HFB.out] at h; exact absurd h (Nat.lt_irrefl _)
  · rw [HFB.out] at h; exact absurd h (Nat.lt_irrefl _)
  have HB5 := hide hb5
  have HT5 := hide (HT4.out.same ht5)
  have hnx : nextP 3 (pls 0 (-1) [x]) = 5 := by rw [nextP_pls]; exact HXF.out.1
  have HNX := hide hnx
  clear hsc hb5 ht5 HOP hnx
  go_wp2_with fail
  refine (next_any w5 w.heap.size w.heap.size sb5 sv5 _ 3 _ HB5.out.seg (by rw [pls_len]; simp)).mono ?_
  rintro e w6 ⟨rfl, ht6⟩
  rw [HNX.out]
  have HB6 := hide (HB5.out.still ht6)
  have HT6 := hide (HT5.out.same ht6)
  clear ht6
  go_wp2_with fail
  refine (batches_any w6 w.heap.size w.heap.size sb5 sv5 _ 3 _ HB6.out.seg).mono ?_
  rintro e w' ⟨rfl, rfl⟩
  rw [pls_len]
  go_wp2_with fail
  refine (Sn.name_any dirS 3 (by omega) (by decide) _ (HV.out.below HT6.out.nil).tab).mono ?_
  rintro e w7 ⟨rfl, hb7⟩
  have HT7 := hide (HT6.out.same (Turn.of_below hb7 []))
  clear hb7
  go_wp2_with fail
  refine (Sn.base_yes dirS (Sn.nameB dirS 3) (by decide) (Nat.le_trans (nameS_size 3 (by omega)) (by decide)) _ (HV.out.below HT7.out.nil) 3 (by omega) rfl).mono ?_
  rintro e w8 ⟨rfl, hb8⟩
  have HT8 := hide (HT7.out.same (Turn.of_below hb8 []))
  clear hb8
  go_wp2
  go_ret
  exact ⟨rfl, HT8.out⟩
end Go.Proofs.YtjbpladooohpdaaGreatDoor.Sg

/- sort.Search over a segment's places; (*segment.Segment).first. -/
namespace Go.Proofs.YtjbpladooohpdaaGreatDoor.Sg
open Go.RowKit Go.Maps
set_option maxRecDepth 100000
set_option linter.unusedSimpArgs false
set_option linter.unusedVariables false
attribute [local go_sem] Oper.semAt_some

/-- Where the places begin that are so. -/
def Least (n : Nat) (f : Nat → Bool) (m : Nat) : Prop := m ≤ n ∧ (∀ i, i < m → f i = false) ∧ ∀ i, m ≤ i → i < n → f i = true

set_option maxHeartbeats 4000000 in
theorem search_any (w : World) (p1 p2 : Nat) (n : Nat) (hn : n ≤ 1000000) (f : Nat → Bool) (hm : ∀ i j, i ≤ j → f i = true → f j = true)
    (hc : ∀ wr, Turn [] w wr → ∀ k, k < n → Calls Tryz.prog 57 #[.int .i64 (k : Int), .pointer (some ⟨p1, 0, none⟩), .pointer (some ⟨p2, 0, none⟩)] wr fun e w' => e = .returned (.bool (f k)) ∧ Turn [] wr w') :
    Calls Tryz.prog 56 #[.int .i64 (n : Int), .func (.func 57) #[] #[.pointer (some ⟨p1, 0, none⟩), .pointer (some ⟨p2, 0, none⟩)]] w fun e w' => (∃ m : Nat, e = .returned (.int .i64 m) ∧ Least n f m) ∧ Turn [] w w' := by
  have HC := hide hc
  have HM := hide hm
  clear hc hm
  go_enter Tryz.func56, Tryz.ntmps56
  go_wp2
  go_loopw [5, 6] (fun a b wr => ∃ i j : Nat, i ≤ j ∧ j ≤ n ∧ a = .int .i64 i ∧ b = .int .i64 j ∧ (∀ x, x < i → f x = false) ∧ (∀ x, j ≤ x → x < n → f x = true) ∧ Turn [] w wr) (fun a b _ => (intOf b).toNat - (intOf a).toNat)
  case atStart => exact ⟨0, n, Nat.zero_le _, Nat.le_refl _, rfl, rfl, fun x h => absurd h (Nat.not_lt_zero _), fun x h1 h2 => absurd h2 (by omega), Turn.refl _ _⟩
  case round =>
    obtain ⟨i, j, hij, hjn, rfl, rfl, h1, h2, ht⟩ := hrel
    have H1 := hide h1
    have H2 := hide h2
    have HT := hide ht
    clear h1 h2 ht
    by_cases hlt : i < j
    · obtain ⟨m, hm⟩ : ∃ m, m = (i + j) / 2 := ⟨_, rfl⟩
      have hcast : ((i : Int) + (j : Int)) / 2 = (m : Int) := by omega
      have hm1 : i ≤ m ∧ m < j := by omega
      clear hm
      go_wp2_with fail
      refine (HC.out wr HT.out m (by omega)).mono ?_
      rintro e w1 ⟨rfl, ht1⟩
      have HT1 := hide (HT.out.same ht1)
      clear ht1
      cases hfm : f m with
      | true =>
        have HF := hide hfm
        clear hfm
        go_wp2
        all_goals refine ⟨⟨i, m, hm1.1, by omega, rfl, rfl, H1.out, fun x hx _ => HM.out m x hx HF.out, HT1.out⟩, ?_⟩
        all_goals (simp only [intOf]; omega)
      | false =>
        have HF := hide hfm
        clear hfm
        go_wp2
        all_goals refine ⟨⟨m + 1, j, by omega, hjn, by go_num, rfl, fun x hx => ?_, H2.out, HT1.out⟩, ?_⟩
        · cases hx' : f x with
          | false => rfl
          | true => have := HM.out x m (by omega) hx'; rw [HF.out] at this; cases this
        · simp only [intOf]; omega
    · go_wp2
      go_ret
      obtain rfl : i = j := by omega
      exact ⟨⟨i, rfl, hjn, H1.out, H2.out⟩, HT.out⟩

set_option maxHeartbeats 2000000 in
theorem first1_any (w : World) (base d sb : Nat) (sv : Value) (file : ByteArray) (b0 : Int) (ps : List Pl) (h : SegAt w base d sb sv file b0 ps) (hl : ps.length ≤ 1000000) (p1 p2 g fb : Nat) (hg : ∀ args w, (callFunc g args).run Tryz.prog w = .ok (.enter g args) w)
    (h1 : w.heap[p1]? = some (.cells #[.func (.func g) #[] #[.pointer (some ⟨fb, 0, none⟩)]] 83 (0, 0))) (h2 : w.heap[p2]? = some (.cells #[.pointer (some ⟨sb, 0, none⟩)] 30 (0, 0)))
    (k : Nat) (hk : k < ps.length) (b : Bool) (hq : ∀ Z, Turn [] w Z → Calls Tryz.prog g #[plV ps[k], .pointer (some ⟨fb, 0, none⟩)] Z fun e w' => e = .returned (.bool b) ∧ Turn [] Z w') :
    Calls Tryz.prog 57 #[.int .i64 (k : Int), .pointer (some ⟨p1, 0, none⟩), .pointer (some ⟨p2, 0, none⟩)] w fun e w' => e = .returned (.bool b) ∧ Turn [] w w' := by
  obtain ⟨ga, cap, hsv, -⟩ := grow_pl h.row hk
  subst hsv
  have HS := hide h
  have H1 := hide h1
  have H2 := hide h2
  have HQ := hide hq
  obtain ⟨p, hp⟩ : ∃ p, p = ps[k] := ⟨_, rfl⟩
  rw [← hp] at HQ
  have HP := hide hp
  clear h h1 h2 hq hp
  go_enter Tryz.func57, Tryz.ntmps57
  go_wp2
  refine wp_region_tail 8 (Turn []) (by kernel_rfl) (by kernel_rfl) (by kernel_rfl) (by kernel_rfl) (by kernel_rfl) (Nat.le_of_ble_eq_true rfl) rfl (Turn.refl _) (fun _ _ _ h k => h.same k) ?_
  apply Lo.runx 1 rfl rfl [] (by kernel_rfl) (Turn.refl _)
  apply Exists.intro; apply And.intro
  · intro u w1 hR hF
    clear hF
    refine ⟨rfl, fun a ha K hK => ?_⟩
    have e1 := ha 1
    conv at e1 => rhs; whnf
    clear ha
    have hb := (((Turn.refl [] w).drew).same hR).heap H1.out (by simp)
    have c0 : w1.cell? ⟨p1, 0, none⟩ = some (.func (.func g) #[] #[.pointer (some ⟨fb, 0, none⟩)]) := by rw [cell_of hb]; rfl
    have z1 := lt_of_heap hb
    go_simp
    refine hK _ ?_; rfl
  apply Lo.runx 2 rfl rfl [] (by kernel_rfl) (Turn.refl _)
  apply Exists.intro; apply And.intro
  · intro u w1 hR hF
    clear hF
    refine ⟨rfl, fun a ha K hK => ?_⟩
    have e2 := ha 2
    conv at e2 => rhs; whnf
    clear ha
    have hb := (((Turn.refl [] w).drew).same hR).heap H2.out (by simp)
    have c0 : w1.cell? ⟨p2, 0, none⟩ = some (.pointer (some ⟨sb, 0, none⟩)) := by rw [cell_of hb]; rfl
    have z1 := lt_of_heap hb
    go_simp
    refine hK _ ?_; rfl
  apply Lo.runx 3 rfl rfl [1] (by kernel_rfl) (Turn.refl _)
  apply Exists.intro; apply And.intro
  · intro u w1 hR hF
    obtain ⟨h1, -⟩ := hF
    refine ⟨rfl, fun a ha K hK => ?_⟩
    have e6 := (ha 6).trans h1
    clear ha h1
    go_simp
    refine hK _ ?_; rfl
  apply Lo.runx 4 rfl rfl [2] (by kernel_rfl) (Turn.refl _)
  apply Exists.intro; apply And.intro
  · intro u w1 hR hF
    obtain ⟨h2, -⟩ := hF
    refine ⟨rfl, fun a ha K hK => ?_⟩
    have e7 := (ha 7).trans h2
    clear ha h2
    go_simp
    refine hK _ ?_; rfl
  apply Lo.runx 5 rfl rfl [3] (by kernel_rfl) (Turn.refl _)
  apply Exists.intro; apply And.intro
  · intro u w1 hR hF
    obtain ⟨h3, -⟩ := hF
    refine ⟨rfl, fun a ha K hK => ?_⟩
    have e8 := (ha 8).trans h3
    clear ha h3
    have hs := HS.out.still (((Turn.refl [] w).drew).same hR)
    have c3 := hs.c3
    have z1 := lt_of_heap hs.box
    go_simp
    refine hK _ ?_; rfl
  apply Lo.runx 6 rfl rfl [] (by kernel_rfl) (Turn.refl _)
  apply Exists.intro; apply And.intro
  · intro u w1 hR hF
    clear hF
    refine ⟨rfl, fun a ha K hK => ?_⟩
    have e0 := ha 0
    conv at e0 => rhs; whnf
    clear ha
    go_simp
    refine hK _ ?_; rfl
  refine Lo.runv 7 rfl rfl [4, 5] (.pointer (some ⟨ga, k * 5, none⟩)) (by kernel_rfl) (fun u w1 hR hF => ?_) (Turn.refl _) ?_
  · obtain ⟨h4, h5, -⟩ := hF
    refine ⟨rfl, fun a ha K hK => ?_⟩
    have e9 := (ha 9).trans h4
    have e10 := (ha 10).trans h5
    clear ha h4 h5
    have h10 : (k : Int) < ps.length := by omega
    go_simp
    refine hK _ ?_
    rfl
  refine Lo.runv 8 rfl rfl [6] (plV p) (by kernel_rfl) (fun u w1 hR hF => ?_) (Turn.refl _) ?_
  · obtain ⟨h6, -⟩ := hF
    refine ⟨rfl, fun a ha K hK => ?_⟩
    have e11 := (ha 11).trans h6
    clear ha h6
    have hc : ∀ i, i < 5 → w1.cell? ⟨ga, k * 5 + i, none⟩ = (plC p)[i]? := by
      obtain ⟨g', cap', e, hc, _⟩ := (HS.out.still (((Turn.refl [] w).drew).same hR)).row.at plC_len hk
      simp at e
      obtain ⟨rfl, rfl⟩ := e
      rw [HP.out]; exact hc
    have k0 : w1.cell? ⟨ga, k * 5, none⟩ = some (.int .i64 p.at) := hc 0 (by omega)
    have k1 : w1.cell? ⟨ga, k * 5 + 1, none⟩ = some (.int .i64 p.size) := hc 1 (by omega)
    have k2 : w1.cell? ⟨ga, k * 5 + 2, none⟩ = some (.int .i64 p.sum) := hc 2 (by omega)
    have k3 : w1.cell? ⟨ga, k * 5 + 3, none⟩ = some (.int .i64 p.fin) := hc 3 (by omega)
    have k4 : w1.cell? ⟨ga, k * 5 + 4, none⟩ = some (.int .i64 p.latest) := hc 4 (by omega)
    clear hc
    go_simp
    refine hK _ ?_
    rfl
  refine Lo.done [0, 7] (fun u w1 hRd hSd hF => ?_)
  clear hSd
  obtain ⟨f0, f7, -⟩ := hF
  have d0 : u 0 = _ := f0
  have d7 : u 7 = _ := f7
  clear f0 f7
  simp only [List.take_succ_cons, List.take_zero, List.drop_succ_cons, List.drop_zero, putFrom, Act.put, List.setIfInBounds_toArray, List.set_cons_succ, List.set_cons_zero, Nat.zero_add, Nat.reduceAdd, d0, d7]
  have HT1 := hide (((Turn.refl [] w).drew).same hRd)
  clear d0 d7 hRd
  go_wp2_with fail
  refine (HQ.out _ HT1.out).mono ?_
  rintro e w2 ⟨rfl, ht2⟩
  have HT2 := hide (HT1.out.same ht2)
  clear ht2
  go_wp2
  go_ret
  exact ⟨rfl, HT2.out⟩
set_option maxHeartbeats 2000000 in
theorem first_any (w : World) (base d sb : Nat) (sv : Value) (file : ByteArray) (b0 : Int) (ps : List Pl) (h : SegAt w base d sb sv file b0 ps) (hl : ps.length ≤ 1000000) (g fb : Nat) (hg : ∀ args w, (callFunc g args).run Tryz.prog w = .ok (.enter g args) w) (f : Nat → Bool) (hm : ∀ i j, i ≤ j → f i = true → f j = true)
    (hq : ∀ Z, Turn [] w Z → ∀ (k : Nat) (hk : k < ps.length), Calls Tryz.prog g #[plV ps[k], .pointer (some ⟨fb, 0, none⟩)] Z fun e w' => e = .returned (.bool (f k)) ∧ Turn [] Z w') :
    Calls Tryz.prog 35 #[.pointer (some ⟨sb, 0, none⟩), .func (.func g) #[] #[.pointer (some ⟨fb, 0, none⟩)]] w fun e w' => (∃ m : Nat, e = .returned (.int .i64 m) ∧ Least ps.length f m) ∧ Turn [] w w' := by
  obtain ⟨xa, xc, hsv, hxl, hxm⟩ := h.row.form
  subst hsv
  have HS := hide h
  have HQ := hide hq
  have HM := hide hm
  have c3 := h.c3
  have hsb := lt_of_heap h.box
  clear h hq hm
  have hmf : ∀ (fn : Fn) (first cap : Array Value) (w : World), (Instr.makeFunc fn first cap).run Tryz.prog w = .ok (.func fn first cap) w := fun _ _ _ _ => rfl
  go_enter Tryz.func35, Tryz.ntmps35
  go_wp2_with fail
  have hw2 : Turn [] w ((w.alloc (.cells #[.pointer (some ⟨sb, 0, none⟩)] 30)).alloc (.cells #[.func (.func g) #[] #[.pointer (some ⟨fb, 0, none⟩)]] 83)) := ((Turn.refl [] w).alloc _).alloc _
  have b1 := heap_new (w.alloc (.cells #[.pointer (some ⟨sb, 0, none⟩)] 30)) (.cells #[.func (.func g) #[] #[.pointer (some ⟨fb, 0, none⟩)]] 83)
  have b2 := ((Turn.refl [] _).alloc (.cells #[.func (.func g) #[] #[.pointer (some ⟨fb, 0, none⟩)]] 83)).heap (heap_new w (.cells #[.pointer (some ⟨sb, 0, none⟩)] 30)) (by simp)
  rw [World.size_alloc] at b1
  refine (search_any _ (w.heap.size + 1) w.heap.size ps.length hl f HM.out (fun wr ht k hk => ?_)).mono ?_
  · exact first1_any wr base d sb _ file b0 ps (HS.out.still (hw2.same ht)) hl (w.heap.size + 1) w.heap.size g fb hg (ht.heap b1 (by simp)) (ht.heap b2 (by simp)) k hk (f k) (fun Z hZ => HQ.out Z (hw2.same (ht.same hZ)) k hk)
  rintro e w3 ⟨⟨m, rfl, hmm⟩, ht3⟩
  have HT3 := hide (hw2.same ht3)
  have HMM := hide hmm
  clear ht3 hmm hw2 b1 b2
  go_wp2
  go_ret
  exact ⟨⟨m, rfl, HMM.out⟩, HT3.out⟩
end Go.Proofs.YtjbpladooohpdaaGreatDoor.Sg

/- (*segment.Segment).batch: the batch of a place; Read's closure. -/
namespace Go.Proofs.YtjbpladooohpdaaGreatDoor.Sg
open Go.RowKit Go.Maps
set_option maxRecDepth 100000
set_option linter.unusedSimpArgs false
set_option linter.unusedVariables false
attribute [local go_sem] Oper.semAt_some
open Dk (DA DiskAt Parts Did errR errV)

theorem read1_any (w : World) (p : Pl) (fb : Nat) (from' : Int) (hb : w.heap[fb]? = some (.cells #[.int .i64 from'] 3 (0, 0))) :
    Calls Tryz.prog 36 #[plV p, .pointer (some ⟨fb, 0, none⟩)] w fun e w' => e = .returned (.bool (decide (from' < p.fin))) ∧ Turn [] w w' := by
  have c0 : w.cell? ⟨fb, 0, none⟩ = some (.int .i64 from') := by rw [cell_of hb]; rfl
  have hl := lt_of_heap hb
  rw [show plV p = .agg #[.int .i64 p.at, .int .i64 p.size, .int .i64 p.sum, .int .i64 p.fin, .int .i64 p.latest] from rfl]
  clear hb
  go_enter Tryz.func36, Tryz.ntmps36
  go_wp2
  go_ret
  exact ⟨rfl, (Turn.refl [] w).alloc _⟩
theorem enter_of {P : Program} {f : FuncId} {fn : Func} (hf : P.funcs[f]? = some fn) (hname : (fn.name == "runtime.NumGoroutine") = false) (hb : fn.body.isSome = true) (args : Array Value) (w : World) : (callFunc f args).run P w = .ok (.enter f args) w := by
  have h1 : fn.name ≠ "runtime.NumGoroutine" := by simpa using hname
  obtain ⟨c, hc⟩ := Option.isSome_iff_exists.1 hb
  simp [callFunc, hf, h1, hc]
theorem enter_read1 (args : Array Value) (w : World) : (callFunc 36 args).run Tryz.prog w = .ok (.enter 36 args) w :=
  enter_of Tryz.func36 (by kernel_rfl) (by kernel_rfl) args w

theorem _root_.Go.Proofs.YtjbpladooohpdaaGreatDoor.RecsAt.not_small {w : World} {v : Value} {rs : List Bt.Rec} (h : RecsAt w v rs) (h0 : rs ≠ []) {k : Nat} {cs : Array Value} {t : TypeId} {fr : Nat × Nat} (hk : w.heap[k]? = some (.cells cs t fr)) (hs : cs.size ≤ 5) : k ∉ v.ownBlock := by
  obtain ⟨a, c, rfl, h1, h2, h3, h4⟩ := h
  obtain ⟨-, p, rfl, hc⟩ := h4 0 (List.length_pos_iff.2 h0)
  intro hm
  simp [Value.ownBlock] at hm
  subst hm
  have h5 := hc 5 _ rfl
  have h6 : ∃ u, cs[p.off + 5]? = some u := ⟨_, by simpa [Addr.add, World.cell?, hk] using h5⟩
  obtain ⟨u, h6⟩ := h6
  obtain ⟨h7, -⟩ := Array.getElem?_eq_some_iff.1 h6
  omega

set_option maxHeartbeats 4000000 in
theorem batch_any1 (w : World) (base d : Nat) (F : List Nat) (A : DA) (sb : Nat) (sv : Value) (file : ByteArray) (b0 : Int) (ps : List Pl) (h : Both w base d F A sb sv file b0 ps) (hfs : file.size ≤ maxLen) (f : Dk.FA) (hf : A.file file.data.toList = some f)
    (p : Pl) (x : Bt.Bat) (hx : Bt.encErr x = 0) (hrd : Dk.readL f.bytes p.at p.size = Bt.encB x) (hsm : p.sum = Cr.sum (Bt.encB x)) (hps : p.size ≤ 1099511627776) :
    Calls Tryz.prog 37 #[.pointer (some ⟨sb, 0, none⟩), plV p] w fun e w' => ∃ rv, e = .returned (.tuple #[.agg #[.int .i64 x.base, .int .i64 x.fin, rv], .nilIface]) ∧ RecsAt w' rv x.recs ∧ Turn [] w w' ∧ (x.recs ≠ [] → ∀ k ∈ rv.ownBlock, w.heap.size ≤ k) := by
  have HB := hide h
  have HF := hide hf
  have HX := hide hx
  have HRD := hide hrd
  have HSM := hide hsm
  have hen : (Bt.encB x).length ≤ 6000 := by have := (Bt.encErr_ok hx).2; rw [Bt.encB_len]; exact this
  have hsb := lt_of_heap h.seg.box
  rw [show plV p = .agg #[.int .i64 p.at, .int .i64 p.size, .int .i64 p.sum, .int .i64 p.fin, .int .i64 p.latest] from rfl]
  clear h hf hx hrd hsm
  go_enter Tryz.func37, Tryz.ntmps37
  go_wp2
  obtain ⟨w0, hw0⟩ : ∃ w0, w0 = (w.alloc (.cells #[.int .i64 p.at, .int .i64 p.size, .int .i64 p.sum, .int .i64 p.fin, .int .i64 p.latest] 62)).alloc (.cells #[.int .i64 0, .int .i64 0, .slice none 0 0] 37) := ⟨_, rfl⟩
  rw [← hw0]
  have hP : w0.heap[w.heap.size]? = some (.cells #[.int .i64 p.at, .int .i64 p.size, .int .i64 p.sum, .int .i64 p.fin, .int .i64 p.latest] 62 (0, 0)) := by
    rw [hw0]; exact ((Turn.refl [] _).alloc _).heap (heap_new w _) (by simp)
  have hR0 : w0.heap[w.heap.size + 1]? = some (.cells #[.int .i64 0, .int .i64 0, .slice none 0 0] 37 (0, 0)) := by
    rw [hw0]
    have := heap_new (w.alloc (.cells #[.int .i64 p.at, .int .i64 p.size, .int .i64 p.sum, .int .i64 p.fin, .int .i64 p.latest] 62)) (.cells #[.int .i64 0, .int .i64 0, .slice none 0 0] 37)
    rwa [World.size_alloc] at this
  have HT0 : Hid (Turn [] w w0) := by show Turn _ _ _; rw [hw0]; exact ((Turn.refl [] w).alloc _).alloc _
  have HP := hide hP
  have HR0 := hide hR0
  clear hw0 hP hR0
  refine wp_region_tail 12 (Turn []) (by kernel_rfl) (by kernel_rfl) (by kernel_rfl) (by kernel_rfl) (by kernel_rfl) (Nat.le_of_ble_eq_true rfl) rfl (Turn.refl _) (fun _ _ _ h k => h.same k) ?_
  apply Lo.runx 1 rfl rfl [] (by kernel_rfl) (Turn.refl _)
  apply Exists.intro; apply And.intro
  · intro u w1 hR hF
    clear hF
    refine ⟨rfl, fun a ha K hK => ?_⟩
    have e0 := ha 0
    conv at e0 => rhs; whnf
    clear ha
    go_simp
    refine hK _ ?_; rfl
  apply Lo.runx 2 rfl rfl [0] (by kernel_rfl) (Turn.refl _)
  apply Exists.intro; apply And.intro
  · intro u w1 hR hF
    obtain ⟨h0, -⟩ := hF
    refine ⟨rfl, fun a ha K hK => ?_⟩
    have e10 := (ha 10).trans h0
    clear ha h0
    go_simp
    refine hK _ ?_; rfl
  apply Lo.runx 3 rfl rfl [1] (by kernel_rfl) (Turn.refl _)
  apply Exists.intro; apply And.intro
  · intro u w1 hR hF
    obtain ⟨h1, -⟩ := hF
    refine ⟨rfl, fun a ha K hK => ?_⟩
    have e11 := (ha 11).trans h1
    clear ha h1
    go_simp
    refine hK _ ?_; rfl
  apply Lo.runx 4 rfl rfl [2] (by kernel_rfl) (Turn.refl _)
  apply Exists.intro; apply And.intro
  · intro u w1 hR hF
    obtain ⟨h2, -⟩ := hF
    refine ⟨rfl, fun a ha K hK => ?_⟩
    have e12 := (ha 12).trans h2
    clear ha h2
    have hS := HB.out.seg.still (HT0.out.same (((Turn.refl [] _).drew).same hR))
    have c0 := hS.c0
    have z1 := lt_of_heap hS.box
    go_simp
    refine hK _ ?_; rfl
  apply Lo.runx 5 rfl rfl [] (by kernel_rfl) (Turn.refl _)
  apply Exists.intro; apply And.intro
  · intro u w1 hR hF
    clear hF
    refine ⟨rfl, fun a ha K hK => ?_⟩
    have e0 := ha 0
    conv at e0 => rhs; whnf
    clear ha
    go_simp
    refine hK _ ?_; rfl
  apply Lo.runx 6 rfl rfl [4] (by kernel_rfl) (Turn.refl _)
  apply Exists.intro; apply And.intro
  · intro u w1 hR hF
    obtain ⟨h4, -⟩ := hF
    refine ⟨rfl, fun a ha K hK => ?_⟩
    have e14 := (ha 14).trans h4
    clear ha h4
    go_simp
    refine hK _ ?_; rfl
  apply Lo.runx 7 rfl rfl [5] (by kernel_rfl) (Turn.refl _)
  apply Exists.intro; apply And.intro
  · intro u w1 hR hF
    obtain ⟨h5, -⟩ := hF
    refine ⟨rfl, fun a ha K hK => ?_⟩
    have e15 := (ha 15).trans h5
    clear ha h5
    go_simp
    refine hK _ ?_; rfl
  apply Lo.runx 8 rfl rfl [6] (by kernel_rfl) (Turn.refl _)
  apply Exists.intro; apply And.intro
  · intro u w1 hR hF
    obtain ⟨h6, -⟩ := hF
    refine ⟨rfl, fun a ha K hK => ?_⟩
    have e16 := (ha 16).trans h6
    clear ha h6
    have hS := HB.out.seg.still (HT0.out.same (((Turn.refl [] _).drew).same hR))
    have c1 := hS.c1
    have z1 := lt_of_heap hS.box
    go_simp
    refine hK _ ?_; rfl
  apply Lo.runx 9 rfl rfl [] (by kernel_rfl) (Turn.refl _)
  apply Exists.intro; apply And.intro
  · intro u w1 hR hF
    clear hF
    refine ⟨rfl, fun a ha K hK => ?_⟩
    have e3 := ha 3
    conv at e3 => rhs; whnf
    clear ha
    go_simp
    refine hK _ ?_; rfl
  apply Lo.runx 10 rfl rfl [8] (by kernel_rfl) (Turn.refl _)
  apply Exists.intro; apply And.intro
  · intro u w1 hR hF
    obtain ⟨h8, -⟩ := hF
    refine ⟨rfl, fun a ha K hK => ?_⟩
    have e18 := (ha 18).trans h8
    clear ha h8
    have hb := (((Turn.refl [] _).drew).same hR).heap HP.out (by simp)
    have c0 : w1.cell? ⟨w.heap.size, 0, none⟩ = some (.int .i64 p.at) := by rw [cell_of hb]; rfl
    have z1 := lt_of_heap hb
    go_simp
    refine hK _ ?_; rfl
  apply Lo.runx 11 rfl rfl [] (by kernel_rfl) (Turn.refl _)
  apply Exists.intro; apply And.intro
  · intro u w1 hR hF
    clear hF
    refine ⟨rfl, fun a ha K hK => ?_⟩
    have e3 := ha 3
    conv at e3 => rhs; whnf
    clear ha
    go_simp
    refine hK _ ?_; rfl
  apply Lo.runx 12 rfl rfl [10] (by kernel_rfl) (Turn.refl _)
  apply Exists.intro; apply And.intro
  · intro u w1 hR hF
    obtain ⟨h10, -⟩ := hF
    refine ⟨rfl, fun a ha K hK => ?_⟩
    have e20 := (ha 20).trans h10
    clear ha h10
    have hb := (((Turn.refl [] _).drew).same hR).heap HP.out (by simp)
    have c0 : w1.cell? ⟨w.heap.size, 1, none⟩ = some (.int .i64 p.size) := by rw [cell_of hb]; rfl
    have z1 := lt_of_heap hb
    go_simp
    refine hK _ ?_; rfl
  refine Lo.done [3, 7, 9, 11] (fun u w1 hRd hSd hF => ?_)
  clear hSd
  obtain ⟨f3, f7, f9, f11, -⟩ := hF
  have d3 : u 3 = _ := f3
  have d7 : u 7 = _ := f7
  have d9 : u 9 = _ := f9
  have d11 : u 11 = _ := f11
  clear f3 f7 f9 f11
  simp only [List.take_succ_cons, List.take_zero, List.drop_succ_cons, List.drop_zero, putFrom, Act.put, List.setIfInBounds_toArray, List.set_cons_succ, List.set_cons_zero, Nat.zero_add, Nat.reduceAdd, d3, d7, d9, d11]
  have HT1 := hide (HT0.out.same (((Turn.refl [] _).drew).same hRd))
  have HP1 := hide ((((Turn.refl [] _).drew).same hRd).heap HP.out (by simp))
  have HR1 := hide ((((Turn.refl [] _).drew).same hRd).heap HR0.out (by simp))
  clear d3 d7 d9 d11 hRd
  go_wp2_with fail
  refine (read_file (HB.out.disk.kept HT1.out (by simp)) file hfs HF.out p.at p.size (by omega)).mono ?_
  rintro e w2 ⟨v, rfl, hrow, ht2⟩
  rw [HRD.out] at hrow
  obtain ⟨ba, bc, hbv, hblc, hbcm⟩ := hrow.form
  subst hbv
  have HROW := hide hrow
  have HT2 := hide (HT1.out.same ht2)
  have HP2 := hide (ht2.heap HP1.out (by simp))
  have HR2 := hide (ht2.heap HR1.out (by simp))
  clear hrow ht2 hblc hbcm
  have hdec := dec_fresh w2 _ (Bt.encB x) HROW.out.bytes (by omega)
  have hde := dec_enc HX.out []
  rw [List.append_nil] at hde
  rw [hde] at hdec
  have HDEC := hide hdec
  clear hdec hde
  go_wp2_with fail
  refine HDEC.out.mono ?_
  rintro e w3 ⟨rv, rfl, hrec, ht3, hfr⟩
  obtain ⟨ra, rc, hrv, -⟩ := hrec.form
  subst hrv
  have HFR := hide hfr
  clear hfr
  have hen0 : As.errN 0 = .nilIface := rfl
  rw [hen0]
  have HREC := hide hrec
  have HT3 := hide (HT2.out.same ht3)
  have HP3 := hide (ht3.heap HP2.out (by simp))
  have HR3 := hide (ht3.heap HR2.out (by simp))
  have HROW3 := hide (HROW.out.kept ht3 (by simp))
  clear HDEC hrec ht3 hen0
  go_wp2
  obtain ⟨w4, hw4⟩ : ∃ w4, w4 = w3.alloc (.cells #[.int .i64 x.base, .int .i64 x.fin, .slice ra x.recs.length rc] 37) := ⟨_, rfl⟩
  rw [← hw4]
  have h34 : Turn [] w3 w4 := by rw [hw4]; exact (Turn.refl [] w3).alloc _
  have HX4 : Hid (w4.heap[w3.heap.size]? = some (.cells #[.int .i64 x.base, .int .i64 x.fin, .slice ra x.recs.length rc] 37 (0, 0))) := by show _ = _; rw [hw4]; exact heap_new w3 _
  have HREC4 := hide (HREC.out.still h34)
  have HT4 := hide (HT3.out.same h34)
  have HP4 := hide (h34.heap HP3.out (by simp))
  have HR4 := hide (h34.heap HR3.out (by simp))
  have HROW4 := hide (HROW3.out.kept h34 (by simp))
  clear h34 hw4
  refine wp_region_loose (Turn []) (by kernel_rfl) (by kernel_rfl) (by kernel_rfl) (by kernel_rfl) rfl (Turn.refl _) (fun _ _ _ h k => h.same k) ?_
  apply Lo.runx 1 rfl rfl [] (by kernel_rfl) (Turn.refl _)
  apply Exists.intro; apply And.intro
  · intro u w1 hR hF
    clear hF
    refine ⟨rfl, fun a ha K hK => ?_⟩
    have e9 := ha 9
    conv at e9 => rhs; whnf
    clear ha
    go_simp
    refine hK _ ?_; rfl
  apply Lo.runx 2 rfl rfl [0] (by kernel_rfl) (Turn.refl _)
  apply Exists.intro; apply And.intro
  · intro u w1 hR hF
    obtain ⟨h0, -⟩ := hF
    refine ⟨rfl, fun a ha K hK => ?_⟩
    have e29 := (ha 29).trans h0
    clear ha h0
    go_simp
    refine hK _ ?_; rfl
  apply Lo.runx 3 rfl rfl [1] (by kernel_rfl) (Turn.refl _)
  apply Exists.intro; apply And.intro
  · intro u w1 hR hF
    obtain ⟨h1, -⟩ := hF
    refine ⟨rfl, fun a ha K hK => ?_⟩
    have e30 := (ha 30).trans h1
    clear ha h1
    go_simp
    refine hK _ ?_; rfl
  apply Lo.runx 4 rfl rfl [2] (by kernel_rfl) (Turn.refl _)
  apply Exists.intro; apply And.intro
  · intro u w1 hR hF
    obtain ⟨h2, -⟩ := hF
    refine ⟨.inl ⟨false, h2, rfl⟩, fun a ha K hK => ?_⟩
    have e6 := ha 6
    conv at e6 => rhs; whnf
    clear ha h2
    go_simp
    refine hK _ ?_; rfl
  refine Lo.run 5 rfl rfl [2, 3] (fun y _ => y = .int .i64 (Cr.sum (Bt.encB x) : Nat)) (by kernel_rfl) (fun x w w' h hR => ?_) (fun _ _ h => h) (fun u w1 hR hF => ?_) ?_
  · exact h
  · obtain ⟨h2, h3, -⟩ := hF
    refine ⟨.inl ⟨false, h2, rfl⟩, fun a ha K hK => ?_⟩
    have e32 := (ha 32).trans h3
    clear ha h2 h3
    go_simp
    refine (sum_any _ _ (Bt.encB x) (HROW4.out.kept (((Turn.refl [] _).drew).same hR) (by simp)).cells (by omega)).mono ?_
    rintro e w5 ⟨rfl, rfl⟩
    exact hK _ _ rfl (Turn.refl _ _)
  apply Lo.runx 6 rfl rfl [2] (by kernel_rfl) (Turn.refl _)
  apply Exists.intro; apply And.intro
  · intro u w1 hR hF
    obtain ⟨h2, -⟩ := hF
    refine ⟨.inl ⟨false, h2, rfl⟩, fun a ha K hK => ?_⟩
    have e3 := ha 3
    conv at e3 => rhs; whnf
    clear ha h2
    go_simp
    refine hK _ ?_; rfl
  apply Lo.runx 7 rfl rfl [2, 5] (by kernel_rfl) (Turn.refl _)
  apply Exists.intro; apply And.intro
  · intro u w1 hR hF
    obtain ⟨h2, h5, -⟩ := hF
    refine ⟨.inl ⟨false, h2, rfl⟩, fun a ha K hK => ?_⟩
    have e34 := (ha 34).trans h5
    clear ha h2 h5
    have hb := (((Turn.refl [] _).drew).same hR).heap HP4.out (by simp)
    have c0 : w1.cell? ⟨w.heap.size, 2, none⟩ = some (.int .i64 p.sum) := by rw [cell_of hb]; rfl
    have z1 := lt_of_heap hb
    go_simp
    refine hK _ ?_; rfl
  refine Lo.runv 8 rfl rfl [2, 4, 6] (.bool false) (by kernel_rfl) (fun u w1 hR hF => ?_) (Turn.refl _) ?_
  · obtain ⟨h2, h4, h6, -⟩ := hF
    refine ⟨.inl ⟨false, h2, rfl⟩, fun a ha K hK => ?_⟩
    have e33 : a.tmps.getD 33 undef = u 4 := ha 33
    have e35 := (ha 35).trans h6
    have h4 := (show (fun y _ => y = .int .i64 (Cr.sum (Bt.encB x) : Nat)) (u 4) w1 from h4)
    dsimp only at h4
    clear ha h2 h6
    rw [h4] at e33
    have hsm : (p.sum : Int) = (Cr.sum (Bt.encB x) : Nat) := by rw [HSM.out]
    go_simp
    refine hK _ ?_
    rfl
  refine Lo.runv 9 rfl rfl [2, 7] (.bool false) (by kernel_rfl) (fun u w1 hR hF => ?_) (Turn.refl _) ?_
  · obtain ⟨h2, h7, -⟩ := hF
    refine ⟨rfl, fun a ha K hK => ?_⟩
    have e31 := (ha 31).trans h2
    have e36 := (ha 36).trans h7
    clear ha h2 h7
    go_simp
    refine hK _ ?_
    rfl
  refine Lo.done [8] (fun u w1 hRd hSd hF => ?_)
  clear hSd
  obtain ⟨f8, -⟩ := hF
  have d8 : u 8 = _ := f8
  clear f8
  simp only [putFrom, Act.put, List.setIfInBounds_toArray, List.set_cons_succ, List.set_cons_zero, Nat.zero_add, Nat.reduceAdd, d8]
  have HT5 := hide (HT4.out.same (((Turn.refl [] _).drew).same hRd))
  have HX5 := hide ((((Turn.refl [] _).drew).same hRd).heap HX4.out (by simp))
  have HR5 := hide ((((Turn.refl [] _).drew).same hRd).heap HR4.out (by simp))
  have HREC5 := hide (HREC4.out.still (((Turn.refl [] _).drew).same hRd))
  clear d8 hRd
  have y0 : w1.cell? ⟨w.heap.size + 1, 0, none⟩ = some (.int .i64 0) := by simpa using cell_of HR5.out 0
  have y1 : w1.cell? ⟨w.heap.size + 1, 1, none⟩ = some (.int .i64 0) := by simpa using cell_of HR5.out 1
  have y2 : w1.cell? ⟨w.heap.size + 1, 2, none⟩ = some (.slice none 0 0) := by simpa using cell_of HR5.out 2
  have q0 : w1.frozen? ⟨w.heap.size + 1, 0, none⟩ = false := frozen_of HR5.out 0
  have q1 : w1.frozen? ⟨w.heap.size + 1, 1, none⟩ = false := frozen_of HR5.out 1
  have q2 : w1.frozen? ⟨w.heap.size + 1, 2, none⟩ = false := frozen_of HR5.out 2
  have k0 : w1.cell? ⟨w3.heap.size, 0, none⟩ = some (.int .i64 x.base) := by simpa using cell_of HX5.out 0
  have k1 : w1.cell? ⟨w3.heap.size, 1, none⟩ = some (.int .i64 x.fin) := by simpa using cell_of HX5.out 1
  have k2 : w1.cell? ⟨w3.heap.size, 2, none⟩ = some (.slice ra x.recs.length rc) := by simpa using cell_of HX5.out 2
  have z3 := lt_of_heap HX5.out
  have z4 := lt_of_heap HR5.out
  go_wp2
  have hy := heap_set (heap_set (heap_set HR5.out 0 (.int .i64 x.base)) 1 (.int .i64 x.fin)) 2 (.slice ra x.recs.length rc)
  have hld := load_bat (by simpa using hy)
  have ht : Turn [w.heap.size + 1] w1 (((w1.setCell ⟨w.heap.size + 1, 0, none⟩ (.int .i64 x.base)).setCell ⟨w.heap.size + 1, 1, none⟩ (.int .i64 x.fin)).setCell ⟨w.heap.size + 1, 2, none⟩ (.slice ra x.recs.length rc)) :=
    (((Turn.refl _ _).setCell (.inl (by simp)) _).setCell (.inl (by simp)) _).setCell (.inl (by simp)) _
  refine bodyPost_ret (v := .tuple #[.agg #[.int .i64 x.base, .int .i64 x.fin, .slice ra x.recs.length rc], .nilIface]) (by simp [results, Tryz.results37, asAddr, hld, Result.andThen]) rfl ⟨_, rfl, ?_, HT5.out.trans ht (fun k hk => .inr (by simp at hk; omega)), fun h0 k hk => Nat.le_trans HT2.out.size (HFR.out h0 k hk)⟩
  exact HREC5.out.kept' ht (fun h0 k hk hm => by
    simp only [List.mem_singleton] at hm
    subst hm
    exact HREC5.out.not_small h0 HR5.out (by simp) hk)
end Go.Proofs.YtjbpladooohpdaaGreatDoor.Sg

/- (*segment.Segment).Read. -/
namespace Go.Proofs.YtjbpladooohpdaaGreatDoor.Sg
open Go.RowKit Go.Maps
set_option maxRecDepth 100000
set_option linter.unusedSimpArgs false
set_option linter.unusedVariables false
attribute [local go_sem] Oper.semAt_some
open Dk (DA DiskAt Parts Did errR errV)

/-- A batch, and the slice of its records. -/
structure BV where
  x : Bt.Bat
  a : Option Addr
  n : Nat
  c : Nat
def BV.sl (y : BV) : Value := .slice y.a y.n y.c
def batC (y : BV) : List Value := [.int .i64 y.x.base, .int .i64 y.x.fin, .slice y.a y.n y.c]
theorem batC_len : ∀ y, (batC y).length = 3 := fun _ => rfl
/-- A row of batches, each with its records. -/
structure BRow (w : World) (base : Nat) (lv : Value) (ys : List BV) : Prop where
  row : GRow 37 3 batC w base lv ys
  recs : ∀ y ∈ ys, RecsAt w y.sl y.x.recs
  own : ∀ y ∈ ys, y.x.recs ≠ [] → ∀ k ∈ y.sl.ownBlock, base ≤ k
  sep : ∀ y ∈ ys, y.x.recs ≠ [] → ∀ k ∈ y.sl.ownBlock, k ∉ lv.ownBlock
theorem BRow.nil (w : World) (base : Nat) : BRow w base (.slice none 0 0) [] := ⟨.inl ⟨rfl, rfl⟩, by simp, by simp, by simp⟩
theorem BRow.still {w w' : World} {base : Nat} {lv : Value} {ys : List BV} (h : BRow w base lv ys) (ht : Turn [] w w') : BRow w' base lv ys := ⟨h.row.still ht, fun y hy => (h.recs y hy).still ht, h.own, h.sep⟩
theorem Tryz.infoBa : (Tryz.prog.info? 37).map (fun i => (i.zero, i.size, i.bytes)) = some (some (.agg #[.int .i64 0, .int .i64 0, .slice none 0 0]), 3, 40) := by kernel_rfl
theorem app_bat (w : World) (base : Nat) (v : Value) (xs : List BV) (x : BV) (k : Nat) (hrow : GRow 37 3 batC w base v xs) (hk : w.heap[k]? = some (.cells (batC x).toArray 37 (0, 0))) (hlen : xs.length ≤ 1000000) (hbase : base ≤ w.heap.size) :
    ∃ v' w', (Builtin.append_ #[34, 34] 34 #[v, .slice (some ⟨k, 0, none⟩) 1 1]).run Tryz.prog w = .ok v' w' ∧ GRow 37 3 batC w' base v' (xs ++ [x]) ∧ Turn v.ownBlock.toList w w' ∧ (∀ j ∈ v'.ownBlock, j ∈ v.ownBlock ∨ w.heap.size ≤ j) := by
  obtain ⟨i, hi, e⟩ := Option.map_eq_some_iff.1 Tryz.infoBa
  simp only [Prod.mk.injEq] at e
  exact run_append_g (P := Tryz.prog) 34 34 Tryz.underlying34 i _ hi e.1 (by rfl) e.2.1 (by omega) batC_len (fun x u hu => by simp [batC] at hu; rcases hu with rfl | rfl | rfl <;> rfl) w base v xs x k hrow hk hlen hbase

/-- How many of the batches from one on a read tells. -/
def Sel (most : Int) (zs : List Bt.Bat) (k : Nat) : Prop := k ≤ zs.length ∧ (∀ j, 1 ≤ j → j < k → ((flat (zs.take (j + 1))).length : Int) ≤ most) ∧ (k < zs.length → 0 < k ∧ most < ((flat (zs.take (k + 1))).length : Int))
def finAbove (xs : List Bt.Bat) (from' : Int) (k : Nat) : Bool := match xs[k]? with
  | some x => decide (from' < x.fin)
  | none => true
theorem chain_fin : ∀ {xs : List Bt.Bat} {b : Int}, Chain b xs → ∀ x ∈ xs, b < x.fin
  | x :: r, b, h, y, hy => by
    have h1 := Bt.chk_ok (Bt.encErr_ok h.1).1
    have h2 := h.2.1
    rcases List.mem_cons.1 hy with rfl | hy
    · omega
    · have := chain_fin h.2.2 y hy; omega
theorem fin_mono : ∀ {xs : List Bt.Bat} {b : Int}, Chain b xs → ∀ (from' : Int) (i j : Nat), i ≤ j → finAbove xs from' i = true → finAbove xs from' j = true
  | [], b, h, fr, i, j, hij, hi => by simp [finAbove]
  | x :: r, b, h, fr, i, j, hij, hi => by
    cases j with
    | zero => obtain rfl : i = 0 := by omega
              exact hi
    | succ j =>
      cases i with
      | succ i =>
        have := fin_mono h.2.2 fr i j (by omega) (by simpa [finAbove] using hi)
        simpa [finAbove] using this
      | zero =>
        simp only [finAbove, List.getElem?_cons_zero, decide_eq_true_eq] at hi
        simp only [finAbove, List.getElem?_cons_succ]
        cases hr : r[j]? with
        | none => rfl
        | some y => have := chain_fin h.2.2 y (List.mem_of_getElem? hr); simp; omega
theorem least_exists (f : Nat → Bool) (hm : ∀ i j, i ≤ j → f i = true → f j = true) : ∀ n, ∃ m, Least n f m
  | 0 => ⟨0, Nat.le_refl _, fun i h => absurd h (Nat.not_lt_zero _), fun i _ h => absurd h (Nat.not_lt_zero _)⟩
  | n + 1 => by
    obtain ⟨m, h1, h2, h3⟩ := least_exists f hm n
    cases hf : f n with
    | true => exact ⟨m, by omega, h2, fun i hi hn => by
        by_cases h : i < n
        · exact h3 i hi h
        · obtain rfl : i = n := by omega
          exact hf⟩
    | false =>
      refine ⟨n + 1, Nat.le_refl _, fun i hi => ?_, fun i hi hn => absurd hi (by omega)⟩
      cases hfi : f i with
      | false => rfl
      | true => have := hm i n (by omega) hfi; rw [hf] at this; cases this
theorem least_unique {n : Nat} {f : Nat → Bool} {m m' : Nat} (h : Least n f m) (h' : Least n f m') : m = m' := by
  rcases Nat.lt_trichotomy m m' with h1 | h1 | h1
  · have a := h'.2.1 m h1
    have b := h.2.2 m (Nat.le_refl _) (by have := h'.1; omega)
    rw [a] at b; cases b
  · exact h1
  · have a := h.2.1 m' h1
    have b := h'.2.2 m' (Nat.le_refl _) (by have := h.1; omega)
    rw [a] at b; cases b
theorem readL_at {xs : List Bt.Bat} {k : Nat} (hk : k < xs.length) : Dk.readL (flat xs) (flat (xs.take k)).length (Bt.encB xs[k]).length = Bt.encB xs[k] := by
  have e : flat xs = flat (xs.take k) ++ (Bt.encB xs[k] ++ flat (xs.drop (k + 1))) := by
    have e : flat xs = flat (xs.take k) ++ flat (xs.drop k) := by rw [← flat_append, List.take_append_drop]
    rw [e, List.drop_eq_getElem_cons hk]
    rfl
  have hp := encB_pos xs[k]
  have hl := congrArg List.length e
  rw [List.length_append, List.length_append] at hl
  unfold Dk.readL
  rw [if_neg (by omega)]
  conv => lhs; rw [e]
  simp
def advP (a : Option Addr) (n c : Nat) : Option Addr := if c = n then a else a.map (·.add (n * 5))
theorem run_fromP (a : Option Addr) (l c n : Nat) (hn : n ≤ l) (w : World) : (Instr.slice 65 (.slice a l c) (some (.int .i64 (n : Int))) none none).run Tryz.prog w = .ok (.slice (advP a n c) (l - n) (c - n)) w := by
  have h := sizePl w
  simp [Instr.slice, run_underlying Tryz.underlying65, Instr.sliceBounds, run_sliceBound, h, Result.andThen, hn, advP]

set_option maxHeartbeats 8000000 in
theorem read_any (w : World) (base d : Nat) (F : List Nat) (A : DA) (sb : Nat) (sv : Value) (file : ByteArray) (b0 : Int) (xs : List Bt.Bat) (h : Both w base d F A sb sv file b0 (pls 0 (-1) xs)) (hfs : file.size ≤ maxLen) (f : Dk.FA) (hf : A.file file.data.toList = some f) (hfb : f.bytes = flat xs) (hch : Chain b0 xs)
    (from' most : Int) (hmo : -9223372036854775808 ≤ most ∧ most ≤ 9223372036854775807) :
    Calls Tryz.prog 17 #[.pointer (some ⟨sb, 0, none⟩), .int .i64 from', .int .i64 most] w fun e w' => ∃ lv ys m k, e = .returned (.tuple #[lv, .nilIface]) ∧ Least xs.length (finAbove xs from') m ∧ BRow w' w.heap.size lv ys ∧ ys.map (·.x) = (xs.drop m).take k ∧ Sel most (xs.drop m) k ∧ Turn [] w w' := by
  obtain ⟨m0, hm0⟩ := least_exists (finAbove xs from') (fun i j => fin_mono hch from' i j) xs.length
  have hfl := flat_len xs
  have hfsh := file_short h.disk hf
  rw [hfb] at hfsh
  obtain ⟨xa, xc, hsv, hxl, hxm⟩ := h.seg.row.form
  rw [pls_len] at hsv hxl
  have hpl := pls_len xs 0 (-1)
  subst hsv
  have HB := hide h
  have HF := hide hf
  have HFB := hide hfb
  have HCH := hide hch
  have HM0 := hide hm0
  have hsb := lt_of_heap h.seg.box
  have hm0l := hm0.1
  have hmf : ∀ (fn : Fn) (first cap : Array Value) (w : World), (Instr.makeFunc fn first cap).run Tryz.prog w = .ok (.func fn first cap) w := fun _ _ _ _ => rfl
  clear h hf hfb hch hm0
  go_enter Tryz.func17, Tryz.ntmps17
  go_wp2
  obtain ⟨w0, hw0⟩ : ∃ w0, w0 = w.alloc (.cells #[.int .i64 from'] 3) := ⟨_, rfl⟩
  rw [← hw0]
  have HFR : Hid (w0.heap[w.heap.size]? = some (.cells #[.int .i64 from'] 3 (0, 0))) := by show _ = _; rw [hw0]; exact heap_new w _
  have HT0 : Hid (Turn [] w w0) := by show Turn _ _ _; rw [hw0]; exact (Turn.refl [] w).alloc _
  clear hw0
  refine wp_region_loose (Turn []) (by kernel_rfl) (by kernel_rfl) (by kernel_rfl) (by kernel_rfl) rfl (Turn.refl _) (fun _ _ _ h k => h.same k) ?_
  apply Lo.runx 1 rfl rfl [] (by kernel_rfl) (Turn.refl _)
  apply Exists.intro; apply And.intro
  · intro u w1 hR hF
    clear hF
    refine ⟨rfl, fun a ha K hK => ?_⟩
    have e0 := ha 0
    conv at e0 => rhs; whnf
    clear ha
    go_simp
    refine hK _ ?_; rfl
  apply Lo.runx 2 rfl rfl [0] (by kernel_rfl) (Turn.refl _)
  apply Exists.intro; apply And.intro
  · intro u w1 hR hF
    obtain ⟨h0, -⟩ := hF
    refine ⟨rfl, fun a ha K hK => ?_⟩
    have e14 := (ha 14).trans h0
    clear ha h0
    go_simp
    refine hK _ ?_; rfl
  apply Lo.runx 3 rfl rfl [1] (by kernel_rfl) (Turn.refl _)
  apply Exists.intro; apply And.intro
  · intro u w1 hR hF
    obtain ⟨h1, -⟩ := hF
    refine ⟨rfl, fun a ha K hK => ?_⟩
    have e15 := (ha 15).trans h1
    clear ha h1
    go_simp
    refine hK _ ?_; rfl
  apply Lo.runx 4 rfl rfl [2] (by kernel_rfl) (Turn.refl _)
  apply Exists.intro; apply And.intro
  · intro u w1 hR hF
    obtain ⟨h2, -⟩ := hF
    refine ⟨rfl, fun a ha K hK => ?_⟩
    have e16 := (ha 16).trans h2
    clear ha h2
    have hS := HB.out.seg.still (HT0.out.same (((Turn.refl [] _).drew).same hR))
    have c3 := hS.c3
    have z1 := lt_of_heap hS.box
    go_simp
    refine hK _ ?_; rfl
  apply Lo.runx 5 rfl rfl [] (by kernel_rfl) (Turn.refl _)
  apply Exists.intro; apply And.intro
  · intro u w1 hR hF
    clear hF
    refine ⟨rfl, fun a ha K hK => ?_⟩
    have e0 := ha 0
    conv at e0 => rhs; whnf
    clear ha
    go_simp
    refine hK _ ?_; rfl
  refine Lo.runv 6 rfl rfl [] (.func (.func 36) #[] #[.pointer (some ⟨w.heap.size, 0, none⟩)]) (by kernel_rfl) (fun u w1 hR hF => ?_) (Turn.refl _) ?_
  · clear hF
    refine ⟨rfl, fun a ha K hK => ?_⟩
    have e4 := ha 4
    conv at e4 => rhs; whnf
    clear ha
    go_simp
    refine hK _ ?_
    rfl
  refine Lo.run 7 rfl rfl [4, 5] (fun y _ => y = .int .i64 (m0 : Nat)) (by kernel_rfl) (fun x w w' h hR => ?_) (fun _ _ h => h) (fun u w1 hR hF => ?_) ?_
  · exact h
  · obtain ⟨h4, h5, -⟩ := hF
    refine ⟨rfl, fun a ha K hK => ?_⟩
    have e18 := (ha 18).trans h4
    have e19 := (ha 19).trans h5
    clear ha h4 h5
    go_simp
    have hw1 := (((Turn.refl [] w0).drew).same hR)
    refine (first_any _ base d sb _ file b0 _ (HB.out.seg.still (HT0.out.same hw1)) (by omega) 36 w.heap.size enter_read1 (finAbove xs from') (fun i j => fin_mono HCH.out from' i j) (fun Z hZ k hk => ?_)).mono ?_
    · have hk' : k < xs.length := by rwa [hpl] at hk
      have e1 := pls_at xs hk'
      rw [List.getElem?_eq_getElem hk] at e1
      have e2 := Option.some.inj e1
      rw [e2]
      have e3 : finAbove xs from' k = decide (from' < xs[k].fin) := by simp [finAbove, List.getElem?_eq_getElem hk']
      rw [e3]
      exact read1_any Z _ w.heap.size from' (hZ.heap (hw1.heap HFR.out (by simp)) (by simp))
    rintro e w2 ⟨⟨m, rfl, hm⟩, ht2⟩
    rw [hpl] at hm
    exact hK _ _ (by rw [least_unique hm HM0.out]) ht2
  refine Lo.runv 8 rfl rfl [3, 6] (.slice (advP xa m0 xc) (xs.length - m0) (xc - m0)) (by kernel_rfl) (fun u w1 hR hF => ?_) (Turn.refl _) ?_
  · obtain ⟨h3, h6, -⟩ := hF
    refine ⟨rfl, fun a ha K hK => ?_⟩
    have e17 := (ha 17).trans h3
    have e20 : a.tmps.getD 20 undef = u 6 := ha 20
    have h6 := (show (fun y _ => y = .int .i64 (m0 : Nat)) (u 6) w1 from h6)
    dsimp only at h6
    clear ha h3
    rw [h6] at e20
    have hsl : ∀ w, (Instr.slice 65 (.slice xa xs.length xc) (some (.int .i64 (m0 : Int))) none none).run Tryz.prog w = .ok (.slice (advP xa m0 xc) (xs.length - m0) (xc - m0)) w := fun w => run_fromP xa xs.length xc m0 hm0l w
    go_simp
    refine hK _ ?_
    rfl
  refine Lo.runv 9 rfl rfl [7] (.int .i64 ((xs.length - m0 : Nat) : Int)) (by kernel_rfl) (fun u w1 hR hF => ?_) (Turn.refl _) ?_
  · obtain ⟨h7, -⟩ := hF
    refine ⟨rfl, fun a ha K hK => ?_⟩
    have e21 := (ha 21).trans h7
    clear ha h7
    go_simp
    refine hK _ ?_
    rfl
  apply Lo.runx 10 rfl rfl [] (by kernel_rfl) (Turn.refl _)
  apply Exists.intro; apply And.intro
  · intro u w1 hR hF
    clear hF
    refine ⟨rfl, fun a ha K hK => ?_⟩
    clear ha
    go_simp
    refine hK _ ?_; rfl
  refine Lo.done [7, 8, 9] (fun u w1 hRd hSd hF => ?_)
  clear hSd
  obtain ⟨f7, f8, f9, -⟩ := hF
  have d7 : u 7 = _ := f7
  have d8 : u 8 = _ := f8
  have d9 : u 9 = _ := f9
  clear f7 f8 f9
  simp only [putFrom, Act.put, List.setIfInBounds_toArray, List.set_cons_succ, List.set_cons_zero, Nat.zero_add, Nat.reduceAdd, d7, d8, d9]
  have HT1 := hide (HT0.out.same (((Turn.refl [] w0).drew).same hRd))
  obtain ⟨nz, hnz⟩ : ∃ nz, nz = xs.length - m0 := ⟨_, rfl⟩
  rw [← hnz]
  have HNZ := hide hnz
  obtain ⟨zs, hzs⟩ : ∃ zs, zs = xs.drop m0 := ⟨_, rfl⟩
  have HZS := hide hzs
  have hzl : zs.length = nz := by rw [hzs, List.length_drop, hnz]
  have hzf : (flat zs).length ≤ (flat xs).length := by
    have e : flat xs = flat (xs.take m0) ++ flat zs := by rw [hzs, ← flat_append, List.take_append_drop]
    have := congrArg List.length e
    rw [List.length_append] at this
    omega
  have htf : ∀ k, (flat (zs.take k)).length ≤ (flat zs).length := fun k => by
    have e : flat zs = flat (zs.take k) ++ flat (zs.drop k) := by rw [← flat_append, List.take_append_drop]
    have := congrArg List.length e
    rw [List.length_append] at this
    omega
  have HTF := hide htf
  have hwl := HT1.out.size
  clear d7 d8 d9 hRd hnz hzs htf
  go_wp2
  go_loopw [8, 9, 23] (fun lv s i wr => ∃ (k : Nat) (ys : List BV), k ≤ nz ∧ i = .int .i64 k ∧ s = .int .i64 ((flat (zs.take k)).length : Nat) ∧ BRow wr w.heap.size lv ys ∧ ys.map (·.x) = zs.take k ∧ (∀ j, 1 ≤ j → j < k → ((flat (zs.take (j + 1))).length : Int) ≤ most) ∧ Turn [] w wr) (fun _ _ i _ => nz - (intOf i).toNat)
  case atStart => exact ⟨0, [], Nat.zero_le _, rfl, rfl, BRow.nil _ _, rfl, fun j h1 h2 => absurd h2 (by omega), HT1.out⟩
  case round =>
    obtain ⟨k, ys, hk, rfl, rfl, hbr, hym, hjs, ht⟩ := hrel
    obtain ⟨la, lc, hlv, hll, hlm⟩ := hbr.row.form
    subst hlv
    have hyl : ys.length = k := by have := congrArg List.length hym; rw [List.length_map, List.length_take] at this; omega
    have HBR := hide hbr
    have HYM := hide hym
    have HJS := hide hjs
    have HT := hide ht
    have hkf := HTF.out k
    clear hbr hym hjs ht
    by_cases hlt : k < nz
    · have hj : m0 + k < xs.length := by have := HNZ.out; omega
      obtain ⟨x, hx⟩ : ∃ x, x = xs[m0 + k] := ⟨_, rfl⟩
      have hkz : k < zs.length := by rw [hzl]; exact hlt
      have hzk : zs[k]'hkz = x := by rw [hx]; simp [HZS.out]
      have hflk : (flat (zs.take (k + 1))).length = (flat (zs.take k)).length + (Bt.encB x).length := by
        rw [List.take_succ_eq_append_getElem hkz, flat_append, List.length_append, flat_one, hzk]
      have hps : (pls 0 (-1) xs)[m0 + k]? = some ⟨(flat (xs.take (m0 + k))).length, (Bt.encB x).length, Cr.sum (Bt.encB x), x.fin, latOf (-1) (xs.take (m0 + k + 1))⟩ := by rw [hx]; exact pls_at xs hj
      have hj' : m0 + k < (pls 0 (-1) xs).length := by omega
      rw [List.getElem?_eq_getElem hj'] at hps
      obtain ⟨p, hp⟩ : ∃ p : Pl, p = ⟨(flat (xs.take (m0 + k))).length, (Bt.encB x).length, Cr.sum (Bt.encB x), x.fin, latOf (-1) (xs.take (m0 + k + 1))⟩ := ⟨_, rfl⟩
      rw [← hp] at hps
      have hps2 := Option.some.inj hps
      obtain ⟨g, cap, e, hc, _⟩ := (HB.out.seg.still HT.out).row.at plC_len hj'
      rw [hps2, hpl] at *
      simp only [Value.slice.injEq, true_and] at e
      obtain ⟨rfl, rfl⟩ := e
      have hadv : advP (some ⟨g, 0, none⟩) m0 xc = some ⟨g, m0 * 5, none⟩ := by
        unfold advP
        rw [if_neg (by omega)]
        simp [addr_add]
      rw [hadv]
      have hml : (m0 + k) * 5 = m0 * 5 + k * 5 := Nat.add_mul _ _ _
      rw [hml] at hc
      have k0 : wr.cell? ⟨g, m0 * 5 + k * 5, none⟩ = some (.int .i64 p.at) := hc 0 (by omega)
      have k1 : wr.cell? ⟨g, m0 * 5 + k * 5 + 1, none⟩ = some (.int .i64 p.size) := hc 1 (by omega)
      have k2 : wr.cell? ⟨g, m0 * 5 + k * 5 + 2, none⟩ = some (.int .i64 p.sum) := hc 2 (by omega)
      have k3 : wr.cell? ⟨g, m0 * 5 + k * 5 + 3, none⟩ = some (.int .i64 p.fin) := hc 3 (by omega)
      have k4 : wr.cell? ⟨g, m0 * 5 + k * 5 + 4, none⟩ = some (.int .i64 p.latest) := hc 4 (by omega)
      have hpsz : p.size = (Bt.encB x).length := by rw [hp]
      have hsum : ((flat (zs.take k)).length : Int) + (p.size : Int) = ((flat (zs.take (k + 1))).length : Nat) := by rw [hpsz, hflk]; omega
      have hkf1 := HTF.out (k + 1)
      have hkl : (k : Int) < nz := by omega
      have HP := hide hp
      have HX := hide hx
      have HZK := hide hzk
      have HSUM := hide hsum
      have HFLK := hide hflk
      have HPS := hide hpsz
      clear hp hx hzk hc hadv hml hps hps2 hj' hflk hpsz
      by_cases hbrk : 0 < k ∧ most < ((flat (zs.take (k + 1))).length : Int)
      · obtain ⟨hb1, hb2⟩ := hbrk
        have hb1' : (0 : Int) < (ys.length : Int) := by omega
        have HYL := hide hyl
        have HB1 := hide hb1
        have HB2 := hide hb2
        clear hyl hpl hb1
        go_wp2
        refine bodyPost_ret (v := .tuple #[.slice la ys.length lc, .nilIface]) (by simp [results, Tryz.results17]) rfl ⟨_, ys, m0, k, rfl, HM0.out, HBR.out.still ((Turn.refl [] wr).alloc _), ?_, ?_, HT.out.alloc _⟩
        · rw [HYM.out, ← HZS.out]
        · rw [← HZS.out]
          exact ⟨by omega, HJS.out, fun _ => ⟨HB1.out, HB2.out⟩⟩
      · have hcases : (¬ (0 : Int) < (ys.length : Int)) ∨ ((0 : Int) < (ys.length : Int) ∧ ¬ most < ((flat (zs.take (k + 1))).length : Int)) := by
          by_cases h0 : 0 < k
          · exact .inr ⟨by omega, fun h => hbrk ⟨h0, h⟩⟩
          · exact .inl (by omega)
        have HYL := hide hyl
        have HBRK := hide hbrk
        clear hyl hpl hbrk
        rcases hcases with hcs | ⟨hcs, hcs2⟩
        all_goals
          have hta : Turn [] w (wr.alloc (.cells #[.int .i64 p.at, .int .i64 p.size, .int .i64 p.sum, .int .i64 p.fin, .int .i64 p.latest] 62)) := HT.out.alloc _
          have hba := batch_any1 _ base d F A sb _ file b0 _ (HB.out.still hta) hfs f HF.out p x (by rw [HX.out]; exact HCH.out.mem _ (List.getElem_mem _)) (by rw [HFB.out, HP.out, HX.out]; exact readL_at hj) (by rw [HP.out]) (by rw [HPS.out]; have := HFLK.out; omega)
          rw [show plV p = .agg #[.int .i64 p.at, .int .i64 p.size, .int .i64 p.sum, .int .i64 p.fin, .int .i64 p.latest] from rfl] at hba
          have HBA := hide hba
          have HTA := hide hta
          clear hba hta
          go_wp2_with fail
          refine HBA.out.mono ?_
          rintro e w4 ⟨rv, rfl, hrec, ht4, hfr⟩
          obtain ⟨ra, rc, hrv, -⟩ := hrec.form
          subst hrv
          have h46 : Turn [] w4 ((w4.alloc (.cells #[.int .i64 x.base, .int .i64 x.fin, .slice ra x.recs.length rc] 37)).alloc (.cells #[.int .i64 x.base, .int .i64 x.fin, .slice ra x.recs.length rc] 37)) := ((Turn.refl [] w4).alloc _).alloc _
          have hr4 : Turn [] wr w4 := ((Turn.refl [] wr).alloc _).same ht4
          have hk6 : ((w4.alloc (.cells #[.int .i64 x.base, .int .i64 x.fin, .slice ra x.recs.length rc] 37)).alloc (.cells #[.int .i64 x.base, .int .i64 x.fin, .slice ra x.recs.length rc] 37)).heap[w4.heap.size + 1]? = some (.cells (batC ⟨x, ra, x.recs.length, rc⟩).toArray 37 (0, 0)) := by
            have := heap_new (w4.alloc (.cells #[.int .i64 x.base, .int .i64 x.fin, .slice ra x.recs.length rc] 37)) (.cells #[.int .i64 x.base, .int .i64 x.fin, .slice ra x.recs.length rc] 37)
            rwa [World.size_alloc] at this
          obtain ⟨v7, w7, hr7, hrow7, ht7, hown7⟩ := app_bat _ w.heap.size (.slice la ys.length lc) ys ⟨x, ra, x.recs.length, rc⟩ (w4.heap.size + 1) ((HBR.out.row.still hr4).still h46) hk6 (by have := HYL.out; omega) (by have := HTA.out.size; have := ht4.size; have := HT.out.size; simp at *; omega)
          have HREC := hide (hrec.still h46)
          have HLT4 := hide hrec.lt
          have HFR := hide hfr
          have HOWN7 := hide hown7
          have HS6 := hide h46.size
          have HR7 := hide hr7
          have HROW7 := hide hrow7
          have HT7 := hide ht7
          have HW6 := hide (hr4.same h46)
          have HTA' := hide ((HT.out.same (hr4.same h46)).trans ht7 (fun k hk => .inr (by have := (HBR.out.row.lt k (by simpa using hk)).1; omega)))
          clear HBA hrec ht4 h46 hr4 hk6 hr7 hrow7 ht7 hown7 hfr
          go_wp2_with (at_builtin; go_must (refine wpList_append_told rfl rfl rfl rfl HR7.out ?_))
          have hwr := HT.out.size
          have hw46 := HS6.out
          have hbl := HBR.out.row.lt
          refine ⟨⟨k + 1, ys ++ [⟨x, ra, x.recs.length, rc⟩], hlt, by go_num, rfl, ⟨HROW7.out, fun y hy => ?_, fun y hy => ?_, fun y hy => ?_⟩, ?_, fun j h1 h2 => ?_, HTA'.out⟩, ?_⟩
          · rcases List.mem_append.1 hy with hy | hy
            · exact ((HBR.out.recs y hy).still HW6.out).kept' HT7.out (fun h0 k hk hm => HBR.out.sep y hy h0 k hk (by simpa using hm))
            · obtain rfl := List.mem_singleton.1 hy
              exact HREC.out.kept' HT7.out (fun h0 k hk hm => by have h1 := HFR.out h0 k hk; have h2 := hbl k (by simpa using hm); simp at h1; omega)
          · rcases List.mem_append.1 hy with hy | hy
            · exact HBR.out.own y hy
            · obtain rfl := List.mem_singleton.1 hy
              intro h0 k hk
              have h1 := HFR.out h0 k hk
              simp at h1; omega
          · rcases List.mem_append.1 hy with hy | hy
            · intro h0 k hk hm
              rcases HOWN7.out k hm with h | h
              · exact HBR.out.sep y hy h0 k hk h
              · have := (HBR.out.recs y hy).lt h0 k hk; have := HW6.out.size; omega
            · obtain rfl := List.mem_singleton.1 hy
              intro h0 k hk hm
              rcases HOWN7.out k hm with h | h
              · have h1 := HFR.out h0 k hk; have h2 := hbl k h; simp at h1; omega
              · have := HLT4.out h0 k hk; omega
          · rw [List.map_append, HYM.out, List.take_succ_eq_append_getElem hkz, HZK.out]; rfl
          · by_cases hjk : j < k
            · exact HJS.out j h1 hjk
            · obtain rfl : j = k := by omega
              first
              | exact hcs2
              | exact absurd HYL.out (by omega)
          · simp only [intOf]; omega
    · obtain rfl : k = nz := by omega
      go_wp2
      refine bodyPost_ret (v := .tuple #[.slice la ys.length lc, .nilIface]) (by simp [results, Tryz.results17]) rfl ⟨_, ys, m0, zs.length, rfl, HM0.out, HBR.out, ?_, ?_, HT.out⟩
      · rw [HYM.out, ← HZS.out, hzl]
      · rw [← HZS.out]
        exact ⟨Nat.le_refl _, fun j h1 h2 => HJS.out j h1 (by omega), fun h => absurd h (by omega)⟩
end Go.Proofs.YtjbpladooohpdaaGreatDoor.Sg

/- plain.Same of equal records: true. -/
namespace Go.Proofs.YtjbpladooohpdaaGreatDoor
open Go.RowKit Go.Maps
set_option maxRecDepth 100000
set_option linter.unusedSimpArgs false
set_option linter.unusedVariables false

set_option maxHeartbeats 2000000 in
theorem same_any (w : World) (v v' : Value) (recs : List Bt.Rec) (h : RecsAt w v recs) (h' : RecsAt w v' recs) :
    Calls Tryz.prog 20 #[v, v'] w fun e w' => e = .returned (.bool true) ∧ Turn [] w w' := by
  obtain ⟨a, c, rfl, hlc, hcm, hn0, hp⟩ := h.form
  obtain ⟨a', c', rfl, hlc', hcm', hn0', hp'⟩ := h'.form
  have hmx : maxLen = 9223372036854775807 := by simp [maxLen]
  rw [hmx] at hcm hcm'
  have HR : Hid (RecsAt w (.slice a recs.length c) recs) := h
  have HR' : Hid (RecsAt w (.slice a' recs.length c') recs) := h'
  clear h h' hn0 hn0'
  go_enter Tryz.func20, Tryz.ntmps20
  go_wp2
  go_loopw [13] (fun i wr => ∃ k : Nat, k ≤ recs.length ∧ i = .int .i64 k ∧ Turn [] w wr) (fun i _ => recs.length - (intOf i).toNat)
  case atStart => exact ⟨0, Nat.zero_le _, rfl, Turn.refl _ _⟩
  case round =>
    obtain ⟨k, hk, rfl, ht⟩ := hrel
    have HT := hide ht
    clear ht
    by_cases hlt : k < recs.length
    · obtain ⟨p, rfl⟩ := hp k hlt
      obtain ⟨p', rfl⟩ := hp' k hlt
      have HC := hide (fun Z (hZ : Turn [] wr Z) => ((HR.out.still HT.out).still hZ).six hlt)
      have HC' := hide (fun Z (hZ : Turn [] wr Z) => ((HR'.out.still HT.out).still hZ).six hlt)
      clear hp hp'
      obtain ⟨r, hr⟩ : ∃ r, r = recs[k] := ⟨_, rfl⟩
      rw [← hr] at HC HC'
      clear hr
      go_wp2
      refine wp_region_loose (Turn []) (by kernel_rfl) (by kernel_rfl) (by kernel_rfl) (by kernel_rfl) rfl (Turn.refl _) (fun _ _ _ h k => h.same k) ?_
      apply Lo.runx 1 rfl rfl [] (by kernel_rfl) (Turn.refl _)
      apply Exists.intro; apply And.intro
      · intro u w1 hR hF
        clear hF
        refine ⟨rfl, fun a ha K hK => ?_⟩
        have e0 := ha 0
        conv at e0 => rhs; whnf
        clear ha
        go_simp
        refine hK _ ?_; rfl
      apply Lo.runx 2 rfl rfl [] (by kernel_rfl) (Turn.refl _)
      apply Exists.intro; apply And.intro
      · intro u w1 hR hF
        clear hF
        refine ⟨rfl, fun a ha K hK => ?_⟩
        have e5 := ha 5
        conv at e5 => rhs; whnf
        clear ha
        go_simp
        refine hK _ ?_; rfl
      apply Lo.runx 3 rfl rfl [0, 1] (by kernel_rfl) (Turn.refl _)
      apply Exists.intro; apply And.intro
      · intro u w1 hR hF
        obtain ⟨h0, h1, -⟩ := hF
        refine ⟨rfl, fun a ha K hK => ?_⟩
        have e16 := (ha 16).trans h0
        have e17 := (ha 17).trans h1
        clear ha h0 h1
        go_simp
        refine hK _ ?_; rfl
      apply Lo.runx 4 rfl rfl [2] (by kernel_rfl) (Turn.refl _)
      apply Exists.intro; apply And.intro
      · intro u w1 hR hF
        obtain ⟨h2, -⟩ := hF
        refine ⟨rfl, fun a ha K hK => ?_⟩
        have e18 := (ha 18).trans h2
        clear ha h2
        obtain ⟨g0, g1, g2, g3, g4, g5⟩ := HC.out w1 ((Turn.refl [] _).drew.same hR)
        go_simp
        refine hK _ ?_; rfl
      apply Lo.runx 5 rfl rfl [] (by kernel_rfl) (Turn.refl _)
      apply Exists.intro; apply And.intro
      · intro u w1 hR hF
        clear hF
        refine ⟨rfl, fun a ha K hK => ?_⟩
        have e1 := ha 1
        conv at e1 => rhs; whnf
        clear ha
        go_simp
        refine hK _ ?_; rfl
      apply Lo.runx 6 rfl rfl [] (by kernel_rfl) (Turn.refl _)
      apply Exists.intro; apply And.intro
      · intro u w1 hR hF
        clear hF
        refine ⟨rfl, fun a ha K hK => ?_⟩
        have e5 := ha 5
        conv at e5 => rhs; whnf
        clear ha
        go_simp
        refine hK _ ?_; rfl
      apply Lo.runx 7 rfl rfl [4, 5] (by kernel_rfl) (Turn.refl _)
      apply Exists.intro; apply And.intro
      · intro u w1 hR hF
        obtain ⟨h4, h5, -⟩ := hF
        refine ⟨rfl, fun a ha K hK => ?_⟩
        have e20 := (ha 20).trans h4
        have e21 := (ha 21).trans h5
        clear ha h4 h5
        go_simp
        refine hK _ ?_; rfl
      apply Lo.runx 8 rfl rfl [6] (by kernel_rfl) (Turn.refl _)
      apply Exists.intro; apply And.intro
      · intro u w1 hR hF
        obtain ⟨h6, -⟩ := hF
        refine ⟨rfl, fun a ha K hK => ?_⟩
        have e22 := (ha 22).trans h6
        clear ha h6
        obtain ⟨g0, g1, g2, g3, g4, g5⟩ := HC'.out w1 ((Turn.refl [] _).drew.same hR)
        go_simp
        refine hK _ ?_; rfl
      refine Lo.runv 9 rfl rfl [3, 7] (.bool (false)) (by kernel_rfl) (fun u w1 hR hF => ?_) (Turn.refl _) ?_
      · obtain ⟨h3, h7, -⟩ := hF
        refine ⟨rfl, fun a ha K hK => ?_⟩
        have e19 := (ha 19).trans h3
        have e23 := (ha 23).trans h7
        clear ha h3 h7
        go_simp
        refine hK _ ?_
        simp
      refine Lo.done [8] (fun u w1 hRd hSd hF => ?_)
      clear hSd
      obtain ⟨f8, -⟩ := hF
      have d8 : u 8 = _ := f8
      clear f8
      simp only [putFrom, Act.put, List.setIfInBounds_toArray, List.set_cons_succ, List.set_cons_zero, Nat.zero_add, Nat.reduceAdd, d8]
      have HT1 := hide (HT.out.same ((Turn.refl [] wr).drew.same hRd))
      clear hRd
      go_wp2
      refine ⟨⟨k + 1, by omega, by go_num, HT1.out⟩, ?_⟩
      simp only [intOf]; omega
    · obtain rfl : k = recs.length := by omega
      go_wp2
      go_ret
      exact ⟨rfl, HT.out⟩
end Go.Proofs.YtjbpladooohpdaaGreatDoor

/- Append onto a row of structs: in place or in a new block, told apart ahead. No program. -/
namespace Go.Proofs.YtjbpladooohpdaaGreatDoor
open Go.RowKit
set_option linter.unusedSimpArgs false
set_option linter.unusedVariables false

def incV : Value → Value
  | .slice a n c => .slice a (n + 1) c
  | v => v
def slackB : Value → Bool
  | .slice _ n c => decide (n < c)
  | _ => false
theorem incV_own {v : Value} {k : Nat} (h : k ∈ (incV v).ownBlock) : k ∈ v.ownBlock := by
  unfold incV at h
  split at h
  · rename_i a n c
    cases a <;> exact h
  · exact h
section
variable {α : Type} {T : TypeId} {n : Nat} {enc : α → List Value}
/-- What an append has left, whatever has turned since but the row itself (L: how great the heap was). -/
def Apd (T : TypeId) (n : Nat) (enc : α → List Value) (base L : Nat) (v : Value) (ys : List α) (x : Value) (w : World) : Prop :=
  (slackB v = true ∧ x = incV v) ∨ (slackB v = false ∧ GRow T n enc w base x ys ∧ ∀ j ∈ x.ownBlock, L ≤ j)
/-- And the row itself. -/
def Apr (T : TypeId) (n : Nat) (enc : α → List Value) (base : Nat) (v : Value) (ys : List α) (w : World) : Prop := slackB v = true → GRow T n enc w base (incV v) ys
theorem Apd.kept {S : List Nat} {w w' : World} {base L : Nat} {v x : Value} {ys : List α} (h : Apd T n enc base L v ys x w) (ht : Turn S w w') (hS : ∀ k ∈ S, k < L) : Apd T n enc base L v ys x w' := by
  rcases h with h | ⟨h0, h1, h2⟩
  · exact .inl h
  · exact .inr ⟨h0, h1.kept ht (fun k hk hm => by have := h2 k hk; have := hS k hm; omega), h2⟩
theorem Apr.kept {S : List Nat} {w w' : World} {base : Nat} {v : Value} {ys : List α} (h : Apr T n enc base v ys w) (ht : Turn S w w') (hS : ∀ k ∈ v.ownBlock, k ∉ S) : Apr T n enc base v ys w' :=
  fun hs => (h hs).kept ht (fun k hk => hS k (incV_own hk))
theorem Apd.row {w : World} {base L : Nat} {v x : Value} {ys : List α} (h : Apd T n enc base L v ys x w) (hr : Apr T n enc base v ys w) : GRow T n enc w base x ys ∧ ∀ j ∈ x.ownBlock, j ∈ v.ownBlock ∨ L ≤ j := by
  rcases h with ⟨h0, rfl⟩ | ⟨h0, h1, h2⟩
  · exact ⟨hr h0, fun j hj => .inl (incV_own hj)⟩
  · exact ⟨h1, fun j hj => .inr (h2 j hj)⟩
theorem Apd.mk {w : World} {base L : Nat} {v x : Value} {ys : List α} (h : GRow T n enc w base x ys) {k : Nat} (hk : L ≤ k) (h2 : (slackB v = true ∧ x = incV v) ∨ (slackB v = false ∧ ∀ j ∈ x.ownBlock, k ≤ j)) : Apd T n enc base L v ys x w ∧ Apr T n enc base v ys w := by
  rcases h2 with ⟨h0, rfl⟩ | ⟨h0, h2⟩
  · exact ⟨.inl ⟨h0, rfl⟩, fun _ => h⟩
  · exact ⟨.inr ⟨h0, h, fun j hj => Nat.le_trans hk (h2 j hj)⟩, fun hs => by rw [h0] at hs; cases hs⟩

/-- Rows of different types lie apart. -/
theorem GRow.apart {β : Type} {T' : TypeId} {m : Nat} {enc' : β → List Value} {w : World} {base base' : Nat} {v v' : Value} {xs : List α} {ys : List β} (h : GRow T n enc w base v xs) (h' : GRow T' m enc' w base' v' ys) (hne : T ≠ T') : ∀ k ∈ v.ownBlock, k ∉ v'.ownBlock := by
  rcases h with ⟨rfl, -⟩ | ⟨g, cap, cur, rfl, -, hg, -⟩
  · simp [Value.ownBlock]
  · rcases h' with ⟨rfl, -⟩ | ⟨g', cap', cur', rfl, -, hg', -⟩
    · simp [Value.ownBlock]
    · intro k hk hk'
      simp [Value.ownBlock] at hk hk'
      subst hk
      subst hk'
      rw [hg] at hg'
      simp at hg'
      exact hne hg'.2

/-- APPEND of one struct: in place where there is slack, else in a new block. -/
theorem run_append_g2 {P : Program} (t ty : TypeId) (ht : P.underlying t = some (.slice T)) (i : TypeInfo) (z : Value) (hi : P.info? T = some i) (hz : i.zero = some z) (hzs : z.cells.size = n) (hsize : i.size = n) (hby : i.bytes ≤ 1000) (hn : ∀ x, (enc x).length = n) (hone : ∀ x, ∀ u ∈ enc x, u.oneCell' = true)
    (w : World) (base : Nat) (v : Value) (xs : List α) (x : α) (k : Nat) (hrow : GRow T n enc w base v xs) (hk : w.heap[k]? = some (.cells (enc x).toArray T (0, 0))) (hlen : xs.length ≤ 1000000) (hbase : base ≤ w.heap.size) :
    ∃ v' w', (Builtin.append_ #[t, t] ty #[v, .slice (some ⟨k, 0, none⟩) 1 1]).run P w = .ok v' w' ∧ GRow T n enc w' base v' (xs ++ [x]) ∧ Turn v.ownBlock.toList w w' ∧ ((slackB v = true ∧ v' = incV v) ∨ (slackB v = false ∧ ∀ j ∈ v'.ownBlock, w.heap.size ≤ j)) := by
  have hmax : maxLen = 9223372036854775807 := by simp [maxLen]
  have hl : (enc x).length = 1 * i.size := by rw [hsize, hn]; omega
  have hnews : ∀ j u, (enc x)[j]? = some u → w.cell? ((⟨k, 0, none⟩ : Addr).add j) = some u := fun j u hu => by
    rw [addr_add, cell_of hk]; simpa using hu
  rcases hrow with ⟨rfl, rfl⟩ | ⟨g, cap, cur, rfl, hb, hg, h1, h2, h3, h4⟩
  · have hr := run_append_nil (P := P) w t ty T i z ht hi hz ⟨k, 0, none⟩ 1 1 (enc x) hl hnews (by omega) (by omega) (by omega)
    have hge := grownCap_ge w 1 0 T
    have hcm := grownCap_le_maxLen w 1 0 T (by rw [hmax]; omega)
    refine ⟨_, _, hr, .inr ⟨w.heap.size, _, _, by simp, hbase, heap_new w.drew _, by simpa using hge, ?_, hcm, ?_⟩, ((Turn.refl _ _).drew).alloc _, .inr ⟨rfl, by simp [Value.ownBlock]⟩⟩
    · simp only [Array.size_append, List.size_toArray, size_zeroCells, hzs, hn]
      have : grownCap w 1 0 T * n = 1 * n + (grownCap w 1 0 T - 1) * n := by rw [← Nat.add_mul]; congr 1; omega
      omega
    · simp only [Array.toList_append, List.nil_append, List.length_singleton]
      rw [List.take_append_of_le_length (by simp [hn]), List.take_of_length_le (by simp [hn])]
      simp
  · have hfl : (xs.flatMap enc ++ enc x).length = (xs.length + 1) * n := by rw [List.length_append, gflat_len hn, hn, Nat.add_mul]; omega
    by_cases hroom : xs.length + 1 ≤ cap
    · have hfit : (xs.length + 1) * n ≤ cur.size := Nat.le_trans (Nat.mul_le_mul_right _ hroom) h2
      have hr := run_append_room (P := P) w t ty T i ht hi g xs.length cap cur hg ⟨k, 0, none⟩ 1 1 (enc x) hl hnews (hone x) hroom (by rw [hsize, hn]; rw [Nat.add_mul] at hfit; omega)
      rw [hsize] at hr
      refine ⟨_, _, hr, .inr ⟨g, cap, _, by simp, hb, setRow_heap w g cur _ T _ hg, by simpa using hroom, ?_, h3, ?_⟩, ⟨rfl, rfl, rfl, by simp, fun k _ hk => setRow_other w g k _ (fun e => hk (by simp [Value.ownBlock, e]))⟩, .inl ⟨decide_eq_true (by omega), rfl⟩⟩
      · simp [hn]
        rw [Nat.add_mul] at hfit
        have hcs : xs.length * n ≤ cur.size := by omega
        rw [Nat.min_eq_left hcs]
        omega
      · simp only [h4, List.append_assoc]
        rw [← List.append_assoc, List.take_append_of_le_length (by rw [hfl]; simp), List.take_of_length_le (by rw [hfl]; simp)]
        simp
    · have holds : ∀ j u, (xs.flatMap enc)[j]? = some u → w.cell? ((⟨g, 0, none⟩ : Addr).add j) = some u := by
        intro j u hu
        rw [addr_add, cell_of hg]
        have hj : j < xs.length * n := by have := (List.getElem?_eq_some_iff.1 hu).1; rwa [gflat_len hn] at this
        rw [← h4, List.getElem?_take_of_lt hj] at hu
        simpa using hu
      have hr := run_append_grow (P := P) w t ty T i z ht hi hz ⟨g, 0, none⟩ xs.length cap (xs.flatMap enc) (by rw [gflat_len hn, hsize]) holds ⟨k, 0, none⟩ 1 1 (enc x) hl hnews (by omega) (by omega) (growslice_fits (by omega) (by have : (xs.length + 1) * i.bytes ≤ 1000001 * 1000 := Nat.mul_le_mul (by omega) hby; omega))
      have hge := grownCap_ge w (xs.length + 1) cap T
      have hcm := grownCap_le_maxLen w (xs.length + 1) cap T (by rw [hmax]; omega)
      refine ⟨_, _, hr, .inr ⟨w.heap.size, _, _, by simp, hbase, heap_new w.drew _, by simpa using hge, ?_, hcm, ?_⟩, ((Turn.refl _ _).drew).alloc _, .inr ⟨decide_eq_false (by omega), by simp [Value.ownBlock]⟩⟩
      · simp only [Array.size_append, List.size_toArray, size_zeroCells, hzs, hn, gflat_len hn]
        have : grownCap w (xs.length + 1) cap T * n = (xs.length + 1) * n + (grownCap w (xs.length + 1) cap T - (xs.length + 1)) * n := by rw [← Nat.add_mul]; congr 1; omega
        rw [Nat.add_mul] at this
        omega
      · simp only [Array.toList_append]
        rw [List.take_append_of_le_length (by show (xs ++ [x]).length * n ≤ (xs.flatMap enc ++ enc x).length; rw [hfl]; simp), List.take_of_length_le (by show (xs.flatMap enc ++ enc x).length ≤ (xs ++ [x]).length * n; rw [hfl]; simp)]
        simp
end
end Go.Proofs.YtjbpladooohpdaaGreatDoor

/- Integers and lists of records that came in (of a law). -/
namespace Go.Proofs.YtjbpladooohpdaaGreatDoor
open Go.RowKit Go.Maps
set_option maxRecDepth 100000
set_option linter.unusedSimpArgs false
set_option linter.unusedVariables false
variable {H : Type} {enc : TypeId × Value → H} {base : Nat} {spare : Nat → Bool} {held : Bool}
theorem open_int {w : World} {r : Reach} {b0 : Nat} {v : Value} {d : DataW H} {ps : List MemPlace} (hv : Value.okWide Tryz.prog w r b0 3 v) (h : DataW.Trod enc Tryz.prog w base spare held 3 v d ps) : ∃ z : Int, v = .int .i64 z ∧ -9223372036854775808 ≤ z ∧ z ≤ 9223372036854775807 := by
  obtain ⟨z, rfl⟩ := WideShapes.okWide_int Tryz.underlying3 hv
  obtain ⟨n, h⟩ := h
  simp only [Value.cells] at h
  obtain ⟨m, e, -, hw⟩ := DataW.trod_int Tryz.underlying3 h
  simp only [List.cons.injEq, and_true, Value.int.injEq, true_and] at e
  subst e
  exact ⟨_, rfl, wf_i64 hw⟩
theorem open_rows {w : World} {r : Reach} {b0 : Nat} {v : Value} {d : DataW H} {ps : List MemPlace} (hv : Value.okWide Tryz.prog w r b0 35 v) (h : DataW.Trod enc Tryz.prog w base spare held 35 v d ps) : ∃ rs, RecsAt w v rs := by
  obtain ⟨a', len', cap', rfl⟩ := WideShapes.okWide_slice Tryz.underlying35 hv
  obtain ⟨n, h⟩ := h
  simp only [Value.cells] at h
  exact open_recs h
end Go.Proofs.YtjbpladooohpdaaGreatDoor

/- Lists of lists of records that came in (of a law). -/
namespace Go.Proofs.YtjbpladooohpdaaGreatDoor
open Go.RowKit Go.Maps
set_option maxRecDepth 100000
set_option linter.unusedSimpArgs false
set_option linter.unusedVariables false
/-- Lists of records that came in. -/
structure RecssAt (W : World) (v : Value) (rss : List (List Bt.Rec)) : Prop where
  form : ∃ a c, v = .slice a rss.length c ∧ rss.length ≤ c ∧ c ≤ maxLen
  at_ : ∀ Z, Turn [] W Z → ∀ j (h : j < rss.length), ∃ p c sj, v = .slice (some p) rss.length c ∧ Z.cell? (p.add j) = some sj ∧ RecsAt Z sj rss[j]
theorem cells_rs : Tryz.prog.cellsOf 35 = 1 := by kernel_rfl
variable {H : Type} {enc : TypeId × Value → H} {base : Nat} {spare : Nat → Bool} {held : Bool}
theorem open_rowss {w : World} {r : Reach} {b0 : Nat} {v : Value} {d : DataW H} {ps : List MemPlace} (hv : Value.okWide Tryz.prog w r b0 22 v) (h : DataW.Trod enc Tryz.prog w base spare held 22 v d ps) : ∃ rss, RecssAt w v rss := by
  obtain ⟨a', len', cap', rfl⟩ := WideShapes.okWide_slice Tryz.underlying22 hv
  obtain ⟨n, h⟩ := h
  simp only [Value.cells] at h
  rcases Deep.open_slice Tryz.underlying22 h with ⟨hcs, -⟩ | ⟨a, len, cap, m, k, D, Pl, hcs, -, h1, h2, h3, -, h4⟩
  · simp only [List.cons.injEq, and_true] at hcs
    rw [hcs]
    exact ⟨[], ⟨none, 0, rfl, Nat.le_refl _, Nat.zero_le _⟩, fun Z _ j hj => absurd hj (Nat.not_lt_zero _)⟩
  · simp only [List.cons.injEq, and_true] at hcs
    rw [hcs]
    have hlm : len ≤ m := by rw [h3]; split <;> omega
    rw [cells_rs] at h4
    have hr : ∀ i, i < len → ∃ rs, ∃ sj, w.cell? (a.add i) = some sj ∧ RecsAt w sj rs := by
      intro i hi
      obtain ⟨cs', g1, g2⟩ := h4 i (by omega)
      obtain ⟨-, -, g3⟩ := World.cells?_some g1
      have hone : ∃ sj, cs' = [sj] := by
        rcases Deep.open_slice Tryz.underlying35 g2 with ⟨e, -⟩ | ⟨a2, len2, cap2, m2, k2, D2, P2, e, -⟩
        · exact ⟨_, e⟩
        · exact ⟨_, e⟩
      obtain ⟨sj, rfl⟩ := hone
      obtain ⟨rs, hrs⟩ := open_recs g2
      have := g3 0 (by omega)
      rw [add_add, Nat.mul_one, Nat.add_zero] at this
      exact ⟨rs, sj, this, hrs⟩
    let rss : List (List Bt.Rec) := (List.range len).attach.map fun i => (hr i.1 (List.mem_range.1 i.2)).choose
    have hl : rss.length = len := by simp [rss]
    refine ⟨rss, ⟨some a, cap, by rw [hl], by rw [hl]; exact h1, h2⟩, fun Z hZ j hj => ?_⟩
    have hj' : j < len := by omega
    have e : rss[j] = (hr j hj').choose := by simp [rss]
    obtain ⟨sj, h5, h6⟩ := (hr j hj').choose_spec
    refine ⟨a, cap, sj, by rw [hl], ?_, ?_⟩
    · rw [World.cell?_of_block (w := w) (hZ.block _ (World.block_lt_of_cell? _ _ h5) (by simp)), h5]
    · rw [e]
      exact h6.still hZ
end Go.Proofs.YtjbpladooohpdaaGreatDoor
