/- Cpf, Row3, KBat, Lgc, Sgs, Sgb, Sgr, Lge, Lgf, Lgg: texts merged. -/
import Derived.Test.YthbhfhagbaommaaGreatDoorM5
import Derived.Test.YthbhfhagbaommaaGreatDoorM3
import Derived.Test.YthbhfhagbaommaaGreatDoorM2
import Derived.Test.YthbhfhagbaommaaGreatDoorM4
/- (*segment.Segment).anew, leave: an empty segment in the file beside another one's. -/
namespace Go.Proofs.YthbhfhagbaommaaGreatDoor.Lg
open Go.RowKit Go.Maps
set_option maxRecDepth 100000
set_option linter.unusedSimpArgs false
set_option linter.unusedVariables false
attribute [local go_sem] Oper.semAt_some
open Dk (DA DiskAt Parts Did errR errV)
open Sg (SegAt sfoot pls Both Came nextOf flat Pl Fresh1 disk_size empty_any)

/-- The name of the file beside a segment's. -/
def besideB (file : ByteArray) : ByteArray := (⟨(Lib.trimSuffix file.data.toList [46, 108, 111, 103]).toArray⟩ : ByteArray) ++ ⟨#[46, 110, 101, 119]⟩
theorem suffix_le (l p : List UInt8) : (Lib.trimSuffix l p).length ≤ l.length := by
  unfold Lib.trimSuffix
  split <;> simp
theorem besideB_size (file : ByteArray) : (besideB file).size ≤ file.size + 4 := by
  unfold besideB
  rw [ByteArray.size_append]
  have h := suffix_le file.data.toList [46, 108, 111, 103]
  have e1 : (⟨(Lib.trimSuffix file.data.toList [46, 108, 111, 103]).toArray⟩ : ByteArray).size = (Lib.trimSuffix file.data.toList [46, 108, 111, 103]).length := by show Array.size _ = _; simp
  have e2 : (⟨#[46, 110, 101, 119]⟩ : ByteArray).size = 4 := rfl
  have e3 : file.data.toList.length = file.size := by simp
  omega
/-- What a crash left in a file goes. -/
def clearS (A : DA) (nm : List UInt8) : Int × DA := if 0 ≤ A.sizeOf nm then A.remove nm else (0, A)
def anewS (A : DA) (file : ByteArray) : Int × DA := if (clearS A file.data.toList).1 ≠ 0 then clearS A file.data.toList else (clearS A file.data.toList).2.make file
theorem did_then {w w1 w' : World} {base d : Nat} {F F1 : List Nat} {A' : DA} (ht : Turn F w w1) (hf : ∀ k ∈ F1, k ∈ F ∨ w.heap.size ≤ k) (h : Did w1 w' base d F1 A') : Did w w' base d F A' := by
  obtain ⟨F', hd, ht2, hf2⟩ := h
  exact ⟨F', hd, ht.trans ht2 hf, fun k hk => (hf2 k hk).elim (hf k) (fun h => .inr (Nat.le_trans ht.size h))⟩
theorem fresh_then {w w1 w' : World} {base d : Nat} {F F1 : List Nat} {A' : DA} {sb : Nat} {file : ByteArray} {b0 : Int} (ht : Turn F w w1) (hf : ∀ k ∈ F1, k ∈ F ∨ w.heap.size ≤ k) (h : Fresh1 w1 w' base d F1 A' sb file b0) : Fresh1 w w' base d F A' sb file b0 := by
  obtain ⟨F', hd, ht2, hf2, hs⟩ := h
  exact ⟨F', hd, ht.trans ht2 hf, fun k hk => (hf2 k hk).elim (hf k) (fun h => .inr (Nat.le_trans ht.size h)), Nat.le_trans ht.size hs⟩
/-- The clearing, as a disk's operation. -/
def AfterClear (w w1 : World) (base d : Nat) (F : List Nat) (A' : DA) (sb : Nat) (sv : Value) (file : ByteArray) (b0 : Int) (ps : List Pl) : Prop :=
  ∃ F1, Both w1 base d F1 A' sb sv file b0 ps ∧ Turn F w w1 ∧ ∀ k ∈ F1, k ∈ F ∨ w.heap.size ≤ k
theorem both_cleared {w w' : World} {base d sb : Nat} {F : List Nat} {A A' : DA} {sv : Value} {file : ByteArray} {b0 : Int} {ps : List Pl} (h : Both w base d F A sb sv file b0 ps) (hd : Did w w' base d F A') : AfterClear w w' base d F A' sb sv file b0 ps := by
  obtain ⟨F', hd, ht, hf⟩ := hd
  exact ⟨F', ⟨hd, h.seg.kept ht h.sep, fun k hk hm => (hf k hm).elim (h.sep k hk) (fun h' => by have := (h.seg.lt k hk).2; omega)⟩, ht, hf⟩
set_option maxHeartbeats 2000000 in
theorem anew_any (w : World) (base d : Nat) (F : List Nat) (A : DA) (sb : Nat) (sv : Value) (file : ByteArray) (b0 : Int) (ps : List Pl) (h : Both w base d F A sb sv file b0 ps) (hfs : file.size ≤ 10000) :
    Calls Tryz.prog 88 #[.pointer (some ⟨sb, 0, none⟩)] w fun e w' =>
      ((anewS A (besideB file)).1 ≠ 0 ∧ e = .returned (.tuple #[.pointer none, errR (anewS A (besideB file)).1]) ∧ Did w w' base d F (anewS A (besideB file)).2) ∨
      ((anewS A (besideB file)).1 = 0 ∧ ∃ sb2, e = .returned (.tuple #[.pointer (some ⟨sb2, 0, none⟩), .nilIface]) ∧ Fresh1 w w' base d F (anewS A (besideB file)).2 sb2 (besideB file) b0) := by
  have hmx : maxLen = 9223372036854775807 := by simp [maxLen]
  have H := hide h
  have c0 := h.seg.c0
  have c1 := h.seg.c1
  have hsb := lt_of_heap h.seg.box
  clear h
  have hb4 := besideB_size file
  have hbs : (besideB file).size ≤ maxLen := by omega
  have htr := Tryz.strings_TrimSuffix file ⟨#[46, 108, 111, 103]⟩ w (by omega)
  rw [show (⟨#[46, 108, 111, 103]⟩ : ByteArray).data.toList = [46, 108, 111, 103] from rfl] at htr
  have hsf := suffix_le file.data.toList [46, 108, 111, 103]
  obtain ⟨R, hR⟩ : ∃ R : ByteArray, R = ⟨(Lib.trimSuffix file.data.toList [46, 108, 111, 103]).toArray⟩ := ⟨_, rfl⟩
  have hRs : R.size ≤ 10000 := by
    have e1 : R.size = (Lib.trimSuffix file.data.toList [46, 108, 111, 103]).length := by rw [hR]; show Array.size _ = _; simp
    have e3 : file.data.toList.length = file.size := by simp
    omega
  have hBe : besideB file = R ++ ⟨#[46, 110, 101, 119]⟩ := by unfold besideB; rw [hR]
  rw [← hR] at htr
  have HTR := hide htr
  have HBS := hide hbs
  have HBE := hide hBe
  clear htr hsf hR hbs hBe hb4
  obtain ⟨B, hB⟩ : ∃ B, B = besideB file := ⟨_, rfl⟩
  have hBR : R ++ ⟨#[46, 110, 101, 119]⟩ = B := by rw [hB]; exact HBE.out.symm
  rw [← hB] at HBS ⊢
  have HBR := hide hBR
  clear hB HBE hBR
  have hcat : ¬ (9223372036854775807 < R.size + 4) := by omega
  go_enter Tryz.func88, Tryz.ntmps88
  go_wp2_with fail
  refine HTR.out.mono ?_
  rintro e wa ⟨rfl, rfl⟩
  clear HTR
  go_wp2_with fail
  rw [HBR.out]
  refine (disk_size H.out.disk B HBS.out).mono ?_
  rintro e wb ⟨rfl, rfl⟩
  by_cases hz : 0 ≤ A.sizeOf B.data.toList
  · have hcl : clearS A B.data.toList = A.remove B.data.toList := if_pos hz
    have HCL := hide hcl
    clear hcl
    go_wp2_with fail
    obtain ⟨mref, msd, hp⟩ := H.out.disk
    refine (Dk.remove_any hp B HBS.out).mono ?_
    rintro e wc ⟨rfl, hd⟩
    obtain ⟨c, hc⟩ : ∃ c, c = (A.remove B.data.toList).1 := ⟨_, rfl⟩
    have HC := hide hc
    rw [← hc]
    by_cases h0 : c = 0
    · have hr : errR c = .nilIface := by rw [h0]; rfl
      rw [hr]
      obtain ⟨F1, hbb, htf, hff⟩ := both_cleared H.out hd
      obtain ⟨A1, hA1⟩ : ∃ A1, A1 = (A.remove B.data.toList).2 := ⟨_, rfl⟩
      have han : anewS A B = A1.make B := by
        unfold anewS
        rw [HCL.out, ← HC.out, if_neg (by rw [h0]; simp), hA1]
      rw [← hA1] at hbb
      have HBB := hide hbb
      have HTF := hide htf
      have HFF := hide hff
      have HAN := hide han
      clear hbb htf hff han hr h0 hc hd hp hA1 HCL HC
      obtain ⟨cc, hcc⟩ : ∃ cc, cc = (A1.make B).1 := ⟨_, rfl⟩
      obtain ⟨A2, hA2⟩ : ∃ A2, (A1.make B).2 = A2 := ⟨_, rfl⟩
      have HCC := hide hcc
      have HA2 := hide hA2
      clear hA2
      by_cases hne : cc ≠ 0
      · have hr : errR (A1.make B).1 = .iface 56 (.int .i64 cc) := by rw [← hcc]; unfold errR; rw [if_neg hne]; rfl
        have HRR := hide hr
        have HNE := hide hne
        clear hr hne hcc
        go_wp2
        refine wp_region_loud 12 (Turn F1) (Turn []) (fun k w => match k with | 0 => (fun w' => DiskAt w' base d F1 A1) w | _ => (fun w' => DiskAt w' base d F1 A1 ∨ True) w) [9] (by kernel_rfl) (by kernel_rfl) (by kernel_rfl) (by kernel_rfl) (by kernel_rfl) (by kernel_rfl) (Nat.le_of_ble_eq_true rfl) (by decide) rfl (Turn.refl _) (fun _ _ _ h k => h.same k) (fun _ _ h => h.mono (by simp)) ?_ ?_ ?_
        · intro k a b hk hR
          match k, hk with
          | 0, hk =>
            have hk := (show (fun w' => DiskAt w' base d F1 A1) a from hk)
            dsimp only at hk
            show (fun w' => DiskAt w' base d F1 A1) b
            dsimp only
            first | exact hk.kept hR (by simp) | exact .inr trivial
          | _ + 1, hk =>
            have hk := (show (fun w' => DiskAt w' base d F1 A1 ∨ True) a from hk)
            dsimp only at hk
            show (fun w' => DiskAt w' base d F1 A1 ∨ True) b
            dsimp only
            first | exact hk.kept hR (by simp) | exact .inr trivial
        · show (fun w' => DiskAt w' base d F1 A1) _
          dsimp only
          exact HBB.out.disk.kept ((Turn.refl [] wc).drew) (by simp)
        apply Lo.runx 1 rfl rfl [] (by kernel_rfl) (Turn.refl _)
        apply Exists.intro; apply And.intro
        · intro u w1 hR hF
          clear hF
          refine ⟨rfl, fun a ha K hK => ?_⟩
          have e0 := ha 0
          conv at e0 => rhs; whnf
          clear ha
          go_simp
          refine hK _ ?_; rfl
        apply Lo.runx 2 rfl rfl [0] (by kernel_rfl) (Turn.refl _)
        apply Exists.intro; apply And.intro
        · intro u w1 hR hF
          obtain ⟨h0, -⟩ := hF
          refine ⟨rfl, fun a ha K hK => ?_⟩
          have e28 := (ha 28).trans h0
          clear ha h0
          go_simp
          refine hK _ ?_; rfl
        apply Lo.runx 3 rfl rfl [1] (by kernel_rfl) (Turn.refl _)
        apply Exists.intro; apply And.intro
        · intro u w1 hR hF
          obtain ⟨h1, -⟩ := hF
          refine ⟨rfl, fun a ha K hK => ?_⟩
          have e29 := (ha 29).trans h1
          clear ha h1
          go_simp
          refine hK _ ?_; rfl
        apply Lo.runx 4 rfl rfl [2] (by kernel_rfl) (Turn.refl _)
        apply Exists.intro; apply And.intro
        · intro u w1 hR hF
          obtain ⟨h2, -⟩ := hF
          refine ⟨rfl, fun a ha K hK => ?_⟩
          have e30 := (ha 30).trans h2
          clear ha h2
          have hb := (((Turn.refl [] wc).drew.mono (T := F1) (by simp)).same hR).heap HBB.out.seg.box (HBB.out.sep sb (by simp [sfoot]))
          have c0 : w1.cell? ⟨sb, 0, none⟩ = some (.pointer (some ⟨d, 0, none⟩)) := by rw [cell_of hb]; rfl
          have z1 := lt_of_heap hb
          go_simp
          refine hK _ ?_; rfl
        apply Lo.runx 5 rfl rfl [] (by kernel_rfl) (Turn.refl _)
        apply Exists.intro; apply And.intro
        · intro u w1 hR hF
          clear hF
          refine ⟨rfl, fun a ha K hK => ?_⟩
          have e4 := ha 4
          conv at e4 => rhs; whnf
          clear ha
          go_simp
          refine hK _ ?_; rfl
        apply Lo.runx 6 rfl rfl [] (by kernel_rfl) (Turn.refl _)
        apply Exists.intro; apply And.intro
        · intro u w1 hR hF
          clear hF
          refine ⟨rfl, fun a ha K hK => ?_⟩
          have e0 := ha 0
          conv at e0 => rhs; whnf
          clear ha
          go_simp
          refine hK _ ?_; rfl
        apply Lo.runx 7 rfl rfl [5] (by kernel_rfl) (Turn.refl _)
        apply Exists.intro; apply And.intro
        · intro u w1 hR hF
          obtain ⟨h5, -⟩ := hF
          refine ⟨rfl, fun a ha K hK => ?_⟩
          have e33 := (ha 33).trans h5
          clear ha h5
          go_simp
          refine hK _ ?_; rfl
        apply Lo.runx 8 rfl rfl [6] (by kernel_rfl) (Turn.refl _)
        apply Exists.intro; apply And.intro
        · intro u w1 hR hF
          obtain ⟨h6, -⟩ := hF
          refine ⟨rfl, fun a ha K hK => ?_⟩
          have e34 := (ha 34).trans h6
          clear ha h6
          go_simp
          refine hK _ ?_; rfl
        apply Lo.runx 9 rfl rfl [7] (by kernel_rfl) (Turn.refl _)
        apply Exists.intro; apply And.intro
        · intro u w1 hR hF
          obtain ⟨h7, -⟩ := hF
          refine ⟨rfl, fun a ha K hK => ?_⟩
          have e35 := (ha 35).trans h7
          clear ha h7
          have hb := (((Turn.refl [] wc).drew.mono (T := F1) (by simp)).same hR).heap HBB.out.seg.box (HBB.out.sep sb (by simp [sfoot]))
          have c0 : w1.cell? ⟨sb, 2, none⟩ = some (.int .i64 b0) := by rw [cell_of hb]; rfl
          have z1 := lt_of_heap hb
          go_simp
          refine hK _ ?_; rfl
        refine Lo.noisy 10 rfl 0 rfl [3, 4, 8] (fun x w' => x = .tuple #[.pointer none, .iface 56 (.int .i64 cc)] ∧ Did wc w' base d F1 A2) (by kernel_rfl) (fun x w w' h hR => ?_) (.inl (by kernel_rfl)) (fun u w1 hR hS hF => ?_) ?_
        · exact ⟨h.1, did_after h.2 hR⟩
        · obtain ⟨h3, h4, h8, -⟩ := hF
          have hS := (show (fun w' => DiskAt w' base d F1 A1) w1 from hS)
          dsimp only at hS
          refine ⟨rfl, fun a ha K hK => ?_⟩
          have e31 := (ha 31).trans h3
          have e32 := (ha 32).trans h4
          have e36 := (ha 36).trans h8
          clear ha h3 h4 h8
          go_simp
          have hr0 := ((Turn.refl [] wc).drew.mono (T := F1) (by simp)).same hR
          refine (empty_any w1 base d F1 A1 hS B HBS.out b0).mono ?_
          rintro e w2 (⟨hne, rfl, hd⟩ | ⟨he, -⟩)
          · rw [HRR.out]
            rw [HA2.out] at hd
            exact hK _ _ ⟨rfl, did_first hr0 hd⟩ hd.turn (.inr trivial)
          · exact absurd (HCC.out.trans he) HNE.out
        refine Lo.late 11 rfl rfl [9] (fun x w' => x = .pointer none ∧ Did wc w' base d F1 A2) (by kernel_rfl) (fun x w w' h hR => ?_) (by kernel_rfl) (fun u w1 hR hF => ?_) ?_
        · exact ⟨h.1, did_after h.2 hR⟩
        · obtain ⟨h9, -⟩ := hF
          refine ⟨rfl, fun a ha K hK => ?_⟩
          have e37 : a.tmps.getD 37 undef = u 9 := ha 37
          have h9 := (show (fun x w' => x = .tuple #[.pointer none, .iface 56 (.int .i64 cc)] ∧ Did wc w' base d F1 A2) (u 9) w1 from h9)
          dsimp only at h9
          clear ha
          obtain ⟨e9, h9d⟩ := h9
          rw [e9] at e37
          go_simp
          exact hK _ _ ⟨rfl, h9d⟩ (Turn.refl _ _)
        refine Lo.runv 12 rfl rfl [9] (.iface 56 (.int .i64 cc)) (by kernel_rfl) (fun u w1 hR hF => ?_) (Turn.refl _) ?_
        · obtain ⟨h9, -⟩ := hF
          refine ⟨rfl, fun a ha K hK => ?_⟩
          have e37 : a.tmps.getD 37 undef = u 9 := ha 37
          have h9 := (show (fun x w' => x = .tuple #[.pointer none, .iface 56 (.int .i64 cc)] ∧ Did wc w' base d F1 A2) (u 9) w1 from h9)
          dsimp only at h9
          clear ha
          obtain ⟨e9, -⟩ := h9
          rw [e9] at e37
          go_simp
          refine hK _ ?_
          rfl
        refine Lo.done [10, 11] (fun u w1 hRd hSd hF => ?_)
        have hSd := (show (fun w' => DiskAt w' base d F1 A1 ∨ True) w1 from hSd)
        dsimp only at hSd
        obtain ⟨f10, f11, -⟩ := hF
        have d10 := (show (fun x w' => x = .pointer none ∧ Did wc w' base d F1 A2) (u 10) w1 from f10)
        dsimp only at d10
        have d11 : u 11 = _ := f11
        clear f10 f11
        simp only [List.take_succ_cons, List.take_zero, List.drop_succ_cons, List.drop_zero, putFrom, Act.put, List.setIfInBounds_toArray, List.set_cons_succ, List.set_cons_zero, Nat.zero_add, Nat.reduceAdd, d11]
        obtain ⟨e10, hd10⟩ := d10
        rw [e10]
        have HD := hide (did_then HTF.out HFF.out hd10)
        clear d11 e10 hd10 hRd hSd
        go_wp2
        go_ret2
        have e0 : anewS A B = A1.make B := HAN.out
        rw [e0, HRR.out, HA2.out]
        exact .inl ⟨by rw [← HCC.out]; exact HNE.out, rfl, HD.out⟩
      · have hne0 : cc = 0 := Classical.not_not.1 hne
        have HNE := hide hne0
        clear hne hne0 hcc
        go_wp2
        refine wp_region_loud 12 (Turn F1) (Turn []) (fun k w => match k with | 0 => (fun w' => DiskAt w' base d F1 A1) w | _ => (fun w' => DiskAt w' base d F1 A1 ∨ True) w) [9] (by kernel_rfl) (by kernel_rfl) (by kernel_rfl) (by kernel_rfl) (by kernel_rfl) (by kernel_rfl) (Nat.le_of_ble_eq_true rfl) (by decide) rfl (Turn.refl _) (fun _ _ _ h k => h.same k) (fun _ _ h => h.mono (by simp)) ?_ ?_ ?_
        · intro k a b hk hR
          match k, hk with
          | 0, hk =>
            have hk := (show (fun w' => DiskAt w' base d F1 A1) a from hk)
            dsimp only at hk
            show (fun w' => DiskAt w' base d F1 A1) b
            dsimp only
            first | exact hk.kept hR (by simp) | exact .inr trivial
          | _ + 1, hk =>
            have hk := (show (fun w' => DiskAt w' base d F1 A1 ∨ True) a from hk)
            dsimp only at hk
            show (fun w' => DiskAt w' base d F1 A1 ∨ True) b
            dsimp only
            first | exact hk.kept hR (by simp) | exact .inr trivial
        · show (fun w' => DiskAt w' base d F1 A1) _
          dsimp only
          exact HBB.out.disk.kept ((Turn.refl [] wc).drew) (by simp)
        apply Lo.runx 1 rfl rfl [] (by kernel_rfl) (Turn.refl _)
        apply Exists.intro; apply And.intro
        · intro u w1 hR hF
          clear hF
          refine ⟨rfl, fun a ha K hK => ?_⟩
          have e0 := ha 0
          conv at e0 => rhs; whnf
          clear ha
          go_simp
          refine hK _ ?_; rfl
        apply Lo.runx 2 rfl rfl [0] (by kernel_rfl) (Turn.refl _)
        apply Exists.intro; apply And.intro
        · intro u w1 hR hF
          obtain ⟨h0, -⟩ := hF
          refine ⟨rfl, fun a ha K hK => ?_⟩
          have e28 := (ha 28).trans h0
          clear ha h0
          go_simp
          refine hK _ ?_; rfl
        apply Lo.runx 3 rfl rfl [1] (by kernel_rfl) (Turn.refl _)
        apply Exists.intro; apply And.intro
        · intro u w1 hR hF
          obtain ⟨h1, -⟩ := hF
          refine ⟨rfl, fun a ha K hK => ?_⟩
          have e29 := (ha 29).trans h1
          clear ha h1
          go_simp
          refine hK _ ?_; rfl
        apply Lo.runx 4 rfl rfl [2] (by kernel_rfl) (Turn.refl _)
        apply Exists.intro; apply And.intro
        · intro u w1 hR hF
          obtain ⟨h2, -⟩ := hF
          refine ⟨rfl, fun a ha K hK => ?_⟩
          have e30 := (ha 30).trans h2
          clear ha h2
          have hb := (((Turn.refl [] wc).drew.mono (T := F1) (by simp)).same hR).heap HBB.out.seg.box (HBB.out.sep sb (by simp [sfoot]))
          have c0 : w1.cell? ⟨sb, 0, none⟩ = some (.pointer (some ⟨d, 0, none⟩)) := by rw [cell_of hb]; rfl
          have z1 := lt_of_heap hb
          go_simp
          refine hK _ ?_; rfl
        apply Lo.runx 5 rfl rfl [] (by kernel_rfl) (Turn.refl _)
        apply Exists.intro; apply And.intro
        · intro u w1 hR hF
          clear hF
          refine ⟨rfl, fun a ha K hK => ?_⟩
          have e4 := ha 4
          conv at e4 => rhs; whnf
          clear ha
          go_simp
          refine hK _ ?_; rfl
        apply Lo.runx 6 rfl rfl [] (by kernel_rfl) (Turn.refl _)
        apply Exists.intro; apply And.intro
        · intro u w1 hR hF
          clear hF
          refine ⟨rfl, fun a ha K hK => ?_⟩
          have e0 := ha 0
          conv at e0 => rhs; whnf
          clear ha
          go_simp
          refine hK _ ?_; rfl
        apply Lo.runx 7 rfl rfl [5] (by kernel_rfl) (Turn.refl _)
        apply Exists.intro; apply And.intro
        · intro u w1 hR hF
          obtain ⟨h5, -⟩ := hF
          refine ⟨rfl, fun a ha K hK => ?_⟩
          have e33 := (ha 33).trans h5
          clear ha h5
          go_simp
          refine hK _ ?_; rfl
        apply Lo.runx 8 rfl rfl [6] (by kernel_rfl) (Turn.refl _)
        apply Exists.intro; apply And.intro
        · intro u w1 hR hF
          obtain ⟨h6, -⟩ := hF
          refine ⟨rfl, fun a ha K hK => ?_⟩
          have e34 := (ha 34).trans h6
          clear ha h6
          go_simp
          refine hK _ ?_; rfl
        apply Lo.runx 9 rfl rfl [7] (by kernel_rfl) (Turn.refl _)
        apply Exists.intro; apply And.intro
        · intro u w1 hR hF
          obtain ⟨h7, -⟩ := hF
          refine ⟨rfl, fun a ha K hK => ?_⟩
          have e35 := (ha 35).trans h7
          clear ha h7
          have hb := (((Turn.refl [] wc).drew.mono (T := F1) (by simp)).same hR).heap HBB.out.seg.box (HBB.out.sep sb (by simp [sfoot]))
          have c0 : w1.cell? ⟨sb, 2, none⟩ = some (.int .i64 b0) := by rw [cell_of hb]; rfl
          have z1 := lt_of_heap hb
          go_simp
          refine hK _ ?_; rfl
        refine Lo.noisy 10 rfl 0 rfl [3, 4, 8] (fun x w' => ∃ s2, x = .tuple #[.pointer (some ⟨s2, 0, none⟩), .nilIface] ∧ Fresh1 wc w' base d F1 A2 s2 B b0) (by kernel_rfl) (fun x w w' h hR => ?_) (.inl (by kernel_rfl)) (fun u w1 hR hS hF => ?_) ?_
        · obtain ⟨s2, e, h⟩ := h; exact ⟨s2, e, fresh_after h hR⟩
        · obtain ⟨h3, h4, h8, -⟩ := hF
          have hS := (show (fun w' => DiskAt w' base d F1 A1) w1 from hS)
          dsimp only at hS
          refine ⟨rfl, fun a ha K hK => ?_⟩
          have e31 := (ha 31).trans h3
          have e32 := (ha 32).trans h4
          have e36 := (ha 36).trans h8
          clear ha h3 h4 h8
          go_simp
          have hr0 := ((Turn.refl [] wc).drew.mono (T := F1) (by simp)).same hR
          refine (empty_any w1 base d F1 A1 hS B HBS.out b0).mono ?_
          rintro e w2 (⟨hne, -⟩ | ⟨he, s2, rfl, hfr⟩)
          · exact absurd (HCC.out.symm.trans HNE.out) hne
          · rw [HA2.out] at hfr
            exact hK _ _ ⟨s2, rfl, fresh_first hr0 hfr⟩ (fresh_turn hfr) (.inr trivial)
        refine Lo.late 11 rfl rfl [9] (fun x w' => ∃ s2, x = .pointer (some ⟨s2, 0, none⟩) ∧ Fresh1 wc w' base d F1 A2 s2 B b0) (by kernel_rfl) (fun x w w' h hR => ?_) (by kernel_rfl) (fun u w1 hR hF => ?_) ?_
        · obtain ⟨s2, e, h⟩ := h; exact ⟨s2, e, fresh_after h hR⟩
        · obtain ⟨h9, -⟩ := hF
          refine ⟨rfl, fun a ha K hK => ?_⟩
          have e37 : a.tmps.getD 37 undef = u 9 := ha 37
          have h9 := (show (fun x w' => ∃ s2, x = .tuple #[.pointer (some ⟨s2, 0, none⟩), .nilIface] ∧ Fresh1 wc w' base d F1 A2 s2 B b0) (u 9) w1 from h9)
          dsimp only at h9
          clear ha
          obtain ⟨s2, e9, h9d⟩ := h9
          rw [e9] at e37
          go_simp
          exact hK _ _ ⟨s2, rfl, h9d⟩ (Turn.refl _ _)
        refine Lo.runv 12 rfl rfl [9] (.nilIface) (by kernel_rfl) (fun u w1 hR hF => ?_) (Turn.refl _) ?_
        · obtain ⟨h9, -⟩ := hF
          refine ⟨rfl, fun a ha K hK => ?_⟩
          have e37 : a.tmps.getD 37 undef = u 9 := ha 37
          have h9 := (show (fun x w' => ∃ s2, x = .tuple #[.pointer (some ⟨s2, 0, none⟩), .nilIface] ∧ Fresh1 wc w' base d F1 A2 s2 B b0) (u 9) w1 from h9)
          dsimp only at h9
          clear ha
          obtain ⟨s2, e9, -⟩ := h9
          rw [e9] at e37
          go_simp
          refine hK _ ?_
          rfl
        refine Lo.done [10, 11] (fun u w1 hRd hSd hF => ?_)
        have hSd := (show (fun w' => DiskAt w' base d F1 A1 ∨ True) w1 from hSd)
        dsimp only at hSd
        obtain ⟨f10, f11, -⟩ := hF
        have d10 := (show (fun x w' => ∃ s2, x = .pointer (some ⟨s2, 0, none⟩) ∧ Fresh1 wc w' base d F1 A2 s2 B b0) (u 10) w1 from f10)
        dsimp only at d10
        have d11 : u 11 = _ := f11
        clear f10 f11
        simp only [List.take_succ_cons, List.take_zero, List.drop_succ_cons, List.drop_zero, putFrom, Act.put, List.setIfInBounds_toArray, List.set_cons_succ, List.set_cons_zero, Nat.zero_add, Nat.reduceAdd, d11]
        obtain ⟨s2, e10, hf10⟩ := d10
        rw [e10]
        have HD := hide (fresh_then HTF.out HFF.out hf10)
        clear d11 e10 hf10 hRd hSd
        go_wp2
        go_ret2
        have e0 : anewS A B = A1.make B := HAN.out
        rw [e0, HA2.out]
        exact .inr ⟨by rw [← HCC.out]; exact HNE.out, s2, rfl, HD.out⟩
    · have hr : errR c = .iface 56 (.int .i64 c) := by unfold errR; rw [if_neg h0]; rfl
      rw [hr]
      have HR := hide hr
      have H0 := hide h0
      have HD := hide hd
      clear hr h0 hc hd hp
      go_wp2
      go_ret2
      have e0 : anewS A B = A.remove B.data.toList := by
        unfold anewS
        rw [HCL.out, if_pos (by rw [← HC.out]; exact H0.out)]
      rw [e0]
      refine .inl ⟨by rw [← HC.out]; exact H0.out, ?_, HD.out⟩
      rw [← HC.out, HR.out]; rfl
  · obtain ⟨F1, hF1⟩ : ∃ F1, F1 = F := ⟨_, rfl⟩
    obtain ⟨A1, hA1⟩ : ∃ A1, A1 = A := ⟨_, rfl⟩
    have HBB : Hid (Both wa base d F1 A1 sb sv file b0 ps) := by rw [hF1, hA1]; exact H
    have HTF : Hid (Turn F wa wa) := hide (Turn.refl _ _)
    have HFF : Hid (∀ k ∈ F1, k ∈ F ∨ wa.heap.size ≤ k) := by rw [hF1]; exact hide (fun k hk => .inl hk)
    have HAN : Hid (anewS A B = A1.make B) := by
      rw [hA1]
      unfold anewS clearS
      rw [if_neg hz]
      exact hide (if_neg (by simp))
    clear hF1 hA1
    obtain ⟨cc, hcc⟩ : ∃ cc, cc = (A1.make B).1 := ⟨_, rfl⟩
    obtain ⟨A2, hA2⟩ : ∃ A2, (A1.make B).2 = A2 := ⟨_, rfl⟩
    have HCC := hide hcc
    have HA2 := hide hA2
    clear hA2
    by_cases hne : cc ≠ 0
    · have hr : errR (A1.make B).1 = .iface 56 (.int .i64 cc) := by rw [← hcc]; unfold errR; rw [if_neg hne]; rfl
      have HRR := hide hr
      have HNE := hide hne
      clear hr hne hcc
      go_wp2
      refine wp_region_loud 12 (Turn F1) (Turn []) (fun k w => match k with | 0 => (fun w' => DiskAt w' base d F1 A1) w | _ => (fun w' => DiskAt w' base d F1 A1 ∨ True) w) [9] (by kernel_rfl) (by kernel_rfl) (by kernel_rfl) (by kernel_rfl) (by kernel_rfl) (by kernel_rfl) (Nat.le_of_ble_eq_true rfl) (by decide) rfl (Turn.refl _) (fun _ _ _ h k => h.same k) (fun _ _ h => h.mono (by simp)) ?_ ?_ ?_
      · intro k a b hk hR
        match k, hk with
        | 0, hk =>
          have hk := (show (fun w' => DiskAt w' base d F1 A1) a from hk)
          dsimp only at hk
          show (fun w' => DiskAt w' base d F1 A1) b
          dsimp only
          first | exact hk.kept hR (by simp) | exact .inr trivial
        | _ + 1, hk =>
          have hk := (show (fun w' => DiskAt w' base d F1 A1 ∨ True) a from hk)
          dsimp only at hk
          show (fun w' => DiskAt w' base d F1 A1 ∨ True) b
          dsimp only
          first | exact hk.kept hR (by simp) | exact .inr trivial
      · show (fun w' => DiskAt w' base d F1 A1) _
        dsimp only
        exact HBB.out.disk.kept ((Turn.refl [] wa).drew) (by simp)
      apply Lo.runx 1 rfl rfl [] (by kernel_rfl) (Turn.refl _)
      apply Exists.intro; apply And.intro
      · intro u w1 hR hF
        clear hF
        refine ⟨rfl, fun a ha K hK => ?_⟩
        have e0 := ha 0
        conv at e0 => rhs; whnf
        clear ha
        go_simp
        refine hK _ ?_; rfl
      apply Lo.runx 2 rfl rfl [0] (by kernel_rfl) (Turn.refl _)
      apply Exists.intro; apply And.intro
      · intro u w1 hR hF
        obtain ⟨h0, -⟩ := hF
        refine ⟨rfl, fun a ha K hK => ?_⟩
        have e28 := (ha 28).trans h0
        clear ha h0
        go_simp
        refine hK _ ?_; rfl
      apply Lo.runx 3 rfl rfl [1] (by kernel_rfl) (Turn.refl _)
      apply Exists.intro; apply And.intro
      · intro u w1 hR hF
        obtain ⟨h1, -⟩ := hF
        refine ⟨rfl, fun a ha K hK => ?_⟩
        have e29 := (ha 29).trans h1
        clear ha h1
        go_simp
        refine hK _ ?_; rfl
      apply Lo.runx 4 rfl rfl [2] (by kernel_rfl) (Turn.refl _)
      apply Exists.intro; apply And.intro
      · intro u w1 hR hF
        obtain ⟨h2, -⟩ := hF
        refine ⟨rfl, fun a ha K hK => ?_⟩
        have e30 := (ha 30).trans h2
        clear ha h2
        have hb := (((Turn.refl [] wa).drew.mono (T := F1) (by simp)).same hR).heap HBB.out.seg.box (HBB.out.sep sb (by simp [sfoot]))
        have c0 : w1.cell? ⟨sb, 0, none⟩ = some (.pointer (some ⟨d, 0, none⟩)) := by rw [cell_of hb]; rfl
        have z1 := lt_of_heap hb
        go_simp
        refine hK _ ?_; rfl
      apply Lo.runx 5 rfl rfl [] (by kernel_rfl) (Turn.refl _)
      apply Exists.intro; apply And.intro
      · intro u w1 hR hF
        clear hF
        refine ⟨rfl, fun a ha K hK => ?_⟩
        have e4 := ha 4
        conv at e4 => rhs; whnf
        clear ha
        go_simp
        refine hK _ ?_; rfl
      apply Lo.runx 6 rfl rfl [] (by kernel_rfl) (Turn.refl _)
      apply Exists.intro; apply And.intro
      · intro u w1 hR hF
        clear hF
        refine ⟨rfl, fun a ha K hK => ?_⟩
        have e0 := ha 0
        conv at e0 => rhs; whnf
        clear ha
        go_simp
        refine hK _ ?_; rfl
      apply Lo.runx 7 rfl rfl [5] (by kernel_rfl) (Turn.refl _)
      apply Exists.intro; apply And.intro
      · intro u w1 hR hF
        obtain ⟨h5, -⟩ := hF
        refine ⟨rfl, fun a ha K hK => ?_⟩
        have e33 := (ha 33).trans h5
        clear ha h5
        go_simp
        refine hK _ ?_; rfl
      apply Lo.runx 8 rfl rfl [6] (by kernel_rfl) (Turn.refl _)
      apply Exists.intro; apply And.intro
      · intro u w1 hR hF
        obtain ⟨h6, -⟩ := hF
        refine ⟨rfl, fun a ha K hK => ?_⟩
        have e34 := (ha 34).trans h6
        clear ha h6
        go_simp
        refine hK _ ?_; rfl
      apply Lo.runx 9 rfl rfl [7] (by kernel_rfl) (Turn.refl _)
      apply Exists.intro; apply And.intro
      · intro u w1 hR hF
        obtain ⟨h7, -⟩ := hF
        refine ⟨rfl, fun a ha K hK => ?_⟩
        have e35 := (ha 35).trans h7
        clear ha h7
        have hb := (((Turn.refl [] wa).drew.mono (T := F1) (by simp)).same hR).heap HBB.out.seg.box (HBB.out.sep sb (by simp [sfoot]))
        have c0 : w1.cell? ⟨sb, 2, none⟩ = some (.int .i64 b0) := by rw [cell_of hb]; rfl
        have z1 := lt_of_heap hb
        go_simp
        refine hK _ ?_; rfl
      refine Lo.noisy 10 rfl 0 rfl [3, 4, 8] (fun x w' => x = .tuple #[.pointer none, .iface 56 (.int .i64 cc)] ∧ Did wa w' base d F1 A2) (by kernel_rfl) (fun x w w' h hR => ?_) (.inl (by kernel_rfl)) (fun u w1 hR hS hF => ?_) ?_
      · exact ⟨h.1, did_after h.2 hR⟩
      · obtain ⟨h3, h4, h8, -⟩ := hF
        have hS := (show (fun w' => DiskAt w' base d F1 A1) w1 from hS)
        dsimp only at hS
        refine ⟨rfl, fun a ha K hK => ?_⟩
        have e31 := (ha 31).trans h3
        have e32 := (ha 32).trans h4
        have e36 := (ha 36).trans h8
        clear ha h3 h4 h8
        go_simp
        have hr0 := ((Turn.refl [] wa).drew.mono (T := F1) (by simp)).same hR
        refine (empty_any w1 base d F1 A1 hS B HBS.out b0).mono ?_
        rintro e w2 (⟨hne, rfl, hd⟩ | ⟨he, -⟩)
        · rw [HRR.out]
          rw [HA2.out] at hd
          exact hK _ _ ⟨rfl, did_first hr0 hd⟩ hd.turn (.inr trivial)
        · exact absurd (HCC.out.trans he) HNE.out
      refine Lo.late 11 rfl rfl [9] (fun x w' => x = .pointer none ∧ Did wa w' base d F1 A2) (by kernel_rfl) (fun x w w' h hR => ?_) (by kernel_rfl) (fun u w1 hR hF => ?_) ?_
      · exact ⟨h.1, did_after h.2 hR⟩
      · obtain ⟨h9, -⟩ := hF
        refine ⟨rfl, fun a ha K hK => ?_⟩
        have e37 : a.tmps.getD 37 undef = u 9 := ha 37
        have h9 := (show (fun x w' => x = .tuple #[.pointer none, .iface 56 (.int .i64 cc)] ∧ Did wa w' base d F1 A2) (u 9) w1 from h9)
        dsimp only at h9
        clear ha
        obtain ⟨e9, h9d⟩ := h9
        rw [e9] at e37
        go_simp
        exact hK _ _ ⟨rfl, h9d⟩ (Turn.refl _ _)
      refine Lo.runv 12 rfl rfl [9] (.iface 56 (.int .i64 cc)) (by kernel_rfl) (fun u w1 hR hF => ?_) (Turn.refl _) ?_
      · obtain ⟨h9, -⟩ := hF
        refine ⟨rfl, fun a ha K hK => ?_⟩
        have e37 : a.tmps.getD 37 undef = u 9 := ha 37
        have h9 := (show (fun x w' => x = .tuple #[.pointer none, .iface 56 (.int .i64 cc)] ∧ Did wa w' base d F1 A2) (u 9) w1 from h9)
        dsimp only at h9
        clear ha
        obtain ⟨e9, -⟩ := h9
        rw [e9] at e37
        go_simp
        refine hK _ ?_
        rfl
      refine Lo.done [10, 11] (fun u w1 hRd hSd hF => ?_)
      have hSd := (show (fun w' => DiskAt w' base d F1 A1 ∨ True) w1 from hSd)
      dsimp only at hSd
      obtain ⟨f10, f11, -⟩ := hF
      have d10 := (show (fun x w' => x = .pointer none ∧ Did wa w' base d F1 A2) (u 10) w1 from f10)
      dsimp only at d10
      have d11 : u 11 = _ := f11
      clear f10 f11
      simp only [List.take_succ_cons, List.take_zero, List.drop_succ_cons, List.drop_zero, putFrom, Act.put, List.setIfInBounds_toArray, List.set_cons_succ, List.set_cons_zero, Nat.zero_add, Nat.reduceAdd, d11]
      obtain ⟨e10, hd10⟩ := d10
      rw [e10]
      have HD := hide (did_then HTF.out HFF.out hd10)
      clear d11 e10 hd10 hRd hSd
      go_wp2
      go_ret2
      have e0 : anewS A B = A1.make B := HAN.out
      rw [e0, HRR.out, HA2.out]
      exact .inl ⟨by rw [← HCC.out]; exact HNE.out, rfl, HD.out⟩
    · have hne0 : cc = 0 := Classical.not_not.1 hne
      have HNE := hide hne0
      clear hne hne0 hcc
      go_wp2
      refine wp_region_loud 12 (Turn F1) (Turn []) (fun k w => match k with | 0 => (fun w' => DiskAt w' base d F1 A1) w | _ => (fun w' => DiskAt w' base d F1 A1 ∨ True) w) [9] (by kernel_rfl) (by kernel_rfl) (by kernel_rfl) (by kernel_rfl) (by kernel_rfl) (by kernel_rfl) (Nat.le_of_ble_eq_true rfl) (by decide) rfl (Turn.refl _) (fun _ _ _ h k => h.same k) (fun _ _ h => h.mono (by simp)) ?_ ?_ ?_
      · intro k a b hk hR
        match k, hk with
        | 0, hk =>
          have hk := (show (fun w' => DiskAt w' base d F1 A1) a from hk)
          dsimp only at hk
          show (fun w' => DiskAt w' base d F1 A1) b
          dsimp only
          first | exact hk.kept hR (by simp) | exact .inr trivial
        | _ + 1, hk =>
          have hk := (show (fun w' => DiskAt w' base d F1 A1 ∨ True) a from hk)
          dsimp only at hk
          show (fun w' => DiskAt w' base d F1 A1 ∨ True) b
          dsimp only
          first | exact hk.kept hR (by simp) | exact .inr trivial
      · show (fun w' => DiskAt w' base d F1 A1) _
        dsimp only
        exact HBB.out.disk.kept ((Turn.refl [] wa).drew) (by simp)
      apply Lo.runx 1 rfl rfl [] (by kernel_rfl) (Turn.refl _)
      apply Exists.intro; apply And.intro
      · intro u w1 hR hF
        clear hF
        refine ⟨rfl, fun a ha K hK => ?_⟩
        have e0 := ha 0
        conv at e0 => rhs; whnf
        clear ha
        go_simp
        refine hK _ ?_; rfl
      apply Lo.runx 2 rfl rfl [0] (by kernel_rfl) (Turn.refl _)
      apply Exists.intro; apply And.intro
      · intro u w1 hR hF
        obtain ⟨h0, -⟩ := hF
        refine ⟨rfl, fun a ha K hK => ?_⟩
        have e28 := (ha 28).trans h0
        clear ha h0
        go_simp
        refine hK _ ?_; rfl
      apply Lo.runx 3 rfl rfl [1] (by kernel_rfl) (Turn.refl _)
      apply Exists.intro; apply And.intro
      · intro u w1 hR hF
        obtain ⟨h1, -⟩ := hF
        refine ⟨rfl, fun a ha K hK => ?_⟩
        have e29 := (ha 29).trans h1
        clear ha h1
        go_simp
        refine hK _ ?_; rfl
      apply Lo.runx 4 rfl rfl [2] (by kernel_rfl) (Turn.refl _)
      apply Exists.intro; apply And.intro
      · intro u w1 hR hF
        obtain ⟨h2, -⟩ := hF
        refine ⟨rfl, fun a ha K hK => ?_⟩
        have e30 := (ha 30).trans h2
        clear ha h2
        have hb := (((Turn.refl [] wa).drew.mono (T := F1) (by simp)).same hR).heap HBB.out.seg.box (HBB.out.sep sb (by simp [sfoot]))
        have c0 : w1.cell? ⟨sb, 0, none⟩ = some (.pointer (some ⟨d, 0, none⟩)) := by rw [cell_of hb]; rfl
        have z1 := lt_of_heap hb
        go_simp
        refine hK _ ?_; rfl
      apply Lo.runx 5 rfl rfl [] (by kernel_rfl) (Turn.refl _)
      apply Exists.intro; apply And.intro
      · intro u w1 hR hF
        clear hF
        refine ⟨rfl, fun a ha K hK => ?_⟩
        have e4 := ha 4
        conv at e4 => rhs; whnf
        clear ha
        go_simp
        refine hK _ ?_; rfl
      apply Lo.runx 6 rfl rfl [] (by kernel_rfl) (Turn.refl _)
      apply Exists.intro; apply And.intro
      · intro u w1 hR hF
        clear hF
        refine ⟨rfl, fun a ha K hK => ?_⟩
        have e0 := ha 0
        conv at e0 => rhs; whnf
        clear ha
        go_simp
        refine hK _ ?_; rfl
      apply Lo.runx 7 rfl rfl [5] (by kernel_rfl) (Turn.refl _)
      apply Exists.intro; apply And.intro
      · intro u w1 hR hF
        obtain ⟨h5, -⟩ := hF
        refine ⟨rfl, fun a ha K hK => ?_⟩
        have e33 := (ha 33).trans h5
        clear ha h5
        go_simp
        refine hK _ ?_; rfl
      apply Lo.runx 8 rfl rfl [6] (by kernel_rfl) (Turn.refl _)
      apply Exists.intro; apply And.intro
      · intro u w1 hR hF
        obtain ⟨h6, -⟩ := hF
        refine ⟨rfl, fun a ha K hK => ?_⟩
        have e34 := (ha 34).trans h6
        clear ha h6
        go_simp
        refine hK _ ?_; rfl
      apply Lo.runx 9 rfl rfl [7] (by kernel_rfl) (Turn.refl _)
      apply Exists.intro; apply And.intro
      · intro u w1 hR hF
        obtain ⟨h7, -⟩ := hF
        refine ⟨rfl, fun a ha K hK => ?_⟩
        have e35 := (ha 35).trans h7
        clear ha h7
        have hb := (((Turn.refl [] wa).drew.mono (T := F1) (by simp)).same hR).heap HBB.out.seg.box (HBB.out.sep sb (by simp [sfoot]))
        have c0 : w1.cell? ⟨sb, 2, none⟩ = some (.int .i64 b0) := by rw [cell_of hb]; rfl
        have z1 := lt_of_heap hb
        go_simp
        refine hK _ ?_; rfl
      refine Lo.noisy 10 rfl 0 rfl [3, 4, 8] (fun x w' => ∃ s2, x = .tuple #[.pointer (some ⟨s2, 0, none⟩), .nilIface] ∧ Fresh1 wa w' base d F1 A2 s2 B b0) (by kernel_rfl) (fun x w w' h hR => ?_) (.inl (by kernel_rfl)) (fun u w1 hR hS hF => ?_) ?_
      · obtain ⟨s2, e, h⟩ := h; exact ⟨s2, e, fresh_after h hR⟩
      · obtain ⟨h3, h4, h8, -⟩ := hF
        have hS := (show (fun w' => DiskAt w' base d F1 A1) w1 from hS)
        dsimp only at hS
        refine ⟨rfl, fun a ha K hK => ?_⟩
        have e31 := (ha 31).trans h3
        have e32 := (ha 32).trans h4
        have e36 := (ha 36).trans h8
        clear ha h3 h4 h8
        go_simp
        have hr0 := ((Turn.refl [] wa).drew.mono (T := F1) (by simp)).same hR
        refine (empty_any w1 base d F1 A1 hS B HBS.out b0).mono ?_
        rintro e w2 (⟨hne, -⟩ | ⟨he, s2, rfl, hfr⟩)
        · exact absurd (HCC.out.symm.trans HNE.out) hne
        · rw [HA2.out] at hfr
          exact hK _ _ ⟨s2, rfl, fresh_first hr0 hfr⟩ (fresh_turn hfr) (.inr trivial)
      refine Lo.late 11 rfl rfl [9] (fun x w' => ∃ s2, x = .pointer (some ⟨s2, 0, none⟩) ∧ Fresh1 wa w' base d F1 A2 s2 B b0) (by kernel_rfl) (fun x w w' h hR => ?_) (by kernel_rfl) (fun u w1 hR hF => ?_) ?_
      · obtain ⟨s2, e, h⟩ := h; exact ⟨s2, e, fresh_after h hR⟩
      · obtain ⟨h9, -⟩ := hF
        refine ⟨rfl, fun a ha K hK => ?_⟩
        have e37 : a.tmps.getD 37 undef = u 9 := ha 37
        have h9 := (show (fun x w' => ∃ s2, x = .tuple #[.pointer (some ⟨s2, 0, none⟩), .nilIface] ∧ Fresh1 wa w' base d F1 A2 s2 B b0) (u 9) w1 from h9)
        dsimp only at h9
        clear ha
        obtain ⟨s2, e9, h9d⟩ := h9
        rw [e9] at e37
        go_simp
        exact hK _ _ ⟨s2, rfl, h9d⟩ (Turn.refl _ _)
      refine Lo.runv 12 rfl rfl [9] (.nilIface) (by kernel_rfl) (fun u w1 hR hF => ?_) (Turn.refl _) ?_
      · obtain ⟨h9, -⟩ := hF
        refine ⟨rfl, fun a ha K hK => ?_⟩
        have e37 : a.tmps.getD 37 undef = u 9 := ha 37
        have h9 := (show (fun x w' => ∃ s2, x = .tuple #[.pointer (some ⟨s2, 0, none⟩), .nilIface] ∧ Fresh1 wa w' base d F1 A2 s2 B b0) (u 9) w1 from h9)
        dsimp only at h9
        clear ha
        obtain ⟨s2, e9, -⟩ := h9
        rw [e9] at e37
        go_simp
        refine hK _ ?_
        rfl
      refine Lo.done [10, 11] (fun u w1 hRd hSd hF => ?_)
      have hSd := (show (fun w' => DiskAt w' base d F1 A1 ∨ True) w1 from hSd)
      dsimp only at hSd
      obtain ⟨f10, f11, -⟩ := hF
      have d10 := (show (fun x w' => ∃ s2, x = .pointer (some ⟨s2, 0, none⟩) ∧ Fresh1 wa w' base d F1 A2 s2 B b0) (u 10) w1 from f10)
      dsimp only at d10
      have d11 : u 11 = _ := f11
      clear f10 f11
      simp only [List.take_succ_cons, List.take_zero, List.drop_succ_cons, List.drop_zero, putFrom, Act.put, List.setIfInBounds_toArray, List.set_cons_succ, List.set_cons_zero, Nat.zero_add, Nat.reduceAdd, d11]
      obtain ⟨s2, e10, hf10⟩ := d10
      rw [e10]
      have HD := hide (fresh_then HTF.out HFF.out hf10)
      clear d11 e10 hf10 hRd hSd
      go_wp2
      go_ret2
      have e0 : anewS A B = A1.make B := HAN.out
      rw [e0, HA2.out]
      exact .inr ⟨by rw [← HCC.out]; exact HNE.out, s2, rfl, HD.out⟩
end Go.Proofs.YthbhfhagbaommaaGreatDoor.Lg

/- Append of a row of structs onto another. No program. -/
namespace Go.Proofs.YthbhfhagbaommaaGreatDoor
open Go.RowKit
set_option linter.unusedSimpArgs false
set_option linter.unusedVariables false
section
variable {α : Type} {T : TypeId} {n : Nat} {enc : α → List Value}
/-- What is appended: a slice wherever it lies. -/
def GSrc (enc : α → List Value) (w : World) (sx : Value) (ys : List α) : Prop :=
  (sx = .slice none 0 0 ∧ ys = []) ∨ ∃ a c, sx = .slice (some a) ys.length c ∧ ∀ j u, (ys.flatMap enc)[j]? = some u → w.cell? (a.add j) = some u
theorem GRow.src (hn : ∀ x, (enc x).length = n) {w : World} {base : Nat} {v : Value} {xs : List α} (h : GRow T n enc w base v xs) : GSrc enc w v xs := by
  rcases h with h | ⟨g, cap, cur, rfl, -, hg, h1, h2, h3, h4⟩
  · exact .inl h
  · refine .inr ⟨_, _, rfl, fun j u hu => ?_⟩
    rw [addr_add, cell_of hg]
    have hj : j < xs.length * n := by have := (List.getElem?_eq_some_iff.1 hu).1; rwa [gflat_len hn] at this
    rw [← h4, List.getElem?_take_of_lt hj] at hu
    simpa using hu
/-- APPEND of many. -/
theorem run_append_gs {P : Program} (t ty : TypeId) (ht : P.underlying t = some (.slice T)) (i : TypeInfo) (z : Value) (hi : P.info? T = some i) (hz : i.zero = some z) (hzs : z.cells.size = n) (hsize : i.size = n) (hby : i.bytes ≤ 1000) (hn : ∀ x, (enc x).length = n) (hone : ∀ x, ∀ u ∈ enc x, u.oneCell' = true)
    (w : World) (base : Nat) (v sx : Value) (xs ys : List α) (hrow : GRow T n enc w base v xs) (hx : GSrc enc w sx ys) (hlen : xs.length + ys.length ≤ 1000000) (hbase : base ≤ w.heap.size) :
    ∃ v' w', (Builtin.append_ #[t, t] ty #[v, sx]).run P w = .ok v' w' ∧ GRow T n enc w' base v' (xs ++ ys) ∧ Turn v.ownBlock.toList w w' ∧ (∀ j ∈ v'.ownBlock, j ∈ v.ownBlock ∨ w.heap.size ≤ j) := by
  have hmax : maxLen = 9223372036854775807 := by simp [maxLen]
  have hones : ∀ u ∈ ys.flatMap enc, u.oneCell' = true := fun u hu => by
    obtain ⟨x, -, hx⟩ := List.mem_flatMap.1 hu
    exact hone x u hx
  have new : ∀ old : Nat, old < xs.length + ys.length → GRow T n enc (w.drew.alloc (.cells ((xs.flatMap enc).toArray ++ (ys.flatMap enc).toArray ++ Builtin.zeroCells z.cells (grownCap w (xs.length + ys.length) old T - (xs.length + ys.length))) T)) base
      (.slice (some ⟨w.heap.size, 0, none⟩) (xs.length + ys.length) (grownCap w (xs.length + ys.length) old T)) (xs ++ ys) ∧
      Turn v.ownBlock.toList w (w.drew.alloc (.cells ((xs.flatMap enc).toArray ++ (ys.flatMap enc).toArray ++ Builtin.zeroCells z.cells (grownCap w (xs.length + ys.length) old T - (xs.length + ys.length))) T)) := by
    intro old ho
    have hge := grownCap_ge w (xs.length + ys.length) old T
    have hcm := grownCap_le_maxLen w (xs.length + ys.length) old T (by rw [hmax]; omega)
    have hfl : (xs.flatMap enc ++ ys.flatMap enc).length = (xs ++ ys).length * n := by rw [List.length_append, gflat_len hn, gflat_len hn, List.length_append, Nat.add_mul]
    refine ⟨.inr ⟨w.heap.size, _, _, by simp, hbase, heap_new w.drew _, by simpa using hge, ?_, hcm, ?_⟩, ((Turn.refl _ _).drew).alloc _⟩
    · simp only [Array.size_append, List.size_toArray, size_zeroCells, hzs, gflat_len hn]
      have : grownCap w (xs.length + ys.length) old T * n = (xs.length + ys.length) * n + (grownCap w (xs.length + ys.length) old T - (xs.length + ys.length)) * n := by rw [← Nat.add_mul]; congr 1; omega
      rw [Nat.add_mul] at this
      omega
    · simp only [Array.toList_append]
      rw [List.take_append_of_le_length (by show (xs ++ ys).length * n ≤ (xs.flatMap enc ++ ys.flatMap enc).length; rw [hfl]; exact Nat.le_refl _), List.take_of_length_le (by show (xs.flatMap enc ++ ys.flatMap enc).length ≤ (xs ++ ys).length * n; rw [hfl]; exact Nat.le_refl _)]
      simp
  rcases hx with ⟨rfl, rfl⟩ | ⟨a, c, rfl, hnews⟩
  · rcases hrow with ⟨rfl, rfl⟩ | ⟨g, cap, cur, rfl, hb, hg, h1, h2, h3, h4⟩
    · exact ⟨.slice none 0 0, w, by simp [Builtin.append_, run_underlying ht, sizeOf, typeInfo, hi, Builtin.lenOf, Builtin.firstCells], .inl ⟨rfl, rfl⟩, Turn.refl _ _, by simp [Value.ownBlock]⟩
    · refine ⟨.slice (some ⟨g, 0, none⟩) xs.length cap, w, ?_, by rw [List.append_nil]; exact .inr ⟨g, cap, cur, rfl, hb, hg, h1, h2, h3, h4⟩, Turn.refl _ _, by simp [Value.ownBlock]⟩
      simp [Builtin.append_, run_underlying ht, sizeOf, typeInfo, hi, Builtin.lenOf, Builtin.firstCells, h1, storeCells]
  · have hl : (ys.flatMap enc).length = ys.length * i.size := by rw [gflat_len hn, hsize]
    rcases hrow with ⟨rfl, rfl⟩ | ⟨g, cap, cur, rfl, hb, hg, h1, h2, h3, h4⟩
    · by_cases h0 : ys.length = 0
      · have : ys = [] := List.eq_nil_of_length_eq_zero h0
        subst this
        exact ⟨.slice none 0 0, w, by simp [Builtin.append_, run_underlying ht, sizeOf, typeInfo, hi, Builtin.lenOf, Builtin.firstCells, loadCells, loadCellsFrom], .inl ⟨rfl, rfl⟩, Turn.refl _ _, by simp [Value.ownBlock]⟩
      · have hr := run_append_nil (P := P) w t ty T i z ht hi hz a ys.length c (ys.flatMap enc) hl hnews (by omega) (by simp at hlen; omega) (by have : ys.length * i.bytes ≤ 1000000 * 1000 := Nat.mul_le_mul (by simp at hlen; omega) hby; omega)
        have hn' := new 0 (by simp; omega)
        simp only [List.length_nil, Nat.zero_add, List.flatMap_nil, List.nil_append] at hn'
        refine ⟨_, _, hr, ?_, ?_, by simp [Value.ownBlock]⟩
        · simpa using hn'.1
        · simpa using hn'.2
    · by_cases hroom : xs.length + ys.length ≤ cap
      · have hfit : (xs.length + ys.length) * n ≤ cur.size := Nat.le_trans (Nat.mul_le_mul_right _ hroom) h2
        have hr := run_append_room (P := P) w t ty T i ht hi g xs.length cap cur hg a ys.length c (ys.flatMap enc) hl hnews hones hroom (by rw [hsize, gflat_len hn]; rw [Nat.add_mul] at hfit; omega)
        rw [hsize] at hr
        have hfl : (xs.flatMap enc ++ ys.flatMap enc).length = (xs ++ ys).length * n := by rw [List.length_append, gflat_len hn, gflat_len hn, List.length_append, Nat.add_mul]
        refine ⟨_, _, hr, .inr ⟨g, cap, _, by simp, hb, setRow_heap w g cur _ T _ hg, by simpa using hroom, ?_, h3, ?_⟩, ⟨rfl, rfl, rfl, by simp, fun k _ hk => setRow_other w g k _ (fun e => hk (by simp [Value.ownBlock, e]))⟩, by simp [Value.ownBlock]⟩
        · simp [gflat_len hn]
          rw [Nat.add_mul] at hfit
          have hcs : xs.length * n ≤ cur.size := by omega
          rw [Nat.min_eq_left hcs]
          omega
        · simp only [h4, List.append_assoc]
          rw [← List.append_assoc, List.take_append_of_le_length (by rw [hfl]; exact Nat.le_refl _), List.take_of_length_le (by rw [hfl]; exact Nat.le_refl _)]
          simp
      · have holds : ∀ j u, (xs.flatMap enc)[j]? = some u → w.cell? ((⟨g, 0, none⟩ : Addr).add j) = some u := by
          intro j u hu
          rw [addr_add, cell_of hg]
          have hj : j < xs.length * n := by have := (List.getElem?_eq_some_iff.1 hu).1; rwa [gflat_len hn] at this
          rw [← h4, List.getElem?_take_of_lt hj] at hu
          simpa using hu
        have hr := run_append_grow (P := P) w t ty T i z ht hi hz ⟨g, 0, none⟩ xs.length cap (xs.flatMap enc) (by rw [gflat_len hn, hsize]) holds a ys.length c (ys.flatMap enc) hl hnews (by omega) (by omega) (growslice_fits (by omega) (by have : (xs.length + ys.length) * i.bytes ≤ 1000000 * 1000 := Nat.mul_le_mul hlen hby; omega))
        have hn' := new cap (by omega)
        exact ⟨_, _, hr, hn'.1, hn'.2, by simp [Value.ownBlock]⟩
end
end Go.Proofs.YthbhfhagbaommaaGreatDoor

/- conveyorkeep's batch and pick. -/
namespace Go.Proofs.YthbhfhagbaommaaGreatDoor
open Go.RowKit Go.Maps
set_option maxRecDepth 100000
set_option linter.unusedSimpArgs false
set_option linter.unusedVariables false

theorem pickN_any (x : Int) (n : Nat) (hn : 0 < n) (hn2 : n ≤ 1099511627776) (w : World) : Calls Tryz.prog 5 #[.int .i64 x, .int .i64 n] w fun e w' => (∃ p : Nat, p < n ∧ e = .returned (.int .i64 p)) ∧ w = w' := by
  have hw : IntKind.u64.wrap (n : Int) = (n : Int) := by simp [IntKind.wrap, IntKind.bits, IntKind.signed]; omega
  have h0 : 0 ≤ IntKind.u64.wrap x := by simp [IntKind.wrap, IntKind.bits, IntKind.signed]; omega
  have hz : ¬ ((n : Int) = 0) := by omega
  go_enter Tryz.func5, Tryz.ntmps5
  go_wp2
  go_ret
  obtain ⟨m, hm⟩ := Int.eq_ofNat_of_zero_le h0
  refine ⟨⟨m % n, Nat.mod_lt _ hn, ?_⟩, rfl⟩
  rw [hm]
  refine congrArg (fun z => Ending.returned (.int .i64 z)) ?_
  have hlt := Nat.mod_lt m hn
  have : (m : Int) % n = ((m % n : Nat) : Int) := by omega
  rw [this]
  unfold wrap64; omega

/-- The records that batch makes. -/
def renum (b : Int) (rs : List Bt.Rec) : List Bt.Rec := rs.zipIdx.map fun p => { p.1 with off := b + p.2 }
theorem renum_snoc (b : Int) (rs : List Bt.Rec) {k : Nat} (hk : k < rs.length) : renum b (rs.take (k + 1)) = renum b (rs.take k) ++ [{ rs[k] with off := b + k }] := by
  have : rs.take (k + 1) = rs.take k ++ [rs[k]] := by simp
  unfold renum
  rw [this, List.zipIdx_append, List.map_append]
  simp [Nat.min_eq_left (Nat.le_of_lt hk)]
theorem renum_len (b : Int) (rs : List Bt.Rec) : (renum b rs).length = rs.length := by simp [renum]
theorem renum_ok (b : Int) (rs : List Bt.Rec) (h : ∀ r ∈ rs, RecOk r) (hb : 0 ≤ b) (hb2 : b ≤ 1099511627776) (hl : rs.length ≤ 1000000) : ∀ r ∈ renum b rs, RecOk r := by
  intro r hr
  unfold renum at hr
  obtain ⟨⟨q, i⟩, hq, rfl⟩ := List.mem_map.1 hr
  obtain ⟨h1, h2⟩ := List.mem_zipIdx' hq
  obtain ⟨o1, o2, t1, t2, k1, v1⟩ := h q (List.mem_iff_getElem.2 ⟨i, h1, h2.symm⟩)
  exact ⟨by simp only; omega, by simp only; omega, t1, t2, k1, v1⟩
def batOf (b : Int) (rs : List Bt.Rec) : Bt.Bat := ⟨b, b + rs.length, renum b rs⟩

/-- Where batch's loop stands. -/
structure KSt0 (w0 w : World) (X : Nat) (b f : Int) (sv : Value) (rs : List Bt.Rec) : Prop where
  hx : X = w0.heap.size + 1
  x : w.heap[X]? = some (.cells #[.int .i64 b, .int .i64 f, sv] 70 (0, 0))
  y : w.heap[w0.heap.size]? = some (.cells #[.int .i64 0, .int .i64 0, .slice none 0 0] 70 (0, 0))
  row : RecRow w (X + 1) sv rs
  turn : Turn [] w0 w
theorem KSt0.still {w0 w w' : World} {X : Nat} {b f : Int} {sv : Value} {rs : List Bt.Rec} (h : KSt0 w0 w X b f sv rs) (ht : Turn [] w w') : KSt0 w0 w' X b f sv rs :=
  ⟨h.hx, ht.heap h.x (by simp), ht.heap h.y (by simp), h.row.kept ht (by simp), h.turn.same ht⟩
theorem KSt0.setR {w0 w w2 : World} {X : Nat} {b f : Int} {sv s2 : Value} {rs r2 : List Bt.Rec} (h : KSt0 w0 w X b f sv rs) (h1 : RecRow w2 (X + 1) s2 r2) (h2 : Turn sv.ownBlock.toList w w2) : KSt0 w0 (w2.setCell ⟨X, 2, none⟩ s2) X b f s2 r2 := by
  have hx := h.hx
  have ht : Turn [X] w2 (w2.setCell ⟨X, 2, none⟩ s2) := (Turn.refl _ _).setCell (.inl (by simp)) _
  have own : ∀ k ∈ sv.ownBlock.toList, X + 1 ≤ k := fun k hk => (h.row.lt k (by simpa using hk)).1
  have hx2 : w2.heap[X]? = some (.cells #[.int .i64 b, .int .i64 f, sv] 70 (0, 0)) := h2.heap h.x (fun hm => by have := own X hm; omega)
  have hy2 := h2.heap h.y (fun hm => by have := own _ hm; omega)
  refine ⟨hx, by simpa using heap_set hx2 2 s2, ht.heap hy2 (by simp; omega), h1.kept ht (fun k hk => by have := (h1.lt k hk).1; simp; omega), ?_⟩
  exact (h.turn.trans h2 (fun k hk => .inr (by have := own k hk; omega))).trans ht (fun k hk => .inr (by simp at hk; omega))
theorem KSt0.cells {w0 w : World} {X : Nat} {b f : Int} {sv : Value} {rs : List Bt.Rec} (h : KSt0 w0 w X b f sv rs) :
    (w.cell? ⟨X, 0, none⟩ = some (.int .i64 b) ∧ w.cell? ⟨X, 1, none⟩ = some (.int .i64 f) ∧ w.cell? ⟨X, 2, none⟩ = some sv) ∧
    (w.frozen? ⟨X, 0, none⟩ = false ∧ w.frozen? ⟨X, 1, none⟩ = false ∧ w.frozen? ⟨X, 2, none⟩ = false) ∧
    (w.cell? ⟨w0.heap.size, 0, none⟩ = some (.int .i64 0) ∧ w.cell? ⟨w0.heap.size, 1, none⟩ = some (.int .i64 0) ∧ w.cell? ⟨w0.heap.size, 2, none⟩ = some (.slice none 0 0)) ∧
    (w.frozen? ⟨w0.heap.size, 0, none⟩ = false ∧ w.frozen? ⟨w0.heap.size, 1, none⟩ = false ∧ w.frozen? ⟨w0.heap.size, 2, none⟩ = false) ∧ X < w.heap.size ∧ w0.heap.size < w.heap.size :=
  ⟨⟨by simpa using cell_of h.x 0, by simpa using cell_of h.x 1, by simpa using cell_of h.x 2⟩, ⟨frozen_of h.x 0, frozen_of h.x 1, frozen_of h.x 2⟩,
   ⟨by simpa using cell_of h.y 0, by simpa using cell_of h.y 1, by simpa using cell_of h.y 2⟩, ⟨frozen_of h.y 0, frozen_of h.y 1, frozen_of h.y 2⟩, lt_of_heap h.x, lt_of_heap h.y⟩
/-- What is answered, stored. -/
theorem KSt0.fin {w0 w : World} {X : Nat} {b f : Int} {sv : Value} {rs : List Bt.Rec} (h : KSt0 w0 w X b f sv rs) :
    (loadVar 70 ⟨w0.heap.size, 0, none⟩).run Tryz.prog (((w.setCell ⟨w0.heap.size, 0, none⟩ (.int .i64 b)).setCell ⟨w0.heap.size, 1, none⟩ (.int .i64 f)).setCell ⟨w0.heap.size, 2, none⟩ sv) = .ok (.agg #[.int .i64 b, .int .i64 f, sv]) (((w.setCell ⟨w0.heap.size, 0, none⟩ (.int .i64 b)).setCell ⟨w0.heap.size, 1, none⟩ (.int .i64 f)).setCell ⟨w0.heap.size, 2, none⟩ sv) ∧
    RecRow (((w.setCell ⟨w0.heap.size, 0, none⟩ (.int .i64 b)).setCell ⟨w0.heap.size, 1, none⟩ (.int .i64 f)).setCell ⟨w0.heap.size, 2, none⟩ sv) (w0.heap.size + 2) sv rs ∧ Turn [] w0 (((w.setCell ⟨w0.heap.size, 0, none⟩ (.int .i64 b)).setCell ⟨w0.heap.size, 1, none⟩ (.int .i64 f)).setCell ⟨w0.heap.size, 2, none⟩ sv) := by
  have hx := h.hx
  have hy := heap_set (heap_set (heap_set h.y 0 (.int .i64 b)) 1 (.int .i64 f)) 2 sv
  have ht : Turn [w0.heap.size] w (((w.setCell ⟨w0.heap.size, 0, none⟩ (.int .i64 b)).setCell ⟨w0.heap.size, 1, none⟩ (.int .i64 f)).setCell ⟨w0.heap.size, 2, none⟩ sv) :=
    (((Turn.refl _ _).setCell (.inl (by simp)) _).setCell (.inl (by simp)) _).setCell (.inl (by simp)) _
  refine ⟨load_bat (by simpa using hy), ?_, h.turn.trans ht (fun k hk => .inr (by simp at hk; omega))⟩
  rcases h.row.kept ht (fun k hk => by have := (h.row.lt k hk).1; simp; omega) with h | ⟨g, cap, cur, e, hb, r⟩
  · exact .inl h
  · exact .inr ⟨g, cap, cur, e, by omega, r⟩

end Go.Proofs.YthbhfhagbaommaaGreatDoor

/- slices.Clone of records; batch: records that stand from an offset on. -/
namespace Go.Proofs.YthbhfhagbaommaaGreatDoor
open Go.RowKit Go.Maps
set_option maxRecDepth 100000
set_option linter.unusedSimpArgs false
set_option linter.unusedVariables false
attribute [local go_sem] Oper.semAt_some

theorem RecsAt.src {w : World} {v : Value} {rs : List Bt.Rec} (h : RecsAt w v rs) : GSrc recC w v rs := by
  obtain ⟨a, c, rfl, h1, h2, h3, h4⟩ := h
  cases a with
  | none =>
    have hc := h3 rfl
    have h0 : rs = [] := List.eq_nil_of_length_eq_zero (by omega)
    subst h0
    subst hc
    exact .inl ⟨rfl, rfl⟩
  | some p =>
    refine .inr ⟨p, c, rfl, fun J u hu => ?_⟩
    have hJ : J < rs.length * 6 := by have := (List.getElem?_eq_some_iff.1 hu).1; rwa [gflat_len (n := 6) recC_len] at this
    have hj : J / 6 < rs.length := by omega
    have e : J = J / 6 * 6 + J % 6 := by omega
    rw [e, gflat_at (n := 6) recC_len rs (J / 6) (J % 6) hj (by omega)] at hu
    obtain ⟨-, p', hp, hc⟩ := h4 (J / 6) hj
    obtain rfl := Option.some.inj hp
    have := hc (J % 6) u hu
    rw [add_add] at this
    rw [← e] at this
    exact this
theorem app_recs (w : World) (base : Nat) (v sx : Value) (xs ys : List Bt.Rec) (hrow : GRow 42 6 recC w base v xs) (hx : GSrc recC w sx ys) (hlen : xs.length + ys.length ≤ 1000000) (hbase : base ≤ w.heap.size) :
    ∃ v' w', (Builtin.append_ #[33, 33] 33 #[v, sx]).run Tryz.prog w = .ok v' w' ∧ GRow 42 6 recC w' base v' (xs ++ ys) ∧ Turn v.ownBlock.toList w w' ∧ (∀ j ∈ v'.ownBlock, j ∈ v.ownBlock ∨ w.heap.size ≤ j) := by
  obtain ⟨i, z, hi, hz, hzs, hs, hb⟩ := infoR_parts
  exact run_append_gs (P := Tryz.prog) 33 33 Tryz.underlying33 i z hi hz hzs hs (by omega) recC_len (fun x u hu => by simp [recC, strV] at hu; rcases hu with rfl | rfl | rfl | rfl | rfl | rfl <;> rfl) w base v sx xs ys hrow hx hlen hbase
set_option maxHeartbeats 2000000 in
theorem clone_rec (w : World) (v : Value) (rs : List Bt.Rec) (h : RecsAt w v rs) (hl : rs.length ≤ 1000000) :
    Calls Tryz.prog 49 #[v] w fun e w' => ∃ sv, e = .returned sv ∧ GRow 42 6 recC w' w.heap.size sv rs ∧ Turn [] w w' := by
  have hq : ∀ (w : World) (a : Option Addr) (n c : Nat), (binOp .eql 33 (.slice a n c) (.slice none 0 0)).run Tryz.prog w = .ok (.bool a.isNone) w := fun w a n c => Go.Lib.run_eql_slice_nil w _ _ a n c 0 0 Tryz.underlying33
  have HS := hide h
  obtain ⟨a, c, rfl, h1, h2, h3, h4⟩ := h
  cases a with
  | none =>
    have hc := h3 rfl
    have h0 : rs = [] := List.eq_nil_of_length_eq_zero (by omega)
    subst h0
    subst hc
    clear h1 h2 h3 h4
    go_enter Tryz.func49, Tryz.ntmps49
    go_wp2
    go_ret
    exact ⟨_, rfl, .inl ⟨rfl, rfl⟩, Turn.refl _ _⟩
  | some p =>
    have ht : Turn [] w (w.alloc (.cells #[] 42)) := (Turn.refl [] w).alloc _
    obtain ⟨v7, w7, hr7, hrow7, ht7, hown7⟩ := app_recs (w.alloc (.cells #[] 42)) w.heap.size (.slice (some ⟨w.heap.size, 0, none⟩) 0 0) (.slice (some p) rs.length c) [] rs (.inr ⟨w.heap.size, 0, #[], rfl, Nat.le_refl _, heap_new w _, by simp, by simp, by simp, by simp⟩) (HS.out.still ht).src (by simp; omega) (by simp)
    rw [List.nil_append] at hrow7
    have HR7 := hide hr7
    have HROW7 := hide hrow7
    have HT7 := hide (ht.trans ht7 (by simp [Value.ownBlock]))
    clear h1 h2 h3 h4 ht hr7 hrow7 ht7 hown7
    go_enter Tryz.func49, Tryz.ntmps49
    go_wp2_with (at_builtin; go_must (refine wpList_append_told rfl rfl rfl rfl HR7.out ?_))
    go_ret
    exact ⟨_, rfl, HROW7.out, HT7.out⟩
end Go.Proofs.YthbhfhagbaommaaGreatDoor

/- sort.Search over a segment's places; (*segment.Segment).first. -/
namespace Go.Proofs.YthbhfhagbaommaaGreatDoor.Sg
open Go.RowKit Go.Maps
set_option maxRecDepth 100000
set_option linter.unusedSimpArgs false
set_option linter.unusedVariables false
attribute [local go_sem] Oper.semAt_some

/-- Where the places begin that are so. -/
def Least (n : Nat) (f : Nat → Bool) (m : Nat) : Prop := m ≤ n ∧ (∀ i, i < m → f i = false) ∧ ∀ i, m ≤ i → i < n → f i = true

set_option maxHeartbeats 4000000 in
theorem search_any (w : World) (p1 p2 : Nat) (n : Nat) (hn : n ≤ 1000000) (f : Nat → Bool) (hm : ∀ i j, i ≤ j → f i = true → f j = true)
    (hc : ∀ wr, Turn [] w wr → ∀ k, k < n → Calls Tryz.prog 132 #[.int .i64 (k : Int), .pointer (some ⟨p1, 0, none⟩), .pointer (some ⟨p2, 0, none⟩)] wr fun e w' => e = .returned (.bool (f k)) ∧ Turn [] wr w') :
    Calls Tryz.prog 131 #[.int .i64 (n : Int), .func (.func 132) #[] #[.pointer (some ⟨p1, 0, none⟩), .pointer (some ⟨p2, 0, none⟩)]] w fun e w' => (∃ m : Nat, e = .returned (.int .i64 m) ∧ Least n f m) ∧ Turn [] w w' := by
  have HC := hide hc
  have HM := hide hm
  clear hc hm
  go_enter Tryz.func131, Tryz.ntmps131
  go_wp2
  go_loopw [5, 6] (fun a b wr => ∃ i j : Nat, i ≤ j ∧ j ≤ n ∧ a = .int .i64 i ∧ b = .int .i64 j ∧ (∀ x, x < i → f x = false) ∧ (∀ x, j ≤ x → x < n → f x = true) ∧ Turn [] w wr) (fun a b _ => (intOf b).toNat - (intOf a).toNat)
  case atStart => exact ⟨0, n, Nat.zero_le _, Nat.le_refl _, rfl, rfl, fun x h => absurd h (Nat.not_lt_zero _), fun x h1 h2 => absurd h2 (by omega), Turn.refl _ _⟩
  case round =>
    obtain ⟨i, j, hij, hjn, rfl, rfl, h1, h2, ht⟩ := hrel
    have H1 := hide h1
    have H2 := hide h2
    have HT := hide ht
    clear h1 h2 ht
    by_cases hlt : i < j
    · obtain ⟨m, hm⟩ : ∃ m, m = (i + j) / 2 := ⟨_, rfl⟩
      have hcast : ((i : Int) + (j : Int)) / 2 = (m : Int) := by omega
      have hm1 : i ≤ m ∧ m < j := by omega
      clear hm
      go_wp2_with fail
      refine (HC.out wr HT.out m (by omega)).mono ?_
      rintro e w1 ⟨rfl, ht1⟩
      have HT1 := hide (HT.out.same ht1)
      clear ht1
      cases hfm : f m with
      | true =>
        have HF := hide hfm
        clear hfm
        go_wp2
        all_goals refine ⟨⟨i, m, hm1.1, by omega, rfl, rfl, H1.out, fun x hx _ => HM.out m x hx HF.out, HT1.out⟩, ?_⟩
        all_goals (simp only [intOf]; omega)
      | false =>
        have HF := hide hfm
        clear hfm
        go_wp2
        all_goals refine ⟨⟨m + 1, j, by omega, hjn, by go_num, rfl, fun x hx => ?_, H2.out, HT1.out⟩, ?_⟩
        · cases hx' : f x with
          | false => rfl
          | true => have := HM.out x m (by omega) hx'; rw [HF.out] at this; cases this
        · simp only [intOf]; omega
    · go_wp2
      go_ret
      obtain rfl : i = j := by omega
      exact ⟨⟨i, rfl, hjn, H1.out, H2.out⟩, HT.out⟩

set_option maxHeartbeats 2000000 in
theorem first1_any (w : World) (base d sb : Nat) (sv : Value) (file : ByteArray) (b0 : Int) (ps : List Pl) (h : SegAt w base d sb sv file b0 ps) (hl : ps.length ≤ 1000000) (p1 p2 g fb : Nat) (hg : ∀ args w, (callFunc g args).run Tryz.prog w = .ok (.enter g args) w)
    (h1 : w.heap[p1]? = some (.cells #[.func (.func g) #[] #[.pointer (some ⟨fb, 0, none⟩)]] 159 (0, 0))) (h2 : w.heap[p2]? = some (.cells #[.pointer (some ⟨sb, 0, none⟩)] 68 (0, 0)))
    (k : Nat) (hk : k < ps.length) (b : Bool) (hq : ∀ Z, Turn [] w Z → Calls Tryz.prog g #[plV ps[k], .pointer (some ⟨fb, 0, none⟩)] Z fun e w' => e = .returned (.bool b) ∧ Turn [] Z w') :
    Calls Tryz.prog 132 #[.int .i64 (k : Int), .pointer (some ⟨p1, 0, none⟩), .pointer (some ⟨p2, 0, none⟩)] w fun e w' => e = .returned (.bool b) ∧ Turn [] w w' := by
  obtain ⟨ga, cap, hsv, -⟩ := grow_pl h.row hk
  subst hsv
  have HS := hide h
  have H1 := hide h1
  have H2 := hide h2
  have HQ := hide hq
  obtain ⟨p, hp⟩ : ∃ p, p = ps[k] := ⟨_, rfl⟩
  rw [← hp] at HQ
  have HP := hide hp
  clear h h1 h2 hq hp
  go_enter Tryz.func132, Tryz.ntmps132
  go_wp2
  refine wp_region_tail 8 (Turn []) (by kernel_rfl) (by kernel_rfl) (by kernel_rfl) (by kernel_rfl) (by kernel_rfl) (Nat.le_of_ble_eq_true rfl) rfl (Turn.refl _) (fun _ _ _ h k => h.same k) ?_
  apply Lo.runx 1 rfl rfl [] (by kernel_rfl) (Turn.refl _)
  apply Exists.intro; apply And.intro
  · intro u w1 hR hF
    clear hF
    refine ⟨rfl, fun a ha K hK => ?_⟩
    have e1 := ha 1
    conv at e1 => rhs; whnf
    clear ha
    have hb := (((Turn.refl [] w).drew).same hR).heap H1.out (by simp)
    have c0 : w1.cell? ⟨p1, 0, none⟩ = some (.func (.func g) #[] #[.pointer (some ⟨fb, 0, none⟩)]) := by rw [cell_of hb]; rfl
    have z1 := lt_of_heap hb
    go_simp
    refine hK _ ?_; rfl
  apply Lo.runx 2 rfl rfl [] (by kernel_rfl) (Turn.refl _)
  apply Exists.intro; apply And.intro
  · intro u w1 hR hF
    clear hF
    refine ⟨rfl, fun a ha K hK => ?_⟩
    have e2 := ha 2
    conv at e2 => rhs; whnf
    clear ha
    have hb := (((Turn.refl [] w).drew).same hR).heap H2.out (by simp)
    have c0 : w1.cell? ⟨p2, 0, none⟩ = some (.pointer (some ⟨sb, 0, none⟩)) := by rw [cell_of hb]; rfl
    have z1 := lt_of_heap hb
    go_simp
    refine hK _ ?_; rfl
  apply Lo.runx 3 rfl rfl [1] (by kernel_rfl) (Turn.refl _)
  apply Exists.intro; apply And.intro
  · intro u w1 hR hF
    obtain ⟨h1, -⟩ := hF
    refine ⟨rfl, fun a ha K hK => ?_⟩
    have e6 := (ha 6).trans h1
    clear ha h1
    go_simp
    refine hK _ ?_; rfl
  apply Lo.runx 4 rfl rfl [2] (by kernel_rfl) (Turn.refl _)
  apply Exists.intro; apply And.intro
  · intro u w1 hR hF
    obtain ⟨h2, -⟩ := hF
    refine ⟨rfl, fun a ha K hK => ?_⟩
    have e7 := (ha 7).trans h2
    clear ha h2
    go_simp
    refine hK _ ?_; rfl
  apply Lo.runx 5 rfl rfl [3] (by kernel_rfl) (Turn.refl _)
  apply Exists.intro; apply And.intro
  · intro u w1 hR hF
    obtain ⟨h3, -⟩ := hF
    refine ⟨rfl, fun a ha K hK => ?_⟩
    have e8 := (ha 8).trans h3
    clear ha h3
    have hs := HS.out.still (((Turn.refl [] w).drew).same hR)
    have c3 := hs.c3
    have z1 := lt_of_heap hs.box
    go_simp
    refine hK _ ?_; rfl
  apply Lo.runx 6 rfl rfl [] (by kernel_rfl) (Turn.refl _)
  apply Exists.intro; apply And.intro
  · intro u w1 hR hF
    clear hF
    refine ⟨rfl, fun a ha K hK => ?_⟩
    have e0 := ha 0
    conv at e0 => rhs; whnf
    clear ha
    go_simp
    refine hK _ ?_; rfl
  refine Lo.runv 7 rfl rfl [4, 5] (.pointer (some ⟨ga, k * 5, none⟩)) (by kernel_rfl) (fun u w1 hR hF => ?_) (Turn.refl _) ?_
  · obtain ⟨h4, h5, -⟩ := hF
    refine ⟨rfl, fun a ha K hK => ?_⟩
    have e9 := (ha 9).trans h4
    have e10 := (ha 10).trans h5
    clear ha h4 h5
    have h10 : (k : Int) < ps.length := by omega
    go_simp
    refine hK _ ?_
    rfl
  refine Lo.runv 8 rfl rfl [6] (plV p) (by kernel_rfl) (fun u w1 hR hF => ?_) (Turn.refl _) ?_
  · obtain ⟨h6, -⟩ := hF
    refine ⟨rfl, fun a ha K hK => ?_⟩
    have e11 := (ha 11).trans h6
    clear ha h6
    have hc : ∀ i, i < 5 → w1.cell? ⟨ga, k * 5 + i, none⟩ = (plC p)[i]? := by
      obtain ⟨g', cap', e, hc, _⟩ := (HS.out.still (((Turn.refl [] w).drew).same hR)).row.at plC_len hk
      simp at e
      obtain ⟨rfl, rfl⟩ := e
      rw [HP.out]; exact hc
    have k0 : w1.cell? ⟨ga, k * 5, none⟩ = some (.int .i64 p.at) := hc 0 (by omega)
    have k1 : w1.cell? ⟨ga, k * 5 + 1, none⟩ = some (.int .i64 p.size) := hc 1 (by omega)
    have k2 : w1.cell? ⟨ga, k * 5 + 2, none⟩ = some (.int .i64 p.sum) := hc 2 (by omega)
    have k3 : w1.cell? ⟨ga, k * 5 + 3, none⟩ = some (.int .i64 p.fin) := hc 3 (by omega)
    have k4 : w1.cell? ⟨ga, k * 5 + 4, none⟩ = some (.int .i64 p.latest) := hc 4 (by omega)
    clear hc
    go_simp
    refine hK _ ?_
    rfl
  refine Lo.done [0, 7] (fun u w1 hRd hSd hF => ?_)
  clear hSd
  obtain ⟨f0, f7, -⟩ := hF
  have d0 : u 0 = _ := f0
  have d7 : u 7 = _ := f7
  clear f0 f7
  simp only [List.take_succ_cons, List.take_zero, List.drop_succ_cons, List.drop_zero, putFrom, Act.put, List.setIfInBounds_toArray, List.set_cons_succ, List.set_cons_zero, Nat.zero_add, Nat.reduceAdd, d0, d7]
  have HT1 := hide (((Turn.refl [] w).drew).same hRd)
  clear d0 d7 hRd
  go_wp2_with fail
  refine (HQ.out _ HT1.out).mono ?_
  rintro e w2 ⟨rfl, ht2⟩
  have HT2 := hide (HT1.out.same ht2)
  clear ht2
  go_wp2
  go_ret
  exact ⟨rfl, HT2.out⟩
set_option maxHeartbeats 2000000 in
theorem first_any (w : World) (base d sb : Nat) (sv : Value) (file : ByteArray) (b0 : Int) (ps : List Pl) (h : SegAt w base d sb sv file b0 ps) (hl : ps.length ≤ 1000000) (g fb : Nat) (hg : ∀ args w, (callFunc g args).run Tryz.prog w = .ok (.enter g args) w) (f : Nat → Bool) (hm : ∀ i j, i ≤ j → f i = true → f j = true)
    (hq : ∀ Z, Turn [] w Z → ∀ (k : Nat) (hk : k < ps.length), Calls Tryz.prog g #[plV ps[k], .pointer (some ⟨fb, 0, none⟩)] Z fun e w' => e = .returned (.bool (f k)) ∧ Turn [] Z w') :
    Calls Tryz.prog 102 #[.pointer (some ⟨sb, 0, none⟩), .func (.func g) #[] #[.pointer (some ⟨fb, 0, none⟩)]] w fun e w' => (∃ m : Nat, e = .returned (.int .i64 m) ∧ Least ps.length f m) ∧ Turn [] w w' := by
  obtain ⟨xa, xc, hsv, hxl, hxm⟩ := h.row.form
  subst hsv
  have HS := hide h
  have HQ := hide hq
  have HM := hide hm
  have c3 := h.c3
  have hsb := lt_of_heap h.box
  clear h hq hm
  have hmf : ∀ (fn : Fn) (first cap : Array Value) (w : World), (Instr.makeFunc fn first cap).run Tryz.prog w = .ok (.func fn first cap) w := fun _ _ _ _ => rfl
  go_enter Tryz.func102, Tryz.ntmps102
  go_wp2_with fail
  have hw2 : Turn [] w ((w.alloc (.cells #[.pointer (some ⟨sb, 0, none⟩)] 68)).alloc (.cells #[.func (.func g) #[] #[.pointer (some ⟨fb, 0, none⟩)]] 159)) := ((Turn.refl [] w).alloc _).alloc _
  have b1 := heap_new (w.alloc (.cells #[.pointer (some ⟨sb, 0, none⟩)] 68)) (.cells #[.func (.func g) #[] #[.pointer (some ⟨fb, 0, none⟩)]] 159)
  have b2 := ((Turn.refl [] _).alloc (.cells #[.func (.func g) #[] #[.pointer (some ⟨fb, 0, none⟩)]] 159)).heap (heap_new w (.cells #[.pointer (some ⟨sb, 0, none⟩)] 68)) (by simp)
  rw [World.size_alloc] at b1
  refine (search_any _ (w.heap.size + 1) w.heap.size ps.length hl f HM.out (fun wr ht k hk => ?_)).mono ?_
  · exact first1_any wr base d sb _ file b0 ps (HS.out.still (hw2.same ht)) hl (w.heap.size + 1) w.heap.size g fb hg (ht.heap b1 (by simp)) (ht.heap b2 (by simp)) k hk (f k) (fun Z hZ => HQ.out Z (hw2.same (ht.same hZ)) k hk)
  rintro e w3 ⟨⟨m, rfl, hmm⟩, ht3⟩
  have HT3 := hide (hw2.same ht3)
  have HMM := hide hmm
  clear ht3 hmm hw2 b1 b2
  go_wp2
  go_ret
  exact ⟨⟨m, rfl, HMM.out⟩, HT3.out⟩
end Go.Proofs.YthbhfhagbaommaaGreatDoor.Sg

/- (*segment.Segment).batch: the batch of a place; Read's closure. -/
namespace Go.Proofs.YthbhfhagbaommaaGreatDoor.Sg
open Go.RowKit Go.Maps
set_option maxRecDepth 100000
set_option linter.unusedSimpArgs false
set_option linter.unusedVariables false
attribute [local go_sem] Oper.semAt_some
open Dk (DA DiskAt Parts Did errR errV)

theorem read1_any (w : World) (p : Pl) (fb : Nat) (from' : Int) (hb : w.heap[fb]? = some (.cells #[.int .i64 from'] 3 (0, 0))) :
    Calls Tryz.prog 103 #[plV p, .pointer (some ⟨fb, 0, none⟩)] w fun e w' => e = .returned (.bool (decide (from' < p.fin))) ∧ Turn [] w w' := by
  have c0 : w.cell? ⟨fb, 0, none⟩ = some (.int .i64 from') := by rw [cell_of hb]; rfl
  have hl := lt_of_heap hb
  rw [show plV p = .agg #[.int .i64 p.at, .int .i64 p.size, .int .i64 p.sum, .int .i64 p.fin, .int .i64 p.latest] from rfl]
  clear hb
  go_enter Tryz.func103, Tryz.ntmps103
  go_wp2
  go_ret
  exact ⟨rfl, (Turn.refl [] w).alloc _⟩
theorem enter_of {P : Program} {f : FuncId} {fn : Func} (hf : P.funcs[f]? = some fn) (hname : (fn.name == "runtime.NumGoroutine") = false) (hb : fn.body.isSome = true) (args : Array Value) (w : World) : (callFunc f args).run P w = .ok (.enter f args) w := by
  have h1 : fn.name ≠ "runtime.NumGoroutine" := by simpa using hname
  obtain ⟨c, hc⟩ := Option.isSome_iff_exists.1 hb
  simp [callFunc, hf, h1, hc]
theorem enter_read1 (args : Array Value) (w : World) : (callFunc 103 args).run Tryz.prog w = .ok (.enter 103 args) w :=
  enter_of Tryz.func103 (by kernel_rfl) (by kernel_rfl) args w

theorem _root_.Go.Proofs.YthbhfhagbaommaaGreatDoor.RecsAt.not_small {w : World} {v : Value} {rs : List Bt.Rec} (h : RecsAt w v rs) (h0 : rs ≠ []) {k : Nat} {cs : Array Value} {t : TypeId} {fr : Nat × Nat} (hk : w.heap[k]? = some (.cells cs t fr)) (hs : cs.size ≤ 5) : k ∉ v.ownBlock := by
  obtain ⟨a, c, rfl, h1, h2, h3, h4⟩ := h
  obtain ⟨-, p, rfl, hc⟩ := h4 0 (List.length_pos_iff.2 h0)
  intro hm
  simp [Value.ownBlock] at hm
  subst hm
  have h5 := hc 5 _ rfl
  have h6 : ∃ u, cs[p.off + 5]? = some u := ⟨_, by simpa [Addr.add, World.cell?, hk] using h5⟩
  obtain ⟨u, h6⟩ := h6
  obtain ⟨h7, -⟩ := Array.getElem?_eq_some_iff.1 h6
  omega

set_option maxHeartbeats 4000000 in
theorem batch_own (w : World) (base d : Nat) (F : List Nat) (A : DA) (sb : Nat) (sv : Value) (file : ByteArray) (b0 : Int) (ps : List Pl) (h : Both w base d F A sb sv file b0 ps) (hfs : file.size ≤ maxLen) (f : Dk.FA) (hf : A.file file.data.toList = some f)
    (p : Pl) (x : Bt.Bat) (hx : Bt.encErr x = 0) (hrd : Dk.readL f.bytes p.at p.size = Bt.encB x) (hsm : p.sum = Cr.sum (Bt.encB x)) (hps : p.size ≤ 1099511627776) :
    Calls Tryz.prog 104 #[.pointer (some ⟨sb, 0, none⟩), plV p] w fun e w' => ∃ rv, e = .returned (.tuple #[.agg #[.int .i64 x.base, .int .i64 x.fin, rv], .nilIface]) ∧ GRow 42 6 recC w' w.heap.size rv x.recs ∧ (∀ r ∈ x.recs, RecOk r) ∧ Turn [] w w' := by
  have HB := hide h
  have HF := hide hf
  have HX := hide hx
  have HRD := hide hrd
  have HSM := hide hsm
  have hen : (Bt.encB x).length ≤ 6000 := by have := (Bt.encErr_ok hx).2; rw [Bt.encB_len]; exact this
  have hsb := lt_of_heap h.seg.box
  rw [show plV p = .agg #[.int .i64 p.at, .int .i64 p.size, .int .i64 p.sum, .int .i64 p.fin, .int .i64 p.latest] from rfl]
  clear h hf hx hrd hsm
  go_enter Tryz.func104, Tryz.ntmps104
  go_wp2
  obtain ⟨w0, hw0⟩ : ∃ w0, w0 = (w.alloc (.cells #[.int .i64 p.at, .int .i64 p.size, .int .i64 p.sum, .int .i64 p.fin, .int .i64 p.latest] 120)).alloc (.cells #[.int .i64 0, .int .i64 0, .slice none 0 0] 70) := ⟨_, rfl⟩
  rw [← hw0]
  have hP : w0.heap[w.heap.size]? = some (.cells #[.int .i64 p.at, .int .i64 p.size, .int .i64 p.sum, .int .i64 p.fin, .int .i64 p.latest] 120 (0, 0)) := by
    rw [hw0]; exact ((Turn.refl [] _).alloc _).heap (heap_new w _) (by simp)
  have hR0 : w0.heap[w.heap.size + 1]? = some (.cells #[.int .i64 0, .int .i64 0, .slice none 0 0] 70 (0, 0)) := by
    rw [hw0]
    have := heap_new (w.alloc (.cells #[.int .i64 p.at, .int .i64 p.size, .int .i64 p.sum, .int .i64 p.fin, .int .i64 p.latest] 120)) (.cells #[.int .i64 0, .int .i64 0, .slice none 0 0] 70)
    rwa [World.size_alloc] at this
  have HT0 : Hid (Turn [] w w0) := by show Turn _ _ _; rw [hw0]; exact ((Turn.refl [] w).alloc _).alloc _
  have HP := hide hP
  have HR0 := hide hR0
  clear hw0 hP hR0
  refine wp_region_tail 12 (Turn []) (by kernel_rfl) (by kernel_rfl) (by kernel_rfl) (by kernel_rfl) (by kernel_rfl) (Nat.le_of_ble_eq_true rfl) rfl (Turn.refl _) (fun _ _ _ h k => h.same k) ?_
  apply Lo.runx 1 rfl rfl [] (by kernel_rfl) (Turn.refl _)
  apply Exists.intro; apply And.intro
  · intro u w1 hR hF
    clear hF
    refine ⟨rfl, fun a ha K hK => ?_⟩
    have e0 := ha 0
    conv at e0 => rhs; whnf
    clear ha
    go_simp
    refine hK _ ?_; rfl
  apply Lo.runx 2 rfl rfl [0] (by kernel_rfl) (Turn.refl _)
  apply Exists.intro; apply And.intro
  · intro u w1 hR hF
    obtain ⟨h0, -⟩ := hF
    refine ⟨rfl, fun a ha K hK => ?_⟩
    have e10 := (ha 10).trans h0
    clear ha h0
    go_simp
    refine hK _ ?_; rfl
  apply Lo.runx 3 rfl rfl [1] (by kernel_rfl) (Turn.refl _)
  apply Exists.intro; apply And.intro
  · intro u w1 hR hF
    obtain ⟨h1, -⟩ := hF
    refine ⟨rfl, fun a ha K hK => ?_⟩
    have e11 := (ha 11).trans h1
    clear ha h1
    go_simp
    refine hK _ ?_; rfl
  apply Lo.runx 4 rfl rfl [2] (by kernel_rfl) (Turn.refl _)
  apply Exists.intro; apply And.intro
  · intro u w1 hR hF
    obtain ⟨h2, -⟩ := hF
    refine ⟨rfl, fun a ha K hK => ?_⟩
    have e12 := (ha 12).trans h2
    clear ha h2
    have hS := HB.out.seg.still (HT0.out.same (((Turn.refl [] _).drew).same hR))
    have c0 := hS.c0
    have z1 := lt_of_heap hS.box
    go_simp
    refine hK _ ?_; rfl
  apply Lo.runx 5 rfl rfl [] (by kernel_rfl) (Turn.refl _)
  apply Exists.intro; apply And.intro
  · intro u w1 hR hF
    clear hF
    refine ⟨rfl, fun a ha K hK => ?_⟩
    have e0 := ha 0
    conv at e0 => rhs; whnf
    clear ha
    go_simp
    refine hK _ ?_; rfl
  apply Lo.runx 6 rfl rfl [4] (by kernel_rfl) (Turn.refl _)
  apply Exists.intro; apply And.intro
  · intro u w1 hR hF
    obtain ⟨h4, -⟩ := hF
    refine ⟨rfl, fun a ha K hK => ?_⟩
    have e14 := (ha 14).trans h4
    clear ha h4
    go_simp
    refine hK _ ?_; rfl
  apply Lo.runx 7 rfl rfl [5] (by kernel_rfl) (Turn.refl _)
  apply Exists.intro; apply And.intro
  · intro u w1 hR hF
    obtain ⟨h5, -⟩ := hF
    refine ⟨rfl, fun a ha K hK => ?_⟩
    have e15 := (ha 15).trans h5
    clear ha h5
    go_simp
    refine hK _ ?_; rfl
  apply Lo.runx 8 rfl rfl [6] (by kernel_rfl) (Turn.refl _)
  apply Exists.intro; apply And.intro
  · intro u w1 hR hF
    obtain ⟨h6, -⟩ := hF
    refine ⟨rfl, fun a ha K hK => ?_⟩
    have e16 := (ha 16).trans h6
    clear ha h6
    have hS := HB.out.seg.still (HT0.out.same (((Turn.refl [] _).drew).same hR))
    have c1 := hS.c1
    have z1 := lt_of_heap hS.box
    go_simp
    refine hK _ ?_; rfl
  apply Lo.runx 9 rfl rfl [] (by kernel_rfl) (Turn.refl _)
  apply Exists.intro; apply And.intro
  · intro u w1 hR hF
    clear hF
    refine ⟨rfl, fun a ha K hK => ?_⟩
    have e3 := ha 3
    conv at e3 => rhs; whnf
    clear ha
    go_simp
    refine hK _ ?_; rfl
  apply Lo.runx 10 rfl rfl [8] (by kernel_rfl) (Turn.refl _)
  apply Exists.intro; apply And.intro
  · intro u w1 hR hF
    obtain ⟨h8, -⟩ := hF
    refine ⟨rfl, fun a ha K hK => ?_⟩
    have e18 := (ha 18).trans h8
    clear ha h8
    have hb := (((Turn.refl [] _).drew).same hR).heap HP.out (by simp)
    have c0 : w1.cell? ⟨w.heap.size, 0, none⟩ = some (.int .i64 p.at) := by rw [cell_of hb]; rfl
    have z1 := lt_of_heap hb
    go_simp
    refine hK _ ?_; rfl
  apply Lo.runx 11 rfl rfl [] (by kernel_rfl) (Turn.refl _)
  apply Exists.intro; apply And.intro
  · intro u w1 hR hF
    clear hF
    refine ⟨rfl, fun a ha K hK => ?_⟩
    have e3 := ha 3
    conv at e3 => rhs; whnf
    clear ha
    go_simp
    refine hK _ ?_; rfl
  apply Lo.runx 12 rfl rfl [10] (by kernel_rfl) (Turn.refl _)
  apply Exists.intro; apply And.intro
  · intro u w1 hR hF
    obtain ⟨h10, -⟩ := hF
    refine ⟨rfl, fun a ha K hK => ?_⟩
    have e20 := (ha 20).trans h10
    clear ha h10
    have hb := (((Turn.refl [] _).drew).same hR).heap HP.out (by simp)
    have c0 : w1.cell? ⟨w.heap.size, 1, none⟩ = some (.int .i64 p.size) := by rw [cell_of hb]; rfl
    have z1 := lt_of_heap hb
    go_simp
    refine hK _ ?_; rfl
  refine Lo.done [3, 7, 9, 11] (fun u w1 hRd hSd hF => ?_)
  clear hSd
  obtain ⟨f3, f7, f9, f11, -⟩ := hF
  have d3 : u 3 = _ := f3
  have d7 : u 7 = _ := f7
  have d9 : u 9 = _ := f9
  have d11 : u 11 = _ := f11
  clear f3 f7 f9 f11
  simp only [List.take_succ_cons, List.take_zero, List.drop_succ_cons, List.drop_zero, putFrom, Act.put, List.setIfInBounds_toArray, List.set_cons_succ, List.set_cons_zero, Nat.zero_add, Nat.reduceAdd, d3, d7, d9, d11]
  have HT1 := hide (HT0.out.same (((Turn.refl [] _).drew).same hRd))
  have HP1 := hide ((((Turn.refl [] _).drew).same hRd).heap HP.out (by simp))
  have HR1 := hide ((((Turn.refl [] _).drew).same hRd).heap HR0.out (by simp))
  clear d3 d7 d9 d11 hRd
  go_wp2_with fail
  refine (read_file (HB.out.disk.kept HT1.out (by simp)) file hfs HF.out p.at p.size (by omega)).mono ?_
  rintro e w2 ⟨v, rfl, hrow, ht2⟩
  rw [HRD.out] at hrow
  obtain ⟨ba, bc, hbv, hblc, hbcm⟩ := hrow.form
  subst hbv
  have HROW := hide hrow
  have HT2 := hide (HT1.out.same ht2)
  have HP2 := hide (ht2.heap HP1.out (by simp))
  have HR2 := hide (ht2.heap HR1.out (by simp))
  clear hrow ht2 hblc hbcm
  have hdec := dec_own w2 _ (Bt.encB x) HROW.out.bytes (by omega)
  have hde := dec_enc HX.out []
  rw [List.append_nil] at hde
  rw [hde] at hdec
  have HDEC := hide hdec
  clear hdec hde
  go_wp2_with fail
  refine HDEC.out.mono ?_
  rintro e w3 ⟨rv, rfl, hrec0, hfr, ht3⟩
  have hrec : GRow 42 6 recC w3 w2.heap.size rv x.recs := hrec0
  clear hrec0
  obtain ⟨ra, rc, hrv, -⟩ := hrec.form
  subst hrv
  have HFR := hide hfr
  clear hfr
  have hen0 : As.errN 0 = .nilIface := rfl
  rw [hen0]
  have HREC := hide hrec
  have HT3 := hide (HT2.out.same ht3)
  have HP3 := hide (ht3.heap HP2.out (by simp))
  have HR3 := hide (ht3.heap HR2.out (by simp))
  have HROW3 := hide (HROW.out.kept ht3 (by simp))
  clear HDEC hrec ht3 hen0
  go_wp2
  obtain ⟨w4, hw4⟩ : ∃ w4, w4 = w3.alloc (.cells #[.int .i64 x.base, .int .i64 x.fin, .slice ra x.recs.length rc] 70) := ⟨_, rfl⟩
  rw [← hw4]
  have h34 : Turn [] w3 w4 := by rw [hw4]; exact (Turn.refl [] w3).alloc _
  have HX4 : Hid (w4.heap[w3.heap.size]? = some (.cells #[.int .i64 x.base, .int .i64 x.fin, .slice ra x.recs.length rc] 70 (0, 0))) := by show _ = _; rw [hw4]; exact heap_new w3 _
  have HREC4 := hide (HREC.out.still h34)
  have HT4 := hide (HT3.out.same h34)
  have HP4 := hide (h34.heap HP3.out (by simp))
  have HR4 := hide (h34.heap HR3.out (by simp))
  have HROW4 := hide (HROW3.out.kept h34 (by simp))
  clear h34 hw4
  refine wp_region_loose (Turn []) (by kernel_rfl) (by kernel_rfl) (by kernel_rfl) (by kernel_rfl) rfl (Turn.refl _) (fun _ _ _ h k => h.same k) ?_
  apply Lo.runx 1 rfl rfl [] (by kernel_rfl) (Turn.refl _)
  apply Exists.intro; apply And.intro
  · intro u w1 hR hF
    clear hF
    refine ⟨rfl, fun a ha K hK => ?_⟩
    have e9 := ha 9
    conv at e9 => rhs; whnf
    clear ha
    go_simp
    refine hK _ ?_; rfl
  apply Lo.runx 2 rfl rfl [0] (by kernel_rfl) (Turn.refl _)
  apply Exists.intro; apply And.intro
  · intro u w1 hR hF
    obtain ⟨h0, -⟩ := hF
    refine ⟨rfl, fun a ha K hK => ?_⟩
    have e29 := (ha 29).trans h0
    clear ha h0
    go_simp
    refine hK _ ?_; rfl
  apply Lo.runx 3 rfl rfl [1] (by kernel_rfl) (Turn.refl _)
  apply Exists.intro; apply And.intro
  · intro u w1 hR hF
    obtain ⟨h1, -⟩ := hF
    refine ⟨rfl, fun a ha K hK => ?_⟩
    have e30 := (ha 30).trans h1
    clear ha h1
    go_simp
    refine hK _ ?_; rfl
  apply Lo.runx 4 rfl rfl [2] (by kernel_rfl) (Turn.refl _)
  apply Exists.intro; apply And.intro
  · intro u w1 hR hF
    obtain ⟨h2, -⟩ := hF
    refine ⟨.inl ⟨false, h2, rfl⟩, fun a ha K hK => ?_⟩
    have e6 := ha 6
    conv at e6 => rhs; whnf
    clear ha h2
    go_simp
    refine hK _ ?_; rfl
  refine Lo.run 5 rfl rfl [2, 3] (fun y _ => y = .int .i64 (Cr.sum (Bt.encB x) : Nat)) (by kernel_rfl) (fun x w w' h hR => ?_) (fun _ _ h => h) (fun u w1 hR hF => ?_) ?_
  · exact h
  · obtain ⟨h2, h3, -⟩ := hF
    refine ⟨.inl ⟨false, h2, rfl⟩, fun a ha K hK => ?_⟩
    have e32 := (ha 32).trans h3
    clear ha h2 h3
    go_simp
    refine (sum_any _ _ (Bt.encB x) (HROW4.out.kept (((Turn.refl [] _).drew).same hR) (by simp)).cells (by omega)).mono ?_
    rintro e w5 ⟨rfl, rfl⟩
    exact hK _ _ rfl (Turn.refl _ _)
  apply Lo.runx 6 rfl rfl [2] (by kernel_rfl) (Turn.refl _)
  apply Exists.intro; apply And.intro
  · intro u w1 hR hF
    obtain ⟨h2, -⟩ := hF
    refine ⟨.inl ⟨false, h2, rfl⟩, fun a ha K hK => ?_⟩
    have e3 := ha 3
    conv at e3 => rhs; whnf
    clear ha h2
    go_simp
    refine hK _ ?_; rfl
  apply Lo.runx 7 rfl rfl [2, 5] (by kernel_rfl) (Turn.refl _)
  apply Exists.intro; apply And.intro
  · intro u w1 hR hF
    obtain ⟨h2, h5, -⟩ := hF
    refine ⟨.inl ⟨false, h2, rfl⟩, fun a ha K hK => ?_⟩
    have e34 := (ha 34).trans h5
    clear ha h2 h5
    have hb := (((Turn.refl [] _).drew).same hR).heap HP4.out (by simp)
    have c0 : w1.cell? ⟨w.heap.size, 2, none⟩ = some (.int .i64 p.sum) := by rw [cell_of hb]; rfl
    have z1 := lt_of_heap hb
    go_simp
    refine hK _ ?_; rfl
  refine Lo.runv 8 rfl rfl [2, 4, 6] (.bool false) (by kernel_rfl) (fun u w1 hR hF => ?_) (Turn.refl _) ?_
  · obtain ⟨h2, h4, h6, -⟩ := hF
    refine ⟨.inl ⟨false, h2, rfl⟩, fun a ha K hK => ?_⟩
    have e33 : a.tmps.getD 33 undef = u 4 := ha 33
    have e35 := (ha 35).trans h6
    have h4 := (show (fun y _ => y = .int .i64 (Cr.sum (Bt.encB x) : Nat)) (u 4) w1 from h4)
    dsimp only at h4
    clear ha h2 h6
    rw [h4] at e33
    have hsm : (p.sum : Int) = (Cr.sum (Bt.encB x) : Nat) := by rw [HSM.out]
    go_simp
    refine hK _ ?_
    rfl
  refine Lo.runv 9 rfl rfl [2, 7] (.bool false) (by kernel_rfl) (fun u w1 hR hF => ?_) (Turn.refl _) ?_
  · obtain ⟨h2, h7, -⟩ := hF
    refine ⟨rfl, fun a ha K hK => ?_⟩
    have e31 := (ha 31).trans h2
    have e36 := (ha 36).trans h7
    clear ha h2 h7
    go_simp
    refine hK _ ?_
    rfl
  refine Lo.done [8] (fun u w1 hRd hSd hF => ?_)
  clear hSd
  obtain ⟨f8, -⟩ := hF
  have d8 : u 8 = _ := f8
  clear f8
  simp only [putFrom, Act.put, List.setIfInBounds_toArray, List.set_cons_succ, List.set_cons_zero, Nat.zero_add, Nat.reduceAdd, d8]
  have HT5 := hide (HT4.out.same (((Turn.refl [] _).drew).same hRd))
  have HX5 := hide ((((Turn.refl [] _).drew).same hRd).heap HX4.out (by simp))
  have HR5 := hide ((((Turn.refl [] _).drew).same hRd).heap HR4.out (by simp))
  have HREC5 := hide (HREC4.out.still (((Turn.refl [] _).drew).same hRd))
  clear d8 hRd
  have y0 : w1.cell? ⟨w.heap.size + 1, 0, none⟩ = some (.int .i64 0) := by simpa using cell_of HR5.out 0
  have y1 : w1.cell? ⟨w.heap.size + 1, 1, none⟩ = some (.int .i64 0) := by simpa using cell_of HR5.out 1
  have y2 : w1.cell? ⟨w.heap.size + 1, 2, none⟩ = some (.slice none 0 0) := by simpa using cell_of HR5.out 2
  have q0 : w1.frozen? ⟨w.heap.size + 1, 0, none⟩ = false := frozen_of HR5.out 0
  have q1 : w1.frozen? ⟨w.heap.size + 1, 1, none⟩ = false := frozen_of HR5.out 1
  have q2 : w1.frozen? ⟨w.heap.size + 1, 2, none⟩ = false := frozen_of HR5.out 2
  have k0 : w1.cell? ⟨w3.heap.size, 0, none⟩ = some (.int .i64 x.base) := by simpa using cell_of HX5.out 0
  have k1 : w1.cell? ⟨w3.heap.size, 1, none⟩ = some (.int .i64 x.fin) := by simpa using cell_of HX5.out 1
  have k2 : w1.cell? ⟨w3.heap.size, 2, none⟩ = some (.slice ra x.recs.length rc) := by simpa using cell_of HX5.out 2
  have z3 := lt_of_heap HX5.out
  have z4 := lt_of_heap HR5.out
  go_wp2
  have hy := heap_set (heap_set (heap_set HR5.out 0 (.int .i64 x.base)) 1 (.int .i64 x.fin)) 2 (.slice ra x.recs.length rc)
  have hld := load_bat (by simpa using hy)
  have ht : Turn [w.heap.size + 1] w1 (((w1.setCell ⟨w.heap.size + 1, 0, none⟩ (.int .i64 x.base)).setCell ⟨w.heap.size + 1, 1, none⟩ (.int .i64 x.fin)).setCell ⟨w.heap.size + 1, 2, none⟩ (.slice ra x.recs.length rc)) :=
    (((Turn.refl _ _).setCell (.inl (by simp)) _).setCell (.inl (by simp)) _).setCell (.inl (by simp)) _
  refine bodyPost_ret (v := .tuple #[.agg #[.int .i64 x.base, .int .i64 x.fin, .slice ra x.recs.length rc], .nilIface]) (by simp [results, Tryz.results104, asAddr, hld, Result.andThen]) rfl ⟨_, rfl, ?_, HFR.out, HT5.out.trans ht (fun k hk => .inr (by simp at hk; omega))⟩
  have hb2 := lt_of_heap HR2.out
  refine (HREC5.out.kept ht (fun k hk hm => ?_)).base_le HT2.out.size
  simp only [List.mem_singleton] at hm
  subst hm
  have := (HREC5.out.lt _ hk).1
  omega
theorem batch_any1 (w : World) (base d : Nat) (F : List Nat) (A : DA) (sb : Nat) (sv : Value) (file : ByteArray) (b0 : Int) (ps : List Pl) (h : Both w base d F A sb sv file b0 ps) (hfs : file.size ≤ maxLen) (f : Dk.FA) (hf : A.file file.data.toList = some f)
    (p : Pl) (x : Bt.Bat) (hx : Bt.encErr x = 0) (hrd : Dk.readL f.bytes p.at p.size = Bt.encB x) (hsm : p.sum = Cr.sum (Bt.encB x)) (hps : p.size ≤ 1099511627776) :
    Calls Tryz.prog 104 #[.pointer (some ⟨sb, 0, none⟩), plV p] w fun e w' => ∃ rv, e = .returned (.tuple #[.agg #[.int .i64 x.base, .int .i64 x.fin, rv], .nilIface]) ∧ RecsAt w' rv x.recs ∧ Turn [] w w' ∧ (x.recs ≠ [] → ∀ k ∈ rv.ownBlock, w.heap.size ≤ k) :=
  (batch_own w base d F A sb sv file b0 ps h hfs f hf p x hx hrd hsm hps).mono fun e w' ⟨rv, h1, h2, h3, h4⟩ => ⟨rv, h1, RecRow.recs (base := w.heap.size) h2 h3, h4, fun _ k hk => (h2.lt k hk).1⟩
end Go.Proofs.YthbhfhagbaommaaGreatDoor.Sg

/- (*segment.Segment).Read. -/
namespace Go.Proofs.YthbhfhagbaommaaGreatDoor.Sg
open Go.RowKit Go.Maps
set_option maxRecDepth 100000
set_option linter.unusedSimpArgs false
set_option linter.unusedVariables false
attribute [local go_sem] Oper.semAt_some
open Dk (DA DiskAt Parts Did errR errV)

/-- A batch, and the slice of its records. -/
structure BV where
  x : Bt.Bat
  a : Option Addr
  n : Nat
  c : Nat
def BV.sl (y : BV) : Value := .slice y.a y.n y.c
def batC (y : BV) : List Value := [.int .i64 y.x.base, .int .i64 y.x.fin, .slice y.a y.n y.c]
theorem batC_len : ∀ y, (batC y).length = 3 := fun _ => rfl
/-- A row of batches, each with its records. -/
structure BRow (w : World) (base : Nat) (lv : Value) (ys : List BV) : Prop where
  row : GRow 70 3 batC w base lv ys
  recs : ∀ y ∈ ys, RecsAt w y.sl y.x.recs
  own : ∀ y ∈ ys, y.x.recs ≠ [] → ∀ k ∈ y.sl.ownBlock, base ≤ k
  sep : ∀ y ∈ ys, y.x.recs ≠ [] → ∀ k ∈ y.sl.ownBlock, k ∉ lv.ownBlock
theorem BRow.nil (w : World) (base : Nat) : BRow w base (.slice none 0 0) [] := ⟨.inl ⟨rfl, rfl⟩, by simp, by simp, by simp⟩
theorem BRow.still {w w' : World} {base : Nat} {lv : Value} {ys : List BV} (h : BRow w base lv ys) (ht : Turn [] w w') : BRow w' base lv ys := ⟨h.row.still ht, fun y hy => (h.recs y hy).still ht, h.own, h.sep⟩
theorem Tryz.infoBa : (Tryz.prog.info? 70).map (fun i => (i.zero, i.size, i.bytes)) = some (some (.agg #[.int .i64 0, .int .i64 0, .slice none 0 0]), 3, 40) := by kernel_rfl
theorem app_bat (w : World) (base : Nat) (v : Value) (xs : List BV) (x : BV) (k : Nat) (hrow : GRow 70 3 batC w base v xs) (hk : w.heap[k]? = some (.cells (batC x).toArray 70 (0, 0))) (hlen : xs.length ≤ 1000000) (hbase : base ≤ w.heap.size) :
    ∃ v' w', (Builtin.append_ #[100, 100] 100 #[v, .slice (some ⟨k, 0, none⟩) 1 1]).run Tryz.prog w = .ok v' w' ∧ GRow 70 3 batC w' base v' (xs ++ [x]) ∧ Turn v.ownBlock.toList w w' ∧ (∀ j ∈ v'.ownBlock, j ∈ v.ownBlock ∨ w.heap.size ≤ j) := by
  obtain ⟨i, hi, e⟩ := Option.map_eq_some_iff.1 Tryz.infoBa
  simp only [Prod.mk.injEq] at e
  exact run_append_g (P := Tryz.prog) 100 100 Tryz.underlying100 i _ hi e.1 (by rfl) e.2.1 (by omega) batC_len (fun x u hu => by simp [batC] at hu; rcases hu with rfl | rfl | rfl <;> rfl) w base v xs x k hrow hk hlen hbase

/-- How many of the batches from one on a read tells. -/
def Sel (most : Int) (zs : List Bt.Bat) (k : Nat) : Prop := k ≤ zs.length ∧ (∀ j, 1 ≤ j → j < k → ((flat (zs.take (j + 1))).length : Int) ≤ most) ∧ (k < zs.length → 0 < k ∧ most < ((flat (zs.take (k + 1))).length : Int))
def finAbove (xs : List Bt.Bat) (from' : Int) (k : Nat) : Bool := match xs[k]? with
  | some x => decide (from' < x.fin)
  | none => true
theorem chain_fin : ∀ {xs : List Bt.Bat} {b : Int}, Chain b xs → ∀ x ∈ xs, b < x.fin
  | x :: r, b, h, y, hy => by
    have h1 := Bt.chk_ok (Bt.encErr_ok h.1).1
    have h2 := h.2.1
    rcases List.mem_cons.1 hy with rfl | hy
    · omega
    · have := chain_fin h.2.2 y hy; omega
theorem fin_mono : ∀ {xs : List Bt.Bat} {b : Int}, Chain b xs → ∀ (from' : Int) (i j : Nat), i ≤ j → finAbove xs from' i = true → finAbove xs from' j = true
  | [], b, h, fr, i, j, hij, hi => by simp [finAbove]
  | x :: r, b, h, fr, i, j, hij, hi => by
    cases j with
    | zero => obtain rfl : i = 0 := by omega
              exact hi
    | succ j =>
      cases i with
      | succ i =>
        have := fin_mono h.2.2 fr i j (by omega) (by simpa [finAbove] using hi)
        simpa [finAbove] using this
      | zero =>
        simp only [finAbove, List.getElem?_cons_zero, decide_eq_true_eq] at hi
        simp only [finAbove, List.getElem?_cons_succ]
        cases hr : r[j]? with
        | none => rfl
        | some y => have := chain_fin h.2.2 y (List.mem_of_getElem? hr); simp; omega
theorem least_exists (f : Nat → Bool) (hm : ∀ i j, i ≤ j → f i = true → f j = true) : ∀ n, ∃ m, Least n f m
  | 0 => ⟨0, Nat.le_refl _, fun i h => absurd h (Nat.not_lt_zero _), fun i _ h => absurd h (Nat.not_lt_zero _)⟩
  | n + 1 => by
    obtain ⟨m, h1, h2, h3⟩ := least_exists f hm n
    cases hf : f n with
    | true => exact ⟨m, by omega, h2, fun i hi hn => by
        by_cases h : i < n
        · exact h3 i hi h
        · obtain rfl : i = n := by omega
          exact hf⟩
    | false =>
      refine ⟨n + 1, Nat.le_refl _, fun i hi => ?_, fun i hi hn => absurd hi (by omega)⟩
      cases hfi : f i with
      | false => rfl
      | true => have := hm i n (by omega) hfi; rw [hf] at this; cases this
theorem least_unique {n : Nat} {f : Nat → Bool} {m m' : Nat} (h : Least n f m) (h' : Least n f m') : m = m' := by
  rcases Nat.lt_trichotomy m m' with h1 | h1 | h1
  · have a := h'.2.1 m h1
    have b := h.2.2 m (Nat.le_refl _) (by have := h'.1; omega)
    rw [a] at b; cases b
  · exact h1
  · have a := h.2.1 m' h1
    have b := h'.2.2 m' (Nat.le_refl _) (by have := h.1; omega)
    rw [a] at b; cases b
theorem readL_at {xs : List Bt.Bat} {k : Nat} (hk : k < xs.length) : Dk.readL (flat xs) (flat (xs.take k)).length (Bt.encB xs[k]).length = Bt.encB xs[k] := by
  have e : flat xs = flat (xs.take k) ++ (Bt.encB xs[k] ++ flat (xs.drop (k + 1))) := by
    have e : flat xs = flat (xs.take k) ++ flat (xs.drop k) := by rw [← flat_append, List.take_append_drop]
    rw [e, List.drop_eq_getElem_cons hk]
    rfl
  have hp := encB_pos xs[k]
  have hl := congrArg List.length e
  rw [List.length_append, List.length_append] at hl
  unfold Dk.readL
  rw [if_neg (by omega)]
  conv => lhs; rw [e]
  simp
def advP (a : Option Addr) (n c : Nat) : Option Addr := if c = n then a else a.map (·.add (n * 5))
theorem run_fromP (a : Option Addr) (l c n : Nat) (hn : n ≤ l) (w : World) : (Instr.slice 94 (.slice a l c) (some (.int .i64 (n : Int))) none none).run Tryz.prog w = .ok (.slice (advP a n c) (l - n) (c - n)) w := by
  have h := sizePl w
  simp [Instr.slice, run_underlying Tryz.underlying94, Instr.sliceBounds, run_sliceBound, h, Result.andThen, hn, advP]

/-- A row of batches, each with records of its own, in rows apart from each other. -/
structure BRowS (w : World) (base : Nat) (lv : Value) (ys : List BV) : Prop where
  row : GRow 70 3 batC w base lv ys
  recs : ∀ y ∈ ys, GRow 42 6 recC w base y.sl y.x.recs
  ok : ∀ y ∈ ys, ∀ r ∈ y.x.recs, RecOk r
  apart : ys.Pairwise (fun a b => ∀ k ∈ a.sl.ownBlock, k ∉ b.sl.ownBlock)
theorem gkind {α : Type} {T : TypeId} {n : Nat} {enc : α → List Value} {w : World} {base : Nat} {sv : Value} {xs : List α} (h : GRow T n enc w base sv xs) : ∀ k ∈ sv.ownBlock, ∃ cs, w.heap[k]? = some (.cells cs T (0, 0)) := by
  intro k hk
  rcases h with ⟨rfl, -⟩ | ⟨g, cap, cur, rfl, -, hg, -⟩
  · simp [Value.ownBlock] at hk
  · simp [Value.ownBlock] at hk; subst hk; exact ⟨_, hg⟩
theorem gsep {w : World} {base base' : Nat} {lv sv : Value} {ys : List BV} {rs : List Bt.Rec} (h : GRow 70 3 batC w base lv ys) (hr : GRow 42 6 recC w base' sv rs) : ∀ k ∈ sv.ownBlock, k ∉ lv.ownBlock := by
  intro k hk hm
  obtain ⟨c1, e1⟩ := gkind h k hm
  obtain ⟨c2, e2⟩ := gkind hr k hk
  rw [e1] at e2
  simp at e2
theorem BRowS.toB {w : World} {base : Nat} {lv : Value} {ys : List BV} (h : BRowS w base lv ys) : BRow w base lv ys :=
  ⟨h.row, fun y hy => RecRow.recs (base := base) (h.recs y hy) (h.ok y hy), fun y hy _ k hk => ((h.recs y hy).lt k hk).1, fun y hy _ k hk => gsep h.row (h.recs y hy) k hk⟩
theorem BRowS.nil (w : World) (base : Nat) : BRowS w base (.slice none 0 0) [] := ⟨.inl ⟨rfl, rfl⟩, by simp, by simp, List.Pairwise.nil⟩
theorem BRowS.still {w w' : World} {base : Nat} {lv : Value} {ys : List BV} (h : BRowS w base lv ys) (ht : Turn [] w w') : BRowS w' base lv ys := ⟨h.row.still ht, fun y hy => (h.recs y hy).still ht, h.ok, h.apart⟩
set_option maxHeartbeats 8000000 in
theorem read_own (w : World) (base d : Nat) (F : List Nat) (A : DA) (sb : Nat) (sv : Value) (file : ByteArray) (b0 : Int) (xs : List Bt.Bat) (h : Both w base d F A sb sv file b0 (pls 0 (-1) xs)) (hfs : file.size ≤ maxLen) (f : Dk.FA) (hf : A.file file.data.toList = some f) (hfb : f.bytes = flat xs) (hch : Chain b0 xs)
    (from' most : Int) (hmo : -9223372036854775808 ≤ most ∧ most ≤ 9223372036854775807) :
    Calls Tryz.prog 68 #[.pointer (some ⟨sb, 0, none⟩), .int .i64 from', .int .i64 most] w fun e w' => ∃ lv ys m k, e = .returned (.tuple #[lv, .nilIface]) ∧ Least xs.length (finAbove xs from') m ∧ BRowS w' w.heap.size lv ys ∧ ys.map (·.x) = (xs.drop m).take k ∧ Sel most (xs.drop m) k ∧ Turn [] w w' := by
  obtain ⟨m0, hm0⟩ := least_exists (finAbove xs from') (fun i j => fin_mono hch from' i j) xs.length
  have hfl := flat_len xs
  have hfsh := file_short h.disk hf
  rw [hfb] at hfsh
  obtain ⟨xa, xc, hsv, hxl, hxm⟩ := h.seg.row.form
  rw [pls_len] at hsv hxl
  have hpl := pls_len xs 0 (-1)
  subst hsv
  have HB := hide h
  have HF := hide hf
  have HFB := hide hfb
  have HCH := hide hch
  have HM0 := hide hm0
  have hsb := lt_of_heap h.seg.box
  have hm0l := hm0.1
  have hmf : ∀ (fn : Fn) (first cap : Array Value) (w : World), (Instr.makeFunc fn first cap).run Tryz.prog w = .ok (.func fn first cap) w := fun _ _ _ _ => rfl
  clear h hf hfb hch hm0
  go_enter Tryz.func68, Tryz.ntmps68
  go_wp2
  obtain ⟨w0, hw0⟩ : ∃ w0, w0 = w.alloc (.cells #[.int .i64 from'] 3) := ⟨_, rfl⟩
  rw [← hw0]
  have HFR : Hid (w0.heap[w.heap.size]? = some (.cells #[.int .i64 from'] 3 (0, 0))) := by show _ = _; rw [hw0]; exact heap_new w _
  have HT0 : Hid (Turn [] w w0) := by show Turn _ _ _; rw [hw0]; exact (Turn.refl [] w).alloc _
  clear hw0
  refine wp_region_loose (Turn []) (by kernel_rfl) (by kernel_rfl) (by kernel_rfl) (by kernel_rfl) rfl (Turn.refl _) (fun _ _ _ h k => h.same k) ?_
  apply Lo.runx 1 rfl rfl [] (by kernel_rfl) (Turn.refl _)
  apply Exists.intro; apply And.intro
  · intro u w1 hR hF
    clear hF
    refine ⟨rfl, fun a ha K hK => ?_⟩
    have e0 := ha 0
    conv at e0 => rhs; whnf
    clear ha
    go_simp
    refine hK _ ?_; rfl
  apply Lo.runx 2 rfl rfl [0] (by kernel_rfl) (Turn.refl _)
  apply Exists.intro; apply And.intro
  · intro u w1 hR hF
    obtain ⟨h0, -⟩ := hF
    refine ⟨rfl, fun a ha K hK => ?_⟩
    have e14 := (ha 14).trans h0
    clear ha h0
    go_simp
    refine hK _ ?_; rfl
  apply Lo.runx 3 rfl rfl [1] (by kernel_rfl) (Turn.refl _)
  apply Exists.intro; apply And.intro
  · intro u w1 hR hF
    obtain ⟨h1, -⟩ := hF
    refine ⟨rfl, fun a ha K hK => ?_⟩
    have e15 := (ha 15).trans h1
    clear ha h1
    go_simp
    refine hK _ ?_; rfl
  apply Lo.runx 4 rfl rfl [2] (by kernel_rfl) (Turn.refl _)
  apply Exists.intro; apply And.intro
  · intro u w1 hR hF
    obtain ⟨h2, -⟩ := hF
    refine ⟨rfl, fun a ha K hK => ?_⟩
    have e16 := (ha 16).trans h2
    clear ha h2
    have hS := HB.out.seg.still (HT0.out.same (((Turn.refl [] _).drew).same hR))
    have c3 := hS.c3
    have z1 := lt_of_heap hS.box
    go_simp
    refine hK _ ?_; rfl
  apply Lo.runx 5 rfl rfl [] (by kernel_rfl) (Turn.refl _)
  apply Exists.intro; apply And.intro
  · intro u w1 hR hF
    clear hF
    refine ⟨rfl, fun a ha K hK => ?_⟩
    have e0 := ha 0
    conv at e0 => rhs; whnf
    clear ha
    go_simp
    refine hK _ ?_; rfl
  refine Lo.runv 6 rfl rfl [] (.func (.func 103) #[] #[.pointer (some ⟨w.heap.size, 0, none⟩)]) (by kernel_rfl) (fun u w1 hR hF => ?_) (Turn.refl _) ?_
  · clear hF
    refine ⟨rfl, fun a ha K hK => ?_⟩
    have e4 := ha 4
    conv at e4 => rhs; whnf
    clear ha
    go_simp
    refine hK _ ?_
    rfl
  refine Lo.run 7 rfl rfl [4, 5] (fun y _ => y = .int .i64 (m0 : Nat)) (by kernel_rfl) (fun x w w' h hR => ?_) (fun _ _ h => h) (fun u w1 hR hF => ?_) ?_
  · exact h
  · obtain ⟨h4, h5, -⟩ := hF
    refine ⟨rfl, fun a ha K hK => ?_⟩
    have e18 := (ha 18).trans h4
    have e19 := (ha 19).trans h5
    clear ha h4 h5
    go_simp
    have hw1 := (((Turn.refl [] w0).drew).same hR)
    refine (first_any _ base d sb _ file b0 _ (HB.out.seg.still (HT0.out.same hw1)) (by omega) 103 w.heap.size enter_read1 (finAbove xs from') (fun i j => fin_mono HCH.out from' i j) (fun Z hZ k hk => ?_)).mono ?_
    · have hk' : k < xs.length := by rwa [hpl] at hk
      have e1 := pls_at xs hk'
      rw [List.getElem?_eq_getElem hk] at e1
      have e2 := Option.some.inj e1
      rw [e2]
      have e3 : finAbove xs from' k = decide (from' < xs[k].fin) := by simp [finAbove, List.getElem?_eq_getElem hk']
      rw [e3]
      exact read1_any Z _ w.heap.size from' (hZ.heap (hw1.heap HFR.out (by simp)) (by simp))
    rintro e w2 ⟨⟨m, rfl, hm⟩, ht2⟩
    rw [hpl] at hm
    exact hK _ _ (by rw [least_unique hm HM0.out]) ht2
  refine Lo.runv 8 rfl rfl [3, 6] (.slice (advP xa m0 xc) (xs.length - m0) (xc - m0)) (by kernel_rfl) (fun u w1 hR hF => ?_) (Turn.refl _) ?_
  · obtain ⟨h3, h6, -⟩ := hF
    refine ⟨rfl, fun a ha K hK => ?_⟩
    have e17 := (ha 17).trans h3
    have e20 : a.tmps.getD 20 undef = u 6 := ha 20
    have h6 := (show (fun y _ => y = .int .i64 (m0 : Nat)) (u 6) w1 from h6)
    dsimp only at h6
    clear ha h3
    rw [h6] at e20
    have hsl : ∀ w, (Instr.slice 94 (.slice xa xs.length xc) (some (.int .i64 (m0 : Int))) none none).run Tryz.prog w = .ok (.slice (advP xa m0 xc) (xs.length - m0) (xc - m0)) w := fun w => run_fromP xa xs.length xc m0 hm0l w
    go_simp
    refine hK _ ?_
    rfl
  refine Lo.runv 9 rfl rfl [7] (.int .i64 ((xs.length - m0 : Nat) : Int)) (by kernel_rfl) (fun u w1 hR hF => ?_) (Turn.refl _) ?_
  · obtain ⟨h7, -⟩ := hF
    refine ⟨rfl, fun a ha K hK => ?_⟩
    have e21 := (ha 21).trans h7
    clear ha h7
    go_simp
    refine hK _ ?_
    rfl
  apply Lo.runx 10 rfl rfl [] (by kernel_rfl) (Turn.refl _)
  apply Exists.intro; apply And.intro
  · intro u w1 hR hF
    clear hF
    refine ⟨rfl, fun a ha K hK => ?_⟩
    clear ha
    go_simp
    refine hK _ ?_; rfl
  refine Lo.done [7, 8, 9] (fun u w1 hRd hSd hF => ?_)
  clear hSd
  obtain ⟨f7, f8, f9, -⟩ := hF
  have d7 : u 7 = _ := f7
  have d8 : u 8 = _ := f8
  have d9 : u 9 = _ := f9
  clear f7 f8 f9
  simp only [putFrom, Act.put, List.setIfInBounds_toArray, List.set_cons_succ, List.set_cons_zero, Nat.zero_add, Nat.reduceAdd, d7, d8, d9]
  have HT1 := hide (HT0.out.same (((Turn.refl [] w0).drew).same hRd))
  obtain ⟨nz, hnz⟩ : ∃ nz, nz = xs.length - m0 := ⟨_, rfl⟩
  rw [← hnz]
  have HNZ := hide hnz
  obtain ⟨zs, hzs⟩ : ∃ zs, zs = xs.drop m0 := ⟨_, rfl⟩
  have HZS := hide hzs
  have hzl : zs.length = nz := by rw [hzs, List.length_drop, hnz]
  have hzf : (flat zs).length ≤ (flat xs).length := by
    have e : flat xs = flat (xs.take m0) ++ flat zs := by rw [hzs, ← flat_append, List.take_append_drop]
    have := congrArg List.length e
    rw [List.length_append] at this
    omega
  have htf : ∀ k, (flat (zs.take k)).length ≤ (flat zs).length := fun k => by
    have e : flat zs = flat (zs.take k) ++ flat (zs.drop k) := by rw [← flat_append, List.take_append_drop]
    have := congrArg List.length e
    rw [List.length_append] at this
    omega
  have HTF := hide htf
  have hwl := HT1.out.size
  clear d7 d8 d9 hRd hnz hzs htf
  go_wp2
  go_loopw [8, 9, 23] (fun lv s i wr => ∃ (k : Nat) (ys : List BV), k ≤ nz ∧ i = .int .i64 k ∧ s = .int .i64 ((flat (zs.take k)).length : Nat) ∧ BRowS wr w.heap.size lv ys ∧ ys.map (·.x) = zs.take k ∧ (∀ j, 1 ≤ j → j < k → ((flat (zs.take (j + 1))).length : Int) ≤ most) ∧ Turn [] w wr) (fun _ _ i _ => nz - (intOf i).toNat)
  case atStart => exact ⟨0, [], Nat.zero_le _, rfl, rfl, BRowS.nil _ _, rfl, fun j h1 h2 => absurd h2 (by omega), HT1.out⟩
  case round =>
    obtain ⟨k, ys, hk, rfl, rfl, hbr, hym, hjs, ht⟩ := hrel
    obtain ⟨la, lc, hlv, hll, hlm⟩ := hbr.row.form
    subst hlv
    have hyl : ys.length = k := by have := congrArg List.length hym; rw [List.length_map, List.length_take] at this; omega
    have HBR := hide hbr
    have HYM := hide hym
    have HJS := hide hjs
    have HT := hide ht
    have hkf := HTF.out k
    clear hbr hym hjs ht
    by_cases hlt : k < nz
    · have hj : m0 + k < xs.length := by have := HNZ.out; omega
      obtain ⟨x, hx⟩ : ∃ x, x = xs[m0 + k] := ⟨_, rfl⟩
      have hkz : k < zs.length := by rw [hzl]; exact hlt
      have hzk : zs[k]'hkz = x := by rw [hx]; simp [HZS.out]
      have hflk : (flat (zs.take (k + 1))).length = (flat (zs.take k)).length + (Bt.encB x).length := by
        rw [List.take_succ_eq_append_getElem hkz, flat_append, List.length_append, flat_one, hzk]
      have hps : (pls 0 (-1) xs)[m0 + k]? = some ⟨(flat (xs.take (m0 + k))).length, (Bt.encB x).length, Cr.sum (Bt.encB x), x.fin, latOf (-1) (xs.take (m0 + k + 1))⟩ := by rw [hx]; exact pls_at xs hj
      have hj' : m0 + k < (pls 0 (-1) xs).length := by omega
      rw [List.getElem?_eq_getElem hj'] at hps
      obtain ⟨p, hp⟩ : ∃ p : Pl, p = ⟨(flat (xs.take (m0 + k))).length, (Bt.encB x).length, Cr.sum (Bt.encB x), x.fin, latOf (-1) (xs.take (m0 + k + 1))⟩ := ⟨_, rfl⟩
      rw [← hp] at hps
      have hps2 := Option.some.inj hps
      obtain ⟨g, cap, e, hc, _⟩ := (HB.out.seg.still HT.out).row.at plC_len hj'
      rw [hps2, hpl] at *
      simp only [Value.slice.injEq, true_and] at e
      obtain ⟨rfl, rfl⟩ := e
      have hadv : advP (some ⟨g, 0, none⟩) m0 xc = some ⟨g, m0 * 5, none⟩ := by
        unfold advP
        rw [if_neg (by omega)]
        simp [addr_add]
      rw [hadv]
      have hml : (m0 + k) * 5 = m0 * 5 + k * 5 := Nat.add_mul _ _ _
      rw [hml] at hc
      have k0 : wr.cell? ⟨g, m0 * 5 + k * 5, none⟩ = some (.int .i64 p.at) := hc 0 (by omega)
      have k1 : wr.cell? ⟨g, m0 * 5 + k * 5 + 1, none⟩ = some (.int .i64 p.size) := hc 1 (by omega)
      have k2 : wr.cell? ⟨g, m0 * 5 + k * 5 + 2, none⟩ = some (.int .i64 p.sum) := hc 2 (by omega)
      have k3 : wr.cell? ⟨g, m0 * 5 + k * 5 + 3, none⟩ = some (.int .i64 p.fin) := hc 3 (by omega)
      have k4 : wr.cell? ⟨g, m0 * 5 + k * 5 + 4, none⟩ = some (.int .i64 p.latest) := hc 4 (by omega)
      have hpsz : p.size = (Bt.encB x).length := by rw [hp]
      have hsum : ((flat (zs.take k)).length : Int) + (p.size : Int) = ((flat (zs.take (k + 1))).length : Nat) := by rw [hpsz, hflk]; omega
      have hkf1 := HTF.out (k + 1)
      have hkl : (k : Int) < nz := by omega
      have HP := hide hp
      have HX := hide hx
      have HZK := hide hzk
      have HSUM := hide hsum
      have HFLK := hide hflk
      have HPS := hide hpsz
      clear hp hx hzk hc hadv hml hps hps2 hj' hflk hpsz
      by_cases hbrk : 0 < k ∧ most < ((flat (zs.take (k + 1))).length : Int)
      · obtain ⟨hb1, hb2⟩ := hbrk
        have hb1' : (0 : Int) < (ys.length : Int) := by omega
        have HYL := hide hyl
        have HB1 := hide hb1
        have HB2 := hide hb2
        clear hyl hpl hb1
        go_wp2
        refine bodyPost_ret (v := .tuple #[.slice la ys.length lc, .nilIface]) (by simp [results, Tryz.results68]) rfl ⟨_, ys, m0, k, rfl, HM0.out, HBR.out.still ((Turn.refl [] wr).alloc _), ?_, ?_, HT.out.alloc _⟩
        · rw [HYM.out, ← HZS.out]
        · rw [← HZS.out]
          exact ⟨by omega, HJS.out, fun _ => ⟨HB1.out, HB2.out⟩⟩
      · have hcases : (¬ (0 : Int) < (ys.length : Int)) ∨ ((0 : Int) < (ys.length : Int) ∧ ¬ most < ((flat (zs.take (k + 1))).length : Int)) := by
          by_cases h0 : 0 < k
          · exact .inr ⟨by omega, fun h => hbrk ⟨h0, h⟩⟩
          · exact .inl (by omega)
        have HYL := hide hyl
        have HBRK := hide hbrk
        clear hyl hpl hbrk
        rcases hcases with hcs | ⟨hcs, hcs2⟩
        all_goals
          have hta : Turn [] w (wr.alloc (.cells #[.int .i64 p.at, .int .i64 p.size, .int .i64 p.sum, .int .i64 p.fin, .int .i64 p.latest] 120)) := HT.out.alloc _
          have hba := batch_own _ base d F A sb _ file b0 _ (HB.out.still hta) hfs f HF.out p x (by rw [HX.out]; exact HCH.out.mem _ (List.getElem_mem _)) (by rw [HFB.out, HP.out, HX.out]; exact readL_at hj) (by rw [HP.out]) (by rw [HPS.out]; have := HFLK.out; omega)
          rw [show plV p = .agg #[.int .i64 p.at, .int .i64 p.size, .int .i64 p.sum, .int .i64 p.fin, .int .i64 p.latest] from rfl] at hba
          have HBA := hide hba
          have HTA := hide hta
          clear hba hta
          go_wp2_with fail
          refine HBA.out.mono ?_
          rintro e w4 ⟨rv, rfl, hrec, hfr, ht4⟩
          obtain ⟨ra, rc, hrv, -⟩ := hrec.form
          subst hrv
          have h46 : Turn [] w4 ((w4.alloc (.cells #[.int .i64 x.base, .int .i64 x.fin, .slice ra x.recs.length rc] 70)).alloc (.cells #[.int .i64 x.base, .int .i64 x.fin, .slice ra x.recs.length rc] 70)) := ((Turn.refl [] w4).alloc _).alloc _
          have hr4 : Turn [] wr w4 := ((Turn.refl [] wr).alloc _).same ht4
          have hk6 : ((w4.alloc (.cells #[.int .i64 x.base, .int .i64 x.fin, .slice ra x.recs.length rc] 70)).alloc (.cells #[.int .i64 x.base, .int .i64 x.fin, .slice ra x.recs.length rc] 70)).heap[w4.heap.size + 1]? = some (.cells (batC ⟨x, ra, x.recs.length, rc⟩).toArray 70 (0, 0)) := by
            have := heap_new (w4.alloc (.cells #[.int .i64 x.base, .int .i64 x.fin, .slice ra x.recs.length rc] 70)) (.cells #[.int .i64 x.base, .int .i64 x.fin, .slice ra x.recs.length rc] 70)
            rwa [World.size_alloc] at this
          obtain ⟨v7, w7, hr7, hrow7, ht7, hown7⟩ := app_bat _ w.heap.size (.slice la ys.length lc) ys ⟨x, ra, x.recs.length, rc⟩ (w4.heap.size + 1) ((HBR.out.row.still hr4).still h46) hk6 (by have := HYL.out; omega) (by have := HTA.out.size; have := ht4.size; have := HT.out.size; simp at *; omega)
          have HREC := hide (hrec.still h46)
          have HLT4 := hide hrec.lt
          have HFR := hide hfr
          have HOWN7 := hide hown7
          have HS6 := hide h46.size
          have HR7 := hide hr7
          have HROW7 := hide hrow7
          have HT7 := hide ht7
          have HW6 := hide (hr4.same h46)
          have HTA' := hide ((HT.out.same (hr4.same h46)).trans ht7 (fun k hk => .inr (by have := (HBR.out.row.lt k (by simpa using hk)).1; omega)))
          clear HBA hrec ht4 h46 hr4 hk6 hr7 hrow7 ht7 hown7 hfr
          go_wp2_with (at_builtin; go_must (refine wpList_append_told rfl rfl rfl rfl HR7.out ?_))
          have hwr := HT.out.size
          have hw46 := HS6.out
          have hbl := HBR.out.row.lt
          have hta2 := HTA.out.size
          have hnb : ∀ k ∈ (Value.slice la ys.length lc).ownBlock, k < wr.heap.size := fun k hk => (hbl k hk).2
          have hrw := HREC.out.lt
          refine ⟨⟨k + 1, ys ++ [⟨x, ra, x.recs.length, rc⟩], hlt, by go_num, rfl, ⟨HROW7.out, fun y hy => ?_, fun y hy => ?_, ?_⟩, ?_, fun j h1 h2 => ?_, HTA'.out⟩, ?_⟩
          · rcases List.mem_append.1 hy with hy | hy
            · exact ((HBR.out.recs y hy).still HW6.out).kept HT7.out (fun k hk hm => gsep HBR.out.row (HBR.out.recs y hy) k hk (by simpa using hm))
            · obtain rfl := List.mem_singleton.1 hy
              refine (HREC.out.kept HT7.out (fun k hk hm => ?_)).base_le (by simp; omega)
              have h1 := (hrw k hk).1
              have h2 := hnb k (by simpa using hm)
              simp at h1; omega
          · rcases List.mem_append.1 hy with hy | hy
            · exact HBR.out.ok y hy
            · obtain rfl := List.mem_singleton.1 hy
              exact HFR.out
          · rw [List.pairwise_append]
            refine ⟨HBR.out.apart, by simp, fun y hy z hz k hk hm => ?_⟩
            obtain rfl := List.mem_singleton.1 hz
            have h1 := ((HBR.out.recs y hy).lt k hk).2
            have h2 := (hrw k hm).1
            simp at h2; omega
          · rw [List.map_append, HYM.out, List.take_succ_eq_append_getElem hkz, HZK.out]; rfl
          · by_cases hjk : j < k
            · exact HJS.out j h1 hjk
            · obtain rfl : j = k := by omega
              first
              | exact hcs2
              | exact absurd HYL.out (by omega)
          · simp only [intOf]; omega
    · obtain rfl : k = nz := by omega
      go_wp2
      refine bodyPost_ret (v := .tuple #[.slice la ys.length lc, .nilIface]) (by simp [results, Tryz.results68]) rfl ⟨_, ys, m0, zs.length, rfl, HM0.out, HBR.out, ?_, ?_, HT.out⟩
      · rw [HYM.out, ← HZS.out, hzl]
      · rw [← HZS.out]
        exact ⟨Nat.le_refl _, fun j h1 h2 => HJS.out j h1 (by omega), fun h => absurd h (by omega)⟩
theorem read_any (w : World) (base d : Nat) (F : List Nat) (A : DA) (sb : Nat) (sv : Value) (file : ByteArray) (b0 : Int) (xs : List Bt.Bat) (h : Both w base d F A sb sv file b0 (pls 0 (-1) xs)) (hfs : file.size ≤ maxLen) (f : Dk.FA) (hf : A.file file.data.toList = some f) (hfb : f.bytes = flat xs) (hch : Chain b0 xs)
    (from' most : Int) (hmo : -9223372036854775808 ≤ most ∧ most ≤ 9223372036854775807) :
    Calls Tryz.prog 68 #[.pointer (some ⟨sb, 0, none⟩), .int .i64 from', .int .i64 most] w fun e w' => ∃ lv ys m k, e = .returned (.tuple #[lv, .nilIface]) ∧ Least xs.length (finAbove xs from') m ∧ BRow w' w.heap.size lv ys ∧ ys.map (·.x) = (xs.drop m).take k ∧ Sel most (xs.drop m) k ∧ Turn [] w w' :=
  (read_own w base d F A sb sv file b0 xs h hfs f hf hfb hch from' most hmo).mono fun e w' ⟨lv, ys, m, k, h1, h2, h3, h4, h5, h6⟩ => ⟨lv, ys, m, k, h1, h2, h3.toB, h4, h5, h6⟩
end Go.Proofs.YthbhfhagbaommaaGreatDoor.Sg

/- plog.since: the records of batches from an offset on. -/
namespace Go.Proofs.YthbhfhagbaommaaGreatDoor.Lg
open Go.RowKit Go.Maps
set_option maxRecDepth 100000
set_option linter.unusedSimpArgs false
set_option linter.unusedVariables false
attribute [local go_sem] Oper.semAt_some
open Sg (BRow BV batC batC_len)

/-- The records from an offset on. -/
def fromL (fr : Int) (rs : List Bt.Rec) : List Bt.Rec := rs.filter (fun r => decide (fr ≤ r.off))
def sinceL (fr : Int) (xs : List Bt.Bat) : List Bt.Rec := xs.flatMap (fun x => fromL fr x.recs)
theorem sinceL_snoc (fr : Int) (xs : List Bt.Bat) {k : Nat} (hk : k < xs.length) : sinceL fr (xs.take (k + 1)) = sinceL fr (xs.take k) ++ fromL fr xs[k].recs := by
  unfold sinceL
  rw [List.take_succ_eq_append_getElem hk, List.flatMap_append]
  simp
theorem fromL_snoc (fr : Int) (rs : List Bt.Rec) {k : Nat} (hk : k < rs.length) : fromL fr (rs.take (k + 1)) = fromL fr (rs.take k) ++ (if fr ≤ rs[k].off then [rs[k]] else []) := by
  unfold fromL
  rw [List.take_succ_eq_append_getElem hk, List.filter_append]
  simp only [List.filter_cons, List.filter_nil, decide_eq_true_eq]
theorem sinceL_le (fr : Int) : ∀ xs : List Bt.Bat, (sinceL fr xs).length ≤ (xs.flatMap (·.recs)).length
  | [] => by simp [sinceL]
  | x :: r => by
    have h := sinceL_le fr r
    unfold sinceL at h ⊢
    rw [List.flatMap_cons, List.flatMap_cons, List.length_append, List.length_append]
    have := List.length_filter_le (fun r : Bt.Rec => decide (fr ≤ r.off)) x.recs
    unfold fromL at *
    omega
theorem take_le (xs : List Bt.Bat) (k : Nat) (hk : k < xs.length) : ((xs.take k).flatMap (·.recs)).length + xs[k].recs.length ≤ (xs.flatMap (·.recs)).length := by
  have e : xs = xs.take k ++ xs[k] :: xs.drop (k + 1) := by rw [← List.drop_eq_getElem_cons hk, List.take_append_drop]
  have h : (xs.flatMap (·.recs)).length = ((xs.take k ++ xs[k] :: xs.drop (k + 1)).flatMap (·.recs)).length := congrArg (fun l : List Bt.Bat => (l.flatMap (·.recs)).length) e
  rw [h, List.flatMap_append, List.flatMap_cons, List.length_append, List.length_append]
  omega
set_option maxHeartbeats 8000000 in
theorem since_any (w : World) (base : Nat) (lv : Value) (ys : List BV) (h : BRow w base lv ys) (fr : Int) (hyl : ys.length ≤ 1000000) (hT : ((ys.map (·.x)).flatMap (·.recs)).length ≤ 900000) :
    Calls Tryz.prog 55 #[lv, .int .i64 fr] w fun e w' => ∃ ov, e = .returned ov ∧ GRow 42 6 recC w' w.heap.size ov (sinceL fr (ys.map (·.x))) ∧ Turn [] w w' := by
  obtain ⟨la, lc, hlv, hllc, hlcm⟩ := h.row.form
  subst hlv
  have hmx : maxLen = 9223372036854775807 := by simp [maxLen]
  rw [hmx] at hlcm
  have H := hide h
  obtain ⟨xs, hxs⟩ : ∃ xs, xs = ys.map (fun y : BV => y.x) := ⟨_, rfl⟩
  have hT' : (xs.flatMap (·.recs)).length ≤ 900000 := by rw [hxs]; exact hT
  have HTT := hide hT'
  have HXS := hide hxs
  obtain ⟨N, hN⟩ : ∃ N, N = ys.length := ⟨_, rfl⟩
  rw [← hN] at hllc hyl
  have HN := hide hN
  clear h hT hT'
  rw [← hN, ← hxs]
  clear hxs
  clear hN
  go_enter Tryz.func55, Tryz.ntmps55
  go_wp2
  go_loopw [5, 12] (fun ov kv wr => ∃ k : Nat, k ≤ N ∧ kv = .int .i64 k ∧ GRow 42 6 recC wr w.heap.size ov (sinceL fr (xs.take k)) ∧ Turn [] w wr) (fun _ kv _ => N - (intOf kv).toNat)
  case atStart => exact ⟨0, Nat.zero_le _, rfl, .inl ⟨rfl, by simp [sinceL]⟩, Turn.refl _ _⟩
  case round =>
    obtain ⟨k, hk, rfl, hrow, htw⟩ := hrel
    have HROW := hide hrow
    have HTW := hide htw
    obtain ⟨oa, oc, hov, -, -⟩ := hrow.form
    subst hov
    clear hrow htw
    by_cases hlt : k < N
    · have hky : k < ys.length := by rw [← HN.out]; exact hlt
      obtain ⟨g, cap, e, hc, -⟩ := (H.out.still HTW.out).row.at batC_len (j := k) hky
      rw [← HN.out] at e
      simp only [Value.slice.injEq, true_and] at e
      obtain ⟨rfl, rfl⟩ := e
      obtain ⟨y, hy⟩ : ∃ y, y = ys[k] := ⟨_, rfl⟩
      rw [← hy] at hc
      have c0 : wr.cell? ⟨g, k * 3, none⟩ = some (.int .i64 y.x.base) := hc 0 (by omega)
      have c1 : wr.cell? ⟨g, k * 3 + 1, none⟩ = some (.int .i64 y.x.fin) := hc 1 (by omega)
      have c2 : wr.cell? ⟨g, k * 3 + 2, none⟩ = some (.slice y.a y.n y.c) := hc 2 (by omega)
      have hrec : RecsAt w y.sl y.x.recs := H.out.recs y (by rw [hy]; exact List.getElem_mem _)
      obtain ⟨ra, rc, hyv, hrlc, hrcm, -⟩ := hrec.form
      obtain ⟨rs, hrs⟩ : ∃ rs, rs = y.x.recs := ⟨_, rfl⟩
      have hsl : y.a = ra ∧ y.n = rs.length ∧ y.c = rc := by
        unfold BV.sl at hyv
        simp only [Value.slice.injEq] at hyv
        rw [hrs]; exact hyv
      have hkx : k < xs.length := by rw [HXS.out, List.length_map]; exact hky
      have hxk : xs[k].recs = rs := by
        have e1 : xs[k]? = some y.x := by rw [HXS.out, List.getElem?_map, List.getElem?_eq_getElem hky, ← hy]; rfl
        rw [List.getElem?_eq_getElem hkx] at e1
        rw [Option.some.inj e1, hrs]
      have hsn := sinceL_snoc fr xs (k := k) hkx
      have htl := take_le xs k hkx
      rw [hxk] at hsn htl
      rw [hsl.1, hsl.2.1, hsl.2.2] at c2
      rw [hyv, ← hrs] at hrec
      rw [← hrs] at hrlc
      rw [hmx] at hrcm
      have hsL := sinceL_le fr (xs.take k)
      have HSN := hide hsn
      have HREC := hide hrec
      have hrt : rs.length ≤ 900000 := by have := HTT.out; omega
      have hacc : (sinceL fr (xs.take k)).length + rs.length ≤ 900000 := by have := HTT.out; omega
      obtain ⟨acc, hac⟩ : ∃ acc, acc = sinceL fr (xs.take k) := ⟨_, rfl⟩
      rw [← hac] at HROW hacc HSN ⊢
      have HAC := hide hac
      clear hkx hc hsn htl hsL hac hxk hsl hyv hrs hy hrec
      go_wp2
      go_loopw [5, 19] (fun ov jv wi => ∃ j : Nat, j ≤ rs.length ∧ jv = .int .i64 j ∧ GRow 42 6 recC wi w.heap.size ov (acc ++ fromL fr (rs.take j)) ∧ Turn [] w wi) (fun _ jv _ => rs.length - (intOf jv).toNat)
      case atStart => exact ⟨0, Nat.zero_le _, rfl, by simpa [fromL] using HROW.out.still ((Turn.refl [] wr).alloc _), HTW.out.alloc _⟩
      case round =>
        obtain ⟨j, hj, rfl, hrow, hti⟩ := hrel
        have HROI := hide hrow
        have HTI := hide hti
        obtain ⟨oa2, oc2, hov2, -, -⟩ := hrow.form
        subst hov2
        clear hrow hti
        by_cases hjl : j < rs.length
        · obtain ⟨p, rfl⟩ : ∃ p, ra = some p := by
            obtain ⟨a', c', e, -, -, -, h4⟩ := HREC.out
            simp only [Value.slice.injEq] at e
            obtain ⟨-, p, hp, -⟩ := h4 j hjl
            exact ⟨p, e.1.trans hp⟩
          obtain ⟨g0, g1, g2, g3, g4, g5⟩ := (HREC.out.still HTI.out).six hjl
          obtain ⟨r, hr⟩ : ∃ r, r = rs[j] := ⟨_, rfl⟩
          have hfs := fromL_snoc fr rs hjl
          have hfl : (fromL fr (rs.take j)).length ≤ j := by
            have := List.length_filter_le (fun r : Bt.Rec => decide (fr ≤ r.off)) (rs.take j)
            rw [List.length_take] at this
            unfold fromL
            omega
          rw [← hr] at g0 g1 g2 g3 g4 g5 hfs
          have HFS := hide hfs
          clear hr hfs
          by_cases hge : fr ≤ r.off
          · have hw7 : Turn [] wr ((wr.alloc (.cells #[.int .i64 r.off, .int .i64 r.time, .bool r.keyed, .string ⟨r.key.toArray⟩, .bool r.gone, .string ⟨r.value.toArray⟩] 42)).alloc (.cells #[.int .i64 r.off, .int .i64 r.time, .bool r.keyed, .string ⟨r.key.toArray⟩, .bool r.gone, .string ⟨r.value.toArray⟩] 42)) := ((Turn.refl [] wr).alloc _).alloc _
            have hk7 : ((wr.alloc (.cells #[.int .i64 r.off, .int .i64 r.time, .bool r.keyed, .string ⟨r.key.toArray⟩, .bool r.gone, .string ⟨r.value.toArray⟩] 42)).alloc (.cells #[.int .i64 r.off, .int .i64 r.time, .bool r.keyed, .string ⟨r.key.toArray⟩, .bool r.gone, .string ⟨r.value.toArray⟩] 42)).heap[wr.heap.size + 1]? = some (.cells (recC r).toArray 42 (0, 0)) := by
              have := heap_new (wr.alloc (.cells #[.int .i64 r.off, .int .i64 r.time, .bool r.keyed, .string ⟨r.key.toArray⟩, .bool r.gone, .string ⟨r.value.toArray⟩] 42)) (.cells #[.int .i64 r.off, .int .i64 r.time, .bool r.keyed, .string ⟨r.key.toArray⟩, .bool r.gone, .string ⟨r.value.toArray⟩] 42)
              rwa [World.size_alloc] at this
            obtain ⟨v7, w7, hr7, hrow7, ht7, -⟩ := run_append_rec _ w.heap.size (.slice oa2 (acc ++ fromL fr (rs.take j)).length oc2) (acc ++ fromL fr (rs.take j)) r (wr.heap.size + 1) (HROI.out.still hw7) hk7 (by rw [List.length_append]; omega) (by have := (HTI.out.same hw7).size; exact this)
            have HROW7 := hide hrow7
            have hown : ∀ q ∈ (Value.slice oa2 (acc ++ fromL fr (rs.take j)).length oc2).ownBlock.toList, w.heap.size ≤ q := fun q hq => (HROI.out.lt q (by simpa using hq)).1
            have HT7 := hide ((HTI.out.same hw7).trans ht7 (fun q hq => .inr (hown q hq)))
            have HR7 := hide hr7
            clear hw7 hk7 hr7 hrow7 ht7 hown hfl
            go_wp2_with (at_builtin; go_must (refine wpList_append_told rfl rfl rfl rfl HR7.out ?_))
            all_goals refine ⟨⟨j + 1, by omega, by go_num, ?_, HT7.out⟩, ?_⟩
            all_goals first | (simp only [intOf]; omega) | (rw [HFS.out, if_pos hge, ← List.append_assoc]; exact HROW7.out)
          · have HGE := hide hge
            clear hfl
            go_wp2
            all_goals refine ⟨⟨j + 1, by omega, by go_num, ?_, HTI.out.alloc _⟩, ?_⟩
            all_goals first | (simp only [intOf]; omega) | (rw [HFS.out, if_neg HGE.out, List.append_nil]; exact HROI.out.still ((Turn.refl [] wr).alloc _))
        · obtain rfl : j = rs.length := by omega
          rw [List.take_length] at HROI ⊢
          go_wp2
          all_goals refine ⟨⟨k + 1, by omega, by go_num, ?_, HTI.out⟩, ?_⟩
          all_goals first | (simp only [intOf]; omega) | (rw [HSN.out]; exact HROI.out)
    · obtain rfl : k = N := by omega
      have htk : xs.take k = xs := List.take_of_length_le (by rw [HXS.out, List.length_map, HN.out]; exact Nat.le_refl _)
      rw [htk] at HROW ⊢
      clear htk
      go_wp2
      go_ret
      exact ⟨_, rfl, HROW.out, HTW.out⟩
end Go.Proofs.YthbhfhagbaommaaGreatDoor.Lg

/- plog.read: the records from an offset on of a segment's Read; where there are none of those, of what is behind. -/
namespace Go.Proofs.YthbhfhagbaommaaGreatDoor.Lg
open Go.RowKit Go.Maps
set_option maxRecDepth 100000
set_option linter.unusedSimpArgs false
set_option linter.unusedVariables false
attribute [local go_sem] Oper.semAt_some
open Dk (DA DiskAt Parts Did errR errV)
open Sg (BRow BV batC batC_len Chain flat pls Both Least finAbove Sel chain_fin nextOf)

theorem recsErr_mem : ∀ {rs : List Bt.Rec} {lo hi : Int}, Bt.recsErr rs lo hi = 0 → ∀ r ∈ rs, lo ≤ r.off ∧ r.off < hi
  | [], _, _, _, r, hr => by simp at hr
  | q :: rs, lo, hi, h, r, hr => by
    unfold Bt.recsErr at h
    split at h
    · rename_i h0
      have h1 := Bt.recErr_ok h0
      rcases List.mem_cons.1 hr with rfl | hr
      · exact ⟨h1.1, h1.2.1⟩
      · have := recsErr_mem h r hr
        omega
    · rename_i h0
      exact absurd h h0
theorem bat_mem {x : Bt.Bat} (h : Bt.encErr x = 0) : ∀ r ∈ x.recs, x.base ≤ r.off ∧ r.off < x.fin := recsErr_mem (Bt.chk_ok (Bt.encErr_ok h).1).2.2.2.2.2
theorem bat_lt {x : Bt.Bat} (h : Bt.encErr x = 0) : x.base < x.fin := (Bt.chk_ok (Bt.encErr_ok h).1).2.2.1
theorem chain_base : ∀ {xs : List Bt.Bat} {b : Int}, Chain b xs → ∀ x ∈ xs, b ≤ x.base
  | x :: r, b, h, y, hy => by
    rcases List.mem_cons.1 hy with rfl | hy
    · exact h.2.1
    · have := chain_base h.2.2 y hy
      have := bat_lt h.1
      have := h.2.1
      omega
/-- In a chain what stands behind begins at the end of what stands ahead, or behind. -/
theorem chain_le : ∀ {xs : List Bt.Bat} {b : Int}, Chain b xs → ∀ {i j : Nat} (hij : i < j) (hj : j < xs.length), (xs[i]'(by omega)).fin ≤ xs[j].base
  | x :: r, b, h, 0, j + 1, _, hj => by
    have := chain_base h.2.2 (r[j]'(by simpa using hj)) (List.getElem_mem _)
    simpa using this
  | x :: r, b, h, i + 1, j + 1, hij, hj => by
    have := chain_le h.2.2 (i := i) (j := j) (by omega) (by simpa using hj)
    simpa using this
theorem fromL_all {fr : Int} {rs : List Bt.Rec} (h : ∀ r ∈ rs, fr ≤ r.off) : fromL fr rs = rs := by
  unfold fromL
  rw [List.filter_eq_self]
  intro r hr
  exact decide_eq_true (h r hr)
theorem fromL_none {fr : Int} {rs : List Bt.Rec} (h : ∀ r ∈ rs, r.off < fr) : fromL fr rs = [] := by
  unfold fromL
  rw [List.filter_eq_nil_iff]
  intro r hr
  have := h r hr
  simp
  omega
theorem sinceL_append (fr : Int) (xs ys : List Bt.Bat) : sinceL fr (xs ++ ys) = sinceL fr xs ++ sinceL fr ys := by unfold sinceL; rw [List.flatMap_append]
theorem sinceL_none {fr : Int} {xs : List Bt.Bat} (h : ∀ x ∈ xs, fromL fr x.recs = []) : sinceL fr xs = [] := by
  unfold sinceL
  rw [List.flatMap_eq_nil_iff]
  exact h
theorem sinceL_congr {fr fr' : Int} {xs : List Bt.Bat} (h : ∀ x ∈ xs, fromL fr' x.recs = fromL fr x.recs) : sinceL fr' xs = sinceL fr xs := by
  induction xs with
  | nil => rfl
  | cons x r ih =>
    unfold sinceL at ih ⊢
    rw [List.flatMap_cons, List.flatMap_cons, h x (by simp), ih (fun y hy => h y (by simp [hy]))]
/-- Where read's loop stands: a batches have nothing from fr on. -/
structure RInv (fr fr' : Int) (xs : List Bt.Bat) (a : Nat) : Prop where
  le : a ≤ xs.length
  none : sinceL fr (xs.take a) = []
  rest : ∀ x ∈ xs.drop a, fromL fr' x.recs = fromL fr x.recs
  fins : ∀ i (h : i < xs.length), i < a → (xs[i]).fin ≤ fr'
  ge : fr ≤ fr'
theorem RInv.first (fr : Int) (xs : List Bt.Bat) : RInv fr fr xs 0 := ⟨Nat.zero_le _, by simp [sinceL], fun _ _ => rfl, fun i _ h => absurd h (Nat.not_lt_zero _), Int.le_refl _⟩
theorem fin_false {xs : List Bt.Bat} {fr : Int} {i : Nat} (hi : i < xs.length) (h : finAbove xs fr i = false) : xs[i].fin ≤ fr := by
  unfold finAbove at h
  rw [List.getElem?_eq_getElem hi] at h
  simp at h
  exact h
theorem fin_true {xs : List Bt.Bat} {fr : Int} {i : Nat} (hi : i < xs.length) (h : finAbove xs fr i = true) : fr < xs[i].fin := by
  unfold finAbove at h
  rw [List.getElem?_eq_getElem hi] at h
  simpa using h
section
variable {fr fr' b most : Int} {xs : List Bt.Bat} {a m k : Nat}
theorem RInv.ahead (hr : RInv fr fr' xs a) (hl : Least xs.length (finAbove xs fr') m) : a ≤ m := by
  rcases Nat.lt_or_ge m a with h | h
  · have hm : m < xs.length := Nat.lt_of_lt_of_le h hr.le
    have h1 := fin_true hm (hl.2.2 m (Nat.le_refl _) hm)
    have h2 := hr.fins m hm h
    omega
  · exact h
theorem RInv.upto (hc : Chain b xs) (hr : RInv fr fr' xs a) (hl : Least xs.length (finAbove xs fr') m) : sinceL fr (xs.take m) = [] := by
  have ham := hr.ahead hl
  have e : xs.take m = xs.take a ++ (xs.drop a).take (m - a) := by
    rw [← List.take_append_drop a (xs.take m), List.take_take, Nat.min_eq_left ham, List.drop_take]
  rw [e, sinceL_append, hr.none, List.nil_append]
  refine sinceL_none fun x hx => ?_
  rw [← hr.rest x (List.mem_of_mem_take hx)]
  obtain ⟨i, hi, rfl⟩ := List.mem_iff_getElem.1 hx
  rw [List.length_take, List.length_drop] at hi
  have hi2 : a + i < xs.length := by omega
  have hxi : ((xs.drop a).take (m - a))[i] = xs[a + i] := by rw [List.getElem_take, List.getElem_drop]
  rw [hxi]
  have h1 := fin_false hi2 (hl.2.1 (a + i) (by omega))
  exact fromL_none fun r hr' => by have := (bat_mem (Chain.mem hc _ (List.getElem_mem hi2)) r hr').2; omega
theorem RInv.group (hc : Chain b xs) (hr : RInv fr fr' xs a) (hl : Least xs.length (finAbove xs fr') m) : sinceL fr' ((xs.drop m).take k) = sinceL fr (xs.take (m + k)) := by
  have ham := hr.ahead hl
  have e : xs.take (m + k) = xs.take m ++ (xs.drop m).take k := List.take_add
  rw [e, sinceL_append, hr.upto hc hl, List.nil_append]
  refine sinceL_congr fun x hx => hr.rest x ?_
  have h1 := List.mem_of_mem_take hx
  have e2 : xs.drop m = (xs.drop a).drop (m - a) := by rw [List.drop_drop]; congr 1; omega
  rw [e2] at h1
  exact List.mem_of_mem_drop h1
theorem RInv.over (hc : Chain b xs) (hr : RInv fr fr' xs a) (hl : Least xs.length (finAbove xs fr') m) (hs : Sel most (xs.drop m) k) (hk : k = 0) : sinceL fr xs = [] := by
  have hm : m = xs.length := by
    rcases Nat.lt_or_ge m xs.length with h | h
    · have := (hs.2.2 (by rw [List.length_drop]; omega)).1; omega
    · have := hl.1; omega
  have := hr.upto hc hl
  rwa [hm, List.take_length] at this
theorem RInv.next (hc : Chain b xs) (hr : RInv fr fr' xs a) (hl : Least xs.length (finAbove xs fr') m) (hs : Sel most (xs.drop m) k) (hk : 0 < k) (hn : sinceL fr (xs.take (m + k)) = []) (h : m + k - 1 < xs.length) : RInv fr (xs[m + k - 1]).fin xs (m + k) ∧ fr' < (xs[m + k - 1]).fin ∧ m + k ≤ xs.length := by
  have ham := hr.ahead hl
  have h1 := hs.1
  rw [List.length_drop] at h1
  have h0 := fin_true (i := m) (by omega) (hl.2.2 m (Nat.le_refl _) (by omega))
  have hmono : ∀ i (hi : i < xs.length), i < m + k → (xs[i]).fin ≤ (xs[m + k - 1]).fin := by
    intro i hi hik
    rcases Nat.lt_or_ge i (m + k - 1) with h' | h'
    · have := chain_le hc h' h
      have := bat_lt (Chain.mem hc _ (List.getElem_mem h))
      omega
    · obtain rfl : i = m + k - 1 := by omega
      exact Int.le_refl _
  have hge : fr ≤ (xs[m + k - 1]).fin := by have := hmono m (by omega) (by omega); have := hr.ge; omega
  refine ⟨⟨by omega, hn, fun x hx => ?_, hmono, hge⟩, by have := hmono m (by omega) (by omega); omega, by omega⟩
  obtain ⟨i, hi, rfl⟩ := List.mem_iff_getElem.1 hx
  rw [List.length_drop] at hi
  have hi2 : m + k + i < xs.length := by omega
  rw [List.getElem_drop]
  have h2 := chain_le hc (i := m + k - 1) (j := m + k + i) (by omega) hi2
  have hmem := bat_mem (Chain.mem hc _ (List.getElem_mem hi2))
  rw [fromL_all (fun r hr' => by have := (hmem r hr').1; omega), fromL_all (fun r hr' => by have := (hmem r hr').1; omega)]
end
theorem group_le (xs : List Bt.Bat) (m k : Nat) : ((((xs.drop m).take k)).flatMap (·.recs)).length ≤ (xs.flatMap (·.recs)).length := by
  have e : xs = xs.take m ++ ((xs.drop m).take k ++ (xs.drop m).drop k) := by rw [List.take_append_drop, List.take_append_drop]
  have h : (xs.flatMap (·.recs)).length = ((xs.take m ++ ((xs.drop m).take k ++ (xs.drop m).drop k)).flatMap (·.recs)).length := congrArg (fun l : List Bt.Bat => (l.flatMap (·.recs)).length) e
  rw [h, List.flatMap_append, List.flatMap_append, List.length_append, List.length_append]
  omega
set_option maxHeartbeats 8000000 in
theorem read_any (w : World) (base d : Nat) (F : List Nat) (A : DA) (sb : Nat) (sv : Value) (file : ByteArray) (b0 : Int) (xs : List Bt.Bat) (h : Both w base d F A sb sv file b0 (pls 0 (-1) xs)) (hfs : file.size ≤ maxLen) (f : Dk.FA) (hf : A.file file.data.toList = some f) (hfb : f.bytes = flat xs) (hch : Chain b0 xs)
    (fr most : Int) (hmo : -9223372036854775808 ≤ most ∧ most ≤ 9223372036854775807) (hT : (xs.flatMap (·.recs)).length ≤ 900000) (hxl : xs.length ≤ 1000000) :
    Calls Tryz.prog 39 #[.pointer (some ⟨sb, 0, none⟩), .int .i64 fr, .int .i64 most] w fun e w' => ∃ ov q, e = .returned (.tuple #[ov, .nilIface]) ∧ q ≤ xs.length ∧ GRow 42 6 recC w' w.heap.size ov (sinceL fr (xs.take q)) ∧ (sinceL fr (xs.take q) = [] → sinceL fr xs = []) ∧ Turn [] w w' := by
  have H := hide h
  have HF := hide hf
  have HFB := hide hfb
  have HCH := hide hch
  have HT := hide hT
  clear h hf hfb hch hT
  go_enter Tryz.func39, Tryz.ntmps39
  go_wp2
  go_loopw [1] (fun fv wr => ∃ (fr' : Int) (a : Nat), fv = .int .i64 fr' ∧ RInv fr fr' xs a ∧ Turn [] w wr) (fun fv _ => (1099511627777 - intOf fv).toNat)
  case atStart => exact ⟨fr, 0, rfl, RInv.first fr xs, Turn.refl _ _⟩
  case round =>
    obtain ⟨fr', a, rfl, hinv, htw⟩ := hrel
    have HINV := hide hinv
    have HTW := hide htw
    clear hinv htw
    go_wp2_with fail
    refine (Sg.read_any wr base d F A sb sv file b0 xs (H.out.still HTW.out) hfs f HF.out HFB.out HCH.out fr' most hmo).mono ?_
    rintro e w1 ⟨lv, ys, m, k, rfl, hle, hrow, hys, hsel, ht1⟩
    have hk1 := hsel.1
    rw [List.length_drop] at hk1
    have hkl : ys.length = k := by rw [← List.length_map (f := fun y : BV => y.x), hys, List.length_take, List.length_drop]; omega
    obtain ⟨la, lc, hlv, hllc, hlcm⟩ := hrow.row.form
    rw [hkl] at hlv hllc
    subst hlv
    have hml := hle.1
    have hmx : maxLen = 9223372036854775807 := by simp [maxLen]
    rw [hmx] at hlcm
    have hgr := HINV.out.group (k := k) HCH.out hle
    have HLE := hide hle
    have HSEL := hide hsel
    have HROW := hide hrow
    have HYS := hide hys
    have HKL := hide hkl
    have HT1 := hide (HTW.out.same ht1)
    have HGR := hide hgr
    clear hle hsel hrow hys hkl ht1 hgr
    by_cases hk0 : k = 0
    · have hov := HINV.out.over HCH.out HLE.out HSEL.out hk0
      have HOV := hide hov
      clear hov
      subst hk0
      go_wp2
      go_ret2
      refine ⟨_, xs.length, rfl, Nat.le_refl _, .inl ⟨rfl, by rw [List.take_length]; exact HOV.out⟩, fun _ => HOV.out, HT1.out⟩
    · obtain ⟨k', rfl⟩ := Nat.exists_eq_succ_of_ne_zero hk0
      have hkb : (((k' + 1 : Nat) : Int) == 0) = false := by rw [beq_eq_false_iff_ne]; omega
      go_wp2_with fail
      refine (since_any w1 _ _ ys HROW.out fr' (by rw [HKL.out]; omega) (by rw [HYS.out]; exact Nat.le_trans (group_le xs m (k' + 1)) HT.out)).mono ?_
      rintro e w2 ⟨ov, rfl, hov, ht2⟩
      rw [HYS.out, HGR.out] at hov
      obtain ⟨R, hR⟩ : ∃ R, R = sinceL fr (xs.take (m + (k' + 1))) := ⟨_, rfl⟩
      rw [← hR] at hov
      obtain ⟨oa, oc, hoe, hol, hom⟩ := hov.form
      subst hoe
      have HR := hide hR
      have HOV := hide hov
      have HT12 := hide ht2
      have HT2 := hide (HT1.out.same ht2)
      have HW1 := hide HT1.out.size
      have hRl : R.length ≤ 900000 := by
        rw [hR]
        refine Nat.le_trans (sinceL_le fr _) (Nat.le_trans ?_ HT.out)
        have := group_le xs 0 (m + (k' + 1))
        rwa [List.drop_zero] at this
      clear hR hov ht2
      by_cases hR0 : 0 < (R.length : Int)
      · go_wp2
        go_ret2
        refine ⟨_, m + (k' + 1), rfl, by omega, by rw [← HR.out]; exact HOV.out.base_le HW1.out, fun h => ?_, HT2.out⟩
        rw [← HR.out] at h
        rw [h] at hR0
        exact absurd hR0 (by simp)
      · have hRn : R = [] := List.eq_nil_of_length_eq_zero (by omega)
        have hlt : m + k' < xs.length := by omega
        obtain ⟨hn1, hn2, hn3⟩ := HINV.out.next (k := k' + 1) HCH.out HLE.out HSEL.out (by omega) (by rw [← HR.out]; exact hRn) hlt
        obtain ⟨g, cap, e, hc, -⟩ := HROW.out.row.at batC_len (j := k') (by rw [HKL.out]; omega)
        rw [HKL.out] at e
        simp only [Value.slice.injEq, true_and] at e
        obtain ⟨rfl, rfl⟩ := e
        have hyx : (ys[k']'(by rw [HKL.out]; omega)).x = xs[m + k'] := by
          have h1 : (ys.map (fun y : BV => y.x))[k']? = some (ys[k']'(by rw [HKL.out]; omega)).x := by rw [List.getElem?_map, List.getElem?_eq_getElem (by rw [HKL.out]; omega)]; rfl
          rw [HYS.out, List.getElem?_take_of_lt (by omega), List.getElem?_drop, List.getElem?_eq_getElem hlt] at h1
          exact (Option.some.inj h1).symm
        have c1 : w2.cell? ⟨g, k' * 3 + 1, none⟩ = some (.int .i64 (xs[m + k']).fin) := by
          have h1 := hc 1 (by omega)
          have h2 : (batC (ys[k']'(by rw [HKL.out]; omega)))[1]? = some (.int .i64 (xs[m + k']).fin) := by simp [batC, hyx]
          rw [h2] at h1
          have ht12 := HT12.out
          rw [World.cell?_of_block (w := w1) (ht12.block _ (World.block_lt_of_cell? _ _ h1) (by simp)), h1]
        have hi1 : (k' : Int) < (k' : Int) + 1 := by omega
        have hfin := (Bt.chk_ok (Bt.encErr_ok (Chain.mem HCH.out _ (List.getElem_mem hlt))).1).2.1
        obtain ⟨fx, hfx⟩ : ∃ fx, fx = (xs[m + k']).fin := ⟨_, rfl⟩
        have hn1' : RInv fr fx xs (m + (k' + 1)) := by rw [hfx]; exact hn1
        have hn2' : fr' < fx := by rw [hfx]; exact hn2
        rw [← hfx] at c1 hfin
        have HN1 := hide hn1'
        have HRN := hide hRn
        clear hn1 hn1' hn2 hfx hyx hc hRn
        go_wp2
        all_goals refine ⟨⟨fx, m + (k' + 1), rfl, HN1.out, HT2.out⟩, ?_⟩
        all_goals (simp only [intOf]; omega)
end Go.Proofs.YthbhfhagbaommaaGreatDoor.Lg

/- (*plog.Log).Read: the records from an offset on, of the first segment that has some. -/
namespace Go.Proofs.YthbhfhagbaommaaGreatDoor.Lg
open Go.RowKit Go.Maps
set_option maxRecDepth 100000
set_option linter.unusedSimpArgs false
set_option linter.unusedVariables false
attribute [local go_sem] Oper.semAt_some
open Dk (DA DiskAt Parts Did errR errV)
open Sg (Chain flat pls Both nextOf)

/-- All batches of segments. -/
def batsL (ss : List (Nat × List Bt.Bat)) : List Bt.Bat := ss.flatMap (·.2)
/-- Each segment's file has its batches. -/
structure OkS (A : DA) (dir : ByteArray) (ss : List (Nat × List Bt.Bat)) : Prop where
  base : ∀ p ∈ ss, p.1 ≤ 1099511627776
  file : ∀ p ∈ ss, ∃ f, A.file (Sn.nameB dir p.1).data.toList = some f ∧ f.bytes = flat p.2
  chain : ∀ p ∈ ss, Chain p.1 p.2
  many : ss.length ≤ 1000
theorem flat_short {w : World} {base d : Nat} {F : List Nat} {A : DA} {dir : ByteArray} {ss : List (Nat × List Bt.Bat)} (hd : DiskAt w base d F A) (h : OkS A dir ss) {p : Nat × List Bt.Bat} (hp : p ∈ ss) : (flat p.2).length ≤ 1048576 := by
  obtain ⟨f, hf, hb⟩ := h.file p hp
  have := Sg.file_short hd hf
  rwa [hb] at this
theorem recsB_len (base : Int) : ∀ rs : List Bt.Rec, 3 * rs.length ≤ (Bt.recsB base rs).length
  | [] => by simp [Bt.recsB]
  | r :: rs => by
    have h := recsB_len base rs
    have h1 : 3 ≤ (Bt.recB base r).length := by
      unfold Bt.recB
      have := Nu.put_pos (r.off - base).toNat
      have := Nu.put_pos r.time.toNat
      have := Nu.put_pos (Bt.mark r)
      simp only [List.length_append]
      omega
    unfold Bt.recsB at h ⊢
    rw [List.flatMap_cons, List.length_append, List.length_cons]
    omega
theorem recs_few : ∀ xs : List Bt.Bat, 3 * (xs.flatMap (·.recs)).length ≤ (flat xs).length
  | [] => by simp
  | x :: r => by
    have h1 := recs_few r
    have h2 := recsB_len x.base x.recs
    have h3 : (Bt.recsB x.base x.recs).length ≤ (Bt.encB x).length := by
      rw [Bt.encB_len]
      unfold Bt.body
      simp only [List.length_append]
      omega
    have h4 : flat (x :: r) = Bt.encB x ++ flat r := by
      rw [← Sg.flat_one, ← Sg.flat_append]; rfl
    rw [h4, List.flatMap_cons, List.length_append, List.length_append]
    omega
theorem sinceL_take_nil {fr : Int} {xs : List Bt.Bat} (h : sinceL fr xs = []) (q : Nat) : sinceL fr (xs.take q) = [] := by
  have e : sinceL fr xs = sinceL fr (xs.take q) ++ sinceL fr (xs.drop q) := by rw [← sinceL_append, List.take_append_drop]
  rw [h] at e
  exact (List.append_eq_nil_iff.1 e.symm).1
theorem batsL_take (ss : List (Nat × List Bt.Bat)) {k : Nat} (hk : k < ss.length) : batsL (ss.take (k + 1)) = batsL (ss.take k) ++ ss[k].2 := by
  unfold batsL
  rw [List.take_succ_eq_append_getElem hk, List.flatMap_append]
  simp
theorem batsL_pre (ss : List (Nat × List Bt.Bat)) {k : Nat} (hk : k < ss.length) {q : Nat} (hq : q ≤ ss[k].2.length) : (batsL ss).take ((batsL (ss.take k)).length + q) = batsL (ss.take k) ++ ss[k].2.take q := by
  have e : batsL ss = batsL (ss.take k) ++ (ss[k].2 ++ batsL (ss.drop (k + 1))) := by
    rw [← List.append_assoc, ← batsL_take ss hk]
    unfold batsL
    rw [← List.flatMap_append, List.take_append_drop]
  rw [e, List.take_append, List.take_of_length_le (by omega), Nat.add_sub_cancel_left, List.take_append_of_le_length hq]
set_option maxHeartbeats 4000000 in
theorem Read_any (w : World) (base d : Nat) (F : List Nat) (A : DA) (lb : Nat) (gv : Value) (dir : ByteArray) (v : LV) (ms0 : List SM) (m : SM) (h : LogAt w base d F A lb gv dir v (ms0 ++ [m])) (hdir : dir.size ≤ 1000) (hok : OkS A dir ((ms0 ++ [m]).map SM.abs)) (fr most : Int) (hmo : -9223372036854775808 ≤ most ∧ most ≤ 9223372036854775807) (h1 : v.start ≤ fr) (h2 : fr ≤ nextOf m.n m.xs) :
    Calls Tryz.prog 17 #[.pointer (some ⟨lb, 0, none⟩), .int .i64 fr, .int .i64 most] w fun e w' => ∃ ov q, e = .returned (.tuple #[ov, .nilIface]) ∧ GRow 42 6 recC w' w.heap.size ov (sinceL fr ((batsL ((ms0 ++ [m]).map SM.abs)).take q)) ∧
      (sinceL fr ((batsL ((ms0 ++ [m]).map SM.abs)).take q) = [] → sinceL fr (batsL ((ms0 ++ [m]).map SM.abs)) = []) ∧ Turn [] w w' := by
  obtain ⟨ms, hms⟩ : ∃ ms, ms = ms0 ++ [m] := ⟨_, rfl⟩
  have hmany := hok.many
  have hxm := flat_short h.disk hok (p := m.abs) (by simp)
  have hfl := Sg.flat_len m.xs
  have hfl2 : (flat m.xs).length ≤ 1048576 := hxm
  rw [List.length_map] at hmany
  have hend := end_any w base d F A lb gv dir v ms0 m h (by simp at hmany; omega) (by omega)
  rw [← hms] at h hok hmany ⊢
  obtain ⟨nx, hnx⟩ : ∃ nx, nx = nextOf m.n m.xs := ⟨_, rfl⟩
  rw [← hnx] at hend h2
  obtain ⟨ga, gc, hgv, hglc, hgcm⟩ := h.row.form
  subst hgv
  have H := hide h
  have HOK := hide hok
  have HEND := hide hend
  have c4 := h.c4
  have hlb := lt_of_heap h.box
  have hmx : maxLen = 9223372036854775807 := by simp [maxLen]
  rw [hmx] at hgcm
  clear h hok hend hms hnx hxm hfl hfl2
  go_enter Tryz.func17, Tryz.ntmps17
  go_wp2_with fail
  refine HEND.out.mono ?_
  rintro e w1 ⟨rfl, ht1⟩
  have HT1 := hide ht1
  have hl1 := H.out.still ht1
  have c3 := hl1.c3
  have hlb1 := lt_of_heap hl1.box
  clear ht1 hl1 HEND c4 hlb
  go_wp2
  go_loopw [30] (fun kv wr => ∃ k : Nat, k ≤ ms.length ∧ kv = .int .i64 k ∧ sinceL fr (batsL ((ms.map SM.abs).take k)) = [] ∧ Turn [] w wr) (fun kv _ => ms.length - (intOf kv).toNat)
  case atStart => exact ⟨0, Nat.zero_le _, rfl, by simp [batsL, sinceL], HT1.out⟩
  case round =>
    obtain ⟨k, hk, rfl, hno, htw⟩ := hrel
    have HNO := hide hno
    have HTW := hide htw
    clear hno htw
    by_cases hlt : k < ms.length
    · obtain ⟨g, cap, e, hc, -⟩ := (H.out.still HTW.out).row.at smC_len (j := k) hlt
      simp only [Value.slice.injEq, true_and] at e
      obtain ⟨rfl, rfl⟩ := e
      obtain ⟨mk, hmk⟩ : ∃ mk, mk = ms[k] := ⟨_, rfl⟩
      have hmem : mk ∈ ms := by rw [hmk]; exact List.getElem_mem _
      have hsk : (ms.map SM.abs)[k]'(by rw [List.length_map]; exact hlt) = mk.abs := by rw [List.getElem_map, ← hmk]
      rw [← hmk] at hc
      have c0 : wr.cell? ⟨g, k, none⟩ = some (.pointer (some ⟨mk.sb, 0, none⟩)) := by simpa [smC] using hc 0 (by omega)
      have habs : mk.abs ∈ ms.map SM.abs := List.mem_map_of_mem hmem
      obtain ⟨f, hf, hfb⟩ := HOK.out.file _ habs
      have hch := HOK.out.chain _ habs
      have hfs := flat_short H.out.disk HOK.out habs
      have hfl := Sg.flat_len mk.xs
      have hrf := recs_few mk.xs
      have hrd := read_any wr base d F A mk.sb mk.sv (Sn.nameB dir mk.n) mk.n mk.xs ((H.out.still HTW.out).both hmem) (Sg.nameB_len (HOK.out.base _ habs) hdir) f hf hfb hch fr most hmo (by have : (flat mk.xs).length ≤ 1048576 := hfs; omega) (by have : (flat mk.xs).length ≤ 1048576 := hfs; omega)
      have HRD := hide hrd
      have HSK := hide hsk
      clear hc hmk hmem habs hf hfb hch hfs hfl hrf hrd hsk
      go_wp2_with fail
      refine HRD.out.mono ?_
      rintro e w2 ⟨ov, q, rfl, hq, hov, hemp, ht2⟩
      obtain ⟨R, hR⟩ : ∃ R, R = sinceL fr (mk.xs.take q) := ⟨_, rfl⟩
      rw [← hR] at hov hemp
      obtain ⟨oa, oc, hoe, -, -⟩ := hov.form
      subst hoe
      have HR := hide hR
      have HOV := hide hov
      have HEM := hide hemp
      have HT2 := hide (HTW.out.same ht2)
      have hws := HTW.out.size
      clear hR hov hemp ht2 HRD
      by_cases hR0 : 0 < (R.length : Int)
      · go_wp2
        go_ret2
        have hkl : k < (ms.map SM.abs).length := by rw [List.length_map]; exact hlt
        have hp := batsL_pre (ms.map SM.abs) hkl (q := q) (by rw [HSK.out]; exact hq)
        rw [HSK.out] at hp
        have hs : sinceL fr ((batsL (ms.map SM.abs)).take ((batsL ((ms.map SM.abs).take k)).length + q)) = R := by
          rw [hp, sinceL_append, HNO.out, List.nil_append, HR.out]; rfl
        refine ⟨_, (batsL ((ms.map SM.abs).take k)).length + q, rfl, by rw [hs]; exact HOV.out.base_le hws, fun h => ?_, HT2.out⟩
        rw [hs] at h
        rw [h] at hR0
        exact absurd hR0 (by simp)
      · have hRn : R = [] := List.eq_nil_of_length_eq_zero (by omega)
        have hn2 := HEM.out hRn
        have hkl : k < (ms.map SM.abs).length := by rw [List.length_map]; exact hlt
        have hno2 : sinceL fr (batsL ((ms.map SM.abs).take (k + 1))) = [] := by
          rw [batsL_take _ hkl, sinceL_append, HNO.out, List.nil_append, HSK.out]; exact hn2
        have HN2 := hide hno2
        clear hn2 hno2 hRn hkl
        go_wp2
        all_goals refine ⟨⟨k + 1, by omega, by go_num, HN2.out, HT2.out⟩, ?_⟩
        all_goals (simp only [intOf]; omega)
    · obtain rfl : k = ms.length := by omega
      have hall : sinceL fr (batsL (ms.map SM.abs)) = [] := by
        have := HNO.out
        rwa [List.take_of_length_le (by rw [List.length_map]; exact Nat.le_refl _)] at this
      have HALL := hide hall
      clear hall
      go_wp2
      go_ret2
      exact ⟨_, 0, rfl, .inl ⟨rfl, by simp [sinceL]⟩, fun _ => HALL.out, HTW.out⟩
end Go.Proofs.YthbhfhagbaommaaGreatDoor.Lg
