/- Lgk: texts merged. -/
import Derived.Test.YtmdmdbobbepogaaGreatDoorM9
import Derived.Test.YtmdmdbobbepogaaGreatDoorM8
/- conveyorkeep.LogRetains, walked. -/
namespace Go.Proofs.YtmdmdbobbepogaaGreatDoor.Lg
open Go.RowKit Go.Maps
set_option maxRecDepth 100000
set_option linter.unusedSimpArgs false
set_option linter.unusedVariables false
attribute [local go_sem] Oper.semAt_some
open Dk (DA DiskAt Parts Did errR errV)
open Sg (SegAt sfoot pls Both Came nextOf flat Chain)

section
variable {W w wr : World} {base d lb : Nat} {G : List Nat} {nn : Nat} {ss0 : List (Nat × List Bt.Bat)} {mm : Nat × List Bt.Bat} {mo : Int} {dn : Bool} {i : Nat}
theorem DSt.turn (h : DSt w wr base d lb dirP G 1048576 nn ss0 mm mo dn i) : Turn G w wr := by
  obtain ⟨F, gv, v, ms, A, h1, h2, h3, h4, h5, h6⟩ := h
  exact h5
/-- Told anew from here on. -/
theorem DSt.fresh (h : DSt w wr base d lb dirP G 1048576 nn ss0 mm mo dn i) : ∃ G', DSt wr wr base d lb dirP G' 1048576 nn ss0 mm mo dn i ∧ (∀ k ∈ G', base ≤ k) ∧
    ∀ k cs T fr, wr.heap[k]? = some (.cells cs T fr) → (T = 37 ∨ T = 3) → k ∉ G' := by
  obtain ⟨F, gv, v, ms, A, h1, h2, h3, h4, h5, h6⟩ := h
  refine ⟨lfoot F lb gv ms, ⟨F, gv, v, ms, A, h1, h2, h3, h4, Turn.refl _ _, fun k hk => .inl hk⟩, fun k hk => (h1.lt k hk).1, fun k cs T fr e hT => ?_⟩
  rcases hT with rfl | rfl <;> exact h1.apartOf e (by decide) (by decide) (by decide) (by decide) (by decide) (by decide) (by decide)
theorem LSt.dst {mo : Nat} (h : LSt W wr lb mo i nn) (hi : i ≤ 20) : ∃ ss0 mm G, DSt wr wr W.heap.size W.heap.size lb dirP G 1048576 nn ss0 mm (mo : Int) false 0 ∧ ss0.length ≤ 20 ∧ nn ≤ 1200 ∧ headK ss0 mm = 0 ∧ ∀ k ∈ G, W.heap.size ≤ k := by
  obtain ⟨⟨F, gv, v, ms0, m, A, ss0, mm, hlog, ⟨hss, hmm⟩, hgi, ⟨hv1, hv2, hv3⟩, hsl, hflt, hhk⟩, hlen, htw⟩ := h
  refine ⟨ss0, mm, lfoot F lb gv (ms0 ++ [m]), ⟨F, gv, v, ms0 ++ [m], A, hlog, ?_, ?_, ⟨?_, hv2, hv3⟩, Turn.refl _ _, fun k hk => .inl hk⟩, by omega, by omega, hhk, fun k hk => (hlog.lt k hk).1⟩
  · rw [List.map_append, List.map_singleton, hss, hmm, List.drop_zero]
  · rw [List.drop_zero]
    exact hgi
  · rw [hv1]
    rfl
end
theorem DSt.recOk {w wr : World} {base d lb : Nat} {G : List Nat} {nn : Nat} {ss0 : List (Nat × List Bt.Bat)} {mm : Nat × List Bt.Bat} {mo : Int} {dn : Bool} {i : Nat} (h : DSt w wr base d lb dirP G 1048576 nn ss0 mm mo dn i) : ∀ r ∈ recsL (batsL (ss0.drop i ++ [mm])), RecOk r := by
  obtain ⟨F, gv, v, ms, A, h1, h2, h3, h4, h5, h6⟩ := h
  exact h3.recOk
/-- The end of a slice of records. -/
theorem RecsAt.drop {w : World} {a : Option Addr} {c l : Nat} {rs : List Bt.Rec} (h : RecsAt w (.slice a l c) rs) {k : Nat} (hk : k ≤ rs.length) : RecsAt w (.slice (a.map (fun x => x.add (k * 6))) (rs.length - k) (c - k)) (rs.drop k) := by
  obtain ⟨a', c', e, h1, h2, h3, h4⟩ := h
  simp only [Value.slice.injEq] at e
  obtain ⟨rfl, -, rfl⟩ := e
  refine ⟨_, _, by rw [List.length_drop], by rw [List.length_drop]; omega, by omega, fun hn => ?_, fun j hj => ?_⟩
  · have := h3 (by simpa using hn)
    omega
  · rw [List.length_drop] at hj
    obtain ⟨h5, p, hp, hc⟩ := h4 (k + j) (by omega)
    subst hp
    have e : (rs.drop k)[j]'(by rw [List.length_drop]; exact hj) = rs[k + j] := by simp
    rw [e]
    refine ⟨h5, _, rfl, fun i u hu => ?_⟩
    rw [← hc i u hu, add_add, add_add, add_add]
    congr 2
    omega
set_option maxHeartbeats 8000000 in
theorem retains_any (W : World) (a x y z : Int) (v1 : Value) (rss : List (List Bt.Rec)) (h1 : RecssAt W v1 rss) (hv : Sn.VarT W) (hg : As.ErrT W) :
    Calls Tryz.prog 5 #[.int .i64 a, v1, .int .i64 x, .int .i64 y, .int .i64 z] W fun e w' => e = .returned (.bool true) ∧ Below W.heap.size W w' := by
  obtain ⟨a1, c1, rfl, hlc1, hcm1⟩ := h1.form
  have hmx : maxLen = 9223372036854775807 := by simp [maxLen]
  rw [hmx] at hcm1
  have H1 := hide h1
  have HV := hide hv
  have HG := hide hg
  clear h1 hv hg
  by_cases hl : 20 < (rss.length : Int)
  · go_enter Tryz.func5, Tryz.ntmps5
    go_wp2
    go_ret
    exact ⟨rfl, Below.refl _ _⟩
  go_enter Tryz.func5, Tryz.ntmps5
  go_wp2_with fail
  refine (Dk.new_ok 1048576 (by omega) W W.heap.size (Nat.le_refl _)).mono ?_
  rintro e w1 ⟨rfl, hd1, ht1⟩
  have HT1 := hide ht1
  go_wp2_with fail
  refine (logged_any _ (HV.out.below HT1.out.nil) (HG.out.below HT1.out.nil)).mono ?_
  rintro e w2 ⟨rfl, ht2⟩
  have HD2 := hide (hd1.kept ht2 (by simp))
  have HT2 := hide (HT1.out.same ht2)
  clear hd1 ht1 ht2
  go_wp2_with fail
  refine (pickN_any a 400 (by omega) (by omega) w2).mono ?_
  rintro e w3 ⟨⟨q, hq, rfl⟩, rfl⟩
  obtain ⟨h1, h2, h3'⟩ := GInv.first 1048576 0 (by omega)
  have hop := open_fresh w2 W.heap.size W.heap.size [W.heap.size] (DA.empty 1048576) HD2.out dirP (by decide) (100 + q) 0 (by omega) (by omega) (by omega) h1 h2 (fun Z hZ => (HV.out.below ((HT2.out.trans hZ (fun k hk => .inr (by simp at hk; omega))).nil)).tab) (fun Z lb _ hL => find_none Z _ _ _ _ lb _ _ _ _ hL (by decide) (names_empty _ _))
  rw [show (((100 + q : Nat)) : Int) = 100 + (q : Int) by omega] at hop
  have HOP := hide hop
  have HGI := hide h3'
  clear h1 h2 h3' hop
  go_wp2_with fail
  refine HOP.out.mono ?_
  rintro e w4 ⟨lb, F4, gv4, m4, rfl, hl4, hm4, ht4, hf4⟩
  have hst0 : LSt W w4 lb (100 + q) 0 0 := ⟨⟨F4, gv4, _, [], m4, _, [], (0, []), hl4, ⟨rfl, hm4⟩, by simpa using HGI.out, ⟨rfl, by simp, rfl⟩, Nat.le_refl _, by simp [batsL, flat], rfl⟩, Nat.zero_le _, HT2.out.trans ht4 (fun k hk => .inr (by simp at hk; omega))⟩
  have HST0 := hide hst0
  clear hl4 hm4 ht4 hf4 hst0 HOP HGI
  go_wp2
  go_loopw [14] (fun iv wr => ∃ i nn : Nat, i ≤ rss.length ∧ iv = .int .i64 i ∧ LSt W wr lb (100 + q) i nn) (fun iv _ => rss.length - (intOf iv).toNat)
  case atStart => exact ⟨0, 0, Nat.zero_le _, rfl, HST0.out⟩
  case round =>
    obtain ⟨i, nn, hi, rfl, hls⟩ := hrel
    have HS := hide hls
    clear hls
    by_cases hlt : i < rss.length
    · obtain ⟨p, c, sj, he, hcell, hrec⟩ := H1.out.at_ wr HS.out.turn i hlt
      simp only [Value.slice.injEq, true_and] at he
      obtain ⟨rfl, rfl⟩ := he
      obtain ⟨ra, rc, rfl, hrlc, hrcm, -⟩ := hrec.form
      obtain ⟨rs, hrs⟩ : ∃ rs, rs = rss[i] := ⟨_, rfl⟩
      rw [← hrs] at hrec hcell hrlc
      have HREC := hide hrec
      rw [hmx] at hrcm
      clear hrec hrs
      by_cases h60 : 60 < (rs.length : Int)
      · go_wp2_with fail
        go_ret
        exact ⟨rfl, HS.out.turn.nil⟩
      · have hadd := HS.out.add (by omega) (by omega) HV.out HG.out (.slice ra rs.length rc) rs HREC.out (by omega)
        have HADD := hide hadd
        clear hadd
        go_wp2_with fail
        refine HADD.out.mono ?_
        rintro e w5 ⟨x5, c5, nn5, rfl, hst5⟩
        have HST5 := hide hst5
        clear hst5 HADD
        go_wp2
        all_goals refine ⟨⟨i + 1, nn5, by omega, by go_num, HST5.out⟩, ?_⟩
        all_goals (simp only [intOf]; omega)
    · obtain ⟨ss0, mm, G, hds, hsl, hnn, hhk, hG⟩ := HS.out.dst (by omega)
      have HHK := hide hhk
      have HDS := hide hds
      have HGB := hide hG
      have HOK0 := hide hds.recOk
      have HTW := hide HS.out.turn
      clear hds hG HS hhk
      go_wp2_with fail
      refine (all_log HDS.out (by omega) (by omega) 500 (by omega)).mono ?_
      rintro e w5 ⟨ov, rfl, hov, ht5⟩
      obtain ⟨oa, oc, hoe, holc, hocm⟩ := hov.form
      subst hoe
      obtain ⟨R0, hR0⟩ : ∃ R0, R0 = recsL (batsL (ss0.drop 0 ++ [mm])) := ⟨_, rfl⟩
      rw [← hR0] at hov holc ⊢
      have HR0 := hide hR0
      rw [hmx] at hocm
      clear hR0
      have HOV := hide hov
      have HT5 := hide ht5
      clear hov ht5
      go_wp2_with fail
      refine (segs_log (HDS.out.still HT5.out) (by omega)).mono ?_
      rintro e w6 ⟨sv, rfl, hsv, ht6⟩
      obtain ⟨sg, scp, hse, -⟩ := hsv.at inC_len (j := 0) (by simp)
      subst hse
      have hsL : ((ss0.drop 0 ++ [mm]).map (·.1)).length = ss0.length + 1 := by simp
      obtain ⟨a', c', e', hscp, hscm⟩ := hsv.form
      simp only [Value.slice.injEq, true_and] at e'
      obtain ⟨-, rfl⟩ := e'
      rw [hsL] at hsv hscp ⊢
      rw [hmx] at hscm
      have HSV := hide hsv
      have HT6 := hide (HT5.out.same ht6)
      have HOV6 := hide (HOV.out.still ht6)
      clear hsv ht6 HOV HT5
      go_wp2_with fail
      refine (end_log (HDS.out.still HT6.out) (by omega)).mono ?_
      rintro e w7 ⟨rfl, ht7⟩
      have HT7 := hide (HT6.out.same ht7)
      have HOV7 := hide (HOV6.out.still ht7)
      have HSV7 := hide (HSV.out.still ht7)
      clear ht7 HOV6 HSV HT6
      go_wp2_with fail
      refine (pickN_any x 2000 (by omega) (by omega) w7).mono ?_
      rintro e w8 ⟨⟨qx, hqx, rfl⟩, rfl⟩
      go_wp2_with fail
      refine (pickN_any y 2000 (by omega) (by omega) w7).mono ?_
      rintro e w8 ⟨⟨qy, hqy, rfl⟩, rfl⟩
      go_wp2_with fail
      refine (pickN_any z 4000 (by omega) (by omega) w7).mono ?_
      rintro e w8 ⟨⟨qz, hqz, rfl⟩, rfl⟩
      obtain ⟨G7, hd7, hb7, hk7⟩ := (HDS.out.still HT7.out).fresh
      go_wp2_with fail
      refine (Retain_any w7 _ _ lb dirP G7 1048576 nn ss0 mm _ hd7 (by omega) (by decide) _ _ _).mono ?_
      rintro e w8 ⟨n, hn, rfl, hd8⟩
      have ht78 := hd8.turn
      have HT8 := hide ((HTW.out.same HT7.out).trans ht78 (fun k hk => .inr (hb7 k hk)))
      have HOV8 := hide (HOV7.out.kept ht78 (fun k hk => by
        obtain ⟨cs, e⟩ := HOV7.out.kind k hk
        exact hk7 k cs _ _ e (.inl rfl)))
      have HSV8 := hide (HSV7.out.kept ht78 (fun k hk => by
        obtain ⟨cs, e⟩ := HSV7.out.kind k hk
        exact hk7 k cs _ _ e (.inr rfl)))
      have HD8 := hide hd8
      clear hd8 ht78 hd7 hb7 hk7 HOV7 HSV7 HT7 HDS
      go_wp2_with fail
      refine (all_log HD8.out (by omega) (by omega) 500 (by omega)).mono ?_
      rintro e w9 ⟨iv, rfl, hiv, ht9⟩
      obtain ⟨ia, ic, hie, hilc, hicm⟩ := hiv.form
      subst hie
      obtain ⟨R1, hR1⟩ : ∃ R1, R1 = recsL (batsL (ss0.drop n ++ [mm])) := ⟨_, rfl⟩
      rw [← hR1] at hiv hilc ⊢
      have HR1 := hide hR1
      rw [hmx] at hicm
      have HT9 := hide (HT8.out.same ht9)
      have HIV := hide hiv
      have HOV9 := hide (HOV8.out.still ht9)
      have hints := (HSV8.out.still ht9).ints
      have hdrop0 := hints.drop (k := n) (by simp; omega)
      have hin : IntsAt w9 (.slice (some ⟨sg, n, none⟩) (ss0.length + 1 - n) (scp - n)) ((ss0.drop n ++ [mm]).map (·.1)) := by
        have e1 : ((ss0.drop 0 ++ [mm]).map (·.1)).drop n = (ss0.drop n ++ [mm]).map (·.1) := by
          rw [List.drop_zero, ← List.map_drop, List.drop_append_of_le_length hn]
        have e2 : ((ss0.drop 0 ++ [mm]).map (·.1)).length = ss0.length + 1 := by simp
        have e3 : ((⟨sg, 0, none⟩ : Addr).add n) = ⟨sg, n, none⟩ := addr_add sg n
        rw [e1, e2, e3] at hdrop0
        exact hdrop0
      obtain ⟨ST, hST⟩ : ∃ ST, ST = stI ss0 mm n := ⟨_, rfl⟩
      have hcn : ∀ Z, Turn [] w9 Z → Z.cell? ⟨sg, n, none⟩ = some (.int .i64 (ST : Int)) := fun Z hZ => by
        obtain ⟨a', c', e, -, -, h3⟩ := hints.still hZ
        simp only [Value.slice.injEq, true_and] at e
        obtain ⟨rfl, -⟩ := e
        obtain ⟨p', hp', hc'⟩ := h3 n (by simp; omega)
        obtain rfl := Option.some.inj hp'
        rw [addr_add] at hc'
        rw [hc']
        have h5 := segs_at ss0 mm (i := n) hn
        have h6 : ((ss0.drop 0 ++ [mm]).map (·.1))[n]? = some ST := by
          rw [List.drop_zero, h5, hST]
          unfold stI
          split
          · rename_i h0
            subst h0
            rw [List.drop_zero, HHK.out]
          · rfl
        rw [List.getElem?_eq_getElem (by simp; omega)] at h6
        rw [Option.some.inj h6]
      have hsg2 := fun (Z : World) (hZ : Turn [] w9 Z) => segs_log (HD8.out.still (ht9.same hZ)) (by omega)
      have hen2 := fun (Z : World) (hZ : Turn [] w9 Z) => end_log (HD8.out.still (ht9.same hZ)) (by omega)
      have hst2 := fun (Z : World) (hZ : Turn [] w9 Z) => start_log (HD8.out.still (ht9.same hZ))
      rw [← hST] at hst2
      have HSG2 := hide hsg2
      have HEN2 := hide hen2
      have HST2 := hide hst2
      have HIN := hide hin
      have HCN := hide hcn
      have hnL : (n : Int) ≤ (ss0.length : Int) + 1 := by omega
      have hnL2 : (n : Int) < (ss0.length : Int) + 1 := by omega
      have hsn : ¬ scp = n := by omega
      clear hR1 hiv ht9 hints hdrop0 hin hST hcn hsg2 hen2 hst2 HOV8 HSV8 HT8 HD8
      go_wp2
      refine wp_region_loose (Turn []) (by kernel_rfl) (by kernel_rfl) (by kernel_rfl) (by kernel_rfl) rfl (Turn.refl _) (fun _ _ _ h k => h.same k) ?_
      apply Lo.runx 1 rfl rfl [] (by kernel_rfl) (Turn.refl _)
      apply Exists.intro; apply And.intro
      · intro u w1 hR hF
        clear hF
        refine ⟨rfl, fun a ha K hK => ?_⟩
        have e16 := ha 16
        conv at e16 => rhs; whnf
        clear ha
        go_simp
        refine hK _ ?_; rfl
      apply Lo.runx 2 rfl rfl [0] (by kernel_rfl) (Turn.refl _)
      apply Exists.intro; apply And.intro
      · intro u w1 hR hF
        obtain ⟨h0, -⟩ := hF
        refine ⟨rfl, fun a ha K hK => ?_⟩
        have e94 := (ha 94).trans h0
        clear ha h0
        go_simp
        refine hK _ ?_; rfl
      apply Lo.runx 3 rfl rfl [1] (by kernel_rfl) (Turn.refl _)
      apply Exists.intro; apply And.intro
      · intro u w1 hR hF
        obtain ⟨h1, -⟩ := hF
        refine ⟨rfl, fun a ha K hK => ?_⟩
        have e95 := (ha 95).trans h1
        clear ha h1
        go_simp
        refine hK _ ?_; rfl
      apply Lo.runx 4 rfl rfl [2] (by kernel_rfl) (Turn.refl _)
      apply Exists.intro; apply And.intro
      · intro u w1 hR hF
        obtain ⟨h2, -⟩ := hF
        refine ⟨.inl ⟨false, h2, rfl⟩, fun a ha K hK => ?_⟩
        have e21 := ha 21
        conv at e21 => rhs; whnf
        clear ha h2
        go_simp
        refine hK _ ?_; rfl
      apply Lo.runx 5 rfl rfl [2, 3] (by kernel_rfl) (Turn.refl _)
      apply Exists.intro; apply And.intro
      · intro u w1 hR hF
        obtain ⟨h2, h3, -⟩ := hF
        refine ⟨.inl ⟨false, h2, rfl⟩, fun a ha K hK => ?_⟩
        have e97 := (ha 97).trans h3
        clear ha h2 h3
        go_simp
        refine hK _ ?_; rfl
      apply Lo.runx 6 rfl rfl [2, 4] (by kernel_rfl) (Turn.refl _)
      apply Exists.intro; apply And.intro
      · intro u w1 hR hF
        obtain ⟨h2, h4, -⟩ := hF
        refine ⟨rfl, fun a ha K hK => ?_⟩
        have e96 := (ha 96).trans h2
        have e98 := (ha 98).trans h4
        clear ha h2 h4
        go_simp
        refine hK _ ?_; rfl
      apply Lo.runx 7 rfl rfl [5] (by kernel_rfl) (Turn.refl _)
      apply Exists.intro; apply And.intro
      · intro u w1 hR hF
        obtain ⟨h5, -⟩ := hF
        refine ⟨rfl, fun a ha K hK => ?_⟩
        have e99 := (ha 99).trans h5
        clear ha h5
        go_simp
        refine hK _ ?_; rfl
      apply Lo.runx 8 rfl rfl [6] (by kernel_rfl) (Turn.refl _)
      apply Exists.intro; apply And.intro
      · intro u w1 hR hF
        obtain ⟨h6, -⟩ := hF
        refine ⟨.inl ⟨false, h6, rfl⟩, fun a ha K hK => ?_⟩
        have e12 := ha 12
        conv at e12 => rhs; whnf
        clear ha h6
        go_simp
        refine hK _ ?_; rfl
      apply Lo.runx 9 rfl rfl [6, 7] (by kernel_rfl) (Turn.refl _)
      apply Exists.intro; apply And.intro
      · intro u w1 hR hF
        obtain ⟨h6, h7, -⟩ := hF
        refine ⟨.inl ⟨false, h6, rfl⟩, fun a ha K hK => ?_⟩
        have e101 := (ha 101).trans h7
        clear ha h6 h7
        go_simp
        refine hK _ ?_; rfl
      apply Lo.runx 10 rfl rfl [6, 8] (by kernel_rfl) (Turn.refl _)
      apply Exists.intro; apply And.intro
      · intro u w1 hR hF
        obtain ⟨h6, h8, -⟩ := hF
        refine ⟨rfl, fun a ha K hK => ?_⟩
        have e100 := (ha 100).trans h6
        have e102 := (ha 102).trans h8
        clear ha h6 h8
        go_simp
        refine hK _ ?_; rfl
      apply Lo.runx 11 rfl rfl [9] (by kernel_rfl) (Turn.refl _)
      apply Exists.intro; apply And.intro
      · intro u w1 hR hF
        obtain ⟨h9, -⟩ := hF
        refine ⟨rfl, fun a ha K hK => ?_⟩
        have e103 := (ha 103).trans h9
        clear ha h9
        go_simp
        refine hK _ ?_; rfl
      apply Lo.runx 12 rfl rfl [10] (by kernel_rfl) (Turn.refl _)
      apply Exists.intro; apply And.intro
      · intro u w1 hR hF
        obtain ⟨h10, -⟩ := hF
        refine ⟨.inl ⟨false, h10, rfl⟩, fun a ha K hK => ?_⟩
        have e19 := ha 19
        conv at e19 => rhs; whnf
        clear ha h10
        go_simp
        refine hK _ ?_; rfl
      refine Lo.runv 13 rfl rfl [10, 11] (.bool (false)) (by kernel_rfl) (fun u w1 hR hF => ?_) (Turn.refl _) ?_
      · obtain ⟨h10, h11, -⟩ := hF
        refine ⟨.inl ⟨false, h10, rfl⟩, fun a ha K hK => ?_⟩
        have e105 := (ha 105).trans h11
        clear ha h10 h11
        go_simp
        refine hK _ ?_
        first | (simp; done) | (simp; omega)
      apply Lo.runx 14 rfl rfl [10, 12] (by kernel_rfl) (Turn.refl _)
      apply Exists.intro; apply And.intro
      · intro u w1 hR hF
        obtain ⟨h10, h12, -⟩ := hF
        refine ⟨rfl, fun a ha K hK => ?_⟩
        have e104 := (ha 104).trans h10
        have e106 := (ha 106).trans h12
        clear ha h10 h12
        go_simp
        refine hK _ ?_; rfl
      apply Lo.runx 15 rfl rfl [13] (by kernel_rfl) (Turn.refl _)
      apply Exists.intro; apply And.intro
      · intro u w1 hR hF
        obtain ⟨h13, -⟩ := hF
        refine ⟨rfl, fun a ha K hK => ?_⟩
        have e107 := (ha 107).trans h13
        clear ha h13
        go_simp
        refine hK _ ?_; rfl
      apply Lo.runx 16 rfl rfl [14] (by kernel_rfl) (Turn.refl _)
      apply Exists.intro; apply And.intro
      · intro u w1 hR hF
        obtain ⟨h14, -⟩ := hF
        refine ⟨.inl ⟨false, h14, rfl⟩, fun a ha K hK => ?_⟩
        have e19 := ha 19
        conv at e19 => rhs; whnf
        clear ha h14
        go_simp
        refine hK _ ?_; rfl
      apply Lo.runx 17 rfl rfl [14] (by kernel_rfl) (Turn.refl _)
      apply Exists.intro; apply And.intro
      · intro u w1 hR hF
        obtain ⟨h14, -⟩ := hF
        refine ⟨.inl ⟨false, h14, rfl⟩, fun a ha K hK => ?_⟩
        have e17 := ha 17
        conv at e17 => rhs; whnf
        clear ha h14
        go_simp
        refine hK _ ?_; rfl
      apply Lo.runx 18 rfl rfl [14, 16] (by kernel_rfl) (Turn.refl _)
      apply Exists.intro; apply And.intro
      · intro u w1 hR hF
        obtain ⟨h14, h16, -⟩ := hF
        refine ⟨.inl ⟨false, h14, rfl⟩, fun a ha K hK => ?_⟩
        have e110 := (ha 110).trans h16
        clear ha h14 h16
        go_simp
        refine hK _ ?_; rfl
      refine Lo.runv 19 rfl rfl [14, 15, 17] (.bool (false)) (by kernel_rfl) (fun u w1 hR hF => ?_) (Turn.refl _) ?_
      · obtain ⟨h14, h15, h17, -⟩ := hF
        refine ⟨.inl ⟨false, h14, rfl⟩, fun a ha K hK => ?_⟩
        have e109 := (ha 109).trans h15
        have e111 := (ha 111).trans h17
        clear ha h14 h15 h17
        go_simp
        refine hK _ ?_
        first | (simp; done) | (simp; omega)
      apply Lo.runx 20 rfl rfl [14, 18] (by kernel_rfl) (Turn.refl _)
      apply Exists.intro; apply And.intro
      · intro u w1 hR hF
        obtain ⟨h14, h18, -⟩ := hF
        refine ⟨rfl, fun a ha K hK => ?_⟩
        have e108 := (ha 108).trans h14
        have e112 := (ha 112).trans h18
        clear ha h14 h18
        go_simp
        refine hK _ ?_; rfl
      apply Lo.runx 21 rfl rfl [19] (by kernel_rfl) (Turn.refl _)
      apply Exists.intro; apply And.intro
      · intro u w1 hR hF
        obtain ⟨h19, -⟩ := hF
        refine ⟨rfl, fun a ha K hK => ?_⟩
        have e113 := (ha 113).trans h19
        clear ha h19
        go_simp
        refine hK _ ?_; rfl
      apply Lo.runx 22 rfl rfl [20] (by kernel_rfl) (Turn.refl _)
      apply Exists.intro; apply And.intro
      · intro u w1 hR hF
        obtain ⟨h20, -⟩ := hF
        refine ⟨.inl ⟨false, h20, rfl⟩, fun a ha K hK => ?_⟩
        have e13 := ha 13
        conv at e13 => rhs; whnf
        clear ha h20
        go_simp
        refine hK _ ?_; rfl
      refine Lo.run 23 rfl rfl [20, 21] (fun y w' => IntsAt w' y ((ss0.drop n ++ [mm]).map (·.1))) (by kernel_rfl) (fun x w w' h hR => ?_) (fun _ _ h => h) (fun u w1 hR hF => ?_) ?_
      · exact h.still hR
      · obtain ⟨h20, h21, -⟩ := hF
        refine ⟨.inl ⟨false, h20, rfl⟩, fun a ha K hK => ?_⟩
        have e115 := (ha 115).trans h21
        clear ha h20 h21
        go_simp
        refine (HSG2.out w1 (((Turn.refl [] _).drew).same hR)).mono ?_
        rintro e w5 ⟨v5, rfl, hv5, ht5⟩
        exact hK _ _ hv5.ints ht5
      apply Lo.runx 24 rfl rfl [20] (by kernel_rfl) (Turn.refl _)
      apply Exists.intro; apply And.intro
      · intro u w1 hR hF
        obtain ⟨h20, -⟩ := hF
        refine ⟨.inl ⟨false, h20, rfl⟩, fun a ha K hK => ?_⟩
        have e17 := ha 17
        conv at e17 => rhs; whnf
        clear ha h20
        go_simp
        refine hK _ ?_; rfl
      apply Lo.runx 25 rfl rfl [20] (by kernel_rfl) (Turn.refl _)
      apply Exists.intro; apply And.intro
      · intro u w1 hR hF
        obtain ⟨h20, -⟩ := hF
        refine ⟨.inl ⟨false, h20, rfl⟩, fun a ha K hK => ?_⟩
        have e19 := ha 19
        conv at e19 => rhs; whnf
        clear ha h20
        go_simp
        refine hK _ ?_; rfl
      refine Lo.runv 26 rfl rfl [20, 23, 24] (.slice (some ⟨sg, n, none⟩) (ss0.length + 1 - n) (scp - n)) (by kernel_rfl) (fun u w1 hR hF => ?_) (Turn.refl _) ?_
      · obtain ⟨h20, h23, h24, -⟩ := hF
        refine ⟨.inl ⟨false, h20, rfl⟩, fun a ha K hK => ?_⟩
        have e117 := (ha 117).trans h23
        have e118 := (ha 118).trans h24
        clear ha h20 h23 h24
        go_simp
        refine hK _ ?_
        rfl
      refine Lo.run 27 rfl rfl [20, 22, 25] (fun y w' => y = .bool true) (by kernel_rfl) (fun x w w' h hR => ?_) (fun _ _ h => h) (fun u w1 hR hF => ?_) ?_
      · exact h
      · obtain ⟨h20, h22, h25, -⟩ := hF
        refine ⟨.inl ⟨false, h20, rfl⟩, fun a ha K hK => ?_⟩
        have e116 : a.tmps.getD 116 undef = u 22 := ha 116
        have e119 := (ha 119).trans h25
        have h22 := (show (fun y w' => IntsAt w' y ((ss0.drop n ++ [mm]).map (·.1))) (u 22) w1 from h22)
        dsimp only at h22
        clear ha h20 h25
        go_simp
        refine (same_ints w1 _ _ _ h22 (HIN.out.still (((Turn.refl [] _).drew).same hR))).mono ?_
        rintro e w5 ⟨rfl, ht5⟩
        exact hK _ _ rfl ht5
      apply Lo.runx 28 rfl rfl [20, 26] (by kernel_rfl) (Turn.refl _)
      apply Exists.intro; apply And.intro
      · intro u w1 hR hF
        obtain ⟨h20, h26, -⟩ := hF
        refine ⟨.inl ⟨false, h20, rfl⟩, fun a ha K hK => ?_⟩
        have e120 : a.tmps.getD 120 undef = u 26 := ha 120
        have h26 := (show (fun y w' => y = .bool true) (u 26) w1 from h26)
        dsimp only at h26
        clear ha h20
        go_simp
        refine hK _ ?_; rfl
      apply Lo.runx 29 rfl rfl [20, 27] (by kernel_rfl) (Turn.refl _)
      apply Exists.intro; apply And.intro
      · intro u w1 hR hF
        obtain ⟨h20, h27, -⟩ := hF
        refine ⟨rfl, fun a ha K hK => ?_⟩
        have e114 := (ha 114).trans h20
        have e121 := (ha 121).trans h27
        clear ha h20 h27
        go_simp
        refine hK _ ?_; rfl
      apply Lo.runx 30 rfl rfl [28] (by kernel_rfl) (Turn.refl _)
      apply Exists.intro; apply And.intro
      · intro u w1 hR hF
        obtain ⟨h28, -⟩ := hF
        refine ⟨rfl, fun a ha K hK => ?_⟩
        have e122 := (ha 122).trans h28
        clear ha h28
        go_simp
        refine hK _ ?_; rfl
      apply Lo.runx 31 rfl rfl [29] (by kernel_rfl) (Turn.refl _)
      apply Exists.intro; apply And.intro
      · intro u w1 hR hF
        obtain ⟨h29, -⟩ := hF
        refine ⟨.inl ⟨false, h29, rfl⟩, fun a ha K hK => ?_⟩
        have e13 := ha 13
        conv at e13 => rhs; whnf
        clear ha h29
        go_simp
        refine hK _ ?_; rfl
      refine Lo.run 32 rfl rfl [29, 30] (fun y w' => y = .int .i64 (nn : Int)) (by kernel_rfl) (fun x w w' h hR => ?_) (fun _ _ h => h) (fun u w1 hR hF => ?_) ?_
      · exact h
      · obtain ⟨h29, h30, -⟩ := hF
        refine ⟨.inl ⟨false, h29, rfl⟩, fun a ha K hK => ?_⟩
        have e124 := (ha 124).trans h30
        clear ha h29 h30
        go_simp
        refine (HEN2.out w1 (((Turn.refl [] _).drew).same hR)).mono ?_
        rintro e w5 ⟨rfl, ht5⟩
        exact hK _ _ rfl ht5
      apply Lo.runx 33 rfl rfl [29] (by kernel_rfl) (Turn.refl _)
      apply Exists.intro; apply And.intro
      · intro u w1 hR hF
        obtain ⟨h29, -⟩ := hF
        refine ⟨.inl ⟨false, h29, rfl⟩, fun a ha K hK => ?_⟩
        have e18 := ha 18
        conv at e18 => rhs; whnf
        clear ha h29
        go_simp
        refine hK _ ?_; rfl
      refine Lo.runv 34 rfl rfl [29, 31, 32] (.bool (false)) (by kernel_rfl) (fun u w1 hR hF => ?_) (Turn.refl _) ?_
      · obtain ⟨h29, h31, h32, -⟩ := hF
        refine ⟨.inl ⟨false, h29, rfl⟩, fun a ha K hK => ?_⟩
        have e125 : a.tmps.getD 125 undef = u 31 := ha 125
        have e126 := (ha 126).trans h32
        have h31 := (show (fun y w' => y = .int .i64 (nn : Int)) (u 31) w1 from h31)
        dsimp only at h31
        clear ha h29 h32
        go_simp
        refine hK _ ?_
        simp
      apply Lo.runx 35 rfl rfl [29, 33] (by kernel_rfl) (Turn.refl _)
      apply Exists.intro; apply And.intro
      · intro u w1 hR hF
        obtain ⟨h29, h33, -⟩ := hF
        refine ⟨rfl, fun a ha K hK => ?_⟩
        have e123 := (ha 123).trans h29
        have e127 := (ha 127).trans h33
        clear ha h29 h33
        go_simp
        refine hK _ ?_; rfl
      apply Lo.runx 36 rfl rfl [34] (by kernel_rfl) (Turn.refl _)
      apply Exists.intro; apply And.intro
      · intro u w1 hR hF
        obtain ⟨h34, -⟩ := hF
        refine ⟨rfl, fun a ha K hK => ?_⟩
        have e128 := (ha 128).trans h34
        clear ha h34
        go_simp
        refine hK _ ?_; rfl
      apply Lo.runx 37 rfl rfl [35] (by kernel_rfl) (Turn.refl _)
      apply Exists.intro; apply And.intro
      · intro u w1 hR hF
        obtain ⟨h35, -⟩ := hF
        refine ⟨.inl ⟨false, h35, rfl⟩, fun a ha K hK => ?_⟩
        have e13 := ha 13
        conv at e13 => rhs; whnf
        clear ha h35
        go_simp
        refine hK _ ?_; rfl
      refine Lo.run 38 rfl rfl [35, 36] (fun y w' => y = .int .i64 (ST : Int)) (by kernel_rfl) (fun x w w' h hR => ?_) (fun _ _ h => h) (fun u w1 hR hF => ?_) ?_
      · exact h
      · obtain ⟨h35, h36, -⟩ := hF
        refine ⟨.inl ⟨false, h35, rfl⟩, fun a ha K hK => ?_⟩
        have e130 := (ha 130).trans h36
        clear ha h35 h36
        go_simp
        refine (HST2.out w1 (((Turn.refl [] _).drew).same hR)).mono ?_
        rintro e w5 ⟨rfl, rfl⟩
        exact hK _ _ rfl (Turn.refl _ _)
      apply Lo.runx 39 rfl rfl [35] (by kernel_rfl) (Turn.refl _)
      apply Exists.intro; apply And.intro
      · intro u w1 hR hF
        obtain ⟨h35, -⟩ := hF
        refine ⟨.inl ⟨false, h35, rfl⟩, fun a ha K hK => ?_⟩
        have e17 := ha 17
        conv at e17 => rhs; whnf
        clear ha h35
        go_simp
        refine hK _ ?_; rfl
      apply Lo.runx 40 rfl rfl [35] (by kernel_rfl) (Turn.refl _)
      apply Exists.intro; apply And.intro
      · intro u w1 hR hF
        obtain ⟨h35, -⟩ := hF
        refine ⟨.inl ⟨false, h35, rfl⟩, fun a ha K hK => ?_⟩
        have e19 := ha 19
        conv at e19 => rhs; whnf
        clear ha h35
        go_simp
        refine hK _ ?_; rfl
      apply Lo.runx 41 rfl rfl [35, 38, 39] (by kernel_rfl) (Turn.refl _)
      apply Exists.intro; apply And.intro
      · intro u w1 hR hF
        obtain ⟨h35, h38, h39, -⟩ := hF
        refine ⟨.inl ⟨false, h35, rfl⟩, fun a ha K hK => ?_⟩
        have e132 := (ha 132).trans h38
        have e133 := (ha 133).trans h39
        clear ha h35 h38 h39
        go_simp
        refine hK _ ?_; rfl
      apply Lo.runx 42 rfl rfl [35, 40] (by kernel_rfl) (Turn.refl _)
      apply Exists.intro; apply And.intro
      · intro u w1 hR hF
        obtain ⟨h35, h40, -⟩ := hF
        refine ⟨.inl ⟨false, h35, rfl⟩, fun a ha K hK => ?_⟩
        have e134 := (ha 134).trans h40
        clear ha h35 h40
        have k0 := HCN.out w1 (((Turn.refl [] _).drew).same hR)
        go_simp
        refine hK _ ?_; rfl
      refine Lo.runv 43 rfl rfl [35, 37, 41] (.bool (false)) (by kernel_rfl) (fun u w1 hR hF => ?_) (Turn.refl _) ?_
      · obtain ⟨h35, h37, h41, -⟩ := hF
        refine ⟨.inl ⟨false, h35, rfl⟩, fun a ha K hK => ?_⟩
        have e131 : a.tmps.getD 131 undef = u 37 := ha 131
        have e135 := (ha 135).trans h41
        have h37 := (show (fun y w' => y = .int .i64 (ST : Int)) (u 37) w1 from h37)
        dsimp only at h37
        clear ha h35 h41
        go_simp
        refine hK _ ?_
        simp
      apply Lo.runx 44 rfl rfl [35, 42] (by kernel_rfl) (Turn.refl _)
      apply Exists.intro; apply And.intro
      · intro u w1 hR hF
        obtain ⟨h35, h42, -⟩ := hF
        refine ⟨rfl, fun a ha K hK => ?_⟩
        have e129 := (ha 129).trans h35
        have e136 := (ha 136).trans h42
        clear ha h35 h42
        go_simp
        refine hK _ ?_; rfl
      refine Lo.done [43] (fun u w1 hRd hSd hF => ?_)
      clear hSd
      obtain ⟨f43, -⟩ := hF
      have d43 : u 43 = _ := f43
      clear f43
      simp only [putFrom, Act.put, List.setIfInBounds_toArray, List.set_cons_succ, List.set_cons_zero, Nat.zero_add, Nat.reduceAdd, d43]
      have HTA := hide (((Turn.refl [] w9).drew).same hRd)
      obtain ⟨wa, rfl⟩ : ∃ wa, wa = w1 := ⟨_, rfl⟩
      clear d43 hRd
      have hpre : R0 = recsL (batsL (ss0.take n)) ++ R1 := by
        rw [HR0.out, HR1.out, List.drop_zero]
        unfold recsL batsL
        rw [← List.flatMap_append, ← List.flatMap_append, ← List.append_assoc, List.take_append_drop]
      have hle : R1.length ≤ R0.length := by rw [hpre, List.length_append]; omega
      obtain ⟨k, hk⟩ : ∃ k, k = R0.length - R1.length := ⟨_, rfl⟩
      have hdropk : R0.drop k = R1 := by
        have : k = (recsL (batsL (ss0.take n))).length := by rw [hk, hpre, List.length_append]; omega
        rw [this, hpre, List.drop_left]
      have hki : (R0.length : Int) - (R1.length : Int) = (k : Int) := by omega
      have hlei : (R1.length : Int) ≤ (R0.length : Int) := by omega
      have HPRE := hide hpre
      clear hpre
      have hr0 : RecsAt wa (.slice oa R0.length oc) R0 := RecRow.recs (base := wr.heap.size) (HOV9.out.still HTA.out) (by rw [HR0.out]; exact HOK0.out)
      have hr1 : RecsAt wa (.slice ia R1.length ic) R1 := RecRow.recs (HIV.out.still HTA.out) (fun r hr => by
        rw [← hdropk] at hr
        have := List.mem_of_mem_drop hr
        rw [HR0.out] at this
        exact HOK0.out r this)
      have hr2 := RecsAt.drop hr0 (k := k) (by omega)
      rw [hdropk, hk] at hr2
      have HRA := hide hr1
      have HRB := hide hr2
      clear hr0 hr1 hr2 hdropk
      go_wp2_with fail
      · have hz : R1.length = 0 := by omega
        have hn1 := List.eq_nil_of_length_eq_zero hz
        have hr3 : RecsAt wa (.slice oa (R0.length - (R0.length - R1.length)) 0) R1 := by
          rw [hn1]
          exact ⟨oa, 0, by simp, Nat.le_refl _, Nat.zero_le _, fun _ => rfl, fun j hj => absurd hj (Nat.not_lt_zero _)⟩
        have hsm := same_any wa _ _ R1 HRA.out hr3
        have HSM := hide hsm
        clear hz hn1 hr3 hsm
        refine HSM.out.mono ?_
        rintro e wb ⟨rfl, htb⟩
        have HTB := hide ((HT9.out.same HTA.out).same htb)
        clear htb HSM
        go_wp2
        go_ret
        exact ⟨rfl, HTB.out.nil⟩
      · have hsm := same_any wa _ _ R1 HRA.out HRB.out
        have HSM := hide hsm
        clear hsm
        refine HSM.out.mono ?_
        rintro e wb ⟨rfl, htb⟩
        have HTB := hide ((HT9.out.same HTA.out).same htb)
        clear htb HSM
        go_wp2
        go_ret
        exact ⟨rfl, HTB.out.nil⟩
end Go.Proofs.YtmdmdbobbepogaaGreatDoor.Lg
