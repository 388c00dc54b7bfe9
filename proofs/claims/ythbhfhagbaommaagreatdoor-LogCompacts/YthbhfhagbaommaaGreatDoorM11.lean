/- Cps, Lv: texts merged. -/
import Derived.Test.YthbhfhagbaommaaGreatDoorM10
import Derived.Test.YthbhfhagbaommaaGreatDoorRows
import Derived.Test.YthbhfhagbaommaaGreatDoorM4
import Derived.Test.YthbhfhagbaommaaGreatDoorM7
import Derived.LaidSub
import Derived.MakeChecks
import Derived.LaidHandle
import Derived.Stop.LaidErr
import Derived.Lib.LaidTab
/- conveyorkeep.LogCompacts, walked. -/
namespace Go.Proofs.YthbhfhagbaommaaGreatDoor.Lg
open Go.RowKit Go.Maps
set_option maxRecDepth 100000
set_option linter.unusedSimpArgs false
set_option linter.unusedVariables false
attribute [local go_sem] Oper.semAt_some
open Dk (DA DiskAt Parts Did errR errV)
open Sg (SegAt sfoot pls Both Came nextOf flat Chain)

theorem rec_cells {w : World} {base : Nat} {a : Option Addr} {c : Nat} {rs : List Bt.Rec} (h : GRow 42 6 recC w base (.slice a rs.length c) rs) {j : Nat} (hj : j < rs.length) : ∃ g, a = some ⟨g, 0, none⟩ ∧ ∀ Z, Turn [] w Z → Z.cell? ⟨g, j * 6, none⟩ = some (.int .i64 rs[j].off) ∧ Z.cell? ⟨g, j * 6 + 1, none⟩ = some (.int .i64 rs[j].time) ∧ Z.cell? ⟨g, j * 6 + 2, none⟩ = some (.bool rs[j].keyed) ∧ Z.cell? ⟨g, j * 6 + 3, none⟩ = some (.string ⟨rs[j].key.toArray⟩) ∧ Z.cell? ⟨g, j * 6 + 4, none⟩ = some (.bool rs[j].gone) ∧ Z.cell? ⟨g, j * 6 + 5, none⟩ = some (.string ⟨rs[j].value.toArray⟩) := by
  obtain ⟨g, cap, e, hc, -⟩ := h.at recC_len (j := j) hj
  simp only [Value.slice.injEq, true_and] at e
  obtain ⟨rfl, rfl⟩ := e
  refine ⟨g, rfl, fun Z hZ => ?_⟩
  obtain ⟨g', cap', e, hc', -⟩ := (h.still hZ).at recC_len (j := j) hj
  simp only [Value.slice.injEq, Option.some.injEq, Addr.mk.injEq, and_true] at e
  obtain ⟨rfl, -⟩ := e
  exact ⟨hc' 0 (by omega), hc' 1 (by omega), hc' 2 (by omega), hc' 3 (by omega), hc' 4 (by omega), hc' 5 (by omega)⟩
set_option maxHeartbeats 16000000 in
theorem compacts_any (W : World) (a x y : Int) (v1 : Value) (rss : List (List Bt.Rec)) (h1 : RecssAt W v1 rss) (hv : Sn.VarT W) (hg : As.ErrT W) :
    Calls Tryz.prog 3 #[.int .i64 a, v1, .int .i64 x, .int .i64 y] W fun e w' => e = .returned (.bool true) ∧ Below W.heap.size W w' := by
  obtain ⟨a1, c1, rfl, hlc1, hcm1⟩ := h1.form
  have hmx : maxLen = 9223372036854775807 := by simp [maxLen]
  rw [hmx] at hcm1
  have H1 := hide h1
  have HV := hide hv
  have HG := hide hg
  clear h1 hv hg
  by_cases hl : 20 < (rss.length : Int)
  · go_enter Tryz.func3, Tryz.ntmps3
    go_wp2
    go_ret
    exact ⟨rfl, Below.refl _ _⟩
  go_enter Tryz.func3, Tryz.ntmps3
  go_wp2_with fail
  refine (pickN_any x 1000 (by omega) (by omega) W).mono ?_
  rintro e w0 ⟨⟨now, hnow, rfl⟩, rfl⟩
  go_wp2_with fail
  refine (pickN_any y 1000 (by omega) (by omega) W).mono ?_
  rintro e w0 ⟨⟨age, hage, rfl⟩, rfl⟩
  go_wp2_with fail
  refine (Dk.new_ok 1048576 (by omega) W W.heap.size (Nat.le_refl _)).mono ?_
  rintro e w1 ⟨rfl, hd1, ht1⟩
  have HT1 := hide ht1
  go_wp2_with fail
  refine (logged_any _ (HV.out.below HT1.out.nil) (HG.out.below HT1.out.nil)).mono ?_
  rintro e w2 ⟨rfl, ht2⟩
  have HD2 := hide (hd1.kept ht2 (by simp))
  have HT2 := hide (HT1.out.same ht2)
  clear hd1 ht1 ht2
  go_wp2_with fail
  refine (pickN_any a 400 (by omega) (by omega) w2).mono ?_
  rintro e w3 ⟨⟨q, hq, rfl⟩, rfl⟩
  obtain ⟨h1, h2, h3'⟩ := GInv.first 1048576 0 (by omega)
  have hop := open_fresh w2 W.heap.size W.heap.size [W.heap.size] (DA.empty 1048576) HD2.out dirP (by decide) (100 + q) 0 (by omega) (by omega) (by omega) h1 h2 (fun Z hZ => (HV.out.below ((HT2.out.trans hZ (fun k hk => .inr (by simp at hk; omega))).nil)).tab) (fun Z lb _ hL => find_none Z _ _ _ _ lb _ _ _ _ hL (by decide) (names_empty _ _))
  rw [show (((100 + q : Nat)) : Int) = 100 + (q : Int) by omega] at hop
  have HOP := hide hop
  have HGI := hide h3'
  clear h1 h2 h3' hop
  go_wp2_with fail
  refine HOP.out.mono ?_
  rintro e w4 ⟨lb, F4, gv4, m4, rfl, hl4, hm4, ht4, hf4⟩
  have hst0 : LSt W w4 lb (100 + q) 0 0 := ⟨⟨F4, gv4, _, [], m4, _, [], (0, []), hl4, ⟨rfl, hm4⟩, by simpa using HGI.out, ⟨rfl, by simp, rfl⟩, Nat.le_refl _, by simp [batsL, flat], rfl⟩, Nat.zero_le _, HT2.out.trans ht4 (fun k hk => .inr (by simp at hk; omega))⟩
  have HST0 := hide hst0
  clear hl4 hm4 ht4 hf4 hst0 HOP HGI
  go_wp2
  go_loopw [12] (fun iv wr => ∃ i nn : Nat, i ≤ rss.length ∧ iv = .int .i64 i ∧ LSt W wr lb (100 + q) i nn) (fun iv _ => rss.length - (intOf iv).toNat)
  case atStart => exact ⟨0, 0, Nat.zero_le _, rfl, HST0.out⟩
  case round =>
    obtain ⟨i, nn, hi, rfl, hls⟩ := hrel
    have HS := hide hls
    clear hls
    by_cases hlt : i < rss.length
    · obtain ⟨p, c, sj, he, hcell, hrec⟩ := H1.out.at_ wr HS.out.turn i hlt
      simp only [Value.slice.injEq, true_and] at he
      obtain ⟨rfl, rfl⟩ := he
      obtain ⟨ra, rc, rfl, hrlc, hrcm, -⟩ := hrec.form
      obtain ⟨rs, hrs⟩ : ∃ rs, rs = rss[i] := ⟨_, rfl⟩
      rw [← hrs] at hrec hcell hrlc
      have HREC := hide hrec
      rw [hmx] at hrcm
      clear hrec hrs
      by_cases h60 : 60 < (rs.length : Int)
      · go_wp2_with fail
        go_ret
        exact ⟨rfl, HS.out.turn.nil⟩
      · have hadd := HS.out.add (by omega) (by omega) HV.out HG.out (.slice ra rs.length rc) rs HREC.out (by omega)
        have HADD := hide hadd
        clear hadd
        go_wp2_with fail
        refine HADD.out.mono ?_
        rintro e w5 ⟨x5, c5, nn5, rfl, hst5⟩
        have HST5 := hide hst5
        clear hst5 HADD
        go_wp2
        all_goals refine ⟨⟨i + 1, nn5, by omega, by go_num, HST5.out⟩, ?_⟩
        all_goals (simp only [intOf]; omega)
    · obtain ⟨ss0, mm, G, hds, hnn, hG⟩ := HS.out.cst (by omega)
      obtain ⟨f, hf⟩ : ∃ f, f = lastF (recsL (batsL (ss0 ++ [mm]))) := ⟨_, rfl⟩
      obtain ⟨A0, hinv⟩ := hds.inv
      have htwice := gone_twice hinv now age f hf
      have hsort := recs_sorted hinv.chain
      have hgel := recs_ge hinv.chain
      have hstay := recs_stay f now age ss0 mm
      have hgone := gone_recs f now age (batsL ss0)
      have hfew := hinv.few
      have hok0 := hds.recOk
      obtain ⟨R, hR⟩ : ∃ R, R = recsL (batsL (ss0 ++ [mm])) := ⟨_, rfl⟩
      obtain ⟨P, hP⟩ : ∃ P, P = recsL (batsL ss0) := ⟨_, rfl⟩
      obtain ⟨Q, hQ⟩ : ∃ Q, Q = recsL mm.2 := ⟨_, rfl⟩
      have hRPQ : R = P ++ Q := by rw [hR, hP, hQ, batsL_snoc, recsL_append]
      obtain ⟨gn, hgn⟩ : ∃ gn, gn = goneB f now age (batsL ss0) := ⟨_, rfl⟩
      rw [← hP, ← hQ] at hstay
      rw [← hP, ← hgn] at hgone
      rw [← hR] at hsort hgel hfew hok0 hf
      have HIN := hide (And.intro hsort (And.intro hgel (And.intro hok0 hRPQ)))
      have HF := hide hf
      have HRR := hide hR
      have HGN := hide hgn
      have HTWI := hide htwice
      have HSTAY := hide hstay
      have HDS := hide hds
      have HGB := hide hG
      have HTW := hide HS.out.turn
      have hsum : (staysL f now age P ++ Q).length + gn = R.length := by rw [hRPQ, List.length_append, List.length_append]; omega
      clear hds hG HS hinv htwice hsort hgel hstay hgone hok0 hf hR hP hQ hRPQ hgn
      go_wp2_with fail
      refine (all_c HDS.out (by omega) 500 (by omega)).mono ?_
      rintro e w5 ⟨ov, rfl, hov, ht5⟩
      rw [← HRR.out] at hov
      obtain ⟨oa, oc, hoe, holc, hocm⟩ := hov.form
      subst hoe
      rw [hmx] at hocm
      obtain ⟨G5, hd5, hb5, hk5⟩ := (HDS.out.still ht5).fresh
      have HT5 := hide (HTW.out.same ht5)
      have hc5 := compact_c hd5 HT5.out (Nat.le_refl _) HG.out now age (by omega) (by omega) f (by rw [← HRR.out]; exact HF.out)
      rw [← HGN.out] at hc5
      have HOV := hide hov
      have HC5 := hide hc5
      have HB5 := hide hb5
      have HK5 := hide hk5
      clear hov ht5 hd5 hb5 hk5 hc5 HDS
      go_wp2_with fail
      refine HC5.out.mono ?_
      rintro e w6 ⟨rfl, hd6⟩
      have ht56 := hd6.turn
      have HT6 := hide (HT5.out.trans ht56 (fun k hk => .inr (HB5.out k hk)))
      have HOV6 := hide (HOV.out.kept ht56 (fun k hk => by
        obtain ⟨cs, e⟩ := HOV.out.kind k hk
        exact HK5.out k cs _ _ e (.inl rfl)))
      have HD6 := hide hd6
      clear hd6 ht56 HC5 HB5 HK5 HOV
      go_wp2_with fail
      refine (all_c HD6.out (by omega) 500 (by omega)).mono ?_
      rintro e w7 ⟨iv, rfl, hiv, ht7⟩
      rw [HSTAY.out] at hiv
      obtain ⟨I, hI⟩ : ∃ I, I = staysL f now age P ++ Q := ⟨_, rfl⟩
      rw [← hI] at hiv hsum
      have HI := hide hI
      obtain ⟨ia, ic, hie, hilc, hicm⟩ := hiv.form
      subst hie
      rw [hmx] at hicm
      obtain ⟨G7, hd7, hb7, hk7⟩ := (HD6.out.still ht7).fresh
      have HT7 := hide (HT6.out.same ht7)
      have hc7 := compact_c hd7 HT7.out (Nat.le_refl _) HG.out now age (by omega) (by omega) _ rfl
      rw [HTWI.out] at hc7
      have HOV7 := hide (HOV6.out.still ht7)
      have HIV := hide hiv
      have HC7 := hide hc7
      have HB7 := hide hb7
      have HK7 := hide hk7
      clear hiv ht7 hd7 hb7 hk7 hc7 HD6 hI HOV6 HTWI
      go_wp2_with fail
      refine HC7.out.mono ?_
      rintro e w8 ⟨rfl, hd8⟩
      have ht78 := hd8.turn
      have HT8 := hide (HT7.out.trans ht78 (fun k hk => .inr (HB7.out k hk)))
      have HOV8 := hide (HOV7.out.kept ht78 (fun k hk => by
        obtain ⟨cs, e⟩ := HOV7.out.kind k hk
        exact HK7.out k cs _ _ e (.inl rfl)))
      have HIV8 := hide (HIV.out.kept ht78 (fun k hk => by
        obtain ⟨cs, e⟩ := HIV.out.kind k hk
        exact HK7.out k cs _ _ e (.inl rfl)))
      clear hd8 ht78 HC7 HB7 HK7 HOV7 HIV
      have hsumi : (I.length : Int) + (gn : Int) = (R.length : Int) := by omega
      have hsumb : IntKind.i64.wrap ((I.length : Int) + (gn : Int)) = (R.length : Int) := by rw [IntWalk.i64_in _ (by omega)]; exact hsumi
      have hRI : R.length ≤ 4000 ∧ I.length ≤ 4000 := by omega
      have hkl := keepLatest_any w8 wr.heap.size oa oc R HOV8.out HIN.out.2.2.1 (by omega)
      have HKL := hide hkl
      clear hkl hsumi hsum
      go_wp2_with fail
      refine HKL.out.mono ?_
      rintro e w9 ⟨mb, n9, rfl, him, hmb, ht9⟩
      rw [← HF.out] at him
      have HIM := hide him
      have HOV9 := hide (HOV8.out.still ht9)
      have HIV9 := hide (HIV8.out.still ht9)
      have HT9 := hide (HT8.out.same ht9)
      clear him hmb ht9 HOV8 HIV8 HKL hsumb
      go_wp2
      obtain ⟨hR4, hI4⟩ := hRI
      go_loopw [21, 22] (fun kv iv wr => ∃ k i : Nat, i ≤ R.length ∧ k ≤ I.length ∧ kv = .int .i64 k ∧ iv = .int .i64 i ∧ I.drop k = restL f now age P Q i ∧ Turn [] w9 wr) (fun _ iv _ => R.length - (intOf iv).toNat)
      case atStart => exact ⟨0, 0, Nat.zero_le _, Nat.zero_le _, rfl, rfl, by rw [List.drop_zero, HI.out, rest_zero], Turn.refl _ _⟩
      case round =>
        obtain ⟨k, i, hi, hk, rfl, rfl, hrest, htw⟩ := hrel
        have HTX := hide htw
        have HREST := hide hrest
        clear htw hrest
        by_cases hlt : i < R.length
        · obtain ⟨hsort, hgel, hok0, hRPQ⟩ := HIN.out
          have hst : restL f now age P Q i = R[i] :: restL f now age P Q (i + 1) ∨ (goesC f now age R[i] = true ∧ restL f now age P Q i = restL f now age P Q (i + 1) ∧ ∀ x ∈ restL f now age P Q i, R[i].off < x.off) := by
            have h := rest_step (f := f) (now := now) (age := age) (P := P) (Q := Q) (by rw [← hRPQ]; exact hsort) (i := i) (by rw [← hRPQ]; exact hlt)
            have e : (P ++ Q)[i]'(by rw [← hRPQ]; exact hlt) = R[i] := by simp only [hRPQ]
            rw [e] at h
            exact h
          obtain ⟨g, rfl, hcr⟩ := rec_cells (HOV9.out.still HTX.out) hlt
          have hrk := hok0 R[i] (List.getElem_mem _)
          have hge := lastF_ge hsort (fun r hr => by have := hgel r hr; omega) R[i] (List.getElem_mem _)
          rw [← HF.out] at hge
          obtain ⟨r, hr⟩ : ∃ r, r = R[i] := ⟨_, rfl⟩
          rw [← hr] at hst hcr hrk hge
          obtain ⟨c0, c1', c2, c3, c4, c5⟩ := hcr wr (Turn.refl _ _)
          obtain ⟨Z, hZ⟩ : ∃ Z, Z = wr.heap.size := ⟨_, rfl⟩
          obtain ⟨wq, hwq⟩ : ∃ wq, wq = wr.alloc (.cells #[.int .i64 r.off, .int .i64 r.time, .bool r.keyed, .string ⟨r.key.toArray⟩, .bool r.gone, .string ⟨r.value.toArray⟩] 42) := ⟨_, rfl⟩
          have hal : Turn [] wr wq := by rw [hwq]; exact (Turn.refl [] wr).alloc _
          have hbq : wq.heap[Z]? = some (.cells #[.int .i64 r.off, .int .i64 r.time, .bool r.keyed, .string ⟨r.key.toArray⟩, .bool r.gone, .string ⟨r.value.toArray⟩] 42 (0, 0)) := by rw [hwq, hZ]; exact heap_new wr _
          have hbx : ∀ X, Turn [] wq X → X.cell? ⟨Z, 0, none⟩ = some (.int .i64 r.off) ∧ X.cell? ⟨Z, 1, none⟩ = some (.int .i64 r.time) ∧ X.cell? ⟨Z, 2, none⟩ = some (.bool r.keyed) ∧ X.cell? ⟨Z, 3, none⟩ = some (.string ⟨r.key.toArray⟩) ∧ X.cell? ⟨Z, 4, none⟩ = some (.bool r.gone) ∧ X.cell? ⟨Z, 5, none⟩ = some (.string ⟨r.value.toArray⟩) := by
            intro X hX
            have h := hX.heap hbq (by simp)
            exact ⟨by rw [cell_of h]; rfl, by rw [cell_of h]; rfl, by rw [cell_of h]; rfl, by rw [cell_of h]; rfl, by rw [cell_of h]; rfl, by rw [cell_of h]; rfl⟩
          have HBX := hide hbx
          have HST := hide hst
          have HRK := hide hrk
          have HGE := hide hge
          have HZ := hide hZ
          have HWQ := hide hwq
          have HTQ := hide (HTX.out.same hal)
          have hii : (i : Int) < (R.length : Int) := by omega
          clear hst hcr hrk hge hr hZ hwq hal hbq hbx hsort hgel hok0 hRPQ
          go_upto_region 30 with fail
          rw [show wr.alloc (.cells #[.int .i64 r.off, .int .i64 r.time, .bool r.keyed, .string ⟨r.key.toArray⟩, .bool r.gone, .string ⟨r.value.toArray⟩] 42) = wq from HWQ.out.symm, ← HZ.out]
          clear c0 c1' c2 c3 c4 c5
          rcases HST.out with h | ⟨hgo, he, hlo⟩
          · have hd := HREST.out
            rw [h] at hd
            have hki : k < I.length := by
              rcases Nat.lt_or_ge k I.length with h | h
              · exact h
              · rw [List.drop_of_length_le h] at hd; simp at hd
            have hd2 := List.drop_eq_getElem_cons hki
            rw [hd2] at hd
            obtain ⟨hx, hd3⟩ := List.cons.inj hd
            obtain ⟨g2, rfl, hcx⟩ := rec_cells (HIV9.out.still HTQ.out) hki
            rw [hx] at hcx
            have HCX := hide hcx
            have HD3 := hide hd3
            have hkii : (k : Int) < (I.length : Int) := by omega
            clear h hd hd2 hx hd3 hcx
            go_wp2
            refine wp_region_loose (Turn []) (by kernel_rfl) (by kernel_rfl) (by kernel_rfl) (by kernel_rfl) rfl (Turn.refl _) (fun _ _ _ h k => h.same k) ?_
            apply Lo.runx 1 rfl rfl [] (by kernel_rfl) (Turn.refl _)
            apply Exists.intro; apply And.intro
            · intro u w1 hR hF
              clear hF
              refine ⟨rfl, fun a ha K hK => ?_⟩
              have e21 := ha 21
              conv at e21 => rhs; whnf
              clear ha
              go_simp
              refine hK _ ?_; rfl
            apply Lo.runx 2 rfl rfl [] (by kernel_rfl) (Turn.refl _)
            apply Exists.intro; apply And.intro
            · intro u w1 hR hF
              clear hF
              refine ⟨rfl, fun a ha K hK => ?_⟩
              have e16 := ha 16
              conv at e16 => rhs; whnf
              clear ha
              go_simp
              refine hK _ ?_; rfl
            apply Lo.runx 3 rfl rfl [1] (by kernel_rfl) (Turn.refl _)
            apply Exists.intro; apply And.intro
            · intro u w1 hR hF
              obtain ⟨h1, -⟩ := hF
              refine ⟨rfl, fun a ha K hK => ?_⟩
              have e135 := (ha 135).trans h1
              clear ha h1
              go_simp
              refine hK _ ?_; rfl
            refine Lo.runv 4 rfl rfl [0, 2] (.bool (true)) (by kernel_rfl) (fun u w1 hR hF => ?_) (Turn.refl _) ?_
            · obtain ⟨h0, h2, -⟩ := hF
              refine ⟨rfl, fun a ha K hK => ?_⟩
              have e134 := (ha 134).trans h0
              have e136 := (ha 136).trans h2
              clear ha h0 h2
              go_simp
              refine hK _ ?_
              first | (simp; done) | (simp; omega)
            apply Lo.runx 5 rfl rfl [3] (by kernel_rfl) (Turn.refl _)
            apply Exists.intro; apply And.intro
            · intro u w1 hR hF
              obtain ⟨h3, -⟩ := hF
              refine ⟨rfl, fun a ha K hK => ?_⟩
              have e137 := (ha 137).trans h3
              clear ha h3
              go_simp
              refine hK _ ?_; rfl
            apply Lo.runx 6 rfl rfl [4] (by kernel_rfl) (Turn.refl _)
            apply Exists.intro; apply And.intro
            · intro u w1 hR hF
              obtain ⟨h4, -⟩ := hF
              refine ⟨.inl ⟨true, h4, rfl⟩, fun a ha K hK => ?_⟩
              have e16 := ha 16
              conv at e16 => rhs; whnf
              clear ha h4
              go_simp
              refine hK _ ?_; rfl
            apply Lo.runx 7 rfl rfl [4] (by kernel_rfl) (Turn.refl _)
            apply Exists.intro; apply And.intro
            · intro u w1 hR hF
              obtain ⟨h4, -⟩ := hF
              refine ⟨.inl ⟨true, h4, rfl⟩, fun a ha K hK => ?_⟩
              have e21 := ha 21
              conv at e21 => rhs; whnf
              clear ha h4
              go_simp
              refine hK _ ?_; rfl
            apply Lo.runx 8 rfl rfl [4, 5, 6] (by kernel_rfl) (Turn.refl _)
            apply Exists.intro; apply And.intro
            · intro u w1 hR hF
              obtain ⟨h4, h5, h6, -⟩ := hF
              refine ⟨.inl ⟨true, h4, rfl⟩, fun a ha K hK => ?_⟩
              have e139 := (ha 139).trans h5
              have e140 := (ha 140).trans h6
              clear ha h4 h5 h6
              go_simp
              refine hK _ ?_; rfl
            apply Lo.runx 9 rfl rfl [4, 7] (by kernel_rfl) (Turn.refl _)
            apply Exists.intro; apply And.intro
            · intro u w1 hR hF
              obtain ⟨h4, h7, -⟩ := hF
              refine ⟨.inl ⟨true, h4, rfl⟩, fun a ha K hK => ?_⟩
              have e141 := (ha 141).trans h7
              clear ha h4 h7
              obtain ⟨q0, q1, q2, q3, q4, q5⟩ := HCX.out w1 (((Turn.refl [] _).drew).same hR)
              go_simp
              refine hK _ ?_; rfl
            apply Lo.runx 10 rfl rfl [4] (by kernel_rfl) (Turn.refl _)
            apply Exists.intro; apply And.intro
            · intro u w1 hR hF
              obtain ⟨h4, -⟩ := hF
              refine ⟨.inl ⟨true, h4, rfl⟩, fun a ha K hK => ?_⟩
              have e23 := ha 23
              conv at e23 => rhs; whnf
              clear ha h4
              obtain ⟨q0, q1, q2, q3, q4, q5⟩ := HBX.out w1 (((Turn.refl [] _).drew).same hR)
              go_simp
              refine hK _ ?_; rfl
            refine Lo.runv 11 rfl rfl [4, 8, 9] (.bool (true)) (by kernel_rfl) (fun u w1 hR hF => ?_) (Turn.refl _) ?_
            · obtain ⟨h4, h8, h9, -⟩ := hF
              refine ⟨.inl ⟨true, h4, rfl⟩, fun a ha K hK => ?_⟩
              have e142 := (ha 142).trans h8
              have e143 := (ha 143).trans h9
              clear ha h4 h8 h9
              go_simp
              refine hK _ ?_
              simp
            apply Lo.runx 12 rfl rfl [4, 10] (by kernel_rfl) (Turn.refl _)
            apply Exists.intro; apply And.intro
            · intro u w1 hR hF
              obtain ⟨h4, h10, -⟩ := hF
              refine ⟨rfl, fun a ha K hK => ?_⟩
              have e138 := (ha 138).trans h4
              have e144 := (ha 144).trans h10
              clear ha h4 h10
              go_simp
              refine hK _ ?_; rfl
            refine Lo.done [11] (fun u w1 hRd hSd hF => ?_)
            clear hSd
            obtain ⟨f11, -⟩ := hF
            have d11 : u 11 = _ := f11
            clear f11
            simp only [putFrom, Act.put, List.setIfInBounds_toArray, List.set_cons_succ, List.set_cons_zero, Nat.zero_add, Nat.reduceAdd, d11]
            have htw1 : Turn [] wq w1 := ((Turn.refl [] wq).drew).same hRd
            have HT1X := hide ((HTQ.out.mono (T := []) (by simp)).same htw1)
            clear htw1 hRd
            go_wp2
            all_goals refine ⟨⟨k + 1, i + 1, by omega, by omega, by go_num, by go_num, HD3.out, HT1X.out⟩, ?_⟩
            all_goals (simp only [intOf]; omega)
          · have hkd : r.keyed = true := by
              unfold goesC at hgo
              cases h : r.keyed with
              | true => rfl
              | false => rw [h] at hgo; simp at hgo
            have hgq : f r.key = r.off → r.gone = true ∧ r.time < (now : Int) - (age : Int) := by
              intro h
              unfold goesC at hgo
              rw [hkd] at hgo
              simp only [Bool.true_and, Bool.or_eq_true, decide_eq_true_eq, Bool.and_eq_true] at hgo
              rcases hgo with h1 | ⟨h1, h2⟩
              · omega
              · rw [IntWalk.wrap64_in _ (by omega)] at h2
                exact ⟨h1, h2⟩
            have hee := HREST.out.trans he
            have HKD := hide hkd
            have HGQ := hide hgq
            have HE := hide hee
            by_cases hki : k < I.length
            · have hd2 := List.drop_eq_getElem_cons hki
              have hxo : r.off < I[k].off := hlo I[k] (by rw [← HREST.out, hd2]; exact List.mem_cons_self)
              obtain ⟨g2, rfl, hcx⟩ := rec_cells (HIV9.out.still HTQ.out) hki
              obtain ⟨z, hz⟩ : ∃ z, z = I[k] := ⟨_, rfl⟩
              rw [← hz] at hxo hcx
              have HCX := hide hcx
              have hkii : (k : Int) < (I.length : Int) := by omega
              have hne : ¬ z.off = r.off := by omega
              have HNE := hide hne
              clear hd2 hcx hz hkd hgq hee hgo he hlo hne
              go_wp2
              refine wp_region_loose (Turn []) (by kernel_rfl) (by kernel_rfl) (by kernel_rfl) (by kernel_rfl) rfl (Turn.refl _) (fun _ _ _ h k => h.same k) ?_
              apply Lo.runx 1 rfl rfl [] (by kernel_rfl) (Turn.refl _)
              apply Exists.intro; apply And.intro
              · intro u w1 hR hF
                clear hF
                refine ⟨rfl, fun a ha K hK => ?_⟩
                have e21 := ha 21
                conv at e21 => rhs; whnf
                clear ha
                go_simp
                refine hK _ ?_; rfl
              apply Lo.runx 2 rfl rfl [] (by kernel_rfl) (Turn.refl _)
              apply Exists.intro; apply And.intro
              · intro u w1 hR hF
                clear hF
                refine ⟨rfl, fun a ha K hK => ?_⟩
                have e16 := ha 16
                conv at e16 => rhs; whnf
                clear ha
                go_simp
                refine hK _ ?_; rfl
              apply Lo.runx 3 rfl rfl [1] (by kernel_rfl) (Turn.refl _)
              apply Exists.intro; apply And.intro
              · intro u w1 hR hF
                obtain ⟨h1, -⟩ := hF
                refine ⟨rfl, fun a ha K hK => ?_⟩
                have e135 := (ha 135).trans h1
                clear ha h1
                go_simp
                refine hK _ ?_; rfl
              refine Lo.runv 4 rfl rfl [0, 2] (.bool (true)) (by kernel_rfl) (fun u w1 hR hF => ?_) (Turn.refl _) ?_
              · obtain ⟨h0, h2, -⟩ := hF
                refine ⟨rfl, fun a ha K hK => ?_⟩
                have e134 := (ha 134).trans h0
                have e136 := (ha 136).trans h2
                clear ha h0 h2
                go_simp
                refine hK _ ?_
                first | (simp; done) | (simp; omega)
              apply Lo.runx 5 rfl rfl [3] (by kernel_rfl) (Turn.refl _)
              apply Exists.intro; apply And.intro
              · intro u w1 hR hF
                obtain ⟨h3, -⟩ := hF
                refine ⟨rfl, fun a ha K hK => ?_⟩
                have e137 := (ha 137).trans h3
                clear ha h3
                go_simp
                refine hK _ ?_; rfl
              apply Lo.runx 6 rfl rfl [4] (by kernel_rfl) (Turn.refl _)
              apply Exists.intro; apply And.intro
              · intro u w1 hR hF
                obtain ⟨h4, -⟩ := hF
                refine ⟨.inl ⟨true, h4, rfl⟩, fun a ha K hK => ?_⟩
                have e16 := ha 16
                conv at e16 => rhs; whnf
                clear ha h4
                go_simp
                refine hK _ ?_; rfl
              apply Lo.runx 7 rfl rfl [4] (by kernel_rfl) (Turn.refl _)
              apply Exists.intro; apply And.intro
              · intro u w1 hR hF
                obtain ⟨h4, -⟩ := hF
                refine ⟨.inl ⟨true, h4, rfl⟩, fun a ha K hK => ?_⟩
                have e21 := ha 21
                conv at e21 => rhs; whnf
                clear ha h4
                go_simp
                refine hK _ ?_; rfl
              apply Lo.runx 8 rfl rfl [4, 5, 6] (by kernel_rfl) (Turn.refl _)
              apply Exists.intro; apply And.intro
              · intro u w1 hR hF
                obtain ⟨h4, h5, h6, -⟩ := hF
                refine ⟨.inl ⟨true, h4, rfl⟩, fun a ha K hK => ?_⟩
                have e139 := (ha 139).trans h5
                have e140 := (ha 140).trans h6
                clear ha h4 h5 h6
                go_simp
                refine hK _ ?_; rfl
              apply Lo.runx 9 rfl rfl [4, 7] (by kernel_rfl) (Turn.refl _)
              apply Exists.intro; apply And.intro
              · intro u w1 hR hF
                obtain ⟨h4, h7, -⟩ := hF
                refine ⟨.inl ⟨true, h4, rfl⟩, fun a ha K hK => ?_⟩
                have e141 := (ha 141).trans h7
                clear ha h4 h7
                obtain ⟨q0, q1, q2, q3, q4, q5⟩ := HCX.out w1 (((Turn.refl [] _).drew).same hR)
                go_simp
                refine hK _ ?_; rfl
              apply Lo.runx 10 rfl rfl [4] (by kernel_rfl) (Turn.refl _)
              apply Exists.intro; apply And.intro
              · intro u w1 hR hF
                obtain ⟨h4, -⟩ := hF
                refine ⟨.inl ⟨true, h4, rfl⟩, fun a ha K hK => ?_⟩
                have e23 := ha 23
                conv at e23 => rhs; whnf
                clear ha h4
                obtain ⟨q0, q1, q2, q3, q4, q5⟩ := HBX.out w1 (((Turn.refl [] _).drew).same hR)
                go_simp
                refine hK _ ?_; rfl
              refine Lo.runv 11 rfl rfl [4, 8, 9] (.bool (false)) (by kernel_rfl) (fun u w1 hR hF => ?_) (Turn.refl _) ?_
              · obtain ⟨h4, h8, h9, -⟩ := hF
                refine ⟨.inl ⟨true, h4, rfl⟩, fun a ha K hK => ?_⟩
                have e142 := (ha 142).trans h8
                have e143 := (ha 143).trans h9
                clear ha h4 h8 h9
                have hne := HNE.out
                go_simp
                refine hK _ ?_
                simp
              apply Lo.runx 12 rfl rfl [4, 10] (by kernel_rfl) (Turn.refl _)
              apply Exists.intro; apply And.intro
              · intro u w1 hR hF
                obtain ⟨h4, h10, -⟩ := hF
                refine ⟨rfl, fun a ha K hK => ?_⟩
                have e138 := (ha 138).trans h4
                have e144 := (ha 144).trans h10
                clear ha h4 h10
                go_simp
                refine hK _ ?_; rfl
              refine Lo.done [11] (fun u w1 hRd hSd hF => ?_)
              clear hSd
              obtain ⟨f11, -⟩ := hF
              have d11 : u 11 = _ := f11
              clear f11
              simp only [putFrom, Act.put, List.setIfInBounds_toArray, List.set_cons_succ, List.set_cons_zero, Nat.zero_add, Nat.reduceAdd, d11]
              have htw1 : Turn [] wq w1 := ((Turn.refl [] wq).drew).same hRd
              obtain ⟨q0, q1, q2, q3, q4, q5⟩ := HBX.out w1 htw1
              have htx := HTQ.out.same htw1
              have HT1X := hide htx
              have hlook := (HIM.out.still htx).look (s := ⟨r.key.toArray⟩) (by rw [hmx]; show r.key.toArray.size ≤ _; have := HRK.out.key; simpa using this)
              rw [show (⟨r.key.toArray⟩ : ByteArray).data.toList = r.key from by simp] at hlook
              rw [HKD.out] at q2
              have hzz : Z < w1.heap.size := World.block_lt_of_cell? _ _ q0
              clear htw1 hRd htx
              by_cases heq : f r.key = r.off
              · obtain ⟨h1, h2⟩ := HGQ.out heq
                rw [h1] at q4
                have hb : (f r.key == r.off) = true := by simp [heq]
                have hw : IntKind.i64.wrap ((now : Int) - (age : Int)) = (now : Int) - (age : Int) := IntWalk.i64_in _ (by omega)
                have HEQ := hide heq
                clear heq h1
                go_wp2
                all_goals refine ⟨⟨k, i + 1, by omega, hk, rfl, by go_num, HE.out, HT1X.out⟩, ?_⟩
                all_goals (simp only [intOf]; omega)
              · have hb : (f r.key == r.off) = false := by simpa using heq
                clear heq
                go_wp2
                all_goals refine ⟨⟨k, i + 1, by omega, hk, rfl, by go_num, HE.out, HT1X.out⟩, ?_⟩
                all_goals (simp only [intOf]; omega)
            · have hkii : ¬ (k : Int) < (I.length : Int) := by omega
              clear hkd hgq hee hgo he hlo
              go_wp2
              refine wp_region_loose (Turn []) (by kernel_rfl) (by kernel_rfl) (by kernel_rfl) (by kernel_rfl) rfl (Turn.refl _) (fun _ _ _ h k => h.same k) ?_
              apply Lo.runx 1 rfl rfl [] (by kernel_rfl) (Turn.refl _)
              apply Exists.intro; apply And.intro
              · intro u w1 hR hF
                clear hF
                refine ⟨rfl, fun a ha K hK => ?_⟩
                have e21 := ha 21
                conv at e21 => rhs; whnf
                clear ha
                go_simp
                refine hK _ ?_; rfl
              apply Lo.runx 2 rfl rfl [] (by kernel_rfl) (Turn.refl _)
              apply Exists.intro; apply And.intro
              · intro u w1 hR hF
                clear hF
                refine ⟨rfl, fun a ha K hK => ?_⟩
                have e16 := ha 16
                conv at e16 => rhs; whnf
                clear ha
                go_simp
                refine hK _ ?_; rfl
              apply Lo.runx 3 rfl rfl [1] (by kernel_rfl) (Turn.refl _)
              apply Exists.intro; apply And.intro
              · intro u w1 hR hF
                obtain ⟨h1, -⟩ := hF
                refine ⟨rfl, fun a ha K hK => ?_⟩
                have e135 := (ha 135).trans h1
                clear ha h1
                go_simp
                refine hK _ ?_; rfl
              refine Lo.runv 4 rfl rfl [0, 2] (.bool (false)) (by kernel_rfl) (fun u w1 hR hF => ?_) (Turn.refl _) ?_
              · obtain ⟨h0, h2, -⟩ := hF
                refine ⟨rfl, fun a ha K hK => ?_⟩
                have e134 := (ha 134).trans h0
                have e136 := (ha 136).trans h2
                clear ha h0 h2
                go_simp
                refine hK _ ?_
                first | (simp; done) | (simp; omega)
              apply Lo.runx 5 rfl rfl [3] (by kernel_rfl) (Turn.refl _)
              apply Exists.intro; apply And.intro
              · intro u w1 hR hF
                obtain ⟨h3, -⟩ := hF
                refine ⟨rfl, fun a ha K hK => ?_⟩
                have e137 := (ha 137).trans h3
                clear ha h3
                go_simp
                refine hK _ ?_; rfl
              refine Lo.pass 6 rfl rfl [4] (by kernel_rfl) (Turn.refl _) (fun u w1 hR hF => ?_) ?_
              · exact .inl ⟨false, hF.1, rfl⟩
              refine Lo.pass 7 rfl rfl [4] (by kernel_rfl) (Turn.refl _) (fun u w1 hR hF => ?_) ?_
              · exact .inl ⟨false, hF.1, rfl⟩
              refine Lo.pass 8 rfl rfl [4] (by kernel_rfl) (Turn.refl _) (fun u w1 hR hF => ?_) ?_
              · exact .inl ⟨false, hF.1, rfl⟩
              refine Lo.pass 9 rfl rfl [4] (by kernel_rfl) (Turn.refl _) (fun u w1 hR hF => ?_) ?_
              · exact .inl ⟨false, hF.1, rfl⟩
              refine Lo.pass 10 rfl rfl [4] (by kernel_rfl) (Turn.refl _) (fun u w1 hR hF => ?_) ?_
              · exact .inl ⟨false, hF.1, rfl⟩
              refine Lo.pass 11 rfl rfl [4] (by kernel_rfl) (Turn.refl _) (fun u w1 hR hF => ?_) ?_
              · exact .inl ⟨false, hF.1, rfl⟩
              apply Lo.runx 12 rfl rfl [4, 10] (by kernel_rfl) (Turn.refl _)
              apply Exists.intro; apply And.intro
              · intro u w1 hR hF
                obtain ⟨h4, h10, -⟩ := hF
                refine ⟨rfl, fun a ha K hK => ?_⟩
                have e138 := (ha 138).trans h4
                have e144 := (ha 144).trans h10
                clear ha h4 h10
                go_simp
                refine hK _ ?_; rfl
              refine Lo.done [11] (fun u w1 hRd hSd hF => ?_)
              clear hSd
              obtain ⟨f11, -⟩ := hF
              have d11 : u 11 = _ := f11
              clear f11
              simp only [putFrom, Act.put, List.setIfInBounds_toArray, List.set_cons_succ, List.set_cons_zero, Nat.zero_add, Nat.reduceAdd, d11]
              have htw1 : Turn [] wq w1 := ((Turn.refl [] wq).drew).same hRd
              obtain ⟨q0, q1, q2, q3, q4, q5⟩ := HBX.out w1 htw1
              have htx := HTQ.out.same htw1
              have HT1X := hide htx
              have hlook := (HIM.out.still htx).look (s := ⟨r.key.toArray⟩) (by rw [hmx]; show r.key.toArray.size ≤ _; have := HRK.out.key; simpa using this)
              rw [show (⟨r.key.toArray⟩ : ByteArray).data.toList = r.key from by simp] at hlook
              rw [HKD.out] at q2
              have hzz : Z < w1.heap.size := World.block_lt_of_cell? _ _ q0
              clear htw1 hRd htx
              by_cases heq : f r.key = r.off
              · obtain ⟨h1, h2⟩ := HGQ.out heq
                rw [h1] at q4
                have hb : (f r.key == r.off) = true := by simp [heq]
                have hw : IntKind.i64.wrap ((now : Int) - (age : Int)) = (now : Int) - (age : Int) := IntWalk.i64_in _ (by omega)
                have HEQ := hide heq
                clear heq h1
                go_wp2
                all_goals refine ⟨⟨k, i + 1, by omega, hk, rfl, by go_num, HE.out, HT1X.out⟩, ?_⟩
                all_goals (simp only [intOf]; omega)
              · have hb : (f r.key == r.off) = false := by simpa using heq
                clear heq
                go_wp2
                all_goals refine ⟨⟨k, i + 1, by omega, hk, rfl, by go_num, HE.out, HT1X.out⟩, ?_⟩
                all_goals (simp only [intOf]; omega)
        · obtain rfl : i = R.length := by omega
          have hz : restL f now age P Q R.length = [] := by
            have := rest_end f now age P Q
            rw [← HIN.out.2.2.2] at this
            exact this
          have hkl : k = I.length := by
            have h := congrArg List.length HREST.out
            rw [hz, List.length_drop] at h
            simp at h
            omega
          subst hkl
          have HT := hide (HT9.out.same HTX.out)
          clear hz
          go_wp2
          go_ret
          exact ⟨by simp, HT.out.nil⟩
end Go.Proofs.YthbhfhagbaommaaGreatDoor.Lg

/- What a row's listed variables give the walks: strconv's table and sentinels, errors.errorType, whatever else is listed, in whatever order. -/
namespace Go.Proofs.YthbhfhagbaommaaGreatDoor.Lv
open Go.RowKit
set_option maxRecDepth 100000
set_option linter.unusedSimpArgs false
set_option linter.unusedVariables false
theorem gTab : Tryz.prog.globalNamed "internal/strconv.uint64pow10" = some ((Tryz.prog.globalNamed "internal/strconv.uint64pow10").getD 0) := by kernel_rfl
theorem gTabT : (Tryz.prog.globals[(Tryz.prog.globalNamed "internal/strconv.uint64pow10").getD 0]?).map (·.type) = some 266 := by kernel_rfl
theorem cTab : Tryz.prog.cellsOf 266 = 20 := by kernel_rfl
theorem cU64 : Tryz.prog.cellsOf 202 = 1 := by kernel_rfl
theorem gRng : Tryz.prog.globalNamed "strconv.ErrRange" = some ((Tryz.prog.globalNamed "strconv.ErrRange").getD 0) := by kernel_rfl
theorem gRngT : (Tryz.prog.globals[(Tryz.prog.globalNamed "strconv.ErrRange").getD 0]?).map (·.type) = some 26 := by kernel_rfl
theorem gSyn : Tryz.prog.globalNamed "strconv.ErrSyntax" = some ((Tryz.prog.globalNamed "strconv.ErrSyntax").getD 0) := by kernel_rfl
theorem gSynT : (Tryz.prog.globals[(Tryz.prog.globalNamed "strconv.ErrSyntax").getD 0]?).map (·.type) = some 26 := by kernel_rfl
theorem starES : "*" ++ "errors.errorString" = "*errors.errorString" := by decide
theorem rowES (u : TypeId) (h : Tryz.prog.typeName? 3 u = some "*errors.errorString") : u = 258 :=
  typeName_ptr_named (nm := "errors.errorString") (by rw [starES]; kernel_rfl) (by kernel_rfl) (by decide) u (by rw [starES]; exact h)
theorem cES : Tryz.prog.cellsOf 260 = 1 := by kernel_rfl
theorem cStr : Tryz.prog.cellsOf 9 = 1 := by kernel_rfl
theorem tabEq : (Rows.laid_internal_strconv_uint64pow10 : DataW Unit) = Lib.tabData .u64 Lib.pow10Tab := by kernel_rfl

theorem et : Tryz.prog.globalNamed "errors.errorType" = some 0 := by kernel_rfl
theorem rt : (Tryz.prog.cutTypes.find? (·.1 == "internal/reflectlite.rtype")).map (·.2) = some 176 := by kernel_rfl
theorem oneRow : ((List.range Tryz.prog.types.size).filter fun t => Tryz.prog.rowNamed t [101, 114, 114, 111, 114]) = [26] := by kernel_rfl
def BothT (W : World) : Prop := Sn.VarT W ∧ As.ErrT W
/-- One variable of the list. -/
def only (n : String) (l : List (String × DataW Unit)) : List (String × DataW Unit) := l.filter (fun x => x.1 == n)
theorem vars_of {l : List (String × DataW Unit)} (hs : only "strconv.ErrSyntax" l = [("strconv.ErrSyntax", Rows.laid_strconv_ErrSyntax)]) (hr : only "strconv.ErrRange" l = [("strconv.ErrRange", Rows.laid_strconv_ErrRange)])
    (ht : only "internal/strconv.uint64pow10" l = [("internal/strconv.uint64pow10", Rows.laid_internal_strconv_uint64pow10)]) (he : only "errors.errorType" l = [("errors.errorType", Rows.laid_errors_errorType)]) {W : World} (h0 : laidMetH Tryz.prog l W) : BothT W := by
  have h1 : laidMetH Tryz.prog (only "strconv.ErrSyntax" l) W := laidMetH.filter _ h0
  have h2 : laidMetH Tryz.prog (only "strconv.ErrRange" l) W := laidMetH.filter _ h0
  have h3 : laidMetH Tryz.prog (only "internal/strconv.uint64pow10" l) W := laidMetH.filter _ h0
  have h4 : laidMetH Tryz.prog (only "errors.errorType" l) W := laidMetH.filter _ h0
  rw [hs, MakeChecks.laidMetH_plain _ _ _ (by kernel_rfl)] at h1
  rw [hr, MakeChecks.laidMetH_plain _ _ _ (by kernel_rfl)] at h2
  rw [ht, MakeChecks.laidMetH_plain _ _ _ (by kernel_rfl), tabEq] at h3
  rw [he] at h4
  have h5 : laidMet Tryz.prog [] W ∧ handlesMet Tryz.prog [("errors.errorType", Rows.laid_errors_errorType)] W := h4
  obtain ⟨a, s, e, -⟩ := laid_sentinel h2 gRng gRngT Tryz.underlying26 rowES Tryz.underlying258 Tryz.underlying260 rfl rfl Tryz.underlying9 cES cStr
  obtain ⟨a', s', e', -⟩ := laid_sentinel h1 gSyn gSynT Tryz.underlying26 rowES Tryz.underlying258 Tryz.underlying260 rfl rfl Tryz.underlying9 cES cStr
  obtain ⟨name, u, ty, e1, e2, e3, e4, e5⟩ := h5.2 _ (List.mem_singleton.2 rfl)
  have en : name = [101, 114, 114, 111, 114] := (Option.some.inj e1).symm
  subst en
  obtain rfl := Option.some.inj (rt.symm.trans e2)
  have hm : ty ∈ (List.range Tryz.prog.types.size).filter fun t => Tryz.prog.rowNamed t [101, 114, 114, 111, 114] := List.mem_filter.2 ⟨List.mem_range.2 e3, e4⟩
  rw [oneRow] at hm
  obtain rfl := List.mem_singleton.1 hm
  have hd : typeHandle Tryz.prog 26 = .pointer (some ⟨7, 26, none⟩) := by kernel_rfl
  rw [hd] at e5
  exact ⟨⟨Lib.tabIs_of_head gTab gTabT Tryz.underlying266 Tryz.underlying202 cU64 cTab h3, ⟨_, _, e'⟩, ⟨_, _, e⟩⟩, by simpa [As.ErrT] using World.var?_cell et e5 0⟩
end Go.Proofs.YthbhfhagbaommaaGreatDoor.Lv
