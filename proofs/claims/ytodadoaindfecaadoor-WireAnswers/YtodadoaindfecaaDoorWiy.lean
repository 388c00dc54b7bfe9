/- wire's reader: lists. -/
import Derived.Test.YtodadoaindfecaaDoorWix
namespace Go.Proofs.YtodadoaindfecaaDoor.Wi
open Go.RowKit Go.Maps
set_option maxRecDepth 100000
set_option linter.unusedSimpArgs false
set_option linter.unusedVariables false
attribute [local go_sem] Oper.semAt_some


set_option maxHeartbeats 4000000 in
theorem rlistR_any (w : World) (rb B : Nat) (l : List UInt8) (h : RdW w rb B l) (hB : B ≤ rb) (hl : l.length ≤ 900000) :
    Calls Tryd.prog 77 #[.pointer (some ⟨rb, 0, none⟩), .func (.func 78) #[.pointer (some ⟨rb, 0, none⟩)] #[]] w fun e w' => ∃ sv, e = .returned sv ∧ RecRow w' w.heap.size sv (listP recP (Bt.num l).1 (Bt.num l).2).1 ∧ RdW w' rb B (listP recP (Bt.num l).1 (Bt.num l).2).2 ∧ Turn [rb] w w' := by
  have hrb := h.lt
  obtain ⟨n0, r0, e0⟩ : ∃ n r, Bt.num l = (n, r) := ⟨_, _, rfl⟩
  have g0 := num_len l
  rw [e0] at g0 ⊢
  simp only at g0 ⊢
  have E0 := hide e0
  have HH := hide h
  obtain ⟨res, hres⟩ : ∃ res, res = listP recP n0 r0 := ⟨_, rfl⟩
  rw [← hres]
  have HRES := hide hres
  clear h e0 hres
  go_enter Tryd.func77, Tryd.ntmps77
  go_wp2_with fail
  refine (wnum_any _ rb B l HH.out hB (by omega)).mono ?_
  rintro e w1 ⟨rfl, hr1, ht1⟩
  rw [E0.out] at hr1 ⊢
  simp only at hr1 ⊢
  have HR1 := hide hr1
  have HT1 := hide ht1
  clear hr1 ht1
  go_wp2
  go_loopw [5, 6] (fun lv nv wr => ∃ (v : Value) (k : Nat) (done : List Bt.Rec) (r : List UInt8), v = lv ∧ nv = .int .i64 (k : Int) ∧ k ≤ 1099511627776 ∧ RecRow wr w.heap.size v done ∧ RdW wr rb B r ∧ Turn [rb] w wr ∧ done.length + r.length ≤ 900000 ∧ res = (done ++ (listP recP k r).1, (listP recP k r).2)) (fun _ nv _ => (intOf nv).toNat)
  case atStart => exact ⟨_, n0, [], r0, rfl, rfl, g0.2, .inl ⟨rfl, rfl⟩, HR1.out, HT1.out, by simp; omega, by simpa using HRES.out⟩
  case round =>
    obtain ⟨v, k, done, r, rfl, rfl, hk, hrow, hrd, htw, hlen, hre⟩ := hrel
    have HROW := hide hrow
    have HRD := hide hrd
    have HTW := hide htw
    have HRE := hide hre
    obtain ⟨rs, b1, b2, b3⟩ := hrd
    obtain ⟨ra, rc, rfl, -, -⟩ := b2.form
    have c0 : wr.cell? ⟨rb, 0, none⟩ = some (.slice ra r.length rc) := by simpa using cell_of b1 0
    clear hrow htw hre b1 b2 b3
    by_cases hk0 : k = 0
    · have hk1 : ¬ (k : Int) > 0 := by omega
      have hfin : listP recP k r = ([], r) := by rw [hk0]; rfl
      have HF := hide hfin
      clear hk0 hfin
      go_wp2
      go_ret
      refine ⟨v, rfl, ?_, ?_, HTW.out⟩
      · rw [HRE.out, HF.out, List.append_nil]; exact HROW.out
      · rw [HRE.out, HF.out]; exact HRD.out
    · have hk1 : (k : Int) > 0 := by omega
      by_cases hr0 : r = []
      · have hr1 : ¬ (r.length : Int) > 0 := by rw [hr0]; simp
        have hfin : listP recP k r = ([], r) := by rw [hr0]; exact listP_nil _ _
        have HF := hide hfin
        clear hr0 hfin hk0
        go_wp2
        go_ret
        refine ⟨v, rfl, ?_, ?_, HTW.out⟩
        · rw [HRE.out, HF.out, List.append_nil]; exact HROW.out
        · rw [HRE.out, HF.out]; exact HRD.out
      · have hr1 : (r.length : Int) > 0 := by have := List.length_pos_iff.2 hr0; omega
        have hlt := recP_lt hr0
        obtain ⟨k', rfl⟩ : ∃ k', k = k' + 1 := ⟨k - 1, by omega⟩
        have hst := listP_step recP (n := k') hr0
        obtain ⟨xo, xt, xk, xkey, xg, xv, r', ex⟩ : ∃ xo xt xk xkey xg xv r', recP r = ((⟨xo, xt, xk, xkey, xg, xv⟩ : Bt.Rec), r') := ⟨_, _, _, _, _, _, _, rfl⟩
        rw [ex] at hst hlt
        simp only at hst hlt
        have HST := hide hst
        have EX := hide ex
        clear hst ex hr0 hk0
        go_wp2_with fail
        refine (rrec_any wr rb B r HRD.out hB (by omega)).mono ?_
        rintro e w2 ⟨rfl, hr2, ht2⟩
        rw [EX.out] at hr2 ⊢
        simp only [recV, strV] at hr2 ⊢
        have hrow2 := HROW.out.kept ht2 (fun q hq hm => by have := (HROW.out.lt q hq).1; simp at hm; omega)
        obtain ⟨wa, hwa⟩ : ∃ wa, wa = w2.alloc (.cells #[.int .i64 xo, .int .i64 xt, .bool xk, .string ⟨xkey.toArray⟩, .bool xg, .string ⟨xv.toArray⟩] 133) := ⟨_, rfl⟩
        have hta : Turn [] w2 wa := by rw [hwa]; exact (Turn.refl [] w2).alloc _
        have hsz := HTW.out.size
        have hsz2 := ht2.size
        have hsza := hta.size
        obtain ⟨v7, w7, hr7, hrow7, ht7, hown7⟩ := run_append_rec wa w.heap.size v done ⟨xo, xt, xk, xkey, xg, xv⟩ w2.heap.size (hrow2.kept hta (by simp)) (by rw [hwa]; exact heap_new w2 _) (by omega) (by omega)
        obtain ⟨a3, n3, cp3, hv3⟩ : ∃ a n c, v7 = .slice a n c := by
          exact hrow7.some_slice
        subst hv3
        have hrd7 := (hr2.still hta).kept ht7 (fun hm => by have := (hrow2.lt rb (by simpa using hm)).1; omega) (fun q hq => by have := (hrow2.lt q (by simpa using hq)).1; omega)
        have htw7 : Turn [rb] w w7 := ((HTW.out.same ht2).trans hta (by simp)).trans ht7 (fun q hq => .inr (hrow2.lt q (by simpa using hq)).1)
        rw [hwa] at hr7
        have HR7 := hide hr7
        have HROW7 := hide hrow7
        have HRD7 := hide hrd7
        have HTW7 := hide htw7
        clear hr7 hrow7 ht7 hown7 hrd7 htw7 hwa hta hrow2 hr2 ht2 c0
        go_wp2_with (at_builtin; go_must (refine wpList_append_told rfl rfl rfl rfl HR7.out ?_))
        go_roundw
        case rel =>
          refine ⟨_, k', done ++ [⟨xo, xt, xk, xkey, xg, xv⟩], r', rfl, by go_num, by omega, HROW7.out, HRD7.out, HTW7.out, by simp only [List.length_append, List.length_cons, List.length_nil]; omega, ?_⟩
          rw [HRE.out, HST.out]
          simp only [List.append_assoc, List.cons_append, List.nil_append]
        case measure => simp only [intOf]; omega

set_option maxHeartbeats 4000000 in
theorem rlistP_any (w : World) (rb B : Nat) (l : List UInt8) (h : RdW w rb B l) (hB : B ≤ rb) (hl : l.length ≤ 900000) :
    Calls Tryd.prog 77 #[.pointer (some ⟨rb, 0, none⟩), .func (.func 79) #[.pointer (some ⟨rb, 0, none⟩)] #[]] w fun e w' => ∃ sv, e = .returned sv ∧ RecRow w' w.heap.size sv (listP plP (Bt.num l).1 (Bt.num l).2).1 ∧ RdW w' rb B (listP plP (Bt.num l).1 (Bt.num l).2).2 ∧ Turn [rb] w w' := by
  have hrb := h.lt
  obtain ⟨n0, r0, e0⟩ : ∃ n r, Bt.num l = (n, r) := ⟨_, _, rfl⟩
  have g0 := num_len l
  rw [e0] at g0 ⊢
  simp only at g0 ⊢
  have E0 := hide e0
  have HH := hide h
  obtain ⟨res, hres⟩ : ∃ res, res = listP plP n0 r0 := ⟨_, rfl⟩
  rw [← hres]
  have HRES := hide hres
  clear h e0 hres
  go_enter Tryd.func77, Tryd.ntmps77
  go_wp2_with fail
  refine (wnum_any _ rb B l HH.out hB (by omega)).mono ?_
  rintro e w1 ⟨rfl, hr1, ht1⟩
  rw [E0.out] at hr1 ⊢
  simp only at hr1 ⊢
  have HR1 := hide hr1
  have HT1 := hide ht1
  clear hr1 ht1
  go_wp2
  go_loopw [5, 6] (fun lv nv wr => ∃ (v : Value) (k : Nat) (done : List Bt.Rec) (r : List UInt8), v = lv ∧ nv = .int .i64 (k : Int) ∧ k ≤ 1099511627776 ∧ RecRow wr w.heap.size v done ∧ RdW wr rb B r ∧ Turn [rb] w wr ∧ done.length + r.length ≤ 900000 ∧ res = (done ++ (listP plP k r).1, (listP plP k r).2)) (fun _ nv _ => (intOf nv).toNat)
  case atStart => exact ⟨_, n0, [], r0, rfl, rfl, g0.2, .inl ⟨rfl, rfl⟩, HR1.out, HT1.out, by simp; omega, by simpa using HRES.out⟩
  case round =>
    obtain ⟨v, k, done, r, rfl, rfl, hk, hrow, hrd, htw, hlen, hre⟩ := hrel
    have HROW := hide hrow
    have HRD := hide hrd
    have HTW := hide htw
    have HRE := hide hre
    obtain ⟨rs, b1, b2, b3⟩ := hrd
    obtain ⟨ra, rc, rfl, -, -⟩ := b2.form
    have c0 : wr.cell? ⟨rb, 0, none⟩ = some (.slice ra r.length rc) := by simpa using cell_of b1 0
    clear hrow htw hre b1 b2 b3
    by_cases hk0 : k = 0
    · have hk1 : ¬ (k : Int) > 0 := by omega
      have hfin : listP plP k r = ([], r) := by rw [hk0]; rfl
      have HF := hide hfin
      clear hk0 hfin
      go_wp2
      go_ret
      refine ⟨v, rfl, ?_, ?_, HTW.out⟩
      · rw [HRE.out, HF.out, List.append_nil]; exact HROW.out
      · rw [HRE.out, HF.out]; exact HRD.out
    · have hk1 : (k : Int) > 0 := by omega
      by_cases hr0 : r = []
      · have hr1 : ¬ (r.length : Int) > 0 := by rw [hr0]; simp
        have hfin : listP plP k r = ([], r) := by rw [hr0]; exact listP_nil _ _
        have HF := hide hfin
        clear hr0 hfin hk0
        go_wp2
        go_ret
        refine ⟨v, rfl, ?_, ?_, HTW.out⟩
        · rw [HRE.out, HF.out, List.append_nil]; exact HROW.out
        · rw [HRE.out, HF.out]; exact HRD.out
      · have hr1 : (r.length : Int) > 0 := by have := List.length_pos_iff.2 hr0; omega
        have hlt := plP_lt hr0
        obtain ⟨k', rfl⟩ : ∃ k', k = k' + 1 := ⟨k - 1, by omega⟩
        have hst := listP_step plP (n := k') hr0
        obtain ⟨xo, xt, xk, xkey, xg, xv, r', ex⟩ : ∃ xo xt xk xkey xg xv r', plP r = ((⟨xo, xt, xk, xkey, xg, xv⟩ : Bt.Rec), r') := ⟨_, _, _, _, _, _, _, rfl⟩
        rw [ex] at hst hlt
        simp only at hst hlt
        have HST := hide hst
        have EX := hide ex
        clear hst ex hr0 hk0
        go_wp2_with fail
        refine (rpl_any wr rb B r HRD.out hB (by omega)).mono ?_
        rintro e w2 ⟨rfl, hr2, ht2⟩
        rw [EX.out] at hr2 ⊢
        simp only [recV, strV] at hr2 ⊢
        have hrow2 := HROW.out.kept ht2 (fun q hq hm => by have := (HROW.out.lt q hq).1; simp at hm; omega)
        obtain ⟨wa, hwa⟩ : ∃ wa, wa = w2.alloc (.cells #[.int .i64 xo, .int .i64 xt, .bool xk, .string ⟨xkey.toArray⟩, .bool xg, .string ⟨xv.toArray⟩] 133) := ⟨_, rfl⟩
        have hta : Turn [] w2 wa := by rw [hwa]; exact (Turn.refl [] w2).alloc _
        have hsz := HTW.out.size
        have hsz2 := ht2.size
        have hsza := hta.size
        obtain ⟨v7, w7, hr7, hrow7, ht7, hown7⟩ := run_append_rec wa w.heap.size v done ⟨xo, xt, xk, xkey, xg, xv⟩ w2.heap.size (hrow2.kept hta (by simp)) (by rw [hwa]; exact heap_new w2 _) (by omega) (by omega)
        obtain ⟨a3, n3, cp3, hv3⟩ : ∃ a n c, v7 = .slice a n c := by
          exact hrow7.some_slice
        subst hv3
        have hrd7 := (hr2.still hta).kept ht7 (fun hm => by have := (hrow2.lt rb (by simpa using hm)).1; omega) (fun q hq => by have := (hrow2.lt q (by simpa using hq)).1; omega)
        have htw7 : Turn [rb] w w7 := ((HTW.out.same ht2).trans hta (by simp)).trans ht7 (fun q hq => .inr (hrow2.lt q (by simpa using hq)).1)
        rw [hwa] at hr7
        have HR7 := hide hr7
        have HROW7 := hide hrow7
        have HRD7 := hide hrd7
        have HTW7 := hide htw7
        clear hr7 hrow7 ht7 hown7 hrd7 htw7 hwa hta hrow2 hr2 ht2 c0
        go_wp2_with (at_builtin; go_must (refine wpList_append_told rfl rfl rfl rfl HR7.out ?_))
        go_roundw
        case rel =>
          refine ⟨_, k', done ++ [⟨xo, xt, xk, xkey, xg, xv⟩], r', rfl, by go_num, by omega, HROW7.out, HRD7.out, HTW7.out, by simp only [List.length_append, List.length_cons, List.length_nil]; omega, ?_⟩
          rw [HRE.out, HST.out]
          simp only [List.append_assoc, List.cons_append, List.nil_append]
        case measure => simp only [intOf]; omega

set_option maxHeartbeats 4000000 in
theorem rlistT_any (w : World) (rb B : Nat) (l : List UInt8) (h : RdW w rb B l) (hB : B ≤ rb) (hl : l.length ≤ 900000) :
    Calls Tryd.prog 80 #[.pointer (some ⟨rb, 0, none⟩), .func (.func 81) #[.pointer (some ⟨rb, 0, none⟩)] #[]] w fun e w' => ∃ sv, e = .returned sv ∧ TpRow w' w.heap.size sv (listP tpP (Bt.num l).1 (Bt.num l).2).1 ∧ RdW w' rb B (listP tpP (Bt.num l).1 (Bt.num l).2).2 ∧ Turn [rb] w w' := by
  have hrb := h.lt
  obtain ⟨n0, r0, e0⟩ : ∃ n r, Bt.num l = (n, r) := ⟨_, _, rfl⟩
  have g0 := num_len l
  rw [e0] at g0 ⊢
  simp only at g0 ⊢
  have E0 := hide e0
  have HH := hide h
  obtain ⟨res, hres⟩ : ∃ res, res = listP tpP n0 r0 := ⟨_, rfl⟩
  rw [← hres]
  have HRES := hide hres
  clear h e0 hres
  go_enter Tryd.func80, Tryd.ntmps80
  go_wp2_with fail
  refine (wnum_any _ rb B l HH.out hB (by omega)).mono ?_
  rintro e w1 ⟨rfl, hr1, ht1⟩
  rw [E0.out] at hr1 ⊢
  simp only at hr1 ⊢
  have HR1 := hide hr1
  have HT1 := hide ht1
  clear hr1 ht1
  go_wp2
  go_loopw [5, 6] (fun lv nv wr => ∃ (v : Value) (k : Nat) (done : List Tp) (r : List UInt8), v = lv ∧ nv = .int .i64 (k : Int) ∧ k ≤ 1099511627776 ∧ TpRow wr w.heap.size v done ∧ RdW wr rb B r ∧ Turn [rb] w wr ∧ done.length + r.length ≤ 900000 ∧ res = (done ++ (listP tpP k r).1, (listP tpP k r).2)) (fun _ nv _ => (intOf nv).toNat)
  case atStart => exact ⟨_, n0, [], r0, rfl, rfl, g0.2, .inl ⟨rfl, rfl⟩, HR1.out, HT1.out, by simp; omega, by simpa using HRES.out⟩
  case round =>
    obtain ⟨v, k, done, r, rfl, rfl, hk, hrow, hrd, htw, hlen, hre⟩ := hrel
    have HROW := hide hrow
    have HRD := hide hrd
    have HTW := hide htw
    have HRE := hide hre
    obtain ⟨rs, b1, b2, b3⟩ := hrd
    obtain ⟨ra, rc, rfl, -, -⟩ := b2.form
    have c0 : wr.cell? ⟨rb, 0, none⟩ = some (.slice ra r.length rc) := by simpa using cell_of b1 0
    clear hrow htw hre b1 b2 b3
    by_cases hk0 : k = 0
    · have hk1 : ¬ (k : Int) > 0 := by omega
      have hfin : listP tpP k r = ([], r) := by rw [hk0]; rfl
      have HF := hide hfin
      clear hk0 hfin
      go_wp2
      go_ret
      refine ⟨v, rfl, ?_, ?_, HTW.out⟩
      · rw [HRE.out, HF.out, List.append_nil]; exact HROW.out
      · rw [HRE.out, HF.out]; exact HRD.out
    · have hk1 : (k : Int) > 0 := by omega
      by_cases hr0 : r = []
      · have hr1 : ¬ (r.length : Int) > 0 := by rw [hr0]; simp
        have hfin : listP tpP k r = ([], r) := by rw [hr0]; exact listP_nil _ _
        have HF := hide hfin
        clear hr0 hfin hk0
        go_wp2
        go_ret
        refine ⟨v, rfl, ?_, ?_, HTW.out⟩
        · rw [HRE.out, HF.out, List.append_nil]; exact HROW.out
        · rw [HRE.out, HF.out]; exact HRD.out
      · have hr1 : (r.length : Int) > 0 := by have := List.length_pos_iff.2 hr0; omega
        have hlt := tpP_lt hr0
        obtain ⟨k', rfl⟩ : ∃ k', k = k' + 1 := ⟨k - 1, by omega⟩
        have hst := listP_step tpP (n := k') hr0
        obtain ⟨xn, xp, xc, r', ex⟩ : ∃ xn xp xc r', tpP r = ((⟨xn, xp, xc⟩ : Tp), r') := ⟨_, _, _, _, rfl⟩
        rw [ex] at hst hlt
        simp only at hst hlt
        have HST := hide hst
        have EX := hide ex
        clear hst ex hr0 hk0
        go_wp2_with fail
        refine (rtp_any wr rb B r HRD.out hB (by omega)).mono ?_
        rintro e w2 ⟨rfl, hr2, ht2⟩
        rw [EX.out] at hr2 ⊢
        simp only [strV] at hr2 ⊢
        have hrow2 := HROW.out.kept ht2 (fun q hq hm => by have := (HROW.out.lt q hq).1; simp at hm; omega)
        obtain ⟨wa, hwa⟩ : ∃ wa, wa = w2.alloc (.cells #[.string ⟨xn.toArray⟩, .int .i64 xp, .bool xc] 102) := ⟨_, rfl⟩
        have hta : Turn [] w2 wa := by rw [hwa]; exact (Turn.refl [] w2).alloc _
        have hsz := HTW.out.size
        have hsz2 := ht2.size
        have hsza := hta.size
        obtain ⟨v7, w7, hr7, hrow7, ht7, hown7⟩ := app_tp wa w.heap.size v done ⟨xn, xp, xc⟩ w2.heap.size (hrow2.kept hta (by simp)) (by rw [hwa]; exact heap_new w2 _) (by omega) (by omega)
        obtain ⟨a3, n3, cp3, hv3⟩ : ∃ a n c, v7 = .slice a n c := by
          obtain ⟨a, c, e, -⟩ := hrow7.form; exact ⟨_, _, _, e⟩
        subst hv3
        have hrd7 := (hr2.still hta).kept ht7 (fun hm => by have := (hrow2.lt rb (by simpa using hm)).1; omega) (fun q hq => by have := (hrow2.lt q (by simpa using hq)).1; omega)
        have htw7 : Turn [rb] w w7 := ((HTW.out.same ht2).trans hta (by simp)).trans ht7 (fun q hq => .inr (hrow2.lt q (by simpa using hq)).1)
        rw [hwa] at hr7
        have HR7 := hide hr7
        have HROW7 := hide hrow7
        have HRD7 := hide hrd7
        have HTW7 := hide htw7
        clear hr7 hrow7 ht7 hown7 hrd7 htw7 hwa hta hrow2 hr2 ht2 c0
        go_wp2_with (at_builtin; go_must (refine wpList_append_told rfl rfl rfl rfl HR7.out ?_))
        go_roundw
        case rel =>
          refine ⟨_, k', done ++ [⟨xn, xp, xc⟩], r', rfl, by go_num, by omega, HROW7.out, HRD7.out, HTW7.out, by simp only [List.length_append, List.length_cons, List.length_nil]; omega, ?_⟩
          rw [HRE.out, HST.out]
          simp only [List.append_assoc, List.cons_append, List.nil_append]
        case measure => simp only [intOf]; omega
end Go.Proofs.YtodadoaindfecaaDoor.Wi
