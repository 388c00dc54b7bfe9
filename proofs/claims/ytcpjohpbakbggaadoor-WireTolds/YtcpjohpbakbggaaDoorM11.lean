/- Wjq, AppB, Wjc, Same, Wji, Wjk, Wjr, OpB: texts merged. -/
import Derived.Test.YtcpjohpbakbggaaDoorM10
import Derived.Test.YtcpjohpbakbggaaDoorM9
import Derived.Deep.DeepCutAuto
import Derived.Deep.CutBlock
import Derived.Test.YtcpjohpbakbggaaDoorM2
import Derived.Test.YtcpjohpbakbggaaDoorM1
import Derived.Lib.Strings
import Derived.BigQuiet
/- The document's Told2. -/
namespace Go.Proofs.YtcpjohpbakbggaaDoor.Wi
open Go.RowKit Go.Maps
set_option maxRecDepth 100000
set_option linter.unusedSimpArgs false
set_option linter.unusedVariables false

set_option maxHeartbeats 16000000 in
theorem refTold_any (w : World) (v : Value) (b : List UInt8) (hx : BytesAt w v b) (hl : b.length ≤ 900000) :
    Calls Tryd.prog 9 #[v] w fun e w' => ∃ rv tv, e = .returned (.tuple #[.agg (ansC (toldM b).1 rv tv), .int .i64 (toldM b).2.1, .int .i64 (toldM b).2.2]) ∧ RecsAt w' rv (toldM b).1.recs ∧ TopsAt w' tv (toldM b).1.topics ∧ Turn [] w w' := by
  have HX := hide hx
  obtain ⟨a, c, rfl, hlc, hcm, hc⟩ := hx.form
  have hmx : maxLen = 9223372036854775807 := by simp [maxLen]
  rw [hmx] at hcm
  obtain ⟨wy, hwy⟩ : ∃ wy, wy = w.alloc (.cells zAv.toArray 38) := ⟨_, rfl⟩
  have hty : Turn [] w wy := by rw [hwy]; exact (Turn.refl [] w).alloc _
  have hyy : wy.heap[w.heap.size]? = some (.cells zAv.toArray 38 (0, 0)) := by rw [hwy]; exact heap_new w _
  have HWY := hide hwy
  have HTY := hide hty
  have HYY := hide hyy
  obtain ⟨n, er, hw⟩ : ∃ n er, whole b = (n, er) := ⟨_, _, rfl⟩
  have HW := hide hw
  clear hx hc hwy hty hyy hw
  go_enter Tryd.func9, Tryd.ntmps9
  go_wp2_with fail
  rw [show w.alloc (.cells #[.int .i64 0, .int .i64 0, .int .i64 0, .int .i64 0, .int .i64 0, .int .i64 0, .bool false, .slice none 0 0, .slice none 0 0] 38) = wy from HWY.out.symm]
  refine (rwhole_any _ _ b (HX.out.still HTY.out) (by omega)).mono ?_
  rintro e w1 ⟨rfl, ht1⟩
  rw [HW.out]
  simp only
  have HT1 := hide (HTY.out.same ht1)
  have HY1 := hide (ht1.heap HYY.out (by simp))
  clear ht1
  by_cases h0 : er = 0
  · subst h0
    obtain ⟨n1', n2', n3'⟩ := whole_ok HW.out
    have hsl : ∀ w, (Instr.slice 22 (.slice a b.length c) (some (.int .i64 4)) (some (.int .i64 (n : Int))) none).run Tryd.prog w = .ok (.slice (advA a 4 c) (n - 4) (c - 4)) w := fun w => by simpa using @run_from_to a b.length c 4 n (by omega) (by omega) w
    have hst : ∀ w, (Instr.slice 22 (.slice a b.length c) none (some (.int .i64 (n : Int))) none).run Tryd.prog w = .ok (.slice a n c) w := fun w => @run_to a b.length c n (by omega) w
    have htk : BytesAt w (.slice a n c) (b.take n) := HX.out.take (by omega)
    have HTK := hide htk
    have hbo : bodyOf b = (b.take n).drop 4 := by unfold bodyOf; rw [HW.out]
    obtain ⟨l, hl0⟩ : ∃ l, l = bodyOf b := ⟨_, rfl⟩
    have hll : l.length = n - 4 := by rw [hl0, hbo]; simp; omega
    have hbm : BytesAt w (.slice (advA a 4 c) (n - 4) (c - 4)) l := by
      have h1 : (b.take n).length = n := by simp; omega
      have h2 := BytesAt.drop (n := 4) (by rw [h1]; exact htk) (by omega : 4 ≤ (b.take n).length)
      rw [h1, ← hbo, ← hl0] at h2
      exact h2
    have hown : ∀ k ∈ (Value.slice (advA a 4 c) (n - 4) (c - 4)).ownBlock, k < w.heap.size := fun k hk =>
      HX.out.lt (fun e => by rw [e] at n2'; simp at n2'; omega) k (advA_own (l' := b.length) k hk)
    have hiff : toldM b = if (ansR l).2 = false ∧ okA b (ansR l).1 then ((ansR l).1, n, 0) else (zA, 0, 3) := by rw [hl0]; exact toldR HW.out
    have hl2 : l.length ≤ 10000 := by omega
    have hsm := ansR_sm hl2
    have HIFF := hide hiff
    have HSM := hide hsm
    have HBM := hide hbm
    have HOWN := hide hown
    have HLL := hide hll
    clear htk hbo hl0 hbm hown hiff hll hsm
    obtain ⟨wt, hwt⟩ : ∃ wt, wt = w1.alloc (.cells #[.slice (advA a 4 c) (n - 4) (c - 4), .bool false] 48) := ⟨_, rfl⟩
    have htt : Turn [] w wt := by rw [hwt]; exact HT1.out.alloc _
    obtain ⟨tb, htb⟩ : ∃ tb, tb = w1.heap.size := ⟨_, rfl⟩
    obtain ⟨B, hBB⟩ : ∃ B, B = w.heap.size := ⟨_, rfl⟩
    have hrd : TkAt wt tb B (l, false) := by
      rw [hwt, htb, hBB]
      exact ⟨_, heap_new w1 _, HBM.out.still (HT1.out.alloc _), fun _ => HOWN.out⟩
    have hrb : tb < wt.heap.size := TkAt.lt hrd
    have hB : B ≤ tb := by rw [hBB, htb]; exact HT1.out.size
    have hyt : wt.heap[w.heap.size]? = some (.cells zAv.toArray 38 (0, 0)) := by rw [hwt]; exact ((Turn.refl [] w1).alloc _).heap HY1.out (by simp)
    have hny : w.heap.size < tb := by rw [htb]; exact lt_of_heap HY1.out
    have HWT := hide hwt
    have HTB := hide htb
    have HTT := hide htt
    have HRD := hide hrd
    have HYT := hide hyt
    have HBB := hide hBB
    have hnb := lt_of_heap HY1.out
    clear hwt htt htb hrd hyt hBB hnb
    obtain ⟨n0, t0, e0⟩ : ∃ n t, Bt.numR (l, false) = (n, t) := ⟨_, _, rfl⟩
    have q0 := (numR_len (l, false)).1
    rw [e0] at q0
    simp only at q0
    have E0 := hide e0
    clear e0
    obtain ⟨n1, t1, e1⟩ : ∃ n t, Bt.numR t0 = (n, t) := ⟨_, _, rfl⟩
    have q1 := (numR_len t0).1
    rw [e1] at q1
    simp only at q1
    have E1 := hide e1
    clear e1
    obtain ⟨n2, t2, e2⟩ : ∃ n t, Bt.numR t1 = (n, t) := ⟨_, _, rfl⟩
    have q2 := (numR_len t1).1
    rw [e2] at q2
    simp only at q2
    have E2 := hide e2
    clear e2
    go_wp2_with fail
    rw [show w1.alloc (.cells #[.slice (advA a 4 c) (n - 4) (c - 4), .bool false] 48) = wt from HWT.out.symm, ← HTB.out]
    refine (tnum_any _ tb B (l, false) HRD.out hB (by simp only; omega)).mono ?_
    rintro e v0 ⟨rfl, hr, ht⟩
    rw [E0.out] at hr ⊢
    simp only at hr ⊢
    have HR0 := hide hr
    have HV0 := hide (ht)
    clear hr ht
    go_wp2_with fail
    refine (tnum_any _ tb B t0 HR0.out hB (by omega)).mono ?_
    rintro e v1 ⟨rfl, hr, ht⟩
    rw [E1.out] at hr ⊢
    simp only at hr ⊢
    have HR1 := hide hr
    have HV1 := hide (HV0.out.same ht)
    clear hr ht
    go_wp2_with fail
    refine (tnum_any _ tb B t1 HR1.out hB (by omega)).mono ?_
    rintro e v2 ⟨rfl, hr, ht⟩
    rw [E2.out] at hr ⊢
    simp only at hr ⊢
    have HR2 := hide hr
    have HV2 := hide (HV1.out.same ht)
    clear hr ht
    obtain ⟨X, hX⟩ : ∃ X, X = v2.heap.size := ⟨_, rfl⟩
    obtain ⟨wx, hwx⟩ : ∃ wx, wx = (v2.alloc (.cells #[.int .i64 0, .int .i64 0, .int .i64 0, .int .i64 0, .int .i64 0, .int .i64 0, .bool false, .slice none 0 0, .slice none 0 0] 38)).setRow v2.heap.size #[.int .i64 (n0 : Int), .int .i64 (n1 : Int), .int .i64 (n2 : Int), .int .i64 0, .int .i64 0, .int .i64 0, .bool false, .slice none 0 0, .slice none 0 0] := ⟨_, rfl⟩
    have hbz : (v2.alloc (.cells #[.int .i64 0, .int .i64 0, .int .i64 0, .int .i64 0, .int .i64 0, .int .i64 0, .bool false, .slice none 0 0, .slice none 0 0] 38)).heap[v2.heap.size]? = some (.cells #[.int .i64 0, .int .i64 0, .int .i64 0, .int .i64 0, .int .i64 0, .int .i64 0, .bool false, .slice none 0 0, .slice none 0 0] 38 (0, 0)) := heap_new v2 _
    have hc0 : Tn 38 wt wx tb B X [.int .i64 (n0 : Int), .int .i64 (n1 : Int), .int .i64 (n2 : Int), .int .i64 0, .int .i64 0, .int .i64 0, .bool false, .slice none 0 0, .slice none 0 0] t2 := by
      rw [hwx, hX]
      exact Tn.mk2 (zs := [.int .i64 0, .int .i64 0, .int .i64 0, .int .i64 0, .int .i64 0, .int .i64 0, .bool false, .slice none 0 0, .slice none 0 0]) [.int .i64 (n0 : Int), .int .i64 (n1 : Int), .int .i64 (n2 : Int), .int .i64 0, .int .i64 0, .int .i64 0, .bool false, .slice none 0 0, .slice none 0 0] HR2.out HV2.out hrb
    have HC0 := hide hc0
    have HX2 := hide hX
    have HWX := hide hwx
    have HBZ := hide hbz
    have hXt : wt.heap.size ≤ X := hc0.hx
    clear hc0 hX hwx hbz
    go_upto_region 6 with (refine wpList_store_row rfl _ _ _ rfl v2.heap.size #[.int .i64 (n0 : Int), .int .i64 (n1 : Int), .int .i64 (n2 : Int), .int .i64 0, .int .i64 0, .int .i64 0, .bool false, .slice none 0 0, .slice none 0 0] rfl rfl _ _ HBZ.out (by kernel_rfl) rfl (by kernel_rfl) ?_)
    rw [show (v2.alloc (.cells #[.int .i64 0, .int .i64 0, .int .i64 0, .int .i64 0, .int .i64 0, .int .i64 0, .bool false, .slice none 0 0, .slice none 0 0] 38)).setRow v2.heap.size #[.int .i64 (n0 : Int), .int .i64 (n1 : Int), .int .i64 (n2 : Int), .int .i64 0, .int .i64 0, .int .i64 0, .bool false, .slice none 0 0, .slice none 0 0] = wx from HWX.out.symm, ← HX2.out]
    obtain ⟨c2, f2⟩ := HC0.out.cell 2
    simp only [List.getElem?_cons_zero, List.getElem?_cons_succ] at c2
    go_upto_if 36 with fail
    go_cut [] from 34 to 124 (fun wz => ∃ (x : Ans) (t : TS) (rv tv : Value), ansR l = (x, t.2) ∧ Tn 38 wt wz tb B X (ansC x rv tv).toList t ∧ RecsAt wz rv x.recs ∧ TopsAt wz tv x.topics ∧ (∀ k ∈ rv.ownBlock, X < k) ∧ ∀ k ∈ tv.ownBlock, X < k)
    case first =>
      have hcase : ¬ n2 = 0 ∨ (n2 = 0 ∧ n0 = 1) ∨ (n2 = 0 ∧ n0 = 2) ∨ (n2 = 0 ∧ n0 = 3 ∧ (truR t2).1 = true) ∨ (n2 = 0 ∧ n0 = 3 ∧ (truR t2).1 = false) ∨ (n2 = 0 ∧ n0 = 4) ∨ (n2 = 0 ∧ n0 = 7) ∨ (n2 = 0 ∧ ¬ n0 = 1 ∧ ¬ n0 = 2 ∧ ¬ n0 = 3 ∧ ¬ n0 = 4 ∧ ¬ n0 = 7) := by
        cases (truR t2).1 <;> simp <;> omega
      rcases hcase with hcase | hcase | hcase | hcase | hcase | hcase | hcase | hcase
      · as_aux_lemma =>
          have bz : ((n2 : Int) == 0) = false := by simp; omega
          have hk := hide (show ¬ n2 = 0 by omega)
          clear hcase
          have HE : Hid (ansR l = ((⟨(n0 : Int), (n1 : Int), (n2 : Int), 0, 0, 0, false, [], []⟩ : Ans), (t2).2)) := by
            show _ = _
            have hk' := hk.out
            unfold ansR mkA
            simp [E0.out, E1.out, E2.out, hk']
          go_wp2
          go_meet
          case rel => exact ⟨(⟨(n0 : Int), (n1 : Int), (n2 : Int), 0, 0, 0, false, [], []⟩ : Ans), t2, .slice none 0 0, .slice none 0 0, HE.out, HC0.out, RecRow.nil _ 0, TopsAt.nil _, (by simp [Value.ownBlock]), (by simp [Value.ownBlock])⟩
      · as_aux_lemma =>
          have bz : ((n2 : Int) == 0) = true := by simp; omega
          have b1 : ((n0 : Int) == 1) = true := by simp; omega
          have b2 : ((n0 : Int) == 2) = false := by simp; omega
          have b3 : ((n0 : Int) == 3) = false := by simp; omega
          have b4 : ((n0 : Int) == 4) = false := by simp; omega
          have b7 : ((n0 : Int) == 7) = false := by simp; omega
          have hk := hide (show n2 = 0 ∧ n0 = 1 ∧ ¬ n0 = 2 ∧ ¬ n0 = 3 ∧ ¬ n0 = 4 ∧ ¬ n0 = 7 by omega)
          clear hcase
          try clear c0 f0
          obtain ⟨c0, f0⟩ := HC0.out.cell 0
          simp only [List.getElem?_cons_zero, List.getElem?_cons_succ] at c0
          obtain ⟨a2, r11, e11⟩ : ∃ n t, Bt.numR t2 = (n, t) := ⟨_, _, rfl⟩
          have q11 := (numR_len t2).1
          rw [e11] at q11
          simp only at q11
          have E11 := hide e11
          clear e11
          go_wp2_with fail
          refine (tnum_any _ tb B t2 HC0.out.rd hB (by omega)).mono ?_
          rintro e wn11 ⟨rfl, hr, ht⟩
          rw [E11.out] at hr ⊢
          simp only [strV] at hr ⊢
          have HC1 := hide (HC0.out.num hrb ht hr)
          clear hr ht
          clear c2 f2 c0 f0
          try clear c3 f3
          obtain ⟨c3, f3⟩ := HC1.out.cell 3
          simp only [List.getElem?_cons_zero, List.getElem?_cons_succ] at c3
          have HC2 := hide (HC1.out.set hrb hB 3 (.int .i64 (a2 : Int)))
          simp only [List.set_cons_zero, List.set_cons_succ] at HC2
          have HE : Hid (ansR l = ((⟨(n0 : Int), (n1 : Int), (n2 : Int), (a2 : Int), 0, 0, false, [], []⟩ : Ans), (r11).2)) := by
            show _ = _
            have hk' := hk.out
            unfold ansR atailR mkA
            simp [E0.out, E1.out, E2.out, E11.out, hk']
          go_wp2
          go_meet
          case rel => exact ⟨(⟨(n0 : Int), (n1 : Int), (n2 : Int), (a2 : Int), 0, 0, false, [], []⟩ : Ans), r11, .slice none 0 0, .slice none 0 0, HE.out, HC2.out, RecRow.nil _ 0, TopsAt.nil _, (by simp [Value.ownBlock]), (by simp [Value.ownBlock])⟩
      · as_aux_lemma =>
          have bz : ((n2 : Int) == 0) = true := by simp; omega
          have b1 : ((n0 : Int) == 1) = false := by simp; omega
          have b2 : ((n0 : Int) == 2) = true := by simp; omega
          have b3 : ((n0 : Int) == 3) = false := by simp; omega
          have b4 : ((n0 : Int) == 4) = false := by simp; omega
          have b7 : ((n0 : Int) == 7) = false := by simp; omega
          have hk := hide (show n2 = 0 ∧ ¬ n0 = 1 ∧ n0 = 2 ∧ ¬ n0 = 3 ∧ ¬ n0 = 4 ∧ ¬ n0 = 7 by omega)
          clear hcase
          try clear c0 f0
          obtain ⟨c0, f0⟩ := HC0.out.cell 0
          simp only [List.getElem?_cons_zero, List.getElem?_cons_succ] at c0
          obtain ⟨a2, r11, e11⟩ : ∃ n t, Bt.numR t2 = (n, t) := ⟨_, _, rfl⟩
          have q11 := (numR_len t2).1
          rw [e11] at q11
          simp only at q11
          have E11 := hide e11
          clear e11
          go_wp2_with fail
          refine (tnum_any _ tb B t2 HC0.out.rd hB (by omega)).mono ?_
          rintro e wn11 ⟨rfl, hr, ht⟩
          rw [E11.out] at hr ⊢
          simp only [strV] at hr ⊢
          have HC1 := hide (HC0.out.num hrb ht hr)
          clear hr ht
          clear c2 f2 c0 f0
          try clear c4 f4
          obtain ⟨c4, f4⟩ := HC1.out.cell 4
          simp only [List.getElem?_cons_zero, List.getElem?_cons_succ] at c4
          have HC2 := hide (HC1.out.set hrb hB 4 (.int .i64 (a2 : Int)))
          simp only [List.set_cons_zero, List.set_cons_succ] at HC2
          obtain ⟨b2, r12, e12⟩ : ∃ n t, Bt.numR r11 = (n, t) := ⟨_, _, rfl⟩
          have q12 := (numR_len r11).1
          rw [e12] at q12
          simp only at q12
          have E12 := hide e12
          clear e12
          go_wp2_with fail
          refine (tnum_any _ tb B r11 HC2.out.rd hB (by omega)).mono ?_
          rintro e wn12 ⟨rfl, hr, ht⟩
          rw [E12.out] at hr ⊢
          simp only [strV] at hr ⊢
          have HC3 := hide (HC2.out.num hrb ht hr)
          clear hr ht
          clear c4 f4
          try clear c5 f5
          obtain ⟨c5, f5⟩ := HC3.out.cell 5
          simp only [List.getElem?_cons_zero, List.getElem?_cons_succ] at c5
          have HC4 := hide (HC3.out.set hrb hB 5 (.int .i64 (b2 : Int)))
          simp only [List.set_cons_zero, List.set_cons_succ] at HC4
          go_wp2_with fail
          refine (trecsT_any _ tb B r12 HC4.out.rd hB (by omega)).mono ?_
          rintro e wl ⟨sl, rfl, hrow, hrd, htl⟩
          obtain ⟨L, hL⟩ : ∃ L, L = listR (recR true) (Bt.numR r12).1 (Bt.numR r12).2 := ⟨_, rfl⟩
          rw [← hL] at hrow hrd
          have hok := (listR_all true (Bt.numR r12).1 (Bt.numR r12).2 (by have := (numR_len r12).1; omega)).1
          rw [← hL] at hok
          obtain ⟨la, ln, lc, rfl⟩ := hrow.some_slice
          have hrec := hrow.recs (fun r hr => (hok r hr).ok)
          have hlt : ∀ k ∈ (Value.slice la ln lc).ownBlock, X < k := fun k hk => by have := (hrow.lt k hk).1; have := lt_of_heap HC4.out.x; omega
          have HLL := hide hL
          have HLT := hide hlt
          have HREC := hide hrec
          have HC5 := hide (HC4.out.num hrb htl hrd)
          clear hrow hrd htl hok hL hlt hrec
          clear c5 f5
          try clear c7 f7
          obtain ⟨c7, f7⟩ := HC5.out.cell 7
          simp only [List.getElem?_cons_zero, List.getElem?_cons_succ] at c7
          have HC6 := hide (HC5.out.set hrb hB 7 (.slice la ln lc))
          simp only [List.set_cons_zero, List.set_cons_succ] at HC6
          have HE : Hid (ansR l = ((⟨(n0 : Int), (n1 : Int), (n2 : Int), 0, (a2 : Int), (b2 : Int), false, L.1, []⟩ : Ans), (L.2).2)) := by
            show _ = _
            have hk' := hk.out
            unfold ansR atailR mkA
            simp [E0.out, E1.out, E2.out, E11.out, E12.out, hk', HLL.out]
          go_wp2
          go_meet
          case rel => exact ⟨(⟨(n0 : Int), (n1 : Int), (n2 : Int), 0, (a2 : Int), (b2 : Int), false, L.1, []⟩ : Ans), L.2, .slice la ln lc, .slice none 0 0, HE.out, HC6.out, (HREC.out.kept ((Turn.refl [X] wl).setCell (.inl (by simp)) (.slice la ln lc)) (fun k hk _ hm => by have := HLT.out k hk; simp at hm; omega)), TopsAt.nil _, HLT.out, (by simp [Value.ownBlock])⟩
      · as_aux_lemma =>
          have bz : ((n2 : Int) == 0) = true := by simp; omega
          have b1 : ((n0 : Int) == 1) = false := by simp; omega
          have b2 : ((n0 : Int) == 2) = false := by simp; omega
          have b3 : ((n0 : Int) == 3) = true := by simp; omega
          have b4 : ((n0 : Int) == 4) = false := by simp; omega
          have b7 : ((n0 : Int) == 7) = false := by simp; omega
          have hk := hide (show n2 = 0 ∧ ¬ n0 = 1 ∧ ¬ n0 = 2 ∧ n0 = 3 ∧ ¬ n0 = 4 ∧ ¬ n0 = 7 by omega)
          have hq := hcase.2.2
          clear hcase
          try clear c0 f0
          obtain ⟨c0, f0⟩ := HC0.out.cell 0
          simp only [List.getElem?_cons_zero, List.getElem?_cons_succ] at c0
          obtain ⟨bb, r11, e11⟩ : ∃ n t, truR t2 = (n, t) := ⟨_, _, rfl⟩
          have q11 := truR_len t2
          rw [e11] at q11
          simp only at q11
          rw [e11] at hq
          simp only at hq
          subst hq
          have E11 := hide e11
          clear e11
          go_wp2_with fail
          refine (ttru_any _ tb B t2 HC0.out.rd hB (by omega)).mono ?_
          rintro e wn11 ⟨rfl, hr, ht⟩
          rw [E11.out] at hr ⊢
          simp only [strV] at hr ⊢
          have HC1 := hide (HC0.out.num hrb ht hr)
          clear hr ht
          clear c2 f2 c0 f0
          try clear c6 f6
          obtain ⟨c6, f6⟩ := HC1.out.cell 6
          simp only [List.getElem?_cons_zero, List.getElem?_cons_succ] at c6
          have HC2 := hide (HC1.out.set hrb hB 6 (.bool true))
          simp only [List.set_cons_zero, List.set_cons_succ] at HC2
          obtain ⟨d6, h6⟩ := HC2.out.cell 6
          simp only [List.getElem?_cons_zero, List.getElem?_cons_succ] at d6
          obtain ⟨b2, r12, e12⟩ : ∃ n t, Bt.numR r11 = (n, t) := ⟨_, _, rfl⟩
          have q12 := (numR_len r11).1
          rw [e12] at q12
          simp only at q12
          have E12 := hide e12
          clear e12
          go_wp2_with fail
          refine (tnum_any _ tb B r11 HC2.out.rd hB (by omega)).mono ?_
          rintro e wn12 ⟨rfl, hr, ht⟩
          rw [E12.out] at hr ⊢
          simp only [strV] at hr ⊢
          have HC3 := hide (HC2.out.num hrb ht hr)
          clear hr ht
          clear c6 f6
          try clear c3 f3
          obtain ⟨c3, f3⟩ := HC3.out.cell 3
          simp only [List.getElem?_cons_zero, List.getElem?_cons_succ] at c3
          have HC4 := hide (HC3.out.set hrb hB 3 (.int .i64 (b2 : Int)))
          simp only [List.set_cons_zero, List.set_cons_succ] at HC4
          have HE : Hid (ansR l = ((⟨(n0 : Int), (n1 : Int), (n2 : Int), (b2 : Int), 0, 0, true, [], []⟩ : Ans), (r12).2)) := by
            show _ = _
            have hk' := hk.out
            unfold ansR atailR mkA
            simp [E0.out, E1.out, E2.out, E11.out, E12.out, hk']
          go_wp2
          go_meet
          case rel => exact ⟨(⟨(n0 : Int), (n1 : Int), (n2 : Int), (b2 : Int), 0, 0, true, [], []⟩ : Ans), r12, .slice none 0 0, .slice none 0 0, HE.out, HC4.out, RecRow.nil _ 0, TopsAt.nil _, (by simp [Value.ownBlock]), (by simp [Value.ownBlock])⟩
      · as_aux_lemma =>
          have bz : ((n2 : Int) == 0) = true := by simp; omega
          have b1 : ((n0 : Int) == 1) = false := by simp; omega
          have b2 : ((n0 : Int) == 2) = false := by simp; omega
          have b3 : ((n0 : Int) == 3) = true := by simp; omega
          have b4 : ((n0 : Int) == 4) = false := by simp; omega
          have b7 : ((n0 : Int) == 7) = false := by simp; omega
          have hk := hide (show n2 = 0 ∧ ¬ n0 = 1 ∧ ¬ n0 = 2 ∧ n0 = 3 ∧ ¬ n0 = 4 ∧ ¬ n0 = 7 by omega)
          have hq := hcase.2.2
          clear hcase
          try clear c0 f0
          obtain ⟨c0, f0⟩ := HC0.out.cell 0
          simp only [List.getElem?_cons_zero, List.getElem?_cons_succ] at c0
          obtain ⟨bb, r11, e11⟩ : ∃ n t, truR t2 = (n, t) := ⟨_, _, rfl⟩
          have q11 := truR_len t2
          rw [e11] at q11
          simp only at q11
          rw [e11] at hq
          simp only at hq
          subst hq
          have E11 := hide e11
          clear e11
          go_wp2_with fail
          refine (ttru_any _ tb B t2 HC0.out.rd hB (by omega)).mono ?_
          rintro e wn11 ⟨rfl, hr, ht⟩
          rw [E11.out] at hr ⊢
          simp only [strV] at hr ⊢
          have HC1 := hide (HC0.out.num hrb ht hr)
          clear hr ht
          clear c2 f2 c0 f0
          try clear c6 f6
          obtain ⟨c6, f6⟩ := HC1.out.cell 6
          simp only [List.getElem?_cons_zero, List.getElem?_cons_succ] at c6
          have HC2 := hide (HC1.out.set hrb hB 6 (.bool false))
          simp only [List.set_cons_zero, List.set_cons_succ] at HC2
          obtain ⟨d6, h6⟩ := HC2.out.cell 6
          simp only [List.getElem?_cons_zero, List.getElem?_cons_succ] at d6
          have HE : Hid (ansR l = ((⟨(n0 : Int), (n1 : Int), (n2 : Int), 0, 0, 0, false, [], []⟩ : Ans), (r11).2)) := by
            show _ = _
            have hk' := hk.out
            unfold ansR atailR mkA
            simp [E0.out, E1.out, E2.out, E11.out, hk']
          go_wp2
          go_meet
          case rel => exact ⟨(⟨(n0 : Int), (n1 : Int), (n2 : Int), 0, 0, 0, false, [], []⟩ : Ans), r11, .slice none 0 0, .slice none 0 0, HE.out, HC2.out, RecRow.nil _ 0, TopsAt.nil _, (by simp [Value.ownBlock]), (by simp [Value.ownBlock])⟩
      · as_aux_lemma =>
          have bz : ((n2 : Int) == 0) = true := by simp; omega
          have b1 : ((n0 : Int) == 1) = false := by simp; omega
          have b2 : ((n0 : Int) == 2) = false := by simp; omega
          have b3 : ((n0 : Int) == 3) = false := by simp; omega
          have b4 : ((n0 : Int) == 4) = true := by simp; omega
          have b7 : ((n0 : Int) == 7) = false := by simp; omega
          have hk := hide (show n2 = 0 ∧ ¬ n0 = 1 ∧ ¬ n0 = 2 ∧ ¬ n0 = 3 ∧ n0 = 4 ∧ ¬ n0 = 7 by omega)
          clear hcase
          try clear c0 f0
          obtain ⟨c0, f0⟩ := HC0.out.cell 0
          simp only [List.getElem?_cons_zero, List.getElem?_cons_succ] at c0
          obtain ⟨a2, r11, e11⟩ : ∃ n t, Bt.numR t2 = (n, t) := ⟨_, _, rfl⟩
          have q11 := (numR_len t2).1
          rw [e11] at q11
          simp only at q11
          have E11 := hide e11
          clear e11
          go_wp2_with fail
          refine (tnum_any _ tb B t2 HC0.out.rd hB (by omega)).mono ?_
          rintro e wn11 ⟨rfl, hr, ht⟩
          rw [E11.out] at hr ⊢
          simp only [strV] at hr ⊢
          have HC1 := hide (HC0.out.num hrb ht hr)
          clear hr ht
          clear c2 f2 c0 f0
          try clear c4 f4
          obtain ⟨c4, f4⟩ := HC1.out.cell 4
          simp only [List.getElem?_cons_zero, List.getElem?_cons_succ] at c4
          have HC2 := hide (HC1.out.set hrb hB 4 (.int .i64 (a2 : Int)))
          simp only [List.set_cons_zero, List.set_cons_succ] at HC2
          have HE : Hid (ansR l = ((⟨(n0 : Int), (n1 : Int), (n2 : Int), 0, (a2 : Int), 0, false, [], []⟩ : Ans), (r11).2)) := by
            show _ = _
            have hk' := hk.out
            unfold ansR atailR mkA
            simp [E0.out, E1.out, E2.out, E11.out, hk']
          go_wp2
          go_meet
          case rel => exact ⟨(⟨(n0 : Int), (n1 : Int), (n2 : Int), 0, (a2 : Int), 0, false, [], []⟩ : Ans), r11, .slice none 0 0, .slice none 0 0, HE.out, HC2.out, RecRow.nil _ 0, TopsAt.nil _, (by simp [Value.ownBlock]), (by simp [Value.ownBlock])⟩
      · as_aux_lemma =>
          have bz : ((n2 : Int) == 0) = true := by simp; omega
          have b1 : ((n0 : Int) == 1) = false := by simp; omega
          have b2 : ((n0 : Int) == 2) = false := by simp; omega
          have b3 : ((n0 : Int) == 3) = false := by simp; omega
          have b4 : ((n0 : Int) == 4) = false := by simp; omega
          have b7 : ((n0 : Int) == 7) = true := by simp; omega
          have hk := hide (show n2 = 0 ∧ ¬ n0 = 1 ∧ ¬ n0 = 2 ∧ ¬ n0 = 3 ∧ ¬ n0 = 4 ∧ n0 = 7 by omega)
          clear hcase
          try clear c0 f0
          obtain ⟨c0, f0⟩ := HC0.out.cell 0
          simp only [List.getElem?_cons_zero, List.getElem?_cons_succ] at c0
          obtain ⟨a2, r11, e11⟩ : ∃ n t, Bt.numR t2 = (n, t) := ⟨_, _, rfl⟩
          have q11 := (numR_len t2).1
          rw [e11] at q11
          simp only at q11
          have qa : a2 ≤ 1099511627776 := by have := (numR_len t2).2; rw [e11] at this; exact this
          have E11 := hide e11
          clear e11
          go_wp2_with fail
          refine (tnum_any _ tb B t2 HC0.out.rd hB (by omega)).mono ?_
          rintro e wn11 ⟨rfl, hr, ht⟩
          rw [E11.out] at hr ⊢
          simp only [strV] at hr ⊢
          have HC1 := hide (HC0.out.num hrb ht hr)
          clear hr ht
          clear c2 f2 c0 f0
          obtain ⟨res, hres⟩ : ∃ res, res = listR tpR a2 r11 := ⟨_, rfl⟩
          have HRES := hide hres
          have hxt := HC1.out.hx
          clear hres
          go_wp2
          simp only [bz]
          go_loopw [9] (fun nv wr => ∃ (v : Value) (k : Nat) (done : List Tp) (t : TS), nv = .int .i64 (k : Int) ∧ k ≤ 1099511627776 ∧ Tn 38 wt wr tb B X [.int .i64 (n0 : Int), .int .i64 (n1 : Int), .int .i64 (n2 : Int), .int .i64 0, .int .i64 0, .int .i64 0, .bool false, .slice none 0 0, v] t ∧ TpRow wr (X + 1) v done ∧ done.length + t.1.length ≤ 10000 + (if t.2 then 1 else 0) ∧ t.1.length ≤ 10000 ∧ res = (done ++ (listR tpR k t).1, (listR tpR k t).2)) (fun nv _ => (intOf nv).toNat)
          case atStart => exact ⟨.slice none 0 0, a2, [], r11, rfl, qa, HC1.out, .inl ⟨rfl, rfl⟩, by simp; omega, by omega, by simpa using HRES.out⟩
          case round =>
            obtain ⟨v, k, done, t, rfl, hk2, htn, hrow, hlen, htl, hre⟩ := hrel
            have HTN := hide htn
            have HROW := hide hrow
            have HRE := hide hre
            have cb := htn.rd.cell1.1
            obtain ⟨va, vn, vc, hv⟩ : ∃ a n c, v = .slice a n c := by
              obtain ⟨a, c, e, -⟩ := hrow.form; exact ⟨_, _, _, e⟩
            subst hv
            have hfin : (k = 0 ∨ t.2 = true) → ∃ (x : Ans) (t : TS) (rv tv : Value), ansR l = (x, t.2) ∧ Tn 38 wt wr tb B X (ansC x rv tv).toList t ∧ RecsAt wr rv x.recs ∧ TopsAt wr tv x.topics ∧ (∀ k ∈ rv.ownBlock, X < k) ∧ ∀ k ∈ tv.ownBlock, X < k := by
              intro he
              have hl : listR tpR k t = ([], t) := by
                rcases he with rfl | he
                · rfl
                · cases k with
                  | zero => rfl
                  | succ k => rw [listR, if_pos he]
              have hr : listR tpR a2 r11 = (done, t) := by rw [← HRES.out, HRE.out, hl, List.append_nil]
              have hok := (listT_all a2 r11 (by omega)).1
              rw [hr] at hok
              have hE : ansR l = ((⟨(n0 : Int), (n1 : Int), (n2 : Int), 0, 0, 0, false, [], done⟩ : Ans), t.2) := by
                have hk' := hk.out
                unfold ansR atailR mkA
                simp [E0.out, E1.out, E2.out, E11.out, hk', hr]
              exact ⟨_, t, .slice none 0 0, .slice va vn vc, hE, HTN.out, RecRow.nil _ 0, TpRow.tops HROW.out (fun r hr => (hok r hr).ok), (by simp [Value.ownBlock]), fun q hq => (HROW.out.lt q hq).1⟩
            have HFIN := hide hfin
            clear htn hrow hre hfin
            by_cases hk0 : k = 0
            · have hk1 : ¬ (k : Int) > 0 := by omega
              have HF := hide (HFIN.out (.inl hk0))
              clear hk0
              go_wp2
              go_meet
              case rel => exact HF.out
            · have hk1 : (k : Int) > 0 := by omega
              by_cases hbd : t.2 = true
              · have HF := hide (HFIN.out (.inr hbd))
                rw [hbd] at cb
                clear hk0 hbd
                go_wp2
                go_meet
                case rel => exact HF.out
              · have hbf : t.2 = false := by simpa using hbd
                rw [hbf] at cb hlen
                simp only [Bool.false_eq_true, if_false, Nat.add_zero] at hlen
                obtain ⟨k', rfl⟩ : ∃ k', k = k' + 1 := ⟨k - 1, by omega⟩
                have hst : listR tpR (k' + 1) t = ((tpR t).1 :: (listR tpR k' (tpR t).2).1, (listR tpR k' (tpR t).2).2) := by rw [listR, if_neg hbd]
                have hgd := tpR_gd t
                have HST := hide hst
                have HGD := hide hgd
                clear hst hgd hk0 hbd hbf HFIN
                obtain ⟨nm, s1, e21⟩ : ∃ n t', Bt.textR 40 t = (n, t') := ⟨_, _, rfl⟩
                have q21 := (textR_len 40 t).1
                rw [e21] at q21
                obtain ⟨pn, s2, e22⟩ : ∃ n t', Bt.numR s1 = (n, t') := ⟨_, _, rfl⟩
                have q22 := (numR_len s1).1
                rw [e22] at q22
                obtain ⟨cm, s3, e23⟩ : ∃ n t', truR s2 = (n, t') := ⟨_, _, rfl⟩
                have q23 := truR_len s2
                rw [e23] at q23
                simp only at q21 q22 q23
                have htp : tpR t = ((⟨nm, (pn : Int), cm⟩ : Tp), s3) := by unfold tpR; simp [e21, e22, e23]
                have hgd := HGD.out
                have hst := HST.out
                rw [htp] at hgd hst
                simp only at hgd hst
                have HGD2 := hide hgd
                have HST2 := hide hst
                have E21 := hide e21
                have E22 := hide e22
                have E23 := hide e23
                clear e21 e22 e23 htp hgd hst HGD HST
                go_wp2_with fail
                refine (ttext_any _ tb B t HTN.out.rd hB (by omega) 40 (by omega)).mono ?_
                rintro e u1 ⟨rfl, hr, ht⟩
                rw [E21.out] at hr ⊢
                simp only [strV] at hr ⊢
                have HTN1 := hide (HTN.out.num hrb ht hr)
                have HROW1 := hide (HROW.out.kept ht (fun q hq hm => by have := (HROW.out.lt q hq).1; simp at hm; omega))
                obtain ⟨Z, hZ⟩ : ∃ Z, Z = u1.heap.size := ⟨_, rfl⟩
                obtain ⟨uz, huz⟩ : ∃ uz, uz = (u1.alloc (.cells #[.string ⟨#[]⟩, .int .i64 0, .bool false] 67)).setRow u1.heap.size #[.string ⟨nm.toArray⟩, .int .i64 0, .bool false] := ⟨_, rfl⟩
                have hbz : (u1.alloc (.cells #[.string ⟨#[]⟩, .int .i64 0, .bool false] 67)).heap[u1.heap.size]? = some (.cells #[.string ⟨#[]⟩, .int .i64 0, .bool false] 67 (0, 0)) := heap_new u1 _
                have hru : tb < u1.heap.size := by have := HTN1.out.turn.size; omega
                have hz0 : Tn 67 u1 uz tb B Z [.string ⟨nm.toArray⟩, .int .i64 0, .bool false] s1 := by
                  rw [huz, hZ]
                  exact Tn.mk2 (zs := [.string ⟨#[]⟩, .int .i64 0, .bool false]) [.string ⟨nm.toArray⟩, .int .i64 0, .bool false] hr (Turn.refl _ _) hru
                have HZ0 := hide hz0
                have HZZ := hide hZ
                have HUZ := hide huz
                have HBZ2 := hide hbz
                clear hr ht hZ huz hbz hz0 cb
                go_upto_region 25 with (refine wpList_store_row rfl _ _ _ rfl u1.heap.size #[.string ⟨nm.toArray⟩, .int .i64 0, .bool false] rfl rfl _ _ HBZ2.out (by kernel_rfl) rfl (by kernel_rfl) ?_)
                rw [show (u1.alloc (.cells #[.string ⟨#[]⟩, .int .i64 0, .bool false] 67)).setRow u1.heap.size #[.string ⟨nm.toArray⟩, .int .i64 0, .bool false] = uz from HUZ.out.symm, ← HZZ.out]
                go_wp2_with fail
                refine (tnum_any _ tb B s1 HZ0.out.rd hB (by omega)).mono ?_
                rintro e u2 ⟨rfl, hr, ht⟩
                rw [E22.out] at hr ⊢
                simp only at hr ⊢
                have HZ1 := hide (HZ0.out.num hru ht hr)
                clear hr ht
                obtain ⟨z1, y1⟩ := HZ1.out.cell 1
                simp only [List.getElem?_cons_zero, List.getElem?_cons_succ] at z1
                have HZ2 := hide (HZ1.out.set hru hB 1 (.int .i64 (pn : Int)))
                simp only [List.set_cons_zero, List.set_cons_succ] at HZ2
                go_wp2_with fail
                refine (ttru_any _ tb B s2 HZ2.out.rd hB (by omega)).mono ?_
                rintro e u3 ⟨rfl, hr, ht⟩
                rw [E23.out] at hr ⊢
                simp only at hr ⊢
                have HZ3 := hide (HZ2.out.num hru ht hr)
                clear hr ht z1 y1
                obtain ⟨z2, y2⟩ := HZ3.out.cell 2
                simp only [List.getElem?_cons_zero, List.getElem?_cons_succ] at z2
                have hz4 := HZ3.out.set hru hB 2 (.bool cm)
                simp only [List.set_cons_zero, List.set_cons_succ] at hz4
                obtain ⟨z0', y0'⟩ := hz4.cell 0
                obtain ⟨z1', y1'⟩ := hz4.cell 1
                obtain ⟨z2', y2'⟩ := hz4.cell 2
                simp only [List.getElem?_cons_zero, List.getElem?_cons_succ] at z0' z1' z2'
                have hx4 := HTN1.out.num hrb hz4.turn hz4.rd
                obtain ⟨x8, y8⟩ := hx4.cell 8
                simp only [List.getElem?_cons_zero, List.getElem?_cons_succ] at x8
                have hrow4 := HROW1.out.kept hz4.turn (fun q hq hm => by have := (HROW1.out.lt q hq).1; simp at hm; omega)
                have hX4 := lt_of_heap hx4.x
                have hta : Turn [] (u3.setCell ⟨Z, 2, none⟩ (.bool cm)) ((u3.setCell ⟨Z, 2, none⟩ (.bool cm)).alloc (.cells #[.string ⟨nm.toArray⟩, .int .i64 (pn : Int), .bool cm] 67)) := (Turn.refl [] _).alloc _
                have hnw : ((u3.setCell ⟨Z, 2, none⟩ (.bool cm)).alloc (.cells #[.string ⟨nm.toArray⟩, .int .i64 (pn : Int), .bool cm] 67)).heap[u3.heap.size]? = some (.cells #[.string ⟨nm.toArray⟩, .int .i64 (pn : Int), .bool cm] 67 (0, 0)) := by
                  have h := heap_new (u3.setCell ⟨Z, 2, none⟩ (.bool cm)) (.cells #[.string ⟨nm.toArray⟩, .int .i64 (pn : Int), .bool cm] 67)
                  rw [World.size_setCell] at h
                  exact h
                have hX4' : X + 1 ≤ ((u3.setCell ⟨Z, 2, none⟩ (.bool cm)).alloc (.cells #[.string ⟨nm.toArray⟩, .int .i64 (pn : Int), .bool cm] 67)).heap.size := by
                  rw [World.size_setCell] at hX4; simp; omega
                obtain ⟨v7, w7, hr7, hrow7, ht7, hown7⟩ := app_tp _ (X + 1) (.slice va vn vc) done ⟨nm, (pn : Int), cm⟩ u3.heap.size (hrow4.kept hta (by simp)) hnw (by omega) hX4'
                obtain ⟨a3, n3, cp3, hv3⟩ : ∃ a n c, v7 = .slice a n c := by
                  obtain ⟨a, c, e, -⟩ := hrow7.form; exact ⟨_, _, _, e⟩
                subst hv3
                have hx7 := (hx4.upto hrb hta).past hrb hB ht7 (fun q hq => (hrow4.lt q (by simpa using hq)).1)
                obtain ⟨x8', y8'⟩ := hx7.cell 8
                simp only [List.getElem?_cons_zero, List.getElem?_cons_succ] at x8'
                have hx8 := hx7.set hrb hB 8 (.slice a3 n3 cp3)
                simp only [List.set_cons_zero, List.set_cons_succ] at hx8
                have hrow8 := hrow7.kept (show Turn [X] w7 (w7.setCell ⟨X, 8, none⟩ (.slice a3 n3 cp3)) from (Turn.refl [X] w7).setCell (.inl (by simp)) _) (fun q hq hm => by have := (hrow7.lt q hq).1; simp at hm; omega)
                have HR7 := hide hr7
                have HX8 := hide hx8
                have HROW8 := hide hrow8
                clear hr7 hrow7 ht7 hown7 hx7 hx8 hrow8 hta hrow4 hx4 hz4 hnw hX4'
                go_wp2_with (at_builtin; go_must (refine wpList_append_told rfl rfl rfl rfl HR7.out ?_))
                go_roundw
                case rel =>
                  refine ⟨_, k', done ++ [⟨nm, (pn : Int), cm⟩], s3, by go_num, by omega, HX8.out, HROW8.out, ?_, ?_, ?_⟩
                  · have h1 := HGD2.out.1.len
                    simp only [List.length_append, List.length_cons, List.length_nil]
                    cases hb : s3.2 with
                    | true => simp; omega
                    | false => have := HGD2.out.2 hb; simp; omega
                  · have := HGD2.out.1.len; omega
                  · rw [HRE.out, HST2.out]
                    simp only [List.append_assoc, List.cons_append, List.nil_append]
                case measure => simp only [intOf]; omega
      · as_aux_lemma =>
          have bz : ((n2 : Int) == 0) = true := by simp; omega
          have b1 : ((n0 : Int) == 1) = false := by simp; omega
          have b2 : ((n0 : Int) == 2) = false := by simp; omega
          have b3 : ((n0 : Int) == 3) = false := by simp; omega
          have b4 : ((n0 : Int) == 4) = false := by simp; omega
          have b7 : ((n0 : Int) == 7) = false := by simp; omega
          have hk := hide (show n2 = 0 ∧ ¬ n0 = 1 ∧ ¬ n0 = 2 ∧ ¬ n0 = 3 ∧ ¬ n0 = 4 ∧ ¬ n0 = 7 by omega)
          clear hcase
          try clear c0 f0
          obtain ⟨c0, f0⟩ := HC0.out.cell 0
          simp only [List.getElem?_cons_zero, List.getElem?_cons_succ] at c0
          have HE : Hid (ansR l = ((⟨(n0 : Int), (n1 : Int), (n2 : Int), 0, 0, 0, false, [], []⟩ : Ans), (t2).2)) := by
            show _ = _
            have hk' := hk.out
            have hk' : n2 = 0 ∧ ¬ (n0 : Int) = 1 ∧ ¬ (n0 : Int) = 2 ∧ ¬ (n0 : Int) = 3 ∧ ¬ (n0 : Int) = 4 ∧ ¬ (n0 : Int) = 7 := by omega
            unfold ansR atailR mkA
            simp [E0.out, E1.out, E2.out, hk']
          go_wp2
          go_meet
          case rel => exact ⟨(⟨(n0 : Int), (n1 : Int), (n2 : Int), 0, 0, 0, false, [], []⟩ : Ans), t2, .slice none 0 0, .slice none 0 0, HE.out, HC0.out, RecRow.nil _ 0, TopsAt.nil _, (by simp [Value.ownBlock]), (by simp [Value.ownBlock])⟩
    case rest =>
      obtain ⟨x, t, rv, tv, hrr, htn, hrec, htop, hrl, htl⟩ := hcut
      obtain ⟨bad⟩ : Nonempty Unit := ⟨()⟩
      have hsm := HSM.out
      rw [hrr] at hsm
      have hiff := HIFF.out
      rw [hrr] at hiff
      simp only at hsm hiff
      have HSM2 := hide hsm
      have HIFF2 := hide hiff
      have HRR := hide hrr
      have HTN := hide htn
      have HREC := hide hrec
      have HTOP := hide htop
      have HRL := hide hrl
      have HTL := hide htl
      clear hrr htn hrec htop htl hrl hsm hiff
      obtain ⟨kind, corr, err, offset, start, fin, found, recs, topics⟩ := x
      obtain ⟨XX, hXX⟩ : ∃ XX : Ans, XX = ⟨kind, corr, err, offset, start, fin, found, recs, topics⟩ := ⟨_, rfl⟩
      have HXX := hide hXX
      clear hXX
      obtain ⟨ra, rc, rfl, -, -, -, -⟩ := HREC.out.form
      obtain ⟨ta, tc, rfl, -, -, -, -⟩ := HTOP.out.form
      have hlx : (loadVar 38 ⟨X, 0, none⟩).run Tryd.prog wc = .ok (.agg #[.int .i64 kind, .int .i64 corr, .int .i64 err, .int .i64 offset, .int .i64 start, .int .i64 fin, .bool found, .slice ra recs.length rc, .slice ta topics.length tc]) wc := load9 HTN.out.x
      have HLX := hide hlx
      clear hlx
      go_wp2_with (refine wpList_loadT rfl _ _ rfl ⟨X, 0, none⟩ rfl _ HLX.out ?_)
      refine (refTell_any wc ⟨kind, corr, err, offset, start, fin, found, recs, topics⟩ (.slice ra recs.length rc) (.slice ta topics.length tc) HREC.out HTOP.out HSM2.out.1 HSM2.out.2.1 HSM2.out.2.2.1 HSM2.out.2.2.2).mono ?_
      rintro e w3 ⟨v3, rfl, hr3, ht3⟩
      rw [← HXX.out] at hr3 ⊢
      obtain ⟨m, e2, hm⟩ : ∃ m e2, tellM XX = (m, e2) := ⟨_, _, rfl⟩
      rw [hm] at hr3 ⊢
      simp only at hr3 ⊢
      have hok : okA b XX ↔ m = b.take n ∧ e2 = 0 := by unfold okA; rw [hm, HW.out]; simp
      have hb3 := hr3.bytes
      have hbx : ∀ Q, Turn [] w3 Q → Q.heap[X]? = some (.cells #[.int .i64 kind, .int .i64 corr, .int .i64 err, .int .i64 offset, .int .i64 start, .int .i64 fin, .bool found, .slice ra recs.length rc, .slice ta topics.length tc] 38 (0, 0)) ∧ Q.heap[w.heap.size]? = some (.cells zAv.toArray 38 (0, 0)) ∧ Turn [] w Q ∧ Turn [] wc Q := by
        intro Q hQ
        have h2 : Turn [] wc Q := ht3.same hQ
        have h5 : Turn [] wt wc ∨ True := .inr trivial
        have h3 : Turn [tb] wt Q := HTN.out.turn.same (h2.mono (by simp))
        refine ⟨h2.heap HTN.out.x (by simp), h3.heap HYT.out (by simp; omega), ?_, h2⟩
        exact HTT.out.trans h3 (fun k hk => .inr (by simp at hk; omega))
      have hrd5 : ∀ Z, Turn [] w3 Z → TkAt Z tb B t := fun Z hZ => (HTN.out.rd.still ht3).still hZ
      have HOK := hide hok
      have HB3 := hide hb3
      have HTK3 := hide (HTK.out.still (hbx w3 (Turn.refl _ _)).2.2.1)
      have HBX := hide hbx
      have HRD5 := hide hrd5
      clear hok hb3 ht3 hr3 hm hbx hrd5
      obtain ⟨tl, bd⟩ := t
      simp only at HIFF2 HRR
      cases bd with
      | true =>
        have HM : Hid (toldM b = (zA, 0, 3)) := by show _ = _; rw [HIFF2.out, if_neg (fun h => by simp at h)]
        go_wp2
        refine wp_region_loose (Turn []) (by kernel_rfl) (by kernel_rfl) (by kernel_rfl) (by kernel_rfl) rfl (Turn.refl _) (fun _ _ _ h k => h.same k) ?_
        apply Lo.runx 1 rfl rfl [] (by kernel_rfl) (Turn.refl _)
        apply Exists.intro; apply And.intro
        · intro u w1 hR hF
          clear hF
          refine ⟨rfl, fun a ha K hK => ?_⟩
          have e7 := ha 7
          conv at e7 => rhs; whnf
          clear ha
          go_simp
          refine hK _ ?_; rfl
        apply Lo.runx 2 rfl rfl [0] (by kernel_rfl) (Turn.refl _)
        apply Exists.intro; apply And.intro
        · intro u w1 hR hF
          obtain ⟨h0, -⟩ := hF
          refine ⟨rfl, fun a ha K hK => ?_⟩
          have e105 := (ha 105).trans h0
          clear ha h0
          go_simp
          refine hK _ ?_; rfl
        apply Lo.runx 3 rfl rfl [1] (by kernel_rfl) (Turn.refl _)
        apply Exists.intro; apply And.intro
        · intro u w1 hR hF
          obtain ⟨h1, -⟩ := hF
          refine ⟨rfl, fun a ha K hK => ?_⟩
          have e106 := (ha 106).trans h1
          clear ha h1
          go_simp
          refine hK _ ?_; rfl
        apply Lo.runx 4 rfl rfl [2] (by kernel_rfl) (Turn.refl _)
        apply Exists.intro; apply And.intro
        · intro u w1 hR hF
          obtain ⟨h2, -⟩ := hF
          refine ⟨rfl, fun a ha K hK => ?_⟩
          have e107 := (ha 107).trans h2
          clear ha h2
          have kb := (HRD5.out w1 ((Turn.refl [] _).drew.same hR)).cell1.1
          go_simp
          refine hK _ ?_; rfl
        apply Lo.runx 5 rfl rfl [3] (by kernel_rfl) (Turn.refl _)
        apply Exists.intro; apply And.intro
        · intro u w1 hR hF
          obtain ⟨h3, -⟩ := hF
          refine ⟨rfl, fun a ha K hK => ?_⟩
          have e108 := (ha 108).trans h3
          clear ha h3
          go_simp
          refine hK _ ?_; rfl
        refine Lo.pass 6 rfl rfl [4] (by kernel_rfl) (Turn.refl _) (fun u w1 hR hF => ?_) ?_
        · exact .inl ⟨true, hF.1, rfl⟩
        refine Lo.pass 7 rfl rfl [4] (by kernel_rfl) (Turn.refl _) (fun u w1 hR hF => ?_) ?_
        · exact .inl ⟨true, hF.1, rfl⟩
        apply Lo.runx 8 rfl rfl [4, 6] (by kernel_rfl) (Turn.refl _)
        apply Exists.intro; apply And.intro
        · intro u w1 hR hF
          obtain ⟨h4, h6, -⟩ := hF
          refine ⟨rfl, fun a ha K hK => ?_⟩
          have e109 := (ha 109).trans h4
          have e111 := (ha 111).trans h6
          clear ha h4 h6
          go_simp
          refine hK _ ?_; rfl
        apply Lo.runx 9 rfl rfl [7] (by kernel_rfl) (Turn.refl _)
        apply Exists.intro; apply And.intro
        · intro u w1 hR hF
          obtain ⟨h7, -⟩ := hF
          refine ⟨rfl, fun a ha K hK => ?_⟩
          have e112 := (ha 112).trans h7
          clear ha h7
          go_simp
          refine hK _ ?_; rfl
        refine Lo.pass 10 rfl rfl [8] (by kernel_rfl) (Turn.refl _) (fun u w1 hR hF => ?_) ?_
        · exact .inl ⟨true, hF.1, rfl⟩
        refine Lo.pass 11 rfl rfl [8] (by kernel_rfl) (Turn.refl _) (fun u w1 hR hF => ?_) ?_
        · exact .inl ⟨true, hF.1, rfl⟩
        refine Lo.pass 12 rfl rfl [8] (by kernel_rfl) (Turn.refl _) (fun u w1 hR hF => ?_) ?_
        · exact .inl ⟨true, hF.1, rfl⟩
        refine Lo.pass 13 rfl rfl [8] (by kernel_rfl) (Turn.refl _) (fun u w1 hR hF => ?_) ?_
        · exact .inl ⟨true, hF.1, rfl⟩
        refine Lo.pass 14 rfl rfl [8] (by kernel_rfl) (Turn.refl _) (fun u w1 hR hF => ?_) ?_
        · exact .inl ⟨true, hF.1, rfl⟩
        refine Lo.pass 15 rfl rfl [8] (by kernel_rfl) (Turn.refl _) (fun u w1 hR hF => ?_) ?_
        · exact .inl ⟨true, hF.1, rfl⟩
        refine Lo.pass 16 rfl rfl [8] (by kernel_rfl) (Turn.refl _) (fun u w1 hR hF => ?_) ?_
        · exact .inl ⟨true, hF.1, rfl⟩
        apply Lo.runx 17 rfl rfl [8, 15] (by kernel_rfl) (Turn.refl _)
        apply Exists.intro; apply And.intro
        · intro u w1 hR hF
          obtain ⟨h8, h15, -⟩ := hF
          refine ⟨rfl, fun a ha K hK => ?_⟩
          have e113 := (ha 113).trans h8
          have e120 := (ha 120).trans h15
          clear ha h8 h15
          go_simp
          refine hK _ ?_; rfl
        refine Lo.done [16] (fun u w1 hRd hSd hF => ?_)
        clear hSd
        obtain ⟨f16, -⟩ := hF
        have d16 : u 16 = _ := f16
        clear f16
        simp only [putFrom, Act.put, List.setIfInBounds_toArray, List.set_cons_succ, List.set_cons_zero, Nat.zero_add, Nat.reduceAdd, d16]
        have htw4 : Turn [] w3 w1 := (Turn.refl [] w3).drew.same hRd
        clear hRd
        have hbx := HBX.out _ htw4
        have HBX2 := hide hbx
        clear hbx htw4
        have HF := hide (fin_row [.int .i64 0, .int .i64 0, .int .i64 0, .int .i64 0, .int .i64 0, .int .i64 0, .bool false, .slice none 0 0, .slice none 0 0] HBX2.out.2.1 HBX2.out.2.2.1 (Nat.le_refl _))
        go_wp2_with (refine wpList_store_row rfl _ _ _ rfl w.heap.size #[.int .i64 0, .int .i64 0, .int .i64 0, .int .i64 0, .int .i64 0, .int .i64 0, .bool false, .slice none 0 0, .slice none 0 0] rfl rfl _ _ HBX2.out.2.1 (by kernel_rfl) rfl (by kernel_rfl) ?_)
        have hld := load9 HF.out.1
        refine bodyPost_ret (v := .tuple #[.agg #[.int .i64 0, .int .i64 0, .int .i64 0, .int .i64 0, .int .i64 0, .int .i64 0, .bool false, .slice none 0 0, .slice none 0 0], .int .i64 0, .int .i64 3]) (by simp [results, Tryd.results9, asAddr, hld, Result.andThen]) rfl ?_
        rw [HM.out]
        exact ⟨.slice none 0 0, .slice none 0 0, rfl, RecRow.nil _ 0, TopsAt.nil _, HF.out.2.1⟩
      | false =>
        by_cases h2 : e2 = 0
        · subst h2
          by_cases heq : m = b.take n
          · have HEQ := hide heq
            have HM : Hid (toldM b = (XX, n, 0)) := by show _ = _; rw [HIFF2.out, ← HXX.out, if_pos ⟨rfl, HOK.out.2 ⟨heq, by trivial⟩⟩]
            clear heq
            go_wp2
            refine wp_region_loose (Turn []) (by kernel_rfl) (by kernel_rfl) (by kernel_rfl) (by kernel_rfl) rfl (Turn.refl _) (fun _ _ _ h k => h.same k) ?_
            apply Lo.runx 1 rfl rfl [] (by kernel_rfl) (Turn.refl _)
            apply Exists.intro; apply And.intro
            · intro u w1 hR hF
              clear hF
              refine ⟨rfl, fun a ha K hK => ?_⟩
              have e7 := ha 7
              conv at e7 => rhs; whnf
              clear ha
              go_simp
              refine hK _ ?_; rfl
            apply Lo.runx 2 rfl rfl [0] (by kernel_rfl) (Turn.refl _)
            apply Exists.intro; apply And.intro
            · intro u w1 hR hF
              obtain ⟨h0, -⟩ := hF
              refine ⟨rfl, fun a ha K hK => ?_⟩
              have e105 := (ha 105).trans h0
              clear ha h0
              go_simp
              refine hK _ ?_; rfl
            apply Lo.runx 3 rfl rfl [1] (by kernel_rfl) (Turn.refl _)
            apply Exists.intro; apply And.intro
            · intro u w1 hR hF
              obtain ⟨h1, -⟩ := hF
              refine ⟨rfl, fun a ha K hK => ?_⟩
              have e106 := (ha 106).trans h1
              clear ha h1
              go_simp
              refine hK _ ?_; rfl
            apply Lo.runx 4 rfl rfl [2] (by kernel_rfl) (Turn.refl _)
            apply Exists.intro; apply And.intro
            · intro u w1 hR hF
              obtain ⟨h2, -⟩ := hF
              refine ⟨rfl, fun a ha K hK => ?_⟩
              have e107 := (ha 107).trans h2
              clear ha h2
              have kb := (HRD5.out w1 ((Turn.refl [] _).drew.same hR)).cell1.1
              go_simp
              refine hK _ ?_; rfl
            apply Lo.runx 5 rfl rfl [3] (by kernel_rfl) (Turn.refl _)
            apply Exists.intro; apply And.intro
            · intro u w1 hR hF
              obtain ⟨h3, -⟩ := hF
              refine ⟨rfl, fun a ha K hK => ?_⟩
              have e108 := (ha 108).trans h3
              clear ha h3
              go_simp
              refine hK _ ?_; rfl
            apply Lo.runx 6 rfl rfl [4] (by kernel_rfl) (Turn.refl _)
            apply Exists.intro; apply And.intro
            · intro u w1 hR hF
              obtain ⟨h4, -⟩ := hF
              refine ⟨.inl ⟨false, h4, rfl⟩, fun a ha K hK => ?_⟩
              have e12 := ha 12
              conv at e12 => rhs; whnf
              clear ha h4
              go_simp
              refine hK _ ?_; rfl
            apply Lo.runx 7 rfl rfl [4, 5] (by kernel_rfl) (Turn.refl _)
            apply Exists.intro; apply And.intro
            · intro u w1 hR hF
              obtain ⟨h4, h5, -⟩ := hF
              refine ⟨.inl ⟨false, h4, rfl⟩, fun a ha K hK => ?_⟩
              have e110 := (ha 110).trans h5
              clear ha h4 h5
              go_simp
              refine hK _ ?_; rfl
            apply Lo.runx 8 rfl rfl [4, 6] (by kernel_rfl) (Turn.refl _)
            apply Exists.intro; apply And.intro
            · intro u w1 hR hF
              obtain ⟨h4, h6, -⟩ := hF
              refine ⟨rfl, fun a ha K hK => ?_⟩
              have e109 := (ha 109).trans h4
              have e111 := (ha 111).trans h6
              clear ha h4 h6
              go_simp
              refine hK _ ?_; rfl
            apply Lo.runx 9 rfl rfl [7] (by kernel_rfl) (Turn.refl _)
            apply Exists.intro; apply And.intro
            · intro u w1 hR hF
              obtain ⟨h7, -⟩ := hF
              refine ⟨rfl, fun a ha K hK => ?_⟩
              have e112 := (ha 112).trans h7
              clear ha h7
              go_simp
              refine hK _ ?_; rfl
            apply Lo.runx 10 rfl rfl [8] (by kernel_rfl) (Turn.refl _)
            apply Exists.intro; apply And.intro
            · intro u w1 hR hF
              obtain ⟨h8, -⟩ := hF
              refine ⟨.inl ⟨false, h8, rfl⟩, fun a ha K hK => ?_⟩
              have e11 := ha 11
              conv at e11 => rhs; whnf
              clear ha h8
              go_simp
              refine hK _ ?_; rfl
            apply Lo.runx 11 rfl rfl [8, 9] (by kernel_rfl) (Turn.refl _)
            apply Exists.intro; apply And.intro
            · intro u w1 hR hF
              obtain ⟨h8, h9, -⟩ := hF
              refine ⟨.inl ⟨false, h8, rfl⟩, fun a ha K hK => ?_⟩
              have e114 := (ha 114).trans h9
              clear ha h8 h9
              have hcv := (HB3.out.still ((Turn.refl [] _).drew.same hR)).conv
              go_simp
              refine hK _ ?_; rfl
            apply Lo.runx 12 rfl rfl [8] (by kernel_rfl) (Turn.refl _)
            apply Exists.intro; apply And.intro
            · intro u w1 hR hF
              obtain ⟨h8, -⟩ := hF
              refine ⟨.inl ⟨false, h8, rfl⟩, fun a ha K hK => ?_⟩
              have e0 := ha 0
              conv at e0 => rhs; whnf
              clear ha h8
              go_simp
              refine hK _ ?_; rfl
            apply Lo.runx 13 rfl rfl [8] (by kernel_rfl) (Turn.refl _)
            apply Exists.intro; apply And.intro
            · intro u w1 hR hF
              obtain ⟨h8, -⟩ := hF
              refine ⟨.inl ⟨false, h8, rfl⟩, fun a ha K hK => ?_⟩
              have e5 := ha 5
              conv at e5 => rhs; whnf
              clear ha h8
              go_simp
              refine hK _ ?_; rfl
            apply Lo.runx 14 rfl rfl [8, 11, 12] (by kernel_rfl) (Turn.refl _)
            apply Exists.intro; apply And.intro
            · intro u w1 hR hF
              obtain ⟨h8, h11, h12, -⟩ := hF
              refine ⟨.inl ⟨false, h8, rfl⟩, fun a ha K hK => ?_⟩
              have e116 := (ha 116).trans h11
              have e117 := (ha 117).trans h12
              clear ha h8 h11 h12
              go_simp
              refine hK _ ?_; rfl
            apply Lo.runx 15 rfl rfl [8, 13] (by kernel_rfl) (Turn.refl _)
            apply Exists.intro; apply And.intro
            · intro u w1 hR hF
              obtain ⟨h8, h13, -⟩ := hF
              refine ⟨.inl ⟨false, h8, rfl⟩, fun a ha K hK => ?_⟩
              have e118 := (ha 118).trans h13
              clear ha h8 h13
              have hcv := (HTK3.out.still ((Turn.refl [] _).drew.same hR)).conv
              go_simp
              refine hK _ ?_; rfl
            refine Lo.runv 16 rfl rfl [8, 10, 14] (.bool (false)) (by kernel_rfl) (fun u w1 hR hF => ?_) (Turn.refl _) ?_
            · obtain ⟨h8, h10, h14, -⟩ := hF
              refine ⟨.inl ⟨false, h8, rfl⟩, fun a ha K hK => ?_⟩
              have e115 := (ha 115).trans h10
              have e119 := (ha 119).trans h14
              clear ha h8 h10 h14
              go_simp
              refine hK _ ?_
              have hq0 := HEQ.out
              simp [hq0]
            apply Lo.runx 17 rfl rfl [8, 15] (by kernel_rfl) (Turn.refl _)
            apply Exists.intro; apply And.intro
            · intro u w1 hR hF
              obtain ⟨h8, h15, -⟩ := hF
              refine ⟨rfl, fun a ha K hK => ?_⟩
              have e113 := (ha 113).trans h8
              have e120 := (ha 120).trans h15
              clear ha h8 h15
              go_simp
              refine hK _ ?_; rfl
            refine Lo.done [16] (fun u w1 hRd hSd hF => ?_)
            clear hSd
            obtain ⟨f16, -⟩ := hF
            have d16 : u 16 = _ := f16
            clear f16
            simp only [putFrom, Act.put, List.setIfInBounds_toArray, List.set_cons_succ, List.set_cons_zero, Nat.zero_add, Nat.reduceAdd, d16]
            have htw4 : Turn [] w3 w1 := (Turn.refl [] w3).drew.same hRd
            clear hRd
            have hbx := HBX.out _ htw4
            have HBX2 := hide hbx
            clear hbx htw4
            go_upto_region 31 with fail
            refine wp_region_lit ?_
            refine wpList_loadT rfl _ _ rfl ⟨X, 0, none⟩ rfl _ (load9 HBX2.out.1) ?_
            have HF := hide (fin_row [.int .i64 kind, .int .i64 corr, .int .i64 err, .int .i64 offset, .int .i64 start, .int .i64 fin, .bool found, .slice ra recs.length rc, .slice ta topics.length tc] HBX2.out.2.1 HBX2.out.2.2.1 (Nat.le_refl _))
            go_simp
            go_wp2_with (refine wpList_store_row rfl _ _ _ rfl w.heap.size #[.int .i64 kind, .int .i64 corr, .int .i64 err, .int .i64 offset, .int .i64 start, .int .i64 fin, .bool found, .slice ra recs.length rc, .slice ta topics.length tc] rfl rfl _ _ HBX2.out.2.1 (by kernel_rfl) rfl (by kernel_rfl) ?_)
            have hld := load9 HF.out.1
            refine bodyPost_ret (v := .tuple #[.agg #[.int .i64 kind, .int .i64 corr, .int .i64 err, .int .i64 offset, .int .i64 start, .int .i64 fin, .bool found, .slice ra recs.length rc, .slice ta topics.length tc], .int .i64 n, .int .i64 0]) (by simp [results, Tryd.results9, asAddr, hld, Result.andThen]) rfl ?_
            rw [HM.out]
            refine ⟨.slice ra recs.length rc, .slice ta topics.length tc, by rw [HXX.out]; rfl, ?_, ?_, HF.out.2.1⟩
            · rw [HXX.out]
              exact (HREC.out.still HBX2.out.2.2.2).kept HF.out.2.2 (fun k hk _ hm => by have := HRL.out k hk; simp at hm; omega)
            · rw [HXX.out]
              exact (HTOP.out.still HBX2.out.2.2.2).kept HF.out.2.2 (fun k hk _ hm => by have := HTL.out k hk; simp at hm; omega)
          · have HEQ := hide heq
            have HM : Hid (toldM b = (zA, 0, 3)) := by show _ = _; rw [HIFF2.out, ← HXX.out, if_neg (fun h => heq (HOK.out.1 h.2).1)]
            clear heq
            go_wp2
            refine wp_region_loose (Turn []) (by kernel_rfl) (by kernel_rfl) (by kernel_rfl) (by kernel_rfl) rfl (Turn.refl _) (fun _ _ _ h k => h.same k) ?_
            apply Lo.runx 1 rfl rfl [] (by kernel_rfl) (Turn.refl _)
            apply Exists.intro; apply And.intro
            · intro u w1 hR hF
              clear hF
              refine ⟨rfl, fun a ha K hK => ?_⟩
              have e7 := ha 7
              conv at e7 => rhs; whnf
              clear ha
              go_simp
              refine hK _ ?_; rfl
            apply Lo.runx 2 rfl rfl [0] (by kernel_rfl) (Turn.refl _)
            apply Exists.intro; apply And.intro
            · intro u w1 hR hF
              obtain ⟨h0, -⟩ := hF
              refine ⟨rfl, fun a ha K hK => ?_⟩
              have e105 := (ha 105).trans h0
              clear ha h0
              go_simp
              refine hK _ ?_; rfl
            apply Lo.runx 3 rfl rfl [1] (by kernel_rfl) (Turn.refl _)
            apply Exists.intro; apply And.intro
            · intro u w1 hR hF
              obtain ⟨h1, -⟩ := hF
              refine ⟨rfl, fun a ha K hK => ?_⟩
              have e106 := (ha 106).trans h1
              clear ha h1
              go_simp
              refine hK _ ?_; rfl
            apply Lo.runx 4 rfl rfl [2] (by kernel_rfl) (Turn.refl _)
            apply Exists.intro; apply And.intro
            · intro u w1 hR hF
              obtain ⟨h2, -⟩ := hF
              refine ⟨rfl, fun a ha K hK => ?_⟩
              have e107 := (ha 107).trans h2
              clear ha h2
              have kb := (HRD5.out w1 ((Turn.refl [] _).drew.same hR)).cell1.1
              go_simp
              refine hK _ ?_; rfl
            apply Lo.runx 5 rfl rfl [3] (by kernel_rfl) (Turn.refl _)
            apply Exists.intro; apply And.intro
            · intro u w1 hR hF
              obtain ⟨h3, -⟩ := hF
              refine ⟨rfl, fun a ha K hK => ?_⟩
              have e108 := (ha 108).trans h3
              clear ha h3
              go_simp
              refine hK _ ?_; rfl
            apply Lo.runx 6 rfl rfl [4] (by kernel_rfl) (Turn.refl _)
            apply Exists.intro; apply And.intro
            · intro u w1 hR hF
              obtain ⟨h4, -⟩ := hF
              refine ⟨.inl ⟨false, h4, rfl⟩, fun a ha K hK => ?_⟩
              have e12 := ha 12
              conv at e12 => rhs; whnf
              clear ha h4
              go_simp
              refine hK _ ?_; rfl
            apply Lo.runx 7 rfl rfl [4, 5] (by kernel_rfl) (Turn.refl _)
            apply Exists.intro; apply And.intro
            · intro u w1 hR hF
              obtain ⟨h4, h5, -⟩ := hF
              refine ⟨.inl ⟨false, h4, rfl⟩, fun a ha K hK => ?_⟩
              have e110 := (ha 110).trans h5
              clear ha h4 h5
              go_simp
              refine hK _ ?_; rfl
            apply Lo.runx 8 rfl rfl [4, 6] (by kernel_rfl) (Turn.refl _)
            apply Exists.intro; apply And.intro
            · intro u w1 hR hF
              obtain ⟨h4, h6, -⟩ := hF
              refine ⟨rfl, fun a ha K hK => ?_⟩
              have e109 := (ha 109).trans h4
              have e111 := (ha 111).trans h6
              clear ha h4 h6
              go_simp
              refine hK _ ?_; rfl
            apply Lo.runx 9 rfl rfl [7] (by kernel_rfl) (Turn.refl _)
            apply Exists.intro; apply And.intro
            · intro u w1 hR hF
              obtain ⟨h7, -⟩ := hF
              refine ⟨rfl, fun a ha K hK => ?_⟩
              have e112 := (ha 112).trans h7
              clear ha h7
              go_simp
              refine hK _ ?_; rfl
            apply Lo.runx 10 rfl rfl [8] (by kernel_rfl) (Turn.refl _)
            apply Exists.intro; apply And.intro
            · intro u w1 hR hF
              obtain ⟨h8, -⟩ := hF
              refine ⟨.inl ⟨false, h8, rfl⟩, fun a ha K hK => ?_⟩
              have e11 := ha 11
              conv at e11 => rhs; whnf
              clear ha h8
              go_simp
              refine hK _ ?_; rfl
            apply Lo.runx 11 rfl rfl [8, 9] (by kernel_rfl) (Turn.refl _)
            apply Exists.intro; apply And.intro
            · intro u w1 hR hF
              obtain ⟨h8, h9, -⟩ := hF
              refine ⟨.inl ⟨false, h8, rfl⟩, fun a ha K hK => ?_⟩
              have e114 := (ha 114).trans h9
              clear ha h8 h9
              have hcv := (HB3.out.still ((Turn.refl [] _).drew.same hR)).conv
              go_simp
              refine hK _ ?_; rfl
            apply Lo.runx 12 rfl rfl [8] (by kernel_rfl) (Turn.refl _)
            apply Exists.intro; apply And.intro
            · intro u w1 hR hF
              obtain ⟨h8, -⟩ := hF
              refine ⟨.inl ⟨false, h8, rfl⟩, fun a ha K hK => ?_⟩
              have e0 := ha 0
              conv at e0 => rhs; whnf
              clear ha h8
              go_simp
              refine hK _ ?_; rfl
            apply Lo.runx 13 rfl rfl [8] (by kernel_rfl) (Turn.refl _)
            apply Exists.intro; apply And.intro
            · intro u w1 hR hF
              obtain ⟨h8, -⟩ := hF
              refine ⟨.inl ⟨false, h8, rfl⟩, fun a ha K hK => ?_⟩
              have e5 := ha 5
              conv at e5 => rhs; whnf
              clear ha h8
              go_simp
              refine hK _ ?_; rfl
            apply Lo.runx 14 rfl rfl [8, 11, 12] (by kernel_rfl) (Turn.refl _)
            apply Exists.intro; apply And.intro
            · intro u w1 hR hF
              obtain ⟨h8, h11, h12, -⟩ := hF
              refine ⟨.inl ⟨false, h8, rfl⟩, fun a ha K hK => ?_⟩
              have e116 := (ha 116).trans h11
              have e117 := (ha 117).trans h12
              clear ha h8 h11 h12
              go_simp
              refine hK _ ?_; rfl
            apply Lo.runx 15 rfl rfl [8, 13] (by kernel_rfl) (Turn.refl _)
            apply Exists.intro; apply And.intro
            · intro u w1 hR hF
              obtain ⟨h8, h13, -⟩ := hF
              refine ⟨.inl ⟨false, h8, rfl⟩, fun a ha K hK => ?_⟩
              have e118 := (ha 118).trans h13
              clear ha h8 h13
              have hcv := (HTK3.out.still ((Turn.refl [] _).drew.same hR)).conv
              go_simp
              refine hK _ ?_; rfl
            refine Lo.runv 16 rfl rfl [8, 10, 14] (.bool (true)) (by kernel_rfl) (fun u w1 hR hF => ?_) (Turn.refl _) ?_
            · obtain ⟨h8, h10, h14, -⟩ := hF
              refine ⟨.inl ⟨false, h8, rfl⟩, fun a ha K hK => ?_⟩
              have e115 := (ha 115).trans h10
              have e119 := (ha 119).trans h14
              clear ha h8 h10 h14
              go_simp
              refine hK _ ?_
              have hq0 := HEQ.out
              simp [hq0]
            apply Lo.runx 17 rfl rfl [8, 15] (by kernel_rfl) (Turn.refl _)
            apply Exists.intro; apply And.intro
            · intro u w1 hR hF
              obtain ⟨h8, h15, -⟩ := hF
              refine ⟨rfl, fun a ha K hK => ?_⟩
              have e113 := (ha 113).trans h8
              have e120 := (ha 120).trans h15
              clear ha h8 h15
              go_simp
              refine hK _ ?_; rfl
            refine Lo.done [16] (fun u w1 hRd hSd hF => ?_)
            clear hSd
            obtain ⟨f16, -⟩ := hF
            have d16 : u 16 = _ := f16
            clear f16
            simp only [putFrom, Act.put, List.setIfInBounds_toArray, List.set_cons_succ, List.set_cons_zero, Nat.zero_add, Nat.reduceAdd, d16]
            have htw4 : Turn [] w3 w1 := (Turn.refl [] w3).drew.same hRd
            clear hRd
            have hbx := HBX.out _ htw4
            have HBX2 := hide hbx
            clear hbx htw4
            have HF := hide (fin_row [.int .i64 0, .int .i64 0, .int .i64 0, .int .i64 0, .int .i64 0, .int .i64 0, .bool false, .slice none 0 0, .slice none 0 0] HBX2.out.2.1 HBX2.out.2.2.1 (Nat.le_refl _))
            go_wp2_with (refine wpList_store_row rfl _ _ _ rfl w.heap.size #[.int .i64 0, .int .i64 0, .int .i64 0, .int .i64 0, .int .i64 0, .int .i64 0, .bool false, .slice none 0 0, .slice none 0 0] rfl rfl _ _ HBX2.out.2.1 (by kernel_rfl) rfl (by kernel_rfl) ?_)
            have hld := load9 HF.out.1
            refine bodyPost_ret (v := .tuple #[.agg #[.int .i64 0, .int .i64 0, .int .i64 0, .int .i64 0, .int .i64 0, .int .i64 0, .bool false, .slice none 0 0, .slice none 0 0], .int .i64 0, .int .i64 3]) (by simp [results, Tryd.results9, asAddr, hld, Result.andThen]) rfl ?_
            rw [HM.out]
            exact ⟨.slice none 0 0, .slice none 0 0, rfl, RecRow.nil _ 0, TopsAt.nil _, HF.out.2.1⟩
        · have HNZ := hide h2
          have HM : Hid (toldM b = (zA, 0, 3)) := by show _ = _; rw [HIFF2.out, ← HXX.out, if_neg (fun h => h2 (HOK.out.1 h.2).2)]
          clear h2
          go_wp2
          refine wp_region_loose (Turn []) (by kernel_rfl) (by kernel_rfl) (by kernel_rfl) (by kernel_rfl) rfl (Turn.refl _) (fun _ _ _ h k => h.same k) ?_
          apply Lo.runx 1 rfl rfl [] (by kernel_rfl) (Turn.refl _)
          apply Exists.intro; apply And.intro
          · intro u w1 hR hF
            clear hF
            refine ⟨rfl, fun a ha K hK => ?_⟩
            have e7 := ha 7
            conv at e7 => rhs; whnf
            clear ha
            go_simp
            refine hK _ ?_; rfl
          apply Lo.runx 2 rfl rfl [0] (by kernel_rfl) (Turn.refl _)
          apply Exists.intro; apply And.intro
          · intro u w1 hR hF
            obtain ⟨h0, -⟩ := hF
            refine ⟨rfl, fun a ha K hK => ?_⟩
            have e105 := (ha 105).trans h0
            clear ha h0
            go_simp
            refine hK _ ?_; rfl
          apply Lo.runx 3 rfl rfl [1] (by kernel_rfl) (Turn.refl _)
          apply Exists.intro; apply And.intro
          · intro u w1 hR hF
            obtain ⟨h1, -⟩ := hF
            refine ⟨rfl, fun a ha K hK => ?_⟩
            have e106 := (ha 106).trans h1
            clear ha h1
            go_simp
            refine hK _ ?_; rfl
          apply Lo.runx 4 rfl rfl [2] (by kernel_rfl) (Turn.refl _)
          apply Exists.intro; apply And.intro
          · intro u w1 hR hF
            obtain ⟨h2, -⟩ := hF
            refine ⟨rfl, fun a ha K hK => ?_⟩
            have e107 := (ha 107).trans h2
            clear ha h2
            have kb := (HRD5.out w1 ((Turn.refl [] _).drew.same hR)).cell1.1
            go_simp
            refine hK _ ?_; rfl
          apply Lo.runx 5 rfl rfl [3] (by kernel_rfl) (Turn.refl _)
          apply Exists.intro; apply And.intro
          · intro u w1 hR hF
            obtain ⟨h3, -⟩ := hF
            refine ⟨rfl, fun a ha K hK => ?_⟩
            have e108 := (ha 108).trans h3
            clear ha h3
            go_simp
            refine hK _ ?_; rfl
          apply Lo.runx 6 rfl rfl [4] (by kernel_rfl) (Turn.refl _)
          apply Exists.intro; apply And.intro
          · intro u w1 hR hF
            obtain ⟨h4, -⟩ := hF
            refine ⟨.inl ⟨false, h4, rfl⟩, fun a ha K hK => ?_⟩
            have e12 := ha 12
            conv at e12 => rhs; whnf
            clear ha h4
            go_simp
            refine hK _ ?_; rfl
          refine Lo.runv 7 rfl rfl [4, 5] (.bool (true)) (by kernel_rfl) (fun u w1 hR hF => ?_) (Turn.refl _) ?_
          · obtain ⟨h4, h5, -⟩ := hF
            refine ⟨.inl ⟨false, h4, rfl⟩, fun a ha K hK => ?_⟩
            have e110 := (ha 110).trans h5
            clear ha h4 h5
            go_simp
            refine hK _ ?_
            have hq0 := HNZ.out
            simp [hq0]
          apply Lo.runx 8 rfl rfl [4, 6] (by kernel_rfl) (Turn.refl _)
          apply Exists.intro; apply And.intro
          · intro u w1 hR hF
            obtain ⟨h4, h6, -⟩ := hF
            refine ⟨rfl, fun a ha K hK => ?_⟩
            have e109 := (ha 109).trans h4
            have e111 := (ha 111).trans h6
            clear ha h4 h6
            go_simp
            refine hK _ ?_; rfl
          apply Lo.runx 9 rfl rfl [7] (by kernel_rfl) (Turn.refl _)
          apply Exists.intro; apply And.intro
          · intro u w1 hR hF
            obtain ⟨h7, -⟩ := hF
            refine ⟨rfl, fun a ha K hK => ?_⟩
            have e112 := (ha 112).trans h7
            clear ha h7
            go_simp
            refine hK _ ?_; rfl
          refine Lo.pass 10 rfl rfl [8] (by kernel_rfl) (Turn.refl _) (fun u w1 hR hF => ?_) ?_
          · exact .inl ⟨true, hF.1, rfl⟩
          refine Lo.pass 11 rfl rfl [8] (by kernel_rfl) (Turn.refl _) (fun u w1 hR hF => ?_) ?_
          · exact .inl ⟨true, hF.1, rfl⟩
          refine Lo.pass 12 rfl rfl [8] (by kernel_rfl) (Turn.refl _) (fun u w1 hR hF => ?_) ?_
          · exact .inl ⟨true, hF.1, rfl⟩
          refine Lo.pass 13 rfl rfl [8] (by kernel_rfl) (Turn.refl _) (fun u w1 hR hF => ?_) ?_
          · exact .inl ⟨true, hF.1, rfl⟩
          refine Lo.pass 14 rfl rfl [8] (by kernel_rfl) (Turn.refl _) (fun u w1 hR hF => ?_) ?_
          · exact .inl ⟨true, hF.1, rfl⟩
          refine Lo.pass 15 rfl rfl [8] (by kernel_rfl) (Turn.refl _) (fun u w1 hR hF => ?_) ?_
          · exact .inl ⟨true, hF.1, rfl⟩
          refine Lo.pass 16 rfl rfl [8] (by kernel_rfl) (Turn.refl _) (fun u w1 hR hF => ?_) ?_
          · exact .inl ⟨true, hF.1, rfl⟩
          apply Lo.runx 17 rfl rfl [8, 15] (by kernel_rfl) (Turn.refl _)
          apply Exists.intro; apply And.intro
          · intro u w1 hR hF
            obtain ⟨h8, h15, -⟩ := hF
            refine ⟨rfl, fun a ha K hK => ?_⟩
            have e113 := (ha 113).trans h8
            have e120 := (ha 120).trans h15
            clear ha h8 h15
            go_simp
            refine hK _ ?_; rfl
          refine Lo.done [16] (fun u w1 hRd hSd hF => ?_)
          clear hSd
          obtain ⟨f16, -⟩ := hF
          have d16 : u 16 = _ := f16
          clear f16
          simp only [putFrom, Act.put, List.setIfInBounds_toArray, List.set_cons_succ, List.set_cons_zero, Nat.zero_add, Nat.reduceAdd, d16]
          have htw4 : Turn [] w3 w1 := (Turn.refl [] w3).drew.same hRd
          clear hRd
          have hbx := HBX.out _ htw4
          have HBX2 := hide hbx
          clear hbx htw4
          have HF := hide (fin_row [.int .i64 0, .int .i64 0, .int .i64 0, .int .i64 0, .int .i64 0, .int .i64 0, .bool false, .slice none 0 0, .slice none 0 0] HBX2.out.2.1 HBX2.out.2.2.1 (Nat.le_refl _))
          go_wp2_with (refine wpList_store_row rfl _ _ _ rfl w.heap.size #[.int .i64 0, .int .i64 0, .int .i64 0, .int .i64 0, .int .i64 0, .int .i64 0, .bool false, .slice none 0 0, .slice none 0 0] rfl rfl _ _ HBX2.out.2.1 (by kernel_rfl) rfl (by kernel_rfl) ?_)
          have hld := load9 HF.out.1
          refine bodyPost_ret (v := .tuple #[.agg #[.int .i64 0, .int .i64 0, .int .i64 0, .int .i64 0, .int .i64 0, .int .i64 0, .bool false, .slice none 0 0, .slice none 0 0], .int .i64 0, .int .i64 3]) (by simp [results, Tryd.results9, asAddr, hld, Result.andThen]) rfl ?_
          rw [HM.out]
          exact ⟨.slice none 0 0, .slice none 0 0, rfl, RecRow.nil _ 0, TopsAt.nil _, HF.out.2.1⟩
  · have HM : Hid (toldM b = (zA, 0, er)) := by show _ = _; unfold toldM; rw [HW.out]; simp [h0]
    have h0' : (er != 0) = true := by simpa using h0
    have HE := hide h0
    clear h0
    have HF := hide (fin_row [.int .i64 0, .int .i64 0, .int .i64 0, .int .i64 0, .int .i64 0, .int .i64 0, .bool false, .slice none 0 0, .slice none 0 0] HY1.out HT1.out (Nat.le_refl _))
    go_wp2_with (refine wpList_store_row rfl _ _ _ rfl w.heap.size #[.int .i64 0, .int .i64 0, .int .i64 0, .int .i64 0, .int .i64 0, .int .i64 0, .bool false, .slice none 0 0, .slice none 0 0] rfl rfl _ _ HY1.out (by kernel_rfl) rfl (by kernel_rfl) ?_)
    have hld := load9 HF.out.1
    refine bodyPost_ret (v := .tuple #[.agg #[.int .i64 0, .int .i64 0, .int .i64 0, .int .i64 0, .int .i64 0, .int .i64 0, .bool false, .slice none 0 0, .slice none 0 0], .int .i64 0, .int .i64 er]) (by simp [results, Tryd.results9, asAddr, hld, Result.andThen]) rfl ?_
    rw [HM.out]
    exact ⟨.slice none 0 0, .slice none 0 0, rfl, RecRow.nil _ 0, TopsAt.nil _, HF.out.2.1⟩
end Go.Proofs.YtcpjohpbakbggaaDoor.Wi

/- Append of bytes onto a row of one's own. -/
namespace Go.Proofs.YtcpjohpbakbggaaDoor
open Go.RowKit Go.Maps
theorem app_bytes (w : World) (base : Nat) (v x : Value) (bs cs : List UInt8) (hrow : RowAt w 5 base v bs) (hx : SliceAt w x (cs.map encB)) (hlen : bs.length + cs.length ≤ 1099511627776) (hbase : base ≤ w.heap.size) :
    ∃ v' w', (Builtin.append_ #[22, 22] 22 #[v, x]).run Tryd.prog w = .ok v' w' ∧ RowAt w' 5 base v' (bs ++ cs) ∧ Turn v.ownBlock.toList w w' ∧ (∀ k ∈ v'.ownBlock, k ∈ v.ownBlock ∨ w.heap.size ≤ k) := by
  obtain ⟨i, hi, hz, hs, hb⟩ := infoB_parts
  exact run_append_row (P := Tryd.prog) w 22 22 5 base i Tryd.underlying22 hi hz hs hb v x bs cs hrow hx hlen hbase
theorem one_byte (w : World) (b : UInt8) : SliceAt (w.alloc (.cells #[.int .u8 b.toNat] 5)) (.slice (some ⟨w.heap.size, 0, none⟩) 1 1) ([b].map encB) := by
  refine .inr ⟨⟨w.heap.size, 0, none⟩, 1, rfl, fun j u hu => ?_⟩
  rw [addr_add, cell_of (heap_new w _)]
  cases j with
  | zero => simpa [encB] using hu
  | succ j => simp at hu
end Go.Proofs.YtcpjohpbakbggaaDoor

/- conveyorkeep.framed; a fresh struct that is laid whole. -/
namespace Go.Proofs.YtcpjohpbakbggaaDoor.Wi
open Go.RowKit Go.Maps
set_option maxRecDepth 100000
set_option linter.unusedSimpArgs false
set_option linter.unusedVariables false

def x0 : Req := ⟨3, 3, [97], 1, 0, 0, 0, 0, 300, 0, false, false, []⟩
theorem x0_ask : (askM x0).2 = 0 := by kernel_rfl
theorem x0_can : canQ x0 = x0 := by rfl
theorem x0_len : (askM x0).1.length = 11 := by kernel_rfl
theorem x0_small : askP x0 = askM x0 := askP_small (reqCl_small (by decide) (fun r hr => absurd hr (by simp [x0])))
theorem fresh_row {T : TypeId} (w : World) (zs cs : List Value) : (w.alloc (.cells zs.toArray T)).heap[w.heap.size]? = some (.cells zs.toArray T (0, 0)) ∧
    ∀ Z, Turn [] ((w.alloc (.cells zs.toArray T)).setRow w.heap.size cs.toArray) Z → Z.heap[w.heap.size]? = some (.cells cs.toArray T (0, 0)) ∧ Turn [] w Z := by
  have h := heap_new w (.cells zs.toArray T)
  have hf := fin_row cs h ((Turn.refl [] w).alloc _) (Nat.le_refl _)
  exact ⟨h, fun Z hZ => ⟨hZ.heap hf.1 (by simp), hf.2.1.same hZ⟩⟩
theorem askM_len {x : Req} (h : (askM x).2 = 0) : 5 ≤ (askM x).1.length ∧ (askM x).1.length ≤ 10004 := by
  have hk : ¬ (x.kind < 1 ∨ 7 < x.kind) := fun hk => by unfold askM at h; rw [if_pos hk] at h; simp at h
  have he : askM x = encF (reqCl x) := by unfold askM; rw [if_neg hk]
  rw [he] at h ⊢
  obtain ⟨w1, -⟩ := whole_enc h (reqCl_ne (encF_ok h).1) []
  have := whole_ok w1
  omega
theorem tellM_len {x : Ans} (h : (tellM x).2 = 0) : 5 ≤ (tellM x).1.length ∧ (tellM x).1.length ≤ 10004 := by
  have hk : ¬ (x.kind < 1 ∨ 7 < x.kind ∨ x.err < 0 ∨ 15 < x.err) := fun hk => by unfold tellM at h; rw [if_pos hk] at h; simp at h
  have he : tellM x = encF (ansCl x) := by unfold tellM; rw [if_neg hk]
  rw [he] at h ⊢
  obtain ⟨w1, -⟩ := whole_enc h (ansCl_ne (encF_ok h).1) []
  have := whole_ok w1
  omega
theorem askP_can {x : Req} (h : (askM x).2 = 0) : askP (canQ x) = askM x := by
  have hk : ¬ (x.kind < 1 ∨ 7 < x.kind) := fun hk => by unfold askM at h; rw [if_pos hk] at h; simp at h
  have he : askM x = encF (reqCl x) := by unfold askM; rw [if_neg hk]
  rw [← askM_can x]
  refine askP_small ?_
  rw [reqCl_can]
  rw [he] at h
  exact small_of (encF_ok h).1 (reqCl_sz x)
theorem tellP_can {x : Ans} (h : (tellM x).2 = 0) : tellP (canA x) = tellM x := by
  have hk : ¬ (x.kind < 1 ∨ 7 < x.kind ∨ x.err < 0 ∨ 15 < x.err) := fun hk => by unfold tellM at h; rw [if_pos hk] at h; simp at h
  have he : tellM x = encF (ansCl x) := by unfold tellM; rw [if_neg hk]
  rw [← tellM_can x]
  refine tellP_small ?_
  rw [ansCl_can]
  rw [he] at h
  exact small_of (encF_ok h).1 (ansCl_sz x)

end Go.Proofs.YtcpjohpbakbggaaDoor.Wi

/- plain.Same of equal records: true. -/
namespace Go.Proofs.YtcpjohpbakbggaaDoor
open Go.RowKit Go.Maps
set_option maxRecDepth 100000
set_option linter.unusedSimpArgs false
set_option linter.unusedVariables false

set_option maxHeartbeats 2000000 in
theorem same_any (w : World) (v v' : Value) (recs : List Bt.Rec) (h : RecsAt w v recs) (h' : RecsAt w v' recs) :
    Calls Tryd.prog 23 #[v, v'] w fun e w' => e = .returned (.bool true) ∧ Turn [] w w' := by
  obtain ⟨a, c, rfl, hlc, hcm, hn0, hp⟩ := h.form
  obtain ⟨a', c', rfl, hlc', hcm', hn0', hp'⟩ := h'.form
  have hmx : maxLen = 9223372036854775807 := by simp [maxLen]
  rw [hmx] at hcm hcm'
  have HR : Hid (RecsAt w (.slice a recs.length c) recs) := h
  have HR' : Hid (RecsAt w (.slice a' recs.length c') recs) := h'
  clear h h' hn0 hn0'
  go_enter Tryd.func23, Tryd.ntmps23
  go_wp2
  go_loopw [13] (fun i wr => ∃ k : Nat, k ≤ recs.length ∧ i = .int .i64 k ∧ Turn [] w wr) (fun i _ => recs.length - (intOf i).toNat)
  case atStart => exact ⟨0, Nat.zero_le _, rfl, Turn.refl _ _⟩
  case round =>
    obtain ⟨k, hk, rfl, ht⟩ := hrel
    have HT := hide ht
    clear ht
    by_cases hlt : k < recs.length
    · obtain ⟨p, rfl⟩ := hp k hlt
      obtain ⟨p', rfl⟩ := hp' k hlt
      have HC := hide (fun Z (hZ : Turn [] wr Z) => ((HR.out.still HT.out).still hZ).six hlt)
      have HC' := hide (fun Z (hZ : Turn [] wr Z) => ((HR'.out.still HT.out).still hZ).six hlt)
      clear hp hp'
      obtain ⟨r, hr⟩ : ∃ r, r = recs[k] := ⟨_, rfl⟩
      rw [← hr] at HC HC'
      clear hr
      go_wp2
      refine wp_region_loose (Turn []) (by kernel_rfl) (by kernel_rfl) (by kernel_rfl) (by kernel_rfl) rfl (Turn.refl _) (fun _ _ _ h k => h.same k) ?_
      apply Lo.runx 1 rfl rfl [] (by kernel_rfl) (Turn.refl _)
      apply Exists.intro; apply And.intro
      · intro u w1 hR hF
        clear hF
        refine ⟨rfl, fun a ha K hK => ?_⟩
        have e0 := ha 0
        conv at e0 => rhs; whnf
        clear ha
        go_simp
        refine hK _ ?_; rfl
      apply Lo.runx 2 rfl rfl [] (by kernel_rfl) (Turn.refl _)
      apply Exists.intro; apply And.intro
      · intro u w1 hR hF
        clear hF
        refine ⟨rfl, fun a ha K hK => ?_⟩
        have e5 := ha 5
        conv at e5 => rhs; whnf
        clear ha
        go_simp
        refine hK _ ?_; rfl
      apply Lo.runx 3 rfl rfl [0, 1] (by kernel_rfl) (Turn.refl _)
      apply Exists.intro; apply And.intro
      · intro u w1 hR hF
        obtain ⟨h0, h1, -⟩ := hF
        refine ⟨rfl, fun a ha K hK => ?_⟩
        have e16 := (ha 16).trans h0
        have e17 := (ha 17).trans h1
        clear ha h0 h1
        go_simp
        refine hK _ ?_; rfl
      apply Lo.runx 4 rfl rfl [2] (by kernel_rfl) (Turn.refl _)
      apply Exists.intro; apply And.intro
      · intro u w1 hR hF
        obtain ⟨h2, -⟩ := hF
        refine ⟨rfl, fun a ha K hK => ?_⟩
        have e18 := (ha 18).trans h2
        clear ha h2
        obtain ⟨g0, g1, g2, g3, g4, g5⟩ := HC.out w1 ((Turn.refl [] _).drew.same hR)
        go_simp
        refine hK _ ?_; rfl
      apply Lo.runx 5 rfl rfl [] (by kernel_rfl) (Turn.refl _)
      apply Exists.intro; apply And.intro
      · intro u w1 hR hF
        clear hF
        refine ⟨rfl, fun a ha K hK => ?_⟩
        have e1 := ha 1
        conv at e1 => rhs; whnf
        clear ha
        go_simp
        refine hK _ ?_; rfl
      apply Lo.runx 6 rfl rfl [] (by kernel_rfl) (Turn.refl _)
      apply Exists.intro; apply And.intro
      · intro u w1 hR hF
        clear hF
        refine ⟨rfl, fun a ha K hK => ?_⟩
        have e5 := ha 5
        conv at e5 => rhs; whnf
        clear ha
        go_simp
        refine hK _ ?_; rfl
      apply Lo.runx 7 rfl rfl [4, 5] (by kernel_rfl) (Turn.refl _)
      apply Exists.intro; apply And.intro
      · intro u w1 hR hF
        obtain ⟨h4, h5, -⟩ := hF
        refine ⟨rfl, fun a ha K hK => ?_⟩
        have e20 := (ha 20).trans h4
        have e21 := (ha 21).trans h5
        clear ha h4 h5
        go_simp
        refine hK _ ?_; rfl
      apply Lo.runx 8 rfl rfl [6] (by kernel_rfl) (Turn.refl _)
      apply Exists.intro; apply And.intro
      · intro u w1 hR hF
        obtain ⟨h6, -⟩ := hF
        refine ⟨rfl, fun a ha K hK => ?_⟩
        have e22 := (ha 22).trans h6
        clear ha h6
        obtain ⟨g0, g1, g2, g3, g4, g5⟩ := HC'.out w1 ((Turn.refl [] _).drew.same hR)
        go_simp
        refine hK _ ?_; rfl
      refine Lo.runv 9 rfl rfl [3, 7] (.bool (false)) (by kernel_rfl) (fun u w1 hR hF => ?_) (Turn.refl _) ?_
      · obtain ⟨h3, h7, -⟩ := hF
        refine ⟨rfl, fun a ha K hK => ?_⟩
        have e19 := (ha 19).trans h3
        have e23 := (ha 23).trans h7
        clear ha h3 h7
        go_simp
        refine hK _ ?_
        simp
      refine Lo.done [8] (fun u w1 hRd hSd hF => ?_)
      clear hSd
      obtain ⟨f8, -⟩ := hF
      have d8 : u 8 = _ := f8
      clear f8
      simp only [putFrom, Act.put, List.setIfInBounds_toArray, List.set_cons_succ, List.set_cons_zero, Nat.zero_add, Nat.reduceAdd, d8]
      have HT1 := hide (HT.out.same ((Turn.refl [] wr).drew.same hRd))
      clear hRd
      go_wp2
      refine ⟨⟨k + 1, by omega, by go_num, HT1.out⟩, ?_⟩
      simp only [intOf]; omega
    · obtain rfl : k = recs.length := by omega
      go_wp2
      go_ret
      exact ⟨rfl, HT.out⟩
end Go.Proofs.YtcpjohpbakbggaaDoor

/- conveyorlaw.sameRequest. -/
namespace Go.Proofs.YtcpjohpbakbggaaDoor.Wi
open Go.RowKit Go.Maps
set_option maxRecDepth 100000
set_option linter.unusedSimpArgs false
set_option linter.unusedVariables false

set_option maxHeartbeats 4000000 in
theorem sameReq_any (w : World) (x : Req) (rv rv' : Value) (h : RecsAt w rv x.recs) (h' : RecsAt w rv' x.recs) :
    Calls Tryd.prog 8 #[.agg (reqC x rv), .agg (reqC x rv')] w fun e w' => e = .returned (.bool true) ∧ Turn [] w w' := by
  obtain ⟨kind, corr, topic, part, offset, most, least, wait, time, parts, sure, compact, recs⟩ := x
  simp only at h h'
  obtain ⟨ra, rc, rfl, -, -, -, -⟩ := h.form
  obtain ⟨ra', rc', rfl, -, -, -, -⟩ := h'.form
  simp only [reqC, strV]
  have HH := hide h
  have HH' := hide h'
  clear h h'
  go_enter Tryd.func8, Tryd.ntmps8
  go_wp2_with fail
  refine (same_any _ _ _ recs (HH.out.still (((Turn.refl [] w).alloc _).alloc _)) (HH'.out.still (((Turn.refl [] w).alloc _).alloc _))).mono ?_
  rintro e w9 ⟨rfl, ht9⟩
  go_wp2
  go_ret
  exact ⟨rfl, (((Turn.refl [] w).alloc _).alloc _).same ht9⟩
end Go.Proofs.YtcpjohpbakbggaaDoor.Wi

/- conveyorlaw.sameTopics, sameAnswer. -/
namespace Go.Proofs.YtcpjohpbakbggaaDoor.Wi
open Go.RowKit Go.Maps
set_option maxRecDepth 100000
set_option linter.unusedSimpArgs false
set_option linter.unusedVariables false

set_option maxHeartbeats 2000000 in
theorem sameTops_any (w : World) (v v' : Value) (ts : List Tp) (h : TopsAt w v ts) (h' : TopsAt w v' ts) :
    Calls Tryd.prog 27 #[v, v'] w fun e w' => e = .returned (.bool true) ∧ Turn [] w w' := by
  obtain ⟨a, c, rfl, hlc, hcm, hn0, hp⟩ := h.form
  obtain ⟨a', c', rfl, hlc', hcm', hn0', hp'⟩ := h'.form
  have hmx : maxLen = 9223372036854775807 := by simp [maxLen]
  rw [hmx] at hcm hcm'
  have HR : Hid (TopsAt w (.slice a ts.length c) ts) := h
  have HR' : Hid (TopsAt w (.slice a' ts.length c') ts) := h'
  clear h h' hn0 hn0'
  go_enter Tryd.func27, Tryd.ntmps27
  go_wp2
  go_loopw [5] (fun i wr => ∃ k : Nat, k ≤ ts.length ∧ i = .int .i64 k ∧ Turn [] w wr) (fun i _ => ts.length - (intOf i).toNat)
  case atStart => exact ⟨0, Nat.zero_le _, rfl, Turn.refl _ _⟩
  case round =>
    obtain ⟨k, hk, rfl, ht⟩ := hrel
    have HT := hide ht
    clear ht
    by_cases hlt : k < ts.length
    · obtain ⟨p, rfl⟩ := hp k hlt
      obtain ⟨p', rfl⟩ := hp' k hlt
      have HC := hide (fun Z (hZ : Turn [] wr Z) => ((HR.out.still HT.out).still hZ).three hlt)
      have HC' := hide (fun Z (hZ : Turn [] wr Z) => ((HR'.out.still HT.out).still hZ).three hlt)
      clear hp hp'
      obtain ⟨r, hr⟩ : ∃ r, r = ts[k] := ⟨_, rfl⟩
      rw [← hr] at HC HC'
      clear hr
      go_wp2
      refine wp_region_loose (Turn []) (by kernel_rfl) (by kernel_rfl) (by kernel_rfl) (by kernel_rfl) rfl (Turn.refl _) (fun _ _ _ h k => h.same k) ?_
      apply Lo.runx 1 rfl rfl [] (by kernel_rfl) (Turn.refl _)
      apply Exists.intro; apply And.intro
      · intro u w1 hR hF
        clear hF
        refine ⟨rfl, fun a ha K hK => ?_⟩
        have e0 := ha 0
        conv at e0 => rhs; whnf
        clear ha
        go_simp
        refine hK _ ?_; rfl
      apply Lo.runx 2 rfl rfl [] (by kernel_rfl) (Turn.refl _)
      apply Exists.intro; apply And.intro
      · intro u w1 hR hF
        clear hF
        refine ⟨rfl, fun a ha K hK => ?_⟩
        have e5 := ha 5
        conv at e5 => rhs; whnf
        clear ha
        go_simp
        refine hK _ ?_; rfl
      apply Lo.runx 3 rfl rfl [0, 1] (by kernel_rfl) (Turn.refl _)
      apply Exists.intro; apply And.intro
      · intro u w1 hR hF
        obtain ⟨h0, h1, -⟩ := hF
        refine ⟨rfl, fun a ha K hK => ?_⟩
        have e17 := (ha 17).trans h0
        have e18 := (ha 18).trans h1
        clear ha h0 h1
        go_simp
        refine hK _ ?_; rfl
      apply Lo.runx 4 rfl rfl [2] (by kernel_rfl) (Turn.refl _)
      apply Exists.intro; apply And.intro
      · intro u w1 hR hF
        obtain ⟨h2, -⟩ := hF
        refine ⟨rfl, fun a ha K hK => ?_⟩
        have e19 := (ha 19).trans h2
        clear ha h2
        obtain ⟨g0, g1, g2⟩ := HC.out w1 ((Turn.refl [] _).drew.same hR)
        go_simp
        refine hK _ ?_; rfl
      apply Lo.runx 5 rfl rfl [] (by kernel_rfl) (Turn.refl _)
      apply Exists.intro; apply And.intro
      · intro u w1 hR hF
        clear hF
        refine ⟨rfl, fun a ha K hK => ?_⟩
        have e1 := ha 1
        conv at e1 => rhs; whnf
        clear ha
        go_simp
        refine hK _ ?_; rfl
      apply Lo.runx 6 rfl rfl [] (by kernel_rfl) (Turn.refl _)
      apply Exists.intro; apply And.intro
      · intro u w1 hR hF
        clear hF
        refine ⟨rfl, fun a ha K hK => ?_⟩
        have e5 := ha 5
        conv at e5 => rhs; whnf
        clear ha
        go_simp
        refine hK _ ?_; rfl
      apply Lo.runx 7 rfl rfl [4, 5] (by kernel_rfl) (Turn.refl _)
      apply Exists.intro; apply And.intro
      · intro u w1 hR hF
        obtain ⟨h4, h5, -⟩ := hF
        refine ⟨rfl, fun a ha K hK => ?_⟩
        have e21 := (ha 21).trans h4
        have e22 := (ha 22).trans h5
        clear ha h4 h5
        go_simp
        refine hK _ ?_; rfl
      apply Lo.runx 8 rfl rfl [6] (by kernel_rfl) (Turn.refl _)
      apply Exists.intro; apply And.intro
      · intro u w1 hR hF
        obtain ⟨h6, -⟩ := hF
        refine ⟨rfl, fun a ha K hK => ?_⟩
        have e23 := (ha 23).trans h6
        clear ha h6
        obtain ⟨g0, g1, g2⟩ := HC'.out w1 ((Turn.refl [] _).drew.same hR)
        go_simp
        refine hK _ ?_; rfl
      refine Lo.runv 9 rfl rfl [3, 7] (.bool (false)) (by kernel_rfl) (fun u w1 hR hF => ?_) (Turn.refl _) ?_
      · obtain ⟨h3, h7, -⟩ := hF
        refine ⟨rfl, fun a ha K hK => ?_⟩
        have e20 := (ha 20).trans h3
        have e24 := (ha 24).trans h7
        clear ha h3 h7
        go_simp
        refine hK _ ?_
        simp
      refine Lo.done [8] (fun u w1 hRd hSd hF => ?_)
      clear hSd
      obtain ⟨f8, -⟩ := hF
      have d8 : u 8 = _ := f8
      clear f8
      simp only [putFrom, Act.put, List.setIfInBounds_toArray, List.set_cons_succ, List.set_cons_zero, Nat.zero_add, Nat.reduceAdd, d8]
      have HT1 := hide (HT.out.same ((Turn.refl [] wr).drew.same hRd))
      clear hRd
      go_wp2
      refine ⟨⟨k + 1, by omega, by go_num, HT1.out⟩, ?_⟩
      simp only [intOf]; omega
    · obtain rfl : k = ts.length := by omega
      go_wp2
      go_ret
      exact ⟨rfl, HT.out⟩

set_option maxHeartbeats 4000000 in
theorem sameAns_any (w : World) (x : Ans) (rv rv' tv tv' : Value) (h : RecsAt w rv x.recs) (h' : RecsAt w rv' x.recs) (g : TopsAt w tv x.topics) (g' : TopsAt w tv' x.topics) :
    Calls Tryd.prog 11 #[.agg (ansC x rv tv), .agg (ansC x rv' tv')] w fun e w' => e = .returned (.bool true) ∧ Turn [] w w' := by
  obtain ⟨kind, corr, err, offset, start, fin, found, recs, topics⟩ := x
  simp only at h h' g g'
  obtain ⟨ra, rc, rfl, -, -, -, -⟩ := h.form
  obtain ⟨ra', rc', rfl, -, -, -, -⟩ := h'.form
  obtain ⟨ta, tc, rfl, -, -, -, -⟩ := g.form
  obtain ⟨ta', tc', rfl, -, -, -, -⟩ := g'.form
  simp only [ansC]
  have HH := hide h
  have HH' := hide h'
  have GG := hide g
  have GG' := hide g'
  clear h h' g g'
  go_enter Tryd.func11, Tryd.ntmps11
  go_wp2_with fail
  refine (same_any _ _ _ recs (HH.out.still (((Turn.refl [] w).alloc _).alloc _)) (HH'.out.still (((Turn.refl [] w).alloc _).alloc _))).mono ?_
  rintro e w8 ⟨rfl, ht8⟩
  have HT8 := hide ((((Turn.refl [] w).alloc _).alloc _).same ht8)
  have hbx := fun k (hk : k < ((w.alloc (.cells #[.int .i64 kind, .int .i64 corr, .int .i64 err, .int .i64 offset, .int .i64 start, .int .i64 fin, .bool found, .slice ra recs.length rc, .slice ta topics.length tc] 38)).alloc (.cells #[.int .i64 kind, .int .i64 corr, .int .i64 err, .int .i64 offset, .int .i64 start, .int .i64 fin, .bool found, .slice ra' recs.length rc', .slice ta' topics.length tc'] 38)).heap.size) => ht8.block k hk (by simp)
  have h1 : w8.heap[w.heap.size]? = some (.cells #[.int .i64 kind, .int .i64 corr, .int .i64 err, .int .i64 offset, .int .i64 start, .int .i64 fin, .bool found, .slice ra recs.length rc, .slice ta topics.length tc] 38 (0, 0)) := ht8.heap (((Turn.refl [] _).alloc _).heap (heap_new w _) (by simp)) (by simp)
  have h2 : w8.heap[w.heap.size + 1]? = some (.cells #[.int .i64 kind, .int .i64 corr, .int .i64 err, .int .i64 offset, .int .i64 start, .int .i64 fin, .bool found, .slice ra' recs.length rc', .slice ta' topics.length tc'] 38 (0, 0)) := ht8.heap (by
    have := heap_new (w.alloc (.cells #[.int .i64 kind, .int .i64 corr, .int .i64 err, .int .i64 offset, .int .i64 start, .int .i64 fin, .bool found, .slice ra recs.length rc, .slice ta topics.length tc] 38)) (.cells #[.int .i64 kind, .int .i64 corr, .int .i64 err, .int .i64 offset, .int .i64 start, .int .i64 fin, .bool found, .slice ra' recs.length rc', .slice ta' topics.length tc'] 38)
    rwa [World.size_alloc] at this) (by simp)
  have c8 : w8.cell? ⟨w.heap.size, 8, none⟩ = some (.slice ta topics.length tc) := by simpa using cell_of h1 8
  have d8 : w8.cell? ⟨w.heap.size + 1, 8, none⟩ = some (.slice ta' topics.length tc') := by simpa using cell_of h2 8
  have z1 := lt_of_heap h1
  have z2 := lt_of_heap h2
  clear hbx h1 h2 ht8
  go_wp2_with fail
  refine (sameTops_any _ _ _ topics (GG.out.still HT8.out) (GG'.out.still HT8.out)).mono ?_
  rintro e w9 ⟨rfl, ht9⟩
  go_wp2
  go_ret
  exact ⟨rfl, HT8.out.same ht9⟩
end Go.Proofs.YtcpjohpbakbggaaDoor.Wi

/- conveyorlaw.WireAskeds, WireTolds, walked. -/
namespace Go.Proofs.YtcpjohpbakbggaaDoor.Wi
open Go.RowKit Go.Maps
set_option maxRecDepth 100000
set_option linter.unusedSimpArgs false
set_option linter.unusedVariables false

set_option maxHeartbeats 16000000 in
theorem wireaskeds_any (W : World) (v : Value) (b : List UInt8) (hx : BytesAt W v b) (hg : As.ErrT W) :
    Calls Tryd.prog 3 #[v] W fun e w' => e = .returned (.bool true) ∧ Below W.heap.size W w' := by
  have HX := hide hx
  have HG := hide hg
  obtain ⟨a, c, rfl, hlc, hcm, hc⟩ := hx.form
  clear hx hc hg
  by_cases hl : 15000 < b.length
  · have hl' : (15000 : Int) < (b.length : Int) := by omega
    go_enter Tryd.func3, Tryd.ntmps3
    go_wp2
    go_ret
    exact ⟨rfl, Below.refl _ _⟩
  have hl' : ¬ ((15000 : Int) < (b.length : Int)) := by omega
  obtain ⟨x, n, er, hd⟩ : ∃ x n er, askedM b = (x, n, er) := ⟨_, _, _, rfl⟩
  have href := fun Z hZ => refAsked_any Z _ b (HX.out.still hZ) (by omega)
  have hdec := fun Z hZ => asked_any Z _ b (HX.out.still hZ) (by omega)
  rw [hd] at href hdec
  simp only at href hdec
  have HREF := hide href
  have HDEC := hide hdec
  clear hd href hdec
  obtain ⟨kind, corr, topic, part, offset, most, least, wait, time, parts, sure, compact, recs⟩ := x
  go_enter Tryd.func3, Tryd.ntmps3
  go_wp2_with fail
  refine (HREF.out W (Turn.refl _ _)).mono ?_
  rintro e w1 ⟨rv1, rfl, hr1, ht1⟩
  obtain ⟨ra1, rc1, rfl, -, -, -, -⟩ := hr1.form
  have HR1 := hide hr1
  have HT1 := hide ht1
  clear hr1 ht1
  simp only [reqC]
  obtain ⟨hbz1, hbx1⟩ := fresh_row (T := 25) w1 [.int .i64 0, .int .i64 0, .string ⟨#[]⟩, .int .i64 0, .int .i64 0, .int .i64 0, .int .i64 0, .int .i64 0, .int .i64 0, .int .i64 0, .bool false, .bool false, .slice none 0 0] [.int .i64 kind, .int .i64 corr, strV topic, .int .i64 part, .int .i64 offset, .int .i64 most, .int .i64 least, .int .i64 wait, .int .i64 time, .int .i64 parts, .bool sure, .bool compact, .slice ra1 recs.length rc1]
  have HBZ1 := hide hbz1
  have HBX1 := hide hbx1
  obtain ⟨x1, hx1⟩ : ∃ x1, x1 = (w1.alloc (.cells #[.int .i64 0, .int .i64 0, .string ⟨#[]⟩, .int .i64 0, .int .i64 0, .int .i64 0, .int .i64 0, .int .i64 0, .int .i64 0, .int .i64 0, .bool false, .bool false, .slice none 0 0] 25)).setRow w1.heap.size #[.int .i64 kind, .int .i64 corr, strV topic, .int .i64 part, .int .i64 offset, .int .i64 most, .int .i64 least, .int .i64 wait, .int .i64 time, .int .i64 parts, .bool sure, .bool compact, .slice ra1 recs.length rc1] := ⟨_, rfl⟩
  have hxs1 : ∀ Z, Turn [] x1 Z → Z.heap[w1.heap.size]? = some (.cells #[.int .i64 kind, .int .i64 corr, strV topic, .int .i64 part, .int .i64 offset, .int .i64 most, .int .i64 least, .int .i64 wait, .int .i64 time, .int .i64 parts, .bool sure, .bool compact, .slice ra1 recs.length rc1] 25 (0, 0)) ∧ Turn [] w1 Z := by rw [hx1]; exact hbx1
  have HXS1 := hide hxs1
  have HXX1 := hide hx1
  clear hbz1 hbx1 hx1 hxs1
  go_wp2_with (refine wpList_store_row rfl _ _ _ rfl w1.heap.size #[.int .i64 kind, .int .i64 corr, strV topic, .int .i64 part, .int .i64 offset, .int .i64 most, .int .i64 least, .int .i64 wait, .int .i64 time, .int .i64 parts, .bool sure, .bool compact, .slice ra1 recs.length rc1] rfl rfl _ _ HBZ1.out (by kernel_rfl) rfl (by kernel_rfl) ?_)
  rw [show (w1.alloc (.cells #[.int .i64 0, .int .i64 0, .string ⟨#[]⟩, .int .i64 0, .int .i64 0, .int .i64 0, .int .i64 0, .int .i64 0, .int .i64 0, .int .i64 0, .bool false, .bool false, .slice none 0 0] 25)).setRow w1.heap.size #[.int .i64 kind, .int .i64 corr, strV topic, .int .i64 part, .int .i64 offset, .int .i64 most, .int .i64 least, .int .i64 wait, .int .i64 time, .int .i64 parts, .bool sure, .bool compact, .slice ra1 recs.length rc1] = x1 from HXX1.out.symm]
  refine (HDEC.out x1 (HT1.out.same (HXS1.out x1 (Turn.refl _ _)).2)).mono ?_
  rintro e w2 ⟨rv2, rfl, hr2, ht2⟩
  obtain ⟨ra2, rc2, rfl, -, -, -, -⟩ := hr2.form
  have HR2 := hide hr2
  have HT2 := hide ht2
  clear hr2 ht2
  simp only [reqC]
  obtain ⟨hbz2, hbx2⟩ := fresh_row (T := 25) w2 [.int .i64 0, .int .i64 0, .string ⟨#[]⟩, .int .i64 0, .int .i64 0, .int .i64 0, .int .i64 0, .int .i64 0, .int .i64 0, .int .i64 0, .bool false, .bool false, .slice none 0 0] [.int .i64 kind, .int .i64 corr, strV topic, .int .i64 part, .int .i64 offset, .int .i64 most, .int .i64 least, .int .i64 wait, .int .i64 time, .int .i64 parts, .bool sure, .bool compact, .slice ra2 recs.length rc2]
  have HBZ2 := hide hbz2
  have HBX2 := hide hbx2
  obtain ⟨x2, hx2⟩ : ∃ x2, x2 = (w2.alloc (.cells #[.int .i64 0, .int .i64 0, .string ⟨#[]⟩, .int .i64 0, .int .i64 0, .int .i64 0, .int .i64 0, .int .i64 0, .int .i64 0, .int .i64 0, .bool false, .bool false, .slice none 0 0] 25)).setRow w2.heap.size #[.int .i64 kind, .int .i64 corr, strV topic, .int .i64 part, .int .i64 offset, .int .i64 most, .int .i64 least, .int .i64 wait, .int .i64 time, .int .i64 parts, .bool sure, .bool compact, .slice ra2 recs.length rc2] := ⟨_, rfl⟩
  have hxs2 : ∀ Z, Turn [] x2 Z → Z.heap[w2.heap.size]? = some (.cells #[.int .i64 kind, .int .i64 corr, strV topic, .int .i64 part, .int .i64 offset, .int .i64 most, .int .i64 least, .int .i64 wait, .int .i64 time, .int .i64 parts, .bool sure, .bool compact, .slice ra2 recs.length rc2] 25 (0, 0)) ∧ Turn [] w2 Z := by rw [hx2]; exact hbx2
  have HXS2 := hide hxs2
  have HXX2 := hide hx2
  clear hbz2 hbx2 hx2 hxs2
  go_wp2_with (refine wpList_store_row rfl _ _ _ rfl w2.heap.size #[.int .i64 kind, .int .i64 corr, strV topic, .int .i64 part, .int .i64 offset, .int .i64 most, .int .i64 least, .int .i64 wait, .int .i64 time, .int .i64 parts, .bool sure, .bool compact, .slice ra2 recs.length rc2] rfl rfl _ _ HBZ2.out (by kernel_rfl) rfl (by kernel_rfl) ?_)
  rw [show (w2.alloc (.cells #[.int .i64 0, .int .i64 0, .string ⟨#[]⟩, .int .i64 0, .int .i64 0, .int .i64 0, .int .i64 0, .int .i64 0, .int .i64 0, .int .i64 0, .bool false, .bool false, .slice none 0 0] 25)).setRow w2.heap.size #[.int .i64 kind, .int .i64 corr, strV topic, .int .i64 part, .int .i64 offset, .int .i64 most, .int .i64 least, .int .i64 wait, .int .i64 time, .int .i64 parts, .bool sure, .bool compact, .slice ra2 recs.length rc2] = x2 from HXX2.out.symm]
  have hto : ∀ Z, Turn [] x2 Z → Turn [] w2 Z ∧ Turn [] w1 Z ∧ Turn [] W Z ∧ Turn [] x1 Z := fun Z hZ => by
    have h2 := (HXS2.out Z hZ).2
    have h1 := HT2.out.same h2
    exact ⟨h2, (HXS1.out Z h1).2, HT1.out.same (HXS1.out Z h1).2, h1⟩
  have HTO := hide hto
  clear hto
  go_wp2_with fail
  refine (As.bare_any er er _ (HG.out.below (HTO.out x2 (Turn.refl _ _)).2.2.1.nil)).mono ?_
  rintro e w3 ⟨rfl, hb3⟩
  have ht3 := Turn.of_below hb3 []
  have HT3 := hide ht3
  simp only [beq_self_eq_true]
  have hx3 := HTO.out w3 ht3
  have g1 := (HXS1.out w3 hx3.2.2.2).1
  have g2 := (HXS2.out w3 ht3).1
  have hsz1 := lt_of_heap g1
  have hsz2 := lt_of_heap g2
  have c0 : w3.cell? ⟨w1.heap.size, 0, none⟩ = some (.int .i64 kind) := by simpa using cell_of g1 0
  have c1 : w3.cell? ⟨w1.heap.size, 1, none⟩ = some (.int .i64 corr) := by simpa using cell_of g1 1
  have c2 : w3.cell? ⟨w1.heap.size, 2, none⟩ = some (strV topic) := by simpa using cell_of g1 2
  have c3 : w3.cell? ⟨w1.heap.size, 3, none⟩ = some (.int .i64 part) := by simpa using cell_of g1 3
  have c4 : w3.cell? ⟨w1.heap.size, 4, none⟩ = some (.int .i64 offset) := by simpa using cell_of g1 4
  have c5 : w3.cell? ⟨w1.heap.size, 5, none⟩ = some (.int .i64 most) := by simpa using cell_of g1 5
  have c6 : w3.cell? ⟨w1.heap.size, 6, none⟩ = some (.int .i64 least) := by simpa using cell_of g1 6
  have c7 : w3.cell? ⟨w1.heap.size, 7, none⟩ = some (.int .i64 wait) := by simpa using cell_of g1 7
  have c8 : w3.cell? ⟨w1.heap.size, 8, none⟩ = some (.int .i64 time) := by simpa using cell_of g1 8
  have c9 : w3.cell? ⟨w1.heap.size, 9, none⟩ = some (.int .i64 parts) := by simpa using cell_of g1 9
  have c10 : w3.cell? ⟨w1.heap.size, 10, none⟩ = some (.bool sure) := by simpa using cell_of g1 10
  have c11 : w3.cell? ⟨w1.heap.size, 11, none⟩ = some (.bool compact) := by simpa using cell_of g1 11
  have c12 : w3.cell? ⟨w1.heap.size, 12, none⟩ = some (.slice ra1 recs.length rc1) := by simpa using cell_of g1 12
  have d0 : w3.cell? ⟨w2.heap.size, 0, none⟩ = some (.int .i64 kind) := by simpa using cell_of g2 0
  have d1 : w3.cell? ⟨w2.heap.size, 1, none⟩ = some (.int .i64 corr) := by simpa using cell_of g2 1
  have d2 : w3.cell? ⟨w2.heap.size, 2, none⟩ = some (strV topic) := by simpa using cell_of g2 2
  have d3 : w3.cell? ⟨w2.heap.size, 3, none⟩ = some (.int .i64 part) := by simpa using cell_of g2 3
  have d4 : w3.cell? ⟨w2.heap.size, 4, none⟩ = some (.int .i64 offset) := by simpa using cell_of g2 4
  have d5 : w3.cell? ⟨w2.heap.size, 5, none⟩ = some (.int .i64 most) := by simpa using cell_of g2 5
  have d6 : w3.cell? ⟨w2.heap.size, 6, none⟩ = some (.int .i64 least) := by simpa using cell_of g2 6
  have d7 : w3.cell? ⟨w2.heap.size, 7, none⟩ = some (.int .i64 wait) := by simpa using cell_of g2 7
  have d8 : w3.cell? ⟨w2.heap.size, 8, none⟩ = some (.int .i64 time) := by simpa using cell_of g2 8
  have d9 : w3.cell? ⟨w2.heap.size, 9, none⟩ = some (.int .i64 parts) := by simpa using cell_of g2 9
  have d10 : w3.cell? ⟨w2.heap.size, 10, none⟩ = some (.bool sure) := by simpa using cell_of g2 10
  have d11 : w3.cell? ⟨w2.heap.size, 11, none⟩ = some (.bool compact) := by simpa using cell_of g2 11
  have d12 : w3.cell? ⟨w2.heap.size, 12, none⟩ = some (.slice ra2 recs.length rc2) := by simpa using cell_of g2 12
  have hR1 := HR1.out.still hx3.2.1
  have hR2 := HR2.out.still hx3.1
  have HRR1 := hide hR1
  have HRR2 := hide hR2
  have HT4 := hide hx3.2.2.1
  clear hb3 ht3 hx3 g1 g2 hR1 hR2
  go_wp2_with fail
  refine (sameReq_any w3 ⟨kind, corr, topic, part, offset, most, least, wait, time, parts, sure, compact, recs⟩ _ _ HRR2.out HRR1.out).mono ?_
  rintro e w4 ⟨rfl, ht4⟩
  have HT5 := hide (HT4.out.same ht4)
  clear ht4
  go_wp2
  go_ret
  exact ⟨rfl, HT5.out.nil⟩

set_option maxHeartbeats 16000000 in
theorem wiretolds_any (W : World) (v : Value) (b : List UInt8) (hx : BytesAt W v b) (hg : As.ErrT W) :
    Calls Tryd.prog 4 #[v] W fun e w' => e = .returned (.bool true) ∧ Below W.heap.size W w' := by
  have HX := hide hx
  have HG := hide hg
  obtain ⟨a, c, rfl, hlc, hcm, hc⟩ := hx.form
  clear hx hc hg
  by_cases hl : 15000 < b.length
  · have hl' : (15000 : Int) < (b.length : Int) := by omega
    go_enter Tryd.func4, Tryd.ntmps4
    go_wp2
    go_ret
    exact ⟨rfl, Below.refl _ _⟩
  have hl' : ¬ ((15000 : Int) < (b.length : Int)) := by omega
  obtain ⟨x, n, er, hd⟩ : ∃ x n er, toldM b = (x, n, er) := ⟨_, _, _, rfl⟩
  have href := fun Z hZ => refTold_any Z _ b (HX.out.still hZ) (by omega)
  have hdec := fun Z hZ => told_any Z _ b (HX.out.still hZ) (by omega)
  rw [hd] at href hdec
  simp only at href hdec
  have HREF := hide href
  have HDEC := hide hdec
  clear hd href hdec
  obtain ⟨kind, corr, err, offset, start, fin, found, recs, topics⟩ := x
  go_enter Tryd.func4, Tryd.ntmps4
  go_wp2_with fail
  refine (HREF.out W (Turn.refl _ _)).mono ?_
  rintro e w1 ⟨rv1, tv1, rfl, hr1, htp1, ht1⟩
  obtain ⟨ra1, rc1, rfl, -, -, -, -⟩ := hr1.form
  obtain ⟨ta1, tc1, rfl, -, -, -, -⟩ := htp1.form
  have HR1 := hide hr1
  have HP1 := hide htp1
  have HT1 := hide ht1
  clear hr1 ht1 htp1
  simp only [ansC]
  obtain ⟨hbz1, hbx1⟩ := fresh_row (T := 38) w1 [.int .i64 0, .int .i64 0, .int .i64 0, .int .i64 0, .int .i64 0, .int .i64 0, .bool false, .slice none 0 0, .slice none 0 0] [.int .i64 kind, .int .i64 corr, .int .i64 err, .int .i64 offset, .int .i64 start, .int .i64 fin, .bool found, .slice ra1 recs.length rc1, .slice ta1 topics.length tc1]
  have HBZ1 := hide hbz1
  have HBX1 := hide hbx1
  obtain ⟨x1, hx1⟩ : ∃ x1, x1 = (w1.alloc (.cells #[.int .i64 0, .int .i64 0, .int .i64 0, .int .i64 0, .int .i64 0, .int .i64 0, .bool false, .slice none 0 0, .slice none 0 0] 38)).setRow w1.heap.size #[.int .i64 kind, .int .i64 corr, .int .i64 err, .int .i64 offset, .int .i64 start, .int .i64 fin, .bool found, .slice ra1 recs.length rc1, .slice ta1 topics.length tc1] := ⟨_, rfl⟩
  have hxs1 : ∀ Z, Turn [] x1 Z → Z.heap[w1.heap.size]? = some (.cells #[.int .i64 kind, .int .i64 corr, .int .i64 err, .int .i64 offset, .int .i64 start, .int .i64 fin, .bool found, .slice ra1 recs.length rc1, .slice ta1 topics.length tc1] 38 (0, 0)) ∧ Turn [] w1 Z := by rw [hx1]; exact hbx1
  have HXS1 := hide hxs1
  have HXX1 := hide hx1
  clear hbz1 hbx1 hx1 hxs1
  go_wp2_with (refine wpList_store_row rfl _ _ _ rfl w1.heap.size #[.int .i64 kind, .int .i64 corr, .int .i64 err, .int .i64 offset, .int .i64 start, .int .i64 fin, .bool found, .slice ra1 recs.length rc1, .slice ta1 topics.length tc1] rfl rfl _ _ HBZ1.out (by kernel_rfl) rfl (by kernel_rfl) ?_)
  rw [show (w1.alloc (.cells #[.int .i64 0, .int .i64 0, .int .i64 0, .int .i64 0, .int .i64 0, .int .i64 0, .bool false, .slice none 0 0, .slice none 0 0] 38)).setRow w1.heap.size #[.int .i64 kind, .int .i64 corr, .int .i64 err, .int .i64 offset, .int .i64 start, .int .i64 fin, .bool found, .slice ra1 recs.length rc1, .slice ta1 topics.length tc1] = x1 from HXX1.out.symm]
  refine (HDEC.out x1 (HT1.out.same (HXS1.out x1 (Turn.refl _ _)).2)).mono ?_
  rintro e w2 ⟨rv2, tv2, rfl, hr2, htp2, ht2⟩
  obtain ⟨ra2, rc2, rfl, -, -, -, -⟩ := hr2.form
  obtain ⟨ta2, tc2, rfl, -, -, -, -⟩ := htp2.form
  have HR2 := hide hr2
  have HP2 := hide htp2
  have HT2 := hide ht2
  clear hr2 ht2 htp2
  simp only [ansC]
  obtain ⟨hbz2, hbx2⟩ := fresh_row (T := 38) w2 [.int .i64 0, .int .i64 0, .int .i64 0, .int .i64 0, .int .i64 0, .int .i64 0, .bool false, .slice none 0 0, .slice none 0 0] [.int .i64 kind, .int .i64 corr, .int .i64 err, .int .i64 offset, .int .i64 start, .int .i64 fin, .bool found, .slice ra2 recs.length rc2, .slice ta2 topics.length tc2]
  have HBZ2 := hide hbz2
  have HBX2 := hide hbx2
  obtain ⟨x2, hx2⟩ : ∃ x2, x2 = (w2.alloc (.cells #[.int .i64 0, .int .i64 0, .int .i64 0, .int .i64 0, .int .i64 0, .int .i64 0, .bool false, .slice none 0 0, .slice none 0 0] 38)).setRow w2.heap.size #[.int .i64 kind, .int .i64 corr, .int .i64 err, .int .i64 offset, .int .i64 start, .int .i64 fin, .bool found, .slice ra2 recs.length rc2, .slice ta2 topics.length tc2] := ⟨_, rfl⟩
  have hxs2 : ∀ Z, Turn [] x2 Z → Z.heap[w2.heap.size]? = some (.cells #[.int .i64 kind, .int .i64 corr, .int .i64 err, .int .i64 offset, .int .i64 start, .int .i64 fin, .bool found, .slice ra2 recs.length rc2, .slice ta2 topics.length tc2] 38 (0, 0)) ∧ Turn [] w2 Z := by rw [hx2]; exact hbx2
  have HXS2 := hide hxs2
  have HXX2 := hide hx2
  clear hbz2 hbx2 hx2 hxs2
  go_wp2_with (refine wpList_store_row rfl _ _ _ rfl w2.heap.size #[.int .i64 kind, .int .i64 corr, .int .i64 err, .int .i64 offset, .int .i64 start, .int .i64 fin, .bool found, .slice ra2 recs.length rc2, .slice ta2 topics.length tc2] rfl rfl _ _ HBZ2.out (by kernel_rfl) rfl (by kernel_rfl) ?_)
  rw [show (w2.alloc (.cells #[.int .i64 0, .int .i64 0, .int .i64 0, .int .i64 0, .int .i64 0, .int .i64 0, .bool false, .slice none 0 0, .slice none 0 0] 38)).setRow w2.heap.size #[.int .i64 kind, .int .i64 corr, .int .i64 err, .int .i64 offset, .int .i64 start, .int .i64 fin, .bool found, .slice ra2 recs.length rc2, .slice ta2 topics.length tc2] = x2 from HXX2.out.symm]
  have hto : ∀ Z, Turn [] x2 Z → Turn [] w2 Z ∧ Turn [] w1 Z ∧ Turn [] W Z ∧ Turn [] x1 Z := fun Z hZ => by
    have h2 := (HXS2.out Z hZ).2
    have h1 := HT2.out.same h2
    exact ⟨h2, (HXS1.out Z h1).2, HT1.out.same (HXS1.out Z h1).2, h1⟩
  have HTO := hide hto
  clear hto
  go_wp2_with fail
  refine (As.bare_any er er _ (HG.out.below (HTO.out x2 (Turn.refl _ _)).2.2.1.nil)).mono ?_
  rintro e w3 ⟨rfl, hb3⟩
  have ht3 := Turn.of_below hb3 []
  have HT3 := hide ht3
  simp only [beq_self_eq_true]
  have hx3 := HTO.out w3 ht3
  have g1 := (HXS1.out w3 hx3.2.2.2).1
  have g2 := (HXS2.out w3 ht3).1
  have hsz1 := lt_of_heap g1
  have hsz2 := lt_of_heap g2
  have c0 : w3.cell? ⟨w1.heap.size, 0, none⟩ = some (.int .i64 kind) := by simpa using cell_of g1 0
  have c1 : w3.cell? ⟨w1.heap.size, 1, none⟩ = some (.int .i64 corr) := by simpa using cell_of g1 1
  have c2 : w3.cell? ⟨w1.heap.size, 2, none⟩ = some (.int .i64 err) := by simpa using cell_of g1 2
  have c3 : w3.cell? ⟨w1.heap.size, 3, none⟩ = some (.int .i64 offset) := by simpa using cell_of g1 3
  have c4 : w3.cell? ⟨w1.heap.size, 4, none⟩ = some (.int .i64 start) := by simpa using cell_of g1 4
  have c5 : w3.cell? ⟨w1.heap.size, 5, none⟩ = some (.int .i64 fin) := by simpa using cell_of g1 5
  have c6 : w3.cell? ⟨w1.heap.size, 6, none⟩ = some (.bool found) := by simpa using cell_of g1 6
  have c7 : w3.cell? ⟨w1.heap.size, 7, none⟩ = some (.slice ra1 recs.length rc1) := by simpa using cell_of g1 7
  have c8 : w3.cell? ⟨w1.heap.size, 8, none⟩ = some (.slice ta1 topics.length tc1) := by simpa using cell_of g1 8
  have d0 : w3.cell? ⟨w2.heap.size, 0, none⟩ = some (.int .i64 kind) := by simpa using cell_of g2 0
  have d1 : w3.cell? ⟨w2.heap.size, 1, none⟩ = some (.int .i64 corr) := by simpa using cell_of g2 1
  have d2 : w3.cell? ⟨w2.heap.size, 2, none⟩ = some (.int .i64 err) := by simpa using cell_of g2 2
  have d3 : w3.cell? ⟨w2.heap.size, 3, none⟩ = some (.int .i64 offset) := by simpa using cell_of g2 3
  have d4 : w3.cell? ⟨w2.heap.size, 4, none⟩ = some (.int .i64 start) := by simpa using cell_of g2 4
  have d5 : w3.cell? ⟨w2.heap.size, 5, none⟩ = some (.int .i64 fin) := by simpa using cell_of g2 5
  have d6 : w3.cell? ⟨w2.heap.size, 6, none⟩ = some (.bool found) := by simpa using cell_of g2 6
  have d7 : w3.cell? ⟨w2.heap.size, 7, none⟩ = some (.slice ra2 recs.length rc2) := by simpa using cell_of g2 7
  have d8 : w3.cell? ⟨w2.heap.size, 8, none⟩ = some (.slice ta2 topics.length tc2) := by simpa using cell_of g2 8
  have hR1 := HR1.out.still hx3.2.1
  have hR2 := HR2.out.still hx3.1
  have hP1 := HP1.out.still hx3.2.1
  have hP2 := HP2.out.still hx3.1
  have HRR1 := hide hR1
  have HRR2 := hide hR2
  have HPP1 := hide hP1
  have HPP2 := hide hP2
  have HT4 := hide hx3.2.2.1
  clear hb3 ht3 hx3 g1 g2 hR1 hR2 hP1 hP2
  go_wp2_with fail
  refine (sameAns_any w3 ⟨kind, corr, err, offset, start, fin, found, recs, topics⟩ _ _ _ _ HRR2.out HRR1.out HPP2.out HPP1.out).mono ?_
  rintro e w4 ⟨rfl, ht4⟩
  have HT5 := hide (HT4.out.same ht4)
  clear ht4
  go_wp2
  go_ret
  exact ⟨rfl, HT5.out.nil⟩
end Go.Proofs.YtcpjohpbakbggaaDoor.Wi

/- A row of bytes that came in (of a law's card). -/
namespace Go.Proofs.YtcpjohpbakbggaaDoor
open Go.RowKit Go.Maps
set_option maxRecDepth 100000
set_option linter.unusedSimpArgs false
set_option linter.unusedVariables false

theorem cells5 : Tryd.prog.cellsOf 5 = 1 := by kernel_rfl
variable {H : Type} {enc : TypeId × Value → H} {base : Nat} {spare : Nat → Bool} {held : Bool}
theorem open_bytes {w : World} {r : Reach} {b0 : Nat} {v : Value} {d : DataW H} {ps : List MemPlace} (hv : Value.okWide Tryd.prog w r b0 22 v) (h : DataW.Trod enc Tryd.prog w base spare held 22 v d ps) : ∃ bs, BytesAt w v bs := by
  obtain ⟨a', len', cap', rfl⟩ := WideShapes.okWide_slice Tryd.underlying22 hv
  obtain ⟨n, h⟩ := h
  simp only [Value.cells] at h
  rcases Deep.open_slice Tryd.underlying22 h with ⟨hcs, -⟩ | ⟨a, len, cap, m, k, D, Pl, hcs, -, h1, h2, h3, -, h4⟩
  · simp only [List.cons.injEq, and_true] at hcs
    rw [hcs]
    exact ⟨[], none, 0, rfl, Nat.le_refl _, Nat.zero_le _, fun _ => rfl, fun j hj => absurd hj (Nat.not_lt_zero _)⟩
  · simp only [List.cons.injEq, and_true] at hcs
    rw [hcs]
    have hlm : len ≤ m := by rw [h3]; split <;> omega
    rw [cells5] at h4
    have hr : ∀ i, i < len → ∃ x : UInt8, w.cell? (a.add i) = some (encB x) := by
      intro i hi
      obtain ⟨cs', g1, g2⟩ := h4 i (by omega)
      obtain ⟨z, rfl, -, hw⟩ := DataW.trod_int Tryd.underlying5 g2
      obtain ⟨-, -, g3⟩ := World.cells?_some g1
      have := g3 0 (by omega)
      simp only [Lit.wf, IntKind.min, IntKind.max, IntKind.signed, IntKind.bits, Bool.and_eq_true, decide_eq_true_eq] at hw
      have w1 := hw.1
      have w2 := hw.2
      simp at w1 w2
      refine ⟨UInt8.ofNat z.toNat, ?_⟩
      rw [add_add, Nat.mul_one, Nat.add_zero] at this
      rw [this]
      simp [encB]
      omega
    let bs : List UInt8 := (List.range len).attach.map fun i => (hr i.1 (List.mem_range.1 i.2)).choose
    have hl : bs.length = len := by simp [bs]
    refine ⟨bs, some a, cap, by rw [hl], by rw [hl]; exact h1, h2, by simp, fun j hj => ?_⟩
    have hj' : j < len := by omega
    have e : bs[j] = (hr j hj').choose := by simp [bs]
    rw [e]
    exact ⟨a, rfl, (hr j hj').choose_spec⟩
end Go.Proofs.YtcpjohpbakbggaaDoor
