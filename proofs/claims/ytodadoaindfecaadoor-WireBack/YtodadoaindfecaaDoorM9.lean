/- Wjb, AppB, Wjc, KBat, Wiu, Wjd, Same, OpB, OpA: texts merged. -/
import Derived.Test.YtodadoaindfecaaDoorM3
import Derived.Test.YtodadoaindfecaaDoorM4
import Derived.Test.YtodadoaindfecaaDoorM8
import Derived.Laws.Tables
import Derived.Test.YtodadoaindfecaaDoorM2
import Derived.Test.YtodadoaindfecaaDoorM1
import Derived.Lib.Strings
import Derived.Test.YtodadoaindfecaaDoorRows
/- wire.Asked, wire.Told. -/
namespace Go.Proofs.YtodadoaindfecaaDoor.Wi
open Go.RowKit Go.Maps
set_option maxRecDepth 100000
set_option linter.unusedSimpArgs false
set_option linter.unusedVariables false

theorem fin_row {T : TypeId} {w w1 : World} {Y : Nat} {ys : Array Value} (cs : List Value) (hy : w1.heap[Y]? = some (.cells ys T (0, 0))) (ht : Turn [] w w1) (hY : w.heap.size ≤ Y) :
    (w1.setRow Y cs.toArray).heap[Y]? = some (.cells cs.toArray T (0, 0)) ∧ Turn [] w (w1.setRow Y cs.toArray) ∧ Turn [Y] w1 (w1.setRow Y cs.toArray) := by
  have h : Turn [Y] w1 (w1.setRow Y cs.toArray) := ⟨rfl, rfl, rfl, by simp, fun k _ hk => setRow_other w1 Y k _ (fun e => hk (by simp [e]))⟩
  exact ⟨setRow_heap w1 Y _ _ _ _ hy, ht.trans h (fun k hk => .inr (by simp at hk; omega)), h⟩
theorem whole_ok {b : List UInt8} {n : Nat} (h : whole b = (n, 0)) : 5 ≤ n ∧ n ≤ b.length ∧ n ≤ 10004 := by
  unfold whole at h
  split at h
  · simp at h
  · split at h
    · simp at h
    · split at h
      · simp at h
      · simp only [Prod.mk.injEq] at h; omega
theorem reqP_sm {l : List UInt8} (hl : l.length ≤ 900000) : (reqP l).topic.length ≤ 1000000 ∧ ∀ r ∈ (reqP l).recs, RecRd r := by
  have h0 := num_len l
  have h1 := num_len (Bt.num l).2
  have ht : ∀ t : List UInt8 × List UInt8, t = (if ((Bt.num l).1 : Int) = 7 then ([], (Bt.num (Bt.num l).2).2) else Bt.text (Bt.num (Bt.num l).2).2) → t.1.length ≤ 1000000 ∧ t.2.length ≤ 900000 := by
    intro t ht
    have h2 := text_len (Bt.num (Bt.num l).2).2
    split at ht
    · subst ht; simp; omega
    · subst ht; omega
  obtain ⟨g1, g2⟩ := ht _ rfl
  unfold reqP
  simp only
  generalize (if ((Bt.num l).1 : Int) = 7 then ([], (Bt.num (Bt.num l).2).2) else Bt.text (Bt.num (Bt.num l).2).2) = t at g1 g2 ⊢
  have e1 := num_len t.2
  have e2 := num_len (Bt.num t.2).2
  have e3 := num_len (Bt.num (Bt.num t.2).2).2
  unfold tailP
  simp only
  split
  · refine ⟨g1, ?_⟩
    exact (listP_all (one := recP) (ok := RecRd) (L := 1000000) (fun l h => recP_rd h) (fun l h => recP_lt h) _ _ (by omega)).1
  · repeat' split
    all_goals exact ⟨g1, fun r hr => absurd hr (by simp [mkQ])⟩
theorem ansP_sm {l : List UInt8} (hl : l.length ≤ 900000) : (∀ r ∈ (ansP l).recs, RecRd r) ∧ ∀ t ∈ (ansP l).topics, TpRd t := by
  have h0 := num_len l
  have h1 := num_len (Bt.num l).2
  have h2 := num_len (Bt.num (Bt.num l).2).2
  have hno : ∀ a b c : Int, (∀ r ∈ (mkA a b c).recs, RecRd r) ∧ ∀ t ∈ (mkA a b c).topics, TpRd t := fun a b c => ⟨fun r hr => absurd hr (by simp [mkA]), fun r hr => absurd hr (by simp [mkA])⟩
  unfold ansP
  simp only
  split
  · generalize hq : (Bt.num (Bt.num (Bt.num l).2).2).2 = q at h2 ⊢
    have e1 := num_len q
    have e2 := num_len (Bt.num q).2
    have e3 := num_len (Bt.num (Bt.num q).2).2
    unfold atailP
    simp only
    split
    · exact ⟨fun r hr => absurd hr (by simp [mkA]), fun r hr => absurd hr (by simp [mkA])⟩
    split
    · exact ⟨(listP_all (one := plP) (ok := RecRd) (L := 1000000) (fun l h => plP_rd h) (fun l h => plP_lt h) _ _ (by omega)).1, fun r hr => absurd hr (by simp [mkA])⟩
    split
    · split
      · exact ⟨fun r hr => absurd hr (by simp [mkA]), fun r hr => absurd hr (by simp [mkA])⟩
      · exact ⟨fun r hr => absurd hr (by simp [mkA]), fun r hr => absurd hr (by simp [mkA])⟩
    split
    · exact ⟨fun r hr => absurd hr (by simp [mkA]), fun r hr => absurd hr (by simp [mkA])⟩
    split
    · exact ⟨fun r hr => absurd hr (by simp [mkA]), (listP_all (one := tpP) (ok := TpRd) (L := 1000000) (fun l h => tpP_rd h) (fun l h => tpP_lt h) _ _ (by omega)).1⟩
    · exact ⟨fun r hr => absurd hr (by simp [mkA]), fun r hr => absurd hr (by simp [mkA])⟩
  · exact ⟨fun r hr => absurd hr (by simp [mkA]), fun r hr => absurd hr (by simp [mkA])⟩
theorem RecRd.sm {r : Bt.Rec} (h : RecRd r) : RecSm r := ⟨by have := h.key; omega, by have := h.value; omega⟩
theorem okQ_iff {b : List UInt8} {n : Nat} (h : whole b = (n, 0)) (x : Req) : askedM b = if okQ b (reqP (bodyOf b)) then (reqP (bodyOf b), n, 0) else (zQ, 0, 3) := by
  unfold askedM; rw [h]; simp
theorem okA_iff {b : List UInt8} {n : Nat} (h : whole b = (n, 0)) (x : Ans) : toldM b = if okA b (ansP (bodyOf b)) then (ansP (bodyOf b), n, 0) else (zA, 0, 3) := by
  unfold toldM; rw [h]; simp

set_option maxHeartbeats 16000000 in
theorem asked_any (w : World) (v : Value) (b : List UInt8) (hx : BytesAt w v b) (hl : b.length ≤ 900000) :
    Calls Tryd.prog 23 #[v] w fun e w' => ∃ rv, e = .returned (.tuple #[.agg (reqC (askedM b).1 rv), .int .i64 (askedM b).2.1, As.errN (askedM b).2.2]) ∧ RecsAt w' rv (askedM b).1.recs ∧ Turn [] w w' := by
  have HX := hide hx
  obtain ⟨a, c, rfl, hlc, hcm, hc⟩ := hx.form
  have hmx : maxLen = 9223372036854775807 := by simp [maxLen]
  rw [hmx] at hcm
  obtain ⟨wy, hwy⟩ : ∃ wy, wy = w.alloc (.cells zQv.toArray 48) := ⟨_, rfl⟩
  have hty : Turn [] w wy := by rw [hwy]; exact (Turn.refl [] w).alloc _
  have hyy : wy.heap[w.heap.size]? = some (.cells zQv.toArray 48 (0, 0)) := by rw [hwy]; exact heap_new w _
  have HWY := hide hwy
  have HTY := hide hty
  have HYY := hide hyy
  obtain ⟨n, er, hw⟩ : ∃ n er, whole b = (n, er) := ⟨_, _, rfl⟩
  have HW := hide hw
  clear hx hc hwy hty hyy hw
  go_enter Tryd.func23, Tryd.ntmps23
  go_wp2_with fail
  rw [show w.alloc (.cells #[.int .i64 0, .int .i64 0, .string ⟨#[]⟩, .int .i64 0, .int .i64 0, .int .i64 0, .int .i64 0, .int .i64 0, .int .i64 0, .int .i64 0, .bool false, .bool false, .slice none 0 0] 48) = wy from HWY.out.symm]
  refine (wwhole_any _ _ b (HX.out.still HTY.out) (by omega)).mono ?_
  rintro e w1 ⟨rfl, ht1⟩
  rw [HW.out]
  simp only
  have HT1 := hide (HTY.out.same ht1)
  have HY1 := hide (ht1.heap HYY.out (by simp))
  clear ht1
  by_cases h0 : er = 0
  · subst h0
    obtain ⟨n1, n2, n3⟩ := whole_ok HW.out
    simp only [As.errN, if_true]
    have hsl : ∀ w, (Instr.slice 49 (.slice a b.length c) (some (.int .i64 4)) (some (.int .i64 (n : Int))) none).run Tryd.prog w = .ok (.slice (advA a 4 c) (n - 4) (c - 4)) w := fun w => by simpa using @run_from_to a b.length c 4 n (by omega) (by omega) w
    have hst : ∀ w, (Instr.slice 49 (.slice a b.length c) none (some (.int .i64 (n : Int))) none).run Tryd.prog w = .ok (.slice a n c) w := fun w => @run_to a b.length c n (by omega) w
    have htk : BytesAt w (.slice a n c) (b.take n) := HX.out.take (by omega)
    have HTK := hide htk
    have hbo : bodyOf b = (b.take n).drop 4 := by unfold bodyOf; rw [HW.out]
    obtain ⟨l, hl0⟩ : ∃ l, l = bodyOf b := ⟨_, rfl⟩
    have hll : l.length = n - 4 := by rw [hl0, hbo]; simp; omega
    have hbm : BytesAt w (.slice (advA a 4 c) (n - 4) (c - 4)) l := by
      have h1 : (b.take n).length = n := by simp; omega
      have h2 := BytesAt.drop (n := 4) (by rw [h1]; exact htk) (by omega : 4 ≤ (b.take n).length)
      rw [h1, ← hbo, ← hl0] at h2
      exact h2
    have hown : ∀ k ∈ (Value.slice (advA a 4 c) (n - 4) (c - 4)).ownBlock, k < w.heap.size := fun k hk =>
      HX.out.lt (fun e => by rw [e] at n2; simp at n2; omega) k (advA_own (l' := b.length) k hk)
    have hiff : askedM b = if okQ b (reqP l) then (reqP l, n, 0) else (zQ, 0, 3) := by rw [hl0]; exact okQ_iff HW.out zQ
    have HIFF := hide hiff
    have HBM := hide hbm
    have HOWN := hide hown
    clear htk hbo hl0 hbm hown hiff
    go_wp2_with fail
    have hrd : RdW (w1.alloc (.cells #[.slice (advA a 4 c) (n - 4) (c - 4)] 114)) w1.heap.size w.heap.size l :=
      ⟨_, heap_new w1 _, HBM.out.still (HT1.out.alloc _), fun _ => HOWN.out⟩
    refine (rreq_any _ w1.heap.size w.heap.size l hrd HT1.out.size (by omega)).mono ?_
    rintro e w2 ⟨rv, rfl, hrec, ht2, hown2⟩
    have hsm := reqP_sm (l := l) (by omega)
    obtain ⟨x, hxx⟩ : ∃ x, x = reqP l := ⟨_, rfl⟩
    rw [← hxx] at hrec hsm ⊢
    have hiff := HIFF.out
    rw [← hxx] at hiff
    have HIFF := hide hiff
    have hpm : askP x = askM x := askP_small (reqCl_small (by have := hsm.1; omega) (fun r hr => (hsm.2 r hr).sm))
    have htl : x.topic.length ≤ 9223372036854775807 := by have := hsm.1; omega
    clear hiff hsm hrd hxx
    have ht02 : Turn [] w w2 := (HT1.out.alloc _).trans ht2 (fun k hk => .inr (by have := HT1.out.size; simp at hk; omega))
    have hy2 := ht2.heap (((Turn.refl [] w1).alloc (.cells #[.slice (advA a 4 c) (n - 4) (c - 4)] 114)).heap HY1.out (by simp)) (by have := lt_of_heap HY1.out; simp; omega)
    have hlt1 := lt_of_heap HY1.out
    have hrl : ∀ k ∈ rv.ownBlock, k ≠ w.heap.size := fun k hk => by have := hown2 k hk; simp at this; omega
    have HPM := hide hpm
    have HREC := hide hrec
    have HRL := hide hrl
    have HT2 := hide ht02
    have HY2 := hide hy2
    obtain ⟨kind, corr, topic, part, offset, most, least, wait, time, parts, sure, compact, recs⟩ := x
    obtain ⟨XX, hXX⟩ : ∃ XX : Req, XX = ⟨kind, corr, topic, part, offset, most, least, wait, time, parts, sure, compact, recs⟩ := ⟨_, rfl⟩
    have HXX := hide hXX
    simp only at htl
    obtain ⟨ra, rc, rfl, -, -, -, -⟩ := HREC.out.form
    simp only [reqC]
    obtain ⟨wx, hwx⟩ : ∃ wx, wx = (w2.alloc (.cells #[.int .i64 0, .int .i64 0, .string ⟨#[]⟩, .int .i64 0, .int .i64 0, .int .i64 0, .int .i64 0, .int .i64 0, .int .i64 0, .int .i64 0, .bool false, .bool false, .slice none 0 0] 48)).setRow w2.heap.size #[.int .i64 kind, .int .i64 corr, strV topic, .int .i64 part, .int .i64 offset, .int .i64 most, .int .i64 least, .int .i64 wait, .int .i64 time, .int .i64 parts, .bool sure, .bool compact, .slice ra recs.length rc] := ⟨_, rfl⟩
    have hbz : (w2.alloc (.cells #[.int .i64 0, .int .i64 0, .string ⟨#[]⟩, .int .i64 0, .int .i64 0, .int .i64 0, .int .i64 0, .int .i64 0, .int .i64 0, .int .i64 0, .bool false, .bool false, .slice none 0 0] 48)).heap[w2.heap.size]? = some (.cells #[.int .i64 0, .int .i64 0, .string ⟨#[]⟩, .int .i64 0, .int .i64 0, .int .i64 0, .int .i64 0, .int .i64 0, .int .i64 0, .int .i64 0, .bool false, .bool false, .slice none 0 0] 48 (0, 0)) := heap_new w2 _
    have hfz := fin_row [.int .i64 kind, .int .i64 corr, strV topic, .int .i64 part, .int .i64 offset, .int .i64 most, .int .i64 least, .int .i64 wait, .int .i64 time, .int .i64 parts, .bool sure, .bool compact, .slice ra recs.length rc] hbz ((Turn.refl [] w2).alloc _) (Nat.le_refl _)
    have hlx : (loadVar 48 ⟨w2.heap.size, 0, none⟩).run Tryd.prog ((w2.alloc (.cells #[.int .i64 0, .int .i64 0, .string ⟨#[]⟩, .int .i64 0, .int .i64 0, .int .i64 0, .int .i64 0, .int .i64 0, .int .i64 0, .int .i64 0, .bool false, .bool false, .slice none 0 0] 48)).setRow w2.heap.size #[.int .i64 kind, .int .i64 corr, strV topic, .int .i64 part, .int .i64 offset, .int .i64 most, .int .i64 least, .int .i64 wait, .int .i64 time, .int .i64 parts, .bool sure, .bool compact, .slice ra recs.length rc]) = .ok (.agg #[.int .i64 kind, .int .i64 corr, strV topic, .int .i64 part, .int .i64 offset, .int .i64 most, .int .i64 least, .int .i64 wait, .int .i64 time, .int .i64 parts, .bool sure, .bool compact, .slice ra recs.length rc]) ((w2.alloc (.cells #[.int .i64 0, .int .i64 0, .string ⟨#[]⟩, .int .i64 0, .int .i64 0, .int .i64 0, .int .i64 0, .int .i64 0, .int .i64 0, .int .i64 0, .bool false, .bool false, .slice none 0 0] 48)).setRow w2.heap.size #[.int .i64 kind, .int .i64 corr, strV topic, .int .i64 part, .int .i64 offset, .int .i64 most, .int .i64 least, .int .i64 wait, .int .i64 time, .int .i64 parts, .bool sure, .bool compact, .slice ra recs.length rc]) := load13 hfz.1
    have HBZ := hide hbz
    have HLX := hide hlx
    have hbx : ∀ Q, Turn [] wx Q → Q.heap[w2.heap.size]? = some (.cells #[.int .i64 kind, .int .i64 corr, strV topic, .int .i64 part, .int .i64 offset, .int .i64 most, .int .i64 least, .int .i64 wait, .int .i64 time, .int .i64 parts, .bool sure, .bool compact, .slice ra recs.length rc] 48 (0, 0)) ∧ Q.heap[w.heap.size]? = some (.cells zQv.toArray 48 (0, 0)) ∧ Turn [] w Q ∧ Turn [] w2 Q := by
      intro Q hQ
      have h2 : Turn [] w2 Q := by have := hfz.2.1; rw [hwx] at hQ; exact this.same hQ
      exact ⟨hQ.heap (by rw [hwx]; exact hfz.1) (by simp), h2.heap HY2.out (by simp), HT2.out.same h2, h2⟩
    have HBX := hide hbx
    have HWX := hide hwx
    clear hpm hrec  hrl ht02 hy2 hown2 ht2 hXX hwx hbx hlt1 hbz hlx hfz
    go_wp2_with (first | refine wpList_store_row rfl _ _ _ rfl w2.heap.size #[.int .i64 kind, .int .i64 corr, strV topic, .int .i64 part, .int .i64 offset, .int .i64 most, .int .i64 least, .int .i64 wait, .int .i64 time, .int .i64 parts, .bool sure, .bool compact, .slice ra recs.length rc] rfl rfl _ _ HBZ.out (by kernel_rfl) rfl (by kernel_rfl) ?_ | refine wpList_loadT rfl _ _ rfl ⟨w2.heap.size, 0, none⟩ rfl _ HLX.out ?_)
    rw [show (w2.alloc (.cells #[.int .i64 0, .int .i64 0, .string ⟨#[]⟩, .int .i64 0, .int .i64 0, .int .i64 0, .int .i64 0, .int .i64 0, .int .i64 0, .int .i64 0, .bool false, .bool false, .slice none 0 0] 48)).setRow w2.heap.size #[.int .i64 kind, .int .i64 corr, strV topic, .int .i64 part, .int .i64 offset, .int .i64 most, .int .i64 least, .int .i64 wait, .int .i64 time, .int .i64 parts, .bool sure, .bool compact, .slice ra recs.length rc] = wx from HWX.out.symm]
    refine (ask_any wx ⟨kind, corr, topic, part, offset, most, least, wait, time, parts, sure, compact, recs⟩ (.slice ra recs.length rc) (HREC.out.still (HBX.out wx (Turn.refl _ _)).2.2.2) htl).mono ?_
    rintro e w3 ⟨v3, rfl, hr3, ht3⟩
    rw [HPM.out, ← HXX.out] at hr3 ⊢
    obtain ⟨m, e2, hm⟩ : ∃ m e2, askM XX = (m, e2) := ⟨_, _, rfl⟩
    rw [hm] at hr3 ⊢
    simp only at hr3 ⊢
    have hok : okQ b XX ↔ m = b.take n ∧ e2 = 0 := by unfold okQ; rw [hm, HW.out]; simp
    have hb3 := hr3.bytes
    have HOK := hide hok
    have HB3 := hide hb3
    have HT3 := hide ht3
    have HTK3 := hide (HTK.out.still (HBX.out _ ht3).2.2.1)
    clear hok hb3 ht3 hr3 hm
    by_cases h2 : e2 = 0
    · subst h2
      simp only [As.errN, if_true]
      go_wp2_with fail
      refine (equal_any _ _ _ m (b.take n) HB3.out HTK3.out).mono ?_
      rintro e w5 ⟨rfl, rfl⟩
      by_cases heq : m = b.take n
      · have hbq : (m == b.take n) = true := by simpa using heq
        have HM : Hid (askedM b = (XX, n, 0)) := by show _ = _; rw [HIFF.out, ← HXX.out, if_pos (HOK.out.2 ⟨heq, by trivial⟩)]
        rw [hbq]
        clear heq hbq
        go_upto_region 9 with fail
        refine wp_region_lit ?_
        refine wpList_loadT rfl _ _ rfl ⟨w2.heap.size, 0, none⟩ rfl _ (load13 (HBX.out w3 HT3.out).1) ?_
        have HF := hide (fin_row [.int .i64 kind, .int .i64 corr, strV topic, .int .i64 part, .int .i64 offset, .int .i64 most, .int .i64 least, .int .i64 wait, .int .i64 time, .int .i64 parts, .bool sure, .bool compact, .slice ra recs.length rc] (HBX.out w3 HT3.out).2.1 (HBX.out w3 HT3.out).2.2.1 (Nat.le_refl _))
        go_simp
        go_wp2_with (refine wpList_store_row rfl _ _ _ rfl w.heap.size #[.int .i64 kind, .int .i64 corr, strV topic, .int .i64 part, .int .i64 offset, .int .i64 most, .int .i64 least, .int .i64 wait, .int .i64 time, .int .i64 parts, .bool sure, .bool compact, .slice ra recs.length rc] rfl rfl _ _ (HBX.out w3 HT3.out).2.1 (by kernel_rfl) rfl (by kernel_rfl) ?_)
        have hld := load13 HF.out.1
        refine bodyPost_ret (v := .tuple #[.agg #[.int .i64 kind, .int .i64 corr, strV topic, .int .i64 part, .int .i64 offset, .int .i64 most, .int .i64 least, .int .i64 wait, .int .i64 time, .int .i64 parts, .bool sure, .bool compact, .slice ra recs.length rc], .int .i64 n, .nilIface]) (by simp [results, Tryd.results23, asAddr, hld, Result.andThen]) rfl ?_
        rw [HM.out]
        refine ⟨.slice ra recs.length rc, by rw [HXX.out]; rfl, ?_, HF.out.2.1⟩
        · rw [HXX.out]
          exact (HREC.out.still (HBX.out w3 HT3.out).2.2.2).kept HF.out.2.2 (fun k hk _ hm => HRL.out k hk (by simpa using hm))
      · have hbq : (m == b.take n) = false := by simpa using heq
        have HM : Hid (askedM b = (zQ, 0, 3)) := by show _ = _; rw [HIFF.out, ← HXX.out, if_neg (fun h => heq (HOK.out.1 h).1)]
        rw [hbq]
        clear heq hbq
        have HF := hide (fin_row [.int .i64 0, .int .i64 0, .string ⟨#[]⟩, .int .i64 0, .int .i64 0, .int .i64 0, .int .i64 0, .int .i64 0, .int .i64 0, .int .i64 0, .bool false, .bool false, .slice none 0 0] (HBX.out w3 HT3.out).2.1 (HBX.out w3 HT3.out).2.2.1 (Nat.le_refl _))
        go_wp2_with (refine wpList_store_row rfl _ _ _ rfl w.heap.size #[.int .i64 0, .int .i64 0, .string ⟨#[]⟩, .int .i64 0, .int .i64 0, .int .i64 0, .int .i64 0, .int .i64 0, .int .i64 0, .int .i64 0, .bool false, .bool false, .slice none 0 0] rfl rfl _ _ (HBX.out w3 HT3.out).2.1 (by kernel_rfl) rfl (by kernel_rfl) ?_)
        have hld := load13 HF.out.1
        refine bodyPost_ret (v := .tuple #[.agg #[.int .i64 0, .int .i64 0, .string ⟨#[]⟩, .int .i64 0, .int .i64 0, .int .i64 0, .int .i64 0, .int .i64 0, .int .i64 0, .int .i64 0, .bool false, .bool false, .slice none 0 0], .int .i64 0, .iface 34 (.int .i64 3)]) (by simp [results, Tryd.results23, asAddr, hld, Result.andThen]) rfl ?_
        rw [HM.out]
        refine ⟨.slice none 0 0, rfl, RecRow.nil _ 0, HF.out.2.1⟩
    · simp only [As.errN, h2, if_false]
      have HM : Hid (askedM b = (zQ, 0, 3)) := by show _ = _; rw [HIFF.out, ← HXX.out, if_neg (fun h => h2 (HOK.out.1 h).2)]
      have HF := hide (fin_row [.int .i64 0, .int .i64 0, .string ⟨#[]⟩, .int .i64 0, .int .i64 0, .int .i64 0, .int .i64 0, .int .i64 0, .int .i64 0, .int .i64 0, .bool false, .bool false, .slice none 0 0] (HBX.out w3 HT3.out).2.1 (HBX.out w3 HT3.out).2.2.1 (Nat.le_refl _))
      go_wp2_with (refine wpList_store_row rfl _ _ _ rfl w.heap.size #[.int .i64 0, .int .i64 0, .string ⟨#[]⟩, .int .i64 0, .int .i64 0, .int .i64 0, .int .i64 0, .int .i64 0, .int .i64 0, .int .i64 0, .bool false, .bool false, .slice none 0 0] rfl rfl _ _ (HBX.out w3 HT3.out).2.1 (by kernel_rfl) rfl (by kernel_rfl) ?_)
      have hld := load13 HF.out.1
      refine bodyPost_ret (v := .tuple #[.agg #[.int .i64 0, .int .i64 0, .string ⟨#[]⟩, .int .i64 0, .int .i64 0, .int .i64 0, .int .i64 0, .int .i64 0, .int .i64 0, .int .i64 0, .bool false, .bool false, .slice none 0 0], .int .i64 0, .iface 34 (.int .i64 3)]) (by simp [results, Tryd.results23, asAddr, hld, Result.andThen]) rfl ?_
      rw [HM.out]
      refine ⟨.slice none 0 0, rfl, RecRow.nil _ 0, HF.out.2.1⟩
  · have HM : Hid (askedM b = (zQ, 0, er)) := by show _ = _; unfold askedM; rw [HW.out]; simp [h0]
    simp only [As.errN, h0, if_false]
    have HF := hide (fin_row [.int .i64 0, .int .i64 0, .string ⟨#[]⟩, .int .i64 0, .int .i64 0, .int .i64 0, .int .i64 0, .int .i64 0, .int .i64 0, .int .i64 0, .bool false, .bool false, .slice none 0 0] HY1.out HT1.out (Nat.le_refl _))
    go_wp2_with (refine wpList_store_row rfl _ _ _ rfl w.heap.size #[.int .i64 0, .int .i64 0, .string ⟨#[]⟩, .int .i64 0, .int .i64 0, .int .i64 0, .int .i64 0, .int .i64 0, .int .i64 0, .int .i64 0, .bool false, .bool false, .slice none 0 0] rfl rfl _ _ HY1.out (by kernel_rfl) rfl (by kernel_rfl) ?_)
    have hld := load13 HF.out.1
    refine bodyPost_ret (v := .tuple #[.agg #[.int .i64 0, .int .i64 0, .string ⟨#[]⟩, .int .i64 0, .int .i64 0, .int .i64 0, .int .i64 0, .int .i64 0, .int .i64 0, .int .i64 0, .bool false, .bool false, .slice none 0 0], .int .i64 0, .iface 34 (.int .i64 er)]) (by simp [results, Tryd.results23, asAddr, hld, Result.andThen]) rfl ?_
    rw [HM.out]
    refine ⟨.slice none 0 0, by simp [As.errN, h0]; rfl, RecRow.nil _ 0, HF.out.2.1⟩

set_option maxHeartbeats 16000000 in
theorem told_any (w : World) (v : Value) (b : List UInt8) (hx : BytesAt w v b) (hl : b.length ≤ 900000) :
    Calls Tryd.prog 26 #[v] w fun e w' => ∃ rv tv, e = .returned (.tuple #[.agg (ansC (toldM b).1 rv tv), .int .i64 (toldM b).2.1, As.errN (toldM b).2.2]) ∧ RecsAt w' rv (toldM b).1.recs ∧ TopsAt w' tv (toldM b).1.topics ∧ Turn [] w w' := by
  have HX := hide hx
  obtain ⟨a, c, rfl, hlc, hcm, hc⟩ := hx.form
  have hmx : maxLen = 9223372036854775807 := by simp [maxLen]
  rw [hmx] at hcm
  obtain ⟨wy, hwy⟩ : ∃ wy, wy = w.alloc (.cells zAv.toArray 57) := ⟨_, rfl⟩
  have hty : Turn [] w wy := by rw [hwy]; exact (Turn.refl [] w).alloc _
  have hyy : wy.heap[w.heap.size]? = some (.cells zAv.toArray 57 (0, 0)) := by rw [hwy]; exact heap_new w _
  have HWY := hide hwy
  have HTY := hide hty
  have HYY := hide hyy
  obtain ⟨n, er, hw⟩ : ∃ n er, whole b = (n, er) := ⟨_, _, rfl⟩
  have HW := hide hw
  clear hx hc hwy hty hyy hw
  go_enter Tryd.func26, Tryd.ntmps26
  go_wp2_with fail
  rw [show w.alloc (.cells #[.int .i64 0, .int .i64 0, .int .i64 0, .int .i64 0, .int .i64 0, .int .i64 0, .bool false, .slice none 0 0, .slice none 0 0] 57) = wy from HWY.out.symm]
  refine (wwhole_any _ _ b (HX.out.still HTY.out) (by omega)).mono ?_
  rintro e w1 ⟨rfl, ht1⟩
  rw [HW.out]
  simp only
  have HT1 := hide (HTY.out.same ht1)
  have HY1 := hide (ht1.heap HYY.out (by simp))
  clear ht1
  by_cases h0 : er = 0
  · subst h0
    obtain ⟨n1, n2, n3⟩ := whole_ok HW.out
    simp only [As.errN, if_true]
    have hsl : ∀ w, (Instr.slice 49 (.slice a b.length c) (some (.int .i64 4)) (some (.int .i64 (n : Int))) none).run Tryd.prog w = .ok (.slice (advA a 4 c) (n - 4) (c - 4)) w := fun w => by simpa using @run_from_to a b.length c 4 n (by omega) (by omega) w
    have hst : ∀ w, (Instr.slice 49 (.slice a b.length c) none (some (.int .i64 (n : Int))) none).run Tryd.prog w = .ok (.slice a n c) w := fun w => @run_to a b.length c n (by omega) w
    have htk : BytesAt w (.slice a n c) (b.take n) := HX.out.take (by omega)
    have HTK := hide htk
    have hbo : bodyOf b = (b.take n).drop 4 := by unfold bodyOf; rw [HW.out]
    obtain ⟨l, hl0⟩ : ∃ l, l = bodyOf b := ⟨_, rfl⟩
    have hll : l.length = n - 4 := by rw [hl0, hbo]; simp; omega
    have hbm : BytesAt w (.slice (advA a 4 c) (n - 4) (c - 4)) l := by
      have h1 : (b.take n).length = n := by simp; omega
      have h2 := BytesAt.drop (n := 4) (by rw [h1]; exact htk) (by omega : 4 ≤ (b.take n).length)
      rw [h1, ← hbo, ← hl0] at h2
      exact h2
    have hown : ∀ k ∈ (Value.slice (advA a 4 c) (n - 4) (c - 4)).ownBlock, k < w.heap.size := fun k hk =>
      HX.out.lt (fun e => by rw [e] at n2; simp at n2; omega) k (advA_own (l' := b.length) k hk)
    have hiff : toldM b = if okA b (ansP l) then (ansP l, n, 0) else (zA, 0, 3) := by rw [hl0]; exact okA_iff HW.out zA
    have HIFF := hide hiff
    have HBM := hide hbm
    have HOWN := hide hown
    clear htk hbo hl0 hbm hown hiff
    go_wp2_with fail
    have hrd : RdW (w1.alloc (.cells #[.slice (advA a 4 c) (n - 4) (c - 4)] 114)) w1.heap.size w.heap.size l :=
      ⟨_, heap_new w1 _, HBM.out.still (HT1.out.alloc _), fun _ => HOWN.out⟩
    refine (rans_any _ w1.heap.size w.heap.size l hrd HT1.out.size (by omega)).mono ?_
    rintro e w2 ⟨rv, tv, rfl, hrec, htop, ht2, hown2, hown3⟩
    have hsm := ansP_sm (l := l) (by omega)
    obtain ⟨x, hxx⟩ : ∃ x, x = ansP l := ⟨_, rfl⟩
    rw [← hxx] at hrec hsm ⊢
    rw [← hxx] at htop
    have hiff := HIFF.out
    rw [← hxx] at hiff
    have HIFF := hide hiff
    have hpm : tellP x = tellM x := tellP_small (ansCl_small (fun r hr => (hsm.1 r hr).sm) (fun t ht => by have := (hsm.2 t ht).name; omega))
    clear hiff hsm hrd hxx
    have ht02 : Turn [] w w2 := (HT1.out.alloc _).trans ht2 (fun k hk => .inr (by have := HT1.out.size; simp at hk; omega))
    have hy2 := ht2.heap (((Turn.refl [] w1).alloc (.cells #[.slice (advA a 4 c) (n - 4) (c - 4)] 114)).heap HY1.out (by simp)) (by have := lt_of_heap HY1.out; simp; omega)
    have hlt1 := lt_of_heap HY1.out
    have hrl : ∀ k ∈ rv.ownBlock, k ≠ w.heap.size := fun k hk => by have := hown2 k hk; simp at this; omega
    have hrt : ∀ k ∈ tv.ownBlock, k ≠ w.heap.size := fun k hk => by have := hown3 k hk; simp at this; omega
    have HPM := hide hpm
    have HREC := hide hrec
    have HTOP := hide htop
    have HRL := hide hrl
    have HRT := hide hrt
    have HT2 := hide ht02
    have HY2 := hide hy2
    obtain ⟨kind, corr, err, offset, start, fin, found, recs, topics⟩ := x
    obtain ⟨XX, hXX⟩ : ∃ XX : Ans, XX = ⟨kind, corr, err, offset, start, fin, found, recs, topics⟩ := ⟨_, rfl⟩
    have HXX := hide hXX
    obtain ⟨ra, rc, rfl, -, -, -, -⟩ := HREC.out.form
    obtain ⟨ta, tc, rfl, -, -, -, -⟩ := HTOP.out.form
    simp only [ansC]
    obtain ⟨wx, hwx⟩ : ∃ wx, wx = (w2.alloc (.cells #[.int .i64 0, .int .i64 0, .int .i64 0, .int .i64 0, .int .i64 0, .int .i64 0, .bool false, .slice none 0 0, .slice none 0 0] 57)).setRow w2.heap.size #[.int .i64 kind, .int .i64 corr, .int .i64 err, .int .i64 offset, .int .i64 start, .int .i64 fin, .bool found, .slice ra recs.length rc, .slice ta topics.length tc] := ⟨_, rfl⟩
    have hbz : (w2.alloc (.cells #[.int .i64 0, .int .i64 0, .int .i64 0, .int .i64 0, .int .i64 0, .int .i64 0, .bool false, .slice none 0 0, .slice none 0 0] 57)).heap[w2.heap.size]? = some (.cells #[.int .i64 0, .int .i64 0, .int .i64 0, .int .i64 0, .int .i64 0, .int .i64 0, .bool false, .slice none 0 0, .slice none 0 0] 57 (0, 0)) := heap_new w2 _
    have hfz := fin_row [.int .i64 kind, .int .i64 corr, .int .i64 err, .int .i64 offset, .int .i64 start, .int .i64 fin, .bool found, .slice ra recs.length rc, .slice ta topics.length tc] hbz ((Turn.refl [] w2).alloc _) (Nat.le_refl _)
    have hlx : (loadVar 57 ⟨w2.heap.size, 0, none⟩).run Tryd.prog ((w2.alloc (.cells #[.int .i64 0, .int .i64 0, .int .i64 0, .int .i64 0, .int .i64 0, .int .i64 0, .bool false, .slice none 0 0, .slice none 0 0] 57)).setRow w2.heap.size #[.int .i64 kind, .int .i64 corr, .int .i64 err, .int .i64 offset, .int .i64 start, .int .i64 fin, .bool found, .slice ra recs.length rc, .slice ta topics.length tc]) = .ok (.agg #[.int .i64 kind, .int .i64 corr, .int .i64 err, .int .i64 offset, .int .i64 start, .int .i64 fin, .bool found, .slice ra recs.length rc, .slice ta topics.length tc]) ((w2.alloc (.cells #[.int .i64 0, .int .i64 0, .int .i64 0, .int .i64 0, .int .i64 0, .int .i64 0, .bool false, .slice none 0 0, .slice none 0 0] 57)).setRow w2.heap.size #[.int .i64 kind, .int .i64 corr, .int .i64 err, .int .i64 offset, .int .i64 start, .int .i64 fin, .bool found, .slice ra recs.length rc, .slice ta topics.length tc]) := load9 hfz.1
    have HBZ := hide hbz
    have HLX := hide hlx
    have hbx : ∀ Q, Turn [] wx Q → Q.heap[w2.heap.size]? = some (.cells #[.int .i64 kind, .int .i64 corr, .int .i64 err, .int .i64 offset, .int .i64 start, .int .i64 fin, .bool found, .slice ra recs.length rc, .slice ta topics.length tc] 57 (0, 0)) ∧ Q.heap[w.heap.size]? = some (.cells zAv.toArray 57 (0, 0)) ∧ Turn [] w Q ∧ Turn [] w2 Q := by
      intro Q hQ
      have h2 : Turn [] w2 Q := by have := hfz.2.1; rw [hwx] at hQ; exact this.same hQ
      exact ⟨hQ.heap (by rw [hwx]; exact hfz.1) (by simp), h2.heap HY2.out (by simp), HT2.out.same h2, h2⟩
    have HBX := hide hbx
    have HWX := hide hwx
    clear hpm hrec htop hown3 hrt hrl ht02 hy2 hown2 ht2 hXX hwx hbx hlt1 hbz hlx hfz
    go_wp2_with (first | refine wpList_store_row rfl _ _ _ rfl w2.heap.size #[.int .i64 kind, .int .i64 corr, .int .i64 err, .int .i64 offset, .int .i64 start, .int .i64 fin, .bool found, .slice ra recs.length rc, .slice ta topics.length tc] rfl rfl _ _ HBZ.out (by kernel_rfl) rfl (by kernel_rfl) ?_ | refine wpList_loadT rfl _ _ rfl ⟨w2.heap.size, 0, none⟩ rfl _ HLX.out ?_)
    rw [show (w2.alloc (.cells #[.int .i64 0, .int .i64 0, .int .i64 0, .int .i64 0, .int .i64 0, .int .i64 0, .bool false, .slice none 0 0, .slice none 0 0] 57)).setRow w2.heap.size #[.int .i64 kind, .int .i64 corr, .int .i64 err, .int .i64 offset, .int .i64 start, .int .i64 fin, .bool found, .slice ra recs.length rc, .slice ta topics.length tc] = wx from HWX.out.symm]
    refine (tell_any wx ⟨kind, corr, err, offset, start, fin, found, recs, topics⟩ (.slice ra recs.length rc) (.slice ta topics.length tc) (HREC.out.still (HBX.out wx (Turn.refl _ _)).2.2.2) (HTOP.out.still (HBX.out wx (Turn.refl _ _)).2.2.2)).mono ?_
    rintro e w3 ⟨v3, rfl, hr3, ht3⟩
    rw [HPM.out, ← HXX.out] at hr3 ⊢
    obtain ⟨m, e2, hm⟩ : ∃ m e2, tellM XX = (m, e2) := ⟨_, _, rfl⟩
    rw [hm] at hr3 ⊢
    simp only at hr3 ⊢
    have hok : okA b XX ↔ m = b.take n ∧ e2 = 0 := by unfold okA; rw [hm, HW.out]; simp
    have hb3 := hr3.bytes
    have HOK := hide hok
    have HB3 := hide hb3
    have HT3 := hide ht3
    have HTK3 := hide (HTK.out.still (HBX.out _ ht3).2.2.1)
    clear hok hb3 ht3 hr3 hm
    by_cases h2 : e2 = 0
    · subst h2
      simp only [As.errN, if_true]
      go_wp2_with fail
      refine (equal_any _ _ _ m (b.take n) HB3.out HTK3.out).mono ?_
      rintro e w5 ⟨rfl, rfl⟩
      by_cases heq : m = b.take n
      · have hbq : (m == b.take n) = true := by simpa using heq
        have HM : Hid (toldM b = (XX, n, 0)) := by show _ = _; rw [HIFF.out, ← HXX.out, if_pos (HOK.out.2 ⟨heq, by trivial⟩)]
        rw [hbq]
        clear heq hbq
        go_upto_region 9 with fail
        refine wp_region_lit ?_
        refine wpList_loadT rfl _ _ rfl ⟨w2.heap.size, 0, none⟩ rfl _ (load9 (HBX.out w3 HT3.out).1) ?_
        have HF := hide (fin_row [.int .i64 kind, .int .i64 corr, .int .i64 err, .int .i64 offset, .int .i64 start, .int .i64 fin, .bool found, .slice ra recs.length rc, .slice ta topics.length tc] (HBX.out w3 HT3.out).2.1 (HBX.out w3 HT3.out).2.2.1 (Nat.le_refl _))
        go_simp
        go_wp2_with (refine wpList_store_row rfl _ _ _ rfl w.heap.size #[.int .i64 kind, .int .i64 corr, .int .i64 err, .int .i64 offset, .int .i64 start, .int .i64 fin, .bool found, .slice ra recs.length rc, .slice ta topics.length tc] rfl rfl _ _ (HBX.out w3 HT3.out).2.1 (by kernel_rfl) rfl (by kernel_rfl) ?_)
        have hld := load9 HF.out.1
        refine bodyPost_ret (v := .tuple #[.agg #[.int .i64 kind, .int .i64 corr, .int .i64 err, .int .i64 offset, .int .i64 start, .int .i64 fin, .bool found, .slice ra recs.length rc, .slice ta topics.length tc], .int .i64 n, .nilIface]) (by simp [results, Tryd.results26, asAddr, hld, Result.andThen]) rfl ?_
        rw [HM.out]
        refine ⟨.slice ra recs.length rc, .slice ta topics.length tc, by rw [HXX.out]; rfl, ?_, ?_, HF.out.2.1⟩
        · rw [HXX.out]
          exact (HREC.out.still (HBX.out w3 HT3.out).2.2.2).kept HF.out.2.2 (fun k hk _ hm => HRL.out k hk (by simpa using hm))
        · rw [HXX.out]
          exact (HTOP.out.still (HBX.out w3 HT3.out).2.2.2).kept HF.out.2.2 (fun k hk _ hm => HRT.out k hk (by simpa using hm))
      · have hbq : (m == b.take n) = false := by simpa using heq
        have HM : Hid (toldM b = (zA, 0, 3)) := by show _ = _; rw [HIFF.out, ← HXX.out, if_neg (fun h => heq (HOK.out.1 h).1)]
        rw [hbq]
        clear heq hbq
        have HF := hide (fin_row [.int .i64 0, .int .i64 0, .int .i64 0, .int .i64 0, .int .i64 0, .int .i64 0, .bool false, .slice none 0 0, .slice none 0 0] (HBX.out w3 HT3.out).2.1 (HBX.out w3 HT3.out).2.2.1 (Nat.le_refl _))
        go_wp2_with (refine wpList_store_row rfl _ _ _ rfl w.heap.size #[.int .i64 0, .int .i64 0, .int .i64 0, .int .i64 0, .int .i64 0, .int .i64 0, .bool false, .slice none 0 0, .slice none 0 0] rfl rfl _ _ (HBX.out w3 HT3.out).2.1 (by kernel_rfl) rfl (by kernel_rfl) ?_)
        have hld := load9 HF.out.1
        refine bodyPost_ret (v := .tuple #[.agg #[.int .i64 0, .int .i64 0, .int .i64 0, .int .i64 0, .int .i64 0, .int .i64 0, .bool false, .slice none 0 0, .slice none 0 0], .int .i64 0, .iface 34 (.int .i64 3)]) (by simp [results, Tryd.results26, asAddr, hld, Result.andThen]) rfl ?_
        rw [HM.out]
        refine ⟨.slice none 0 0, .slice none 0 0, rfl, RecRow.nil _ 0, TopsAt.nil _, HF.out.2.1⟩
    · simp only [As.errN, h2, if_false]
      have HM : Hid (toldM b = (zA, 0, 3)) := by show _ = _; rw [HIFF.out, ← HXX.out, if_neg (fun h => h2 (HOK.out.1 h).2)]
      have HF := hide (fin_row [.int .i64 0, .int .i64 0, .int .i64 0, .int .i64 0, .int .i64 0, .int .i64 0, .bool false, .slice none 0 0, .slice none 0 0] (HBX.out w3 HT3.out).2.1 (HBX.out w3 HT3.out).2.2.1 (Nat.le_refl _))
      go_wp2_with (refine wpList_store_row rfl _ _ _ rfl w.heap.size #[.int .i64 0, .int .i64 0, .int .i64 0, .int .i64 0, .int .i64 0, .int .i64 0, .bool false, .slice none 0 0, .slice none 0 0] rfl rfl _ _ (HBX.out w3 HT3.out).2.1 (by kernel_rfl) rfl (by kernel_rfl) ?_)
      have hld := load9 HF.out.1
      refine bodyPost_ret (v := .tuple #[.agg #[.int .i64 0, .int .i64 0, .int .i64 0, .int .i64 0, .int .i64 0, .int .i64 0, .bool false, .slice none 0 0, .slice none 0 0], .int .i64 0, .iface 34 (.int .i64 3)]) (by simp [results, Tryd.results26, asAddr, hld, Result.andThen]) rfl ?_
      rw [HM.out]
      refine ⟨.slice none 0 0, .slice none 0 0, rfl, RecRow.nil _ 0, TopsAt.nil _, HF.out.2.1⟩
  · have HM : Hid (toldM b = (zA, 0, er)) := by show _ = _; unfold toldM; rw [HW.out]; simp [h0]
    simp only [As.errN, h0, if_false]
    have HF := hide (fin_row [.int .i64 0, .int .i64 0, .int .i64 0, .int .i64 0, .int .i64 0, .int .i64 0, .bool false, .slice none 0 0, .slice none 0 0] HY1.out HT1.out (Nat.le_refl _))
    go_wp2_with (refine wpList_store_row rfl _ _ _ rfl w.heap.size #[.int .i64 0, .int .i64 0, .int .i64 0, .int .i64 0, .int .i64 0, .int .i64 0, .bool false, .slice none 0 0, .slice none 0 0] rfl rfl _ _ HY1.out (by kernel_rfl) rfl (by kernel_rfl) ?_)
    have hld := load9 HF.out.1
    refine bodyPost_ret (v := .tuple #[.agg #[.int .i64 0, .int .i64 0, .int .i64 0, .int .i64 0, .int .i64 0, .int .i64 0, .bool false, .slice none 0 0, .slice none 0 0], .int .i64 0, .iface 34 (.int .i64 er)]) (by simp [results, Tryd.results26, asAddr, hld, Result.andThen]) rfl ?_
    rw [HM.out]
    refine ⟨.slice none 0 0, .slice none 0 0, by simp [As.errN, h0]; rfl, RecRow.nil _ 0, TopsAt.nil _, HF.out.2.1⟩
end Go.Proofs.YtodadoaindfecaaDoor.Wi

/- Append of bytes onto a row of one's own. -/
namespace Go.Proofs.YtodadoaindfecaaDoor
open Go.RowKit Go.Maps
theorem app_bytes (w : World) (base : Nat) (v x : Value) (bs cs : List UInt8) (hrow : RowAt w 5 base v bs) (hx : SliceAt w x (cs.map encB)) (hlen : bs.length + cs.length ≤ 1099511627776) (hbase : base ≤ w.heap.size) :
    ∃ v' w', (Builtin.append_ #[49, 49] 49 #[v, x]).run Tryd.prog w = .ok v' w' ∧ RowAt w' 5 base v' (bs ++ cs) ∧ Turn v.ownBlock.toList w w' ∧ (∀ k ∈ v'.ownBlock, k ∈ v.ownBlock ∨ w.heap.size ≤ k) := by
  obtain ⟨i, hi, hz, hs, hb⟩ := infoB_parts
  exact run_append_row (P := Tryd.prog) w 49 49 5 base i Tryd.underlying49 hi hz hs hb v x bs cs hrow hx hlen hbase
theorem one_byte (w : World) (b : UInt8) : SliceAt (w.alloc (.cells #[.int .u8 b.toNat] 5)) (.slice (some ⟨w.heap.size, 0, none⟩) 1 1) ([b].map encB) := by
  refine .inr ⟨⟨w.heap.size, 0, none⟩, 1, rfl, fun j u hu => ?_⟩
  rw [addr_add, cell_of (heap_new w _)]
  cases j with
  | zero => simpa [encB] using hu
  | succ j => simp at hu
end Go.Proofs.YtodadoaindfecaaDoor

/- conveyorkeep.framed; a fresh struct that is laid whole. -/
namespace Go.Proofs.YtodadoaindfecaaDoor.Wi
open Go.RowKit Go.Maps
set_option maxRecDepth 100000
set_option linter.unusedSimpArgs false
set_option linter.unusedVariables false

def x0 : Req := ⟨3, 3, [97], 1, 0, 0, 0, 0, 300, 0, false, false, []⟩
theorem x0_ask : (askM x0).2 = 0 := by kernel_rfl
theorem x0_can : canQ x0 = x0 := by rfl
theorem x0_len : (askM x0).1.length = 11 := by kernel_rfl
theorem x0_small : askP x0 = askM x0 := askP_small (reqCl_small (by decide) (fun r hr => absurd hr (by simp [x0])))
theorem fresh_row {T : TypeId} (w : World) (zs cs : List Value) : (w.alloc (.cells zs.toArray T)).heap[w.heap.size]? = some (.cells zs.toArray T (0, 0)) ∧
    ∀ Z, Turn [] ((w.alloc (.cells zs.toArray T)).setRow w.heap.size cs.toArray) Z → Z.heap[w.heap.size]? = some (.cells cs.toArray T (0, 0)) ∧ Turn [] w Z := by
  have h := heap_new w (.cells zs.toArray T)
  have hf := fin_row cs h ((Turn.refl [] w).alloc _) (Nat.le_refl _)
  exact ⟨h, fun Z hZ => ⟨hZ.heap hf.1 (by simp), hf.2.1.same hZ⟩⟩
theorem askM_len {x : Req} (h : (askM x).2 = 0) : 5 ≤ (askM x).1.length ∧ (askM x).1.length ≤ 10004 := by
  have hk : ¬ (x.kind < 1 ∨ 7 < x.kind) := fun hk => by unfold askM at h; rw [if_pos hk] at h; simp at h
  have he : askM x = encF (reqCl x) := by unfold askM; rw [if_neg hk]
  rw [he] at h ⊢
  obtain ⟨w1, -⟩ := whole_enc h (reqCl_ne (encF_ok h).1) []
  have := whole_ok w1
  omega
theorem tellM_len {x : Ans} (h : (tellM x).2 = 0) : 5 ≤ (tellM x).1.length ∧ (tellM x).1.length ≤ 10004 := by
  have hk : ¬ (x.kind < 1 ∨ 7 < x.kind ∨ x.err < 0 ∨ 15 < x.err) := fun hk => by unfold tellM at h; rw [if_pos hk] at h; simp at h
  have he : tellM x = encF (ansCl x) := by unfold tellM; rw [if_neg hk]
  rw [he] at h ⊢
  obtain ⟨w1, -⟩ := whole_enc h (ansCl_ne (encF_ok h).1) []
  have := whole_ok w1
  omega
theorem askP_can {x : Req} (h : (askM x).2 = 0) : askP (canQ x) = askM x := by
  have hk : ¬ (x.kind < 1 ∨ 7 < x.kind) := fun hk => by unfold askM at h; rw [if_pos hk] at h; simp at h
  have he : askM x = encF (reqCl x) := by unfold askM; rw [if_neg hk]
  rw [← askM_can x]
  refine askP_small ?_
  rw [reqCl_can]
  rw [he] at h
  exact small_of (encF_ok h).1 (reqCl_sz x)
theorem tellP_can {x : Ans} (h : (tellM x).2 = 0) : tellP (canA x) = tellM x := by
  have hk : ¬ (x.kind < 1 ∨ 7 < x.kind ∨ x.err < 0 ∨ 15 < x.err) := fun hk => by unfold tellM at h; rw [if_pos hk] at h; simp at h
  have he : tellM x = encF (ansCl x) := by unfold tellM; rw [if_neg hk]
  rw [← tellM_can x]
  refine tellP_small ?_
  rw [ansCl_can]
  rw [he] at h
  exact small_of (encF_ok h).1 (ansCl_sz x)

set_option maxHeartbeats 4000000 in
theorem framed_any (w : World) : Calls Tryd.prog 28 #[] w fun e w' => e = .returned (.bool true) ∧ Turn [] w w' := by
  obtain ⟨X, hX⟩ : ∃ X, X = x0 := ⟨_, rfl⟩
  have HX := hide hX
  have HL := hide x0_len
  go_enter Tryd.func28, Tryd.ntmps28
  go_wp2_with fail
  refine (ask_any w x0 (.slice none 0 0) (RecRow.nil _ 0) (by decide)).mono ?_
  rintro e w1 ⟨v1, rfl, hr1, ht1⟩
  rw [x0_small] at hr1 ⊢
  rw [x0_ask]
  simp only [As.errN, if_true]
  obtain ⟨a1, c1, rfl, hl1, -, -⟩ := hr1.bytes.form
  have hd := asked_ask x0_ask []
  rw [List.append_nil, x0_can] at hd
  have hasked := asked_any w1 _ (askM x0).1 hr1.bytes (by rw [x0_len]; decide)
  rw [hd] at hasked
  rw [x0_len] at hasked ⊢
  have HA := hide hasked
  have HT1 := hide ht1
  clear hd hasked hr1 ht1
  go_wp2_with fail
  refine HA.out.mono ?_
  rintro e w2 ⟨rv, rfl, hrec, ht2⟩
  obtain ⟨ra, rc, rfl, -⟩ := hrec.form
  simp only [As.errN, if_true, reqC, x0, strV]
  have HT2 := hide (HT1.out.same ht2)
  have hfr := fresh_row (T := 48) w2 [.int .i64 0, .int .i64 0, .string ⟨#[]⟩, .int .i64 0, .int .i64 0, .int .i64 0, .int .i64 0, .int .i64 0, .int .i64 0, .int .i64 0, .bool false, .bool false, .slice none 0 0] [.int .i64 3, .int .i64 3, .string ⟨[97].toArray⟩, .int .i64 1, .int .i64 0, .int .i64 0, .int .i64 0, .int .i64 0, .int .i64 300, .int .i64 0, .bool false, .bool false, .slice ra 0 rc]
  have HFR := hide hfr
  clear hfr hrec ht2
  obtain ⟨wx, hwx⟩ : ∃ wx, wx = (w2.alloc (.cells #[.int .i64 0, .int .i64 0, .string ⟨#[]⟩, .int .i64 0, .int .i64 0, .int .i64 0, .int .i64 0, .int .i64 0, .int .i64 0, .int .i64 0, .bool false, .bool false, .slice none 0 0] 48)).setRow w2.heap.size #[.int .i64 3, .int .i64 3, .string ⟨[97].toArray⟩, .int .i64 1, .int .i64 0, .int .i64 0, .int .i64 0, .int .i64 0, .int .i64 300, .int .i64 0, .bool false, .bool false, .slice ra 0 rc] := ⟨_, rfl⟩
  have HWX := hide hwx
  obtain ⟨hb, htx⟩ := HFR.out.2 wx (by rw [hwx]; exact Turn.refl _ _)
  have z0 := lt_of_heap hb
  have c0 : wx.cell? ⟨w2.heap.size, 0, none⟩ = some (.int .i64 3) := by simpa using cell_of hb 0
  have c1' : wx.cell? ⟨w2.heap.size, 1, none⟩ = some (.int .i64 3) := by simpa using cell_of hb 1
  have c2 : wx.cell? ⟨w2.heap.size, 2, none⟩ = some (.string ⟨#[97]⟩) := by simpa using cell_of hb 2
  have c3 : wx.cell? ⟨w2.heap.size, 3, none⟩ = some (.int .i64 1) := by simpa using cell_of hb 3
  have c8 : wx.cell? ⟨w2.heap.size, 8, none⟩ = some (.int .i64 300) := by simpa using cell_of hb 8
  have HTX := hide (HT2.out.same htx)
  clear hb htx hwx
  go_upto_region 3 with (refine wpList_store_row rfl _ _ _ rfl w2.heap.size #[.int .i64 3, .int .i64 3, .string ⟨[97].toArray⟩, .int .i64 1, .int .i64 0, .int .i64 0, .int .i64 0, .int .i64 0, .int .i64 300, .int .i64 0, .bool false, .bool false, .slice ra 0 rc] rfl rfl _ _ HFR.out.1 (by kernel_rfl) rfl (by kernel_rfl) ?_)
  rw [show (w2.alloc (.cells #[.int .i64 0, .int .i64 0, .string ⟨#[]⟩, .int .i64 0, .int .i64 0, .int .i64 0, .int .i64 0, .int .i64 0, .int .i64 0, .int .i64 0, .bool false, .bool false, .slice none 0 0] 48)).setRow w2.heap.size #[.int .i64 3, .int .i64 3, .string ⟨[97].toArray⟩, .int .i64 1, .int .i64 0, .int .i64 0, .int .i64 0, .int .i64 0, .int .i64 300, .int .i64 0, .bool false, .bool false, .slice ra 0 rc] = wx from HWX.out.symm]
  go_wp2
  go_ret
  exact ⟨rfl, HTX.out⟩
end Go.Proofs.YtodadoaindfecaaDoor.Wi

/- conveyorkeep's batch and pick. -/
namespace Go.Proofs.YtodadoaindfecaaDoor
open Go.RowKit Go.Maps
set_option maxRecDepth 100000
set_option linter.unusedSimpArgs false
set_option linter.unusedVariables false

theorem pickN_any (x : Int) (n : Nat) (hn : 0 < n) (hn2 : n ≤ 1099511627776) (w : World) : Calls Tryd.prog 29 #[.int .i64 x, .int .i64 n] w fun e w' => (∃ p : Nat, p < n ∧ e = .returned (.int .i64 p)) ∧ w = w' := by
  have hw : IntKind.u64.wrap (n : Int) = (n : Int) := by simp [IntKind.wrap, IntKind.bits, IntKind.signed]; omega
  have h0 : 0 ≤ IntKind.u64.wrap x := by simp [IntKind.wrap, IntKind.bits, IntKind.signed]; omega
  have hz : ¬ ((n : Int) = 0) := by omega
  go_enter Tryd.func29, Tryd.ntmps29
  go_wp2
  go_ret
  obtain ⟨m, hm⟩ := Int.eq_ofNat_of_zero_le h0
  refine ⟨⟨m % n, Nat.mod_lt _ hn, ?_⟩, rfl⟩
  rw [hm]
  refine congrArg (fun z => Ending.returned (.int .i64 z)) ?_
  have hlt := Nat.mod_lt m hn
  have : (m : Int) % n = ((m % n : Nat) : Int) := by omega
  rw [this]
  unfold wrap64; omega

/-- The records that batch makes. -/
def renum (b : Int) (rs : List Bt.Rec) : List Bt.Rec := rs.zipIdx.map fun p => { p.1 with off := b + p.2 }
theorem renum_snoc (b : Int) (rs : List Bt.Rec) {k : Nat} (hk : k < rs.length) : renum b (rs.take (k + 1)) = renum b (rs.take k) ++ [{ rs[k] with off := b + k }] := by
  have : rs.take (k + 1) = rs.take k ++ [rs[k]] := by simp
  unfold renum
  rw [this, List.zipIdx_append, List.map_append]
  simp [Nat.min_eq_left (Nat.le_of_lt hk)]
theorem renum_len (b : Int) (rs : List Bt.Rec) : (renum b rs).length = rs.length := by simp [renum]
theorem renum_ok (b : Int) (rs : List Bt.Rec) (h : ∀ r ∈ rs, RecOk r) (hb : 0 ≤ b) (hb2 : b ≤ 1099511627776) (hl : rs.length ≤ 1000000) : ∀ r ∈ renum b rs, RecOk r := by
  intro r hr
  unfold renum at hr
  obtain ⟨⟨q, i⟩, hq, rfl⟩ := List.mem_map.1 hr
  obtain ⟨h1, h2⟩ := List.mem_zipIdx' hq
  obtain ⟨o1, o2, t1, t2, k1, v1⟩ := h q (List.mem_iff_getElem.2 ⟨i, h1, h2.symm⟩)
  exact ⟨by simp only; omega, by simp only; omega, t1, t2, k1, v1⟩
def batOf (b : Int) (rs : List Bt.Rec) : Bt.Bat := ⟨b, b + rs.length, renum b rs⟩

end Go.Proofs.YtodadoaindfecaaDoor

/- Requests and answers that came in (of a law's card), and how many letters they have. -/
namespace Go.Proofs.YtodadoaindfecaaDoor.Wi
open Go.RowKit Go.Maps
set_option maxRecDepth 100000
set_option linter.unusedSimpArgs false
set_option linter.unusedVariables false
variable {H : Type} {enc : TypeId × Value → H} {base : Nat} {spare : Nat → Bool} {held : Bool}

theorem bulk_part {d : DataW H} {l : List (DataW H)} (h : d ∈ l) : Rows.uptoBulk d ≤ Rows.uptoBulkAll l := by
  induction l with
  | nil => cases h
  | cons x r ih =>
    simp only [Rows.uptoBulkAll]
    cases List.mem_cons.1 h with
    | inl e => subst e; omega
    | inr e => have := ih e; omega
theorem bulk_one (d : DataW H) : 1 ≤ Rows.uptoBulk d := by
  cases d with
  | lit l => cases l <;> simp [Rows.uptoBulk]
  | nil => simp [Rows.uptoBulk]
  | ptr d => simp [Rows.uptoBulk]
  | slice elems spare => simp [Rows.uptoBulk]
  | agg parts => simp [Rows.uptoBulk]
  | iface t d => simp [Rows.uptoBulk]
  | map entries => simp [Rows.uptoBulk]
  | held h => simp [Rows.uptoBulk]
theorem bulk_length (l : List (DataW H)) : l.length ≤ Rows.uptoBulkAll l := by
  induction l with
  | nil => simp
  | cons x r ih => have := bulk_one x; simp only [Rows.uptoBulkAll, List.length_cons]; omega
theorem bulk_agg {d : DataW H} {l : List (DataW H)} (h : d ∈ l) : Rows.uptoBulk d ≤ Rows.uptoBulk (.agg l) := by
  have := bulk_part h
  simp only [Rows.uptoBulk]; omega
theorem bulk_str (s : List UInt8) : s.length ≤ Rows.uptoBulk (DataW.lit (H := H) (.string s)) := by
  simp [Rows.uptoBulk]
theorem bulk_elem {d : DataW H} {l r : List (DataW H)} (h : d ∈ l) : Rows.uptoBulk d ≤ Rows.uptoBulk (.slice l r) := by
  have := bulk_part h
  simp only [Rows.uptoBulk]; omega
theorem bulk_len (l r : List (DataW H)) : l.length ≤ Rows.uptoBulk (.slice l r) := by
  have := bulk_length l
  simp only [Rows.uptoBulk]; omega

/-- A record that came in, with the letters that it has. -/
theorem open_recD {w : World} {n : Nat} {cs : List Value} {x : DataW H × List MemPlace} (h : DataW.trod enc Tryd.prog w base spare held n 133 cs = some x) : ∃ r, cs = recC r ∧ RecOk r ∧ r.key.length ≤ Rows.uptoBulk x.1 ∧ r.value.length ≤ Rows.uptoBulk x.1 := by
  obtain ⟨xs, m, -, hx, hlen, hl, hf⟩ := DataW.trod_struct fields98 h
  rw [cells98] at hlen
  have hfs := fields98_at
  generalize (((Tryd.prog.underlying 133).bind fun d => match d with | .struct fs => some fs | _ => none).getD #[]) = fs at *
  have hxs : xs.length = 6 := by
    rw [hl]
    have := congrArg List.length hfs
    simpa using this
  obtain ⟨c0, c1, c2, c3, c4, c5, rfl⟩ := list6 hlen
  obtain ⟨y0, y1, y2, y3, y4, y5, rfl⟩ := list6 hxs
  have one : ∀ (i t o : Nat) (y : DataW H × List MemPlace), [(3, 0, 1), (3, 1, 1), (4, 2, 1), (9, 3, 1), (4, 4, 1), (9, 5, 1)][i]? = some (t, o, 1) → [y0, y1, y2, y3, y4, y5][i]? = some y →
      DataW.trod enc Tryd.prog w base spare held m t (([c0, c1, c2, c3, c4, c5].drop o).take 1) = some y := by
    intro i t o y hi hy
    obtain ⟨f, h1, h2, h3, h4⟩ := field_at hfs hi
    have := hf i f h1
    rw [h4, h2, h3, hy] at this
    exact this
  obtain ⟨n0, e0, -, w0⟩ := DataW.trod_int Tryd.underlying3 (one 0 _ _ y0 rfl rfl)
  obtain ⟨n1, e1, -, w1⟩ := DataW.trod_int Tryd.underlying3 (one 1 _ _ y1 rfl rfl)
  obtain ⟨b2, e2, -⟩ := DataW.trod_bool Tryd.underlying4 (one 2 _ _ y2 rfl rfl)
  obtain ⟨s3, e3, d3, w3⟩ := DataW.trod_string Tryd.underlying9 (one 3 _ _ y3 rfl rfl)
  obtain ⟨b4, e4, -⟩ := DataW.trod_bool Tryd.underlying4 (one 4 _ _ y4 rfl rfl)
  obtain ⟨s5, e5, d5, w5⟩ := DataW.trod_string Tryd.underlying9 (one 5 _ _ y5 rfl rfl)
  simp only [List.drop_succ_cons, List.drop_zero, List.take_succ_cons, List.take_zero, List.cons.injEq, and_true] at e0 e1 e2 e3 e4 e5
  subst e0; subst e1; subst e2; subst e3; subst e4; subst e5
  have hm : maxLen = 9223372036854775807 := by simp [maxLen]
  rw [hm] at w3 w5
  have hb3 : s3.data.toList.length ≤ Rows.uptoBulk x.1 := by
    rw [hx]
    refine Nat.le_trans (bulk_str (H := H) s3.data.toList) (bulk_agg ?_)
    simp [d3]
  have hb5 : s5.data.toList.length ≤ Rows.uptoBulk x.1 := by
    rw [hx]
    refine Nat.le_trans (bulk_str (H := H) s5.data.toList) (bulk_agg ?_)
    simp [d5]
  exact ⟨⟨n0, n1, b2, s3.data.toList, b4, s5.data.toList⟩, rfl, ⟨(wf_i64 w0).1, (wf_i64 w0).2, (wf_i64 w1).1, (wf_i64 w1).2, by simpa using w3, by simpa using w5⟩, hb3, hb5⟩
theorem open_recsD {w : World} {n : Nat} {v : Value} {x : DataW H × List MemPlace} (h : DataW.trod enc Tryd.prog w base spare held n 46 [v] = some x) : ∃ rs, RecsAt w v rs ∧ rs.length ≤ Rows.uptoBulk x.1 ∧ ∀ r ∈ rs, r.key.length ≤ Rows.uptoBulk x.1 ∧ r.value.length ≤ Rows.uptoBulk x.1 := by
  rcases Deep.open_slice Tryd.underlying46 h with ⟨hcs, -⟩ | ⟨a, len, cap, m, k, D, Pl, hcs, -, h1, h2, h3, hx, h4⟩
  · simp only [List.cons.injEq, and_true] at hcs
    subst hcs
    exact ⟨[], ⟨none, 0, rfl, Nat.le_refl _, Nat.zero_le _, fun _ => rfl, fun j hj => absurd hj (Nat.not_lt_zero _)⟩, Nat.zero_le _, by simp⟩
  · simp only [List.cons.injEq, and_true] at hcs
    subst hcs
    have hlm : len ≤ m := by rw [h3]; split <;> omega
    rw [cells98] at h4
    have hr : ∀ i, i < len → ∃ r, RecOk r ∧ (∀ j u, (recC r)[j]? = some u → w.cell? ((a.add (i * 6)).add j) = some u) ∧ r.key.length ≤ Rows.uptoBulk (D i) ∧ r.value.length ≤ Rows.uptoBulk (D i) := by
      intro i hi
      obtain ⟨cs', g1, g2⟩ := h4 i (by omega)
      obtain ⟨r, rfl, hok, b1, b2⟩ := open_recD g2
      obtain ⟨-, -, g3⟩ := World.cells?_some g1
      refine ⟨r, hok, fun j u hu => ?_, b1, b2⟩
      have hj : j < 6 := by have := (List.getElem?_eq_some_iff.1 hu).1; simpa [recC] using this
      rw [g3 j hj]; exact hu
    let rs : List Bt.Rec := (List.range len).attach.map fun i => (hr i.1 (List.mem_range.1 i.2)).choose
    have hl : rs.length = len := by simp [rs]
    have he : ∀ j (hj : j < rs.length), rs[j] = (hr j (by omega)).choose := fun j hj => by simp [rs]
    refine ⟨rs, ⟨some a, cap, by rw [hl], by rw [hl]; exact h1, h2, by simp, fun j hj => ?_⟩, ?_, fun r hrm => ?_⟩
    · have hj' : j < len := by omega
      rw [he j hj]
      exact ⟨(hr j hj').choose_spec.1, a, rfl, (hr j hj').choose_spec.2.1⟩
    · rw [hx, hl]
      have := bulk_len ((List.range len).map D) ((List.range (m - len)).map fun j => D (len + j))
      simpa using this
    · obtain ⟨j, hj, rfl⟩ := List.mem_iff_getElem.1 hrm
      have hj' : j < len := by omega
      have hs := (hr j hj').choose_spec.2.2
      rw [← he j hj] at hs
      have hd : Rows.uptoBulk (D j) ≤ Rows.uptoBulk x.1 := by
        rw [hx]
        exact bulk_elem (List.mem_map.2 ⟨j, List.mem_range.2 hj', rfl⟩)
      omega

theorem fieldsTp : Tryd.prog.underlying 102 = some (.struct (((Tryd.prog.underlying 102).bind fun d => match d with | .struct fs => some fs | _ => none).getD #[])) := by kernel_rfl
theorem fieldsTp_at : ((((Tryd.prog.underlying 102).bind fun d => match d with | .struct fs => some fs | _ => none).getD #[]).toList.map fun f => (f.type, f.offset, Tryd.prog.cellsOf f.type)) = [(9, 0, 1), (3, 1, 1), (4, 2, 1)] := by kernel_rfl
theorem cellsTp : Tryd.prog.cellsOf 102 = 3 := by kernel_rfl
theorem open_tpD {w : World} {n : Nat} {cs : List Value} {x : DataW H × List MemPlace} (h : DataW.trod enc Tryd.prog w base spare held n 102 cs = some x) : ∃ t, cs = tpC t ∧ TpOk t ∧ t.name.length ≤ Rows.uptoBulk x.1 := by
  obtain ⟨xs, m, -, hx, hlen, hl, hf⟩ := DataW.trod_struct fieldsTp h
  rw [cellsTp] at hlen
  have hfs := fieldsTp_at
  generalize (((Tryd.prog.underlying 102).bind fun d => match d with | .struct fs => some fs | _ => none).getD #[]) = fs at *
  have hxs : xs.length = 3 := by
    rw [hl]
    have := congrArg List.length hfs
    simpa using this
  obtain ⟨c0, c1, c2, rfl⟩ : ∃ c0 c1 c2, cs = [c0, c1, c2] := by
    match cs, hlen with
    | [c0, c1, c2], _ => exact ⟨c0, c1, c2, rfl⟩
  obtain ⟨y0, y1, y2, rfl⟩ : ∃ y0 y1 y2, xs = [y0, y1, y2] := by
    match xs, hxs with
    | [y0, y1, y2], _ => exact ⟨y0, y1, y2, rfl⟩
  have one : ∀ (i t o : Nat) (y : DataW H × List MemPlace), [(9, 0, 1), (3, 1, 1), (4, 2, 1)][i]? = some (t, o, 1) → [y0, y1, y2][i]? = some y →
      DataW.trod enc Tryd.prog w base spare held m t (([c0, c1, c2].drop o).take 1) = some y := by
    intro i t o y hi hy
    obtain ⟨f, h1, h2, h3, h4⟩ := field_at hfs hi
    have := hf i f h1
    rw [h4, h2, h3, hy] at this
    exact this
  obtain ⟨s0, e0, d0, w0⟩ := DataW.trod_string Tryd.underlying9 (one 0 _ _ y0 rfl rfl)
  obtain ⟨n1, e1, -, w1⟩ := DataW.trod_int Tryd.underlying3 (one 1 _ _ y1 rfl rfl)
  obtain ⟨b2, e2, -⟩ := DataW.trod_bool Tryd.underlying4 (one 2 _ _ y2 rfl rfl)
  simp only [List.drop_succ_cons, List.drop_zero, List.take_succ_cons, List.take_zero, List.cons.injEq, and_true] at e0 e1 e2
  subst e0; subst e1; subst e2
  have hm : maxLen = 9223372036854775807 := by simp [maxLen]
  rw [hm] at w0
  refine ⟨⟨s0.data.toList, n1, b2⟩, rfl, ⟨⟨(wf_i64 w1).1, (wf_i64 w1).2⟩, by simpa using w0⟩, ?_⟩
  rw [hx]
  refine Nat.le_trans (bulk_str (H := H) s0.data.toList) (bulk_agg ?_)
  simp [d0]
theorem open_topsD {w : World} {n : Nat} {v : Value} {x : DataW H × List MemPlace} (h : DataW.trod enc Tryd.prog w base spare held n 55 [v] = some x) : ∃ ts, TopsAt w v ts ∧ ts.length ≤ Rows.uptoBulk x.1 ∧ ∀ t ∈ ts, t.name.length ≤ Rows.uptoBulk x.1 := by
  rcases Deep.open_slice Tryd.underlying55 h with ⟨hcs, -⟩ | ⟨a, len, cap, m, k, D, Pl, hcs, -, h1, h2, h3, hx, h4⟩
  · simp only [List.cons.injEq, and_true] at hcs
    subst hcs
    exact ⟨[], ⟨none, 0, rfl, Nat.le_refl _, Nat.zero_le _, fun _ => rfl, fun j hj => absurd hj (Nat.not_lt_zero _)⟩, Nat.zero_le _, by simp⟩
  · simp only [List.cons.injEq, and_true] at hcs
    subst hcs
    have hlm : len ≤ m := by rw [h3]; split <;> omega
    rw [cellsTp] at h4
    have hr : ∀ i, i < len → ∃ t, TpOk t ∧ (∀ j u, (tpC t)[j]? = some u → w.cell? ((a.add (i * 3)).add j) = some u) ∧ t.name.length ≤ Rows.uptoBulk (D i) := by
      intro i hi
      obtain ⟨cs', g1, g2⟩ := h4 i (by omega)
      obtain ⟨r, rfl, hok, b1⟩ := open_tpD g2
      obtain ⟨-, -, g3⟩ := World.cells?_some g1
      refine ⟨r, hok, fun j u hu => ?_, b1⟩
      have hj : j < 3 := by have := (List.getElem?_eq_some_iff.1 hu).1; simpa [tpC] using this
      rw [g3 j hj]; exact hu
    let rs : List Tp := (List.range len).attach.map fun i => (hr i.1 (List.mem_range.1 i.2)).choose
    have hl : rs.length = len := by simp [rs]
    have he : ∀ j (hj : j < rs.length), rs[j] = (hr j (by omega)).choose := fun j hj => by simp [rs]
    refine ⟨rs, ⟨some a, cap, by rw [hl], by rw [hl]; exact h1, h2, by simp, fun j hj => ?_⟩, ?_, fun r hrm => ?_⟩
    · have hj' : j < len := by omega
      rw [he j hj]
      exact ⟨(hr j hj').choose_spec.1, a, rfl, (hr j hj').choose_spec.2.1⟩
    · rw [hx, hl]
      have := bulk_len ((List.range len).map D) ((List.range (m - len)).map fun j => D (len + j))
      simpa using this
    · obtain ⟨j, hj, rfl⟩ := List.mem_iff_getElem.1 hrm
      have hj' : j < len := by omega
      have hs := (hr j hj').choose_spec.2.2
      rw [← he j hj] at hs
      have hd : Rows.uptoBulk (D j) ≤ Rows.uptoBulk x.1 := by
        rw [hx]
        exact bulk_elem (List.mem_map.2 ⟨j, List.mem_range.2 hj', rfl⟩)
      omega

theorem fieldsRq : Tryd.prog.underlying 48 = some (.struct (((Tryd.prog.underlying 48).bind fun d => match d with | .struct fs => some fs | _ => none).getD #[])) := by kernel_rfl
theorem fieldsRq_at : ((((Tryd.prog.underlying 48).bind fun d => match d with | .struct fs => some fs | _ => none).getD #[]).toList.map fun f => (f.type, f.offset, Tryd.prog.cellsOf f.type)) = [(3, 0, 1), (3, 1, 1), (9, 2, 1), (3, 3, 1), (3, 4, 1), (3, 5, 1), (3, 6, 1), (3, 7, 1), (3, 8, 1), (3, 9, 1), (4, 10, 1), (4, 11, 1), (46, 12, 1)] := by kernel_rfl
theorem cellsRq : Tryd.prog.cellsOf 48 = 13 := by kernel_rfl
theorem partsRq : ∃ fs : Array Field, Tryd.prog.underlying 48 = some (.struct fs) ∧ (fs.toList.map fun f => (f.type, f.offset, Tryd.prog.cellsOf f.type)) = [(3, 0, 1), (3, 1, 1), (9, 2, 1), (3, 3, 1), (3, 4, 1), (3, 5, 1), (3, 6, 1), (3, 7, 1), (3, 8, 1), (3, 9, 1), (4, 10, 1), (4, 11, 1), (46, 12, 1)] := ⟨_, fieldsRq, fieldsRq_at⟩
/-- A request that came in. -/
theorem open_req {w : World} {r : Reach} {b0 : Nat} {v : Value} {d : DataW H} {ps : List MemPlace} (hv : Value.okWide Tryd.prog w r b0 48 v) (h : DataW.Trod enc Tryd.prog w base spare held 48 v d ps) :
    ∃ x rv, v = .agg (reqC x rv) ∧ RecsAt w rv x.recs ∧ ReqOk x ∧ x.topic.length ≤ Rows.uptoBulk d ∧ x.recs.length ≤ Rows.uptoBulk d ∧ ∀ r ∈ x.recs, r.key.length ≤ Rows.uptoBulk d ∧ r.value.length ≤ Rows.uptoBulk d := by
  obtain ⟨fs, hfd, hfs⟩ := partsRq
  obtain ⟨cs, hcs0, hsz⟩ := @WideShapes.okWide_struct Tryd.prog w r b0 48 v fs hfd hv
  subst hcs0
  obtain ⟨n, h⟩ := h
  obtain ⟨xs, m, -, hx, hlen, hl, hf⟩ := DataW.trod_struct hfd h
  rw [cellsRq] at hlen
  have hxs : xs.length = 13 := by
    rw [hl]
    have := congrArg List.length hfs
    simpa using this
  simp only [Value.cells] at hlen hf
  obtain ⟨c0, c1, c2, c3, c4, c5, c6, c7, c8, c9, c10, c11, c12, hcs⟩ : ∃ c0 c1 c2 c3 c4 c5 c6 c7 c8 c9 c10 c11 c12, cs.toList = [c0, c1, c2, c3, c4, c5, c6, c7, c8, c9, c10, c11, c12] := by
    match hc : cs.toList, hlen with
    | [c0, c1, c2, c3, c4, c5, c6, c7, c8, c9, c10, c11, c12], _ => exact ⟨c0, c1, c2, c3, c4, c5, c6, c7, c8, c9, c10, c11, c12, rfl⟩
  obtain ⟨y0, y1, y2, y3, y4, y5, y6, y7, y8, y9, y10, y11, y12, rfl⟩ : ∃ y0 y1 y2 y3 y4 y5 y6 y7 y8 y9 y10 y11 y12, xs = [y0, y1, y2, y3, y4, y5, y6, y7, y8, y9, y10, y11, y12] := by
    match xs, hxs with
    | [y0, y1, y2, y3, y4, y5, y6, y7, y8, y9, y10, y11, y12], _ => exact ⟨y0, y1, y2, y3, y4, y5, y6, y7, y8, y9, y10, y11, y12, rfl⟩
  rw [hcs] at hf
  have one : ∀ (i t o : Nat) (y : DataW H × List MemPlace), [(3, 0, 1), (3, 1, 1), (9, 2, 1), (3, 3, 1), (3, 4, 1), (3, 5, 1), (3, 6, 1), (3, 7, 1), (3, 8, 1), (3, 9, 1), (4, 10, 1), (4, 11, 1), (46, 12, 1)][i]? = some (t, o, 1) → [y0, y1, y2, y3, y4, y5, y6, y7, y8, y9, y10, y11, y12][i]? = some y →
      DataW.trod enc Tryd.prog w base spare held m t (([c0, c1, c2, c3, c4, c5, c6, c7, c8, c9, c10, c11, c12].drop o).take 1) = some y := by
    intro i t o y hi hy
    obtain ⟨f, h1, h2, h3, h4⟩ := field_at hfs hi
    have := hf i f h1
    rw [h4, h2, h3, hy] at this
    exact this
  obtain ⟨n0, e0, -, w0⟩ := DataW.trod_int Tryd.underlying3 (one 0 _ _ y0 rfl rfl)
  obtain ⟨n1, e1, -, w1⟩ := DataW.trod_int Tryd.underlying3 (one 1 _ _ y1 rfl rfl)
  obtain ⟨n2, e2, d2, w2⟩ := DataW.trod_string Tryd.underlying9 (one 2 _ _ y2 rfl rfl)
  obtain ⟨n3, e3, -, w3⟩ := DataW.trod_int Tryd.underlying3 (one 3 _ _ y3 rfl rfl)
  obtain ⟨n4, e4, -, w4⟩ := DataW.trod_int Tryd.underlying3 (one 4 _ _ y4 rfl rfl)
  obtain ⟨n5, e5, -, w5⟩ := DataW.trod_int Tryd.underlying3 (one 5 _ _ y5 rfl rfl)
  obtain ⟨n6, e6, -, w6⟩ := DataW.trod_int Tryd.underlying3 (one 6 _ _ y6 rfl rfl)
  obtain ⟨n7, e7, -, w7⟩ := DataW.trod_int Tryd.underlying3 (one 7 _ _ y7 rfl rfl)
  obtain ⟨n8, e8, -, w8⟩ := DataW.trod_int Tryd.underlying3 (one 8 _ _ y8 rfl rfl)
  obtain ⟨n9, e9, -, w9⟩ := DataW.trod_int Tryd.underlying3 (one 9 _ _ y9 rfl rfl)
  obtain ⟨n10, e10, -⟩ := DataW.trod_bool Tryd.underlying4 (one 10 _ _ y10 rfl rfl)
  obtain ⟨n11, e11, -⟩ := DataW.trod_bool Tryd.underlying4 (one 11 _ _ y11 rfl rfl)
  have h12 := one 12 _ _ y12 rfl rfl
  simp only [List.drop_succ_cons, List.drop_zero, List.take_succ_cons, List.take_zero, List.cons.injEq, and_true] at e0 e1 e2 e3 e4 e5 e6 e7 e8 e9 e10 e11 h12
  subst e0
  subst e1
  subst e2
  subst e3
  subst e4
  subst e5
  subst e6
  subst e7
  subst e8
  subst e9
  subst e10
  subst e11
  have hm : maxLen = 9223372036854775807 := by simp [maxLen]
  obtain ⟨l12, hl12, hn12, hb12⟩ := open_recsD h12
  have hd12 : Rows.uptoBulk y12.1 ≤ Rows.uptoBulk d := by
    have hx1 := congrArg Prod.fst hx
    simp only at hx1
    rw [hx1]
    exact bulk_agg (by simp)
  rw [hm] at w2
  have hd2 : n2.data.toList.length ≤ Rows.uptoBulk d := by
    have hx1 := congrArg Prod.fst hx
    simp only at hx1
    rw [hx1]
    refine Nat.le_trans (bulk_str (H := H) n2.data.toList) (bulk_agg ?_)
    simp [d2]
  refine ⟨⟨n0, n1, n2.data.toList, n3, n4, n5, n6, n7, n8, n9, n10, n11, l12⟩, c12, ?_, hl12, ⟨⟨(wf_i64 w0).1, (wf_i64 w0).2⟩, ⟨(wf_i64 w1).1, (wf_i64 w1).2⟩, ⟨(wf_i64 w3).1, (wf_i64 w3).2⟩, ⟨(wf_i64 w4).1, (wf_i64 w4).2⟩, ⟨(wf_i64 w5).1, (wf_i64 w5).2⟩, ⟨(wf_i64 w6).1, (wf_i64 w6).2⟩, ⟨(wf_i64 w7).1, (wf_i64 w7).2⟩, ⟨(wf_i64 w8).1, (wf_i64 w8).2⟩, ⟨(wf_i64 w9).1, (wf_i64 w9).2⟩, by simpa using w2⟩, hd2, Nat.le_trans hn12 hd12, fun r hr => ⟨Nat.le_trans (hb12 r hr).1 hd12, Nat.le_trans (hb12 r hr).2 hd12⟩⟩
  rw [show cs = cs.toList.toArray by simp, hcs]
  rfl

theorem fieldsAn : Tryd.prog.underlying 57 = some (.struct (((Tryd.prog.underlying 57).bind fun d => match d with | .struct fs => some fs | _ => none).getD #[])) := by kernel_rfl
theorem fieldsAn_at : ((((Tryd.prog.underlying 57).bind fun d => match d with | .struct fs => some fs | _ => none).getD #[]).toList.map fun f => (f.type, f.offset, Tryd.prog.cellsOf f.type)) = [(3, 0, 1), (3, 1, 1), (34, 2, 1), (3, 3, 1), (3, 4, 1), (3, 5, 1), (4, 6, 1), (46, 7, 1), (55, 8, 1)] := by kernel_rfl
theorem cellsAn : Tryd.prog.cellsOf 57 = 9 := by kernel_rfl
theorem partsAn : ∃ fs : Array Field, Tryd.prog.underlying 57 = some (.struct fs) ∧ (fs.toList.map fun f => (f.type, f.offset, Tryd.prog.cellsOf f.type)) = [(3, 0, 1), (3, 1, 1), (34, 2, 1), (3, 3, 1), (3, 4, 1), (3, 5, 1), (4, 6, 1), (46, 7, 1), (55, 8, 1)] := ⟨_, fieldsAn, fieldsAn_at⟩
/-- An answer that came in. -/
theorem open_ans {w : World} {r : Reach} {b0 : Nat} {v : Value} {d : DataW H} {ps : List MemPlace} (hv : Value.okWide Tryd.prog w r b0 57 v) (h : DataW.Trod enc Tryd.prog w base spare held 57 v d ps) :
    ∃ x rv tv, v = .agg (ansC x rv tv) ∧ RecsAt w rv x.recs ∧ TopsAt w tv x.topics ∧ AnsOk x ∧ x.recs.length ≤ Rows.uptoBulk d ∧ x.topics.length ≤ Rows.uptoBulk d ∧ (∀ r ∈ x.recs, r.key.length ≤ Rows.uptoBulk d ∧ r.value.length ≤ Rows.uptoBulk d) ∧ ∀ t ∈ x.topics, t.name.length ≤ Rows.uptoBulk d := by
  obtain ⟨fs, hfd, hfs⟩ := partsAn
  obtain ⟨cs, hcs0, hsz⟩ := @WideShapes.okWide_struct Tryd.prog w r b0 57 v fs hfd hv
  subst hcs0
  obtain ⟨n, h⟩ := h
  obtain ⟨xs, m, -, hx, hlen, hl, hf⟩ := DataW.trod_struct hfd h
  rw [cellsAn] at hlen
  have hxs : xs.length = 9 := by
    rw [hl]
    have := congrArg List.length hfs
    simpa using this
  simp only [Value.cells] at hlen hf
  obtain ⟨c0, c1, c2, c3, c4, c5, c6, c7, c8, hcs⟩ : ∃ c0 c1 c2 c3 c4 c5 c6 c7 c8, cs.toList = [c0, c1, c2, c3, c4, c5, c6, c7, c8] := by
    match hc : cs.toList, hlen with
    | [c0, c1, c2, c3, c4, c5, c6, c7, c8], _ => exact ⟨c0, c1, c2, c3, c4, c5, c6, c7, c8, rfl⟩
  obtain ⟨y0, y1, y2, y3, y4, y5, y6, y7, y8, rfl⟩ : ∃ y0 y1 y2 y3 y4 y5 y6 y7 y8, xs = [y0, y1, y2, y3, y4, y5, y6, y7, y8] := by
    match xs, hxs with
    | [y0, y1, y2, y3, y4, y5, y6, y7, y8], _ => exact ⟨y0, y1, y2, y3, y4, y5, y6, y7, y8, rfl⟩
  rw [hcs] at hf
  have one : ∀ (i t o : Nat) (y : DataW H × List MemPlace), [(3, 0, 1), (3, 1, 1), (34, 2, 1), (3, 3, 1), (3, 4, 1), (3, 5, 1), (4, 6, 1), (46, 7, 1), (55, 8, 1)][i]? = some (t, o, 1) → [y0, y1, y2, y3, y4, y5, y6, y7, y8][i]? = some y →
      DataW.trod enc Tryd.prog w base spare held m t (([c0, c1, c2, c3, c4, c5, c6, c7, c8].drop o).take 1) = some y := by
    intro i t o y hi hy
    obtain ⟨f, h1, h2, h3, h4⟩ := field_at hfs hi
    have := hf i f h1
    rw [h4, h2, h3, hy] at this
    exact this
  obtain ⟨n0, e0, -, w0⟩ := DataW.trod_int Tryd.underlying3 (one 0 _ _ y0 rfl rfl)
  obtain ⟨n1, e1, -, w1⟩ := DataW.trod_int Tryd.underlying3 (one 1 _ _ y1 rfl rfl)
  obtain ⟨n2, e2, -, w2⟩ := DataW.trod_int Tryd.underlying34 (one 2 _ _ y2 rfl rfl)
  obtain ⟨n3, e3, -, w3⟩ := DataW.trod_int Tryd.underlying3 (one 3 _ _ y3 rfl rfl)
  obtain ⟨n4, e4, -, w4⟩ := DataW.trod_int Tryd.underlying3 (one 4 _ _ y4 rfl rfl)
  obtain ⟨n5, e5, -, w5⟩ := DataW.trod_int Tryd.underlying3 (one 5 _ _ y5 rfl rfl)
  obtain ⟨n6, e6, -⟩ := DataW.trod_bool Tryd.underlying4 (one 6 _ _ y6 rfl rfl)
  have h7 := one 7 _ _ y7 rfl rfl
  have h8 := one 8 _ _ y8 rfl rfl
  simp only [List.drop_succ_cons, List.drop_zero, List.take_succ_cons, List.take_zero, List.cons.injEq, and_true] at e0 e1 e2 e3 e4 e5 e6 h7 h8
  subst e0
  subst e1
  subst e2
  subst e3
  subst e4
  subst e5
  subst e6
  have hm : maxLen = 9223372036854775807 := by simp [maxLen]
  obtain ⟨l7, hl7, hn7, hb7⟩ := open_recsD h7
  have hd7 : Rows.uptoBulk y7.1 ≤ Rows.uptoBulk d := by
    have hx1 := congrArg Prod.fst hx
    simp only at hx1
    rw [hx1]
    exact bulk_agg (by simp)
  obtain ⟨l8, hl8, hn8, hb8⟩ := open_topsD h8
  have hd8 : Rows.uptoBulk y8.1 ≤ Rows.uptoBulk d := by
    have hx1 := congrArg Prod.fst hx
    simp only at hx1
    rw [hx1]
    exact bulk_agg (by simp)
  refine ⟨⟨n0, n1, n2, n3, n4, n5, n6, l7, l8⟩, c7, c8, ?_, hl7, hl8, ⟨⟨(wf_i64 w0).1, (wf_i64 w0).2⟩, ⟨(wf_i64 w1).1, (wf_i64 w1).2⟩, ⟨(wf_i64 w2).1, (wf_i64 w2).2⟩, ⟨(wf_i64 w3).1, (wf_i64 w3).2⟩, ⟨(wf_i64 w4).1, (wf_i64 w4).2⟩, ⟨(wf_i64 w5).1, (wf_i64 w5).2⟩⟩, Nat.le_trans hn7 hd7, Nat.le_trans hn8 hd8, fun r hr => ⟨Nat.le_trans (hb7 r hr).1 hd7, Nat.le_trans (hb7 r hr).2 hd7⟩, fun t ht => Nat.le_trans (hb8 t ht) hd8⟩
  rw [show cs = cs.toList.toArray by simp, hcs]
  rfl
end Go.Proofs.YtodadoaindfecaaDoor.Wi

/- conveyorkeep.WireBack, WireAnswers, walked. -/
namespace Go.Proofs.YtodadoaindfecaaDoor.Wi
open Go.RowKit Go.Maps
set_option maxRecDepth 100000
set_option linter.unusedSimpArgs false
set_option linter.unusedVariables false

theorem canQ_topic (x : Req) : (canQ x).topic.length ≤ x.topic.length := by
  unfold canQ mkQ
  simp only
  repeat' split
  all_goals simp

set_option maxHeartbeats 16000000 in
theorem wireback_any (W : World) (x : Req) (rv v2 : Value) (more : List UInt8) (cut : Int) (hrec : RecsAt W rv x.recs) (htl : x.topic.length ≤ 9223372036854775807) (hm : BytesAt W v2 more) (u1 : -9223372036854775808 ≤ cut) (u2 : cut ≤ 9223372036854775807) (hg : As.ErrT W) :
    Calls Tryd.prog 8 #[.agg (reqC x rv), v2, .int .i64 cut] W fun e w' => e = .returned (.bool true) ∧ Below W.heap.size W w' := by
  obtain ⟨kind, corr, topic, part, offset, most, least, wait, time, parts, sure, compact, recs⟩ := x
  simp only at hrec htl
  obtain ⟨ra, rc, rfl, hrl1, hrl2, -⟩ := hrec.form
  
  obtain ⟨a2, c2, rfl, hlc2, hcm2, hp2⟩ := hm.form
  have hmx : maxLen = 9223372036854775807 := by simp [maxLen]
  rw [hmx] at hcm2 hrl2
  simp only [reqC]
  obtain ⟨X, hX⟩ : ∃ X : Req, X = ⟨kind, corr, topic, part, offset, most, least, wait, time, parts, sure, compact, recs⟩ := ⟨_, rfl⟩
  have HX := hide hX
  have HREC := hide hrec
  have HTL := hide htl
  have HM := hide hm
  have HG := hide hg
  obtain ⟨w0, hw0⟩ : ∃ w0, w0 = W.alloc (.cells #[.int .i64 kind, .int .i64 corr, strV topic, .int .i64 part, .int .i64 offset, .int .i64 most, .int .i64 least, .int .i64 wait, .int .i64 time, .int .i64 parts, .bool sure, .bool compact, .slice ra recs.length rc] 48) := ⟨_, rfl⟩
  have hbox : w0.heap[W.heap.size]? = some (.cells #[.int .i64 kind, .int .i64 corr, strV topic, .int .i64 part, .int .i64 offset, .int .i64 most, .int .i64 least, .int .i64 wait, .int .i64 time, .int .i64 parts, .bool sure, .bool compact, .slice ra recs.length rc] 48 (0, 0)) := by rw [hw0]; exact heap_new W _
  have hal : Turn [] W w0 := by rw [hw0]; exact (Turn.refl [] W).alloc _
  have box : ∀ Z, Turn [] w0 Z → W.heap.size < Z.heap.size ∧ Z.cell? ⟨W.heap.size, 12, none⟩ = some (.slice ra recs.length rc) :=
    fun Z hZ => by
      have hb := hZ.heap hbox (by simp)
      exact ⟨lt_of_heap hb, by simpa [strV] using cell_of hb 12⟩
  have hlx := load13 hbox
  have HLX := hide hlx
  have BOX := hide box
  have HAL := hide hal
  have HW0 := hide hw0
  clear hbox hal box hw0 hX hg hlx hp2 hrec htl hm
  by_cases hn : 100 < (recs.length : Int)
  · 
    go_enter Tryd.func8, Tryd.ntmps8
    go_upto_region 1 with fail
    rw [show W.alloc (.cells #[.int .i64 kind, .int .i64 corr, strV topic, .int .i64 part, .int .i64 offset, .int .i64 most, .int .i64 least, .int .i64 wait, .int .i64 time, .int .i64 parts, .bool sure, .bool compact, .slice ra recs.length rc] 48) = w0 from HW0.out.symm]
    obtain ⟨z0, q12⟩ := BOX.out w0 (Turn.refl _ _)
    go_wp2
    go_ret
    exact ⟨rfl, HAL.out.nil⟩
  by_cases hn2 : 2000 < (more.length : Int)
  · 
    go_enter Tryd.func8, Tryd.ntmps8
    go_upto_region 1 with fail
    rw [show W.alloc (.cells #[.int .i64 kind, .int .i64 corr, strV topic, .int .i64 part, .int .i64 offset, .int .i64 most, .int .i64 least, .int .i64 wait, .int .i64 time, .int .i64 parts, .bool sure, .bool compact, .slice ra recs.length rc] 48) = w0 from HW0.out.symm]
    obtain ⟨z0, q12⟩ := BOX.out w0 (Turn.refl _ _)
    go_wp2
    go_ret
    exact ⟨rfl, HAL.out.nil⟩
  go_enter Tryd.func8, Tryd.ntmps8
  go_upto_region 1 with fail
  rw [show W.alloc (.cells #[.int .i64 kind, .int .i64 corr, strV topic, .int .i64 part, .int .i64 offset, .int .i64 most, .int .i64 least, .int .i64 wait, .int .i64 time, .int .i64 parts, .bool sure, .bool compact, .slice ra recs.length rc] 48) = w0 from HW0.out.symm]
  obtain ⟨z0, q12⟩ := BOX.out w0 (Turn.refl _ _)
  go_wp2_with (refine wpList_loadT rfl _ _ rfl ⟨W.heap.size, 0, none⟩ rfl _ HLX.out ?_)
  refine (ask_any w0 ⟨kind, corr, topic, part, offset, most, least, wait, time, parts, sure, compact, recs⟩ (.slice ra recs.length rc) (HREC.out.still HAL.out) HTL.out).mono ?_
  rintro e w1 ⟨v1, rfl, hr1, ht1⟩
  rw [← HX.out] at hr1 ⊢
  obtain ⟨a1, c1, rfl, hl1, -, -⟩ := hr1.bytes.form
  obtain ⟨ee, hee⟩ : ∃ ee, ee = (askP X).2 := ⟨_, rfl⟩
  rw [← hee]
  have HE := hide hee
  have HT1 := hide (HAL.out.same ht1)
  have HR1 := hide hr1
  clear ht1 hr1 hee z0 q12 hn
  by_cases h0 : ee = 0
  · subst h0
    simp only [As.errN, if_true]
    go_wp2_with fail
    refine (framed_any _).mono ?_
    rintro e w2 ⟨rfl, ht2⟩
    have HT2 := hide (HT1.out.same ht2)
    have hpm : askP X = askM X := askP_ok HE.out.symm
    have hz : (askM X).2 = 0 := by rw [← hpm]; exact HE.out.symm
    have hr2 := (HR1.out.kept ht2 (by simp)).bytes
    rw [hpm] at hr2 hl1 ⊢
    obtain ⟨hL1, hL2⟩ := askM_len hz
    have HZ := hide hz
    obtain ⟨v4, w4, hr4, hrow4, ht4, hown4⟩ := app_bytes (w2.alloc (.cells #[] 5)) w2.heap.size (.slice (some ⟨w2.heap.size, 0, none⟩) 0 0) (.slice a1 (askM X).1.length c1) [] (askM X).1
      (.inr ⟨w2.heap.size, 0, #[], rfl, Nat.le_refl _, heap_new w2 _, Nat.le_refl _, Nat.le_refl _, by simp [maxLen], rfl⟩) (hr2.slice.kept ((Turn.refl [] _).alloc _) (by simp)) (by simp; omega) (by simp)
    rw [List.nil_append] at hrow4
    have ht24 : Turn [] w2 w4 := ((Turn.refl [] w2).alloc (.cells #[] 5)).trans ht4 (fun k hk => .inr (by simp [Value.ownBlock] at hk; omega))
    have hm4 := HM.out.still (HT2.out.same ht24)
    obtain ⟨v5, w5, hr5, hrow5, ht5, hown5⟩ := app_bytes w4 w2.heap.size v4 (.slice a2 more.length c2) (askM X).1 more hrow4 hm4.slice (by omega) (by have := ht24.size; omega)
    have ht25 : Turn [] w2 w5 := ht24.trans ht5 (fun k hk => .inr (hrow4.lt k (by simpa using hk)).1)
    have hb5 := hrow5.bytes
    obtain ⟨a4, c4, rfl, -, -, -⟩ := hrow4.bytes.form
    obtain ⟨a5, c5, rfl, -, -, -⟩ := hb5.form
    have hb25 := hr2.still ht25
    have hasked := asked_any w5 _ _ hb5 (by rw [List.length_append]; omega)
    rw [asked_ask hz more] at hasked
    rw [List.length_append] at hb5 hr5 hasked
    obtain ⟨L, hL⟩ : ∃ L, L = (askM X).1.length := ⟨_, rfl⟩
    rw [← hL] at hb25 hr4 hr5 hL1 hL2 hl1 hasked ⊢
    simp only at hasked
    have HL := hide hL
    have HA := hide hasked
    have HR4 := hide hr4
    have HR5 := hide hr5
    have HT5 := hide (HT2.out.same ht25)
    have HB5 := hide hb25
    clear hr4 hr5 hb5 hb25 hrow4 hrow5 ht4 ht5 ht24 ht25 hm4 hown4 hown5 hr2 ht2 hL hasked hz hpm
    go_wp2_with (at_builtin; go_must (first | (refine wpList_append_told rfl rfl rfl rfl HR4.out ?_; clear HR4) | refine wpList_append_told rfl rfl rfl rfl HR5.out ?_))
    refine HA.out.mono ?_
    rintro e w6 ⟨rv6, rfl, hrec6, ht6⟩
    simp only [As.errN, if_true]
    have hpc := askP_can HZ.out
    obtain ⟨y, hy⟩ : ∃ y, y = canQ X := ⟨_, rfl⟩
    have htl6 : y.topic.length ≤ 9223372036854775807 := by rw [hy]; exact Nat.le_trans (canQ_topic X) (by rw [HX.out]; exact HTL.out)
    rw [← hy] at hrec6 hpc ⊢
    
    obtain ⟨kind6, corr6, topic6, part6, offset6, most6, least6, wait6, time6, parts6, sure6, compact6, recs6⟩ := y
    obtain ⟨ra6, rc6, rfl, -⟩ := hrec6.form
    
    simp only [reqC] at hrec6 htl6 ⊢
    obtain ⟨hfz, hfr⟩ := fresh_row (T := 48) w6 [.int .i64 0, .int .i64 0, .string ⟨#[]⟩, .int .i64 0, .int .i64 0, .int .i64 0, .int .i64 0, .int .i64 0, .int .i64 0, .int .i64 0, .bool false, .bool false, .slice none 0 0] [.int .i64 kind6, .int .i64 corr6, strV topic6, .int .i64 part6, .int .i64 offset6, .int .i64 most6, .int .i64 least6, .int .i64 wait6, .int .i64 time6, .int .i64 parts6, .bool sure6, .bool compact6, .slice ra6 recs6.length rc6]
    obtain ⟨wx, hwx⟩ : ∃ wx, wx = (w6.alloc (.cells #[.int .i64 0, .int .i64 0, .string ⟨#[]⟩, .int .i64 0, .int .i64 0, .int .i64 0, .int .i64 0, .int .i64 0, .int .i64 0, .int .i64 0, .bool false, .bool false, .slice none 0 0] 48)).setRow w6.heap.size #[.int .i64 kind6, .int .i64 corr6, strV topic6, .int .i64 part6, .int .i64 offset6, .int .i64 most6, .int .i64 least6, .int .i64 wait6, .int .i64 time6, .int .i64 parts6, .bool sure6, .bool compact6, .slice ra6 recs6.length rc6] := ⟨_, rfl⟩
    have hlx : (loadVar 48 ⟨w6.heap.size, 0, none⟩).run Tryd.prog wx = .ok (.agg #[.int .i64 kind6, .int .i64 corr6, strV topic6, .int .i64 part6, .int .i64 offset6, .int .i64 most6, .int .i64 least6, .int .i64 wait6, .int .i64 time6, .int .i64 parts6, .bool sure6, .bool compact6, .slice ra6 recs6.length rc6]) wx := load13 (hfr wx (by rw [hwx]; exact Turn.refl _ _)).1
    have htx := (hfr wx (by rw [hwx]; exact Turn.refl _ _)).2
    have HTX := hide (HT5.out.same (ht6.same htx))
    have HBX := hide (HB5.out.still (ht6.same htx))
    have HREC6 := hide (hrec6.still htx)
    
    have HLX6 := hide hlx
    have HWX := hide hwx
    have HFZ := hide hfz
    have HPC := hide hpc
    clear hfz hfr hlx htx hwx hrec6  ht6 hpc hy
    go_upto_region 7 with (refine wpList_store_row rfl _ _ _ rfl w6.heap.size #[.int .i64 kind6, .int .i64 corr6, strV topic6, .int .i64 part6, .int .i64 offset6, .int .i64 most6, .int .i64 least6, .int .i64 wait6, .int .i64 time6, .int .i64 parts6, .bool sure6, .bool compact6, .slice ra6 recs6.length rc6] rfl rfl _ _ HFZ.out (by kernel_rfl) rfl (by kernel_rfl) ?_)
    rw [show (w6.alloc (.cells #[.int .i64 0, .int .i64 0, .string ⟨#[]⟩, .int .i64 0, .int .i64 0, .int .i64 0, .int .i64 0, .int .i64 0, .int .i64 0, .int .i64 0, .bool false, .bool false, .slice none 0 0] 48)).setRow w6.heap.size #[.int .i64 kind6, .int .i64 corr6, strV topic6, .int .i64 part6, .int .i64 offset6, .int .i64 most6, .int .i64 least6, .int .i64 wait6, .int .i64 time6, .int .i64 parts6, .bool sure6, .bool compact6, .slice ra6 recs6.length rc6] = wx from HWX.out.symm]
    go_wp2_with (refine wpList_loadT rfl _ _ rfl ⟨w6.heap.size, 0, none⟩ rfl _ HLX6.out ?_)
    refine (ask_any wx ⟨kind6, corr6, topic6, part6, offset6, most6, least6, wait6, time6, parts6, sure6, compact6, recs6⟩ (.slice ra6 recs6.length rc6) HREC6.out htl6).mono ?_
    rintro e w7 ⟨v7, rfl, hr7, ht7⟩
    rw [HPC.out] at hr7 ⊢
    rw [HZ.out]
    simp only [As.errN, if_true]
    obtain ⟨a7, c7, rfl, -, -, -⟩ := hr7.bytes.form
    rw [← HL.out] at hr7 ⊢
    have HT7 := hide (HTX.out.same ht7)
    have HB7 := hide (HBX.out.still ht7)
    have HR7 := hide hr7.bytes
    clear hr7 ht7
    go_wp2_with fail
    refine (pickN_any cut L (by omega) (by omega) _).mono ?_
    rintro e w8 ⟨⟨k, hk, rfl⟩, rfl⟩
    have hsl : ∀ w, (Instr.slice 49 (.slice a1 L c1) none (some (.int .i64 (k : Int))) none).run Tryd.prog w = .ok (.slice a1 k c1) w := fun w => @run_to a1 L c1 k (by omega) w
    go_wp2_with fail
    have hb8 := BytesAt.take (n := k) (by rw [← HL.out]; exact HB7.out) (by rw [← HL.out]; omega)
    have hasked := asked_any _ _ ((askM X).1.take k) hb8 (by rw [List.length_take]; omega)
    rw [asked_short HZ.out (by rw [← HL.out]; exact hk)] at hasked
    refine hasked.mono ?_
    rintro e w9 ⟨rv8, rfl, hrec8, ht9⟩
    obtain ⟨ra8, rc8, rfl, -⟩ := hrec8.form
    
    have hc12 : ¬ ((12 : Int) = 0) := by decide
    simp only [zQ, mkQ, reqC, strV, List.length_nil, As.errN, hc12, if_false]
    obtain ⟨hfz, hfr⟩ := fresh_row (T := 48) w9 [.int .i64 0, .int .i64 0, .string ⟨#[]⟩, .int .i64 0, .int .i64 0, .int .i64 0, .int .i64 0, .int .i64 0, .int .i64 0, .int .i64 0, .bool false, .bool false, .slice none 0 0] [.int .i64 0, .int .i64 0, .string ⟨#[]⟩, .int .i64 0, .int .i64 0, .int .i64 0, .int .i64 0, .int .i64 0, .int .i64 0, .int .i64 0, .bool false, .bool false, .slice ra8 0 rc8]
    obtain ⟨wz, hwz⟩ : ∃ wz, wz = (w9.alloc (.cells #[.int .i64 0, .int .i64 0, .string ⟨#[]⟩, .int .i64 0, .int .i64 0, .int .i64 0, .int .i64 0, .int .i64 0, .int .i64 0, .int .i64 0, .bool false, .bool false, .slice none 0 0] 48)).setRow w9.heap.size #[.int .i64 0, .int .i64 0, .string ⟨#[]⟩, .int .i64 0, .int .i64 0, .int .i64 0, .int .i64 0, .int .i64 0, .int .i64 0, .int .i64 0, .bool false, .bool false, .slice ra8 0 rc8] := ⟨_, rfl⟩
    have htz := (hfr wz (by rw [hwz]; exact Turn.refl _ _)).2
    have h9z := ht9.same htz
    have hcv1 := (HR7.out.still h9z).conv
    have hcv2 := (HB7.out.still h9z).conv
    have HTZ := hide (HT7.out.same h9z)
    have HWZ := hide hwz
    have HFZ := hide hfz
    clear hfz hfr htz h9z hwz ht9 hrec8  hasked hb8
    go_upto_region 11 with (refine wpList_store_row rfl _ _ _ rfl w9.heap.size #[.int .i64 0, .int .i64 0, .string ⟨#[]⟩, .int .i64 0, .int .i64 0, .int .i64 0, .int .i64 0, .int .i64 0, .int .i64 0, .int .i64 0, .bool false, .bool false, .slice ra8 0 rc8] rfl rfl _ _ HFZ.out (by kernel_rfl) rfl (by kernel_rfl) ?_)
    rw [show (w9.alloc (.cells #[.int .i64 0, .int .i64 0, .string ⟨#[]⟩, .int .i64 0, .int .i64 0, .int .i64 0, .int .i64 0, .int .i64 0, .int .i64 0, .int .i64 0, .bool false, .bool false, .slice none 0 0] 48)).setRow w9.heap.size #[.int .i64 0, .int .i64 0, .string ⟨#[]⟩, .int .i64 0, .int .i64 0, .int .i64 0, .int .i64 0, .int .i64 0, .int .i64 0, .int .i64 0, .bool false, .bool false, .slice ra8 0 rc8] = wz from HWZ.out.symm]
    go_wp2_with fail
    refine (As.tell_errno 12 _ (HG.out.below HTZ.out.nil)).mono ?_
    rintro e w10 ⟨rfl, hb10⟩
    go_wp2
    go_ret
    exact ⟨rfl, (HTZ.out.same (Turn.of_below hb10 _)).nil⟩
  · simp only [As.errN, h0, if_false]
    go_wp2_with fail
    refine (framed_any _).mono ?_
    rintro e w2 ⟨rfl, ht2⟩
    have HT2 := hide (HT1.out.same ht2)
    go_wp2_with fail
    refine (framed_any _).mono ?_
    rintro e w3 ⟨rfl, ht3⟩
    have HT3 := hide (HT2.out.same ht3)
    go_wp2
    go_ret
    exact ⟨rfl, HT3.out.nil⟩
end Go.Proofs.YtodadoaindfecaaDoor.Wi

/- plain.Same of equal records: true. -/
namespace Go.Proofs.YtodadoaindfecaaDoor
open Go.RowKit Go.Maps
set_option maxRecDepth 100000
set_option linter.unusedSimpArgs false
set_option linter.unusedVariables false

set_option maxHeartbeats 2000000 in
theorem same_any (w : World) (v v' : Value) (recs : List Bt.Rec) (h : RecsAt w v recs) (h' : RecsAt w v' recs) :
    Calls Tryd.prog 58 #[v, v'] w fun e w' => e = .returned (.bool true) ∧ Turn [] w w' := by
  obtain ⟨a, c, rfl, hlc, hcm, hn0, hp⟩ := h.form
  obtain ⟨a', c', rfl, hlc', hcm', hn0', hp'⟩ := h'.form
  have hmx : maxLen = 9223372036854775807 := by simp [maxLen]
  rw [hmx] at hcm hcm'
  have HR : Hid (RecsAt w (.slice a recs.length c) recs) := h
  have HR' : Hid (RecsAt w (.slice a' recs.length c') recs) := h'
  clear h h' hn0 hn0'
  go_enter Tryd.func58, Tryd.ntmps58
  go_wp2
  go_loopw [13] (fun i wr => ∃ k : Nat, k ≤ recs.length ∧ i = .int .i64 k ∧ Turn [] w wr) (fun i _ => recs.length - (intOf i).toNat)
  case atStart => exact ⟨0, Nat.zero_le _, rfl, Turn.refl _ _⟩
  case round =>
    obtain ⟨k, hk, rfl, ht⟩ := hrel
    have HT := hide ht
    clear ht
    by_cases hlt : k < recs.length
    · obtain ⟨p, rfl⟩ := hp k hlt
      obtain ⟨p', rfl⟩ := hp' k hlt
      have HC := hide (fun Z (hZ : Turn [] wr Z) => ((HR.out.still HT.out).still hZ).six hlt)
      have HC' := hide (fun Z (hZ : Turn [] wr Z) => ((HR'.out.still HT.out).still hZ).six hlt)
      clear hp hp'
      obtain ⟨r, hr⟩ : ∃ r, r = recs[k] := ⟨_, rfl⟩
      rw [← hr] at HC HC'
      clear hr
      go_wp2
      refine wp_region_loose (Turn []) (by kernel_rfl) (by kernel_rfl) (by kernel_rfl) (by kernel_rfl) rfl (Turn.refl _) (fun _ _ _ h k => h.same k) ?_
      apply Lo.runx 1 rfl rfl [] (by kernel_rfl) (Turn.refl _)
      apply Exists.intro; apply And.intro
      · intro u w1 hR hF
        clear hF
        refine ⟨rfl, fun a ha K hK => ?_⟩
        have e0 := ha 0
        conv at e0 => rhs; whnf
        clear ha
        go_simp
        refine hK _ ?_; rfl
      apply Lo.runx 2 rfl rfl [] (by kernel_rfl) (Turn.refl _)
      apply Exists.intro; apply And.intro
      · intro u w1 hR hF
        clear hF
        refine ⟨rfl, fun a ha K hK => ?_⟩
        have e5 := ha 5
        conv at e5 => rhs; whnf
        clear ha
        go_simp
        refine hK _ ?_; rfl
      apply Lo.runx 3 rfl rfl [0, 1] (by kernel_rfl) (Turn.refl _)
      apply Exists.intro; apply And.intro
      · intro u w1 hR hF
        obtain ⟨h0, h1, -⟩ := hF
        refine ⟨rfl, fun a ha K hK => ?_⟩
        have e16 := (ha 16).trans h0
        have e17 := (ha 17).trans h1
        clear ha h0 h1
        go_simp
        refine hK _ ?_; rfl
      apply Lo.runx 4 rfl rfl [2] (by kernel_rfl) (Turn.refl _)
      apply Exists.intro; apply And.intro
      · intro u w1 hR hF
        obtain ⟨h2, -⟩ := hF
        refine ⟨rfl, fun a ha K hK => ?_⟩
        have e18 := (ha 18).trans h2
        clear ha h2
        obtain ⟨g0, g1, g2, g3, g4, g5⟩ := HC.out w1 ((Turn.refl [] _).drew.same hR)
        go_simp
        refine hK _ ?_; rfl
      apply Lo.runx 5 rfl rfl [] (by kernel_rfl) (Turn.refl _)
      apply Exists.intro; apply And.intro
      · intro u w1 hR hF
        clear hF
        refine ⟨rfl, fun a ha K hK => ?_⟩
        have e1 := ha 1
        conv at e1 => rhs; whnf
        clear ha
        go_simp
        refine hK _ ?_; rfl
      apply Lo.runx 6 rfl rfl [] (by kernel_rfl) (Turn.refl _)
      apply Exists.intro; apply And.intro
      · intro u w1 hR hF
        clear hF
        refine ⟨rfl, fun a ha K hK => ?_⟩
        have e5 := ha 5
        conv at e5 => rhs; whnf
        clear ha
        go_simp
        refine hK _ ?_; rfl
      apply Lo.runx 7 rfl rfl [4, 5] (by kernel_rfl) (Turn.refl _)
      apply Exists.intro; apply And.intro
      · intro u w1 hR hF
        obtain ⟨h4, h5, -⟩ := hF
        refine ⟨rfl, fun a ha K hK => ?_⟩
        have e20 := (ha 20).trans h4
        have e21 := (ha 21).trans h5
        clear ha h4 h5
        go_simp
        refine hK _ ?_; rfl
      apply Lo.runx 8 rfl rfl [6] (by kernel_rfl) (Turn.refl _)
      apply Exists.intro; apply And.intro
      · intro u w1 hR hF
        obtain ⟨h6, -⟩ := hF
        refine ⟨rfl, fun a ha K hK => ?_⟩
        have e22 := (ha 22).trans h6
        clear ha h6
        obtain ⟨g0, g1, g2, g3, g4, g5⟩ := HC'.out w1 ((Turn.refl [] _).drew.same hR)
        go_simp
        refine hK _ ?_; rfl
      refine Lo.runv 9 rfl rfl [3, 7] (.bool (false)) (by kernel_rfl) (fun u w1 hR hF => ?_) (Turn.refl _) ?_
      · obtain ⟨h3, h7, -⟩ := hF
        refine ⟨rfl, fun a ha K hK => ?_⟩
        have e19 := (ha 19).trans h3
        have e23 := (ha 23).trans h7
        clear ha h3 h7
        go_simp
        refine hK _ ?_
        simp
      refine Lo.done [8] (fun u w1 hRd hSd hF => ?_)
      clear hSd
      obtain ⟨f8, -⟩ := hF
      have d8 : u 8 = _ := f8
      clear f8
      simp only [putFrom, Act.put, List.setIfInBounds_toArray, List.set_cons_succ, List.set_cons_zero, Nat.zero_add, Nat.reduceAdd, d8]
      have HT1 := hide (HT.out.same ((Turn.refl [] wr).drew.same hRd))
      clear hRd
      go_wp2
      refine ⟨⟨k + 1, by omega, by go_num, HT1.out⟩, ?_⟩
      simp only [intOf]; omega
    · obtain rfl : k = recs.length := by omega
      go_wp2
      go_ret
      exact ⟨rfl, HT.out⟩
end Go.Proofs.YtodadoaindfecaaDoor

/- A row of bytes that came in (of a law's card). -/
namespace Go.Proofs.YtodadoaindfecaaDoor
open Go.RowKit Go.Maps
set_option maxRecDepth 100000
set_option linter.unusedSimpArgs false
set_option linter.unusedVariables false

theorem cells5 : Tryd.prog.cellsOf 5 = 1 := by kernel_rfl
variable {H : Type} {enc : TypeId × Value → H} {base : Nat} {spare : Nat → Bool} {held : Bool}
theorem open_bytes {w : World} {r : Reach} {b0 : Nat} {v : Value} {d : DataW H} {ps : List MemPlace} (hv : Value.okWide Tryd.prog w r b0 49 v) (h : DataW.Trod enc Tryd.prog w base spare held 49 v d ps) : ∃ bs, BytesAt w v bs := by
  obtain ⟨a', len', cap', rfl⟩ := WideShapes.okWide_slice Tryd.underlying49 hv
  obtain ⟨n, h⟩ := h
  simp only [Value.cells] at h
  rcases Deep.open_slice Tryd.underlying49 h with ⟨hcs, -⟩ | ⟨a, len, cap, m, k, D, Pl, hcs, -, h1, h2, h3, -, h4⟩
  · simp only [List.cons.injEq, and_true] at hcs
    rw [hcs]
    exact ⟨[], none, 0, rfl, Nat.le_refl _, Nat.zero_le _, fun _ => rfl, fun j hj => absurd hj (Nat.not_lt_zero _)⟩
  · simp only [List.cons.injEq, and_true] at hcs
    rw [hcs]
    have hlm : len ≤ m := by rw [h3]; split <;> omega
    rw [cells5] at h4
    have hr : ∀ i, i < len → ∃ x : UInt8, w.cell? (a.add i) = some (encB x) := by
      intro i hi
      obtain ⟨cs', g1, g2⟩ := h4 i (by omega)
      obtain ⟨z, rfl, -, hw⟩ := DataW.trod_int Tryd.underlying5 g2
      obtain ⟨-, -, g3⟩ := World.cells?_some g1
      have := g3 0 (by omega)
      simp only [Lit.wf, IntKind.min, IntKind.max, IntKind.signed, IntKind.bits, Bool.and_eq_true, decide_eq_true_eq] at hw
      have w1 := hw.1
      have w2 := hw.2
      simp at w1 w2
      refine ⟨UInt8.ofNat z.toNat, ?_⟩
      rw [add_add, Nat.mul_one, Nat.add_zero] at this
      rw [this]
      simp [encB]
      omega
    let bs : List UInt8 := (List.range len).attach.map fun i => (hr i.1 (List.mem_range.1 i.2)).choose
    have hl : bs.length = len := by simp [bs]
    refine ⟨bs, some a, cap, by rw [hl], by rw [hl]; exact h1, h2, by simp, fun j hj => ?_⟩
    have hj' : j < len := by omega
    have e : bs[j] = (hr j hj').choose := by simp [bs]
    rw [e]
    exact ⟨a, rfl, (hr j hj').choose_spec⟩
end Go.Proofs.YtodadoaindfecaaDoor

/- Integers and lists of records that came in (of a law). -/
namespace Go.Proofs.YtodadoaindfecaaDoor
open Go.RowKit Go.Maps
set_option maxRecDepth 100000
set_option linter.unusedSimpArgs false
set_option linter.unusedVariables false
variable {H : Type} {enc : TypeId × Value → H} {base : Nat} {spare : Nat → Bool} {held : Bool}
theorem open_int {w : World} {r : Reach} {b0 : Nat} {v : Value} {d : DataW H} {ps : List MemPlace} (hv : Value.okWide Tryd.prog w r b0 3 v) (h : DataW.Trod enc Tryd.prog w base spare held 3 v d ps) : ∃ z : Int, v = .int .i64 z ∧ -9223372036854775808 ≤ z ∧ z ≤ 9223372036854775807 := by
  obtain ⟨z, rfl⟩ := WideShapes.okWide_int Tryd.underlying3 hv
  obtain ⟨n, h⟩ := h
  simp only [Value.cells] at h
  obtain ⟨m, e, -, hw⟩ := DataW.trod_int Tryd.underlying3 h
  simp only [List.cons.injEq, and_true, Value.int.injEq, true_and] at e
  subst e
  exact ⟨_, rfl, wf_i64 hw⟩
theorem open_rows {w : World} {r : Reach} {b0 : Nat} {v : Value} {d : DataW H} {ps : List MemPlace} (hv : Value.okWide Tryd.prog w r b0 46 v) (h : DataW.Trod enc Tryd.prog w base spare held 46 v d ps) : ∃ rs, RecsAt w v rs := by
  obtain ⟨a', len', cap', rfl⟩ := WideShapes.okWide_slice Tryd.underlying46 hv
  obtain ⟨n, h⟩ := h
  simp only [Value.cells] at h
  exact open_recs h
end Go.Proofs.YtodadoaindfecaaDoor
