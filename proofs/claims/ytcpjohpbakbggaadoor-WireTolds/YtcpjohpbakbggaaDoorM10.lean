/- Wjb, Wjn, Wjo, Wjp: texts merged. -/
import Derived.Test.YtcpjohpbakbggaaDoorM4
import Derived.Test.YtcpjohpbakbggaaDoorM5
import Derived.Test.YtcpjohpbakbggaaDoorM9
import Derived.Laws.Tables
import Derived.Deep.DeepCutAuto
import Derived.Deep.CutBlock
/- wire.Asked, wire.Told. -/
namespace Go.Proofs.YtcpjohpbakbggaaDoor.Wi
open Go.RowKit Go.Maps
set_option maxRecDepth 100000
set_option linter.unusedSimpArgs false
set_option linter.unusedVariables false

theorem fin_row {T : TypeId} {w w1 : World} {Y : Nat} {ys : Array Value} (cs : List Value) (hy : w1.heap[Y]? = some (.cells ys T (0, 0))) (ht : Turn [] w w1) (hY : w.heap.size ≤ Y) :
    (w1.setRow Y cs.toArray).heap[Y]? = some (.cells cs.toArray T (0, 0)) ∧ Turn [] w (w1.setRow Y cs.toArray) ∧ Turn [Y] w1 (w1.setRow Y cs.toArray) := by
  have h : Turn [Y] w1 (w1.setRow Y cs.toArray) := ⟨rfl, rfl, rfl, by simp, fun k _ hk => setRow_other w1 Y k _ (fun e => hk (by simp [e]))⟩
  exact ⟨setRow_heap w1 Y _ _ _ _ hy, ht.trans h (fun k hk => .inr (by simp at hk; omega)), h⟩
theorem whole_ok {b : List UInt8} {n : Nat} (h : whole b = (n, 0)) : 5 ≤ n ∧ n ≤ b.length ∧ n ≤ 10004 := by
  unfold whole at h
  split at h
  · simp at h
  · split at h
    · simp at h
    · split at h
      · simp at h
      · simp only [Prod.mk.injEq] at h; omega
theorem reqP_sm {l : List UInt8} (hl : l.length ≤ 900000) : (reqP l).topic.length ≤ 1000000 ∧ ∀ r ∈ (reqP l).recs, RecRd r := by
  have h0 := num_len l
  have h1 := num_len (Bt.num l).2
  have ht : ∀ t : List UInt8 × List UInt8, t = (if ((Bt.num l).1 : Int) = 7 then ([], (Bt.num (Bt.num l).2).2) else Bt.text (Bt.num (Bt.num l).2).2) → t.1.length ≤ 1000000 ∧ t.2.length ≤ 900000 := by
    intro t ht
    have h2 := text_len (Bt.num (Bt.num l).2).2
    split at ht
    · subst ht; simp; omega
    · subst ht; omega
  obtain ⟨g1, g2⟩ := ht _ rfl
  unfold reqP
  simp only
  generalize (if ((Bt.num l).1 : Int) = 7 then ([], (Bt.num (Bt.num l).2).2) else Bt.text (Bt.num (Bt.num l).2).2) = t at g1 g2 ⊢
  have e1 := num_len t.2
  have e2 := num_len (Bt.num t.2).2
  have e3 := num_len (Bt.num (Bt.num t.2).2).2
  unfold tailP
  simp only
  split
  · refine ⟨g1, ?_⟩
    exact (listP_all (one := recP) (ok := RecRd) (L := 1000000) (fun l h => recP_rd h) (fun l h => recP_lt h) _ _ (by omega)).1
  · repeat' split
    all_goals exact ⟨g1, fun r hr => absurd hr (by simp [mkQ])⟩
theorem ansP_sm {l : List UInt8} (hl : l.length ≤ 900000) : (∀ r ∈ (ansP l).recs, RecRd r) ∧ ∀ t ∈ (ansP l).topics, TpRd t := by
  have h0 := num_len l
  have h1 := num_len (Bt.num l).2
  have h2 := num_len (Bt.num (Bt.num l).2).2
  have hno : ∀ a b c : Int, (∀ r ∈ (mkA a b c).recs, RecRd r) ∧ ∀ t ∈ (mkA a b c).topics, TpRd t := fun a b c => ⟨fun r hr => absurd hr (by simp [mkA]), fun r hr => absurd hr (by simp [mkA])⟩
  unfold ansP
  simp only
  split
  · generalize hq : (Bt.num (Bt.num (Bt.num l).2).2).2 = q at h2 ⊢
    have e1 := num_len q
    have e2 := num_len (Bt.num q).2
    have e3 := num_len (Bt.num (Bt.num q).2).2
    unfold atailP
    simp only
    split
    · exact ⟨fun r hr => absurd hr (by simp [mkA]), fun r hr => absurd hr (by simp [mkA])⟩
    split
    · exact ⟨(listP_all (one := plP) (ok := RecRd) (L := 1000000) (fun l h => plP_rd h) (fun l h => plP_lt h) _ _ (by omega)).1, fun r hr => absurd hr (by simp [mkA])⟩
    split
    · split
      · exact ⟨fun r hr => absurd hr (by simp [mkA]), fun r hr => absurd hr (by simp [mkA])⟩
      · exact ⟨fun r hr => absurd hr (by simp [mkA]), fun r hr => absurd hr (by simp [mkA])⟩
    split
    · exact ⟨fun r hr => absurd hr (by simp [mkA]), fun r hr => absurd hr (by simp [mkA])⟩
    split
    · exact ⟨fun r hr => absurd hr (by simp [mkA]), (listP_all (one := tpP) (ok := TpRd) (L := 1000000) (fun l h => tpP_rd h) (fun l h => tpP_lt h) _ _ (by omega)).1⟩
    · exact ⟨fun r hr => absurd hr (by simp [mkA]), fun r hr => absurd hr (by simp [mkA])⟩
  · exact ⟨fun r hr => absurd hr (by simp [mkA]), fun r hr => absurd hr (by simp [mkA])⟩
theorem RecRd.sm {r : Bt.Rec} (h : RecRd r) : RecSm r := ⟨by have := h.key; omega, by have := h.value; omega⟩
theorem okQ_iff {b : List UInt8} {n : Nat} (h : whole b = (n, 0)) (x : Req) : askedM b = if okQ b (reqP (bodyOf b)) then (reqP (bodyOf b), n, 0) else (zQ, 0, 3) := by
  unfold askedM; rw [h]; simp
theorem okA_iff {b : List UInt8} {n : Nat} (h : whole b = (n, 0)) (x : Ans) : toldM b = if okA b (ansP (bodyOf b)) then (ansP (bodyOf b), n, 0) else (zA, 0, 3) := by
  unfold toldM; rw [h]; simp

set_option maxHeartbeats 16000000 in
theorem asked_any (w : World) (v : Value) (b : List UInt8) (hx : BytesAt w v b) (hl : b.length ≤ 900000) :
    Calls Tryd.prog 6 #[v] w fun e w' => ∃ rv, e = .returned (.tuple #[.agg (reqC (askedM b).1 rv), .int .i64 (askedM b).2.1, As.errN (askedM b).2.2]) ∧ RecsAt w' rv (askedM b).1.recs ∧ Turn [] w w' := by
  have HX := hide hx
  obtain ⟨a, c, rfl, hlc, hcm, hc⟩ := hx.form
  have hmx : maxLen = 9223372036854775807 := by simp [maxLen]
  rw [hmx] at hcm
  obtain ⟨wy, hwy⟩ : ∃ wy, wy = w.alloc (.cells zQv.toArray 25) := ⟨_, rfl⟩
  have hty : Turn [] w wy := by rw [hwy]; exact (Turn.refl [] w).alloc _
  have hyy : wy.heap[w.heap.size]? = some (.cells zQv.toArray 25 (0, 0)) := by rw [hwy]; exact heap_new w _
  have HWY := hide hwy
  have HTY := hide hty
  have HYY := hide hyy
  obtain ⟨n, er, hw⟩ : ∃ n er, whole b = (n, er) := ⟨_, _, rfl⟩
  have HW := hide hw
  clear hx hc hwy hty hyy hw
  go_enter Tryd.func6, Tryd.ntmps6
  go_wp2_with fail
  rw [show w.alloc (.cells #[.int .i64 0, .int .i64 0, .string ⟨#[]⟩, .int .i64 0, .int .i64 0, .int .i64 0, .int .i64 0, .int .i64 0, .int .i64 0, .int .i64 0, .bool false, .bool false, .slice none 0 0] 25) = wy from HWY.out.symm]
  refine (wwhole_any _ _ b (HX.out.still HTY.out) (by omega)).mono ?_
  rintro e w1 ⟨rfl, ht1⟩
  rw [HW.out]
  simp only
  have HT1 := hide (HTY.out.same ht1)
  have HY1 := hide (ht1.heap HYY.out (by simp))
  clear ht1
  by_cases h0 : er = 0
  · subst h0
    obtain ⟨n1, n2, n3⟩ := whole_ok HW.out
    simp only [As.errN, if_true]
    have hsl : ∀ w, (Instr.slice 22 (.slice a b.length c) (some (.int .i64 4)) (some (.int .i64 (n : Int))) none).run Tryd.prog w = .ok (.slice (advA a 4 c) (n - 4) (c - 4)) w := fun w => by simpa using @run_from_to a b.length c 4 n (by omega) (by omega) w
    have hst : ∀ w, (Instr.slice 22 (.slice a b.length c) none (some (.int .i64 (n : Int))) none).run Tryd.prog w = .ok (.slice a n c) w := fun w => @run_to a b.length c n (by omega) w
    have htk : BytesAt w (.slice a n c) (b.take n) := HX.out.take (by omega)
    have HTK := hide htk
    have hbo : bodyOf b = (b.take n).drop 4 := by unfold bodyOf; rw [HW.out]
    obtain ⟨l, hl0⟩ : ∃ l, l = bodyOf b := ⟨_, rfl⟩
    have hll : l.length = n - 4 := by rw [hl0, hbo]; simp; omega
    have hbm : BytesAt w (.slice (advA a 4 c) (n - 4) (c - 4)) l := by
      have h1 : (b.take n).length = n := by simp; omega
      have h2 := BytesAt.drop (n := 4) (by rw [h1]; exact htk) (by omega : 4 ≤ (b.take n).length)
      rw [h1, ← hbo, ← hl0] at h2
      exact h2
    have hown : ∀ k ∈ (Value.slice (advA a 4 c) (n - 4) (c - 4)).ownBlock, k < w.heap.size := fun k hk =>
      HX.out.lt (fun e => by rw [e] at n2; simp at n2; omega) k (advA_own (l' := b.length) k hk)
    have hiff : askedM b = if okQ b (reqP l) then (reqP l, n, 0) else (zQ, 0, 3) := by rw [hl0]; exact okQ_iff HW.out zQ
    have HIFF := hide hiff
    have HBM := hide hbm
    have HOWN := hide hown
    clear htk hbo hl0 hbm hown hiff
    go_wp2_with fail
    have hrd : RdW (w1.alloc (.cells #[.slice (advA a 4 c) (n - 4) (c - 4)] 58)) w1.heap.size w.heap.size l :=
      ⟨_, heap_new w1 _, HBM.out.still (HT1.out.alloc _), fun _ => HOWN.out⟩
    refine (rreq_any _ w1.heap.size w.heap.size l hrd HT1.out.size (by omega)).mono ?_
    rintro e w2 ⟨rv, rfl, hrec, ht2, hown2⟩
    have hsm := reqP_sm (l := l) (by omega)
    obtain ⟨x, hxx⟩ : ∃ x, x = reqP l := ⟨_, rfl⟩
    rw [← hxx] at hrec hsm ⊢
    have hiff := HIFF.out
    rw [← hxx] at hiff
    have HIFF := hide hiff
    have hpm : askP x = askM x := askP_small (reqCl_small (by have := hsm.1; omega) (fun r hr => (hsm.2 r hr).sm))
    have htl : x.topic.length ≤ 9223372036854775807 := by have := hsm.1; omega
    clear hiff hsm hrd hxx
    have ht02 : Turn [] w w2 := (HT1.out.alloc _).trans ht2 (fun k hk => .inr (by have := HT1.out.size; simp at hk; omega))
    have hy2 := ht2.heap (((Turn.refl [] w1).alloc (.cells #[.slice (advA a 4 c) (n - 4) (c - 4)] 58)).heap HY1.out (by simp)) (by have := lt_of_heap HY1.out; simp; omega)
    have hlt1 := lt_of_heap HY1.out
    have hrl : ∀ k ∈ rv.ownBlock, k ≠ w.heap.size := fun k hk => by have := hown2 k hk; simp at this; omega
    have HPM := hide hpm
    have HREC := hide hrec
    have HRL := hide hrl
    have HT2 := hide ht02
    have HY2 := hide hy2
    obtain ⟨kind, corr, topic, part, offset, most, least, wait, time, parts, sure, compact, recs⟩ := x
    obtain ⟨XX, hXX⟩ : ∃ XX : Req, XX = ⟨kind, corr, topic, part, offset, most, least, wait, time, parts, sure, compact, recs⟩ := ⟨_, rfl⟩
    have HXX := hide hXX
    simp only at htl
    obtain ⟨ra, rc, rfl, -, -, -, -⟩ := HREC.out.form
    simp only [reqC]
    obtain ⟨wx, hwx⟩ : ∃ wx, wx = (w2.alloc (.cells #[.int .i64 0, .int .i64 0, .string ⟨#[]⟩, .int .i64 0, .int .i64 0, .int .i64 0, .int .i64 0, .int .i64 0, .int .i64 0, .int .i64 0, .bool false, .bool false, .slice none 0 0] 25)).setRow w2.heap.size #[.int .i64 kind, .int .i64 corr, strV topic, .int .i64 part, .int .i64 offset, .int .i64 most, .int .i64 least, .int .i64 wait, .int .i64 time, .int .i64 parts, .bool sure, .bool compact, .slice ra recs.length rc] := ⟨_, rfl⟩
    have hbz : (w2.alloc (.cells #[.int .i64 0, .int .i64 0, .string ⟨#[]⟩, .int .i64 0, .int .i64 0, .int .i64 0, .int .i64 0, .int .i64 0, .int .i64 0, .int .i64 0, .bool false, .bool false, .slice none 0 0] 25)).heap[w2.heap.size]? = some (.cells #[.int .i64 0, .int .i64 0, .string ⟨#[]⟩, .int .i64 0, .int .i64 0, .int .i64 0, .int .i64 0, .int .i64 0, .int .i64 0, .int .i64 0, .bool false, .bool false, .slice none 0 0] 25 (0, 0)) := heap_new w2 _
    have hfz := fin_row [.int .i64 kind, .int .i64 corr, strV topic, .int .i64 part, .int .i64 offset, .int .i64 most, .int .i64 least, .int .i64 wait, .int .i64 time, .int .i64 parts, .bool sure, .bool compact, .slice ra recs.length rc] hbz ((Turn.refl [] w2).alloc _) (Nat.le_refl _)
    have hlx : (loadVar 25 ⟨w2.heap.size, 0, none⟩).run Tryd.prog ((w2.alloc (.cells #[.int .i64 0, .int .i64 0, .string ⟨#[]⟩, .int .i64 0, .int .i64 0, .int .i64 0, .int .i64 0, .int .i64 0, .int .i64 0, .int .i64 0, .bool false, .bool false, .slice none 0 0] 25)).setRow w2.heap.size #[.int .i64 kind, .int .i64 corr, strV topic, .int .i64 part, .int .i64 offset, .int .i64 most, .int .i64 least, .int .i64 wait, .int .i64 time, .int .i64 parts, .bool sure, .bool compact, .slice ra recs.length rc]) = .ok (.agg #[.int .i64 kind, .int .i64 corr, strV topic, .int .i64 part, .int .i64 offset, .int .i64 most, .int .i64 least, .int .i64 wait, .int .i64 time, .int .i64 parts, .bool sure, .bool compact, .slice ra recs.length rc]) ((w2.alloc (.cells #[.int .i64 0, .int .i64 0, .string ⟨#[]⟩, .int .i64 0, .int .i64 0, .int .i64 0, .int .i64 0, .int .i64 0, .int .i64 0, .int .i64 0, .bool false, .bool false, .slice none 0 0] 25)).setRow w2.heap.size #[.int .i64 kind, .int .i64 corr, strV topic, .int .i64 part, .int .i64 offset, .int .i64 most, .int .i64 least, .int .i64 wait, .int .i64 time, .int .i64 parts, .bool sure, .bool compact, .slice ra recs.length rc]) := load13 hfz.1
    have HBZ := hide hbz
    have HLX := hide hlx
    have hbx : ∀ Q, Turn [] wx Q → Q.heap[w2.heap.size]? = some (.cells #[.int .i64 kind, .int .i64 corr, strV topic, .int .i64 part, .int .i64 offset, .int .i64 most, .int .i64 least, .int .i64 wait, .int .i64 time, .int .i64 parts, .bool sure, .bool compact, .slice ra recs.length rc] 25 (0, 0)) ∧ Q.heap[w.heap.size]? = some (.cells zQv.toArray 25 (0, 0)) ∧ Turn [] w Q ∧ Turn [] w2 Q := by
      intro Q hQ
      have h2 : Turn [] w2 Q := by have := hfz.2.1; rw [hwx] at hQ; exact this.same hQ
      exact ⟨hQ.heap (by rw [hwx]; exact hfz.1) (by simp), h2.heap HY2.out (by simp), HT2.out.same h2, h2⟩
    have HBX := hide hbx
    have HWX := hide hwx
    clear hpm hrec  hrl ht02 hy2 hown2 ht2 hXX hwx hbx hlt1 hbz hlx hfz
    go_wp2_with (first | refine wpList_store_row rfl _ _ _ rfl w2.heap.size #[.int .i64 kind, .int .i64 corr, strV topic, .int .i64 part, .int .i64 offset, .int .i64 most, .int .i64 least, .int .i64 wait, .int .i64 time, .int .i64 parts, .bool sure, .bool compact, .slice ra recs.length rc] rfl rfl _ _ HBZ.out (by kernel_rfl) rfl (by kernel_rfl) ?_ | refine wpList_loadT rfl _ _ rfl ⟨w2.heap.size, 0, none⟩ rfl _ HLX.out ?_)
    rw [show (w2.alloc (.cells #[.int .i64 0, .int .i64 0, .string ⟨#[]⟩, .int .i64 0, .int .i64 0, .int .i64 0, .int .i64 0, .int .i64 0, .int .i64 0, .int .i64 0, .bool false, .bool false, .slice none 0 0] 25)).setRow w2.heap.size #[.int .i64 kind, .int .i64 corr, strV topic, .int .i64 part, .int .i64 offset, .int .i64 most, .int .i64 least, .int .i64 wait, .int .i64 time, .int .i64 parts, .bool sure, .bool compact, .slice ra recs.length rc] = wx from HWX.out.symm]
    refine (ask_any wx ⟨kind, corr, topic, part, offset, most, least, wait, time, parts, sure, compact, recs⟩ (.slice ra recs.length rc) (HREC.out.still (HBX.out wx (Turn.refl _ _)).2.2.2) htl).mono ?_
    rintro e w3 ⟨v3, rfl, hr3, ht3⟩
    rw [HPM.out, ← HXX.out] at hr3 ⊢
    obtain ⟨m, e2, hm⟩ : ∃ m e2, askM XX = (m, e2) := ⟨_, _, rfl⟩
    rw [hm] at hr3 ⊢
    simp only at hr3 ⊢
    have hok : okQ b XX ↔ m = b.take n ∧ e2 = 0 := by unfold okQ; rw [hm, HW.out]; simp
    have hb3 := hr3.bytes
    have HOK := hide hok
    have HB3 := hide hb3
    have HT3 := hide ht3
    have HTK3 := hide (HTK.out.still (HBX.out _ ht3).2.2.1)
    clear hok hb3 ht3 hr3 hm
    by_cases h2 : e2 = 0
    · subst h2
      simp only [As.errN, if_true]
      go_wp2_with fail
      refine (equal_any _ _ _ m (b.take n) HB3.out HTK3.out).mono ?_
      rintro e w5 ⟨rfl, rfl⟩
      by_cases heq : m = b.take n
      · have hbq : (m == b.take n) = true := by simpa using heq
        have HM : Hid (askedM b = (XX, n, 0)) := by show _ = _; rw [HIFF.out, ← HXX.out, if_pos (HOK.out.2 ⟨heq, by trivial⟩)]
        rw [hbq]
        clear heq hbq
        go_upto_region 9 with fail
        refine wp_region_lit ?_
        refine wpList_loadT rfl _ _ rfl ⟨w2.heap.size, 0, none⟩ rfl _ (load13 (HBX.out w3 HT3.out).1) ?_
        have HF := hide (fin_row [.int .i64 kind, .int .i64 corr, strV topic, .int .i64 part, .int .i64 offset, .int .i64 most, .int .i64 least, .int .i64 wait, .int .i64 time, .int .i64 parts, .bool sure, .bool compact, .slice ra recs.length rc] (HBX.out w3 HT3.out).2.1 (HBX.out w3 HT3.out).2.2.1 (Nat.le_refl _))
        go_simp
        go_wp2_with (refine wpList_store_row rfl _ _ _ rfl w.heap.size #[.int .i64 kind, .int .i64 corr, strV topic, .int .i64 part, .int .i64 offset, .int .i64 most, .int .i64 least, .int .i64 wait, .int .i64 time, .int .i64 parts, .bool sure, .bool compact, .slice ra recs.length rc] rfl rfl _ _ (HBX.out w3 HT3.out).2.1 (by kernel_rfl) rfl (by kernel_rfl) ?_)
        have hld := load13 HF.out.1
        refine bodyPost_ret (v := .tuple #[.agg #[.int .i64 kind, .int .i64 corr, strV topic, .int .i64 part, .int .i64 offset, .int .i64 most, .int .i64 least, .int .i64 wait, .int .i64 time, .int .i64 parts, .bool sure, .bool compact, .slice ra recs.length rc], .int .i64 n, .nilIface]) (by simp [results, Tryd.results6, asAddr, hld, Result.andThen]) rfl ?_
        rw [HM.out]
        refine ⟨.slice ra recs.length rc, by rw [HXX.out]; rfl, ?_, HF.out.2.1⟩
        · rw [HXX.out]
          exact (HREC.out.still (HBX.out w3 HT3.out).2.2.2).kept HF.out.2.2 (fun k hk _ hm => HRL.out k hk (by simpa using hm))
      · have hbq : (m == b.take n) = false := by simpa using heq
        have HM : Hid (askedM b = (zQ, 0, 3)) := by show _ = _; rw [HIFF.out, ← HXX.out, if_neg (fun h => heq (HOK.out.1 h).1)]
        rw [hbq]
        clear heq hbq
        have HF := hide (fin_row [.int .i64 0, .int .i64 0, .string ⟨#[]⟩, .int .i64 0, .int .i64 0, .int .i64 0, .int .i64 0, .int .i64 0, .int .i64 0, .int .i64 0, .bool false, .bool false, .slice none 0 0] (HBX.out w3 HT3.out).2.1 (HBX.out w3 HT3.out).2.2.1 (Nat.le_refl _))
        go_wp2_with (refine wpList_store_row rfl _ _ _ rfl w.heap.size #[.int .i64 0, .int .i64 0, .string ⟨#[]⟩, .int .i64 0, .int .i64 0, .int .i64 0, .int .i64 0, .int .i64 0, .int .i64 0, .int .i64 0, .bool false, .bool false, .slice none 0 0] rfl rfl _ _ (HBX.out w3 HT3.out).2.1 (by kernel_rfl) rfl (by kernel_rfl) ?_)
        have hld := load13 HF.out.1
        refine bodyPost_ret (v := .tuple #[.agg #[.int .i64 0, .int .i64 0, .string ⟨#[]⟩, .int .i64 0, .int .i64 0, .int .i64 0, .int .i64 0, .int .i64 0, .int .i64 0, .int .i64 0, .bool false, .bool false, .slice none 0 0], .int .i64 0, .iface 26 (.int .i64 3)]) (by simp [results, Tryd.results6, asAddr, hld, Result.andThen]) rfl ?_
        rw [HM.out]
        refine ⟨.slice none 0 0, rfl, RecRow.nil _ 0, HF.out.2.1⟩
    · simp only [As.errN, h2, if_false]
      have HM : Hid (askedM b = (zQ, 0, 3)) := by show _ = _; rw [HIFF.out, ← HXX.out, if_neg (fun h => h2 (HOK.out.1 h).2)]
      have HF := hide (fin_row [.int .i64 0, .int .i64 0, .string ⟨#[]⟩, .int .i64 0, .int .i64 0, .int .i64 0, .int .i64 0, .int .i64 0, .int .i64 0, .int .i64 0, .bool false, .bool false, .slice none 0 0] (HBX.out w3 HT3.out).2.1 (HBX.out w3 HT3.out).2.2.1 (Nat.le_refl _))
      go_wp2_with (refine wpList_store_row rfl _ _ _ rfl w.heap.size #[.int .i64 0, .int .i64 0, .string ⟨#[]⟩, .int .i64 0, .int .i64 0, .int .i64 0, .int .i64 0, .int .i64 0, .int .i64 0, .int .i64 0, .bool false, .bool false, .slice none 0 0] rfl rfl _ _ (HBX.out w3 HT3.out).2.1 (by kernel_rfl) rfl (by kernel_rfl) ?_)
      have hld := load13 HF.out.1
      refine bodyPost_ret (v := .tuple #[.agg #[.int .i64 0, .int .i64 0, .string ⟨#[]⟩, .int .i64 0, .int .i64 0, .int .i64 0, .int .i64 0, .int .i64 0, .int .i64 0, .int .i64 0, .bool false, .bool false, .slice none 0 0], .int .i64 0, .iface 26 (.int .i64 3)]) (by simp [results, Tryd.results6, asAddr, hld, Result.andThen]) rfl ?_
      rw [HM.out]
      refine ⟨.slice none 0 0, rfl, RecRow.nil _ 0, HF.out.2.1⟩
  · have HM : Hid (askedM b = (zQ, 0, er)) := by show _ = _; unfold askedM; rw [HW.out]; simp [h0]
    simp only [As.errN, h0, if_false]
    have HF := hide (fin_row [.int .i64 0, .int .i64 0, .string ⟨#[]⟩, .int .i64 0, .int .i64 0, .int .i64 0, .int .i64 0, .int .i64 0, .int .i64 0, .int .i64 0, .bool false, .bool false, .slice none 0 0] HY1.out HT1.out (Nat.le_refl _))
    go_wp2_with (refine wpList_store_row rfl _ _ _ rfl w.heap.size #[.int .i64 0, .int .i64 0, .string ⟨#[]⟩, .int .i64 0, .int .i64 0, .int .i64 0, .int .i64 0, .int .i64 0, .int .i64 0, .int .i64 0, .bool false, .bool false, .slice none 0 0] rfl rfl _ _ HY1.out (by kernel_rfl) rfl (by kernel_rfl) ?_)
    have hld := load13 HF.out.1
    refine bodyPost_ret (v := .tuple #[.agg #[.int .i64 0, .int .i64 0, .string ⟨#[]⟩, .int .i64 0, .int .i64 0, .int .i64 0, .int .i64 0, .int .i64 0, .int .i64 0, .int .i64 0, .bool false, .bool false, .slice none 0 0], .int .i64 0, .iface 26 (.int .i64 er)]) (by simp [results, Tryd.results6, asAddr, hld, Result.andThen]) rfl ?_
    rw [HM.out]
    refine ⟨.slice none 0 0, by simp [As.errN, h0]; rfl, RecRow.nil _ 0, HF.out.2.1⟩

set_option maxHeartbeats 16000000 in
theorem told_any (w : World) (v : Value) (b : List UInt8) (hx : BytesAt w v b) (hl : b.length ≤ 900000) :
    Calls Tryd.prog 10 #[v] w fun e w' => ∃ rv tv, e = .returned (.tuple #[.agg (ansC (toldM b).1 rv tv), .int .i64 (toldM b).2.1, As.errN (toldM b).2.2]) ∧ RecsAt w' rv (toldM b).1.recs ∧ TopsAt w' tv (toldM b).1.topics ∧ Turn [] w w' := by
  have HX := hide hx
  obtain ⟨a, c, rfl, hlc, hcm, hc⟩ := hx.form
  have hmx : maxLen = 9223372036854775807 := by simp [maxLen]
  rw [hmx] at hcm
  obtain ⟨wy, hwy⟩ : ∃ wy, wy = w.alloc (.cells zAv.toArray 38) := ⟨_, rfl⟩
  have hty : Turn [] w wy := by rw [hwy]; exact (Turn.refl [] w).alloc _
  have hyy : wy.heap[w.heap.size]? = some (.cells zAv.toArray 38 (0, 0)) := by rw [hwy]; exact heap_new w _
  have HWY := hide hwy
  have HTY := hide hty
  have HYY := hide hyy
  obtain ⟨n, er, hw⟩ : ∃ n er, whole b = (n, er) := ⟨_, _, rfl⟩
  have HW := hide hw
  clear hx hc hwy hty hyy hw
  go_enter Tryd.func10, Tryd.ntmps10
  go_wp2_with fail
  rw [show w.alloc (.cells #[.int .i64 0, .int .i64 0, .int .i64 0, .int .i64 0, .int .i64 0, .int .i64 0, .bool false, .slice none 0 0, .slice none 0 0] 38) = wy from HWY.out.symm]
  refine (wwhole_any _ _ b (HX.out.still HTY.out) (by omega)).mono ?_
  rintro e w1 ⟨rfl, ht1⟩
  rw [HW.out]
  simp only
  have HT1 := hide (HTY.out.same ht1)
  have HY1 := hide (ht1.heap HYY.out (by simp))
  clear ht1
  by_cases h0 : er = 0
  · subst h0
    obtain ⟨n1, n2, n3⟩ := whole_ok HW.out
    simp only [As.errN, if_true]
    have hsl : ∀ w, (Instr.slice 22 (.slice a b.length c) (some (.int .i64 4)) (some (.int .i64 (n : Int))) none).run Tryd.prog w = .ok (.slice (advA a 4 c) (n - 4) (c - 4)) w := fun w => by simpa using @run_from_to a b.length c 4 n (by omega) (by omega) w
    have hst : ∀ w, (Instr.slice 22 (.slice a b.length c) none (some (.int .i64 (n : Int))) none).run Tryd.prog w = .ok (.slice a n c) w := fun w => @run_to a b.length c n (by omega) w
    have htk : BytesAt w (.slice a n c) (b.take n) := HX.out.take (by omega)
    have HTK := hide htk
    have hbo : bodyOf b = (b.take n).drop 4 := by unfold bodyOf; rw [HW.out]
    obtain ⟨l, hl0⟩ : ∃ l, l = bodyOf b := ⟨_, rfl⟩
    have hll : l.length = n - 4 := by rw [hl0, hbo]; simp; omega
    have hbm : BytesAt w (.slice (advA a 4 c) (n - 4) (c - 4)) l := by
      have h1 : (b.take n).length = n := by simp; omega
      have h2 := BytesAt.drop (n := 4) (by rw [h1]; exact htk) (by omega : 4 ≤ (b.take n).length)
      rw [h1, ← hbo, ← hl0] at h2
      exact h2
    have hown : ∀ k ∈ (Value.slice (advA a 4 c) (n - 4) (c - 4)).ownBlock, k < w.heap.size := fun k hk =>
      HX.out.lt (fun e => by rw [e] at n2; simp at n2; omega) k (advA_own (l' := b.length) k hk)
    have hiff : toldM b = if okA b (ansP l) then (ansP l, n, 0) else (zA, 0, 3) := by rw [hl0]; exact okA_iff HW.out zA
    have HIFF := hide hiff
    have HBM := hide hbm
    have HOWN := hide hown
    clear htk hbo hl0 hbm hown hiff
    go_wp2_with fail
    have hrd : RdW (w1.alloc (.cells #[.slice (advA a 4 c) (n - 4) (c - 4)] 58)) w1.heap.size w.heap.size l :=
      ⟨_, heap_new w1 _, HBM.out.still (HT1.out.alloc _), fun _ => HOWN.out⟩
    refine (rans_any _ w1.heap.size w.heap.size l hrd HT1.out.size (by omega)).mono ?_
    rintro e w2 ⟨rv, tv, rfl, hrec, htop, ht2, hown2, hown3⟩
    have hsm := ansP_sm (l := l) (by omega)
    obtain ⟨x, hxx⟩ : ∃ x, x = ansP l := ⟨_, rfl⟩
    rw [← hxx] at hrec hsm ⊢
    rw [← hxx] at htop
    have hiff := HIFF.out
    rw [← hxx] at hiff
    have HIFF := hide hiff
    have hpm : tellP x = tellM x := tellP_small (ansCl_small (fun r hr => (hsm.1 r hr).sm) (fun t ht => by have := (hsm.2 t ht).name; omega))
    clear hiff hsm hrd hxx
    have ht02 : Turn [] w w2 := (HT1.out.alloc _).trans ht2 (fun k hk => .inr (by have := HT1.out.size; simp at hk; omega))
    have hy2 := ht2.heap (((Turn.refl [] w1).alloc (.cells #[.slice (advA a 4 c) (n - 4) (c - 4)] 58)).heap HY1.out (by simp)) (by have := lt_of_heap HY1.out; simp; omega)
    have hlt1 := lt_of_heap HY1.out
    have hrl : ∀ k ∈ rv.ownBlock, k ≠ w.heap.size := fun k hk => by have := hown2 k hk; simp at this; omega
    have hrt : ∀ k ∈ tv.ownBlock, k ≠ w.heap.size := fun k hk => by have := hown3 k hk; simp at this; omega
    have HPM := hide hpm
    have HREC := hide hrec
    have HTOP := hide htop
    have HRL := hide hrl
    have HRT := hide hrt
    have HT2 := hide ht02
    have HY2 := hide hy2
    obtain ⟨kind, corr, err, offset, start, fin, found, recs, topics⟩ := x
    obtain ⟨XX, hXX⟩ : ∃ XX : Ans, XX = ⟨kind, corr, err, offset, start, fin, found, recs, topics⟩ := ⟨_, rfl⟩
    have HXX := hide hXX
    obtain ⟨ra, rc, rfl, -, -, -, -⟩ := HREC.out.form
    obtain ⟨ta, tc, rfl, -, -, -, -⟩ := HTOP.out.form
    simp only [ansC]
    obtain ⟨wx, hwx⟩ : ∃ wx, wx = (w2.alloc (.cells #[.int .i64 0, .int .i64 0, .int .i64 0, .int .i64 0, .int .i64 0, .int .i64 0, .bool false, .slice none 0 0, .slice none 0 0] 38)).setRow w2.heap.size #[.int .i64 kind, .int .i64 corr, .int .i64 err, .int .i64 offset, .int .i64 start, .int .i64 fin, .bool found, .slice ra recs.length rc, .slice ta topics.length tc] := ⟨_, rfl⟩
    have hbz : (w2.alloc (.cells #[.int .i64 0, .int .i64 0, .int .i64 0, .int .i64 0, .int .i64 0, .int .i64 0, .bool false, .slice none 0 0, .slice none 0 0] 38)).heap[w2.heap.size]? = some (.cells #[.int .i64 0, .int .i64 0, .int .i64 0, .int .i64 0, .int .i64 0, .int .i64 0, .bool false, .slice none 0 0, .slice none 0 0] 38 (0, 0)) := heap_new w2 _
    have hfz := fin_row [.int .i64 kind, .int .i64 corr, .int .i64 err, .int .i64 offset, .int .i64 start, .int .i64 fin, .bool found, .slice ra recs.length rc, .slice ta topics.length tc] hbz ((Turn.refl [] w2).alloc _) (Nat.le_refl _)
    have hlx : (loadVar 38 ⟨w2.heap.size, 0, none⟩).run Tryd.prog ((w2.alloc (.cells #[.int .i64 0, .int .i64 0, .int .i64 0, .int .i64 0, .int .i64 0, .int .i64 0, .bool false, .slice none 0 0, .slice none 0 0] 38)).setRow w2.heap.size #[.int .i64 kind, .int .i64 corr, .int .i64 err, .int .i64 offset, .int .i64 start, .int .i64 fin, .bool found, .slice ra recs.length rc, .slice ta topics.length tc]) = .ok (.agg #[.int .i64 kind, .int .i64 corr, .int .i64 err, .int .i64 offset, .int .i64 start, .int .i64 fin, .bool found, .slice ra recs.length rc, .slice ta topics.length tc]) ((w2.alloc (.cells #[.int .i64 0, .int .i64 0, .int .i64 0, .int .i64 0, .int .i64 0, .int .i64 0, .bool false, .slice none 0 0, .slice none 0 0] 38)).setRow w2.heap.size #[.int .i64 kind, .int .i64 corr, .int .i64 err, .int .i64 offset, .int .i64 start, .int .i64 fin, .bool found, .slice ra recs.length rc, .slice ta topics.length tc]) := load9 hfz.1
    have HBZ := hide hbz
    have HLX := hide hlx
    have hbx : ∀ Q, Turn [] wx Q → Q.heap[w2.heap.size]? = some (.cells #[.int .i64 kind, .int .i64 corr, .int .i64 err, .int .i64 offset, .int .i64 start, .int .i64 fin, .bool found, .slice ra recs.length rc, .slice ta topics.length tc] 38 (0, 0)) ∧ Q.heap[w.heap.size]? = some (.cells zAv.toArray 38 (0, 0)) ∧ Turn [] w Q ∧ Turn [] w2 Q := by
      intro Q hQ
      have h2 : Turn [] w2 Q := by have := hfz.2.1; rw [hwx] at hQ; exact this.same hQ
      exact ⟨hQ.heap (by rw [hwx]; exact hfz.1) (by simp), h2.heap HY2.out (by simp), HT2.out.same h2, h2⟩
    have HBX := hide hbx
    have HWX := hide hwx
    clear hpm hrec htop hown3 hrt hrl ht02 hy2 hown2 ht2 hXX hwx hbx hlt1 hbz hlx hfz
    go_wp2_with (first | refine wpList_store_row rfl _ _ _ rfl w2.heap.size #[.int .i64 kind, .int .i64 corr, .int .i64 err, .int .i64 offset, .int .i64 start, .int .i64 fin, .bool found, .slice ra recs.length rc, .slice ta topics.length tc] rfl rfl _ _ HBZ.out (by kernel_rfl) rfl (by kernel_rfl) ?_ | refine wpList_loadT rfl _ _ rfl ⟨w2.heap.size, 0, none⟩ rfl _ HLX.out ?_)
    rw [show (w2.alloc (.cells #[.int .i64 0, .int .i64 0, .int .i64 0, .int .i64 0, .int .i64 0, .int .i64 0, .bool false, .slice none 0 0, .slice none 0 0] 38)).setRow w2.heap.size #[.int .i64 kind, .int .i64 corr, .int .i64 err, .int .i64 offset, .int .i64 start, .int .i64 fin, .bool found, .slice ra recs.length rc, .slice ta topics.length tc] = wx from HWX.out.symm]
    refine (tell_any wx ⟨kind, corr, err, offset, start, fin, found, recs, topics⟩ (.slice ra recs.length rc) (.slice ta topics.length tc) (HREC.out.still (HBX.out wx (Turn.refl _ _)).2.2.2) (HTOP.out.still (HBX.out wx (Turn.refl _ _)).2.2.2)).mono ?_
    rintro e w3 ⟨v3, rfl, hr3, ht3⟩
    rw [HPM.out, ← HXX.out] at hr3 ⊢
    obtain ⟨m, e2, hm⟩ : ∃ m e2, tellM XX = (m, e2) := ⟨_, _, rfl⟩
    rw [hm] at hr3 ⊢
    simp only at hr3 ⊢
    have hok : okA b XX ↔ m = b.take n ∧ e2 = 0 := by unfold okA; rw [hm, HW.out]; simp
    have hb3 := hr3.bytes
    have HOK := hide hok
    have HB3 := hide hb3
    have HT3 := hide ht3
    have HTK3 := hide (HTK.out.still (HBX.out _ ht3).2.2.1)
    clear hok hb3 ht3 hr3 hm
    by_cases h2 : e2 = 0
    · subst h2
      simp only [As.errN, if_true]
      go_wp2_with fail
      refine (equal_any _ _ _ m (b.take n) HB3.out HTK3.out).mono ?_
      rintro e w5 ⟨rfl, rfl⟩
      by_cases heq : m = b.take n
      · have hbq : (m == b.take n) = true := by simpa using heq
        have HM : Hid (toldM b = (XX, n, 0)) := by show _ = _; rw [HIFF.out, ← HXX.out, if_pos (HOK.out.2 ⟨heq, by trivial⟩)]
        rw [hbq]
        clear heq hbq
        go_upto_region 9 with fail
        refine wp_region_lit ?_
        refine wpList_loadT rfl _ _ rfl ⟨w2.heap.size, 0, none⟩ rfl _ (load9 (HBX.out w3 HT3.out).1) ?_
        have HF := hide (fin_row [.int .i64 kind, .int .i64 corr, .int .i64 err, .int .i64 offset, .int .i64 start, .int .i64 fin, .bool found, .slice ra recs.length rc, .slice ta topics.length tc] (HBX.out w3 HT3.out).2.1 (HBX.out w3 HT3.out).2.2.1 (Nat.le_refl _))
        go_simp
        go_wp2_with (refine wpList_store_row rfl _ _ _ rfl w.heap.size #[.int .i64 kind, .int .i64 corr, .int .i64 err, .int .i64 offset, .int .i64 start, .int .i64 fin, .bool found, .slice ra recs.length rc, .slice ta topics.length tc] rfl rfl _ _ (HBX.out w3 HT3.out).2.1 (by kernel_rfl) rfl (by kernel_rfl) ?_)
        have hld := load9 HF.out.1
        refine bodyPost_ret (v := .tuple #[.agg #[.int .i64 kind, .int .i64 corr, .int .i64 err, .int .i64 offset, .int .i64 start, .int .i64 fin, .bool found, .slice ra recs.length rc, .slice ta topics.length tc], .int .i64 n, .nilIface]) (by simp [results, Tryd.results10, asAddr, hld, Result.andThen]) rfl ?_
        rw [HM.out]
        refine ⟨.slice ra recs.length rc, .slice ta topics.length tc, by rw [HXX.out]; rfl, ?_, ?_, HF.out.2.1⟩
        · rw [HXX.out]
          exact (HREC.out.still (HBX.out w3 HT3.out).2.2.2).kept HF.out.2.2 (fun k hk _ hm => HRL.out k hk (by simpa using hm))
        · rw [HXX.out]
          exact (HTOP.out.still (HBX.out w3 HT3.out).2.2.2).kept HF.out.2.2 (fun k hk _ hm => HRT.out k hk (by simpa using hm))
      · have hbq : (m == b.take n) = false := by simpa using heq
        have HM : Hid (toldM b = (zA, 0, 3)) := by show _ = _; rw [HIFF.out, ← HXX.out, if_neg (fun h => heq (HOK.out.1 h).1)]
        rw [hbq]
        clear heq hbq
        have HF := hide (fin_row [.int .i64 0, .int .i64 0, .int .i64 0, .int .i64 0, .int .i64 0, .int .i64 0, .bool false, .slice none 0 0, .slice none 0 0] (HBX.out w3 HT3.out).2.1 (HBX.out w3 HT3.out).2.2.1 (Nat.le_refl _))
        go_wp2_with (refine wpList_store_row rfl _ _ _ rfl w.heap.size #[.int .i64 0, .int .i64 0, .int .i64 0, .int .i64 0, .int .i64 0, .int .i64 0, .bool false, .slice none 0 0, .slice none 0 0] rfl rfl _ _ (HBX.out w3 HT3.out).2.1 (by kernel_rfl) rfl (by kernel_rfl) ?_)
        have hld := load9 HF.out.1
        refine bodyPost_ret (v := .tuple #[.agg #[.int .i64 0, .int .i64 0, .int .i64 0, .int .i64 0, .int .i64 0, .int .i64 0, .bool false, .slice none 0 0, .slice none 0 0], .int .i64 0, .iface 26 (.int .i64 3)]) (by simp [results, Tryd.results10, asAddr, hld, Result.andThen]) rfl ?_
        rw [HM.out]
        refine ⟨.slice none 0 0, .slice none 0 0, rfl, RecRow.nil _ 0, TopsAt.nil _, HF.out.2.1⟩
    · simp only [As.errN, h2, if_false]
      have HM : Hid (toldM b = (zA, 0, 3)) := by show _ = _; rw [HIFF.out, ← HXX.out, if_neg (fun h => h2 (HOK.out.1 h).2)]
      have HF := hide (fin_row [.int .i64 0, .int .i64 0, .int .i64 0, .int .i64 0, .int .i64 0, .int .i64 0, .bool false, .slice none 0 0, .slice none 0 0] (HBX.out w3 HT3.out).2.1 (HBX.out w3 HT3.out).2.2.1 (Nat.le_refl _))
      go_wp2_with (refine wpList_store_row rfl _ _ _ rfl w.heap.size #[.int .i64 0, .int .i64 0, .int .i64 0, .int .i64 0, .int .i64 0, .int .i64 0, .bool false, .slice none 0 0, .slice none 0 0] rfl rfl _ _ (HBX.out w3 HT3.out).2.1 (by kernel_rfl) rfl (by kernel_rfl) ?_)
      have hld := load9 HF.out.1
      refine bodyPost_ret (v := .tuple #[.agg #[.int .i64 0, .int .i64 0, .int .i64 0, .int .i64 0, .int .i64 0, .int .i64 0, .bool false, .slice none 0 0, .slice none 0 0], .int .i64 0, .iface 26 (.int .i64 3)]) (by simp [results, Tryd.results10, asAddr, hld, Result.andThen]) rfl ?_
      rw [HM.out]
      refine ⟨.slice none 0 0, .slice none 0 0, rfl, RecRow.nil _ 0, TopsAt.nil _, HF.out.2.1⟩
  · have HM : Hid (toldM b = (zA, 0, er)) := by show _ = _; unfold toldM; rw [HW.out]; simp [h0]
    simp only [As.errN, h0, if_false]
    have HF := hide (fin_row [.int .i64 0, .int .i64 0, .int .i64 0, .int .i64 0, .int .i64 0, .int .i64 0, .bool false, .slice none 0 0, .slice none 0 0] HY1.out HT1.out (Nat.le_refl _))
    go_wp2_with (refine wpList_store_row rfl _ _ _ rfl w.heap.size #[.int .i64 0, .int .i64 0, .int .i64 0, .int .i64 0, .int .i64 0, .int .i64 0, .bool false, .slice none 0 0, .slice none 0 0] rfl rfl _ _ HY1.out (by kernel_rfl) rfl (by kernel_rfl) ?_)
    have hld := load9 HF.out.1
    refine bodyPost_ret (v := .tuple #[.agg #[.int .i64 0, .int .i64 0, .int .i64 0, .int .i64 0, .int .i64 0, .int .i64 0, .bool false, .slice none 0 0, .slice none 0 0], .int .i64 0, .iface 26 (.int .i64 er)]) (by simp [results, Tryd.results10, asAddr, hld, Result.andThen]) rfl ?_
    rw [HM.out]
    refine ⟨.slice none 0 0, .slice none 0 0, by simp [As.errN, h0]; rfl, RecRow.nil _ 0, TopsAt.nil _, HF.out.2.1⟩
end Go.Proofs.YtcpjohpbakbggaaDoor.Wi

/- What the document's Asked and Told2 read: bounds; what they tell is askedM, toldM. -/
namespace Go.Proofs.YtcpjohpbakbggaaDoor.Wi
open Go.RowKit Go.Maps
set_option maxRecDepth 100000
set_option linter.unusedSimpArgs false
set_option linter.unusedVariables false

theorem Tn.mk2 {T : TypeId} {w0 w : World} {tb B : Nat} {t : TS} {zs : List Value} (cs : List Value) (h : TkAt w tb B t) (ht : Turn [tb] w0 w) (hb : tb < w0.heap.size) :
    Tn T w0 ((w.alloc (.cells zs.toArray T)).setRow w.heap.size cs.toArray) tb B w.heap.size cs t := by
  have hf := fin_row cs (heap_new w (.cells zs.toArray T)) ((Turn.refl [] w).alloc _) (Nat.le_refl _)
  exact ⟨ht.size, hf.1, h.still hf.2.1, ht.same (hf.2.1.mono (by simp))⟩
theorem Tn.upto {T : TypeId} {w0 w w' : World} {tb B X : Nat} {cs : List Value} {t : TS} (h : Tn T w0 w tb B X cs t) (hrb : tb < w0.heap.size) (ht : Turn [] w w') : Tn T w0 w' tb B X cs t :=
  ⟨h.hx, ht.heap h.x (by simp), h.rd.still ht, h.turn.same (ht.mono (by simp))⟩
theorem _root_.Go.Proofs.YtcpjohpbakbggaaDoor.TkAt.cell1 {w : World} {tb B : Nat} {t : TS} (h : TkAt w tb B t) : w.cell? ⟨tb, 1, none⟩ = some (.bool t.2) ∧ w.frozen? ⟨tb, 1, none⟩ = false := by
  obtain ⟨sv, h1, -⟩ := h
  exact ⟨by simpa using cell_of h1 1, frozen_of h1 1⟩
theorem RecRd.sm2 {r : Bt.Rec} (h : RecRd r) : RecSm r := ⟨by have := h.key; omega, by have := h.value; omega⟩
theorem listR_sm (o : Bool) (t : TS) (hl : t.1.length ≤ 10000) (h1 : t.2 = false → t.1.length < 10000) (n : Nat) : (∀ r ∈ (listR (recR o) n t).1, RecRd r) ∧ (listR (recR o) n t).1.length ≤ 10000 := by
  obtain ⟨k1, k2, -⟩ := listR_all o n t (by omega)
  refine ⟨k1, ?_⟩
  cases h : t.2 with
  | true => rw [h] at k2; simp at k2; omega
  | false => have := h1 h; rw [h] at k2; simp at k2; omega
theorem numR_sm (t : TS) (hl : t.1.length ≤ 10000) : (Bt.numR t).2.1.length ≤ 10000 ∧ ((Bt.numR t).2.2 = false → (Bt.numR t).2.1.length < 10000) := by
  have := (numR_len t).1
  exact ⟨by omega, fun h => by have := numR_lt h; omega⟩
theorem reqR_sm {l : List UInt8} (hl : l.length ≤ 10000) : (reqR l).1.topic.length ≤ 1048576 ∧ (∀ r ∈ (reqR l).1.recs, RecSm r) ∧ (reqR l).1.recs.length ≤ 10000 := by
  have h0 := (numR_len (l, false)).1
  have h1 := (numR_len (Bt.numR (l, false)).2).1
  obtain ⟨t, ht⟩ : ∃ t, t = (if ((Bt.numR (l, false)).1 : Int) = 7 then ([], (Bt.numR (Bt.numR (l, false)).2).2) else Bt.textR 40 (Bt.numR (Bt.numR (l, false)).2).2) := ⟨_, rfl⟩
  have g : t.1.length ≤ 10000 ∧ t.2.1.length ≤ 10000 := by
    have h2 := textR_len 40 (Bt.numR (Bt.numR (l, false)).2).2
    rw [ht]
    split
    · simp at h0 h1 ⊢; omega
    · simp at h0; omega
  have he : reqR l = tailR (mkQ (Bt.numR (l, false)).1 (Bt.numR (Bt.numR (l, false)).2).1 t.1) t.2 := by unfold reqR; simp only [← ht]
  rw [he]
  obtain ⟨g1, g2⟩ := g
  unfold tailR
  simp only
  split
  · have e1 := (numR_len t.2).1
    have e2 := truR_len (Bt.numR t.2).2
    obtain ⟨s1, s2⟩ := numR_sm (truR (Bt.numR t.2).2).2 (by omega)
    obtain ⟨q1, q2⟩ := listR_sm false (Bt.numR (truR (Bt.numR t.2).2).2).2 s1 s2 (Bt.numR (truR (Bt.numR t.2).2).2).1
    exact ⟨by simp only [mkQ]; omega, fun r hr => (q1 r hr).sm2, q2⟩
  · repeat' split
    all_goals exact ⟨by simp only [mkQ]; omega, fun r hr => absurd hr (by simp [mkQ]), by simp [mkQ]⟩
theorem askedR {b : List UInt8} {n : Nat} (h : whole b = (n, 0)) : askedM b = if (reqR (bodyOf b)).2 = false ∧ okQ b (reqR (bodyOf b)).1 then ((reqR (bodyOf b)).1, n, 0) else (zQ, 0, 3) := by
  rw [okQ_iff h zQ]
  by_cases hq : okQ b (reqP (bodyOf b))
  · rw [if_pos hq, if_pos ((bothQ b).1 hq), bothQ_eq hq]
  · rw [if_neg hq, if_neg (fun h => hq ((bothQ b).2 h))]
theorem toldR {b : List UInt8} {n : Nat} (h : whole b = (n, 0)) : toldM b = if (ansR (bodyOf b)).2 = false ∧ okA b (ansR (bodyOf b)).1 then ((ansR (bodyOf b)).1, n, 0) else (zA, 0, 3) := by
  rw [okA_iff h zA]
  by_cases hq : okA b (ansP (bodyOf b))
  · rw [if_pos hq, if_pos ((bothA b).1 hq), bothA_eq hq]
  · rw [if_neg hq, if_neg (fun h => hq ((bothA b).2 h))]
end Go.Proofs.YtcpjohpbakbggaaDoor.Wi

/- The document's Asked. -/
namespace Go.Proofs.YtcpjohpbakbggaaDoor.Wi
open Go.RowKit Go.Maps
set_option maxRecDepth 100000
set_option linter.unusedSimpArgs false
set_option linter.unusedVariables false

set_option maxHeartbeats 16000000 in
theorem refAsked_any (w : World) (v : Value) (b : List UInt8) (hx : BytesAt w v b) (hl : b.length ≤ 900000) :
    Calls Tryd.prog 5 #[v] w fun e w' => ∃ rv, e = .returned (.tuple #[.agg (reqC (askedM b).1 rv), .int .i64 (askedM b).2.1, .int .i64 (askedM b).2.2]) ∧ RecsAt w' rv (askedM b).1.recs ∧ Turn [] w w' := by
  have HX := hide hx
  obtain ⟨a, c, rfl, hlc, hcm, hc⟩ := hx.form
  have hmx : maxLen = 9223372036854775807 := by simp [maxLen]
  rw [hmx] at hcm
  obtain ⟨wy, hwy⟩ : ∃ wy, wy = w.alloc (.cells zQv.toArray 25) := ⟨_, rfl⟩
  have hty : Turn [] w wy := by rw [hwy]; exact (Turn.refl [] w).alloc _
  have hyy : wy.heap[w.heap.size]? = some (.cells zQv.toArray 25 (0, 0)) := by rw [hwy]; exact heap_new w _
  have HWY := hide hwy
  have HTY := hide hty
  have HYY := hide hyy
  obtain ⟨n, er, hw⟩ : ∃ n er, whole b = (n, er) := ⟨_, _, rfl⟩
  have HW := hide hw
  clear hx hc hwy hty hyy hw
  go_enter Tryd.func5, Tryd.ntmps5
  go_wp2_with fail
  rw [show w.alloc (.cells #[.int .i64 0, .int .i64 0, .string ⟨#[]⟩, .int .i64 0, .int .i64 0, .int .i64 0, .int .i64 0, .int .i64 0, .int .i64 0, .int .i64 0, .bool false, .bool false, .slice none 0 0] 25) = wy from HWY.out.symm]
  refine (rwhole_any _ _ b (HX.out.still HTY.out) (by omega)).mono ?_
  rintro e w1 ⟨rfl, ht1⟩
  rw [HW.out]
  simp only
  have HT1 := hide (HTY.out.same ht1)
  have HY1 := hide (ht1.heap HYY.out (by simp))
  clear ht1
  by_cases h0 : er = 0
  · subst h0
    obtain ⟨n1', n2', n3'⟩ := whole_ok HW.out
    have hsl : ∀ w, (Instr.slice 22 (.slice a b.length c) (some (.int .i64 4)) (some (.int .i64 (n : Int))) none).run Tryd.prog w = .ok (.slice (advA a 4 c) (n - 4) (c - 4)) w := fun w => by simpa using @run_from_to a b.length c 4 n (by omega) (by omega) w
    have hst : ∀ w, (Instr.slice 22 (.slice a b.length c) none (some (.int .i64 (n : Int))) none).run Tryd.prog w = .ok (.slice a n c) w := fun w => @run_to a b.length c n (by omega) w
    have htk : BytesAt w (.slice a n c) (b.take n) := HX.out.take (by omega)
    have HTK := hide htk
    have hbo : bodyOf b = (b.take n).drop 4 := by unfold bodyOf; rw [HW.out]
    obtain ⟨l, hl0⟩ : ∃ l, l = bodyOf b := ⟨_, rfl⟩
    have hll : l.length = n - 4 := by rw [hl0, hbo]; simp; omega
    have hbm : BytesAt w (.slice (advA a 4 c) (n - 4) (c - 4)) l := by
      have h1 : (b.take n).length = n := by simp; omega
      have h2 := BytesAt.drop (n := 4) (by rw [h1]; exact htk) (by omega : 4 ≤ (b.take n).length)
      rw [h1, ← hbo, ← hl0] at h2
      exact h2
    have hown : ∀ k ∈ (Value.slice (advA a 4 c) (n - 4) (c - 4)).ownBlock, k < w.heap.size := fun k hk =>
      HX.out.lt (fun e => by rw [e] at n2'; simp at n2'; omega) k (advA_own (l' := b.length) k hk)
    have hiff : askedM b = if (reqR l).2 = false ∧ okQ b (reqR l).1 then ((reqR l).1, n, 0) else (zQ, 0, 3) := by rw [hl0]; exact askedR HW.out
    have hl2 : l.length ≤ 10000 := by omega
    have hsm := reqR_sm hl2
    have HIFF := hide hiff
    have HSM := hide hsm
    have HBM := hide hbm
    have HOWN := hide hown
    have HLL := hide hll
    clear htk hbo hl0 hbm hown hiff hll hsm
    obtain ⟨wt, hwt⟩ : ∃ wt, wt = w1.alloc (.cells #[.slice (advA a 4 c) (n - 4) (c - 4), .bool false] 48) := ⟨_, rfl⟩
    have htt : Turn [] w wt := by rw [hwt]; exact HT1.out.alloc _
    obtain ⟨tb, htb⟩ : ∃ tb, tb = w1.heap.size := ⟨_, rfl⟩
    obtain ⟨B, hBB⟩ : ∃ B, B = w.heap.size := ⟨_, rfl⟩
    have hrd : TkAt wt tb B (l, false) := by
      rw [hwt, htb, hBB]
      exact ⟨_, heap_new w1 _, HBM.out.still (HT1.out.alloc _), fun _ => HOWN.out⟩
    have hrb : tb < wt.heap.size := TkAt.lt hrd
    have hB : B ≤ tb := by rw [hBB, htb]; exact HT1.out.size
    have hyt : wt.heap[w.heap.size]? = some (.cells zQv.toArray 25 (0, 0)) := by rw [hwt]; exact ((Turn.refl [] w1).alloc _).heap HY1.out (by simp)
    have hny : w.heap.size < tb := by rw [htb]; exact lt_of_heap HY1.out
    have HWT := hide hwt
    have HTB := hide htb
    have HTT := hide htt
    have HRD := hide hrd
    have HYT := hide hyt
    have HBB := hide hBB
    have hnb := lt_of_heap HY1.out
    clear hwt htt htb hrd hyt hBB hnb
    obtain ⟨n0, t0, e0⟩ : ∃ n t, Bt.numR (l, false) = (n, t) := ⟨_, _, rfl⟩
    have q0 := (numR_len (l, false)).1
    rw [e0] at q0
    simp only at q0
    have E0 := hide e0
    clear e0
    obtain ⟨n1, t1, e1⟩ : ∃ n t, Bt.numR t0 = (n, t) := ⟨_, _, rfl⟩
    have q1 := (numR_len t0).1
    rw [e1] at q1
    simp only at q1
    have E1 := hide e1
    clear e1
    go_wp2_with fail
    rw [show w1.alloc (.cells #[.slice (advA a 4 c) (n - 4) (c - 4), .bool false] 48) = wt from HWT.out.symm, ← HTB.out]
    refine (tnum_any _ tb B (l, false) HRD.out hB (by simp only; omega)).mono ?_
    rintro e v0 ⟨rfl, hr, ht⟩
    rw [E0.out] at hr ⊢
    simp only at hr ⊢
    have HR0 := hide hr
    have HV0 := hide (ht)
    clear hr ht
    go_wp2_with fail
    refine (tnum_any _ tb B t0 HR0.out hB (by omega)).mono ?_
    rintro e v1 ⟨rfl, hr, ht⟩
    rw [E1.out] at hr ⊢
    simp only at hr ⊢
    have HR1 := hide hr
    have HV1 := hide (HV0.out.same ht)
    clear hr ht
    obtain ⟨X, hX⟩ : ∃ X, X = v1.heap.size := ⟨_, rfl⟩
    obtain ⟨wx, hwx⟩ : ∃ wx, wx = (v1.alloc (.cells #[.int .i64 0, .int .i64 0, .string ⟨#[]⟩, .int .i64 0, .int .i64 0, .int .i64 0, .int .i64 0, .int .i64 0, .int .i64 0, .int .i64 0, .bool false, .bool false, .slice none 0 0] 25)).setRow v1.heap.size #[.int .i64 (n0 : Int), .int .i64 (n1 : Int), .string ⟨#[]⟩, .int .i64 0, .int .i64 0, .int .i64 0, .int .i64 0, .int .i64 0, .int .i64 0, .int .i64 0, .bool false, .bool false, .slice none 0 0] := ⟨_, rfl⟩
    have hbz : (v1.alloc (.cells #[.int .i64 0, .int .i64 0, .string ⟨#[]⟩, .int .i64 0, .int .i64 0, .int .i64 0, .int .i64 0, .int .i64 0, .int .i64 0, .int .i64 0, .bool false, .bool false, .slice none 0 0] 25)).heap[v1.heap.size]? = some (.cells #[.int .i64 0, .int .i64 0, .string ⟨#[]⟩, .int .i64 0, .int .i64 0, .int .i64 0, .int .i64 0, .int .i64 0, .int .i64 0, .int .i64 0, .bool false, .bool false, .slice none 0 0] 25 (0, 0)) := heap_new v1 _
    have hc0 : Tn 25 wt wx tb B X [.int .i64 (n0 : Int), .int .i64 (n1 : Int), .string ⟨#[]⟩, .int .i64 0, .int .i64 0, .int .i64 0, .int .i64 0, .int .i64 0, .int .i64 0, .int .i64 0, .bool false, .bool false, .slice none 0 0] t1 := by
      rw [hwx, hX]
      exact Tn.mk2 (zs := [.int .i64 0, .int .i64 0, .string ⟨#[]⟩, .int .i64 0, .int .i64 0, .int .i64 0, .int .i64 0, .int .i64 0, .int .i64 0, .int .i64 0, .bool false, .bool false, .slice none 0 0]) [.int .i64 (n0 : Int), .int .i64 (n1 : Int), .string ⟨#[]⟩, .int .i64 0, .int .i64 0, .int .i64 0, .int .i64 0, .int .i64 0, .int .i64 0, .int .i64 0, .bool false, .bool false, .slice none 0 0] HR1.out HV1.out hrb
    have HC0 := hide hc0
    have HX2 := hide hX
    have HWX := hide hwx
    have HBZ := hide hbz
    have hXt : wt.heap.size ≤ X := hc0.hx
    clear hc0 hX hwx hbz
    go_upto_region 6 with (refine wpList_store_row rfl _ _ _ rfl v1.heap.size #[.int .i64 (n0 : Int), .int .i64 (n1 : Int), .string ⟨#[]⟩, .int .i64 0, .int .i64 0, .int .i64 0, .int .i64 0, .int .i64 0, .int .i64 0, .int .i64 0, .bool false, .bool false, .slice none 0 0] rfl rfl _ _ HBZ.out (by kernel_rfl) rfl (by kernel_rfl) ?_)
    rw [show (v1.alloc (.cells #[.int .i64 0, .int .i64 0, .string ⟨#[]⟩, .int .i64 0, .int .i64 0, .int .i64 0, .int .i64 0, .int .i64 0, .int .i64 0, .int .i64 0, .bool false, .bool false, .slice none 0 0] 25)).setRow v1.heap.size #[.int .i64 (n0 : Int), .int .i64 (n1 : Int), .string ⟨#[]⟩, .int .i64 0, .int .i64 0, .int .i64 0, .int .i64 0, .int .i64 0, .int .i64 0, .int .i64 0, .bool false, .bool false, .slice none 0 0] = wx from HWX.out.symm, ← HX2.out]
    obtain ⟨c0, f0⟩ := HC0.out.cell 0
    simp only [List.getElem?_cons_zero, List.getElem?_cons_succ] at c0
    go_upto_if 32 with fail
    go_cut [] from 30 to 114 (fun wz => ∃ (tp : List UInt8) (t : TS), (if (n0 : Int) = 7 then ([], t1) else Bt.textR 40 t1) = (tp, t) ∧ Tn 25 wt wz tb B X [.int .i64 (n0 : Int), .int .i64 (n1 : Int), strV tp, .int .i64 0, .int .i64 0, .int .i64 0, .int .i64 0, .int .i64 0, .int .i64 0, .int .i64 0, .bool false, .bool false, .slice none 0 0] t)
    case first =>
      by_cases h7 : n0 = 7
      · have b7 : ((n0 : Int) == 7) = true := by simp; omega
        have b7' : ((n0 : Int) != 7) = false := by simp [bne, b7]
        have HRE : Hid ((if (n0 : Int) = 7 then (([] : List UInt8), t1) else Bt.textR 40 t1) = ([], t1)) := by show _ = _; rw [if_pos (by omega)]
        clear h7
        go_wp2
        go_meet
        case rel => exact ⟨[], t1, HRE.out, HC0.out⟩
      · have b7 : ((n0 : Int) == 7) = false := by simp; omega
        have b7' : ((n0 : Int) != 7) = true := by simp [bne, b7]
        have HRE : Hid ((if (n0 : Int) = 7 then (([] : List UInt8), t1) else Bt.textR 40 t1) = Bt.textR 40 t1) := by show _ = _; rw [if_neg (by omega)]
        clear h7
        obtain ⟨tp, r11, e11⟩ : ∃ n t, Bt.textR 40 t1 = (n, t) := ⟨_, _, rfl⟩
        have q11 := (textR_len 40 t1).1
        rw [e11] at q11
        simp only at q11
        have E11 := hide e11
        clear e11
        go_wp2_with fail
        refine (ttext_any _ tb B t1 HC0.out.rd hB (by omega) 40 (by omega)).mono ?_
        rintro e wn11 ⟨rfl, hr, ht⟩
        rw [E11.out] at hr ⊢
        simp only [strV] at hr ⊢
        have HC1 := hide (HC0.out.num hrb ht hr)
        clear hr ht
        clear c0 f0
        try clear c2 f2
        obtain ⟨c2, f2⟩ := HC1.out.cell 2
        simp only [List.getElem?_cons_zero, List.getElem?_cons_succ] at c2
        have HC2 := hide (HC1.out.set hrb hB 2 (.string ⟨tp.toArray⟩))
        simp only [List.set_cons_zero, List.set_cons_succ] at HC2
        go_wp2
        go_meet
        case rel => exact ⟨tp, r11, by rw [HRE.out, E11.out], HC2.out⟩
    case rest =>
      obtain ⟨tp, t2, hre, htn⟩ := hcut
      have hl3 : t2.1.length ≤ 10000 := by
        have h3 := (textR_len 40 t1).1
        split at hre
        · have := congrArg (fun q => q.2.1.length) hre; simp at this; omega
        · have := congrArg (fun q => q.2.1.length) hre; simp at this; omega
      have HC1 := hide htn
      have HRE := hide hre
      clear htn hre HC0
      simp only [strV] at HC1
      obtain ⟨wb, rfl⟩ : ∃ wb, wb = wc := ⟨_, rfl⟩
      obtain ⟨c0, f0⟩ := HC1.out.cell 0
      simp only [List.getElem?_cons_zero, List.getElem?_cons_succ] at c0
      go_upto_block 0 with fail
      go_cut [] from 30 to 114 (fun wz => ∃ (x : Req) (t : TS) (rv : Value), reqR l = (x, t.2) ∧ Tn 25 wt wz tb B X (reqC x rv).toList t ∧ RecsAt wz rv x.recs ∧ ∀ k ∈ rv.ownBlock, X < k)
      case first =>
        have hcase : n0 = 1 ∨ n0 = 2 ∨ n0 = 3 ∨ n0 = 4 ∨ n0 = 5 ∨ (¬ n0 = 1 ∧ ¬ n0 = 2 ∧ ¬ n0 = 3 ∧ ¬ n0 = 4 ∧ ¬ n0 = 5) := by omega
        rcases hcase with hcase | hcase | hcase | hcase | hcase | hcase
        · as_aux_lemma =>
            have b1 : ((n0 : Int) == 1) = true := by simp; omega
            have b2 : ((n0 : Int) == 2) = false := by simp; omega
            have b3 : ((n0 : Int) == 3) = false := by simp; omega
            have b4 : ((n0 : Int) == 4) = false := by simp; omega
            have b5 : ((n0 : Int) == 5) = false := by simp; omega
            have hk := hide (show n0 = 1 ∧ ¬ n0 = 2 ∧ ¬ n0 = 3 ∧ ¬ n0 = 4 ∧ ¬ n0 = 5 by omega)
            clear hcase
            obtain ⟨a, r11, e11⟩ : ∃ n t, Bt.numR t2 = (n, t) := ⟨_, _, rfl⟩
            have q11 := (numR_len t2).1
            rw [e11] at q11
            simp only at q11
            have E11 := hide e11
            clear e11
            go_wp2_with fail
            refine (tnum_any _ tb B t2 HC1.out.rd hB (by omega)).mono ?_
            rintro e wn11 ⟨rfl, hr, ht⟩
            rw [E11.out] at hr ⊢
            simp only [strV] at hr ⊢
            have HC2 := hide (HC1.out.num hrb ht hr)
            clear hr ht
            clear c0 f0
            try clear c3 f3
            obtain ⟨c3, f3⟩ := HC2.out.cell 3
            simp only [List.getElem?_cons_zero, List.getElem?_cons_succ] at c3
            have HC3 := hide (HC2.out.set hrb hB 3 (.int .i64 (a : Int)))
            simp only [List.set_cons_zero, List.set_cons_succ] at HC3
            obtain ⟨bb, r12, e12⟩ : ∃ n t, truR r11 = (n, t) := ⟨_, _, rfl⟩
            have q12 := truR_len r11
            rw [e12] at q12
            simp only at q12
            have E12 := hide e12
            clear e12
            go_wp2_with fail
            refine (ttru_any _ tb B r11 HC3.out.rd hB (by omega)).mono ?_
            rintro e wn12 ⟨rfl, hr, ht⟩
            rw [E12.out] at hr ⊢
            simp only [strV] at hr ⊢
            have HC4 := hide (HC3.out.num hrb ht hr)
            clear hr ht
            clear c3 f3
            try clear c10 f10
            obtain ⟨c10, f10⟩ := HC4.out.cell 10
            simp only [List.getElem?_cons_zero, List.getElem?_cons_succ] at c10
            have HC5 := hide (HC4.out.set hrb hB 10 (.bool bb))
            simp only [List.set_cons_zero, List.set_cons_succ] at HC5
            go_wp2_with fail
            refine (trecsF_any _ tb B r12 HC5.out.rd hB (by omega)).mono ?_
            rintro e wl ⟨sl, rfl, hrow, hrd, htl⟩
            obtain ⟨L, hL⟩ : ∃ L, L = listR (recR false) (Bt.numR r12).1 (Bt.numR r12).2 := ⟨_, rfl⟩
            rw [← hL] at hrow hrd
            have hok := (listR_all false (Bt.numR r12).1 (Bt.numR r12).2 (by have := (numR_len r12).1; omega)).1
            rw [← hL] at hok
            obtain ⟨la, ln, lc, rfl⟩ := hrow.some_slice
            have hrec := hrow.recs (fun r hr => (hok r hr).ok)
            have hlt : ∀ k ∈ (Value.slice la ln lc).ownBlock, X < k := fun k hk => by have := (hrow.lt k hk).1; have := lt_of_heap HC5.out.x; omega
            have HLL := hide hL
            have HLT := hide hlt
            have HREC := hide hrec
            have HC6 := hide (HC5.out.num hrb htl hrd)
            clear hrow hrd htl hok hL hlt hrec
            clear c10 f10
            try clear c12 f12
            obtain ⟨c12, f12⟩ := HC6.out.cell 12
            simp only [List.getElem?_cons_zero, List.getElem?_cons_succ] at c12
            have HC7 := hide (HC6.out.set hrb hB 12 (.slice la ln lc))
            simp only [List.set_cons_zero, List.set_cons_succ] at HC7
            have HE : Hid (reqR l = ((⟨(n0 : Int), (n1 : Int), tp, (a : Int), 0, 0, 0, 0, 0, 0, bb, false, L.1⟩ : Req), (L.2).2)) := by
              show _ = _
              have hk' := hk.out
              have hre := HRE.out
              unfold reqR
              simp only [E0.out, E1.out, hre]
              unfold tailR mkQ
              simp [E11.out, E12.out, hk', HLL.out]
            go_wp2
            go_meet
            case rel => exact ⟨(⟨(n0 : Int), (n1 : Int), tp, (a : Int), 0, 0, 0, 0, 0, 0, bb, false, L.1⟩ : Req), L.2, .slice la ln lc, HE.out, HC7.out, (HREC.out.kept ((Turn.refl [X] wl).setCell (.inl (by simp)) (.slice la ln lc)) (fun k hk _ hm => by have := HLT.out k hk; simp at hm; omega)), HLT.out⟩
        · as_aux_lemma =>
            have b1 : ((n0 : Int) == 1) = false := by simp; omega
            have b2 : ((n0 : Int) == 2) = true := by simp; omega
            have b3 : ((n0 : Int) == 3) = false := by simp; omega
            have b4 : ((n0 : Int) == 4) = false := by simp; omega
            have b5 : ((n0 : Int) == 5) = false := by simp; omega
            have hk := hide (show ¬ n0 = 1 ∧ n0 = 2 ∧ ¬ n0 = 3 ∧ ¬ n0 = 4 ∧ ¬ n0 = 5 by omega)
            clear hcase
            obtain ⟨a, r11, e11⟩ : ∃ n t, Bt.numR t2 = (n, t) := ⟨_, _, rfl⟩
            have q11 := (numR_len t2).1
            rw [e11] at q11
            simp only at q11
            have E11 := hide e11
            clear e11
            go_wp2_with fail
            refine (tnum_any _ tb B t2 HC1.out.rd hB (by omega)).mono ?_
            rintro e wn11 ⟨rfl, hr, ht⟩
            rw [E11.out] at hr ⊢
            simp only [strV] at hr ⊢
            have HC2 := hide (HC1.out.num hrb ht hr)
            clear hr ht
            clear c0 f0
            try clear c3 f3
            obtain ⟨c3, f3⟩ := HC2.out.cell 3
            simp only [List.getElem?_cons_zero, List.getElem?_cons_succ] at c3
            have HC3 := hide (HC2.out.set hrb hB 3 (.int .i64 (a : Int)))
            simp only [List.set_cons_zero, List.set_cons_succ] at HC3
            obtain ⟨b2, r12, e12⟩ : ∃ n t, Bt.numR r11 = (n, t) := ⟨_, _, rfl⟩
            have q12 := (numR_len r11).1
            rw [e12] at q12
            simp only at q12
            have E12 := hide e12
            clear e12
            go_wp2_with fail
            refine (tnum_any _ tb B r11 HC3.out.rd hB (by omega)).mono ?_
            rintro e wn12 ⟨rfl, hr, ht⟩
            rw [E12.out] at hr ⊢
            simp only [strV] at hr ⊢
            have HC4 := hide (HC3.out.num hrb ht hr)
            clear hr ht
            clear c3 f3
            try clear c4 f4
            obtain ⟨c4, f4⟩ := HC4.out.cell 4
            simp only [List.getElem?_cons_zero, List.getElem?_cons_succ] at c4
            have HC5 := hide (HC4.out.set hrb hB 4 (.int .i64 (b2 : Int)))
            simp only [List.set_cons_zero, List.set_cons_succ] at HC5
            obtain ⟨c2, r13, e13⟩ : ∃ n t, Bt.numR r12 = (n, t) := ⟨_, _, rfl⟩
            have q13 := (numR_len r12).1
            rw [e13] at q13
            simp only at q13
            have E13 := hide e13
            clear e13
            go_wp2_with fail
            refine (tnum_any _ tb B r12 HC5.out.rd hB (by omega)).mono ?_
            rintro e wn13 ⟨rfl, hr, ht⟩
            rw [E13.out] at hr ⊢
            simp only [strV] at hr ⊢
            have HC6 := hide (HC5.out.num hrb ht hr)
            clear hr ht
            clear c4 f4
            try clear c5 f5
            obtain ⟨c5, f5⟩ := HC6.out.cell 5
            simp only [List.getElem?_cons_zero, List.getElem?_cons_succ] at c5
            have HC7 := hide (HC6.out.set hrb hB 5 (.int .i64 (c2 : Int)))
            simp only [List.set_cons_zero, List.set_cons_succ] at HC7
            obtain ⟨d2, r14, e14⟩ : ∃ n t, Bt.numR r13 = (n, t) := ⟨_, _, rfl⟩
            have q14 := (numR_len r13).1
            rw [e14] at q14
            simp only at q14
            have E14 := hide e14
            clear e14
            go_wp2_with fail
            refine (tnum_any _ tb B r13 HC7.out.rd hB (by omega)).mono ?_
            rintro e wn14 ⟨rfl, hr, ht⟩
            rw [E14.out] at hr ⊢
            simp only [strV] at hr ⊢
            have HC8 := hide (HC7.out.num hrb ht hr)
            clear hr ht
            clear c5 f5
            try clear c6 f6
            obtain ⟨c6, f6⟩ := HC8.out.cell 6
            simp only [List.getElem?_cons_zero, List.getElem?_cons_succ] at c6
            have HC9 := hide (HC8.out.set hrb hB 6 (.int .i64 (d2 : Int)))
            simp only [List.set_cons_zero, List.set_cons_succ] at HC9
            obtain ⟨e2, r15, e15⟩ : ∃ n t, Bt.numR r14 = (n, t) := ⟨_, _, rfl⟩
            have q15 := (numR_len r14).1
            rw [e15] at q15
            simp only at q15
            have E15 := hide e15
            clear e15
            go_wp2_with fail
            refine (tnum_any _ tb B r14 HC9.out.rd hB (by omega)).mono ?_
            rintro e wn15 ⟨rfl, hr, ht⟩
            rw [E15.out] at hr ⊢
            simp only [strV] at hr ⊢
            have HC10 := hide (HC9.out.num hrb ht hr)
            clear hr ht
            clear c6 f6
            try clear c7 f7
            obtain ⟨c7, f7⟩ := HC10.out.cell 7
            simp only [List.getElem?_cons_zero, List.getElem?_cons_succ] at c7
            have HC11 := hide (HC10.out.set hrb hB 7 (.int .i64 (e2 : Int)))
            simp only [List.set_cons_zero, List.set_cons_succ] at HC11
            have HE : Hid (reqR l = ((⟨(n0 : Int), (n1 : Int), tp, (a : Int), (b2 : Int), (c2 : Int), (d2 : Int), (e2 : Int), 0, 0, false, false, []⟩ : Req), (r15).2)) := by
              show _ = _
              have hk' := hk.out
              have hre := HRE.out
              unfold reqR
              simp only [E0.out, E1.out, hre]
              unfold tailR mkQ
              simp [E11.out, E12.out, E13.out, E14.out, E15.out, hk']
            go_wp2
            go_meet
            case rel => exact ⟨(⟨(n0 : Int), (n1 : Int), tp, (a : Int), (b2 : Int), (c2 : Int), (d2 : Int), (e2 : Int), 0, 0, false, false, []⟩ : Req), r15, .slice none 0 0, HE.out, HC11.out, RecRow.nil _ 0, (by simp [Value.ownBlock])⟩
        · as_aux_lemma =>
            have b1 : ((n0 : Int) == 1) = false := by simp; omega
            have b2 : ((n0 : Int) == 2) = false := by simp; omega
            have b3 : ((n0 : Int) == 3) = true := by simp; omega
            have b4 : ((n0 : Int) == 4) = false := by simp; omega
            have b5 : ((n0 : Int) == 5) = false := by simp; omega
            have hk := hide (show ¬ n0 = 1 ∧ ¬ n0 = 2 ∧ n0 = 3 ∧ ¬ n0 = 4 ∧ ¬ n0 = 5 by omega)
            clear hcase
            obtain ⟨a, r11, e11⟩ : ∃ n t, Bt.numR t2 = (n, t) := ⟨_, _, rfl⟩
            have q11 := (numR_len t2).1
            rw [e11] at q11
            simp only at q11
            have E11 := hide e11
            clear e11
            go_wp2_with fail
            refine (tnum_any _ tb B t2 HC1.out.rd hB (by omega)).mono ?_
            rintro e wn11 ⟨rfl, hr, ht⟩
            rw [E11.out] at hr ⊢
            simp only [strV] at hr ⊢
            have HC2 := hide (HC1.out.num hrb ht hr)
            clear hr ht
            clear c0 f0
            try clear c3 f3
            obtain ⟨c3, f3⟩ := HC2.out.cell 3
            simp only [List.getElem?_cons_zero, List.getElem?_cons_succ] at c3
            have HC3 := hide (HC2.out.set hrb hB 3 (.int .i64 (a : Int)))
            simp only [List.set_cons_zero, List.set_cons_succ] at HC3
            obtain ⟨b2, r12, e12⟩ : ∃ n t, Bt.numR r11 = (n, t) := ⟨_, _, rfl⟩
            have q12 := (numR_len r11).1
            rw [e12] at q12
            simp only at q12
            have E12 := hide e12
            clear e12
            go_wp2_with fail
            refine (tnum_any _ tb B r11 HC3.out.rd hB (by omega)).mono ?_
            rintro e wn12 ⟨rfl, hr, ht⟩
            rw [E12.out] at hr ⊢
            simp only [strV] at hr ⊢
            have HC4 := hide (HC3.out.num hrb ht hr)
            clear hr ht
            clear c3 f3
            try clear c8 f8
            obtain ⟨c8, f8⟩ := HC4.out.cell 8
            simp only [List.getElem?_cons_zero, List.getElem?_cons_succ] at c8
            have HC5 := hide (HC4.out.set hrb hB 8 (.int .i64 (b2 : Int)))
            simp only [List.set_cons_zero, List.set_cons_succ] at HC5
            have HE : Hid (reqR l = ((⟨(n0 : Int), (n1 : Int), tp, (a : Int), 0, 0, 0, 0, (b2 : Int), 0, false, false, []⟩ : Req), (r12).2)) := by
              show _ = _
              have hk' := hk.out
              have hre := HRE.out
              unfold reqR
              simp only [E0.out, E1.out, hre]
              unfold tailR mkQ
              simp [E11.out, E12.out, hk']
            go_wp2
            go_meet
            case rel => exact ⟨(⟨(n0 : Int), (n1 : Int), tp, (a : Int), 0, 0, 0, 0, (b2 : Int), 0, false, false, []⟩ : Req), r12, .slice none 0 0, HE.out, HC5.out, RecRow.nil _ 0, (by simp [Value.ownBlock])⟩
        · as_aux_lemma =>
            have b1 : ((n0 : Int) == 1) = false := by simp; omega
            have b2 : ((n0 : Int) == 2) = false := by simp; omega
            have b3 : ((n0 : Int) == 3) = false := by simp; omega
            have b4 : ((n0 : Int) == 4) = true := by simp; omega
            have b5 : ((n0 : Int) == 5) = false := by simp; omega
            have hk := hide (show ¬ n0 = 1 ∧ ¬ n0 = 2 ∧ ¬ n0 = 3 ∧ n0 = 4 ∧ ¬ n0 = 5 by omega)
            clear hcase
            obtain ⟨a, r11, e11⟩ : ∃ n t, Bt.numR t2 = (n, t) := ⟨_, _, rfl⟩
            have q11 := (numR_len t2).1
            rw [e11] at q11
            simp only at q11
            have E11 := hide e11
            clear e11
            go_wp2_with fail
            refine (tnum_any _ tb B t2 HC1.out.rd hB (by omega)).mono ?_
            rintro e wn11 ⟨rfl, hr, ht⟩
            rw [E11.out] at hr ⊢
            simp only [strV] at hr ⊢
            have HC2 := hide (HC1.out.num hrb ht hr)
            clear hr ht
            clear c0 f0
            try clear c3 f3
            obtain ⟨c3, f3⟩ := HC2.out.cell 3
            simp only [List.getElem?_cons_zero, List.getElem?_cons_succ] at c3
            have HC3 := hide (HC2.out.set hrb hB 3 (.int .i64 (a : Int)))
            simp only [List.set_cons_zero, List.set_cons_succ] at HC3
            obtain ⟨b2, r12, e12⟩ : ∃ n t, Bt.numR r11 = (n, t) := ⟨_, _, rfl⟩
            have q12 := (numR_len r11).1
            rw [e12] at q12
            simp only at q12
            have E12 := hide e12
            clear e12
            go_wp2_with fail
            refine (tnum_any _ tb B r11 HC3.out.rd hB (by omega)).mono ?_
            rintro e wn12 ⟨rfl, hr, ht⟩
            rw [E12.out] at hr ⊢
            simp only [strV] at hr ⊢
            have HC4 := hide (HC3.out.num hrb ht hr)
            clear hr ht
            clear c3 f3
            try clear c4 f4
            obtain ⟨c4, f4⟩ := HC4.out.cell 4
            simp only [List.getElem?_cons_zero, List.getElem?_cons_succ] at c4
            have HC5 := hide (HC4.out.set hrb hB 4 (.int .i64 (b2 : Int)))
            simp only [List.set_cons_zero, List.set_cons_succ] at HC5
            have HE : Hid (reqR l = ((⟨(n0 : Int), (n1 : Int), tp, (a : Int), (b2 : Int), 0, 0, 0, 0, 0, false, false, []⟩ : Req), (r12).2)) := by
              show _ = _
              have hk' := hk.out
              have hre := HRE.out
              unfold reqR
              simp only [E0.out, E1.out, hre]
              unfold tailR mkQ
              simp [E11.out, E12.out, hk']
            go_wp2
            go_meet
            case rel => exact ⟨(⟨(n0 : Int), (n1 : Int), tp, (a : Int), (b2 : Int), 0, 0, 0, 0, 0, false, false, []⟩ : Req), r12, .slice none 0 0, HE.out, HC5.out, RecRow.nil _ 0, (by simp [Value.ownBlock])⟩
        · as_aux_lemma =>
            have b1 : ((n0 : Int) == 1) = false := by simp; omega
            have b2 : ((n0 : Int) == 2) = false := by simp; omega
            have b3 : ((n0 : Int) == 3) = false := by simp; omega
            have b4 : ((n0 : Int) == 4) = false := by simp; omega
            have b5 : ((n0 : Int) == 5) = true := by simp; omega
            have hk := hide (show ¬ n0 = 1 ∧ ¬ n0 = 2 ∧ ¬ n0 = 3 ∧ ¬ n0 = 4 ∧ n0 = 5 by omega)
            clear hcase
            obtain ⟨a, r11, e11⟩ : ∃ n t, Bt.numR t2 = (n, t) := ⟨_, _, rfl⟩
            have q11 := (numR_len t2).1
            rw [e11] at q11
            simp only at q11
            have E11 := hide e11
            clear e11
            go_wp2_with fail
            refine (tnum_any _ tb B t2 HC1.out.rd hB (by omega)).mono ?_
            rintro e wn11 ⟨rfl, hr, ht⟩
            rw [E11.out] at hr ⊢
            simp only [strV] at hr ⊢
            have HC2 := hide (HC1.out.num hrb ht hr)
            clear hr ht
            clear c0 f0
            try clear c9 f9
            obtain ⟨c9, f9⟩ := HC2.out.cell 9
            simp only [List.getElem?_cons_zero, List.getElem?_cons_succ] at c9
            have HC3 := hide (HC2.out.set hrb hB 9 (.int .i64 (a : Int)))
            simp only [List.set_cons_zero, List.set_cons_succ] at HC3
            obtain ⟨bb, r12, e12⟩ : ∃ n t, truR r11 = (n, t) := ⟨_, _, rfl⟩
            have q12 := truR_len r11
            rw [e12] at q12
            simp only at q12
            have E12 := hide e12
            clear e12
            go_wp2_with fail
            refine (ttru_any _ tb B r11 HC3.out.rd hB (by omega)).mono ?_
            rintro e wn12 ⟨rfl, hr, ht⟩
            rw [E12.out] at hr ⊢
            simp only [strV] at hr ⊢
            have HC4 := hide (HC3.out.num hrb ht hr)
            clear hr ht
            clear c9 f9
            try clear c11 f11
            obtain ⟨c11, f11⟩ := HC4.out.cell 11
            simp only [List.getElem?_cons_zero, List.getElem?_cons_succ] at c11
            have HC5 := hide (HC4.out.set hrb hB 11 (.bool bb))
            simp only [List.set_cons_zero, List.set_cons_succ] at HC5
            have HE : Hid (reqR l = ((⟨(n0 : Int), (n1 : Int), tp, 0, 0, 0, 0, 0, 0, (a : Int), false, bb, []⟩ : Req), (r12).2)) := by
              show _ = _
              have hk' := hk.out
              have hre := HRE.out
              unfold reqR
              simp only [E0.out, E1.out, hre]
              unfold tailR mkQ
              simp [E11.out, E12.out, hk']
            go_wp2
            go_meet
            case rel => exact ⟨(⟨(n0 : Int), (n1 : Int), tp, 0, 0, 0, 0, 0, 0, (a : Int), false, bb, []⟩ : Req), r12, .slice none 0 0, HE.out, HC5.out, RecRow.nil _ 0, (by simp [Value.ownBlock])⟩
        · as_aux_lemma =>
            have b1 : ((n0 : Int) == 1) = false := by simp; omega
            have b2 : ((n0 : Int) == 2) = false := by simp; omega
            have b3 : ((n0 : Int) == 3) = false := by simp; omega
            have b4 : ((n0 : Int) == 4) = false := by simp; omega
            have b5 : ((n0 : Int) == 5) = false := by simp; omega
            have hk := hide (show ¬ n0 = 1 ∧ ¬ n0 = 2 ∧ ¬ n0 = 3 ∧ ¬ n0 = 4 ∧ ¬ n0 = 5 by omega)
            clear hcase
            have HE : Hid (reqR l = ((⟨(n0 : Int), (n1 : Int), tp, 0, 0, 0, 0, 0, 0, 0, false, false, []⟩ : Req), (t2).2)) := by
              show _ = _
              have hk' := hk.out
              have hre := HRE.out
              have hk' : ¬ (n0 : Int) = 1 ∧ ¬ (n0 : Int) = 2 ∧ ¬ (n0 : Int) = 3 ∧ ¬ (n0 : Int) = 4 ∧ ¬ (n0 : Int) = 5 := by omega
              unfold reqR
              simp only [E0.out, E1.out, hre]
              unfold tailR mkQ
              simp [hk']
            go_wp2
            go_meet
            case rel => exact ⟨(⟨(n0 : Int), (n1 : Int), tp, 0, 0, 0, 0, 0, 0, 0, false, false, []⟩ : Req), t2, .slice none 0 0, HE.out, HC1.out, RecRow.nil _ 0, (by simp [Value.ownBlock])⟩
      case rest =>
        obtain ⟨x, t, rv, hrr, htn, hrec, hrl⟩ := hcut
        obtain ⟨bad⟩ : Nonempty Unit := ⟨()⟩
        have hsm := HSM.out
        rw [hrr] at hsm
        have hiff := HIFF.out
        rw [hrr] at hiff
        simp only at hsm hiff
        have HSM2 := hide hsm
        have HIFF2 := hide hiff
        have HRR := hide hrr
        have HTN := hide htn
        have HREC := hide hrec
        have HRL := hide hrl
        clear hrr htn hrec hrl hsm hiff
        obtain ⟨kind, corr, topic, part, offset, most, least, wait, time, parts, sure, compact, recs⟩ := x
        obtain ⟨XX, hXX⟩ : ∃ XX : Req, XX = ⟨kind, corr, topic, part, offset, most, least, wait, time, parts, sure, compact, recs⟩ := ⟨_, rfl⟩
        have HXX := hide hXX
        clear hXX
        obtain ⟨ra, rc, rfl, -, -, -, -⟩ := HREC.out.form
        have hlx : (loadVar 25 ⟨X, 0, none⟩).run Tryd.prog wc = .ok (.agg #[.int .i64 kind, .int .i64 corr, strV topic, .int .i64 part, .int .i64 offset, .int .i64 most, .int .i64 least, .int .i64 wait, .int .i64 time, .int .i64 parts, .bool sure, .bool compact, .slice ra recs.length rc]) wc := load13 HTN.out.x
        have HLX := hide hlx
        clear hlx
        go_wp2_with (refine wpList_loadT rfl _ _ rfl ⟨X, 0, none⟩ rfl _ HLX.out ?_)
        refine (refAsk_any wc ⟨kind, corr, topic, part, offset, most, least, wait, time, parts, sure, compact, recs⟩ (.slice ra recs.length rc) HREC.out HSM2.out.1 HSM2.out.2.1 HSM2.out.2.2).mono ?_
        rintro e w3 ⟨v3, rfl, hr3, ht3⟩
        rw [← HXX.out] at hr3 ⊢
        obtain ⟨m, e2, hm⟩ : ∃ m e2, askM XX = (m, e2) := ⟨_, _, rfl⟩
        rw [hm] at hr3 ⊢
        simp only at hr3 ⊢
        have hok : okQ b XX ↔ m = b.take n ∧ e2 = 0 := by unfold okQ; rw [hm, HW.out]; simp
        have hb3 := hr3.bytes
        have hbx : ∀ Q, Turn [] w3 Q → Q.heap[X]? = some (.cells #[.int .i64 kind, .int .i64 corr, strV topic, .int .i64 part, .int .i64 offset, .int .i64 most, .int .i64 least, .int .i64 wait, .int .i64 time, .int .i64 parts, .bool sure, .bool compact, .slice ra recs.length rc] 25 (0, 0)) ∧ Q.heap[w.heap.size]? = some (.cells zQv.toArray 25 (0, 0)) ∧ Turn [] w Q ∧ Turn [] wc Q := by
          intro Q hQ
          have h2 : Turn [] wc Q := ht3.same hQ
          have h5 : Turn [] wt wc ∨ True := .inr trivial
          have h3 : Turn [tb] wt Q := HTN.out.turn.same (h2.mono (by simp))
          refine ⟨h2.heap HTN.out.x (by simp), h3.heap HYT.out (by simp; omega), ?_, h2⟩
          exact HTT.out.trans h3 (fun k hk => .inr (by simp at hk; omega))
        have hrd5 : ∀ Z, Turn [] w3 Z → TkAt Z tb B t := fun Z hZ => (HTN.out.rd.still ht3).still hZ
        have HOK := hide hok
        have HB3 := hide hb3
        have HTK3 := hide (HTK.out.still (hbx w3 (Turn.refl _ _)).2.2.1)
        have HBX := hide hbx
        have HRD5 := hide hrd5
        clear hok hb3 ht3 hr3 hm hbx hrd5
        obtain ⟨tl, bd⟩ := t
        simp only at HIFF2 HRR
        cases bd with
        | true =>
          have HM : Hid (askedM b = (zQ, 0, 3)) := by show _ = _; rw [HIFF2.out, if_neg (fun h => by simp at h)]
          go_wp2
          refine wp_region_loose (Turn []) (by kernel_rfl) (by kernel_rfl) (by kernel_rfl) (by kernel_rfl) rfl (Turn.refl _) (fun _ _ _ h k => h.same k) ?_
          apply Lo.runx 1 rfl rfl [] (by kernel_rfl) (Turn.refl _)
          apply Exists.intro; apply And.intro
          · intro u w1 hR hF
            clear hF
            refine ⟨rfl, fun a ha K hK => ?_⟩
            have e7 := ha 7
            conv at e7 => rhs; whnf
            clear ha
            go_simp
            refine hK _ ?_; rfl
          apply Lo.runx 2 rfl rfl [0] (by kernel_rfl) (Turn.refl _)
          apply Exists.intro; apply And.intro
          · intro u w1 hR hF
            obtain ⟨h0, -⟩ := hF
            refine ⟨rfl, fun a ha K hK => ?_⟩
            have e95 := (ha 95).trans h0
            clear ha h0
            go_simp
            refine hK _ ?_; rfl
          apply Lo.runx 3 rfl rfl [1] (by kernel_rfl) (Turn.refl _)
          apply Exists.intro; apply And.intro
          · intro u w1 hR hF
            obtain ⟨h1, -⟩ := hF
            refine ⟨rfl, fun a ha K hK => ?_⟩
            have e96 := (ha 96).trans h1
            clear ha h1
            go_simp
            refine hK _ ?_; rfl
          apply Lo.runx 4 rfl rfl [2] (by kernel_rfl) (Turn.refl _)
          apply Exists.intro; apply And.intro
          · intro u w1 hR hF
            obtain ⟨h2, -⟩ := hF
            refine ⟨rfl, fun a ha K hK => ?_⟩
            have e97 := (ha 97).trans h2
            clear ha h2
            have kb := (HRD5.out w1 ((Turn.refl [] _).drew.same hR)).cell1.1
            go_simp
            refine hK _ ?_; rfl
          apply Lo.runx 5 rfl rfl [3] (by kernel_rfl) (Turn.refl _)
          apply Exists.intro; apply And.intro
          · intro u w1 hR hF
            obtain ⟨h3, -⟩ := hF
            refine ⟨rfl, fun a ha K hK => ?_⟩
            have e98 := (ha 98).trans h3
            clear ha h3
            go_simp
            refine hK _ ?_; rfl
          refine Lo.pass 6 rfl rfl [4] (by kernel_rfl) (Turn.refl _) (fun u w1 hR hF => ?_) ?_
          · exact .inl ⟨true, hF.1, rfl⟩
          refine Lo.pass 7 rfl rfl [4] (by kernel_rfl) (Turn.refl _) (fun u w1 hR hF => ?_) ?_
          · exact .inl ⟨true, hF.1, rfl⟩
          apply Lo.runx 8 rfl rfl [4, 6] (by kernel_rfl) (Turn.refl _)
          apply Exists.intro; apply And.intro
          · intro u w1 hR hF
            obtain ⟨h4, h6, -⟩ := hF
            refine ⟨rfl, fun a ha K hK => ?_⟩
            have e99 := (ha 99).trans h4
            have e101 := (ha 101).trans h6
            clear ha h4 h6
            go_simp
            refine hK _ ?_; rfl
          apply Lo.runx 9 rfl rfl [7] (by kernel_rfl) (Turn.refl _)
          apply Exists.intro; apply And.intro
          · intro u w1 hR hF
            obtain ⟨h7, -⟩ := hF
            refine ⟨rfl, fun a ha K hK => ?_⟩
            have e102 := (ha 102).trans h7
            clear ha h7
            go_simp
            refine hK _ ?_; rfl
          refine Lo.pass 10 rfl rfl [8] (by kernel_rfl) (Turn.refl _) (fun u w1 hR hF => ?_) ?_
          · exact .inl ⟨true, hF.1, rfl⟩
          refine Lo.pass 11 rfl rfl [8] (by kernel_rfl) (Turn.refl _) (fun u w1 hR hF => ?_) ?_
          · exact .inl ⟨true, hF.1, rfl⟩
          refine Lo.pass 12 rfl rfl [8] (by kernel_rfl) (Turn.refl _) (fun u w1 hR hF => ?_) ?_
          · exact .inl ⟨true, hF.1, rfl⟩
          refine Lo.pass 13 rfl rfl [8] (by kernel_rfl) (Turn.refl _) (fun u w1 hR hF => ?_) ?_
          · exact .inl ⟨true, hF.1, rfl⟩
          refine Lo.pass 14 rfl rfl [8] (by kernel_rfl) (Turn.refl _) (fun u w1 hR hF => ?_) ?_
          · exact .inl ⟨true, hF.1, rfl⟩
          refine Lo.pass 15 rfl rfl [8] (by kernel_rfl) (Turn.refl _) (fun u w1 hR hF => ?_) ?_
          · exact .inl ⟨true, hF.1, rfl⟩
          refine Lo.pass 16 rfl rfl [8] (by kernel_rfl) (Turn.refl _) (fun u w1 hR hF => ?_) ?_
          · exact .inl ⟨true, hF.1, rfl⟩
          apply Lo.runx 17 rfl rfl [8, 15] (by kernel_rfl) (Turn.refl _)
          apply Exists.intro; apply And.intro
          · intro u w1 hR hF
            obtain ⟨h8, h15, -⟩ := hF
            refine ⟨rfl, fun a ha K hK => ?_⟩
            have e103 := (ha 103).trans h8
            have e110 := (ha 110).trans h15
            clear ha h8 h15
            go_simp
            refine hK _ ?_; rfl
          refine Lo.done [16] (fun u w1 hRd hSd hF => ?_)
          clear hSd
          obtain ⟨f16, -⟩ := hF
          have d16 : u 16 = _ := f16
          clear f16
          simp only [putFrom, Act.put, List.setIfInBounds_toArray, List.set_cons_succ, List.set_cons_zero, Nat.zero_add, Nat.reduceAdd, d16]
          have htw4 : Turn [] w3 w1 := (Turn.refl [] w3).drew.same hRd
          clear hRd
          have hbx := HBX.out _ htw4
          have HBX2 := hide hbx
          clear hbx htw4
          have HF := hide (fin_row [.int .i64 0, .int .i64 0, .string ⟨#[]⟩, .int .i64 0, .int .i64 0, .int .i64 0, .int .i64 0, .int .i64 0, .int .i64 0, .int .i64 0, .bool false, .bool false, .slice none 0 0] HBX2.out.2.1 HBX2.out.2.2.1 (Nat.le_refl _))
          go_wp2_with (refine wpList_store_row rfl _ _ _ rfl w.heap.size #[.int .i64 0, .int .i64 0, .string ⟨#[]⟩, .int .i64 0, .int .i64 0, .int .i64 0, .int .i64 0, .int .i64 0, .int .i64 0, .int .i64 0, .bool false, .bool false, .slice none 0 0] rfl rfl _ _ HBX2.out.2.1 (by kernel_rfl) rfl (by kernel_rfl) ?_)
          have hld := load13 HF.out.1
          refine bodyPost_ret (v := .tuple #[.agg #[.int .i64 0, .int .i64 0, .string ⟨#[]⟩, .int .i64 0, .int .i64 0, .int .i64 0, .int .i64 0, .int .i64 0, .int .i64 0, .int .i64 0, .bool false, .bool false, .slice none 0 0], .int .i64 0, .int .i64 3]) (by simp [results, Tryd.results5, asAddr, hld, Result.andThen]) rfl ?_
          rw [HM.out]
          exact ⟨.slice none 0 0, rfl, RecRow.nil _ 0, HF.out.2.1⟩
        | false =>
          by_cases h2 : e2 = 0
          · subst h2
            by_cases heq : m = b.take n
            · have HEQ := hide heq
              have HM : Hid (askedM b = (XX, n, 0)) := by show _ = _; rw [HIFF2.out, ← HXX.out, if_pos ⟨rfl, HOK.out.2 ⟨heq, by trivial⟩⟩]
              clear heq
              go_wp2
              refine wp_region_loose (Turn []) (by kernel_rfl) (by kernel_rfl) (by kernel_rfl) (by kernel_rfl) rfl (Turn.refl _) (fun _ _ _ h k => h.same k) ?_
              apply Lo.runx 1 rfl rfl [] (by kernel_rfl) (Turn.refl _)
              apply Exists.intro; apply And.intro
              · intro u w1 hR hF
                clear hF
                refine ⟨rfl, fun a ha K hK => ?_⟩
                have e7 := ha 7
                conv at e7 => rhs; whnf
                clear ha
                go_simp
                refine hK _ ?_; rfl
              apply Lo.runx 2 rfl rfl [0] (by kernel_rfl) (Turn.refl _)
              apply Exists.intro; apply And.intro
              · intro u w1 hR hF
                obtain ⟨h0, -⟩ := hF
                refine ⟨rfl, fun a ha K hK => ?_⟩
                have e95 := (ha 95).trans h0
                clear ha h0
                go_simp
                refine hK _ ?_; rfl
              apply Lo.runx 3 rfl rfl [1] (by kernel_rfl) (Turn.refl _)
              apply Exists.intro; apply And.intro
              · intro u w1 hR hF
                obtain ⟨h1, -⟩ := hF
                refine ⟨rfl, fun a ha K hK => ?_⟩
                have e96 := (ha 96).trans h1
                clear ha h1
                go_simp
                refine hK _ ?_; rfl
              apply Lo.runx 4 rfl rfl [2] (by kernel_rfl) (Turn.refl _)
              apply Exists.intro; apply And.intro
              · intro u w1 hR hF
                obtain ⟨h2, -⟩ := hF
                refine ⟨rfl, fun a ha K hK => ?_⟩
                have e97 := (ha 97).trans h2
                clear ha h2
                have kb := (HRD5.out w1 ((Turn.refl [] _).drew.same hR)).cell1.1
                go_simp
                refine hK _ ?_; rfl
              apply Lo.runx 5 rfl rfl [3] (by kernel_rfl) (Turn.refl _)
              apply Exists.intro; apply And.intro
              · intro u w1 hR hF
                obtain ⟨h3, -⟩ := hF
                refine ⟨rfl, fun a ha K hK => ?_⟩
                have e98 := (ha 98).trans h3
                clear ha h3
                go_simp
                refine hK _ ?_; rfl
              apply Lo.runx 6 rfl rfl [4] (by kernel_rfl) (Turn.refl _)
              apply Exists.intro; apply And.intro
              · intro u w1 hR hF
                obtain ⟨h4, -⟩ := hF
                refine ⟨.inl ⟨false, h4, rfl⟩, fun a ha K hK => ?_⟩
                have e10 := ha 10
                conv at e10 => rhs; whnf
                clear ha h4
                go_simp
                refine hK _ ?_; rfl
              apply Lo.runx 7 rfl rfl [4, 5] (by kernel_rfl) (Turn.refl _)
              apply Exists.intro; apply And.intro
              · intro u w1 hR hF
                obtain ⟨h4, h5, -⟩ := hF
                refine ⟨.inl ⟨false, h4, rfl⟩, fun a ha K hK => ?_⟩
                have e100 := (ha 100).trans h5
                clear ha h4 h5
                go_simp
                refine hK _ ?_; rfl
              apply Lo.runx 8 rfl rfl [4, 6] (by kernel_rfl) (Turn.refl _)
              apply Exists.intro; apply And.intro
              · intro u w1 hR hF
                obtain ⟨h4, h6, -⟩ := hF
                refine ⟨rfl, fun a ha K hK => ?_⟩
                have e99 := (ha 99).trans h4
                have e101 := (ha 101).trans h6
                clear ha h4 h6
                go_simp
                refine hK _ ?_; rfl
              apply Lo.runx 9 rfl rfl [7] (by kernel_rfl) (Turn.refl _)
              apply Exists.intro; apply And.intro
              · intro u w1 hR hF
                obtain ⟨h7, -⟩ := hF
                refine ⟨rfl, fun a ha K hK => ?_⟩
                have e102 := (ha 102).trans h7
                clear ha h7
                go_simp
                refine hK _ ?_; rfl
              apply Lo.runx 10 rfl rfl [8] (by kernel_rfl) (Turn.refl _)
              apply Exists.intro; apply And.intro
              · intro u w1 hR hF
                obtain ⟨h8, -⟩ := hF
                refine ⟨.inl ⟨false, h8, rfl⟩, fun a ha K hK => ?_⟩
                have e9 := ha 9
                conv at e9 => rhs; whnf
                clear ha h8
                go_simp
                refine hK _ ?_; rfl
              apply Lo.runx 11 rfl rfl [8, 9] (by kernel_rfl) (Turn.refl _)
              apply Exists.intro; apply And.intro
              · intro u w1 hR hF
                obtain ⟨h8, h9, -⟩ := hF
                refine ⟨.inl ⟨false, h8, rfl⟩, fun a ha K hK => ?_⟩
                have e104 := (ha 104).trans h9
                clear ha h8 h9
                have hcv := (HB3.out.still ((Turn.refl [] _).drew.same hR)).conv
                go_simp
                refine hK _ ?_; rfl
              apply Lo.runx 12 rfl rfl [8] (by kernel_rfl) (Turn.refl _)
              apply Exists.intro; apply And.intro
              · intro u w1 hR hF
                obtain ⟨h8, -⟩ := hF
                refine ⟨.inl ⟨false, h8, rfl⟩, fun a ha K hK => ?_⟩
                have e0 := ha 0
                conv at e0 => rhs; whnf
                clear ha h8
                go_simp
                refine hK _ ?_; rfl
              apply Lo.runx 13 rfl rfl [8] (by kernel_rfl) (Turn.refl _)
              apply Exists.intro; apply And.intro
              · intro u w1 hR hF
                obtain ⟨h8, -⟩ := hF
                refine ⟨.inl ⟨false, h8, rfl⟩, fun a ha K hK => ?_⟩
                have e5 := ha 5
                conv at e5 => rhs; whnf
                clear ha h8
                go_simp
                refine hK _ ?_; rfl
              apply Lo.runx 14 rfl rfl [8, 11, 12] (by kernel_rfl) (Turn.refl _)
              apply Exists.intro; apply And.intro
              · intro u w1 hR hF
                obtain ⟨h8, h11, h12, -⟩ := hF
                refine ⟨.inl ⟨false, h8, rfl⟩, fun a ha K hK => ?_⟩
                have e106 := (ha 106).trans h11
                have e107 := (ha 107).trans h12
                clear ha h8 h11 h12
                go_simp
                refine hK _ ?_; rfl
              apply Lo.runx 15 rfl rfl [8, 13] (by kernel_rfl) (Turn.refl _)
              apply Exists.intro; apply And.intro
              · intro u w1 hR hF
                obtain ⟨h8, h13, -⟩ := hF
                refine ⟨.inl ⟨false, h8, rfl⟩, fun a ha K hK => ?_⟩
                have e108 := (ha 108).trans h13
                clear ha h8 h13
                have hcv := (HTK3.out.still ((Turn.refl [] _).drew.same hR)).conv
                go_simp
                refine hK _ ?_; rfl
              refine Lo.runv 16 rfl rfl [8, 10, 14] (.bool (false)) (by kernel_rfl) (fun u w1 hR hF => ?_) (Turn.refl _) ?_
              · obtain ⟨h8, h10, h14, -⟩ := hF
                refine ⟨.inl ⟨false, h8, rfl⟩, fun a ha K hK => ?_⟩
                have e105 := (ha 105).trans h10
                have e109 := (ha 109).trans h14
                clear ha h8 h10 h14
                go_simp
                refine hK _ ?_
                have hq0 := HEQ.out
                simp [hq0]
              apply Lo.runx 17 rfl rfl [8, 15] (by kernel_rfl) (Turn.refl _)
              apply Exists.intro; apply And.intro
              · intro u w1 hR hF
                obtain ⟨h8, h15, -⟩ := hF
                refine ⟨rfl, fun a ha K hK => ?_⟩
                have e103 := (ha 103).trans h8
                have e110 := (ha 110).trans h15
                clear ha h8 h15
                go_simp
                refine hK _ ?_; rfl
              refine Lo.done [16] (fun u w1 hRd hSd hF => ?_)
              clear hSd
              obtain ⟨f16, -⟩ := hF
              have d16 : u 16 = _ := f16
              clear f16
              simp only [putFrom, Act.put, List.setIfInBounds_toArray, List.set_cons_succ, List.set_cons_zero, Nat.zero_add, Nat.reduceAdd, d16]
              have htw4 : Turn [] w3 w1 := (Turn.refl [] w3).drew.same hRd
              clear hRd
              have hbx := HBX.out _ htw4
              have HBX2 := hide hbx
              clear hbx htw4
              go_upto_region 31 with fail
              refine wp_region_lit ?_
              refine wpList_loadT rfl _ _ rfl ⟨X, 0, none⟩ rfl _ (load13 HBX2.out.1) ?_
              have HF := hide (fin_row [.int .i64 kind, .int .i64 corr, strV topic, .int .i64 part, .int .i64 offset, .int .i64 most, .int .i64 least, .int .i64 wait, .int .i64 time, .int .i64 parts, .bool sure, .bool compact, .slice ra recs.length rc] HBX2.out.2.1 HBX2.out.2.2.1 (Nat.le_refl _))
              go_simp
              go_wp2_with (refine wpList_store_row rfl _ _ _ rfl w.heap.size #[.int .i64 kind, .int .i64 corr, strV topic, .int .i64 part, .int .i64 offset, .int .i64 most, .int .i64 least, .int .i64 wait, .int .i64 time, .int .i64 parts, .bool sure, .bool compact, .slice ra recs.length rc] rfl rfl _ _ HBX2.out.2.1 (by kernel_rfl) rfl (by kernel_rfl) ?_)
              have hld := load13 HF.out.1
              refine bodyPost_ret (v := .tuple #[.agg #[.int .i64 kind, .int .i64 corr, strV topic, .int .i64 part, .int .i64 offset, .int .i64 most, .int .i64 least, .int .i64 wait, .int .i64 time, .int .i64 parts, .bool sure, .bool compact, .slice ra recs.length rc], .int .i64 n, .int .i64 0]) (by simp [results, Tryd.results5, asAddr, hld, Result.andThen]) rfl ?_
              rw [HM.out]
              refine ⟨.slice ra recs.length rc, by rw [HXX.out]; rfl, ?_, HF.out.2.1⟩
              · rw [HXX.out]
                exact (HREC.out.still HBX2.out.2.2.2).kept HF.out.2.2 (fun k hk _ hm => by have := HRL.out k hk; simp at hm; omega)
            · have HEQ := hide heq
              have HM : Hid (askedM b = (zQ, 0, 3)) := by show _ = _; rw [HIFF2.out, ← HXX.out, if_neg (fun h => heq (HOK.out.1 h.2).1)]
              clear heq
              go_wp2
              refine wp_region_loose (Turn []) (by kernel_rfl) (by kernel_rfl) (by kernel_rfl) (by kernel_rfl) rfl (Turn.refl _) (fun _ _ _ h k => h.same k) ?_
              apply Lo.runx 1 rfl rfl [] (by kernel_rfl) (Turn.refl _)
              apply Exists.intro; apply And.intro
              · intro u w1 hR hF
                clear hF
                refine ⟨rfl, fun a ha K hK => ?_⟩
                have e7 := ha 7
                conv at e7 => rhs; whnf
                clear ha
                go_simp
                refine hK _ ?_; rfl
              apply Lo.runx 2 rfl rfl [0] (by kernel_rfl) (Turn.refl _)
              apply Exists.intro; apply And.intro
              · intro u w1 hR hF
                obtain ⟨h0, -⟩ := hF
                refine ⟨rfl, fun a ha K hK => ?_⟩
                have e95 := (ha 95).trans h0
                clear ha h0
                go_simp
                refine hK _ ?_; rfl
              apply Lo.runx 3 rfl rfl [1] (by kernel_rfl) (Turn.refl _)
              apply Exists.intro; apply And.intro
              · intro u w1 hR hF
                obtain ⟨h1, -⟩ := hF
                refine ⟨rfl, fun a ha K hK => ?_⟩
                have e96 := (ha 96).trans h1
                clear ha h1
                go_simp
                refine hK _ ?_; rfl
              apply Lo.runx 4 rfl rfl [2] (by kernel_rfl) (Turn.refl _)
              apply Exists.intro; apply And.intro
              · intro u w1 hR hF
                obtain ⟨h2, -⟩ := hF
                refine ⟨rfl, fun a ha K hK => ?_⟩
                have e97 := (ha 97).trans h2
                clear ha h2
                have kb := (HRD5.out w1 ((Turn.refl [] _).drew.same hR)).cell1.1
                go_simp
                refine hK _ ?_; rfl
              apply Lo.runx 5 rfl rfl [3] (by kernel_rfl) (Turn.refl _)
              apply Exists.intro; apply And.intro
              · intro u w1 hR hF
                obtain ⟨h3, -⟩ := hF
                refine ⟨rfl, fun a ha K hK => ?_⟩
                have e98 := (ha 98).trans h3
                clear ha h3
                go_simp
                refine hK _ ?_; rfl
              apply Lo.runx 6 rfl rfl [4] (by kernel_rfl) (Turn.refl _)
              apply Exists.intro; apply And.intro
              · intro u w1 hR hF
                obtain ⟨h4, -⟩ := hF
                refine ⟨.inl ⟨false, h4, rfl⟩, fun a ha K hK => ?_⟩
                have e10 := ha 10
                conv at e10 => rhs; whnf
                clear ha h4
                go_simp
                refine hK _ ?_; rfl
              apply Lo.runx 7 rfl rfl [4, 5] (by kernel_rfl) (Turn.refl _)
              apply Exists.intro; apply And.intro
              · intro u w1 hR hF
                obtain ⟨h4, h5, -⟩ := hF
                refine ⟨.inl ⟨false, h4, rfl⟩, fun a ha K hK => ?_⟩
                have e100 := (ha 100).trans h5
                clear ha h4 h5
                go_simp
                refine hK _ ?_; rfl
              apply Lo.runx 8 rfl rfl [4, 6] (by kernel_rfl) (Turn.refl _)
              apply Exists.intro; apply And.intro
              · intro u w1 hR hF
                obtain ⟨h4, h6, -⟩ := hF
                refine ⟨rfl, fun a ha K hK => ?_⟩
                have e99 := (ha 99).trans h4
                have e101 := (ha 101).trans h6
                clear ha h4 h6
                go_simp
                refine hK _ ?_; rfl
              apply Lo.runx 9 rfl rfl [7] (by kernel_rfl) (Turn.refl _)
              apply Exists.intro; apply And.intro
              · intro u w1 hR hF
                obtain ⟨h7, -⟩ := hF
                refine ⟨rfl, fun a ha K hK => ?_⟩
                have e102 := (ha 102).trans h7
                clear ha h7
                go_simp
                refine hK _ ?_; rfl
              apply Lo.runx 10 rfl rfl [8] (by kernel_rfl) (Turn.refl _)
              apply Exists.intro; apply And.intro
              · intro u w1 hR hF
                obtain ⟨h8, -⟩ := hF
                refine ⟨.inl ⟨false, h8, rfl⟩, fun a ha K hK => ?_⟩
                have e9 := ha 9
                conv at e9 => rhs; whnf
                clear ha h8
                go_simp
                refine hK _ ?_; rfl
              apply Lo.runx 11 rfl rfl [8, 9] (by kernel_rfl) (Turn.refl _)
              apply Exists.intro; apply And.intro
              · intro u w1 hR hF
                obtain ⟨h8, h9, -⟩ := hF
                refine ⟨.inl ⟨false, h8, rfl⟩, fun a ha K hK => ?_⟩
                have e104 := (ha 104).trans h9
                clear ha h8 h9
                have hcv := (HB3.out.still ((Turn.refl [] _).drew.same hR)).conv
                go_simp
                refine hK _ ?_; rfl
              apply Lo.runx 12 rfl rfl [8] (by kernel_rfl) (Turn.refl _)
              apply Exists.intro; apply And.intro
              · intro u w1 hR hF
                obtain ⟨h8, -⟩ := hF
                refine ⟨.inl ⟨false, h8, rfl⟩, fun a ha K hK => ?_⟩
                have e0 := ha 0
                conv at e0 => rhs; whnf
                clear ha h8
                go_simp
                refine hK _ ?_; rfl
              apply Lo.runx 13 rfl rfl [8] (by kernel_rfl) (Turn.refl _)
              apply Exists.intro; apply And.intro
              · intro u w1 hR hF
                obtain ⟨h8, -⟩ := hF
                refine ⟨.inl ⟨false, h8, rfl⟩, fun a ha K hK => ?_⟩
                have e5 := ha 5
                conv at e5 => rhs; whnf
                clear ha h8
                go_simp
                refine hK _ ?_; rfl
              apply Lo.runx 14 rfl rfl [8, 11, 12] (by kernel_rfl) (Turn.refl _)
              apply Exists.intro; apply And.intro
              · intro u w1 hR hF
                obtain ⟨h8, h11, h12, -⟩ := hF
                refine ⟨.inl ⟨false, h8, rfl⟩, fun a ha K hK => ?_⟩
                have e106 := (ha 106).trans h11
                have e107 := (ha 107).trans h12
                clear ha h8 h11 h12
                go_simp
                refine hK _ ?_; rfl
              apply Lo.runx 15 rfl rfl [8, 13] (by kernel_rfl) (Turn.refl _)
              apply Exists.intro; apply And.intro
              · intro u w1 hR hF
                obtain ⟨h8, h13, -⟩ := hF
                refine ⟨.inl ⟨false, h8, rfl⟩, fun a ha K hK => ?_⟩
                have e108 := (ha 108).trans h13
                clear ha h8 h13
                have hcv := (HTK3.out.still ((Turn.refl [] _).drew.same hR)).conv
                go_simp
                refine hK _ ?_; rfl
              refine Lo.runv 16 rfl rfl [8, 10, 14] (.bool (true)) (by kernel_rfl) (fun u w1 hR hF => ?_) (Turn.refl _) ?_
              · obtain ⟨h8, h10, h14, -⟩ := hF
                refine ⟨.inl ⟨false, h8, rfl⟩, fun a ha K hK => ?_⟩
                have e105 := (ha 105).trans h10
                have e109 := (ha 109).trans h14
                clear ha h8 h10 h14
                go_simp
                refine hK _ ?_
                have hq0 := HEQ.out
                simp [hq0]
              apply Lo.runx 17 rfl rfl [8, 15] (by kernel_rfl) (Turn.refl _)
              apply Exists.intro; apply And.intro
              · intro u w1 hR hF
                obtain ⟨h8, h15, -⟩ := hF
                refine ⟨rfl, fun a ha K hK => ?_⟩
                have e103 := (ha 103).trans h8
                have e110 := (ha 110).trans h15
                clear ha h8 h15
                go_simp
                refine hK _ ?_; rfl
              refine Lo.done [16] (fun u w1 hRd hSd hF => ?_)
              clear hSd
              obtain ⟨f16, -⟩ := hF
              have d16 : u 16 = _ := f16
              clear f16
              simp only [putFrom, Act.put, List.setIfInBounds_toArray, List.set_cons_succ, List.set_cons_zero, Nat.zero_add, Nat.reduceAdd, d16]
              have htw4 : Turn [] w3 w1 := (Turn.refl [] w3).drew.same hRd
              clear hRd
              have hbx := HBX.out _ htw4
              have HBX2 := hide hbx
              clear hbx htw4
              have HF := hide (fin_row [.int .i64 0, .int .i64 0, .string ⟨#[]⟩, .int .i64 0, .int .i64 0, .int .i64 0, .int .i64 0, .int .i64 0, .int .i64 0, .int .i64 0, .bool false, .bool false, .slice none 0 0] HBX2.out.2.1 HBX2.out.2.2.1 (Nat.le_refl _))
              go_wp2_with (refine wpList_store_row rfl _ _ _ rfl w.heap.size #[.int .i64 0, .int .i64 0, .string ⟨#[]⟩, .int .i64 0, .int .i64 0, .int .i64 0, .int .i64 0, .int .i64 0, .int .i64 0, .int .i64 0, .bool false, .bool false, .slice none 0 0] rfl rfl _ _ HBX2.out.2.1 (by kernel_rfl) rfl (by kernel_rfl) ?_)
              have hld := load13 HF.out.1
              refine bodyPost_ret (v := .tuple #[.agg #[.int .i64 0, .int .i64 0, .string ⟨#[]⟩, .int .i64 0, .int .i64 0, .int .i64 0, .int .i64 0, .int .i64 0, .int .i64 0, .int .i64 0, .bool false, .bool false, .slice none 0 0], .int .i64 0, .int .i64 3]) (by simp [results, Tryd.results5, asAddr, hld, Result.andThen]) rfl ?_
              rw [HM.out]
              exact ⟨.slice none 0 0, rfl, RecRow.nil _ 0, HF.out.2.1⟩
          · have HNZ := hide h2
            have HM : Hid (askedM b = (zQ, 0, 3)) := by show _ = _; rw [HIFF2.out, ← HXX.out, if_neg (fun h => h2 (HOK.out.1 h.2).2)]
            clear h2
            go_wp2
            refine wp_region_loose (Turn []) (by kernel_rfl) (by kernel_rfl) (by kernel_rfl) (by kernel_rfl) rfl (Turn.refl _) (fun _ _ _ h k => h.same k) ?_
            apply Lo.runx 1 rfl rfl [] (by kernel_rfl) (Turn.refl _)
            apply Exists.intro; apply And.intro
            · intro u w1 hR hF
              clear hF
              refine ⟨rfl, fun a ha K hK => ?_⟩
              have e7 := ha 7
              conv at e7 => rhs; whnf
              clear ha
              go_simp
              refine hK _ ?_; rfl
            apply Lo.runx 2 rfl rfl [0] (by kernel_rfl) (Turn.refl _)
            apply Exists.intro; apply And.intro
            · intro u w1 hR hF
              obtain ⟨h0, -⟩ := hF
              refine ⟨rfl, fun a ha K hK => ?_⟩
              have e95 := (ha 95).trans h0
              clear ha h0
              go_simp
              refine hK _ ?_; rfl
            apply Lo.runx 3 rfl rfl [1] (by kernel_rfl) (Turn.refl _)
            apply Exists.intro; apply And.intro
            · intro u w1 hR hF
              obtain ⟨h1, -⟩ := hF
              refine ⟨rfl, fun a ha K hK => ?_⟩
              have e96 := (ha 96).trans h1
              clear ha h1
              go_simp
              refine hK _ ?_; rfl
            apply Lo.runx 4 rfl rfl [2] (by kernel_rfl) (Turn.refl _)
            apply Exists.intro; apply And.intro
            · intro u w1 hR hF
              obtain ⟨h2, -⟩ := hF
              refine ⟨rfl, fun a ha K hK => ?_⟩
              have e97 := (ha 97).trans h2
              clear ha h2
              have kb := (HRD5.out w1 ((Turn.refl [] _).drew.same hR)).cell1.1
              go_simp
              refine hK _ ?_; rfl
            apply Lo.runx 5 rfl rfl [3] (by kernel_rfl) (Turn.refl _)
            apply Exists.intro; apply And.intro
            · intro u w1 hR hF
              obtain ⟨h3, -⟩ := hF
              refine ⟨rfl, fun a ha K hK => ?_⟩
              have e98 := (ha 98).trans h3
              clear ha h3
              go_simp
              refine hK _ ?_; rfl
            apply Lo.runx 6 rfl rfl [4] (by kernel_rfl) (Turn.refl _)
            apply Exists.intro; apply And.intro
            · intro u w1 hR hF
              obtain ⟨h4, -⟩ := hF
              refine ⟨.inl ⟨false, h4, rfl⟩, fun a ha K hK => ?_⟩
              have e10 := ha 10
              conv at e10 => rhs; whnf
              clear ha h4
              go_simp
              refine hK _ ?_; rfl
            refine Lo.runv 7 rfl rfl [4, 5] (.bool (true)) (by kernel_rfl) (fun u w1 hR hF => ?_) (Turn.refl _) ?_
            · obtain ⟨h4, h5, -⟩ := hF
              refine ⟨.inl ⟨false, h4, rfl⟩, fun a ha K hK => ?_⟩
              have e100 := (ha 100).trans h5
              clear ha h4 h5
              go_simp
              refine hK _ ?_
              have hq0 := HNZ.out
              simp [hq0]
            apply Lo.runx 8 rfl rfl [4, 6] (by kernel_rfl) (Turn.refl _)
            apply Exists.intro; apply And.intro
            · intro u w1 hR hF
              obtain ⟨h4, h6, -⟩ := hF
              refine ⟨rfl, fun a ha K hK => ?_⟩
              have e99 := (ha 99).trans h4
              have e101 := (ha 101).trans h6
              clear ha h4 h6
              go_simp
              refine hK _ ?_; rfl
            apply Lo.runx 9 rfl rfl [7] (by kernel_rfl) (Turn.refl _)
            apply Exists.intro; apply And.intro
            · intro u w1 hR hF
              obtain ⟨h7, -⟩ := hF
              refine ⟨rfl, fun a ha K hK => ?_⟩
              have e102 := (ha 102).trans h7
              clear ha h7
              go_simp
              refine hK _ ?_; rfl
            refine Lo.pass 10 rfl rfl [8] (by kernel_rfl) (Turn.refl _) (fun u w1 hR hF => ?_) ?_
            · exact .inl ⟨true, hF.1, rfl⟩
            refine Lo.pass 11 rfl rfl [8] (by kernel_rfl) (Turn.refl _) (fun u w1 hR hF => ?_) ?_
            · exact .inl ⟨true, hF.1, rfl⟩
            refine Lo.pass 12 rfl rfl [8] (by kernel_rfl) (Turn.refl _) (fun u w1 hR hF => ?_) ?_
            · exact .inl ⟨true, hF.1, rfl⟩
            refine Lo.pass 13 rfl rfl [8] (by kernel_rfl) (Turn.refl _) (fun u w1 hR hF => ?_) ?_
            · exact .inl ⟨true, hF.1, rfl⟩
            refine Lo.pass 14 rfl rfl [8] (by kernel_rfl) (Turn.refl _) (fun u w1 hR hF => ?_) ?_
            · exact .inl ⟨true, hF.1, rfl⟩
            refine Lo.pass 15 rfl rfl [8] (by kernel_rfl) (Turn.refl _) (fun u w1 hR hF => ?_) ?_
            · exact .inl ⟨true, hF.1, rfl⟩
            refine Lo.pass 16 rfl rfl [8] (by kernel_rfl) (Turn.refl _) (fun u w1 hR hF => ?_) ?_
            · exact .inl ⟨true, hF.1, rfl⟩
            apply Lo.runx 17 rfl rfl [8, 15] (by kernel_rfl) (Turn.refl _)
            apply Exists.intro; apply And.intro
            · intro u w1 hR hF
              obtain ⟨h8, h15, -⟩ := hF
              refine ⟨rfl, fun a ha K hK => ?_⟩
              have e103 := (ha 103).trans h8
              have e110 := (ha 110).trans h15
              clear ha h8 h15
              go_simp
              refine hK _ ?_; rfl
            refine Lo.done [16] (fun u w1 hRd hSd hF => ?_)
            clear hSd
            obtain ⟨f16, -⟩ := hF
            have d16 : u 16 = _ := f16
            clear f16
            simp only [putFrom, Act.put, List.setIfInBounds_toArray, List.set_cons_succ, List.set_cons_zero, Nat.zero_add, Nat.reduceAdd, d16]
            have htw4 : Turn [] w3 w1 := (Turn.refl [] w3).drew.same hRd
            clear hRd
            have hbx := HBX.out _ htw4
            have HBX2 := hide hbx
            clear hbx htw4
            have HF := hide (fin_row [.int .i64 0, .int .i64 0, .string ⟨#[]⟩, .int .i64 0, .int .i64 0, .int .i64 0, .int .i64 0, .int .i64 0, .int .i64 0, .int .i64 0, .bool false, .bool false, .slice none 0 0] HBX2.out.2.1 HBX2.out.2.2.1 (Nat.le_refl _))
            go_wp2_with (refine wpList_store_row rfl _ _ _ rfl w.heap.size #[.int .i64 0, .int .i64 0, .string ⟨#[]⟩, .int .i64 0, .int .i64 0, .int .i64 0, .int .i64 0, .int .i64 0, .int .i64 0, .int .i64 0, .bool false, .bool false, .slice none 0 0] rfl rfl _ _ HBX2.out.2.1 (by kernel_rfl) rfl (by kernel_rfl) ?_)
            have hld := load13 HF.out.1
            refine bodyPost_ret (v := .tuple #[.agg #[.int .i64 0, .int .i64 0, .string ⟨#[]⟩, .int .i64 0, .int .i64 0, .int .i64 0, .int .i64 0, .int .i64 0, .int .i64 0, .int .i64 0, .bool false, .bool false, .slice none 0 0], .int .i64 0, .int .i64 3]) (by simp [results, Tryd.results5, asAddr, hld, Result.andThen]) rfl ?_
            rw [HM.out]
            exact ⟨.slice none 0 0, rfl, RecRow.nil _ 0, HF.out.2.1⟩
  · have HM : Hid (askedM b = (zQ, 0, er)) := by show _ = _; unfold askedM; rw [HW.out]; simp [h0]
    have h0' : (er != 0) = true := by simpa using h0
    have HE := hide h0
    clear h0
    have HF := hide (fin_row [.int .i64 0, .int .i64 0, .string ⟨#[]⟩, .int .i64 0, .int .i64 0, .int .i64 0, .int .i64 0, .int .i64 0, .int .i64 0, .int .i64 0, .bool false, .bool false, .slice none 0 0] HY1.out HT1.out (Nat.le_refl _))
    go_wp2_with (refine wpList_store_row rfl _ _ _ rfl w.heap.size #[.int .i64 0, .int .i64 0, .string ⟨#[]⟩, .int .i64 0, .int .i64 0, .int .i64 0, .int .i64 0, .int .i64 0, .int .i64 0, .int .i64 0, .bool false, .bool false, .slice none 0 0] rfl rfl _ _ HY1.out (by kernel_rfl) rfl (by kernel_rfl) ?_)
    have hld := load13 HF.out.1
    refine bodyPost_ret (v := .tuple #[.agg #[.int .i64 0, .int .i64 0, .string ⟨#[]⟩, .int .i64 0, .int .i64 0, .int .i64 0, .int .i64 0, .int .i64 0, .int .i64 0, .int .i64 0, .bool false, .bool false, .slice none 0 0], .int .i64 0, .int .i64 er]) (by simp [results, Tryd.results5, asAddr, hld, Result.andThen]) rfl ?_
    rw [HM.out]
    exact ⟨.slice none 0 0, rfl, RecRow.nil _ 0, HF.out.2.1⟩
end Go.Proofs.YtcpjohpbakbggaaDoor.Wi

/- What the document's Told2 reads: bounds. -/
namespace Go.Proofs.YtcpjohpbakbggaaDoor.Wi
open Go.RowKit Go.Maps
set_option maxRecDepth 100000
set_option linter.unusedSimpArgs false
set_option linter.unusedVariables false

theorem Tn.past {T : TypeId} {w0 w w' : World} {tb B X : Nat} {cs : List Value} {t : TS} {S : List Nat} (h : Tn T w0 w tb B X cs t) (hrb : tb < w0.heap.size) (hB : B ≤ tb) (ht : Turn S w w') (hS : ∀ k ∈ S, X < k) : Tn T w0 w' tb B X cs t := by
  have hx := h.hx
  refine ⟨hx, ht.heap h.x (fun hm => by have := hS X hm; omega), h.rd.kept ht (fun hm => by have := hS tb hm; omega) (fun k hk => by have := hS k hk; omega), h.turn.trans ht (fun k hk => .inr (by have := hS k hk; omega))⟩
theorem tpR_gd (t : TS) : Gd t (tpR t).2 ∧ ((tpR t).2.2 = false → (tpR t).2.1.length < t.1.length) := by
  have g1 := textR_gd 40 t
  have g2 := numR_gd (Bt.textR 40 t).2
  have g3 := truR_gd (Bt.numR (Bt.textR 40 t).2).2
  have he : (tpR t).2 = (truR (Bt.numR (Bt.textR 40 t).2).2).2 := rfl
  rw [he]
  refine ⟨(g1.trans g2).trans g3, fun hb => ?_⟩
  have hn : (Bt.numR (Bt.textR 40 t).2).2.2 = false := by
    cases e : (Bt.numR (Bt.textR 40 t).2).2.2 with
    | false => rfl
    | true => rw [g3.bad e] at hb; exact absurd hb (by simp)
  have := numR_lt hn
  have := g1.len
  have := g3.len
  omega
theorem tpR_rd (t : TS) (hl : t.1.length ≤ 1000000) : TpRd (tpR t).1 := by
  have h1 := (textR_len 40 t).2
  have h2 := (numR_len (Bt.textR 40 t).2).2
  have hn : (tpR t).1.name = (Bt.textR 40 t).1 := rfl
  have hp : (tpR t).1.parts = ((Bt.numR (Bt.textR 40 t).2).1 : Int) := rfl
  exact ⟨⟨⟨by rw [hp]; omega, by rw [hp]; omega⟩, by rw [hn]; omega⟩, by rw [hn]; omega⟩
theorem listT_all : ∀ (n : Nat) (t : TS), t.1.length ≤ 900000 → (∀ r ∈ (listR tpR n t).1, TpRd r) ∧ (listR tpR n t).1.length ≤ t.1.length + (if t.2 then 0 else 1) ∧ Gd t (listR tpR n t).2
  | 0, t, _ => by simp [listR]; exact Gd.refl t
  | n + 1, t, hl => by
    unfold listR
    cases hb : t.2 with
    | true => simp; exact Gd.refl t
    | false =>
      rw [if_neg (by simp)]
      obtain ⟨g, glt⟩ := tpR_gd t
      have gl := g.len
      obtain ⟨k1, k2, k3⟩ := listT_all n (tpR t).2 (by omega)
      refine ⟨fun x hx => ?_, ?_, g.trans k3⟩
      · rcases List.mem_cons.1 hx with rfl | hx
        · exact tpR_rd t (by omega)
        · exact k1 x hx
      · simp only [List.length_cons]
        cases hc : (tpR t).2.2 with
        | true => simp [hc] at k2 ⊢; omega
        | false => have := glt hc; simp [hc] at k2 ⊢; omega
theorem listT_sm (t : TS) (hl : t.1.length ≤ 10000) (h1 : t.2 = false → t.1.length < 10000) (n : Nat) : (∀ r ∈ (listR tpR n t).1, TpRd r) ∧ (listR tpR n t).1.length ≤ 10000 := by
  obtain ⟨k1, k2, -⟩ := listT_all n t (by omega)
  refine ⟨k1, ?_⟩
  cases h : t.2 with
  | true => rw [h] at k2; simp at k2; omega
  | false => have := h1 h; rw [h] at k2; simp at k2; omega
theorem ansR_sm {l : List UInt8} (hl : l.length ≤ 10000) : (∀ r ∈ (ansR l).1.recs, RecSm r) ∧ (ansR l).1.recs.length ≤ 10000 ∧ (∀ t ∈ (ansR l).1.topics, t.name.length ≤ 1048576) ∧ (ansR l).1.topics.length ≤ 10000 := by
  have h0 := (numR_len (l, false)).1
  have h1 := (numR_len (Bt.numR (l, false)).2).1
  have h2 := (numR_len (Bt.numR (Bt.numR (l, false)).2).2).1
  simp only at h0
  have hno : ∀ a b c : Int, (∀ r ∈ (mkA a b c).recs, RecSm r) ∧ (mkA a b c).recs.length ≤ 10000 ∧ (∀ t ∈ (mkA a b c).topics, t.name.length ≤ 1048576) ∧ (mkA a b c).topics.length ≤ 10000 := fun a b c => ⟨fun r hr => absurd hr (by simp [mkA]), by simp [mkA], fun r hr => absurd hr (by simp [mkA]), by simp [mkA]⟩
  unfold ansR
  simp only
  split
  · generalize (Bt.numR (Bt.numR (Bt.numR (l, false)).2).2).2 = q at h2 ⊢
    have e1 := (numR_len q).1
    have e2 := (numR_len (Bt.numR q).2).1
    unfold atailR
    simp only
    split
    · exact ⟨fun r hr => absurd hr (by simp [mkA]), by simp [mkA], fun r hr => absurd hr (by simp [mkA]), by simp [mkA]⟩
    split
    · obtain ⟨s1, s2⟩ := numR_sm (Bt.numR (Bt.numR q).2).2 (by omega)
      obtain ⟨k1, k2⟩ := listR_sm true (Bt.numR (Bt.numR (Bt.numR q).2).2).2 s1 s2 (Bt.numR (Bt.numR (Bt.numR q).2).2).1
      exact ⟨fun r hr => (k1 r hr).sm2, k2, fun r hr => absurd hr (by simp [mkA]), by simp [mkA]⟩
    split
    · split <;> exact ⟨fun r hr => absurd hr (by simp [mkA]), by simp [mkA], fun r hr => absurd hr (by simp [mkA]), by simp [mkA]⟩
    split
    · exact ⟨fun r hr => absurd hr (by simp [mkA]), by simp [mkA], fun r hr => absurd hr (by simp [mkA]), by simp [mkA]⟩
    split
    · obtain ⟨s1, s2⟩ := numR_sm q (by omega)
      obtain ⟨k1, k2⟩ := listT_sm (Bt.numR q).2 s1 s2 (Bt.numR q).1
      exact ⟨fun r hr => absurd hr (by simp [mkA]), by simp [mkA], fun t ht => by have := (k1 t ht).name; omega, k2⟩
    · exact ⟨fun r hr => absurd hr (by simp [mkA]), by simp [mkA], fun r hr => absurd hr (by simp [mkA]), by simp [mkA]⟩
  · exact ⟨fun r hr => absurd hr (by simp [mkA]), by simp [mkA], fun r hr => absurd hr (by simp [mkA]), by simp [mkA]⟩
end Go.Proofs.YtcpjohpbakbggaaDoor.Wi
