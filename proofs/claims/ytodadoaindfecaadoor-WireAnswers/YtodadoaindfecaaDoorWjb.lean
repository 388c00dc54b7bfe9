/- wire.Asked, wire.Told. -/
import Derived.Test.YtodadoaindfecaaDoorWiz
import Derived.Test.YtodadoaindfecaaDoorWja
import Derived.Test.YtodadoaindfecaaDoorWit
import Derived.Test.YtodadoaindfecaaDoorDecP
import Derived.Laws.Tables
namespace Go.Proofs.YtodadoaindfecaaDoor.Wi
open Go.RowKit Go.Maps
set_option maxRecDepth 100000
set_option linter.unusedSimpArgs false
set_option linter.unusedVariables false

theorem fin_row {T : TypeId} {w w1 : World} {Y : Nat} {ys : Array Value} (cs : List Value) (hy : w1.heap[Y]? = some (.cells ys T (0, 0))) (ht : Turn [] w w1) (hY : w.heap.size ≤ Y) :
    (w1.setRow Y cs.toArray).heap[Y]? = some (.cells cs.toArray T (0, 0)) ∧ Turn [] w (w1.setRow Y cs.toArray) ∧ Turn [Y] w1 (w1.setRow Y cs.toArray) := by
  have h : Turn [Y] w1 (w1.setRow Y cs.toArray) := ⟨rfl, rfl, rfl, by simp, fun k _ hk => setRow_other w1 Y k _ (fun e => hk (by simp [e]))⟩
  exact ⟨setRow_heap w1 Y _ _ _ _ hy, ht.trans h (fun k hk => .inr (by simp at hk; omega)), h⟩
theorem whole_ok {b : List UInt8} {n : Nat} (h : whole b = (n, 0)) : 5 ≤ n ∧ n ≤ b.length ∧ n ≤ 10004 := by
  unfold whole at h
  split at h
  · simp at h
  · split at h
    · simp at h
    · split at h
      · simp at h
      · simp only [Prod.mk.injEq] at h; omega
theorem reqP_sm {l : List UInt8} (hl : l.length ≤ 900000) : (reqP l).topic.length ≤ 1000000 ∧ ∀ r ∈ (reqP l).recs, RecRd r := by
  have h0 := num_len l
  have h1 := num_len (Bt.num l).2
  have ht : ∀ t : List UInt8 × List UInt8, t = (if ((Bt.num l).1 : Int) = 7 then ([], (Bt.num (Bt.num l).2).2) else Bt.text (Bt.num (Bt.num l).2).2) → t.1.length ≤ 1000000 ∧ t.2.length ≤ 900000 := by
    intro t ht
    have h2 := text_len (Bt.num (Bt.num l).2).2
    split at ht
    · subst ht; simp; omega
    · subst ht; omega
  obtain ⟨g1, g2⟩ := ht _ rfl
  unfold reqP
  simp only
  generalize (if ((Bt.num l).1 : Int) = 7 then ([], (Bt.num (Bt.num l).2).2) else Bt.text (Bt.num (Bt.num l).2).2) = t at g1 g2 ⊢
  have e1 := num_len t.2
  have e2 := num_len (Bt.num t.2).2
  have e3 := num_len (Bt.num (Bt.num t.2).2).2
  unfold tailP
  simp only
  split
  · refine ⟨g1, ?_⟩
    exact (listP_all (one := recP) (ok := RecRd) (L := 1000000) (fun l h => recP_rd h) (fun l h => recP_lt h) _ _ (by omega)).1
  · repeat' split
    all_goals exact ⟨g1, fun r hr => absurd hr (by simp [mkQ])⟩
theorem ansP_sm {l : List UInt8} (hl : l.length ≤ 900000) : (∀ r ∈ (ansP l).recs, RecRd r) ∧ ∀ t ∈ (ansP l).topics, TpRd t := by
  have h0 := num_len l
  have h1 := num_len (Bt.num l).2
  have h2 := num_len (Bt.num (Bt.num l).2).2
  have hno : ∀ a b c : Int, (∀ r ∈ (mkA a b c).recs, RecRd r) ∧ ∀ t ∈ (mkA a b c).topics, TpRd t := fun a b c => ⟨fun r hr => absurd hr (by simp [mkA]), fun r hr => absurd hr (by simp [mkA])⟩
  unfold ansP
  simp only
  split
  · generalize hq : (Bt.num (Bt.num (Bt.num l).2).2).2 = q at h2 ⊢
    have e1 := num_len q
    have e2 := num_len (Bt.num q).2
    have e3 := num_len (Bt.num (Bt.num q).2).2
    unfold atailP
    simp only
    split
    · exact ⟨fun r hr => absurd hr (by simp [mkA]), fun r hr => absurd hr (by simp [mkA])⟩
    split
    · exact ⟨(listP_all (one := plP) (ok := RecRd) (L := 1000000) (fun l h => plP_rd h) (fun l h => plP_lt h) _ _ (by omega)).1, fun r hr => absurd hr (by simp [mkA])⟩
    split
    · split
      · exact ⟨fun r hr => absurd hr (by simp [mkA]), fun r hr => absurd hr (by simp [mkA])⟩
      · exact ⟨fun r hr => absurd hr (by simp [mkA]), fun r hr => absurd hr (by simp [mkA])⟩
    split
    · exact ⟨fun r hr => absurd hr (by simp [mkA]), fun r hr => absurd hr (by simp [mkA])⟩
    split
    · exact ⟨fun r hr => absurd hr (by simp [mkA]), (listP_all (one := tpP) (ok := TpRd) (L := 1000000) (fun l h => tpP_rd h) (fun l h => tpP_lt h) _ _ (by omega)).1⟩
    · exact ⟨fun r hr => absurd hr (by simp [mkA]), fun r hr => absurd hr (by simp [mkA])⟩
  · exact ⟨fun r hr => absurd hr (by simp [mkA]), fun r hr => absurd hr (by simp [mkA])⟩
theorem RecRd.sm {r : Bt.Rec} (h : RecRd r) : RecSm r := ⟨by have := h.key; omega, by have := h.value; omega⟩
theorem okQ_iff {b : List UInt8} {n : Nat} (h : whole b = (n, 0)) (x : Req) : askedM b = if okQ b (reqP (bodyOf b)) then (reqP (bodyOf b), n, 0) else (zQ, 0, 3) := by
  unfold askedM; rw [h]; simp
theorem okA_iff {b : List UInt8} {n : Nat} (h : whole b = (n, 0)) (x : Ans) : toldM b = if okA b (ansP (bodyOf b)) then (ansP (bodyOf b), n, 0) else (zA, 0, 3) := by
  unfold toldM; rw [h]; simp

set_option maxHeartbeats 16000000 in
theorem asked_any (w : World) (v : Value) (b : List UInt8) (hx : BytesAt w v b) (hl : b.length ≤ 900000) :
    Calls Tryd.prog 23 #[v] w fun e w' => ∃ rv, e = .returned (.tuple #[.agg (reqC (askedM b).1 rv), .int .i64 (askedM b).2.1, As.errN (askedM b).2.2]) ∧ RecsAt w' rv (askedM b).1.recs ∧ Turn [] w w' := by
  have HX := hide hx
  obtain ⟨a, c, rfl, hlc, hcm, hc⟩ := hx.form
  have hmx : maxLen = 9223372036854775807 := by simp [maxLen]
  rw [hmx] at hcm
  obtain ⟨wy, hwy⟩ : ∃ wy, wy = w.alloc (.cells zQv.toArray 48) := ⟨_, rfl⟩
  have hty : Turn [] w wy := by rw [hwy]; exact (Turn.refl [] w).alloc _
  have hyy : wy.heap[w.heap.size]? = some (.cells zQv.toArray 48 (0, 0)) := by rw [hwy]; exact heap_new w _
  have HWY := hide hwy
  have HTY := hide hty
  have HYY := hide hyy
  obtain ⟨n, er, hw⟩ : ∃ n er, whole b = (n, er) := ⟨_, _, rfl⟩
  have HW := hide hw
  clear hx hc hwy hty hyy hw
  go_enter Tryd.func23, Tryd.ntmps23
  go_wp2_with fail
  rw [show w.alloc (.cells #[.int .i64 0, .int .i64 0, .string ⟨#[]⟩, .int .i64 0, .int .i64 0, .int .i64 0, .int .i64 0, .int .i64 0, .int .i64 0, .int .i64 0, .bool false, .bool false, .slice none 0 0] 48) = wy from HWY.out.symm]
  refine (wwhole_any _ _ b (HX.out.still HTY.out) (by omega)).mono ?_
  rintro e w1 ⟨rfl, ht1⟩
  rw [HW.out]
  simp only
  have HT1 := hide (HTY.out.same ht1)
  have HY1 := hide (ht1.heap HYY.out (by simp))
  clear ht1
  by_cases h0 : er = 0
  · subst h0
    obtain ⟨n1, n2, n3⟩ := whole_ok HW.out
    simp only [As.errN, if_true]
    have hsl : ∀ w, (Instr.slice 49 (.slice a b.length c) (some (.int .i64 4)) (some (.int .i64 (n : Int))) none).run Tryd.prog w = .ok (.slice (advA a 4 c) (n - 4) (c - 4)) w := fun w => by simpa using @run_from_to a b.length c 4 n (by omega) (by omega) w
    have hst : ∀ w, (Instr.slice 49 (.slice a b.length c) none (some (.int .i64 (n : Int))) none).run Tryd.prog w = .ok (.slice a n c) w := fun w => @run_to a b.length c n (by omega) w
    have htk : BytesAt w (.slice a n c) (b.take n) := HX.out.take (by omega)
    have HTK := hide htk
    have hbo : bodyOf b = (b.take n).drop 4 := by unfold bodyOf; rw [HW.out]
    obtain ⟨l, hl0⟩ : ∃ l, l = bodyOf b := ⟨_, rfl⟩
    have hll : l.length = n - 4 := by rw [hl0, hbo]; simp; omega
    have hbm : BytesAt w (.slice (advA a 4 c) (n - 4) (c - 4)) l := by
      have h1 : (b.take n).length = n := by simp; omega
      have h2 := BytesAt.drop (n := 4) (by rw [h1]; exact htk) (by omega : 4 ≤ (b.take n).length)
      rw [h1, ← hbo, ← hl0] at h2
      exact h2
    have hown : ∀ k ∈ (Value.slice (advA a 4 c) (n - 4) (c - 4)).ownBlock, k < w.heap.size := fun k hk =>
      HX.out.lt (fun e => by rw [e] at n2; simp at n2; omega) k (advA_own (l' := b.length) k hk)
    have hiff : askedM b = if okQ b (reqP l) then (reqP l, n, 0) else (zQ, 0, 3) := by rw [hl0]; exact okQ_iff HW.out zQ
    have HIFF := hide hiff
    have HBM := hide hbm
    have HOWN := hide hown
    clear htk hbo hl0 hbm hown hiff
    go_wp2_with fail
    have hrd : RdW (w1.alloc (.cells #[.slice (advA a 4 c) (n - 4) (c - 4)] 114)) w1.heap.size w.heap.size l :=
      ⟨_, heap_new w1 _, HBM.out.still (HT1.out.alloc _), fun _ => HOWN.out⟩
    refine (rreq_any _ w1.heap.size w.heap.size l hrd HT1.out.size (by omega)).mono ?_
    rintro e w2 ⟨rv, rfl, hrec, ht2, hown2⟩
    have hsm := reqP_sm (l := l) (by omega)
    obtain ⟨x, hxx⟩ : ∃ x, x = reqP l := ⟨_, rfl⟩
    rw [← hxx] at hrec hsm ⊢
    have hiff := HIFF.out
    rw [← hxx] at hiff
    have HIFF := hide hiff
    have hpm : askP x = askM x := askP_small (reqCl_small (by have := hsm.1; omega) (fun r hr => (hsm.2 r hr).sm))
    have htl : x.topic.length ≤ 9223372036854775807 := by have := hsm.1; omega
    clear hiff hsm hrd hxx
    have ht02 : Turn [] w w2 := (HT1.out.alloc _).trans ht2 (fun k hk => .inr (by have := HT1.out.size; simp at hk; omega))
    have hy2 := ht2.heap (((Turn.refl [] w1).alloc (.cells #[.slice (advA a 4 c) (n - 4) (c - 4)] 114)).heap HY1.out (by simp)) (by have := lt_of_heap HY1.out; simp; omega)
    have hlt1 := lt_of_heap HY1.out
    have hrl : ∀ k ∈ rv.ownBlock, k ≠ w.heap.size := fun k hk => by have := hown2 k hk; simp at this; omega
    have HPM := hide hpm
    have HREC := hide hrec
    have HRL := hide hrl
    have HT2 := hide ht02
    have HY2 := hide hy2
    obtain ⟨kind, corr, topic, part, offset, most, least, wait, time, parts, sure, compact, recs⟩ := x
    obtain ⟨XX, hXX⟩ : ∃ XX : Req, XX = ⟨kind, corr, topic, part, offset, most, least, wait, time, parts, sure, compact, recs⟩ := ⟨_, rfl⟩
    have HXX := hide hXX
    simp only at htl
    obtain ⟨ra, rc, rfl, -, -, -, -⟩ := HREC.out.form
    simp only [reqC]
    obtain ⟨wx, hwx⟩ : ∃ wx, wx = (w2.alloc (.cells #[.int .i64 0, .int .i64 0, .string ⟨#[]⟩, .int .i64 0, .int .i64 0, .int .i64 0, .int .i64 0, .int .i64 0, .int .i64 0, .int .i64 0, .bool false, .bool false, .slice none 0 0] 48)).setRow w2.heap.size #[.int .i64 kind, .int .i64 corr, strV topic, .int .i64 part, .int .i64 offset, .int .i64 most, .int .i64 least, .int .i64 wait, .int .i64 time, .int .i64 parts, .bool sure, .bool compact, .slice ra recs.length rc] := ⟨_, rfl⟩
    have hbz : (w2.alloc (.cells #[.int .i64 0, .int .i64 0, .string ⟨#[]⟩, .int .i64 0, .int .i64 0, .int .i64 0, .int .i64 0, .int .i64 0, .int .i64 0, .int .i64 0, .bool false, .bool false, .slice none 0 0] 48)).heap[w2.heap.size]? = some (.cells #[.int .i64 0, .int .i64 0, .string ⟨#[]⟩, .int .i64 0, .int .i64 0, .int .i64 0, .int .i64 0, .int .i64 0, .int .i64 0, .int .i64 0, .bool false, .bool false, .slice none 0 0] 48 (0, 0)) := heap_new w2 _
    have hfz := fin_row [.int .i64 kind, .int .i64 corr, strV topic, .int .i64 part, .int .i64 offset, .int .i64 most, .int .i64 least, .int .i64 wait, .int .i64 time, .int .i64 parts, .bool sure, .bool compact, .slice ra recs.length rc] hbz ((Turn.refl [] w2).alloc _) (Nat.le_refl _)
    have hlx : (loadVar 48 ⟨w2.heap.size, 0, none⟩).run Tryd.prog ((w2.alloc (.cells #[.int .i64 0, .int .i64 0, .string ⟨#[]⟩, .int .i64 0, .int .i64 0, .int .i64 0, .int .i64 0, .int .i64 0, .int .i64 0, .int .i64 0, .bool false, .bool false, .slice none 0 0] 48)).setRow w2.heap.size #[.int .i64 kind, .int .i64 corr, strV topic, .int .i64 part, .int .i64 offset, .int .i64 most, .int .i64 least, .int .i64 wait, .int .i64 time, .int .i64 parts, .bool sure, .bool compact, .slice ra recs.length rc]) = .ok (.agg #[.int .i64 kind, .int .i64 corr, strV topic, .int .i64 part, .int .i64 offset, .int .i64 most, .int .i64 least, .int .i64 wait, .int .i64 time, .int .i64 parts, .bool sure, .bool compact, .slice ra recs.length rc]) ((w2.alloc (.cells #[.int .i64 0, .int .i64 0, .string ⟨#[]⟩, .int .i64 0, .int .i64 0, .int .i64 0, .int .i64 0, .int .i64 0, .int .i64 0, .int .i64 0, .bool false, .bool false, .slice none 0 0] 48)).setRow w2.heap.size #[.int .i64 kind, .int .i64 corr, strV topic, .int .i64 part, .int .i64 offset, .int .i64 most, .int .i64 least, .int .i64 wait, .int .i64 time, .int .i64 parts, .bool sure, .bool compact, .slice ra recs.length rc]) := load13 hfz.1
    have HBZ := hide hbz
    have HLX := hide hlx
    have hbx : ∀ Q, Turn [] wx Q → Q.heap[w2.heap.size]? = some (.cells #[.int .i64 kind, .int .i64 corr, strV topic, .int .i64 part, .int .i64 offset, .int .i64 most, .int .i64 least, .int .i64 wait, .int .i64 time, .int .i64 parts, .bool sure, .bool compact, .slice ra recs.length rc] 48 (0, 0)) ∧ Q.heap[w.heap.size]? = some (.cells zQv.toArray 48 (0, 0)) ∧ Turn [] w Q ∧ Turn [] w2 Q := by
      intro Q hQ
      have h2 : Turn [] w2 Q := by have := hfz.2.1; rw [hwx] at hQ; exact this.same hQ
      exact ⟨hQ.heap (by rw [hwx]; exact hfz.1) (by simp), h2.heap HY2.out (by simp), HT2.out.same h2, h2⟩
    have HBX := hide hbx
    have HWX := hide hwx
    clear hpm hrec  hrl ht02 hy2 hown2 ht2 hXX hwx hbx hlt1 hbz hlx hfz
    go_wp2_with (first | refine wpList_store_row rfl _ _ _ rfl w2.heap.size #[.int .i64 kind, .int .i64 corr, strV topic, .int .i64 part, .int .i64 offset, .int .i64 most, .int .i64 least, .int .i64 wait, .int .i64 time, .int .i64 parts, .bool sure, .bool compact, .slice ra recs.length rc] rfl rfl _ _ HBZ.out (by kernel_rfl) rfl (by kernel_rfl) ?_ | refine wpList_loadT rfl _ _ rfl ⟨w2.heap.size, 0, none⟩ rfl _ HLX.out ?_)
    rw [show (w2.alloc (.cells #[.int .i64 0, .int .i64 0, .string ⟨#[]⟩, .int .i64 0, .int .i64 0, .int .i64 0, .int .i64 0, .int .i64 0, .int .i64 0, .int .i64 0, .bool false, .bool false, .slice none 0 0] 48)).setRow w2.heap.size #[.int .i64 kind, .int .i64 corr, strV topic, .int .i64 part, .int .i64 offset, .int .i64 most, .int .i64 least, .int .i64 wait, .int .i64 time, .int .i64 parts, .bool sure, .bool compact, .slice ra recs.length rc] = wx from HWX.out.symm]
    refine (ask_any wx ⟨kind, corr, topic, part, offset, most, least, wait, time, parts, sure, compact, recs⟩ (.slice ra recs.length rc) (HREC.out.still (HBX.out wx (Turn.refl _ _)).2.2.2) htl).mono ?_
    rintro e w3 ⟨v3, rfl, hr3, ht3⟩
    rw [HPM.out, ← HXX.out] at hr3 ⊢
    obtain ⟨m, e2, hm⟩ : ∃ m e2, askM XX = (m, e2) := ⟨_, _, rfl⟩
    rw [hm] at hr3 ⊢
    simp only at hr3 ⊢
    have hok : okQ b XX ↔ m = b.take n ∧ e2 = 0 := by unfold okQ; rw [hm, HW.out]; simp
    have hb3 := hr3.bytes
    have HOK := hide hok
    have HB3 := hide hb3
    have HT3 := hide ht3
    have HTK3 := hide (HTK.out.still (HBX.out _ ht3).2.2.1)
    clear hok hb3 ht3 hr3 hm
    by_cases h2 : e2 = 0
    · subst h2
      simp only [As.errN, if_true]
      go_wp2_with fail
      refine (equal_any _ _ _ m (b.take n) HB3.out HTK3.out).mono ?_
      rintro e w5 ⟨rfl, rfl⟩
      by_cases heq : m = b.take n
      · have hbq : (m == b.take n) = true := by simpa using heq
        have HM : Hid (askedM b = (XX, n, 0)) := by show _ = _; rw [HIFF.out, ← HXX.out, if_pos (HOK.out.2 ⟨heq, by trivial⟩)]
        rw [hbq]
        clear heq hbq
        go_upto_region 9 with fail
        refine wp_region_lit ?_
        refine wpList_loadT rfl _ _ rfl ⟨w2.heap.size, 0, none⟩ rfl _ (load13 (HBX.out w3 HT3.out).1) ?_
        have HF := hide (fin_row [.int .i64 kind, .int .i64 corr, strV topic, .int .i64 part, .int .i64 offset, .int .i64 most, .int .i64 least, .int .i64 wait, .int .i64 time, .int .i64 parts, .bool sure, .bool compact, .slice ra recs.length rc] (HBX.out w3 HT3.out).2.1 (HBX.out w3 HT3.out).2.2.1 (Nat.le_refl _))
        go_simp
        go_wp2_with (refine wpList_store_row rfl _ _ _ rfl w.heap.size #[.int .i64 kind, .int .i64 corr, strV topic, .int .i64 part, .int .i64 offset, .int .i64 most, .int .i64 least, .int .i64 wait, .int .i64 time, .int .i64 parts, .bool sure, .bool compact, .slice ra recs.length rc] rfl rfl _ _ (HBX.out w3 HT3.out).2.1 (by kernel_rfl) rfl (by kernel_rfl) ?_)
        have hld := load13 HF.out.1
        refine bodyPost_ret (v := .tuple #[.agg #[.int .i64 kind, .int .i64 corr, strV topic, .int .i64 part, .int .i64 offset, .int .i64 most, .int .i64 least, .int .i64 wait, .int .i64 time, .int .i64 parts, .bool sure, .bool compact, .slice ra recs.length rc], .int .i64 n, .nilIface]) (by simp [results, Tryd.results23, asAddr, hld, Result.andThen]) rfl ?_
        rw [HM.out]
        refine ⟨.slice ra recs.length rc, by rw [HXX.out]; rfl, ?_, HF.out.2.1⟩
        · rw [HXX.out]
          exact (HREC.out.still (HBX.out w3 HT3.out).2.2.2).kept HF.out.2.2 (fun k hk _ hm => HRL.out k hk (by simpa using hm))
      · have hbq : (m == b.take n) = false := by simpa using heq
        have HM : Hid (askedM b = (zQ, 0, 3)) := by show _ = _; rw [HIFF.out, ← HXX.out, if_neg (fun h => heq (HOK.out.1 h).1)]
        rw [hbq]
        clear heq hbq
        have HF := hide (fin_row [.int .i64 0, .int .i64 0, .string ⟨#[]⟩, .int .i64 0, .int .i64 0, .int .i64 0, .int .i64 0, .int .i64 0, .int .i64 0, .int .i64 0, .bool false, .bool false, .slice none 0 0] (HBX.out w3 HT3.out).2.1 (HBX.out w3 HT3.out).2.2.1 (Nat.le_refl _))
        go_wp2_with (refine wpList_store_row rfl _ _ _ rfl w.heap.size #[.int .i64 0, .int .i64 0, .string ⟨#[]⟩, .int .i64 0, .int .i64 0, .int .i64 0, .int .i64 0, .int .i64 0, .int .i64 0, .int .i64 0, .bool false, .bool false, .slice none 0 0] rfl rfl _ _ (HBX.out w3 HT3.out).2.1 (by kernel_rfl) rfl (by kernel_rfl) ?_)
        have hld := load13 HF.out.1
        refine bodyPost_ret (v := .tuple #[.agg #[.int .i64 0, .int .i64 0, .string ⟨#[]⟩, .int .i64 0, .int .i64 0, .int .i64 0, .int .i64 0, .int .i64 0, .int .i64 0, .int .i64 0, .bool false, .bool false, .slice none 0 0], .int .i64 0, .iface 34 (.int .i64 3)]) (by simp [results, Tryd.results23, asAddr, hld, Result.andThen]) rfl ?_
        rw [HM.out]
        refine ⟨.slice none 0 0, rfl, RecRow.nil _ 0, HF.out.2.1⟩
    · simp only [As.errN, h2, if_false]
      have HM : Hid (askedM b = (zQ, 0, 3)) := by show _ = _; rw [HIFF.out, ← HXX.out, if_neg (fun h => h2 (HOK.out.1 h).2)]
      have HF := hide (fin_row [.int .i64 0, .int .i64 0, .string ⟨#[]⟩, .int .i64 0, .int .i64 0, .int .i64 0, .int .i64 0, .int .i64 0, .int .i64 0, .int .i64 0, .bool false, .bool false, .slice none 0 0] (HBX.out w3 HT3.out).2.1 (HBX.out w3 HT3.out).2.2.1 (Nat.le_refl _))
      go_wp2_with (refine wpList_store_row rfl _ _ _ rfl w.heap.size #[.int .i64 0, .int .i64 0, .string ⟨#[]⟩, .int .i64 0, .int .i64 0, .int .i64 0, .int .i64 0, .int .i64 0, .int .i64 0, .int .i64 0, .bool false, .bool false, .slice none 0 0] rfl rfl _ _ (HBX.out w3 HT3.out).2.1 (by kernel_rfl) rfl (by kernel_rfl) ?_)
      have hld := load13 HF.out.1
      refine bodyPost_ret (v := .tuple #[.agg #[.int .i64 0, .int .i64 0, .string ⟨#[]⟩, .int .i64 0, .int .i64 0, .int .i64 0, .int .i64 0, .int .i64 0, .int .i64 0, .int .i64 0, .bool false, .bool false, .slice none 0 0], .int .i64 0, .iface 34 (.int .i64 3)]) (by simp [results, Tryd.results23, asAddr, hld, Result.andThen]) rfl ?_
      rw [HM.out]
      refine ⟨.slice none 0 0, rfl, RecRow.nil _ 0, HF.out.2.1⟩
  · have HM : Hid (askedM b = (zQ, 0, er)) := by show _ = _; unfold askedM; rw [HW.out]; simp [h0]
    simp only [As.errN, h0, if_false]
    have HF := hide (fin_row [.int .i64 0, .int .i64 0, .string ⟨#[]⟩, .int .i64 0, .int .i64 0, .int .i64 0, .int .i64 0, .int .i64 0, .int .i64 0, .int .i64 0, .bool false, .bool false, .slice none 0 0] HY1.out HT1.out (Nat.le_refl _))
    go_wp2_with (refine wpList_store_row rfl _ _ _ rfl w.heap.size #[.int .i64 0, .int .i64 0, .string ⟨#[]⟩, .int .i64 0, .int .i64 0, .int .i64 0, .int .i64 0, .int .i64 0, .int .i64 0, .int .i64 0, .bool false, .bool false, .slice none 0 0] rfl rfl _ _ HY1.out (by kernel_rfl) rfl (by kernel_rfl) ?_)
    have hld := load13 HF.out.1
    refine bodyPost_ret (v := .tuple #[.agg #[.int .i64 0, .int .i64 0, .string ⟨#[]⟩, .int .i64 0, .int .i64 0, .int .i64 0, .int .i64 0, .int .i64 0, .int .i64 0, .int .i64 0, .bool false, .bool false, .slice none 0 0], .int .i64 0, .iface 34 (.int .i64 er)]) (by simp [results, Tryd.results23, asAddr, hld, Result.andThen]) rfl ?_
    rw [HM.out]
    refine ⟨.slice none 0 0, by simp [As.errN, h0]; rfl, RecRow.nil _ 0, HF.out.2.1⟩

set_option maxHeartbeats 16000000 in
theorem told_any (w : World) (v : Value) (b : List UInt8) (hx : BytesAt w v b) (hl : b.length ≤ 900000) :
    Calls Tryd.prog 26 #[v] w fun e w' => ∃ rv tv, e = .returned (.tuple #[.agg (ansC (toldM b).1 rv tv), .int .i64 (toldM b).2.1, As.errN (toldM b).2.2]) ∧ RecsAt w' rv (toldM b).1.recs ∧ TopsAt w' tv (toldM b).1.topics ∧ Turn [] w w' := by
  have HX := hide hx
  obtain ⟨a, c, rfl, hlc, hcm, hc⟩ := hx.form
  have hmx : maxLen = 9223372036854775807 := by simp [maxLen]
  rw [hmx] at hcm
  obtain ⟨wy, hwy⟩ : ∃ wy, wy = w.alloc (.cells zAv.toArray 57) := ⟨_, rfl⟩
  have hty : Turn [] w wy := by rw [hwy]; exact (Turn.refl [] w).alloc _
  have hyy : wy.heap[w.heap.size]? = some (.cells zAv.toArray 57 (0, 0)) := by rw [hwy]; exact heap_new w _
  have HWY := hide hwy
  have HTY := hide hty
  have HYY := hide hyy
  obtain ⟨n, er, hw⟩ : ∃ n er, whole b = (n, er) := ⟨_, _, rfl⟩
  have HW := hide hw
  clear hx hc hwy hty hyy hw
  go_enter Tryd.func26, Tryd.ntmps26
  go_wp2_with fail
  rw [show w.alloc (.cells #[.int .i64 0, .int .i64 0, .int .i64 0, .int .i64 0, .int .i64 0, .int .i64 0, .bool false, .slice none 0 0, .slice none 0 0] 57) = wy from HWY.out.symm]
  refine (wwhole_any _ _ b (HX.out.still HTY.out) (by omega)).mono ?_
  rintro e w1 ⟨rfl, ht1⟩
  rw [HW.out]
  simp only
  have HT1 := hide (HTY.out.same ht1)
  have HY1 := hide (ht1.heap HYY.out (by simp))
  clear ht1
  by_cases h0 : er = 0
  · subst h0
    obtain ⟨n1, n2, n3⟩ := whole_ok HW.out
    simp only [As.errN, if_true]
    have hsl : ∀ w, (Instr.slice 49 (.slice a b.length c) (some (.int .i64 4)) (some (.int .i64 (n : Int))) none).run Tryd.prog w = .ok (.slice (advA a 4 c) (n - 4) (c - 4)) w := fun w => by simpa using @run_from_to a b.length c 4 n (by omega) (by omega) w
    have hst : ∀ w, (Instr.slice 49 (.slice a b.length c) none (some (.int .i64 (n : Int))) none).run Tryd.prog w = .ok (.slice a n c) w := fun w => @run_to a b.length c n (by omega) w
    have htk : BytesAt w (.slice a n c) (b.take n) := HX.out.take (by omega)
    have HTK := hide htk
    have hbo : bodyOf b = (b.take n).drop 4 := by unfold bodyOf; rw [HW.out]
    obtain ⟨l, hl0⟩ : ∃ l, l = bodyOf b := ⟨_, rfl⟩
    have hll : l.length = n - 4 := by rw [hl0, hbo]; simp; omega
    have hbm : BytesAt w (.slice (advA a 4 c) (n - 4) (c - 4)) l := by
      have h1 : (b.take n).length = n := by simp; omega
      have h2 := BytesAt.drop (n := 4) (by rw [h1]; exact htk) (by omega : 4 ≤ (b.take n).length)
      rw [h1, ← hbo, ← hl0] at h2
      exact h2
    have hown : ∀ k ∈ (Value.slice (advA a 4 c) (n - 4) (c - 4)).ownBlock, k < w.heap.size := fun k hk =>
      HX.out.lt (fun e => by rw [e] at n2; simp at n2; omega) k (advA_own (l' := b.length) k hk)
    have hiff : toldM b = if okA b (ansP l) then (ansP l, n, 0) else (zA, 0, 3) := by rw [hl0]; exact okA_iff HW.out zA
    have HIFF := hide hiff
    have HBM := hide hbm
    have HOWN := hide hown
    clear htk hbo hl0 hbm hown hiff
    go_wp2_with fail
    have hrd : RdW (w1.alloc (.cells #[.slice (advA a 4 c) (n - 4) (c - 4)] 114)) w1.heap.size w.heap.size l :=
      ⟨_, heap_new w1 _, HBM.out.still (HT1.out.alloc _), fun _ => HOWN.out⟩
    refine (rans_any _ w1.heap.size w.heap.size l hrd HT1.out.size (by omega)).mono ?_
    rintro e w2 ⟨rv, tv, rfl, hrec, htop, ht2, hown2, hown3⟩
    have hsm := ansP_sm (l := l) (by omega)
    obtain ⟨x, hxx⟩ : ∃ x, x = ansP l := ⟨_, rfl⟩
    rw [← hxx] at hrec hsm ⊢
    rw [← hxx] at htop
    have hiff := HIFF.out
    rw [← hxx] at hiff
    have HIFF := hide hiff
    have hpm : tellP x = tellM x := tellP_small (ansCl_small (fun r hr => (hsm.1 r hr).sm) (fun t ht => by have := (hsm.2 t ht).name; omega))
    clear hiff hsm hrd hxx
    have ht02 : Turn [] w w2 := (HT1.out.alloc _).trans ht2 (fun k hk => .inr (by have := HT1.out.size; simp at hk; omega))
    have hy2 := ht2.heap (((Turn.refl [] w1).alloc (.cells #[.slice (advA a 4 c) (n - 4) (c - 4)] 114)).heap HY1.out (by simp)) (by have := lt_of_heap HY1.out; simp; omega)
    have hlt1 := lt_of_heap HY1.out
    have hrl : ∀ k ∈ rv.ownBlock, k ≠ w.heap.size := fun k hk => by have := hown2 k hk; simp at this; omega
    have hrt : ∀ k ∈ tv.ownBlock, k ≠ w.heap.size := fun k hk => by have := hown3 k hk; simp at this; omega
    have HPM := hide hpm
    have HREC := hide hrec
    have HTOP := hide htop
    have HRL := hide hrl
    have HRT := hide hrt
    have HT2 := hide ht02
    have HY2 := hide hy2
    obtain ⟨kind, corr, err, offset, start, fin, found, recs, topics⟩ := x
    obtain ⟨XX, hXX⟩ : ∃ XX : Ans, XX = ⟨kind, corr, err, offset, start, fin, found, recs, topics⟩ := ⟨_, rfl⟩
    have HXX := hide hXX
    obtain ⟨ra, rc, rfl, -, -, -, -⟩ := HREC.out.form
    obtain ⟨ta, tc, rfl, -, -, -, -⟩ := HTOP.out.form
    simp only [ansC]
    obtain ⟨wx, hwx⟩ : ∃ wx, wx = (w2.alloc (.cells #[.int .i64 0, .int .i64 0, .int .i64 0, .int .i64 0, .int .i64 0, .int .i64 0, .bool false, .slice none 0 0, .slice none 0 0] 57)).setRow w2.heap.size #[.int .i64 kind, .int .i64 corr, .int .i64 err, .int .i64 offset, .int .i64 start, .int .i64 fin, .bool found, .slice ra recs.length rc, .slice ta topics.length tc] := ⟨_, rfl⟩
    have hbz : (w2.alloc (.cells #[.int .i64 0, .int .i64 0, .int .i64 0, .int .i64 0, .int .i64 0, .int .i64 0, .bool false, .slice none 0 0, .slice none 0 0] 57)).heap[w2.heap.size]? = some (.cells #[.int .i64 0, .int .i64 0, .int .i64 0, .int .i64 0, .int .i64 0, .int .i64 0, .bool false, .slice none 0 0, .slice none 0 0] 57 (0, 0)) := heap_new w2 _
    have hfz := fin_row [.int .i64 kind, .int .i64 corr, .int .i64 err, .int .i64 offset, .int .i64 start, .int .i64 fin, .bool found, .slice ra recs.length rc, .slice ta topics.length tc] hbz ((Turn.refl [] w2).alloc _) (Nat.le_refl _)
    have hlx : (loadVar 57 ⟨w2.heap.size, 0, none⟩).run Tryd.prog ((w2.alloc (.cells #[.int .i64 0, .int .i64 0, .int .i64 0, .int .i64 0, .int .i64 0, .int .i64 0, .bool false, .slice none 0 0, .slice none 0 0] 57)).setRow w2.heap.size #[.int .i64 kind, .int .i64 corr, .int .i64 err, .int .i64 offset, .int .i64 start, .int .i64 fin, .bool found, .slice ra recs.length rc, .slice ta topics.length tc]) = .ok (.agg #[.int .i64 kind, .int .i64 corr, .int .i64 err, .int .i64 offset, .int .i64 start, .int .i64 fin, .bool found, .slice ra recs.length rc, .slice ta topics.length tc]) ((w2.alloc (.cells #[.int .i64 0, .int .i64 0, .int .i64 0, .int .i64 0, .int .i64 0, .int .i64 0, .bool false, .slice none 0 0, .slice none 0 0] 57)).setRow w2.heap.size #[.int .i64 kind, .int .i64 corr, .int .i64 err, .int .i64 offset, .int .i64 start, .int .i64 fin, .bool found, .slice ra recs.length rc, .slice ta topics.length tc]) := load9 hfz.1
    have HBZ := hide hbz
    have HLX := hide hlx
    have hbx : ∀ Q, Turn [] wx Q → Q.heap[w2.heap.size]? = some (.cells #[.int .i64 kind, .int .i64 corr, .int .i64 err, .int .i64 offset, .int .i64 start, .int .i64 fin, .bool found, .slice ra recs.length rc, .slice ta topics.length tc] 57 (0, 0)) ∧ Q.heap[w.heap.size]? = some (.cells zAv.toArray 57 (0, 0)) ∧ Turn [] w Q ∧ Turn [] w2 Q := by
      intro Q hQ
      have h2 : Turn [] w2 Q := by have := hfz.2.1; rw [hwx] at hQ; exact this.same hQ
      exact ⟨hQ.heap (by rw [hwx]; exact hfz.1) (by simp), h2.heap HY2.out (by simp), HT2.out.same h2, h2⟩
    have HBX := hide hbx
    have HWX := hide hwx
    clear hpm hrec htop hown3 hrt hrl ht02 hy2 hown2 ht2 hXX hwx hbx hlt1 hbz hlx hfz
    go_wp2_with (first | refine wpList_store_row rfl _ _ _ rfl w2.heap.size #[.int .i64 kind, .int .i64 corr, .int .i64 err, .int .i64 offset, .int .i64 start, .int .i64 fin, .bool found, .slice ra recs.length rc, .slice ta topics.length tc] rfl rfl _ _ HBZ.out (by kernel_rfl) rfl (by kernel_rfl) ?_ | refine wpList_loadT rfl _ _ rfl ⟨w2.heap.size, 0, none⟩ rfl _ HLX.out ?_)
    rw [show (w2.alloc (.cells #[.int .i64 0, .int .i64 0, .int .i64 0, .int .i64 0, .int .i64 0, .int .i64 0, .bool false, .slice none 0 0, .slice none 0 0] 57)).setRow w2.heap.size #[.int .i64 kind, .int .i64 corr, .int .i64 err, .int .i64 offset, .int .i64 start, .int .i64 fin, .bool found, .slice ra recs.length rc, .slice ta topics.length tc] = wx from HWX.out.symm]
    refine (tell_any wx ⟨kind, corr, err, offset, start, fin, found, recs, topics⟩ (.slice ra recs.length rc) (.slice ta topics.length tc) (HREC.out.still (HBX.out wx (Turn.refl _ _)).2.2.2) (HTOP.out.still (HBX.out wx (Turn.refl _ _)).2.2.2)).mono ?_
    rintro e w3 ⟨v3, rfl, hr3, ht3⟩
    rw [HPM.out, ← HXX.out] at hr3 ⊢
    obtain ⟨m, e2, hm⟩ : ∃ m e2, tellM XX = (m, e2) := ⟨_, _, rfl⟩
    rw [hm] at hr3 ⊢
    simp only at hr3 ⊢
    have hok : okA b XX ↔ m = b.take n ∧ e2 = 0 := by unfold okA; rw [hm, HW.out]; simp
    have hb3 := hr3.bytes
    have HOK := hide hok
    have HB3 := hide hb3
    have HT3 := hide ht3
    have HTK3 := hide (HTK.out.still (HBX.out _ ht3).2.2.1)
    clear hok hb3 ht3 hr3 hm
    by_cases h2 : e2 = 0
    · subst h2
      simp only [As.errN, if_true]
      go_wp2_with fail
      refine (equal_any _ _ _ m (b.take n) HB3.out HTK3.out).mono ?_
      rintro e w5 ⟨rfl, rfl⟩
      by_cases heq : m = b.take n
      · have hbq : (m == b.take n) = true := by simpa using heq
        have HM : Hid (toldM b = (XX, n, 0)) := by show _ = _; rw [HIFF.out, ← HXX.out, if_pos (HOK.out.2 ⟨heq, by trivial⟩)]
        rw [hbq]
        clear heq hbq
        go_upto_region 9 with fail
        refine wp_region_lit ?_
        refine wpList_loadT rfl _ _ rfl ⟨w2.heap.size, 0, none⟩ rfl _ (load9 (HBX.out w3 HT3.out).1) ?_
        have HF := hide (fin_row [.int .i64 kind, .int .i64 corr, .int .i64 err, .int .i64 offset, .int .i64 start, .int .i64 fin, .bool found, .slice ra recs.length rc, .slice ta topics.length tc] (HBX.out w3 HT3.out).2.1 (HBX.out w3 HT3.out).2.2.1 (Nat.le_refl _))
        go_simp
        go_wp2_with (refine wpList_store_row rfl _ _ _ rfl w.heap.size #[.int .i64 kind, .int .i64 corr, .int .i64 err, .int .i64 offset, .int .i64 start, .int .i64 fin, .bool found, .slice ra recs.length rc, .slice ta topics.length tc] rfl rfl _ _ (HBX.out w3 HT3.out).2.1 (by kernel_rfl) rfl (by kernel_rfl) ?_)
        have hld := load9 HF.out.1
        refine bodyPost_ret (v := .tuple #[.agg #[.int .i64 kind, .int .i64 corr, .int .i64 err, .int .i64 offset, .int .i64 start, .int .i64 fin, .bool found, .slice ra recs.length rc, .slice ta topics.length tc], .int .i64 n, .nilIface]) (by simp [results, Tryd.results26, asAddr, hld, Result.andThen]) rfl ?_
        rw [HM.out]
        refine ⟨.slice ra recs.length rc, .slice ta topics.length tc, by rw [HXX.out]; rfl, ?_, ?_, HF.out.2.1⟩
        · rw [HXX.out]
          exact (HREC.out.still (HBX.out w3 HT3.out).2.2.2).kept HF.out.2.2 (fun k hk _ hm => HRL.out k hk (by simpa using hm))
        · rw [HXX.out]
          exact (HTOP.out.still (HBX.out w3 HT3.out).2.2.2).kept HF.out.2.2 (fun k hk _ hm => HRT.out k hk (by simpa using hm))
      · have hbq : (m == b.take n) = false := by simpa using heq
        have HM : Hid (toldM b = (zA, 0, 3)) := by show _ = _; rw [HIFF.out, ← HXX.out, if_neg (fun h => heq (HOK.out.1 h).1)]
        rw [hbq]
        clear heq hbq
        have HF := hide (fin_row [.int .i64 0, .int .i64 0, .int .i64 0, .int .i64 0, .int .i64 0, .int .i64 0, .bool false, .slice none 0 0, .slice none 0 0] (HBX.out w3 HT3.out).2.1 (HBX.out w3 HT3.out).2.2.1 (Nat.le_refl _))
        go_wp2_with (refine wpList_store_row rfl _ _ _ rfl w.heap.size #[.int .i64 0, .int .i64 0, .int .i64 0, .int .i64 0, .int .i64 0, .int .i64 0, .bool false, .slice none 0 0, .slice none 0 0] rfl rfl _ _ (HBX.out w3 HT3.out).2.1 (by kernel_rfl) rfl (by kernel_rfl) ?_)
        have hld := load9 HF.out.1
        refine bodyPost_ret (v := .tuple #[.agg #[.int .i64 0, .int .i64 0, .int .i64 0, .int .i64 0, .int .i64 0, .int .i64 0, .bool false, .slice none 0 0, .slice none 0 0], .int .i64 0, .iface 34 (.int .i64 3)]) (by simp [results, Tryd.results26, asAddr, hld, Result.andThen]) rfl ?_
        rw [HM.out]
        refine ⟨.slice none 0 0, .slice none 0 0, rfl, RecRow.nil _ 0, TopsAt.nil _, HF.out.2.1⟩
    · simp only [As.errN, h2, if_false]
      have HM : Hid (toldM b = (zA, 0, 3)) := by show _ = _; rw [HIFF.out, ← HXX.out, if_neg (fun h => h2 (HOK.out.1 h).2)]
      have HF := hide (fin_row [.int .i64 0, .int .i64 0, .int .i64 0, .int .i64 0, .int .i64 0, .int .i64 0, .bool false, .slice none 0 0, .slice none 0 0] (HBX.out w3 HT3.out).2.1 (HBX.out w3 HT3.out).2.2.1 (Nat.le_refl _))
      go_wp2_with (refine wpList_store_row rfl _ _ _ rfl w.heap.size #[.int .i64 0, .int .i64 0, .int .i64 0, .int .i64 0, .int .i64 0, .int .i64 0, .bool false, .slice none 0 0, .slice none 0 0] rfl rfl _ _ (HBX.out w3 HT3.out).2.1 (by kernel_rfl) rfl (by kernel_rfl) ?_)
      have hld := load9 HF.out.1
      refine bodyPost_ret (v := .tuple #[.agg #[.int .i64 0, .int .i64 0, .int .i64 0, .int .i64 0, .int .i64 0, .int .i64 0, .bool false, .slice none 0 0, .slice none 0 0], .int .i64 0, .iface 34 (.int .i64 3)]) (by simp [results, Tryd.results26, asAddr, hld, Result.andThen]) rfl ?_
      rw [HM.out]
      refine ⟨.slice none 0 0, .slice none 0 0, rfl, RecRow.nil _ 0, TopsAt.nil _, HF.out.2.1⟩
  · have HM : Hid (toldM b = (zA, 0, er)) := by show _ = _; unfold toldM; rw [HW.out]; simp [h0]
    simp only [As.errN, h0, if_false]
    have HF := hide (fin_row [.int .i64 0, .int .i64 0, .int .i64 0, .int .i64 0, .int .i64 0, .int .i64 0, .bool false, .slice none 0 0, .slice none 0 0] HY1.out HT1.out (Nat.le_refl _))
    go_wp2_with (refine wpList_store_row rfl _ _ _ rfl w.heap.size #[.int .i64 0, .int .i64 0, .int .i64 0, .int .i64 0, .int .i64 0, .int .i64 0, .bool false, .slice none 0 0, .slice none 0 0] rfl rfl _ _ HY1.out (by kernel_rfl) rfl (by kernel_rfl) ?_)
    have hld := load9 HF.out.1
    refine bodyPost_ret (v := .tuple #[.agg #[.int .i64 0, .int .i64 0, .int .i64 0, .int .i64 0, .int .i64 0, .int .i64 0, .bool false, .slice none 0 0, .slice none 0 0], .int .i64 0, .iface 34 (.int .i64 er)]) (by simp [results, Tryd.results26, asAddr, hld, Result.andThen]) rfl ?_
    rw [HM.out]
    refine ⟨.slice none 0 0, .slice none 0 0, by simp [As.errN, h0]; rfl, RecRow.nil _ 0, TopsAt.nil _, HF.out.2.1⟩
end Go.Proofs.YtodadoaindfecaaDoor.Wi
