/- record.Check. -/
import Derived.Test.YtlcgcckllecjpaaBatA
import Derived.Test.YtlcgcckllecjpaaErr
namespace Go.Proofs.Ytlcgcckllecjpaa
open Go.RowKit Go.Maps
set_option maxRecDepth 100000
set_option linter.unusedSimpArgs false
set_option linter.unusedVariables false

set_option maxHeartbeats 2000000 in
theorem chkRec_any (w : World) (r : Bt.Rec) (ok : RecOk r) (lo hi : Int) :
    Calls Try.prog 50 #[recV r, .int .i64 lo, .int .i64 hi] w fun e w' => e = .returned (As.errN (Bt.recErr r lo hi)) ∧ Turn [] w w' := by
  obtain ⟨off, time, keyed, key, gone, value⟩ := r
  obtain ⟨o1, o2, t1, t2, k1, v1⟩ := ok
  simp only at o1 o2 t1 t2 k1 v1
  simp only [recV, strV]
  by_cases h1 : off < lo
  · have hz : Bt.recErr ⟨off, time, keyed, key, gone, value⟩ lo hi = 1 := by unfold Bt.recErr; rw [if_pos (.inl h1)]
    rw [hz]
    clear hz
    go_enter Try.func50, Try.ntmps50
    go_wp2
    go_ret
    exact ⟨rfl, (Turn.refl _ _).alloc _⟩
  by_cases h2 : hi ≤ off
  · have hz : Bt.recErr ⟨off, time, keyed, key, gone, value⟩ lo hi = 1 := by unfold Bt.recErr; rw [if_pos (.inr (.inl h2))]
    rw [hz]
    clear hz
    go_enter Try.func50, Try.ntmps50
    go_wp2
    go_ret
    exact ⟨rfl, (Turn.refl _ _).alloc _⟩
  by_cases h3 : keyed = false ∧ key ≠ []
  · have hz : Bt.recErr ⟨off, time, keyed, key, gone, value⟩ lo hi = 1 := by unfold Bt.recErr; rw [if_pos (.inr (.inr (.inl h3)))]
    rw [hz]
    clear hz
    obtain ⟨rfl, h3⟩ := h3
    have h3' : key.isEmpty = false := by simpa using h3
    go_enter Try.func50, Try.ntmps50
    go_wp2
    go_ret
    exact ⟨rfl, (Turn.refl _ _).alloc _⟩
  have hk : keyed = true ∨ (keyed = false ∧ key = []) := by
    cases keyed
    · exact .inr ⟨rfl, Classical.byContradiction fun h => h3 ⟨rfl, h⟩⟩
    · exact .inl rfl
  by_cases h4 : gone = true ∧ value ≠ []
  · have hz : Bt.recErr ⟨off, time, keyed, key, gone, value⟩ lo hi = 1 := by unfold Bt.recErr; rw [if_pos (.inr (.inr (.inr h4)))]
    rw [hz]
    clear hz h3
    obtain ⟨rfl, h4⟩ := h4
    have h4' : value.isEmpty = false := by simpa using h4
    rcases hk with rfl | ⟨rfl, rfl⟩
    all_goals
      go_enter Try.func50, Try.ntmps50
      go_wp2
      go_ret
      exact ⟨rfl, (Turn.refl _ _).alloc _⟩
  have hg : gone = false ∨ (gone = true ∧ value = []) := by
    cases gone
    · exact .inl rfl
    · exact .inr ⟨rfl, Classical.byContradiction fun h => h4 ⟨rfl, h⟩⟩
  have hz : Bt.recErr ⟨off, time, keyed, key, gone, value⟩ lo hi = if 60 < key.length ∨ 500 < value.length then 4 else if time < 0 ∨ 1099511627776 < time then 2 else 0 := by
    unfold Bt.recErr
    rw [if_neg]
    simp only [h1, h2, h3, h4, or_self, not_false_eq_true]
  rw [hz]
  clear hz h3 h4
  by_cases h5 : 60 < key.length
  · rw [if_pos (.inl h5)]
    rcases hk with rfl | ⟨rfl, rfl⟩
    rotate_left
    · simp at h5
    rcases hg with rfl | ⟨rfl, rfl⟩
    all_goals
      go_enter Try.func50, Try.ntmps50
      go_wp2
      go_ret
      exact ⟨rfl, (Turn.refl _ _).alloc _⟩
  by_cases h6 : 500 < value.length
  · rw [if_pos (.inr h6)]
    rcases hg with rfl | ⟨rfl, rfl⟩
    rotate_left
    · simp at h6
    rcases hk with rfl | ⟨rfl, rfl⟩
    all_goals
      go_enter Try.func50, Try.ntmps50
      go_wp2
      go_ret
      exact ⟨rfl, (Turn.refl _ _).alloc _⟩
  rw [if_neg (by omega)]
  by_cases h7 : time < 0
  · rw [if_pos (.inl h7)]
    rcases hk with rfl | ⟨rfl, rfl⟩ <;> rcases hg with rfl | ⟨rfl, rfl⟩
    all_goals
      go_enter Try.func50, Try.ntmps50
      go_wp2
      go_ret
      exact ⟨rfl, (Turn.refl _ _).alloc _⟩
  by_cases h8 : 1099511627776 < time
  · rw [if_pos (.inr h8)]
    rcases hk with rfl | ⟨rfl, rfl⟩ <;> rcases hg with rfl | ⟨rfl, rfl⟩
    all_goals
      go_enter Try.func50, Try.ntmps50
      go_wp2
      go_ret
      exact ⟨rfl, (Turn.refl _ _).alloc _⟩
  rw [if_neg (by omega)]
  rcases hk with rfl | ⟨rfl, rfl⟩ <;> rcases hg with rfl | ⟨rfl, rfl⟩
  all_goals
    go_enter Try.func50, Try.ntmps50
    go_wp2
    go_ret
    exact ⟨rfl, (Turn.refl _ _).alloc _⟩

/-- How the check of records goes on behind some that were right. -/
theorem recsErr_step {rs : List Bt.Rec} {k : Nat} (hk : k < rs.length) (lo hi : Int) : Bt.recsErr (rs.drop k) lo hi = if Bt.recErr rs[k] lo hi = 0 then Bt.recsErr (rs.drop (k + 1)) (rs[k].off + 1) hi else Bt.recErr rs[k] lo hi := by
  rw [List.drop_eq_getElem_cons hk]
  rfl

set_option maxHeartbeats 1000000 in
theorem chk_any (w : World) (v : Value) (x : Bt.Bat) (hx : BatAt w v x) :
    Calls Try.prog 38 #[v] w fun e w' => e = .returned (As.errN (Bt.chk x)) ∧ Turn [] w w' := by
  obtain ⟨sv, rfl, hr, b1, b2, f1, f2⟩ := hx
  obtain ⟨base, fin, recs⟩ := x
  simp only at hr b1 b2 f1 f2
  obtain ⟨a, c, rfl, hlc, hcm, hn0, hp⟩ := hr.form
  have hmx : maxLen = 9223372036854775807 := by simp [maxLen]
  rw [hmx] at hcm
  by_cases h1 : base < 0
  · have hz : Bt.chk ⟨base, fin, recs⟩ = 2 := by unfold Bt.chk; rw [if_pos (.inl h1)]
    rw [hz]
    clear hz hr
    go_enter Try.func38, Try.ntmps38
    go_wp2
    go_ret
    exact ⟨rfl, (Turn.refl _ _).alloc _⟩
  by_cases h2 : 1099511627776 < fin
  · have hz : Bt.chk ⟨base, fin, recs⟩ = 2 := by unfold Bt.chk; rw [if_pos (.inr h2)]
    rw [hz]
    clear hz hr
    go_enter Try.func38, Try.ntmps38
    go_wp2
    go_ret
    exact ⟨rfl, (Turn.refl _ _).alloc _⟩
  by_cases h3 : fin ≤ base
  · have hz : Bt.chk ⟨base, fin, recs⟩ = 1 := by unfold Bt.chk; rw [if_neg (by simp only; omega), if_pos h3]
    rw [hz]
    clear hz hr
    go_enter Try.func38, Try.ntmps38
    go_wp2
    go_ret
    exact ⟨rfl, (Turn.refl _ _).alloc _⟩
  by_cases h4 : 50 < recs.length
  · have hz : Bt.chk ⟨base, fin, recs⟩ = 4 := by unfold Bt.chk; rw [if_neg (by simp only; omega), if_neg h3, if_pos (.inl h4)]
    rw [hz]
    clear hz hr
    go_enter Try.func38, Try.ntmps38
    go_wp2
    go_ret
    exact ⟨rfl, (Turn.refl _ _).alloc _⟩
  by_cases h5 : 50 < fin - base
  · have hz : Bt.chk ⟨base, fin, recs⟩ = 4 := by unfold Bt.chk; rw [if_neg (by simp only; omega), if_neg h3, if_pos (.inr h5)]
    rw [hz]
    clear hz hr
    go_enter Try.func38, Try.ntmps38
    go_wp2
    go_ret
    exact ⟨rfl, (Turn.refl _ _).alloc _⟩
  have hz : Bt.chk ⟨base, fin, recs⟩ = Bt.recsErr recs base fin := by unfold Bt.chk; rw [if_neg (by simp only; omega), if_neg h3, if_neg (by simp only; omega)]
  have HZ := hide hz
  have HR : Hid (RecsAt w (.slice a recs.length c) recs) := hr
  clear hz hr
  go_enter Try.func38, Try.ntmps38
  go_wp2
  go_loopw [3, 40] (fun l i wr => ∃ (k : Nat) (lo : Int), k ≤ recs.length ∧ i = .int .i64 k ∧ l = .int .i64 lo ∧ Bt.recsErr recs base fin = Bt.recsErr (recs.drop k) lo fin ∧ lo ≤ fin ∧ Turn [] (w.alloc (.cells #[.int .i64 base, .int .i64 fin, .slice a recs.length c] 47)) wr) (fun _ i _ => recs.length - (intOf i).toNat)
  case atStart => exact ⟨0, base, Nat.zero_le _, rfl, rfl, rfl, by omega, Turn.refl _ _⟩
  case round =>
    obtain ⟨k, lo, hk, rfl, rfl, he, hlo, ht⟩ := hrel
    have HE := hide he
    have HT := hide ht
    clear he ht
    have ht1 : w.heap.size < wr.heap.size := by have := HT.out.size; simp at this; omega
    have hb0 : wr.heap[w.heap.size]? = some (.cells #[.int .i64 base, .int .i64 fin, .slice a recs.length c] 47 (0, 0)) := HT.out.heap (heap_new w _) (by simp)
    have c0 := cell_of hb0 0
    have c1 := cell_of hb0 1
    have c2 := cell_of hb0 2
    simp at c0 c1 c2
    by_cases hlt : k < recs.length
    · obtain ⟨p, rfl⟩ := hp k hlt
      have ok := HR.out.ok hlt
      obtain ⟨g0, g1, g2, g3, g4, g5⟩ := ((HR.out.still ((Turn.refl [] w).alloc _)).still HT.out).six hlt
      have HS := hide (recsErr_step hlt lo fin)
      have HO := hide ok
      clear hp hn0 ok
      obtain ⟨r, hr⟩ : ∃ r, r = recs[k] := ⟨_, rfl⟩
      rw [← hr] at g0 g1 g2 g3 g4 g5 HS HO
      have o1 := HO.out.off1
      have o2 := HO.out.off2
      have HR1 : Hid (r = recs[k]) := hr
      clear hr
      obtain ⟨ec, hec⟩ : ∃ ec, ec = Bt.recErr r lo fin := ⟨_, rfl⟩
      have HEC := hide hec
      clear hec
      have aft : ∀ w2, Turn [] (wr.alloc (.cells #[.int .i64 r.off, .int .i64 r.time, .bool r.keyed, .string ⟨r.key.toArray⟩, .bool r.gone, .string ⟨r.value.toArray⟩] 79)) w2 →
          Turn [] (w.alloc (.cells #[.int .i64 base, .int .i64 fin, .slice (some p) recs.length c] 47)) w2 ∧ w2.cell? ⟨wr.heap.size, 0, none⟩ = some (.int .i64 r.off) := by
        intro w2 h
        have hb1 := h.heap (heap_new wr _) (by simp)
        have := cell_of hb1 0
        exact ⟨HT.out.same (((Turn.refl [] wr).alloc _).same h), by simpa using this⟩
      have AFT := hide aft
      clear aft
      by_cases h0 : ec = 0
      · have hof : lo ≤ r.off ∧ r.off < fin := by
          have := Bt.recErr_ok (HEC.out.symm.trans h0)
          exact ⟨this.1, this.2.1⟩
        have HS2 : Hid (Bt.recsErr (recs.drop k) lo fin = Bt.recsErr (recs.drop (k + 1)) (r.off + 1) fin) := by
          show _ = _
          rw [HS.out, if_pos (HEC.out.symm.trans h0)]
        subst h0
        go_wp2_with fail
        refine (chkRec_any _ r HO.out lo fin).mono ?_
        rintro e w2 ⟨rfl, ht2⟩
        rw [← HEC.out]
        obtain ⟨ht3, hc3⟩ := AFT.out w2 ht2
        have HT3 := hide ht3
        clear ht3 ht2 c0 c1 c2 g0 g1 g2 g3 g4 g5
        simp only [As.errN, if_true]
        go_wp2
        refine ⟨⟨k + 1, r.off + 1, by omega, by go_num, ?_, ?_, by omega, HT3.out⟩, ?_⟩
        · rfl
        · rw [HE.out, HS2.out]
        · simp only [intOf]; omega
      · have HS2 : Hid (Bt.recsErr (recs.drop k) lo fin = ec) := by
          show _ = _
          rw [HS.out, if_neg (fun h => h0 (HEC.out.trans h)), HEC.out]
        go_wp2_with fail
        refine (chkRec_any _ r HO.out lo fin).mono ?_
        rintro e w2 ⟨rfl, ht2⟩
        rw [← HEC.out]
        obtain ⟨ht3, hc3⟩ := AFT.out w2 ht2
        have HT3 := hide ht3
        clear ht3 ht2 c0 c1 c2 g0 g1 g2 g3 g4 g5
        simp only [As.errN, h0, if_false]
        go_wp2
        go_ret
        refine ⟨?_, ((Turn.refl [] w).alloc _).same HT3.out⟩
        rw [HZ.out, HE.out, HS2.out]
        simp only [As.errN, h0, if_false]
        rfl
    · have HL : Hid (recs.drop k = []) := by show _ = _; rw [List.drop_eq_nil_iff]; omega
      go_wp2
      go_ret
      refine ⟨?_, ((Turn.refl [] w).alloc _).same HT.out⟩
      rw [HZ.out, HE.out, HL.out]
      rfl
end Go.Proofs.Ytlcgcckllecjpaa
