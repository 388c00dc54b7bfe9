/- The document's Ask and Tell, of any kind. -/
import Derived.Test.YtodadoaindfecaaDoorWir
import Derived.Test.YtodadoaindfecaaDoorWim
namespace Go.Proofs.YtodadoaindfecaaDoor.Wi
open Go.RowKit Go.Maps
set_option maxRecDepth 100000
set_option linter.unusedSimpArgs false
set_option linter.unusedVariables false

theorem refAsk_any (w : World) (x : Req) (rv : Value) (hrec : RecsAt w rv x.recs) (htl : x.topic.length ≤ 1048576) (hsm : ∀ r ∈ x.recs, RecSm r) (hlr : x.recs.length ≤ 10000) :
    Calls Tryd.prog 18 #[.agg (reqC x rv)] w fun e w' => ∃ v, e = .returned (.tuple #[v, .int .i64 (askM x).2]) ∧ RowAt w' 5 w.heap.size v (askM x).1 ∧ Turn [] w w' := by
  obtain ⟨kind, corr, topic, part, offset, most, least, wait, time, parts, sure, compact, recs⟩ := x
  obtain ⟨a, c, rfl, -⟩ := hrec.form
  simp only at hrec htl hsm hlr ⊢
  by_cases hk : kind < 1 ∨ 7 < kind
  · have hm : askM ⟨kind, corr, topic, part, offset, most, least, wait, time, parts, sure, compact, recs⟩ = ([], 1) := by unfold askM; rw [if_pos hk]
    have HM := hide hm
    clear hm hrec hsm
    simp only [reqC]
    by_cases h1 : kind < 1
    · clear hk
      go_enter Tryd.func18, Tryd.ntmps18
      go_wp2
      go_ret2
      exact ⟨.slice none 0 0, by rw [HM.out]; rfl, .inl ⟨rfl, by rw [HM.out]⟩, (Turn.refl _ _).alloc _⟩
    · have h2 : kind > 7 := by omega
      clear hk
      go_enter Tryd.func18, Tryd.ntmps18
      go_wp2
      go_ret2
      exact ⟨.slice none 0 0, by rw [HM.out]; rfl, .inl ⟨rfl, by rw [HM.out]⟩, (Turn.refl _ _).alloc _⟩
  · have : kind = 1 ∨ kind = 2 ∨ kind = 3 ∨ kind = 4 ∨ kind = 5 ∨ kind = 6 ∨ kind = 7 := by omega
    rcases this with rfl | rfl | rfl | rfl | rfl | rfl | rfl
    · exact mAsk1_any w corr topic part offset most least wait time parts sure compact recs a c hrec htl hsm hlr
    · exact mAsk2_any w corr topic part offset most least wait time parts sure compact recs a c hrec htl hsm hlr
    · exact mAsk3_any w corr topic part offset most least wait time parts sure compact recs a c hrec htl hsm hlr
    · exact mAsk4_any w corr topic part offset most least wait time parts sure compact recs a c hrec htl hsm hlr
    · exact mAsk5_any w corr topic part offset most least wait time parts sure compact recs a c hrec htl hsm hlr
    · exact mAsk6_any w corr topic part offset most least wait time parts sure compact recs a c hrec htl hsm hlr
    · exact mAsk7_any w corr topic part offset most least wait time parts sure compact recs a c hrec htl hsm hlr
theorem refTell_any (w : World) (x : Ans) (rv tv : Value) (hrec : RecsAt w rv x.recs) (htop : TopsAt w tv x.topics) (hsm : ∀ r ∈ x.recs, RecSm r) (hlr : x.recs.length ≤ 10000) (htm : ∀ t ∈ x.topics, t.name.length ≤ 1048576) (hlt : x.topics.length ≤ 10000) :
    Calls Tryd.prog 20 #[.agg (ansC x rv tv)] w fun e w' => ∃ v, e = .returned (.tuple #[v, .int .i64 (tellM x).2]) ∧ RowAt w' 5 w.heap.size v (tellM x).1 ∧ Turn [] w w' := by
  obtain ⟨kind, corr, err, offset, start, fin, found, recs, topics⟩ := x
  obtain ⟨a, c, rfl, -⟩ := hrec.form
  obtain ⟨ta, tc, rfl, -⟩ := htop.form
  simp only at hrec htop hsm hlr htm hlt ⊢
  by_cases hk : kind < 1 ∨ 7 < kind ∨ err < 0 ∨ 15 < err
  · have hm : tellM ⟨kind, corr, err, offset, start, fin, found, recs, topics⟩ = ([], 1) := by unfold tellM; rw [if_pos hk]
    have HM := hide hm
    clear hm hrec htop hsm htm
    simp only [ansC]
    have hk' : kind < 1 ∨ (¬ kind < 1 ∧ kind > 7) ∨ (¬ kind < 1 ∧ ¬ kind > 7 ∧ err < 0) ∨ (¬ kind < 1 ∧ ¬ kind > 7 ∧ ¬ err < 0 ∧ err > 15) := by omega
    clear hk
    rcases hk' with h1 | ⟨h1, h2⟩ | ⟨h1, h2, h3⟩ | ⟨h1, h2, h3, h4⟩
    all_goals
      go_enter Tryd.func20, Tryd.ntmps20
      go_wp2
      go_ret2
      exact ⟨.slice none 0 0, by rw [HM.out]; rfl, .inl ⟨rfl, by rw [HM.out]⟩, (Turn.refl _ _).alloc _⟩
  · by_cases he : err = 0
    · subst he
      have : kind = 1 ∨ kind = 2 ∨ kind = 3 ∨ kind = 4 ∨ kind = 5 ∨ kind = 6 ∨ kind = 7 := by omega
      rcases this with rfl | rfl | rfl | rfl | rfl | rfl | rfl
      · exact mTell1_any w corr offset start fin found recs topics a ta c tc hrec htop hsm hlr htm hlt
      · exact mTell2_any w corr offset start fin found recs topics a ta c tc hrec htop hsm hlr htm hlt
      · cases found
        · exact mTell3f_any w corr offset start fin recs topics a ta c tc hrec htop hsm hlr htm hlt
        · exact mTell3t_any w corr offset start fin recs topics a ta c tc hrec htop hsm hlr htm hlt
      · exact mTell4_any w corr offset start fin found recs topics a ta c tc hrec htop hsm hlr htm hlt
      · exact mTell5_any w corr offset start fin found recs topics a ta c tc hrec htop hsm hlr htm hlt
      · exact mTell6_any w corr offset start fin found recs topics a ta c tc hrec htop hsm hlr htm hlt
      · exact mTell7_any w corr offset start fin found recs topics a ta c tc hrec htop hsm hlr htm hlt
    · exact mTellE_any w kind corr err offset start fin found recs topics a ta c tc hrec htop hsm hlr htm hlt he (by omega) (by omega) (by omega) (by omega)

/-! ### texts of such sizes could all be told -/
theorem recCl_small {r : Bt.Rec} (h : RecSm r) : ∀ c ∈ recCl r, c.small := by
  obtain ⟨off, time, keyed, key, gone, value⟩ := r
  have h1 := h.key
  have h2 := h.value
  simp only at h1 h2
  intro c hc
  cases keyed <;> cases gone <;> simp [recCl] at hc
  · rcases hc with rfl | rfl | rfl <;> simp [Cl.small]; omega
  · rcases hc with rfl | rfl <;> simp [Cl.small]
  · rcases hc with rfl | rfl | rfl | rfl <;> simp [Cl.small] <;> omega
  · rcases hc with rfl | rfl | rfl <;> simp [Cl.small]; omega
theorem reqCl_small {x : Req} (ht : x.topic.length ≤ 1048576) (hs : ∀ r ∈ x.recs, RecSm r) : ∀ c ∈ reqCl x, c.small := by
  intro c hc
  unfold reqCl reqTail at hc
  rcases List.mem_cons.1 hc with rfl | hc
  · trivial
  · rcases List.mem_append.1 hc with hc | hc
    · split at hc
      · simp at hc
      · simp at hc; subst hc; simp only [Cl.small]; omega
    · split at hc
      · rcases List.mem_cons.1 hc with rfl | hc
        · trivial
        · obtain ⟨r, hr, hc⟩ := List.mem_flatMap.1 hc
          exact recCl_small (hs r hr) c hc
      · split at hc
        · simp at hc; subst hc; trivial
        · split at hc
          · simp at hc; subst hc; trivial
          · split at hc
            · simp at hc; subst hc; trivial
            · split at hc
              · simp at hc; subst hc; trivial
              · simp at hc
theorem ansCl_small {x : Ans} (hs : ∀ r ∈ x.recs, RecSm r) (ht : ∀ t ∈ x.topics, t.name.length ≤ 1048576) : ∀ c ∈ ansCl x, c.small := by
  intro c hc
  unfold ansCl at hc
  rcases List.mem_cons.1 hc with rfl | hc
  · trivial
  · split at hc
    · unfold ansTail at hc
      split at hc
      · simp at hc; subst hc; trivial
      · split at hc
        · rcases List.mem_cons.1 hc with rfl | hc
          · trivial
          · obtain ⟨r, hr, hc⟩ := List.mem_flatMap.1 hc
            rcases List.mem_cons.1 hc with rfl | hc
            · trivial
            · exact recCl_small (hs r hr) c hc
        · split at hc
          · rcases List.mem_cons.1 hc with rfl | hc
            · trivial
            · split at hc
              · simp at hc; subst hc; trivial
              · simp at hc
          · split at hc
            · simp at hc; subst hc; trivial
            · split at hc
              · rcases List.mem_cons.1 hc with rfl | hc
                · trivial
                · obtain ⟨t, hr, hc⟩ := List.mem_flatMap.1 hc
                  have := ht t hr
                  simp [tpCl] at hc
                  rcases hc with rfl | rfl
                  · simp only [Cl.small]; omega
                  · trivial
              · simp at hc
    · simp at hc
end Go.Proofs.YtodadoaindfecaaDoor.Wi
