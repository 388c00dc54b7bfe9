/- The document's taker: num, text. -/
import Derived.Test.YtjjfjbclmdnodaaDoorRdC
import Derived.Test.YtjjfjbclmdnodaaDoorGetR
namespace Go.Proofs.YtjjfjbclmdnodaaDoor
open Go.RowKit Go.Maps
set_option maxRecDepth 100000
set_option linter.unusedSimpArgs false
set_option linter.unusedVariables false

/-- A taker in a box: what is left, and whether it is bad. -/
def TkAt (w : World) (tb B : Nat) (t : List UInt8 × Bool) : Prop :=
  ∃ sv, w.heap[tb]? = some (.cells #[sv, .bool t.2] 109 (0, 0)) ∧ BytesAt w sv t.1 ∧ (t.1 ≠ [] → ∀ k ∈ sv.ownBlock, k < B)
theorem TkAt.kept {w w' : World} {tb B : Nat} {t : List UInt8 × Bool} {S : List Nat} (h : TkAt w tb B t) (ht : Turn S w w') (hr : tb ∉ S) (hB : ∀ x ∈ S, B ≤ x) : TkAt w' tb B t := by
  obtain ⟨sv, h1, h2, h3⟩ := h
  exact ⟨sv, ht.heap h1 hr, h2.kept' ht (fun h0 k hk hm => by have := h3 h0 k hk; have := hB k hm; omega), h3⟩
theorem TkAt.still {w w' : World} {tb B : Nat} {t : List UInt8 × Bool} (h : TkAt w tb B t) (ht : Turn [] w w') : TkAt w' tb B t := h.kept ht (by simp) (by simp)
theorem numR_len (t : List UInt8 × Bool) : (Bt.numR t).2.1.length ≤ t.1.length ∧ (Bt.numR t).1 ≤ 1099511627776 := by
  unfold Bt.numR
  have := Nu.get_size (b := t.1)
  simp; omega

set_option maxHeartbeats 2000000 in
theorem tnum_any (w : World) (tb B : Nat) (t : List UInt8 × Bool) (h : TkAt w tb B t) (hB : B ≤ tb) (hl : t.1.length ≤ 1000000) :
    Calls Tryd.prog 64 #[.pointer (some ⟨tb, 0, none⟩)] w fun e w' => e = .returned (.int .i64 (Bt.numR t).1) ∧ TkAt w' tb B (Bt.numR t).2 ∧ Turn [tb] w w' := by
  obtain ⟨l, bad⟩ := t
  obtain ⟨sv, h1, h2, h3⟩ := h
  simp only at h1 h2 h3 hl
  have H1 := hide h1
  have H2 := hide h2
  have H3 := hide h3
  obtain ⟨a, c, hsv, hlc, hcm, hc⟩ := h2.form
  subst hsv
  have c0 : w.cell? ⟨tb, 0, none⟩ = some (.slice a l.length c) := by simpa using cell_of h1 0
  have c1 : w.cell? ⟨tb, 1, none⟩ = some (.bool bad) := by simpa using cell_of h1 1
  have hgs := Nu.get_size (b := l)
  have hn : Bt.numR (l, bad) = ((Nu.get l).1, (l.drop (Nu.get l).2, bad || (Nu.get l).2 == 0)) := rfl
  rw [hn]
  obtain ⟨n, s, hns⟩ : ∃ n s, Nu.get l = (n, s) := ⟨_, _, rfl⟩
  rw [hns] at hgs ⊢
  simp only at hgs ⊢
  have HNS := hide hns
  have hsl := fun w => @run_from a l.length c s (by omega) w
  clear h1 h2 h3 hc hn hns
  obtain ⟨b', hb'⟩ : ∃ b', (bad || s == 0) = b' := ⟨_, rfl⟩
  have HBB := hide hb'
  have fin : ∀ w1, Turn [] w w1 → TkAt ((w1.setCell ⟨tb, 1, none⟩ (.bool b')).setCell ⟨tb, 0, none⟩ (.slice (advA a s c) (l.length - s) (c - s))) tb B (l.drop s, b') ∧ Turn [tb] w ((w1.setCell ⟨tb, 1, none⟩ (.bool b')).setCell ⟨tb, 0, none⟩ (.slice (advA a s c) (l.length - s) (c - s))) := by
    intro w1 ht
    have g1 := ht.heap H1.out (by simp)
    have ht2 : Turn [tb] w1 ((w1.setCell ⟨tb, 1, none⟩ (.bool b')).setCell ⟨tb, 0, none⟩ (.slice (advA a s c) (l.length - s) (c - s))) := ((Turn.refl _ _).setCell (.inl (by simp)) _).setCell (.inl (by simp)) _
    have hd := (H2.out.still ht).drop (n := s) (by omega)
    have own : l.drop s ≠ [] → ∀ k ∈ (Value.slice (advA a s c) (l.length - s) (c - s)).ownBlock, k < B := fun h0 k hk => H3.out (fun e => h0 (by rw [e]; simp)) k (advA_own (l' := l.length) k hk)
    refine ⟨⟨_, by simpa using heap_set (heap_set g1 1 (.bool b')) 0 (.slice (advA a s c) (l.length - s) (c - s)), hd.kept' ht2 (fun h0 k hk hm => by have := own h0 k hk; simp at hm; omega), own⟩, (ht.mono (by simp)).trans ht2 (fun k hk => .inl hk)⟩
  have FIN := hide fin
  rw [hb']
  clear fin hb'
  go_enter Tryd.func64, Tryd.ntmps64
  go_wp2_with fail
  refine (refGet_any _ _ l H2.out (by omega)).mono ?_
  rintro e w1 ⟨rfl, ht1⟩
  rw [HNS.out]
  have g1 := ht1.heap H1.out (by simp)
  have HT1 := hide ht1
  clear c0 c1
  have c0 : w1.cell? ⟨tb, 0, none⟩ = some (.slice a l.length c) := by simpa using cell_of g1 0
  have c1 : w1.cell? ⟨tb, 1, none⟩ = some (.bool bad) := by simpa using cell_of g1 1
  have f0 : w1.frozen? ⟨tb, 0, none⟩ = false := frozen_of g1 0
  have f1 : w1.frozen? ⟨tb, 1, none⟩ = false := frozen_of g1 1
  clear ht1 g1
  cases bad with
  | true =>
    have hb : b' = true := by rw [← HBB.out]; rfl
    subst hb
    go_wp2
    go_ret
    exact ⟨rfl, FIN.out w1 HT1.out⟩
  | false =>
    by_cases hs : s = 0
    · have hb : b' = true := by rw [← HBB.out, hs]; rfl
      subst hb
      have hs' : ((s : Int) == 0) = true := by simp [hs]
      clear hs
      go_wp2
      go_ret
      exact ⟨rfl, FIN.out w1 HT1.out⟩
    · have hb : b' = false := by rw [← HBB.out]; simpa using hs
      subst hb
      have hs' : ((s : Int) == 0) = false := by simp; omega
      clear hs
      go_wp2
      go_ret
      exact ⟨rfl, FIN.out w1 HT1.out⟩

theorem textR_len (most : Nat) (t : List UInt8 × Bool) : (Bt.textR most t).2.1.length ≤ t.1.length ∧ (Bt.textR most t).1.length ≤ t.1.length := by
  have := numR_len t
  unfold Bt.textR
  simp only
  split
  · simp; omega
  · simp; omega
theorem TkAt.bad {w : World} {tb B : Nat} {l : List UInt8} {x : Bool} (h : TkAt w tb B (l, x)) (hB : B ≤ tb) : TkAt (w.setCell ⟨tb, 1, none⟩ (.bool true)) tb B (l, true) ∧ Turn [tb] w (w.setCell ⟨tb, 1, none⟩ (.bool true)) := by
  obtain ⟨sv, h1, h2, h3⟩ := h
  have ht : Turn [tb] w (w.setCell ⟨tb, 1, none⟩ (.bool true)) := (Turn.refl _ _).setCell (.inl (by simp)) _
  exact ⟨⟨sv, by simpa using heap_set h1 1 (.bool true), h2.kept' ht (fun h0 k hk hm => by have := h3 h0 k hk; simp at hm; omega), h3⟩, ht⟩
set_option maxHeartbeats 2000000 in
theorem ttext_any (w : World) (tb B : Nat) (t : List UInt8 × Bool) (h : TkAt w tb B t) (hB : B ≤ tb) (hl : t.1.length ≤ 1000000) (most : Nat) (hm : most ≤ 1000000) :
    Calls Tryd.prog 65 #[.pointer (some ⟨tb, 0, none⟩), .int .i64 most] w fun e w' => e = .returned (strV (Bt.textR most t).1) ∧ TkAt w' tb B (Bt.textR most t).2 ∧ Turn [tb] w w' := by
  have hnl := numR_len t
  have HN := hide (tnum_any w tb B t h hB hl)
  have HT : Hid (Bt.textR most t = if (Bt.numR t).2.2 = true ∨ most < (Bt.numR t).1 ∨ (Bt.numR t).2.1.length < (Bt.numR t).1 then ([], ((Bt.numR t).2.1, true)) else ((Bt.numR t).2.1.take (Bt.numR t).1, ((Bt.numR t).2.1.drop (Bt.numR t).1, (Bt.numR t).2.2))) := rfl
  clear h
  obtain ⟨n, r, x, hns⟩ : ∃ n r x, Bt.numR t = (n, (r, x)) := ⟨_, _, _, rfl⟩
  rw [hns] at HN HT hnl
  simp only at HN HT hnl
  clear hns
  by_cases hbad : x = true ∨ most < n ∨ r.length < n
  · have ht : Bt.textR most t = ([], (r, true)) := by rw [HT.out, if_pos hbad]
    rw [ht]
    clear ht HT
    have go : ∀ (P : Prop), P → P := fun _ h => h
    go_enter Tryd.func65, Tryd.ntmps65
    go_wp2_with fail
    refine HN.out.mono ?_
    rintro e w1 ⟨rfl, htk, ht1⟩
    have HTK := hide htk
    have HT1 := hide ht1
    obtain ⟨sv, h1, h2, h3⟩ := htk
    obtain ⟨a, c, hsv, hlc, hcm, hc⟩ := h2.form
    subst hsv
    have c0 : w1.cell? ⟨tb, 0, none⟩ = some (.slice a r.length c) := by simpa using cell_of h1 0
    have c1 : w1.cell? ⟨tb, 1, none⟩ = some (.bool x) := by simpa using cell_of h1 1
    have f1 : w1.frozen? ⟨tb, 1, none⟩ = false := frozen_of h1 1
    clear h1 h2 h3 ht1 hc go
    cases x with
    | true =>
      go_wp2
      go_ret
      have hs := HTK.out.bad hB
      exact ⟨rfl, hs.1, HT1.out.same hs.2⟩
    | false =>
      simp only [Bool.false_eq_true, false_or] at hbad
      by_cases hmn : most < n
      · clear hbad
        go_wp2
        go_ret
        have hs := HTK.out.bad hB
        exact ⟨rfl, hs.1, HT1.out.same hs.2⟩
      · have hrn : r.length < n := by omega
        clear hbad
        go_wp2
        go_ret
        have hs := HTK.out.bad hB
        exact ⟨rfl, hs.1, HT1.out.same hs.2⟩
  · have ht : Bt.textR most t = (r.take n, (r.drop n, x)) := by rw [HT.out, if_neg hbad]
    rw [ht]
    clear ht HT
    have hx : x = false := by cases x <;> simp at hbad ⊢
    subst hx
    have hmn : ¬ most < n := fun h => hbad (.inr (.inl h))
    have hrn : ¬ r.length < n := fun h => hbad (.inr (.inr h))
    clear hbad
    go_enter Tryd.func65, Tryd.ntmps65
    go_wp2_with fail
    refine HN.out.mono ?_
    rintro e w1 ⟨rfl, htk, ht1⟩
    have HT1 := hide ht1
    obtain ⟨sv, h1, h2, h3⟩ := htk
    obtain ⟨a, c, hsv, hlc, hcm, hc⟩ := h2.form
    subst hsv
    simp only at h1 h2 h3 hlc
    have H1 := hide h1
    have H2 := hide h2
    have H3 := hide h3
    have c0 : w1.cell? ⟨tb, 0, none⟩ = some (.slice a r.length c) := by simpa using cell_of h1 0
    have c1 : w1.cell? ⟨tb, 1, none⟩ = some (.bool false) := by simpa using cell_of h1 1
    have f0 : w1.frozen? ⟨tb, 0, none⟩ = false := frozen_of h1 0
    have hst := fun w => @run_to a r.length c n (by omega) w
    have hsf := fun w => @run_from a r.length c n (by omega) w
    have hcv := (H2.out.take (n := n) (by omega)).conv
    clear h1 h2 h3 ht1 hc
    go_wp2
    go_ret
    have ht2 : Turn [tb] w1 (w1.setCell ⟨tb, 0, none⟩ (.slice (advA a n c) (r.length - n) (c - n))) := (Turn.refl _ _).setCell (.inl (by simp)) _
    have own : r.drop n ≠ [] → ∀ k ∈ (Value.slice (advA a n c) (r.length - n) (c - n)).ownBlock, k < B := fun h0 k hk => H3.out (fun e => h0 (by rw [e]; simp)) k (advA_own (l' := r.length) k hk)
    exact ⟨rfl, ⟨_, by simpa using heap_set H1.out 0 (.slice (advA a n c) (r.length - n) (c - n)), (H2.out.drop (n := n) (by omega)).kept' ht2 (fun h0 k hk hm => by have := own h0 k hk; simp at hm; omega), own⟩, HT1.out.same ht2⟩
end Go.Proofs.YtjjfjbclmdnodaaDoor
