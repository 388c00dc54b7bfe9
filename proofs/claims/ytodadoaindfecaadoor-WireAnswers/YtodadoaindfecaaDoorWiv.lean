/- wire's reader: numbers, texts, truths. -/
import Derived.Test.YtodadoaindfecaaDoorRd
import Derived.Test.YtodadoaindfecaaDoorWib
namespace Go.Proofs.YtodadoaindfecaaDoor.Wi
open Go.RowKit Go.Maps
set_option maxRecDepth 100000
set_option linter.unusedSimpArgs false
set_option linter.unusedVariables false

/-- A reader in a box: what is left to read; the bytes lie below a bound. -/
def RdW (w : World) (rb B : Nat) (l : List UInt8) : Prop :=
  ∃ sv, w.heap[rb]? = some (.cells #[sv] 114 (0, 0)) ∧ BytesAt w sv l ∧ (l ≠ [] → ∀ k ∈ sv.ownBlock, k < B)
theorem RdW.kept {w w' : World} {rb B : Nat} {l : List UInt8} {S : List Nat} (h : RdW w rb B l) (ht : Turn S w w') (hr : rb ∉ S) (hB : ∀ x ∈ S, B ≤ x) : RdW w' rb B l := by
  obtain ⟨sv, h1, h2, h3⟩ := h
  exact ⟨sv, ht.heap h1 hr, h2.kept' ht (fun h0 k hk hm => by have := h3 h0 k hk; have := hB k hm; omega), h3⟩
theorem RdW.still {w w' : World} {rb B : Nat} {l : List UInt8} (h : RdW w rb B l) (ht : Turn [] w w') : RdW w' rb B l := h.kept ht (by simp) (by simp)
theorem RdW.set {w : World} {rb B : Nat} {l' : List UInt8} {sv sv' : Value} (h : w.heap[rb]? = some (.cells #[sv] 114 (0, 0))) (hB : B ≤ rb) (hb : BytesAt w sv' l') (hn : l' ≠ [] → ∀ k ∈ sv'.ownBlock, k < B) : RdW (w.setCell ⟨rb, 0, none⟩ sv') rb B l' ∧ Turn [rb] w (w.setCell ⟨rb, 0, none⟩ sv') := by
  have ht : Turn [rb] w (w.setCell ⟨rb, 0, none⟩ sv') := (Turn.refl _ _).setCell (.inl (by simp)) _
  exact ⟨⟨sv', by simpa using heap_set h 0 sv', hb.kept' ht (fun h0 k hk => by have := hn h0 k hk; simp; omega), hn⟩, ht⟩

set_option maxHeartbeats 1000000 in
theorem wnum_any (w : World) (rb B : Nat) (l : List UInt8) (h : RdW w rb B l) (hB : B ≤ rb) (hl : l.length ≤ 1000000) :
    Calls Tryd.prog 74 #[.pointer (some ⟨rb, 0, none⟩)] w fun e w' => e = .returned (.int .i64 (Bt.num l).1) ∧ RdW w' rb B (Bt.num l).2 ∧ Turn [rb] w w' := by
  obtain ⟨sv, h1, h2, h3⟩ := h
  have H1 := hide h1
  have H2 := hide h2
  have H3 := hide h3
  obtain ⟨a, c, hsv, hlc, hcm, hc⟩ := h2.form
  subst hsv
  have c0 : w.cell? ⟨rb, 0, none⟩ = some (.slice a l.length c) := by simpa using cell_of h1 0
  have f0 : w.frozen? ⟨rb, 0, none⟩ = false := frozen_of h1 0
  have hgs := Nu.get_size (b := l)
  clear h1 h2 h3 hc
  by_cases h0 : (Nu.get l).2 = 0
  · have hn : Bt.num l = (0, []) := by unfold Bt.num; rw [if_pos h0]
    rw [hn]
    clear hn
    obtain ⟨n, s, hns⟩ : ∃ n s, Nu.get l = (n, s) := ⟨_, _, rfl⟩
    rw [hns] at h0 hgs
    simp only at h0 hgs
    subst h0
    have HNS := hide hns
    clear hns
    go_enter Tryd.func74, Tryd.ntmps74
    go_wp2_with fail
    refine (get_any _ _ l H2.out (by omega)).mono ?_
    rintro e w' ⟨rfl, rfl⟩
    rw [HNS.out]
    go_wp2
    go_ret
    exact ⟨rfl, RdW.set H1.out hB (bytes_nil _) (by simp)⟩
  · have hn : Bt.num l = ((Nu.get l).1, l.drop (Nu.get l).2) := by unfold Bt.num; rw [if_neg h0]
    rw [hn]
    clear hn
    obtain ⟨n, s, hns⟩ : ∃ n s, Nu.get l = (n, s) := ⟨_, _, rfl⟩
    rw [hns] at h0 hgs ⊢
    simp only at h0 hgs ⊢
    have HNS := hide hns
    clear hns
    have hsl := fun w => @run_from a l.length c s (by omega) w
    go_enter Tryd.func74, Tryd.ntmps74
    go_wp2_with fail
    refine (get_any _ _ l H2.out (by omega)).mono ?_
    rintro e w' ⟨rfl, rfl⟩
    rw [HNS.out]
    go_wp2
    go_ret
    exact ⟨rfl, RdW.set H1.out hB (by simpa using H2.out.drop (n := s) (by omega)) (fun h0 k hk => H3.out (fun e => h0 (by rw [e]; simp)) k (advA_own (l' := l.length) k hk))⟩

set_option maxHeartbeats 1000000 in
theorem wtext_any (w : World) (rb B : Nat) (l : List UInt8) (h : RdW w rb B l) (hB : B ≤ rb) (hl : l.length ≤ 1000000) :
    Calls Tryd.prog 75 #[.pointer (some ⟨rb, 0, none⟩)] w fun e w' => e = .returned (strV (Bt.text l).1) ∧ RdW w' rb B (Bt.text l).2 ∧ Turn [rb] w w' := by
  have hnl := num_len l
  have HN := hide (wnum_any w rb B l h hB hl)
  have HT : Hid (Bt.text l = if (Bt.num l).2.length < (Bt.num l).1 then ([], []) else ((Bt.num l).2.take (Bt.num l).1, (Bt.num l).2.drop (Bt.num l).1)) := rfl
  clear h
  obtain ⟨n, r, hns⟩ : ∃ n r, Bt.num l = (n, r) := ⟨_, _, rfl⟩
  rw [hns] at HN HT hnl
  simp only at HN HT hnl
  clear hns
  by_cases hbig : r.length < n
  · have ht : Bt.text l = ([], []) := by rw [HT.out, if_pos hbig]
    rw [ht]
    clear ht
    go_enter Tryd.func75, Tryd.ntmps75
    go_wp2_with fail
    refine HN.out.mono ?_
    rintro e w1 ⟨rfl, ⟨sv, h1, h2, h3⟩, ht1⟩
    have H1 := hide h1
    have HT1 := hide ht1
    obtain ⟨a, c, hsv, hlc, hcm, hc⟩ := h2.form
    subst hsv
    have c0 : w1.cell? ⟨rb, 0, none⟩ = some (.slice a r.length c) := by simpa using cell_of h1 0
    have f0 : w1.frozen? ⟨rb, 0, none⟩ = false := frozen_of h1 0
    clear h1 h2 h3 ht1 hc
    go_wp2
    go_ret
    have hs := RdW.set (l' := []) (sv' := .slice none 0 0) H1.out hB (bytes_nil _) (by simp)
    exact ⟨rfl, hs.1, HT1.out.same hs.2⟩
  · have ht : Bt.text l = (r.take n, r.drop n) := by rw [HT.out, if_neg hbig]
    rw [ht]
    clear ht
    go_enter Tryd.func75, Tryd.ntmps75
    go_wp2_with fail
    refine HN.out.mono ?_
    rintro e w1 ⟨rfl, ⟨sv, h1, h2, h3⟩, ht1⟩
    have H1 := hide h1
    have H2 := hide h2
    have H3 := hide h3
    have HT1 := hide ht1
    obtain ⟨a, c, hsv, hlc, hcm, hc⟩ := h2.form
    subst hsv
    have c0 : w1.cell? ⟨rb, 0, none⟩ = some (.slice a r.length c) := by simpa using cell_of h1 0
    have f0 : w1.frozen? ⟨rb, 0, none⟩ = false := frozen_of h1 0
    have hst := fun w => @run_to a r.length c n (by omega) w
    have hsf := fun w => @run_from a r.length c n (by omega) w
    have hcv := (H2.out.take (n := n) (by omega)).conv
    clear h1 h2 h3 ht1 hc
    go_wp2
    go_ret
    have hs := RdW.set (l' := r.drop n) (sv' := .slice (advA a n c) (r.length - n) (c - n)) H1.out hB (H2.out.drop (n := n) (by omega)) (fun h0 k hk => H3.out (fun e => h0 (by rw [e]; simp)) k (advA_own (l' := r.length) k hk))
    exact ⟨rfl, hs.1, HT1.out.same hs.2⟩


theorem wtru_any (w : World) (rb B : Nat) (l : List UInt8) (h : RdW w rb B l) (hB : B ≤ rb) (hl : l.length ≤ 1000000) :
    Calls Tryd.prog 76 #[.pointer (some ⟨rb, 0, none⟩)] w fun e w' => e = .returned (.bool (decide ((Bt.num l).1 = 1))) ∧ RdW w' rb B (Bt.num l).2 ∧ Turn [rb] w w' := by
  have HN := hide (wnum_any w rb B l h hB hl)
  clear h
  obtain ⟨n, r, hns⟩ : ∃ n r, Bt.num l = (n, r) := ⟨_, _, rfl⟩
  rw [hns] at HN ⊢
  simp only at HN ⊢
  clear hns
  by_cases h1 : n = 1
  · have hd : decide (n = 1) = true := decide_eq_true h1
    have hb : ((n : Int) == 1) = true := by simp [h1]
    rw [hd]
    clear hd h1
    go_enter Tryd.func76, Tryd.ntmps76
    go_wp2_with fail
    refine HN.out.mono ?_
    rintro e w1 ⟨rfl, hr, ht⟩
    have HR := hide hr
    have HT := hide ht
    clear hr ht
    go_wp2
    go_ret
    exact ⟨rfl, HR.out, HT.out⟩
  · have hd : decide (n = 1) = false := decide_eq_false h1
    have hb : ((n : Int) == 1) = false := by simp; omega
    rw [hd]
    clear hd h1
    go_enter Tryd.func76, Tryd.ntmps76
    go_wp2_with fail
    refine HN.out.mono ?_
    rintro e w1 ⟨rfl, hr, ht⟩
    have HR := hide hr
    have HT := hide ht
    clear hr ht
    go_wp2
    go_ret
    exact ⟨rfl, HR.out, HT.out⟩
end Go.Proofs.YtodadoaindfecaaDoor.Wi
