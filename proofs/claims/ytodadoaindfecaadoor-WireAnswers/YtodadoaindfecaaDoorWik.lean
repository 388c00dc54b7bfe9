/- wire's writer: its frame. -/
import Derived.Test.YtodadoaindfecaaDoorWij
import Derived.Test.YtodadoaindfecaaDoorEncP
import Derived.BigRegion
import Derived.BigQuiet
namespace Go.Proofs.YtodadoaindfecaaDoor.Wi
open Go.RowKit Go.Maps
set_option maxRecDepth 100000
set_option linter.unusedSimpArgs false
set_option linter.unusedVariables false

theorem errN_some {e : Int} (h : e ≠ 0) : As.errN e = .iface 34 (.int .i64 e) := by unfold As.errN; rw [if_neg h]
theorem errN_zero : As.errN 0 = .nilIface := by simp [As.errN]
set_option maxHeartbeats 4000000 in
theorem frame_any (w : World) (wb base : Nat) (sv : Value) (s : WS) (h : MkAt wT As.errN w wb base sv s) (hl4 : 4 ≤ s.1.length) (hl : s.1.length ≤ 12000) :
    Calls Tryd.prog 48 #[.pointer (some ⟨wb, 0, none⟩)] w fun e w' => ∃ v, e = .returned (.tuple #[v, As.errN (pF s).2]) ∧ RowAt w' 5 base v (pF s).1 ∧ Turn (sv.ownBlock.toList) w w' := by
  have HM := hide h
  obtain ⟨⟨c0, c1⟩, f0, f1⟩ := h.cells
  have hce : ∀ Z, Turn [] w Z → Z.cell? ⟨wb, 0, none⟩ = some sv ∧ Z.cell? ⟨wb, 1, none⟩ = some (As.errN s.2) := fun Z hZ => (h.still hZ).cells.1
  have HC := hide hce
  clear hce
  by_cases he : s.2 = 0
  · rw [he, errN_zero] at c1
    have hrow := h.2.1
    have hne := h.2.2
    rcases hrow with ⟨-, h0⟩ | ⟨g, cap, cur, rfl, hb, hg, h1, h2, h3, h4⟩
    · rw [h0] at hl4; simp at hl4
    · obtain ⟨n, hn⟩ : ∃ n, n = s.1.length := ⟨_, rfl⟩
      rw [← hn] at hl4 hl h1 h4 c0
      have hp : pF s = if 10004 < n then ([], 4) else (Bt.four (n - 4) ++ s.1.drop 4, 0) := by
        unfold pF
        rw [if_neg (by simpa using he), ← hn]
      have HP := hide hp
      have HG := hide hg
      have HN := hide hn
      have H4 := hide h4
      have hcur : n ≤ cur.size := by omega
      obtain ⟨m, hm⟩ : ∃ m : Nat, m = n - 4 := ⟨_, rfl⟩
      have hsub : ((n : Int) - 4) = (m : Int) := by omega
      clear hp hn h4 h
      by_cases hbig : 10004 < n
      · have hm1 : (m : Int) > 10000 := by omega
        have hp : pF s = ([], 4) := by rw [HP.out, if_pos hbig]
        have HP2 := hide hp
        clear hp hbig hg
        go_enter Tryd.func48, Tryd.ntmps48
        go_wp2
        go_ret2
        refine ⟨.slice none 0 0, ?_, .inl ⟨rfl, by rw [HP2.out]⟩, Turn.refl _ _⟩
        rw [HP2.out]
        simp [As.errN]
      · have hm1 : ¬ (m : Int) > 10000 := by omega
        have hp : pF s = (Bt.four m ++ s.1.drop 4, 0) := by rw [HP.out, if_neg hbig, hm]
        have HP2 := hide hp
        have a0 : w.cell? ⟨g, 0, none⟩ = some (cur[0]'(by omega)) := by rw [cell_of hg]; simp
        have a1 : w.cell? ⟨g, 1, none⟩ = some (cur[1]'(by omega)) := by rw [cell_of hg]; simp
        have a2 : w.cell? ⟨g, 2, none⟩ = some (cur[2]'(by omega)) := by rw [cell_of hg]; simp
        have a3 : w.cell? ⟨g, 3, none⟩ = some (cur[3]'(by omega)) := by rw [cell_of hg]; simp
        have z0 : w.frozen? ⟨g, 0, none⟩ = false := frozen_of hg 0
        have z1 : w.frozen? ⟨g, 1, none⟩ = false := frozen_of hg 1
        have z2 : w.frozen? ⟨g, 2, none⟩ = false := frozen_of hg 2
        have z3 : w.frozen? ⟨g, 3, none⟩ = false := frozen_of hg 3
        have i0 : (0 : Int) < (n : Int) := by omega
        have i1 : (1 : Int) < (n : Int) := by omega
        have i2 : (2 : Int) < (n : Int) := by omega
        have i3 : (3 : Int) < (n : Int) := by omega
        obtain ⟨v0, hv0⟩ : ∃ v, v = cur[0]'(by omega) := ⟨_, rfl⟩
        obtain ⟨v1, hv1⟩ : ∃ v, v = cur[1]'(by omega) := ⟨_, rfl⟩
        obtain ⟨v2, hv2⟩ : ∃ v, v = cur[2]'(by omega) := ⟨_, rfl⟩
        obtain ⟨v3, hv3⟩ : ∃ v, v = cur[3]'(by omega) := ⟨_, rfl⟩
        rw [← hv0] at a0
        rw [← hv1] at a1
        rw [← hv2] at a2
        rw [← hv3] at a3
        clear hv0 hv1 hv2 hv3 hp hbig hg
        go_enter Tryd.func48, Tryd.ntmps48
        go_wp2
        go_region
        obtain ⟨wz, hwz⟩ : ∃ wz, wz = ((((w.setCell ⟨g, 0, none⟩ (.int .u8 ((n - 4 : Nat) / 16777216 : Int))).setCell ⟨g, 1, none⟩ (.int .u8 ((n - 4 : Nat) / 65536 : Int))).setCell ⟨g, 2, none⟩ (.int .u8 ((n - 4 : Nat) / 256 : Int))).setCell ⟨g, 3, none⟩ (.int .u8 ((n - 4 : Nat) % 256 : Int))).drew := ⟨_, rfl⟩
        rw [← hwz]
        have ht : Turn [g] w wz := by
          rw [hwz]
          exact (((((Turn.refl _ _).setCell (.inl (by simp)) _).setCell (.inl (by simp)) _).setCell (.inl (by simp)) _).setCell (.inl (by simp)) _).drew
        have hbw : wz.heap[wb]? = some (.cells #[.slice (some ⟨g, 0, none⟩) n cap, .nilIface] wT (0, 0)) := by
          have h0 := HM.out.1
          rw [he, errN_zero, ← HN.out] at h0
          exact ht.heap h0 (by simp; exact fun e => hne g (by simp [Value.ownBlock]) e.symm)
        have hgz : wz.heap[g]? = some (.cells (set4 cur 0 m) 5 (0, 0)) := by
          have e0 : ((n - 4 : Nat) / 16777216 : Int) = ((m / 16777216 % 256 : Nat) : Int) := by omega
          have e1 : ((n - 4 : Nat) / 65536 : Int) = ((m / 65536 % 256 : Nat) : Int) := by omega
          have e2 : ((n - 4 : Nat) / 256 : Int) = ((m / 256 % 256 : Nat) : Int) := by omega
          have e3 : ((n - 4 : Nat) % 256 : Int) = ((m % 256 : Nat) : Int) := by omega
          rw [hwz, e0, e1, e2, e3]
          exact heap_set (heap_set (heap_set (heap_set HG.out 0 _) 1 _) 2 _) 3 _
        have HT := hide ht
        have HGZ := hide hgz
        have cz : wz.cell? ⟨wb, 0, none⟩ = some (.slice (some ⟨g, 0, none⟩) n cap) := by simpa using cell_of hbw 0
        clear ht hgz hbw hwz a0 a1 a2 a3 z0 z1 z2 z3 c0 c1 f0 f1
        go_wp2
        go_ret2
        refine ⟨.slice (some ⟨g, 0, none⟩) n cap, by rw [HP2.out, errN_zero]; rfl, ?_, by simpa [Value.ownBlock] using HT.out⟩
        rw [HP2.out]
        obtain ⟨b0, b1, b2, b3, post, hs⟩ : ∃ b0 b1 b2 b3 post, s.1 = b0 :: b1 :: b2 :: b3 :: post := by
          have hn := HN.out
          match hh : s.1, hn with
          | [], hn => simp at hn; omega
          | [_], hn => simp at hn; omega
          | [_, _], hn => simp at hn; omega
          | [_, _, _], hn => simp at hn; omega
          | b0 :: b1 :: b2 :: b3 :: post, _ => exact ⟨b0, b1, b2, b3, post, rfl⟩
        have hpl : n = post.length + 4 := by have := HN.out; rw [hs] at this; simpa using this
        have h4 := H4.out
        rw [hs] at h4 ⊢
        have hk := set4_0 (n := m) hpl h4
        refine .inr ⟨g, cap, set4 cur 0 m, ?_, hb, HGZ.out, ?_, by rw [set4_size]; exact h2, h3, ?_⟩
        · simp only [List.drop_succ_cons, List.drop_zero, List.length_append, Bt.four_len]
          rw [hpl, Nat.add_comm]
        · simp only [List.drop_succ_cons, List.drop_zero, List.length_append, Bt.four_len]
          omega
        · simp only [List.drop_succ_cons, List.drop_zero, List.length_append, Bt.four_len]
          rw [show 4 + post.length = n by omega]
          exact hk
  · have hp : pF s = ([], s.2) := by unfold pF; rw [if_pos he]
    have HP := hide hp
    rw [errN_some he] at c1
    obtain ⟨er, her⟩ : ∃ er, er = s.2 := ⟨_, rfl⟩
    have HER := hide her
    rw [← her] at c1 he
    have hc1 : ∀ Z, Turn [] w Z → Z.cell? ⟨wb, 1, none⟩ = some (.iface 34 (.int .i64 er)) := fun Z hZ => by rw [(HC.out Z hZ).2, ← HER.out, errN_some he]
    have HC1 := hide hc1
    have HE := hide he
    clear hp her h hc1 he
    go_enter Tryd.func48, Tryd.ntmps48
    go_wp2
    refine wp_region_loose (Turn []) (by kernel_rfl) (by kernel_rfl) (by kernel_rfl) (by kernel_rfl) rfl (Turn.refl _) (fun _ _ _ h k => h.same k) ?_
    apply Lo.runx 1 rfl rfl [] (by kernel_rfl) (Turn.refl _)
    apply Exists.intro; apply And.intro
    · intro u w1 hR hF
      clear hF
      refine ⟨rfl, fun a ha K hK => ?_⟩
      have e0 := ha 0
      conv at e0 => rhs; whnf
      clear ha
      go_simp
      refine hK _ ?_; rfl
    apply Lo.runx 2 rfl rfl [0] (by kernel_rfl) (Turn.refl _)
    apply Exists.intro; apply And.intro
    · intro u w1 hR hF
      obtain ⟨h0, -⟩ := hF
      refine ⟨rfl, fun a ha K hK => ?_⟩
      have e10 := (ha 10).trans h0
      clear ha h0
      go_simp
      refine hK _ ?_; rfl
    apply Lo.runx 3 rfl rfl [1] (by kernel_rfl) (Turn.refl _)
    apply Exists.intro; apply And.intro
    · intro u w1 hR hF
      obtain ⟨h1, -⟩ := hF
      refine ⟨rfl, fun a ha K hK => ?_⟩
      have e11 := (ha 11).trans h1
      clear ha h1
      go_simp
      refine hK _ ?_; rfl
    apply Lo.runx 4 rfl rfl [2] (by kernel_rfl) (Turn.refl _)
    apply Exists.intro; apply And.intro
    · intro u w1 hR hF
      obtain ⟨h2, -⟩ := hF
      refine ⟨rfl, fun a ha K hK => ?_⟩
      have e12 := (ha 12).trans h2
      clear ha h2
      have c1 := HC1.out w1 (((Turn.refl [] _).drew).same hR)
      go_simp
      refine hK _ ?_; rfl
    apply Lo.runx 5 rfl rfl [] (by kernel_rfl) (Turn.refl _)
    apply Exists.intro; apply And.intro
    · intro u w1 hR hF
      clear hF
      refine ⟨rfl, fun a ha K hK => ?_⟩
      clear ha
      go_simp
      refine hK _ ?_; rfl
    apply Lo.runx 6 rfl rfl [3] (by kernel_rfl) (Turn.refl _)
    apply Exists.intro; apply And.intro
    · intro u w1 hR hF
      obtain ⟨h3, -⟩ := hF
      refine ⟨rfl, fun a ha K hK => ?_⟩
      have e13 := (ha 13).trans h3
      clear ha h3
      go_simp
      refine hK _ ?_; rfl
    refine Lo.done [4, 5] (fun u w1 hRd hSd hF => ?_)
    clear hSd
    obtain ⟨f4, f5, -⟩ := hF
    have d4 : u 4 = _ := f4
    have d5 : u 5 = _ := f5
    clear f4 f5
    simp only [putFrom, Act.put, List.setIfInBounds_toArray, List.set_cons_succ, List.set_cons_zero, Nat.zero_add, Nat.reduceAdd, d4, d5]
    have ht := ((Turn.refl [] w).drew).same hRd
    have HT := hide ht
    clear hRd ht
    go_wp2
    go_ret2
    refine ⟨.slice none 0 0, ?_, .inl ⟨rfl, by rw [HP.out]⟩, HT.out.mono (by simp)⟩
    rw [HP.out, ← HER.out, errN_some HE.out]
    rfl
end Go.Proofs.YtodadoaindfecaaDoor.Wi
