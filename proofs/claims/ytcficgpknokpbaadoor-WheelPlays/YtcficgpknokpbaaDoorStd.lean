/- slices.SortStableFunc of timers: rows that change places. -/
import Derived.Test.YtcficgpknokpbaaDoorStc
namespace Go.Proofs.YtcficgpknokpbaaDoor.Wh
open Go.RowKit Go.Maps
set_option maxRecDepth 100000
set_option linter.unusedSimpArgs false
set_option linter.unusedVariables false
attribute [local go_sem] Oper.semAt_some

/-- Two timers' cells, stored one behind the other. -/
theorem TR.swapped {w : World} {base g n c : Nat} {P M S : List Tm} {x y : Tm} (h : TR w base (.slice (some ⟨g, 0, none⟩) n c) (P ++ x :: (M ++ y :: S))) :
    TR ((w.setCells g (P.length * 2) (tmC y)).setCells g ((P.length + 1 + M.length) * 2) (tmC x)) base (.slice (some ⟨g, 0, none⟩) n c) (P ++ y :: (M ++ x :: S)) ∧
    TR ((w.setCells g ((P.length + 1 + M.length) * 2) (tmC x)).setCells g (P.length * 2) (tmC y)) base (.slice (some ⟨g, 0, none⟩) n c) (P ++ y :: (M ++ x :: S)) := by
  have hl : (P ++ x :: (M ++ y :: S)).length = P.length + 1 + M.length + 1 + S.length := by simp; omega
  refine ⟨?_, ?_⟩
  · rw [← swap_split P M S x y]
    exact (h.put (by rw [hl]; omega) y).put (by rw [List.length_set, hl]; omega) x
  · rw [← swap_split' P M S x y]
    exact (h.put (by rw [hl]; omega) x).put (by rw [List.length_set, hl]; omega) y
theorem turn_two (w : World) (g o p : Nat) (us vs : List Value) : Turn [g] w ((w.setCells g o us).setCells g p vs) := (turn_setCells g us o w).same (turn_setCells g vs p _)

set_option maxHeartbeats 1000000 in
theorem swapRange_any (w : World) (base g n c : Nat) (X A M B Y : List Tm) (h : TR w base (.slice (some ⟨g, 0, none⟩) n c) (X ++ A ++ M ++ B ++ Y)) (hAB : A.length = B.length) (hl : (X ++ A ++ M ++ B ++ Y).length ≤ 1000000) (a b k : Int) (ha : a = X.length) (hb : b = ((X ++ A ++ M).length : Nat)) (hk : k = A.length) :
    Calls Tryd.prog 38 #[.slice (some ⟨g, 0, none⟩) n c, .int .i64 a, .int .i64 b, .int .i64 k, fnT] w fun e w' => e = .returned (.tuple #[]) ∧ TR w' base (.slice (some ⟨g, 0, none⟩) n c) (X ++ B ++ M ++ A ++ Y) ∧ Turn [g] w w' := by
  subst ha
  subst hb
  subst hk
  have hn : n = (X ++ A ++ M ++ B ++ Y).length := by
    obtain ⟨a, c, e, -⟩ := h.form
    simp only [Value.slice.injEq] at e
    exact e.2.1
  have H := hide h
  have HN := hide hn
  have HL := hide hl
  have HAB := hide hAB
  have hlen : (X ++ A ++ M ++ B ++ Y).length = X.length + A.length + M.length + B.length + Y.length := by simp; omega
  have hl2 : (X ++ A ++ M).length = X.length + A.length + M.length := by simp; omega
  rw [hl2]
  have HLEN := hide hlen
  obtain ⟨xl, hxl⟩ : ∃ xl, xl = X.length := ⟨_, rfl⟩
  obtain ⟨al, hal⟩ : ∃ al, al = A.length := ⟨_, rfl⟩
  obtain ⟨ml, hml⟩ : ∃ ml, ml = M.length := ⟨_, rfl⟩
  rw [← hxl, ← hal, ← hml]
  have HXL := hide hxl
  have HAL := hide hal
  have HML := hide hml
  have hb1 : xl + al + ml + al ≤ n := by rw [hn, hlen, hxl, hal, hml, hAB]; omega
  have hb2 : n ≤ 1000000 := by rw [hn]; exact hl
  clear h hn hl hAB hlen hl2 hxl hal hml
  unfold fnT
  go_enter Tryd.func38, Tryd.ntmps38
  go_wp2
  go_loopw [10] (fun iv wr => ∃ i : Nat, i ≤ al ∧ iv = .int .i64 i ∧ TR wr base (.slice (some ⟨g, 0, none⟩) n c) (X ++ B.take i ++ A.drop i ++ M ++ A.take i ++ B.drop i ++ Y) ∧ Turn [g] w wr) (fun iv _ => al - (intOf iv).toNat)
  case atStart =>
    refine ⟨0, Nat.zero_le _, rfl, ?_, Turn.refl _ _⟩
    simpa using H.out
  case round =>
    obtain ⟨i, hi, rfl, hrow, htw⟩ := hrel
    have HTW := hide htw
    clear htw
    by_cases hlt : i < al
    · have hiA : i < A.length := by rw [← HAL.out]; exact hlt
      have hiB : i < B.length := by rw [← HAB.out]; exact hiA
      rw [List.drop_eq_getElem_cons hiA, List.drop_eq_getElem_cons hiB] at hrow
      obtain ⟨x, hx⟩ : ∃ x, x = A[i] := ⟨_, rfl⟩
      obtain ⟨y, hy⟩ : ∃ y, y = B[i] := ⟨_, rfl⟩
      rw [← hx, ← hy] at hrow
      have e1 : X ++ B.take i ++ x :: A.drop (i + 1) ++ M ++ A.take i ++ y :: B.drop (i + 1) ++ Y = (X ++ B.take i) ++ x :: ((A.drop (i + 1) ++ M ++ A.take i) ++ y :: (B.drop (i + 1) ++ Y)) := by simp
      rw [e1] at hrow
      have hp1 : (X ++ B.take i).length = xl + i := by rw [List.length_append, List.length_take, ← HXL.out, Nat.min_eq_left (by omega)]
      have hm1 : (A.drop (i + 1) ++ M ++ A.take i).length = al + ml - 1 := by
        rw [List.length_append, List.length_append, List.length_drop, List.length_take, ← HML.out, ← HAL.out]; omega
      obtain ⟨L, hL⟩ : ∃ L, L = (X ++ B.take i) ++ x :: ((A.drop (i + 1) ++ M ++ A.take i) ++ y :: (B.drop (i + 1) ++ Y)) := ⟨_, rfl⟩
      have hLl : L.length = n := by
        obtain ⟨a, c, e, -⟩ := hrow.form
        rw [← hL] at e
        simp only [Value.slice.injEq] at e
        exact e.2.1.symm
      have hx1 : L[xl + i]'(by omega) = x := get_split hL hp1.symm _
      have hy1 : L[xl + al + ml + i]'(by omega) = y := by
        refine get_split (P := (X ++ B.take i) ++ x :: (A.drop (i + 1) ++ M ++ A.take i)) (R := B.drop (i + 1) ++ Y) (by rw [hL]; simp) ?_ _
        rw [List.length_append, List.length_cons, hp1, hm1]
        omega
      have hsw := hrow.swapped
      rw [hp1, hm1, show xl + i + 1 + (al + ml - 1) = xl + al + ml + i by omega] at hsw
      rw [← hL] at hrow
      have q1 := hrow.load (j := xl + i) (by omega)
      have q2 := hrow.load (j := xl + al + ml + i) (by omega)
      rw [hx1] at q1
      rw [hy1] at q2
      obtain ⟨g', cap', e, k1, kf⟩ := hrow.at tmC_len (j := xl + i) (by omega)
      simp only [Value.slice.injEq, Option.some.injEq, Addr.mk.injEq, and_true] at e
      obtain ⟨rfl, -, rfl⟩ := e
      obtain ⟨g', cap', e, k2, -⟩ := hrow.at tmC_len (j := xl + al + ml + i) (by omega)
      simp only [Value.slice.injEq, Option.some.injEq, Addr.mk.injEq, and_true] at e
      obtain ⟨rfl, -, rfl⟩ := e
      rw [hx1] at k1
      rw [hy1] at k2
      have zg := (hrow.lt g (by simp [Value.ownBlock])).2
      have a0 : wr.cell? ⟨g, (xl + i) * 2, none⟩ = some (.int .i64 x.1) := k1 0 (by omega)
      have a1 : wr.cell? ⟨g, (xl + i) * 2 + 1, none⟩ = some (.int .i64 x.2) := k1 1 (by omega)
      have b0 : wr.cell? ⟨g, (xl + al + ml + i) * 2, none⟩ = some (.int .i64 y.1) := k2 0 (by omega)
      have b1 : wr.cell? ⟨g, (xl + al + ml + i) * 2 + 1, none⟩ = some (.int .i64 y.2) := k2 1 (by omega)
      have f0 := kf ((xl + i) * 2)
      have f1 := kf ((xl + i) * 2 + 1)
      have f2 := kf ((xl + al + ml + i) * 2)
      have f3 := kf ((xl + al + ml + i) * 2 + 1)
      have HX := hide hx
      have HY := hide hy
      have HSW := hide hsw.1
      obtain ⟨p, hp⟩ : ∃ p, p = xl + i := ⟨_, rfl⟩
      obtain ⟨q, hq⟩ : ∃ q, q = xl + al + ml + i := ⟨_, rfl⟩
      rw [← hp] at q1 a0 a1 f0 f1 HSW
      rw [← hq] at q2 b0 b1 f2 f3 HSW
      have hpa : p ≤ xl + i := by omega
      have hpb : xl + i ≤ p := by omega
      have hqa : q ≤ xl + al + ml + i := by omega
      have hqb : xl + al + ml + i ≤ q := by omega
      clear hp hq
      clear hrow hL hLl hx1 hy1 hx hy k1 k2 kf hsw e1 hp1 hm1
      have i1 : (p : Int) < (n : Int) := by omega
      have i2 : (q : Int) < (n : Int) := by omega
      clear q1 q2
      have s0 : IntKind.i64.wrap ((xl : Int) + i) = p := by rw [IntWalk.i64_in _ (by omega)]; omega
      have s1 : IntKind.i64.wrap ((xl : Int) + al + ml + i) = q := by rw [IntWalk.i64_in _ (by omega)]; omega
      go_wp2
      go_region
      go_wp2
      refine ⟨⟨i + 1, by omega, by go_num, ?_, HTW.out.same (turn_two wr g (p * 2) (q * 2) (tmC y) (tmC x)).drew⟩, by simp only [intOf]; omega⟩
      have hsw := HSW.out.still ((Turn.refl [] _).drew)
      rw [List.take_succ_eq_append_getElem hiA, List.take_succ_eq_append_getElem hiB, ← HX.out, ← HY.out]
      have e : X ++ (B.take i ++ [y]) ++ A.drop (i + 1) ++ M ++ (A.take i ++ [x]) ++ B.drop (i + 1) ++ Y = X ++ B.take i ++ y :: (A.drop (i + 1) ++ M ++ A.take i ++ x :: (B.drop (i + 1) ++ Y)) := by simp
      rw [e]
      exact hsw
    · obtain rfl : i = al := by omega
      go_wp2
      go_end0
      refine ⟨rfl, ?_, HTW.out⟩
      have e1 : B.take i = B := List.take_of_length_le (by rw [← HAB.out, ← HAL.out]; exact Nat.le_refl _)
      have e2 : A.take i = A := List.take_of_length_le (by rw [← HAL.out]; exact Nat.le_refl _)
      have e3 : B.drop i = [] := List.drop_eq_nil_of_le (by rw [← HAB.out, ← HAL.out]; exact Nat.le_refl _)
      have e4 : A.drop i = [] := List.drop_eq_nil_of_le (by rw [← HAL.out]; exact Nat.le_refl _)
      rw [e1, e2, e3, e4] at hrow
      simpa using hrow

set_option maxHeartbeats 1000000 in
theorem rotate_any (w : World) (base g n c : Nat) (X A B Y : List Tm) (h : TR w base (.slice (some ⟨g, 0, none⟩) n c) (X ++ A ++ B ++ Y)) (hl : (X ++ A ++ B ++ Y).length ≤ 1000000) (hA : 0 < A.length) (hB : 0 < B.length) (a m b : Int) (ha : a = X.length) (hm : m = ((X ++ A).length : Nat)) (hb : b = ((X ++ A ++ B).length : Nat)) :
    Calls Tryd.prog 34 #[.slice (some ⟨g, 0, none⟩) n c, .int .i64 a, .int .i64 m, .int .i64 b, fnT] w fun e w' => e = .returned (.tuple #[]) ∧ TR w' base (.slice (some ⟨g, 0, none⟩) n c) (X ++ B ++ A ++ Y) ∧ Turn [g] w w' := by
  subst ha
  subst hm
  subst hb
  have hl0 : (X ++ A).length = X.length + A.length := by simp
  have hl1 : (X ++ A ++ B).length = X.length + A.length + B.length := by simp; omega
  have hl2 : (X ++ A ++ B ++ Y).length = X.length + A.length + B.length + Y.length := by simp; omega
  rw [hl2] at hl
  rw [hl0, hl1]
  have H := hide h
  obtain ⟨xl, hxl⟩ : ∃ xl, xl = X.length := ⟨_, rfl⟩
  obtain ⟨al, hal⟩ : ∃ al, al = A.length := ⟨_, rfl⟩
  obtain ⟨bl, hbl⟩ : ∃ bl, bl = B.length := ⟨_, rfl⟩
  rw [← hxl, ← hal, ← hbl] at hl
  rw [← hal] at hA
  rw [← hbl] at hB
  rw [← hxl, ← hal, ← hbl]
  have HXL := hide hxl
  have HAL := hide hal
  have HBL := hide hbl
  have hmax : xl + al + bl ≤ 1000000 := by omega
  have hlen0 : X.length + A.length + B.length + Y.length ≤ 1000000 := by rw [← hxl, ← hal, ← hbl]; exact hl
  clear h hl hl0 hl1 hl2 hxl hal hbl
  have s0 : IntKind.i64.wrap (((xl + al : Nat) : Int) - xl) = al := by rw [IntWalk.i64_in _ (by omega)]; omega
  have s1 : IntKind.i64.wrap (((xl + al + bl : Nat) : Int) - (xl + al : Nat)) = bl := by rw [IntWalk.i64_in _ (by omega)]; omega
  unfold fnT
  go_enter Tryd.func34, Tryd.ntmps34
  clear s0 s1
  go_wp2
  go_loopw [10, 11] (fun iv jv wr => ∃ X' A' B' Y' : List Tm, X' ++ B' ++ A' ++ Y' = X ++ B ++ A ++ Y ∧ X'.length + A'.length = xl + al ∧ 0 < A'.length ∧ 0 < B'.length ∧ X'.length + A'.length + B'.length + Y'.length ≤ 1000000 ∧ iv = .int .i64 (A'.length : Nat) ∧ jv = .int .i64 (B'.length : Nat) ∧ TR wr base (.slice (some ⟨g, 0, none⟩) n c) (X' ++ A' ++ B' ++ Y') ∧ Turn [g] w wr) (fun iv jv _ => (intOf iv).toNat + (intOf jv).toNat)
  case atStart =>
    refine ⟨X, A, B, Y, rfl, by rw [HXL.out, HAL.out], by rw [← HAL.out]; exact hA, by rw [← HBL.out]; exact hB, hlen0, ?_, ?_, H.out, Turn.refl _ _⟩
    · rw [← HAL.out]; simp only [Value.int.injEq, true_and]; omega
    · rw [← HBL.out]; simp only [Value.int.injEq, true_and]; omega
  case round =>
    obtain ⟨X', A', B', Y', hgoal, hxa, ha0, hb0, hsum, rfl, rfl, hrow, htw⟩ := hrel
    have HTW := hide htw
    have HROW := hide hrow
    have HG := hide hgoal
    clear htw hrow hgoal
    obtain ⟨i, hi⟩ : ∃ i, i = A'.length := ⟨_, rfl⟩
    obtain ⟨j, hj⟩ : ∃ j, j = B'.length := ⟨_, rfl⟩
    obtain ⟨x, hx⟩ : ∃ x, x = X'.length := ⟨_, rfl⟩
    rw [← hi, ← hx] at hxa
    rw [← hi] at ha0
    rw [← hj] at hb0
    rw [← hi, ← hj, ← hx] at hsum
    rw [← hi, ← hj]
    have HI := hide hi
    have HJ := hide hj
    have HX := hide hx
    clear hi hj hx
    have hxa1 : x + i ≤ xl + al := by omega
    have hxa2 : xl + al ≤ x + i := by omega
    clear hxa
    by_cases hij : i = j
    · have hij1 : (i : Int) = j := by omega
      go_wp2_with fail
      refine (swapRange_any wr base g n c X' A' [] B' Y' (by simpa using HROW.out) (by rw [← HI.out, ← HJ.out]; exact hij) (by simp only [List.append_nil, List.length_append]; rw [← HI.out, ← HJ.out, ← HX.out]; omega) _ _ _ ?_ ?_ ?_).mono ?_
      · rw [← HX.out]; omega
      · simp only [List.append_nil, List.length_append]; rw [← HX.out, ← HI.out]; omega
      · rw [← HI.out]; omega
      rintro e w1 ⟨rfl, hr, ht⟩
      go_wp2
      go_end0
      refine ⟨rfl, ?_, HTW.out.same ht⟩
      rw [← HG.out]
      simpa using hr
    · have hij1 : ¬ (i : Int) = j := by omega
      by_cases hgt : j < i
      · obtain ⟨A1, A2, hA12, hA1⟩ : ∃ A1 A2, A' = A1 ++ A2 ∧ A1.length = j := ⟨A'.take j, A'.drop j, (List.take_append_drop j A').symm, by rw [List.length_take, ← HI.out]; omega⟩
        have hA2 : A2.length = i - j := by have := HI.out; rw [hA12, List.length_append] at this; omega
        have hgt1 : (j : Int) < i := by omega
        go_wp2_with fail
        refine (swapRange_any wr base g n c X' A1 A2 B' Y' (by have := HROW.out; rw [hA12] at this; simpa using this) (by rw [hA1, HJ.out]) (by simp only [List.length_append]; rw [hA1, hA2, ← HJ.out, ← HX.out]; omega) _ _ _ ?_ ?_ ?_).mono ?_
        · rw [← HX.out]; omega
        · simp only [List.length_append]; rw [← HX.out, hA1, hA2]; omega
        · rw [hA1]
        rintro e w1 ⟨rfl, hr, ht⟩
        have HT := hide (HTW.out.same ht)
        have HR := hide hr
        clear ht hr
        have p1 : X' ++ B' ++ A1 ++ A2 ++ Y' = X ++ B ++ A ++ Y := by rw [← HG.out, hA12]; simp
        have p2 : (X' ++ B').length + A2.length = xl + al := by rw [List.length_append, ← HX.out, ← HJ.out, hA2]; omega
        have p3 : (X' ++ B').length + A2.length + A1.length + Y'.length ≤ 1000000 := by rw [List.length_append, ← HX.out, ← HJ.out, hA2, hA1]; omega
        have P1 := hide p1
        have P2 := hide p2
        have P3 := hide p3
        have HA1 := hide hA1
        have HA2 := hide hA2
        clear p1 p2 p3 hA1 hA2 hA12
        go_wp2
        go_roundw
        case rel =>
          repeat apply Exists.intro
          exact ⟨⟨X' ++ B', A2, A1, Y', P1.out, P2.out, by rw [HA2.out]; omega, by rw [HA1.out]; omega, P3.out, by rw [HA2.out]; simp only [Value.int.injEq, true_and]; omega, by rw [HA1.out], HR.out, HT.out⟩, rfl⟩
        case measure => simp [intOf]; omega
      · obtain ⟨B1, B2, hB12, hB1⟩ : ∃ B1 B2, B' = B1 ++ B2 ∧ B1.length = j - i := ⟨B'.take (j - i), B'.drop (j - i), (List.take_append_drop (j - i) B').symm, by rw [List.length_take, ← HJ.out]; omega⟩
        have hB2 : B2.length = i := by have := HJ.out; rw [hB12, List.length_append] at this; omega
        have hgt1 : ¬ (j : Int) < i := by omega
        go_wp2_with fail
        refine (swapRange_any wr base g n c X' A' B1 B2 Y' (by have := HROW.out; rw [hB12] at this; simpa using this) (by rw [hB2, HI.out]) (by simp only [List.length_append]; rw [hB1, hB2, ← HI.out, ← HX.out]; omega) _ _ _ ?_ ?_ ?_).mono ?_
        · rw [← HX.out]; omega
        · simp only [List.length_append]; rw [← HX.out, ← HI.out, hB1]; omega
        · rw [← HI.out]
        rintro e w1 ⟨rfl, hr, ht⟩
        have HT := hide (HTW.out.same ht)
        have HR := hide hr
        clear ht hr
        have p1 : X' ++ B1 ++ B2 ++ (A' ++ Y') = X ++ B ++ A ++ Y := by rw [← HG.out, hB12]; simp
        have p2 : X'.length + B2.length = xl + al := by rw [← HX.out, hB2]; omega
        have p3 : X'.length + B2.length + B1.length + (A' ++ Y').length ≤ 1000000 := by rw [List.length_append, ← HX.out, ← HI.out, hB1, hB2]; omega
        have P1 := hide p1
        have P2 := hide p2
        have P3 := hide p3
        have HB1 := hide hB1
        have HB2 := hide hB2
        clear p1 p2 p3 hB1 hB2 hB12
        go_wp2
        go_roundw
        case rel =>
          repeat apply Exists.intro
          exact ⟨⟨X', B2, B1, A' ++ Y', P1.out, P2.out, by rw [HB2.out]; omega, by rw [HB1.out]; omega, P3.out, by rw [HB2.out], by rw [HB1.out]; simp only [Value.int.injEq, true_and]; omega, by simpa using HR.out, HT.out⟩, rfl⟩
        case measure => simp [intOf]; omega
end Go.Proofs.YtcficgpknokpbaaDoor.Wh
