/- record.putRecord, putBody. -/
import Derived.Test.YtlcgcckllecjpaaPutT
namespace Go.Proofs.Ytlcgcckllecjpaa
open Go.RowKit Go.Maps
set_option maxRecDepth 100000
set_option linter.unusedSimpArgs false
set_option linter.unusedVariables false

theorem Grew.box {W w : World} {base : Nat} {v v' : Value} {b : List UInt8} (h : Grew W w base v v' b) {k : Nat} {cs : Array Value} {t : TypeId} (hk : W.heap[k]? = some (.cells cs t (0, 0))) (hn : ∀ x ∈ v.ownBlock, x ≠ k) : w.heap[k]? = some (.cells cs t (0, 0)) :=
  h.2.1.heap hk (fun hm => hn k (by simpa using hm) rfl)
theorem Grew.still {W w w2 : World} {base : Nat} {v v' : Value} {b : List UInt8} (h : Grew W w base v v' b) (k : Turn [] w w2) : Grew W w2 base v v' b :=
  ⟨h.1.kept k (by simp), h.2.1.trans k (by simp), h.2.2⟩
theorem Grew.refl {W : World} {base : Nat} {v : Value} {b : List UInt8} (h : RowAt W 5 base v b) : Grew W W base v v b := ⟨h, Turn.refl _ _, fun k hk => .inl hk⟩
/-- A record's cells in a box of the call's own. -/
theorem box_cells {w : World} {k : Nat} {r : Bt.Rec} (h : w.heap[k]? = some (.cells #[.int .i64 r.off, .int .i64 r.time, .bool r.keyed, .string ⟨r.key.toArray⟩, .bool r.gone, .string ⟨r.value.toArray⟩] 79 (0, 0))) :
    w.cell? ⟨k, 0, none⟩ = some (.int .i64 r.off) ∧ w.cell? ⟨k, 1, none⟩ = some (.int .i64 r.time) ∧ w.cell? ⟨k, 2, none⟩ = some (.bool r.keyed) ∧ w.cell? ⟨k, 3, none⟩ = some (.string ⟨r.key.toArray⟩) ∧ w.cell? ⟨k, 4, none⟩ = some (.bool r.gone) ∧ w.cell? ⟨k, 5, none⟩ = some (.string ⟨r.value.toArray⟩) :=
  ⟨by simpa using cell_of h 0, by simpa using cell_of h 1, by simpa using cell_of h 2, by simpa using cell_of h 3, by simpa using cell_of h 4, by simpa using cell_of h 5⟩
theorem put_len_le {n : Nat} (h : n ≤ 1099511627776) : (Nu.put n).length ≤ 6 := Nu.put_len6 h
theorem textB_len {s : List UInt8} (h : s.length ≤ 600) : (Bt.textB s).length ≤ s.length + 6 := by
  unfold Bt.textB
  have := Nu.put_len6 (show s.length ≤ 1099511627776 by omega)
  simp; omega
theorem mark_le (r : Bt.Rec) : Bt.mark r ≤ 3 := by unfold Bt.mark; split <;> split <;> omega
/-- What a record asks that is written. -/
structure RecFit (r : Bt.Rec) (b : Int) : Prop where
  lo : b ≤ r.off
  hi : r.off - b ≤ 1099511627776
  b0 : 0 ≤ b
  bT : b ≤ 1099511627776
  t0 : 0 ≤ r.time
  tT : r.time ≤ 1099511627776
  key : r.key.length ≤ 60
  value : r.value.length ≤ 500
theorem recB_len {r : Bt.Rec} {b : Int} (h : RecFit r b) : (Bt.recB b r).length ≤ 600 := by
  obtain ⟨h1, h2, h3, h4, h5, h6, h7, h8⟩ := h
  have a1 := Nu.put_len6 (show (r.off - b).toNat ≤ 1099511627776 by omega)
  have a2 := Nu.put_len6 (show r.time.toNat ≤ 1099511627776 by omega)
  have a3 := Nu.put_len6 (show Bt.mark r ≤ 1099511627776 by have := mark_le r; omega)
  have a4 := textB_len (show r.key.length ≤ 600 by omega)
  have a5 := textB_len (show r.value.length ≤ 600 by omega)
  unfold Bt.recB
  simp only [List.length_append]
  split <;> split <;> simp <;> omega

set_option maxHeartbeats 2000000 in
theorem putRecord_any (w : World) (base : Nat) (v : Value) (bs : List UInt8) (hrow : RowAt w 5 base v bs) (hbase : base ≤ w.heap.size) (r : Bt.Rec) (b : Int) (hfit : RecFit r b) (hl : bs.length ≤ 900000) :
    Calls Try.prog 51 #[v, recV r, .int .i64 b] w fun e w' => ∃ v', e = .returned v' ∧ Grew w w' base v v' (bs ++ Bt.recB b r) := by
  have HF := hide hfit
  obtain ⟨h1, h2, h3, h4, h5, h6, h7, h8⟩ := hfit
  have hlt : ∀ x ∈ v.ownBlock, x ≠ w.heap.size := fun x hx => by have := (hrow.lt x hx).2; omega
  have HLT := hide hlt
  clear hlt
  obtain ⟨n0, hsub⟩ : ∃ n0 : Nat, r.off - b = n0 := ⟨(r.off - b).toNat, by omega⟩
  obtain ⟨n1, htime⟩ : ∃ n1 : Nat, r.time = n1 := ⟨r.time.toNat, by omega⟩
  have HB : Hid (Bt.recB b r = Nu.put n0 ++ Nu.put n1 ++ Nu.put (Bt.mark r) ++ (if r.keyed then Bt.textB r.key else []) ++ (if r.gone then [] else Bt.textB r.value)) := by
    show _ = _
    unfold Bt.recB
    rw [hsub, htime]; simp
  have HG0 : Hid (Grew (w.alloc (.cells #[.int .i64 r.off, .int .i64 r.time, .bool r.keyed, .string ⟨r.key.toArray⟩, .bool r.gone, .string ⟨r.value.toArray⟩] 79)) (w.alloc (.cells #[.int .i64 r.off, .int .i64 r.time, .bool r.keyed, .string ⟨r.key.toArray⟩, .bool r.gone, .string ⟨r.value.toArray⟩] 79)) base v v bs) :=
    Grew.refl (hrow.kept ((Turn.refl [] w).alloc _) (by simp))
  have box : ∀ wi vi bi, Grew (w.alloc (.cells #[.int .i64 r.off, .int .i64 r.time, .bool r.keyed, .string ⟨r.key.toArray⟩, .bool r.gone, .string ⟨r.value.toArray⟩] 79)) wi base v vi bi → w.heap.size < wi.heap.size ∧
      (wi.cell? ⟨w.heap.size, 0, none⟩ = some (.int .i64 r.off) ∧ wi.cell? ⟨w.heap.size, 1, none⟩ = some (.int .i64 r.time) ∧ wi.cell? ⟨w.heap.size, 2, none⟩ = some (.bool r.keyed) ∧ wi.cell? ⟨w.heap.size, 3, none⟩ = some (.string ⟨r.key.toArray⟩) ∧ wi.cell? ⟨w.heap.size, 4, none⟩ = some (.bool r.gone) ∧ wi.cell? ⟨w.heap.size, 5, none⟩ = some (.string ⟨r.value.toArray⟩)) :=
    fun wi vi bi hg => ⟨by have := hg.2.1.size; simp at this; omega, box_cells (hg.box (heap_new w _) HLT.out)⟩
  have BOX := hide box
  clear box hrow
  have l0 := Nu.put_len6 (show n0 ≤ 1099511627776 by omega)
  have l1 := Nu.put_len6 (show n1 ≤ 1099511627776 by omega)
  have l2 := Nu.put_len6 (show Bt.mark r ≤ 1099511627776 by have := mark_le r; omega)
  have l3 := textB_len (show r.key.length ≤ 600 by omega)
  have l4 := mark_le r
  have o1 : -9223372036854775808 ≤ r.off := by omega
  have o2 : r.off ≤ 9223372036854775807 := by omega
  simp only [recV, strV]
  have hn1 : n1 ≤ 1099511627776 := by omega
  have HTM := hide htime
  clear htime
  go_enter Try.func51, Try.ntmps51
  go_wp2_with fail
  refine (put_any _ base v bs HG0.out.1 (by simp; omega) n0 (by omega) (by omega)).mono ?_
  rintro e w1 ⟨v1, rfl, hr1, ht1, ho1⟩
  have HG1 := hide (HG0.out.trans ⟨hr1, ht1, ho1⟩)
  clear hr1 ht1 ho1
  obtain ⟨z1, c0, c1, c2, c3, c4, c5⟩ := BOX.out _ _ _ HG1.out
  go_wp2_with fail
  rw [HTM.out]
  refine (put_any _ base v1 _ HG1.out.1 (by omega) n1 (by omega) (by simp; omega)).mono ?_
  rintro e w2 ⟨v2, rfl, hr2, ht2, ho2⟩
  have HG2 := hide (HG1.out.trans ⟨hr2, ht2, ho2⟩)
  clear hr2 ht2 ho2 c0 c1 c2 c3 c4 c5 z1
  obtain ⟨z1, c0, c1, c2, c3, c4, c5⟩ := BOX.out _ _ _ HG2.out
  go_wp2_with fail
  refine (marks_any _ r).mono ?_
  rintro e w3 ⟨rfl, ht3⟩
  have HG3 := hide (HG2.out.still ht3)
  clear ht3 c0 c1 c2 c3 c4 c5 z1
  obtain ⟨z1, c0, c1, c2, c3, c4, c5⟩ := BOX.out _ _ _ HG3.out
  go_wp2_with fail
  refine (put_any _ base v2 _ HG3.out.1 (by omega) (Bt.mark r) (by omega) (by simp; omega)).mono ?_
  rintro e w4 ⟨v4, rfl, hr4, ht4, ho4⟩
  have HG4 := hide (HG3.out.trans ⟨hr4, ht4, ho4⟩)
  clear hr4 ht4 ho4 c0 c1 c2 c3 c4 c5 z1
  obtain ⟨z1, c0, c1, c2, c3, c4, c5⟩ := BOX.out _ _ _ HG4.out
  have fin : ∀ wi vi bi, Grew (w.alloc (.cells #[.int .i64 r.off, .int .i64 r.time, .bool r.keyed, .string ⟨r.key.toArray⟩, .bool r.gone, .string ⟨r.value.toArray⟩] 79)) wi base v vi bi → bi = bs ++ Bt.recB b r → Grew w wi base v vi (bs ++ Bt.recB b r) :=
    fun wi vi bi h e => e ▸ Grew.pre ((Turn.refl [] w).alloc _) h
  have FIN := hide fin
  clear fin
  obtain ⟨kd, hkd⟩ : ∃ kd, r.keyed = kd := ⟨_, rfl⟩
  obtain ⟨gn, hgn⟩ : ∃ gn, r.gone = gn := ⟨_, rfl⟩
  rw [hkd] at c2
  rw [hgn] at c4
  have HB2 : Hid (Bt.recB b r = Nu.put n0 ++ Nu.put n1 ++ Nu.put (Bt.mark r) ++ (if kd then Bt.textB r.key else []) ++ (if gn then [] else Bt.textB r.value)) := by
    show _ = _
    rw [HB.out, hkd, hgn]
  have HKD := hide hkd
  have HGN := hide hgn
  clear hkd hgn HB
  cases kd with
  | true =>
    go_wp2_with fail
    refine (putText_any _ base v4 _ HG4.out.1 (by omega) r.key (by omega) (by simp; omega)).mono ?_
    rintro e w5 ⟨v5, rfl, hg5⟩
    have HG5 := hide (HG4.out.trans hg5)
    clear hg5 c0 c1 c2 c3 c4 c5 z1
    obtain ⟨z1, c0, c1, c2, c3, c4, c5⟩ := BOX.out _ _ _ HG5.out
    rw [HGN.out] at c4
    cases gn with
    | true =>
      go_wp2
      go_ret
      exact ⟨_, rfl, FIN.out _ _ _ HG5.out (by rw [HB2.out]; simp)⟩
    | false =>
      go_wp2_with fail
      refine (putText_any _ base v5 _ HG5.out.1 (by omega) r.value (by omega) (by simp; omega)).mono ?_
      rintro e w6 ⟨v6, rfl, hg6⟩
      have HG6 := hide (HG5.out.trans hg6)
      clear hg6 c0 c1 c2 c3 c4 c5 z1
      go_wp2
      go_ret
      exact ⟨_, rfl, FIN.out _ _ _ HG6.out (by rw [HB2.out]; simp)⟩
  | false =>
    cases gn with
    | true =>
      go_wp2
      go_ret
      exact ⟨_, rfl, FIN.out _ _ _ HG4.out (by rw [HB2.out]; simp)⟩
    | false =>
      go_wp2_with fail
      refine (putText_any _ base v4 _ HG4.out.1 (by omega) r.value (by omega) (by simp; omega)).mono ?_
      rintro e w6 ⟨v6, rfl, hg6⟩
      have HG6 := hide (HG4.out.trans hg6)
      clear hg6 c0 c1 c2 c3 c4 c5 z1
      go_wp2
      go_ret
      exact ⟨_, rfl, FIN.out _ _ _ HG6.out (by rw [HB2.out]; simp)⟩

/-! ### the whole body -/
theorem recs_fit {hi base : Int} : ∀ (rs : List Bt.Rec) (lo : Int), base ≤ lo → Bt.recsErr rs lo hi = 0 → ∀ r ∈ rs, base ≤ r.off ∧ r.off < hi ∧ r.key.length ≤ 60 ∧ r.value.length ≤ 500 ∧ 0 ≤ r.time ∧ r.time ≤ 1099511627776
  | [], _, _, _, r, hr => by simp at hr
  | x :: rs, lo, hb, h, r, hr => by
    have h1 : Bt.recErr x lo hi = 0 := by
      unfold Bt.recsErr at h
      split at h
      · assumption
      · exact h
    have h2 : Bt.recsErr rs (x.off + 1) hi = 0 := by
      unfold Bt.recsErr at h
      rwa [if_pos h1] at h
    have hk := Bt.recErr_ok h1
    rcases List.mem_cons.1 hr with rfl | hr
    · exact ⟨by omega, hk.2.1, hk.2.2.2.2.1, hk.2.2.2.2.2.1, hk.2.2.2.2.2.2.1, hk.2.2.2.2.2.2.2⟩
    · exact recs_fit rs (x.off + 1) (by omega) h2 r hr
theorem bat_fit {x : Bt.Bat} (h : Bt.chk x = 0) : ∀ r ∈ x.recs, RecFit r x.base := by
  intro r hr
  obtain ⟨h1, h2, h3, h4, h5, h6⟩ := Bt.chk_ok h
  obtain ⟨a, b, c, d, e, f⟩ := recs_fit x.recs x.base (Int.le_refl _) h6 r hr
  exact ⟨a, by omega, h1, by omega, e, f, c, d⟩
theorem recsB_take {b : Int} {rs : List Bt.Rec} {k : Nat} (hk : k < rs.length) : Bt.recsB b (rs.take (k + 1)) = Bt.recsB b (rs.take k) ++ Bt.recB b rs[k] := by
  unfold Bt.recsB
  rw [List.take_succ_eq_append_getElem hk]
  simp only [List.flatMap_append, List.flatMap_cons, List.flatMap_nil, List.append_nil]
theorem recsB_len {b : Int} : ∀ (rs : List Bt.Rec), (∀ r ∈ rs, RecFit r b) → (Bt.recsB b rs).length ≤ 600 * rs.length
  | [], _ => by simp [Bt.recsB]
  | r :: rs, h => by
    have h1 := recB_len (h r (by simp))
    have h2 := recsB_len rs (fun x hx => h x (by simp [hx]))
    simp only [Bt.recsB, List.flatMap_cons, List.length_append, List.length_cons] at h2 ⊢
    omega

set_option maxHeartbeats 2000000 in
theorem putBody_any (w : World) (base : Nat) (v sv : Value) (bs : List UInt8) (hrow : RowAt w 5 base v bs) (hbase : base ≤ w.heap.size) (x : Bt.Bat) (hx : RecsAt w sv x.recs) (hd : x.recs ≠ [] → ∀ k ∈ sv.ownBlock, k ∉ v.ownBlock) (hc : Bt.chk x = 0) (hl : bs.length ≤ 100) :
    Calls Try.prog 39 #[v, .agg #[.int .i64 x.base, .int .i64 x.fin, sv]] w fun e w' => ∃ v', e = .returned v' ∧ Grew w w' base v v' (bs ++ Bt.body x) := by
  have hfit := bat_fit hc
  obtain ⟨h1, h2, h3, h4, h5, h6⟩ := Bt.chk_ok hc
  obtain ⟨xb, xf, recs⟩ := x
  simp only at h1 h2 h3 h4 h5 h6 hx hfit hd ⊢
  obtain ⟨a, c, rfl, hlc, hcm, hn0, hp⟩ := hx.form
  have hmx : maxLen = 9223372036854775807 := by simp [maxLen]
  rw [hmx] at hcm
  have HFIT := hide hfit
  have HX := hide hx
  have HD := hide hd
  have hlt : ∀ x ∈ v.ownBlock, x ≠ w.heap.size := fun x hx => by have := (hrow.lt x hx).2; omega
  have HLT := hide hlt
  obtain ⟨n0, hnb⟩ : ∃ n0 : Nat, xb = n0 := ⟨xb.toNat, by omega⟩
  subst hnb
  obtain ⟨n1, hsub⟩ : ∃ n1 : Nat, xf - (n0 : Int) = n1 := ⟨(xf - n0).toNat, by omega⟩
  have HB : Hid (Bt.body ⟨(n0 : Int), xf, recs⟩ = Nu.put n0 ++ Nu.put n1 ++ Nu.put recs.length ++ Bt.recsB n0 recs) := by
    show _ = _
    unfold Bt.body
    simp only [hsub]; simp
  have HG0 : Hid (Grew (w.alloc (.cells #[.int .i64 (n0 : Int), .int .i64 xf, .slice a recs.length c] 47)) (w.alloc (.cells #[.int .i64 (n0 : Int), .int .i64 xf, .slice a recs.length c] 47)) base v v bs) :=
    Grew.refl (hrow.kept ((Turn.refl [] w).alloc _) (by simp))
  have box : ∀ wi vi bi, Grew (w.alloc (.cells #[.int .i64 (n0 : Int), .int .i64 xf, .slice a recs.length c] 47)) wi base v vi bi → w.heap.size < wi.heap.size ∧
      wi.cell? ⟨w.heap.size, 0, none⟩ = some (.int .i64 (n0 : Int)) ∧ wi.cell? ⟨w.heap.size, 1, none⟩ = some (.int .i64 xf) ∧ wi.cell? ⟨w.heap.size, 2, none⟩ = some (.slice a recs.length c) := by
    intro wi vi bi hg
    have hb := hg.box (heap_new w _) HLT.out
    exact ⟨by have := hg.2.1.size; simp at this; omega, by simpa using cell_of hb 0, by simpa using cell_of hb 1, by simpa using cell_of hb 2⟩
  have BOX := hide box
  have recsAt : ∀ wi vi bi, Grew (w.alloc (.cells #[.int .i64 (n0 : Int), .int .i64 xf, .slice a recs.length c] 47)) wi base v vi bi → RecsAt wi (.slice a recs.length c) recs := by
    intro wi vi bi hg
    exact (HX.out.still ((Turn.refl [] w).alloc _)).kept' hg.2.1 (fun h0 k hk hm => HD.out h0 k hk (by simpa using hm))
  have RECS := hide recsAt
  clear box hrow hx hd hlt hfit recsAt hn0
  have l0 := Nu.put_len6 (show n0 ≤ 1099511627776 by omega)
  have l1 := Nu.put_len6 (show n1 ≤ 1099511627776 by omega)
  have l2 := Nu.put_len6 (show recs.length ≤ 1099511627776 by omega)
  go_enter Try.func39, Try.ntmps39
  go_wp2_with fail
  refine (put_any _ base v bs HG0.out.1 (by simp; omega) n0 (by omega) (by omega)).mono ?_
  rintro e w1 ⟨v1, rfl, hr1, ht1, ho1⟩
  have HG1 := hide (HG0.out.trans ⟨hr1, ht1, ho1⟩)
  clear hr1 ht1 ho1
  obtain ⟨z1, c0, c1, c2⟩ := BOX.out _ _ _ HG1.out
  go_wp2_with fail
  refine (put_any _ base v1 _ HG1.out.1 (by omega) n1 (by omega) (by simp; omega)).mono ?_
  rintro e w2 ⟨v2, rfl, hr2, ht2, ho2⟩
  have HG2 := hide (HG1.out.trans ⟨hr2, ht2, ho2⟩)
  clear hr2 ht2 ho2 c0 c1 c2 z1
  obtain ⟨z1, c0, c1, c2⟩ := BOX.out _ _ _ HG2.out
  go_wp2_with fail
  refine (put_any _ base v2 _ HG2.out.1 (by omega) recs.length (by omega) (by simp; omega)).mono ?_
  rintro e w3 ⟨v3, rfl, hr3, ht3, ho3⟩
  have HG3 := hide (HG2.out.trans ⟨hr3, ht3, ho3⟩)
  clear hr3 ht3 ho3 c0 c1 c2 z1
  obtain ⟨z1, c0, c1, c2⟩ := BOX.out _ _ _ HG3.out
  go_wp2
  go_loopw [0, 26] (fun s i wr => ∃ k : Nat, k ≤ recs.length ∧ i = .int .i64 k ∧ Grew (w.alloc (.cells #[.int .i64 (n0 : Int), .int .i64 xf, .slice a recs.length c] 47)) wr base v s (bs ++ Nu.put n0 ++ Nu.put n1 ++ Nu.put recs.length ++ Bt.recsB n0 (recs.take k))) (fun _ i _ => recs.length - (intOf i).toNat)
  case atStart => exact ⟨0, Nat.zero_le _, rfl, by simpa [Bt.recsB] using HG3.out⟩
  case round =>
    obtain ⟨k, hk, rfl, hg⟩ := hrel
    have HG := hide hg
    clear hg c0 c1 c2 z1
    obtain ⟨z1, c0, c1, c2⟩ := BOX.out _ _ _ HG.out
    by_cases hlt : k < recs.length
    · obtain ⟨p, rfl⟩ := hp k hlt
      obtain ⟨g0, g1, g2, g3, g4, g5⟩ := (RECS.out _ _ _ HG.out).six hlt
      have hf := HFIT.out recs[k] (List.getElem_mem _)
      have HF := hide hf
      have HS := hide (recsB_take (b := (n0 : Int)) hlt)
      have hln := recsB_len (b := (n0 : Int)) (recs.take k) (fun r hr => HFIT.out r (List.mem_of_mem_take hr))
      have hln2 : (recs.take k).length ≤ k := List.length_take_le _ _
      clear hp hf
      obtain ⟨r, hr⟩ : ∃ r, r = recs[k] := ⟨_, rfl⟩
      rw [← hr] at g0 g1 g2 g3 g4 g5 HS HF
      clear hr
      go_wp2_with fail
      refine (putRecord_any _ base _ _ (HG.out.1.kept ((Turn.refl [] _).alloc _) (by simp)) (by simp; omega) r n0 HF.out (by simp only [List.length_append]; omega)).mono ?_
      rintro e w4 ⟨v4, rfl, hg4⟩
      have HG4 := hide (HG.out.trans (Grew.pre ((Turn.refl [] _).alloc _) hg4))
      clear hg4 c0 c1 c2 z1 g0 g1 g2 g3 g4 g5
      obtain ⟨z1, c0, c1, c2⟩ := BOX.out _ _ _ HG4.out
      go_wp2
      refine ⟨⟨k + 1, by omega, by go_num, ?_⟩, ?_⟩
      · rw [HS.out, ← List.append_assoc]; exact HG4.out
      · simp only [intOf]; omega
    · have hlast : recs.take k = recs := List.take_of_length_le (by omega)
      have HL := hide hlast
      clear hlast
      go_wp2
      go_ret
      refine ⟨_, rfl, Grew.pre ((Turn.refl [] w).alloc (.cells #[.int .i64 (n0 : Int), .int .i64 xf, .slice a recs.length c] 47)) ?_⟩
      have := HG.out
      rw [HL.out] at this
      rw [HB.out]
      simpa [List.append_assoc] using this
end Go.Proofs.Ytlcgcckllecjpaa
