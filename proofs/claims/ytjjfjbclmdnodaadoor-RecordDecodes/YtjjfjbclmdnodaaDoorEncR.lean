/- The document's Encode. -/
import Derived.Test.YtjjfjbclmdnodaaDoorClo
import Derived.Test.YtjjfjbclmdnodaaDoorEncP
import Derived.Test.YtjjfjbclmdnodaaDoorChkR
import Derived.Test.YtjjfjbclmdnodaaDoorSumR
import Derived.Test.YtjjfjbclmdnodaaDoorPutN
import Derived.Laws.EntriesVeiled
namespace Go.Proofs.YtjjfjbclmdnodaaDoor
open Go.RowKit Go.Maps
set_option maxRecDepth 100000
set_option linter.unusedSimpArgs false
set_option linter.unusedVariables false

theorem RowAt.low {w : World} {e b b' : Nat} {v : Value} {bs : List UInt8} (h : RowAt w e b v bs) (hb : b' ≤ b) : RowAt w e b' v bs := by
  rcases h with h | ⟨g, cap, cur, h1, h2, r⟩
  · exact .inl h
  · exact .inr ⟨g, cap, cur, h1, by omega, r⟩
theorem SliceAt.still {w w' : World} {v : Value} {xs : List Value} (h : SliceAt w v xs) (ht : Turn [] w w') : SliceAt w' v xs := h.kept ht (by simp)
theorem refFour_any (w : World) (n : Nat) (hn : n < 4294967296) :
    Calls Tryd.prog 59 #[.int .i64 n] w fun e w' => ∃ v', e = .returned v' ∧ (∃ p, v' = .slice (some p) 4 4) ∧ SliceAt w' v' ((Bt.four n).map encB) ∧ Turn [] w w' := by
  have e0 : (n : Int) / 16777216 = ((n / 16777216 % 256 : Nat) : Int) := by omega
  have e1 : (n : Int) / 65536 % 256 = ((n / 65536 % 256 : Nat) : Int) := by omega
  have e2 : (n : Int) / 256 % 256 = ((n / 256 % 256 : Nat) : Int) := by omega
  have e3 : (n : Int) % 256 = ((n % 256 : Nat) : Int) := by omega
  have E0 := hide e0
  have E1 := hide e1
  have E2 := hide e2
  have E3 := hide e3
  clear e0 e1 e2 e3
  go_enter Tryd.func59, Tryd.ntmps59
  go_wp2
  go_ret
  refine ⟨_, rfl, ⟨_, rfl⟩, ?_, (Turn.refl _ _).alloc _⟩
  refine fresh_row _ (Bt.four n) w.heap.size _ (heap_new w _) ?_ 4
  rw [four_enc, E0.out, E1.out, E2.out, E3.out]

set_option maxHeartbeats 4000000 in
theorem refEnc_any (w : World) (v : Value) (x : Bt.Bat) (hx : BatAt w v x) :
    Calls Tryd.prog 31 #[v] w fun e w' => ∃ v', e = .returned (.tuple #[v', .int .i64 (Bt.encErr x)]) ∧ Turn [] w w' ∧ RowAt w' 5 w.heap.size v' (encR x) := by
  have HX := hide hx
  obtain ⟨sv, rfl, hr, b1, b2, f1, f2⟩ := hx
  have HR := hide hr
  obtain ⟨a, c, rfl, hlc, hcm, hn0, hp⟩ := hr.form
  have hmx : maxLen = 9223372036854775807 := by simp [maxLen]
  rw [hmx] at hcm
  have bat : ∀ Z, Turn [] w Z → BatAt Z (.agg #[.int .i64 x.base, .int .i64 x.fin, .slice a x.recs.length c]) x := by
    intro Z hZ
    obtain ⟨sv, e, hr, r⟩ := HX.out
    exact ⟨sv, e, hr.still hZ, r⟩
  have BAT := hide bat
  have cells : ∀ S Z, Turn S (w.alloc (.cells #[.int .i64 x.base, .int .i64 x.fin, .slice a x.recs.length c] 53)) Z → w.heap.size ∉ S → w.heap.size < Z.heap.size ∧
      Z.cell? ⟨w.heap.size, 0, none⟩ = some (.int .i64 x.base) ∧ Z.cell? ⟨w.heap.size, 1, none⟩ = some (.int .i64 x.fin) ∧ Z.cell? ⟨w.heap.size, 2, none⟩ = some (.slice a x.recs.length c) := by
    intro S Z hZ hS
    have hb := hZ.heap (heap_new w _) hS
    exact ⟨by have := hZ.size; simp at this; omega, by simpa using cell_of hb 0, by simpa using cell_of hb 1, by simpa using cell_of hb 2⟩
  have CELLS := hide cells
  clear hr hn0 bat cells
  obtain ⟨ce, hce⟩ : ∃ ce, ce = Bt.chk x := ⟨_, rfl⟩
  have HCE := hide hce
  clear hce
  go_enter Tryd.func31, Tryd.ntmps31
  go_wp2_with fail
  refine (refChk_any _ _ x (BAT.out _ ((Turn.refl [] w).alloc _))).mono ?_
  rintro e wa ⟨rfl, ht1⟩
  rw [← HCE.out]
  have HT1 := hide ht1
  clear ht1
  obtain ⟨z1, c0, c1, c2⟩ := CELLS.out _ _ HT1.out (by simp)
  by_cases h0 : ce = 0
  · subst h0
    have hfit := bat_fit HCE.out.symm
    obtain ⟨h1, h2, h3, h4, h5, h6⟩ := Bt.chk_ok HCE.out.symm
    obtain ⟨n0, hn0⟩ : ∃ n0 : Nat, x.base = n0 := ⟨x.base.toNat, by omega⟩
    obtain ⟨n1, hsub⟩ : ∃ n1 : Nat, x.fin - x.base = n1 := ⟨(x.fin - x.base).toNat, by omega⟩
    have hn0l : n0 ≤ 1099511627776 := by omega
    have hn1l : n1 ≤ 1099511627776 := by omega
    have HN0 := hide hn0
    have HFIT := hide hfit
    have HBD : Hid (Bt.body x = putsB [n0, n1, x.recs.length] ++ Bt.recsB x.base x.recs) := by
      show _ = _
      unfold Bt.body putsB
      rw [hsub, hn0]; simp
    obtain ⟨W0, hW0⟩ : ∃ W0, W0 = (wa.alloc (.cells #[.slice none 0 0] 35)).alloc (.cells #[putV wa.heap.size] 102) := ⟨_, rfl⟩
    have HW0 := hide hW0
    have hsz0 : W0.heap.size = wa.heap.size + 2 := by rw [hW0]; simp
    have hbuf : BufAt W0 wa.heap.size w.heap.size (.slice none 0 0) [] := by
      rw [hW0]
      refine ⟨?_, .inl ⟨rfl, rfl⟩, by simp [Value.ownBlock]⟩
      have := heap_new wa (.cells #[.slice none 0 0] 35)
      exact ((Turn.refl [] _).alloc _ : Turn [] (wa.alloc (.cells #[.slice none 0 0] 35)) _).heap this (by simp)
    have hput : W0.heap[wa.heap.size + 1]? = some (.cells #[putV wa.heap.size] 102 (0, 0)) := by
      rw [hW0]
      have := heap_new (wa.alloc (.cells #[.slice none 0 0] 35)) (.cells #[putV wa.heap.size] 102)
      simpa using this
    have htw : Turn [] (w.alloc (.cells #[.int .i64 x.base, .int .i64 x.fin, .slice a x.recs.length c] 53)) W0 := by
      rw [hW0]; exact (HT1.out.alloc _).alloc _
    have facts : ∀ wi si bi, BufTo W0 wi wa.heap.size w.heap.size (.slice none 0 0) si bi → w.heap.size < wi.heap.size ∧ wa.heap.size + 1 < wi.heap.size ∧
        (wi.cell? ⟨w.heap.size, 0, none⟩ = some (.int .i64 x.base) ∧ wi.cell? ⟨w.heap.size, 1, none⟩ = some (.int .i64 x.fin) ∧ wi.cell? ⟨w.heap.size, 2, none⟩ = some (.slice a x.recs.length c)) ∧
        wi.cell? ⟨wa.heap.size + 1, 0, none⟩ = some (.func (.func 56) #[] #[.pointer (some ⟨wa.heap.size, 0, none⟩)]) ∧ wi.heap[wa.heap.size + 1]? = some (.cells #[putV wa.heap.size] 102 (0, 0)) ∧
        wi.cell? ⟨wa.heap.size, 0, none⟩ = some si ∧ RecsAt wi (.slice a x.recs.length c) x.recs ∧ (∀ y ∈ si.ownBlock, y ≠ wa.heap.size + 1) ∧ Turn [] w wi := by
      intro wi si bi h
      have hs := h.2.1.size
      have hpu := h.box hput (by omega) (by simp [Value.ownBlock])
      have hturn : Turn [wa.heap.size] (w.alloc (.cells #[.int .i64 x.base, .int .i64 x.fin, .slice a x.recs.length c] 53)) wi := (htw.mono (T := [wa.heap.size]) (by simp)).trans h.2.1 (fun k hk => .inl (by simpa [Value.ownBlock] using hk))
      obtain ⟨q1, q2, q3, q4⟩ := CELLS.out _ _ hturn (by simp; omega)
      have hT : Turn [] w wi := (((Turn.refl [] w).alloc _).trans hturn (fun k hk => .inr (by simp at hk; omega)))
      refine ⟨by omega, by omega, ⟨q2, q3, q4⟩, by simpa [putV] using cell_of hpu 0, hpu, by simpa using cell_of h.1.1 0, HR.out.still hT, fun y hy => ?_, hT⟩
      rcases h.2.2 y hy with h' | h'
      · simp [Value.ownBlock] at h'
      · omega
    have FACTS := hide facts
    have HBUF := hide hbuf
    have hbase0 : w.heap.size ≤ W0.heap.size := by omega
    clear hn0 hfit hW0 hbuf hput htw facts
    go_wp2_with fail
    have hfold : ((wa.alloc (.cells #[.slice none 0 0] 35)).alloc (.cells #[.func (.func 56) #[] #[.pointer (some ⟨wa.heap.size, 0, none⟩)]] 102)) = W0 := HW0.out.symm
    have hints : (#[.int .i64 x.base, .int .i64 (n1 : Int), .int .i64 (x.recs.length : Int)] : Array Value) = intsV [n0, n1, x.recs.length] := by rw [HN0.out]; rfl
    rw [hfold, hints]
    have hk0 : (W0.alloc (.cells (intsV [n0, n1, x.recs.length]) 3)).heap[wa.heap.size + 1 + 1]? = some (.cells (intsV [n0, n1, x.recs.length]) 3 (0, 0)) := by
      have := heap_new W0 (.cells (intsV [n0, n1, x.recs.length]) 3)
      rwa [hsz0] at this
    refine (clo_put _ wa.heap.size w.heap.size (.slice none 0 0) [] (HBUF.out.still ((Turn.refl [] _).alloc _)) (by simp; omega) (wa.heap.size + 1 + 1) [n0, n1, x.recs.length] hk0 (by omega) (by simp [Value.ownBlock]) (by simp; omega) (by simp) (by simp)).mono ?_
    rintro e w1 ⟨rfl, s1, hb1⟩
    have HB1 := hide (BufTo.pre ((Turn.refl [] W0).alloc _) hb1)
    clear hb1 hk0 hfold hints c0 c1 c2 z1
    obtain ⟨z1, z2, ⟨c0, c1, c2⟩, cf, -, cb, -, -, -⟩ := FACTS.out _ _ _ HB1.out
    go_wp2
    go_loopw [34] (fun i wr => ∃ (k : Nat) (s : Value), k ≤ x.recs.length ∧ i = .int .i64 k ∧ BufTo W0 wr wa.heap.size w.heap.size (.slice none 0 0) s (putsB [n0, n1, x.recs.length] ++ Bt.recsB x.base (x.recs.take k))) (fun i _ => x.recs.length - (intOf i).toNat)
    case atStart => exact ⟨0, s1, Nat.zero_le _, rfl, by simpa [Bt.recsB] using HB1.out⟩
    case round =>
      obtain ⟨k, s, hk, rfl, hg⟩ := hrel
      have HG := hide hg
      clear hg c0 c1 c2 z1 z2 cf cb
      obtain ⟨z1, z2, ⟨c0, c1, c2⟩, cf, -, cb, hrec, -, -⟩ := FACTS.out _ _ _ HG.out
      have hpl := putsB_len [n0, n1, x.recs.length] (by simp; omega)
      by_cases hlt : k < x.recs.length
      · obtain ⟨p, rfl⟩ := hp k hlt
        obtain ⟨g0, g1, g2, g3, g4, g5⟩ := hrec.six hlt
        have hf := HFIT.out x.recs[k] (List.getElem_mem _)
        have HS := hide (recsB_take (b := x.base) hlt)
        have hln := recsB_len (b := x.base) (x.recs.take k) (fun r hr => HFIT.out r (List.mem_of_mem_take hr))
        have hln2 : (x.recs.take k).length ≤ k := List.length_take_le _ _
        clear hp hrec
        obtain ⟨r, hr⟩ : ∃ r, r = x.recs[k] := ⟨_, rfl⟩
        rw [← hr] at g0 g1 g2 g3 g4 g5 HS hf
        clear hr
        obtain ⟨ro, rt, rk, rkey, rg, rval⟩ := r
        obtain ⟨r1, r2, r3, r4, r5, r6, r7, r8⟩ := hf
        simp only at g0 g1 g2 g3 g4 g5 r1 r2 r3 r4 r5 r6 r7 r8
        obtain ⟨m0, hm0⟩ : ∃ m0 : Nat, ro - x.base = m0 := ⟨(ro - x.base).toNat, by omega⟩
        obtain ⟨m1, hm1⟩ : ∃ m1 : Nat, rt = m1 := ⟨rt.toNat, by omega⟩
        subst hm1
        have HRB : Hid (Bt.recB x.base ⟨ro, m1, rk, rkey, rg, rval⟩ = putsB [m0, m1, Bt.mark ⟨ro, m1, rk, rkey, rg, rval⟩] ++ (if rk then Bt.textB rkey else []) ++ (if rg then [] else Bt.textB rval)) := by
          show _ = _
          unfold Bt.recB putsB
          simp only [hm0]; simp
        have hm0l : m0 ≤ 1099511627776 := by omega
        have hm1l : m1 ≤ 1099511627776 := by omega
        have o1 : -9223372036854775808 ≤ ro := by omega
        have o2 : ro ≤ 9223372036854775807 := by omega
        have hown : ∀ y ∈ s.ownBlock, y < wr.heap.size := fun y hy => (HG.out.1.2.1.lt y hy).2
        have HOWN := hide hown
        have htl := textB_len (show rkey.length ≤ 600 by omega)
        have hbl : (putsB [n0, n1, x.recs.length] ++ Bt.recsB x.base (x.recs.take k)).length ≤ 30018 := by simp only [List.length_append]; simp at hpl; omega
        have hp3 : ∀ q, q ≤ 3 → (putsB [m0, m1, q]).length ≤ 18 := fun q hq => by have := putsB_len [m0, m1, q] (by simp; omega); simpa using this
        have HP3 := hide hp3
        have HBL := hide hbl
        clear hown hp3 hbl hpl hln
        cases rk <;> cases rg
        · have HMK : Hid (Bt.mark (⟨ro, m1, false, rkey, false, rval⟩ : Bt.Rec) = 0) := by show _ = _; rfl
          go_wp2_with fail
          have hints : (#[.int .i64 (m0 : Int), .int .i64 (m1 : Int), .int .i64 0] : Array Value) = intsV [m0, m1, 0] := rfl
          rw [hints]
          have hk0 : ((wr.alloc (.cells #[.int .i64 ro, .int .i64 (m1 : Int), .bool false, .string ⟨rkey.toArray⟩, .bool false, .string ⟨rval.toArray⟩] 98)).alloc (.cells (intsV [m0, m1, 0]) 3)).heap[wr.heap.size + 1]? = some (.cells (intsV [m0, m1, 0]) 3 (0, 0)) := by
            have := heap_new (wr.alloc (.cells #[.int .i64 ro, .int .i64 (m1 : Int), .bool false, .string ⟨rkey.toArray⟩, .bool false, .string ⟨rval.toArray⟩] 98)) (.cells (intsV [m0, m1, 0]) 3)
            simpa using this
          refine (clo_put _ wa.heap.size w.heap.size s _ (HG.out.1.still (((Turn.refl [] wr).alloc _).alloc _)) (by simp; omega) (wr.heap.size + 1) [m0, m1, 0] hk0 (by omega) (fun y hy => by have := HOWN.out y hy; omega) (by simp; omega) (by simp) (by have := HBL.out; omega)).mono ?_
          rintro e w2 ⟨rfl, s2, hb2⟩
          have HB2 := hide (BufTo.pre ((Turn.refl [] (wr.alloc (.cells #[.int .i64 ro, .int .i64 (m1 : Int), .bool false, .string ⟨rkey.toArray⟩, .bool false, .string ⟨rval.toArray⟩] 98))).alloc _) hb2)
          have box : ∀ wi si bi, BufTo (wr.alloc (.cells #[.int .i64 ro, .int .i64 (m1 : Int), .bool false, .string ⟨rkey.toArray⟩, .bool false, .string ⟨rval.toArray⟩] 98)) wi wa.heap.size w.heap.size s si bi → wr.heap.size + 1 ≤ wi.heap.size ∧ wi.cell? ⟨wr.heap.size, 0, none⟩ = some (.int .i64 ro) ∧ wi.cell? ⟨wr.heap.size, 1, none⟩ = some (.int .i64 (m1 : Int)) ∧ wi.cell? ⟨wr.heap.size, 2, none⟩ = some (.bool false) ∧ wi.cell? ⟨wr.heap.size, 3, none⟩ = some (.string ⟨rkey.toArray⟩) ∧ wi.cell? ⟨wr.heap.size, 4, none⟩ = some (.bool false) ∧ wi.cell? ⟨wr.heap.size, 5, none⟩ = some (.string ⟨rval.toArray⟩) :=
            fun wi si bi h => ⟨by have := h.2.1.size; simpa using this, box_cells (r := ⟨ro, m1, false, rkey, false, rval⟩) (h.box (heap_new wr _) (by omega) (fun y hy => by have := HOWN.out y hy; omega))⟩
          have BOX := hide box
          have to0 : ∀ wi si bi, BufTo (wr.alloc (.cells #[.int .i64 ro, .int .i64 (m1 : Int), .bool false, .string ⟨rkey.toArray⟩, .bool false, .string ⟨rval.toArray⟩] 98)) wi wa.heap.size w.heap.size s si bi → BufTo W0 wi wa.heap.size w.heap.size (.slice none 0 0) si bi :=
            fun wi si bi h => (HG.out.still ((Turn.refl [] wr).alloc _)).trans h
          have TO0 := hide to0
          have hp4 := HP3.out 0 (by omega)
          clear hb2 hk0 hints box to0 c0 c1 c2 z1 z2 cf cb g0 g1 g2 g3 g4 g5
          obtain ⟨zz, q0, q1, q2, q3, q4, q5⟩ := BOX.out _ _ _ HB2.out
          obtain ⟨z1, z2, ⟨c0, c1, c2⟩, cf, hput, cb, -, hpp, -⟩ := FACTS.out _ _ _ (TO0.out _ _ _ HB2.out)
          have HPUT := hide hput
          have HPP := hide hpp
          clear hput hpp
          go_wp2_with fail
          refine (clo_text _ (wa.heap.size + 1) wa.heap.size w.heap.size s2 _ HB2.out.1 (by omega) HPUT.out (by omega) HPP.out rval (by omega) (by have := HBL.out; simp only [List.length_append] at this ⊢; omega)).mono ?_
          rintro e w3 ⟨rfl, s3, hb3⟩
          have HB3 := hide (HB2.out.trans hb3)
          clear hb3 c0 c1 c2 z1 z2 cf cb q0 q1 q2 q3 q4 q5 zz HPUT HPP
          obtain ⟨zz, q0, q1, q2, q3, q4, q5⟩ := BOX.out _ _ _ HB3.out
          obtain ⟨z1, z2, ⟨c0, c1, c2⟩, cf, hput, cb, -, hpp, -⟩ := FACTS.out _ _ _ (TO0.out _ _ _ HB3.out)
          have HPUT := hide hput
          have HPP := hide hpp
          clear hput hpp
          go_wp2
          refine ⟨⟨k + 1, s3, by omega, by go_num, ?_⟩, ?_⟩
          · have := TO0.out _ _ _ HB3.out
            rw [HS.out, HRB.out, HMK.out]
            simpa [List.append_assoc] using this
          · simp only [intOf]; omega
        · have HMK : Hid (Bt.mark (⟨ro, m1, false, rkey, true, rval⟩ : Bt.Rec) = 2) := by show _ = _; rfl
          go_wp2_with fail
          have hints : (#[.int .i64 (m0 : Int), .int .i64 (m1 : Int), .int .i64 2] : Array Value) = intsV [m0, m1, 2] := rfl
          rw [hints]
          have hk0 : ((wr.alloc (.cells #[.int .i64 ro, .int .i64 (m1 : Int), .bool false, .string ⟨rkey.toArray⟩, .bool true, .string ⟨rval.toArray⟩] 98)).alloc (.cells (intsV [m0, m1, 2]) 3)).heap[wr.heap.size + 1]? = some (.cells (intsV [m0, m1, 2]) 3 (0, 0)) := by
            have := heap_new (wr.alloc (.cells #[.int .i64 ro, .int .i64 (m1 : Int), .bool false, .string ⟨rkey.toArray⟩, .bool true, .string ⟨rval.toArray⟩] 98)) (.cells (intsV [m0, m1, 2]) 3)
            simpa using this
          refine (clo_put _ wa.heap.size w.heap.size s _ (HG.out.1.still (((Turn.refl [] wr).alloc _).alloc _)) (by simp; omega) (wr.heap.size + 1) [m0, m1, 2] hk0 (by omega) (fun y hy => by have := HOWN.out y hy; omega) (by simp; omega) (by simp) (by have := HBL.out; omega)).mono ?_
          rintro e w2 ⟨rfl, s2, hb2⟩
          have HB2 := hide (BufTo.pre ((Turn.refl [] (wr.alloc (.cells #[.int .i64 ro, .int .i64 (m1 : Int), .bool false, .string ⟨rkey.toArray⟩, .bool true, .string ⟨rval.toArray⟩] 98))).alloc _) hb2)
          have box : ∀ wi si bi, BufTo (wr.alloc (.cells #[.int .i64 ro, .int .i64 (m1 : Int), .bool false, .string ⟨rkey.toArray⟩, .bool true, .string ⟨rval.toArray⟩] 98)) wi wa.heap.size w.heap.size s si bi → wr.heap.size + 1 ≤ wi.heap.size ∧ wi.cell? ⟨wr.heap.size, 0, none⟩ = some (.int .i64 ro) ∧ wi.cell? ⟨wr.heap.size, 1, none⟩ = some (.int .i64 (m1 : Int)) ∧ wi.cell? ⟨wr.heap.size, 2, none⟩ = some (.bool false) ∧ wi.cell? ⟨wr.heap.size, 3, none⟩ = some (.string ⟨rkey.toArray⟩) ∧ wi.cell? ⟨wr.heap.size, 4, none⟩ = some (.bool true) ∧ wi.cell? ⟨wr.heap.size, 5, none⟩ = some (.string ⟨rval.toArray⟩) :=
            fun wi si bi h => ⟨by have := h.2.1.size; simpa using this, box_cells (r := ⟨ro, m1, false, rkey, true, rval⟩) (h.box (heap_new wr _) (by omega) (fun y hy => by have := HOWN.out y hy; omega))⟩
          have BOX := hide box
          have to0 : ∀ wi si bi, BufTo (wr.alloc (.cells #[.int .i64 ro, .int .i64 (m1 : Int), .bool false, .string ⟨rkey.toArray⟩, .bool true, .string ⟨rval.toArray⟩] 98)) wi wa.heap.size w.heap.size s si bi → BufTo W0 wi wa.heap.size w.heap.size (.slice none 0 0) si bi :=
            fun wi si bi h => (HG.out.still ((Turn.refl [] wr).alloc _)).trans h
          have TO0 := hide to0
          have hp4 := HP3.out 2 (by omega)
          clear hb2 hk0 hints box to0 c0 c1 c2 z1 z2 cf cb g0 g1 g2 g3 g4 g5
          obtain ⟨zz, q0, q1, q2, q3, q4, q5⟩ := BOX.out _ _ _ HB2.out
          obtain ⟨z1, z2, ⟨c0, c1, c2⟩, cf, hput, cb, -, hpp, -⟩ := FACTS.out _ _ _ (TO0.out _ _ _ HB2.out)
          have HPUT := hide hput
          have HPP := hide hpp
          clear hput hpp
          go_wp2
          refine ⟨⟨k + 1, s2, by omega, by go_num, ?_⟩, ?_⟩
          · have := TO0.out _ _ _ HB2.out
            rw [HS.out, HRB.out, HMK.out]
            simpa [List.append_assoc] using this
          · simp only [intOf]; omega
        · have HMK : Hid (Bt.mark (⟨ro, m1, true, rkey, false, rval⟩ : Bt.Rec) = 1) := by show _ = _; rfl
          go_wp2_with fail
          have hints : (#[.int .i64 (m0 : Int), .int .i64 (m1 : Int), .int .i64 1] : Array Value) = intsV [m0, m1, 1] := rfl
          rw [hints]
          have hk0 : ((wr.alloc (.cells #[.int .i64 ro, .int .i64 (m1 : Int), .bool true, .string ⟨rkey.toArray⟩, .bool false, .string ⟨rval.toArray⟩] 98)).alloc (.cells (intsV [m0, m1, 1]) 3)).heap[wr.heap.size + 1]? = some (.cells (intsV [m0, m1, 1]) 3 (0, 0)) := by
            have := heap_new (wr.alloc (.cells #[.int .i64 ro, .int .i64 (m1 : Int), .bool true, .string ⟨rkey.toArray⟩, .bool false, .string ⟨rval.toArray⟩] 98)) (.cells (intsV [m0, m1, 1]) 3)
            simpa using this
          refine (clo_put _ wa.heap.size w.heap.size s _ (HG.out.1.still (((Turn.refl [] wr).alloc _).alloc _)) (by simp; omega) (wr.heap.size + 1) [m0, m1, 1] hk0 (by omega) (fun y hy => by have := HOWN.out y hy; omega) (by simp; omega) (by simp) (by have := HBL.out; omega)).mono ?_
          rintro e w2 ⟨rfl, s2, hb2⟩
          have HB2 := hide (BufTo.pre ((Turn.refl [] (wr.alloc (.cells #[.int .i64 ro, .int .i64 (m1 : Int), .bool true, .string ⟨rkey.toArray⟩, .bool false, .string ⟨rval.toArray⟩] 98))).alloc _) hb2)
          have box : ∀ wi si bi, BufTo (wr.alloc (.cells #[.int .i64 ro, .int .i64 (m1 : Int), .bool true, .string ⟨rkey.toArray⟩, .bool false, .string ⟨rval.toArray⟩] 98)) wi wa.heap.size w.heap.size s si bi → wr.heap.size + 1 ≤ wi.heap.size ∧ wi.cell? ⟨wr.heap.size, 0, none⟩ = some (.int .i64 ro) ∧ wi.cell? ⟨wr.heap.size, 1, none⟩ = some (.int .i64 (m1 : Int)) ∧ wi.cell? ⟨wr.heap.size, 2, none⟩ = some (.bool true) ∧ wi.cell? ⟨wr.heap.size, 3, none⟩ = some (.string ⟨rkey.toArray⟩) ∧ wi.cell? ⟨wr.heap.size, 4, none⟩ = some (.bool false) ∧ wi.cell? ⟨wr.heap.size, 5, none⟩ = some (.string ⟨rval.toArray⟩) :=
            fun wi si bi h => ⟨by have := h.2.1.size; simpa using this, box_cells (r := ⟨ro, m1, true, rkey, false, rval⟩) (h.box (heap_new wr _) (by omega) (fun y hy => by have := HOWN.out y hy; omega))⟩
          have BOX := hide box
          have to0 : ∀ wi si bi, BufTo (wr.alloc (.cells #[.int .i64 ro, .int .i64 (m1 : Int), .bool true, .string ⟨rkey.toArray⟩, .bool false, .string ⟨rval.toArray⟩] 98)) wi wa.heap.size w.heap.size s si bi → BufTo W0 wi wa.heap.size w.heap.size (.slice none 0 0) si bi :=
            fun wi si bi h => (HG.out.still ((Turn.refl [] wr).alloc _)).trans h
          have TO0 := hide to0
          have hp4 := HP3.out 1 (by omega)
          clear hb2 hk0 hints box to0 c0 c1 c2 z1 z2 cf cb g0 g1 g2 g3 g4 g5
          obtain ⟨zz, q0, q1, q2, q3, q4, q5⟩ := BOX.out _ _ _ HB2.out
          obtain ⟨z1, z2, ⟨c0, c1, c2⟩, cf, hput, cb, -, hpp, -⟩ := FACTS.out _ _ _ (TO0.out _ _ _ HB2.out)
          have HPUT := hide hput
          have HPP := hide hpp
          clear hput hpp
          go_wp2_with fail
          refine (clo_text _ (wa.heap.size + 1) wa.heap.size w.heap.size s2 _ HB2.out.1 (by omega) HPUT.out (by omega) HPP.out rkey (by omega) (by have := HBL.out; simp only [List.length_append] at this ⊢; omega)).mono ?_
          rintro e w3 ⟨rfl, s3, hb3⟩
          have HB3 := hide (HB2.out.trans hb3)
          clear hb3 c0 c1 c2 z1 z2 cf cb q0 q1 q2 q3 q4 q5 zz HPUT HPP
          obtain ⟨zz, q0, q1, q2, q3, q4, q5⟩ := BOX.out _ _ _ HB3.out
          obtain ⟨z1, z2, ⟨c0, c1, c2⟩, cf, hput, cb, -, hpp, -⟩ := FACTS.out _ _ _ (TO0.out _ _ _ HB3.out)
          have HPUT := hide hput
          have HPP := hide hpp
          clear hput hpp
          go_wp2_with fail
          refine (clo_text _ (wa.heap.size + 1) wa.heap.size w.heap.size s3 _ HB3.out.1 (by omega) HPUT.out (by omega) HPP.out rval (by omega) (by have := HBL.out; simp only [List.length_append] at this ⊢; omega)).mono ?_
          rintro e w4 ⟨rfl, s4, hb4⟩
          have HB4 := hide (HB3.out.trans hb4)
          clear hb4 c0 c1 c2 z1 z2 cf cb q0 q1 q2 q3 q4 q5 zz HPUT HPP
          obtain ⟨zz, q0, q1, q2, q3, q4, q5⟩ := BOX.out _ _ _ HB4.out
          obtain ⟨z1, z2, ⟨c0, c1, c2⟩, cf, hput, cb, -, hpp, -⟩ := FACTS.out _ _ _ (TO0.out _ _ _ HB4.out)
          have HPUT := hide hput
          have HPP := hide hpp
          clear hput hpp
          go_wp2
          refine ⟨⟨k + 1, s4, by omega, by go_num, ?_⟩, ?_⟩
          · have := TO0.out _ _ _ HB4.out
            rw [HS.out, HRB.out, HMK.out]
            simpa [List.append_assoc] using this
          · simp only [intOf]; omega
        · have HMK : Hid (Bt.mark (⟨ro, m1, true, rkey, true, rval⟩ : Bt.Rec) = 3) := by show _ = _; rfl
          go_wp2_with fail
          have hints : (#[.int .i64 (m0 : Int), .int .i64 (m1 : Int), .int .i64 3] : Array Value) = intsV [m0, m1, 3] := rfl
          rw [hints]
          have hk0 : ((wr.alloc (.cells #[.int .i64 ro, .int .i64 (m1 : Int), .bool true, .string ⟨rkey.toArray⟩, .bool true, .string ⟨rval.toArray⟩] 98)).alloc (.cells (intsV [m0, m1, 3]) 3)).heap[wr.heap.size + 1]? = some (.cells (intsV [m0, m1, 3]) 3 (0, 0)) := by
            have := heap_new (wr.alloc (.cells #[.int .i64 ro, .int .i64 (m1 : Int), .bool true, .string ⟨rkey.toArray⟩, .bool true, .string ⟨rval.toArray⟩] 98)) (.cells (intsV [m0, m1, 3]) 3)
            simpa using this
          refine (clo_put _ wa.heap.size w.heap.size s _ (HG.out.1.still (((Turn.refl [] wr).alloc _).alloc _)) (by simp; omega) (wr.heap.size + 1) [m0, m1, 3] hk0 (by omega) (fun y hy => by have := HOWN.out y hy; omega) (by simp; omega) (by simp) (by have := HBL.out; omega)).mono ?_
          rintro e w2 ⟨rfl, s2, hb2⟩
          have HB2 := hide (BufTo.pre ((Turn.refl [] (wr.alloc (.cells #[.int .i64 ro, .int .i64 (m1 : Int), .bool true, .string ⟨rkey.toArray⟩, .bool true, .string ⟨rval.toArray⟩] 98))).alloc _) hb2)
          have box : ∀ wi si bi, BufTo (wr.alloc (.cells #[.int .i64 ro, .int .i64 (m1 : Int), .bool true, .string ⟨rkey.toArray⟩, .bool true, .string ⟨rval.toArray⟩] 98)) wi wa.heap.size w.heap.size s si bi → wr.heap.size + 1 ≤ wi.heap.size ∧ wi.cell? ⟨wr.heap.size, 0, none⟩ = some (.int .i64 ro) ∧ wi.cell? ⟨wr.heap.size, 1, none⟩ = some (.int .i64 (m1 : Int)) ∧ wi.cell? ⟨wr.heap.size, 2, none⟩ = some (.bool true) ∧ wi.cell? ⟨wr.heap.size, 3, none⟩ = some (.string ⟨rkey.toArray⟩) ∧ wi.cell? ⟨wr.heap.size, 4, none⟩ = some (.bool true) ∧ wi.cell? ⟨wr.heap.size, 5, none⟩ = some (.string ⟨rval.toArray⟩) :=
            fun wi si bi h => ⟨by have := h.2.1.size; simpa using this, box_cells (r := ⟨ro, m1, true, rkey, true, rval⟩) (h.box (heap_new wr _) (by omega) (fun y hy => by have := HOWN.out y hy; omega))⟩
          have BOX := hide box
          have to0 : ∀ wi si bi, BufTo (wr.alloc (.cells #[.int .i64 ro, .int .i64 (m1 : Int), .bool true, .string ⟨rkey.toArray⟩, .bool true, .string ⟨rval.toArray⟩] 98)) wi wa.heap.size w.heap.size s si bi → BufTo W0 wi wa.heap.size w.heap.size (.slice none 0 0) si bi :=
            fun wi si bi h => (HG.out.still ((Turn.refl [] wr).alloc _)).trans h
          have TO0 := hide to0
          have hp4 := HP3.out 3 (by omega)
          clear hb2 hk0 hints box to0 c0 c1 c2 z1 z2 cf cb g0 g1 g2 g3 g4 g5
          obtain ⟨zz, q0, q1, q2, q3, q4, q5⟩ := BOX.out _ _ _ HB2.out
          obtain ⟨z1, z2, ⟨c0, c1, c2⟩, cf, hput, cb, -, hpp, -⟩ := FACTS.out _ _ _ (TO0.out _ _ _ HB2.out)
          have HPUT := hide hput
          have HPP := hide hpp
          clear hput hpp
          go_wp2_with fail
          refine (clo_text _ (wa.heap.size + 1) wa.heap.size w.heap.size s2 _ HB2.out.1 (by omega) HPUT.out (by omega) HPP.out rkey (by omega) (by have := HBL.out; simp only [List.length_append] at this ⊢; omega)).mono ?_
          rintro e w3 ⟨rfl, s3, hb3⟩
          have HB3 := hide (HB2.out.trans hb3)
          clear hb3 c0 c1 c2 z1 z2 cf cb q0 q1 q2 q3 q4 q5 zz HPUT HPP
          obtain ⟨zz, q0, q1, q2, q3, q4, q5⟩ := BOX.out _ _ _ HB3.out
          obtain ⟨z1, z2, ⟨c0, c1, c2⟩, cf, hput, cb, -, hpp, -⟩ := FACTS.out _ _ _ (TO0.out _ _ _ HB3.out)
          have HPUT := hide hput
          have HPP := hide hpp
          clear hput hpp
          go_wp2
          refine ⟨⟨k + 1, s3, by omega, by go_num, ?_⟩, ?_⟩
          · have := TO0.out _ _ _ HB3.out
            rw [HS.out, HRB.out, HMK.out]
            simpa [List.append_assoc] using this
          · simp only [intOf]; omega
      · have hlast : x.recs.take k = x.recs := List.take_of_length_le (by omega)
        obtain ⟨i0, hi, hz, hz1, hz2⟩ := infoB_parts
        have hbody : putsB [n0, n1, x.recs.length] ++ Bt.recsB x.base (x.recs.take k) = Bt.body x := by rw [HBD.out, hlast]
        have hbl := body_len HCE.out.symm
        have hb1 := HG.out
        rw [hbody] at hb1
        obtain ⟨sa, sc, hsv, hsl, hsm⟩ := hb1.1.2.1.form
        obtain ⟨L, hL⟩ : ∃ L, L = (Bt.body x).length := ⟨_, rfl⟩
        rw [← hL] at hsv hsl
        have HL := hide hL
        have hLb : L ≤ 30018 := by omega
        subst hsv
        have HGB := hide hb1
        have HTW := hide (FACTS.out _ _ _ HG.out).2.2.2.2.2.2.2.2
        clear hlast hbody hbl hb1 hL hrec hpl hp
        have hew : Bt.encErr x = if 6000 < L + 8 then 4 else 0 := by
          unfold Bt.encErr
          rw [if_pos HCE.out.symm, ← HL.out]
        have HEW := hide hew
        clear hew
        by_cases hbig : 6000 < L + 8
        · have he : Bt.encErr x = 4 := by rw [HEW.out, if_pos hbig]
          have HE := hide he
          clear he
          go_wp2
          go_ret2
          refine ⟨_, by rw [HE.out]; rfl, HTW.out, ?_⟩
          unfold encR
          rw [HE.out]
          exact .inl ⟨rfl, rfl⟩
        · have he : Bt.encErr x = 0 := by rw [HEW.out, if_neg hbig]
          have HE := hide he
          clear he
          have hcrc := Cr.crc_lt (Bt.body x)
          have hcell : ∀ Z, Turn [] wr Z → Z.cell? ⟨wa.heap.size, 0, none⟩ = some (.slice sa L sc) ∧ SliceAt Z (.slice sa L sc) ((Bt.body x).map encB) := by
            intro Z hZ
            have h := HGB.out.1.still hZ
            exact ⟨by simpa using cell_of h.1 0, h.2.1.cells⟩
          have HCELL := hide hcell
          clear hcell
          go_wp2
          clear cb
          refine wp_region_tail 9 (Turn []) (by kernel_rfl) (by kernel_rfl) (by kernel_rfl) (by kernel_rfl) (by kernel_rfl) (Nat.le_of_ble_eq_true rfl) rfl (Turn.refl _) (fun _ _ _ h k => h.same k) ?_
          apply Lo.runx 1 rfl rfl [] (by kernel_rfl) (Turn.refl _)
          apply Exists.intro; apply And.intro
          · intro u w1 hR hF
            clear hF
            refine ⟨rfl, fun a ha K hK => ?_⟩
            have e5 := ha 5
            conv at e5 => rhs; whnf
            clear ha
            have cb := (HCELL.out w1 ((Turn.refl [] wr).drew.same hR)).1
            go_simp
            refine hK _ ?_; rfl
          apply Lo.runx 2 rfl rfl [0] (by kernel_rfl) (Turn.refl _)
          apply Exists.intro; apply And.intro
          · intro u w1 hR hF
            obtain ⟨h0, -⟩ := hF
            refine ⟨rfl, fun a ha K hK => ?_⟩
            have e75 := (ha 75).trans h0
            clear ha h0
            go_simp
            refine hK _ ?_; rfl
          refine Lo.runv 3 rfl rfl [1] (.int .i64 ((L + 8 : Nat) : Int)) (by kernel_rfl) (fun u w1 hR hF => ?_) (Turn.refl _) ?_
          · obtain ⟨h1, -⟩ := hF
            refine ⟨rfl, fun a ha K hK => ?_⟩
            have e76 := (ha 76).trans h1
            clear ha h1
            go_simp
            refine hK _ ?_
            rw [IntWalk.i64_left, IntWalk.wrap64_in _ (by omega)]
            simp
          refine Lo.run 4 rfl rfl [2] (fun y w' => (∃ p, y = .slice (some p) 4 4) ∧ SliceAt w' y ((Bt.four (L + 8)).map encB)) (by kernel_rfl) (fun x w w' h hR => ?_) (fun _ _ h => h) (fun u w1 hR hF => ?_) ?_
          · exact ⟨h.1, h.2.still hR⟩
          · obtain ⟨h2, -⟩ := hF
            refine ⟨rfl, fun a ha K hK => ?_⟩
            have e77 := (ha 77).trans h2
            clear ha h2
            go_simp
            refine (refFour_any _ (L + 8) (by omega)).mono ?_
            rintro e w2 ⟨v2, rfl, hp2, hs2, ht2⟩
            exact hK _ _ ⟨hp2, hs2⟩ ht2
          apply Lo.runx 5 rfl rfl [] (by kernel_rfl) (Turn.refl _)
          apply Exists.intro; apply And.intro
          · intro u w1 hR hF
            clear hF
            refine ⟨rfl, fun a ha K hK => ?_⟩
            have e5 := ha 5
            conv at e5 => rhs; whnf
            clear ha
            have cb := (HCELL.out w1 ((Turn.refl [] wr).drew.same hR)).1
            go_simp
            refine hK _ ?_; rfl
          refine Lo.run 6 rfl rfl [4] (fun y _ => y = .int .i64 (Cr.sum (Bt.body x) : Nat)) (by kernel_rfl) (fun x w w' h hR => ?_) (fun _ _ h => h) (fun u w1 hR hF => ?_) ?_
          · exact h
          · obtain ⟨h4, -⟩ := hF
            refine ⟨rfl, fun a ha K hK => ?_⟩
            have e79 := (ha 79).trans h4
            clear ha h4
            go_simp
            refine (refSum_any _ _ (Bt.body x) (HCELL.out w1 ((Turn.refl [] wr).drew.same hR)).2 (by have := HL.out; omega)).mono ?_
            rintro e w2 ⟨rfl, rfl⟩
            exact hK _ _ rfl (Turn.refl _ _)
          refine Lo.run 7 rfl rfl [5] (fun y w' => (∃ p, y = .slice (some p) 4 4) ∧ SliceAt w' y ((Bt.four (Cr.sum (Bt.body x))).map encB)) (by kernel_rfl) (fun x w w' h hR => ?_) (fun _ _ h => h) (fun u w1 hR hF => ?_) ?_
          · exact ⟨h.1, h.2.still hR⟩
          · obtain ⟨h5, -⟩ := hF
            refine ⟨rfl, fun a ha K hK => ?_⟩
            have e80 : a.tmps.getD 80 undef = u 5 := ha 80
            have h5 := (show (fun y _ => y = .int .i64 (Cr.sum (Bt.body x) : Nat)) (u 5) w1 from h5)
            dsimp only at h5
            clear ha
            go_simp
            refine (refFour_any _ (Cr.sum (Bt.body x)) (by unfold Cr.sum; omega)).mono ?_
            rintro e w2 ⟨v2, rfl, hp2, hs2, ht2⟩
            exact hK _ _ ⟨hp2, hs2⟩ ht2
          refine Lo.run 8 rfl rfl [3, 6] (fun y w' => RowAt w' 5 w.heap.size y (Bt.four (L + 8) ++ Bt.four (Cr.sum (Bt.body x)))) (by kernel_rfl) (fun x w w' h hR => ?_) (fun _ _ h => h) (fun u w1 hR hF => ?_) ?_
          · exact h.kept hR (by simp)
          · obtain ⟨h3, h6, -⟩ := hF
            refine ⟨rfl, fun a ha K hK => ?_⟩
            have e78 : a.tmps.getD 78 undef = u 3 := ha 78
            have e81 : a.tmps.getD 81 undef = u 6 := ha 81
            have h3 := (show (fun y w' => (∃ p, y = .slice (some p) 4 4) ∧ SliceAt w' y ((Bt.four (L + 8)).map encB)) (u 3) w1 from h3)
            dsimp only at h3
            have h6 := (show (fun y w' => (∃ p, y = .slice (some p) 4 4) ∧ SliceAt w' y ((Bt.four (Cr.sum (Bt.body x))).map encB)) (u 6) w1 from h6)
            dsimp only at h6
            clear ha
            obtain ⟨p3, hp3⟩ := h3.1
            have hs3 := h3.2
            have hs6 := h6.2
            obtain ⟨v7, w7, hr7, hrow7, ht7⟩ := run_append_fresh (P := Tryd.prog) 35 35 i0 Tryd.underlying35 hi hz hz1 hz2 w1 w1 (u 3) (u 6) (Bt.four (L + 8)) (Bt.four (Cr.sum (Bt.body x))) ⟨Turn.refl _ _, .inl ⟨p3, hp3, hs3⟩⟩ hs6 (by simp [Bt.four]) (by simp [Bt.four])
            have hsz7 := ((Turn.refl [] wr).drew.same hR).size
            clear h3 h6 hs3 hs6 hp3
            exact oper_append rfl e78 e81 hr7 (hK _ _ (hrow7.low (by omega)) ht7)
          apply Lo.runx 9 rfl rfl [] (by kernel_rfl) (Turn.refl _)
          apply Exists.intro; apply And.intro
          · intro u w1 hR hF
            clear hF
            refine ⟨rfl, fun a ha K hK => ?_⟩
            have e5 := ha 5
            conv at e5 => rhs; whnf
            clear ha
            have cb := (HCELL.out w1 ((Turn.refl [] wr).drew.same hR)).1
            go_simp
            refine hK _ ?_; rfl
          refine Lo.done [7, 8] (fun u w1 hRd hSd hF => ?_)
          clear hSd
          obtain ⟨f7, f8, -⟩ := hF
          have d7 := (show (fun y w' => RowAt w' 5 w.heap.size y (Bt.four (L + 8) ++ Bt.four (Cr.sum (Bt.body x)))) (u 7) w1 from f7)
          dsimp only at d7
          have d8 : u 8 = _ := f8
          clear f7 f8
          simp only [List.take_succ_cons, List.take_zero, List.drop_succ_cons, List.drop_zero, putFrom, Act.put, List.setIfInBounds_toArray, List.set_cons_succ, List.set_cons_zero, Nat.zero_add, Nat.reduceAdd, d8]
          have ht1 : Turn [] wr w1 := (Turn.refl [] wr).drew.same hRd
          have HD7 := hide d7
          have HS8 := hide (HCELL.out w1 ht1).2
          have HTW1 := hide (HTW.out.same ht1)
          have hsz1 := ht1.size
          have hlen1 : (Bt.four (L + 8) ++ Bt.four (Cr.sum (Bt.body x))).length + (Bt.body x).length ≤ 1099511627776 := by have := HL.out; simp [Bt.four]; omega
          have HLEN := hide hlen1
          clear d7 d8 ht1 hlen1 hRd
          go_wp2_with (at_builtin; go_must (refine wpList_append_row _ rfl _ _ 35 rfl 5 w.heap.size i0 Tryd.underlying35 hi hz hz1 hz2 (u 7) (.slice sa L sc) (Bt.four (L + 8) ++ Bt.four (Cr.sum (Bt.body x))) (Bt.body x) rfl rfl HD7.out HS8.out HLEN.out (by omega) ?_; intro v3 w3 hrow3 ht3 hown3; have HROW := hide hrow3; have HT3 := hide ht3; clear hrow3 ht3 hown3))
          go_ret2
          refine ⟨v3, by rw [HE.out]; rfl, HTW1.out.trans HT3.out (fun y hy => .inr (HD7.out.lt y (by simpa using hy)).1), ?_⟩
          have := HROW.out
          unfold encR
          rw [HE.out, if_pos rfl]
          unfold Bt.encB
          rw [← HL.out]
          exact this
  · go_wp2
    go_ret2
    have he : Bt.encErr x = ce := by unfold Bt.encErr; rw [← HCE.out, if_neg h0]
    refine ⟨_, by rw [he]; rfl, ((Turn.refl [] w).alloc _).same HT1.out, ?_⟩
    unfold encR
    rw [he, if_neg h0]
    exact .inl ⟨rfl, rfl⟩
end Go.Proofs.YtjjfjbclmdnodaaDoor
