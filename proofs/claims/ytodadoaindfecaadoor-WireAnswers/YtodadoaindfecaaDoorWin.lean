/- The document's maker: numbers, truths, texts. -/
import Derived.Test.YtodadoaindfecaaDoorWif
import Derived.Test.YtodadoaindfecaaDoorPutR
import Derived.Test.YtodadoaindfecaaDoorEncR
import Derived.Deep.CutBlock
import Derived.Deep.DeepCutAuto
namespace Go.Proofs.YtodadoaindfecaaDoor.Wi
open Go.RowKit Go.Maps
set_option maxRecDepth 100000
set_option linter.unusedSimpArgs false
set_option linter.unusedVariables false

abbrev mT : TypeId := 91
def eI (n : Int) : Value := .int .i64 n
theorem BytesAt.keptO {w w' : World} {v : Value} {bs : List UInt8} {S : List Nat} {B : Nat} (h : BytesAt w v bs) (ht : Turn S w w') (hb : ∀ k ∈ v.ownBlock, B ≤ k) (hS : ∀ k ∈ S, k < B) : BytesAt w' v bs :=
  h.kept ht (fun k hk _ hm => by have := hb k hk; have := hS k hm; omega)

set_option maxHeartbeats 4000000 in
theorem mnum_any (w : World) (wb base : Nat) (sv : Value) (s : WS) (h : MkAt mT eI w wb base sv s) (hbase : base ≤ w.heap.size) (k : Nat) (l : List Int) (hk : w.heap[k]? = some (.cells (intsZ l) 3 (0, 0))) (hl : l.length ≤ 9) (hsl : s.1.length ≤ 900000000000) :
    Calls Tryd.prog 40 #[.pointer (some ⟨wb, 0, none⟩), .slice (some ⟨k, 0, none⟩) l.length l.length] w fun e w' => e = .returned (.tuple #[]) ∧ ∃ sv', MkTo mT eI w w' wb base sv sv' (nums s l) := by
  obtain ⟨i0, hi, hz, hz1, hz2⟩ := infoB_parts
  have hkn := h.ne hk (by decide) (by decide)
  have HMK := hide h
  have HK := hide hk
  have HKN := hide hkn
  have HK2 : Hid (∀ wi si bi, MkTo mT eI w wi wb base sv si bi → wi.heap[k]? = some (.cells (intsZ l) 3 (0, 0))) := fun wi si bi hh => hh.box HK.out HKN.out.1 HKN.out.2
  clear h hk hkn
  go_enter Tryd.func40, Tryd.ntmps40
  go_wp2
  go_loopw [8] (fun iv wr => ∃ (j : Nat) (sr : Value), j ≤ l.length ∧ iv = .int .i64 (j : Int) ∧ MkTo mT eI w wr wb base sv sr (nums s (l.take j))) (fun iv _ => l.length - (intOf iv).toNat)
  case atStart => exact ⟨0, _, Nat.zero_le _, rfl, HMK.out.self⟩
  case round =>
    obtain ⟨j, sr, hj, rfl, hr⟩ := hrel
    have HR := hide hr
    have hbk := HK2.out _ _ _ hr
    have hws := hr.2.1.size
    clear hr
    by_cases hlt : j < l.length
    · have hlt1 : (j : Int) < l.length := by omega
      obtain ⟨n, hn⟩ : ∃ n, n = l[j] := ⟨_, rfl⟩
      have hcell : wr.cell? ⟨k, j, none⟩ = some (.int .i64 n) := by
        rw [cell_of hbk, hn]; simp [intsZ, hlt]
      have hcell2 : wr.cell? ⟨k, 0 + j, none⟩ = some (.int .i64 n) := by rw [Nat.zero_add]; exact hcell
      have hsn := nums_snoc s hlt
      rw [← hn] at hsn
      have hnl := nums_len s (l.take j)
      have htl : (l.take j).length ≤ 9 := by rw [List.length_take]; omega
      obtain ⟨t, ht⟩ : ∃ t, t = nums s (l.take j) := ⟨_, rfl⟩
      rw [← ht] at hsn hnl HR
      have HSN := hide hsn
      obtain ⟨⟨c0, c1⟩, f0, f1⟩ := HR.out.1.cells
      have htl2 : t.1.length ≤ 900000000054 := by omega
      have HTL := hide htl2
      clear hn hbk hsn hnl htl ht htl2
      have go : ∀ (wv : World) (tv : WS) (q : Nat), q ≤ 1099511627776 → tv.1 = t.1 → MkTo mT eI wr wv wb base sr sr tv → True := fun _ _ _ _ _ _ => trivial
      clear go
      by_cases hok : okN n
      · have hpn := ok_pN (s := t) hok
        obtain ⟨hok1, hok2⟩ := hok
        obtain ⟨q, rfl⟩ : ∃ q : Nat, n = (q : Int) := ⟨n.toNat, by omega⟩
        rw [Int.toNat_natCast] at hpn
        have HPN := hide hpn
        have hq0 : ¬ (q : Int) < 0 := by omega
        have hq1 : ¬ (q : Int) > 1099511627776 := by omega
        have hq2 : q ≤ 1099511627776 := by omega
        have hlq := Nu.put_len6 hq2
        clear hpn hok1 hok2
        obtain ⟨wv, rfl⟩ : ∃ wv, wv = wr := ⟨_, rfl⟩
        have HM := hide HR.out.1
        have HBV : Hid (base ≤ wv.heap.size) := by show _ ≤ _; omega
        go_wp2
        refine wp_region_loud 10 (Turn sr.ownBlock.toList) (Turn []) (fun k w => match k with | 0 => (fun w => RowAt w 5 base sr t.1) w | _ => (fun w => 0 ≤ w.heap.size) w) [7] (by kernel_rfl) (by kernel_rfl) (by kernel_rfl) (by kernel_rfl) (by kernel_rfl) (by kernel_rfl) (Nat.le_of_ble_eq_true rfl) (by decide) rfl (Turn.refl _) (fun _ _ _ h k => h.same k) (fun _ _ h => h.mono (by simp)) ?_ ?_ ?_
        · intro k a b hk hR
          match k, hk with
          | 0, hk =>
            have hk := (show (fun w => RowAt w 5 base sr t.1) a from hk)
            dsimp only at hk
            show (fun w => RowAt w 5 base sr t.1) b
            dsimp only
            first | exact Nat.zero_le _ | exact hk.kept hR (by simp)
          | _ + 1, hk =>
            have hk := (show (fun w => 0 ≤ w.heap.size) a from hk)
            dsimp only at hk
            show (fun w => 0 ≤ w.heap.size) b
            dsimp only
            first | exact Nat.zero_le _ | exact hk.kept hR (by simp)
        · show (fun w => RowAt w 5 base sr t.1) _
          dsimp only
          exact HM.out.2.1.kept ((Turn.refl [] _).drew) (by simp)
        apply Lo.runx 1 rfl rfl [] (by kernel_rfl) (Turn.refl _)
        apply Exists.intro; apply And.intro
        · intro u w1 hR hF
          clear hF
          refine ⟨rfl, fun a ha K hK => ?_⟩
          have e0 := ha 0
          conv at e0 => rhs; whnf
          clear ha
          go_simp
          refine hK _ ?_; rfl
        apply Lo.runx 2 rfl rfl [] (by kernel_rfl) (Turn.refl _)
        apply Exists.intro; apply And.intro
        · intro u w1 hR hF
          clear hF
          refine ⟨rfl, fun a ha K hK => ?_⟩
          have e0 := ha 0
          conv at e0 => rhs; whnf
          clear ha
          go_simp
          refine hK _ ?_; rfl
        apply Lo.runx 3 rfl rfl [1] (by kernel_rfl) (Turn.refl _)
        apply Exists.intro; apply And.intro
        · intro u w1 hR hF
          obtain ⟨h1, -⟩ := hF
          refine ⟨rfl, fun a ha K hK => ?_⟩
          have e22 := (ha 22).trans h1
          clear ha h1
          go_simp
          refine hK _ ?_; rfl
        apply Lo.runx 4 rfl rfl [2] (by kernel_rfl) (Turn.refl _)
        apply Exists.intro; apply And.intro
        · intro u w1 hR hF
          obtain ⟨h2, -⟩ := hF
          refine ⟨rfl, fun a ha K hK => ?_⟩
          have e23 := (ha 23).trans h2
          clear ha h2
          go_simp
          refine hK _ ?_; rfl
        apply Lo.runx 5 rfl rfl [3] (by kernel_rfl) (Turn.refl _)
        apply Exists.intro; apply And.intro
        · intro u w1 hR hF
          obtain ⟨h3, -⟩ := hF
          refine ⟨rfl, fun a ha K hK => ?_⟩
          have e24 := (ha 24).trans h3
          clear ha h3
          have hb1 := hR.heap (((Turn.refl [] _).drew).heap HM.out.1 (by simp)) (fun hm => HM.out.2.2 wb (by simpa using hm) rfl)
          have c0 : w1.cell? ⟨wb, 0, none⟩ = some sr := by simpa using cell_of hb1 0
          go_simp
          refine hK _ ?_; rfl
        apply Lo.runx 6 rfl rfl [] (by kernel_rfl) (Turn.refl _)
        apply Exists.intro; apply And.intro
        · intro u w1 hR hF
          clear hF
          refine ⟨rfl, fun a ha K hK => ?_⟩
          have e5 := ha 5
          conv at e5 => rhs; whnf
          clear ha
          go_simp
          refine hK _ ?_; rfl
        refine Lo.run 7 rfl rfl [5] (fun y w' => BytesAt w' y (Nu.put q) ∧ ∀ k ∈ y.ownBlock, wv.heap.size ≤ k) (by kernel_rfl) (fun x w w' h hR => ?_) (fun _ _ h => h.mono (by simp)) (fun u w1 hR hF => ?_) ?_
        · exact ⟨BytesAt.keptO h.1 hR h.2 (fun k hk => (HM.out.lt.2 k (by simpa using hk)).2), h.2⟩
        · obtain ⟨h5, -⟩ := hF
          refine ⟨rfl, fun a ha K hK => ?_⟩
          have e26 := (ha 26).trans h5
          clear ha h5
          go_simp
          refine (refPut_any (q + 1) q (by omega) (by omega) _).mono ?_
          rintro e w2 ⟨v2, rfl, hr2, ht2⟩
          have hs1 := hR.size
          exact hK _ _ ⟨hr2.bytes, fun k hk => by have := (hr2.lt k hk).1; have : wv.heap.size ≤ w1.heap.size := by simpa using hs1
                                                  omega⟩ ht2
        refine Lo.noisy 8 rfl 0 rfl [4, 6] (fun y w' => RowAt w' 5 base y (t.1 ++ Nu.put q) ∧ ∀ k ∈ y.ownBlock, k ∈ sr.ownBlock ∨ wv.heap.size ≤ k) (by kernel_rfl) (fun x w w' h hR => ?_) (.inl (by kernel_rfl)) (fun u w1 hR hS hF => ?_) ?_
        · exact ⟨h.1.kept hR (by simp), h.2⟩
        · obtain ⟨h4, h6, -⟩ := hF
          have hS := (show (fun w => RowAt w 5 base sr t.1) w1 from hS)
          dsimp only at hS
          refine ⟨rfl, fun a ha K hK => ?_⟩
          have e25 := (ha 25).trans h4
          have e27 : a.tmps.getD 27 undef = u 6 := ha 27
          have h6 := (show (fun y w' => BytesAt w' y (Nu.put q) ∧ ∀ k ∈ y.ownBlock, wv.heap.size ≤ k) (u 6) w1 from h6)
          dsimp only at h6
          clear ha h4
          have hs1 := hR.size
          have hs2 : wv.heap.size ≤ w1.heap.size := by simpa using hs1
          obtain ⟨v7, w7, hr7, hrow7, ht7, hown7⟩ := run_append_row (P := Tryd.prog) w1 49 49 5 base i0 Tryd.underlying49 hi hz hz1 hz2 sr (u 6) t.1 (Nu.put q) hS h6.1.slice (by have := HTL.out; omega) (by have := HBV.out; omega)
          exact oper_append rfl e25 e27 hr7 (hK _ _ ⟨hrow7, fun k hk => (hown7 k hk).imp id (fun h => by omega)⟩ ht7 (Nat.zero_le _))
        apply Lo.runx 9 rfl rfl [0] (by kernel_rfl) (Turn.refl _)
        apply Exists.intro; apply And.intro
        · intro u w1 hR hF
          obtain ⟨h0, -⟩ := hF
          refine ⟨rfl, fun a ha K hK => ?_⟩
          have e21 := (ha 21).trans h0
          clear ha h0
          go_simp
          refine hK _ ?_; rfl
        apply Lo.runx 10 rfl rfl [8] (by kernel_rfl) (Turn.refl _)
        apply Exists.intro; apply And.intro
        · intro u w1 hR hF
          obtain ⟨h8, -⟩ := hF
          refine ⟨rfl, fun a ha K hK => ?_⟩
          have e29 := (ha 29).trans h8
          clear ha h8
          go_simp
          refine hK _ ?_; rfl
        refine Lo.done [7, 9] (fun u w1 hRd hSd hF => ?_)
        have hSd := (show (fun w => 0 ≤ w.heap.size) w1 from hSd)
        dsimp only at hSd
        obtain ⟨f7, f9, -⟩ := hF
        have d7 := (show (fun y w' => RowAt w' 5 base y (t.1 ++ Nu.put q) ∧ ∀ k ∈ y.ownBlock, k ∈ sr.ownBlock ∨ wv.heap.size ≤ k) (u 7) w1 from f7)
        dsimp only at d7
        have d9 : u 9 = _ := f9
        clear f7 f9
        simp only [List.take_succ_cons, List.take_zero, List.drop_succ_cons, List.drop_zero, putFrom, Act.put, List.setIfInBounds_toArray, List.set_cons_succ, List.set_cons_zero, Nat.zero_add, Nat.reduceAdd, d9]
        have ht1 : Turn sr.ownBlock.toList wv w1 := (((Turn.refl [] wv).drew).mono (by simp)).same hRd
        have hg : Grew wv w1 base sr (u 7) (t.1 ++ Nu.put q) := ⟨d7.1, ht1, d7.2⟩
        obtain ⟨a3, n3, cp3, hv3⟩ := d7.1.some_slice
        rw [hv3] at hg ⊢
        have hput := HM.out.put hg
        have HPUT := hide hput
        have hb1 := ht1.heap HM.out.1 (fun hm => HM.out.2.2 wb (by simpa using hm) rfl)
        have c0' : w1.cell? ⟨wb, 0, none⟩ = some sr := by simpa using cell_of hb1 0
        have f0' : w1.frozen? ⟨wb, 0, none⟩ = false := frozen_of hb1 0
        clear hg hput hb1 ht1 hRd hSd d7 c0 f0 c1 f1 hcell hcell2 hv3
        go_wp2
        refine ⟨⟨j + 1, _, by omega, by go_num, by rw [HSN.out, HPN.out]; exact HR.out.trans HPUT.out⟩, ?_⟩
        simp only [intOf]; omega
      · have hpn : pN t n = (t.1 ++ Nu.put 0, 2) := by unfold pN; rw [if_neg hok]
        have HPN := hide hpn
        have HOK : Hid (¬ okN n) := hok
        clear hpn hok
        obtain ⟨q, hq⟩ : ∃ q : Nat, q = 0 := ⟨0, rfl⟩
        have hlq := Nu.put_len6 (show 0 ≤ 1099511627776 by omega)
        have hbad := HR.out.1.bad 2
        obtain ⟨wv, hwv⟩ : ∃ wv, wv = wr.setCell ⟨wb, 1, none⟩ (.int .i64 2) := ⟨_, rfl⟩
        have hbad' : MkTo mT eI wr wv wb base sr sr (t.1, 2) := by rw [hwv]; exact hbad
        have HBAD := hide hbad'
        have HWV := hide hwv
        clear hbad hbad' hwv hq
        by_cases hn0 : n < 0
        · go_upto_region 5 with fail
          rw [show wr.setCell ⟨wb, 1, none⟩ (.int .i64 2) = wv from HWV.out.symm]
          have HM := hide HBAD.out.1
          have HBV : Hid (base ≤ wv.heap.size) := by show _ ≤ _; have := HBAD.out.2.1.size; omega
          refine wp_region_loud 10 (Turn sr.ownBlock.toList) (Turn []) (fun k w => match k with | 0 => (fun w => RowAt w 5 base sr t.1) w | _ => (fun w => 0 ≤ w.heap.size) w) [7] (by kernel_rfl) (by kernel_rfl) (by kernel_rfl) (by kernel_rfl) (by kernel_rfl) (by kernel_rfl) (Nat.le_of_ble_eq_true rfl) (by decide) rfl (Turn.refl _) (fun _ _ _ h k => h.same k) (fun _ _ h => h.mono (by simp)) ?_ ?_ ?_
          · intro k a b hk hR
            match k, hk with
            | 0, hk =>
              have hk := (show (fun w => RowAt w 5 base sr t.1) a from hk)
              dsimp only at hk
              show (fun w => RowAt w 5 base sr t.1) b
              dsimp only
              first | exact Nat.zero_le _ | exact hk.kept hR (by simp)
            | _ + 1, hk =>
              have hk := (show (fun w => 0 ≤ w.heap.size) a from hk)
              dsimp only at hk
              show (fun w => 0 ≤ w.heap.size) b
              dsimp only
              first | exact Nat.zero_le _ | exact hk.kept hR (by simp)
          · show (fun w => RowAt w 5 base sr t.1) _
            dsimp only
            exact HM.out.2.1.kept ((Turn.refl [] _).drew) (by simp)
          apply Lo.runx 1 rfl rfl [] (by kernel_rfl) (Turn.refl _)
          apply Exists.intro; apply And.intro
          · intro u w1 hR hF
            clear hF
            refine ⟨rfl, fun a ha K hK => ?_⟩
            have e0 := ha 0
            conv at e0 => rhs; whnf
            clear ha
            go_simp
            refine hK _ ?_; rfl
          apply Lo.runx 2 rfl rfl [] (by kernel_rfl) (Turn.refl _)
          apply Exists.intro; apply And.intro
          · intro u w1 hR hF
            clear hF
            refine ⟨rfl, fun a ha K hK => ?_⟩
            have e0 := ha 0
            conv at e0 => rhs; whnf
            clear ha
            go_simp
            refine hK _ ?_; rfl
          apply Lo.runx 3 rfl rfl [1] (by kernel_rfl) (Turn.refl _)
          apply Exists.intro; apply And.intro
          · intro u w1 hR hF
            obtain ⟨h1, -⟩ := hF
            refine ⟨rfl, fun a ha K hK => ?_⟩
            have e22 := (ha 22).trans h1
            clear ha h1
            go_simp
            refine hK _ ?_; rfl
          apply Lo.runx 4 rfl rfl [2] (by kernel_rfl) (Turn.refl _)
          apply Exists.intro; apply And.intro
          · intro u w1 hR hF
            obtain ⟨h2, -⟩ := hF
            refine ⟨rfl, fun a ha K hK => ?_⟩
            have e23 := (ha 23).trans h2
            clear ha h2
            go_simp
            refine hK _ ?_; rfl
          apply Lo.runx 5 rfl rfl [3] (by kernel_rfl) (Turn.refl _)
          apply Exists.intro; apply And.intro
          · intro u w1 hR hF
            obtain ⟨h3, -⟩ := hF
            refine ⟨rfl, fun a ha K hK => ?_⟩
            have e24 := (ha 24).trans h3
            clear ha h3
            have hb1 := hR.heap (((Turn.refl [] _).drew).heap HM.out.1 (by simp)) (fun hm => HM.out.2.2 wb (by simpa using hm) rfl)
            have c0 : w1.cell? ⟨wb, 0, none⟩ = some sr := by simpa using cell_of hb1 0
            go_simp
            refine hK _ ?_; rfl
          apply Lo.runx 6 rfl rfl [] (by kernel_rfl) (Turn.refl _)
          apply Exists.intro; apply And.intro
          · intro u w1 hR hF
            clear hF
            refine ⟨rfl, fun a ha K hK => ?_⟩
            have e5 := ha 5
            conv at e5 => rhs; whnf
            clear ha
            go_simp
            refine hK _ ?_; rfl
          refine Lo.run 7 rfl rfl [5] (fun y w' => BytesAt w' y (Nu.put 0) ∧ ∀ k ∈ y.ownBlock, wv.heap.size ≤ k) (by kernel_rfl) (fun x w w' h hR => ?_) (fun _ _ h => h.mono (by simp)) (fun u w1 hR hF => ?_) ?_
          · exact ⟨BytesAt.keptO h.1 hR h.2 (fun k hk => (HM.out.lt.2 k (by simpa using hk)).2), h.2⟩
          · obtain ⟨h5, -⟩ := hF
            refine ⟨rfl, fun a ha K hK => ?_⟩
            have e26 := (ha 26).trans h5
            clear ha h5
            go_simp
            refine (refPut_any (0 + 1) 0 (by omega) (by omega) _).mono ?_
            rintro e w2 ⟨v2, rfl, hr2, ht2⟩
            have hs1 := hR.size
            exact hK _ _ ⟨hr2.bytes, fun k hk => by have := (hr2.lt k hk).1; have : wv.heap.size ≤ w1.heap.size := by simpa using hs1
                                                    omega⟩ ht2
          refine Lo.noisy 8 rfl 0 rfl [4, 6] (fun y w' => RowAt w' 5 base y (t.1 ++ Nu.put 0) ∧ ∀ k ∈ y.ownBlock, k ∈ sr.ownBlock ∨ wv.heap.size ≤ k) (by kernel_rfl) (fun x w w' h hR => ?_) (.inl (by kernel_rfl)) (fun u w1 hR hS hF => ?_) ?_
          · exact ⟨h.1.kept hR (by simp), h.2⟩
          · obtain ⟨h4, h6, -⟩ := hF
            have hS := (show (fun w => RowAt w 5 base sr t.1) w1 from hS)
            dsimp only at hS
            refine ⟨rfl, fun a ha K hK => ?_⟩
            have e25 := (ha 25).trans h4
            have e27 : a.tmps.getD 27 undef = u 6 := ha 27
            have h6 := (show (fun y w' => BytesAt w' y (Nu.put 0) ∧ ∀ k ∈ y.ownBlock, wv.heap.size ≤ k) (u 6) w1 from h6)
            dsimp only at h6
            clear ha h4
            have hs1 := hR.size
            have hs2 : wv.heap.size ≤ w1.heap.size := by simpa using hs1
            obtain ⟨v7, w7, hr7, hrow7, ht7, hown7⟩ := run_append_row (P := Tryd.prog) w1 49 49 5 base i0 Tryd.underlying49 hi hz hz1 hz2 sr (u 6) t.1 (Nu.put 0) hS h6.1.slice (by have := HTL.out; omega) (by have := HBV.out; omega)
            exact oper_append rfl e25 e27 hr7 (hK _ _ ⟨hrow7, fun k hk => (hown7 k hk).imp id (fun h => by omega)⟩ ht7 (Nat.zero_le _))
          apply Lo.runx 9 rfl rfl [0] (by kernel_rfl) (Turn.refl _)
          apply Exists.intro; apply And.intro
          · intro u w1 hR hF
            obtain ⟨h0, -⟩ := hF
            refine ⟨rfl, fun a ha K hK => ?_⟩
            have e21 := (ha 21).trans h0
            clear ha h0
            go_simp
            refine hK _ ?_; rfl
          apply Lo.runx 10 rfl rfl [8] (by kernel_rfl) (Turn.refl _)
          apply Exists.intro; apply And.intro
          · intro u w1 hR hF
            obtain ⟨h8, -⟩ := hF
            refine ⟨rfl, fun a ha K hK => ?_⟩
            have e29 := (ha 29).trans h8
            clear ha h8
            go_simp
            refine hK _ ?_; rfl
          refine Lo.done [7, 9] (fun u w1 hRd hSd hF => ?_)
          have hSd := (show (fun w => 0 ≤ w.heap.size) w1 from hSd)
          dsimp only at hSd
          obtain ⟨f7, f9, -⟩ := hF
          have d7 := (show (fun y w' => RowAt w' 5 base y (t.1 ++ Nu.put 0) ∧ ∀ k ∈ y.ownBlock, k ∈ sr.ownBlock ∨ wv.heap.size ≤ k) (u 7) w1 from f7)
          dsimp only at d7
          have d9 : u 9 = _ := f9
          clear f7 f9
          simp only [List.take_succ_cons, List.take_zero, List.drop_succ_cons, List.drop_zero, putFrom, Act.put, List.setIfInBounds_toArray, List.set_cons_succ, List.set_cons_zero, Nat.zero_add, Nat.reduceAdd, d9]
          have ht1 : Turn sr.ownBlock.toList wv w1 := (((Turn.refl [] wv).drew).mono (by simp)).same hRd
          have hg : Grew wv w1 base sr (u 7) (t.1 ++ Nu.put 0) := ⟨d7.1, ht1, d7.2⟩
          obtain ⟨a3, n3, cp3, hv3⟩ := d7.1.some_slice
          rw [hv3] at hg ⊢
          have hput := HM.out.put hg
          have HPUT := hide hput
          have hb1 := ht1.heap HM.out.1 (fun hm => HM.out.2.2 wb (by simpa using hm) rfl)
          have c0' : w1.cell? ⟨wb, 0, none⟩ = some sr := by simpa using cell_of hb1 0
          have f0' : w1.frozen? ⟨wb, 0, none⟩ = false := frozen_of hb1 0
          clear hg hput hb1 ht1 hRd hSd d7 c0 f0 c1 f1 hcell hcell2 hv3
          go_wp2
          refine ⟨⟨j + 1, _, by omega, by go_num, by rw [HSN.out, HPN.out]; exact HR.out.trans (HBAD.out.trans HPUT.out)⟩, ?_⟩
          simp only [intOf]; omega
        · have hn1 : n > 1099511627776 := by
            have := HOK.out
            unfold okN at this
            omega
          go_upto_region 5 with fail
          rw [show wr.setCell ⟨wb, 1, none⟩ (.int .i64 2) = wv from HWV.out.symm]
          have HM := hide HBAD.out.1
          have HBV : Hid (base ≤ wv.heap.size) := by show _ ≤ _; have := HBAD.out.2.1.size; omega
          refine wp_region_loud 10 (Turn sr.ownBlock.toList) (Turn []) (fun k w => match k with | 0 => (fun w => RowAt w 5 base sr t.1) w | _ => (fun w => 0 ≤ w.heap.size) w) [7] (by kernel_rfl) (by kernel_rfl) (by kernel_rfl) (by kernel_rfl) (by kernel_rfl) (by kernel_rfl) (Nat.le_of_ble_eq_true rfl) (by decide) rfl (Turn.refl _) (fun _ _ _ h k => h.same k) (fun _ _ h => h.mono (by simp)) ?_ ?_ ?_
          · intro k a b hk hR
            match k, hk with
            | 0, hk =>
              have hk := (show (fun w => RowAt w 5 base sr t.1) a from hk)
              dsimp only at hk
              show (fun w => RowAt w 5 base sr t.1) b
              dsimp only
              first | exact Nat.zero_le _ | exact hk.kept hR (by simp)
            | _ + 1, hk =>
              have hk := (show (fun w => 0 ≤ w.heap.size) a from hk)
              dsimp only at hk
              show (fun w => 0 ≤ w.heap.size) b
              dsimp only
              first | exact Nat.zero_le _ | exact hk.kept hR (by simp)
          · show (fun w => RowAt w 5 base sr t.1) _
            dsimp only
            exact HM.out.2.1.kept ((Turn.refl [] _).drew) (by simp)
          apply Lo.runx 1 rfl rfl [] (by kernel_rfl) (Turn.refl _)
          apply Exists.intro; apply And.intro
          · intro u w1 hR hF
            clear hF
            refine ⟨rfl, fun a ha K hK => ?_⟩
            have e0 := ha 0
            conv at e0 => rhs; whnf
            clear ha
            go_simp
            refine hK _ ?_; rfl
          apply Lo.runx 2 rfl rfl [] (by kernel_rfl) (Turn.refl _)
          apply Exists.intro; apply And.intro
          · intro u w1 hR hF
            clear hF
            refine ⟨rfl, fun a ha K hK => ?_⟩
            have e0 := ha 0
            conv at e0 => rhs; whnf
            clear ha
            go_simp
            refine hK _ ?_; rfl
          apply Lo.runx 3 rfl rfl [1] (by kernel_rfl) (Turn.refl _)
          apply Exists.intro; apply And.intro
          · intro u w1 hR hF
            obtain ⟨h1, -⟩ := hF
            refine ⟨rfl, fun a ha K hK => ?_⟩
            have e22 := (ha 22).trans h1
            clear ha h1
            go_simp
            refine hK _ ?_; rfl
          apply Lo.runx 4 rfl rfl [2] (by kernel_rfl) (Turn.refl _)
          apply Exists.intro; apply And.intro
          · intro u w1 hR hF
            obtain ⟨h2, -⟩ := hF
            refine ⟨rfl, fun a ha K hK => ?_⟩
            have e23 := (ha 23).trans h2
            clear ha h2
            go_simp
            refine hK _ ?_; rfl
          apply Lo.runx 5 rfl rfl [3] (by kernel_rfl) (Turn.refl _)
          apply Exists.intro; apply And.intro
          · intro u w1 hR hF
            obtain ⟨h3, -⟩ := hF
            refine ⟨rfl, fun a ha K hK => ?_⟩
            have e24 := (ha 24).trans h3
            clear ha h3
            have hb1 := hR.heap (((Turn.refl [] _).drew).heap HM.out.1 (by simp)) (fun hm => HM.out.2.2 wb (by simpa using hm) rfl)
            have c0 : w1.cell? ⟨wb, 0, none⟩ = some sr := by simpa using cell_of hb1 0
            go_simp
            refine hK _ ?_; rfl
          apply Lo.runx 6 rfl rfl [] (by kernel_rfl) (Turn.refl _)
          apply Exists.intro; apply And.intro
          · intro u w1 hR hF
            clear hF
            refine ⟨rfl, fun a ha K hK => ?_⟩
            have e5 := ha 5
            conv at e5 => rhs; whnf
            clear ha
            go_simp
            refine hK _ ?_; rfl
          refine Lo.run 7 rfl rfl [5] (fun y w' => BytesAt w' y (Nu.put 0) ∧ ∀ k ∈ y.ownBlock, wv.heap.size ≤ k) (by kernel_rfl) (fun x w w' h hR => ?_) (fun _ _ h => h.mono (by simp)) (fun u w1 hR hF => ?_) ?_
          · exact ⟨BytesAt.keptO h.1 hR h.2 (fun k hk => (HM.out.lt.2 k (by simpa using hk)).2), h.2⟩
          · obtain ⟨h5, -⟩ := hF
            refine ⟨rfl, fun a ha K hK => ?_⟩
            have e26 := (ha 26).trans h5
            clear ha h5
            go_simp
            refine (refPut_any (0 + 1) 0 (by omega) (by omega) _).mono ?_
            rintro e w2 ⟨v2, rfl, hr2, ht2⟩
            have hs1 := hR.size
            exact hK _ _ ⟨hr2.bytes, fun k hk => by have := (hr2.lt k hk).1; have : wv.heap.size ≤ w1.heap.size := by simpa using hs1
                                                    omega⟩ ht2
          refine Lo.noisy 8 rfl 0 rfl [4, 6] (fun y w' => RowAt w' 5 base y (t.1 ++ Nu.put 0) ∧ ∀ k ∈ y.ownBlock, k ∈ sr.ownBlock ∨ wv.heap.size ≤ k) (by kernel_rfl) (fun x w w' h hR => ?_) (.inl (by kernel_rfl)) (fun u w1 hR hS hF => ?_) ?_
          · exact ⟨h.1.kept hR (by simp), h.2⟩
          · obtain ⟨h4, h6, -⟩ := hF
            have hS := (show (fun w => RowAt w 5 base sr t.1) w1 from hS)
            dsimp only at hS
            refine ⟨rfl, fun a ha K hK => ?_⟩
            have e25 := (ha 25).trans h4
            have e27 : a.tmps.getD 27 undef = u 6 := ha 27
            have h6 := (show (fun y w' => BytesAt w' y (Nu.put 0) ∧ ∀ k ∈ y.ownBlock, wv.heap.size ≤ k) (u 6) w1 from h6)
            dsimp only at h6
            clear ha h4
            have hs1 := hR.size
            have hs2 : wv.heap.size ≤ w1.heap.size := by simpa using hs1
            obtain ⟨v7, w7, hr7, hrow7, ht7, hown7⟩ := run_append_row (P := Tryd.prog) w1 49 49 5 base i0 Tryd.underlying49 hi hz hz1 hz2 sr (u 6) t.1 (Nu.put 0) hS h6.1.slice (by have := HTL.out; omega) (by have := HBV.out; omega)
            exact oper_append rfl e25 e27 hr7 (hK _ _ ⟨hrow7, fun k hk => (hown7 k hk).imp id (fun h => by omega)⟩ ht7 (Nat.zero_le _))
          apply Lo.runx 9 rfl rfl [0] (by kernel_rfl) (Turn.refl _)
          apply Exists.intro; apply And.intro
          · intro u w1 hR hF
            obtain ⟨h0, -⟩ := hF
            refine ⟨rfl, fun a ha K hK => ?_⟩
            have e21 := (ha 21).trans h0
            clear ha h0
            go_simp
            refine hK _ ?_; rfl
          apply Lo.runx 10 rfl rfl [8] (by kernel_rfl) (Turn.refl _)
          apply Exists.intro; apply And.intro
          · intro u w1 hR hF
            obtain ⟨h8, -⟩ := hF
            refine ⟨rfl, fun a ha K hK => ?_⟩
            have e29 := (ha 29).trans h8
            clear ha h8
            go_simp
            refine hK _ ?_; rfl
          refine Lo.done [7, 9] (fun u w1 hRd hSd hF => ?_)
          have hSd := (show (fun w => 0 ≤ w.heap.size) w1 from hSd)
          dsimp only at hSd
          obtain ⟨f7, f9, -⟩ := hF
          have d7 := (show (fun y w' => RowAt w' 5 base y (t.1 ++ Nu.put 0) ∧ ∀ k ∈ y.ownBlock, k ∈ sr.ownBlock ∨ wv.heap.size ≤ k) (u 7) w1 from f7)
          dsimp only at d7
          have d9 : u 9 = _ := f9
          clear f7 f9
          simp only [List.take_succ_cons, List.take_zero, List.drop_succ_cons, List.drop_zero, putFrom, Act.put, List.setIfInBounds_toArray, List.set_cons_succ, List.set_cons_zero, Nat.zero_add, Nat.reduceAdd, d9]
          have ht1 : Turn sr.ownBlock.toList wv w1 := (((Turn.refl [] wv).drew).mono (by simp)).same hRd
          have hg : Grew wv w1 base sr (u 7) (t.1 ++ Nu.put 0) := ⟨d7.1, ht1, d7.2⟩
          obtain ⟨a3, n3, cp3, hv3⟩ := d7.1.some_slice
          rw [hv3] at hg ⊢
          have hput := HM.out.put hg
          have HPUT := hide hput
          have hb1 := ht1.heap HM.out.1 (fun hm => HM.out.2.2 wb (by simpa using hm) rfl)
          have c0' : w1.cell? ⟨wb, 0, none⟩ = some sr := by simpa using cell_of hb1 0
          have f0' : w1.frozen? ⟨wb, 0, none⟩ = false := frozen_of hb1 0
          clear hg hput hb1 ht1 hRd hSd d7 c0 f0 c1 f1 hcell hcell2 hv3
          go_wp2
          refine ⟨⟨j + 1, _, by omega, by go_num, by rw [HSN.out, HPN.out]; exact HR.out.trans (HBAD.out.trans HPUT.out)⟩, ?_⟩
          simp only [intOf]; omega
    · obtain rfl : j = l.length := by omega
      have hlast : l.take l.length = l := List.take_of_length_le (Nat.le_refl _)
      have HL := hide hlast
      clear hlast
      go_wp2
      go_end0
      refine ⟨rfl, sr, ?_⟩
      have := HR.out
      rwa [HL.out] at this
end Go.Proofs.YtodadoaindfecaaDoor.Wi
