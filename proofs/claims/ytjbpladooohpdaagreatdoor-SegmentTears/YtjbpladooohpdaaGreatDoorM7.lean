/- Tears: texts merged. -/
import Derived.Test.YtjbpladooohpdaaGreatDoorM6
/- conveyorkeep.SegmentTears, walked. -/
namespace Go.Proofs.YtjbpladooohpdaaGreatDoor.Sg
open Go.RowKit Go.Maps
set_option maxRecDepth 100000
set_option linter.unusedSimpArgs false
set_option linter.unusedVariables false
attribute [local go_sem] Oper.semAt_some
open Dk (DA DiskAt Parts Did errR errV)

/-- How many bytes the first batches have. -/
def sizesL (xs : List Bt.Bat) : List Nat := (List.range (xs.length + 1)).map (fun j => (flat (xs.take j)).length)
theorem sizesL_len (xs : List Bt.Bat) : (sizesL xs).length = xs.length + 1 := by simp [sizesL]
theorem sizesL_at (xs : List Bt.Bat) {j : Nat} (h : j ≤ xs.length) : (sizesL xs)[j]'(by rw [sizesL_len]; omega) = (flat (xs.take j)).length := by simp [sizesL]
theorem sizesL_snoc (xs : List Bt.Bat) (x : Bt.Bat) : sizesL (xs ++ [x]) = sizesL xs ++ [(flat (xs ++ [x])).length] := by
  unfold sizesL
  rw [List.length_append, List.length_singleton, List.range_succ, List.map_append]
  congr 1
  · apply List.map_congr_left
    intro j hj
    rw [List.mem_range] at hj
    rw [List.take_append_of_le_length (by omega)]
  · simp [List.take_of_length_le]
def intC (n : Nat) : List Value := [.int .i64 (n : Int)]
theorem intC_len : ∀ n, (intC n).length = 1 := fun _ => rfl
theorem Tryz.infoInt : (Tryz.prog.info? 3).map (fun i => (i.zero, i.size, i.bytes)) = some (some (.int .i64 0), 1, 8) := by kernel_rfl
theorem app_int2 (w : World) (base : Nat) (v : Value) (xs : List Nat) (x : Nat) (k : Nat) (hrow : GRow 3 1 intC w base v xs) (hk : w.heap[k]? = some (.cells (intC x).toArray 3 (0, 0))) (hlen : xs.length ≤ 1000000) (hbase : base ≤ w.heap.size) :
    ∃ v' w', (Builtin.append_ #[33, 33] 33 #[v, .slice (some ⟨k, 0, none⟩) 1 1]).run Tryz.prog w = .ok v' w' ∧ GRow 3 1 intC w' base v' (xs ++ [x]) ∧ Turn v.ownBlock.toList w w' ∧ ((slackB v = true ∧ v' = incV v) ∨ (slackB v = false ∧ ∀ j ∈ v'.ownBlock, w.heap.size ≤ j)) := by
  obtain ⟨i, hi, e⟩ := Option.map_eq_some_iff.1 Tryz.infoInt
  simp only [Prod.mk.injEq] at e
  exact run_append_g2 (P := Tryz.prog) 33 33 Tryz.underlying33 i _ hi e.1 (by rfl) e.2.1 (by omega) intC_len (fun x u hu => by simp [intC] at hu; subst hu; rfl) w base v xs x k hrow hk hlen hbase

/-- A read of all there is. -/
theorem read_whole {zs : List Bt.Bat} {b : Int} (hc : Chain b zs) {most : Int} (hm : ((flat zs).length : Int) ≤ most) {m k : Nat} (hl : Least zs.length (finAbove zs b) m) (hs : Sel most (zs.drop m) k) : (zs.drop m).take k = zs := by
  have hm0 : m = 0 := by
    obtain ⟨h1, h2, -⟩ := hl
    rcases Nat.eq_zero_or_pos m with h | h
    · exact h
    · have h3 := h2 0 h
      unfold finAbove at h3
      rw [List.getElem?_eq_getElem (by omega)] at h3
      have h4 := chain_fin hc zs[0] (List.getElem_mem _)
      simp at h3
      omega
  subst hm0
  rw [List.drop_zero] at hs ⊢
  obtain ⟨h1, -, h3⟩ := hs
  rcases Nat.lt_or_ge k zs.length with h | h
  · obtain ⟨-, h4⟩ := h3 h
    have h5 := congrArg List.length (take_flat zs (k + 1))
    rw [List.length_take] at h5
    omega
  · exact List.take_of_length_le h
theorem chain_next : ∀ {zs : List Bt.Bat} {b : Int}, Chain b zs → b ≤ nextOf b zs
  | [], b, _ => by simp [nextOf]
  | x :: r, b, h => by
    have h1 := Bt.chk_ok (Bt.encErr_ok h.1).1
    have h2 := chain_next h.2.2
    rw [nextOf_cons]
    have := h.2.1
    omega
theorem nextOf_append : ∀ (xs ys : List Bt.Bat) (b : Int), nextOf b (xs ++ ys) = nextOf (nextOf b xs) ys
  | [], ys, b => by simp [nextOf]
  | x :: r, ys, b => by rw [List.cons_append, nextOf_cons, nextOf_cons]; exact nextOf_append r ys x.fin
/-- The law's last record. -/
def rX : Bt.Rec := ⟨0, 0, false, [], false, [120]⟩
theorem x_recs (nx : Int) : renum nx [rX] = [⟨nx, 0, false, [], false, [120]⟩] := by simp [renum, rX]
theorem x_len {nx : Int} (h0 : 0 ≤ nx) (h1 : nx + 1 ≤ 1099511627776) : (Bt.encB (batOf nx [rX])).length ≤ 60 := by
  rw [Bt.encB_len]
  unfold Bt.body batOf
  rw [x_recs]
  have h2 := Nu.put_len6 (n := nx.toNat) (by omega)
  have e : (nx + (([rX] : List Bt.Rec).length : Int) - nx).toNat = 1 := by simp; omega
  have e2 : (nx - nx).toNat = 0 := by omega
  have h3 := Nu.put_len6 (n := 1) (by omega)
  have h4 := Nu.put_len6 (n := 0) (by omega)
  have h5 : Bt.recB nx ⟨nx, 0, false, [], false, [120]⟩ = Nu.put 0 ++ Nu.put 0 ++ Nu.put 0 ++ [] ++ (Nu.put 1 ++ [120]) := by
    unfold Bt.recB Bt.mark Bt.textB
    simp only [e2, Int.toNat_zero, Bool.false_eq_true, if_false, Nat.add_zero, List.length_singleton]
  have h6 : ([(⟨nx, 0, false, [], false, [120]⟩ : Bt.Rec)]).length = 1 := rfl
  simp only [Bt.recsB, List.flatMap_cons, List.flatMap_nil, h5, h6, e]
  simp only [List.length_append, List.length_cons, List.length_nil]
  omega
theorem x_ok {nx : Int} (h0 : 0 ≤ nx) (h1 : nx + 1 ≤ 1099511627776) : Bt.encErr (batOf nx [rX]) = 0 := by
  have h2 := x_len h0 h1
  rw [Bt.encB_len] at h2
  have hc : Bt.chk (batOf nx [rX]) = 0 := by
    unfold Bt.chk batOf
    rw [x_recs]
    simp only [List.length_singleton]
    rw [if_neg (by simp; omega), if_neg (by simp; omega), if_neg (by simp; omega)]
    unfold Bt.recsErr Bt.recErr Bt.recsErr
    simp
    omega
  unfold Bt.encErr
  rw [if_pos hc, if_neg (by omega)]
theorem upto_last (was is : List UInt8) (xs : List Bt.Bat) : ∀ k, k ≤ xs.length → ∃ m, m ≤ k ∧ (∀ j, j ≤ m → Upto was is xs j) ∧ (m = k ∨ ¬ Upto was is xs (m + 1))
  | 0, _ => ⟨0, Nat.le_refl _, fun j hj => by obtain rfl : j = 0 := by omega
                                              exact ⟨by simp [flat], by simp [flat]⟩, .inl rfl⟩
  | k + 1, hk => by
    obtain ⟨m, h1, h2, h3⟩ := upto_last was is xs k (by omega)
    rcases h3 with rfl | h3
    · by_cases h : Upto was is xs (m + 1)
      · refine ⟨m + 1, Nat.le_refl _, fun j hj => ?_, .inl rfl⟩
        by_cases hj' : j ≤ m
        · exact h2 j hj'
        · obtain rfl : j = m + 1 := by omega
          exact h
      · exact ⟨m, by omega, h2, .inr h⟩
    · exact ⟨m, by omega, h2, .inr h3⟩
/-- Open of a disk of one file: what is whole. -/
theorem open_one (w : World) (base d : Nat) (F : List Nat) (A : DA) (h : DiskAt w base d F A) (n : Nat) (hn : n ≤ 1099511627776) (hv : Sn.TabT w) (room : Nat) (bs : List UInt8) (ho : One A room (Sn.nameB dirS n).data.toList bs) (ys : List Bt.Bat) (hs : Scan n bs ys) :
    Calls Tryz.prog 16 #[.pointer (some ⟨d, 0, none⟩), .string dirS, .int .i64 n] w fun e w' => ∃ F' A' sb sv, e = .returned (.tuple #[.pointer (some ⟨sb, 0, none⟩), .int .i64 ((bs.length : Int) - (flat ys).length), .nilIface]) ∧
      Both w' base d F' A' sb sv (Sn.nameB dirS n) n (pls 0 (-1) ys) ∧ One A' room (Sn.nameB dirS n).data.toList (flat ys) ∧ Turn F w w' ∧ (∀ k ∈ F', k ∈ F ∨ w.heap.size ≤ k) ∧ ∀ k ∈ sfoot sb sv, w.heap.size ≤ k := by
  obtain ⟨f, hf, hfb⟩ := ho.file
  refine (open_some w base d F A h dirS (by decide) n hn hv f hf).mono ?_
  rintro e w' ⟨xs, hsc, hcase⟩
  rw [hfb] at hsc
  obtain rfl := hsc.unique hs
  obtain ⟨-, hw⟩ := hs.whole
  have hle : (flat xs).length ≤ bs.length := by rw [hw, List.length_append]; omega
  obtain ⟨c1, c2⟩ := ho.cut (flat xs).length hle
  have htk : bs.take (flat xs).length = flat xs := by
    have e : bs.take (flat xs).length = (flat xs ++ bs.drop (flat xs).length).take (flat xs).length := congrArg (List.take _) hw
    rw [e, List.take_left]
  rw [htk] at c2
  rcases hcase with ⟨hl, sb, sv, rfl, hb, ht, hg⟩ | ⟨-, hne, -⟩ | ⟨hl, -, F', sb, sv, rfl, hb, ht, hF, hg⟩
  · rw [hfb] at hl
    have hbe : bs = flat xs := by rw [← htk, ← hl, List.take_length]
    exact ⟨F, A, sb, sv, by rw [show ((bs.length : Int) - (flat xs).length) = 0 by omega], hb, by rw [← hbe]; exact ho, ht.mono (by simp), fun _ hk => .inl hk, hg⟩
  · exact absurd c1 hne
  · rw [hfb] at hl ⊢
    exact ⟨F', _, sb, sv, by rw [show ((bs.length - (flat xs).length : Nat) : Int) = (bs.length : Int) - (flat xs).length by omega], hb, c2, ht, hF, hg⟩

/-- Where the law's first loop stands: the disk, the segment, the sizes, the batches. -/
structure TSt (W wr : World) (d sb : Nat) (n i : Nat) (xs : List Bt.Bat) (zv lv : Value) : Prop where
  both : ∃ F A sv ys, Both wr W.heap.size d F A sb sv (Sn.nameB dirS n) n (pls 0 (-1) xs) ∧ One A 1048576 (Sn.nameB dirS n).data.toList (flat xs) ∧ BRow wr W.heap.size lv ys ∧ ys.map (·.x) = xs ∧
    (∀ k ∈ zv.ownBlock, k ∉ F ∧ k ∉ sfoot sb sv) ∧ (∀ k ∈ lv.ownBlock, k ∉ F ∧ k ∉ sfoot sb sv) ∧ (∀ y ∈ ys, y.x.recs ≠ [] → ∀ k ∈ y.sl.ownBlock, k ∉ F ∧ k ∉ sfoot sb sv ∧ k ∉ zv.ownBlock)
  chain : Chain n xs
  len : xs.length ≤ i
  flat : (flat xs).length ≤ 6000 * i
  next : nextOf n xs ≤ n + 60 * i ∧ 0 ≤ nextOf n xs
  sizes : GRow 3 1 intC wr W.heap.size zv (sizesL xs)
  turn : Turn [] W wr
  zl : ∀ k ∈ zv.ownBlock, k ∉ lv.ownBlock

theorem TSt.still {W wr w' : World} {d sb n i : Nat} {xs : List Bt.Bat} {zv lv : Value} (h : TSt W wr d sb n i xs zv lv) (ht : Turn [] wr w') : TSt W w' d sb n i xs zv lv := by
  obtain ⟨⟨F, A, sv, ys, h1, h2, h3, h4, h5, h6, h7⟩, b, c, e, f, g, t, z⟩ := h
  exact ⟨⟨F, A, sv, ys, h1.still ht, h2, h3.still ht, h4, h5, h6, h7⟩, b, c, e, f, g.still ht, t.same ht, z⟩
theorem TSt.more {W wr : World} {d sb n i : Nat} {xs : List Bt.Bat} {zv lv : Value} (h : TSt W wr d sb n i xs zv lv) : TSt W wr d sb n (i + 1) xs zv lv :=
  ⟨h.both, h.chain, by have := h.len; omega, by have := h.flat; omega, ⟨by have := h.next.1; omega, h.next.2⟩, h.sizes, h.turn, h.zl⟩

set_option maxHeartbeats 8000000 in
theorem tears_any (W : World) (z u : Int) (v1 v3 : Value) (rss : List (List Bt.Rec)) (more : List UInt8) (h1 : RecssAt W v1 rss) (h3 : BytesAt W v3 more) (u1 : -9223372036854775808 ≤ u) (u2 : u ≤ 9223372036854775807) (hv : Sn.VarT W) :
    Calls Tryz.prog 3 #[.int .i64 z, v1, .int .i64 u, v3] W fun e w' => e = .returned (.bool true) ∧ Below W.heap.size W w' := by
  obtain ⟨a1, c1, rfl, hlc1, hcm1⟩ := h1.form
  obtain ⟨a3, c3, rfl, hlc3, hcm3, -⟩ := h3.form
  have hmx : maxLen = 9223372036854775807 := by simp [maxLen]
  rw [hmx] at hcm1 hcm3
  have H1 := hide h1
  have H3 := hide h3
  have HV := hide hv
  clear h1 h3 hv
  by_cases hz : z < 0
  · go_enter Tryz.func3, Tryz.ntmps3
    go_wp2
    go_ret
    exact ⟨rfl, Below.refl _ _⟩
  by_cases hz2 : 1099511624776 < z
  · go_enter Tryz.func3, Tryz.ntmps3
    go_wp2
    go_ret
    exact ⟨rfl, Below.refl _ _⟩
  by_cases hl : 10 < (rss.length : Int)
  · go_enter Tryz.func3, Tryz.ntmps3
    go_wp2
    go_ret
    exact ⟨rfl, Below.refl _ _⟩
  by_cases hm : 3 < (more.length : Int)
  · go_enter Tryz.func3, Tryz.ntmps3
    go_wp2
    go_ret
    exact ⟨rfl, Below.refl _ _⟩
  obtain ⟨n, rfl⟩ := Int.eq_ofNat_of_zero_le (by omega : 0 ≤ z)
  have hn : n ≤ 1099511624776 := by omega
  clear hz
  go_enter Tryz.func3, Tryz.ntmps3
  go_wp2_with fail
  refine (Dk.new_ok 1048576 (by omega) W W.heap.size (Nat.le_refl _)).mono ?_
  rintro e w1 ⟨rfl, hd1, ht1⟩
  obtain ⟨hm1, hm2⟩ := make_one 1048576 (Sn.nameB dirS n) (nameS_ok n (by omega))
  have HT1 := hide ht1
  go_wp2_with fail
  refine (segmented_any _ (HV.out.below ht1.nil)).mono ?_
  rintro e w2 ⟨rfl, ht2⟩
  have HD2 := hide (hd1.kept ht2 (by simp))
  have HT2 := hide (HT1.out.same ht2)
  clear hd1 ht1 ht2
  go_wp2_with fail
  refine (make_any w2 W.heap.size W.heap.size [W.heap.size] _ HD2.out dirS (by decide) n (by omega) (HV.out.below HT2.out.nil).tab).mono ?_
  rintro e w3 (⟨h1, -, -⟩ | ⟨-, sb, rfl, F3, hb3, ht3, hf3, hs3⟩)
  · exact absurd hm1 h1
  have hst : TSt W (w3.alloc (.cells #[.int .i64 0] 3)) W.heap.size sb n 0 [] (.slice (some ⟨w3.heap.size, 0, none⟩) 1 1) (.slice none 0 0) := by
    have hT3 : Turn [] W w3 := HT2.out.trans ht3 (fun k hk => .inr (HD2.out.low k hk))
    have hta : Turn [] w3 (w3.alloc (.cells #[.int .i64 0] 3)) := (Turn.refl [] w3).alloc _
    refine ⟨⟨F3, _, _, [], hb3.still hta, hm2, BRow.nil _ _, rfl, fun k hk => ?_, by simp [Value.ownBlock], by simp⟩, trivial, Nat.le_refl _, by simp [Sg.flat], ⟨by simp [nextOf], by simp [nextOf]⟩, .inr ⟨w3.heap.size, 1, _, rfl, hT3.size, heap_new w3 _, Nat.le_refl _, by simp, by simp [maxLen], by simp [sizesL, intC, Sg.flat]⟩, hT3.same hta, by simp [Value.ownBlock]⟩
    simp [Value.ownBlock] at hk
    subst hk
    exact ⟨fun hm => by have := hb3.disk.lt _ hm; omega, fun hm => by have := (hb3.seg.lt _ hm).2; omega⟩
  have HST := hide hst
  clear hb3 ht3 hf3 hs3 hm1 hm2 hst
  go_wp2
  obtain ⟨w4, hw4⟩ : ∃ w4, w4 = w3.alloc (.cells #[.int .i64 0] 3) := ⟨_, rfl⟩
  rw [← hw4] at HST ⊢
  clear hw4
  go_loopw [12, 13, 14] (fun zv lv i wr => ∃ (k : Nat) (xs : List Bt.Bat), k ≤ rss.length ∧ i = .int .i64 k ∧ TSt W wr W.heap.size sb n k xs zv lv) (fun _ _ i _ => rss.length - (intOf i).toNat)
  case atStart => exact ⟨0, [], Nat.zero_le _, rfl, HST.out⟩
  case round =>
    obtain ⟨k, xs, hk, rfl, hst⟩ := hrel
    have HS := hide hst
    clear hst
    by_cases hlt : k < rss.length
    · obtain ⟨p, c, sj, he, hcell, hrec⟩ := H1.out.at_ wr HS.out.turn k hlt
      simp only [Value.slice.injEq, true_and] at he
      obtain ⟨rfl, rfl⟩ := he
      obtain ⟨ra, rc, rfl, hrlc, hrcm, -⟩ := hrec.form
      obtain ⟨rs, hrs⟩ : ∃ rs, rs = rss[k] := ⟨_, rfl⟩
      rw [← hrs] at hrec hcell hrlc
      have HRC := hide hrec
      rw [hmx] at hrcm
      clear hrec hrs
      by_cases h60 : 60 < (rs.length : Int)
      · go_wp2_with fail
        go_ret
        exact ⟨rfl, HS.out.turn.nil⟩
      · obtain ⟨F, A, sv, ys, hboth, hone, hbrow, hym, hsep1, hsep2, hsep3⟩ := HS.out.both
        have HBO := hide hboth
        have HON := hide hone
        have HBR := hide hbrow
        have HYM := hide hym
        have HS1 := hide hsep1
        have HS2 := hide hsep2
        have HS3 := hide hsep3
        have hxl := HS.out.len
        obtain ⟨nx, hnx⟩ : ∃ nx, nx = nextOf n xs := ⟨_, rfl⟩
        have hnb := HS.out.next
        rw [← hnx] at hnb
        have HNX := hide hnx
        clear hboth hone hbrow hym hsep1 hsep2 hsep3 hnx
        go_wp2_with fail
        refine wp_region_tail 8 (Turn []) (by kernel_rfl) (by kernel_rfl) (by kernel_rfl) (by kernel_rfl) (by kernel_rfl) (Nat.le_of_ble_eq_true rfl) rfl (Turn.refl _) (fun _ _ _ h k => h.same k) ?_
        apply Lo.runx 1 rfl rfl [] (by kernel_rfl) (Turn.refl _)
        apply Exists.intro; apply And.intro
        · intro u w1 hR hF
          clear hF
          refine ⟨rfl, fun a ha K hK => ?_⟩
          have e11 := ha 11
          conv at e11 => rhs; whnf
          clear ha
          go_simp
          refine hK _ ?_; rfl
        refine Lo.run 2 rfl rfl [0] (fun y _ => y = .int .i64 nx) (by kernel_rfl) (fun x w w' h hR => ?_) (fun _ _ h => h) (fun u w1 hR hF => ?_) ?_
        · exact h
        · obtain ⟨h0, -⟩ := hF
          refine ⟨rfl, fun a ha K hK => ?_⟩
          have e75 := (ha 75).trans h0
          clear ha h0
          go_simp
          have hr := ((Turn.refl [] wr).drew).same hR
          refine (next_any _ W.heap.size W.heap.size sb sv _ n _ (HBO.out.seg.still hr) (by rw [pls_len]; omega)).mono ?_
          rintro e w5 ⟨rfl, ht5⟩
          exact hK _ _ (by rw [nextP_pls, HNX.out]) ht5
        apply Lo.runx 3 rfl rfl [] (by kernel_rfl) (Turn.refl _)
        apply Exists.intro; apply And.intro
        · intro u w1 hR hF
          clear hF
          refine ⟨rfl, fun a ha K hK => ?_⟩
          have e1 := ha 1
          conv at e1 => rhs; whnf
          clear ha
          go_simp
          refine hK _ ?_; rfl
        apply Lo.runx 4 rfl rfl [] (by kernel_rfl) (Turn.refl _)
        apply Exists.intro; apply And.intro
        · intro u w1 hR hF
          clear hF
          refine ⟨rfl, fun a ha K hK => ?_⟩
          have e14 := ha 14
          conv at e14 => rhs; whnf
          clear ha
          go_simp
          refine hK _ ?_; rfl
        refine Lo.runv 5 rfl rfl [2, 3] (.pointer (some (p.add k))) (by kernel_rfl) (fun u w1 hR hF => ?_) (Turn.refl _) ?_
        · obtain ⟨h2, h3, -⟩ := hF
          refine ⟨rfl, fun a ha K hK => ?_⟩
          have e77 := (ha 77).trans h2
          have e78 := (ha 78).trans h3
          clear ha h2 h3
          have h10 : (k : Int) < rss.length := by omega
          go_simp
          refine hK _ ?_
          rfl
        apply Lo.runx 6 rfl rfl [4] (by kernel_rfl) (Turn.refl _)
        apply Exists.intro; apply And.intro
        · intro u w1 hR hF
          obtain ⟨h4, -⟩ := hF
          refine ⟨rfl, fun a ha K hK => ?_⟩
          have e79 := (ha 79).trans h4
          clear ha h4
          have hcell := (World.cell?_of_block (w := wr) (w' := w1) (hR.block _ (World.block_lt_of_cell? _ _ hcell) (by simp))).trans hcell
          go_simp
          refine hK _ ?_; rfl
        refine Lo.run 7 rfl rfl [1, 5] (fun y w' => ∃ s, y = .agg #[.int .i64 nx, .int .i64 (nx + rs.length), s] ∧ RecRow w' wr.heap.size s (renum nx rs)) (by kernel_rfl) (fun x w w' h hR => ?_) (fun _ _ h => h) (fun u w1 hR hF => ?_) ?_
        · obtain ⟨s, e, h⟩ := h; exact ⟨s, e, h.kept hR (by simp)⟩
        · obtain ⟨h1, h5, -⟩ := hF
          refine ⟨rfl, fun a ha K hK => ?_⟩
          have e76 : a.tmps.getD 76 undef = u 1 := ha 76
          have e80 := (ha 80).trans h5
          have h1 := (show (fun y _ => y = .int .i64 nx) (u 1) w1 from h1)
          dsimp only at h1
          clear ha h5
          rw [h1] at e76
          go_simp
          have hr := ((Turn.refl [] wr).drew).same hR
          refine (kbatch_any _ nx _ rs (HRC.out.still hr) (by omega) (by omega) (by omega)).mono ?_
          rintro e w5 ⟨s5, rfl, hrow5, ht5⟩
          refine hK _ _ ⟨s5, rfl, ?_⟩ ht5
          rcases hrow5 with h | ⟨g, cap, cur, e, hb, r⟩
          · exact .inl h
          · exact .inr ⟨g, cap, cur, e, by have := hr.size; omega, r⟩
        refine Lo.run 8 rfl rfl [] (fun y w' => ∃ X, y = .pointer (some ⟨X, 0, none⟩) ∧ w'.heap[X]? = some (.cells #[.int .i64 0, .int .i64 0, .slice none 0 0] 37 (0, 0)) ∧ wr.heap.size ≤ X) (by kernel_rfl) (fun x w w' h hR => ?_) (fun _ _ h => h) (fun u w1 hR hF => ?_) ?_
        · obtain ⟨X, e, h, h2⟩ := h; exact ⟨X, e, hR.heap h (by simp), h2⟩
        · clear hF
          refine ⟨rfl, fun a ha K hK => ?_⟩
          clear ha
          go_simp
          exact hK _ _ ⟨w1.heap.size, rfl, heap_new w1 _, hR.size⟩ ((Turn.refl [] _).alloc _)
        refine Lo.done [6, 7] (fun u w1 hRd hSd hF => ?_)
        clear hSd
        obtain ⟨f6, f7, -⟩ := hF
        have d6 := (show (fun y w' => ∃ s, y = .agg #[.int .i64 nx, .int .i64 (nx + rs.length), s] ∧ RecRow w' wr.heap.size s (renum nx rs)) (u 6) w1 from f6)
        dsimp only at d6
        have d7 := (show (fun y w' => ∃ X, y = .pointer (some ⟨X, 0, none⟩) ∧ w'.heap[X]? = some (.cells #[.int .i64 0, .int .i64 0, .slice none 0 0] 37 (0, 0)) ∧ wr.heap.size ≤ X) (u 7) w1 from f7)
        dsimp only at d7
        clear f6 f7
        simp only [List.take_succ_cons, List.take_zero, List.drop_succ_cons, List.drop_zero, putFrom, Act.put, List.setIfInBounds_toArray, List.set_cons_succ, List.set_cons_zero, Nat.zero_add, Nat.reduceAdd]
        obtain ⟨s6, he6, hrow6⟩ := d6
        obtain ⟨X, he7, hX, hXge⟩ := d7
        rw [he6, he7]
        have ht5 : Turn [] wr w1 := ((Turn.refl [] wr).drew).same hRd
        have y0 : w1.cell? ⟨X, 0, none⟩ = some (.int .i64 0) := by simpa using cell_of hX 0
        have y1 : w1.cell? ⟨X, 1, none⟩ = some (.int .i64 0) := by simpa using cell_of hX 1
        have y2 : w1.cell? ⟨X, 2, none⟩ = some (.slice none 0 0) := by simpa using cell_of hX 2
        have q0 : w1.frozen? ⟨X, 0, none⟩ = false := frozen_of hX 0
        have q1 : w1.frozen? ⟨X, 1, none⟩ = false := frozen_of hX 1
        have q2 : w1.frozen? ⟨X, 2, none⟩ = false := frozen_of hX 2
        have zX := lt_of_heap hX
        obtain ⟨s6a, s6n, s6c, hs6⟩ := hrow6.some_slice
        subst hs6
        have hy := heap_set (heap_set (heap_set hX 0 (.int .i64 nx)) 1 (.int .i64 (nx + rs.length))) 2 (.slice s6a s6n s6c)
        have hts : Turn [X] w1 (((w1.setCell ⟨X, 0, none⟩ (.int .i64 nx)).setCell ⟨X, 1, none⟩ (.int .i64 (nx + rs.length))).setCell ⟨X, 2, none⟩ (.slice s6a s6n s6c)) := (((Turn.refl _ _).setCell (.inl (by simp)) _).setCell (.inl (by simp)) _).setCell (.inl (by simp)) _
        have hrX : ∀ k ∈ (Value.slice s6a s6n s6c).ownBlock, k ∉ [X] := fun k hk hm => by
          simp only [List.mem_singleton] at hm
          subst hm
          rcases hrow6 with ⟨e, -⟩ | ⟨g, cap, cur, e, hb', hg, -⟩
          · rw [e] at hk; simp [Value.ownBlock] at hk
          · rw [e] at hk
            simp [Value.ownBlock] at hk
            subst hk
            rw [hg] at hX
            simp at hX
        have htw : Turn [] wr (((w1.setCell ⟨X, 0, none⟩ (.int .i64 nx)).setCell ⟨X, 1, none⟩ (.int .i64 (nx + rs.length))).setCell ⟨X, 2, none⟩ (.slice s6a s6n s6c)) := ht5.trans hts (fun k hk => .inr (by simp at hk; omega))
        have hka := kadd_any _ W.heap.size W.heap.size F A sb sv (Sn.nameB dirS n) n xs 1048576 (Sg.flat xs) (HBO.out.still htw) HON.out (nameB_len (by omega) (by decide)) (.slice s6a s6n s6c) wr.heap.size rs nx HNX.out (hrow6.kept hts hrX) (renum_ok nx rs (fun r hr => by obtain ⟨j, hj, rfl⟩ := List.mem_iff_getElem.1 hr; exact HRC.out.ok hj) (by omega) (by omega) (by omega))
          (fun k hk => HBO.out.disk.lt k hk) (fun k hk => (HBO.out.seg.lt k hk).2) (by omega) (by omega) (fun he => by have := (Bt.encErr_ok he).2; have := Bt.encB_len (batOf nx rs); have := HS.out.flat; omega)
        have HKA := hide hka
        have HY := hide hy
        have HTW := hide htw
        have HROW6 := hide (hrow6.kept hts hrX)
        have hXw : X < (((w1.setCell ⟨X, 0, none⟩ (.int .i64 nx)).setCell ⟨X, 1, none⟩ (.int .i64 (nx + rs.length))).setCell ⟨X, 2, none⟩ (.slice s6a s6n s6c)).heap.size := lt_of_heap hy
        clear hka hy htw hrow6 hX hts hrX he6 he7 ht5 hRd hcell
        go_wp2_with fail
        refine HKA.out.mono ?_
        rintro e w6 (⟨he, rfl, ht6⟩ | ⟨he, rfl, A6, ho6, F6, sv6, hb6, ht6, hf6, hg6⟩)
        · have hne : errR (Bt.encErr (batOf nx rs)) = .iface 55 (.int .i64 (Bt.encErr (batOf nx rs))) := by unfold errR; rw [if_neg he]; rfl
          rw [hne]
          have HT6 := hide (HTW.out.same ht6)
          clear hne he ht6 HKA
          go_wp2_with fail
          all_goals refine ⟨⟨k + 1, xs, by omega, by go_num, (HS.out.still HT6.out).more⟩, ?_⟩
          all_goals (simp only [intOf]; omega)
        · obtain ⟨x, hx⟩ : ∃ x, x = batOf nx rs := ⟨_, rfl⟩
          have hxb : x.base = nx ∧ x.fin = nx + rs.length ∧ x.recs = renum nx rs := by rw [hx]; exact ⟨rfl, rfl, rfl⟩
          have hxe : Bt.encErr x = 0 := by rw [hx]; exact he
          rw [← hx] at ho6 hb6
          have hFS : ∀ j ∈ F ++ sfoot sb sv, j < wr.heap.size := fun j hj => (List.mem_append.1 hj).elim (HBO.out.disk.lt j) (fun h => (HBO.out.seg.lt j h).2)
          have hX6 := ht6.heap HY.out (fun hm => by have := hFS X hm; omega)
          have hT06 : Turn (F ++ sfoot sb sv) wr w6 := (HTW.out.mono (T := F ++ sfoot sb sv) (by simp)).same ht6
          have hz6 := HS.out.sizes.kept hT06 (fun k hk hm => (List.mem_append.1 hm).elim (HS1.out k hk).1 (HS1.out k hk).2)
          have hl6 : BRow w6 W.heap.size u13 ys := ⟨HBR.out.row.kept hT06 (fun k hk hm => (List.mem_append.1 hm).elim (HS2.out k hk).1 (HS2.out k hk).2), fun y hy => (HBR.out.recs y hy).kept' hT06 (fun h0 k hk hm => (List.mem_append.1 hm).elim (HS3.out y hy h0 k hk).1 (HS3.out y hy h0 k hk).2.1), HBR.out.own, HBR.out.sep⟩
          have hr6 := HROW6.out.kept ht6 (fun k hk hm => by have := hFS k hm; have := (HROW6.out.lt k hk).1; omega)
          have hz6l := hz6.lt
          have hl6l := hl6.row.lt
          have hlow6 : ∀ j ∈ u12.ownBlock.toList ++ u13.ownBlock.toList, j < wr.heap.size := fun j hj => by
            rcases List.mem_append.1 hj with h | h
            · exact (HS.out.sizes.lt j (by simpa using h)).2
            · exact (HBR.out.row.lt j (by simpa using h)).2
          have hsg6 : ∀ j ∈ sfoot sb sv6, j ∉ u12.ownBlock.toList ++ u13.ownBlock.toList := fun j hj hm => by
            rcases hg6 j hj with h | h
            · rcases List.mem_append.1 hm with h' | h'
              · exact (HS1.out j (by simpa using h')).2 h
              · exact (HS2.out j (by simpa using h')).2 h
            · have := hlow6 j hm; have := HTW.out.size; omega
          have hFg6 : ∀ j ∈ F6, j ∉ u12.ownBlock.toList ++ u13.ownBlock.toList := fun j hj hm => by
            rcases hf6 j hj with h | h
            · rcases List.mem_append.1 hm with h' | h'
              · exact (HS1.out j (by simpa using h')).1 h
              · exact (HS2.out j (by simpa using h')).1 h
            · have := hlow6 j hm; have := HTW.out.size; omega
          have hs06 := hT06.size
          have hWr := HS.out.turn.size
          have hT6 : Turn [] W w6 := HS.out.turn.trans hT06 (fun k hk => .inr ((List.mem_append.1 hk).elim (HBO.out.disk.low k) (fun h => (HBO.out.seg.lt k h).1)))
          have HXB := hide hxb
          have HXE := hide hxe
          have HO6 := hide ho6
          have HB6 := hide hb6
          have HX6 := hide hX6
          have HZ6 := hide hz6
          have HL6 := hide hl6
          have HR6 := hide hr6
          have HT6 := hide hT6
          have HF6 := hide hf6
          have HG6 := hide hg6
          have HSG6 := hide hsg6
          have HFG6 := hide hFg6
          have HLW6 := hide hlow6
          have HZL := hide HS.out.zl
          have hyl : ys.length = xs.length := by rw [← HYM.out, List.length_map]
          have HYL := hide hyl
          have hzn : (pls 0 (-1) (xs ++ [x])).length = xs.length + 1 := by rw [pls_len]; simp
          have HZN := hide hzn
          obtain ⟨sz, hsz⟩ : ∃ sz, sz = (flat (xs ++ [x])).length := ⟨_, rfl⟩
          have HSZ := hide hsz
          have hszl : sz ≤ 1048576 := by
            obtain ⟨f, hf, hfb⟩ := ho6.file
            have := file_short hb6.disk hf
            rw [hfb] at this; omega
          clear HKA he hx hxb hxe ho6 hb6 hX6 hz6 hl6 hr6 hT6 hf6 hg6 hsg6 hFg6 hlow6 hyl hzn hsz ht6 hT06 hFS hz6l hl6l
          go_wp2
          refine wp_region_loud 9 (Turn (u12.ownBlock.toList ++ u13.ownBlock.toList)) (Turn []) (fun k w => match k with | 0 => (fun w => GRow 3 1 intC w W.heap.size u12 (sizesL xs) ∧ GRow 37 3 batC w W.heap.size u13 ys) w | 1 => (fun w => Apr 3 1 intC W.heap.size u12 (sizesL xs ++ [sz]) w ∧ GRow 37 3 batC w W.heap.size u13 ys) w | _ => (fun w => Apr 3 1 intC W.heap.size u12 (sizesL xs ++ [sz]) w ∧ GRow 37 3 batC w W.heap.size (.slice none 0 0) ([] : List BV)) w) [4, 8] (by kernel_rfl) (by kernel_rfl) (by kernel_rfl) (by kernel_rfl) (by kernel_rfl) (by kernel_rfl) (Nat.le_of_ble_eq_true rfl) (by decide) rfl (Turn.refl _) (fun _ _ _ h k => h.same k) (fun _ _ h => h.mono (by simp)) ?_ ?_ ?_
          · intro k a b hk hR
            match k, hk with
            | 0, hk =>
              have hk := (show (fun w => GRow 3 1 intC w W.heap.size u12 (sizesL xs) ∧ GRow 37 3 batC w W.heap.size u13 ys) a from hk)
              dsimp only at hk
              show (fun w => GRow 3 1 intC w W.heap.size u12 (sizesL xs) ∧ GRow 37 3 batC w W.heap.size u13 ys) b
              dsimp only
              first | exact ⟨hk.1.still hR, hk.2.still hR⟩ | exact ⟨hk.1.kept hR (by simp), hk.2.still hR⟩
            | 1, hk =>
              have hk := (show (fun w => Apr 3 1 intC W.heap.size u12 (sizesL xs ++ [sz]) w ∧ GRow 37 3 batC w W.heap.size u13 ys) a from hk)
              dsimp only at hk
              show (fun w => Apr 3 1 intC W.heap.size u12 (sizesL xs ++ [sz]) w ∧ GRow 37 3 batC w W.heap.size u13 ys) b
              dsimp only
              first | exact ⟨hk.1.still hR, hk.2.still hR⟩ | exact ⟨hk.1.kept hR (by simp), hk.2.still hR⟩
            | _ + 2, hk =>
              have hk := (show (fun w => Apr 3 1 intC W.heap.size u12 (sizesL xs ++ [sz]) w ∧ GRow 37 3 batC w W.heap.size (.slice none 0 0) ([] : List BV)) a from hk)
              dsimp only at hk
              show (fun w => Apr 3 1 intC W.heap.size u12 (sizesL xs ++ [sz]) w ∧ GRow 37 3 batC w W.heap.size (.slice none 0 0) ([] : List BV)) b
              dsimp only
              first | exact ⟨hk.1.still hR, hk.2.still hR⟩ | exact ⟨hk.1.kept hR (by simp), hk.2.still hR⟩
          · show (fun w => GRow 3 1 intC w W.heap.size u12 (sizesL xs) ∧ GRow 37 3 batC w W.heap.size u13 ys) _
            dsimp only
            exact ⟨HZ6.out.still ((Turn.refl [] _).drew), HL6.out.row.still ((Turn.refl [] _).drew)⟩
          apply Lo.runx 1 rfl rfl [] (by kernel_rfl) (Turn.refl _)
          apply Exists.intro; apply And.intro
          · intro u w1 hR hF
            clear hF
            refine ⟨rfl, fun a ha K hK => ?_⟩
            have e12 := ha 12
            conv at e12 => rhs; whnf
            clear ha
            go_simp
            refine hK _ ?_; rfl
          apply Lo.runx 2 rfl rfl [] (by kernel_rfl) (Turn.refl _)
          apply Exists.intro; apply And.intro
          · intro u w1 hR hF
            clear hF
            refine ⟨rfl, fun a ha K hK => ?_⟩
            have e11 := ha 11
            conv at e11 => rhs; whnf
            clear ha
            go_simp
            refine hK _ ?_; rfl
          refine Lo.run 3 rfl rfl [1] (fun y _ => y = .int .i64 (sz : Int)) (by kernel_rfl) (fun x w w' h hR => ?_) (fun _ _ h => h.mono (by simp)) (fun u w1 hR hF => ?_) ?_
          · exact h
          · obtain ⟨h1, -⟩ := hF
            refine ⟨rfl, fun a ha K hK => ?_⟩
            have e87 := (ha 87).trans h1
            clear ha h1
            go_simp
            have hr := (((Turn.refl [] w6).drew).mono (T := u12.ownBlock.toList ++ u13.ownBlock.toList) (by simp)).same hR
            refine (size_any _ W.heap.size W.heap.size sb sv6 _ n _ (HB6.out.seg.kept hr HSG6.out) (by rw [HZN.out]; omega) (by rw [sizeP_pls, ← HSZ.out]; omega)).mono ?_
            rintro e w8 ⟨rfl, ht8⟩
            exact hK _ _ (by rw [sizeP_pls, HSZ.out]) ht8
          refine Lo.run 4 rfl rfl [2] (fun y w' => ∃ kk, y = .slice (some ⟨kk, 0, none⟩) 1 1 ∧ w'.heap[kk]? = some (.cells (intC sz).toArray 3 (0, 0)) ∧ w6.heap.size ≤ kk) (by kernel_rfl) (fun x w w' h hR => ?_) (fun _ _ h => h.mono (by simp)) (fun u w1 hR hF => ?_) ?_
          · obtain ⟨kk, e1, e2, e3⟩ := h; exact ⟨kk, e1, hR.heap e2 (fun hm => by have := HLW6.out kk hm; omega), e3⟩
          · obtain ⟨h2, -⟩ := hF
            refine ⟨rfl, fun a ha K hK => ?_⟩
            have e88 : a.tmps.getD 88 undef = u 2 := ha 88
            have h2 := (show (fun y _ => y = .int .i64 (sz : Int)) (u 2) w1 from h2)
            dsimp only at h2
            clear ha
            rw [h2] at e88
            have e88' : a.tmps[88]?.getD undef = .int .i64 (sz : Int) := by rw [← Array.getD_eq_getD_getElem?, e88]
            go_simp
            exact hK _ _ ⟨w1.heap.size, rfl, heap_new w1 _, hR.size⟩ ((Turn.refl [] _).alloc _)
          refine Lo.noisy 5 rfl 0 rfl [0, 3] (fun y w' => Apd 3 1 intC W.heap.size w6.heap.size u12 (sizesL xs ++ [sz]) y w') (by kernel_rfl) (fun x w w' h hR => ?_) (.inr (fun x w w' h hR => by exact h.kept hR (fun k hk => by have := HLW6.out k hk; omega))) (fun u w1 hR hS hF => ?_) ?_
          · exact h.kept hR (by simp)
          · obtain ⟨h0, h3, -⟩ := hF
            have hS := (show (fun w => GRow 3 1 intC w W.heap.size u12 (sizesL xs) ∧ GRow 37 3 batC w W.heap.size u13 ys) w1 from hS)
            dsimp only at hS
            refine ⟨rfl, fun a ha K hK => ?_⟩
            have e86 := (ha 86).trans h0
            have e89 : a.tmps.getD 89 undef = u 3 := ha 89
            have h3 := (show (fun y w' => ∃ kk, y = .slice (some ⟨kk, 0, none⟩) 1 1 ∧ w'.heap[kk]? = some (.cells (intC sz).toArray 3 (0, 0)) ∧ w6.heap.size ≤ kk) (u 3) w1 from h3)
            dsimp only at h3
            clear ha h0
            obtain ⟨kk, hx3, hc3, hk3⟩ := h3
            rw [hx3] at e89
            obtain ⟨v7, w7, hr7, hrow7, ht7, hown7⟩ := app_int2 w1 W.heap.size u12 (sizesL xs) sz kk hS.1 hc3 (by rw [sizesL_len]; omega) (by have := hR.size; simp at this; omega)
            have hsz7 := hR.size
            obtain ⟨hap, hpr⟩ := Apd.mk hrow7 hsz7 hown7
            exact oper_append rfl e86 e89 hr7 (hK _ _ hap (ht7.mono (by simp +contextual)) ⟨hpr, hS.2.kept ht7 (fun k hk hm => HZL.out k (by simpa using hm) hk)⟩)
          apply Lo.runx 6 rfl rfl [] (by kernel_rfl) (Turn.refl _)
          apply Exists.intro; apply And.intro
          · intro u w1 hR hF
            clear hF
            refine ⟨rfl, fun a ha K hK => ?_⟩
            have e13 := ha 13
            conv at e13 => rhs; whnf
            clear ha
            go_simp
            refine hK _ ?_; rfl
          refine Lo.runv 7 rfl rfl [] (.agg #[.int .i64 nx, .int .i64 (nx + rs.length), .slice s6a s6n s6c]) (by kernel_rfl) (fun u w1 hR hF => ?_) (Turn.refl _) ?_
          · clear hF
            refine ⟨rfl, fun a ha K hK => ?_⟩
            have e15 := ha 15
            conv at e15 => rhs; whnf
            clear ha
            have hXw := (((Turn.refl [] w6).drew.mono (T := u12.ownBlock.toList ++ u13.ownBlock.toList) (by simp)).same hR).heap HX6.out (fun hm => by have := HLW6.out X hm; omega)
            have k0 : w1.cell? ⟨X, 0, none⟩ = some (.int .i64 nx) := by rw [cell_of hXw]; rfl
            have k1 : w1.cell? ⟨X, 1, none⟩ = some (.int .i64 (nx + rs.length)) := by rw [cell_of hXw]; rfl
            have k2 : w1.cell? ⟨X, 2, none⟩ = some (.slice s6a s6n s6c) := by rw [cell_of hXw]; rfl
            have z1 := lt_of_heap hXw
            go_simp
            refine hK _ ?_
            rfl
          refine Lo.run 8 rfl rfl [6] (fun y w' => ∃ kk, y = .slice (some ⟨kk, 0, none⟩) 1 1 ∧ w'.heap[kk]? = some (.cells (batC ⟨x, s6a, s6n, s6c⟩).toArray 37 (0, 0)) ∧ w6.heap.size ≤ kk) (by kernel_rfl) (fun x w w' h hR => ?_) (fun _ _ h => h.mono (by simp)) (fun u w1 hR hF => ?_) ?_
          · obtain ⟨kk, e1, e2, e3⟩ := h; exact ⟨kk, e1, hR.heap e2 (fun hm => by have := HLW6.out kk hm; omega), e3⟩
          · obtain ⟨h6, -⟩ := hF
            refine ⟨rfl, fun a ha K hK => ?_⟩
            have e92 := (ha 92).trans h6
            clear ha h6
            have e92' : a.tmps[92]?.getD undef = .agg #[.int .i64 nx, .int .i64 (nx + rs.length), .slice s6a s6n s6c] := by rw [← Array.getD_eq_getD_getElem?, e92]
            go_simp
            have hbc : (batC ⟨x, s6a, s6n, s6c⟩).toArray = #[.int .i64 nx, .int .i64 (nx + rs.length), .slice s6a s6n s6c] := by simp [batC, HXB.out.1, HXB.out.2.1]
            exact hK _ _ ⟨w1.heap.size, rfl, by rw [hbc]; exact heap_new w1 _, hR.size⟩ ((Turn.refl [] _).alloc _)
          refine Lo.noisy 9 rfl 1 rfl [5, 7] (fun y w' => GRow 37 3 batC w' W.heap.size y (ys ++ [⟨x, s6a, s6n, s6c⟩]) ∧ ∀ j ∈ y.ownBlock, j ∈ u13.ownBlock ∨ w6.heap.size ≤ j) (by kernel_rfl) (fun x w w' h hR => ?_) (.inl (by kernel_rfl)) (fun u w1 hR hS hF => ?_) ?_
          · exact ⟨h.1.still hR, h.2⟩
          · obtain ⟨h5, h7, -⟩ := hF
            have hS := (show (fun w => Apr 3 1 intC W.heap.size u12 (sizesL xs ++ [sz]) w ∧ GRow 37 3 batC w W.heap.size u13 ys) w1 from hS)
            dsimp only at hS
            refine ⟨rfl, fun a ha K hK => ?_⟩
            have e91 := (ha 91).trans h5
            have e93 : a.tmps.getD 93 undef = u 7 := ha 93
            have h7 := (show (fun y w' => ∃ kk, y = .slice (some ⟨kk, 0, none⟩) 1 1 ∧ w'.heap[kk]? = some (.cells (batC ⟨x, s6a, s6n, s6c⟩).toArray 37 (0, 0)) ∧ w6.heap.size ≤ kk) (u 7) w1 from h7)
            dsimp only at h7
            clear ha h5
            obtain ⟨kk, hx3, hc3, hk3⟩ := h7
            rw [hx3] at e93
            obtain ⟨v7, w7, hr7, hrow7, ht7, hown7⟩ := app_bat w1 W.heap.size u13 ys ⟨x, s6a, s6n, s6c⟩ kk hS.2 hc3 (by rw [HYL.out]; omega) (by have := hR.size; simp at this; omega)
            have hsz7 := hR.size
            exact oper_append rfl e91 e93 hr7 (hK _ _ ⟨hrow7, fun j hj => (hown7 j hj).elim .inl (fun h => .inr (Nat.le_trans hsz7 h))⟩ (ht7.mono (by simp +contextual)) ⟨hS.1.kept ht7 (fun k hk hm => HZL.out k hk (by simpa using hm)), .inl ⟨rfl, rfl⟩⟩)
          refine Lo.done [4, 8] (fun u w1 hRd hSd hF => ?_)
          have hSd := (show (fun w => Apr 3 1 intC W.heap.size u12 (sizesL xs ++ [sz]) w ∧ GRow 37 3 batC w W.heap.size (.slice none 0 0) ([] : List BV)) w1 from hSd)
          dsimp only at hSd
          obtain ⟨f4, f8, -⟩ := hF
          have d4 := (show (fun y w' => Apd 3 1 intC W.heap.size w6.heap.size u12 (sizesL xs ++ [sz]) y w') (u 4) w1 from f4)
          dsimp only at d4
          have d8 := (show (fun y w' => GRow 37 3 batC w' W.heap.size y (ys ++ [⟨x, s6a, s6n, s6c⟩]) ∧ ∀ j ∈ y.ownBlock, j ∈ u13.ownBlock ∨ w6.heap.size ≤ j) (u 8) w1 from f8)
          dsimp only at d8
          clear f4 f8
          simp only [List.take_succ_cons, List.take_zero, List.drop_succ_cons, List.drop_zero, putFrom, Act.put, List.setIfInBounds_toArray, List.set_cons_succ, List.set_cons_zero, Nat.zero_add, Nat.reduceAdd]
          obtain ⟨hzr, hzo⟩ := d4.row hSd.1
          obtain ⟨hlr, hlo⟩ := d8
          have htd : Turn (u12.ownBlock.toList ++ u13.ownBlock.toList) w6 w1 := (((Turn.refl [] w6).drew).mono (T := u12.ownBlock.toList ++ u13.ownBlock.toList) (by simp)).same hRd
          clear d4 hSd hRd
          generalize u 4 = zv7 at hzr hzo ⊢
          generalize u 8 = lv7 at hlr hlo ⊢
          have hsl : ∀ j ∈ (Value.slice s6a s6n s6c).ownBlock, wr.heap.size ≤ j ∧ j < w6.heap.size := fun j hj => ⟨(HR6.out.lt j hj).1, (HR6.out.lt j hj).2⟩
          have hok : ∀ r ∈ renum nx rs, RecOk r := renum_ok nx rs (fun r hr => by obtain ⟨j, hj, rfl⟩ := List.mem_iff_getElem.1 hr; exact HRC.out.ok hj) (by omega) (by omega) (by omega)
          have hmL : ∀ j, j ∈ u12.ownBlock → j ∈ u12.ownBlock.toList ++ u13.ownBlock.toList := fun j h => List.mem_append_left _ (by simpa using h)
          have hmR : ∀ j, j ∈ u13.ownBlock → j ∈ u12.ownBlock.toList ++ u13.ownBlock.toList := fun j h => List.mem_append_right _ (by simpa using h)
          have hst7 : TSt W w1 W.heap.size sb n (k + 1) (xs ++ [x]) zv7 lv7 := by
            refine ⟨⟨F6, A6, sv6, ys ++ [⟨x, s6a, s6n, s6c⟩], HB6.out.kept htd HFG6.out HSG6.out, HO6.out, ⟨hlr, fun y hy => ?_, fun y hy h0 j hj => ?_, fun y hy h0 j hj hm => ?_⟩, ?_, fun j hj => ?_, fun j hj => ?_, fun y hy h0 j hj => ?_⟩, ?_, ?_, ?_, ?_, ?_, ?_, ?_⟩
            · rcases List.mem_append.1 hy with hy | hy
              · exact (HL6.out.recs y hy).kept' htd (fun h0 j hj hm => (List.mem_append.1 hm).elim (fun h => (HS3.out y hy h0 j hj).2.2 (by simpa using h)) (fun h => HBR.out.sep y hy h0 j hj (by simpa using h)))
              · obtain rfl := List.mem_singleton.1 hy
                show RecsAt w1 (.slice s6a s6n s6c) x.recs
                rw [HXB.out.2.2]
                exact (HR6.out.kept htd (fun j hj hm => by have := HLW6.out j hm; have := (hsl j hj).1; omega)).recs hok
            · rcases List.mem_append.1 hy with hy | hy
              · exact HBR.out.own y hy h0 j hj
              · obtain rfl := List.mem_singleton.1 hy
                have := (hsl j hj).1; omega
            · rcases List.mem_append.1 hy with hy | hy
              · have h1 := (HBR.out.recs y hy).lt h0 j hj
                rcases hlo j hm with h | h
                · exact HBR.out.sep y hy h0 j hj h
                · omega
              · obtain rfl := List.mem_singleton.1 hy
                have h1 := hsl j hj
                rcases hlo j hm with h | h
                · have := HLW6.out j (hmR j h); omega
                · omega
            · rw [List.map_append, HYM.out]; rfl
            · rcases hzo j hj with h | h
              · exact ⟨fun hm => HFG6.out j hm (hmL j h), fun hm => HSG6.out j hm (hmL j h)⟩
              · exact ⟨fun hm => by have := HB6.out.disk.lt j hm; omega, fun hm => by have := (HB6.out.seg.lt j hm).2; omega⟩
            · rcases hlo j hj with h | h
              · exact ⟨fun hm => HFG6.out j hm (hmR j h), fun hm => HSG6.out j hm (hmR j h)⟩
              · exact ⟨fun hm => by have := HB6.out.disk.lt j hm; omega, fun hm => by have := (HB6.out.seg.lt j hm).2; omega⟩
            · have hxx := HTW.out.size
              rcases List.mem_append.1 hy with hy | hy
              · have h1 := (HBR.out.recs y hy).lt h0 j hj
                have h2 := HS3.out y hy h0 j hj
                refine ⟨fun hm => ?_, fun hm => ?_, fun hm => ?_⟩
                · rcases HF6.out j hm with h | h
                  · exact h2.1 h
                  · omega
                · rcases HG6.out j hm with h | h
                  · exact h2.2.1 h
                  · omega
                · rcases hzo j hm with h | h
                  · exact h2.2.2 h
                  · omega
              · obtain rfl := List.mem_singleton.1 hy
                have h1 := hsl j hj
                have h2 := (HROW6.out.lt j hj).2
                refine ⟨fun hm => ?_, fun hm => ?_, fun hm => ?_⟩
                · rcases HF6.out j hm with h | h
                  · have := HBO.out.disk.lt j h; omega
                  · omega
                · rcases HG6.out j hm with h | h
                  · have := (HBO.out.seg.lt j h).2; omega
                  · omega
                · rcases hzo j hm with h | h
                  · have := HLW6.out j (hmL j h); omega
                  · omega
            · exact chain_snoc HS.out.chain HXE.out (by rw [← HNX.out, HXB.out.1]; exact Int.le_refl _)
            · rw [List.length_append, List.length_singleton]; omega
            · rw [flat_append, flat_one, List.length_append]
              have h1 := HS.out.flat
              have h2 := (Bt.encErr_ok HXE.out).2
              have h3 := Bt.encB_len x
              omega
            · rw [nextOf_snoc, HXB.out.2.1]
              constructor <;> omega
            · rw [sizesL_snoc, ← HSZ.out]; exact hzr
            · exact HT6.out.trans htd (fun j hj => .inr (by
                rcases List.mem_append.1 hj with h | h
                · exact (HS.out.sizes.lt j (by simpa using h)).1
                · exact (HBR.out.row.lt j (by simpa using h)).1))
            · exact hzr.apart hlr (by decide)
          have HS7 := hide hst7
          clear hst7 hzr hlr hzo hlo htd hsl hok hmL hmR
          go_wp2
          refine ⟨⟨k + 1, xs ++ [x], by omega, by go_num, HS7.out⟩, by simp only [intOf]; omega⟩
    · obtain rfl : k = rss.length := by omega
      obtain ⟨F, A, sv, ys, hboth, hone, hbrow, hym, hsep1, hsep2, hsep3⟩ := HS.out.both
      obtain ⟨N, hN⟩ : ∃ N, N = (flat xs).length := ⟨_, rfl⟩
      have hNl : N ≤ 1048576 := by
        obtain ⟨f, hf, hfb⟩ := hone.file
        have := file_short hboth.disk hf
        rw [hfb] at this; omega
      have HN := hide hN
      have HBO := hide hboth
      have HON := hide hone
      have HBR := hide hbrow
      have HYM := hide hym
      have HS1 := hide hsep1
      have HS2 := hide hsep2
      have HS3 := hide hsep3
      have hxl := HS.out.len
      clear hboth hone hbrow hym hsep1 hsep2 hsep3 hN
      go_wp2_with fail
      refine (Sn.name_any dirS n (by omega) (by decide) _ (HV.out.below HS.out.turn.nil).tab).mono ?_
      rintro e wa ⟨rfl, hba⟩
      have HTa := hide (Turn.of_below hba [])
      clear hba
      go_wp2_with fail
      obtain ⟨f, hf, hfb⟩ := HON.out.file
      refine (read_file (HBO.out.disk.kept HTa.out (by simp)) (Sn.nameB dirS n) (nameB_len (by omega) (by decide)) hf 0 1048576 (by omega)).mono ?_
      rintro e wb ⟨v, rfl, hrow, htb⟩
      have hrd : Dk.readL f.bytes 0 1048576 = flat xs := by
        rw [hfb]
        have h1 := HN.out
        unfold Dk.readL
        split
        · rename_i h
          have : (flat xs).length = 0 := by omega
          exact (List.eq_nil_of_length_eq_zero this).symm
        · exact List.take_of_length_le (by simp; omega)
      rw [hrd] at hrow
      obtain ⟨va, vc, hv, -, -⟩ := hrow.form
      rw [← HN.out] at hv
      subst hv
      have hcv := hrow.bytes.conv
      have HTb := hide (HTa.out.same htb)
      clear hrow htb hrd hf hfb
      go_wp2_with fail
      refine (size_any _ W.heap.size W.heap.size sb sv _ n _ (HBO.out.seg.still HTb.out) (by rw [pls_len]; omega) (by rw [sizeP_pls, ← HN.out]; omega)).mono ?_
      rintro e wc ⟨rfl, htc⟩
      rw [sizeP_pls, ← HN.out]
      have HTc := hide (HTb.out.same htc)
      clear htc hcv
      go_wp2_with fail
      rw [show ((N : Int) + 1) = ((N + 1 : Nat) : Int) by omega]
      refine (pickN_any u (N + 1) (by omega) (by omega) _).mono ?_
      rintro e wd ⟨⟨q, hq, rfl⟩, rfl⟩
      go_wp2_with fail
      have hsl : ∀ Z, (Instr.slice 9 (.string ⟨(flat xs).toArray⟩) none (some (.int .i64 (q : Int))) none).run Tryz.prog Z = .ok (.string ⟨((flat xs).take q).toArray⟩) Z := by
        intro Z
        rw [run_slice_string_to_if _ _ _ _ _ Tryz.underlying9, if_pos ⟨by omega, by show (q : Int) ≤ ((flat xs).toArray.size : Int); rw [List.size_toArray, ← HN.out]; omega⟩]
        have hx : ({ data := (flat xs).toArray } : ByteArray).extract 0 ((q : Int)).toNat = ⟨((flat xs).take q).toArray⟩ := by
          apply ByteArray.ext
          rw [ByteArray.data_extract]
          simp only [Int.toNat_natCast, List.extract_toArray, List.extract_eq_take_drop, List.drop_zero, Nat.sub_zero]
        rw [hx]
      have HSL := hide hsl
      clear hsl
      refine wp_region_tail 6 (Turn []) (by kernel_rfl) (by kernel_rfl) (by kernel_rfl) (by kernel_rfl) (by kernel_rfl) (Nat.le_of_ble_eq_true rfl) rfl (Turn.refl _) (fun _ _ _ h k => h.same k) ?_
      apply Lo.runx 1 rfl rfl [] (by kernel_rfl) (Turn.refl _)
      apply Exists.intro; apply And.intro
      · intro u w1 hR hF
        clear hF
        refine ⟨rfl, fun a ha K hK => ?_⟩
        have e17 := ha 17
        conv at e17 => rhs; whnf
        clear ha
        go_simp
        refine hK _ ?_; rfl
      apply Lo.runx 2 rfl rfl [] (by kernel_rfl) (Turn.refl _)
      apply Exists.intro; apply And.intro
      · intro u w1 hR hF
        clear hF
        refine ⟨rfl, fun a ha K hK => ?_⟩
        have e2 := ha 2
        conv at e2 => rhs; whnf
        clear ha
        go_simp
        refine hK _ ?_; rfl
      refine Lo.runv 3 rfl rfl [0, 1] (.string ⟨((flat xs).take q).toArray⟩) (by kernel_rfl) (fun u w1 hR hF => ?_) (Turn.refl _) ?_
      · obtain ⟨h0, h1, -⟩ := hF
        refine ⟨rfl, fun a ha K hK => ?_⟩
        have e106 := (ha 106).trans h0
        have e107 := (ha 107).trans h1
        clear ha h0 h1
        have hsl := HSL.out w1
        go_simp
        refine hK _ ?_
        rfl
      apply Lo.runx 4 rfl rfl [] (by kernel_rfl) (Turn.refl _)
      apply Exists.intro; apply And.intro
      · intro u w1 hR hF
        clear hF
        refine ⟨rfl, fun a ha K hK => ?_⟩
        have e3 := ha 3
        conv at e3 => rhs; whnf
        clear ha
        go_simp
        refine hK _ ?_; rfl
      refine Lo.runv 5 rfl rfl [3] (.string ⟨more.toArray⟩) (by kernel_rfl) (fun u w1 hR hF => ?_) (Turn.refl _) ?_
      · obtain ⟨h3, -⟩ := hF
        refine ⟨rfl, fun a ha K hK => ?_⟩
        have e109 := (ha 109).trans h3
        clear ha h3
        have hcv := (H3.out.still ((HS.out.turn.same HTc.out).same (((Turn.refl [] _).drew).same hR))).conv
        go_simp
        refine hK _ ?_
        rfl
      refine Lo.runv 6 rfl rfl [2, 4] (.string ⟨((flat xs).take q ++ more).toArray⟩) (by kernel_rfl) (fun u w1 hR hF => ?_) (Turn.refl _) ?_
      · obtain ⟨h2, h4, -⟩ := hF
        refine ⟨rfl, fun a ha K hK => ?_⟩
        have e108 := (ha 108).trans h2
        have e110 := (ha 110).trans h4
        clear ha h2 h4
        have hcat : ¬ (9223372036854775807 < min q (flat xs).length + more.length) := by have := Nat.min_le_left q (flat xs).length; omega
        go_simp
        refine hK _ ?_
        simp [ByteArray.ext_iff]
      refine Lo.done [5] (fun u w1 hRd hSd hF => ?_)
      clear hSd
      obtain ⟨f5, -⟩ := hF
      have d5 : u 5 = _ := f5
      clear f5
      simp only [List.take_succ_cons, List.take_zero, List.drop_succ_cons, List.drop_zero, putFrom, Act.put, List.setIfInBounds_toArray, List.set_cons_succ, List.set_cons_zero, Nat.zero_add, Nat.reduceAdd, d5]
      have HTd := hide (HTc.out.same (((Turn.refl [] _).drew).same hRd))
      clear d5 hRd
      obtain ⟨isL, hisL⟩ : ∃ isL, isL = (flat xs).take q ++ more := ⟨_, rfl⟩
      have hisn : isL.length = q + more.length := by rw [hisL, List.length_append, List.length_take, ← HN.out]; omega
      rw [← hisL]
      have HIS := hide hisL
      have HISN := hide hisn
      clear hisL hisn
      go_wp2_with fail
      obtain ⟨mref, ms, hp⟩ := HBO.out.disk.kept HTd.out (by simp)
      refine (Dk.cut_any hp (Sn.nameB dirS n) (nameB_len (by omega) (by decide)) q).mono ?_
      rintro e we ⟨rfl, F1, hd1, ht1, hf1⟩
      obtain ⟨hc1, ho1⟩ := HON.out.cut q (by rw [← HN.out]; omega)
      have he0 : errR 0 = .nilIface := rfl
      rw [hc1, he0]
      have hFb : ∀ j ∈ F, W.heap.size ≤ j := fun j hj => HBO.out.disk.low j hj
      have hT1 : Turn [] W we := (HS.out.turn.same HTd.out).trans ht1 (fun j hj => .inr (hFb j hj))
      have HD1 := hide hd1
      have HT1' := hide hT1
      have HO1 := hide ho1
      have HF1 := hide hf1
      have HTF := hide ht1
      have hwe := ht1.size
      have hw1s := HTd.out.size
      clear hp hd1 ht1 hf1 hc1 ho1 hT1 he0 hFb
      go_wp2_with fail
      obtain ⟨mref2, ms2, hp2⟩ := HD1.out
      refine (Dk.add_any hp2 (Sn.nameB dirS n) (nameB_len (by omega) (by decide)) (.slice a3 more.length c3) more (fun Z hZ => (H3.out.still (HT1'.out.trans hZ (fun j hj => .inr (HD1.out.low j hj)))).slice) (by omega)).mono ?_
      rintro e wf ⟨rfl, F2, hd2, ht2, hf2⟩
      obtain ⟨hc2, ho2⟩ := HO1.out.add more (by rw [List.length_take, ← HN.out]; have := HS.out.flat; have := HN.out; omega)
      rw [hc2, show errR 0 = .nilIface from rfl]
      rw [← HIS.out] at ho2
      obtain ⟨A2, hA2⟩ : ∃ A2, A2 = ((A.cut (Sn.nameB dirS n).data.toList ↑q).snd.add (Sn.nameB dirS n).data.toList more).snd := ⟨_, rfl⟩
      rw [← hA2] at hd2 ho2
      have hT2 : Turn [] W wf := HT1'.out.trans ht2 (fun j hj => .inr (HD1.out.low j hj))
      have HD2' := hide hd2
      have HT2' := hide hT2
      have HO2 := hide ho2
      have HF2 := hide hf2
      have HTG := hide ht2
      have hwf := ht2.size
      obtain ⟨m, hm1, hm2, hm3⟩ := upto_last (flat xs) isL xs xs.length (Nat.le_refl _)
      have hscan : Scan n isL (xs.take m) := by
        have h2 := hm2 m (Nat.le_refl _)
        rw [HIS.out] at h2 hm3 ⊢
        exact torn HS.out.chain (by rw [← HN.out]; omega) (by omega) hm1 h2 hm3
      have HSC := hide hscan
      have HM2 := hide hm2
      have HM3 := hide hm3
      clear hp2 hd2 ht2 hf2 hc2 ho2 hT2 hA2 hm2 hm3 hscan
      go_wp2_with fail
      refine (open_one wf W.heap.size W.heap.size F2 A2 HD2'.out n (by omega) (HV.out.below HT2'.out.nil).tab 1048576 isL HO2.out (xs.take m) HSC.out).mono ?_
      rintro e wg ⟨F3', A3, sb3, sv3, rfl, hb3, ho3, ht3, hf3, hg3⟩
      -- what the first loop made, at this world
      have hTF3 : Turn (F ++ F1 ++ F2) wr wg := ((((HTd.out.mono (T := F ++ F1 ++ F2) (by simp)).same (HTF.out.mono (T := F ++ F1 ++ F2) (fun x hx => .inl (by simp [hx])))).same (HTG.out.mono (T := F ++ F1 ++ F2) (fun x hx => .inl (by simp [hx])))).same (ht3.mono (T := F ++ F1 ++ F2) (fun x hx => .inl (by simp [hx]))))
      have hFF : ∀ j ∈ F ++ F1 ++ F2, j ∈ F ∨ wr.heap.size ≤ j := by
        intro j hj
        rcases List.mem_append.1 hj with hj | hj
        · rcases List.mem_append.1 hj with hj | hj
          · exact .inl hj
          · rcases HF1.out j hj with h | h
            · exact .inl h
            · exact .inr (by omega)
        · rcases HF2.out j hj with h | h
          · rcases HF1.out j h with h | h
            · exact .inl h
            · exact .inr (by omega)
          · exact .inr (by omega)
      have hz3 := HS.out.sizes.kept hTF3 (fun j hj hm => (hFF j hm).elim (HS1.out j hj).1 (fun h => by have := (HS.out.sizes.lt j hj).2; omega))
      have hl3 : BRow wg W.heap.size u13 ys := ⟨HBR.out.row.kept hTF3 (fun j hj hm => (hFF j hm).elim (HS2.out j hj).1 (fun h => by have := (HBR.out.row.lt j hj).2; omega)),
        fun y hy => (HBR.out.recs y hy).kept' hTF3 (fun h0 j hj hm => (hFF j hm).elim (HS3.out y hy h0 j hj).1 (fun h => by have := (HBR.out.recs y hy).lt h0 j hj; omega)), HBR.out.own, HBR.out.sep⟩
      have hT3 : Turn [] W wg := HT2'.out.trans ht3 (fun j hj => .inr (HD2'.out.low j hj))
      have HB3 := hide hb3
      have HO3 := hide ho3
      have HT3 := hide hT3
      have HZ3 := hide hz3
      have HL3 := hide hl3
      have hml : (flat (xs.take m)).length ≤ N := by
        have h1 := congrArg List.length (take_flat xs m)
        rw [List.length_take] at h1
        have h2 := HN.out
        omega
      clear hb3 ho3 ht3 hf3 hg3 hTF3 hFF hz3 hl3 hT3
      obtain ⟨szf, hszf⟩ : ∃ szf : Nat → Nat, ∀ j, szf j = (flat (xs.take j)).length := ⟨fun j => (flat (xs.take j)).length, fun _ => rfl⟩
      have HSF := hide hszf
      obtain ⟨gz, zc, hzv, -⟩ := HZ3.out.at intC_len (j := 0) (by rw [sizesL_len]; omega)
      rw [sizesL_len] at hzv
      subst hzv
      have hcell : ∀ Z, Turn [] wg Z → ∀ j, j ≤ xs.length → Z.cell? ⟨gz, j, none⟩ = some (.int .i64 (szf j : Int)) := by
        intro Z hZ j hj
        obtain ⟨g', c', e, hc, -⟩ := (HZ3.out.still hZ).at intC_len (j := j) (by rw [sizesL_len]; omega)
        simp only [Value.slice.injEq, Option.some.injEq, Addr.mk.injEq] at e
        obtain ⟨⟨rfl, -, -⟩, -, rfl⟩ := e
        have := hc 0 (by omega)
        simpa [intC, sizesL_at xs hj, HSF.out] using this
      have hszm : szf m ≤ N ∧ ∀ j, j ≤ m → szf j ≤ isL.length := ⟨by rw [HSF.out]; exact hml, fun j hj => by have := (HM2.out j hj).1; rw [HSF.out]; exact this⟩
      have hszn : ∀ j, szf j ≤ N := fun j => by
        have h1 := congrArg List.length (take_flat xs j)
        rw [List.length_take] at h1
        have h2 := HN.out
        rw [HSF.out]; omega
      have HCELL := hide hcell
      have HSZM := hide hszm
      have HSZN := hide hszn
      clear hszf hcell hszm hszn
      have hslI : ∀ (ls : List UInt8) (j : Nat), j ≤ ls.length → ∀ Z, (Instr.slice 9 (.string ⟨ls.toArray⟩) none (some (.int .i64 (j : Int))) none).run Tryz.prog Z = .ok (.string ⟨(ls.take j).toArray⟩) Z := by
        intro ls j hj Z
        rw [run_slice_string_to_if _ _ _ _ _ Tryz.underlying9, if_pos ⟨by omega, by show (j : Int) ≤ (ls.toArray.size : Int); rw [List.size_toArray]; omega⟩]
        have hx : ({ data := ls.toArray } : ByteArray).extract 0 ((j : Int)).toNat = ⟨(ls.take j).toArray⟩ := by
          apply ByteArray.ext
          rw [ByteArray.data_extract]
          simp only [Int.toNat_natCast, List.extract_toArray, List.extract_eq_take_drop, List.drop_zero, Nat.sub_zero]
        rw [hx]
      have HSI := hide hslI
      clear hslI
      go_wp2_with fail
      go_loopw [21] (fun nv wr2 => ∃ j : Nat, j ≤ m ∧ nv = .int .i64 j ∧ Turn [] wg wr2) (fun nv _ => m - (intOf nv).toNat)
      case atStart => exact ⟨0, Nat.zero_le _, rfl, Turn.refl [] _⟩
      case round =>
        obtain ⟨j, hj, rfl, htl⟩ := hrel
        have HTL := hide htl
        clear htl
        by_cases hjm : j < m
        · have h1 := HM2.out (j + 1) (by omega)
          have hsn := HSZN.out (j + 1)
          have hle : szf (j + 1) ≤ isL.length := by rw [HSF.out]; exact h1.1
          have hcmp : (isL.take (szf (j + 1)) == (flat xs).take (szf (j + 1))) = true := by rw [beq_iff_eq, HSF.out]; exact h1.2
          have HCMP := hide hcmp
          clear h1 hcmp
          go_wp2_with fail
          refine wp_region_loose (Turn []) (by kernel_rfl) (by kernel_rfl) (by kernel_rfl) (by kernel_rfl) rfl (Turn.refl _) (fun _ _ _ h k => h.same k) ?_
          apply Lo.runx 1 rfl rfl [] (by kernel_rfl) (Turn.refl _)
          apply Exists.intro; apply And.intro
          · intro u w1 hR hF
            clear hF
            refine ⟨rfl, fun a ha K hK => ?_⟩
            have e21 := ha 21
            conv at e21 => rhs; whnf
            clear ha
            go_simp
            refine hK _ ?_; rfl
          refine Lo.runv 2 rfl rfl [0] (.int .i64 ((j : Int) + 1)) (by kernel_rfl) (fun u w1 hR hF => ?_) (Turn.refl _) ?_
          · obtain ⟨h0, -⟩ := hF
            refine ⟨rfl, fun a ha K hK => ?_⟩
            have e137 := (ha 137).trans h0
            clear ha h0
            go_simp
            refine hK _ ?_
            rw [IntWalk.i64_left, IntWalk.wrap64_in _ (by omega)]
          apply Lo.runx 3 rfl rfl [] (by kernel_rfl) (Turn.refl _)
          apply Exists.intro; apply And.intro
          · intro u w1 hR hF
            clear hF
            refine ⟨rfl, fun a ha K hK => ?_⟩
            have e12 := ha 12
            conv at e12 => rhs; whnf
            clear ha
            go_simp
            refine hK _ ?_; rfl
          apply Lo.runx 4 rfl rfl [2] (by kernel_rfl) (Turn.refl _)
          apply Exists.intro; apply And.intro
          · intro u w1 hR hF
            obtain ⟨h2, -⟩ := hF
            refine ⟨rfl, fun a ha K hK => ?_⟩
            have e139 := (ha 139).trans h2
            clear ha h2
            go_simp
            refine hK _ ?_; rfl
          refine Lo.runv 5 rfl rfl [1, 3] (.bool true) (by kernel_rfl) (fun u w1 hR hF => ?_) (Turn.refl _) ?_
          · obtain ⟨h1, h3, -⟩ := hF
            refine ⟨rfl, fun a ha K hK => ?_⟩
            have e138 := (ha 138).trans h1
            have e140 := (ha 140).trans h3
            clear ha h1 h3
            have hA : ((j : Int) + 1 < (xs.length : Int) + 1) := by omega
            go_simp
            refine hK _ ?_
            rfl
          apply Lo.runx 6 rfl rfl [4] (by kernel_rfl) (Turn.refl _)
          apply Exists.intro; apply And.intro
          · intro u w1 hR hF
            obtain ⟨h4, -⟩ := hF
            refine ⟨rfl, fun a ha K hK => ?_⟩
            have e141 := (ha 141).trans h4
            clear ha h4
            go_simp
            refine hK _ ?_; rfl
          apply Lo.runx 7 rfl rfl [5] (by kernel_rfl) (Turn.refl _)
          apply Exists.intro; apply And.intro
          · intro u w1 hR hF
            obtain ⟨h5, -⟩ := hF
            refine ⟨.inl ⟨true, h5, rfl⟩, fun a ha K hK => ?_⟩
            have e12 := ha 12
            conv at e12 => rhs; whnf
            clear ha h5
            go_simp
            refine hK _ ?_; rfl
          apply Lo.runx 8 rfl rfl [5] (by kernel_rfl) (Turn.refl _)
          apply Exists.intro; apply And.intro
          · intro u w1 hR hF
            obtain ⟨h5, -⟩ := hF
            refine ⟨.inl ⟨true, h5, rfl⟩, fun a ha K hK => ?_⟩
            have e21 := ha 21
            conv at e21 => rhs; whnf
            clear ha h5
            go_simp
            refine hK _ ?_; rfl
          refine Lo.runv 9 rfl rfl [5, 7] (.int .i64 ((j : Int) + 1)) (by kernel_rfl) (fun u w1 hR hF => ?_) (Turn.refl _) ?_
          · obtain ⟨h5, h7, -⟩ := hF
            refine ⟨.inl ⟨true, h5, rfl⟩, fun a ha K hK => ?_⟩
            have e144 := (ha 144).trans h7
            clear ha h5 h7
            go_simp
            refine hK _ ?_
            rw [IntWalk.i64_left, IntWalk.wrap64_in _ (by omega)]
          refine Lo.runv 10 rfl rfl [5, 6, 8] (.pointer (some ⟨gz, j + 1, none⟩)) (by kernel_rfl) (fun u w1 hR hF => ?_) (Turn.refl _) ?_
          · obtain ⟨h5, h6, h8, -⟩ := hF
            refine ⟨.inl ⟨true, h5, rfl⟩, fun a ha K hK => ?_⟩
            have e143 := (ha 143).trans h6
            have e145 := (ha 145).trans h8
            clear ha h5 h6 h8
            have hi1 : (j : Int) + 1 < (xs.length : Int) + 1 := by omega
            have hi0 : 0 ≤ (j : Int) + 1 := by omega
            go_simp
            refine hK _ ?_
            rfl
          refine Lo.runv 11 rfl rfl [5, 9] (.int .i64 (szf (j + 1) : Int)) (by kernel_rfl) (fun u w1 hR hF => ?_) (Turn.refl _) ?_
          · obtain ⟨h5, h9, -⟩ := hF
            refine ⟨.inl ⟨true, h5, rfl⟩, fun a ha K hK => ?_⟩
            have e146 := (ha 146).trans h9
            clear ha h5 h9
            have hc := HCELL.out w1 (HTL.out.same (((Turn.refl [] _).drew).same hR)) (j + 1) (by omega)
            go_simp
            refine hK _ ?_
            rfl
          apply Lo.runx 12 rfl rfl [5] (by kernel_rfl) (Turn.refl _)
          apply Exists.intro; apply And.intro
          · intro u w1 hR hF
            obtain ⟨h5, -⟩ := hF
            refine ⟨.inl ⟨true, h5, rfl⟩, fun a ha K hK => ?_⟩
            have e18 := ha 18
            conv at e18 => rhs; whnf
            clear ha h5
            go_simp
            refine hK _ ?_; rfl
          apply Lo.runx 13 rfl rfl [5, 11] (by kernel_rfl) (Turn.refl _)
          apply Exists.intro; apply And.intro
          · intro u w1 hR hF
            obtain ⟨h5, h11, -⟩ := hF
            refine ⟨.inl ⟨true, h5, rfl⟩, fun a ha K hK => ?_⟩
            have e148 := (ha 148).trans h11
            clear ha h5 h11
            go_simp
            refine hK _ ?_; rfl
          refine Lo.runv 14 rfl rfl [5, 10, 12] (.bool true) (by kernel_rfl) (fun u w1 hR hF => ?_) (Turn.refl _) ?_
          · obtain ⟨h5, h10, h12, -⟩ := hF
            refine ⟨.inl ⟨true, h5, rfl⟩, fun a ha K hK => ?_⟩
            have e147 := (ha 147).trans h10
            have e149 := (ha 149).trans h12
            clear ha h5 h10 h12
            have hB : ((szf (j + 1) : Int) ≤ (isL.length : Int)) := by omega
            go_simp
            refine hK _ ?_
            rfl
          apply Lo.runx 15 rfl rfl [5, 13] (by kernel_rfl) (Turn.refl _)
          apply Exists.intro; apply And.intro
          · intro u w1 hR hF
            obtain ⟨h5, h13, -⟩ := hF
            refine ⟨rfl, fun a ha K hK => ?_⟩
            have e142 := (ha 142).trans h5
            have e150 := (ha 150).trans h13
            clear ha h5 h13
            go_simp
            refine hK _ ?_; rfl
          apply Lo.runx 16 rfl rfl [14] (by kernel_rfl) (Turn.refl _)
          apply Exists.intro; apply And.intro
          · intro u w1 hR hF
            obtain ⟨h14, -⟩ := hF
            refine ⟨rfl, fun a ha K hK => ?_⟩
            have e151 := (ha 151).trans h14
            clear ha h14
            go_simp
            refine hK _ ?_; rfl
          apply Lo.runx 17 rfl rfl [15] (by kernel_rfl) (Turn.refl _)
          apply Exists.intro; apply And.intro
          · intro u w1 hR hF
            obtain ⟨h15, -⟩ := hF
            refine ⟨.inl ⟨true, h15, rfl⟩, fun a ha K hK => ?_⟩
            have e18 := ha 18
            conv at e18 => rhs; whnf
            clear ha h15
            go_simp
            refine hK _ ?_; rfl
          apply Lo.runx 18 rfl rfl [15] (by kernel_rfl) (Turn.refl _)
          apply Exists.intro; apply And.intro
          · intro u w1 hR hF
            obtain ⟨h15, -⟩ := hF
            refine ⟨.inl ⟨true, h15, rfl⟩, fun a ha K hK => ?_⟩
            have e12 := ha 12
            conv at e12 => rhs; whnf
            clear ha h15
            go_simp
            refine hK _ ?_; rfl
          apply Lo.runx 19 rfl rfl [15] (by kernel_rfl) (Turn.refl _)
          apply Exists.intro; apply And.intro
          · intro u w1 hR hF
            obtain ⟨h15, -⟩ := hF
            refine ⟨.inl ⟨true, h15, rfl⟩, fun a ha K hK => ?_⟩
            have e21 := ha 21
            conv at e21 => rhs; whnf
            clear ha h15
            go_simp
            refine hK _ ?_; rfl
          refine Lo.runv 20 rfl rfl [15, 18] (.int .i64 ((j : Int) + 1)) (by kernel_rfl) (fun u w1 hR hF => ?_) (Turn.refl _) ?_
          · obtain ⟨h15, h18, -⟩ := hF
            refine ⟨.inl ⟨true, h15, rfl⟩, fun a ha K hK => ?_⟩
            have e155 := (ha 155).trans h18
            clear ha h15 h18
            go_simp
            refine hK _ ?_
            rw [IntWalk.i64_left, IntWalk.wrap64_in _ (by omega)]
          refine Lo.runv 21 rfl rfl [15, 17, 19] (.pointer (some ⟨gz, j + 1, none⟩)) (by kernel_rfl) (fun u w1 hR hF => ?_) (Turn.refl _) ?_
          · obtain ⟨h15, h17, h19, -⟩ := hF
            refine ⟨.inl ⟨true, h15, rfl⟩, fun a ha K hK => ?_⟩
            have e154 := (ha 154).trans h17
            have e156 := (ha 156).trans h19
            clear ha h15 h17 h19
            have hi1 : (j : Int) + 1 < (xs.length : Int) + 1 := by omega
            have hi0 : 0 ≤ (j : Int) + 1 := by omega
            go_simp
            refine hK _ ?_
            rfl
          refine Lo.runv 22 rfl rfl [15, 20] (.int .i64 (szf (j + 1) : Int)) (by kernel_rfl) (fun u w1 hR hF => ?_) (Turn.refl _) ?_
          · obtain ⟨h15, h20, -⟩ := hF
            refine ⟨.inl ⟨true, h15, rfl⟩, fun a ha K hK => ?_⟩
            have e157 := (ha 157).trans h20
            clear ha h15 h20
            have hc := HCELL.out w1 (HTL.out.same (((Turn.refl [] _).drew).same hR)) (j + 1) (by omega)
            go_simp
            refine hK _ ?_
            rfl
          refine Lo.runv 23 rfl rfl [15, 16, 21] (.string ⟨(isL.take (szf (j + 1))).toArray⟩) (by kernel_rfl) (fun u w1 hR hF => ?_) (Turn.refl _) ?_
          · obtain ⟨h15, h16, h21, -⟩ := hF
            refine ⟨.inl ⟨true, h15, rfl⟩, fun a ha K hK => ?_⟩
            have e153 := (ha 153).trans h16
            have e158 := (ha 158).trans h21
            clear ha h15 h16 h21
            have hsl := HSI.out isL (szf (j + 1)) (by omega) w1
            go_simp
            refine hK _ ?_
            rfl
          apply Lo.runx 24 rfl rfl [15] (by kernel_rfl) (Turn.refl _)
          apply Exists.intro; apply And.intro
          · intro u w1 hR hF
            obtain ⟨h15, -⟩ := hF
            refine ⟨.inl ⟨true, h15, rfl⟩, fun a ha K hK => ?_⟩
            have e17 := ha 17
            conv at e17 => rhs; whnf
            clear ha h15
            go_simp
            refine hK _ ?_; rfl
          apply Lo.runx 25 rfl rfl [15] (by kernel_rfl) (Turn.refl _)
          apply Exists.intro; apply And.intro
          · intro u w1 hR hF
            obtain ⟨h15, -⟩ := hF
            refine ⟨.inl ⟨true, h15, rfl⟩, fun a ha K hK => ?_⟩
            have e12 := ha 12
            conv at e12 => rhs; whnf
            clear ha h15
            go_simp
            refine hK _ ?_; rfl
          apply Lo.runx 26 rfl rfl [15] (by kernel_rfl) (Turn.refl _)
          apply Exists.intro; apply And.intro
          · intro u w1 hR hF
            obtain ⟨h15, -⟩ := hF
            refine ⟨.inl ⟨true, h15, rfl⟩, fun a ha K hK => ?_⟩
            have e21 := ha 21
            conv at e21 => rhs; whnf
            clear ha h15
            go_simp
            refine hK _ ?_; rfl
          refine Lo.runv 27 rfl rfl [15, 25] (.int .i64 ((j : Int) + 1)) (by kernel_rfl) (fun u w1 hR hF => ?_) (Turn.refl _) ?_
          · obtain ⟨h15, h25, -⟩ := hF
            refine ⟨.inl ⟨true, h15, rfl⟩, fun a ha K hK => ?_⟩
            have e162 := (ha 162).trans h25
            clear ha h15 h25
            go_simp
            refine hK _ ?_
            rw [IntWalk.i64_left, IntWalk.wrap64_in _ (by omega)]
          refine Lo.runv 28 rfl rfl [15, 24, 26] (.pointer (some ⟨gz, j + 1, none⟩)) (by kernel_rfl) (fun u w1 hR hF => ?_) (Turn.refl _) ?_
          · obtain ⟨h15, h24, h26, -⟩ := hF
            refine ⟨.inl ⟨true, h15, rfl⟩, fun a ha K hK => ?_⟩
            have e161 := (ha 161).trans h24
            have e163 := (ha 163).trans h26
            clear ha h15 h24 h26
            have hi1 : (j : Int) + 1 < (xs.length : Int) + 1 := by omega
            have hi0 : 0 ≤ (j : Int) + 1 := by omega
            go_simp
            refine hK _ ?_
            rfl
          refine Lo.runv 29 rfl rfl [15, 27] (.int .i64 (szf (j + 1) : Int)) (by kernel_rfl) (fun u w1 hR hF => ?_) (Turn.refl _) ?_
          · obtain ⟨h15, h27, -⟩ := hF
            refine ⟨.inl ⟨true, h15, rfl⟩, fun a ha K hK => ?_⟩
            have e164 := (ha 164).trans h27
            clear ha h15 h27
            have hc := HCELL.out w1 (HTL.out.same (((Turn.refl [] _).drew).same hR)) (j + 1) (by omega)
            go_simp
            refine hK _ ?_
            rfl
          refine Lo.runv 30 rfl rfl [15, 23, 28] (.string ⟨((flat xs).take (szf (j + 1))).toArray⟩) (by kernel_rfl) (fun u w1 hR hF => ?_) (Turn.refl _) ?_
          · obtain ⟨h15, h23, h28, -⟩ := hF
            refine ⟨.inl ⟨true, h15, rfl⟩, fun a ha K hK => ?_⟩
            have e160 := (ha 160).trans h23
            have e165 := (ha 165).trans h28
            clear ha h15 h23 h28
            have hsl := HSI.out (flat xs) (szf (j + 1)) (by have := HSZN.out (j + 1); have := HN.out; omega) w1
            go_simp
            refine hK _ ?_
            rfl
          refine Lo.runv 31 rfl rfl [15, 22, 29] (.bool true) (by kernel_rfl) (fun u w1 hR hF => ?_) (Turn.refl _) ?_
          · obtain ⟨h15, h22, h29, -⟩ := hF
            refine ⟨.inl ⟨true, h15, rfl⟩, fun a ha K hK => ?_⟩
            have e159 := (ha 159).trans h22
            have e166 := (ha 166).trans h29
            clear ha h15 h22 h29
            go_simp
            refine hK _ ?_
            simp only [Value.bool.injEq]
            exact HCMP.out
          apply Lo.runx 32 rfl rfl [15, 30] (by kernel_rfl) (Turn.refl _)
          apply Exists.intro; apply And.intro
          · intro u w1 hR hF
            obtain ⟨h15, h30, -⟩ := hF
            refine ⟨rfl, fun a ha K hK => ?_⟩
            have e152 := (ha 152).trans h15
            have e167 := (ha 167).trans h30
            clear ha h15 h30
            go_simp
            refine hK _ ?_; rfl
          refine Lo.done [31] (fun u w1 hRd hSd hF => ?_)
          clear hSd
          obtain ⟨f31, -⟩ := hF
          have d31 : u 31 = _ := f31
          clear f31
          simp only [putFrom, Act.put, List.setIfInBounds_toArray, List.set_cons_succ, List.set_cons_zero, Nat.zero_add, Nat.reduceAdd, d31]
          have HTM := hide (HTL.out.same (((Turn.refl [] _).drew).same hRd))
          clear hRd d31
          go_wp2
          refine ⟨⟨j + 1, by omega, by go_num, HTM.out⟩, by simp only [intOf]; omega⟩
        · obtain rfl : j = m := by omega
          have htri : xs.length ≤ j ∨ (j < xs.length ∧ szf (j + 1) ≤ isL.length ∧ Hid ((isL.take (szf (j + 1)) == (flat xs).take (szf (j + 1))) = false)) ∨ (j < xs.length ∧ ¬ szf (j + 1) ≤ isL.length) := by
            rcases HM3.out with h | hno
            · exact .inl (by omega)
            · by_cases hjx : j < xs.length
              · by_cases hle : szf (j + 1) ≤ isL.length
                · refine .inr (.inl ⟨hjx, hle, ?_⟩)
                  show _ = _
                  rw [beq_eq_false_iff_ne]
                  intro h
                  rw [HSF.out] at h hle
                  exact hno ⟨hle, h⟩
                · exact .inr (.inr ⟨hjx, hle⟩)
              · exact .inl (by omega)
          have hsn := HSZN.out (j + 1)
          rcases htri with hjx | ⟨hjx, hle, HCMP⟩ | ⟨hjx, hle⟩
          go_wp2_with fail
          refine wp_region_loose (Turn []) (by kernel_rfl) (by kernel_rfl) (by kernel_rfl) (by kernel_rfl) rfl (Turn.refl _) (fun _ _ _ h k => h.same k) ?_
          apply Lo.runx 1 rfl rfl [] (by kernel_rfl) (Turn.refl _)
          apply Exists.intro; apply And.intro
          · intro u w1 hR hF
            clear hF
            refine ⟨rfl, fun a ha K hK => ?_⟩
            have e21 := ha 21
            conv at e21 => rhs; whnf
            clear ha
            go_simp
            refine hK _ ?_; rfl
          refine Lo.runv 2 rfl rfl [0] (.int .i64 ((j : Int) + 1)) (by kernel_rfl) (fun u w1 hR hF => ?_) (Turn.refl _) ?_
          · obtain ⟨h0, -⟩ := hF
            refine ⟨rfl, fun a ha K hK => ?_⟩
            have e137 := (ha 137).trans h0
            clear ha h0
            go_simp
            refine hK _ ?_
            rw [IntWalk.i64_left, IntWalk.wrap64_in _ (by omega)]
          apply Lo.runx 3 rfl rfl [] (by kernel_rfl) (Turn.refl _)
          apply Exists.intro; apply And.intro
          · intro u w1 hR hF
            clear hF
            refine ⟨rfl, fun a ha K hK => ?_⟩
            have e12 := ha 12
            conv at e12 => rhs; whnf
            clear ha
            go_simp
            refine hK _ ?_; rfl
          apply Lo.runx 4 rfl rfl [2] (by kernel_rfl) (Turn.refl _)
          apply Exists.intro; apply And.intro
          · intro u w1 hR hF
            obtain ⟨h2, -⟩ := hF
            refine ⟨rfl, fun a ha K hK => ?_⟩
            have e139 := (ha 139).trans h2
            clear ha h2
            go_simp
            refine hK _ ?_; rfl
          refine Lo.runv 5 rfl rfl [1, 3] (.bool false) (by kernel_rfl) (fun u w1 hR hF => ?_) (Turn.refl _) ?_
          · obtain ⟨h1, h3, -⟩ := hF
            refine ⟨rfl, fun a ha K hK => ?_⟩
            have e138 := (ha 138).trans h1
            have e140 := (ha 140).trans h3
            clear ha h1 h3
            have hA : ¬ ((j : Int) + 1 < (xs.length : Int) + 1) := by omega
            go_simp
            refine hK _ ?_
            rfl
          apply Lo.runx 6 rfl rfl [4] (by kernel_rfl) (Turn.refl _)
          apply Exists.intro; apply And.intro
          · intro u w1 hR hF
            obtain ⟨h4, -⟩ := hF
            refine ⟨rfl, fun a ha K hK => ?_⟩
            have e141 := (ha 141).trans h4
            clear ha h4
            go_simp
            refine hK _ ?_; rfl
          refine Lo.pass 7 rfl rfl [5] (by kernel_rfl) (Turn.refl _) (fun u w1 hR hF => ?_) ?_
          · exact .inl ⟨false, hF.1, rfl⟩
          refine Lo.pass 8 rfl rfl [5] (by kernel_rfl) (Turn.refl _) (fun u w1 hR hF => ?_) ?_
          · exact .inl ⟨false, hF.1, rfl⟩
          refine Lo.pass 9 rfl rfl [5] (by kernel_rfl) (Turn.refl _) (fun u w1 hR hF => ?_) ?_
          · exact .inl ⟨false, hF.1, rfl⟩
          refine Lo.pass 10 rfl rfl [5] (by kernel_rfl) (Turn.refl _) (fun u w1 hR hF => ?_) ?_
          · exact .inl ⟨false, hF.1, rfl⟩
          refine Lo.pass 11 rfl rfl [5] (by kernel_rfl) (Turn.refl _) (fun u w1 hR hF => ?_) ?_
          · exact .inl ⟨false, hF.1, rfl⟩
          refine Lo.pass 12 rfl rfl [5] (by kernel_rfl) (Turn.refl _) (fun u w1 hR hF => ?_) ?_
          · exact .inl ⟨false, hF.1, rfl⟩
          refine Lo.pass 13 rfl rfl [5] (by kernel_rfl) (Turn.refl _) (fun u w1 hR hF => ?_) ?_
          · exact .inl ⟨false, hF.1, rfl⟩
          refine Lo.pass 14 rfl rfl [5] (by kernel_rfl) (Turn.refl _) (fun u w1 hR hF => ?_) ?_
          · exact .inl ⟨false, hF.1, rfl⟩
          apply Lo.runx 15 rfl rfl [5, 13] (by kernel_rfl) (Turn.refl _)
          apply Exists.intro; apply And.intro
          · intro u w1 hR hF
            obtain ⟨h5, h13, -⟩ := hF
            refine ⟨rfl, fun a ha K hK => ?_⟩
            have e142 := (ha 142).trans h5
            have e150 := (ha 150).trans h13
            clear ha h5 h13
            go_simp
            refine hK _ ?_; rfl
          apply Lo.runx 16 rfl rfl [14] (by kernel_rfl) (Turn.refl _)
          apply Exists.intro; apply And.intro
          · intro u w1 hR hF
            obtain ⟨h14, -⟩ := hF
            refine ⟨rfl, fun a ha K hK => ?_⟩
            have e151 := (ha 151).trans h14
            clear ha h14
            go_simp
            refine hK _ ?_; rfl
          refine Lo.pass 17 rfl rfl [15] (by kernel_rfl) (Turn.refl _) (fun u w1 hR hF => ?_) ?_
          · exact .inl ⟨false, hF.1, rfl⟩
          refine Lo.pass 18 rfl rfl [15] (by kernel_rfl) (Turn.refl _) (fun u w1 hR hF => ?_) ?_
          · exact .inl ⟨false, hF.1, rfl⟩
          refine Lo.pass 19 rfl rfl [15] (by kernel_rfl) (Turn.refl _) (fun u w1 hR hF => ?_) ?_
          · exact .inl ⟨false, hF.1, rfl⟩
          refine Lo.pass 20 rfl rfl [15] (by kernel_rfl) (Turn.refl _) (fun u w1 hR hF => ?_) ?_
          · exact .inl ⟨false, hF.1, rfl⟩
          refine Lo.pass 21 rfl rfl [15] (by kernel_rfl) (Turn.refl _) (fun u w1 hR hF => ?_) ?_
          · exact .inl ⟨false, hF.1, rfl⟩
          refine Lo.pass 22 rfl rfl [15] (by kernel_rfl) (Turn.refl _) (fun u w1 hR hF => ?_) ?_
          · exact .inl ⟨false, hF.1, rfl⟩
          refine Lo.pass 23 rfl rfl [15] (by kernel_rfl) (Turn.refl _) (fun u w1 hR hF => ?_) ?_
          · exact .inl ⟨false, hF.1, rfl⟩
          refine Lo.pass 24 rfl rfl [15] (by kernel_rfl) (Turn.refl _) (fun u w1 hR hF => ?_) ?_
          · exact .inl ⟨false, hF.1, rfl⟩
          refine Lo.pass 25 rfl rfl [15] (by kernel_rfl) (Turn.refl _) (fun u w1 hR hF => ?_) ?_
          · exact .inl ⟨false, hF.1, rfl⟩
          refine Lo.pass 26 rfl rfl [15] (by kernel_rfl) (Turn.refl _) (fun u w1 hR hF => ?_) ?_
          · exact .inl ⟨false, hF.1, rfl⟩
          refine Lo.pass 27 rfl rfl [15] (by kernel_rfl) (Turn.refl _) (fun u w1 hR hF => ?_) ?_
          · exact .inl ⟨false, hF.1, rfl⟩
          refine Lo.pass 28 rfl rfl [15] (by kernel_rfl) (Turn.refl _) (fun u w1 hR hF => ?_) ?_
          · exact .inl ⟨false, hF.1, rfl⟩
          refine Lo.pass 29 rfl rfl [15] (by kernel_rfl) (Turn.refl _) (fun u w1 hR hF => ?_) ?_
          · exact .inl ⟨false, hF.1, rfl⟩
          refine Lo.pass 30 rfl rfl [15] (by kernel_rfl) (Turn.refl _) (fun u w1 hR hF => ?_) ?_
          · exact .inl ⟨false, hF.1, rfl⟩
          refine Lo.pass 31 rfl rfl [15] (by kernel_rfl) (Turn.refl _) (fun u w1 hR hF => ?_) ?_
          · exact .inl ⟨false, hF.1, rfl⟩
          apply Lo.runx 32 rfl rfl [15, 30] (by kernel_rfl) (Turn.refl _)
          apply Exists.intro; apply And.intro
          · intro u w1 hR hF
            obtain ⟨h15, h30, -⟩ := hF
            refine ⟨rfl, fun a ha K hK => ?_⟩
            have e152 := (ha 152).trans h15
            have e167 := (ha 167).trans h30
            clear ha h15 h30
            go_simp
            refine hK _ ?_; rfl
          refine Lo.done [31] (fun u w1 hRd hSd hF => ?_)
          clear hSd
          obtain ⟨f31, -⟩ := hF
          have d31 : u 31 = _ := f31
          clear f31
          simp only [putFrom, Act.put, List.setIfInBounds_toArray, List.set_cons_succ, List.set_cons_zero, Nat.zero_add, Nat.reduceAdd, d31]
          have HTM := hide (HTL.out.same (((Turn.refl [] _).drew).same hRd))
          clear hRd
          rotate_left
          go_wp2_with fail
          refine wp_region_loose (Turn []) (by kernel_rfl) (by kernel_rfl) (by kernel_rfl) (by kernel_rfl) rfl (Turn.refl _) (fun _ _ _ h k => h.same k) ?_
          apply Lo.runx 1 rfl rfl [] (by kernel_rfl) (Turn.refl _)
          apply Exists.intro; apply And.intro
          · intro u w1 hR hF
            clear hF
            refine ⟨rfl, fun a ha K hK => ?_⟩
            have e21 := ha 21
            conv at e21 => rhs; whnf
            clear ha
            go_simp
            refine hK _ ?_; rfl
          refine Lo.runv 2 rfl rfl [0] (.int .i64 ((j : Int) + 1)) (by kernel_rfl) (fun u w1 hR hF => ?_) (Turn.refl _) ?_
          · obtain ⟨h0, -⟩ := hF
            refine ⟨rfl, fun a ha K hK => ?_⟩
            have e137 := (ha 137).trans h0
            clear ha h0
            go_simp
            refine hK _ ?_
            rw [IntWalk.i64_left, IntWalk.wrap64_in _ (by omega)]
          apply Lo.runx 3 rfl rfl [] (by kernel_rfl) (Turn.refl _)
          apply Exists.intro; apply And.intro
          · intro u w1 hR hF
            clear hF
            refine ⟨rfl, fun a ha K hK => ?_⟩
            have e12 := ha 12
            conv at e12 => rhs; whnf
            clear ha
            go_simp
            refine hK _ ?_; rfl
          apply Lo.runx 4 rfl rfl [2] (by kernel_rfl) (Turn.refl _)
          apply Exists.intro; apply And.intro
          · intro u w1 hR hF
            obtain ⟨h2, -⟩ := hF
            refine ⟨rfl, fun a ha K hK => ?_⟩
            have e139 := (ha 139).trans h2
            clear ha h2
            go_simp
            refine hK _ ?_; rfl
          refine Lo.runv 5 rfl rfl [1, 3] (.bool true) (by kernel_rfl) (fun u w1 hR hF => ?_) (Turn.refl _) ?_
          · obtain ⟨h1, h3, -⟩ := hF
            refine ⟨rfl, fun a ha K hK => ?_⟩
            have e138 := (ha 138).trans h1
            have e140 := (ha 140).trans h3
            clear ha h1 h3
            have hA : ((j : Int) + 1 < (xs.length : Int) + 1) := by omega
            go_simp
            refine hK _ ?_
            rfl
          apply Lo.runx 6 rfl rfl [4] (by kernel_rfl) (Turn.refl _)
          apply Exists.intro; apply And.intro
          · intro u w1 hR hF
            obtain ⟨h4, -⟩ := hF
            refine ⟨rfl, fun a ha K hK => ?_⟩
            have e141 := (ha 141).trans h4
            clear ha h4
            go_simp
            refine hK _ ?_; rfl
          apply Lo.runx 7 rfl rfl [5] (by kernel_rfl) (Turn.refl _)
          apply Exists.intro; apply And.intro
          · intro u w1 hR hF
            obtain ⟨h5, -⟩ := hF
            refine ⟨.inl ⟨true, h5, rfl⟩, fun a ha K hK => ?_⟩
            have e12 := ha 12
            conv at e12 => rhs; whnf
            clear ha h5
            go_simp
            refine hK _ ?_; rfl
          apply Lo.runx 8 rfl rfl [5] (by kernel_rfl) (Turn.refl _)
          apply Exists.intro; apply And.intro
          · intro u w1 hR hF
            obtain ⟨h5, -⟩ := hF
            refine ⟨.inl ⟨true, h5, rfl⟩, fun a ha K hK => ?_⟩
            have e21 := ha 21
            conv at e21 => rhs; whnf
            clear ha h5
            go_simp
            refine hK _ ?_; rfl
          refine Lo.runv 9 rfl rfl [5, 7] (.int .i64 ((j : Int) + 1)) (by kernel_rfl) (fun u w1 hR hF => ?_) (Turn.refl _) ?_
          · obtain ⟨h5, h7, -⟩ := hF
            refine ⟨.inl ⟨true, h5, rfl⟩, fun a ha K hK => ?_⟩
            have e144 := (ha 144).trans h7
            clear ha h5 h7
            go_simp
            refine hK _ ?_
            rw [IntWalk.i64_left, IntWalk.wrap64_in _ (by omega)]
          refine Lo.runv 10 rfl rfl [5, 6, 8] (.pointer (some ⟨gz, j + 1, none⟩)) (by kernel_rfl) (fun u w1 hR hF => ?_) (Turn.refl _) ?_
          · obtain ⟨h5, h6, h8, -⟩ := hF
            refine ⟨.inl ⟨true, h5, rfl⟩, fun a ha K hK => ?_⟩
            have e143 := (ha 143).trans h6
            have e145 := (ha 145).trans h8
            clear ha h5 h6 h8
            have hi1 : (j : Int) + 1 < (xs.length : Int) + 1 := by omega
            have hi0 : 0 ≤ (j : Int) + 1 := by omega
            go_simp
            refine hK _ ?_
            rfl
          refine Lo.runv 11 rfl rfl [5, 9] (.int .i64 (szf (j + 1) : Int)) (by kernel_rfl) (fun u w1 hR hF => ?_) (Turn.refl _) ?_
          · obtain ⟨h5, h9, -⟩ := hF
            refine ⟨.inl ⟨true, h5, rfl⟩, fun a ha K hK => ?_⟩
            have e146 := (ha 146).trans h9
            clear ha h5 h9
            have hc := HCELL.out w1 (HTL.out.same (((Turn.refl [] _).drew).same hR)) (j + 1) (by omega)
            go_simp
            refine hK _ ?_
            rfl
          apply Lo.runx 12 rfl rfl [5] (by kernel_rfl) (Turn.refl _)
          apply Exists.intro; apply And.intro
          · intro u w1 hR hF
            obtain ⟨h5, -⟩ := hF
            refine ⟨.inl ⟨true, h5, rfl⟩, fun a ha K hK => ?_⟩
            have e18 := ha 18
            conv at e18 => rhs; whnf
            clear ha h5
            go_simp
            refine hK _ ?_; rfl
          apply Lo.runx 13 rfl rfl [5, 11] (by kernel_rfl) (Turn.refl _)
          apply Exists.intro; apply And.intro
          · intro u w1 hR hF
            obtain ⟨h5, h11, -⟩ := hF
            refine ⟨.inl ⟨true, h5, rfl⟩, fun a ha K hK => ?_⟩
            have e148 := (ha 148).trans h11
            clear ha h5 h11
            go_simp
            refine hK _ ?_; rfl
          refine Lo.runv 14 rfl rfl [5, 10, 12] (.bool true) (by kernel_rfl) (fun u w1 hR hF => ?_) (Turn.refl _) ?_
          · obtain ⟨h5, h10, h12, -⟩ := hF
            refine ⟨.inl ⟨true, h5, rfl⟩, fun a ha K hK => ?_⟩
            have e147 := (ha 147).trans h10
            have e149 := (ha 149).trans h12
            clear ha h5 h10 h12
            have hB : ((szf (j + 1) : Int) ≤ (isL.length : Int)) := by omega
            go_simp
            refine hK _ ?_
            rfl
          apply Lo.runx 15 rfl rfl [5, 13] (by kernel_rfl) (Turn.refl _)
          apply Exists.intro; apply And.intro
          · intro u w1 hR hF
            obtain ⟨h5, h13, -⟩ := hF
            refine ⟨rfl, fun a ha K hK => ?_⟩
            have e142 := (ha 142).trans h5
            have e150 := (ha 150).trans h13
            clear ha h5 h13
            go_simp
            refine hK _ ?_; rfl
          apply Lo.runx 16 rfl rfl [14] (by kernel_rfl) (Turn.refl _)
          apply Exists.intro; apply And.intro
          · intro u w1 hR hF
            obtain ⟨h14, -⟩ := hF
            refine ⟨rfl, fun a ha K hK => ?_⟩
            have e151 := (ha 151).trans h14
            clear ha h14
            go_simp
            refine hK _ ?_; rfl
          apply Lo.runx 17 rfl rfl [15] (by kernel_rfl) (Turn.refl _)
          apply Exists.intro; apply And.intro
          · intro u w1 hR hF
            obtain ⟨h15, -⟩ := hF
            refine ⟨.inl ⟨true, h15, rfl⟩, fun a ha K hK => ?_⟩
            have e18 := ha 18
            conv at e18 => rhs; whnf
            clear ha h15
            go_simp
            refine hK _ ?_; rfl
          apply Lo.runx 18 rfl rfl [15] (by kernel_rfl) (Turn.refl _)
          apply Exists.intro; apply And.intro
          · intro u w1 hR hF
            obtain ⟨h15, -⟩ := hF
            refine ⟨.inl ⟨true, h15, rfl⟩, fun a ha K hK => ?_⟩
            have e12 := ha 12
            conv at e12 => rhs; whnf
            clear ha h15
            go_simp
            refine hK _ ?_; rfl
          apply Lo.runx 19 rfl rfl [15] (by kernel_rfl) (Turn.refl _)
          apply Exists.intro; apply And.intro
          · intro u w1 hR hF
            obtain ⟨h15, -⟩ := hF
            refine ⟨.inl ⟨true, h15, rfl⟩, fun a ha K hK => ?_⟩
            have e21 := ha 21
            conv at e21 => rhs; whnf
            clear ha h15
            go_simp
            refine hK _ ?_; rfl
          refine Lo.runv 20 rfl rfl [15, 18] (.int .i64 ((j : Int) + 1)) (by kernel_rfl) (fun u w1 hR hF => ?_) (Turn.refl _) ?_
          · obtain ⟨h15, h18, -⟩ := hF
            refine ⟨.inl ⟨true, h15, rfl⟩, fun a ha K hK => ?_⟩
            have e155 := (ha 155).trans h18
            clear ha h15 h18
            go_simp
            refine hK _ ?_
            rw [IntWalk.i64_left, IntWalk.wrap64_in _ (by omega)]
          refine Lo.runv 21 rfl rfl [15, 17, 19] (.pointer (some ⟨gz, j + 1, none⟩)) (by kernel_rfl) (fun u w1 hR hF => ?_) (Turn.refl _) ?_
          · obtain ⟨h15, h17, h19, -⟩ := hF
            refine ⟨.inl ⟨true, h15, rfl⟩, fun a ha K hK => ?_⟩
            have e154 := (ha 154).trans h17
            have e156 := (ha 156).trans h19
            clear ha h15 h17 h19
            have hi1 : (j : Int) + 1 < (xs.length : Int) + 1 := by omega
            have hi0 : 0 ≤ (j : Int) + 1 := by omega
            go_simp
            refine hK _ ?_
            rfl
          refine Lo.runv 22 rfl rfl [15, 20] (.int .i64 (szf (j + 1) : Int)) (by kernel_rfl) (fun u w1 hR hF => ?_) (Turn.refl _) ?_
          · obtain ⟨h15, h20, -⟩ := hF
            refine ⟨.inl ⟨true, h15, rfl⟩, fun a ha K hK => ?_⟩
            have e157 := (ha 157).trans h20
            clear ha h15 h20
            have hc := HCELL.out w1 (HTL.out.same (((Turn.refl [] _).drew).same hR)) (j + 1) (by omega)
            go_simp
            refine hK _ ?_
            rfl
          refine Lo.runv 23 rfl rfl [15, 16, 21] (.string ⟨(isL.take (szf (j + 1))).toArray⟩) (by kernel_rfl) (fun u w1 hR hF => ?_) (Turn.refl _) ?_
          · obtain ⟨h15, h16, h21, -⟩ := hF
            refine ⟨.inl ⟨true, h15, rfl⟩, fun a ha K hK => ?_⟩
            have e153 := (ha 153).trans h16
            have e158 := (ha 158).trans h21
            clear ha h15 h16 h21
            have hsl := HSI.out isL (szf (j + 1)) (by omega) w1
            go_simp
            refine hK _ ?_
            rfl
          apply Lo.runx 24 rfl rfl [15] (by kernel_rfl) (Turn.refl _)
          apply Exists.intro; apply And.intro
          · intro u w1 hR hF
            obtain ⟨h15, -⟩ := hF
            refine ⟨.inl ⟨true, h15, rfl⟩, fun a ha K hK => ?_⟩
            have e17 := ha 17
            conv at e17 => rhs; whnf
            clear ha h15
            go_simp
            refine hK _ ?_; rfl
          apply Lo.runx 25 rfl rfl [15] (by kernel_rfl) (Turn.refl _)
          apply Exists.intro; apply And.intro
          · intro u w1 hR hF
            obtain ⟨h15, -⟩ := hF
            refine ⟨.inl ⟨true, h15, rfl⟩, fun a ha K hK => ?_⟩
            have e12 := ha 12
            conv at e12 => rhs; whnf
            clear ha h15
            go_simp
            refine hK _ ?_; rfl
          apply Lo.runx 26 rfl rfl [15] (by kernel_rfl) (Turn.refl _)
          apply Exists.intro; apply And.intro
          · intro u w1 hR hF
            obtain ⟨h15, -⟩ := hF
            refine ⟨.inl ⟨true, h15, rfl⟩, fun a ha K hK => ?_⟩
            have e21 := ha 21
            conv at e21 => rhs; whnf
            clear ha h15
            go_simp
            refine hK _ ?_; rfl
          refine Lo.runv 27 rfl rfl [15, 25] (.int .i64 ((j : Int) + 1)) (by kernel_rfl) (fun u w1 hR hF => ?_) (Turn.refl _) ?_
          · obtain ⟨h15, h25, -⟩ := hF
            refine ⟨.inl ⟨true, h15, rfl⟩, fun a ha K hK => ?_⟩
            have e162 := (ha 162).trans h25
            clear ha h15 h25
            go_simp
            refine hK _ ?_
            rw [IntWalk.i64_left, IntWalk.wrap64_in _ (by omega)]
          refine Lo.runv 28 rfl rfl [15, 24, 26] (.pointer (some ⟨gz, j + 1, none⟩)) (by kernel_rfl) (fun u w1 hR hF => ?_) (Turn.refl _) ?_
          · obtain ⟨h15, h24, h26, -⟩ := hF
            refine ⟨.inl ⟨true, h15, rfl⟩, fun a ha K hK => ?_⟩
            have e161 := (ha 161).trans h24
            have e163 := (ha 163).trans h26
            clear ha h15 h24 h26
            have hi1 : (j : Int) + 1 < (xs.length : Int) + 1 := by omega
            have hi0 : 0 ≤ (j : Int) + 1 := by omega
            go_simp
            refine hK _ ?_
            rfl
          refine Lo.runv 29 rfl rfl [15, 27] (.int .i64 (szf (j + 1) : Int)) (by kernel_rfl) (fun u w1 hR hF => ?_) (Turn.refl _) ?_
          · obtain ⟨h15, h27, -⟩ := hF
            refine ⟨.inl ⟨true, h15, rfl⟩, fun a ha K hK => ?_⟩
            have e164 := (ha 164).trans h27
            clear ha h15 h27
            have hc := HCELL.out w1 (HTL.out.same (((Turn.refl [] _).drew).same hR)) (j + 1) (by omega)
            go_simp
            refine hK _ ?_
            rfl
          refine Lo.runv 30 rfl rfl [15, 23, 28] (.string ⟨((flat xs).take (szf (j + 1))).toArray⟩) (by kernel_rfl) (fun u w1 hR hF => ?_) (Turn.refl _) ?_
          · obtain ⟨h15, h23, h28, -⟩ := hF
            refine ⟨.inl ⟨true, h15, rfl⟩, fun a ha K hK => ?_⟩
            have e160 := (ha 160).trans h23
            have e165 := (ha 165).trans h28
            clear ha h15 h23 h28
            have hsl := HSI.out (flat xs) (szf (j + 1)) (by have := HSZN.out (j + 1); have := HN.out; omega) w1
            go_simp
            refine hK _ ?_
            rfl
          refine Lo.runv 31 rfl rfl [15, 22, 29] (.bool false) (by kernel_rfl) (fun u w1 hR hF => ?_) (Turn.refl _) ?_
          · obtain ⟨h15, h22, h29, -⟩ := hF
            refine ⟨.inl ⟨true, h15, rfl⟩, fun a ha K hK => ?_⟩
            have e159 := (ha 159).trans h22
            have e166 := (ha 166).trans h29
            clear ha h15 h22 h29
            go_simp
            refine hK _ ?_
            simp only [Value.bool.injEq]
            exact HCMP.out
          apply Lo.runx 32 rfl rfl [15, 30] (by kernel_rfl) (Turn.refl _)
          apply Exists.intro; apply And.intro
          · intro u w1 hR hF
            obtain ⟨h15, h30, -⟩ := hF
            refine ⟨rfl, fun a ha K hK => ?_⟩
            have e152 := (ha 152).trans h15
            have e167 := (ha 167).trans h30
            clear ha h15 h30
            go_simp
            refine hK _ ?_; rfl
          refine Lo.done [31] (fun u w1 hRd hSd hF => ?_)
          clear hSd
          obtain ⟨f31, -⟩ := hF
          have d31 : u 31 = _ := f31
          clear f31
          simp only [putFrom, Act.put, List.setIfInBounds_toArray, List.set_cons_succ, List.set_cons_zero, Nat.zero_add, Nat.reduceAdd, d31]
          have HTM := hide (HTL.out.same (((Turn.refl [] _).drew).same hRd))
          clear hRd
          rotate_left
          go_wp2_with fail
          refine wp_region_loose (Turn []) (by kernel_rfl) (by kernel_rfl) (by kernel_rfl) (by kernel_rfl) rfl (Turn.refl _) (fun _ _ _ h k => h.same k) ?_
          apply Lo.runx 1 rfl rfl [] (by kernel_rfl) (Turn.refl _)
          apply Exists.intro; apply And.intro
          · intro u w1 hR hF
            clear hF
            refine ⟨rfl, fun a ha K hK => ?_⟩
            have e21 := ha 21
            conv at e21 => rhs; whnf
            clear ha
            go_simp
            refine hK _ ?_; rfl
          refine Lo.runv 2 rfl rfl [0] (.int .i64 ((j : Int) + 1)) (by kernel_rfl) (fun u w1 hR hF => ?_) (Turn.refl _) ?_
          · obtain ⟨h0, -⟩ := hF
            refine ⟨rfl, fun a ha K hK => ?_⟩
            have e137 := (ha 137).trans h0
            clear ha h0
            go_simp
            refine hK _ ?_
            rw [IntWalk.i64_left, IntWalk.wrap64_in _ (by omega)]
          apply Lo.runx 3 rfl rfl [] (by kernel_rfl) (Turn.refl _)
          apply Exists.intro; apply And.intro
          · intro u w1 hR hF
            clear hF
            refine ⟨rfl, fun a ha K hK => ?_⟩
            have e12 := ha 12
            conv at e12 => rhs; whnf
            clear ha
            go_simp
            refine hK _ ?_; rfl
          apply Lo.runx 4 rfl rfl [2] (by kernel_rfl) (Turn.refl _)
          apply Exists.intro; apply And.intro
          · intro u w1 hR hF
            obtain ⟨h2, -⟩ := hF
            refine ⟨rfl, fun a ha K hK => ?_⟩
            have e139 := (ha 139).trans h2
            clear ha h2
            go_simp
            refine hK _ ?_; rfl
          refine Lo.runv 5 rfl rfl [1, 3] (.bool true) (by kernel_rfl) (fun u w1 hR hF => ?_) (Turn.refl _) ?_
          · obtain ⟨h1, h3, -⟩ := hF
            refine ⟨rfl, fun a ha K hK => ?_⟩
            have e138 := (ha 138).trans h1
            have e140 := (ha 140).trans h3
            clear ha h1 h3
            have hA : ((j : Int) + 1 < (xs.length : Int) + 1) := by omega
            go_simp
            refine hK _ ?_
            rfl
          apply Lo.runx 6 rfl rfl [4] (by kernel_rfl) (Turn.refl _)
          apply Exists.intro; apply And.intro
          · intro u w1 hR hF
            obtain ⟨h4, -⟩ := hF
            refine ⟨rfl, fun a ha K hK => ?_⟩
            have e141 := (ha 141).trans h4
            clear ha h4
            go_simp
            refine hK _ ?_; rfl
          apply Lo.runx 7 rfl rfl [5] (by kernel_rfl) (Turn.refl _)
          apply Exists.intro; apply And.intro
          · intro u w1 hR hF
            obtain ⟨h5, -⟩ := hF
            refine ⟨.inl ⟨true, h5, rfl⟩, fun a ha K hK => ?_⟩
            have e12 := ha 12
            conv at e12 => rhs; whnf
            clear ha h5
            go_simp
            refine hK _ ?_; rfl
          apply Lo.runx 8 rfl rfl [5] (by kernel_rfl) (Turn.refl _)
          apply Exists.intro; apply And.intro
          · intro u w1 hR hF
            obtain ⟨h5, -⟩ := hF
            refine ⟨.inl ⟨true, h5, rfl⟩, fun a ha K hK => ?_⟩
            have e21 := ha 21
            conv at e21 => rhs; whnf
            clear ha h5
            go_simp
            refine hK _ ?_; rfl
          refine Lo.runv 9 rfl rfl [5, 7] (.int .i64 ((j : Int) + 1)) (by kernel_rfl) (fun u w1 hR hF => ?_) (Turn.refl _) ?_
          · obtain ⟨h5, h7, -⟩ := hF
            refine ⟨.inl ⟨true, h5, rfl⟩, fun a ha K hK => ?_⟩
            have e144 := (ha 144).trans h7
            clear ha h5 h7
            go_simp
            refine hK _ ?_
            rw [IntWalk.i64_left, IntWalk.wrap64_in _ (by omega)]
          refine Lo.runv 10 rfl rfl [5, 6, 8] (.pointer (some ⟨gz, j + 1, none⟩)) (by kernel_rfl) (fun u w1 hR hF => ?_) (Turn.refl _) ?_
          · obtain ⟨h5, h6, h8, -⟩ := hF
            refine ⟨.inl ⟨true, h5, rfl⟩, fun a ha K hK => ?_⟩
            have e143 := (ha 143).trans h6
            have e145 := (ha 145).trans h8
            clear ha h5 h6 h8
            have hi1 : (j : Int) + 1 < (xs.length : Int) + 1 := by omega
            have hi0 : 0 ≤ (j : Int) + 1 := by omega
            go_simp
            refine hK _ ?_
            rfl
          refine Lo.runv 11 rfl rfl [5, 9] (.int .i64 (szf (j + 1) : Int)) (by kernel_rfl) (fun u w1 hR hF => ?_) (Turn.refl _) ?_
          · obtain ⟨h5, h9, -⟩ := hF
            refine ⟨.inl ⟨true, h5, rfl⟩, fun a ha K hK => ?_⟩
            have e146 := (ha 146).trans h9
            clear ha h5 h9
            have hc := HCELL.out w1 (HTL.out.same (((Turn.refl [] _).drew).same hR)) (j + 1) (by omega)
            go_simp
            refine hK _ ?_
            rfl
          apply Lo.runx 12 rfl rfl [5] (by kernel_rfl) (Turn.refl _)
          apply Exists.intro; apply And.intro
          · intro u w1 hR hF
            obtain ⟨h5, -⟩ := hF
            refine ⟨.inl ⟨true, h5, rfl⟩, fun a ha K hK => ?_⟩
            have e18 := ha 18
            conv at e18 => rhs; whnf
            clear ha h5
            go_simp
            refine hK _ ?_; rfl
          apply Lo.runx 13 rfl rfl [5, 11] (by kernel_rfl) (Turn.refl _)
          apply Exists.intro; apply And.intro
          · intro u w1 hR hF
            obtain ⟨h5, h11, -⟩ := hF
            refine ⟨.inl ⟨true, h5, rfl⟩, fun a ha K hK => ?_⟩
            have e148 := (ha 148).trans h11
            clear ha h5 h11
            go_simp
            refine hK _ ?_; rfl
          refine Lo.runv 14 rfl rfl [5, 10, 12] (.bool false) (by kernel_rfl) (fun u w1 hR hF => ?_) (Turn.refl _) ?_
          · obtain ⟨h5, h10, h12, -⟩ := hF
            refine ⟨.inl ⟨true, h5, rfl⟩, fun a ha K hK => ?_⟩
            have e147 := (ha 147).trans h10
            have e149 := (ha 149).trans h12
            clear ha h5 h10 h12
            have hB : ¬ ((szf (j + 1) : Int) ≤ (isL.length : Int)) := by omega
            go_simp
            refine hK _ ?_
            rfl
          apply Lo.runx 15 rfl rfl [5, 13] (by kernel_rfl) (Turn.refl _)
          apply Exists.intro; apply And.intro
          · intro u w1 hR hF
            obtain ⟨h5, h13, -⟩ := hF
            refine ⟨rfl, fun a ha K hK => ?_⟩
            have e142 := (ha 142).trans h5
            have e150 := (ha 150).trans h13
            clear ha h5 h13
            go_simp
            refine hK _ ?_; rfl
          apply Lo.runx 16 rfl rfl [14] (by kernel_rfl) (Turn.refl _)
          apply Exists.intro; apply And.intro
          · intro u w1 hR hF
            obtain ⟨h14, -⟩ := hF
            refine ⟨rfl, fun a ha K hK => ?_⟩
            have e151 := (ha 151).trans h14
            clear ha h14
            go_simp
            refine hK _ ?_; rfl
          refine Lo.pass 17 rfl rfl [15] (by kernel_rfl) (Turn.refl _) (fun u w1 hR hF => ?_) ?_
          · exact .inl ⟨false, hF.1, rfl⟩
          refine Lo.pass 18 rfl rfl [15] (by kernel_rfl) (Turn.refl _) (fun u w1 hR hF => ?_) ?_
          · exact .inl ⟨false, hF.1, rfl⟩
          refine Lo.pass 19 rfl rfl [15] (by kernel_rfl) (Turn.refl _) (fun u w1 hR hF => ?_) ?_
          · exact .inl ⟨false, hF.1, rfl⟩
          refine Lo.pass 20 rfl rfl [15] (by kernel_rfl) (Turn.refl _) (fun u w1 hR hF => ?_) ?_
          · exact .inl ⟨false, hF.1, rfl⟩
          refine Lo.pass 21 rfl rfl [15] (by kernel_rfl) (Turn.refl _) (fun u w1 hR hF => ?_) ?_
          · exact .inl ⟨false, hF.1, rfl⟩
          refine Lo.pass 22 rfl rfl [15] (by kernel_rfl) (Turn.refl _) (fun u w1 hR hF => ?_) ?_
          · exact .inl ⟨false, hF.1, rfl⟩
          refine Lo.pass 23 rfl rfl [15] (by kernel_rfl) (Turn.refl _) (fun u w1 hR hF => ?_) ?_
          · exact .inl ⟨false, hF.1, rfl⟩
          refine Lo.pass 24 rfl rfl [15] (by kernel_rfl) (Turn.refl _) (fun u w1 hR hF => ?_) ?_
          · exact .inl ⟨false, hF.1, rfl⟩
          refine Lo.pass 25 rfl rfl [15] (by kernel_rfl) (Turn.refl _) (fun u w1 hR hF => ?_) ?_
          · exact .inl ⟨false, hF.1, rfl⟩
          refine Lo.pass 26 rfl rfl [15] (by kernel_rfl) (Turn.refl _) (fun u w1 hR hF => ?_) ?_
          · exact .inl ⟨false, hF.1, rfl⟩
          refine Lo.pass 27 rfl rfl [15] (by kernel_rfl) (Turn.refl _) (fun u w1 hR hF => ?_) ?_
          · exact .inl ⟨false, hF.1, rfl⟩
          refine Lo.pass 28 rfl rfl [15] (by kernel_rfl) (Turn.refl _) (fun u w1 hR hF => ?_) ?_
          · exact .inl ⟨false, hF.1, rfl⟩
          refine Lo.pass 29 rfl rfl [15] (by kernel_rfl) (Turn.refl _) (fun u w1 hR hF => ?_) ?_
          · exact .inl ⟨false, hF.1, rfl⟩
          refine Lo.pass 30 rfl rfl [15] (by kernel_rfl) (Turn.refl _) (fun u w1 hR hF => ?_) ?_
          · exact .inl ⟨false, hF.1, rfl⟩
          refine Lo.pass 31 rfl rfl [15] (by kernel_rfl) (Turn.refl _) (fun u w1 hR hF => ?_) ?_
          · exact .inl ⟨false, hF.1, rfl⟩
          apply Lo.runx 32 rfl rfl [15, 30] (by kernel_rfl) (Turn.refl _)
          apply Exists.intro; apply And.intro
          · intro u w1 hR hF
            obtain ⟨h15, h30, -⟩ := hF
            refine ⟨rfl, fun a ha K hK => ?_⟩
            have e152 := (ha 152).trans h15
            have e167 := (ha 167).trans h30
            clear ha h15 h30
            go_simp
            refine hK _ ?_; rfl
          refine Lo.done [31] (fun u w1 hRd hSd hF => ?_)
          clear hSd
          obtain ⟨f31, -⟩ := hF
          have d31 : u 31 = _ := f31
          clear f31
          simp only [putFrom, Act.put, List.setIfInBounds_toArray, List.set_cons_succ, List.set_cons_zero, Nat.zero_add, Nat.reduceAdd, d31]
          have HTM := hide (HTL.out.same (((Turn.refl [] _).drew).same hRd))
          clear hRd
          rotate_left
          all_goals clear hjx hsn
          all_goals
            go_wp2_with fail
            obtain ⟨f3, hf3, hfb3⟩ := HO3.out.file
            refine (read_any w1 W.heap.size W.heap.size F3' A3 sb3 sv3 _ n (xs.take j) (HB3.out.still HTM.out) (nameB_len (by omega) (by decide)) f3 hf3 hfb3 (HS.out.chain.take j) n 1048576 (by omega)).mono ?_
            rintro e wr3 ⟨rv, zs, m1, k1, rfl, hle1, hrow1, hzs, hsel, htr⟩
            have hzx : zs.map (·.x) = xs.take j := by rw [hzs]; exact read_whole (HS.out.chain.take j) (by have := HN.out; omega) hle1 hsel
            have hzl : zs.length = j := by rw [← List.length_map (f := fun y : BV => y.x), hzx, List.length_take]; omega
            have HROW1 := hide hrow1
            have HZX := hide hzx
            have HTR := hide (HTM.out.same htr)
            obtain ⟨ra1, rc1, hrv, -, -⟩ := hrow1.row.form
            rw [hzl] at hrv
            subst hrv
            have HZLN := hide hzl
            have hfj : (flat (xs.take j)).length = szf j := (HSF.out j).symm
            have hqb := HISN.out
            have hq1 : ((isL.length : Int) - (flat (xs.take j)).length) = (q : Int) + more.length - szf j := by rw [hfj, hqb]; omega
            have hq2 := (HSZM.out).1
            have hq3 : isL.length ≤ 2000000 := by omega
            rw [hq1]
            have HFJ := hide hfj
            clear hle1 hrow1 hzs hsel htr hzx hf3 hfb3 hzl hq1 hqb hfj
            go_wp2_with fail
            refine wp_region_loose (Turn []) (by kernel_rfl) (by kernel_rfl) (by kernel_rfl) (by kernel_rfl) rfl (Turn.refl _) (fun _ _ _ h k => h.same k) ?_
            apply Lo.runx 1 rfl rfl [] (by kernel_rfl) (Turn.refl _)
            apply Exists.intro; apply And.intro
            · intro u w1 hR hF
              clear hF
              refine ⟨rfl, fun a ha K hK => ?_⟩
              have e10 := ha 10
              conv at e10 => rhs; whnf
              clear ha
              go_simp
              refine hK _ ?_; rfl
            apply Lo.runx 2 rfl rfl [0] (by kernel_rfl) (Turn.refl _)
            apply Exists.intro; apply And.intro
            · intro u w1 hR hF
              obtain ⟨h0, -⟩ := hF
              refine ⟨rfl, fun a ha K hK => ?_⟩
              have e177 := (ha 177).trans h0
              clear ha h0
              go_simp
              refine hK _ ?_; rfl
            apply Lo.runx 3 rfl rfl [1] (by kernel_rfl) (Turn.refl _)
            apply Exists.intro; apply And.intro
            · intro u w1 hR hF
              obtain ⟨h1, -⟩ := hF
              refine ⟨rfl, fun a ha K hK => ?_⟩
              have e178 := (ha 178).trans h1
              clear ha h1
              go_simp
              refine hK _ ?_; rfl
            apply Lo.runx 4 rfl rfl [2] (by kernel_rfl) (Turn.refl _)
            apply Exists.intro; apply And.intro
            · intro u w1 hR hF
              obtain ⟨h2, -⟩ := hF
              refine ⟨.inl ⟨false, h2, rfl⟩, fun a ha K hK => ?_⟩
              have e19 := ha 19
              conv at e19 => rhs; whnf
              clear ha h2
              go_simp
              refine hK _ ?_; rfl
            refine Lo.run 5 rfl rfl [2, 3] (fun y _ => y = .int .i64 (j : Int)) (by kernel_rfl) (fun x w w' h hR => ?_) (fun _ _ h => h) (fun u w1 hR hF => ?_) ?_
            · exact h
            · obtain ⟨h2, h3, -⟩ := hF
              refine ⟨.inl ⟨false, h2, rfl⟩, fun a ha K hK => ?_⟩
              have e180 := (ha 180).trans h3
              clear ha h2 h3
              go_simp
              refine (batches_any _ W.heap.size W.heap.size sb3 sv3 _ n _ (HB3.out.seg.still (HTR.out.same (((Turn.refl [] _).drew).same hR)))).mono ?_
              rintro e w8 ⟨rfl, rfl⟩
              exact hK _ _ (by rw [pls_len, List.length_take, Nat.min_eq_left hm1]) (Turn.refl _ _)
            apply Lo.runx 6 rfl rfl [2] (by kernel_rfl) (Turn.refl _)
            apply Exists.intro; apply And.intro
            · intro u w1 hR hF
              obtain ⟨h2, -⟩ := hF
              refine ⟨.inl ⟨false, h2, rfl⟩, fun a ha K hK => ?_⟩
              have e21 := ha 21
              conv at e21 => rhs; whnf
              clear ha h2
              go_simp
              refine hK _ ?_; rfl
            refine Lo.runv 7 rfl rfl [2, 4, 5] (.bool false) (by kernel_rfl) (fun u w1 hR hF => ?_) (Turn.refl _) ?_
            · obtain ⟨h2, h4, h5, -⟩ := hF
              refine ⟨.inl ⟨false, h2, rfl⟩, fun a ha K hK => ?_⟩
              have e181 : a.tmps.getD 181 undef = u 4 := ha 181
              have e182 := (ha 182).trans h5
              have h4 := (show (fun y _ => y = .int .i64 (j : Int)) (u 4) w1 from h4)
              dsimp only at h4
              clear ha h2 h5
              rw [h4] at e181
              go_simp
              refine hK _ ?_
              rfl
            apply Lo.runx 8 rfl rfl [2, 6] (by kernel_rfl) (Turn.refl _)
            apply Exists.intro; apply And.intro
            · intro u w1 hR hF
              obtain ⟨h2, h6, -⟩ := hF
              refine ⟨rfl, fun a ha K hK => ?_⟩
              have e179 := (ha 179).trans h2
              have e183 := (ha 183).trans h6
              clear ha h2 h6
              go_simp
              refine hK _ ?_; rfl
            apply Lo.runx 9 rfl rfl [7] (by kernel_rfl) (Turn.refl _)
            apply Exists.intro; apply And.intro
            · intro u w1 hR hF
              obtain ⟨h7, -⟩ := hF
              refine ⟨rfl, fun a ha K hK => ?_⟩
              have e184 := (ha 184).trans h7
              clear ha h7
              go_simp
              refine hK _ ?_; rfl
            apply Lo.runx 10 rfl rfl [8] (by kernel_rfl) (Turn.refl _)
            apply Exists.intro; apply And.intro
            · intro u w1 hR hF
              obtain ⟨h8, -⟩ := hF
              refine ⟨.inl ⟨false, h8, rfl⟩, fun a ha K hK => ?_⟩
              have e22 := ha 22
              conv at e22 => rhs; whnf
              clear ha h8
              go_simp
              refine hK _ ?_; rfl
            apply Lo.runx 11 rfl rfl [8, 9] (by kernel_rfl) (Turn.refl _)
            apply Exists.intro; apply And.intro
            · intro u w1 hR hF
              obtain ⟨h8, h9, -⟩ := hF
              refine ⟨.inl ⟨false, h8, rfl⟩, fun a ha K hK => ?_⟩
              have e186 := (ha 186).trans h9
              clear ha h8 h9
              go_simp
              refine hK _ ?_; rfl
            apply Lo.runx 12 rfl rfl [8] (by kernel_rfl) (Turn.refl _)
            apply Exists.intro; apply And.intro
            · intro u w1 hR hF
              obtain ⟨h8, -⟩ := hF
              refine ⟨.inl ⟨false, h8, rfl⟩, fun a ha K hK => ?_⟩
              have e21 := ha 21
              conv at e21 => rhs; whnf
              clear ha h8
              go_simp
              refine hK _ ?_; rfl
            refine Lo.runv 13 rfl rfl [8, 10, 11] (.bool false) (by kernel_rfl) (fun u w1 hR hF => ?_) (Turn.refl _) ?_
            · obtain ⟨h8, h10, h11, -⟩ := hF
              refine ⟨.inl ⟨false, h8, rfl⟩, fun a ha K hK => ?_⟩
              have e187 := (ha 187).trans h10
              have e188 := (ha 188).trans h11
              clear ha h8 h10 h11
              go_simp
              refine hK _ ?_
              rfl
            apply Lo.runx 14 rfl rfl [8, 12] (by kernel_rfl) (Turn.refl _)
            apply Exists.intro; apply And.intro
            · intro u w1 hR hF
              obtain ⟨h8, h12, -⟩ := hF
              refine ⟨rfl, fun a ha K hK => ?_⟩
              have e185 := (ha 185).trans h8
              have e189 := (ha 189).trans h12
              clear ha h8 h12
              go_simp
              refine hK _ ?_; rfl
            apply Lo.runx 15 rfl rfl [13] (by kernel_rfl) (Turn.refl _)
            apply Exists.intro; apply And.intro
            · intro u w1 hR hF
              obtain ⟨h13, -⟩ := hF
              refine ⟨rfl, fun a ha K hK => ?_⟩
              have e190 := (ha 190).trans h13
              clear ha h13
              go_simp
              refine hK _ ?_; rfl
            apply Lo.runx 16 rfl rfl [14] (by kernel_rfl) (Turn.refl _)
            apply Exists.intro; apply And.intro
            · intro u w1 hR hF
              obtain ⟨h14, -⟩ := hF
              refine ⟨.inl ⟨false, h14, rfl⟩, fun a ha K hK => ?_⟩
              have e20 := ha 20
              conv at e20 => rhs; whnf
              clear ha h14
              go_simp
              refine hK _ ?_; rfl
            apply Lo.runx 17 rfl rfl [14] (by kernel_rfl) (Turn.refl _)
            apply Exists.intro; apply And.intro
            · intro u w1 hR hF
              obtain ⟨h14, -⟩ := hF
              refine ⟨.inl ⟨false, h14, rfl⟩, fun a ha K hK => ?_⟩
              have e2 := ha 2
              conv at e2 => rhs; whnf
              clear ha h14
              go_simp
              refine hK _ ?_; rfl
            apply Lo.runx 18 rfl rfl [14] (by kernel_rfl) (Turn.refl _)
            apply Exists.intro; apply And.intro
            · intro u w1 hR hF
              obtain ⟨h14, -⟩ := hF
              refine ⟨.inl ⟨false, h14, rfl⟩, fun a ha K hK => ?_⟩
              have e3 := ha 3
              conv at e3 => rhs; whnf
              clear ha h14
              go_simp
              refine hK _ ?_; rfl
            apply Lo.runx 19 rfl rfl [14, 17] (by kernel_rfl) (Turn.refl _)
            apply Exists.intro; apply And.intro
            · intro u w1 hR hF
              obtain ⟨h14, h17, -⟩ := hF
              refine ⟨.inl ⟨false, h14, rfl⟩, fun a ha K hK => ?_⟩
              have e194 := (ha 194).trans h17
              clear ha h14 h17
              go_simp
              refine hK _ ?_; rfl
            refine Lo.runv 20 rfl rfl [14, 16, 18] (.int .i64 ((q : Int) + more.length)) (by kernel_rfl) (fun u w1 hR hF => ?_) (Turn.refl _) ?_
            · obtain ⟨h14, h16, h18, -⟩ := hF
              refine ⟨.inl ⟨false, h14, rfl⟩, fun a ha K hK => ?_⟩
              have e193 := (ha 193).trans h16
              have e195 := (ha 195).trans h18
              clear ha h14 h16 h18
              go_simp
              refine hK _ ?_
              rw [IntWalk.i64_left, IntWalk.wrap64_in _ (by omega)]
            apply Lo.runx 21 rfl rfl [14] (by kernel_rfl) (Turn.refl _)
            apply Exists.intro; apply And.intro
            · intro u w1 hR hF
              obtain ⟨h14, -⟩ := hF
              refine ⟨.inl ⟨false, h14, rfl⟩, fun a ha K hK => ?_⟩
              have e12 := ha 12
              conv at e12 => rhs; whnf
              clear ha h14
              go_simp
              refine hK _ ?_; rfl
            apply Lo.runx 22 rfl rfl [14] (by kernel_rfl) (Turn.refl _)
            apply Exists.intro; apply And.intro
            · intro u w1 hR hF
              obtain ⟨h14, -⟩ := hF
              refine ⟨.inl ⟨false, h14, rfl⟩, fun a ha K hK => ?_⟩
              have e21 := ha 21
              conv at e21 => rhs; whnf
              clear ha h14
              go_simp
              refine hK _ ?_; rfl
            refine Lo.runv 23 rfl rfl [14, 20, 21] (.pointer (some ⟨gz, j, none⟩)) (by kernel_rfl) (fun u w1 hR hF => ?_) (Turn.refl _) ?_
            · obtain ⟨h14, h20, h21, -⟩ := hF
              refine ⟨.inl ⟨false, h14, rfl⟩, fun a ha K hK => ?_⟩
              have e197 := (ha 197).trans h20
              have e198 := (ha 198).trans h21
              clear ha h14 h20 h21
              have hi1 : (j : Int) < (xs.length : Int) + 1 := by omega
              go_simp
              refine hK _ ?_
              rfl
            refine Lo.runv 24 rfl rfl [14, 22] (.int .i64 (szf j : Int)) (by kernel_rfl) (fun u w1 hR hF => ?_) (Turn.refl _) ?_
            · obtain ⟨h14, h22, -⟩ := hF
              refine ⟨.inl ⟨false, h14, rfl⟩, fun a ha K hK => ?_⟩
              have e199 := (ha 199).trans h22
              clear ha h14 h22
              have hc := HCELL.out w1 (HTR.out.same (((Turn.refl [] _).drew).same hR)) j (by omega)
              go_simp
              refine hK _ ?_
              rfl
            refine Lo.runv 25 rfl rfl [14, 19, 23] (.int .i64 ((q : Int) + more.length - szf j)) (by kernel_rfl) (fun u w1 hR hF => ?_) (Turn.refl _) ?_
            · obtain ⟨h14, h19, h23, -⟩ := hF
              refine ⟨.inl ⟨false, h14, rfl⟩, fun a ha K hK => ?_⟩
              have e196 := (ha 196).trans h19
              have e200 := (ha 200).trans h23
              clear ha h14 h19 h23
              go_simp
              refine hK _ ?_
              rw [IntWalk.i64_left, IntWalk.wrap64_in _ (by omega)]
            refine Lo.runv 26 rfl rfl [14, 15, 24] (.bool false) (by kernel_rfl) (fun u w1 hR hF => ?_) (Turn.refl _) ?_
            · obtain ⟨h14, h15, h24, -⟩ := hF
              refine ⟨.inl ⟨false, h14, rfl⟩, fun a ha K hK => ?_⟩
              have e192 := (ha 192).trans h15
              have e201 := (ha 201).trans h24
              clear ha h14 h15 h24
              go_simp
              refine hK _ ?_
              rfl
            apply Lo.runx 27 rfl rfl [14, 25] (by kernel_rfl) (Turn.refl _)
            apply Exists.intro; apply And.intro
            · intro u w1 hR hF
              obtain ⟨h14, h25, -⟩ := hF
              refine ⟨rfl, fun a ha K hK => ?_⟩
              have e191 := (ha 191).trans h14
              have e202 := (ha 202).trans h25
              clear ha h14 h25
              go_simp
              refine hK _ ?_; rfl
            apply Lo.runx 28 rfl rfl [26] (by kernel_rfl) (Turn.refl _)
            apply Exists.intro; apply And.intro
            · intro u w1 hR hF
              obtain ⟨h26, -⟩ := hF
              refine ⟨rfl, fun a ha K hK => ?_⟩
              have e203 := (ha 203).trans h26
              clear ha h26
              go_simp
              refine hK _ ?_; rfl
            apply Lo.runx 29 rfl rfl [27] (by kernel_rfl) (Turn.refl _)
            apply Exists.intro; apply And.intro
            · intro u w1 hR hF
              obtain ⟨h27, -⟩ := hF
              refine ⟨.inl ⟨false, h27, rfl⟩, fun a ha K hK => ?_⟩
              have e9 := ha 9
              conv at e9 => rhs; whnf
              clear ha h27
              go_simp
              refine hK _ ?_; rfl
            apply Lo.runx 30 rfl rfl [27] (by kernel_rfl) (Turn.refl _)
            apply Exists.intro; apply And.intro
            · intro u w1 hR hF
              obtain ⟨h27, -⟩ := hF
              refine ⟨.inl ⟨false, h27, rfl⟩, fun a ha K hK => ?_⟩
              have e16 := ha 16
              conv at e16 => rhs; whnf
              clear ha h27
              go_simp
              refine hK _ ?_; rfl
            refine Lo.run 31 rfl rfl [27, 28, 29] (fun y _ => y = .int .i64 (szf j : Int)) (by kernel_rfl) (fun x w w' h hR => ?_) (fun _ _ h => h) (fun u w1 hR hF => ?_) ?_
            · exact h
            · obtain ⟨h27, h28, h29, -⟩ := hF
              refine ⟨.inl ⟨false, h27, rfl⟩, fun a ha K hK => ?_⟩
              have e205 := (ha 205).trans h28
              have e206 := (ha 206).trans h29
              clear ha h27 h28 h29
              go_simp
              refine (disk_size (HB3.out.disk.kept (HTR.out.same (((Turn.refl [] _).drew).same hR)) (by simp)) (Sn.nameB dirS n) (nameB_len (by omega) (by decide))).mono ?_
              rintro e w8 ⟨rfl, rfl⟩
              exact hK _ _ (by rw [HO3.out.size, HFJ.out]) (Turn.refl _ _)
            apply Lo.runx 32 rfl rfl [27] (by kernel_rfl) (Turn.refl _)
            apply Exists.intro; apply And.intro
            · intro u w1 hR hF
              obtain ⟨h27, -⟩ := hF
              refine ⟨.inl ⟨false, h27, rfl⟩, fun a ha K hK => ?_⟩
              have e12 := ha 12
              conv at e12 => rhs; whnf
              clear ha h27
              go_simp
              refine hK _ ?_; rfl
            apply Lo.runx 33 rfl rfl [27] (by kernel_rfl) (Turn.refl _)
            apply Exists.intro; apply And.intro
            · intro u w1 hR hF
              obtain ⟨h27, -⟩ := hF
              refine ⟨.inl ⟨false, h27, rfl⟩, fun a ha K hK => ?_⟩
              have e21 := ha 21
              conv at e21 => rhs; whnf
              clear ha h27
              go_simp
              refine hK _ ?_; rfl
            refine Lo.runv 34 rfl rfl [27, 31, 32] (.pointer (some ⟨gz, j, none⟩)) (by kernel_rfl) (fun u w1 hR hF => ?_) (Turn.refl _) ?_
            · obtain ⟨h27, h31, h32, -⟩ := hF
              refine ⟨.inl ⟨false, h27, rfl⟩, fun a ha K hK => ?_⟩
              have e208 := (ha 208).trans h31
              have e209 := (ha 209).trans h32
              clear ha h27 h31 h32
              have hi1 : (j : Int) < (xs.length : Int) + 1 := by omega
              go_simp
              refine hK _ ?_
              rfl
            refine Lo.runv 35 rfl rfl [27, 33] (.int .i64 (szf j : Int)) (by kernel_rfl) (fun u w1 hR hF => ?_) (Turn.refl _) ?_
            · obtain ⟨h27, h33, -⟩ := hF
              refine ⟨.inl ⟨false, h27, rfl⟩, fun a ha K hK => ?_⟩
              have e210 := (ha 210).trans h33
              clear ha h27 h33
              have hc := HCELL.out w1 (HTR.out.same (((Turn.refl [] _).drew).same hR)) j (by omega)
              go_simp
              refine hK _ ?_
              rfl
            refine Lo.runv 36 rfl rfl [27, 30, 34] (.bool false) (by kernel_rfl) (fun u w1 hR hF => ?_) (Turn.refl _) ?_
            · obtain ⟨h27, h30, h34, -⟩ := hF
              refine ⟨.inl ⟨false, h27, rfl⟩, fun a ha K hK => ?_⟩
              have e207 : a.tmps.getD 207 undef = u 30 := ha 207
              have e211 := (ha 211).trans h34
              have h30 := (show (fun y _ => y = .int .i64 (szf j : Int)) (u 30) w1 from h30)
              dsimp only at h30
              clear ha h27 h34
              rw [h30] at e207
              go_simp
              refine hK _ ?_
              rfl
            apply Lo.runx 37 rfl rfl [27, 35] (by kernel_rfl) (Turn.refl _)
            apply Exists.intro; apply And.intro
            · intro u w1 hR hF
              obtain ⟨h27, h35, -⟩ := hF
              refine ⟨rfl, fun a ha K hK => ?_⟩
              have e204 := (ha 204).trans h27
              have e212 := (ha 212).trans h35
              clear ha h27 h35
              go_simp
              refine hK _ ?_; rfl
            refine Lo.done [36] (fun u w1 hRd hSd hF => ?_)
            clear hSd
            obtain ⟨f36, -⟩ := hF
            have d36 : u 36 = _ := f36
            clear f36
            simp only [putFrom, Act.put, List.setIfInBounds_toArray, List.set_cons_succ, List.set_cons_zero, Nat.zero_add, Nat.reduceAdd, d36]
            have HTQ := hide (((Turn.refl [] _).drew).same hRd)
            clear hRd
            go_wp2_with fail
            go_loopw [23] (fun iv wr4 => ∃ i : Nat, i ≤ j ∧ iv = .int .i64 i ∧ Turn [] wr3 wr4) (fun iv _ => j - (intOf iv).toNat)
            case atStart => exact ⟨0, Nat.zero_le _, rfl, HTQ.out⟩
            case round =>
              obtain ⟨i, hi, rfl, hti⟩ := hrel
              have HTI := hide hti
              clear hti
              by_cases hij : i < j
              · obtain ⟨g1, c1', e1, hc1, -⟩ := HROW1.out.row.at batC_len (j := i) (by rw [HZLN.out]; exact hij)
                obtain ⟨g2, c2', e2, hc2, -⟩ := HL3.out.row.at batC_len (j := i) (by rw [← List.length_map (f := fun y : BV => y.x), HYM.out]; omega)
                have hyl : ys.length = xs.length := by rw [← HYM.out, List.length_map]
                rw [HZLN.out] at e1
                rw [hyl] at e2
                simp only [Value.slice.injEq, true_and] at e1
                obtain ⟨rfl, rfl⟩ := e1
                subst e2
                obtain ⟨y1, hy1⟩ : ∃ y1, y1 = zs[i]'(by rw [HZLN.out]; exact hij) := ⟨_, rfl⟩
                obtain ⟨y2, hy2⟩ : ∃ y2, y2 = ys[i]'(by rw [hyl]; omega) := ⟨_, rfl⟩
                have hxx : y1.x = y2.x := by
                  have h1 : (zs.map (·.x))[i]? = some y1.x := by rw [List.getElem?_map, List.getElem?_eq_getElem (by rw [HZLN.out]; exact hij), ← hy1]; rfl
                  have h2 : (ys.map (·.x))[i]? = some y2.x := by rw [List.getElem?_map, List.getElem?_eq_getElem (by rw [hyl]; omega), ← hy2]; rfl
                  rw [HZX.out, List.getElem?_take_of_lt hij, ← HYM.out, h2] at h1
                  exact (Option.some.inj h1).symm
                rw [← hy1] at hc1
                rw [← hy2] at hc2
                have hr1 : RecsAt wr3 y1.sl y1.x.recs := HROW1.out.recs y1 (by rw [hy1]; exact List.getElem_mem _)
                have hr2 : RecsAt wr3 y2.sl y1.x.recs := by rw [hxx]; exact (HL3.out.recs y2 (by rw [hy2]; exact List.getElem_mem _)).still HTR.out
                have hp1 : ∀ Z, Turn [] wr3 Z → ∀ a, a < 3 → Z.cell? ⟨g1, i * 3 + a, none⟩ = (batC y1)[a]? := fun Z hZ a ha => by
                  have h := hc1 a ha
                  rw [World.cell?_of_block (w := wr3) (hZ.block _ (World.block_lt_of_cell? _ _ (h.trans (List.getElem?_eq_getElem (by rw [batC_len]; exact ha)))) (by simp)), h]
                have hp2 : ∀ Z, Turn [] wr3 Z → ∀ a, a < 3 → Z.cell? ⟨g2, i * 3 + a, none⟩ = (batC y2)[a]? := fun Z hZ a ha => by
                  have h := hc2 a ha
                  rw [World.cell?_of_block (w := wg) ((HTR.out.same hZ).block _ (World.block_lt_of_cell? _ _ (h.trans (List.getElem?_eq_getElem (by rw [batC_len]; exact ha)))) (by simp)), h]
                have HP1 := hide hp1
                have HP2 := hide hp2
                have HR1 := hide hr1
                have HR2 := hide hr2
                have HXX := hide hxx
                clear hc1 hc2 hyl hy1 hy2 hr1 hr2 hp1 hp2 hxx
                go_wp2_with fail
                refine wp_region_loose (Turn []) (by kernel_rfl) (by kernel_rfl) (by kernel_rfl) (by kernel_rfl) rfl (Turn.refl _) (fun _ _ _ h k => h.same k) ?_
                apply Lo.runx 1 rfl rfl [] (by kernel_rfl) (Turn.refl _)
                apply Exists.intro; apply And.intro
                · intro u w1 hR hF
                  clear hF
                  refine ⟨rfl, fun a ha K hK => ?_⟩
                  have e22 := ha 22
                  conv at e22 => rhs; whnf
                  clear ha
                  go_simp
                  refine hK _ ?_; rfl
                apply Lo.runx 2 rfl rfl [] (by kernel_rfl) (Turn.refl _)
                apply Exists.intro; apply And.intro
                · intro u w1 hR hF
                  clear hF
                  refine ⟨rfl, fun a ha K hK => ?_⟩
                  have e23 := ha 23
                  conv at e23 => rhs; whnf
                  clear ha
                  go_simp
                  refine hK _ ?_; rfl
                refine Lo.runv 3 rfl rfl [0, 1] (.pointer (some ⟨g1, i * 3, none⟩)) (by kernel_rfl) (fun u w1 hR hF => ?_) (Turn.refl _) ?_
                · obtain ⟨h0, h1, -⟩ := hF
                  refine ⟨rfl, fun a ha K hK => ?_⟩
                  have e219 := (ha 219).trans h0
                  have e220 := (ha 220).trans h1
                  clear ha h0 h1
                  have hi1 : (i : Int) < (j : Int) := by omega
                  go_simp
                  refine hK _ ?_
                  rfl
                refine Lo.runv 4 rfl rfl [2] (.pointer (some ⟨g1, i * 3, none⟩)) (by kernel_rfl) (fun u w1 hR hF => ?_) (Turn.refl _) ?_
                · obtain ⟨h2, -⟩ := hF
                  refine ⟨rfl, fun a ha K hK => ?_⟩
                  have e221 := (ha 221).trans h2
                  clear ha h2
                  go_simp
                  refine hK _ ?_
                  rfl
                refine Lo.runv 5 rfl rfl [3] (.int .i64 y1.x.base) (by kernel_rfl) (fun u w1 hR hF => ?_) (Turn.refl _) ?_
                · obtain ⟨h3, -⟩ := hF
                  refine ⟨rfl, fun a ha K hK => ?_⟩
                  have e222 := (ha 222).trans h3
                  clear ha h3
                  have hc : w1.cell? ⟨g1, i * 3, none⟩ = some (.int .i64 y1.x.base) := HP1.out w1 (HTI.out.same (((Turn.refl [] _).drew).same hR)) 0 (by omega)
                  go_simp
                  refine hK _ ?_
                  rfl
                apply Lo.runx 6 rfl rfl [] (by kernel_rfl) (Turn.refl _)
                apply Exists.intro; apply And.intro
                · intro u w1 hR hF
                  clear hF
                  refine ⟨rfl, fun a ha K hK => ?_⟩
                  have e13 := ha 13
                  conv at e13 => rhs; whnf
                  clear ha
                  go_simp
                  refine hK _ ?_; rfl
                apply Lo.runx 7 rfl rfl [] (by kernel_rfl) (Turn.refl _)
                apply Exists.intro; apply And.intro
                · intro u w1 hR hF
                  clear hF
                  refine ⟨rfl, fun a ha K hK => ?_⟩
                  have e23 := ha 23
                  conv at e23 => rhs; whnf
                  clear ha
                  go_simp
                  refine hK _ ?_; rfl
                refine Lo.runv 8 rfl rfl [5, 6] (.pointer (some ⟨g2, i * 3, none⟩)) (by kernel_rfl) (fun u w1 hR hF => ?_) (Turn.refl _) ?_
                · obtain ⟨h5, h6, -⟩ := hF
                  refine ⟨rfl, fun a ha K hK => ?_⟩
                  have e224 := (ha 224).trans h5
                  have e225 := (ha 225).trans h6
                  clear ha h5 h6
                  have hi1 : (i : Int) < (xs.length : Int) := by omega
                  go_simp
                  refine hK _ ?_
                  rfl
                refine Lo.runv 9 rfl rfl [7] (.pointer (some ⟨g2, i * 3, none⟩)) (by kernel_rfl) (fun u w1 hR hF => ?_) (Turn.refl _) ?_
                · obtain ⟨h7, -⟩ := hF
                  refine ⟨rfl, fun a ha K hK => ?_⟩
                  have e226 := (ha 226).trans h7
                  clear ha h7
                  go_simp
                  refine hK _ ?_
                  rfl
                refine Lo.runv 10 rfl rfl [8] (.int .i64 y2.x.base) (by kernel_rfl) (fun u w1 hR hF => ?_) (Turn.refl _) ?_
                · obtain ⟨h8, -⟩ := hF
                  refine ⟨rfl, fun a ha K hK => ?_⟩
                  have e227 := (ha 227).trans h8
                  clear ha h8
                  have hc : w1.cell? ⟨g2, i * 3, none⟩ = some (.int .i64 y2.x.base) := HP2.out w1 (HTI.out.same (((Turn.refl [] _).drew).same hR)) 0 (by omega)
                  go_simp
                  refine hK _ ?_
                  rfl
                refine Lo.runv 11 rfl rfl [4, 9] (.bool false) (by kernel_rfl) (fun u w1 hR hF => ?_) (Turn.refl _) ?_
                · obtain ⟨h4, h9, -⟩ := hF
                  refine ⟨rfl, fun a ha K hK => ?_⟩
                  have e223 := (ha 223).trans h4
                  have e228 := (ha 228).trans h9
                  clear ha h4 h9
                  have hbb : y1.x.base = y2.x.base := by rw [HXX.out]
                  go_simp
                  refine hK _ ?_
                  rfl
                apply Lo.runx 12 rfl rfl [10] (by kernel_rfl) (Turn.refl _)
                apply Exists.intro; apply And.intro
                · intro u w1 hR hF
                  obtain ⟨h10, -⟩ := hF
                  refine ⟨rfl, fun a ha K hK => ?_⟩
                  have e229 := (ha 229).trans h10
                  clear ha h10
                  go_simp
                  refine hK _ ?_; rfl
                apply Lo.runx 13 rfl rfl [11] (by kernel_rfl) (Turn.refl _)
                apply Exists.intro; apply And.intro
                · intro u w1 hR hF
                  obtain ⟨h11, -⟩ := hF
                  refine ⟨.inl ⟨false, h11, rfl⟩, fun a ha K hK => ?_⟩
                  have e22 := ha 22
                  conv at e22 => rhs; whnf
                  clear ha h11
                  go_simp
                  refine hK _ ?_; rfl
                apply Lo.runx 14 rfl rfl [11] (by kernel_rfl) (Turn.refl _)
                apply Exists.intro; apply And.intro
                · intro u w1 hR hF
                  obtain ⟨h11, -⟩ := hF
                  refine ⟨.inl ⟨false, h11, rfl⟩, fun a ha K hK => ?_⟩
                  have e23 := ha 23
                  conv at e23 => rhs; whnf
                  clear ha h11
                  go_simp
                  refine hK _ ?_; rfl
                refine Lo.runv 15 rfl rfl [11, 12, 13] (.pointer (some ⟨g1, i * 3, none⟩)) (by kernel_rfl) (fun u w1 hR hF => ?_) (Turn.refl _) ?_
                · obtain ⟨h11, h12, h13, -⟩ := hF
                  refine ⟨.inl ⟨false, h11, rfl⟩, fun a ha K hK => ?_⟩
                  have e231 := (ha 231).trans h12
                  have e232 := (ha 232).trans h13
                  clear ha h11 h12 h13
                  have hi1 : (i : Int) < (j : Int) := by omega
                  go_simp
                  refine hK _ ?_
                  rfl
                refine Lo.runv 16 rfl rfl [11, 14] (.pointer (some ⟨g1, i * 3 + 2, none⟩)) (by kernel_rfl) (fun u w1 hR hF => ?_) (Turn.refl _) ?_
                · obtain ⟨h11, h14, -⟩ := hF
                  refine ⟨.inl ⟨false, h11, rfl⟩, fun a ha K hK => ?_⟩
                  have e233 := (ha 233).trans h14
                  clear ha h11 h14
                  go_simp
                  refine hK _ ?_
                  rfl
                refine Lo.runv 17 rfl rfl [11, 15] (.slice y1.a y1.n y1.c) (by kernel_rfl) (fun u w1 hR hF => ?_) (Turn.refl _) ?_
                · obtain ⟨h11, h15, -⟩ := hF
                  refine ⟨.inl ⟨false, h11, rfl⟩, fun a ha K hK => ?_⟩
                  have e234 := (ha 234).trans h15
                  clear ha h11 h15
                  have hc : w1.cell? ⟨g1, i * 3 + 2, none⟩ = some (.slice y1.a y1.n y1.c) := HP1.out w1 (HTI.out.same (((Turn.refl [] _).drew).same hR)) 2 (by omega)
                  go_simp
                  refine hK _ ?_
                  rfl
                apply Lo.runx 18 rfl rfl [11] (by kernel_rfl) (Turn.refl _)
                apply Exists.intro; apply And.intro
                · intro u w1 hR hF
                  obtain ⟨h11, -⟩ := hF
                  refine ⟨.inl ⟨false, h11, rfl⟩, fun a ha K hK => ?_⟩
                  have e13 := ha 13
                  conv at e13 => rhs; whnf
                  clear ha h11
                  go_simp
                  refine hK _ ?_; rfl
                apply Lo.runx 19 rfl rfl [11] (by kernel_rfl) (Turn.refl _)
                apply Exists.intro; apply And.intro
                · intro u w1 hR hF
                  obtain ⟨h11, -⟩ := hF
                  refine ⟨.inl ⟨false, h11, rfl⟩, fun a ha K hK => ?_⟩
                  have e23 := ha 23
                  conv at e23 => rhs; whnf
                  clear ha h11
                  go_simp
                  refine hK _ ?_; rfl
                refine Lo.runv 20 rfl rfl [11, 17, 18] (.pointer (some ⟨g2, i * 3, none⟩)) (by kernel_rfl) (fun u w1 hR hF => ?_) (Turn.refl _) ?_
                · obtain ⟨h11, h17, h18, -⟩ := hF
                  refine ⟨.inl ⟨false, h11, rfl⟩, fun a ha K hK => ?_⟩
                  have e236 := (ha 236).trans h17
                  have e237 := (ha 237).trans h18
                  clear ha h11 h17 h18
                  have hi1 : (i : Int) < (xs.length : Int) := by omega
                  go_simp
                  refine hK _ ?_
                  rfl
                refine Lo.runv 21 rfl rfl [11, 19] (.pointer (some ⟨g2, i * 3 + 2, none⟩)) (by kernel_rfl) (fun u w1 hR hF => ?_) (Turn.refl _) ?_
                · obtain ⟨h11, h19, -⟩ := hF
                  refine ⟨.inl ⟨false, h11, rfl⟩, fun a ha K hK => ?_⟩
                  have e238 := (ha 238).trans h19
                  clear ha h11 h19
                  go_simp
                  refine hK _ ?_
                  rfl
                refine Lo.runv 22 rfl rfl [11, 20] (.slice y2.a y2.n y2.c) (by kernel_rfl) (fun u w1 hR hF => ?_) (Turn.refl _) ?_
                · obtain ⟨h11, h20, -⟩ := hF
                  refine ⟨.inl ⟨false, h11, rfl⟩, fun a ha K hK => ?_⟩
                  have e239 := (ha 239).trans h20
                  clear ha h11 h20
                  have hc : w1.cell? ⟨g2, i * 3 + 2, none⟩ = some (.slice y2.a y2.n y2.c) := HP2.out w1 (HTI.out.same (((Turn.refl [] _).drew).same hR)) 2 (by omega)
                  go_simp
                  refine hK _ ?_
                  rfl
                refine Lo.run 23 rfl rfl [11, 16, 21] (fun y _ => y = .bool true) (by kernel_rfl) (fun x w w' h hR => ?_) (fun _ _ h => h) (fun u w1 hR hF => ?_) ?_
                · exact h
                · obtain ⟨h11, h16, h21, -⟩ := hF
                  refine ⟨.inl ⟨false, h11, rfl⟩, fun a ha K hK => ?_⟩
                  have e235 := (ha 235).trans h16
                  have e240 := (ha 240).trans h21
                  clear ha h11 h16 h21
                  go_simp
                  have hr := HTI.out.same (((Turn.refl [] _).drew).same hR)
                  refine (same_any _ (.slice y1.a y1.n y1.c) (.slice y2.a y2.n y2.c) y1.x.recs (HR1.out.still hr) (HR2.out.still hr)).mono ?_
                  rintro e w8 ⟨rfl, ht8⟩
                  exact hK _ _ rfl ht8
                refine Lo.runv 24 rfl rfl [11, 22] (.bool false) (by kernel_rfl) (fun u w1 hR hF => ?_) (Turn.refl _) ?_
                · obtain ⟨h11, h22, -⟩ := hF
                  refine ⟨.inl ⟨false, h11, rfl⟩, fun a ha K hK => ?_⟩
                  have e241 : a.tmps.getD 241 undef = u 22 := ha 241
                  have h22 := (show (fun y _ => y = .bool true) (u 22) w1 from h22)
                  dsimp only at h22
                  clear ha h11
                  rw [h22] at e241
                  go_simp
                  refine hK _ ?_
                  rfl
                apply Lo.runx 25 rfl rfl [11, 23] (by kernel_rfl) (Turn.refl _)
                apply Exists.intro; apply And.intro
                · intro u w1 hR hF
                  obtain ⟨h11, h23, -⟩ := hF
                  refine ⟨rfl, fun a ha K hK => ?_⟩
                  have e230 := (ha 230).trans h11
                  have e242 := (ha 242).trans h23
                  clear ha h11 h23
                  go_simp
                  refine hK _ ?_; rfl
                refine Lo.done [24] (fun u w1 hRd hSd hF => ?_)
                clear hSd
                obtain ⟨f24, -⟩ := hF
                have d24 : u 24 = _ := f24
                clear f24
                simp only [putFrom, Act.put, List.setIfInBounds_toArray, List.set_cons_succ, List.set_cons_zero, Nat.zero_add, Nat.reduceAdd, d24]
                have HTJ := hide (HTI.out.same (((Turn.refl [] _).drew).same hRd))
                clear hRd
                go_wp2
                refine ⟨⟨i + 1, by omega, by go_num, HTJ.out⟩, by simp only [intOf]; omega⟩
              · obtain rfl : i = j := by omega
                go_wp2_with fail
                refine (next_any _ W.heap.size W.heap.size sb3 sv3 _ n _ (HB3.out.seg.still (HTR.out.same HTI.out)) (by rw [pls_len, List.length_take]; omega)).mono ?_
                rintro e w5 ⟨rfl, ht5⟩
                rw [nextP_pls]
                obtain ⟨nx, hnx⟩ : ∃ nx, nx = nextOf n (xs.take i) := ⟨_, rfl⟩
                have hnb : 0 ≤ nx ∧ nx ≤ (n : Int) + 600 := by
                  have h1 := HS.out.next.1
                  have h2 := chain_next (HS.out.chain.take i)
                  have h3 := chain_next ((chain_append (xs.take i) (xs.drop i) n).1 (by rw [List.take_append_drop]; exact HS.out.chain)).2
                  rw [← nextOf_append, List.take_append_drop] at h3
                  rw [hnx]
                  omega
                rw [← hnx]
                have HNX := hide hnx
                have HT5 := hide ((HTR.out.same HTI.out).same ht5)
                clear hnx ht5
                have hrr : ∀ Z, Turn [] (w5.alloc (.cells #[.int .i64 0, .int .i64 0, .bool false, .string ⟨#[]⟩, .bool false, .string ⟨#[120]⟩] 53)) Z → RecsAt Z (.slice (some ⟨w5.heap.size, 0, none⟩) 1 1) [rX] := by
                  intro Z hZ
                  have hb := hZ.heap (heap_new w5 _) (by simp)
                  refine RecRow.recs (base := 0) (.inr ⟨w5.heap.size, 1, _, rfl, Nat.zero_le _, hb, Nat.le_refl _, by simp, by simp [maxLen], by simp [rX, recC, strV]⟩) ?_
                  intro r hr
                  simp only [List.mem_cons, List.mem_nil_iff, or_false] at hr
                  rcases hr with rfl
                  exact ⟨by decide, by decide, by decide, by decide, by decide, by decide⟩
                have HRR := hide hrr
                clear hrr
                go_wp2_with fail
                refine (kbatch_any _ nx _ [rX] (HRR.out _ (Turn.refl _ _)) (by omega) (by omega) (by simp)).mono ?_
                rintro e w6 ⟨sv6, rfl, hrow6, ht6⟩
                obtain ⟨s6a, s6n, s6c, hsv6⟩ := hrow6.some_slice
                subst hsv6
                have h56 : Turn [] w5 w6 := ((Turn.refl [] w5).alloc _).same ht6
                have hok6 : ∀ r ∈ renum nx [rX], RecOk r := renum_ok nx [rX] (fun r hr => by
                  simp only [List.mem_cons, List.mem_nil_iff, or_false] at hr
                  rcases hr with rfl
                  exact ⟨by decide, by decide, by decide, by decide, by decide, by decide⟩) (by omega) (by omega) (by simp)
                have hlow : ∀ k ∈ F3', k < w5.heap.size := fun k hk => by have := HB3.out.disk.lt k hk; have := HT5.out.size; omega
                have hlow2 : ∀ k ∈ sfoot sb3 sv3, k < w5.heap.size := fun k hk => by have := (HB3.out.seg.lt k hk).2; have := HT5.out.size; omega
                have hka := kadd_any w6 W.heap.size W.heap.size F3' A3 sb3 sv3 (Sn.nameB dirS n) n (xs.take i) 1048576 [] (HB3.out.still (HT5.out.same h56)) HO3.out (nameB_len (by omega) (by decide)) (.slice s6a s6n s6c) _ [rX] nx HNX.out hrow6 hok6
                  (fun k hk => by have := hlow k hk; simp; omega) (fun k hk => by have := hlow2 k hk; simp; omega) (by omega) (by simp; omega) (fun _ => by have := x_len (nx := nx) hnb.1 (by omega); have := HS.out.flat; have := HN.out; omega)
                rw [show (([rX] : List Bt.Rec).length : Int) = 1 from rfl] at hka ⊢
                have HKA := hide hka
                clear hka hrow6 ht6 hok6 hlow hlow2
                have HT6 := hide (HT5.out.same h56)
                clear h56
                go_wp2_with fail
                refine HKA.out.mono ?_
                rintro e w7 (⟨h1, -, -⟩ | ⟨-, rfl, A4, ho4, F4, sv4, hb4, ht4, hf4, hg4⟩)
                · exact absurd (x_ok hnb.1 (by omega)) h1
                have hT7 : Turn [] W w7 := (HT3.out.same HT6.out).trans ht4 (fun k hk => .inr (by
                  rcases List.mem_append.1 hk with h | h
                  · exact HB3.out.disk.low k h
                  · exact (HB3.out.seg.lt k h).1))
                clear ho4 hb4 ht4 hf4 hg4 HKA
                go_wp2
                go_ret
                exact ⟨rfl, hT7.nil⟩
end Go.Proofs.YtjbpladooohpdaaGreatDoor.Sg
