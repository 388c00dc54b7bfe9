/- The wheel: Cancel, walked. -/
import Derived.Test.YtcficgpknokpbaaDoorWhp
namespace Go.Proofs.YtcficgpknokpbaaDoor.Wh
open Go.RowKit Go.Maps Go.Shelf
set_option maxRecDepth 100000
set_option linter.unusedSimpArgs false
set_option linter.unusedVariables false
attribute [local go_sem] Oper.semAt_some

set_option maxHeartbeats 2000000 in
theorem cancel_none (w : World) (base b now : Nat) (F : List Nat) (all : List Tm) (h : WheelAt w base b F now all) (id : Int) (hw : (Lit.int .i64 id).wf = true) (hf : findT all id = none) :
    Calls Tryd.prog 7 #[.pointer (some ⟨b, 0, none⟩), .int .i64 id] w fun e w' => e = .returned (.bool false) ∧ Turn [] w w' := by
  obtain ⟨mref, sv, sl, hW, hI, rfl⟩ := h
  obtain ⟨w0, hw0⟩ : ∃ w0, w0 = w.alloc (.cells #[.int .i64 id] 3) := ⟨_, rfl⟩
  have hal : Turn [] w w0 := by rw [hw0]; exact (Turn.refl [] w).alloc _
  have hbox : w0.heap[w.heap.size]? = some (.cells #[.int .i64 id] 3 (0, 0)) := by rw [hw0]; exact heap_new w _
  have hce : ∀ Z, Turn [] w0 Z → (Z.cell? ⟨b, 1, none⟩ = some (.map mref) ∧ b < Z.heap.size) ∧ (Z.cell? ⟨w.heap.size, 0, none⟩ = some (.int .i64 id) ∧ w.heap.size < Z.heap.size) ∧ (Instr.lookup 23 (.map mref) (.int .i64 id) true).run Tryd.prog Z = .ok (.tuple #[.int .i64 0, .bool false]) Z := fun Z hZ => by
    have hWZ := (hW.still hal).still hZ
    have hb := hZ.heap hbox (by simp)
    have hlk := hWZ.map.look hw
    rw [hf] at hlk
    exact ⟨⟨hWZ.cells.head.2.1, hWZ.cells.head.2.2.2⟩, ⟨by rw [cell_of hb]; rfl, lt_of_heap hb⟩, hlk⟩
  have HC := hide hce
  have HAL := hide hal
  have HW0 := hide hw0
  clear hal hbox hce hw0 hW hI
  go_enter Tryd.func7, Tryd.ntmps7
  go_wp2
  rw [show w.alloc (.cells #[.int .i64 id] 3) = w0 from HW0.out.symm]
  refine wp_region_loose (Turn []) (by kernel_rfl) (by kernel_rfl) (by kernel_rfl) (by kernel_rfl) rfl (Turn.refl _) (fun _ _ _ h k => h.same k) ?_
  apply Lo.runx 1 rfl rfl [] (by kernel_rfl) (Turn.refl _)
  apply Exists.intro; apply And.intro
  · intro u w1 hR hF
    clear hF
    refine ⟨rfl, fun a ha K hK => ?_⟩
    have e0 := ha 0
    conv at e0 => rhs; whnf
    clear ha
    go_simp
    refine hK _ ?_; rfl
  apply Lo.runx 2 rfl rfl [0] (by kernel_rfl) (Turn.refl _)
  apply Exists.intro; apply And.intro
  · intro u w1 hR hF
    obtain ⟨h0, -⟩ := hF
    refine ⟨rfl, fun a ha K hK => ?_⟩
    have e8 := (ha 8).trans h0
    clear ha h0
    obtain ⟨⟨c0, z0⟩, -, -⟩ := HC.out w1 (((Turn.refl [] _).drew).same hR)
    go_simp
    refine hK _ ?_; rfl
  apply Lo.runx 3 rfl rfl [1] (by kernel_rfl) (Turn.refl _)
  apply Exists.intro; apply And.intro
  · intro u w1 hR hF
    obtain ⟨h1, -⟩ := hF
    refine ⟨rfl, fun a ha K hK => ?_⟩
    have e9 := (ha 9).trans h1
    clear ha h1
    go_simp
    refine hK _ ?_; rfl
  refine Lo.runv 4 rfl rfl [2] (.map mref) (by kernel_rfl) (fun u w1 hR hF => ?_) (Turn.refl _) ?_
  · obtain ⟨h2, -⟩ := hF
    refine ⟨rfl, fun a ha K hK => ?_⟩
    have e10 := (ha 10).trans h2
    clear ha h2
    obtain ⟨⟨c0, z0⟩, -, -⟩ := HC.out w1 (((Turn.refl [] _).drew).same hR)
    go_simp
    refine hK _ ?_
    rfl
  refine Lo.runv 5 rfl rfl [] (.int .i64 id) (by kernel_rfl) (fun u w1 hR hF => ?_) (Turn.refl _) ?_
  · clear hF
    refine ⟨rfl, fun a ha K hK => ?_⟩
    have e3 := ha 3
    conv at e3 => rhs; whnf
    clear ha
    obtain ⟨-, ⟨c1, z1⟩, -⟩ := HC.out w1 (((Turn.refl [] _).drew).same hR)
    go_simp
    refine hK _ ?_
    rfl
  refine Lo.runv 6 rfl rfl [3, 4] (.tuple #[.int .i64 0, .bool false]) (by kernel_rfl) (fun u w1 hR hF => ?_) (Turn.refl _) ?_
  · obtain ⟨h3, h4, -⟩ := hF
    refine ⟨rfl, fun a ha K hK => ?_⟩
    have e11 := (ha 11).trans h3
    have e12 := (ha 12).trans h4
    clear ha h3 h4
    obtain ⟨-, -, hlk⟩ := HC.out w1 (((Turn.refl [] _).drew).same hR)
    go_simp
    refine hK _ ?_
    rfl
  apply Lo.runx 7 rfl rfl [5] (by kernel_rfl) (Turn.refl _)
  apply Exists.intro; apply And.intro
  · intro u w1 hR hF
    obtain ⟨h5, -⟩ := hF
    refine ⟨rfl, fun a ha K hK => ?_⟩
    have e13 := (ha 13).trans h5
    clear ha h5
    go_simp
    refine hK _ ?_; rfl
  apply Lo.runx 8 rfl rfl [6] (by kernel_rfl) (Turn.refl _)
  apply Exists.intro; apply And.intro
  · intro u w1 hR hF
    obtain ⟨h6, -⟩ := hF
    refine ⟨rfl, fun a ha K hK => ?_⟩
    have e7 := (ha 7).trans h6
    clear ha h6
    go_simp
    refine hK _ ?_; rfl
  refine Lo.runv 9 rfl rfl [6] (.bool false) (by kernel_rfl) (fun u w1 hR hF => ?_) (Turn.refl _) ?_
  · obtain ⟨h6, -⟩ := hF
    refine ⟨rfl, fun a ha K hK => ?_⟩
    have e7 := (ha 7).trans h6
    clear ha h6
    go_simp
    refine hK _ ?_
    rfl
  apply Lo.runx 10 rfl rfl [7] (by kernel_rfl) (Turn.refl _)
  apply Exists.intro; apply And.intro
  · intro u w1 hR hF
    obtain ⟨h7, -⟩ := hF
    refine ⟨rfl, fun a ha K hK => ?_⟩
    have e14 := (ha 14).trans h7
    clear ha h7
    go_simp
    refine hK _ ?_; rfl
  refine Lo.runv 11 rfl rfl [8] (.bool false) (by kernel_rfl) (fun u w1 hR hF => ?_) (Turn.refl _) ?_
  · obtain ⟨h8, -⟩ := hF
    refine ⟨rfl, fun a ha K hK => ?_⟩
    have e15 := (ha 15).trans h8
    clear ha h8
    go_simp
    refine hK _ ?_
    rfl
  refine Lo.done [9, 10] (fun u w1 hRd hSd hF => ?_)
  clear hSd
  obtain ⟨f9, f10, -⟩ := hF
  have d9 : u 9 = _ := f9
  have d10 : u 10 = _ := f10
  clear f9 f10
  simp only [putFrom, Act.put, List.setIfInBounds_toArray, List.set_cons_succ, List.set_cons_zero, Nat.zero_add, Nat.reduceAdd, d9, d10]
  have HT := hide (HAL.out.same (((Turn.refl [] w0).drew).same hRd))
  clear d9 d10 hRd
  go_wp2
  go_ret
  exact ⟨rfl, HT.out⟩
set_option maxHeartbeats 2000000 in
theorem cancel_some (w : World) (base b now : Nat) (F : List Nat) (all : List Tm) (h : WheelAt w base b F now all) (id : Int) (hw : (Lit.int .i64 id).wf = true) (x : Tm) (hf : findT all id = some x) :
    Calls Tryd.prog 7 #[.pointer (some ⟨b, 0, none⟩), .int .i64 id] w fun e w' => e = .returned (.bool true) ∧ ∃ F', WheelAt w' base b F' now (dropT all id) ∧ Turn F w w' ∧ ∀ q ∈ F', q ∈ F ∨ w.heap.size ≤ q := by
  obtain ⟨mref, sv, sl, hW, hI, rfl⟩ := h
  obtain ⟨hxa, hxid⟩ := findT_mem hf
  obtain ⟨x1, x2, x3⟩ := hI.ok x hxa
  obtain ⟨t, ht⟩ : ∃ t : Nat, t = x.1.toNat := ⟨_, rfl⟩
  have htx : x.1 = (t : Int) := by rw [ht]; omega
  have htm : t ≤ 1099511627776 := by omega
  obtain ⟨j, hj⟩ : ∃ j, j = slotJ now t := ⟨_, rfl⟩
  have hj448 : j < 448 := by rw [hj]; exact slotJ_lt hI.le htm
  obtain ⟨w0, hw0⟩ : ∃ w0, w0 = w.alloc (.cells #[.int .i64 id] 3) := ⟨_, rfl⟩
  have hal : Turn [] w w0 := by rw [hw0]; exact (Turn.refl [] w).alloc _
  have hbox : w0.heap[w.heap.size]? = some (.cells #[.int .i64 id] 3 (0, 0)) := by rw [hw0]; exact heap_new w _
  have hce : ∀ Z, Turn [] w0 Z → (Z.cell? ⟨b, 1, none⟩ = some (.map mref) ∧ b < Z.heap.size) ∧ (Z.cell? ⟨w.heap.size, 0, none⟩ = some (.int .i64 id) ∧ w.heap.size < Z.heap.size) ∧ (Instr.lookup 23 (.map mref) (.int .i64 id) true).run Tryd.prog Z = .ok (.tuple #[.int .i64 (t : Int), .bool true]) Z := fun Z hZ => by
    have hWZ := (hW.still hal).still hZ
    have hb := hZ.heap hbox (by simp)
    have hlk := hWZ.map.look hw
    rw [hf] at hlk
    simp only [Option.map_some, Option.getD_some, Option.isSome_some, htx] at hlk
    exact ⟨⟨hWZ.cells.head.2.1, hWZ.cells.head.2.2.2⟩, ⟨by rw [cell_of hb]; rfl, lt_of_heap hb⟩, hlk⟩
  have HC := hide hce
  have HAL := hide hal
  have HW0 := hide hw0
  have HW := hide hW
  have HI := hide hI
  have HB0 := hide hbox
  have HXA := hide hxa
  have HXI := hide hxid
  have HTX := hide htx
  have HJ := hide hj
  have hmf : ∀ (fn : Fn) (first cap : Array Value) (w : World), (Instr.makeFunc fn first cap).run Tryd.prog w = .ok (.func fn first cap) w := fun _ _ _ _ => rfl
  clear hal hbox hce hw0 hW hI hf hxa hxid x1 x2 x3 ht htx hj
  go_enter Tryd.func7, Tryd.ntmps7
  go_wp2
  rw [show w.alloc (.cells #[.int .i64 id] 3) = w0 from HW0.out.symm]
  refine wp_region_loose (Turn []) (by kernel_rfl) (by kernel_rfl) (by kernel_rfl) (by kernel_rfl) rfl (Turn.refl _) (fun _ _ _ h k => h.same k) ?_
  apply Lo.runx 1 rfl rfl [] (by kernel_rfl) (Turn.refl _)
  apply Exists.intro; apply And.intro
  · intro u w1 hR hF
    clear hF
    refine ⟨rfl, fun a ha K hK => ?_⟩
    have e0 := ha 0
    conv at e0 => rhs; whnf
    clear ha
    go_simp
    refine hK _ ?_; rfl
  apply Lo.runx 2 rfl rfl [0] (by kernel_rfl) (Turn.refl _)
  apply Exists.intro; apply And.intro
  · intro u w1 hR hF
    obtain ⟨h0, -⟩ := hF
    refine ⟨rfl, fun a ha K hK => ?_⟩
    have e8 := (ha 8).trans h0
    clear ha h0
    obtain ⟨⟨c0, z0⟩, -, -⟩ := HC.out w1 (((Turn.refl [] _).drew).same hR)
    go_simp
    refine hK _ ?_; rfl
  apply Lo.runx 3 rfl rfl [1] (by kernel_rfl) (Turn.refl _)
  apply Exists.intro; apply And.intro
  · intro u w1 hR hF
    obtain ⟨h1, -⟩ := hF
    refine ⟨rfl, fun a ha K hK => ?_⟩
    have e9 := (ha 9).trans h1
    clear ha h1
    go_simp
    refine hK _ ?_; rfl
  refine Lo.runv 4 rfl rfl [2] (.map mref) (by kernel_rfl) (fun u w1 hR hF => ?_) (Turn.refl _) ?_
  · obtain ⟨h2, -⟩ := hF
    refine ⟨rfl, fun a ha K hK => ?_⟩
    have e10 := (ha 10).trans h2
    clear ha h2
    obtain ⟨⟨c0, z0⟩, -, -⟩ := HC.out w1 (((Turn.refl [] _).drew).same hR)
    go_simp
    refine hK _ ?_
    rfl
  refine Lo.runv 5 rfl rfl [] (.int .i64 id) (by kernel_rfl) (fun u w1 hR hF => ?_) (Turn.refl _) ?_
  · clear hF
    refine ⟨rfl, fun a ha K hK => ?_⟩
    have e3 := ha 3
    conv at e3 => rhs; whnf
    clear ha
    obtain ⟨-, ⟨c1, z1⟩, -⟩ := HC.out w1 (((Turn.refl [] _).drew).same hR)
    go_simp
    refine hK _ ?_
    rfl
  refine Lo.runv 6 rfl rfl [3, 4] (.tuple #[.int .i64 (t : Int), .bool true]) (by kernel_rfl) (fun u w1 hR hF => ?_) (Turn.refl _) ?_
  · obtain ⟨h3, h4, -⟩ := hF
    refine ⟨rfl, fun a ha K hK => ?_⟩
    have e11 := (ha 11).trans h3
    have e12 := (ha 12).trans h4
    clear ha h3 h4
    obtain ⟨-, -, hlk⟩ := HC.out w1 (((Turn.refl [] _).drew).same hR)
    go_simp
    refine hK _ ?_
    rfl
  apply Lo.runx 7 rfl rfl [5] (by kernel_rfl) (Turn.refl _)
  apply Exists.intro; apply And.intro
  · intro u w1 hR hF
    obtain ⟨h5, -⟩ := hF
    refine ⟨rfl, fun a ha K hK => ?_⟩
    have e13 := (ha 13).trans h5
    clear ha h5
    go_simp
    refine hK _ ?_; rfl
  refine Lo.runv 8 rfl rfl [6] (.int .i64 (t : Int)) (by kernel_rfl) (fun u w1 hR hF => ?_) (Turn.refl _) ?_
  · obtain ⟨h6, -⟩ := hF
    refine ⟨rfl, fun a ha K hK => ?_⟩
    have e7 := (ha 7).trans h6
    clear ha h6
    go_simp
    refine hK _ ?_
    rfl
  refine Lo.runv 9 rfl rfl [6] (.bool true) (by kernel_rfl) (fun u w1 hR hF => ?_) (Turn.refl _) ?_
  · obtain ⟨h6, -⟩ := hF
    refine ⟨rfl, fun a ha K hK => ?_⟩
    have e7 := (ha 7).trans h6
    clear ha h6
    go_simp
    refine hK _ ?_
    rfl
  refine Lo.runv 10 rfl rfl [7] (.int .i64 (t : Int)) (by kernel_rfl) (fun u w1 hR hF => ?_) (Turn.refl _) ?_
  · obtain ⟨h7, -⟩ := hF
    refine ⟨rfl, fun a ha K hK => ?_⟩
    have e14 := (ha 14).trans h7
    clear ha h7
    go_simp
    refine hK _ ?_
    rfl
  refine Lo.runv 11 rfl rfl [8] (.bool true) (by kernel_rfl) (fun u w1 hR hF => ?_) (Turn.refl _) ?_
  · obtain ⟨h8, -⟩ := hF
    refine ⟨rfl, fun a ha K hK => ?_⟩
    have e15 := (ha 15).trans h8
    clear ha h8
    go_simp
    refine hK _ ?_
    rfl
  refine Lo.done [9, 10] (fun u w1 hRd hSd hF => ?_)
  clear hSd
  obtain ⟨f9, f10, -⟩ := hF
  have d9 : u 9 = _ := f9
  have d10 : u 10 = _ := f10
  clear f9 f10
  simp only [putFrom, Act.put, List.setIfInBounds_toArray, List.set_cons_succ, List.set_cons_zero, Nat.zero_add, Nat.reduceAdd, d9, d10]
  have hT1 : Turn [] w0 w1 := ((Turn.refl [] w0).drew).same hRd
  obtain ⟨wa, rfl⟩ : ∃ wa, wa = w1 := ⟨_, rfl⟩
  have hbx := hT1.heap HB0.out (by simp)
  have hsz : w.heap.size < w0.heap.size := lt_of_heap HB0.out
  have hsz1 := hT1.size
  obtain ⟨goes, hgoes⟩ : ∃ goes : Tm → Bool, goes = fun y => y.2 == id := ⟨_, rfl⟩
  have hWa := (HW.out.still HAL.out).still hT1
  have htake := take_any wa base b now mref all sv sl hWa HI.out.le t htm j HJ.out (by have := HI.out.slen hj448; omega) HI.out.nd
    (fun y hy => by
      have hya := (HI.out.mem hj448 hy).1
      obtain ⟨h1, h2, h3⟩ := HI.out.ok y hya
      refine ⟨?_, h3⟩
      have : y.1 = ((y.1.toNat : Nat) : Int) := by omega
      rw [this]
      exact wf_of (by omega))
    (fun hne => by
      cases hmr : mref with
      | some mb => exact ⟨mb, rfl⟩
      | none =>
        exfalso
        have hm := HW.out.map
        rw [hmr] at hm
        have : all = [] := hm
        have hxa := HXA.out
        rw [this] at hxa
        simp at hxa)
    15 (.pointer (some ⟨w.heap.size, 0, none⟩)) goes eg_can
    (fun Z hZ y hy => by
      rw [hgoes]
      refine can_any Z w.heap.size id ?_ y
      have hb := hZ.heap hbx (fun hm => by
        rcases List.mem_cons.1 hm with e | hm
        · have := HW.out.blt; omega
        · rcases List.mem_append.1 hm with hm | hm
          · have := HW.out.map.lt w.heap.size (by simpa using hm); omega
          · have h1 := (HW.out.rows j hj448).lt w.heap.size (by simpa using hm); omega)
      rw [cell_of hb]; rfl)
  have HTK := hide htake
  have c1 : wa.cell? ⟨w.heap.size, 0, none⟩ = some (.int .i64 id) := by rw [cell_of hbx]; rfl
  have z1 := lt_of_heap hbx
  have HT1 := hide hT1
  have HGO := hide hgoes
  clear htake hT1 hbx hgoes hRd d9 d10 hWa
  go_wp2_with fail
  refine HTK.out.mono ?_
  rintro e w3 ⟨ga, gc, v', rfl, hgr, hgo, hW3, ht3, hv3⟩
  have hxs : x ∈ sl j := by
    rw [(HI.out.slots j hj448).perm.mem_iff, List.mem_filter]
    refine ⟨HXA.out, ?_⟩
    have : x.1.toNat = t := by have := HTX.out; omega
    rw [this, ← HJ.out]
    simp
  have hdrop : dropAll all (goneT goes (sl j)) = dropT all id := by
    rw [dropAll_eq]
    unfold dropT
    apply List.filter_congr
    intro y hy
    rw [Bool.eq_iff_iff, List.all_eq_true]
    constructor
    · intro h1
      have := h1 x (List.mem_filter.2 ⟨hxs, by rw [HGO.out]; simp [HXI.out]⟩)
      rw [HXI.out] at this
      exact this
    · intro h1 z hz
      have hz2 := (List.mem_filter.1 hz).2
      rw [HGO.out] at hz2
      have : z.2 = id := by simpa using hz2
      rw [this]
      exact h1
  rw [hdrop] at hW3
  have hI3 := can_inv HI.out HXA.out (j := j) (by rw [show x.1.toNat = t by have := HTX.out; omega]; exact HJ.out)
  rw [HXI.out, ← HGO.out] at hI3
  have HW3 := hide hW3
  have HI3 := hide hI3
  have HT3 := hide ht3
  have HV3 := hide hv3
  clear hgr hgo hW3 ht3 hv3 hxs hdrop hI3 c1 z1 HTK
  go_wp2
  go_ret
  refine ⟨rfl, _, ⟨mref, _, _, HW3.out, HI3.out, rfl⟩, ?_, fun q hq => ?_⟩
  · refine ((HAL.out.same HT1.out).mono (by simp)).trans HT3.out (fun q hq => .inl ?_)
    rcases List.mem_cons.1 hq with rfl | hq
    · exact mem_wfoot.2 (.inl rfl)
    · rcases List.mem_append.1 hq with hq | hq
      · exact mem_wfoot.2 (.inr (.inl (by simpa using hq)))
      · exact mem_wfoot.2 (.inr (.inr ⟨j, hj448, by simpa using hq⟩))
  · rcases mem_wfoot.1 hq with rfl | hq | ⟨i, hi, hq⟩
    · exact .inl (mem_wfoot.2 (.inl rfl))
    · exact .inl (mem_wfoot.2 (.inr (.inl hq)))
    · by_cases e : i = j
      · subst e
        rw [setF_same] at hq
        exact .inl (mem_wfoot.2 (.inr (.inr ⟨i, hi, HV3.out q hq⟩)))
      · rw [setF_other _ _ e] at hq
        exact .inl (mem_wfoot.2 (.inr (.inr ⟨i, hi, hq⟩)))
end Go.Proofs.YtcficgpknokpbaaDoor.Wh
