/- The wheel in memory: slot, put. -/
import Derived.Test.YtcficgpknokpbaaDoorWhb
namespace Go.Proofs.YtcficgpknokpbaaDoor.Wh
open Go.RowKit Go.Maps
set_option maxRecDepth 100000
set_option linter.unusedSimpArgs false
set_option linter.unusedVariables false
attribute [local go_sem] Oper.semAt_some

/-- The wheel's block. -/
structure WCells (w : World) (b : Nat) (now : Nat) (mref : Option Nat) (sv : Nat → Value) : Prop where
  cur : ∃ cur : Array Value, w.heap[b]? = some (.cells cur 28 (0, 0)) ∧ cur.size = 450 ∧ cur[0]? = some (.int .i64 now) ∧ cur[1]? = some (.map mref) ∧ ∀ j, j < 448 → cur[2 + j]? = some (sv j)
/-- A wheel in memory: its time, its map, each slot's slice and what lies there. -/
structure WAt (w : World) (base b : Nat) (now : Nat) (mref : Option Nat) (all : List Tm) (sv : Nat → Value) (sl : Nat → List Tm) : Prop where
  cells : WCells w b now mref sv
  lo : base ≤ b
  map : TMap w mref all
  mlo : ∀ k ∈ mref, base ≤ k
  rows : ∀ j, j < 448 → TR w base (sv j) (sl j)
  apart : ∀ i j, i < 448 → j < 448 → i ≠ j → ∀ k ∈ (sv i).ownBlock, k ∉ (sv j).ownBlock
def rowsF (sv : Nat → Value) : List Nat := (List.range 448).flatMap (fun j => (sv j).ownBlock.toList)
/-- All its blocks. -/
def wfoot (b : Nat) (mref : Option Nat) (sv : Nat → Value) : List Nat := b :: (mref.toList ++ rowsF sv)
theorem mem_rowsF {sv : Nat → Value} {k : Nat} : k ∈ rowsF sv ↔ ∃ j, j < 448 ∧ k ∈ (sv j).ownBlock := by
  unfold rowsF
  simp [List.mem_flatMap]
theorem mem_wfoot {b : Nat} {mref : Option Nat} {sv : Nat → Value} {k : Nat} : k ∈ wfoot b mref sv ↔ k = b ∨ k ∈ mref ∨ ∃ j, j < 448 ∧ k ∈ (sv j).ownBlock := by
  unfold wfoot
  rw [List.mem_cons, List.mem_append, mem_rowsF]
  simp
section
variable {w w' : World} {base b now : Nat} {mref : Option Nat} {all : List Tm} {sv : Nat → Value} {sl : Nat → List Tm}
theorem WCells.kept {S : List Nat} (h : WCells w b now mref sv) (ht : Turn S w w') (hn : b ∉ S) : WCells w' b now mref sv := by
  obtain ⟨cur, h1, r⟩ := h.cur
  exact ⟨cur, ht.heap h1 hn, r⟩
theorem WAt.kept {S : List Nat} (h : WAt w base b now mref all sv sl) (ht : Turn S w w') (hn : ∀ k ∈ wfoot b mref sv, k ∉ S) : WAt w' base b now mref all sv sl :=
  ⟨h.cells.kept ht (hn b (mem_wfoot.2 (.inl rfl))), h.lo, h.map.kept ht (fun k hk => hn k (mem_wfoot.2 (.inr (.inl hk)))), h.mlo, fun j hj => (h.rows j hj).kept ht (fun k hk => hn k (mem_wfoot.2 (.inr (.inr ⟨j, hj, hk⟩)))), h.apart⟩
theorem WAt.still (h : WAt w base b now mref all sv sl) (ht : Turn [] w w') : WAt w' base b now mref all sv sl := h.kept ht (by simp)
theorem WAt.blt (h : WAt w base b now mref all sv sl) : b < w.heap.size := by
  obtain ⟨cur, h1, -⟩ := h.cells.cur
  exact lt_of_heap h1
theorem WAt.foot_lt (h : WAt w base b now mref all sv sl) : ∀ k ∈ wfoot b mref sv, base ≤ k ∧ k < w.heap.size := by
  intro k hk
  rcases mem_wfoot.1 hk with rfl | hk | ⟨j, hj, hk⟩
  · exact ⟨h.lo, h.blt⟩
  · exact ⟨h.mlo k hk, h.map.lt k hk⟩
  · exact (h.rows j hj).lt k hk
theorem WAt.row_b (h : WAt w base b now mref all sv sl) {j : Nat} (hj : j < 448) : b ∉ (sv j).ownBlock := by
  intro hk
  obtain ⟨cur, h1, -⟩ := h.cells.cur
  rcases h.rows j hj with ⟨e, -⟩ | ⟨g, cap, c2, e, -, hg, -⟩
  · rw [e] at hk; simp [Value.ownBlock] at hk
  · rw [e] at hk
    simp [Value.ownBlock] at hk
    subst hk
    rw [h1] at hg
    simp at hg
theorem WAt.row_m (h : WAt w base b now mref all sv sl) {j : Nat} (hj : j < 448) : ∀ k ∈ (sv j).ownBlock, k ∉ mref := by
  intro k hk
  rcases h.rows j hj with ⟨e, -⟩ | ⟨g, cap, c2, e, -, hg, -⟩
  · rw [e] at hk; simp [Value.ownBlock] at hk
  · rw [e] at hk
    simp [Value.ownBlock] at hk
    subst hk
    exact h.map.ne hg
theorem WAt.map_b (h : WAt w base b now mref all sv sl) : b ∉ mref := by
  obtain ⟨cur, h1, -⟩ := h.cells.cur
  exact h.map.ne h1
theorem WCells.head (h : WCells w b now mref sv) : w.cell? ⟨b, 0, none⟩ = some (.int .i64 now) ∧ w.cell? ⟨b, 1, none⟩ = some (.map mref) ∧ (∀ i, w.frozen? ⟨b, i, none⟩ = false) ∧ b < w.heap.size := by
  obtain ⟨cur, h1, h2, h3, h4, h5⟩ := h.cur
  exact ⟨by rw [cell_of h1, h3], by rw [cell_of h1, h4], fun i => frozen_of h1 i, lt_of_heap h1⟩
theorem WCells.slot (h : WCells w b now mref sv) {j : Nat} (hj : j < 448) : w.cell? ⟨b, 2 + j, none⟩ = some (sv j) := by
  obtain ⟨cur, h1, h2, h3, h4, h5⟩ := h.cur
  rw [cell_of h1, h5 j hj]
def setF {α : Type} (sv : Nat → α) (j : Nat) (v : α) : Nat → α := fun i => if i = j then v else sv i
theorem setF_same {α : Type} (sv : Nat → α) (j : Nat) (v : α) : setF sv j v j = v := by simp [setF]
theorem setF_other {α : Type} (sv : Nat → α) {j i : Nat} (v : α) (h : i ≠ j) : setF sv j v i = sv i := by simp [setF, h]
theorem WCells.setSlot (h : WCells w b now mref sv) {j : Nat} (hj : j < 448) (v : Value) : WCells (w.setCell ⟨b, 2 + j, none⟩ v) b now mref (setF sv j v) := by
  obtain ⟨cur, h1, h2, h3, h4, h5⟩ := h.cur
  refine ⟨_, heap_set h1 (2 + j) v, by rw [Array.size_setIfInBounds]; exact h2, ?_, ?_, fun i hi => ?_⟩
  · rw [Array.getElem?_setIfInBounds_ne (by omega)]; exact h3
  · rw [Array.getElem?_setIfInBounds_ne (by omega)]; exact h4
  · by_cases e : i = j
    · subst e
      rw [setF_same, Array.getElem?_setIfInBounds_self_of_lt (by omega)]
    · rw [setF_other _ _ e, Array.getElem?_setIfInBounds_ne (by omega)]
      exact h5 i hi
theorem WCells.setNow (h : WCells w b now mref sv) (to : Nat) : WCells (w.setCell ⟨b, 0, none⟩ (.int .i64 to)) b to mref sv := by
  obtain ⟨cur, h1, h2, h3, h4, h5⟩ := h.cur
  refine ⟨_, heap_set h1 0 _, by rw [Array.size_setIfInBounds]; exact h2, ?_, ?_, fun i hi => ?_⟩
  · rw [Array.getElem?_setIfInBounds_self_of_lt (by omega)]
  · rw [Array.getElem?_setIfInBounds_ne (by omega)]; exact h4
  · rw [Array.getElem?_setIfInBounds_ne (by omega)]; exact h5 i hi
theorem WCells.setMap (h : WCells w b now mref sv) (m : Option Nat) : WCells (w.setCell ⟨b, 1, none⟩ (.map m)) b now m sv := by
  obtain ⟨cur, h1, h2, h3, h4, h5⟩ := h.cur
  refine ⟨_, heap_set h1 1 _, by rw [Array.size_setIfInBounds]; exact h2, ?_, ?_, fun i hi => ?_⟩
  · rw [Array.getElem?_setIfInBounds_ne (by omega)]; exact h3
  · rw [Array.getElem?_setIfInBounds_self_of_lt (by omega)]
  · rw [Array.getElem?_setIfInBounds_ne (by omega)]; exact h5 i hi
end

set_option maxHeartbeats 1000000 in
theorem slot_any (w : World) (b now : Nat) (mref : Option Nat) (sv : Nat → Value) (h : WCells w b now mref sv) (hn : now ≤ 1099511627776) (t : Nat) (ht : t ≤ 1099511627776) :
    Calls Tryd.prog 22 #[.pointer (some ⟨b, 0, none⟩), .int .i64 t] w fun e w' => e = .returned (.pointer (some ⟨b, 2 + slotJ now t, none⟩)) ∧ Turn [] w w' := by
  have H := hide h
  obtain ⟨t', ht'⟩ : ∃ t', t' = max t now := ⟨_, rfl⟩
  have hmx : max (t : Int) (now : Int) = (t' : Int) := by omega
  have htl : t' ≤ 1099511627776 := by omega
  have HJ : Hid (slotJ now t = 64 * kOf now t' + placeN (kOf now t') t') := by show _ = _; unfold slotJ; rw [ht']
  have hce : ∀ Z, Turn [] w Z → Z.cell? ⟨b, 0, none⟩ = some (.int .i64 now) ∧ b < Z.heap.size := fun Z hZ => ⟨((H.out.kept hZ (by simp)).head).1, ((H.out.kept hZ (by simp)).head).2.2.2⟩
  have HC := hide hce
  obtain ⟨c0, z0⟩ := hce w (Turn.refl _ _)
  clear h hce ht'
  have hmaxr : ∀ ts ty w, (Builtin.max_ ts ty #[.int .i64 (t : Int), .int .i64 (now : Int)]).run Tryd.prog w = .ok (.int .i64 (t' : Int)) w := by
    intro ts ty w
    rw [← hmx]
    simp [Builtin.max_, Builtin.max2]
    split <;> congr 1 <;> congr 1 <;> omega
  clear hmx
  go_enter Tryd.func22, Tryd.ntmps22
  go_wp2
  go_loopw [5] (fun kv wr => ∃ k : Nat, kv = .int .i64 (k : Int) ∧ k ≤ 6 ∧ (∀ j, j < k → turnN j t' ≠ turnN j now) ∧ Turn [] w wr) (fun kv _ => 7 - (intOf kv).toNat)
  case atStart => exact ⟨0, rfl, by omega, fun j hj => absurd hj (by omega), Turn.refl _ _⟩
  case round =>
    obtain ⟨k, rfl, hk6, hne, htw⟩ := hrel
    have HTW := hide htw
    have HNE := hide hne
    clear htw hne
    obtain ⟨X, hX⟩ : ∃ X, X = turnN k t' := ⟨_, rfl⟩
    obtain ⟨Y, hY⟩ : ∃ Y, Y = turnN k now := ⟨_, rfl⟩
    have HX := hide hX
    have HY := hide hY
    clear hX hY
    go_wp2
    refine wp_region_loose (Turn []) (by kernel_rfl) (by kernel_rfl) (by kernel_rfl) (by kernel_rfl) rfl (Turn.refl _) (fun _ _ _ h k => h.same k) ?_
    apply Lo.runx 1 rfl rfl [] (by kernel_rfl) (Turn.refl _)
    apply Exists.intro; apply And.intro
    · intro u w1 hR hF
      clear hF
      refine ⟨rfl, fun a ha K hK => ?_⟩
      have e5 := ha 5
      conv at e5 => rhs; whnf
      clear ha
      go_simp
      refine hK _ ?_; rfl
    apply Lo.runx 2 rfl rfl [] (by kernel_rfl) (Turn.refl _)
    apply Exists.intro; apply And.intro
    · intro u w1 hR hF
      clear hF
      refine ⟨rfl, fun a ha K hK => ?_⟩
      have e1 := ha 1
      conv at e1 => rhs; whnf
      clear ha
      go_simp
      refine hK _ ?_; rfl
    refine Lo.run 3 rfl rfl [0, 1] (fun v w' => v = .int .i64 (X : Int)) (by kernel_rfl) (fun x w w' h hR => ?_) (fun _ _ h => h) (fun u w1 hR hF => ?_) ?_
    · exact h
    · obtain ⟨h0, h1, -⟩ := hF
      refine ⟨rfl, fun a ha K hK => ?_⟩
      have e12 := (ha 12).trans h0
      have e13 := (ha 13).trans h1
      clear ha h0 h1
      go_simp
      refine (turn_any k t' hk6 htl w1).mono ?_
      rintro e w5 ⟨rfl, rfl⟩
      rw [← HX.out]
      exact hK _ _ rfl (Turn.refl _ _)
    apply Lo.runx 4 rfl rfl [] (by kernel_rfl) (Turn.refl _)
    apply Exists.intro; apply And.intro
    · intro u w1 hR hF
      clear hF
      refine ⟨rfl, fun a ha K hK => ?_⟩
      have e5 := ha 5
      conv at e5 => rhs; whnf
      clear ha
      go_simp
      refine hK _ ?_; rfl
    apply Lo.runx 5 rfl rfl [] (by kernel_rfl) (Turn.refl _)
    apply Exists.intro; apply And.intro
    · intro u w1 hR hF
      clear hF
      refine ⟨rfl, fun a ha K hK => ?_⟩
      have e0 := ha 0
      conv at e0 => rhs; whnf
      clear ha
      go_simp
      refine hK _ ?_; rfl
    apply Lo.runx 6 rfl rfl [4] (by kernel_rfl) (Turn.refl _)
    apply Exists.intro; apply And.intro
    · intro u w1 hR hF
      obtain ⟨h4, -⟩ := hF
      refine ⟨rfl, fun a ha K hK => ?_⟩
      have e16 := (ha 16).trans h4
      clear ha h4
      obtain ⟨c0, z0⟩ := HC.out w1 (HTW.out.same (((Turn.refl [] _).drew).same hR))
      go_simp
      refine hK _ ?_; rfl
    apply Lo.runx 7 rfl rfl [5] (by kernel_rfl) (Turn.refl _)
    apply Exists.intro; apply And.intro
    · intro u w1 hR hF
      obtain ⟨h5, -⟩ := hF
      refine ⟨rfl, fun a ha K hK => ?_⟩
      have e17 := (ha 17).trans h5
      clear ha h5
      go_simp
      refine hK _ ?_; rfl
    refine Lo.runv 8 rfl rfl [6] (.int .i64 (now : Int)) (by kernel_rfl) (fun u w1 hR hF => ?_) (Turn.refl _) ?_
    · obtain ⟨h6, -⟩ := hF
      refine ⟨rfl, fun a ha K hK => ?_⟩
      have e18 := (ha 18).trans h6
      clear ha h6
      obtain ⟨c0, z0⟩ := HC.out w1 (HTW.out.same (((Turn.refl [] _).drew).same hR))
      go_simp
      refine hK _ ?_
      rfl
    refine Lo.run 9 rfl rfl [3, 7] (fun v w' => v = .int .i64 (Y : Int)) (by kernel_rfl) (fun x w w' h hR => ?_) (fun _ _ h => h) (fun u w1 hR hF => ?_) ?_
    · exact h
    · obtain ⟨h3, h7, -⟩ := hF
      refine ⟨rfl, fun a ha K hK => ?_⟩
      have e15 := (ha 15).trans h3
      have e19 := (ha 19).trans h7
      clear ha h3 h7
      go_simp
      refine (turn_any k now hk6 hn w1).mono ?_
      rintro e w5 ⟨rfl, rfl⟩
      rw [← HY.out]
      exact hK _ _ rfl (Turn.refl _ _)
    refine Lo.runv 10 rfl rfl [2, 8] (.bool (decide (X ≠ Y))) (by kernel_rfl) (fun u w1 hR hF => ?_) (Turn.refl _) ?_
    · obtain ⟨h2, h8, -⟩ := hF
      refine ⟨rfl, fun a ha K hK => ?_⟩
      have e14 : a.tmps.getD 14 undef = u 2 := ha 14
      have e20 : a.tmps.getD 20 undef = u 8 := ha 20
      have h2 := (show (fun v w' => v = .int .i64 (X : Int)) (u 2) w1 from h2)
      dsimp only at h2
      have h8 := (show (fun v w' => v = .int .i64 (Y : Int)) (u 8) w1 from h8)
      dsimp only at h8
      clear ha
      go_simp
      refine hK _ ?_
      by_cases e : X = Y
      · simp [e]
      · have : ¬ (X : Int) = Y := by omega
        simp [e, this]
    refine Lo.done [9] (fun u w1 hRd hSd hF => ?_)
    clear hSd
    obtain ⟨f9, -⟩ := hF
    have d9 : u 9 = _ := f9
    clear f9
    simp only [putFrom, Act.put, List.setIfInBounds_toArray, List.set_cons_succ, List.set_cons_zero, Nat.zero_add, Nat.reduceAdd, d9]
    have HT1 := hide (HTW.out.same (((Turn.refl [] wr).drew).same hRd))
    clear d9 hRd
    obtain ⟨wa, rfl⟩ : ∃ wa, wa = w1 := ⟨_, rfl⟩
    by_cases hXY : X = Y
    · have hd : decide (X ≠ Y) = false := by simp [hXY]
      rw [hd]
      clear hd
      have hkk : kOf now t' = k := kOf_eq HNE.out (by rw [← HX.out, ← HY.out]; exact hXY) hk6
      have HKK := hide hkk
      clear hkk
      obtain ⟨p, hp⟩ : ∃ p, p = placeN k t' := ⟨_, rfl⟩
      have hp64 := placeN_lt k t'
      rw [← hp] at hp64
      have HP := hide hp
      clear hp
      have hk7 : (k : Int) < 7 := by omega
      have hp7 : (p : Int) < 64 := by omega
      go_wp2
      refine wp_region_tail 9 (Turn []) (by kernel_rfl) (by kernel_rfl) (by kernel_rfl) (by kernel_rfl) (by kernel_rfl) (Nat.le_of_ble_eq_true rfl) rfl (Turn.refl _) (fun _ _ _ h k => h.same k) ?_
      apply Lo.runx 1 rfl rfl [] (by kernel_rfl) (Turn.refl _)
      apply Exists.intro; apply And.intro
      · intro u w1 hR hF
        clear hF
        refine ⟨rfl, fun a ha K hK => ?_⟩
        have e0 := ha 0
        conv at e0 => rhs; whnf
        clear ha
        go_simp
        refine hK _ ?_; rfl
      apply Lo.runx 2 rfl rfl [] (by kernel_rfl) (Turn.refl _)
      apply Exists.intro; apply And.intro
      · intro u w1 hR hF
        clear hF
        refine ⟨rfl, fun a ha K hK => ?_⟩
        have e5 := ha 5
        conv at e5 => rhs; whnf
        clear ha
        go_simp
        refine hK _ ?_; rfl
      apply Lo.runx 3 rfl rfl [] (by kernel_rfl) (Turn.refl _)
      apply Exists.intro; apply And.intro
      · intro u w1 hR hF
        clear hF
        refine ⟨rfl, fun a ha K hK => ?_⟩
        have e5 := ha 5
        conv at e5 => rhs; whnf
        clear ha
        go_simp
        refine hK _ ?_; rfl
      apply Lo.runx 4 rfl rfl [] (by kernel_rfl) (Turn.refl _)
      apply Exists.intro; apply And.intro
      · intro u w1 hR hF
        clear hF
        refine ⟨rfl, fun a ha K hK => ?_⟩
        have e1 := ha 1
        conv at e1 => rhs; whnf
        clear ha
        go_simp
        refine hK _ ?_; rfl
      refine Lo.run 5 rfl rfl [2, 3] (fun v w' => v = .int .i64 (p : Int)) (by kernel_rfl) (fun x w w' h hR => ?_) (fun _ _ h => h) (fun u w1 hR hF => ?_) ?_
      · exact h
      · obtain ⟨h2, h3, -⟩ := hF
        refine ⟨rfl, fun a ha K hK => ?_⟩
        have e26 := (ha 26).trans h2
        have e27 := (ha 27).trans h3
        clear ha h2 h3
        go_simp
        refine (place_any k t' hk6 htl w1).mono ?_
        rintro e w5 ⟨rfl, rfl⟩
        rw [← HP.out]
        exact hK _ _ rfl (Turn.refl _ _)
      apply Lo.runx 6 rfl rfl [0] (by kernel_rfl) (Turn.refl _)
      apply Exists.intro; apply And.intro
      · intro u w1 hR hF
        obtain ⟨h0, -⟩ := hF
        refine ⟨rfl, fun a ha K hK => ?_⟩
        have e24 := (ha 24).trans h0
        clear ha h0
        obtain ⟨c0, z0⟩ := HC.out w1 (HT1.out.same (((Turn.refl [] _).drew).same hR))
        go_simp
        refine hK _ ?_; rfl
      apply Lo.runx 7 rfl rfl [5] (by kernel_rfl) (Turn.refl _)
      apply Exists.intro; apply And.intro
      · intro u w1 hR hF
        obtain ⟨h5, -⟩ := hF
        refine ⟨rfl, fun a ha K hK => ?_⟩
        have e29 := (ha 29).trans h5
        clear ha h5
        go_simp
        refine hK _ ?_; rfl
      apply Lo.runx 8 rfl rfl [6, 1] (by kernel_rfl) (Turn.refl _)
      apply Exists.intro; apply And.intro
      · intro u w1 hR hF
        obtain ⟨h6, h1, -⟩ := hF
        refine ⟨rfl, fun a ha K hK => ?_⟩
        have e30 := (ha 30).trans h6
        have e25 := (ha 25).trans h1
        clear ha h6 h1
        go_simp
        refine hK _ ?_; rfl
      apply Lo.runx 9 rfl rfl [7, 4] (by kernel_rfl) (Turn.refl _)
      apply Exists.intro; apply And.intro
      · intro u w1 hR hF
        obtain ⟨h7, h4, -⟩ := hF
        refine ⟨rfl, fun a ha K hK => ?_⟩
        have e31 := (ha 31).trans h7
        have e28 : a.tmps.getD 28 undef = u 4 := ha 28
        have h4 := (show (fun v w' => v = .int .i64 (p : Int)) (u 4) w1 from h4)
        dsimp only at h4
        clear ha h7
        go_simp
        refine hK _ ?_; rfl
      refine Lo.done [8] (fun u w1 hRd hSd hF => ?_)
      clear hSd
      obtain ⟨f8, -⟩ := hF
      have d8 : u 8 = _ := f8
      clear f8
      simp only [List.take_succ_cons, List.take_zero, List.drop_succ_cons, List.drop_zero, putFrom, Act.put, List.setIfInBounds_toArray, List.set_cons_succ, List.set_cons_zero, Nat.zero_add, Nat.reduceAdd, d8]
      have HT2 := hide (HT1.out.same (((Turn.refl [] wa).drew).same hRd))
      clear d8 hRd
      have he : 2 + k * 64 + p = 2 + slotJ now t := by rw [HJ.out, HKK.out, ← HP.out]; omega
      rw [he]
      go_wp2
      go_ret
      exact ⟨rfl, HT2.out⟩
    · have hd : decide (X ≠ Y) = true := by simp [hXY]
      rw [hd]
      clear hd
      have hk5 : k + 1 ≤ 6 := by
        have : k ≠ 6 := by
          intro e
          subst e
          apply hXY
          rw [HX.out, HY.out, turn6 htl, turn6 hn]
        omega
      go_wp2
      refine ⟨⟨k + 1, by go_num, hk5, fun j hj => ?_, HT1.out⟩, by simp only [intOf]; omega⟩
      by_cases e : j = k
      · subst e
        rw [← HX.out, ← HY.out]
        exact hXY
      · exact HNE.out j (by omega)
end Go.Proofs.YtcficgpknokpbaaDoor.Wh
