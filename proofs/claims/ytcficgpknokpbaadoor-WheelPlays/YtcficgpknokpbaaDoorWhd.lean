/- The wheel: put. -/
import Derived.Test.YtcficgpknokpbaaDoorWhc
namespace Go.Proofs.YtcficgpknokpbaaDoor.Wh
open Go.RowKit Go.Maps
set_option maxRecDepth 100000
set_option linter.unusedSimpArgs false
set_option linter.unusedVariables false
attribute [local go_sem] Oper.semAt_some

theorem infoTm : (Tryd.prog.info? 52).map (fun i => (i.zero.map (fun z => z.cells.size), i.size, i.bytes)) = some (some 2, 2, 16) := by kernel_rfl
theorem infoTm_parts : ∃ i z, Tryd.prog.info? 52 = some i ∧ i.zero = some z ∧ z.cells.size = 2 ∧ i.size = 2 ∧ i.bytes ≤ 1000 := by
  have h := infoTm
  cases hi : Tryd.prog.info? 52 with
  | none => rw [hi] at h; cases h
  | some i =>
    rw [hi] at h
    simp only [Option.map_some, Option.some.injEq, Prod.mk.injEq, Option.map_eq_some_iff] at h
    obtain ⟨⟨z, hz, hz2⟩, h2, h3⟩ := h
    exact ⟨i, z, rfl, hz, hz2, h2, by omega⟩
theorem tmC_one : ∀ x, ∀ u ∈ tmC x, u.oneCell' = true := by
  intro x u hu
  simp [tmC] at hu
  rcases hu with rfl | rfl <;> rfl
theorem app_tm (w : World) (base : Nat) (v : Value) (xs : List Tm) (x : Tm) (k : Nat) (hrow : TR w base v xs) (hk : w.heap[k]? = some (.cells (tmC x).toArray 52 (0, 0))) (hlen : xs.length ≤ 1000000) (hbase : base ≤ w.heap.size) :
    ∃ v' w', (Builtin.append_ #[24, 24] 24 #[v, .slice (some ⟨k, 0, none⟩) 1 1]).run Tryd.prog w = .ok v' w' ∧ TR w' base v' (xs ++ [x]) ∧ Turn v.ownBlock.toList w w' ∧ (∀ j ∈ v'.ownBlock, j ∈ v.ownBlock ∨ w.heap.size ≤ j) := by
  obtain ⟨i, z, hi, hz, hzs, hs, hb⟩ := infoTm_parts
  exact run_append_g (P := Tryd.prog) 24 24 Tryd.underlying24 i z hi hz hzs hs hb tmC_len tmC_one w base v xs x k hrow hk hlen hbase
theorem oper_appT {P : Program} {o : Oper} {a : Act} {K : Act → World → Prop} {Q : Exit → Act → World → Prop} {w w' : World} {s x : Operand} {t tx : TypeId} {v xv v' : Value}
    (ho : o.op = .call { callee := .builtin .append, args := #[s, x], argTypes := #[t, tx] }) (hs : a.eval s = v) (hx : a.eval x = xv)
    (hr : (Builtin.append_ #[t, tx] o.type #[v, xv]).run P w = .ok v' w') (h : K (a.put o.dst v') w') : o.wp P a w K Q := by
  unfold Oper.wp execOp
  simp only [ho, resolve, invoke, builtin, Sem.run_bind, Sem.run_pure, Result.andThen_ok, List.map_toArray, List.map_cons, List.map_nil, hs, hx, hr]
  exact h
section
variable {w w' : World} {base b now : Nat} {mref : Option Nat} {all : List Tm} {sv : Nat → Value} {sl : Nat → List Tm}
/-- One slot told anew. -/
theorem WAt.setRow (h : WAt w base b now mref all sv sl) {j : Nat} (hj : j < 448) {v' : Value} {l' : List Tm} (ht : Turn (b :: (sv j).ownBlock.toList) w w') (hc : WCells w' b now mref (setF sv j v')) (hr : TR w' base v' l') (hv : ∀ k ∈ v'.ownBlock, k ∈ (sv j).ownBlock ∨ w.heap.size ≤ k) :
    WAt w' base b now mref all (setF sv j v') (setF sl j l') := by
  have hother : ∀ i, i < 448 → i ≠ j → ∀ k ∈ (sv i).ownBlock, k ∉ b :: (sv j).ownBlock.toList := fun i hi hij k hk hm => by
    rcases List.mem_cons.1 hm with rfl | hm
    · exact h.row_b hi hk
    · exact h.apart i j hi hj hij k hk (by simpa using hm)
  refine ⟨hc, h.lo, h.map.kept ht (fun k hk hm => ?_), h.mlo, fun i hi => ?_, fun i q hi hq hiq k hk hm => ?_⟩
  · rcases List.mem_cons.1 hm with rfl | hm
    · exact h.map_b hk
    · exact h.row_m hj k (by simpa using hm) hk
  · by_cases e : i = j
    · subst e
      rw [setF_same, setF_same]
      exact hr
    · rw [setF_other _ _ e, setF_other _ _ e]
      exact (h.rows i hi).kept ht (hother i hi e)
  · by_cases e1 : i = j
    · subst e1
      rw [setF_same] at hk
      rw [setF_other _ _ (fun e => hiq e.symm)] at hm
      rcases hv k hk with h1 | h1
      · exact h.apart i q hi hq hiq k h1 hm
      · have := ((h.rows q hq).lt k hm).2
        omega
    · rw [setF_other _ _ e1] at hk
      by_cases e2 : q = j
      · subst e2
        rw [setF_same] at hm
        rcases hv k hm with h1 | h1
        · exact h.apart i q hi hq hiq k hk h1
        · have := ((h.rows i hi).lt k hk).2
          omega
      · rw [setF_other _ _ e2] at hm
        exact h.apart i q hi hq hiq k hk hm
end
set_option maxHeartbeats 1000000 in
theorem put_any (w : World) (base b now : Nat) (mref : Option Nat) (all : List Tm) (sv : Nat → Value) (sl : Nat → List Tm) (h : WAt w base b now mref all sv sl) (hn : now ≤ 1099511627776) (t : Nat) (ht : t ≤ 1099511627776) (id : Int) (j : Nat) (hj : j = slotJ now t) (hl : (sl j).length ≤ 1000000) :
    Calls Tryd.prog 13 #[.pointer (some ⟨b, 0, none⟩), tmV ((t : Int), id)] w fun e w' => e = .returned (.tuple #[]) ∧ ∃ v', WAt w' base b now mref all (setF sv j v') (setF sl j (sl j ++ [((t : Int), id)])) ∧ Turn (b :: (sv j).ownBlock.toList) w w' ∧ ∀ k ∈ v'.ownBlock, k ∈ (sv j).ownBlock ∨ w.heap.size ≤ k := by
  have hj448 : j < 448 := by rw [hj]; exact slotJ_lt hn ht
  have H := hide h
  have HJ := hide hj
  obtain ⟨ga, gc, hsv, hlc, hcm⟩ := (h.rows j hj448).form
  have hbase : base ≤ w.heap.size := by have := h.lo; have := h.blt; omega
  obtain ⟨x, hx⟩ : ∃ x : Tm, x = ((t : Int), id) := ⟨_, rfl⟩
  have hce : ∀ Z, Turn (sv j).ownBlock.toList w Z → Z.cell? ⟨b, 2 + j, none⟩ = some (.slice ga (sl j).length gc) ∧ b < Z.heap.size ∧ Z.frozen? ⟨b, 2 + j, none⟩ = false := fun Z hZ => by
    have hk := h.cells.kept hZ (fun hm => h.row_b hj448 (by simpa using hm))
    exact ⟨by rw [hk.slot hj448, hsv], hk.head.2.2.2, hk.head.2.2.1 _⟩
  have HCE := hide hce
  have hrow : TR w base (.slice ga (sl j).length gc) (sl j) := by rw [← hsv]; exact h.rows j hj448
  have HROW := hide hrow
  have HSV := hide hsv
  have HLE := hide hl
  have HB := hide hbase
  have hslot := slot_any (w.alloc (.cells #[.int .i64 t, .int .i64 id] 52)) b now mref sv (h.cells.kept ((Turn.refl [] w).alloc _) (by simp)) hn t ht
  rw [← hj] at hslot
  have HSL := hide hslot
  clear h hj hsv hlc hcm hce hrow hl hbase hslot
  unfold tmV
  go_enter Tryd.func13, Tryd.ntmps13
  go_wp2_with fail
  refine HSL.out.mono ?_
  rintro e w2 ⟨rfl, ht2⟩
  have hT2 : Turn [] w w2 := ((Turn.refl [] w).alloc _).same ht2
  have hbox : w2.heap[w.heap.size]? = some (.cells #[.int .i64 t, .int .i64 id] 52 (0, 0)) := ht2.heap (heap_new w _) (by simp)
  have HT2 := hide hT2
  have HBX := hide hbox
  have hown : ∀ k ∈ (Value.slice ga (sl j).length gc).ownBlock.toList, k < w.heap.size := fun k hk => (HROW.out.lt k (by simpa using hk)).2
  have HOWN := hide hown
  clear ht2 hT2 hbox hown
  obtain ⟨S, hS⟩ : ∃ S, S = (Value.slice ga (sl j).length gc).ownBlock.toList := ⟨_, rfl⟩
  have HS := hide hS
  clear hS
  go_wp2
  refine wp_region_loud 8 (Turn S) (Turn []) (fun k w => match k with | 0 => (fun w => TR w base (.slice ga (sl j).length gc) (sl j)) w | _ => (fun w => Turn S w2 w) w) [6] (by kernel_rfl) (by kernel_rfl) (by kernel_rfl) (by kernel_rfl) (by kernel_rfl) (by kernel_rfl) (Nat.le_of_ble_eq_true rfl) (by decide) rfl (Turn.refl _) (fun _ _ _ h k => h.same k) (fun _ _ h => h.mono (by simp)) ?_ ?_ ?_
  · intro k a b hk hR
    match k, hk with
    | 0, hk =>
      have hk := (show (fun w => TR w base (.slice ga (sl j).length gc) (sl j)) a from hk)
      dsimp only at hk
      show (fun w => TR w base (.slice ga (sl j).length gc) (sl j)) b
      dsimp only
      first | exact hk.still hR | exact hk.same (hR.mono (by simp))
    | _ + 1, hk =>
      have hk := (show (fun w => Turn S w2 w) a from hk)
      dsimp only at hk
      show (fun w => Turn S w2 w) b
      dsimp only
      first | exact hk.still hR | exact hk.same (hR.mono (by simp))
  · show (fun w => TR w base (.slice ga (sl j).length gc) (sl j)) _
    dsimp only
    exact (HROW.out.still HT2.out).still ((Turn.refl [] _).drew)
  apply Lo.runx 1 rfl rfl [] (by kernel_rfl) (Turn.refl _)
  apply Exists.intro; apply And.intro
  · intro u w1 hR hF
    clear hF
    refine ⟨rfl, fun a ha K hK => ?_⟩
    have e4 := ha 4
    conv at e4 => rhs; whnf
    clear ha
    go_simp
    refine hK _ ?_; rfl
  apply Lo.runx 2 rfl rfl [] (by kernel_rfl) (Turn.refl _)
  apply Exists.intro; apply And.intro
  · intro u w1 hR hF
    clear hF
    refine ⟨rfl, fun a ha K hK => ?_⟩
    have e4 := ha 4
    conv at e4 => rhs; whnf
    clear ha
    go_simp
    refine hK _ ?_; rfl
  apply Lo.runx 3 rfl rfl [1] (by kernel_rfl) (Turn.refl _)
  apply Exists.intro; apply And.intro
  · intro u w1 hR hF
    obtain ⟨h1, -⟩ := hF
    refine ⟨rfl, fun a ha K hK => ?_⟩
    have e10 := (ha 10).trans h1
    clear ha h1
    go_simp
    refine hK _ ?_; rfl
  apply Lo.runx 4 rfl rfl [2] (by kernel_rfl) (Turn.refl _)
  apply Exists.intro; apply And.intro
  · intro u w1 hR hF
    obtain ⟨h2, -⟩ := hF
    refine ⟨rfl, fun a ha K hK => ?_⟩
    have e11 := (ha 11).trans h2
    clear ha h2
    obtain ⟨c0, z0, f0⟩ := HCE.out w1 (by have := HSV.out; rw [this, ← HS.out]; exact (HT2.out.mono (by simp)).same (((Turn.refl _ _).drew).same hR))
    go_simp
    refine hK _ ?_; rfl
  refine Lo.runv 5 rfl rfl [] (.agg #[.int .i64 t, .int .i64 id]) (by kernel_rfl) (fun u w1 hR hF => ?_) (Turn.refl _) ?_
  · clear hF
    refine ⟨rfl, fun a ha K hK => ?_⟩
    have e3 := ha 3
    conv at e3 => rhs; whnf
    clear ha
    have hbb := (((Turn.refl S w2).drew).same hR).heap HBX.out (fun hm => by rw [HS.out] at hm; have := HOWN.out _ hm; omega)
    have d0 : w1.cell? ⟨w.heap.size, 0, none⟩ = some (.int .i64 t) := by rw [cell_of hbb]; rfl
    have d1 : w1.cell? ⟨w.heap.size, 1, none⟩ = some (.int .i64 id) := by rw [cell_of hbb]; rfl
    have zb := lt_of_heap hbb
    go_simp
    refine hK _ ?_
    rfl
  refine Lo.run 6 rfl rfl [4] (fun x w' => ∃ k, x = .slice (some ⟨k, 0, none⟩) 1 1 ∧ w'.heap[k]? = some (.cells (tmC ((t : Int), id)).toArray 52 (0, 0)) ∧ w2.heap.size ≤ k) (by kernel_rfl) (fun x w w' h hR => ?_) (fun _ _ h => h.mono (by simp)) (fun u w1 hR hF => ?_) ?_
  · obtain ⟨k, h1, h2, h3⟩ := h; exact ⟨k, h1, hR.heap h2 (fun hm => by rw [HS.out] at hm; have := HOWN.out _ hm; have := HT2.out.size; omega), h3⟩
  · obtain ⟨h4, -⟩ := hF
    refine ⟨rfl, fun a ha K hK => ?_⟩
    have e13 := (ha 13).trans h4
    clear ha h4
    have e13' : a.tmps[13]?.getD undef = .agg #[.int .i64 t, .int .i64 id] := by rw [← Array.getD_eq_getD_getElem?, e13]
    go_simp
    exact hK _ _ ⟨w1.heap.size, rfl, heap_new w1 _, hR.size⟩ ((Turn.refl [] _).alloc _)
  refine Lo.noisy 7 rfl 0 rfl [3, 5] (fun x w' => TR w' base x (sl j ++ [((t : Int), id)]) ∧ ∀ k ∈ x.ownBlock, k ∈ (Value.slice ga (sl j).length gc).ownBlock ∨ w2.heap.size ≤ k) (by kernel_rfl) (fun x w w' h hR => ?_) (.inl (by kernel_rfl)) (fun u w1 hR hS hF => ?_) ?_
  · exact ⟨h.1.still hR, h.2⟩
  · obtain ⟨h3, h5, -⟩ := hF
    have hS := (show (fun w => TR w base (.slice ga (sl j).length gc) (sl j)) w1 from hS)
    dsimp only at hS
    refine ⟨rfl, fun a ha K hK => ?_⟩
    have e12 := (ha 12).trans h3
    have e14 : a.tmps.getD 14 undef = u 5 := ha 14
    have h5 := (show (fun x w' => ∃ k, x = .slice (some ⟨k, 0, none⟩) 1 1 ∧ w'.heap[k]? = some (.cells (tmC ((t : Int), id)).toArray 52 (0, 0)) ∧ w2.heap.size ≤ k) (u 5) w1 from h5)
    dsimp only at h5
    clear ha h3
    obtain ⟨kk, hx6, hc6, hk6⟩ := h5
    rw [hx6] at e14
    obtain ⟨v7, w7, hr7, hrow7, ht7, hown7⟩ := app_tm w1 base (.slice ga (sl j).length gc) (sl j) ((t : Int), id) kk hS hc6 HLE.out (by have := hR.size; have := HT2.out.size; have := HB.out; simp at *; omega)
    have hsz7 := hR.size
    clear hx6 hc6
    exact oper_appT rfl e12 e14 hr7 (hK _ _ ⟨hrow7, fun k hk => (hown7 k hk).elim .inl (fun h => .inr (Nat.le_trans hsz7 h))⟩ (by rw [HS.out]; exact ht7) ((((Turn.refl S w2).drew).same hR).same (by rw [HS.out]; exact ht7)))
  apply Lo.runx 8 rfl rfl [0] (by kernel_rfl) (Turn.refl _)
  apply Exists.intro; apply And.intro
  · intro u w1 hR hF
    obtain ⟨h0, -⟩ := hF
    refine ⟨rfl, fun a ha K hK => ?_⟩
    have e9 := (ha 9).trans h0
    clear ha h0
    go_simp
    refine hK _ ?_; rfl
  refine Lo.done [6, 7] (fun u w1 hRd hSd hF => ?_)
  have hSd := (show (fun w => Turn S w2 w) w1 from hSd)
  dsimp only at hSd
  obtain ⟨f6, f7, -⟩ := hF
  have d6 := (show (fun x w' => TR w' base x (sl j ++ [((t : Int), id)]) ∧ ∀ k ∈ x.ownBlock, k ∈ (Value.slice ga (sl j).length gc).ownBlock ∨ w2.heap.size ≤ k) (u 6) w1 from f6)
  dsimp only at d6
  have d7 : u 7 = _ := f7
  clear f6 f7
  simp only [List.take_succ_cons, List.take_zero, List.drop_succ_cons, List.drop_zero, putFrom, Act.put, List.setIfInBounds_toArray, List.set_cons_succ, List.set_cons_zero, Nat.zero_add, Nat.reduceAdd, d7]
  obtain ⟨hrow7, hown7⟩ := d6
  obtain ⟨v', hv'⟩ : ∃ v', v' = u 6 := ⟨_, rfl⟩
  rw [← hv'] at hrow7 hown7 ⊢
  clear d7 hv'
  obtain ⟨va, vc, hvf, -, -⟩ := hrow7.form
  rw [List.length_append, List.length_singleton] at hvf
  have hbS : b ∉ S := fun hm => by rw [HS.out] at hm; exact H.out.row_b (j := j) (by rw [HJ.out]; exact slotJ_lt hn ht) (by rw [HSV.out]; simpa using hm)
  have hTS : Turn S w w1 := (HT2.out.mono (by simp)).same hSd
  obtain ⟨c0, z0, f0⟩ := HCE.out w1 (by rw [HSV.out, ← HS.out]; exact hTS)
  have hcw := (H.out.cells.kept hTS hbS).setSlot (j := j) (by rw [HJ.out]; exact slotJ_lt hn ht) v'
  have hsub : ∀ k ∈ S, k ∈ b :: (sv j).ownBlock.toList := fun k hk => by rw [HSV.out, ← HS.out]; exact List.mem_cons_of_mem _ hk
  have hT : Turn (b :: (sv j).ownBlock.toList) w (w1.setCell ⟨b, 2 + j, none⟩ v') := (hTS.mono (fun k hk => .inl (hsub k hk))).setCell (.inl (by simp)) v'
  have hown : ∀ k ∈ v'.ownBlock, k ∈ (sv j).ownBlock ∨ w.heap.size ≤ k := fun k hk => by
    rw [HSV.out]
    exact (hown7 k hk).imp (fun h => h) (fun h => by have := HT2.out.size; omega)
  have hbv : b ∉ v'.ownBlock := fun hm => by
    rcases hown b hm with h1 | h1
    · exact H.out.row_b (j := j) (by rw [HJ.out]; exact slotJ_lt hn ht) h1
    · have := H.out.blt; omega
  have hr' : TR (w1.setCell ⟨b, 2 + j, none⟩ v') base v' (sl j ++ [((t : Int), id)]) := hrow7.kept (S := [b]) ((Turn.refl [b] w1).setCell (.inl (by simp)) v') (fun k hk hm => by obtain rfl := List.mem_singleton.1 hm; exact hbv hk)
  have hfin := H.out.setRow (j := j) (by rw [HJ.out]; exact slotJ_lt hn ht) hT hcw hr' hown
  have HFIN := hide hfin
  have HT := hide hT
  have HOW := hide hown
  clear hrow7 hown7 hbS hTS hcw hsub hT hown hbv hr' hfin hRd hSd
  rw [hvf] at *
  clear hvf
  go_wp2
  go_end0
  exact ⟨rfl, _, HFIN.out, HT.out, HOW.out⟩
end Go.Proofs.YtcficgpknokpbaaDoor.Wh
