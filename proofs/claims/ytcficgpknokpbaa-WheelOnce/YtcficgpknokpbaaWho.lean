/- conveyorkeep.WheelOnce, walked. -/
import Derived.Test.YtcficgpknokpbaaWhn
import Derived.Laws.OwnMore
import Derived.Deep.CutRange
namespace Go.Proofs.Ytcficgpknokpbaa.Wh
open Go.RowKit Go.Maps Go.Shelf
set_option maxRecDepth 100000
set_option linter.unusedSimpArgs false
set_option linter.unusedVariables false
attribute [local go_sem] Oper.semAt_some

/-- The timers that are left behind the i-th Advance, and which are seen. -/
def remL (ts : List Int) (now i : Nat) : List Tm := if i = 0 then addL ts ts.length else (addL ts ts.length).filter (fun x => !decide (x.1 ≤ (now : Int)))
def seenB (ts : List Int) (now i : Nat) (id : Nat) : Bool := decide (i ≠ 0) && decide (pkN (ts.getD id 0) ≤ now)
def seenK (ts : List Int) (now i : Nat) (D : List Tm) (k : Nat) : List Bool := (List.range ts.length).map (fun id => seenB ts now i id || (D.take k).any (fun x => x.2 == (id : Int)))
theorem seenK_len (ts : List Int) (now i : Nat) (D : List Tm) (k : Nat) : (seenK ts now i D k).length = ts.length := by simp [seenK]
theorem seenK_at {ts : List Int} {now i : Nat} {D : List Tm} {k id : Nat} (hid : id < ts.length) : (seenK ts now i D k)[id]? = some (seenB ts now i id || (D.take k).any (fun x => x.2 == (id : Int))) := by
  unfold seenK
  rw [List.getElem?_map, List.getElem?_range hid]
  rfl
theorem remL_mem {ts : List Int} {now i : Nat} {x : Tm} : x ∈ remL ts now i ↔ x ∈ addL ts ts.length ∧ (i = 0 ∨ ¬ x.1 ≤ (now : Int)) := by
  unfold remL
  by_cases h : i = 0
  · rw [if_pos h]; simp [h]
  · rw [if_neg h, List.mem_filter]; simp [h]
theorem addL_nd (ts : List Int) (n : Nat) : ((addL ts n).map (·.2)).Nodup := by
  unfold addL
  rw [List.map_map]
  have : ((List.range n).map ((fun x : Tm => x.2) ∘ fun k => ((pkN (ts.getD k 0) : Int), (k : Int)))) = (List.range n).map (fun k : Nat => (k : Int)) := rfl
  rw [this]
  unfold List.Nodup
  rw [List.pairwise_map]
  exact (List.nodup_range).imp (fun h e => h (by omega))
theorem remL_next {ts : List Int} {now tq i : Nat} (h : now ≤ tq) : (remL ts now i).filter (fun x => !decide (x.1 ≤ (tq : Int))) = remL ts tq (i + 1) := by
  unfold remL
  rw [if_neg (show ¬ i + 1 = 0 by omega)]
  by_cases hi : i = 0
  · rw [if_pos hi]
  · rw [if_neg hi, List.filter_filter]
    apply List.filter_congr
    intro x hx
    by_cases e : x.1 ≤ (now : Int)
    · have : x.1 ≤ (tq : Int) := by omega
      simp [e, this]
    · simp [e]
/-- What an Advance tells, one by one. -/
structure Told (ts : List Int) (now tq i : Nat) (D : List Tm) : Prop where
  srt : Srt D
  mem : ∀ x, x ∈ D ↔ x ∈ remL ts now i ∧ x.1 ≤ (tq : Int)
  nd : (D.map (·.2)).Nodup
theorem told_of {ts : List Int} {now tq i : Nat} {D : List Tm} (h : Stb ((remL ts now i).filter (fun x => decide (x.1 ≤ (tq : Int)))) D) : Told ts now tq i D := by
  refine ⟨h.srt, fun x => ?_, ?_⟩
  · rw [h.mem, List.mem_filter]; simp
  · have h1 : ((remL ts now i).filter (fun x => decide (x.1 ≤ (tq : Int)))).Sublist (addL ts ts.length) := by
      refine List.filter_sublist.trans ?_
      unfold remL
      split
      · exact List.Sublist.refl _
      · exact List.filter_sublist
    have h2 := nodup_sub h1 (addL_nd ts ts.length)
    exact (h.sq.perm.map _).nodup_iff.1 h2
theorem Told.at {ts : List Int} {now tq i : Nat} {D : List Tm} (h : Told ts now tq i D) {k : Nat} (hk : k < D.length) : ∃ id : Nat, id < ts.length ∧ D[k] = ((pkN (ts.getD id 0) : Int), (id : Int)) ∧ pkN (ts.getD id 0) ≤ tq ∧ (i = 0 ∨ now < pkN (ts.getD id 0)) ∧ (seenK ts now i D k).getD id true = false := by
  have hm := (h.mem D[k]).1 (List.getElem_mem _)
  obtain ⟨h1, h2⟩ := hm
  obtain ⟨h3, h4⟩ := remL_mem.1 h1
  obtain ⟨id, hid, e⟩ := mem_addL.1 h3
  rw [e] at h2 h4
  simp only at h2 h4
  refine ⟨id, hid, e, by omega, by omega, ?_⟩
  rw [List.getD_eq_getElem?_getD, seenK_at hid, Option.getD_some, Bool.or_eq_false_iff]
  constructor
  · unfold seenB
    rw [Bool.and_eq_false_iff]
    rcases h4 with h4 | h4
    · exact .inl (by simp [h4])
    · exact .inr (decide_eq_false (by omega))
  · rw [List.any_eq_false]
    intro x hx hxe
    have hx2 : x.2 = (id : Int) := by simpa using hxe
    obtain ⟨j, hj, ej⟩ := List.mem_iff_getElem.1 hx
    rw [List.length_take] at hj
    rw [List.getElem_take] at ej
    have hnd := h.nd
    unfold List.Nodup at hnd
    have := List.pairwise_iff_getElem.1 hnd j k (by rw [List.length_map]; omega) (by rw [List.length_map]; exact hk) (by omega)
    apply this
    rw [List.getElem_map, List.getElem_map, ej, e, hx2]
theorem seenK_next {ts : List Int} {now i : Nat} {D : List Tm} {k id : Nat} (hk : k < D.length) (hid : id < ts.length) (e : (D[k]).2 = (id : Int)) : (seenK ts now i D k).set id true = seenK ts now i D (k + 1) := by
  apply List.ext_getElem?
  intro j
  by_cases hj : j < ts.length
  · rw [seenK_at hj, List.take_succ_eq_append_getElem hk, List.any_append, List.getElem?_set]
    by_cases hj2 : id = j
    · subst hj2
      rw [if_pos rfl, if_pos (by rw [seenK_len]; exact hid)]
      simp [e]
    · rw [if_neg hj2, seenK_at hj]
      have : (D[k].2 == (j : Int)) = false := by rw [e]; simpa using fun h => hj2 (by omega)
      simp [this]
  · rw [List.getElem?_eq_none (by rw [List.length_set, seenK_len]; omega), List.getElem?_eq_none (by rw [seenK_len]; omega)]
theorem seenK_end {ts : List Int} {now tq i : Nat} {D : List Tm} (h : Told ts now tq i D) (hn : now ≤ tq) : seenK ts now i D D.length = seenK ts tq (i + 1) [] 0 := by
  unfold seenK
  apply List.map_congr_left
  intro id hid
  rw [List.mem_range] at hid
  rw [List.take_length]
  have hz : (([] : List Tm).take 0).any (fun x => x.2 == (id : Int)) = false := rfl
  rw [hz, Bool.or_false, Bool.eq_iff_iff, Bool.or_eq_true, List.any_eq_true]
  unfold seenB
  simp only [Bool.and_eq_true, decide_eq_true_eq]
  constructor
  · rintro (⟨h1, h2⟩ | ⟨x, hx, h2⟩)
    · exact ⟨by omega, by omega⟩
    · obtain ⟨h3, h4⟩ := (h.mem x).1 hx
      obtain ⟨id2, hid2, e⟩ := mem_addL.1 (remL_mem.1 h3).1
      have h5 : x.2 = (id : Int) := by simpa using h2
      rw [e] at h5 h4
      simp only at h5 h4
      obtain rfl : id2 = id := by omega
      exact ⟨by omega, by omega⟩
  · rintro ⟨-, h2⟩
    by_cases h3 : i ≠ 0 ∧ pkN (ts.getD id 0) ≤ now
    · exact .inl h3
    · refine .inr ⟨((pkN (ts.getD id 0) : Int), (id : Int)), (h.mem _).2 ⟨remL_mem.2 ⟨mem_addL.2 ⟨id, hid, rfl⟩, ?_⟩, by simp only; omega⟩, by simp⟩
      simp only
      by_cases h4 : i = 0
      · exact .inl h4
      · exact .inr (fun h5 => h3 ⟨h4, by omega⟩)
/-- The time of the one that was told last. -/
def lastI (D : List Tm) (k : Nat) : Int := if k = 0 then -1 else (D.getD (k - 1) (0, 0)).1
theorem lastI_le {D : List Tm} (h : Srt D) {k : Nat} (hk : k < D.length) (h0 : 0 ≤ (D[k]).1) : lastI D k ≤ (D[k]).1 := by
  unfold lastI
  by_cases e : k = 0
  · rw [if_pos e]; omega
  · rw [if_neg e, List.getD_eq_getElem?_getD, List.getElem?_eq_getElem (show k - 1 < D.length by omega), Option.getD_some]
    exact List.pairwise_iff_getElem.1 h (k - 1) k (by omega) hk (by omega)
theorem lastI_succ {D : List Tm} {k : Nat} (hk : k < D.length) : lastI D (k + 1) = (D[k]).1 := by
  unfold lastI
  rw [if_neg (by omega), Nat.add_sub_cancel, List.getD_eq_getElem?_getD, List.getElem?_eq_getElem hk, Option.getD_some]
/-- A row of another kind lies apart from a wheel. -/
theorem WheelAt.apartG {α : Type} {T : TypeId} {n : Nat} {enc : α → List Value} {w : World} {base b now base' : Nat} {F : List Nat} {all : List Tm} (h : WheelAt w base b F now all) {v : Value} {l : List α} (hr : GRow T n enc w base' v l) (h1 : T ≠ 28) (h2 : T ≠ 44) : ∀ q ∈ v.ownBlock, q ∉ F := by
  obtain ⟨mref, sv, sl, hW, hI, rfl⟩ := h
  intro q hq hm
  rcases hr with ⟨rfl, -⟩ | ⟨g, cap, cur, rfl, -, hg, -⟩
  · simp [Value.ownBlock] at hq
  · simp [Value.ownBlock] at hq
    subst hq
    rcases mem_wfoot.1 hm with rfl | hm | ⟨j, hj, hm⟩
    · obtain ⟨cur2, h3, -⟩ := hW.cells.cur
      rw [h3] at hg
      simp at hg
      exact h1 hg.2.symm
    · exact hW.map.ne hg hm
    · rcases hW.rows j hj with ⟨e, -⟩ | ⟨g', cap', cur', e, -, hg', -⟩
      · rw [e] at hm; simp [Value.ownBlock] at hm
      · rw [e] at hm
        simp [Value.ownBlock] at hm
        subst hm
        rw [hg] at hg'
        simp at hg'
        exact h2 hg'.2

theorem flat_bC (n : Nat) : (List.replicate n false).flatMap bC = List.replicate n (Value.bool false) := by
  induction n with
  | zero => rfl
  | succ n ih => rw [List.replicate_succ, List.flatMap_cons, ih, List.replicate_succ]; rfl
theorem infoB : (Try.prog.info? 4).map (fun i => (i.zero, i.size, i.bytes)) = some (some (.bool false), 1, 1) := by kernel_rfl
theorem infoB_parts : ∃ i, Try.prog.info? 4 = some i ∧ i.zero = some (.bool false) ∧ i.size = 1 ∧ i.bytes = 1 := by
  have h := infoB
  cases hi : Try.prog.info? 4 with
  | none => rw [hi] at h; cases h
  | some i =>
    rw [hi] at h
    simp only [Option.map_some, Option.some.injEq, Prod.mk.injEq] at h
    exact ⟨i, rfl, h.1, h.2.1, h.2.2⟩
theorem make_bools (n : Nat) (hn : n ≤ 1000) (w : World) : ∃ cs : Array Value, (Instr.makeSlice 33 (.int .i64 n) (.int .i64 n)).run Try.prog w = .ok (.slice (some ⟨w.heap.size, 0, none⟩) n n) (w.alloc (.cells cs 4)) ∧ BR (w.alloc (.cells cs 4)) 0 (.slice (some ⟨w.heap.size, 0, none⟩) n n) (List.replicate n false) := by
  obtain ⟨i, hi, hz, hs, hb⟩ := infoB_parts
  have hr := run_makeSlice (P := Try.prog) w 33 4 i (.bool false) Try.underlying33 hi hz .i64 .i64 (n : Int) (n : Int) (by omega) (by omega) (by rw [hs]; simp; omega) (by rw [hb]; omega) (by omega)
  simp only [Int.toNat_natCast, hs, Nat.mul_one] at hr
  refine ⟨_, hr, .inr ⟨w.heap.size, n, _, by rw [List.length_replicate], Nat.zero_le _, heap_new w _, by rw [List.length_replicate]; exact Nat.le_refl _, ?_, by simp [maxLen]; omega, ?_⟩⟩
  · rw [size_madeCells, Nat.mul_one]
    exact Nat.le_refl _
  · rw [List.length_replicate, Nat.mul_one]
    rw [flat_bC, show (Value.bool false).cells = #[Value.bool false] from rfl, toList_madeCells_one, List.take_of_length_le (by simp)]
set_option maxHeartbeats 16000000 in
theorem once_any (W : World) (v0 v1 : Value) (ts ls : List Int) (h0 : IntsIn W v0 ts) (h1 : IntsIn W v1 ls) :
    Calls Try.prog 3 #[v0, v1] W fun e w' => e = .returned (.bool true) ∧ Below W.heap.size W w' := by
  obtain ⟨ta, tc, rfl, htl, htm⟩ := h0.form
  obtain ⟨la, lc, rfl, hll, hlm⟩ := h1.form
  have hmx : maxLen = 9223372036854775807 := by simp [maxLen]
  rw [hmx] at htm hlm
  have HA0 := hide h0
  have HA1 := hide h1
  clear h0 h1 hmx
  by_cases hn : 100 < ts.length
  · have hn1 : 100 < (ts.length : Int) := by omega
    go_enter Try.func3, Try.ntmps3
    go_wp2
    go_ret
    exact ⟨rfl, Below.refl _ _⟩
  by_cases hm : 60 < ls.length
  · have hn1 : ¬ 100 < (ts.length : Int) := by omega
    have hm1 : 60 < (ls.length : Int) := by omega
    go_enter Try.func3, Try.ntmps3
    go_wp2
    go_ret
    exact ⟨rfl, Below.refl _ _⟩
  have hn1 : ¬ 100 < (ts.length : Int) := by omega
  have hm1 : ¬ 60 < (ls.length : Int) := by omega
  have hz := zeroW
  have hw0 := new_wheel W W.heap.size (Nat.le_refl _)
  have HW0 := hide hw0
  clear hw0
  go_enter Try.func3, Try.ntmps3
  go_wp2
  go_loopw [6] (fun iv wr => ∃ (i : Nat) (F : List Nat), i ≤ ts.length ∧ iv = .int .i64 (i : Int) ∧ WheelAt wr W.heap.size W.heap.size F 0 (addL ts i) ∧ Turn [] W wr) (fun iv _ => ts.length - (intOf iv).toNat)
  case atStart => exact ⟨0, _, Nat.zero_le _, rfl, HW0.out, (Turn.refl _ _).alloc _⟩
  case round =>
    obtain ⟨i, F, hi, rfl, hwh, htw⟩ := hrel
    have HWH := hide hwh
    have HTW := hide htw
    clear hwh htw
    by_cases hlt : i < ts.length
    · have hlt1 : (i : Int) < ts.length := by omega
      obtain ⟨p, rfl, hp⟩ := (HA0.out.kept HTW.out (by simp)).at hlt
      obtain ⟨z, hz2⟩ : ∃ z, z = ts[i] := ⟨_, rfl⟩
      have hzb := HA0.out.2 z (by rw [hz2]; exact List.getElem_mem _)
      rw [← hz2] at hp
      have hzd : ts.getD i 0 = z := by rw [List.getD_eq_getElem?_getD, List.getElem?_eq_getElem hlt, hz2]; rfl
      have hadd := add_any wr W.heap.size W.heap.size 0 F (addL ts i) HWH.out (by rw [addL_len]; omega) (pkN z) (pkN_le z) (i : Int) (wf_of (by omega)) (addL_find ts i)
      rw [show addL ts i ++ [((pkN z : Int), (i : Int))] = addL ts (i + 1) by rw [addL_succ, hzd]] at hadd
      have HAD := hide hadd
      clear hz2 hzd hadd
      go_wp2_with fail
      refine (pick_any z hzb.1 hzb.2 wr).mono ?_
      rintro e w1 ⟨rfl, rfl⟩
      go_wp2_with fail
      refine HAD.out.mono ?_
      rintro e w2 ⟨rfl, F', hw2, ht2, hf2⟩
      have HW2 := hide hw2
      have HT2 := hide (HTW.out.trans ht2 (fun q hq => .inr (HWH.out.lt q hq).1))
      clear hw2 ht2 hf2 HAD hp
      go_wp2
      exact ⟨⟨i + 1, F', by omega, by go_num, HW2.out, HT2.out⟩, by simp only [intOf]; omega⟩
    · obtain rfl : i = ts.length := by omega
      have hlt1 : ¬ (ts.length : Int) < ts.length := by omega
      clear hi hlt
      obtain ⟨wo, rfl⟩ : ∃ wo, wo = wr := ⟨_, rfl⟩
      obtain ⟨cs, hmk, hbr⟩ := make_bools ts.length (by omega) wo
      obtain ⟨wA, hwA⟩ : ∃ wA, wA = wo.alloc (.cells cs 4) := ⟨_, rfl⟩
      obtain ⟨wB, hwB⟩ : ∃ wB, wB = wA.alloc (.cells #[] 3) := ⟨_, rfl⟩
      have hTA : Turn [] wo wA := by rw [hwA]; exact (Turn.refl [] wo).alloc _
      have hTB : Turn [] wo wB := by rw [hwB]; exact hTA.alloc _
      rw [← hwA] at hmk hbr
      have hemp : IR wB wA.heap.size (.slice (some ⟨wA.heap.size, 0, none⟩) 0 0) [] := .inr ⟨wA.heap.size, 0, _, rfl, Nat.le_refl _, by rw [hwB]; exact heap_new wA _, Nat.le_refl _, Nat.zero_le _, Nat.zero_le _, rfl⟩
      have hszA : wo.heap.size ≤ wA.heap.size := hTA.size
      have hszB : wA.heap.size < wB.heap.size := by rw [hwB]; simp
      obtain ⟨v8, w8, hr8, hrow8, ht8, hown8⟩ := app_zs wB wA.heap.size _ (.slice la ls.length lc) [] ls hemp (HA1.out.kept (HTW.out.same hTB) (by simp)).src (by simp; omega) (by omega)
      rw [List.nil_append] at hrow8
      obtain ⟨a8, c8, hv8, -, -⟩ := hrow8.form
      subst hv8
      obtain ⟨wC, hwC⟩ : ∃ wC, wC = w8.alloc (.cells #[.int .i64 1099511627776] 3) := ⟨_, rfl⟩
      have hTC : Turn [] w8 wC := by rw [hwC]; exact (Turn.refl [] w8).alloc _
      obtain ⟨v9, w9, hr9, hrow9, ht9, hown9⟩ := app_z wC wA.heap.size (.slice a8 ls.length c8) ls 1099511627776 w8.heap.size (hrow8.still hTC) (by rw [hwC]; exact heap_new w8 _) (by omega) (by have := ht8.size; have := hTC.size; omega)
      obtain ⟨a9, c9, hv9, -, -⟩ := hrow9.form
      rw [List.length_append, List.length_singleton] at hv9
      subst hv9
      have hT8 : Turn [] wo w8 := hTB.trans ht8 (fun q hq => .inr (by simp [Value.ownBlock] at hq; omega))
      have hT9 : Turn [] wo w9 := (hT8.same hTC).trans ht9 (fun q hq => .inr (by have := (hrow8.lt q (by simpa using hq)).1; omega))
      have hTA9 : Turn [] wA w9 := by
        have h1 : Turn [] wA wB := by rw [hwB]; exact (Turn.refl [] wA).alloc _
        have h2 : Turn [] wA w8 := h1.trans ht8 (fun q hq => .inr (by simp [Value.ownBlock] at hq; omega))
        exact (h2.same hTC).trans ht9 (fun q hq => .inr (hrow8.lt q (by simpa using hq)).1)
      have hbr9 : BR w9 wo.heap.size (.slice (some ⟨wo.heap.size, 0, none⟩) ts.length ts.length) (seenK ts 0 0 [] 0) := by
        have hbr' : BR wA wo.heap.size (.slice (some ⟨wo.heap.size, 0, none⟩) ts.length ts.length) (List.replicate ts.length false) := by
          rcases hbr with ⟨e, -⟩ | ⟨g, cap, cur, e, -, r⟩
          · simp at e
          · have e' := e
            simp only [Value.slice.injEq, Option.some.injEq, Addr.mk.injEq, true_and] at e'
            obtain ⟨⟨rfl, -⟩, -⟩ := e'
            exact .inr ⟨_, cap, cur, e, Nat.le_refl _, r⟩
        have e : seenK ts 0 0 [] 0 = List.replicate ts.length false := by
          unfold seenK
          rw [List.eq_replicate_iff]
          refine ⟨by simp, fun x hx => ?_⟩
          obtain ⟨id, -, rfl⟩ := List.mem_map.1 hx
          simp [seenB]
        rw [e]
        exact hbr'.still hTA9
      have HR8 := hide hr8
      have HR9 := hide hr9
      have HL := hide hrow9
      have HB := hide hbr9
      have HT9 := hide (HTW.out.same hT9)
      have HW9 := hide (HWH.out.still hT9)
      have hmk' := hmk
      rw [hwA] at hmk'
      have hws := HTW.out.size
      clear hmk hbr hTA hTB hemp hszA hszB hr8 hr9 hrow8 ht8 hown8 hTC hrow9 ht9 hown9 hT8 hT9 hTA9 hbr9
      rw [hwB, hwA] at HR8
      rw [World.size_alloc] at HR8
      rw [hwC] at HR9
      clear hwA hwB hwC
      go_wp2_with (at_builtin; go_must (first
        | (refine wpList_appT (w' := w8) (v' := .slice a8 ls.length c8) (s := .tmp 44) (x := .tmp 45) (t := 22) (tx := 22) rfl rfl rfl rfl ?hr ?_
           case hr => exact HR8.out)
        | (refine wpList_appT (w' := w9) (v' := .slice a9 (ls.length + 1) c9) (s := .tmp 46) (x := .tmp 47) (t := 22) (tx := 22) rfl rfl rfl rfl ?hr ?_
           case hr => exact HR9.out)))
      go_loopw [8, 10] (fun nv iv wr => ∃ (i now : Nat) (F : List Nat), i ≤ ls.length + 1 ∧ iv = .int .i64 (i : Int) ∧ nv = .int .i64 (now : Int) ∧ now ≤ 1099511627776 ∧ (i = ls.length + 1 → now = 1099511627776) ∧ WheelAt wr W.heap.size W.heap.size F now (remL ts now i) ∧ BR wr wo.heap.size (.slice (some ⟨wo.heap.size, 0, none⟩) ts.length ts.length) (seenK ts now i [] 0) ∧ IR wr wA.heap.size (.slice a9 (ls.length + 1) c9) (ls ++ [1099511627776]) ∧ Turn [] W wr) (fun _ iv _ => ls.length + 1 - (intOf iv).toNat)
      case atStart => exact ⟨0, 0, F, by omega, rfl, rfl, by omega, by omega, by simpa [remL] using HW9.out, HB.out, HL.out, HT9.out⟩
      case round =>
        obtain ⟨i, now, F2, hi, rfl, rfl, hnow, hnend, hwh2, hbr2, hir2, htw2⟩ := hrel
        have HWH2 := hide hwh2
        have HBR2 := hide hbr2
        have HIR2 := hide hir2
        have HTW2 := hide htw2
        have HNE := hide hnend
        clear hwh2 hbr2 hir2 htw2 hnend
        by_cases hlt : i < ls.length + 1
        · have hlt1 : (i : Int) < ls.length + 1 := by omega
          obtain ⟨z, hz2⟩ : ∃ z, z = (ls ++ [1099511627776])[i]'(by rw [List.length_append]; exact hlt) := ⟨_, rfl⟩
          have hzb : -9223372036854775808 ≤ z ∧ z ≤ 9223372036854775807 := by
            have hm : z ∈ ls ++ [1099511627776] := by rw [hz2]; exact List.getElem_mem _
            rcases List.mem_append.1 hm with hm | hm
            · exact HA1.out.2 z hm
            · obtain rfl := List.mem_singleton.1 hm
              omega
          obtain ⟨g9, cap9, e9, k9, -⟩ := HIR2.out.at inZ_len (j := i) (by rw [List.length_append]; exact hlt)
          simp only [Value.slice.injEq] at e9
          obtain ⟨rfl, -, rfl⟩ := e9
          have q9 : wr.cell? ⟨g9, i, none⟩ = some (.int .i64 z) := by
            have := k9 0 (by omega)
            rw [← hz2] at this
            simpa [inZ] using this
          obtain ⟨pk, hpk⟩ : ∃ pk, pk = pkN z := ⟨_, rfl⟩
          have hpk2 : pk ≤ 1099511627776 := by rw [hpk]; exact pkN_le z
          have HPK := hide hpk
          clear hz2 k9 hpk
          go_wp2_with fail
          refine (pick_any z hzb.1 hzb.2 _).mono ?_
          rintro e w1 ⟨rfl, rfl⟩
          rw [← HPK.out]
          clear q9
          go_upto_region 16 with fail
          go_cut [70] from 49 to 132 (fun v wx => v = .bool (decide (1099511627776 < now + pk ∨ i = ls.length)) ∧ wx = w1)
          case first =>
            by_cases hb1 : 1099511627776 < now + pk
            · have v1 : (1099511627776 : Int) < (now : Int) + pk := by omega
              go_wp2
              go_meet
              case rel => exact ⟨by simp [hb1], rfl⟩
            · have v1 : ¬ (1099511627776 : Int) < (now : Int) + pk := by omega
              by_cases hb2 : i = ls.length
              · have v2 : (i : Int) + 1 = (ls.length : Int) + 1 := by omega
                have v3 : ((i : Int) + 1 == (ls.length : Int) + 1) = true := by simpa using v2
                have HB2 := hide hb2
                clear v2 hb2
                go_wp2
                go_meet
                case rel => exact ⟨by simp [hb1, HB2.out], rfl⟩
              · have v2 : ¬ (i : Int) + 1 = (ls.length : Int) + 1 := by omega
                have v3 : ((i : Int) + 1 == (ls.length : Int) + 1) = false := by simpa using v2
                go_wp2
                go_meet
                case rel => exact ⟨by simp [hb1, hb2], rfl⟩
          case rest =>
            obtain ⟨rfl, rfl⟩ := hcut
            obtain ⟨B, hB⟩ : ∃ B, B = decide (1099511627776 < now + pk ∨ i = ls.length) := ⟨_, rfl⟩
            rw [← hB]
            go_upto_if 70 with fail
            go_cut [11] from 49 to 132 (fun v wx => ∃ tn : Nat, v = .int .i64 (tn : Int) ∧ now ≤ tn ∧ tn ≤ 1099511627776 ∧ (i + 1 = ls.length + 1 → tn = 1099511627776) ∧ wx = wc)
            case first =>
              cases B
              · have hb := of_decide_eq_false hB.symm
                go_wp2
                go_meet
                case rel => exact ⟨now + pk, by go_num, by omega, by omega, by omega, rfl⟩
              · go_wp2
                go_meet
                case rel => exact ⟨1099511627776, rfl, by omega, by omega, by omega, rfl⟩
            case rest =>
              obtain ⟨tn, rfl, htn1, htn2, htn3, rfl⟩ := hcut
              clear hB
              go_wp2_with fail
              refine (adv_any _ W.heap.size W.heap.size now F2 _ HWH2.out tn (by omega) (by omega)).mono ?_
              rintro e w2 ⟨ia, ic, D, F3, rfl, hst, hir, hw3, ht3, hf3⟩
              have htd : Told ts now tn i D := told_of hst
              rw [remL_next (by omega)] at hw3
              have HTD := hide htd
              have HIR3 := hide hir
              have HWH3 := hide hw3
              have hT3 := HTW2.out.trans ht3 (fun q hq => .inr (HWH2.out.lt q hq).1)
              have HT3 := hide hT3
              have hb3 : BR w2 wo.heap.size (.slice (some ⟨wo.heap.size, 0, none⟩) ts.length ts.length) (seenK ts now i [] 0) := HBR2.out.kept ht3 (fun q hq => HWH2.out.apartG HBR2.out (by decide) (by decide) q hq)
              have hl3 : IR w2 wA.heap.size (.slice (some ⟨g9, 0, none⟩) (ls.length + 1) c9) (ls ++ [1099511627776]) := HIR2.out.kept ht3 (fun q hq => HWH2.out.apartG HIR2.out (by decide) (by decide) q hq)
              have HB3 := hide hb3
              have HL3 := hide hl3
              have hDm : (D.map (·.2)).length = D.length := by simp
              have hDl : D.length ≤ 100 := by
                have h1 := hst.length
                rw [h1]
                refine Nat.le_trans (List.length_filter_le _ _) ?_
                unfold remL
                split
                · rw [addL_len]; omega
                · refine Nat.le_trans (List.length_filter_le _ _) ?_
                  rw [addL_len]; omega
              clear hst hir hw3 ht3 hf3 htd hT3 hb3 hl3
              go_wp2_with fail
              refine (turned_any _).mono ?_
              rintro e w3 ⟨rfl, ht4⟩
              have HIR4 := hide (HIR3.out.still ht4)
              have HWH4 := hide (HWH3.out.still ht4)
              have HB4 := hide (HB3.out.still ht4)
              have HL4 := hide (HL3.out.still ht4)
              have HT4 := hide (HT3.out.same ht4)
              clear ht4 HIR3 HWH3 HB3 HL3
              have hap : ∀ q ∈ (Value.slice ia (D.map (·.2)).length ic).ownBlock, q ∉ [wo.heap.size] := fun q hq hm => by
                obtain rfl := List.mem_singleton.1 hm
                exact HIR4.out.apart HB4.out (by decide) _ hq (by simp [Value.ownBlock])
              have HAP := hide hap
              clear hap
              obtain ⟨w3', rfl⟩ : ∃ w3', w3' = w3 := ⟨_, rfl⟩
              go_wp2
              go_loopw [14, 15] (fun lv kv wr => ∃ k : Nat, k ≤ D.length ∧ kv = .int .i64 (k : Int) ∧ lv = .int .i64 (lastI D k) ∧ BR wr wo.heap.size (.slice (some ⟨wo.heap.size, 0, none⟩) ts.length ts.length) (seenK ts now i D k) ∧ Turn [wo.heap.size] w3' wr) (fun _ kv _ => D.length - (intOf kv).toNat)
              case atStart => exact ⟨0, Nat.zero_le _, rfl, rfl, HB4.out, Turn.refl _ _⟩
              case round =>
                obtain ⟨k, hk, rfl, rfl, hbk, htk⟩ := hrel
                have HBK := hide hbk
                have HTK := hide htk
                clear hbk htk
                by_cases hlk : k < D.length
                · have hlk1 : (k : Int) < D.length := by omega
                  obtain ⟨id, hid, he, hle, hnw, hseen⟩ := HTD.out.at hlk
                  obtain ⟨gi, capi, ei, ki, -⟩ := (HIR4.out.kept HTK.out HAP.out).at inZ_len (j := k) (by rw [hDm]; exact hlk)
                  have ei' := ei
                  simp only [Value.slice.injEq, true_and] at ei'
                  obtain ⟨rfl, rfl⟩ := ei'
                  have q1 : wr.cell? ⟨gi, k, none⟩ = some (.int .i64 (id : Int)) := by
                    have := ki 0 (by omega)
                    rw [List.getElem_map, he] at this
                    simpa [inZ] using this
                  obtain ⟨gs2, caps, es, ks, kf⟩ := HBK.out.at bC_len (j := id) (by rw [seenK_len]; exact hid)
                  simp only [Value.slice.injEq, Option.some.injEq, Addr.mk.injEq, and_true, true_and] at es
                  obtain ⟨rfl, -, -⟩ := es
                  have q2 : wr.cell? ⟨wo.heap.size, id, none⟩ = some (.bool false) := by
                    have h1 := ks 0 (by omega)
                    have h2 : (seenK ts now i D k)[id]'(by rw [seenK_len]; exact hid) = false := by
                      rw [List.getD_eq_getElem?_getD, List.getElem?_eq_getElem (by rw [seenK_len]; exact hid), Option.getD_some] at hseen
                      exact hseen
                    rw [h2] at h1
                    simpa [bC] using h1
                  have f2 := kf id
                  have z2 := (HBK.out.lt wo.heap.size (by simp [Value.ownBlock])).2
                  obtain ⟨p, rfl, hp⟩ := (HA0.out.kept (HT4.out.trans HTK.out (fun q hq => .inr (by obtain rfl := List.mem_singleton.1 hq; exact hws))) (by simp)).at hid
                  obtain ⟨zt, hzt⟩ : ∃ zt, zt = ts[id] := ⟨_, rfl⟩
                  have hzb2 := HA0.out.2 zt (by rw [hzt]; exact List.getElem_mem _)
                  rw [← hzt] at hp
                  have hzd : ts.getD id 0 = zt := by rw [List.getD_eq_getElem?_getD, List.getElem?_eq_getElem hid, hzt]; rfl
                  rw [hzd] at he hle hnw
                  obtain ⟨at2, hat2⟩ : ∃ at2, at2 = pkN zt := ⟨_, rfl⟩
                  rw [← hat2] at he hle hnw
                  have hlast := lastI_le HTD.out.srt hlk (by rw [he]; simp)
                  rw [he] at hlast
                  simp only at hlast
                  have hls := lastI_succ hlk
                  rw [he] at hls
                  simp only at hls
                  have hnx := seenK_next (ts := ts) (now := now) (i := i) hlk hid (by rw [he])
                  have hset := HBK.out.set bC_len (j := id) (i := 0) (by rw [seenK_len]; exact hid) (by omega) (u := .bool true) (x' := true) rfl
                  rw [hnx] at hset
                  simp only [Nat.mul_one, Nat.add_zero] at hset
                  obtain ⟨lst, hlst⟩ : ∃ lst, lst = lastI D k := ⟨_, rfl⟩
                  rw [← hlst] at hlast ⊢
                  have HLS := hide hls
                  have HSET := hide hset
                  have HAT := hide hat2
                  have hid1 : (id : Int) < ts.length := by omega
                  clear hzt hzd hls hset hat2 hnx hlst ks kf ki hseen he
                  have u1 : ¬ (at2 : Int) > tn := by omega
                  have u4 : ¬ (at2 : Int) < lst := by omega
                  have hww : (i = 0 ∧ at2 ≤ now) ∨ ¬ at2 ≤ now := by omega
                  go_wp2_with fail
                  refine (pick_any zt hzb2.1 hzb2.2 _).mono ?_
                  rintro e wy ⟨rfl, rfl⟩
                  rw [← HAT.out]
                  clear q1 hp
                  rcases hww with ⟨x1, x2⟩ | x2
                  · have z2' : (at2 : Int) ≤ (now : Int) := by omega
                    clear hnw x2
                    subst x1
                    go_wp2
                    go_roundw
                    case rel =>
                      first
                        | exact ⟨k + 1, by omega, by go_num, by rw [HLS.out], HSET.out, HTK.out.setCell (.inl (by simp)) _⟩
                        | (repeat apply Exists.intro
                           exact ⟨⟨k + 1, by omega, by go_num, by rw [HLS.out], HSET.out, HTK.out.setCell (.inl (by simp)) _⟩, rfl⟩)
                    case measure => simp [intOf]; omega
                  · have z2' : ¬ (at2 : Int) ≤ (now : Int) := by omega
                    clear hnw x2
                    go_wp2
                    go_roundw
                    case rel =>
                      first
                        | exact ⟨k + 1, by omega, by go_num, by rw [HLS.out], HSET.out, HTK.out.setCell (.inl (by simp)) _⟩
                        | (repeat apply Exists.intro
                           exact ⟨⟨k + 1, by omega, by go_num, by rw [HLS.out], HSET.out, HTK.out.setCell (.inl (by simp)) _⟩, rfl⟩)
                    case measure => simp [intOf]; omega
                · obtain rfl : k = D.length := by omega
                  have hlk1 : ¬ (D.length : Int) < D.length := by omega
                  have hfw : ∀ q ∈ F3, q ∉ [wo.heap.size] := fun q hq hm => by
                    obtain rfl := List.mem_singleton.1 hm
                    exact HWH4.out.apartG HB4.out (by decide) (by decide) wo.heap.size (by simp [Value.ownBlock]) hq
                  have hfl : ∀ q ∈ (Value.slice (some ⟨g9, 0, none⟩) (ls.length + 1) c9).ownBlock, q ∉ [wo.heap.size] := fun q hq hm => by
                    obtain rfl := List.mem_singleton.1 hm
                    exact HL4.out.apart HB4.out (by decide) _ hq (by simp [Value.ownBlock])
                  have p1 := HWH4.out.kept HTK.out hfw
                  have p2 := HBK.out
                  rw [seenK_end HTD.out (by omega)] at p2
                  have p3 := HL4.out.kept HTK.out hfl
                  have p4 : Turn [] W wr := HT4.out.trans HTK.out (fun q hq => .inr (by obtain rfl := List.mem_singleton.1 hq; exact hws))
                  have P1 := hide p1
                  have P2 := hide p2
                  have P3 := hide p3
                  have P4 := hide p4
                  clear hfw hfl p1 p2 p3 p4
                  go_wp2
                  go_roundw
                  case rel =>
                    first
                      | exact ⟨i + 1, tn, F3, by omega, by go_num, rfl, by omega, by omega, P1.out, P2.out, P3.out, P4.out⟩
                      | (repeat apply Exists.intro
                         exact ⟨⟨i + 1, tn, F3, by omega, by go_num, rfl, by omega, by omega, P1.out, P2.out, P3.out, P4.out⟩, rfl⟩)
                  case measure => simp [intOf]; omega
        · obtain rfl : i = ls.length + 1 := by omega
          have hlt1 : ¬ (((ls.length + 1 : Nat) : Int) < (ls.length : Int) + 1) := by omega
          have hnw := HNE.out rfl
          have hrem : remL ts now (ls.length + 1) = [] := by
            unfold remL
            rw [if_neg (by omega), List.filter_eq_nil_iff]
            intro x hx
            obtain ⟨id, -, rfl⟩ := mem_addL.1 hx
            have := pkN_le (ts.getD id 0)
            simp only [Bool.not_eq_true', decide_eq_false_iff_not, Decidable.not_not]
            omega
          have hall : ∀ k, k < ts.length → (seenK ts now (ls.length + 1) [] 0)[k]? = some true := fun k hk => by
            have h1 := pkN_le (ts.getD k 0)
            rw [seenK_at hk]
            unfold seenB
            have h2 : decide (pkN (ts.getD k 0) ≤ now) = true := decide_eq_true (by omega)
            rw [h2]
            simp
          have hmany := many_any wr W.heap.size W.heap.size now F2 _ HWH2.out
          rw [hrem] at hmany
          have HMA := hide hmany
          have HALL := hide hall
          obtain ⟨wz, rfl⟩ : ∃ wz, wz = wr := ⟨_, rfl⟩
          clear hnw hrem hall hmany HNE
          go_wp2
          go_loopw [18] (fun kv wr => ∃ k : Nat, k ≤ ts.length ∧ kv = .int .i64 (k : Int) ∧ wr = wz) (fun kv _ => ts.length - (intOf kv).toNat)
          case atStart => exact ⟨0, Nat.zero_le _, rfl, rfl⟩
          case round =>
            obtain ⟨k, hk, rfl, rfl⟩ := hrel
            by_cases hlk : k < ts.length
            · have hlk1 : (k : Int) < ts.length := by omega
              obtain ⟨gs2, caps, es, ks, kf⟩ := HBR2.out.at bC_len (j := k) (by rw [seenK_len]; exact hlk)
              simp only [Value.slice.injEq, Option.some.injEq, Addr.mk.injEq, and_true, true_and] at es
              obtain ⟨rfl, -, -⟩ := es
              have q2 : wr.cell? ⟨wo.heap.size, k, none⟩ = some (.bool true) := by
                have h1 := ks 0 (by omega)
                have h2 : (seenK ts now (ls.length + 1) [] 0)[k]'(by rw [seenK_len]; exact hlk) = true := by
                  have := HALL.out k hlk
                  rw [List.getElem?_eq_getElem (by rw [seenK_len]; exact hlk)] at this
                  exact Option.some.inj this
                rw [h2] at h1
                simpa [bC] using h1
              clear ks kf
              go_wp2
              go_roundw
              case rel =>
                exact ⟨k + 1, by omega, by go_num, by first | trivial | rfl⟩
              case measure => simp [intOf]; omega
            · obtain rfl : k = ts.length := by omega
              have hlk1 : ¬ (ts.length : Int) < ts.length := by omega
              go_wp2_with fail
              refine HMA.out.mono ?_
              rintro e wy ⟨rfl, rfl⟩
              go_wp2
              go_ret
              exact ⟨by simp, HTW2.out.nil⟩
end Go.Proofs.Ytcficgpknokpbaa.Wh
