/- List: the names that begin so, collected into a new slice. -/
import Derived.Test.YtlcgcckllecjpaaDoorCrash
import Derived.Maps.OwnIn
import Derived.Maps.AppendAt
namespace Go.Proofs.YtlcgcckllecjpaaDoor.Dk
open Go.RowKit Go.Maps Go.Shelf Go.Sort
set_option maxRecDepth 100000
set_option linter.unusedSimpArgs false
set_option linter.unusedVariables false
attribute [local go_sem] Oper.semAt_some

/-- The block that a box's slice owns. -/
def ownOf (Bs : Nat) (W : World) : Option Nat := match W.heap[Bs]? with
  | some (.cells cs _ _) => (cs[0]?).bind Value.ownBlock
  | _ => none
theorem ownOf_box {Bs : Nat} {W : World} {v : Value} {t : TypeId} {fr : Nat × Nat} (h : W.heap[Bs]? = some (.cells #[v] t fr)) : ownOf Bs W = v.ownBlock := by simp [ownOf, h]
/-- What a round keeps: all cells but the box's, and those of the block that the box's slice owns; that block stays, or is new. -/
structure KpR (Bs : Nat) (W W' : World) : Prop where
  size : W.heap.size ≤ W'.heap.size
  cells : ∀ k cs t fr, W.heap[k]? = some (.cells cs t fr) → k ≠ Bs → ownOf Bs W ≠ some k → W'.heap[k]? = some (.cells cs t fr)
  own : ownOf Bs W' = ownOf Bs W ∨ ∃ b, ownOf Bs W' = some b ∧ W.heap.size ≤ b
theorem KpR.refl (Bs : Nat) (W : World) : KpR Bs W W := ⟨Nat.le_refl _, fun _ _ _ _ h _ _ => h, .inl rfl⟩
theorem kpR_t {Bs : Nat} {A B C : World} (h : KpR Bs A B) (k : KpR Bs B C) : KpR Bs A C := by
  refine ⟨Nat.le_trans h.size k.size, fun i cs t fr hi hn ho => ?_, ?_⟩
  · refine k.cells i cs t fr (h.cells i cs t fr hi hn ho) hn (fun e => ?_)
    rcases h.own with h1 | ⟨b, h1, h2⟩
    · exact ho (h1 ▸ e)
    · rw [h1] at e; cases e
      have := lt_of_heap hi; omega
  · rcases k.own with h1 | ⟨b, h1, h2⟩
    · rw [h1]; exact h.own
    · exact .inr ⟨b, h1, Nat.le_trans h.size h2⟩
theorem kpR_b {Bs : Nat} {w : World} (hB : Bs < w.heap.size) (W : World) (l : Nat) (o o' : Obj) (hl : w.heap.size ≤ l) (h : W.heap[l]? = some o) (ho : o.isCells = false) (_ : o.isWalk = false) : KpR Bs W (W.putObj l o') := by
  refine ⟨by simp, fun k cs t fr hk _ _ => ?_, .inl ?_⟩
  · have hne : k ≠ l := by
      intro e; subst e; rw [h] at hk; cases hk; cases ho
    rw [World.putObj_heap_other hne]; exact hk
  · unfold ownOf; rw [World.putObj_heap_other (show Bs ≠ l by omega)]

theorem ownsRow_cells {W W' : World} {row : Option Nat} {base : Nat} {e : TypeId} {size : Nat} {v : Value} {k : Nat} {xs : List Value} (h : W.ownsRow base e size v k xs) (hg : W.grownBy W' row)
    (hrow : ∀ r, row = some r → ∃ o : Obj, W.heap[r]? = some o ∧ o.isCells = false) : W'.ownsRow base e size v k xs := by
  refine h.kept hg ?_
  rcases h.2 with ⟨rfl, _⟩ | ⟨g, cap, cur, rfl, _, hgb, _⟩
  · exact .inl rfl
  · refine .inr fun e' => ?_
    obtain ⟨o, ho, hw⟩ := hrow g (by simpa [Value.ownBlock] using e'.symm)
    rw [hgb] at ho; cases ho; cases hw
theorem ownsRow_sep {W : World} {base : Nat} {e : TypeId} {size : Nat} {v : Value} {k : Nat} {xs : List Value} (h : W.ownsRow base e size v k xs) {j : Nat} {cs : Array Value} {t : TypeId} (hj : W.heap[j]? = some (.cells cs t (0, 0))) (hno : t ≠ e) :
    v.ownBlock ≠ some j := by
  rcases h.2 with ⟨rfl, _⟩ | ⟨g, cap, cur, rfl, _, hgb, _⟩
  · simp [Value.ownBlock]
  · intro e'
    have : g = j := by simpa [Value.ownBlock] using e'
    subst this; rw [hgb] at hj; cases hj; exact hno rfl
theorem ownsRow_slice {W : World} {base : Nat} {e : TypeId} {v : Value} {k : Nat} {xs : List Value} (h : W.ownsRow base e 1 v k xs) : ∃ a n c, v = .slice a n c := by
  rcases h.2 with ⟨rfl, _⟩ | ⟨g, cap, cur, rfl, _⟩
  · exact ⟨_, _, _, rfl⟩
  · exact ⟨_, _, _, rfl⟩
theorem ownsRow_block {W : World} {base : Nat} {e : TypeId} {size : Nat} {v : Value} {k : Nat} {xs : List Value} (h : W.ownsRow base e size v k xs) {g : Nat} (hg : v.ownBlock = some g) : base ≤ g ∧ ∃ cur, W.heap[g]? = some (.cells cur e (0, 0)) := by
  rcases h.2 with ⟨rfl, _⟩ | ⟨g', cap, cur, rfl, hb, hgb, _⟩
  · simp [Value.ownBlock] at hg
  · have : g' = g := by simpa [Value.ownBlock] using hg
    subst this
    exact ⟨hb, cur, hgb⟩
theorem append_box {W w3 : World} {b : Nat} {v : Value} {t : TypeId} {o : Obj} (h : W.heap[b]? = some (.cells #[v] t (0, 0))) (hs : v.ownBlock ≠ some b) (hg : (W.alloc o).grownBy w3 v.ownBlock) : w3.heap[b]? = some (.cells #[v] t (0, 0)) := by
  have t1 : Turn v.ownBlock.toList (W.alloc o) w3 := (Turn.refl _ _).grown hg (by intro k hk; exact .inl (by simp [hk]))
  refine t1.heap (((Turn.refl [] W).alloc o).heap h (by simp)) ?_
  intro e
  exact hs (by simpa using e)
theorem Tryd.infoS : (Tryd.prog.info? 9).map (fun i => (i.zero, i.size, i.bytes)) = some (some (.string ⟨#[]⟩), 1, 16) := by kernel_rfl

section
variable {w w' : World} {base d : Nat} {F : List Nat} {A A' : DA} {mref : Option Nat} {ms : List FileM}

/-- How the world stands between two rounds. -/
def ListI (w : World) (A : DA) (pre : List (NameIn A)) (W : World) : Prop :=
  ∃ v, W.heap[w.heap.size]? = some (.cells #[v] 34 (0, 0)) ∧ W.ownsRow w.heap.size 9 1 v pre.length (pre.map (fun x => encStr x.1)) ∧ Turn [] w W

set_option maxHeartbeats 2000000 in
theorem appendSeq_any (h : Parts w base d F A mref ms) (s : ByteArray) (hs : s.size ≤ maxLen) (B1 B2 : Nat) (hB1 : w.heap[B1]? = some (.cells #[.pointer (some ⟨d, 0, none⟩)] 23 (0, 0))) (hB2 : w.heap[B2]? = some (.cells #[.string s] 9 (0, 0))) :
    Calls Tryd.prog 90 #[.slice none 0 0, .func (.func 87) #[] #[.pointer (some ⟨B1, 0, none⟩), .pointer (some ⟨B2, 0, none⟩)]] w fun e w' =>
      ∃ v, e = .returned v ∧ w'.ownsRow w.heap.size 9 1 v (namesAt A s.data.toList).length ((namesAt A s.data.toList).map (fun x => encStr x.1)) ∧ Turn [] w w' := by
  refine (callsIn_wide (n := 7)).1 ?_
  have H : Hid (Parts w base d F A mref ms) := h
  have hcount := h.good.count
  clear h
  refine callsIn_of_wp_marks Tryd.func90 rfl trivial ?_ rfl
  simp only [Tryd.ntmps90, List.size_toArray, List.length_cons, List.length_nil, Nat.reduceAdd, Nat.reduceSub, Array.replicate_succ, Array.replicate_zero, List.push_toArray, List.append_toArray, List.nil_append, List.cons_append]
  gi_wp2
  obtain ⟨W1, hW1⟩ : ∃ W1, w.alloc (.cells #[.slice none 0 0] 34) = W1 := ⟨_, rfl⟩
  rw [hW1]
  have hs1 : W1.heap.size = w.heap.size + 1 := by rw [← hW1]; simp
  have t1 : Turn [] w W1 := by rw [← hW1]; exact (Turn.refl _ _).alloc _
  have hbox : W1.heap[w.heap.size]? = some (.cells #[.slice none 0 0] 34 (0, 0)) := by rw [← hW1]; exact heap_new w _
  have hb1 : W1.heap[B1]? = _ := t1.heap hB1 (by simp)
  have hb2 : W1.heap[B2]? = _ := t1.heap hB2 (by simp)
  have hP1 := H.out.kept t1 (by simp)
  have hB2l : B2 < w.heap.size := lt_of_heap hB2
  have hseq := iter_stopsK hP1 s hs B1 B2 hb1 hb2 (KpR w.heap.size) (KpR.refl _) kpR_t (fun W0 W W' k cs t fr hb0 hb hk hkp hc => by
    have e1 : W.heap[w.heap.size]? = some (.cells #[.slice none 0 0] 34 (0, 0)) := by
      have h0 := hb0.block w.heap.size (by omega)
      have h1 := hb.block w.heap.size (by have := hb0.size; omega)
      rw [h1, h0]; exact hbox
    refine hkp.cells k cs t fr hc ?_ ?_
    · have := hb0.size
      rcases hk with rfl | hk <;> omega
    · rw [ownOf_box e1]; simp [Value.ownBlock])
  have HSeq : Hid (SeqStopsK Fence.wide 6 Tryd.prog 87 #[.pointer (some ⟨B1, 0, none⟩), .pointer (some ⟨B2, 0, none⟩)] (fun x : NameIn A => #[encStr x.1]) (KpR w.heap.size)
      (fun xs => xs = namesAt A s.data.toList) (fun pre => pre <+: namesAt A s.data.toList) (namesAt A s.data.toList).length W1) := hseq
  have HI : Hid (ListI w A [] W1) := ⟨_, hbox, World.ownsRow_nil _ _ _ _, t1⟩
  have hnl : (namesAt A s.data.toList).length ≤ 200 := by
    have h2 : (namesAt A s.data.toList).length ≤ (sortedN A).attach.length := List.length_filter_le _ _
    rw [List.length_attach, sortedN_len] at h2
    omega
  clear hseq hbox hb1 hb2 hP1 hW1 t1
  refine wpIn_rangeFunc_ownG rfl (by omega) (gf := 87) (lb := #[.pointer (some ⟨B1, 0, none⟩), .pointer (some ⟨B2, 0, none⟩)]) rfl trivial (enters_of Tryd.func87 (by kernel_rfl) rfl)
    HSeq.out (fun h k => kpR_t h k) (fun W l o o' h1 h2 h3 h4 => kpR_b (w := W1) (by omega) W l o o' h1 h2 h3 h4) (Below.refl _ _) (fun _ => rfl)
    (ListI w A) (fun _ _ _ => False) ?own (fun _ _ _ _ _ hs _ _ => hs) HI.out
    (fun x => { tmps := #[.slice none 0 0, .func (.func 87) #[] #[.pointer (some ⟨B1, 0, none⟩), .pointer (some ⟨B2, 0, none⟩)], .pointer (some ⟨w.heap.size, 0, none⟩), undef, .slice none 0 0, encStr x.1, .func (.func 87) #[] #[.pointer (some ⟨B1, 0, none⟩), .pointer (some ⟨B2, 0, none⟩)], encStr x.1, undef, undef, undef, undef, undef], defers := [] }) ?assign ?body ?done ?stop
  case own =>
    rintro pre X Y row ⟨v, hv, hr, ht⟩ hg hrow
    have t : Turn row.toList X Y := (Turn.refl _ _).grown hg (by intro k hk; exact .inl (by simp [hk]))
    refine ⟨v, t.heap hv (fun e => ?_), ownsRow_cells hr hg (fun r e => (hrow r e).2), ht.trans t (fun k hk => .inr ?_)⟩
    · obtain ⟨o, ho, hw⟩ := (hrow _ (by simpa using e)).2
      rw [hv] at ho; cases ho; cases hw
    · have := (hrow k (by simpa using hk)).1
      omega
  case assign =>
    intro l x W K hK
    gi_wp2
    exact hK
  case body =>
    rintro l pre x W ⟨v, hv, hr, ht⟩ hlen
    obtain ⟨i0, hi, hz0, hz1, hz2⟩ := info_parts Tryd.infoS
    have cb : W.cell? ⟨w.heap.size, 0, none⟩ = some v := by rw [cell_of hv]; rfl
    have hle := ht.size
    have hvl := lt_of_heap hv
    have HV : Hid (W.heap[w.heap.size]? = some (.cells #[v] 34 (0, 0))) := hv
    have HT : Hid (Turn [] w W) := ht
    have hsep := ownsRow_sep hr hv (by decide)
    have HS : Hid (v.ownBlock ≠ some w.heap.size) := hsep
    clear hv ht hsep
    gi_wp2_with (first
      | (gi_at_builtin; refine wpListIn_append_own_at _ rfl _ _ 34 rfl w.heap.size 9 i0 (.string ⟨#[]⟩) 1 16 Tryd.underlying34 hi hz0 hz1 hz2 rfl (by decide) _ _ _ rfl (hr.alloc _) ⟨W.heap.size, 0, none⟩ 1 1 [encStr x.1] rfl rfl (cell_one_new _ _ _) (by simp [Value.oneCell', encStr]) (by simp only [maxLen]; omega) (by omega) (by simp; omega) ?_; intro v' w3 hown' hg3 hnil3 hob3; obtain ⟨a3, n3, c3, rfl⟩ := ownsRow_slice hown')
      | gi_in)
    all_goals
      have HB3 : Hid (w3.heap[w.heap.size]? = some (.cells #[v] 34 (0, 0))) := append_box HV.out HS.out hg3
      have cb3 : w3.cell? ⟨w.heap.size, 0, none⟩ = some v := by rw [cell_of HB3.out]; rfl
      have ff3 : w3.frozen? ⟨w.heap.size, 0, none⟩ = false := frozen_of HB3.out 0
      have HR : Hid (W.ownsRow w.heap.size 9 1 v pre.length (pre.map (fun x => encStr x.1))) := hr
      have HG3 : Hid ((W.alloc (.cells #[encStr x.1] 9)).grownBy w3 v.ownBlock) := hg3
      have HO : Hid (w3.ownsRow w.heap.size 9 1 (.slice a3 n3 c3) (pre.length + 1) (pre.map (fun x => encStr x.1) ++ [encStr x.1])) := hown'
      have HOB : Hid ((Value.slice a3 n3 c3).ownBlock = v.ownBlock ∨ (Value.slice a3 n3 c3).ownBlock = some (W.alloc (.cells #[encStr x.1] 9)).heap.size) := hob3
      clear hr hown' hg3 hnil3 hob3
      first
        | (exfalso; have e : w3.frozen? ⟨w.heap.size, 0, none⟩ = true := (by assumption); rw [ff3] at e; cases e; done)
        | (exfalso; have e : w3.cell? ⟨w.heap.size, 0, none⟩ = none := (by assumption); rw [cb3] at e; cases e; done)
        | skip
    have t3 : Turn v.ownBlock.toList W w3 := ((Turn.refl _ W).alloc _).grown HG3.out (by intro k hk; exact .inl (by simp [hk]))
    have t4 : Turn (w.heap.size :: v.ownBlock.toList) W (w3.setCell ⟨w.heap.size, 0, none⟩ (.slice a3 n3 c3)) := (t3.mono (by intro k hk; exact .inl (by simp only [List.mem_cons]; exact .inr hk))).setCell (by simp) _
    have hbox4 : (w3.setCell ⟨w.heap.size, 0, none⟩ (.slice a3 n3 c3)).heap[w.heap.size]? = some (.cells #[.slice a3 n3 c3] 34 (0, 0)) := by rw [heap_set HB3.out]; simp
    refine ⟨⟨t4.size, fun k o hB hk ho => t4.heap hk (fun e => ?_)⟩, ⟨t4.size, fun k cs t fr hk hn ho => t4.heap hk (fun e => ?_), ?_⟩, .slice a3 n3 c3, hbox4, ?_, HT.out.trans t4 (fun k hk => ?_)⟩
    · simp only [List.mem_cons, Option.mem_toList] at e
      rcases e with rfl | e
      · omega
      · obtain ⟨_, cur, hc⟩ := ownsRow_block HR.out e
        rw [hk] at hc; cases hc; cases ho
    · simp only [List.mem_cons, Option.mem_toList] at e
      rcases e with rfl | e
      · exact hn rfl
      · rw [ownOf_box HV.out] at ho
        exact ho e
    · rw [ownOf_box hbox4, ownOf_box HV.out]
      rcases HOB.out with h1 | h1
      · exact .inl h1
      · exact .inr ⟨_, h1, by simp⟩
    · have hq := HO.out.kept (((Turn.refl [w.heap.size] w3).setCell (p := ⟨w.heap.size, 0, none⟩) (by simp) (.slice a3 n3 c3)).grownBy (k := w.heap.size) (by simp)) (.inr (ownsRow_sep HO.out HB3.out (by decide)))
      simpa using hq
    · simp only [List.mem_cons, Option.mem_toList] at hk
      rcases hk with rfl | hk
      · exact .inr (Nat.le_refl _)
      · exact .inr (ownsRow_block HR.out hk).1
  case done =>
    rintro D xs W hD rfl ⟨v, hv, hr, ht⟩ hK
    have cb : W.cell? ⟨w.heap.size, 0, none⟩ = some v := by rw [cell_of hv]; rfl
    gi_wp2
    refine ⟨by simp, .inl ⟨_, _, rfl, run_takeDeferred hK, ?_⟩⟩
    have tD : Turn [D] W (W.putObj D (.deferred none)) := ⟨rfl, rfl, rfl, by simp, fun k _ hn => World.putObj_heap_other (by simpa using hn)⟩
    refine ⟨v, ?_, v, rfl, ownsRow_cells hr (tD.grownBy (k := D) (by simp)) (fun r e => by cases e; exact ⟨_, hK, rfl⟩), ht.trans tD (fun k hk => ?_)⟩
    · simp [results, Tryd.f90, go_sem]
    · simp only [List.mem_singleton] at hk
      exact .inr (by omega)
  case stop =>
    rintro D c pre W hD _ h _
    exact h.elim

theorem collect_any (h : Parts w base d F A mref ms) (s : ByteArray) (hs : s.size ≤ maxLen) (B1 B2 : Nat) (hB1 : w.heap[B1]? = some (.cells #[.pointer (some ⟨d, 0, none⟩)] 23 (0, 0))) (hB2 : w.heap[B2]? = some (.cells #[.string s] 9 (0, 0))) :
    Calls Tryd.prog 56 #[.func (.func 87) #[] #[.pointer (some ⟨B1, 0, none⟩), .pointer (some ⟨B2, 0, none⟩)]] w fun e w' =>
      ∃ v, e = .returned v ∧ w'.ownsRow w.heap.size 9 1 v (namesAt A s.data.toList).length ((namesAt A s.data.toList).map (fun x => encStr x.1)) ∧ Turn [] w w' := by
  have HC : Hid (Calls Tryd.prog 90 #[.slice none 0 0, .func (.func 87) #[] #[.pointer (some ⟨B1, 0, none⟩), .pointer (some ⟨B2, 0, none⟩)]] w fun e w' =>
      ∃ v, e = .returned v ∧ w'.ownsRow w.heap.size 9 1 v (namesAt A s.data.toList).length ((namesAt A s.data.toList).map (fun x => encStr x.1)) ∧ Turn [] w w') := appendSeq_any h s hs B1 B2 hB1 hB2
  clear h hB1 hB2
  go_enter Tryd.func56, Tryd.ntmps56
  go_wp2_with fail
  refine HC.out.mono ?_
  rintro e w' ⟨v, rfl, hr, ht⟩
  go_wp2
  go_ret
  exact ⟨v, rfl, hr, ht⟩

theorem list_any (h : Parts w base d F A mref ms) (s : ByteArray) (hs : s.size ≤ maxLen) :
    Calls Tryd.prog 26 #[.pointer (some ⟨d, 0, none⟩), .string s] w fun e w' =>
      ∃ v, e = .returned v ∧ w'.ownsRow w.heap.size 9 1 v (namesOf A s.data.toList).length ((namesOf A s.data.toList).map encStr) ∧ Turn [] w w' := by
  have H : Hid (Parts w base d F A mref ms) := h
  clear h
  go_enter Tryd.func26, Tryd.ntmps26
  go_wp2_with fail
  refine (callsIn_wide.1 (names_in d s w)).mono ?_
  rintro e w' ⟨rfl, rfl⟩
  go_wp2_with fail
  have t2 : Turn [] w ((w.alloc (.cells #[.pointer (some ⟨d, 0, none⟩)] 23)).alloc (.cells #[.string s] 9)) := ((Turn.refl [] w).alloc _).alloc _
  have e1 : ((w.alloc (.cells #[.pointer (some ⟨d, 0, none⟩)] 23)).alloc (.cells #[.string s] 9)).heap[w.heap.size]? = some (.cells #[.pointer (some ⟨d, 0, none⟩)] 23 (0, 0)) := by
    rw [Below.heap_alloc _ _ _ (by simp)]; exact heap_new w _
  have e2 : ((w.alloc (.cells #[.pointer (some ⟨d, 0, none⟩)] 23)).alloc (.cells #[.string s] 9)).heap[w.heap.size + 1]? = some (.cells #[.string s] 9 (0, 0)) := by
    have := heap_new (w.alloc (.cells #[.pointer (some ⟨d, 0, none⟩)] 23)) (.cells #[.string s] 9)
    rwa [World.size_alloc] at this
  refine (collect_any (H.out.kept t2 (by simp)) s hs w.heap.size (w.heap.size + 1) e1 e2).mono ?_
  rintro e w' ⟨v, rfl, hr, ht⟩
  go_wp2
  go_ret
  refine ⟨v, rfl, ?_, t2.trans ht (by simp)⟩
  rw [← namesAt_val, List.map_map, List.length_map]
  exact ⟨hr.1, hr.2.imp id (fun ⟨g, cap, cur, h1, h2, h3⟩ => ⟨g, cap, cur, h1, by simp at h2; omega, h3⟩)⟩
end

end Go.Proofs.YtlcgcckllecjpaaDoor.Dk
