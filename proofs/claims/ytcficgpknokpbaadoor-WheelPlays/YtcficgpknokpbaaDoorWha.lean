/- The wheel's map: when each id's timer is due. -/
import Derived.Test.YtcficgpknokpbaaDoorSti
import Derived.Maps.OwnSet
import Derived.Sort.KeysCollected
namespace Go.Proofs.YtcficgpknokpbaaDoor.Wh
open Go.RowKit Go.Maps
set_option maxRecDepth 100000
set_option linter.unusedSimpArgs false
set_option linter.unusedVariables false

def findT (l : List Tm) (id : Int) : Option Tm := l.find? (fun x => x.2 == id)
def dropT (l : List Tm) (id : Int) : List Tm := l.filter (fun x => !(x.2 == id))
def atT (o : Option Tm) (z : DataW Unit) : DataW Unit := match o with
  | some x => .lit (.int .i64 x.1)
  | none => z
theorem lawI : Keyed Tryd.prog 3 := int_keyed Tryd.underlying3
theorem zeroI (w : World) : (zeroValue 3).run Tryd.prog w = .ok (.int .i64 0) w := by kernel_rfl
theorem lit_ne {a b : Int} (h : a ≠ b) : (Lit.int .i64 a) ≠ Lit.int .i64 b := by simpa using h
theorem isKeyI (a : Int) : WideAt.IsKeyLit (.int .i64 a) := trivial
/-- The map has these timers. -/
def TReads (D : DataW Unit) (l : List Tm) : Prop := size D = l.length ∧ ∀ id z, D.atKey (.int .i64 id) z = atT (findT l id) z
def TMap (w : World) (mref : Option Nat) (l : List Tm) : Prop := match mref with
  | none => l = []
  | some mb => ∃ D : DataW Unit, w.ownsMap Tryd.prog 3 (plainElem Tryd.prog 3) mb l.length D ∧ TReads D l
theorem ownsMap_turn {w w' : World} {P : Program} {k : TypeId} {R : Value → Option (DataW Unit × List MemPlace)} {b n : Nat} {D : DataW Unit} {S : List Nat} (h : w.ownsMap P k R b n D) (ht : Turn S w w') (hn : b ∉ S) : w'.ownsMap P k R b n D := by
  obtain ⟨es, clock, hb, r⟩ := h
  exact ⟨es, clock, ht.heap hb hn, r⟩
theorem ownsMap_tight {w : World} {P : Program} {k : TypeId} {R : Value → Option (DataW Unit × List MemPlace)} {b n : Nat} {D : DataW Unit} (h : w.ownsMap P k R b n D) : w.ownsMap P k R b (size D) D := by
  obtain ⟨es, clock, hb, F, hs, rfl⟩ := h
  exact ⟨es, clock, hb, F, by simp [size, length_sorted], rfl⟩
theorem TMap.kept {w w' : World} {mref : Option Nat} {l : List Tm} {S : List Nat} (h : TMap w mref l) (ht : Turn S w w') (hn : ∀ k ∈ mref, k ∉ S) : TMap w' mref l := by
  cases mref with
  | none => exact h
  | some mb => obtain ⟨D, h1, h2⟩ := h; exact ⟨D, ownsMap_turn h1 ht (hn mb rfl), h2⟩
theorem TMap.still {w w' : World} {mref : Option Nat} {l : List Tm} (h : TMap w mref l) (ht : Turn [] w w') : TMap w' mref l := h.kept ht (by simp)
theorem TMap.lt {w : World} {mref : Option Nat} {l : List Tm} (h : TMap w mref l) : ∀ k ∈ mref, k < w.heap.size := by
  intro k hk
  cases mref with
  | none => simp at hk
  | some mb => obtain ⟨D, h1, _⟩ := h; simp at hk; subst hk; exact h1.lt
/-- It is a map's block. -/
theorem TMap.ne {w : World} {mref : Option Nat} {l : List Tm} (h : TMap w mref l) {k : Nat} {cs : Array Value} {T : TypeId} {fr : Nat × Nat} (hk : w.heap[k]? = some (.cells cs T fr)) : k ∉ mref := by
  intro hm
  cases mref with
  | none => simp at hm
  | some mb =>
    simp at hm
    subst hm
    obtain ⟨D, ⟨es, clock, hb, -⟩, -⟩ := h
    rw [hb] at hk
    simp at hk
theorem has_of_reads {D : DataW Unit} {l : List Tm} (h : TReads D l) (id : Int) : has D (.int .i64 id) = (findT l id).isSome := by
  cases hf : findT l id with
  | none => exact has_false_of_atKey (fun z => by rw [h.2, hf]; rfl)
  | some m => exact has_true_of_atKey (y := .lit (.int .i64 m.1)) (fun z => by rw [h.2, hf]; rfl)
theorem TMap.look {w : World} {mref : Option Nat} {l : List Tm} (h : TMap w mref l) {id : Int} (hw : (Lit.int .i64 id).wf = true) :
    (Instr.lookup 23 (.map mref) (.int .i64 id) true).run Tryd.prog w = .ok (.tuple #[.int .i64 (((findT l id).map (·.1)).getD 0), .bool (findT l id).isSome]) w := by
  cases mref with
  | none =>
    have h' : l = [] := h
    subst h'
    exact look_nil true lawI Tryd.underlying23 (zeroI w) (keyOf_int_mk Tryd.underlying3 hw)
  | some mb =>
    obtain ⟨D, h1, h2⟩ := h
    obtain ⟨v, ps, hrun, hv⟩ := h1.look_ok lawI Tryd.underlying23 (zeroI w) (zd := .lit (.int .i64 0)) (zp := []) (plainElem_int Tryd.underlying3 (by decide)) (keyOf_int_mk Tryd.underlying3 hw)
    obtain ⟨c, rfl, hc, hwc⟩ := plainElem_int_inv Tryd.underlying3 hv
    have hc1 := congrArg Prod.fst hc
    simp only at hc1
    rw [h2.2] at hc1
    rw [hrun, has_of_reads h2]
    cases hf : findT l id with
    | none =>
      rw [hf] at hc1
      simp only [atT, DataW.lit.injEq, Lit.int.injEq, true_and] at hc1
      simp [← hc1]
    | some m =>
      rw [hf] at hc1
      simp only [atT, DataW.lit.injEq, Lit.int.injEq, true_and] at hc1
      simp [hc1]
theorem TMap.len {w : World} {mref : Option Nat} {l : List Tm} (h : TMap w mref l) (ty : TypeId) : (Builtin.len_ #[23] ty #[.map mref]).run Tryd.prog w = .ok (.int .i64 l.length) w := by
  cases mref with
  | none =>
    have h' : l = [] := h
    subst h'
    exact Maps.len_nil Tryd.underlying23 ty
  | some mb =>
    obtain ⟨D, h1, h2, h3⟩ := h
    rw [h1.len Tryd.underlying23 ty, h2]
theorem TMap.made (w : World) : TMap (w.alloc (.map #[] 0)) (some w.heap.size) [] :=
  ⟨.map [], World.ownsMap_made _ _ _ _, rfl, fun id z => rfl⟩
theorem findT_append (l : List Tm) (x : Tm) (id : Int) : findT (l ++ [x]) id = (findT l id).or (if x.2 == id then some x else none) := by
  unfold findT
  rw [List.find?_append]
  congr 1
  simp [List.find?_cons]
  split <;> simp_all
theorem TMap.put {w : World} {mb : Nat} {l : List Tm} (h : TMap w (some mb) l) {x : Tm} (h1 : (Lit.int .i64 x.1).wf = true) (h2 : (Lit.int .i64 x.2).wf = true) (hx : findT l x.2 = none) (hl : l.length ≤ 1000000) :
    ∃ w', (Instr.mapUpdate 23 (.map (some mb)) (.int .i64 x.2) (.int .i64 x.1)).run Tryd.prog w = .ok () w' ∧ TMap w' (some mb) (l ++ [x]) ∧ Turn [mb] w w' := by
  obtain ⟨D, ho, hr⟩ := h
  have hm : maxLen = 9223372036854775807 := by simp [maxLen]
  have hT := ho.tidy lawI
  obtain ⟨w', hrun, ho', hg⟩ := ho.update lawI Tryd.underlying23 (by rw [hm]; omega) (keyOf_int_mk Tryd.underlying3 h2) (plainElem_int Tryd.underlying3 h1)
  have hrd : TReads (D.put (.int .i64 x.2) (.lit (.int .i64 x.1))) (l ++ [x]) := by
    refine ⟨?_, fun id z => ?_⟩
    · rw [size_put hT, has_of_reads hr, hx, hr.1]
      simp
    · rw [findT_append]
      by_cases e : id = x.2
      · subst e
        rw [atKey_put_same hT.isMap (isKeyI _), hx]
        simp [atT]
      · rw [atKey_put_other (lit_ne e), hr.2]
        have : (x.2 == id) = false := by simpa using fun e' => e e'.symm
        simp [this]
  refine ⟨w', hrun, ⟨_, ?_, hrd⟩, (Turn.refl _ _).grown hg (by intro k hk; cases hk; exact .inl (by simp))⟩
  have := ownsMap_tight ho'
  rwa [hrd.1] at this
theorem findT_drop_same (l : List Tm) (id : Int) : findT (dropT l id) id = none := by
  unfold findT dropT
  rw [List.find?_eq_none]
  intro m hm
  have := (List.mem_filter.1 hm).2
  simpa using this
theorem findT_drop_other : ∀ (l : List Tm) {id k : Int}, k ≠ id → findT (dropT l id) k = findT l k
  | [], _, _, _ => rfl
  | x :: l, id, k, h => by
    have ih := findT_drop_other l h
    unfold findT dropT at *
    by_cases e : x.2 = id
    · have e1 : (x.2 == k) = false := by rw [e]; simpa using fun e' => h e'.symm
      have e2 : (x.2 == id) = true := by simpa using e
      simp only [List.filter_cons, e2, Bool.not_true, Bool.false_eq_true, if_false, List.find?_cons, e1]
      exact ih
    · have e2 : (x.2 == id) = false := by simpa using e
      simp only [List.filter_cons, e2, Bool.not_false, if_true, List.find?_cons]
      rw [ih]
theorem dropT_length (l : List Tm) (id : Int) (hn : (l.map (·.2)).Nodup) : (dropT l id).length + (if (findT l id).isSome then 1 else 0) = l.length := by
  induction l with
  | nil => rfl
  | cons m r ih =>
    simp only [List.map_cons, List.nodup_cons] at hn
    have ih := ih hn.2
    unfold dropT findT at *
    by_cases hm : m.2 = id
    · have hr : r.find? (fun x => x.2 == id) = none := by
        rw [List.find?_eq_none]
        intro x hx
        have : x.2 ≠ m.2 := fun e => hn.1 (by rw [← e]; exact List.mem_map.2 ⟨x, hx, rfl⟩)
        simpa [← hm] using this
      rw [hr] at ih
      simp [hm] at ih ⊢
      exact ih
    · have hm' : (m.2 == id) = false := by simpa using hm
      simp only [List.filter_cons, hm', List.find?_cons, Bool.not_false, if_true, List.length_cons]
      omega
theorem TMap.del {w : World} {mb : Nat} {l : List Tm} (h : TMap w (some mb) l) (hn : (l.map (·.2)).Nodup) {id : Int} (hw : (Lit.int .i64 id).wf = true) (ty : TypeId) :
    ∃ w', (Builtin.delete_ #[23, 3] ty #[.map (some mb), .int .i64 id]).run Tryd.prog w = .ok (.tuple #[]) w' ∧ TMap w' (some mb) (dropT l id) ∧ Turn [mb] w w' := by
  obtain ⟨D, ho, hr⟩ := h
  have hT := ho.tidy lawI
  obtain ⟨w', hrun, ho', hg⟩ := ho.drop lawI Tryd.underlying23 (keyOf_int_mk Tryd.underlying3 hw) ty
  have hrd : TReads (D.del (.int .i64 id)) (dropT l id) := by
    refine ⟨?_, fun k z => ?_⟩
    · have h1 := size_del (k := .int .i64 id) hT
      rw [has_of_reads hr, hr.1] at h1
      have h2 := dropT_length l id hn
      omega
    · by_cases e : k = id
      · subst e
        rw [atKey_del_same, findT_drop_same]
        rfl
      · rw [atKey_del_other (lit_ne e), hr.2, findT_drop_other _ e]
  refine ⟨w', hrun, ⟨_, ?_, hrd⟩, (Turn.refl _ _).grown hg.grown (by intro k hk; cases hk; exact .inl (by simp))⟩
  have := ownsMap_tight ho'
  rwa [hrd.1] at this
end Go.Proofs.YtcficgpknokpbaaDoor.Wh
