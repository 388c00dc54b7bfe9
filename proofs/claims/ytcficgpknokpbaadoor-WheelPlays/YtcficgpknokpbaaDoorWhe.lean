/- The wheel: append in place within a row that goes on; take. -/
import Derived.Test.YtcficgpknokpbaaDoorWhd
namespace Go.Proofs.YtcficgpknokpbaaDoor.Wh
open Go.RowKit Go.Maps
set_option maxRecDepth 100000
set_option linter.unusedSimpArgs false
set_option linter.unusedVariables false
attribute [local go_sem] Oper.semAt_some

theorem splice2 {l : List Value} {a : Nat} (h : a + 1 < l.length) (u v : Value) : l.take a ++ [u, v] ++ l.drop (a + 2) = (l.set a u).set (a + 1) v := by
  have e1 : l.drop a = l[a] :: l[a + 1] :: l.drop (a + 2) := by
    rw [List.drop_eq_getElem_cons (by omega), List.drop_eq_getElem_cons h]
  have e2 : l = l.take a ++ (l[a] :: l[a + 1] :: l.drop (a + 2)) := by rw [← e1, List.take_append_drop]
  have hl : (l.take a).length = a := by rw [List.length_take]; omega
  conv => rhs; rw [e2]
  rw [List.set_append_right _ _ (by omega), hl, Nat.sub_self, List.set_cons_zero, List.set_append_right _ _ (by omega), hl, show a + 1 - a = 1 by omega, List.set_cons_succ, List.set_cons_zero]
  simp
theorem wpList_appT {P : Program} {ops : Array Oper} {rest : List Oper} {o : Oper} {a : Act} {Q : Exit → Act → World → Prop} {w w' : World} (hgd : o.guard = none) {s x : Operand} {t tx : TypeId} {v xv v' : Value}
    (ho : o.op = .call { callee := .builtin .append, args := #[s, x], argTypes := #[t, tx] }) (hs : a.eval s = v) (hx : a.eval x = xv) (hr : (Builtin.append_ #[t, tx] o.type #[v, xv]).run P w = .ok v' w') (h : wpList P ops Q rest (a.put o.dst v') w') : wpList P ops Q (o :: rest) a w :=
  wpList_plain hgd fun _ hK => oper_appT ho hs hx hr (hK _ _ h)
theorem app_room (w : World) (base g n c : Nat) (M : List Tm) (i : Nat) (x : Tm) (k : Nat) (hrow : TR w base (.slice (some ⟨g, 0, none⟩) n c) M) (hi : i < M.length) (hk : w.heap[k]? = some (.cells (tmC x).toArray 52 (0, 0))) :
    ∃ w', (Builtin.append_ #[24, 24] 24 #[.slice (some ⟨g, 0, none⟩) i c, .slice (some ⟨k, 0, none⟩) 1 1]).run Tryd.prog w = .ok (.slice (some ⟨g, 0, none⟩) (i + 1) c) w' ∧ TR w' base (.slice (some ⟨g, 0, none⟩) n c) (M.set i x) ∧ Turn [g] w w' := by
  obtain ⟨ti, z, hti, hz, hzs, hsz, hb⟩ := infoTm_parts
  have hl : (tmC x).length = 1 * ti.size := by rw [hsz, tmC_len]
  have hnews : ∀ j u, (tmC x)[j]? = some u → w.cell? ((⟨k, 0, none⟩ : Addr).add j) = some u := fun j u hu => by
    rw [addr_add, cell_of hk]; simpa using hu
  rcases hrow with ⟨e, -⟩ | ⟨g', cap, cur, e, hbb, hg, h1, h2, h3, h4⟩
  · simp at e
  · simp only [Value.slice.injEq, Option.some.injEq, Addr.mk.injEq, true_and] at e
    obtain ⟨⟨rfl, -⟩, e2, rfl⟩ := e
    have hr := run_append_room (P := Tryd.prog) w 24 24 52 ti Tryd.underlying24 hti g i c cur hg ⟨k, 0, none⟩ 1 1 (tmC x) hl hnews (tmC_one x) (by omega) (by rw [hsz, tmC_len]; omega)
    rw [hsz] at hr
    refine ⟨_, hr, .inr ⟨g, c, _, by rw [List.length_set, ← e2], hbb, setRow_heap w g cur _ 52 _ hg, by rw [List.length_set]; exact h1, ?_, h3, ?_⟩, ⟨rfl, rfl, rfl, by simp, fun k _ hk => setRow_other w g k _ (fun e => hk (by simp [e]))⟩⟩
    · simp [tmC_len]; omega
    · rw [List.length_set]
      have hcs : (M.length) * 2 ≤ cur.toList.length := by have := Array.length_toList (xs := cur); omega
      have e : (cur.toList.take (i * 2) ++ tmC x ++ cur.toList.drop (i * 2 + (tmC x).length)) = (cur.toList.set (i * 2) (.int .i64 x.1)).set (i * 2 + 1) (.int .i64 x.2) := splice2 (by omega) _ _
      rw [e, List.take_set, List.take_set, h4]
      have g1 := gflat_set tmC_len M i 0 hi (.int .i64 x.1) (x.1, M[i].2) (by omega) rfl
      have g2 := gflat_set tmC_len (M.set i (x.1, M[i].2)) i 1 (by simpa using hi) (.int .i64 x.2) x (by omega) (by simp [tmC])
      rw [List.set_set] at g2
      rw [← g2, ← g1]
      rfl

/-- The beginning of a row. -/
theorem TR.pre {w : World} {base n c : Nat} {a : Option Addr} {S R : List Tm} (h : TR w base (.slice a n c) (S ++ R)) (hS : 0 < S.length) : TR w base (.slice a S.length c) S := by
  rcases h with ⟨e, e2⟩ | ⟨g, cap, cur, e, hb, hg, h1, h2, h3, h4⟩
  · have : S = [] := (List.append_eq_nil_iff.1 e2).1
    rw [this] at hS
    simp at hS
  · simp only [Value.slice.injEq] at e
    obtain ⟨rfl, -, rfl⟩ := e
    rw [List.length_append] at h1 h4
    refine .inr ⟨g, c, cur, rfl, hb, hg, by omega, h2, h3, ?_⟩
    have e1 : ((S ++ R).flatMap tmC).take (S.length * 2) = S.flatMap tmC := by
      rw [List.flatMap_append, List.take_append_of_le_length (by rw [gflat_len tmC_len]; exact Nat.le_refl _), List.take_of_length_le (by rw [gflat_len tmC_len]; exact Nat.le_refl _)]
    rw [← e1, ← h4, List.take_take, Nat.min_eq_left (by omega)]
/-- One slot and the map told anew. -/
theorem WAt.setAll {w w' : World} {base b now : Nat} {mref : Option Nat} {all all' : List Tm} {sv : Nat → Value} {sl : Nat → List Tm} (h : WAt w base b now mref all sv sl) {j : Nat} (hj : j < 448) {v' : Value} {l' : List Tm} (ht : Turn (b :: (mref.toList ++ (sv j).ownBlock.toList)) w w') (hc : WCells w' b now mref (setF sv j v')) (hm : TMap w' mref all') (hr : TR w' base v' l') (hv : ∀ k ∈ v'.ownBlock, k ∈ (sv j).ownBlock ∨ w.heap.size ≤ k) :
    WAt w' base b now mref all' (setF sv j v') (setF sl j l') := by
  have hother : ∀ i, i < 448 → i ≠ j → ∀ k ∈ (sv i).ownBlock, k ∉ b :: (mref.toList ++ (sv j).ownBlock.toList) := fun i hi hij k hk hm => by
    rcases List.mem_cons.1 hm with rfl | hm
    · exact h.row_b hi hk
    · rcases List.mem_append.1 hm with hm | hm
      · exact h.row_m hi k hk (by simpa using hm)
      · exact h.apart i j hi hj hij k hk (by simpa using hm)
  refine ⟨hc, h.lo, hm, h.mlo, fun i hi => ?_, fun i q hi hq hiq k hk hm => ?_⟩
  · by_cases e : i = j
    · subst e
      rw [setF_same, setF_same]
      exact hr
    · rw [setF_other _ _ e, setF_other _ _ e]
      exact (h.rows i hi).kept ht (hother i hi e)
  · by_cases e1 : i = j
    · subst e1
      rw [setF_same] at hk
      rw [setF_other _ _ (fun e => hiq e.symm)] at hm
      rcases hv k hk with h1 | h1
      · exact h.apart i q hi hq hiq k h1 hm
      · have := ((h.rows q hq).lt k hm).2
        omega
    · rw [setF_other _ _ e1] at hk
      by_cases e2 : q = j
      · subst e2
        rw [setF_same] at hm
        rcases hv k hm with h1 | h1
        · exact h.apart i q hi hq hiq k hk h1
        · have := ((h.rows i hi).lt k hk).2
          omega
      · rw [setF_other _ _ e2] at hm
        exact h.apart i q hi hq hiq k hk hm
/-- Taken out, one by one. -/
def dropAll (all l : List Tm) : List Tm := l.foldl (fun a x => dropT a x.2) all
theorem dropAll_snoc (all l : List Tm) (x : Tm) : dropAll all (l ++ [x]) = dropT (dropAll all l) x.2 := by simp [dropAll]
theorem dropT_sub (l : List Tm) (id : Int) : (dropT l id).Sublist l := List.filter_sublist
theorem dropAll_sub : ∀ (l all : List Tm), (dropAll all l).Sublist all
  | [], all => List.Sublist.refl _
  | x :: l, all => (dropAll_sub l (dropT all x.2)).trans (dropT_sub all x.2)
theorem nodup_sub {l m : List Tm} (h : l.Sublist m) (hn : (m.map (·.2)).Nodup) : (l.map (·.2)).Nodup := (h.map _).nodup hn
def goneT (goes : Tm → Bool) (l : List Tm) : List Tm := l.filter goes
def staysT (goes : Tm → Bool) (l : List Tm) : List Tm := l.filter (fun x => !goes x)
theorem gone_snoc (goes : Tm → Bool) (l : List Tm) {k : Nat} (h : k < l.length) : goneT goes (l.take (k + 1)) = if goes l[k] then goneT goes (l.take k) ++ [l[k]] else goneT goes (l.take k) := by
  unfold goneT
  rw [List.take_succ_eq_append_getElem h, List.filter_append]
  cases hg : goes l[k] <;> simp [hg]
theorem stays_snoc (goes : Tm → Bool) (l : List Tm) {k : Nat} (h : k < l.length) : staysT goes (l.take (k + 1)) = if goes l[k] then staysT goes (l.take k) else staysT goes (l.take k) ++ [l[k]] := by
  unfold staysT
  rw [List.take_succ_eq_append_getElem h, List.filter_append]
  cases hg : goes l[k] <;> simp [hg]
theorem stays_le (goes : Tm → Bool) (l : List Tm) (k : Nat) : (staysT goes (l.take k)).length ≤ k := by
  unfold staysT
  have h1 := List.length_filter_le (fun x => !goes x) (l.take k)
  rw [List.length_take] at h1
  omega
theorem gone_le (goes : Tm → Bool) (l : List Tm) (k : Nat) : (goneT goes (l.take k)).length ≤ k := by
  unfold goneT
  have h1 := List.length_filter_le goes (l.take k)
  rw [List.length_take] at h1
  omega
end Go.Proofs.YtcficgpknokpbaaDoor.Wh
