/- wire's writer: a text, a record. -/
import Derived.Test.YtodadoaindfecaaDoorWie
import Derived.Test.YtodadoaindfecaaDoorWib
import Derived.Test.YtodadoaindfecaaDoorPutB
import Derived.Test.YtodadoaindfecaaDoorClo
namespace Go.Proofs.YtodadoaindfecaaDoor.Wi
open Go.RowKit Go.Maps
set_option maxRecDepth 100000
set_option linter.unusedSimpArgs false
set_option linter.unusedVariables false

theorem truth_any (w : World) (b : Bool) : Calls Tryd.prog 71 #[.bool b] w fun e w' => e = .returned (.int .i64 (tr b)) ∧ w' = w := by
  cases b
  all_goals
    go_enter Tryd.func71, Tryd.ntmps71
    go_wp2
    go_ret
    exact ⟨rfl, rfl⟩
theorem numbers_new (w : World) (wb base : Nat) (sv : Value) (s : WS) (h : MkAt wT As.errN w wb base sv s) (hbase : base ≤ w.heap.size) (l : List Int) {cs : Array Value} {n K : Nat} (hcs : cs = intsZ l) (hn : n = l.length) (hK : K = w.heap.size) (hl : l.length ≤ 9) (hsl : s.1.length ≤ 1000000) :
    Calls Tryd.prog 69 #[.pointer (some ⟨wb, 0, none⟩), .slice (some ⟨K, 0, none⟩) n n] (w.alloc (.cells cs 3)) fun e w' => e = .returned (.tuple #[]) ∧ ∃ sv', MkTo wT As.errN w w' wb base sv sv' (nums (cut s) l) := by
  subst hcs; subst hn; subst hK
  exact (numbers_any (w.alloc (.cells (intsZ l) 3)) wb base sv s (h.still ((Turn.refl [] w).alloc _)) (by simp; omega) w.heap.size l (heap_new w _) hl hsl).mono fun e w' ⟨h1, sv', h2⟩ => ⟨h1, sv', MkTo.pre ((Turn.refl [] w).alloc _) h2⟩
/-- A text's bytes behind a row, stored. -/
theorem MkAt.putS {T : TypeId} {ee : Int → Value} {w w2 : World} {wb base : Nat} {sv s2 : Value} {s : WS} {t : List UInt8} (h : MkAt T ee w wb base sv s) (h1 : RowAt w2 5 base s2 (s.1 ++ t)) (h2 : Turn sv.ownBlock.toList w w2) (h3 : ∀ k ∈ s2.ownBlock, k ∈ sv.ownBlock ∨ w.heap.size ≤ k) :
    MkTo T ee w (w2.setCell ⟨wb, 0, none⟩ s2) wb base sv s2 (s.1 ++ t, s.2) ∧ w2.heap[wb]? = some (.cells #[sv, ee s.2] T (0, 0)) :=
  ⟨h.put ⟨h1, h2, h3⟩, h2.heap h.1 (fun hm => h.2.2 wb (by simpa using hm) rfl)⟩
theorem cut_len (s : WS) : (cut s).1.length ≤ 10005 := by unfold cut; simp only [List.length_take]; omega

set_option maxHeartbeats 2000000 in
theorem text_any (w : World) (wb base : Nat) (sv : Value) (s : WS) (h : MkAt wT As.errN w wb base sv s) (hbase : base ≤ w.heap.size) (t : List UInt8) (most : Nat) (hm : most ≤ 1000) (ht : t.length ≤ 9223372036854775807) (hsl : s.1.length ≤ 1000000) :
    Calls Tryd.prog 70 #[.pointer (some ⟨wb, 0, none⟩), .string ⟨t.toArray⟩, .int .i64 most] w fun e w' => e = .returned (.tuple #[]) ∧ ∃ sv', MkTo wT As.errN w w' wb base sv sv' (pStep s (.tx t most)) := by
  obtain ⟨i0, hi, hz, hz1, hz2⟩ := infoB_parts
  have HM := hide h
  obtain ⟨⟨c0, c1⟩, f0, f1⟩ := h.cells
  have e2 : (Value.iface 34 (.int .i64 4)) = As.errN 4 := by simp [As.errN]
  have HE2 := hide e2
  clear h e2
  by_cases hb : most < t.length
  · have hb1 : (t.length : Int) > (most : Int) := by omega
    have hp : pStep s (.tx t most) = nums (cut (s.1, 4)) [0] := by rw [pStep_tx, if_pos hb]
    have HP := hide hp
    have hbad := HM.out.bad 4
    rw [← HE2.out] at hbad
    have HBAD := hide hbad
    have HSZ : Hid (base ≤ (w.setCell ⟨wb, 1, none⟩ (.iface 34 (.int .i64 4))).heap.size) := by show _ ≤ _; simpa using hbase
    have hnl := nums_len (cut (s.1, 4)) [0]
    have hcl := cut_len (s.1, 4)
    obtain ⟨q, hq⟩ : ∃ q, q = nums (cut (s.1, 4)) [0] := ⟨_, rfl⟩
    rw [← hq] at HP hnl
    have HQ := hide hq
    have hql : q.1.length ≤ 10100 := by simp at hnl; omega
    clear hp hb hbad hnl hcl hq
    go_enter Tryd.func70, Tryd.ntmps70
    go_wp2_with fail
    refine (numbers_new _ wb base sv (s.1, 4) HBAD.out.1 HSZ.out [0] (by rfl) (by rfl) (by simp) (by simp) hsl).mono ?_
    rintro e w1 ⟨rfl, sv1, hto⟩
    rw [← HQ.out] at hto
    have HTO := hide (HBAD.out.trans hto)
    have hszw := hto.2.1.size
    clear hto c0 c1 f0 f1
    obtain ⟨⟨c0, c1⟩, f0, f1⟩ := HTO.out.1.cells
    have hs1 := HTO.out.2.1.size
    go_wp2_with (at_builtin; go_must (refine wpList_append_str rfl _ _ 49 9 rfl 5 base i0 Tryd.underlying49 Tryd.underlying9 hi hz hz1 hz2 sv1 q.1 [] rfl rfl HTO.out.1.2.1 (by simp; omega) (by omega) ?_; intro v2 w2 hr2 ht2 ho2; obtain ⟨a3, n3, cp3, hv3⟩ := hr2.some_slice; subst hv3; have HG := hide (HTO.out.1.putS hr2 ht2 ho2); have c3 : w2.cell? ⟨wb, 0, none⟩ = some sv1 := (by simpa using cell_of HG.out.2 0); have f3 : w2.frozen? ⟨wb, 0, none⟩ = false := frozen_of HG.out.2 0; clear hr2 ht2 ho2))
    go_end0
    refine ⟨rfl, .slice a3 n3 cp3, ?_⟩
    have := HTO.out.trans HG.out.1
    rw [List.append_nil] at this
    rw [HP.out]
    exact this
  · have hb1 : ¬ (t.length : Int) > (most : Int) := by omega
    have hp : pStep s (.tx t most) = ((nums (cut s) [(t.length : Int)]).1 ++ t, (nums (cut s) [(t.length : Int)]).2) := by rw [pStep_tx, if_neg hb]
    have HP := hide hp
    have hnl := nums_len (cut s) [(t.length : Int)]
    have hcl := cut_len s
    have htm : t.length ≤ 1000 := by omega
    obtain ⟨q, hq⟩ : ∃ q, q = nums (cut s) [(t.length : Int)] := ⟨_, rfl⟩
    rw [← hq] at HP hnl
    have HQ := hide hq
    have hql : q.1.length ≤ 10100 := by simp at hnl; omega
    clear hp hb hnl hcl hq
    go_enter Tryd.func70, Tryd.ntmps70
    go_wp2_with fail
    refine (numbers_new _ wb base sv s HM.out hbase [(t.length : Int)] (by rfl) (by rfl) (by rfl) (by simp) hsl).mono ?_
    rintro e w1 ⟨rfl, sv1, hto⟩
    rw [← HQ.out] at hto
    have HTO := hide hto
    have hs1 := hto.2.1.size
    clear hto c0 c1 f0 f1
    obtain ⟨⟨c0, c1⟩, f0, f1⟩ := HTO.out.1.cells
    go_wp2_with (at_builtin; go_must (refine wpList_append_str rfl _ _ 49 9 rfl 5 base i0 Tryd.underlying49 Tryd.underlying9 hi hz hz1 hz2 sv1 q.1 t rfl rfl HTO.out.1.2.1 (by omega) (by omega) ?_; intro v2 w2 hr2 ht2 ho2; obtain ⟨a3, n3, cp3, hv3⟩ := hr2.some_slice; subst hv3; have HG := hide (HTO.out.1.putS hr2 ht2 ho2); have c3 : w2.cell? ⟨wb, 0, none⟩ = some sv1 := (by simpa using cell_of HG.out.2 0); have f3 : w2.frozen? ⟨wb, 0, none⟩ = false := frozen_of HG.out.2 0; clear hr2 ht2 ho2))
    go_end0
    refine ⟨rfl, .slice a3 n3 cp3, ?_⟩
    rw [HP.out]
    exact HTO.out.trans HG.out.1
theorem pStep_len (s : WS) : ∀ c : Cl, (match c with | .ns l => l.length ≤ 9 | .tx t m => m ≤ 1000) → (pStep s c).1.length ≤ 12000
  | .ns l, h => by
    have h1 := nums_len (cut s) l
    have h2 := cut_len s
    show (nums (cut s) l).1.length ≤ _
    simp only at h
    omega
  | .tx t m, h => by
    simp only at h
    rw [pStep_tx]
    have h1 := nums_len (cut s) [(t.length : Int)]
    have h2 := cut_len s
    have h3 := nums_len (cut (s.1, 4)) [0]
    have h4 := cut_len (s.1, 4)
    simp only [List.length_cons, List.length_nil] at h1 h3
    split
    · omega
    · simp only [List.length_append]; omega
end Go.Proofs.YtodadoaindfecaaDoor.Wi
