/- The wheel: Add. -/
import Derived.Test.YtcficgpknokpbaaDoorWhj
namespace Go.Proofs.YtcficgpknokpbaaDoor.Wh
open Go.RowKit Go.Maps
set_option maxRecDepth 100000
set_option linter.unusedSimpArgs false
set_option linter.unusedVariables false
attribute [local go_sem] Oper.semAt_some

theorem wf_of {t : Nat} (ht : t ≤ 1099511627776) : (Lit.int .i64 (t : Int)).wf = true := by
  simp [Lit.wf, IntKind.min, IntKind.max, IntKind.signed, IntKind.bits]
  omega
theorem eq_nil (w : World) : (binOp BinOp.eql 23 (.map none) (.map none)).run Tryd.prog w = .ok (.bool true) w := by kernel_rfl
theorem eq_some (mb : Nat) (w : World) : (binOp BinOp.eql 23 (.map (some mb)) (.map none)).run Tryd.prog w = .ok (.bool false) w := by kernel_rfl
theorem make_map (w : World) : (Instr.makeMap 23 none).run Tryd.prog w = .ok (.map (some w.heap.size)) (w.alloc (.map #[] 0)) := by
  simp [Instr.makeMap, run_underlying Tryd.underlying23]
/-- The map and its block told anew, the slots as they are. -/
theorem WAt.setMap {w w' : World} {base b now : Nat} {mref m' : Option Nat} {all all' : List Tm} {sv : Nat → Value} {sl : Nat → List Tm} (h : WAt w base b now mref all sv sl) (ht : Turn (b :: mref.toList) w w') (hc : WCells w' b now m' sv) (hm : TMap w' m' all') (hl : ∀ q ∈ m', q ∈ mref ∨ w.heap.size ≤ q) : WAt w' base b now m' all' sv sl :=
  ⟨hc, h.lo, hm, fun q hq => (hl q hq).elim (h.mlo q) (fun h1 => by have := h.lo; have := h.blt; omega), fun j hj => (h.rows j hj).kept ht (fun q hq hmm => by
    rcases List.mem_cons.1 hmm with rfl | hmm
    · exact h.row_b hj hq
    · exact h.row_m hj q hq (by simpa using hmm)), h.apart⟩
set_option maxHeartbeats 2000000 in
theorem add_any (w : World) (base b now : Nat) (F : List Nat) (all : List Tm) (h : WheelAt w base b F now all) (hl : all.length < 10000) (t : Nat) (ht : t ≤ 1099511627776) (id : Int) (hw : (Lit.int .i64 id).wf = true) (hf : findT all id = none) :
    Calls Tryd.prog 6 #[.pointer (some ⟨b, 0, none⟩), .int .i64 t, .int .i64 id] w fun e w' => e = .returned .nilIface ∧ ∃ F', WheelAt w' base b F' now (all ++ [((t : Int), id)]) ∧ Turn F w w' ∧ ∀ q ∈ F', q ∈ F ∨ w.heap.size ≤ q := by
  obtain ⟨mref, sv, sl, hW, hI, rfl⟩ := h
  have hlook := hW.map.look hw
  rw [hf] at hlook
  simp only [Option.map_none, Option.getD_none, Option.isSome_none] at hlook
  have hlen := fun ty => hW.map.len ty
  obtain ⟨c0, c1, ff, z0⟩ := hW.cells.head
  have f1 := ff 1
  have HW := hide hW
  have HI := hide hI
  have HF := hide hf
  have hnow := hI.le
  obtain ⟨j, hj⟩ : ∃ j, j = slotJ now t := ⟨_, rfl⟩
  have hj448 : j < 448 := by rw [hj]; exact slotJ_lt hnow ht
  have HJ := hide hj
  have hsl := hI.slen hj448
  clear hW hI hf hj ff
  have ht1 : ¬ (t : Int) > 1099511627776 := by omega
  have hl1 : ¬ (all.length : Int) ≥ 10000 := by omega
  cases mref with
  | none =>
    have hall : all = [] := HW.out.map
    subst hall
    -- a new map
    obtain ⟨w1, hw1⟩ : ∃ w1, w1 = (w.setCell ⟨b, 1, none⟩ (.map (some w.heap.size))).alloc (.map #[] 0) := ⟨_, rfl⟩
    have hs0 : Turn [b] w (w.setCell ⟨b, 1, none⟩ (.map (some w.heap.size))) := (Turn.refl [b] w).setCell (.inl (by simp)) _
    have hT1 : Turn [b] w w1 := by rw [hw1]; exact hs0.alloc _
    have hm1 : TMap w1 (some w.heap.size) [] := by
      have := TMap.made (w.setCell ⟨b, 1, none⟩ (.map (some w.heap.size)))
      rw [World.size_setCell] at this
      rw [hw1]
      exact this
    have hc1 : WCells w1 b now (some w.heap.size) sv := by rw [hw1]; exact (HW.out.cells.setMap _).kept ((Turn.refl [] _).alloc _) (by simp)
    have hat1 : WAt w1 base b now (some w.heap.size) [] sv sl := HW.out.setMap (by simpa using hT1) hc1 hm1 (fun q hq => .inr (by simp at hq; omega))
    obtain ⟨w2, hr2, hm2, ht2⟩ := hm1.put (x := ((t : Int), id)) (wf_of ht) hw rfl (by simp)
    have hb1 : b ∉ [w.heap.size] := by simp; omega
    have hat2 : WAt w2 base b now (some w.heap.size) ([] ++ [((t : Int), id)]) sv sl := hat1.setMap (ht2.mono (fun q hq => .inl (by simp at hq ⊢; exact .inr hq))) (hat1.cells.kept ht2 hb1) hm2 (fun q hq => .inl hq)
    have hput := put_any w2 base b now (some w.heap.size) _ sv sl hat2 hnow t ht id j HJ.out (by omega)
    have HPUT := hide hput
    have HR2 := hide hr2
    have hT2 : Turn [b] w w2 := hT1.trans ht2 (fun q hq => .inr (by simp at hq; omega))
    have HT2 := hide hT2
    have HW1 := hide hw1
    obtain ⟨k0, k1, -, y0⟩ := hat1.cells.head
    rw [hw1] at k1 y0 hr2
    have hr2' := hr2
    clear hs0 hT1 hm1 hc1 hat1 hm2 ht2 hb1 hat2 hput hT2 hw1 k0
    unfold tmV at HPUT
    have heq := eq_nil
    have hmk := make_map
    go_enter Tryd.func6, Tryd.ntmps6
    go_wp2_with fail
    refine HPUT.out.mono ?_
    rintro e w3 ⟨rfl, v', hat3, ht3, ho3⟩
    have hin := add_inv HI.out ht hw HF.out hl
    rw [← HJ.out] at hin
    have HIN := hide hin
    have HAT := hide hat3
    have HT3 := hide ht3
    have HO3 := hide ho3
    clear hin hat3 ht3 ho3 HPUT hr2 hr2' k1 y0 c0 c1 f1 z0 heq hmk
    go_wp2
    go_ret
    refine ⟨rfl, _, ⟨_, _, _, HAT.out, HIN.out, rfl⟩, ?_, ?_⟩
    · refine (HT2.out.mono (fun q hq => by obtain rfl := List.mem_singleton.1 hq; exact .inl (mem_wfoot.2 (.inl rfl)))).trans HT3.out (fun q hq => .inl ?_)
      rcases List.mem_cons.1 hq with rfl | hq
      · exact mem_wfoot.2 (.inl rfl)
      · exact mem_wfoot.2 (.inr (.inr ⟨j, hj448, by simpa using hq⟩))
    · intro q hq
      rcases mem_wfoot.1 hq with rfl | hq | ⟨i, hi, hq⟩
      · exact .inl (mem_wfoot.2 (.inl rfl))
      · exact .inr (by simp at hq; omega)
      · by_cases e : i = j
        · subst e
          rw [setF_same] at hq
          rcases HO3.out q hq with h1 | h1
          · exact .inl (mem_wfoot.2 (.inr (.inr ⟨i, hi, h1⟩)))
          · have := HT2.out.size
            exact .inr (by omega)
        · rw [setF_other _ _ e] at hq
          exact .inl (mem_wfoot.2 (.inr (.inr ⟨i, hi, hq⟩)))
  | some mb =>
    obtain ⟨w2, hr2, hm2, ht2⟩ := HW.out.map.put (x := ((t : Int), id)) (wf_of ht) hw HF.out (by omega)
    have hb1 : b ∉ [mb] := fun hm => HW.out.map_b (by simp at hm ⊢; exact hm.symm)
    have hat2 : WAt w2 base b now (some mb) (all ++ [((t : Int), id)]) sv sl := HW.out.setMap (ht2.mono (fun q hq => .inl (by simp at hq ⊢; exact .inr hq))) (HW.out.cells.kept ht2 hb1) hm2 (fun q hq => .inl hq)
    have hput := put_any w2 base b now (some mb) _ sv sl hat2 hnow t ht id j HJ.out (by omega)
    have HPUT := hide hput
    have HT2 := hide ht2
    have heq := eq_some mb
    clear hm2 ht2 hb1 hat2 hput
    unfold tmV at HPUT
    go_enter Tryd.func6, Tryd.ntmps6
    go_wp2_with fail
    refine HPUT.out.mono ?_
    rintro e w3 ⟨rfl, v', hat3, ht3, ho3⟩
    have hin := add_inv HI.out ht hw HF.out hl
    rw [← HJ.out] at hin
    have HIN := hide hin
    have HAT := hide hat3
    have HT3 := hide ht3
    have HO3 := hide ho3
    clear hin hat3 ht3 ho3 HPUT hr2 c0 c1 f1 z0 heq
    go_wp2
    go_ret
    refine ⟨rfl, _, ⟨_, _, _, HAT.out, HIN.out, rfl⟩, ?_, ?_⟩
    · refine (HT2.out.mono (fun q hq => by obtain rfl := List.mem_singleton.1 hq; exact .inl (mem_wfoot.2 (.inr (.inl (by simp)))))).trans HT3.out (fun q hq => .inl ?_)
      rcases List.mem_cons.1 hq with rfl | hq
      · exact mem_wfoot.2 (.inl rfl)
      · exact mem_wfoot.2 (.inr (.inr ⟨j, hj448, by simpa using hq⟩))
    · intro q hq
      rcases mem_wfoot.1 hq with rfl | hq | ⟨i, hi, hq⟩
      · exact .inl (mem_wfoot.2 (.inl rfl))
      · exact .inl (mem_wfoot.2 (.inr (.inl hq)))
      · by_cases e : i = j
        · subst e
          rw [setF_same] at hq
          rcases HO3.out q hq with h1 | h1
          · exact .inl (mem_wfoot.2 (.inr (.inr ⟨i, hi, h1⟩)))
          · have := HT2.out.size
            exact .inr (by omega)
        · rw [setF_other _ _ e] at hq
          exact .inl (mem_wfoot.2 (.inr (.inr ⟨i, hi, hq⟩)))
end Go.Proofs.YtcficgpknokpbaaDoor.Wh
