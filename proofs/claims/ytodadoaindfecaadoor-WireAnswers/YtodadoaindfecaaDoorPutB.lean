/- record.putRecord, putBody. -/
import Derived.Test.YtodadoaindfecaaDoorPutT
namespace Go.Proofs.YtodadoaindfecaaDoor
open Go.RowKit Go.Maps
set_option maxRecDepth 100000
set_option linter.unusedSimpArgs false
set_option linter.unusedVariables false

theorem Grew.box {W w : World} {base : Nat} {v v' : Value} {b : List UInt8} (h : Grew W w base v v' b) {k : Nat} {cs : Array Value} {t : TypeId} (hk : W.heap[k]? = some (.cells cs t (0, 0))) (hn : ∀ x ∈ v.ownBlock, x ≠ k) : w.heap[k]? = some (.cells cs t (0, 0)) :=
  h.2.1.heap hk (fun hm => hn k (by simpa using hm) rfl)
theorem Grew.still {W w w2 : World} {base : Nat} {v v' : Value} {b : List UInt8} (h : Grew W w base v v' b) (k : Turn [] w w2) : Grew W w2 base v v' b :=
  ⟨h.1.kept k (by simp), h.2.1.trans k (by simp), h.2.2⟩
theorem Grew.refl {W : World} {base : Nat} {v : Value} {b : List UInt8} (h : RowAt W 5 base v b) : Grew W W base v v b := ⟨h, Turn.refl _ _, fun k hk => .inl hk⟩
/-- A record's cells in a box of the call's own. -/
theorem box_cells {w : World} {k : Nat} {r : Bt.Rec} (h : w.heap[k]? = some (.cells #[.int .i64 r.off, .int .i64 r.time, .bool r.keyed, .string ⟨r.key.toArray⟩, .bool r.gone, .string ⟨r.value.toArray⟩] 133 (0, 0))) :
    w.cell? ⟨k, 0, none⟩ = some (.int .i64 r.off) ∧ w.cell? ⟨k, 1, none⟩ = some (.int .i64 r.time) ∧ w.cell? ⟨k, 2, none⟩ = some (.bool r.keyed) ∧ w.cell? ⟨k, 3, none⟩ = some (.string ⟨r.key.toArray⟩) ∧ w.cell? ⟨k, 4, none⟩ = some (.bool r.gone) ∧ w.cell? ⟨k, 5, none⟩ = some (.string ⟨r.value.toArray⟩) :=
  ⟨by simpa using cell_of h 0, by simpa using cell_of h 1, by simpa using cell_of h 2, by simpa using cell_of h 3, by simpa using cell_of h 4, by simpa using cell_of h 5⟩
theorem put_len_le {n : Nat} (h : n ≤ 1099511627776) : (Nu.put n).length ≤ 6 := Nu.put_len6 h
theorem textB_len {s : List UInt8} (h : s.length ≤ 600) : (Bt.textB s).length ≤ s.length + 6 := by
  unfold Bt.textB
  have := Nu.put_len6 (show s.length ≤ 1099511627776 by omega)
  simp; omega
theorem mark_le (r : Bt.Rec) : Bt.mark r ≤ 3 := by unfold Bt.mark; split <;> split <;> omega
/-- What a record asks that is written. -/
structure RecFit (r : Bt.Rec) (b : Int) : Prop where
  lo : b ≤ r.off
  hi : r.off - b ≤ 1099511627776
  b0 : 0 ≤ b
  bT : b ≤ 1099511627776
  t0 : 0 ≤ r.time
  tT : r.time ≤ 1099511627776
  key : r.key.length ≤ 60
  value : r.value.length ≤ 500
theorem recB_len {r : Bt.Rec} {b : Int} (h : RecFit r b) : (Bt.recB b r).length ≤ 600 := by
  obtain ⟨h1, h2, h3, h4, h5, h6, h7, h8⟩ := h
  have a1 := Nu.put_len6 (show (r.off - b).toNat ≤ 1099511627776 by omega)
  have a2 := Nu.put_len6 (show r.time.toNat ≤ 1099511627776 by omega)
  have a3 := Nu.put_len6 (show Bt.mark r ≤ 1099511627776 by have := mark_le r; omega)
  have a4 := textB_len (show r.key.length ≤ 600 by omega)
  have a5 := textB_len (show r.value.length ≤ 600 by omega)
  unfold Bt.recB
  simp only [List.length_append]
  split <;> split <;> simp <;> omega

/-! ### the whole body -/
theorem recs_fit {hi base : Int} : ∀ (rs : List Bt.Rec) (lo : Int), base ≤ lo → Bt.recsErr rs lo hi = 0 → ∀ r ∈ rs, base ≤ r.off ∧ r.off < hi ∧ r.key.length ≤ 60 ∧ r.value.length ≤ 500 ∧ 0 ≤ r.time ∧ r.time ≤ 1099511627776
  | [], _, _, _, r, hr => by simp at hr
  | x :: rs, lo, hb, h, r, hr => by
    have h1 : Bt.recErr x lo hi = 0 := by
      unfold Bt.recsErr at h
      split at h
      · assumption
      · exact h
    have h2 : Bt.recsErr rs (x.off + 1) hi = 0 := by
      unfold Bt.recsErr at h
      rwa [if_pos h1] at h
    have hk := Bt.recErr_ok h1
    rcases List.mem_cons.1 hr with rfl | hr
    · exact ⟨by omega, hk.2.1, hk.2.2.2.2.1, hk.2.2.2.2.2.1, hk.2.2.2.2.2.2.1, hk.2.2.2.2.2.2.2⟩
    · exact recs_fit rs (x.off + 1) (by omega) h2 r hr
theorem bat_fit {x : Bt.Bat} (h : Bt.chk x = 0) : ∀ r ∈ x.recs, RecFit r x.base := by
  intro r hr
  obtain ⟨h1, h2, h3, h4, h5, h6⟩ := Bt.chk_ok h
  obtain ⟨a, b, c, d, e, f⟩ := recs_fit x.recs x.base (Int.le_refl _) h6 r hr
  exact ⟨a, by omega, h1, by omega, e, f, c, d⟩
theorem recsB_take {b : Int} {rs : List Bt.Rec} {k : Nat} (hk : k < rs.length) : Bt.recsB b (rs.take (k + 1)) = Bt.recsB b (rs.take k) ++ Bt.recB b rs[k] := by
  unfold Bt.recsB
  rw [List.take_succ_eq_append_getElem hk]
  simp only [List.flatMap_append, List.flatMap_cons, List.flatMap_nil, List.append_nil]
theorem recsB_len {b : Int} : ∀ (rs : List Bt.Rec), (∀ r ∈ rs, RecFit r b) → (Bt.recsB b rs).length ≤ 600 * rs.length
  | [], _ => by simp [Bt.recsB]
  | r :: rs, h => by
    have h1 := recB_len (h r (by simp))
    have h2 := recsB_len rs (fun x hx => h x (by simp [hx]))
    simp only [Bt.recsB, List.flatMap_cons, List.length_append, List.length_cons] at h2 ⊢
    omega

end Go.Proofs.YtodadoaindfecaaDoor
