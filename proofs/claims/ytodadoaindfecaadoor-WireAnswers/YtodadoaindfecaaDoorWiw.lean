/- wire's reader: what it makes (a struct under way); a record, a placed one, a topic. -/
import Derived.Test.YtodadoaindfecaaDoorWiv
import Derived.Test.YtodadoaindfecaaDoorWih
import Derived.Test.YtodadoaindfecaaDoorRdB
import Derived.Deep.CutBlock
import Derived.Deep.DeepCutAuto
namespace Go.Proofs.YtodadoaindfecaaDoor.Wi
open Go.RowKit Go.Maps
set_option maxRecDepth 100000
set_option linter.unusedSimpArgs false
set_option linter.unusedVariables false

/-- Cells stored one behind the other. -/
def setN (Y : Nat) : World → List Value → Nat → World
  | w, [], _ => w
  | w, v :: vs, k => setN Y (w.setCell ⟨Y, k, none⟩ v) vs (k + 1)
theorem setN_turn (Y : Nat) : ∀ (vs : List Value) (k : Nat) (w : World), Turn [Y] w (setN Y w vs k)
  | [], _, w => Turn.refl _ _
  | v :: vs, k, w => ((Turn.refl [Y] w).setCell (.inl (by simp)) v).same (setN_turn Y vs (k + 1) _)
theorem setN_heap {Y : Nat} {T : TypeId} : ∀ (vs : List Value) (k : Nat) (ys : List Value) (w : World), w.heap[Y]? = some (.cells ys.toArray T (0, 0)) → k + vs.length ≤ ys.length →
    (setN Y w vs k).heap[Y]? = some (.cells (ys.take k ++ vs ++ ys.drop (k + vs.length)).toArray T (0, 0))
  | [], k, ys, w, h, hl => by simpa [setN, List.take_append_drop] using h
  | v :: vs, k, ys, w, h, hl => by
    simp only [List.length_cons] at hl
    have h1 : (w.setCell ⟨Y, k, none⟩ v).heap[Y]? = some (.cells (ys.set k v).toArray T (0, 0)) := by simpa using heap_set h k v
    have h2 := setN_heap vs (k + 1) (ys.set k v) _ h1 (by simp; omega)
    show (setN Y (w.setCell ⟨Y, k, none⟩ v) vs (k + 1)).heap[Y]? = _
    rw [h2]
    have e1 : (ys.set k v).take (k + 1) = ys.take k ++ [v] := by
      rw [List.take_succ_eq_append_getElem (by simp; omega)]
      rw [List.take_set_of_le (Nat.le_refl k)]
      simp
    have e2 : (ys.set k v).drop (k + 1 + vs.length) = ys.drop (k + (vs.length + 1)) := by
      rw [List.drop_set_of_lt (by omega), show k + 1 + vs.length = k + (vs.length + 1) by omega]
    rw [e1, e2]
    simp only [List.length_cons, List.append_assoc, List.cons_append, List.nil_append]
/-- A struct under way: its own box, the box of what is answered, the reader. -/
structure Cn (T : TypeId) (w0 w : World) (rb B X Y : Nat) (cs ys : List Value) (l : List UInt8) : Prop where
  hx : w0.heap.size ≤ X
  hy : w0.heap.size ≤ Y
  hxy : X ≠ Y
  x : w.heap[X]? = some (.cells cs.toArray T (0, 0))
  y : w.heap[Y]? = some (.cells ys.toArray T (0, 0))
  rd : RdW w rb B l
  turn : Turn [rb] w0 w
section
variable {T : TypeId} {w0 w w' : World} {rb B X Y : Nat} {cs ys : List Value} {l l' : List UInt8}
theorem Cn.num (h : Cn T w0 w rb B X Y cs ys l) (hrb : rb < w0.heap.size) (ht : Turn [rb] w w') (hrd : RdW w' rb B l') : Cn T w0 w' rb B X Y cs ys l' :=
  ⟨h.hx, h.hy, h.hxy, ht.heap h.x (by have := h.hx; simp; omega), ht.heap h.y (by have := h.hy; simp; omega), hrd, h.turn.same ht⟩
theorem Cn.set (h : Cn T w0 w rb B X Y cs ys l) (hrb : rb < w0.heap.size) (hB : B ≤ rb) (i : Nat) (v : Value) : Cn T w0 (w.setCell ⟨X, i, none⟩ v) rb B X Y (cs.set i v) ys l := by
  have ht : Turn [X] w (w.setCell ⟨X, i, none⟩ v) := (Turn.refl _ _).setCell (.inl (by simp)) _
  have hx := h.hx
  exact ⟨h.hx, h.hy, h.hxy, by simpa using heap_set h.x i v, ht.heap h.y (by simpa using fun e => h.hxy e.symm), h.rd.kept ht (by simp; omega) (by simp; omega), h.turn.trans ht (fun k hk => .inr (by simp at hk; omega))⟩
theorem Cn.cell (h : Cn T w0 w rb B X Y cs ys l) (i : Nat) : w.cell? ⟨X, i, none⟩ = cs[i]? ∧ w.frozen? ⟨X, i, none⟩ = false ∧ w.cell? ⟨Y, i, none⟩ = ys[i]? ∧ w.frozen? ⟨Y, i, none⟩ = false := by
  refine ⟨?_, frozen_of h.x i, ?_, frozen_of h.y i⟩
  · rw [cell_of h.x]; simp
  · rw [cell_of h.y]; simp
theorem Cn.fin (h : Cn T w0 w rb B X Y cs ys l) (hrb : rb < w0.heap.size) (hB : B ≤ rb) (hl : cs.length = ys.length) :
    (setN Y w cs 0).heap[Y]? = some (.cells cs.toArray T (0, 0)) ∧ RdW (setN Y w cs 0) rb B l ∧ Turn [rb] w0 (setN Y w cs 0) := by
  have ht := setN_turn Y cs 0 w
  have hy := h.hy
  refine ⟨?_, h.rd.kept ht (by simp; omega) (by simp; omega), h.turn.trans ht (fun k hk => .inr (by simp at hk; omega))⟩
  have := setN_heap cs 0 ys w h.y (by omega)
  rw [this]
  simp [hl]
end
theorem sizeTp (w : World) : (sizeOf 102).run Tryd.prog w = .ok 3 w := by kernel_rfl
theorem aggTp (w : World) : (isAgg 102).run Tryd.prog w = .ok true w := by kernel_rfl
theorem load3 {w : World} {Y : Nat} {a b c : Value} (h : w.heap[Y]? = some (.cells #[a, b, c] 102 (0, 0))) : (loadVar 102 ⟨Y, 0, none⟩).run Tryd.prog w = .ok (.agg #[a, b, c]) w := by
  have c0 : w.cell? ⟨Y, 0, none⟩ = some a := by simpa using cell_of h 0
  have c1 : w.cell? ⟨Y, 1, none⟩ = some b := by simpa using cell_of h 1
  have c2 : w.cell? ⟨Y, 2, none⟩ = some c := by simpa using cell_of h 2
  simp [loadVar, aggTp, sizeTp, Result.andThen, loadCells, loadCellsFrom, addr_add, c0, c1, c2]
theorem load6 {w : World} {Y : Nat} {a b c d e f : Value} (h : w.heap[Y]? = some (.cells #[a, b, c, d, e, f] 133 (0, 0))) : (loadVar 133 ⟨Y, 0, none⟩).run Tryd.prog w = .ok (.agg #[a, b, c, d, e, f]) w := by
  have c0 : w.cell? ⟨Y, 0, none⟩ = some a := by simpa using cell_of h 0
  have c1 : w.cell? ⟨Y, 1, none⟩ = some b := by simpa using cell_of h 1
  have c2 : w.cell? ⟨Y, 2, none⟩ = some c := by simpa using cell_of h 2
  have c3 : w.cell? ⟨Y, 3, none⟩ = some d := by simpa using cell_of h 3
  have c4 : w.cell? ⟨Y, 4, none⟩ = some e := by simpa using cell_of h 4
  have c5 : w.cell? ⟨Y, 5, none⟩ = some f := by simpa using cell_of h 5
  simp [loadVar, agg98, size98, Result.andThen, loadCells, loadCellsFrom, addr_add, c0, c1, c2, c3, c4, c5]
def zR : List Value := [.int .i64 0, .int .i64 0, .bool false, .string ⟨#[]⟩, .bool false, .string ⟨#[]⟩]
theorem RdW.lt {w : World} {rb B : Nat} {l : List UInt8} (h : RdW w rb B l) : rb < w.heap.size := by obtain ⟨sv, h1, -⟩ := h; exact lt_of_heap h1
/-- Where the boxes stand when the first numbers are read. -/
theorem Cn.start {T : TypeId} {w wy w2 : World} {rb B : Nat} {ys cs : List Value} {l : List UInt8} (hwy : wy = w.alloc (.cells ys.toArray T)) (ht : Turn [rb] wy w2) (hrb : rb < w.heap.size) (hr : RdW w2 rb B l) :
    Cn T w (w2.alloc (.cells cs.toArray T)) rb B w2.heap.size w.heap.size cs ys l := by
  have hsz : w.heap.size < wy.heap.size := by rw [hwy]; simp
  have h2 := ht.size
  have hy : w2.heap[w.heap.size]? = some (.cells ys.toArray T (0, 0)) := ht.heap (by rw [hwy]; exact heap_new w _) (by simp; omega)
  refine ⟨by omega, Nat.le_refl _, by omega, heap_new w2 _, ((Turn.refl [] w2).alloc _).heap hy (by simp), hr.still ((Turn.refl [] w2).alloc _), ?_⟩
  have h0 : Turn [rb] w wy := by rw [hwy]; exact (Turn.refl _ w).alloc _
  exact (h0.same ht).alloc _
--GEN
set_option maxHeartbeats 4000000 in
theorem rrec_any (w : World) (rb B : Nat) (l : List UInt8) (h : RdW w rb B l) (hB : B ≤ rb) (hl : l.length ≤ 1000000) :
    Calls Tryd.prog 78 #[.pointer (some ⟨rb, 0, none⟩)] w fun e w' => e = .returned (recV (recP l).1) ∧ RdW w' rb B (recP l).2 ∧ Turn [rb] w w' := by
  have hrb := h.lt
  obtain ⟨n0, r0, e0⟩ : ∃ n r, Bt.num l = (n, r) := ⟨_, _, rfl⟩
  obtain ⟨n1, r1, e1⟩ : ∃ n r, Bt.num r0 = (n, r) := ⟨_, _, rfl⟩
  have g0 := num_len l
  have g1 := num_len r0
  rw [e0] at g0
  rw [e1] at g1
  simp only at g0 g1
  obtain ⟨wy, hwy⟩ : ∃ wy, wy = w.alloc (.cells zR.toArray 133) := ⟨_, rfl⟩
  have hty : Turn [] w wy := by rw [hwy]; exact (Turn.refl [] w).alloc _
  have E0 := hide e0
  have E1 := hide e1
  have HWY := hide hwy
  have HRY := hide (h.still hty)
  clear h hwy hty e0 e1
  go_enter Tryd.func78, Tryd.ntmps78
  go_wp2_with fail
  rw [show w.alloc (.cells #[.int .i64 0, .int .i64 0, .bool false, .string ⟨#[]⟩, .bool false, .string ⟨#[]⟩] 133) = wy from HWY.out.symm]
  refine (wnum_any _ rb B l HRY.out hB hl).mono ?_
  rintro e w1 ⟨rfl, hr1, ht1⟩
  rw [E0.out] at hr1 ⊢
  have HR1 := hide hr1
  have HT1 := hide ht1
  clear hr1 ht1
  go_wp2_with fail
  refine (wtru_any _ rb B r0 HR1.out hB (by omega)).mono ?_
  rintro e w2 ⟨rfl, hr2, ht2⟩
  rw [E1.out] at hr2 ⊢
  simp only at hr2 ⊢
  have hc3 := Cn.start (cs := [.int .i64 0, .int .i64 n0, .bool (decide (n1 = 1)), .string ⟨#[]⟩, .bool false, .string ⟨#[]⟩]) HWY.out (HT1.out.same ht2) hrb hr2
  obtain ⟨X, hX⟩ : ∃ X, X = w2.heap.size := ⟨_, rfl⟩
  obtain ⟨wx, hwx⟩ : ∃ wx, wx = w2.alloc (.cells #[.int .i64 0, .int .i64 n0, .bool (decide (n1 = 1)), .string ⟨#[]⟩, .bool false, .string ⟨#[]⟩] 133) := ⟨_, rfl⟩
  have hc3' : Cn 133 w wx rb B X w.heap.size [.int .i64 0, .int .i64 n0, .bool (decide (n1 = 1)), .string ⟨#[]⟩, .bool false, .string ⟨#[]⟩] zR r1 := by
    rw [hwx, hX]; exact hc3
  have HC3 := hide hc3'
  have HWX := hide hwx
  have HX := hide hX
  clear hc3 hc3' hwx hX hr2 ht2
  have HN : Hid (X < wx.heap.size) := lt_of_heap HC3.out.x
  by_cases q1 : n1 = 1
  · obtain ⟨k0, k1, ek⟩ : ∃ k r, Bt.text r1 = (k, r) := ⟨_, _, rfl⟩
    have gk := text_len r1
    rw [ek] at gk
    simp only at gk
    obtain ⟨n2, r2, e2⟩ : ∃ n r, Bt.num k1 = (n, r) := ⟨_, _, rfl⟩
    have g2 := num_len k1
    rw [e2] at g2
    simp only at g2
    have E2 := hide e2
    have EK := hide ek
    have HC4 : Hid (Cn 133 w wx rb B X w.heap.size [.int .i64 0, .int .i64 n0, .bool true, .string ⟨#[]⟩, .bool false, .string ⟨#[]⟩] zR r1) := by
      have := HC3.out
      rwa [show decide (n1 = 1) = true by simp [q1]] at this
    have hnx : wx = w2.alloc (.cells #[.int .i64 0, .int .i64 n0, .bool true, .string ⟨#[]⟩, .bool false, .string ⟨#[]⟩] 133) := by
      have := HWX.out
      rwa [show decide (n1 = 1) = true by simp [q1]] at this
    have HNX := hide hnx
    have hdd : decide (n1 = 1) = true := by simp [q1]
    rw [hdd]
    have Q1 : Hid (n1 = 1 ↔ True) := by show _ ↔ _; simp [q1]
    clear hnx HC3 HWX hdd e2 q1 ek
    go_upto_region 2 with fail
    rw [show w2.alloc (.cells #[.int .i64 0, .int .i64 n0, .bool true, .string ⟨#[]⟩, .bool false, .string ⟨#[]⟩] 133) = wx from HNX.out.symm]
    rw [← HX.out]
    obtain ⟨c0, f0, y0, g0⟩ := HC4.out.cell 0
    simp only [zR, List.set_cons_zero, List.set_cons_succ, List.getElem?_cons_zero, List.getElem?_cons_succ] at c0 y0
    obtain ⟨c1, f1, y1, g1⟩ := HC4.out.cell 1
    simp only [zR, List.set_cons_zero, List.set_cons_succ, List.getElem?_cons_zero, List.getElem?_cons_succ] at c1 y1
    obtain ⟨c2, f2, y2, g2⟩ := HC4.out.cell 2
    simp only [zR, List.set_cons_zero, List.set_cons_succ, List.getElem?_cons_zero, List.getElem?_cons_succ] at c2 y2
    obtain ⟨c3, f3, y3, g3⟩ := HC4.out.cell 3
    simp only [zR, List.set_cons_zero, List.set_cons_succ, List.getElem?_cons_zero, List.getElem?_cons_succ] at c3 y3
    obtain ⟨c4, f4, y4, g4⟩ := HC4.out.cell 4
    simp only [zR, List.set_cons_zero, List.set_cons_succ, List.getElem?_cons_zero, List.getElem?_cons_succ] at c4 y4
    obtain ⟨c5, f5, y5, g5⟩ := HC4.out.cell 5
    simp only [zR, List.set_cons_zero, List.set_cons_succ, List.getElem?_cons_zero, List.getElem?_cons_succ] at c5 y5
    go_wp2_with fail
    refine (wtext_any _ rb B r1 HC4.out.rd hB (by omega)).mono ?_
    rintro e w3 ⟨rfl, hr3, ht3⟩
    rw [EK.out] at hr3 ⊢
    simp only [strV] at hr3 ⊢
    have HC5 := hide (HC4.out.num hrb ht3 hr3)
    clear hr3 ht3
    clear c0 f0 y0 g0 c1 f1 y1 g1 c2 f2 y2 g2 c3 f3 y3 g3 c4 f4 y4 g4 c5 f5 y5 g5
    obtain ⟨c0, f0, y0, g0⟩ := HC5.out.cell 0
    simp only [zR, List.set_cons_zero, List.set_cons_succ, List.getElem?_cons_zero, List.getElem?_cons_succ] at c0 y0
    obtain ⟨c1, f1, y1, g1⟩ := HC5.out.cell 1
    simp only [zR, List.set_cons_zero, List.set_cons_succ, List.getElem?_cons_zero, List.getElem?_cons_succ] at c1 y1
    obtain ⟨c2, f2, y2, g2⟩ := HC5.out.cell 2
    simp only [zR, List.set_cons_zero, List.set_cons_succ, List.getElem?_cons_zero, List.getElem?_cons_succ] at c2 y2
    obtain ⟨c3, f3, y3, g3⟩ := HC5.out.cell 3
    simp only [zR, List.set_cons_zero, List.set_cons_succ, List.getElem?_cons_zero, List.getElem?_cons_succ] at c3 y3
    obtain ⟨c4, f4, y4, g4⟩ := HC5.out.cell 4
    simp only [zR, List.set_cons_zero, List.set_cons_succ, List.getElem?_cons_zero, List.getElem?_cons_succ] at c4 y4
    obtain ⟨c5, f5, y5, g5⟩ := HC5.out.cell 5
    simp only [zR, List.set_cons_zero, List.set_cons_succ, List.getElem?_cons_zero, List.getElem?_cons_succ] at c5 y5
    have HC6 := hide (HC5.out.set hrb hB 3 (.string ⟨k0.toArray⟩))
    simp only [List.set_cons_zero, List.set_cons_succ] at HC6
    go_wp2_with fail
    refine (wtru_any _ rb B k1 HC6.out.rd hB (by omega)).mono ?_
    rintro e w4 ⟨rfl, hr4, ht4⟩
    rw [E2.out] at hr4 ⊢
    simp only at hr4 ⊢
    have HC7 := hide (HC6.out.num hrb ht4 hr4)
    clear hr4 ht4
    clear c0 f0 y0 g0 c1 f1 y1 g1 c2 f2 y2 g2 c3 f3 y3 g3 c4 f4 y4 g4 c5 f5 y5 g5
    obtain ⟨c0, f0, y0, g0⟩ := HC7.out.cell 0
    simp only [zR, List.set_cons_zero, List.set_cons_succ, List.getElem?_cons_zero, List.getElem?_cons_succ] at c0 y0
    obtain ⟨c1, f1, y1, g1⟩ := HC7.out.cell 1
    simp only [zR, List.set_cons_zero, List.set_cons_succ, List.getElem?_cons_zero, List.getElem?_cons_succ] at c1 y1
    obtain ⟨c2, f2, y2, g2⟩ := HC7.out.cell 2
    simp only [zR, List.set_cons_zero, List.set_cons_succ, List.getElem?_cons_zero, List.getElem?_cons_succ] at c2 y2
    obtain ⟨c3, f3, y3, g3⟩ := HC7.out.cell 3
    simp only [zR, List.set_cons_zero, List.set_cons_succ, List.getElem?_cons_zero, List.getElem?_cons_succ] at c3 y3
    obtain ⟨c4, f4, y4, g4⟩ := HC7.out.cell 4
    simp only [zR, List.set_cons_zero, List.set_cons_succ, List.getElem?_cons_zero, List.getElem?_cons_succ] at c4 y4
    obtain ⟨c5, f5, y5, g5⟩ := HC7.out.cell 5
    simp only [zR, List.set_cons_zero, List.set_cons_succ, List.getElem?_cons_zero, List.getElem?_cons_succ] at c5 y5
    have HC8 := hide (HC7.out.set hrb hB 4 (.bool (decide (n2 = 1))))
    simp only [List.set_cons_zero, List.set_cons_succ] at HC8
    by_cases q2 : n2 = 1
    · have hg : decide (n2 = 1) = true := by simp [q2]
      rw [hg] at HC8 ⊢
      have HE : Hid (recP l = (⟨0, n0, true, k0, true, []⟩, r2)) := by
        show _ = _
        unfold recP
        simp [E0.out, E1.out, EK.out, E2.out, Q1.out, q2]
      clear hg q2
      have hxy1 : ¬ X = w.heap.size := HC8.out.hxy
      have hxy2 : ¬ w.heap.size = X := fun e => hxy1 e.symm
      clear c0 f0 c1 f1 c2 f2 c3 f3 c5 f5 y0 g0 y1 g1 y2 g2 y3 g3 y4 g4 y5 g5
      obtain ⟨cz0, fz0, yz0, gz0⟩ := HC8.out.cell 0
      simp only [zR, List.set_cons_zero, List.set_cons_succ, List.getElem?_cons_zero, List.getElem?_cons_succ] at cz0 yz0
      obtain ⟨cz1, fz1, yz1, gz1⟩ := HC8.out.cell 1
      simp only [zR, List.set_cons_zero, List.set_cons_succ, List.getElem?_cons_zero, List.getElem?_cons_succ] at cz1 yz1
      obtain ⟨cz2, fz2, yz2, gz2⟩ := HC8.out.cell 2
      simp only [zR, List.set_cons_zero, List.set_cons_succ, List.getElem?_cons_zero, List.getElem?_cons_succ] at cz2 yz2
      obtain ⟨cz3, fz3, yz3, gz3⟩ := HC8.out.cell 3
      simp only [zR, List.set_cons_zero, List.set_cons_succ, List.getElem?_cons_zero, List.getElem?_cons_succ] at cz3 yz3
      obtain ⟨cz4, fz4, yz4, gz4⟩ := HC8.out.cell 4
      simp only [zR, List.set_cons_zero, List.set_cons_succ, List.getElem?_cons_zero, List.getElem?_cons_succ] at cz4 yz4
      obtain ⟨cz5, fz5, yz5, gz5⟩ := HC8.out.cell 5
      simp only [zR, List.set_cons_zero, List.set_cons_succ, List.getElem?_cons_zero, List.getElem?_cons_succ] at cz5 yz5
      go_wp2
      have hf := HC8.out.fin hrb hB rfl
      have hld := load6 hf.1
      simp only [setN, Nat.reduceAdd] at hf hld
      refine bodyPost_ret (v := recV ⟨0, n0, true, k0, true, []⟩) (by simp [results, Tryd.results78, asAddr, hld, Result.andThen, recV, strV, recC]) rfl ?_
      rw [HE.out]
      exact ⟨rfl, hf.2.1, hf.2.2⟩
    · have hg : decide (n2 = 1) = false := by simp [q2]
      rw [hg] at HC8 ⊢
      obtain ⟨v0, v1, ev⟩ : ∃ k r, Bt.text r2 = (k, r) := ⟨_, _, rfl⟩
      have EV := hide ev
      have HE : Hid (recP l = (⟨0, n0, true, k0, false, v0⟩, v1)) := by
        show _ = _
        unfold recP
        simp [E0.out, E1.out, EK.out, E2.out, Q1.out, q2, ev]
      clear hg q2 ev
      go_wp2_with fail
      refine (wtext_any _ rb B r2 HC8.out.rd hB (by omega)).mono ?_
      rintro e w5 ⟨rfl, hr5, ht5⟩
      rw [EV.out] at hr5 ⊢
      simp only [strV] at hr5 ⊢
      have HC9 := hide (HC8.out.num hrb ht5 hr5)
      clear hr5 ht5
      clear c0 f0 y0 g0 c1 f1 y1 g1 c2 f2 y2 g2 c3 f3 y3 g3 c4 f4 y4 g4 c5 f5 y5 g5
      obtain ⟨c0, f0, y0, g0⟩ := HC9.out.cell 0
      simp only [zR, List.set_cons_zero, List.set_cons_succ, List.getElem?_cons_zero, List.getElem?_cons_succ] at c0 y0
      obtain ⟨c1, f1, y1, g1⟩ := HC9.out.cell 1
      simp only [zR, List.set_cons_zero, List.set_cons_succ, List.getElem?_cons_zero, List.getElem?_cons_succ] at c1 y1
      obtain ⟨c2, f2, y2, g2⟩ := HC9.out.cell 2
      simp only [zR, List.set_cons_zero, List.set_cons_succ, List.getElem?_cons_zero, List.getElem?_cons_succ] at c2 y2
      obtain ⟨c3, f3, y3, g3⟩ := HC9.out.cell 3
      simp only [zR, List.set_cons_zero, List.set_cons_succ, List.getElem?_cons_zero, List.getElem?_cons_succ] at c3 y3
      obtain ⟨c4, f4, y4, g4⟩ := HC9.out.cell 4
      simp only [zR, List.set_cons_zero, List.set_cons_succ, List.getElem?_cons_zero, List.getElem?_cons_succ] at c4 y4
      obtain ⟨c5, f5, y5, g5⟩ := HC9.out.cell 5
      simp only [zR, List.set_cons_zero, List.set_cons_succ, List.getElem?_cons_zero, List.getElem?_cons_succ] at c5 y5
      have HC10 := hide (HC9.out.set hrb hB 5 (.string ⟨v0.toArray⟩))
      simp only [List.set_cons_zero, List.set_cons_succ] at HC10
      have hxy1 : ¬ X = w.heap.size := HC10.out.hxy
      have hxy2 : ¬ w.heap.size = X := fun e => hxy1 e.symm
      clear c0 f0 c1 f1 c2 f2 c3 f3 c4 f4 y0 g0 y1 g1 y2 g2 y3 g3 y4 g4 y5 g5
      obtain ⟨cz0, fz0, yz0, gz0⟩ := HC10.out.cell 0
      simp only [zR, List.set_cons_zero, List.set_cons_succ, List.getElem?_cons_zero, List.getElem?_cons_succ] at cz0 yz0
      obtain ⟨cz1, fz1, yz1, gz1⟩ := HC10.out.cell 1
      simp only [zR, List.set_cons_zero, List.set_cons_succ, List.getElem?_cons_zero, List.getElem?_cons_succ] at cz1 yz1
      obtain ⟨cz2, fz2, yz2, gz2⟩ := HC10.out.cell 2
      simp only [zR, List.set_cons_zero, List.set_cons_succ, List.getElem?_cons_zero, List.getElem?_cons_succ] at cz2 yz2
      obtain ⟨cz3, fz3, yz3, gz3⟩ := HC10.out.cell 3
      simp only [zR, List.set_cons_zero, List.set_cons_succ, List.getElem?_cons_zero, List.getElem?_cons_succ] at cz3 yz3
      obtain ⟨cz4, fz4, yz4, gz4⟩ := HC10.out.cell 4
      simp only [zR, List.set_cons_zero, List.set_cons_succ, List.getElem?_cons_zero, List.getElem?_cons_succ] at cz4 yz4
      obtain ⟨cz5, fz5, yz5, gz5⟩ := HC10.out.cell 5
      simp only [zR, List.set_cons_zero, List.set_cons_succ, List.getElem?_cons_zero, List.getElem?_cons_succ] at cz5 yz5
      go_wp2
      have hf := HC10.out.fin hrb hB rfl
      have hld := load6 hf.1
      simp only [setN, Nat.reduceAdd] at hf hld
      refine bodyPost_ret (v := recV ⟨0, n0, true, k0, false, v0⟩) (by simp [results, Tryd.results78, asAddr, hld, Result.andThen, recV, strV, recC]) rfl ?_
      rw [HE.out]
      exact ⟨rfl, hf.2.1, hf.2.2⟩
  · obtain ⟨n2, r2, e2⟩ : ∃ n r, Bt.num r1 = (n, r) := ⟨_, _, rfl⟩
    have g2 := num_len r1
    rw [e2] at g2
    simp only at g2
    have E2 := hide e2

    have HC4 : Hid (Cn 133 w wx rb B X w.heap.size [.int .i64 0, .int .i64 n0, .bool false, .string ⟨#[]⟩, .bool false, .string ⟨#[]⟩] zR r1) := by
      have := HC3.out
      rwa [show decide (n1 = 1) = false by simp [q1]] at this
    have hnx : wx = w2.alloc (.cells #[.int .i64 0, .int .i64 n0, .bool false, .string ⟨#[]⟩, .bool false, .string ⟨#[]⟩] 133) := by
      have := HWX.out
      rwa [show decide (n1 = 1) = false by simp [q1]] at this
    have HNX := hide hnx
    have hdd : decide (n1 = 1) = false := by simp [q1]
    rw [hdd]
    have Q1 : Hid (n1 = 1 ↔ False) := by show _ ↔ _; simp [q1]
    clear hnx HC3 HWX hdd e2 q1 
    go_upto_region 2 with fail
    rw [show w2.alloc (.cells #[.int .i64 0, .int .i64 n0, .bool false, .string ⟨#[]⟩, .bool false, .string ⟨#[]⟩] 133) = wx from HNX.out.symm]
    rw [← HX.out]
    obtain ⟨c0, f0, y0, g0⟩ := HC4.out.cell 0
    simp only [zR, List.set_cons_zero, List.set_cons_succ, List.getElem?_cons_zero, List.getElem?_cons_succ] at c0 y0
    obtain ⟨c1, f1, y1, g1⟩ := HC4.out.cell 1
    simp only [zR, List.set_cons_zero, List.set_cons_succ, List.getElem?_cons_zero, List.getElem?_cons_succ] at c1 y1
    obtain ⟨c2, f2, y2, g2⟩ := HC4.out.cell 2
    simp only [zR, List.set_cons_zero, List.set_cons_succ, List.getElem?_cons_zero, List.getElem?_cons_succ] at c2 y2
    obtain ⟨c3, f3, y3, g3⟩ := HC4.out.cell 3
    simp only [zR, List.set_cons_zero, List.set_cons_succ, List.getElem?_cons_zero, List.getElem?_cons_succ] at c3 y3
    obtain ⟨c4, f4, y4, g4⟩ := HC4.out.cell 4
    simp only [zR, List.set_cons_zero, List.set_cons_succ, List.getElem?_cons_zero, List.getElem?_cons_succ] at c4 y4
    obtain ⟨c5, f5, y5, g5⟩ := HC4.out.cell 5
    simp only [zR, List.set_cons_zero, List.set_cons_succ, List.getElem?_cons_zero, List.getElem?_cons_succ] at c5 y5
    go_wp2_with fail
    refine (wtru_any _ rb B r1 HC4.out.rd hB (by omega)).mono ?_
    rintro e w4 ⟨rfl, hr4, ht4⟩
    rw [E2.out] at hr4 ⊢
    simp only at hr4 ⊢
    have HC7 := hide (HC4.out.num hrb ht4 hr4)
    clear hr4 ht4
    clear c0 f0 y0 g0 c1 f1 y1 g1 c2 f2 y2 g2 c3 f3 y3 g3 c4 f4 y4 g4 c5 f5 y5 g5
    obtain ⟨c0, f0, y0, g0⟩ := HC7.out.cell 0
    simp only [zR, List.set_cons_zero, List.set_cons_succ, List.getElem?_cons_zero, List.getElem?_cons_succ] at c0 y0
    obtain ⟨c1, f1, y1, g1⟩ := HC7.out.cell 1
    simp only [zR, List.set_cons_zero, List.set_cons_succ, List.getElem?_cons_zero, List.getElem?_cons_succ] at c1 y1
    obtain ⟨c2, f2, y2, g2⟩ := HC7.out.cell 2
    simp only [zR, List.set_cons_zero, List.set_cons_succ, List.getElem?_cons_zero, List.getElem?_cons_succ] at c2 y2
    obtain ⟨c3, f3, y3, g3⟩ := HC7.out.cell 3
    simp only [zR, List.set_cons_zero, List.set_cons_succ, List.getElem?_cons_zero, List.getElem?_cons_succ] at c3 y3
    obtain ⟨c4, f4, y4, g4⟩ := HC7.out.cell 4
    simp only [zR, List.set_cons_zero, List.set_cons_succ, List.getElem?_cons_zero, List.getElem?_cons_succ] at c4 y4
    obtain ⟨c5, f5, y5, g5⟩ := HC7.out.cell 5
    simp only [zR, List.set_cons_zero, List.set_cons_succ, List.getElem?_cons_zero, List.getElem?_cons_succ] at c5 y5
    have HC8 := hide (HC7.out.set hrb hB 4 (.bool (decide (n2 = 1))))
    simp only [List.set_cons_zero, List.set_cons_succ] at HC8
    by_cases q2 : n2 = 1
    · have hg : decide (n2 = 1) = true := by simp [q2]
      rw [hg] at HC8 ⊢
      have HE : Hid (recP l = (⟨0, n0, false, [], true, []⟩, r2)) := by
        show _ = _
        unfold recP
        simp [E0.out, E1.out, E2.out, Q1.out, q2]
      clear hg q2
      have hxy1 : ¬ X = w.heap.size := HC8.out.hxy
      have hxy2 : ¬ w.heap.size = X := fun e => hxy1 e.symm
      clear c0 f0 c1 f1 c2 f2 c3 f3 c5 f5 y0 g0 y1 g1 y2 g2 y3 g3 y4 g4 y5 g5
      obtain ⟨cz0, fz0, yz0, gz0⟩ := HC8.out.cell 0
      simp only [zR, List.set_cons_zero, List.set_cons_succ, List.getElem?_cons_zero, List.getElem?_cons_succ] at cz0 yz0
      obtain ⟨cz1, fz1, yz1, gz1⟩ := HC8.out.cell 1
      simp only [zR, List.set_cons_zero, List.set_cons_succ, List.getElem?_cons_zero, List.getElem?_cons_succ] at cz1 yz1
      obtain ⟨cz2, fz2, yz2, gz2⟩ := HC8.out.cell 2
      simp only [zR, List.set_cons_zero, List.set_cons_succ, List.getElem?_cons_zero, List.getElem?_cons_succ] at cz2 yz2
      obtain ⟨cz3, fz3, yz3, gz3⟩ := HC8.out.cell 3
      simp only [zR, List.set_cons_zero, List.set_cons_succ, List.getElem?_cons_zero, List.getElem?_cons_succ] at cz3 yz3
      obtain ⟨cz4, fz4, yz4, gz4⟩ := HC8.out.cell 4
      simp only [zR, List.set_cons_zero, List.set_cons_succ, List.getElem?_cons_zero, List.getElem?_cons_succ] at cz4 yz4
      obtain ⟨cz5, fz5, yz5, gz5⟩ := HC8.out.cell 5
      simp only [zR, List.set_cons_zero, List.set_cons_succ, List.getElem?_cons_zero, List.getElem?_cons_succ] at cz5 yz5
      go_wp2
      have hf := HC8.out.fin hrb hB rfl
      have hld := load6 hf.1
      simp only [setN, Nat.reduceAdd] at hf hld
      refine bodyPost_ret (v := recV ⟨0, n0, false, [], true, []⟩) (by simp [results, Tryd.results78, asAddr, hld, Result.andThen, recV, strV, recC]) rfl ?_
      rw [HE.out]
      exact ⟨rfl, hf.2.1, hf.2.2⟩
    · have hg : decide (n2 = 1) = false := by simp [q2]
      rw [hg] at HC8 ⊢
      obtain ⟨v0, v1, ev⟩ : ∃ k r, Bt.text r2 = (k, r) := ⟨_, _, rfl⟩
      have EV := hide ev
      have HE : Hid (recP l = (⟨0, n0, false, [], false, v0⟩, v1)) := by
        show _ = _
        unfold recP
        simp [E0.out, E1.out, E2.out, Q1.out, q2, ev]
      clear hg q2 ev
      go_wp2_with fail
      refine (wtext_any _ rb B r2 HC8.out.rd hB (by omega)).mono ?_
      rintro e w5 ⟨rfl, hr5, ht5⟩
      rw [EV.out] at hr5 ⊢
      simp only [strV] at hr5 ⊢
      have HC9 := hide (HC8.out.num hrb ht5 hr5)
      clear hr5 ht5
      clear c0 f0 y0 g0 c1 f1 y1 g1 c2 f2 y2 g2 c3 f3 y3 g3 c4 f4 y4 g4 c5 f5 y5 g5
      obtain ⟨c0, f0, y0, g0⟩ := HC9.out.cell 0
      simp only [zR, List.set_cons_zero, List.set_cons_succ, List.getElem?_cons_zero, List.getElem?_cons_succ] at c0 y0
      obtain ⟨c1, f1, y1, g1⟩ := HC9.out.cell 1
      simp only [zR, List.set_cons_zero, List.set_cons_succ, List.getElem?_cons_zero, List.getElem?_cons_succ] at c1 y1
      obtain ⟨c2, f2, y2, g2⟩ := HC9.out.cell 2
      simp only [zR, List.set_cons_zero, List.set_cons_succ, List.getElem?_cons_zero, List.getElem?_cons_succ] at c2 y2
      obtain ⟨c3, f3, y3, g3⟩ := HC9.out.cell 3
      simp only [zR, List.set_cons_zero, List.set_cons_succ, List.getElem?_cons_zero, List.getElem?_cons_succ] at c3 y3
      obtain ⟨c4, f4, y4, g4⟩ := HC9.out.cell 4
      simp only [zR, List.set_cons_zero, List.set_cons_succ, List.getElem?_cons_zero, List.getElem?_cons_succ] at c4 y4
      obtain ⟨c5, f5, y5, g5⟩ := HC9.out.cell 5
      simp only [zR, List.set_cons_zero, List.set_cons_succ, List.getElem?_cons_zero, List.getElem?_cons_succ] at c5 y5
      have HC10 := hide (HC9.out.set hrb hB 5 (.string ⟨v0.toArray⟩))
      simp only [List.set_cons_zero, List.set_cons_succ] at HC10
      have hxy1 : ¬ X = w.heap.size := HC10.out.hxy
      have hxy2 : ¬ w.heap.size = X := fun e => hxy1 e.symm
      clear c0 f0 c1 f1 c2 f2 c3 f3 c4 f4 y0 g0 y1 g1 y2 g2 y3 g3 y4 g4 y5 g5
      obtain ⟨cz0, fz0, yz0, gz0⟩ := HC10.out.cell 0
      simp only [zR, List.set_cons_zero, List.set_cons_succ, List.getElem?_cons_zero, List.getElem?_cons_succ] at cz0 yz0
      obtain ⟨cz1, fz1, yz1, gz1⟩ := HC10.out.cell 1
      simp only [zR, List.set_cons_zero, List.set_cons_succ, List.getElem?_cons_zero, List.getElem?_cons_succ] at cz1 yz1
      obtain ⟨cz2, fz2, yz2, gz2⟩ := HC10.out.cell 2
      simp only [zR, List.set_cons_zero, List.set_cons_succ, List.getElem?_cons_zero, List.getElem?_cons_succ] at cz2 yz2
      obtain ⟨cz3, fz3, yz3, gz3⟩ := HC10.out.cell 3
      simp only [zR, List.set_cons_zero, List.set_cons_succ, List.getElem?_cons_zero, List.getElem?_cons_succ] at cz3 yz3
      obtain ⟨cz4, fz4, yz4, gz4⟩ := HC10.out.cell 4
      simp only [zR, List.set_cons_zero, List.set_cons_succ, List.getElem?_cons_zero, List.getElem?_cons_succ] at cz4 yz4
      obtain ⟨cz5, fz5, yz5, gz5⟩ := HC10.out.cell 5
      simp only [zR, List.set_cons_zero, List.set_cons_succ, List.getElem?_cons_zero, List.getElem?_cons_succ] at cz5 yz5
      go_wp2
      have hf := HC10.out.fin hrb hB rfl
      have hld := load6 hf.1
      simp only [setN, Nat.reduceAdd] at hf hld
      refine bodyPost_ret (v := recV ⟨0, n0, false, [], false, v0⟩) (by simp [results, Tryd.results78, asAddr, hld, Result.andThen, recV, strV, recC]) rfl ?_
      rw [HE.out]
      exact ⟨rfl, hf.2.1, hf.2.2⟩
end Go.Proofs.YtodadoaindfecaaDoor.Wi
