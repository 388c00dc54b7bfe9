/- Wiw, Row, Wix, Wiy, Wic, Wid: texts merged. -/
import Derived.Test.YtcpjohpbakbggaaDoorM2
import Derived.Deep.CutBlock
import Derived.Deep.DeepCutAuto
import Derived.Test.YtcpjohpbakbggaaDoorM1
/- wire's reader: what it makes (a struct under way); a record, a placed one, a topic. -/
namespace Go.Proofs.YtcpjohpbakbggaaDoor.Wi
open Go.RowKit Go.Maps
set_option maxRecDepth 100000
set_option linter.unusedSimpArgs false
set_option linter.unusedVariables false

/-- Cells stored one behind the other. -/
def setN (Y : Nat) : World → List Value → Nat → World
  | w, [], _ => w
  | w, v :: vs, k => setN Y (w.setCell ⟨Y, k, none⟩ v) vs (k + 1)
theorem setN_turn (Y : Nat) : ∀ (vs : List Value) (k : Nat) (w : World), Turn [Y] w (setN Y w vs k)
  | [], _, w => Turn.refl _ _
  | v :: vs, k, w => ((Turn.refl [Y] w).setCell (.inl (by simp)) v).same (setN_turn Y vs (k + 1) _)
theorem setN_heap {Y : Nat} {T : TypeId} : ∀ (vs : List Value) (k : Nat) (ys : List Value) (w : World), w.heap[Y]? = some (.cells ys.toArray T (0, 0)) → k + vs.length ≤ ys.length →
    (setN Y w vs k).heap[Y]? = some (.cells (ys.take k ++ vs ++ ys.drop (k + vs.length)).toArray T (0, 0))
  | [], k, ys, w, h, hl => by simpa [setN, List.take_append_drop] using h
  | v :: vs, k, ys, w, h, hl => by
    simp only [List.length_cons] at hl
    have h1 : (w.setCell ⟨Y, k, none⟩ v).heap[Y]? = some (.cells (ys.set k v).toArray T (0, 0)) := by simpa using heap_set h k v
    have h2 := setN_heap vs (k + 1) (ys.set k v) _ h1 (by simp; omega)
    show (setN Y (w.setCell ⟨Y, k, none⟩ v) vs (k + 1)).heap[Y]? = _
    rw [h2]
    have e1 : (ys.set k v).take (k + 1) = ys.take k ++ [v] := by
      rw [List.take_succ_eq_append_getElem (by simp; omega)]
      rw [List.take_set_of_le (Nat.le_refl k)]
      simp
    have e2 : (ys.set k v).drop (k + 1 + vs.length) = ys.drop (k + (vs.length + 1)) := by
      rw [List.drop_set_of_lt (by omega), show k + 1 + vs.length = k + (vs.length + 1) by omega]
    rw [e1, e2]
    simp only [List.length_cons, List.append_assoc, List.cons_append, List.nil_append]
/-- A struct under way: its own box, the box of what is answered, the reader. -/
structure Cn (T : TypeId) (w0 w : World) (rb B X Y : Nat) (cs ys : List Value) (l : List UInt8) : Prop where
  hx : w0.heap.size ≤ X
  hy : w0.heap.size ≤ Y
  hxy : X ≠ Y
  x : w.heap[X]? = some (.cells cs.toArray T (0, 0))
  y : w.heap[Y]? = some (.cells ys.toArray T (0, 0))
  rd : RdW w rb B l
  turn : Turn [rb] w0 w
section
variable {T : TypeId} {w0 w w' : World} {rb B X Y : Nat} {cs ys : List Value} {l l' : List UInt8}
theorem Cn.num (h : Cn T w0 w rb B X Y cs ys l) (hrb : rb < w0.heap.size) (ht : Turn [rb] w w') (hrd : RdW w' rb B l') : Cn T w0 w' rb B X Y cs ys l' :=
  ⟨h.hx, h.hy, h.hxy, ht.heap h.x (by have := h.hx; simp; omega), ht.heap h.y (by have := h.hy; simp; omega), hrd, h.turn.same ht⟩
theorem Cn.set (h : Cn T w0 w rb B X Y cs ys l) (hrb : rb < w0.heap.size) (hB : B ≤ rb) (i : Nat) (v : Value) : Cn T w0 (w.setCell ⟨X, i, none⟩ v) rb B X Y (cs.set i v) ys l := by
  have ht : Turn [X] w (w.setCell ⟨X, i, none⟩ v) := (Turn.refl _ _).setCell (.inl (by simp)) _
  have hx := h.hx
  exact ⟨h.hx, h.hy, h.hxy, by simpa using heap_set h.x i v, ht.heap h.y (by simpa using fun e => h.hxy e.symm), h.rd.kept ht (by simp; omega) (by simp; omega), h.turn.trans ht (fun k hk => .inr (by simp at hk; omega))⟩
theorem Cn.cell (h : Cn T w0 w rb B X Y cs ys l) (i : Nat) : w.cell? ⟨X, i, none⟩ = cs[i]? ∧ w.frozen? ⟨X, i, none⟩ = false ∧ w.cell? ⟨Y, i, none⟩ = ys[i]? ∧ w.frozen? ⟨Y, i, none⟩ = false := by
  refine ⟨?_, frozen_of h.x i, ?_, frozen_of h.y i⟩
  · rw [cell_of h.x]; simp
  · rw [cell_of h.y]; simp
theorem Cn.fin (h : Cn T w0 w rb B X Y cs ys l) (hrb : rb < w0.heap.size) (hB : B ≤ rb) (hl : cs.length = ys.length) :
    (setN Y w cs 0).heap[Y]? = some (.cells cs.toArray T (0, 0)) ∧ RdW (setN Y w cs 0) rb B l ∧ Turn [rb] w0 (setN Y w cs 0) := by
  have ht := setN_turn Y cs 0 w
  have hy := h.hy
  refine ⟨?_, h.rd.kept ht (by simp; omega) (by simp; omega), h.turn.trans ht (fun k hk => .inr (by simp at hk; omega))⟩
  have := setN_heap cs 0 ys w h.y (by omega)
  rw [this]
  simp [hl]
end
theorem sizeTp (w : World) : (sizeOf 67).run Tryd.prog w = .ok 3 w := by kernel_rfl
theorem aggTp (w : World) : (isAgg 67).run Tryd.prog w = .ok true w := by kernel_rfl
theorem load3 {w : World} {Y : Nat} {a b c : Value} (h : w.heap[Y]? = some (.cells #[a, b, c] 67 (0, 0))) : (loadVar 67 ⟨Y, 0, none⟩).run Tryd.prog w = .ok (.agg #[a, b, c]) w := by
  have c0 : w.cell? ⟨Y, 0, none⟩ = some a := by simpa using cell_of h 0
  have c1 : w.cell? ⟨Y, 1, none⟩ = some b := by simpa using cell_of h 1
  have c2 : w.cell? ⟨Y, 2, none⟩ = some c := by simpa using cell_of h 2
  simp [loadVar, aggTp, sizeTp, Result.andThen, loadCells, loadCellsFrom, addr_add, c0, c1, c2]
theorem load6 {w : World} {Y : Nat} {a b c d e f : Value} (h : w.heap[Y]? = some (.cells #[a, b, c, d, e, f] 76 (0, 0))) : (loadVar 76 ⟨Y, 0, none⟩).run Tryd.prog w = .ok (.agg #[a, b, c, d, e, f]) w := by
  have c0 : w.cell? ⟨Y, 0, none⟩ = some a := by simpa using cell_of h 0
  have c1 : w.cell? ⟨Y, 1, none⟩ = some b := by simpa using cell_of h 1
  have c2 : w.cell? ⟨Y, 2, none⟩ = some c := by simpa using cell_of h 2
  have c3 : w.cell? ⟨Y, 3, none⟩ = some d := by simpa using cell_of h 3
  have c4 : w.cell? ⟨Y, 4, none⟩ = some e := by simpa using cell_of h 4
  have c5 : w.cell? ⟨Y, 5, none⟩ = some f := by simpa using cell_of h 5
  simp [loadVar, agg98, size98, Result.andThen, loadCells, loadCellsFrom, addr_add, c0, c1, c2, c3, c4, c5]
def zR : List Value := [.int .i64 0, .int .i64 0, .bool false, .string ⟨#[]⟩, .bool false, .string ⟨#[]⟩]
theorem RdW.lt {w : World} {rb B : Nat} {l : List UInt8} (h : RdW w rb B l) : rb < w.heap.size := by obtain ⟨sv, h1, -⟩ := h; exact lt_of_heap h1
/-- Where the boxes stand when the first numbers are read. -/
theorem Cn.start {T : TypeId} {w wy w2 : World} {rb B : Nat} {ys cs : List Value} {l : List UInt8} (hwy : wy = w.alloc (.cells ys.toArray T)) (ht : Turn [rb] wy w2) (hrb : rb < w.heap.size) (hr : RdW w2 rb B l) :
    Cn T w (w2.alloc (.cells cs.toArray T)) rb B w2.heap.size w.heap.size cs ys l := by
  have hsz : w.heap.size < wy.heap.size := by rw [hwy]; simp
  have h2 := ht.size
  have hy : w2.heap[w.heap.size]? = some (.cells ys.toArray T (0, 0)) := ht.heap (by rw [hwy]; exact heap_new w _) (by simp; omega)
  refine ⟨by omega, Nat.le_refl _, by omega, heap_new w2 _, ((Turn.refl [] w2).alloc _).heap hy (by simp), hr.still ((Turn.refl [] w2).alloc _), ?_⟩
  have h0 : Turn [rb] w wy := by rw [hwy]; exact (Turn.refl _ w).alloc _
  exact (h0.same ht).alloc _
--GEN
set_option maxHeartbeats 4000000 in
theorem rrec_any (w : World) (rb B : Nat) (l : List UInt8) (h : RdW w rb B l) (hB : B ≤ rb) (hl : l.length ≤ 1000000) :
    Calls Tryd.prog 38 #[.pointer (some ⟨rb, 0, none⟩)] w fun e w' => e = .returned (recV (recP l).1) ∧ RdW w' rb B (recP l).2 ∧ Turn [rb] w w' := by
  have hrb := h.lt
  obtain ⟨n0, r0, e0⟩ : ∃ n r, Bt.num l = (n, r) := ⟨_, _, rfl⟩
  obtain ⟨n1, r1, e1⟩ : ∃ n r, Bt.num r0 = (n, r) := ⟨_, _, rfl⟩
  have g0 := num_len l
  have g1 := num_len r0
  rw [e0] at g0
  rw [e1] at g1
  simp only at g0 g1
  obtain ⟨wy, hwy⟩ : ∃ wy, wy = w.alloc (.cells zR.toArray 76) := ⟨_, rfl⟩
  have hty : Turn [] w wy := by rw [hwy]; exact (Turn.refl [] w).alloc _
  have E0 := hide e0
  have E1 := hide e1
  have HWY := hide hwy
  have HRY := hide (h.still hty)
  clear h hwy hty e0 e1
  go_enter Tryd.func38, Tryd.ntmps38
  go_wp2_with fail
  rw [show w.alloc (.cells #[.int .i64 0, .int .i64 0, .bool false, .string ⟨#[]⟩, .bool false, .string ⟨#[]⟩] 76) = wy from HWY.out.symm]
  refine (wnum_any _ rb B l HRY.out hB hl).mono ?_
  rintro e w1 ⟨rfl, hr1, ht1⟩
  rw [E0.out] at hr1 ⊢
  have HR1 := hide hr1
  have HT1 := hide ht1
  clear hr1 ht1
  go_wp2_with fail
  refine (wtru_any _ rb B r0 HR1.out hB (by omega)).mono ?_
  rintro e w2 ⟨rfl, hr2, ht2⟩
  rw [E1.out] at hr2 ⊢
  simp only at hr2 ⊢
  have hc3 := Cn.start (cs := [.int .i64 0, .int .i64 n0, .bool (decide (n1 = 1)), .string ⟨#[]⟩, .bool false, .string ⟨#[]⟩]) HWY.out (HT1.out.same ht2) hrb hr2
  obtain ⟨X, hX⟩ : ∃ X, X = w2.heap.size := ⟨_, rfl⟩
  obtain ⟨wx, hwx⟩ : ∃ wx, wx = w2.alloc (.cells #[.int .i64 0, .int .i64 n0, .bool (decide (n1 = 1)), .string ⟨#[]⟩, .bool false, .string ⟨#[]⟩] 76) := ⟨_, rfl⟩
  have hc3' : Cn 76 w wx rb B X w.heap.size [.int .i64 0, .int .i64 n0, .bool (decide (n1 = 1)), .string ⟨#[]⟩, .bool false, .string ⟨#[]⟩] zR r1 := by
    rw [hwx, hX]; exact hc3
  have HC3 := hide hc3'
  have HWX := hide hwx
  have HX := hide hX
  clear hc3 hc3' hwx hX hr2 ht2
  have HN : Hid (X < wx.heap.size) := lt_of_heap HC3.out.x
  by_cases q1 : n1 = 1
  · obtain ⟨k0, k1, ek⟩ : ∃ k r, Bt.text r1 = (k, r) := ⟨_, _, rfl⟩
    have gk := text_len r1
    rw [ek] at gk
    simp only at gk
    obtain ⟨n2, r2, e2⟩ : ∃ n r, Bt.num k1 = (n, r) := ⟨_, _, rfl⟩
    have g2 := num_len k1
    rw [e2] at g2
    simp only at g2
    have E2 := hide e2
    have EK := hide ek
    have HC4 : Hid (Cn 76 w wx rb B X w.heap.size [.int .i64 0, .int .i64 n0, .bool true, .string ⟨#[]⟩, .bool false, .string ⟨#[]⟩] zR r1) := by
      have := HC3.out
      rwa [show decide (n1 = 1) = true by simp [q1]] at this
    have hnx : wx = w2.alloc (.cells #[.int .i64 0, .int .i64 n0, .bool true, .string ⟨#[]⟩, .bool false, .string ⟨#[]⟩] 76) := by
      have := HWX.out
      rwa [show decide (n1 = 1) = true by simp [q1]] at this
    have HNX := hide hnx
    have hdd : decide (n1 = 1) = true := by simp [q1]
    rw [hdd]
    have Q1 : Hid (n1 = 1 ↔ True) := by show _ ↔ _; simp [q1]
    clear hnx HC3 HWX hdd e2 q1 ek
    go_upto_region 2 with fail
    rw [show w2.alloc (.cells #[.int .i64 0, .int .i64 n0, .bool true, .string ⟨#[]⟩, .bool false, .string ⟨#[]⟩] 76) = wx from HNX.out.symm]
    rw [← HX.out]
    obtain ⟨c0, f0, y0, g0⟩ := HC4.out.cell 0
    simp only [zR, List.set_cons_zero, List.set_cons_succ, List.getElem?_cons_zero, List.getElem?_cons_succ] at c0 y0
    obtain ⟨c1, f1, y1, g1⟩ := HC4.out.cell 1
    simp only [zR, List.set_cons_zero, List.set_cons_succ, List.getElem?_cons_zero, List.getElem?_cons_succ] at c1 y1
    obtain ⟨c2, f2, y2, g2⟩ := HC4.out.cell 2
    simp only [zR, List.set_cons_zero, List.set_cons_succ, List.getElem?_cons_zero, List.getElem?_cons_succ] at c2 y2
    obtain ⟨c3, f3, y3, g3⟩ := HC4.out.cell 3
    simp only [zR, List.set_cons_zero, List.set_cons_succ, List.getElem?_cons_zero, List.getElem?_cons_succ] at c3 y3
    obtain ⟨c4, f4, y4, g4⟩ := HC4.out.cell 4
    simp only [zR, List.set_cons_zero, List.set_cons_succ, List.getElem?_cons_zero, List.getElem?_cons_succ] at c4 y4
    obtain ⟨c5, f5, y5, g5⟩ := HC4.out.cell 5
    simp only [zR, List.set_cons_zero, List.set_cons_succ, List.getElem?_cons_zero, List.getElem?_cons_succ] at c5 y5
    go_wp2_with fail
    refine (wtext_any _ rb B r1 HC4.out.rd hB (by omega)).mono ?_
    rintro e w3 ⟨rfl, hr3, ht3⟩
    rw [EK.out] at hr3 ⊢
    simp only [strV] at hr3 ⊢
    have HC5 := hide (HC4.out.num hrb ht3 hr3)
    clear hr3 ht3
    clear c0 f0 y0 g0 c1 f1 y1 g1 c2 f2 y2 g2 c3 f3 y3 g3 c4 f4 y4 g4 c5 f5 y5 g5
    obtain ⟨c0, f0, y0, g0⟩ := HC5.out.cell 0
    simp only [zR, List.set_cons_zero, List.set_cons_succ, List.getElem?_cons_zero, List.getElem?_cons_succ] at c0 y0
    obtain ⟨c1, f1, y1, g1⟩ := HC5.out.cell 1
    simp only [zR, List.set_cons_zero, List.set_cons_succ, List.getElem?_cons_zero, List.getElem?_cons_succ] at c1 y1
    obtain ⟨c2, f2, y2, g2⟩ := HC5.out.cell 2
    simp only [zR, List.set_cons_zero, List.set_cons_succ, List.getElem?_cons_zero, List.getElem?_cons_succ] at c2 y2
    obtain ⟨c3, f3, y3, g3⟩ := HC5.out.cell 3
    simp only [zR, List.set_cons_zero, List.set_cons_succ, List.getElem?_cons_zero, List.getElem?_cons_succ] at c3 y3
    obtain ⟨c4, f4, y4, g4⟩ := HC5.out.cell 4
    simp only [zR, List.set_cons_zero, List.set_cons_succ, List.getElem?_cons_zero, List.getElem?_cons_succ] at c4 y4
    obtain ⟨c5, f5, y5, g5⟩ := HC5.out.cell 5
    simp only [zR, List.set_cons_zero, List.set_cons_succ, List.getElem?_cons_zero, List.getElem?_cons_succ] at c5 y5
    have HC6 := hide (HC5.out.set hrb hB 3 (.string ⟨k0.toArray⟩))
    simp only [List.set_cons_zero, List.set_cons_succ] at HC6
    go_wp2_with fail
    refine (wtru_any _ rb B k1 HC6.out.rd hB (by omega)).mono ?_
    rintro e w4 ⟨rfl, hr4, ht4⟩
    rw [E2.out] at hr4 ⊢
    simp only at hr4 ⊢
    have HC7 := hide (HC6.out.num hrb ht4 hr4)
    clear hr4 ht4
    clear c0 f0 y0 g0 c1 f1 y1 g1 c2 f2 y2 g2 c3 f3 y3 g3 c4 f4 y4 g4 c5 f5 y5 g5
    obtain ⟨c0, f0, y0, g0⟩ := HC7.out.cell 0
    simp only [zR, List.set_cons_zero, List.set_cons_succ, List.getElem?_cons_zero, List.getElem?_cons_succ] at c0 y0
    obtain ⟨c1, f1, y1, g1⟩ := HC7.out.cell 1
    simp only [zR, List.set_cons_zero, List.set_cons_succ, List.getElem?_cons_zero, List.getElem?_cons_succ] at c1 y1
    obtain ⟨c2, f2, y2, g2⟩ := HC7.out.cell 2
    simp only [zR, List.set_cons_zero, List.set_cons_succ, List.getElem?_cons_zero, List.getElem?_cons_succ] at c2 y2
    obtain ⟨c3, f3, y3, g3⟩ := HC7.out.cell 3
    simp only [zR, List.set_cons_zero, List.set_cons_succ, List.getElem?_cons_zero, List.getElem?_cons_succ] at c3 y3
    obtain ⟨c4, f4, y4, g4⟩ := HC7.out.cell 4
    simp only [zR, List.set_cons_zero, List.set_cons_succ, List.getElem?_cons_zero, List.getElem?_cons_succ] at c4 y4
    obtain ⟨c5, f5, y5, g5⟩ := HC7.out.cell 5
    simp only [zR, List.set_cons_zero, List.set_cons_succ, List.getElem?_cons_zero, List.getElem?_cons_succ] at c5 y5
    have HC8 := hide (HC7.out.set hrb hB 4 (.bool (decide (n2 = 1))))
    simp only [List.set_cons_zero, List.set_cons_succ] at HC8
    by_cases q2 : n2 = 1
    · have hg : decide (n2 = 1) = true := by simp [q2]
      rw [hg] at HC8 ⊢
      have HE : Hid (recP l = (⟨0, n0, true, k0, true, []⟩, r2)) := by
        show _ = _
        unfold recP
        simp [E0.out, E1.out, EK.out, E2.out, Q1.out, q2]
      clear hg q2
      have hxy1 : ¬ X = w.heap.size := HC8.out.hxy
      have hxy2 : ¬ w.heap.size = X := fun e => hxy1 e.symm
      clear c0 f0 c1 f1 c2 f2 c3 f3 c5 f5 y0 g0 y1 g1 y2 g2 y3 g3 y4 g4 y5 g5
      obtain ⟨cz0, fz0, yz0, gz0⟩ := HC8.out.cell 0
      simp only [zR, List.set_cons_zero, List.set_cons_succ, List.getElem?_cons_zero, List.getElem?_cons_succ] at cz0 yz0
      obtain ⟨cz1, fz1, yz1, gz1⟩ := HC8.out.cell 1
      simp only [zR, List.set_cons_zero, List.set_cons_succ, List.getElem?_cons_zero, List.getElem?_cons_succ] at cz1 yz1
      obtain ⟨cz2, fz2, yz2, gz2⟩ := HC8.out.cell 2
      simp only [zR, List.set_cons_zero, List.set_cons_succ, List.getElem?_cons_zero, List.getElem?_cons_succ] at cz2 yz2
      obtain ⟨cz3, fz3, yz3, gz3⟩ := HC8.out.cell 3
      simp only [zR, List.set_cons_zero, List.set_cons_succ, List.getElem?_cons_zero, List.getElem?_cons_succ] at cz3 yz3
      obtain ⟨cz4, fz4, yz4, gz4⟩ := HC8.out.cell 4
      simp only [zR, List.set_cons_zero, List.set_cons_succ, List.getElem?_cons_zero, List.getElem?_cons_succ] at cz4 yz4
      obtain ⟨cz5, fz5, yz5, gz5⟩ := HC8.out.cell 5
      simp only [zR, List.set_cons_zero, List.set_cons_succ, List.getElem?_cons_zero, List.getElem?_cons_succ] at cz5 yz5
      go_wp2
      have hf := HC8.out.fin hrb hB rfl
      have hld := load6 hf.1
      simp only [setN, Nat.reduceAdd] at hf hld
      refine bodyPost_ret (v := recV ⟨0, n0, true, k0, true, []⟩) (by simp [results, Tryd.results38, asAddr, hld, Result.andThen, recV, strV, recC]) rfl ?_
      rw [HE.out]
      exact ⟨rfl, hf.2.1, hf.2.2⟩
    · have hg : decide (n2 = 1) = false := by simp [q2]
      rw [hg] at HC8 ⊢
      obtain ⟨v0, v1, ev⟩ : ∃ k r, Bt.text r2 = (k, r) := ⟨_, _, rfl⟩
      have EV := hide ev
      have HE : Hid (recP l = (⟨0, n0, true, k0, false, v0⟩, v1)) := by
        show _ = _
        unfold recP
        simp [E0.out, E1.out, EK.out, E2.out, Q1.out, q2, ev]
      clear hg q2 ev
      go_wp2_with fail
      refine (wtext_any _ rb B r2 HC8.out.rd hB (by omega)).mono ?_
      rintro e w5 ⟨rfl, hr5, ht5⟩
      rw [EV.out] at hr5 ⊢
      simp only [strV] at hr5 ⊢
      have HC9 := hide (HC8.out.num hrb ht5 hr5)
      clear hr5 ht5
      clear c0 f0 y0 g0 c1 f1 y1 g1 c2 f2 y2 g2 c3 f3 y3 g3 c4 f4 y4 g4 c5 f5 y5 g5
      obtain ⟨c0, f0, y0, g0⟩ := HC9.out.cell 0
      simp only [zR, List.set_cons_zero, List.set_cons_succ, List.getElem?_cons_zero, List.getElem?_cons_succ] at c0 y0
      obtain ⟨c1, f1, y1, g1⟩ := HC9.out.cell 1
      simp only [zR, List.set_cons_zero, List.set_cons_succ, List.getElem?_cons_zero, List.getElem?_cons_succ] at c1 y1
      obtain ⟨c2, f2, y2, g2⟩ := HC9.out.cell 2
      simp only [zR, List.set_cons_zero, List.set_cons_succ, List.getElem?_cons_zero, List.getElem?_cons_succ] at c2 y2
      obtain ⟨c3, f3, y3, g3⟩ := HC9.out.cell 3
      simp only [zR, List.set_cons_zero, List.set_cons_succ, List.getElem?_cons_zero, List.getElem?_cons_succ] at c3 y3
      obtain ⟨c4, f4, y4, g4⟩ := HC9.out.cell 4
      simp only [zR, List.set_cons_zero, List.set_cons_succ, List.getElem?_cons_zero, List.getElem?_cons_succ] at c4 y4
      obtain ⟨c5, f5, y5, g5⟩ := HC9.out.cell 5
      simp only [zR, List.set_cons_zero, List.set_cons_succ, List.getElem?_cons_zero, List.getElem?_cons_succ] at c5 y5
      have HC10 := hide (HC9.out.set hrb hB 5 (.string ⟨v0.toArray⟩))
      simp only [List.set_cons_zero, List.set_cons_succ] at HC10
      have hxy1 : ¬ X = w.heap.size := HC10.out.hxy
      have hxy2 : ¬ w.heap.size = X := fun e => hxy1 e.symm
      clear c0 f0 c1 f1 c2 f2 c3 f3 c4 f4 y0 g0 y1 g1 y2 g2 y3 g3 y4 g4 y5 g5
      obtain ⟨cz0, fz0, yz0, gz0⟩ := HC10.out.cell 0
      simp only [zR, List.set_cons_zero, List.set_cons_succ, List.getElem?_cons_zero, List.getElem?_cons_succ] at cz0 yz0
      obtain ⟨cz1, fz1, yz1, gz1⟩ := HC10.out.cell 1
      simp only [zR, List.set_cons_zero, List.set_cons_succ, List.getElem?_cons_zero, List.getElem?_cons_succ] at cz1 yz1
      obtain ⟨cz2, fz2, yz2, gz2⟩ := HC10.out.cell 2
      simp only [zR, List.set_cons_zero, List.set_cons_succ, List.getElem?_cons_zero, List.getElem?_cons_succ] at cz2 yz2
      obtain ⟨cz3, fz3, yz3, gz3⟩ := HC10.out.cell 3
      simp only [zR, List.set_cons_zero, List.set_cons_succ, List.getElem?_cons_zero, List.getElem?_cons_succ] at cz3 yz3
      obtain ⟨cz4, fz4, yz4, gz4⟩ := HC10.out.cell 4
      simp only [zR, List.set_cons_zero, List.set_cons_succ, List.getElem?_cons_zero, List.getElem?_cons_succ] at cz4 yz4
      obtain ⟨cz5, fz5, yz5, gz5⟩ := HC10.out.cell 5
      simp only [zR, List.set_cons_zero, List.set_cons_succ, List.getElem?_cons_zero, List.getElem?_cons_succ] at cz5 yz5
      go_wp2
      have hf := HC10.out.fin hrb hB rfl
      have hld := load6 hf.1
      simp only [setN, Nat.reduceAdd] at hf hld
      refine bodyPost_ret (v := recV ⟨0, n0, true, k0, false, v0⟩) (by simp [results, Tryd.results38, asAddr, hld, Result.andThen, recV, strV, recC]) rfl ?_
      rw [HE.out]
      exact ⟨rfl, hf.2.1, hf.2.2⟩
  · obtain ⟨n2, r2, e2⟩ : ∃ n r, Bt.num r1 = (n, r) := ⟨_, _, rfl⟩
    have g2 := num_len r1
    rw [e2] at g2
    simp only at g2
    have E2 := hide e2

    have HC4 : Hid (Cn 76 w wx rb B X w.heap.size [.int .i64 0, .int .i64 n0, .bool false, .string ⟨#[]⟩, .bool false, .string ⟨#[]⟩] zR r1) := by
      have := HC3.out
      rwa [show decide (n1 = 1) = false by simp [q1]] at this
    have hnx : wx = w2.alloc (.cells #[.int .i64 0, .int .i64 n0, .bool false, .string ⟨#[]⟩, .bool false, .string ⟨#[]⟩] 76) := by
      have := HWX.out
      rwa [show decide (n1 = 1) = false by simp [q1]] at this
    have HNX := hide hnx
    have hdd : decide (n1 = 1) = false := by simp [q1]
    rw [hdd]
    have Q1 : Hid (n1 = 1 ↔ False) := by show _ ↔ _; simp [q1]
    clear hnx HC3 HWX hdd e2 q1 
    go_upto_region 2 with fail
    rw [show w2.alloc (.cells #[.int .i64 0, .int .i64 n0, .bool false, .string ⟨#[]⟩, .bool false, .string ⟨#[]⟩] 76) = wx from HNX.out.symm]
    rw [← HX.out]
    obtain ⟨c0, f0, y0, g0⟩ := HC4.out.cell 0
    simp only [zR, List.set_cons_zero, List.set_cons_succ, List.getElem?_cons_zero, List.getElem?_cons_succ] at c0 y0
    obtain ⟨c1, f1, y1, g1⟩ := HC4.out.cell 1
    simp only [zR, List.set_cons_zero, List.set_cons_succ, List.getElem?_cons_zero, List.getElem?_cons_succ] at c1 y1
    obtain ⟨c2, f2, y2, g2⟩ := HC4.out.cell 2
    simp only [zR, List.set_cons_zero, List.set_cons_succ, List.getElem?_cons_zero, List.getElem?_cons_succ] at c2 y2
    obtain ⟨c3, f3, y3, g3⟩ := HC4.out.cell 3
    simp only [zR, List.set_cons_zero, List.set_cons_succ, List.getElem?_cons_zero, List.getElem?_cons_succ] at c3 y3
    obtain ⟨c4, f4, y4, g4⟩ := HC4.out.cell 4
    simp only [zR, List.set_cons_zero, List.set_cons_succ, List.getElem?_cons_zero, List.getElem?_cons_succ] at c4 y4
    obtain ⟨c5, f5, y5, g5⟩ := HC4.out.cell 5
    simp only [zR, List.set_cons_zero, List.set_cons_succ, List.getElem?_cons_zero, List.getElem?_cons_succ] at c5 y5
    go_wp2_with fail
    refine (wtru_any _ rb B r1 HC4.out.rd hB (by omega)).mono ?_
    rintro e w4 ⟨rfl, hr4, ht4⟩
    rw [E2.out] at hr4 ⊢
    simp only at hr4 ⊢
    have HC7 := hide (HC4.out.num hrb ht4 hr4)
    clear hr4 ht4
    clear c0 f0 y0 g0 c1 f1 y1 g1 c2 f2 y2 g2 c3 f3 y3 g3 c4 f4 y4 g4 c5 f5 y5 g5
    obtain ⟨c0, f0, y0, g0⟩ := HC7.out.cell 0
    simp only [zR, List.set_cons_zero, List.set_cons_succ, List.getElem?_cons_zero, List.getElem?_cons_succ] at c0 y0
    obtain ⟨c1, f1, y1, g1⟩ := HC7.out.cell 1
    simp only [zR, List.set_cons_zero, List.set_cons_succ, List.getElem?_cons_zero, List.getElem?_cons_succ] at c1 y1
    obtain ⟨c2, f2, y2, g2⟩ := HC7.out.cell 2
    simp only [zR, List.set_cons_zero, List.set_cons_succ, List.getElem?_cons_zero, List.getElem?_cons_succ] at c2 y2
    obtain ⟨c3, f3, y3, g3⟩ := HC7.out.cell 3
    simp only [zR, List.set_cons_zero, List.set_cons_succ, List.getElem?_cons_zero, List.getElem?_cons_succ] at c3 y3
    obtain ⟨c4, f4, y4, g4⟩ := HC7.out.cell 4
    simp only [zR, List.set_cons_zero, List.set_cons_succ, List.getElem?_cons_zero, List.getElem?_cons_succ] at c4 y4
    obtain ⟨c5, f5, y5, g5⟩ := HC7.out.cell 5
    simp only [zR, List.set_cons_zero, List.set_cons_succ, List.getElem?_cons_zero, List.getElem?_cons_succ] at c5 y5
    have HC8 := hide (HC7.out.set hrb hB 4 (.bool (decide (n2 = 1))))
    simp only [List.set_cons_zero, List.set_cons_succ] at HC8
    by_cases q2 : n2 = 1
    · have hg : decide (n2 = 1) = true := by simp [q2]
      rw [hg] at HC8 ⊢
      have HE : Hid (recP l = (⟨0, n0, false, [], true, []⟩, r2)) := by
        show _ = _
        unfold recP
        simp [E0.out, E1.out, E2.out, Q1.out, q2]
      clear hg q2
      have hxy1 : ¬ X = w.heap.size := HC8.out.hxy
      have hxy2 : ¬ w.heap.size = X := fun e => hxy1 e.symm
      clear c0 f0 c1 f1 c2 f2 c3 f3 c5 f5 y0 g0 y1 g1 y2 g2 y3 g3 y4 g4 y5 g5
      obtain ⟨cz0, fz0, yz0, gz0⟩ := HC8.out.cell 0
      simp only [zR, List.set_cons_zero, List.set_cons_succ, List.getElem?_cons_zero, List.getElem?_cons_succ] at cz0 yz0
      obtain ⟨cz1, fz1, yz1, gz1⟩ := HC8.out.cell 1
      simp only [zR, List.set_cons_zero, List.set_cons_succ, List.getElem?_cons_zero, List.getElem?_cons_succ] at cz1 yz1
      obtain ⟨cz2, fz2, yz2, gz2⟩ := HC8.out.cell 2
      simp only [zR, List.set_cons_zero, List.set_cons_succ, List.getElem?_cons_zero, List.getElem?_cons_succ] at cz2 yz2
      obtain ⟨cz3, fz3, yz3, gz3⟩ := HC8.out.cell 3
      simp only [zR, List.set_cons_zero, List.set_cons_succ, List.getElem?_cons_zero, List.getElem?_cons_succ] at cz3 yz3
      obtain ⟨cz4, fz4, yz4, gz4⟩ := HC8.out.cell 4
      simp only [zR, List.set_cons_zero, List.set_cons_succ, List.getElem?_cons_zero, List.getElem?_cons_succ] at cz4 yz4
      obtain ⟨cz5, fz5, yz5, gz5⟩ := HC8.out.cell 5
      simp only [zR, List.set_cons_zero, List.set_cons_succ, List.getElem?_cons_zero, List.getElem?_cons_succ] at cz5 yz5
      go_wp2
      have hf := HC8.out.fin hrb hB rfl
      have hld := load6 hf.1
      simp only [setN, Nat.reduceAdd] at hf hld
      refine bodyPost_ret (v := recV ⟨0, n0, false, [], true, []⟩) (by simp [results, Tryd.results38, asAddr, hld, Result.andThen, recV, strV, recC]) rfl ?_
      rw [HE.out]
      exact ⟨rfl, hf.2.1, hf.2.2⟩
    · have hg : decide (n2 = 1) = false := by simp [q2]
      rw [hg] at HC8 ⊢
      obtain ⟨v0, v1, ev⟩ : ∃ k r, Bt.text r2 = (k, r) := ⟨_, _, rfl⟩
      have EV := hide ev
      have HE : Hid (recP l = (⟨0, n0, false, [], false, v0⟩, v1)) := by
        show _ = _
        unfold recP
        simp [E0.out, E1.out, E2.out, Q1.out, q2, ev]
      clear hg q2 ev
      go_wp2_with fail
      refine (wtext_any _ rb B r2 HC8.out.rd hB (by omega)).mono ?_
      rintro e w5 ⟨rfl, hr5, ht5⟩
      rw [EV.out] at hr5 ⊢
      simp only [strV] at hr5 ⊢
      have HC9 := hide (HC8.out.num hrb ht5 hr5)
      clear hr5 ht5
      clear c0 f0 y0 g0 c1 f1 y1 g1 c2 f2 y2 g2 c3 f3 y3 g3 c4 f4 y4 g4 c5 f5 y5 g5
      obtain ⟨c0, f0, y0, g0⟩ := HC9.out.cell 0
      simp only [zR, List.set_cons_zero, List.set_cons_succ, List.getElem?_cons_zero, List.getElem?_cons_succ] at c0 y0
      obtain ⟨c1, f1, y1, g1⟩ := HC9.out.cell 1
      simp only [zR, List.set_cons_zero, List.set_cons_succ, List.getElem?_cons_zero, List.getElem?_cons_succ] at c1 y1
      obtain ⟨c2, f2, y2, g2⟩ := HC9.out.cell 2
      simp only [zR, List.set_cons_zero, List.set_cons_succ, List.getElem?_cons_zero, List.getElem?_cons_succ] at c2 y2
      obtain ⟨c3, f3, y3, g3⟩ := HC9.out.cell 3
      simp only [zR, List.set_cons_zero, List.set_cons_succ, List.getElem?_cons_zero, List.getElem?_cons_succ] at c3 y3
      obtain ⟨c4, f4, y4, g4⟩ := HC9.out.cell 4
      simp only [zR, List.set_cons_zero, List.set_cons_succ, List.getElem?_cons_zero, List.getElem?_cons_succ] at c4 y4
      obtain ⟨c5, f5, y5, g5⟩ := HC9.out.cell 5
      simp only [zR, List.set_cons_zero, List.set_cons_succ, List.getElem?_cons_zero, List.getElem?_cons_succ] at c5 y5
      have HC10 := hide (HC9.out.set hrb hB 5 (.string ⟨v0.toArray⟩))
      simp only [List.set_cons_zero, List.set_cons_succ] at HC10
      have hxy1 : ¬ X = w.heap.size := HC10.out.hxy
      have hxy2 : ¬ w.heap.size = X := fun e => hxy1 e.symm
      clear c0 f0 c1 f1 c2 f2 c3 f3 c4 f4 y0 g0 y1 g1 y2 g2 y3 g3 y4 g4 y5 g5
      obtain ⟨cz0, fz0, yz0, gz0⟩ := HC10.out.cell 0
      simp only [zR, List.set_cons_zero, List.set_cons_succ, List.getElem?_cons_zero, List.getElem?_cons_succ] at cz0 yz0
      obtain ⟨cz1, fz1, yz1, gz1⟩ := HC10.out.cell 1
      simp only [zR, List.set_cons_zero, List.set_cons_succ, List.getElem?_cons_zero, List.getElem?_cons_succ] at cz1 yz1
      obtain ⟨cz2, fz2, yz2, gz2⟩ := HC10.out.cell 2
      simp only [zR, List.set_cons_zero, List.set_cons_succ, List.getElem?_cons_zero, List.getElem?_cons_succ] at cz2 yz2
      obtain ⟨cz3, fz3, yz3, gz3⟩ := HC10.out.cell 3
      simp only [zR, List.set_cons_zero, List.set_cons_succ, List.getElem?_cons_zero, List.getElem?_cons_succ] at cz3 yz3
      obtain ⟨cz4, fz4, yz4, gz4⟩ := HC10.out.cell 4
      simp only [zR, List.set_cons_zero, List.set_cons_succ, List.getElem?_cons_zero, List.getElem?_cons_succ] at cz4 yz4
      obtain ⟨cz5, fz5, yz5, gz5⟩ := HC10.out.cell 5
      simp only [zR, List.set_cons_zero, List.set_cons_succ, List.getElem?_cons_zero, List.getElem?_cons_succ] at cz5 yz5
      go_wp2
      have hf := HC10.out.fin hrb hB rfl
      have hld := load6 hf.1
      simp only [setN, Nat.reduceAdd] at hf hld
      refine bodyPost_ret (v := recV ⟨0, n0, false, [], false, v0⟩) (by simp [results, Tryd.results38, asAddr, hld, Result.andThen, recV, strV, recC]) rfl ?_
      rw [HE.out]
      exact ⟨rfl, hf.2.1, hf.2.2⟩
end Go.Proofs.YtcpjohpbakbggaaDoor.Wi

/- Rows of structs, told by a list: append onto one; one cell set. No program. -/
namespace Go.Proofs.YtcpjohpbakbggaaDoor
open Go.RowKit
set_option linter.unusedSimpArgs false
set_option linter.unusedVariables false

section
variable {α : Type} {T : TypeId} {n : Nat} {enc : α → List Value}
/-- A slice of structs of n cells with a block of its own, from its beginning on; behind its capacity the block may go on. -/
def GRow (T : TypeId) (n : Nat) (enc : α → List Value) (w : World) (base : Nat) (sv : Value) (xs : List α) : Prop :=
  (sv = .slice none 0 0 ∧ xs = []) ∨
  ∃ g cap cur, sv = .slice (some ⟨g, 0, none⟩) xs.length cap ∧ base ≤ g ∧ w.heap[g]? = some (.cells cur T (0, 0)) ∧ xs.length ≤ cap ∧ cap * n ≤ cur.size ∧ cap ≤ maxLen ∧ cur.toList.take (xs.length * n) = xs.flatMap enc
theorem GRow.kept {w w' : World} {base : Nat} {sv : Value} {xs : List α} {S : List Nat} (h : GRow T n enc w base sv xs) (ht : Turn S w w') (hn : ∀ k ∈ sv.ownBlock, k ∉ S) : GRow T n enc w' base sv xs := by
  rcases h with h | ⟨g, cap, cur, rfl, hb, hg, r⟩
  · exact .inl h
  · exact .inr ⟨g, cap, cur, rfl, hb, ht.heap hg (hn g (by simp [Value.ownBlock])), r⟩
theorem GRow.still {w w' : World} {base : Nat} {sv : Value} {xs : List α} (h : GRow T n enc w base sv xs) (ht : Turn [] w w') : GRow T n enc w' base sv xs := h.kept ht (by simp)
theorem GRow.lt {w : World} {base : Nat} {sv : Value} {xs : List α} (h : GRow T n enc w base sv xs) : ∀ k ∈ sv.ownBlock, base ≤ k ∧ k < w.heap.size := by
  intro k hk
  rcases h with ⟨rfl, _⟩ | ⟨g, cap, cur, rfl, hb, hg, r⟩
  · simp [Value.ownBlock] at hk
  · simp [Value.ownBlock] at hk; subst hk; exact ⟨hb, lt_of_heap hg⟩
theorem GRow.form {w : World} {base : Nat} {sv : Value} {xs : List α} (h : GRow T n enc w base sv xs) : ∃ a c, sv = .slice a xs.length c ∧ xs.length ≤ c ∧ c ≤ maxLen := by
  rcases h with ⟨rfl, rfl⟩ | ⟨g, cap, cur, rfl, hb, hg, h1, h2, h3, h4⟩
  · exact ⟨_, _, rfl, Nat.le_refl _, Nat.zero_le _⟩
  · exact ⟨_, _, rfl, h1, h3⟩
theorem GRow.base_le {w : World} {base base' : Nat} {sv : Value} {xs : List α} (h : GRow T n enc w base sv xs) (hb : base' ≤ base) : GRow T n enc w base' sv xs := by
  rcases h with h | ⟨g, cap, cur, rfl, h1, r⟩
  · exact .inl h
  · exact .inr ⟨g, cap, cur, rfl, by omega, r⟩
theorem gflat_len (hn : ∀ x, (enc x).length = n) : ∀ xs : List α, (xs.flatMap enc).length = xs.length * n
  | [] => by simp
  | x :: xs => by rw [List.flatMap_cons, List.length_append, gflat_len hn xs, hn, List.length_cons, Nat.add_mul]; omega
theorem gflat_at (hn : ∀ x, (enc x).length = n) : ∀ (xs : List α) (j i : Nat) (h : j < xs.length), i < n → (xs.flatMap enc)[j * n + i]? = (enc xs[j])[i]?
  | [], _, _, h, _ => by simp at h
  | x :: xs, 0, i, h, hi => by
    rw [List.flatMap_cons, Nat.zero_mul, Nat.zero_add, List.getElem?_append_left (by rw [hn]; exact hi)]
    rfl
  | x :: xs, j + 1, i, h, hi => by
    rw [List.flatMap_cons, List.getElem?_append_right (by rw [hn, Nat.add_mul]; omega), hn, show (j + 1) * n + i - n = j * n + i by rw [Nat.add_mul]; omega]
    exact gflat_at hn xs j i (by simpa using h) hi
theorem gflat_set (hn : ∀ x, (enc x).length = n) : ∀ (xs : List α) (j i : Nat) (h : j < xs.length) (u : Value) (x' : α), i < n → enc x' = (enc xs[j]).set i u → (xs.flatMap enc).set (j * n + i) u = (xs.set j x').flatMap enc
  | [], _, _, h, _, _, _, _ => by simp at h
  | x :: xs, 0, i, h, u, x', hi, he => by
    rw [List.flatMap_cons, Nat.zero_mul, Nat.zero_add, List.set_append_left _ _ (by rw [hn]; exact hi)]
    simp only [List.getElem_cons_zero] at he
    simp [he]
  | x :: xs, j + 1, i, h, u, x', hi, he => by
    rw [List.flatMap_cons, List.set_append_right _ _ (by rw [hn, Nat.add_mul]; omega), hn, show (j + 1) * n + i - n = j * n + i by rw [Nat.add_mul]; omega, gflat_set hn xs j i (by simpa using h) u x' hi (by simpa using he)]
    simp
/-- The cells of an element. -/
theorem GRow.at {w : World} {base : Nat} {sv : Value} {xs : List α} (hn : ∀ x, (enc x).length = n) (h : GRow T n enc w base sv xs) {j : Nat} (hj : j < xs.length) :
    ∃ g cap, sv = .slice (some ⟨g, 0, none⟩) xs.length cap ∧ (∀ i, i < n → w.cell? ⟨g, j * n + i, none⟩ = (enc xs[j])[i]?) ∧ ∀ i, w.frozen? ⟨g, i, none⟩ = false := by
  rcases h with ⟨rfl, rfl⟩ | ⟨g, cap, cur, rfl, hb, hg, h1, h2, h3, h4⟩
  · simp at hj
  · refine ⟨g, cap, rfl, fun i hi => ?_, fun i => frozen_of hg i⟩
    rw [cell_of hg, ← gflat_at hn xs j i hj hi, ← h4, List.getElem?_take_of_lt]
    · simp
    · have : (j + 1) * n ≤ xs.length * n := Nat.mul_le_mul_right _ hj
      rw [Nat.add_mul] at this; omega
/-- One cell of an element, set. -/
theorem GRow.set {w : World} {base : Nat} {g c : Nat} {l : Nat} {xs : List α} (hn : ∀ x, (enc x).length = n) (h : GRow T n enc w base (.slice (some ⟨g, 0, none⟩) l c) xs) {j i : Nat} (hj : j < xs.length) (hi : i < n) {u : Value} {x' : α} (he : enc x' = (enc xs[j]).set i u) :
    GRow T n enc (w.setCell ⟨g, j * n + i, none⟩ u) base (.slice (some ⟨g, 0, none⟩) l c) (xs.set j x') := by
  rcases h with ⟨h, -⟩ | ⟨g', cap, cur, h, hb, hg, h1, h2, h3, h4⟩
  · simp at h
  · simp only [Value.slice.injEq, Option.some.injEq, Addr.mk.injEq] at h
    obtain ⟨⟨rfl, -, -⟩, rfl, rfl⟩ := h
    refine .inr ⟨g, c, _, by rw [List.length_set], hb, heap_set hg _ u, by rw [List.length_set]; exact h1, by rw [Array.size_setIfInBounds]; exact h2, h3, ?_⟩
    rw [List.length_set, Array.toList_setIfInBounds, List.take_set, h4]
    exact gflat_set hn xs j i hj u x' hi he

/-- APPEND of one struct. -/
theorem run_append_g {P : Program} (t ty : TypeId) (ht : P.underlying t = some (.slice T)) (i : TypeInfo) (z : Value) (hi : P.info? T = some i) (hz : i.zero = some z) (hzs : z.cells.size = n) (hsize : i.size = n) (hby : i.bytes ≤ 1000) (hn : ∀ x, (enc x).length = n) (hone : ∀ x, ∀ u ∈ enc x, u.oneCell' = true)
    (w : World) (base : Nat) (v : Value) (xs : List α) (x : α) (k : Nat) (hrow : GRow T n enc w base v xs) (hk : w.heap[k]? = some (.cells (enc x).toArray T (0, 0))) (hlen : xs.length ≤ 1000000) (hbase : base ≤ w.heap.size) :
    ∃ v' w', (Builtin.append_ #[t, t] ty #[v, .slice (some ⟨k, 0, none⟩) 1 1]).run P w = .ok v' w' ∧ GRow T n enc w' base v' (xs ++ [x]) ∧ Turn v.ownBlock.toList w w' ∧ (∀ j ∈ v'.ownBlock, j ∈ v.ownBlock ∨ w.heap.size ≤ j) := by
  have hmax : maxLen = 9223372036854775807 := by simp [maxLen]
  have hl : (enc x).length = 1 * i.size := by rw [hsize, hn]; omega
  have hnews : ∀ j u, (enc x)[j]? = some u → w.cell? ((⟨k, 0, none⟩ : Addr).add j) = some u := fun j u hu => by
    rw [addr_add, cell_of hk]; simpa using hu
  rcases hrow with ⟨rfl, rfl⟩ | ⟨g, cap, cur, rfl, hb, hg, h1, h2, h3, h4⟩
  · have hr := run_append_nil (P := P) w t ty T i z ht hi hz ⟨k, 0, none⟩ 1 1 (enc x) hl hnews (by omega) (by omega) (by omega)
    have hge := grownCap_ge w 1 0 T
    have hcm := grownCap_le_maxLen w 1 0 T (by rw [hmax]; omega)
    refine ⟨_, _, hr, .inr ⟨w.heap.size, _, _, by simp, hbase, heap_new w.drew _, by simpa using hge, ?_, hcm, ?_⟩, ((Turn.refl _ _).drew).alloc _, by simp [Value.ownBlock]⟩
    · simp only [Array.size_append, List.size_toArray, size_zeroCells, hzs, hn]
      have : grownCap w 1 0 T * n = 1 * n + (grownCap w 1 0 T - 1) * n := by rw [← Nat.add_mul]; congr 1; omega
      omega
    · simp only [Array.toList_append, List.nil_append, List.length_singleton]
      rw [List.take_append_of_le_length (by simp [hn]), List.take_of_length_le (by simp [hn])]
      simp
  · have hfl : (xs.flatMap enc ++ enc x).length = (xs.length + 1) * n := by rw [List.length_append, gflat_len hn, hn, Nat.add_mul]; omega
    by_cases hroom : xs.length + 1 ≤ cap
    · have hfit : (xs.length + 1) * n ≤ cur.size := Nat.le_trans (Nat.mul_le_mul_right _ hroom) h2
      have hr := run_append_room (P := P) w t ty T i ht hi g xs.length cap cur hg ⟨k, 0, none⟩ 1 1 (enc x) hl hnews (hone x) hroom (by rw [hsize, hn]; rw [Nat.add_mul] at hfit; omega)
      rw [hsize] at hr
      refine ⟨_, _, hr, .inr ⟨g, cap, _, by simp, hb, setRow_heap w g cur _ T _ hg, by simpa using hroom, ?_, h3, ?_⟩, ⟨rfl, rfl, rfl, by simp, fun k _ hk => setRow_other w g k _ (fun e => hk (by simp [Value.ownBlock, e]))⟩, by simp [Value.ownBlock]⟩
      · simp [hn]
        rw [Nat.add_mul] at hfit
        have hcs : xs.length * n ≤ cur.size := by omega
        rw [Nat.min_eq_left hcs]
        omega
      · simp only [h4, List.append_assoc]
        rw [← List.append_assoc, List.take_append_of_le_length (by rw [hfl]; simp), List.take_of_length_le (by rw [hfl]; simp)]
        simp
    · have holds : ∀ j u, (xs.flatMap enc)[j]? = some u → w.cell? ((⟨g, 0, none⟩ : Addr).add j) = some u := by
        intro j u hu
        rw [addr_add, cell_of hg]
        have hj : j < xs.length * n := by have := (List.getElem?_eq_some_iff.1 hu).1; rwa [gflat_len hn] at this
        rw [← h4, List.getElem?_take_of_lt hj] at hu
        simpa using hu
      have hr := run_append_grow (P := P) w t ty T i z ht hi hz ⟨g, 0, none⟩ xs.length cap (xs.flatMap enc) (by rw [gflat_len hn, hsize]) holds ⟨k, 0, none⟩ 1 1 (enc x) hl hnews (by omega) (by omega) (growslice_fits (by omega) (by have : (xs.length + 1) * i.bytes ≤ 1000001 * 1000 := Nat.mul_le_mul (by omega) hby; omega))
      have hge := grownCap_ge w (xs.length + 1) cap T
      have hcm := grownCap_le_maxLen w (xs.length + 1) cap T (by rw [hmax]; omega)
      refine ⟨_, _, hr, .inr ⟨w.heap.size, _, _, by simp, hbase, heap_new w.drew _, by simpa using hge, ?_, hcm, ?_⟩, ((Turn.refl _ _).drew).alloc _, by simp [Value.ownBlock]⟩
      · simp only [Array.size_append, List.size_toArray, size_zeroCells, hzs, hn, gflat_len hn]
        have : grownCap w (xs.length + 1) cap T * n = (xs.length + 1) * n + (grownCap w (xs.length + 1) cap T - (xs.length + 1)) * n := by rw [← Nat.add_mul]; congr 1; omega
        rw [Nat.add_mul] at this
        omega
      · simp only [Array.toList_append]
        rw [List.take_append_of_le_length (by show (xs ++ [x]).length * n ≤ (xs.flatMap enc ++ enc x).length; rw [hfl]; simp), List.take_of_length_le (by show (xs.flatMap enc ++ enc x).length ≤ (xs ++ [x]).length * n; rw [hfl]; simp)]
        simp
end
end Go.Proofs.YtcpjohpbakbggaaDoor

/- wire's reader: a placed record, a topic, lists. -/
namespace Go.Proofs.YtcpjohpbakbggaaDoor.Wi
open Go.RowKit Go.Maps
set_option maxRecDepth 100000
set_option linter.unusedSimpArgs false
set_option linter.unusedVariables false

theorem num_lt {l : List UInt8} (h : l ≠ []) : (Bt.num l).2.length < l.length := by
  have h0 := List.length_pos_iff.2 h
  unfold Bt.num
  have := Nu.get_size (b := l)
  split
  · simpa using h0
  · simp; omega
theorem recP_len (l : List UInt8) : (recP l).2.length ≤ (Bt.num l).2.length := by
  unfold recP
  simp only
  have h1 := num_len (Bt.num l).2
  split
  · have h2 := text_len (Bt.num (Bt.num l).2).2
    have h3 := num_len (Bt.text (Bt.num (Bt.num l).2).2).2
    split
    · simp only; omega
    · have h4 := text_len (Bt.num (Bt.text (Bt.num (Bt.num l).2).2).2).2
      omega
  · have h3 := num_len (Bt.num (Bt.num l).2).2
    simp only
    split
    · simp only; omega
    · have h4 := text_len (Bt.num (Bt.num (Bt.num l).2).2).2
      omega
theorem recP_lt {l : List UInt8} (h : l ≠ []) : (recP l).2.length < l.length := Nat.lt_of_le_of_lt (recP_len l) (num_lt h)
theorem plP_lt {l : List UInt8} (h : l ≠ []) : (plP l).2.length < l.length := by
  have h1 := recP_len (Bt.num l).2
  have h2 := num_len (Bt.num l).2
  have h3 := num_lt h
  have e : (plP l).2 = (recP (Bt.num l).2).2 := by simp only [plP]
  rw [e]
  omega
theorem tpP_lt {l : List UInt8} (h : l ≠ []) : (tpP l).2.length < l.length := by
  have h3 := num_lt h
  have h1 : (Bt.text l).2.length ≤ (Bt.num l).2.length := by
    unfold Bt.text
    split
    · simp
    · simp
  have h2 := num_len (Bt.text l).2
  have h4 := num_len (Bt.num (Bt.text l).2).2
  unfold tpP
  simp only
  generalize Bt.text l = a at *
  generalize Bt.num a.2 = b at *
  omega
/-- What a record that is read is like. -/
structure RecRd (r : Bt.Rec) : Prop where
  ok : RecOk r
  key : r.key.length ≤ 1000000
  value : r.value.length ≤ 1000000
theorem recP_rd {l : List UInt8} (h : l.length ≤ 1000000) : RecRd (recP l).1 := by
  have h0 := num_len l
  have h1 := num_len (Bt.num l).2
  have h2 := text_len (Bt.num (Bt.num l).2).2
  have hk : (recP l).1.key.length ≤ 1000000 := by
    show (if (Bt.num (Bt.num l).2).1 = 1 then Bt.text (Bt.num (Bt.num l).2).2 else ([], (Bt.num (Bt.num l).2).2)).1.length ≤ _
    split
    · omega
    · simp
  have hkk : (if (Bt.num (Bt.num l).2).1 = 1 then Bt.text (Bt.num (Bt.num l).2).2 else ([], (Bt.num (Bt.num l).2).2)).2.length ≤ l.length := by
    split
    · omega
    · simp only; omega
  have hv : (recP l).1.value.length ≤ 1000000 := by
    unfold recP
    simp only
    generalize (if (Bt.num (Bt.num l).2).1 = 1 then Bt.text (Bt.num (Bt.num l).2).2 else ([], (Bt.num (Bt.num l).2).2)) = K at hkk ⊢
    have h3 := num_len K.2
    have h4 := text_len (Bt.num K.2).2
    split
    · simp
    · omega
  have ht : (recP l).1.time = ((Bt.num l).1 : Int) := rfl
  have ho : (recP l).1.off = 0 := rfl
  exact ⟨⟨by rw [ho]; omega, by rw [ho]; omega, by rw [ht]; omega, by rw [ht]; omega, by omega, by omega⟩, hk, hv⟩
theorem plP_rd {l : List UInt8} (h : l.length ≤ 1000000) : RecRd (plP l).1 := by
  have h0 := num_len l
  have h1 := recP_rd (l := (Bt.num l).2) (by omega)
  have ho : (plP l).1.off = ((Bt.num l).1 : Int) := by simp only [plP]
  have ht : (plP l).1.time = (recP (Bt.num l).2).1.time := by simp only [plP]
  have hk : (plP l).1.key = (recP (Bt.num l).2).1.key := by simp only [plP]
  have hv : (plP l).1.value = (recP (Bt.num l).2).1.value := by simp only [plP]
  exact ⟨⟨by rw [ho]; omega, by rw [ho]; omega, by rw [ht]; exact h1.ok.time1, by rw [ht]; exact h1.ok.time2, by rw [hk]; exact h1.ok.key, by rw [hv]; exact h1.ok.value⟩, by rw [hk]; exact h1.key, by rw [hv]; exact h1.value⟩
structure TpRd (t : Tp) : Prop where
  ok : TpOk t
  name : t.name.length ≤ 1000000
theorem tpP_rd {l : List UInt8} (h : l.length ≤ 1000000) : TpRd (tpP l).1 := by
  have h0 := text_len l
  have h1 := num_len (Bt.text l).2
  have hn : (tpP l).1.name = (Bt.text l).1 := by simp only [tpP]
  have hp : (tpP l).1.parts = ((Bt.num (Bt.text l).2).1 : Int) := by simp only [tpP]
  exact ⟨⟨⟨by rw [hp]; omega, by rw [hp]; omega⟩, by rw [hn]; omega⟩, by rw [hn]; omega⟩
theorem listP_all {α : Type} {one : List UInt8 → α × List UInt8} {ok : α → Prop} {L : Nat} (h1 : ∀ l, l.length ≤ L → ok (one l).1) (h2 : ∀ l, l ≠ [] → (one l).2.length < l.length) : ∀ (n : Nat) (l : List UInt8), l.length ≤ L → (∀ x ∈ (listP one n l).1, ok x) ∧ (listP one n l).1.length ≤ l.length ∧ (listP one n l).2.length ≤ l.length
  | 0, l, _ => by simp [listP]
  | n + 1, l, hl => by
    unfold listP
    by_cases h0 : l = []
    · simp [h0]
    · rw [if_neg h0]
      have h3 := h2 l h0
      obtain ⟨k1, k2, k3⟩ := listP_all h1 h2 n (one l).2 (by omega)
      refine ⟨fun x hx => ?_, by simp only [List.length_cons]; omega, by simp only; omega⟩
      rcases List.mem_cons.1 hx with rfl | hx
      · exact h1 l hl
      · exact k1 x hx
theorem listP_nil {α : Type} (one : List UInt8 → α × List UInt8) (n : Nat) : listP one n [] = ([], []) := by cases n <;> simp [listP]
theorem listP_step {α : Type} (one : List UInt8 → α × List UInt8) {n : Nat} {l : List UInt8} (h : l ≠ []) : listP one (n + 1) l = ((one l).1 :: (listP one n (one l).2).1, (listP one n (one l).2).2) := by
  rw [listP, if_neg h]

/-- A row of topics. -/
abbrev TpRow (w : World) (base : Nat) (v : Value) (l : List Tp) : Prop := GRow 67 3 tpC w base v l
theorem tpC_len (t : Tp) : (tpC t).length = 3 := rfl
theorem infoTp : (Tryd.prog.info? 67).map (fun i => (i.zero.map (fun z => z.cells.size), i.size, i.bytes)) = some (some 3, 3, 32) := by kernel_rfl
theorem app_tp (w : World) (base : Nat) (v : Value) (xs : List Tp) (x : Tp) (k : Nat) (hrow : TpRow w base v xs) (hk : w.heap[k]? = some (.cells (tpC x).toArray 67 (0, 0))) (hlen : xs.length ≤ 1000000) (hbase : base ≤ w.heap.size) :
    ∃ v' w', (Builtin.append_ #[36, 36] 36 #[v, .slice (some ⟨k, 0, none⟩) 1 1]).run Tryd.prog w = .ok v' w' ∧ TpRow w' base v' (xs ++ [x]) ∧ Turn v.ownBlock.toList w w' ∧ (∀ j ∈ v'.ownBlock, j ∈ v.ownBlock ∨ w.heap.size ≤ j) := by
  have h := infoTp
  cases hi : Tryd.prog.info? 67 with
  | none => rw [hi] at h; cases h
  | some i =>
    rw [hi] at h
    simp only [Option.map_some, Option.some.injEq, Prod.mk.injEq, Option.map_eq_some_iff] at h
    obtain ⟨⟨z, hz, hzs⟩, hs, hb⟩ := h
    exact run_append_g (P := Tryd.prog) 36 36 Tryd.underlying36 i z hi hz hzs hs (by omega) tpC_len (by intro x u hu; simp [tpC] at hu; rcases hu with rfl | rfl | rfl <;> rfl) w base v xs x k hrow hk hlen hbase
theorem TpRow.tops {w : World} {base : Nat} {sv : Value} {ts : List Tp} (h : TpRow w base sv ts) (ok : ∀ t ∈ ts, TpOk t) : TopsAt w sv ts := by
  obtain ⟨a, c, rfl, h1, h2⟩ := h.form
  refine ⟨a, c, rfl, h1, h2, fun e => ?_, fun j hj => ?_⟩
  · rcases h with ⟨e1, -⟩ | ⟨g, cap, cur, e1, -⟩
    · simp only [Value.slice.injEq] at e1; exact e1.2.2
    · simp only [Value.slice.injEq] at e1; rw [e] at e1; cases e1.1
  · obtain ⟨g, cap, e1, hc, -⟩ := h.at tpC_len hj
    simp only [Value.slice.injEq] at e1
    obtain ⟨rfl, -, rfl⟩ := e1
    refine ⟨ok _ (List.getElem_mem _), ⟨g, 0, none⟩, rfl, fun i u hu => ?_⟩
    have hi : i < 3 := by have := (List.getElem?_eq_some_iff.1 hu).1; simpa [tpC] using this
    have := hc i hi
    rw [hu] at this
    have e2 : ((⟨g, 0, none⟩ : Addr).add (j * 3)).add i = ⟨g, j * 3 + i, none⟩ := by
      rw [add_add, addr_add]
    rw [e2]
    exact this

set_option maxHeartbeats 4000000 in
theorem rpl_any (w : World) (rb B : Nat) (l : List UInt8) (h : RdW w rb B l) (hB : B ≤ rb) (hl : l.length ≤ 1000000) :
    Calls Tryd.prog 44 #[.pointer (some ⟨rb, 0, none⟩)] w fun e w' => e = .returned (recV (plP l).1) ∧ RdW w' rb B (plP l).2 ∧ Turn [rb] w w' := by
  have hrb := h.lt
  obtain ⟨n0, r0, e0⟩ : ∃ n r, Bt.num l = (n, r) := ⟨_, _, rfl⟩
  obtain ⟨ro, rt, rk, rkey, rg, rv, r1, e1⟩ : ∃ ro rt rk rkey rg rv r, recP r0 = ((⟨ro, rt, rk, rkey, rg, rv⟩ : Bt.Rec), r) := ⟨_, _, _, _, _, _, _, rfl⟩
  have g0 := num_len l
  rw [e0] at g0
  simp only at g0
  have HE : Hid (plP l = (⟨n0, rt, rk, rkey, rg, rv⟩, r1)) := by
    show _ = _
    unfold plP
    rw [e0]
    simp only [e1]
  obtain ⟨wy, hwy⟩ : ∃ wy, wy = w.alloc (.cells zR.toArray 76) := ⟨_, rfl⟩
  have hty : Turn [] w wy := by rw [hwy]; exact (Turn.refl [] w).alloc _
  have E0 := hide e0
  have E1 := hide e1
  have HWY := hide hwy
  have HRY := hide (h.still hty)
  clear h hwy hty e0 e1
  go_enter Tryd.func44, Tryd.ntmps44
  go_wp2_with fail
  rw [show w.alloc (.cells #[.int .i64 0, .int .i64 0, .bool false, .string ⟨#[]⟩, .bool false, .string ⟨#[]⟩] 76) = wy from HWY.out.symm]
  refine (wnum_any _ rb B l HRY.out hB hl).mono ?_
  rintro e w1 ⟨rfl, hr1, ht1⟩
  rw [E0.out] at hr1 ⊢
  have HR1 := hide hr1
  have HT1 := hide ht1
  clear hr1 ht1
  go_wp2_with fail
  refine (rrec_any _ rb B r0 HR1.out hB (by omega)).mono ?_
  rintro e w2 ⟨rfl, hr2, ht2⟩
  rw [E1.out] at hr2 ⊢
  simp only at hr2 ⊢
  have hc3 := Cn.start (cs := [.int .i64 ro, .int .i64 rt, .bool rk, .string ⟨rkey.toArray⟩, .bool rg, .string ⟨rv.toArray⟩]) HWY.out (HT1.out.same ht2) hrb hr2
  obtain ⟨X, hX⟩ : ∃ X, X = w2.heap.size := ⟨_, rfl⟩
  obtain ⟨wx, hwx⟩ : ∃ wx, wx = w2.alloc (.cells #[.int .i64 ro, .int .i64 rt, .bool rk, .string ⟨rkey.toArray⟩, .bool rg, .string ⟨rv.toArray⟩] 76) := ⟨_, rfl⟩
  have hc3' : Cn 76 w wx rb B X w.heap.size [.int .i64 ro, .int .i64 rt, .bool rk, .string ⟨rkey.toArray⟩, .bool rg, .string ⟨rv.toArray⟩] zR r1 := by
    rw [hwx, hX]; exact hc3
  have HC4 := hide hc3'
  have HWX := hide hwx
  have HX := hide hX
  clear hc3 hc3' hwx hX hr2 ht2
  have HN : Hid (X < wx.heap.size) := lt_of_heap HC4.out.x
  simp only [recV, strV]
  go_upto_region 3 with fail
  rw [show w2.alloc (.cells #[.int .i64 ro, .int .i64 rt, .bool rk, .string ⟨rkey.toArray⟩, .bool rg, .string ⟨rv.toArray⟩] 76) = wx from HWX.out.symm]
  rw [← HX.out]
  obtain ⟨c0, f0, y0, g0⟩ := HC4.out.cell 0
  simp only [zR, List.set_cons_zero, List.set_cons_succ, List.getElem?_cons_zero, List.getElem?_cons_succ] at c0 y0
  obtain ⟨c1, f1, y1, g1⟩ := HC4.out.cell 1
  simp only [zR, List.set_cons_zero, List.set_cons_succ, List.getElem?_cons_zero, List.getElem?_cons_succ] at c1 y1
  obtain ⟨c2, f2, y2, g2⟩ := HC4.out.cell 2
  simp only [zR, List.set_cons_zero, List.set_cons_succ, List.getElem?_cons_zero, List.getElem?_cons_succ] at c2 y2
  obtain ⟨c3, f3, y3, g3⟩ := HC4.out.cell 3
  simp only [zR, List.set_cons_zero, List.set_cons_succ, List.getElem?_cons_zero, List.getElem?_cons_succ] at c3 y3
  obtain ⟨c4, f4, y4, g4⟩ := HC4.out.cell 4
  simp only [zR, List.set_cons_zero, List.set_cons_succ, List.getElem?_cons_zero, List.getElem?_cons_succ] at c4 y4
  obtain ⟨c5, f5, y5, g5⟩ := HC4.out.cell 5
  simp only [zR, List.set_cons_zero, List.set_cons_succ, List.getElem?_cons_zero, List.getElem?_cons_succ] at c5 y5
  have HC8 := hide (HC4.out.set hrb hB 0 (.int .i64 (n0 : Int)))
  simp only [List.set_cons_zero, List.set_cons_succ] at HC8
  have hxy1 : ¬ X = w.heap.size := HC8.out.hxy
  have hxy2 : ¬ w.heap.size = X := fun e => hxy1 e.symm
  clear c1 f1 c2 f2 c3 f3 c4 f4 c5 f5 y0 g0 y1 g1 y2 g2 y3 g3 y4 g4 y5 g5
  obtain ⟨cz0, fz0, yz0, gz0⟩ := HC8.out.cell 0
  simp only [zR, List.set_cons_zero, List.set_cons_succ, List.getElem?_cons_zero, List.getElem?_cons_succ] at cz0 yz0
  obtain ⟨cz1, fz1, yz1, gz1⟩ := HC8.out.cell 1
  simp only [zR, List.set_cons_zero, List.set_cons_succ, List.getElem?_cons_zero, List.getElem?_cons_succ] at cz1 yz1
  obtain ⟨cz2, fz2, yz2, gz2⟩ := HC8.out.cell 2
  simp only [zR, List.set_cons_zero, List.set_cons_succ, List.getElem?_cons_zero, List.getElem?_cons_succ] at cz2 yz2
  obtain ⟨cz3, fz3, yz3, gz3⟩ := HC8.out.cell 3
  simp only [zR, List.set_cons_zero, List.set_cons_succ, List.getElem?_cons_zero, List.getElem?_cons_succ] at cz3 yz3
  obtain ⟨cz4, fz4, yz4, gz4⟩ := HC8.out.cell 4
  simp only [zR, List.set_cons_zero, List.set_cons_succ, List.getElem?_cons_zero, List.getElem?_cons_succ] at cz4 yz4
  obtain ⟨cz5, fz5, yz5, gz5⟩ := HC8.out.cell 5
  simp only [zR, List.set_cons_zero, List.set_cons_succ, List.getElem?_cons_zero, List.getElem?_cons_succ] at cz5 yz5
  go_wp2
  have hf := HC8.out.fin hrb hB rfl
  have hld := load6 hf.1
  simp only [setN, Nat.reduceAdd] at hf hld
  refine bodyPost_ret (v := recV ⟨n0, rt, rk, rkey, rg, rv⟩) (by simp [results, Tryd.results44, asAddr, hld, Result.andThen, recV, strV, recC]) rfl ?_
  rw [HE.out]
  exact ⟨rfl, hf.2.1, hf.2.2⟩

set_option maxHeartbeats 4000000 in
theorem rtp_any (w : World) (rb B : Nat) (l : List UInt8) (h : RdW w rb B l) (hB : B ≤ rb) (hl : l.length ≤ 1000000) :
    Calls Tryd.prog 46 #[.pointer (some ⟨rb, 0, none⟩)] w fun e w' => e = .returned (.agg #[strV (tpP l).1.name, .int .i64 (tpP l).1.parts, .bool (tpP l).1.compact]) ∧ RdW w' rb B (tpP l).2 ∧ Turn [rb] w w' := by
  have hrb := h.lt
  obtain ⟨t0, r0, e0⟩ : ∃ n r, Bt.text l = (n, r) := ⟨_, _, rfl⟩
  obtain ⟨n1, r1, e1⟩ : ∃ n r, Bt.num r0 = (n, r) := ⟨_, _, rfl⟩
  obtain ⟨n2, r2, e2⟩ : ∃ n r, Bt.num r1 = (n, r) := ⟨_, _, rfl⟩
  have g0 := text_len l
  have g1 := num_len r0
  rw [e0] at g0
  rw [e1] at g1
  simp only at g0 g1
  have HE : Hid (tpP l = (⟨t0, n1, decide (n2 = 1)⟩, r2)) := by
    show _ = _
    unfold tpP
    simp only [e0, e1, e2]
  obtain ⟨wy, hwy⟩ : ∃ wy, wy = w.alloc (.cells #[.string ⟨#[]⟩, .int .i64 0, .bool false] 67) := ⟨_, rfl⟩
  have hty : Turn [] w wy := by rw [hwy]; exact (Turn.refl [] w).alloc _
  have hyy : wy.heap[w.heap.size]? = some (.cells ([.string ⟨#[]⟩, .int .i64 0, .bool false] : List Value).toArray 67 (0, 0)) := by rw [hwy]; exact heap_new w _
  have E0 := hide e0
  have E1 := hide e1
  have E2 := hide e2
  have HWY := hide hwy
  have HYY := hide hyy
  have HTY := hide hty
  have HRY := hide (h.still hty)
  clear h hwy hty e0 e1 e2 hyy
  go_enter Tryd.func46, Tryd.ntmps46
  go_wp2_with fail
  rw [show w.alloc (.cells #[.string ⟨#[]⟩, .int .i64 0, .bool false] 67) = wy from HWY.out.symm]
  refine (wtext_any _ rb B l HRY.out hB hl).mono ?_
  rintro e w1 ⟨rfl, hr1, ht1⟩
  rw [E0.out] at hr1 ⊢
  have HR1 := hide hr1
  have HT1 := hide ht1
  clear hr1 ht1
  go_wp2_with fail
  refine (wnum_any _ rb B r0 HR1.out hB (by omega)).mono ?_
  rintro e w2 ⟨rfl, hr2, ht2⟩
  rw [E1.out] at hr2 ⊢
  have HR2 := hide hr2
  have HT2 := hide (HT1.out.same ht2)
  clear hr2 ht2
  go_wp2_with fail
  refine (wtru_any _ rb B r1 HR2.out hB (by omega)).mono ?_
  rintro e w3 ⟨rfl, hr3, ht3⟩
  rw [E2.out] at hr3 ⊢
  simp only at hr3 ⊢
  have HT3 := hide (HT2.out.same ht3)
  have hy3 := HT3.out.heap HYY.out (by simp; omega)
  have c0 : w3.cell? ⟨w.heap.size, 0, none⟩ = some (.string ⟨#[]⟩) := by simpa using cell_of hy3 0
  have c1 : w3.cell? ⟨w.heap.size, 1, none⟩ = some (.int .i64 0) := by simpa using cell_of hy3 1
  have c2 : w3.cell? ⟨w.heap.size, 2, none⟩ = some (.bool false) := by simpa using cell_of hy3 2
  have f0 : w3.frozen? ⟨w.heap.size, 0, none⟩ = false := frozen_of hy3 0
  have f1 : w3.frozen? ⟨w.heap.size, 1, none⟩ = false := frozen_of hy3 1
  have f2 : w3.frozen? ⟨w.heap.size, 2, none⟩ = false := frozen_of hy3 2
  have HY3 := hide hy3
  have HR3 := hide hr3
  clear hy3 hr3 ht3
  simp only [strV]
  go_wp2
  have hf := setN_heap [.string ⟨t0.toArray⟩, .int .i64 (n1 : Int), .bool (decide (n2 = 1))] 0 _ _ HY3.out (by simp)
  have ht4 := setN_turn w.heap.size [.string ⟨t0.toArray⟩, .int .i64 (n1 : Int), .bool (decide (n2 = 1))] 0 w3
  have hr4 := HR3.out.kept ht4 (by simp; omega) (by simp; omega)
  simp only [List.take_zero, List.nil_append, List.length_cons, List.length_nil, Nat.zero_add, Nat.reduceAdd, List.drop_succ_cons, List.drop_zero, List.append_nil, List.drop_nil] at hf
  have hld := load3 hf
  simp only [setN, Nat.reduceAdd, Nat.zero_add] at hld ht4 hr4
  refine bodyPost_ret (v := .agg #[.string ⟨t0.toArray⟩, .int .i64 (n1 : Int), .bool (decide (n2 = 1))]) (by simp [results, Tryd.results46, asAddr, hld, Result.andThen]) rfl ?_
  rw [HE.out]
  exact ⟨rfl, hr4, ((HTY.out.mono (by simp)).same HT3.out).trans ht4 (fun k hk => .inr (by simp at hk; omega))⟩
end Go.Proofs.YtcpjohpbakbggaaDoor.Wi

/- wire's reader: lists. -/
namespace Go.Proofs.YtcpjohpbakbggaaDoor.Wi
open Go.RowKit Go.Maps
set_option maxRecDepth 100000
set_option linter.unusedSimpArgs false
set_option linter.unusedVariables false
attribute [local go_sem] Oper.semAt_some


set_option maxHeartbeats 4000000 in
theorem rlistR_any (w : World) (rb B : Nat) (l : List UInt8) (h : RdW w rb B l) (hB : B ≤ rb) (hl : l.length ≤ 900000) :
    Calls Tryd.prog 37 #[.pointer (some ⟨rb, 0, none⟩), .func (.func 38) #[.pointer (some ⟨rb, 0, none⟩)] #[]] w fun e w' => ∃ sv, e = .returned sv ∧ RecRow w' w.heap.size sv (listP recP (Bt.num l).1 (Bt.num l).2).1 ∧ RdW w' rb B (listP recP (Bt.num l).1 (Bt.num l).2).2 ∧ Turn [rb] w w' := by
  have hrb := h.lt
  obtain ⟨n0, r0, e0⟩ : ∃ n r, Bt.num l = (n, r) := ⟨_, _, rfl⟩
  have g0 := num_len l
  rw [e0] at g0 ⊢
  simp only at g0 ⊢
  have E0 := hide e0
  have HH := hide h
  obtain ⟨res, hres⟩ : ∃ res, res = listP recP n0 r0 := ⟨_, rfl⟩
  rw [← hres]
  have HRES := hide hres
  clear h e0 hres
  go_enter Tryd.func37, Tryd.ntmps37
  go_wp2_with fail
  refine (wnum_any _ rb B l HH.out hB (by omega)).mono ?_
  rintro e w1 ⟨rfl, hr1, ht1⟩
  rw [E0.out] at hr1 ⊢
  simp only at hr1 ⊢
  have HR1 := hide hr1
  have HT1 := hide ht1
  clear hr1 ht1
  go_wp2
  go_loopw [5, 6] (fun lv nv wr => ∃ (v : Value) (k : Nat) (done : List Bt.Rec) (r : List UInt8), v = lv ∧ nv = .int .i64 (k : Int) ∧ k ≤ 1099511627776 ∧ RecRow wr w.heap.size v done ∧ RdW wr rb B r ∧ Turn [rb] w wr ∧ done.length + r.length ≤ 900000 ∧ res = (done ++ (listP recP k r).1, (listP recP k r).2)) (fun _ nv _ => (intOf nv).toNat)
  case atStart => exact ⟨_, n0, [], r0, rfl, rfl, g0.2, .inl ⟨rfl, rfl⟩, HR1.out, HT1.out, by simp; omega, by simpa using HRES.out⟩
  case round =>
    obtain ⟨v, k, done, r, rfl, rfl, hk, hrow, hrd, htw, hlen, hre⟩ := hrel
    have HROW := hide hrow
    have HRD := hide hrd
    have HTW := hide htw
    have HRE := hide hre
    obtain ⟨rs, b1, b2, b3⟩ := hrd
    obtain ⟨ra, rc, rfl, -, -⟩ := b2.form
    have c0 : wr.cell? ⟨rb, 0, none⟩ = some (.slice ra r.length rc) := by simpa using cell_of b1 0
    clear hrow htw hre b1 b2 b3
    by_cases hk0 : k = 0
    · have hk1 : ¬ (k : Int) > 0 := by omega
      have hfin : listP recP k r = ([], r) := by rw [hk0]; rfl
      have HF := hide hfin
      clear hk0 hfin
      go_wp2
      go_ret
      refine ⟨v, rfl, ?_, ?_, HTW.out⟩
      · rw [HRE.out, HF.out, List.append_nil]; exact HROW.out
      · rw [HRE.out, HF.out]; exact HRD.out
    · have hk1 : (k : Int) > 0 := by omega
      by_cases hr0 : r = []
      · have hr1 : ¬ (r.length : Int) > 0 := by rw [hr0]; simp
        have hfin : listP recP k r = ([], r) := by rw [hr0]; exact listP_nil _ _
        have HF := hide hfin
        clear hr0 hfin hk0
        go_wp2
        go_ret
        refine ⟨v, rfl, ?_, ?_, HTW.out⟩
        · rw [HRE.out, HF.out, List.append_nil]; exact HROW.out
        · rw [HRE.out, HF.out]; exact HRD.out
      · have hr1 : (r.length : Int) > 0 := by have := List.length_pos_iff.2 hr0; omega
        have hlt := recP_lt hr0
        obtain ⟨k', rfl⟩ : ∃ k', k = k' + 1 := ⟨k - 1, by omega⟩
        have hst := listP_step recP (n := k') hr0
        obtain ⟨xo, xt, xk, xkey, xg, xv, r', ex⟩ : ∃ xo xt xk xkey xg xv r', recP r = ((⟨xo, xt, xk, xkey, xg, xv⟩ : Bt.Rec), r') := ⟨_, _, _, _, _, _, _, rfl⟩
        rw [ex] at hst hlt
        simp only at hst hlt
        have HST := hide hst
        have EX := hide ex
        clear hst ex hr0 hk0
        go_wp2_with fail
        refine (rrec_any wr rb B r HRD.out hB (by omega)).mono ?_
        rintro e w2 ⟨rfl, hr2, ht2⟩
        rw [EX.out] at hr2 ⊢
        simp only [recV, strV] at hr2 ⊢
        have hrow2 := HROW.out.kept ht2 (fun q hq hm => by have := (HROW.out.lt q hq).1; simp at hm; omega)
        obtain ⟨wa, hwa⟩ : ∃ wa, wa = w2.alloc (.cells #[.int .i64 xo, .int .i64 xt, .bool xk, .string ⟨xkey.toArray⟩, .bool xg, .string ⟨xv.toArray⟩] 76) := ⟨_, rfl⟩
        have hta : Turn [] w2 wa := by rw [hwa]; exact (Turn.refl [] w2).alloc _
        have hsz := HTW.out.size
        have hsz2 := ht2.size
        have hsza := hta.size
        obtain ⟨v7, w7, hr7, hrow7, ht7, hown7⟩ := run_append_rec wa w.heap.size v done ⟨xo, xt, xk, xkey, xg, xv⟩ w2.heap.size (hrow2.kept hta (by simp)) (by rw [hwa]; exact heap_new w2 _) (by omega) (by omega)
        obtain ⟨a3, n3, cp3, hv3⟩ : ∃ a n c, v7 = .slice a n c := by
          exact hrow7.some_slice
        subst hv3
        have hrd7 := (hr2.still hta).kept ht7 (fun hm => by have := (hrow2.lt rb (by simpa using hm)).1; omega) (fun q hq => by have := (hrow2.lt q (by simpa using hq)).1; omega)
        have htw7 : Turn [rb] w w7 := ((HTW.out.same ht2).trans hta (by simp)).trans ht7 (fun q hq => .inr (hrow2.lt q (by simpa using hq)).1)
        rw [hwa] at hr7
        have HR7 := hide hr7
        have HROW7 := hide hrow7
        have HRD7 := hide hrd7
        have HTW7 := hide htw7
        clear hr7 hrow7 ht7 hown7 hrd7 htw7 hwa hta hrow2 hr2 ht2 c0
        go_wp2_with (at_builtin; go_must (refine wpList_append_told rfl rfl rfl rfl HR7.out ?_))
        go_roundw
        case rel =>
          refine ⟨_, k', done ++ [⟨xo, xt, xk, xkey, xg, xv⟩], r', rfl, by go_num, by omega, HROW7.out, HRD7.out, HTW7.out, by simp only [List.length_append, List.length_cons, List.length_nil]; omega, ?_⟩
          rw [HRE.out, HST.out]
          simp only [List.append_assoc, List.cons_append, List.nil_append]
        case measure => simp only [intOf]; omega

set_option maxHeartbeats 4000000 in
theorem rlistP_any (w : World) (rb B : Nat) (l : List UInt8) (h : RdW w rb B l) (hB : B ≤ rb) (hl : l.length ≤ 900000) :
    Calls Tryd.prog 37 #[.pointer (some ⟨rb, 0, none⟩), .func (.func 44) #[.pointer (some ⟨rb, 0, none⟩)] #[]] w fun e w' => ∃ sv, e = .returned sv ∧ RecRow w' w.heap.size sv (listP plP (Bt.num l).1 (Bt.num l).2).1 ∧ RdW w' rb B (listP plP (Bt.num l).1 (Bt.num l).2).2 ∧ Turn [rb] w w' := by
  have hrb := h.lt
  obtain ⟨n0, r0, e0⟩ : ∃ n r, Bt.num l = (n, r) := ⟨_, _, rfl⟩
  have g0 := num_len l
  rw [e0] at g0 ⊢
  simp only at g0 ⊢
  have E0 := hide e0
  have HH := hide h
  obtain ⟨res, hres⟩ : ∃ res, res = listP plP n0 r0 := ⟨_, rfl⟩
  rw [← hres]
  have HRES := hide hres
  clear h e0 hres
  go_enter Tryd.func37, Tryd.ntmps37
  go_wp2_with fail
  refine (wnum_any _ rb B l HH.out hB (by omega)).mono ?_
  rintro e w1 ⟨rfl, hr1, ht1⟩
  rw [E0.out] at hr1 ⊢
  simp only at hr1 ⊢
  have HR1 := hide hr1
  have HT1 := hide ht1
  clear hr1 ht1
  go_wp2
  go_loopw [5, 6] (fun lv nv wr => ∃ (v : Value) (k : Nat) (done : List Bt.Rec) (r : List UInt8), v = lv ∧ nv = .int .i64 (k : Int) ∧ k ≤ 1099511627776 ∧ RecRow wr w.heap.size v done ∧ RdW wr rb B r ∧ Turn [rb] w wr ∧ done.length + r.length ≤ 900000 ∧ res = (done ++ (listP plP k r).1, (listP plP k r).2)) (fun _ nv _ => (intOf nv).toNat)
  case atStart => exact ⟨_, n0, [], r0, rfl, rfl, g0.2, .inl ⟨rfl, rfl⟩, HR1.out, HT1.out, by simp; omega, by simpa using HRES.out⟩
  case round =>
    obtain ⟨v, k, done, r, rfl, rfl, hk, hrow, hrd, htw, hlen, hre⟩ := hrel
    have HROW := hide hrow
    have HRD := hide hrd
    have HTW := hide htw
    have HRE := hide hre
    obtain ⟨rs, b1, b2, b3⟩ := hrd
    obtain ⟨ra, rc, rfl, -, -⟩ := b2.form
    have c0 : wr.cell? ⟨rb, 0, none⟩ = some (.slice ra r.length rc) := by simpa using cell_of b1 0
    clear hrow htw hre b1 b2 b3
    by_cases hk0 : k = 0
    · have hk1 : ¬ (k : Int) > 0 := by omega
      have hfin : listP plP k r = ([], r) := by rw [hk0]; rfl
      have HF := hide hfin
      clear hk0 hfin
      go_wp2
      go_ret
      refine ⟨v, rfl, ?_, ?_, HTW.out⟩
      · rw [HRE.out, HF.out, List.append_nil]; exact HROW.out
      · rw [HRE.out, HF.out]; exact HRD.out
    · have hk1 : (k : Int) > 0 := by omega
      by_cases hr0 : r = []
      · have hr1 : ¬ (r.length : Int) > 0 := by rw [hr0]; simp
        have hfin : listP plP k r = ([], r) := by rw [hr0]; exact listP_nil _ _
        have HF := hide hfin
        clear hr0 hfin hk0
        go_wp2
        go_ret
        refine ⟨v, rfl, ?_, ?_, HTW.out⟩
        · rw [HRE.out, HF.out, List.append_nil]; exact HROW.out
        · rw [HRE.out, HF.out]; exact HRD.out
      · have hr1 : (r.length : Int) > 0 := by have := List.length_pos_iff.2 hr0; omega
        have hlt := plP_lt hr0
        obtain ⟨k', rfl⟩ : ∃ k', k = k' + 1 := ⟨k - 1, by omega⟩
        have hst := listP_step plP (n := k') hr0
        obtain ⟨xo, xt, xk, xkey, xg, xv, r', ex⟩ : ∃ xo xt xk xkey xg xv r', plP r = ((⟨xo, xt, xk, xkey, xg, xv⟩ : Bt.Rec), r') := ⟨_, _, _, _, _, _, _, rfl⟩
        rw [ex] at hst hlt
        simp only at hst hlt
        have HST := hide hst
        have EX := hide ex
        clear hst ex hr0 hk0
        go_wp2_with fail
        refine (rpl_any wr rb B r HRD.out hB (by omega)).mono ?_
        rintro e w2 ⟨rfl, hr2, ht2⟩
        rw [EX.out] at hr2 ⊢
        simp only [recV, strV] at hr2 ⊢
        have hrow2 := HROW.out.kept ht2 (fun q hq hm => by have := (HROW.out.lt q hq).1; simp at hm; omega)
        obtain ⟨wa, hwa⟩ : ∃ wa, wa = w2.alloc (.cells #[.int .i64 xo, .int .i64 xt, .bool xk, .string ⟨xkey.toArray⟩, .bool xg, .string ⟨xv.toArray⟩] 76) := ⟨_, rfl⟩
        have hta : Turn [] w2 wa := by rw [hwa]; exact (Turn.refl [] w2).alloc _
        have hsz := HTW.out.size
        have hsz2 := ht2.size
        have hsza := hta.size
        obtain ⟨v7, w7, hr7, hrow7, ht7, hown7⟩ := run_append_rec wa w.heap.size v done ⟨xo, xt, xk, xkey, xg, xv⟩ w2.heap.size (hrow2.kept hta (by simp)) (by rw [hwa]; exact heap_new w2 _) (by omega) (by omega)
        obtain ⟨a3, n3, cp3, hv3⟩ : ∃ a n c, v7 = .slice a n c := by
          exact hrow7.some_slice
        subst hv3
        have hrd7 := (hr2.still hta).kept ht7 (fun hm => by have := (hrow2.lt rb (by simpa using hm)).1; omega) (fun q hq => by have := (hrow2.lt q (by simpa using hq)).1; omega)
        have htw7 : Turn [rb] w w7 := ((HTW.out.same ht2).trans hta (by simp)).trans ht7 (fun q hq => .inr (hrow2.lt q (by simpa using hq)).1)
        rw [hwa] at hr7
        have HR7 := hide hr7
        have HROW7 := hide hrow7
        have HRD7 := hide hrd7
        have HTW7 := hide htw7
        clear hr7 hrow7 ht7 hown7 hrd7 htw7 hwa hta hrow2 hr2 ht2 c0
        go_wp2_with (at_builtin; go_must (refine wpList_append_told rfl rfl rfl rfl HR7.out ?_))
        go_roundw
        case rel =>
          refine ⟨_, k', done ++ [⟨xo, xt, xk, xkey, xg, xv⟩], r', rfl, by go_num, by omega, HROW7.out, HRD7.out, HTW7.out, by simp only [List.length_append, List.length_cons, List.length_nil]; omega, ?_⟩
          rw [HRE.out, HST.out]
          simp only [List.append_assoc, List.cons_append, List.nil_append]
        case measure => simp only [intOf]; omega

set_option maxHeartbeats 4000000 in
theorem rlistT_any (w : World) (rb B : Nat) (l : List UInt8) (h : RdW w rb B l) (hB : B ≤ rb) (hl : l.length ≤ 900000) :
    Calls Tryd.prog 45 #[.pointer (some ⟨rb, 0, none⟩), .func (.func 46) #[.pointer (some ⟨rb, 0, none⟩)] #[]] w fun e w' => ∃ sv, e = .returned sv ∧ TpRow w' w.heap.size sv (listP tpP (Bt.num l).1 (Bt.num l).2).1 ∧ RdW w' rb B (listP tpP (Bt.num l).1 (Bt.num l).2).2 ∧ Turn [rb] w w' := by
  have hrb := h.lt
  obtain ⟨n0, r0, e0⟩ : ∃ n r, Bt.num l = (n, r) := ⟨_, _, rfl⟩
  have g0 := num_len l
  rw [e0] at g0 ⊢
  simp only at g0 ⊢
  have E0 := hide e0
  have HH := hide h
  obtain ⟨res, hres⟩ : ∃ res, res = listP tpP n0 r0 := ⟨_, rfl⟩
  rw [← hres]
  have HRES := hide hres
  clear h e0 hres
  go_enter Tryd.func45, Tryd.ntmps45
  go_wp2_with fail
  refine (wnum_any _ rb B l HH.out hB (by omega)).mono ?_
  rintro e w1 ⟨rfl, hr1, ht1⟩
  rw [E0.out] at hr1 ⊢
  simp only at hr1 ⊢
  have HR1 := hide hr1
  have HT1 := hide ht1
  clear hr1 ht1
  go_wp2
  go_loopw [5, 6] (fun lv nv wr => ∃ (v : Value) (k : Nat) (done : List Tp) (r : List UInt8), v = lv ∧ nv = .int .i64 (k : Int) ∧ k ≤ 1099511627776 ∧ TpRow wr w.heap.size v done ∧ RdW wr rb B r ∧ Turn [rb] w wr ∧ done.length + r.length ≤ 900000 ∧ res = (done ++ (listP tpP k r).1, (listP tpP k r).2)) (fun _ nv _ => (intOf nv).toNat)
  case atStart => exact ⟨_, n0, [], r0, rfl, rfl, g0.2, .inl ⟨rfl, rfl⟩, HR1.out, HT1.out, by simp; omega, by simpa using HRES.out⟩
  case round =>
    obtain ⟨v, k, done, r, rfl, rfl, hk, hrow, hrd, htw, hlen, hre⟩ := hrel
    have HROW := hide hrow
    have HRD := hide hrd
    have HTW := hide htw
    have HRE := hide hre
    obtain ⟨rs, b1, b2, b3⟩ := hrd
    obtain ⟨ra, rc, rfl, -, -⟩ := b2.form
    have c0 : wr.cell? ⟨rb, 0, none⟩ = some (.slice ra r.length rc) := by simpa using cell_of b1 0
    clear hrow htw hre b1 b2 b3
    by_cases hk0 : k = 0
    · have hk1 : ¬ (k : Int) > 0 := by omega
      have hfin : listP tpP k r = ([], r) := by rw [hk0]; rfl
      have HF := hide hfin
      clear hk0 hfin
      go_wp2
      go_ret
      refine ⟨v, rfl, ?_, ?_, HTW.out⟩
      · rw [HRE.out, HF.out, List.append_nil]; exact HROW.out
      · rw [HRE.out, HF.out]; exact HRD.out
    · have hk1 : (k : Int) > 0 := by omega
      by_cases hr0 : r = []
      · have hr1 : ¬ (r.length : Int) > 0 := by rw [hr0]; simp
        have hfin : listP tpP k r = ([], r) := by rw [hr0]; exact listP_nil _ _
        have HF := hide hfin
        clear hr0 hfin hk0
        go_wp2
        go_ret
        refine ⟨v, rfl, ?_, ?_, HTW.out⟩
        · rw [HRE.out, HF.out, List.append_nil]; exact HROW.out
        · rw [HRE.out, HF.out]; exact HRD.out
      · have hr1 : (r.length : Int) > 0 := by have := List.length_pos_iff.2 hr0; omega
        have hlt := tpP_lt hr0
        obtain ⟨k', rfl⟩ : ∃ k', k = k' + 1 := ⟨k - 1, by omega⟩
        have hst := listP_step tpP (n := k') hr0
        obtain ⟨xn, xp, xc, r', ex⟩ : ∃ xn xp xc r', tpP r = ((⟨xn, xp, xc⟩ : Tp), r') := ⟨_, _, _, _, rfl⟩
        rw [ex] at hst hlt
        simp only at hst hlt
        have HST := hide hst
        have EX := hide ex
        clear hst ex hr0 hk0
        go_wp2_with fail
        refine (rtp_any wr rb B r HRD.out hB (by omega)).mono ?_
        rintro e w2 ⟨rfl, hr2, ht2⟩
        rw [EX.out] at hr2 ⊢
        simp only [strV] at hr2 ⊢
        have hrow2 := HROW.out.kept ht2 (fun q hq hm => by have := (HROW.out.lt q hq).1; simp at hm; omega)
        obtain ⟨wa, hwa⟩ : ∃ wa, wa = w2.alloc (.cells #[.string ⟨xn.toArray⟩, .int .i64 xp, .bool xc] 67) := ⟨_, rfl⟩
        have hta : Turn [] w2 wa := by rw [hwa]; exact (Turn.refl [] w2).alloc _
        have hsz := HTW.out.size
        have hsz2 := ht2.size
        have hsza := hta.size
        obtain ⟨v7, w7, hr7, hrow7, ht7, hown7⟩ := app_tp wa w.heap.size v done ⟨xn, xp, xc⟩ w2.heap.size (hrow2.kept hta (by simp)) (by rw [hwa]; exact heap_new w2 _) (by omega) (by omega)
        obtain ⟨a3, n3, cp3, hv3⟩ : ∃ a n c, v7 = .slice a n c := by
          obtain ⟨a, c, e, -⟩ := hrow7.form; exact ⟨_, _, _, e⟩
        subst hv3
        have hrd7 := (hr2.still hta).kept ht7 (fun hm => by have := (hrow2.lt rb (by simpa using hm)).1; omega) (fun q hq => by have := (hrow2.lt q (by simpa using hq)).1; omega)
        have htw7 : Turn [rb] w w7 := ((HTW.out.same ht2).trans hta (by simp)).trans ht7 (fun q hq => .inr (hrow2.lt q (by simpa using hq)).1)
        rw [hwa] at hr7
        have HR7 := hide hr7
        have HROW7 := hide hrow7
        have HRD7 := hide hrd7
        have HTW7 := hide htw7
        clear hr7 hrow7 ht7 hown7 hrd7 htw7 hwa hta hrow2 hr2 ht2 c0
        go_wp2_with (at_builtin; go_must (refine wpList_append_told rfl rfl rfl rfl HR7.out ?_))
        go_roundw
        case rel =>
          refine ⟨_, k', done ++ [⟨xn, xp, xc⟩], r', rfl, by go_num, by omega, HROW7.out, HRD7.out, HTW7.out, by simp only [List.length_append, List.length_cons, List.length_nil]; omega, ?_⟩
          rw [HRE.out, HST.out]
          simp only [List.append_assoc, List.cons_append, List.nil_append]
        case measure => simp only [intOf]; omega
end Go.Proofs.YtcpjohpbakbggaaDoor.Wi

/- Requests and answers, read: what is told by a frame. No program. -/
namespace Go.Proofs.YtcpjohpbakbggaaDoor.Wi
open Go.Proofs.YtcpjohpbakbggaaDoor
set_option linter.unusedSimpArgs false
set_option linter.unusedVariables false

def mkQ (kind corr : Int) (topic : List UInt8) : Req := ⟨kind, corr, topic, 0, 0, 0, 0, 0, 0, 0, false, false, []⟩
def mkA (kind corr err : Int) : Ans := ⟨kind, corr, err, 0, 0, 0, false, [], []⟩
def zQ : Req := mkQ 0 0 []
def zA : Ans := mkA 0 0 0
/-- The program's reading, behind the topic. -/
def tailP (z : Req) (l : List UInt8) : Req :=
  let a := Bt.num l
  let b := Bt.num a.2
  let c := Bt.num b.2
  let d := Bt.num c.2
  let e := Bt.num d.2
  if z.kind = 1 then { z with part := a.1, sure := decide (b.1 = 1), recs := (listP recP c.1 c.2).1 }
  else if z.kind = 2 then { z with part := a.1, offset := b.1, most := c.1, least := d.1, wait := e.1 }
  else if z.kind = 3 then { z with part := a.1, time := b.1 }
  else if z.kind = 4 then { z with part := a.1, offset := b.1 }
  else if z.kind = 5 then { z with parts := a.1, compact := decide (b.1 = 1) } else z
def reqP (l : List UInt8) : Req :=
  let a := Bt.num l
  let b := Bt.num a.2
  let t := if (a.1 : Int) = 7 then ([], b.2) else Bt.text b.2
  tailP (mkQ a.1 b.1 t.1) t.2
/-- The document's. -/
def tailR (z : Req) (t : TS) : Req × Bool :=
  let a := Bt.numR t
  let b := Bt.numR a.2
  let bb := truR a.2
  let c := Bt.numR b.2
  let cc := Bt.numR bb.2
  let d := Bt.numR c.2
  let e := Bt.numR d.2
  if z.kind = 1 then ({ z with part := a.1, sure := bb.1, recs := (listR (recR false) cc.1 cc.2).1 }, (listR (recR false) cc.1 cc.2).2.2)
  else if z.kind = 2 then ({ z with part := a.1, offset := b.1, most := c.1, least := d.1, wait := e.1 }, e.2.2)
  else if z.kind = 3 then ({ z with part := a.1, time := b.1 }, b.2.2)
  else if z.kind = 4 then ({ z with part := a.1, offset := b.1 }, b.2.2)
  else if z.kind = 5 then ({ z with parts := a.1, compact := bb.1 }, bb.2.2) else (z, t.2)
def reqR (l : List UInt8) : Req × Bool :=
  let a := Bt.numR (l, false)
  let b := Bt.numR a.2
  let t := if (a.1 : Int) = 7 then ([], b.2) else Bt.textR 40 b.2
  tailR (mkQ a.1 b.1 t.1) t.2
def atailP (z : Ans) (l : List UInt8) : Ans :=
  let a := Bt.num l
  let b := Bt.num a.2
  let c := Bt.num b.2
  if z.kind = 1 then { z with offset := a.1 }
  else if z.kind = 2 then { z with start := a.1, fin := b.1, recs := (listP plP c.1 c.2).1 }
  else if z.kind = 3 then (if a.1 = 1 then { z with found := true, offset := b.1 } else z)
  else if z.kind = 4 then { z with start := a.1 }
  else if z.kind = 7 then { z with topics := (listP tpP a.1 a.2).1 } else z
def ansP (l : List UInt8) : Ans :=
  let a := Bt.num l
  let b := Bt.num a.2
  let c := Bt.num b.2
  if (c.1 : Int) = 0 then atailP (mkA a.1 b.1 c.1) c.2 else mkA a.1 b.1 c.1
def atailR (z : Ans) (t : TS) : Ans × Bool :=
  let a := Bt.numR t
  let aa := truR t
  let b := Bt.numR a.2
  let bb := Bt.numR aa.2
  let c := Bt.numR b.2
  if z.kind = 1 then ({ z with offset := a.1 }, a.2.2)
  else if z.kind = 2 then ({ z with start := a.1, fin := b.1, recs := (listR (recR true) c.1 c.2).1 }, (listR (recR true) c.1 c.2).2.2)
  else if z.kind = 3 then (if aa.1 then ({ z with found := true, offset := bb.1 }, bb.2.2) else (z, aa.2.2))
  else if z.kind = 4 then ({ z with start := a.1 }, a.2.2)
  else if z.kind = 7 then ({ z with topics := (listR tpR a.1 a.2).1 }, (listR tpR a.1 a.2).2.2) else (z, t.2)
def ansR (l : List UInt8) : Ans × Bool :=
  let a := Bt.numR (l, false)
  let b := Bt.numR a.2
  let c := Bt.numR b.2
  if (c.1 : Int) = 0 then atailR (mkA a.1 b.1 c.1) c.2 else (mkA a.1 b.1 c.1, c.2.2)

/-! ### what is told of a request, of an answer -/
def canQ (x : Req) : Req :=
  let z := mkQ x.kind x.corr (if x.kind = 7 then [] else x.topic)
  if x.kind = 1 then { z with part := x.part, sure := x.sure, recs := x.recs.map canR }
  else if x.kind = 2 then { z with part := x.part, offset := x.offset, most := x.most, least := x.least, wait := x.wait }
  else if x.kind = 3 then { z with part := x.part, time := x.time }
  else if x.kind = 4 then { z with part := x.part, offset := x.offset }
  else if x.kind = 5 then { z with parts := x.parts, compact := x.compact } else z
def canA (x : Ans) : Ans :=
  let z := mkA x.kind x.corr x.err
  if x.err = 0 then
    (if x.kind = 1 then { z with offset := x.offset }
    else if x.kind = 2 then { z with start := x.start, fin := x.fin, recs := x.recs.map canP }
    else if x.kind = 3 then (if x.found then { z with found := true, offset := x.offset } else z)
    else if x.kind = 4 then { z with start := x.start }
    else if x.kind = 7 then { z with topics := x.topics } else z)
  else z

theorem flat2 {α : Type} (f : α → List Cl) (W : α → List UInt8) (h : ∀ x, (f x).flatMap clB = W x) : ∀ xs : List α, (xs.flatMap f).flatMap clB = xs.flatMap W
  | [] => rfl
  | x :: xs => by rw [List.flatMap_cons, List.flatMap_append, h x, flat2 f W h xs, List.flatMap_cons]
theorem ns_B (l : List Int) : clB (.ns l) = l.flatMap (fun n => Nu.put n.toNat) := rfl
theorem tx_B (t : List UInt8) (m : Nat) : clB (.tx t m) = Bt.textB t := rfl
theorem ns_ok {l : List Int} {L : List Cl} (h : ∀ c ∈ L, okC c) (hm : Cl.ns l ∈ L) : ∀ n ∈ l, okN n := h _ hm
theorem tx_ok {t : List UInt8} {m : Nat} {L : List Cl} (h : ∀ c ∈ L, okC c) (hm : Cl.tx t m ∈ L) : t.length ≤ m := h _ hm
theorem okN_len {n : Nat} (h : okN (n : Int)) : okN ((n : Nat) : Int) := h
theorem fits_recs {rs : List Bt.Rec} {L : List Cl} (h : ∀ c ∈ L, okC c) (hs : ∀ c ∈ rs.flatMap recCl, c ∈ L) : ∀ r ∈ rs, RecFits r :=
  fun r hr => recFits_of fun c hc => h c (hs c (List.mem_flatMap.2 ⟨r, hr, hc⟩))
theorem fits_pls {rs : List Bt.Rec} {L : List Cl} (h : ∀ c ∈ L, okC c) (hs : ∀ c ∈ rs.flatMap plCl, c ∈ L) : ∀ r ∈ rs, RecFits r ∧ okN r.off :=
  fun r hr => ⟨recFits_of fun c hc => h c (hs c (List.mem_flatMap.2 ⟨r, hr, List.mem_cons_of_mem _ hc⟩)), h _ (hs _ (List.mem_flatMap.2 ⟨r, hr, List.mem_cons_self⟩)) r.off (by simp)⟩
theorem fits_tps {ts : List Tp} {L : List Cl} (h : ∀ c ∈ L, okC c) (hs : ∀ c ∈ ts.flatMap tpCl, c ∈ L) : ∀ t ∈ ts, t.name.length ≤ 40 ∧ okN t.parts :=
  fun t ht => ⟨h _ (hs _ (List.mem_flatMap.2 ⟨t, ht, (by simp [tpCl] : Cl.tx t.name 40 ∈ tpCl t)⟩)), h _ (hs _ (List.mem_flatMap.2 ⟨t, ht, (by simp [tpCl] : Cl.ns [t.parts, tr t.compact] ∈ tpCl t)⟩)) t.parts (by simp)⟩

/-- A request's bytes tell it. -/
theorem tail_B {x : Req} (h : ∀ c ∈ reqTail x, okC c) (z : Req) (hz : z.kind = x.kind) :
    tailP z ((reqTail x).flatMap clB) = (if x.kind = 1 then { z with part := x.part, sure := x.sure, recs := x.recs.map canR }
      else if x.kind = 2 then { z with part := x.part, offset := x.offset, most := x.most, least := x.least, wait := x.wait }
      else if x.kind = 3 then { z with part := x.part, time := x.time }
      else if x.kind = 4 then { z with part := x.part, offset := x.offset }
      else if x.kind = 5 then { z with parts := x.parts, compact := x.compact } else z) ∧
    tailR z ((reqTail x).flatMap clB, false) = (tailP z ((reqTail x).flatMap clB), false) := by
  unfold reqTail at h ⊢
  unfold tailP tailR
  rw [hz]
  by_cases e1 : x.kind = 1
  · simp only [if_pos e1] at h ⊢
    have k := h (.ns [x.part, tr x.sure, x.recs.length]) (by simp)
    have kp : okN x.part := k _ (by simp)
    have kl : okN (x.recs.length : Int) := k _ (by simp)
    have kr := fits_recs h (rs := x.recs) (fun c hc => List.mem_cons_of_mem _ hc)
    rw [List.flatMap_cons, ns_B, flat2 recCl recW recCl_B]
    simp only [List.flatMap_cons, List.flatMap_nil, List.append_nil, List.append_assoc]
    have hp := listP_B (one := recP) (fun x h l => recP_B h l) recW_ne x.recs kr []
    have hr := listR_B (one := recR false) (fun x h l => recR_B h l) x.recs kr []
    rw [List.append_nil] at hp hr
    simp only [num_ok kp, num_ok (okN_tr _), Bt.num_put (show x.recs.length ≤ 1099511627776 by have := kl.2; omega), numR_ok kp, truR_ok, Bt.numR_put (show x.recs.length ≤ 1099511627776 by have := kl.2; omega), tr_one, toNat_ok kp, Int.toNat_natCast, hp, hr]
    exact ⟨trivial, trivial⟩
  · by_cases e2 : x.kind = 2
    · simp only [if_neg e1, if_pos e2] at h ⊢
      have k := h (.ns [x.part, x.offset, x.most, x.least, x.wait]) (by simp)
      have k1 : okN x.part := k _ (by simp)
      have k2 : okN x.offset := k _ (by simp)
      have k3 : okN x.most := k _ (by simp)
      have k4 : okN x.least := k _ (by simp)
      have k5 : okN x.wait := k _ (by simp)
      rw [List.flatMap_cons, ns_B]
      simp only [List.flatMap_cons, List.flatMap_nil, List.append_assoc]
      simp only [num_ok k1, num_ok k2, num_ok k3, num_ok k4, num_ok k5, numR_ok k1, numR_ok k2, numR_ok k3, numR_ok k4, numR_ok k5, toNat_ok k1, toNat_ok k2, toNat_ok k3, toNat_ok k4, toNat_ok k5]
      exact ⟨trivial, trivial⟩
    · by_cases e3 : x.kind = 3
      · simp only [if_neg e1, if_neg e2, if_pos e3] at h ⊢
        have k := h (.ns [x.part, x.time]) (by simp)
        have k1 : okN x.part := k _ (by simp)
        have k2 : okN x.time := k _ (by simp)
        rw [List.flatMap_cons, ns_B]
        simp only [List.flatMap_cons, List.flatMap_nil, List.append_assoc]
        simp only [num_ok k1, num_ok k2, numR_ok k1, numR_ok k2, toNat_ok k1, toNat_ok k2]
        exact ⟨trivial, trivial⟩
      · by_cases e4 : x.kind = 4
        · simp only [if_neg e1, if_neg e2, if_neg e3, if_pos e4] at h ⊢
          have k := h (.ns [x.part, x.offset]) (by simp)
          have k1 : okN x.part := k _ (by simp)
          have k2 : okN x.offset := k _ (by simp)
          rw [List.flatMap_cons, ns_B]
          simp only [List.flatMap_cons, List.flatMap_nil, List.append_assoc]
          simp only [num_ok k1, num_ok k2, numR_ok k1, numR_ok k2, toNat_ok k1, toNat_ok k2]
          exact ⟨trivial, trivial⟩
        · by_cases e5 : x.kind = 5
          · simp only [if_neg e1, if_neg e2, if_neg e3, if_neg e4, if_pos e5] at h ⊢
            have k := h (.ns [x.parts, tr x.compact]) (by simp)
            have k1 : okN x.parts := k _ (by simp)
            rw [List.flatMap_cons, ns_B]
            simp only [List.flatMap_cons, List.flatMap_nil, List.append_assoc]
            simp only [num_ok k1, num_ok (okN_tr _), numR_ok k1, truR_ok, tr_one, toNat_ok k1]
            exact ⟨trivial, trivial⟩
          · simp only [if_neg e1, if_neg e2, if_neg e3, if_neg e4, if_neg e5]
            exact ⟨trivial, trivial⟩
theorem reqP_B {x : Req} (h : ∀ c ∈ reqCl x, okC c) : reqP ((reqCl x).flatMap clB) = canQ x ∧ reqR ((reqCl x).flatMap clB) = (canQ x, false) := by
  have k := h (.ns [x.kind, x.corr]) (by simp [reqCl])
  have k1 : okN x.kind := k _ (by simp)
  have k2 : okN x.corr := k _ (by simp)
  have kt : ∀ c ∈ reqTail x, okC c := fun c hc => h c (by simp [reqCl, hc])
  unfold reqCl reqP reqR canQ
  rw [List.flatMap_cons, ns_B, List.flatMap_append]
  simp only [List.flatMap_cons, List.flatMap_nil, List.append_nil, List.append_assoc]
  simp only [num_ok k1, num_ok k2, numR_ok k1, numR_ok k2, toNat_ok k1, toNat_ok k2]
  by_cases e : x.kind = 7
  · simp only [if_pos e, List.flatMap_nil, List.nil_append]
    obtain ⟨h1, h2⟩ := tail_B kt (mkQ x.kind x.corr []) rfl
    rw [h2, h1]
    exact ⟨rfl, rfl⟩
  · have kn : x.topic.length ≤ 40 := h (.tx x.topic 40) (by simp [reqCl, e])
    simp only [if_neg e, List.flatMap_cons, List.flatMap_nil, List.append_nil, tx_B]
    rw [Bt.text_put (by omega), Bt.textR_put (by omega) kn]
    obtain ⟨h1, h2⟩ := tail_B kt (mkQ x.kind x.corr x.topic) rfl
    simp only
    rw [h2, h1]
    exact ⟨rfl, rfl⟩
theorem recCl_can (r : Bt.Rec) : recCl (canR r) = recCl r := by
  obtain ⟨off, time, keyed, key, gone, value⟩ := r
  cases keyed <;> cases gone <;> rfl
theorem plCl_can (r : Bt.Rec) : plCl (canP r) = plCl r := by
  obtain ⟨off, time, keyed, key, gone, value⟩ := r
  cases keyed <;> cases gone <;> rfl
theorem flat_can {f : Bt.Rec → List Cl} {c : Bt.Rec → Bt.Rec} (h : ∀ r, f (c r) = f r) : ∀ rs : List Bt.Rec, (rs.map c).flatMap f = rs.flatMap f
  | [] => rfl
  | r :: rs => by rw [List.map_cons, List.flatMap_cons, List.flatMap_cons, h r, flat_can h rs]
theorem canQ_kind (x : Req) : (canQ x).kind = x.kind := by
  unfold canQ mkQ
  simp only
  split <;> (try split) <;> (try split) <;> (try split) <;> (try split) <;> rfl
theorem reqCl_can (x : Req) : reqCl (canQ x) = reqCl x := by
  unfold reqCl reqTail
  rw [canQ_kind]
  unfold canQ mkQ
  simp only
  by_cases e1 : x.kind = 1
  · simp only [e1, if_true, if_false, show ¬ (1 : Int) = 7 by decide, List.length_map, flat_can recCl_can]
  · by_cases e2 : x.kind = 2
    · simp only [e2, if_true, if_false, show ¬ (2 : Int) = 7 by decide, show ¬ (2 : Int) = 1 by decide]
    · by_cases e3 : x.kind = 3
      · simp only [e3, if_true, if_false, show ¬ (3 : Int) = 7 by decide, show ¬ (3 : Int) = 1 by decide, show ¬ (3 : Int) = 2 by decide]
      · by_cases e4 : x.kind = 4
        · simp only [e4, if_true, if_false, show ¬ (4 : Int) = 7 by decide, show ¬ (4 : Int) = 1 by decide, show ¬ (4 : Int) = 2 by decide, show ¬ (4 : Int) = 3 by decide]
        · by_cases e5 : x.kind = 5
          · simp only [e5, if_true, if_false, show ¬ (5 : Int) = 7 by decide, show ¬ (5 : Int) = 1 by decide, show ¬ (5 : Int) = 2 by decide, show ¬ (5 : Int) = 3 by decide, show ¬ (5 : Int) = 4 by decide]
          · by_cases e7 : x.kind = 7
            · simp [e7]
            · simp only [e1, e2, e3, e4, e5, e7, if_false]
end Go.Proofs.YtcpjohpbakbggaaDoor.Wi

/- Answers, read; what Asked and Told tell. No program. -/
namespace Go.Proofs.YtcpjohpbakbggaaDoor.Wi
open Go.Proofs.YtcpjohpbakbggaaDoor
set_option linter.unusedSimpArgs false
set_option linter.unusedVariables false

theorem atail_B {x : Ans} (h : ∀ c ∈ ansTail x, okC c) (z : Ans) (hz : z.kind = x.kind) :
    atailP z ((ansTail x).flatMap clB) = (if x.kind = 1 then { z with offset := x.offset }
      else if x.kind = 2 then { z with start := x.start, fin := x.fin, recs := x.recs.map canP }
      else if x.kind = 3 then (if x.found then { z with found := true, offset := x.offset } else z)
      else if x.kind = 4 then { z with start := x.start }
      else if x.kind = 7 then { z with topics := x.topics } else z) ∧
    atailR z ((ansTail x).flatMap clB, false) = (atailP z ((ansTail x).flatMap clB), false) := by
  unfold ansTail at h ⊢
  unfold atailP atailR
  rw [hz]
  by_cases e1 : x.kind = 1
  · simp only [if_pos e1] at h ⊢
    have k := h (.ns [x.offset]) (by simp)
    have k1 : okN x.offset := k _ (by simp)
    rw [List.flatMap_cons, ns_B]
    simp only [List.flatMap_cons, List.flatMap_nil, List.append_assoc]
    simp only [num_ok k1, numR_ok k1, toNat_ok k1]
    exact ⟨trivial, trivial⟩
  · by_cases e2 : x.kind = 2
    · simp only [if_neg e1, if_pos e2] at h ⊢
      have k := h (.ns [x.start, x.fin, x.recs.length]) (by simp)
      have k1 : okN x.start := k _ (by simp)
      have k2 : okN x.fin := k _ (by simp)
      have kl : okN (x.recs.length : Int) := k _ (by simp)
      have kr := fits_pls h (rs := x.recs) (fun c hc => List.mem_cons_of_mem _ hc)
      rw [List.flatMap_cons, ns_B, flat2 plCl (fun r => Nu.put r.off.toNat ++ recW r) plCl_B]
      simp only [List.flatMap_cons, List.flatMap_nil, List.append_nil, List.append_assoc]
      have hp := listP_B (one := plP) (W := fun r => Nu.put r.off.toNat ++ recW r) (c := canP) (ok := fun r => RecFits r ∧ okN r.off) (fun x h l => plP_B h.1 h.2 l) (fun r e => put_ne _ (List.append_eq_nil_iff.1 e).1) x.recs kr []
      have hr := listR_B (one := recR true) (W := fun r => Nu.put r.off.toNat ++ recW r) (c := canP) (ok := fun r => RecFits r ∧ okN r.off) (fun x h l => plR_B h.1 h.2 l) x.recs kr []
      rw [List.append_nil] at hp hr
      simp only [num_ok k1, num_ok k2, Int.toNat_natCast, Bt.num_put (show x.recs.length ≤ 1099511627776 by have := kl.2; omega), numR_ok k1, numR_ok k2, Bt.numR_put (show x.recs.length ≤ 1099511627776 by have := kl.2; omega), toNat_ok k1, toNat_ok k2, hp, hr]
      exact ⟨trivial, trivial⟩
    · by_cases e3 : x.kind = 3
      · simp only [if_neg e1, if_neg e2, if_pos e3] at h ⊢
        cases hf : x.found
        · rw [hf] at h
          simp only [Bool.false_eq_true, if_false]
          rw [List.flatMap_cons, ns_B]
          simp only [List.flatMap_cons, List.flatMap_nil, List.append_nil]
          have a1 := num_ok (okN_tr false) []
          have a2 := truR_ok false []
          rw [List.append_nil] at a1 a2
          simp only [a1, a2, Bool.false_eq_true, if_false, show ¬ ((tr false).toNat = 1) by decide]
          exact ⟨trivial, trivial⟩
        · rw [hf] at h
          have k1 : okN x.offset := h (.ns [x.offset]) (by simp) _ (by simp)
          simp only [if_true]
          rw [List.flatMap_cons, ns_B]
          simp only [List.flatMap_cons, List.flatMap_nil, List.append_nil, ns_B]
          have a3 := num_ok k1 []
          have a4 := numR_ok k1 []
          rw [List.append_nil] at a3 a4
          simp only [num_ok (okN_tr true), truR_ok, a3, a4, toNat_ok k1]
          rw [if_pos (show (tr true).toNat = 1 by decide)]
          exact ⟨rfl, rfl⟩
      · by_cases e4 : x.kind = 4
        · simp only [if_neg e1, if_neg e2, if_neg e3, if_pos e4] at h ⊢
          have k1 : okN x.start := h (.ns [x.start]) (by simp) _ (by simp)
          rw [List.flatMap_cons, ns_B]
          simp only [List.flatMap_cons, List.flatMap_nil, List.append_assoc]
          simp only [num_ok k1, numR_ok k1, toNat_ok k1]
          exact ⟨trivial, trivial⟩
        · by_cases e7 : x.kind = 7
          · simp only [if_neg e1, if_neg e2, if_neg e3, if_neg e4, if_pos e7] at h ⊢
            have kl : okN (x.topics.length : Int) := h (.ns [x.topics.length]) (by simp) _ (by simp)
            have kr := fits_tps h (ts := x.topics) (fun c hc => List.mem_cons_of_mem _ hc)
            rw [List.flatMap_cons, ns_B, flat2 tpCl (fun t => Bt.textB t.name ++ (Nu.put t.parts.toNat ++ Nu.put (tr t.compact).toNat)) tpCl_B]
            simp only [List.flatMap_cons, List.flatMap_nil, List.append_nil]
            have hp := listP_B (one := tpP) (W := fun t => Bt.textB t.name ++ (Nu.put t.parts.toNat ++ Nu.put (tr t.compact).toNat)) (c := id) (ok := fun t => t.name.length ≤ 40 ∧ okN t.parts) (fun x h l => tpP_B h.1 h.2 l) (fun t e => put_ne t.name.length (List.append_eq_nil_iff.1 (List.append_eq_nil_iff.1 e).1).1) x.topics kr []
            have hr := listR_B (one := tpR) (W := fun t => Bt.textB t.name ++ (Nu.put t.parts.toNat ++ Nu.put (tr t.compact).toNat)) (c := id) (ok := fun t => t.name.length ≤ 40 ∧ okN t.parts) (fun x h l => tpR_B h.1 h.2 l) x.topics kr []
            rw [List.append_nil, List.map_id] at hp hr
            simp only [Int.toNat_natCast, Bt.num_put (show x.topics.length ≤ 1099511627776 by have := kl.2; omega), Bt.numR_put (show x.topics.length ≤ 1099511627776 by have := kl.2; omega), hp, hr]
            exact ⟨trivial, trivial⟩
          · simp only [if_neg e1, if_neg e2, if_neg e3, if_neg e4, if_neg e7]
            exact ⟨trivial, trivial⟩
theorem ansP_B {x : Ans} (h : ∀ c ∈ ansCl x, okC c) : ansP ((ansCl x).flatMap clB) = canA x ∧ ansR ((ansCl x).flatMap clB) = (canA x, false) := by
  have k := h (.ns [x.kind, x.corr, x.err]) (by simp [ansCl])
  have k1 : okN x.kind := k _ (by simp)
  have k2 : okN x.corr := k _ (by simp)
  have k3 : okN x.err := k _ (by simp)
  unfold ansCl ansP ansR canA
  rw [List.flatMap_cons, ns_B]
  simp only [List.flatMap_cons, List.flatMap_nil, List.append_nil, List.append_assoc]
  simp only [num_ok k1, num_ok k2, num_ok k3, numR_ok k1, numR_ok k2, numR_ok k3, toNat_ok k1, toNat_ok k2, toNat_ok k3]
  by_cases e : x.err = 0
  · have kt : ∀ c ∈ ansTail x, okC c := fun c hc => h c (by simp [ansCl, e, hc])
    simp only [if_pos e]
    obtain ⟨h1, h2⟩ := atail_B kt (mkA x.kind x.corr x.err) rfl
    rw [h2, h1]
    exact ⟨rfl, rfl⟩
  · simp only [if_neg e]
    exact ⟨trivial, trivial⟩
theorem canA_kind (x : Ans) : (canA x).kind = x.kind ∧ (canA x).err = x.err ∧ (canA x).corr = x.corr := by
  unfold canA mkA
  simp only
  split <;> (try split) <;> (try split) <;> (try split) <;> (try split) <;> (try split) <;> (try split) <;> exact ⟨rfl, rfl, rfl⟩
theorem ansCl_can (x : Ans) : ansCl (canA x) = ansCl x := by
  obtain ⟨h1, h2, h3⟩ := canA_kind x
  unfold ansCl ansTail
  rw [h1, h2, h3]
  by_cases e : x.err = 0
  · simp only [if_pos e]
    unfold canA mkA
    simp only [if_pos e]
    by_cases e1 : x.kind = 1
    · simp only [if_pos e1]
    · by_cases e2 : x.kind = 2
      · simp only [if_neg e1, if_pos e2, List.length_map, flat_can plCl_can]
      · by_cases e3 : x.kind = 3
        · simp only [if_neg e1, if_neg e2, if_pos e3]
          cases hf : x.found <;> simp
        · by_cases e4 : x.kind = 4
          · simp only [if_neg e1, if_neg e2, if_neg e3, if_pos e4]
          · by_cases e7 : x.kind = 7
            · simp only [if_neg e1, if_neg e2, if_neg e3, if_neg e4, if_pos e7]
            · simp only [if_neg e1, if_neg e2, if_neg e3, if_neg e4, if_neg e7]
  · simp only [if_neg e]

/-! ### Ask, Tell, Asked, Told -/
def askM (x : Req) : List UInt8 × Int := if x.kind < 1 ∨ 7 < x.kind then ([], 1) else encF (reqCl x)
def tellM (x : Ans) : List UInt8 × Int := if x.kind < 1 ∨ 7 < x.kind ∨ x.err < 0 ∨ 15 < x.err then ([], 1) else encF (ansCl x)
def whole (b : List UInt8) : Nat × Int := if b.length < 4 then (0, 12) else if Bt.fourV b < 1 ∨ 10000 < Bt.fourV b then (0, 4) else if b.length < Bt.fourV b + 4 then (0, 12) else (Bt.fourV b + 4, 0)
def bodyOf (b : List UInt8) : List UInt8 := (b.take (whole b).1).drop 4
def okQ (b : List UInt8) (x : Req) : Prop := askM x = (b.take (whole b).1, 0)
def okA (b : List UInt8) (x : Ans) : Prop := tellM x = (b.take (whole b).1, 0)
instance (b : List UInt8) (x : Req) : Decidable (okQ b x) := inferInstanceAs (Decidable (_ = _))
instance (b : List UInt8) (x : Ans) : Decidable (okA b x) := inferInstanceAs (Decidable (_ = _))
def askedM (b : List UInt8) : Req × Nat × Int := if (whole b).2 ≠ 0 then (zQ, 0, (whole b).2) else if okQ b (reqP (bodyOf b)) then (reqP (bodyOf b), (whole b).1, 0) else (zQ, 0, 3)
def toldM (b : List UInt8) : Ans × Nat × Int := if (whole b).2 ≠ 0 then (zA, 0, (whole b).2) else if okA b (ansP (bodyOf b)) then (ansP (bodyOf b), (whole b).1, 0) else (zA, 0, 3)
theorem okQ_cl {b : List UInt8} {x : Req} (h : okQ b x) : (∀ c ∈ reqCl x, okC c) ∧ (reqCl x).flatMap clB = bodyOf b ∧ 1 ≤ x.kind ∧ x.kind ≤ 7 := by
  unfold okQ askM at h
  split at h
  · simp at h
  · rename_i hk
    have h2 : (encF (reqCl x)).2 = 0 := by rw [h]
    obtain ⟨k1, k2, k3⟩ := encF_ok h2
    refine ⟨k1, ?_, by omega, by omega⟩
    have h1 : (encF (reqCl x)).1 = b.take (whole b).1 := by rw [h]
    unfold bodyOf
    rw [← h1, k3]
    rfl
theorem okA_cl {b : List UInt8} {x : Ans} (h : okA b x) : (∀ c ∈ ansCl x, okC c) ∧ (ansCl x).flatMap clB = bodyOf b ∧ 1 ≤ x.kind ∧ x.kind ≤ 7 ∧ 0 ≤ x.err ∧ x.err ≤ 15 := by
  unfold okA tellM at h
  split at h
  · simp at h
  · rename_i hk
    have h2 : (encF (ansCl x)).2 = 0 := by rw [h]
    obtain ⟨k1, k2, k3⟩ := encF_ok h2
    refine ⟨k1, ?_, by omega, by omega, by omega, by omega⟩
    have h1 : (encF (ansCl x)).1 = b.take (whole b).1 := by rw [h]
    unfold bodyOf
    rw [← h1, k3]
    rfl
theorem askM_can (x : Req) : askM (canQ x) = askM x := by unfold askM; rw [canQ_kind, reqCl_can]
theorem tellM_can (x : Ans) : tellM (canA x) = tellM x := by
  obtain ⟨h1, h2, -⟩ := canA_kind x
  unfold tellM
  rw [h1, h2, ansCl_can]
/-- What the document's reading finds the program's finds, and the other way round. -/
theorem bothQ (b : List UInt8) : okQ b (reqP (bodyOf b)) ↔ ((reqR (bodyOf b)).2 = false ∧ okQ b (reqR (bodyOf b)).1) := by
  constructor
  · intro h
    obtain ⟨h1, h2, -⟩ := okQ_cl h
    have := reqP_B h1
    rw [h2] at this
    rw [this.2]
    refine ⟨rfl, ?_⟩
    unfold okQ at h ⊢
    rw [askM_can]
    exact h
  · rintro ⟨-, h⟩
    obtain ⟨h1, h2, -⟩ := okQ_cl h
    have := reqP_B h1
    rw [h2] at this
    rw [this.1]
    unfold okQ at h ⊢
    rw [askM_can]
    exact h
theorem bothQ_eq {b : List UInt8} (h : okQ b (reqP (bodyOf b))) : reqR (bodyOf b) = (reqP (bodyOf b), false) := by
  obtain ⟨h1, h2, -⟩ := okQ_cl h
  have := reqP_B h1
  rw [h2] at this
  rw [this.2, this.1.symm]
theorem bothA (b : List UInt8) : okA b (ansP (bodyOf b)) ↔ ((ansR (bodyOf b)).2 = false ∧ okA b (ansR (bodyOf b)).1) := by
  constructor
  · intro h
    obtain ⟨h1, h2, -⟩ := okA_cl h
    have := ansP_B h1
    rw [h2] at this
    rw [this.2]
    refine ⟨rfl, ?_⟩
    unfold okA at h ⊢
    rw [tellM_can]
    exact h
  · rintro ⟨-, h⟩
    obtain ⟨h1, h2, -⟩ := okA_cl h
    have := ansP_B h1
    rw [h2] at this
    rw [this.1]
    unfold okA at h ⊢
    rw [tellM_can]
    exact h
theorem bothA_eq {b : List UInt8} (h : okA b (ansP (bodyOf b))) : ansR (bodyOf b) = (ansP (bodyOf b), false) := by
  obtain ⟨h1, h2, -⟩ := okA_cl h
  have := ansP_B h1
  rw [h2] at this
  rw [this.2, this.1.symm]
/-! ### there and back -/
theorem whole_enc {l : List Cl} (h : (encF l).2 = 0) (h0 : l.flatMap clB ≠ []) (more : List UInt8) : whole ((encF l).1 ++ more) = ((encF l).1.length, 0) ∧ ((encF l).1 ++ more).take (encF l).1.length = (encF l).1 := by
  obtain ⟨h1, h2, h3⟩ := encF_ok h
  have hp := List.length_pos_iff.2 h0
  have hv : Bt.fourV ((encF l).1 ++ more) = (l.flatMap clB).length := by
    rw [h3, List.append_assoc]
    exact Bt.fourV_four (by omega) _
  have hl : (encF l).1.length = (l.flatMap clB).length + 4 := by rw [h3, List.length_append, Bt.four_len]; omega
  refine ⟨?_, by simp⟩
  unfold whole
  rw [hv, if_neg (by rw [List.length_append]; omega), if_neg (by omega), if_neg (by rw [List.length_append]; omega), hl]
theorem whole_short {l : List Cl} (h : (encF l).2 = 0) (h0 : l.flatMap clB ≠ []) {k : Nat} (hk : k < (encF l).1.length) : whole ((encF l).1.take k) = (0, 12) := by
  obtain ⟨h1, h2, h3⟩ := encF_ok h
  have hp := List.length_pos_iff.2 h0
  have hl : (encF l).1.length = (l.flatMap clB).length + 4 := by rw [h3, List.length_append, Bt.four_len]; omega
  have hkl : ((encF l).1.take k).length = k := by rw [List.length_take]; omega
  unfold whole
  by_cases h4 : k < 4
  · rw [if_pos (by omega)]
  · have hv : Bt.fourV ((encF l).1.take k) = (l.flatMap clB).length := by
      have e : (encF l).1.take k = Bt.four (l.flatMap clB).length ++ (l.flatMap clB).take (k - 4) := by
        rw [h3, List.take_append, Bt.four_len, List.take_of_length_le (by rw [Bt.four_len]; omega)]
      rw [e]
      exact Bt.fourV_four (by omega) _
    rw [hv, if_neg (by omega), if_neg (by omega), if_pos (by omega)]
theorem reqCl_ne {x : Req} (h : ∀ c ∈ reqCl x, okC c) : (reqCl x).flatMap clB ≠ [] := fun e => by
  unfold reqCl at e
  rw [List.flatMap_cons, ns_B] at e
  have := (List.append_eq_nil_iff.1 e).1
  simp at this
  exact put_ne _ this.1
theorem ansCl_ne {x : Ans} (h : ∀ c ∈ ansCl x, okC c) : (ansCl x).flatMap clB ≠ [] := fun e => by
  unfold ansCl at e
  rw [List.flatMap_cons, ns_B] at e
  have := (List.append_eq_nil_iff.1 e).1
  simp at this
  exact put_ne _ this.1
theorem asked_ask {x : Req} (h : (askM x).2 = 0) (more : List UInt8) : askedM ((askM x).1 ++ more) = (canQ x, (askM x).1.length, 0) := by
  have hk : ¬ (x.kind < 1 ∨ 7 < x.kind) := fun hk => by unfold askM at h; rw [if_pos hk] at h; simp at h
  have he : askM x = encF (reqCl x) := by unfold askM; rw [if_neg hk]
  rw [he] at h ⊢
  obtain ⟨h1, h2, h3⟩ := encF_ok h
  obtain ⟨w1, w2⟩ := whole_enc h (reqCl_ne h1) more
  have hb : bodyOf ((encF (reqCl x)).1 ++ more) = (reqCl x).flatMap clB := by
    unfold bodyOf
    rw [w1, w2, h3]
    rfl
  have hr := (reqP_B h1).1
  unfold askedM
  rw [w1, hb, hr]
  rw [if_neg (by simp), if_pos]
  unfold okQ
  rw [askM_can, he, w1, w2]
  exact Prod.ext rfl h
theorem told_tell {x : Ans} (h : (tellM x).2 = 0) (more : List UInt8) : toldM ((tellM x).1 ++ more) = (canA x, (tellM x).1.length, 0) := by
  have hk : ¬ (x.kind < 1 ∨ 7 < x.kind ∨ x.err < 0 ∨ 15 < x.err) := fun hk => by unfold tellM at h; rw [if_pos hk] at h; simp at h
  have he : tellM x = encF (ansCl x) := by unfold tellM; rw [if_neg hk]
  rw [he] at h ⊢
  obtain ⟨h1, h2, h3⟩ := encF_ok h
  obtain ⟨w1, w2⟩ := whole_enc h (ansCl_ne h1) more
  have hb : bodyOf ((encF (ansCl x)).1 ++ more) = (ansCl x).flatMap clB := by
    unfold bodyOf
    rw [w1, w2, h3]
    rfl
  have hr := (ansP_B h1).1
  unfold toldM
  rw [w1, hb, hr]
  rw [if_neg (by simp), if_pos]
  unfold okA
  rw [tellM_can, he, w1, w2]
  exact Prod.ext rfl h
theorem asked_short {x : Req} (h : (askM x).2 = 0) {k : Nat} (hk : k < (askM x).1.length) : (askedM ((askM x).1.take k)) = (zQ, 0, 12) := by
  have hkk : ¬ (x.kind < 1 ∨ 7 < x.kind) := fun hk => by unfold askM at h; rw [if_pos hk] at h; simp at h
  have he : askM x = encF (reqCl x) := by unfold askM; rw [if_neg hkk]
  rw [he] at h hk ⊢
  obtain ⟨h1, h2, h3⟩ := encF_ok h
  unfold askedM
  rw [whole_short h (reqCl_ne h1) hk, if_pos (by simp)]
theorem told_short {x : Ans} (h : (tellM x).2 = 0) {k : Nat} (hk : k < (tellM x).1.length) : (toldM ((tellM x).1.take k)) = (zA, 0, 12) := by
  have hkk : ¬ (x.kind < 1 ∨ 7 < x.kind ∨ x.err < 0 ∨ 15 < x.err) := fun hk => by unfold tellM at h; rw [if_pos hk] at h; simp at h
  have he : tellM x = encF (ansCl x) := by unfold tellM; rw [if_neg hkk]
  rw [he] at h hk ⊢
  obtain ⟨h1, h2, h3⟩ := encF_ok h
  unfold toldM
  rw [whole_short h (ansCl_ne h1) hk, if_pos (by simp)]
end Go.Proofs.YtcpjohpbakbggaaDoor.Wi
