/- wire's reader: a request, an answer. -/
import Derived.Test.YtodadoaindfecaaDoorWiy
import Derived.Test.YtodadoaindfecaaDoorWid
import Derived.Laws.Tables
namespace Go.Proofs.YtodadoaindfecaaDoor.Wi
open Go.RowKit Go.Maps
set_option maxRecDepth 100000
set_option linter.unusedSimpArgs false
set_option linter.unusedVariables false

def zQv : List Value := [.int .i64 0, .int .i64 0, .string ⟨#[]⟩, .int .i64 0, .int .i64 0, .int .i64 0, .int .i64 0, .int .i64 0, .int .i64 0, .int .i64 0, .bool false, .bool false, .slice none 0 0]
def zAv : List Value := [.int .i64 0, .int .i64 0, .int .i64 0, .int .i64 0, .int .i64 0, .int .i64 0, .bool false, .slice none 0 0, .slice none 0 0]
theorem wpList_loadT {P : Program} {ops : Array Oper} {rest : List Oper} {op : Oper} {a : Act} {w : World} {Q : Exit → Act → World → Prop} (hgd : op.guard = none) (ty : TypeId) (x : Operand) (ho : op.op = .load ty x)
    (p : Addr) (hx : a.eval x = .pointer (some p)) (v : Value) (hl : (loadVar ty p).run P w = .ok v w) (h : wpList P ops Q rest (a.put op.dst v) w) : wpList P ops Q (op :: rest) a w :=
  wpList_plain hgd fun _ hK => by
    unfold Oper.wp execOp
    simp only [ho, hx, Instr.loadAt, Instr.sureAddr, Sem.run_bind, Sem.run_pure, Result.andThen_ok, hl]
    exact hK _ _ h
theorem Cn.fin2 {T : TypeId} {w0 w : World} {rb B X Y : Nat} {cs ys : List Value} {l : List UInt8} (h : Cn T w0 w rb B X Y cs ys l) (hrb : rb < w0.heap.size) (hB : B ≤ rb) :
    (w.setRow Y cs.toArray).heap[Y]? = some (.cells cs.toArray T (0, 0)) ∧ RdW (w.setRow Y cs.toArray) rb B l ∧ Turn [rb] w0 (w.setRow Y cs.toArray) ∧ Turn [Y] w (w.setRow Y cs.toArray) := by
  have hy := h.hy
  have ht : Turn [Y] w (w.setRow Y cs.toArray) := ⟨rfl, rfl, rfl, by simp, fun k _ hk => setRow_other w Y k _ (fun e => hk (by simp [e]))⟩
  exact ⟨setRow_heap w Y _ _ _ _ h.y, h.rd.kept ht (by simp; omega) (by simp; omega), h.turn.trans ht (fun k hk => .inr (by simp at hk; omega)), ht⟩
theorem sizeRq (w : World) : (sizeOf 48).run Tryd.prog w = .ok 13 w := by kernel_rfl
theorem aggRq (w : World) : (isAgg 48).run Tryd.prog w = .ok true w := by kernel_rfl
theorem sizeAn (w : World) : (sizeOf 57).run Tryd.prog w = .ok 9 w := by kernel_rfl
theorem aggAn (w : World) : (isAgg 57).run Tryd.prog w = .ok true w := by kernel_rfl
theorem RecRow.nil (w : World) (b : Nat) : RecsAt w (.slice none 0 0) [] := ⟨none, 0, rfl, Nat.le_refl _, Nat.zero_le _, fun _ => rfl, fun j hj => absurd hj (Nat.not_lt_zero _)⟩
theorem TopsAt.nil (w : World) : TopsAt w (.slice none 0 0) [] := ⟨none, 0, rfl, Nat.le_refl _, Nat.zero_le _, fun _ => rfl, fun j hj => absurd hj (Nat.not_lt_zero _)⟩
theorem load13 {w : World} {Y : Nat} {v0 v1 v2 v3 v4 v5 v6 v7 v8 v9 v10 v11 v12 : Value} (h : w.heap[Y]? = some (.cells #[v0, v1, v2, v3, v4, v5, v6, v7, v8, v9, v10, v11, v12] 48 (0, 0))) : (loadVar 48 ⟨Y, 0, none⟩).run Tryd.prog w = .ok (.agg #[v0, v1, v2, v3, v4, v5, v6, v7, v8, v9, v10, v11, v12]) w := by
  have c0 : w.cell? ⟨Y, 0, none⟩ = some v0 := by simpa using cell_of h 0
  have c1 : w.cell? ⟨Y, 1, none⟩ = some v1 := by simpa using cell_of h 1
  have c2 : w.cell? ⟨Y, 2, none⟩ = some v2 := by simpa using cell_of h 2
  have c3 : w.cell? ⟨Y, 3, none⟩ = some v3 := by simpa using cell_of h 3
  have c4 : w.cell? ⟨Y, 4, none⟩ = some v4 := by simpa using cell_of h 4
  have c5 : w.cell? ⟨Y, 5, none⟩ = some v5 := by simpa using cell_of h 5
  have c6 : w.cell? ⟨Y, 6, none⟩ = some v6 := by simpa using cell_of h 6
  have c7 : w.cell? ⟨Y, 7, none⟩ = some v7 := by simpa using cell_of h 7
  have c8 : w.cell? ⟨Y, 8, none⟩ = some v8 := by simpa using cell_of h 8
  have c9 : w.cell? ⟨Y, 9, none⟩ = some v9 := by simpa using cell_of h 9
  have c10 : w.cell? ⟨Y, 10, none⟩ = some v10 := by simpa using cell_of h 10
  have c11 : w.cell? ⟨Y, 11, none⟩ = some v11 := by simpa using cell_of h 11
  have c12 : w.cell? ⟨Y, 12, none⟩ = some v12 := by simpa using cell_of h 12
  simp [loadVar, aggRq, sizeRq, Result.andThen, loadCells, loadCellsFrom, addr_add, c0, c1, c2, c3, c4, c5, c6, c7, c8, c9, c10, c11, c12]
theorem load9 {w : World} {Y : Nat} {v0 v1 v2 v3 v4 v5 v6 v7 v8 : Value} (h : w.heap[Y]? = some (.cells #[v0, v1, v2, v3, v4, v5, v6, v7, v8] 57 (0, 0))) : (loadVar 57 ⟨Y, 0, none⟩).run Tryd.prog w = .ok (.agg #[v0, v1, v2, v3, v4, v5, v6, v7, v8]) w := by
  have c0 : w.cell? ⟨Y, 0, none⟩ = some v0 := by simpa using cell_of h 0
  have c1 : w.cell? ⟨Y, 1, none⟩ = some v1 := by simpa using cell_of h 1
  have c2 : w.cell? ⟨Y, 2, none⟩ = some v2 := by simpa using cell_of h 2
  have c3 : w.cell? ⟨Y, 3, none⟩ = some v3 := by simpa using cell_of h 3
  have c4 : w.cell? ⟨Y, 4, none⟩ = some v4 := by simpa using cell_of h 4
  have c5 : w.cell? ⟨Y, 5, none⟩ = some v5 := by simpa using cell_of h 5
  have c6 : w.cell? ⟨Y, 6, none⟩ = some v6 := by simpa using cell_of h 6
  have c7 : w.cell? ⟨Y, 7, none⟩ = some v7 := by simpa using cell_of h 7
  have c8 : w.cell? ⟨Y, 8, none⟩ = some v8 := by simpa using cell_of h 8
  simp [loadVar, aggAn, sizeAn, Result.andThen, loadCells, loadCellsFrom, addr_add, c0, c1, c2, c3, c4, c5, c6, c7, c8]

set_option maxHeartbeats 16000000 in
theorem rreq_any (w : World) (rb B : Nat) (l : List UInt8) (h : RdW w rb B l) (hB : B ≤ rb) (hl : l.length ≤ 900000) :
    Calls Tryd.prog 56 #[.pointer (some ⟨rb, 0, none⟩)] w fun e w' => ∃ rv, e = .returned (.agg (reqC (reqP l) rv)) ∧ RecsAt w' rv (reqP l).recs ∧ Turn [rb] w w' ∧ (∀ k ∈ rv.ownBlock, w.heap.size ≤ k) := by
  have hrb := h.lt
  obtain ⟨n0, q0, e00⟩ : ∃ n r, Bt.num l = (n, r) := ⟨_, _, rfl⟩
  obtain ⟨n1, q1, e01⟩ : ∃ n r, Bt.num q0 = (n, r) := ⟨_, _, rfl⟩

  have g00 := num_len l
  have g01 := num_len q0

  rw [e00] at g00
  rw [e01] at g01

  simp only at g00 g01
  obtain ⟨wy, hwy⟩ : ∃ wy, wy = w.alloc (.cells zQv.toArray 48) := ⟨_, rfl⟩
  have hty : Turn [] w wy := by rw [hwy]; exact (Turn.refl [] w).alloc _
  have E00 := hide e00
  have E01 := hide e01

  have HWY := hide hwy
  have HRY := hide (h.still hty)
  clear h hwy hty e00 e01
  go_enter Tryd.func56, Tryd.ntmps56
  go_wp2_with fail
  rw [show w.alloc (.cells #[.int .i64 0, .int .i64 0, .string ⟨#[]⟩, .int .i64 0, .int .i64 0, .int .i64 0, .int .i64 0, .int .i64 0, .int .i64 0, .int .i64 0, .bool false, .bool false, .slice none 0 0] 48) = wy from HWY.out.symm]
  refine (wnum_any _ rb B l HRY.out hB (by omega)).mono ?_
  rintro e w1 ⟨rfl, hr1, ht1⟩
  rw [E00.out] at hr1 ⊢
  simp only at hr1 ⊢
  have HR1 := hide hr1
  have HT1 := hide ht1
  clear hr1 ht1
  go_wp2_with fail
  refine (wnum_any _ rb B q0 HR1.out hB (by omega)).mono ?_
  rintro e w2 ⟨rfl, hr2, ht2⟩
  rw [E01.out] at hr2 ⊢
  simp only at hr2 ⊢
  have HR2 := hide hr2
  have HT2 := hide (HT1.out.same ht2)
  clear hr2 ht2

  have hr3 := HR2.out
  have ht3 := HT2.out
  obtain ⟨w3, rfl⟩ : ∃ w3, w3 = w2 := ⟨_, rfl⟩

  have hc3 := Cn.start (cs := [.int .i64 (n0 : Int), .int .i64 (n1 : Int), .string ⟨#[]⟩, .int .i64 0, .int .i64 0, .int .i64 0, .int .i64 0, .int .i64 0, .int .i64 0, .int .i64 0, .bool false, .bool false, .slice none 0 0]) HWY.out ht3 hrb hr3
  obtain ⟨X, hX⟩ : ∃ X, X = w3.heap.size := ⟨_, rfl⟩
  obtain ⟨wx, hwx⟩ : ∃ wx, wx = w3.alloc (.cells #[.int .i64 (n0 : Int), .int .i64 (n1 : Int), .string ⟨#[]⟩, .int .i64 0, .int .i64 0, .int .i64 0, .int .i64 0, .int .i64 0, .int .i64 0, .int .i64 0, .bool false, .bool false, .slice none 0 0] 48) := ⟨_, rfl⟩
  have hc3' : Cn 48 w wx rb B X w.heap.size [.int .i64 (n0 : Int), .int .i64 (n1 : Int), .string ⟨#[]⟩, .int .i64 0, .int .i64 0, .int .i64 0, .int .i64 0, .int .i64 0, .int .i64 0, .int .i64 0, .bool false, .bool false, .slice none 0 0] zQv q1 := by
    rw [hwx, hX]; exact hc3
  have HC3 := hide hc3'
  have HWX := hide hwx
  have HX := hide hX
  clear hc3 hc3' hwx hX hr3 ht3
  have HN : Hid (X < wx.heap.size) := lt_of_heap HC3.out.x
  go_upto_region 2 with fail
  rw [show w3.alloc (.cells #[.int .i64 (n0 : Int), .int .i64 (n1 : Int), .string ⟨#[]⟩, .int .i64 0, .int .i64 0, .int .i64 0, .int .i64 0, .int .i64 0, .int .i64 0, .int .i64 0, .bool false, .bool false, .slice none 0 0] 48) = wx from HWX.out.symm]
  rw [← HX.out]
  have hcase : n0 = 1 ∨ n0 = 2 ∨ n0 = 3 ∨ n0 = 4 ∨ n0 = 5 ∨ n0 = 7 ∨ (¬ n0 = 1 ∧ ¬ n0 = 2 ∧ ¬ n0 = 3 ∧ ¬ n0 = 4 ∧ ¬ n0 = 5 ∧ ¬ n0 = 7) := by omega
  rcases hcase with hcase | hcase | hcase | hcase | hcase | hcase | hcase
  · as_aux_lemma =>
      have b1 : ((n0 : Int) == 1) = true := by simp; omega
      have b2 : ((n0 : Int) == 2) = false := by simp; omega
      have b3 : ((n0 : Int) == 3) = false := by simp; omega
      have b4 : ((n0 : Int) == 4) = false := by simp; omega
      have b5 : ((n0 : Int) == 5) = false := by simp; omega
      have b7 : ((n0 : Int) == 7) = false := by simp; omega
      have b7' : ((n0 : Int) != 7) = true := by simp [bne, b7]
      have hk := hide (show n0 = 1 ∧ ¬ n0 = 2 ∧ ¬ n0 = 3 ∧ ¬ n0 = 4 ∧ ¬ n0 = 5 ∧ ¬ n0 = 7 by omega)
      clear hcase
      obtain ⟨c0, f0, y0, g0⟩ := HC3.out.cell 0
      simp only [zQv, List.getElem?_cons_zero, List.getElem?_cons_succ] at c0 y0
      clear y0 g0
      obtain ⟨tp, r1, e1⟩ : ∃ n r, Bt.text q1 = (n, r) := ⟨_, _, rfl⟩

      have g1 := text_len q1
      rw [e1] at g1
      simp only at g1
      have E1 := hide e1
      clear e1
      go_wp2_with fail
      refine (wtext_any _ rb B q1 HC3.out.rd hB (by omega)).mono ?_
      rintro e wn1 ⟨rfl, hr, ht⟩
      rw [E1.out] at hr ⊢
      simp only [strV] at hr ⊢
      have HC4 := hide (HC3.out.num hrb ht hr)
      clear hr ht
      clear c0 f0
      obtain ⟨c0, f0, y0, g0⟩ := HC4.out.cell 0
      simp only [zQv, List.getElem?_cons_zero, List.getElem?_cons_succ] at c0 y0
      clear y0 g0
      obtain ⟨c2, f2, y2, g2⟩ := HC4.out.cell 2
      simp only [zQv, List.getElem?_cons_zero, List.getElem?_cons_succ] at c2 y2
      clear y2 g2
      have HC5 := hide (HC4.out.set hrb hB 2 (.string ⟨tp.toArray⟩))
      simp only [List.set_cons_zero, List.set_cons_succ] at HC5
      obtain ⟨cz1_0, fz1_0, yz1_0, gz1_0⟩ := HC5.out.cell 0
      simp only [zQv, List.getElem?_cons_zero, List.getElem?_cons_succ] at cz1_0 yz1_0
      clear yz1_0 gz1_0
      obtain ⟨a, r2, e2⟩ : ∃ n r, Bt.num r1 = (n, r) := ⟨_, _, rfl⟩

      have g2 := num_len r1
      rw [e2] at g2
      simp only at g2
      have E2 := hide e2
      clear e2
      go_wp2_with fail
      refine (wnum_any _ rb B r1 HC5.out.rd hB (by omega)).mono ?_
      rintro e wn2 ⟨rfl, hr, ht⟩
      rw [E2.out] at hr ⊢
      simp only [strV] at hr ⊢
      have HC6 := hide (HC5.out.num hrb ht hr)
      clear hr ht
      clear c0 f0 c2 f2 cz1_0 fz1_0
      obtain ⟨c0, f0, y0, g0⟩ := HC6.out.cell 0
      simp only [zQv, List.getElem?_cons_zero, List.getElem?_cons_succ] at c0 y0
      clear y0 g0
      obtain ⟨b, r3, e3⟩ : ∃ n r, Bt.num r2 = (n, r) := ⟨_, _, rfl⟩

      have g3 := num_len r2
      rw [e3] at g3
      simp only at g3
      have E3 := hide e3
      clear e3
      go_wp2_with fail
      refine (wtru_any _ rb B r2 HC6.out.rd hB (by omega)).mono ?_
      rintro e wn3 ⟨rfl, hr, ht⟩
      rw [E3.out] at hr ⊢
      simp only [strV] at hr ⊢
      have HC7 := hide (HC6.out.num hrb ht hr)
      clear hr ht
      clear c0 f0
      obtain ⟨c0, f0, y0, g0⟩ := HC7.out.cell 0
      simp only [zQv, List.getElem?_cons_zero, List.getElem?_cons_succ] at c0 y0
      clear y0 g0
      obtain ⟨c3, f3, y3, g3⟩ := HC7.out.cell 3
      simp only [zQv, List.getElem?_cons_zero, List.getElem?_cons_succ] at c3 y3
      clear y3 g3
      obtain ⟨c10, f10, y10, g10⟩ := HC7.out.cell 10
      simp only [zQv, List.getElem?_cons_zero, List.getElem?_cons_succ] at c10 y10
      clear y10 g10
      have HC8 := hide (HC7.out.set hrb hB 3 (.int .i64 (a : Int)))
      simp only [List.set_cons_zero, List.set_cons_succ] at HC8
      have HC9 := hide (HC8.out.set hrb hB 10 (.bool (decide (b = 1))))
      simp only [List.set_cons_zero, List.set_cons_succ] at HC9
      go_wp2_with fail
      refine (rlistR_any _ rb B r3 HC9.out.rd hB (by omega)).mono ?_
      rintro e wl ⟨sl, rfl, hrow, hrd, htl⟩
      obtain ⟨L, hL⟩ : ∃ L, L = listP recP (Bt.num r3).1 (Bt.num r3).2 := ⟨_, rfl⟩
      rw [← hL] at hrow hrd
      have hok := (listP_all (one := recP) (ok := RecRd) (L := 1000000) (fun l h => recP_rd h) (fun l h => recP_lt h) (Bt.num r3).1 (Bt.num r3).2 (by have := num_len r3; omega)).1
      rw [← hL] at hok
      obtain ⟨la, ln, lc, rfl⟩ := hrow.some_slice
      have HOK := hide hok
      have HLL := hide hL
      have hszl := HC9.out.x
      have hszx := lt_of_heap hszl
      have hszy := lt_of_heap HC9.out.y
      simp only [World.size_setCell] at hszx hszy
      have HC10 := hide (HC9.out.num hrb htl hrd)
      have HROW := hide hrow
      clear hrow hrd htl hok hL hszl
      clear c0 f0 c3 f3 c10 f10
      obtain ⟨c0, f0, y0, g0⟩ := HC10.out.cell 0
      simp only [zQv, List.getElem?_cons_zero, List.getElem?_cons_succ] at c0 y0
      clear y0 g0
      obtain ⟨c12, f12, y12, g12⟩ := HC10.out.cell 12
      simp only [zQv, List.getElem?_cons_zero, List.getElem?_cons_succ] at c12 y12
      clear y12 g12
      have HC11 := hide (HC10.out.set hrb hB 12 (.slice la ln lc))
      simp only [List.set_cons_zero, List.set_cons_succ] at HC11
      have HE : Hid (reqP l = (⟨(n0 : Int), (n1 : Int), tp, (a : Int), 0, 0, 0, 0, 0, 0, decide (b = 1), false, L.1⟩ : Req)) := by
        show _ = _
        have hk' := hk.out
  
        unfold reqP tailP mkQ
        simp [E00.out, E01.out, E1.out, E2.out, E3.out, hk', HLL.out]
      go_upto_region 17 with fail
      refine wp_region_lit ?_
      refine wpList_loadT rfl _ _ rfl ⟨X, 0, none⟩ rfl _ (load13 HC11.out.x) ?_
      refine wpList_store_row rfl _ _ _ rfl w.heap.size #[.int .i64 (n0 : Int), .int .i64 (n1 : Int), .string ⟨tp.toArray⟩, .int .i64 (a : Int), .int .i64 0, .int .i64 0, .int .i64 0, .int .i64 0, .int .i64 0, .int .i64 0, .bool (decide (b = 1)), .bool false, .slice la ln lc] rfl rfl _ _ HC11.out.y (by kernel_rfl) rfl (by kernel_rfl) ?_
      have hf := HC11.out.fin2 hrb hB
      have hrow := hide ((HROW.out.kept (S := [X]) ((Turn.refl [X] wl).setCell (.inl (by simp)) (.slice la ln lc)) (fun q hq hm => by have := (HROW.out.lt q hq).1; simp at hm; (try simp at this); omega)).kept hf.2.2.2 (fun q hq hm => by have := (HROW.out.lt q hq).1; simp at hm; (try simp at this); omega))
      have HF := hide hf
      clear hf
      go_simp
      go_wp2
      have hld := load13 HF.out.1
      refine bodyPost_ret (v := .agg #[.int .i64 (n0 : Int), .int .i64 (n1 : Int), .string ⟨tp.toArray⟩, .int .i64 (a : Int), .int .i64 0, .int .i64 0, .int .i64 0, .int .i64 0, .int .i64 0, .int .i64 0, .bool (decide (b = 1)), .bool false, .slice la ln lc]) (by simp [results, Tryd.results56, asAddr, hld, Result.andThen]) rfl ?_
      rw [HE.out]
      exact ⟨.slice la ln lc, rfl, hrow.out.recs (fun r hr => (HOK.out r hr).ok), HF.out.2.2.1, (fun q hq => by have := (HROW.out.lt q hq).1; (try simp at this); omega)⟩
  · as_aux_lemma =>
      have b1 : ((n0 : Int) == 1) = false := by simp; omega
      have b2 : ((n0 : Int) == 2) = true := by simp; omega
      have b3 : ((n0 : Int) == 3) = false := by simp; omega
      have b4 : ((n0 : Int) == 4) = false := by simp; omega
      have b5 : ((n0 : Int) == 5) = false := by simp; omega
      have b7 : ((n0 : Int) == 7) = false := by simp; omega
      have b7' : ((n0 : Int) != 7) = true := by simp [bne, b7]
      have hk := hide (show ¬ n0 = 1 ∧ n0 = 2 ∧ ¬ n0 = 3 ∧ ¬ n0 = 4 ∧ ¬ n0 = 5 ∧ ¬ n0 = 7 by omega)
      clear hcase
      obtain ⟨c0, f0, y0, g0⟩ := HC3.out.cell 0
      simp only [zQv, List.getElem?_cons_zero, List.getElem?_cons_succ] at c0 y0
      clear y0 g0
      obtain ⟨tp, r1, e1⟩ : ∃ n r, Bt.text q1 = (n, r) := ⟨_, _, rfl⟩

      have g1 := text_len q1
      rw [e1] at g1
      simp only at g1
      have E1 := hide e1
      clear e1
      go_wp2_with fail
      refine (wtext_any _ rb B q1 HC3.out.rd hB (by omega)).mono ?_
      rintro e wn1 ⟨rfl, hr, ht⟩
      rw [E1.out] at hr ⊢
      simp only [strV] at hr ⊢
      have HC4 := hide (HC3.out.num hrb ht hr)
      clear hr ht
      clear c0 f0
      obtain ⟨c0, f0, y0, g0⟩ := HC4.out.cell 0
      simp only [zQv, List.getElem?_cons_zero, List.getElem?_cons_succ] at c0 y0
      clear y0 g0
      obtain ⟨c2, f2, y2, g2⟩ := HC4.out.cell 2
      simp only [zQv, List.getElem?_cons_zero, List.getElem?_cons_succ] at c2 y2
      clear y2 g2
      have HC5 := hide (HC4.out.set hrb hB 2 (.string ⟨tp.toArray⟩))
      simp only [List.set_cons_zero, List.set_cons_succ] at HC5
      obtain ⟨cz1_0, fz1_0, yz1_0, gz1_0⟩ := HC5.out.cell 0
      simp only [zQv, List.getElem?_cons_zero, List.getElem?_cons_succ] at cz1_0 yz1_0
      clear yz1_0 gz1_0
      obtain ⟨a, r2, e2⟩ : ∃ n r, Bt.num r1 = (n, r) := ⟨_, _, rfl⟩

      have g2 := num_len r1
      rw [e2] at g2
      simp only at g2
      have E2 := hide e2
      clear e2
      go_wp2_with fail
      refine (wnum_any _ rb B r1 HC5.out.rd hB (by omega)).mono ?_
      rintro e wn2 ⟨rfl, hr, ht⟩
      rw [E2.out] at hr ⊢
      simp only [strV] at hr ⊢
      have HC6 := hide (HC5.out.num hrb ht hr)
      clear hr ht
      clear c0 f0 c2 f2 cz1_0 fz1_0
      obtain ⟨c0, f0, y0, g0⟩ := HC6.out.cell 0
      simp only [zQv, List.getElem?_cons_zero, List.getElem?_cons_succ] at c0 y0
      clear y0 g0
      obtain ⟨b, r3, e3⟩ : ∃ n r, Bt.num r2 = (n, r) := ⟨_, _, rfl⟩

      have g3 := num_len r2
      rw [e3] at g3
      simp only at g3
      have E3 := hide e3
      clear e3
      go_wp2_with fail
      refine (wnum_any _ rb B r2 HC6.out.rd hB (by omega)).mono ?_
      rintro e wn3 ⟨rfl, hr, ht⟩
      rw [E3.out] at hr ⊢
      simp only [strV] at hr ⊢
      have HC7 := hide (HC6.out.num hrb ht hr)
      clear hr ht
      clear c0 f0
      obtain ⟨c0, f0, y0, g0⟩ := HC7.out.cell 0
      simp only [zQv, List.getElem?_cons_zero, List.getElem?_cons_succ] at c0 y0
      clear y0 g0
      obtain ⟨c3, f3, y3, g3⟩ := HC7.out.cell 3
      simp only [zQv, List.getElem?_cons_zero, List.getElem?_cons_succ] at c3 y3
      clear y3 g3
      obtain ⟨c4, f4, y4, g4⟩ := HC7.out.cell 4
      simp only [zQv, List.getElem?_cons_zero, List.getElem?_cons_succ] at c4 y4
      clear y4 g4
      have HC8 := hide (HC7.out.set hrb hB 3 (.int .i64 (a : Int)))
      simp only [List.set_cons_zero, List.set_cons_succ] at HC8
      have HC9 := hide (HC8.out.set hrb hB 4 (.int .i64 (b : Int)))
      simp only [List.set_cons_zero, List.set_cons_succ] at HC9
      obtain ⟨cz2_0, fz2_0, yz2_0, gz2_0⟩ := HC9.out.cell 0
      simp only [zQv, List.getElem?_cons_zero, List.getElem?_cons_succ] at cz2_0 yz2_0
      clear yz2_0 gz2_0
      obtain ⟨c, r4, e4⟩ : ∃ n r, Bt.num r3 = (n, r) := ⟨_, _, rfl⟩

      have g4 := num_len r3
      rw [e4] at g4
      simp only at g4
      have E4 := hide e4
      clear e4
      go_wp2_with fail
      refine (wnum_any _ rb B r3 HC9.out.rd hB (by omega)).mono ?_
      rintro e wn4 ⟨rfl, hr, ht⟩
      rw [E4.out] at hr ⊢
      simp only [strV] at hr ⊢
      have HC10 := hide (HC9.out.num hrb ht hr)
      clear hr ht
      clear c0 f0 c3 f3 c4 f4 cz2_0 fz2_0
      obtain ⟨c0, f0, y0, g0⟩ := HC10.out.cell 0
      simp only [zQv, List.getElem?_cons_zero, List.getElem?_cons_succ] at c0 y0
      clear y0 g0
      obtain ⟨d, r5, e5⟩ : ∃ n r, Bt.num r4 = (n, r) := ⟨_, _, rfl⟩

      have g5 := num_len r4
      rw [e5] at g5
      simp only at g5
      have E5 := hide e5
      clear e5
      go_wp2_with fail
      refine (wnum_any _ rb B r4 HC10.out.rd hB (by omega)).mono ?_
      rintro e wn5 ⟨rfl, hr, ht⟩
      rw [E5.out] at hr ⊢
      simp only [strV] at hr ⊢
      have HC11 := hide (HC10.out.num hrb ht hr)
      clear hr ht
      clear c0 f0
      obtain ⟨c0, f0, y0, g0⟩ := HC11.out.cell 0
      simp only [zQv, List.getElem?_cons_zero, List.getElem?_cons_succ] at c0 y0
      clear y0 g0
      obtain ⟨e', r6, e6⟩ : ∃ n r, Bt.num r5 = (n, r) := ⟨_, _, rfl⟩

      have g6 := num_len r5
      rw [e6] at g6
      simp only at g6
      have E6 := hide e6
      clear e6
      go_wp2_with fail
      refine (wnum_any _ rb B r5 HC11.out.rd hB (by omega)).mono ?_
      rintro e wn6 ⟨rfl, hr, ht⟩
      rw [E6.out] at hr ⊢
      simp only [strV] at hr ⊢
      have HC12 := hide (HC11.out.num hrb ht hr)
      clear hr ht
      clear c0 f0
      obtain ⟨c0, f0, y0, g0⟩ := HC12.out.cell 0
      simp only [zQv, List.getElem?_cons_zero, List.getElem?_cons_succ] at c0 y0
      clear y0 g0
      obtain ⟨c5, f5, y5, g5⟩ := HC12.out.cell 5
      simp only [zQv, List.getElem?_cons_zero, List.getElem?_cons_succ] at c5 y5
      clear y5 g5
      obtain ⟨c6, f6, y6, g6⟩ := HC12.out.cell 6
      simp only [zQv, List.getElem?_cons_zero, List.getElem?_cons_succ] at c6 y6
      clear y6 g6
      obtain ⟨c7, f7, y7, g7⟩ := HC12.out.cell 7
      simp only [zQv, List.getElem?_cons_zero, List.getElem?_cons_succ] at c7 y7
      clear y7 g7
      have HC13 := hide (HC12.out.set hrb hB 5 (.int .i64 (c : Int)))
      simp only [List.set_cons_zero, List.set_cons_succ] at HC13
      have HC14 := hide (HC13.out.set hrb hB 6 (.int .i64 (d : Int)))
      simp only [List.set_cons_zero, List.set_cons_succ] at HC14
      have HC15 := hide (HC14.out.set hrb hB 7 (.int .i64 (e' : Int)))
      simp only [List.set_cons_zero, List.set_cons_succ] at HC15
      have HE : Hid (reqP l = (⟨(n0 : Int), (n1 : Int), tp, (a : Int), (b : Int), (c : Int), (d : Int), (e' : Int), 0, 0, false, false, []⟩ : Req)) := by
        show _ = _
        have hk' := hk.out
  
        unfold reqP tailP mkQ
        simp [E00.out, E01.out, E1.out, E2.out, E3.out, E4.out, E5.out, E6.out, hk']
      go_upto_region 17 with fail
      refine wp_region_lit ?_
      refine wpList_loadT rfl _ _ rfl ⟨X, 0, none⟩ rfl _ (load13 HC15.out.x) ?_
      refine wpList_store_row rfl _ _ _ rfl w.heap.size #[.int .i64 (n0 : Int), .int .i64 (n1 : Int), .string ⟨tp.toArray⟩, .int .i64 (a : Int), .int .i64 (b : Int), .int .i64 (c : Int), .int .i64 (d : Int), .int .i64 (e' : Int), .int .i64 0, .int .i64 0, .bool false, .bool false, .slice none 0 0] rfl rfl _ _ HC15.out.y (by kernel_rfl) rfl (by kernel_rfl) ?_
      have hf := HC15.out.fin2 hrb hB

      have HF := hide hf
      clear hf
      go_simp
      go_wp2
      have hld := load13 HF.out.1
      refine bodyPost_ret (v := .agg #[.int .i64 (n0 : Int), .int .i64 (n1 : Int), .string ⟨tp.toArray⟩, .int .i64 (a : Int), .int .i64 (b : Int), .int .i64 (c : Int), .int .i64 (d : Int), .int .i64 (e' : Int), .int .i64 0, .int .i64 0, .bool false, .bool false, .slice none 0 0]) (by simp [results, Tryd.results56, asAddr, hld, Result.andThen]) rfl ?_
      rw [HE.out]
      exact ⟨.slice none 0 0, rfl, RecRow.nil _ 0, HF.out.2.2.1, (by simp [Value.ownBlock])⟩
  · as_aux_lemma =>
      have b1 : ((n0 : Int) == 1) = false := by simp; omega
      have b2 : ((n0 : Int) == 2) = false := by simp; omega
      have b3 : ((n0 : Int) == 3) = true := by simp; omega
      have b4 : ((n0 : Int) == 4) = false := by simp; omega
      have b5 : ((n0 : Int) == 5) = false := by simp; omega
      have b7 : ((n0 : Int) == 7) = false := by simp; omega
      have b7' : ((n0 : Int) != 7) = true := by simp [bne, b7]
      have hk := hide (show ¬ n0 = 1 ∧ ¬ n0 = 2 ∧ n0 = 3 ∧ ¬ n0 = 4 ∧ ¬ n0 = 5 ∧ ¬ n0 = 7 by omega)
      clear hcase
      obtain ⟨c0, f0, y0, g0⟩ := HC3.out.cell 0
      simp only [zQv, List.getElem?_cons_zero, List.getElem?_cons_succ] at c0 y0
      clear y0 g0
      obtain ⟨tp, r1, e1⟩ : ∃ n r, Bt.text q1 = (n, r) := ⟨_, _, rfl⟩

      have g1 := text_len q1
      rw [e1] at g1
      simp only at g1
      have E1 := hide e1
      clear e1
      go_wp2_with fail
      refine (wtext_any _ rb B q1 HC3.out.rd hB (by omega)).mono ?_
      rintro e wn1 ⟨rfl, hr, ht⟩
      rw [E1.out] at hr ⊢
      simp only [strV] at hr ⊢
      have HC4 := hide (HC3.out.num hrb ht hr)
      clear hr ht
      clear c0 f0
      obtain ⟨c0, f0, y0, g0⟩ := HC4.out.cell 0
      simp only [zQv, List.getElem?_cons_zero, List.getElem?_cons_succ] at c0 y0
      clear y0 g0
      obtain ⟨c2, f2, y2, g2⟩ := HC4.out.cell 2
      simp only [zQv, List.getElem?_cons_zero, List.getElem?_cons_succ] at c2 y2
      clear y2 g2
      have HC5 := hide (HC4.out.set hrb hB 2 (.string ⟨tp.toArray⟩))
      simp only [List.set_cons_zero, List.set_cons_succ] at HC5
      obtain ⟨cz1_0, fz1_0, yz1_0, gz1_0⟩ := HC5.out.cell 0
      simp only [zQv, List.getElem?_cons_zero, List.getElem?_cons_succ] at cz1_0 yz1_0
      clear yz1_0 gz1_0
      obtain ⟨a, r2, e2⟩ : ∃ n r, Bt.num r1 = (n, r) := ⟨_, _, rfl⟩

      have g2 := num_len r1
      rw [e2] at g2
      simp only at g2
      have E2 := hide e2
      clear e2
      go_wp2_with fail
      refine (wnum_any _ rb B r1 HC5.out.rd hB (by omega)).mono ?_
      rintro e wn2 ⟨rfl, hr, ht⟩
      rw [E2.out] at hr ⊢
      simp only [strV] at hr ⊢
      have HC6 := hide (HC5.out.num hrb ht hr)
      clear hr ht
      clear c0 f0 c2 f2 cz1_0 fz1_0
      obtain ⟨c0, f0, y0, g0⟩ := HC6.out.cell 0
      simp only [zQv, List.getElem?_cons_zero, List.getElem?_cons_succ] at c0 y0
      clear y0 g0
      obtain ⟨b, r3, e3⟩ : ∃ n r, Bt.num r2 = (n, r) := ⟨_, _, rfl⟩

      have g3 := num_len r2
      rw [e3] at g3
      simp only at g3
      have E3 := hide e3
      clear e3
      go_wp2_with fail
      refine (wnum_any _ rb B r2 HC6.out.rd hB (by omega)).mono ?_
      rintro e wn3 ⟨rfl, hr, ht⟩
      rw [E3.out] at hr ⊢
      simp only [strV] at hr ⊢
      have HC7 := hide (HC6.out.num hrb ht hr)
      clear hr ht
      clear c0 f0
      obtain ⟨c0, f0, y0, g0⟩ := HC7.out.cell 0
      simp only [zQv, List.getElem?_cons_zero, List.getElem?_cons_succ] at c0 y0
      clear y0 g0
      obtain ⟨c3, f3, y3, g3⟩ := HC7.out.cell 3
      simp only [zQv, List.getElem?_cons_zero, List.getElem?_cons_succ] at c3 y3
      clear y3 g3
      obtain ⟨c8, f8, y8, g8⟩ := HC7.out.cell 8
      simp only [zQv, List.getElem?_cons_zero, List.getElem?_cons_succ] at c8 y8
      clear y8 g8
      have HC8 := hide (HC7.out.set hrb hB 3 (.int .i64 (a : Int)))
      simp only [List.set_cons_zero, List.set_cons_succ] at HC8
      have HC9 := hide (HC8.out.set hrb hB 8 (.int .i64 (b : Int)))
      simp only [List.set_cons_zero, List.set_cons_succ] at HC9
      have HE : Hid (reqP l = (⟨(n0 : Int), (n1 : Int), tp, (a : Int), 0, 0, 0, 0, (b : Int), 0, false, false, []⟩ : Req)) := by
        show _ = _
        have hk' := hk.out
  
        unfold reqP tailP mkQ
        simp [E00.out, E01.out, E1.out, E2.out, E3.out, hk']
      go_upto_region 17 with fail
      refine wp_region_lit ?_
      refine wpList_loadT rfl _ _ rfl ⟨X, 0, none⟩ rfl _ (load13 HC9.out.x) ?_
      refine wpList_store_row rfl _ _ _ rfl w.heap.size #[.int .i64 (n0 : Int), .int .i64 (n1 : Int), .string ⟨tp.toArray⟩, .int .i64 (a : Int), .int .i64 0, .int .i64 0, .int .i64 0, .int .i64 0, .int .i64 (b : Int), .int .i64 0, .bool false, .bool false, .slice none 0 0] rfl rfl _ _ HC9.out.y (by kernel_rfl) rfl (by kernel_rfl) ?_
      have hf := HC9.out.fin2 hrb hB

      have HF := hide hf
      clear hf
      go_simp
      go_wp2
      have hld := load13 HF.out.1
      refine bodyPost_ret (v := .agg #[.int .i64 (n0 : Int), .int .i64 (n1 : Int), .string ⟨tp.toArray⟩, .int .i64 (a : Int), .int .i64 0, .int .i64 0, .int .i64 0, .int .i64 0, .int .i64 (b : Int), .int .i64 0, .bool false, .bool false, .slice none 0 0]) (by simp [results, Tryd.results56, asAddr, hld, Result.andThen]) rfl ?_
      rw [HE.out]
      exact ⟨.slice none 0 0, rfl, RecRow.nil _ 0, HF.out.2.2.1, (by simp [Value.ownBlock])⟩
  · as_aux_lemma =>
      have b1 : ((n0 : Int) == 1) = false := by simp; omega
      have b2 : ((n0 : Int) == 2) = false := by simp; omega
      have b3 : ((n0 : Int) == 3) = false := by simp; omega
      have b4 : ((n0 : Int) == 4) = true := by simp; omega
      have b5 : ((n0 : Int) == 5) = false := by simp; omega
      have b7 : ((n0 : Int) == 7) = false := by simp; omega
      have b7' : ((n0 : Int) != 7) = true := by simp [bne, b7]
      have hk := hide (show ¬ n0 = 1 ∧ ¬ n0 = 2 ∧ ¬ n0 = 3 ∧ n0 = 4 ∧ ¬ n0 = 5 ∧ ¬ n0 = 7 by omega)
      clear hcase
      obtain ⟨c0, f0, y0, g0⟩ := HC3.out.cell 0
      simp only [zQv, List.getElem?_cons_zero, List.getElem?_cons_succ] at c0 y0
      clear y0 g0
      obtain ⟨tp, r1, e1⟩ : ∃ n r, Bt.text q1 = (n, r) := ⟨_, _, rfl⟩

      have g1 := text_len q1
      rw [e1] at g1
      simp only at g1
      have E1 := hide e1
      clear e1
      go_wp2_with fail
      refine (wtext_any _ rb B q1 HC3.out.rd hB (by omega)).mono ?_
      rintro e wn1 ⟨rfl, hr, ht⟩
      rw [E1.out] at hr ⊢
      simp only [strV] at hr ⊢
      have HC4 := hide (HC3.out.num hrb ht hr)
      clear hr ht
      clear c0 f0
      obtain ⟨c0, f0, y0, g0⟩ := HC4.out.cell 0
      simp only [zQv, List.getElem?_cons_zero, List.getElem?_cons_succ] at c0 y0
      clear y0 g0
      obtain ⟨c2, f2, y2, g2⟩ := HC4.out.cell 2
      simp only [zQv, List.getElem?_cons_zero, List.getElem?_cons_succ] at c2 y2
      clear y2 g2
      have HC5 := hide (HC4.out.set hrb hB 2 (.string ⟨tp.toArray⟩))
      simp only [List.set_cons_zero, List.set_cons_succ] at HC5
      obtain ⟨cz1_0, fz1_0, yz1_0, gz1_0⟩ := HC5.out.cell 0
      simp only [zQv, List.getElem?_cons_zero, List.getElem?_cons_succ] at cz1_0 yz1_0
      clear yz1_0 gz1_0
      obtain ⟨a, r2, e2⟩ : ∃ n r, Bt.num r1 = (n, r) := ⟨_, _, rfl⟩

      have g2 := num_len r1
      rw [e2] at g2
      simp only at g2
      have E2 := hide e2
      clear e2
      go_wp2_with fail
      refine (wnum_any _ rb B r1 HC5.out.rd hB (by omega)).mono ?_
      rintro e wn2 ⟨rfl, hr, ht⟩
      rw [E2.out] at hr ⊢
      simp only [strV] at hr ⊢
      have HC6 := hide (HC5.out.num hrb ht hr)
      clear hr ht
      clear c0 f0 c2 f2 cz1_0 fz1_0
      obtain ⟨c0, f0, y0, g0⟩ := HC6.out.cell 0
      simp only [zQv, List.getElem?_cons_zero, List.getElem?_cons_succ] at c0 y0
      clear y0 g0
      obtain ⟨b, r3, e3⟩ : ∃ n r, Bt.num r2 = (n, r) := ⟨_, _, rfl⟩

      have g3 := num_len r2
      rw [e3] at g3
      simp only at g3
      have E3 := hide e3
      clear e3
      go_wp2_with fail
      refine (wnum_any _ rb B r2 HC6.out.rd hB (by omega)).mono ?_
      rintro e wn3 ⟨rfl, hr, ht⟩
      rw [E3.out] at hr ⊢
      simp only [strV] at hr ⊢
      have HC7 := hide (HC6.out.num hrb ht hr)
      clear hr ht
      clear c0 f0
      obtain ⟨c0, f0, y0, g0⟩ := HC7.out.cell 0
      simp only [zQv, List.getElem?_cons_zero, List.getElem?_cons_succ] at c0 y0
      clear y0 g0
      obtain ⟨c3, f3, y3, g3⟩ := HC7.out.cell 3
      simp only [zQv, List.getElem?_cons_zero, List.getElem?_cons_succ] at c3 y3
      clear y3 g3
      obtain ⟨c4, f4, y4, g4⟩ := HC7.out.cell 4
      simp only [zQv, List.getElem?_cons_zero, List.getElem?_cons_succ] at c4 y4
      clear y4 g4
      have HC8 := hide (HC7.out.set hrb hB 3 (.int .i64 (a : Int)))
      simp only [List.set_cons_zero, List.set_cons_succ] at HC8
      have HC9 := hide (HC8.out.set hrb hB 4 (.int .i64 (b : Int)))
      simp only [List.set_cons_zero, List.set_cons_succ] at HC9
      have HE : Hid (reqP l = (⟨(n0 : Int), (n1 : Int), tp, (a : Int), (b : Int), 0, 0, 0, 0, 0, false, false, []⟩ : Req)) := by
        show _ = _
        have hk' := hk.out
  
        unfold reqP tailP mkQ
        simp [E00.out, E01.out, E1.out, E2.out, E3.out, hk']
      go_upto_region 17 with fail
      refine wp_region_lit ?_
      refine wpList_loadT rfl _ _ rfl ⟨X, 0, none⟩ rfl _ (load13 HC9.out.x) ?_
      refine wpList_store_row rfl _ _ _ rfl w.heap.size #[.int .i64 (n0 : Int), .int .i64 (n1 : Int), .string ⟨tp.toArray⟩, .int .i64 (a : Int), .int .i64 (b : Int), .int .i64 0, .int .i64 0, .int .i64 0, .int .i64 0, .int .i64 0, .bool false, .bool false, .slice none 0 0] rfl rfl _ _ HC9.out.y (by kernel_rfl) rfl (by kernel_rfl) ?_
      have hf := HC9.out.fin2 hrb hB

      have HF := hide hf
      clear hf
      go_simp
      go_wp2
      have hld := load13 HF.out.1
      refine bodyPost_ret (v := .agg #[.int .i64 (n0 : Int), .int .i64 (n1 : Int), .string ⟨tp.toArray⟩, .int .i64 (a : Int), .int .i64 (b : Int), .int .i64 0, .int .i64 0, .int .i64 0, .int .i64 0, .int .i64 0, .bool false, .bool false, .slice none 0 0]) (by simp [results, Tryd.results56, asAddr, hld, Result.andThen]) rfl ?_
      rw [HE.out]
      exact ⟨.slice none 0 0, rfl, RecRow.nil _ 0, HF.out.2.2.1, (by simp [Value.ownBlock])⟩
  · as_aux_lemma =>
      have b1 : ((n0 : Int) == 1) = false := by simp; omega
      have b2 : ((n0 : Int) == 2) = false := by simp; omega
      have b3 : ((n0 : Int) == 3) = false := by simp; omega
      have b4 : ((n0 : Int) == 4) = false := by simp; omega
      have b5 : ((n0 : Int) == 5) = true := by simp; omega
      have b7 : ((n0 : Int) == 7) = false := by simp; omega
      have b7' : ((n0 : Int) != 7) = true := by simp [bne, b7]
      have hk := hide (show ¬ n0 = 1 ∧ ¬ n0 = 2 ∧ ¬ n0 = 3 ∧ ¬ n0 = 4 ∧ n0 = 5 ∧ ¬ n0 = 7 by omega)
      clear hcase
      obtain ⟨c0, f0, y0, g0⟩ := HC3.out.cell 0
      simp only [zQv, List.getElem?_cons_zero, List.getElem?_cons_succ] at c0 y0
      clear y0 g0
      obtain ⟨tp, r1, e1⟩ : ∃ n r, Bt.text q1 = (n, r) := ⟨_, _, rfl⟩

      have g1 := text_len q1
      rw [e1] at g1
      simp only at g1
      have E1 := hide e1
      clear e1
      go_wp2_with fail
      refine (wtext_any _ rb B q1 HC3.out.rd hB (by omega)).mono ?_
      rintro e wn1 ⟨rfl, hr, ht⟩
      rw [E1.out] at hr ⊢
      simp only [strV] at hr ⊢
      have HC4 := hide (HC3.out.num hrb ht hr)
      clear hr ht
      clear c0 f0
      obtain ⟨c0, f0, y0, g0⟩ := HC4.out.cell 0
      simp only [zQv, List.getElem?_cons_zero, List.getElem?_cons_succ] at c0 y0
      clear y0 g0
      obtain ⟨c2, f2, y2, g2⟩ := HC4.out.cell 2
      simp only [zQv, List.getElem?_cons_zero, List.getElem?_cons_succ] at c2 y2
      clear y2 g2
      have HC5 := hide (HC4.out.set hrb hB 2 (.string ⟨tp.toArray⟩))
      simp only [List.set_cons_zero, List.set_cons_succ] at HC5
      obtain ⟨cz1_0, fz1_0, yz1_0, gz1_0⟩ := HC5.out.cell 0
      simp only [zQv, List.getElem?_cons_zero, List.getElem?_cons_succ] at cz1_0 yz1_0
      clear yz1_0 gz1_0
      obtain ⟨a, r2, e2⟩ : ∃ n r, Bt.num r1 = (n, r) := ⟨_, _, rfl⟩

      have g2 := num_len r1
      rw [e2] at g2
      simp only at g2
      have E2 := hide e2
      clear e2
      go_wp2_with fail
      refine (wnum_any _ rb B r1 HC5.out.rd hB (by omega)).mono ?_
      rintro e wn2 ⟨rfl, hr, ht⟩
      rw [E2.out] at hr ⊢
      simp only [strV] at hr ⊢
      have HC6 := hide (HC5.out.num hrb ht hr)
      clear hr ht
      clear c0 f0 c2 f2 cz1_0 fz1_0
      obtain ⟨c0, f0, y0, g0⟩ := HC6.out.cell 0
      simp only [zQv, List.getElem?_cons_zero, List.getElem?_cons_succ] at c0 y0
      clear y0 g0
      obtain ⟨b, r3, e3⟩ : ∃ n r, Bt.num r2 = (n, r) := ⟨_, _, rfl⟩

      have g3 := num_len r2
      rw [e3] at g3
      simp only at g3
      have E3 := hide e3
      clear e3
      go_wp2_with fail
      refine (wtru_any _ rb B r2 HC6.out.rd hB (by omega)).mono ?_
      rintro e wn3 ⟨rfl, hr, ht⟩
      rw [E3.out] at hr ⊢
      simp only [strV] at hr ⊢
      have HC7 := hide (HC6.out.num hrb ht hr)
      clear hr ht
      clear c0 f0
      obtain ⟨c0, f0, y0, g0⟩ := HC7.out.cell 0
      simp only [zQv, List.getElem?_cons_zero, List.getElem?_cons_succ] at c0 y0
      clear y0 g0
      obtain ⟨c9, f9, y9, g9⟩ := HC7.out.cell 9
      simp only [zQv, List.getElem?_cons_zero, List.getElem?_cons_succ] at c9 y9
      clear y9 g9
      obtain ⟨c11, f11, y11, g11⟩ := HC7.out.cell 11
      simp only [zQv, List.getElem?_cons_zero, List.getElem?_cons_succ] at c11 y11
      clear y11 g11
      have HC8 := hide (HC7.out.set hrb hB 9 (.int .i64 (a : Int)))
      simp only [List.set_cons_zero, List.set_cons_succ] at HC8
      have HC9 := hide (HC8.out.set hrb hB 11 (.bool (decide (b = 1))))
      simp only [List.set_cons_zero, List.set_cons_succ] at HC9
      have HE : Hid (reqP l = (⟨(n0 : Int), (n1 : Int), tp, 0, 0, 0, 0, 0, 0, (a : Int), false, decide (b = 1), []⟩ : Req)) := by
        show _ = _
        have hk' := hk.out
  
        unfold reqP tailP mkQ
        simp [E00.out, E01.out, E1.out, E2.out, E3.out, hk']
      go_upto_region 17 with fail
      refine wp_region_lit ?_
      refine wpList_loadT rfl _ _ rfl ⟨X, 0, none⟩ rfl _ (load13 HC9.out.x) ?_
      refine wpList_store_row rfl _ _ _ rfl w.heap.size #[.int .i64 (n0 : Int), .int .i64 (n1 : Int), .string ⟨tp.toArray⟩, .int .i64 0, .int .i64 0, .int .i64 0, .int .i64 0, .int .i64 0, .int .i64 0, .int .i64 (a : Int), .bool false, .bool (decide (b = 1)), .slice none 0 0] rfl rfl _ _ HC9.out.y (by kernel_rfl) rfl (by kernel_rfl) ?_
      have hf := HC9.out.fin2 hrb hB

      have HF := hide hf
      clear hf
      go_simp
      go_wp2
      have hld := load13 HF.out.1
      refine bodyPost_ret (v := .agg #[.int .i64 (n0 : Int), .int .i64 (n1 : Int), .string ⟨tp.toArray⟩, .int .i64 0, .int .i64 0, .int .i64 0, .int .i64 0, .int .i64 0, .int .i64 0, .int .i64 (a : Int), .bool false, .bool (decide (b = 1)), .slice none 0 0]) (by simp [results, Tryd.results56, asAddr, hld, Result.andThen]) rfl ?_
      rw [HE.out]
      exact ⟨.slice none 0 0, rfl, RecRow.nil _ 0, HF.out.2.2.1, (by simp [Value.ownBlock])⟩
  · as_aux_lemma =>
      have b1 : ((n0 : Int) == 1) = false := by simp; omega
      have b2 : ((n0 : Int) == 2) = false := by simp; omega
      have b3 : ((n0 : Int) == 3) = false := by simp; omega
      have b4 : ((n0 : Int) == 4) = false := by simp; omega
      have b5 : ((n0 : Int) == 5) = false := by simp; omega
      have b7 : ((n0 : Int) == 7) = true := by simp; omega
      have b7' : ((n0 : Int) != 7) = false := by simp [bne, b7]
      have hk := hide (show ¬ n0 = 1 ∧ ¬ n0 = 2 ∧ ¬ n0 = 3 ∧ ¬ n0 = 4 ∧ ¬ n0 = 5 ∧ n0 = 7 by omega)
      clear hcase
      obtain ⟨c0, f0, y0, g0⟩ := HC3.out.cell 0
      simp only [zQv, List.getElem?_cons_zero, List.getElem?_cons_succ] at c0 y0
      clear y0 g0
      have HE : Hid (reqP l = (⟨(n0 : Int), (n1 : Int), [], 0, 0, 0, 0, 0, 0, 0, false, false, []⟩ : Req)) := by
        show _ = _
        have hk' := hk.out
  
        unfold reqP tailP mkQ
        simp [E00.out, E01.out, hk']
      go_upto_region 17 with fail
      refine wp_region_lit ?_
      refine wpList_loadT rfl _ _ rfl ⟨X, 0, none⟩ rfl _ (load13 HC3.out.x) ?_
      refine wpList_store_row rfl _ _ _ rfl w.heap.size #[.int .i64 (n0 : Int), .int .i64 (n1 : Int), .string ⟨#[]⟩, .int .i64 0, .int .i64 0, .int .i64 0, .int .i64 0, .int .i64 0, .int .i64 0, .int .i64 0, .bool false, .bool false, .slice none 0 0] rfl rfl _ _ HC3.out.y (by kernel_rfl) rfl (by kernel_rfl) ?_
      have hf := HC3.out.fin2 hrb hB

      have HF := hide hf
      clear hf
      go_simp
      go_wp2
      have hld := load13 HF.out.1
      refine bodyPost_ret (v := .agg #[.int .i64 (n0 : Int), .int .i64 (n1 : Int), .string ⟨#[]⟩, .int .i64 0, .int .i64 0, .int .i64 0, .int .i64 0, .int .i64 0, .int .i64 0, .int .i64 0, .bool false, .bool false, .slice none 0 0]) (by simp [results, Tryd.results56, asAddr, hld, Result.andThen]) rfl ?_
      rw [HE.out]
      exact ⟨.slice none 0 0, rfl, RecRow.nil _ 0, HF.out.2.2.1, (by simp [Value.ownBlock])⟩
  · as_aux_lemma =>
      have b1 : ((n0 : Int) == 1) = false := by simp; omega
      have b2 : ((n0 : Int) == 2) = false := by simp; omega
      have b3 : ((n0 : Int) == 3) = false := by simp; omega
      have b4 : ((n0 : Int) == 4) = false := by simp; omega
      have b5 : ((n0 : Int) == 5) = false := by simp; omega
      have b7 : ((n0 : Int) == 7) = false := by simp; omega
      have b7' : ((n0 : Int) != 7) = true := by simp [bne, b7]
      have hk := hide (show ¬ n0 = 1 ∧ ¬ n0 = 2 ∧ ¬ n0 = 3 ∧ ¬ n0 = 4 ∧ ¬ n0 = 5 ∧ ¬ n0 = 7 by omega)
      clear hcase
      obtain ⟨c0, f0, y0, g0⟩ := HC3.out.cell 0
      simp only [zQv, List.getElem?_cons_zero, List.getElem?_cons_succ] at c0 y0
      clear y0 g0
      obtain ⟨tp, r1, e1⟩ : ∃ n r, Bt.text q1 = (n, r) := ⟨_, _, rfl⟩

      have g1 := text_len q1
      rw [e1] at g1
      simp only at g1
      have E1 := hide e1
      clear e1
      go_wp2_with fail
      refine (wtext_any _ rb B q1 HC3.out.rd hB (by omega)).mono ?_
      rintro e wn1 ⟨rfl, hr, ht⟩
      rw [E1.out] at hr ⊢
      simp only [strV] at hr ⊢
      have HC4 := hide (HC3.out.num hrb ht hr)
      clear hr ht
      clear c0 f0
      obtain ⟨c0, f0, y0, g0⟩ := HC4.out.cell 0
      simp only [zQv, List.getElem?_cons_zero, List.getElem?_cons_succ] at c0 y0
      clear y0 g0
      obtain ⟨c2, f2, y2, g2⟩ := HC4.out.cell 2
      simp only [zQv, List.getElem?_cons_zero, List.getElem?_cons_succ] at c2 y2
      clear y2 g2
      have HC5 := hide (HC4.out.set hrb hB 2 (.string ⟨tp.toArray⟩))
      simp only [List.set_cons_zero, List.set_cons_succ] at HC5
      obtain ⟨cz1_0, fz1_0, yz1_0, gz1_0⟩ := HC5.out.cell 0
      simp only [zQv, List.getElem?_cons_zero, List.getElem?_cons_succ] at cz1_0 yz1_0
      clear yz1_0 gz1_0
      have HE : Hid (reqP l = (⟨(n0 : Int), (n1 : Int), tp, 0, 0, 0, 0, 0, 0, 0, false, false, []⟩ : Req)) := by
        show _ = _
        have hk' := hk.out
        have hk' : ¬ (n0 : Int) = 1 ∧ ¬ (n0 : Int) = 2 ∧ ¬ (n0 : Int) = 3 ∧ ¬ (n0 : Int) = 4 ∧ ¬ (n0 : Int) = 5 ∧ ¬ (n0 : Int) = 7 := by omega
        unfold reqP tailP mkQ
        simp [E00.out, E01.out, E1.out, hk']
      go_upto_region 17 with fail
      refine wp_region_lit ?_
      refine wpList_loadT rfl _ _ rfl ⟨X, 0, none⟩ rfl _ (load13 HC5.out.x) ?_
      refine wpList_store_row rfl _ _ _ rfl w.heap.size #[.int .i64 (n0 : Int), .int .i64 (n1 : Int), .string ⟨tp.toArray⟩, .int .i64 0, .int .i64 0, .int .i64 0, .int .i64 0, .int .i64 0, .int .i64 0, .int .i64 0, .bool false, .bool false, .slice none 0 0] rfl rfl _ _ HC5.out.y (by kernel_rfl) rfl (by kernel_rfl) ?_
      have hf := HC5.out.fin2 hrb hB

      have HF := hide hf
      clear hf
      go_simp
      go_wp2
      have hld := load13 HF.out.1
      refine bodyPost_ret (v := .agg #[.int .i64 (n0 : Int), .int .i64 (n1 : Int), .string ⟨tp.toArray⟩, .int .i64 0, .int .i64 0, .int .i64 0, .int .i64 0, .int .i64 0, .int .i64 0, .int .i64 0, .bool false, .bool false, .slice none 0 0]) (by simp [results, Tryd.results56, asAddr, hld, Result.andThen]) rfl ?_
      rw [HE.out]
      exact ⟨.slice none 0 0, rfl, RecRow.nil _ 0, HF.out.2.2.1, (by simp [Value.ownBlock])⟩

set_option maxHeartbeats 16000000 in
theorem rans_any (w : World) (rb B : Nat) (l : List UInt8) (h : RdW w rb B l) (hB : B ≤ rb) (hl : l.length ≤ 900000) :
    Calls Tryd.prog 59 #[.pointer (some ⟨rb, 0, none⟩)] w fun e w' => ∃ rv tv, e = .returned (.agg (ansC (ansP l) rv tv)) ∧ RecsAt w' rv (ansP l).recs ∧ TopsAt w' tv (ansP l).topics ∧ Turn [rb] w w' ∧ (∀ k ∈ rv.ownBlock, w.heap.size ≤ k) ∧ (∀ k ∈ tv.ownBlock, w.heap.size ≤ k) := by
  have hrb := h.lt
  obtain ⟨n0, q0, e00⟩ : ∃ n r, Bt.num l = (n, r) := ⟨_, _, rfl⟩
  obtain ⟨n1, q1, e01⟩ : ∃ n r, Bt.num q0 = (n, r) := ⟨_, _, rfl⟩
  obtain ⟨n2, q2, e02⟩ : ∃ n r, Bt.num q1 = (n, r) := ⟨_, _, rfl⟩
  have g00 := num_len l
  have g01 := num_len q0
  have g02 := num_len q1
  rw [e00] at g00
  rw [e01] at g01
  rw [e02] at g02
  simp only at g00 g01 g02
  obtain ⟨wy, hwy⟩ : ∃ wy, wy = w.alloc (.cells zAv.toArray 57) := ⟨_, rfl⟩
  have hty : Turn [] w wy := by rw [hwy]; exact (Turn.refl [] w).alloc _
  have E00 := hide e00
  have E01 := hide e01
  have E02 := hide e02
  have HWY := hide hwy
  have HRY := hide (h.still hty)
  clear h hwy hty e00 e01 e02
  go_enter Tryd.func59, Tryd.ntmps59
  go_wp2_with fail
  rw [show w.alloc (.cells #[.int .i64 0, .int .i64 0, .int .i64 0, .int .i64 0, .int .i64 0, .int .i64 0, .bool false, .slice none 0 0, .slice none 0 0] 57) = wy from HWY.out.symm]
  refine (wnum_any _ rb B l HRY.out hB (by omega)).mono ?_
  rintro e w1 ⟨rfl, hr1, ht1⟩
  rw [E00.out] at hr1 ⊢
  simp only at hr1 ⊢
  have HR1 := hide hr1
  have HT1 := hide ht1
  clear hr1 ht1
  go_wp2_with fail
  refine (wnum_any _ rb B q0 HR1.out hB (by omega)).mono ?_
  rintro e w2 ⟨rfl, hr2, ht2⟩
  rw [E01.out] at hr2 ⊢
  simp only at hr2 ⊢
  have HR2 := hide hr2
  have HT2 := hide (HT1.out.same ht2)
  clear hr2 ht2

  go_wp2_with fail
  refine (wnum_any _ rb B q1 HR2.out hB (by omega)).mono ?_
  rintro e w3 ⟨rfl, hr3, ht3⟩
  rw [E02.out] at hr3 ⊢
  simp only at hr3 ⊢
  have ht3 := HT2.out.same ht3

  have hc3 := Cn.start (cs := [.int .i64 (n0 : Int), .int .i64 (n1 : Int), .int .i64 (n2 : Int), .int .i64 0, .int .i64 0, .int .i64 0, .bool false, .slice none 0 0, .slice none 0 0]) HWY.out ht3 hrb hr3
  obtain ⟨X, hX⟩ : ∃ X, X = w3.heap.size := ⟨_, rfl⟩
  obtain ⟨wx, hwx⟩ : ∃ wx, wx = w3.alloc (.cells #[.int .i64 (n0 : Int), .int .i64 (n1 : Int), .int .i64 (n2 : Int), .int .i64 0, .int .i64 0, .int .i64 0, .bool false, .slice none 0 0, .slice none 0 0] 57) := ⟨_, rfl⟩
  have hc3' : Cn 57 w wx rb B X w.heap.size [.int .i64 (n0 : Int), .int .i64 (n1 : Int), .int .i64 (n2 : Int), .int .i64 0, .int .i64 0, .int .i64 0, .bool false, .slice none 0 0, .slice none 0 0] zAv q2 := by
    rw [hwx, hX]; exact hc3
  have HC3 := hide hc3'
  have HWX := hide hwx
  have HX := hide hX
  clear hc3 hc3' hwx hX hr3 ht3
  have HN : Hid (X < wx.heap.size) := lt_of_heap HC3.out.x
  go_upto_region 2 with fail
  rw [show w3.alloc (.cells #[.int .i64 (n0 : Int), .int .i64 (n1 : Int), .int .i64 (n2 : Int), .int .i64 0, .int .i64 0, .int .i64 0, .bool false, .slice none 0 0, .slice none 0 0] 57) = wx from HWX.out.symm]
  rw [← HX.out]
  have hcase : ¬ n2 = 0 ∨ (n2 = 0 ∧ n0 = 1) ∨ (n2 = 0 ∧ n0 = 2) ∨ (n2 = 0 ∧ n0 = 3 ∧ (Bt.num q2).1 = 1) ∨ (n2 = 0 ∧ n0 = 3 ∧ ¬ (Bt.num q2).1 = 1) ∨ (n2 = 0 ∧ n0 = 4) ∨ (n2 = 0 ∧ n0 = 7) ∨ (n2 = 0 ∧ ¬ n0 = 1 ∧ ¬ n0 = 2 ∧ ¬ n0 = 3 ∧ ¬ n0 = 4 ∧ ¬ n0 = 7) := by omega
  rcases hcase with hcase | hcase | hcase | hcase | hcase | hcase | hcase | hcase
  · as_aux_lemma =>
      have bz : ((n2 : Int) == 0) = false := by simp; omega
      have bz' : ((n2 : Int) != 0) = true := by simp [bne, bz]
      have hk := hide (show ¬ n2 = 0 by omega)
      clear hcase
      obtain ⟨c0, f0, y0, g0⟩ := HC3.out.cell 0
      simp only [zAv, List.getElem?_cons_zero, List.getElem?_cons_succ] at c0 y0
      clear y0 g0
      obtain ⟨c2, f2, y2, g2⟩ := HC3.out.cell 2
      simp only [zAv, List.getElem?_cons_zero, List.getElem?_cons_succ] at c2 y2
      clear y2 g2
      have HE : Hid (ansP l = (⟨(n0 : Int), (n1 : Int), (n2 : Int), 0, 0, 0, false, [], []⟩ : Ans)) := by
        show _ = _
        have hk' := hk.out
        unfold ansP atailP mkA
        simp [E00.out, E01.out, E02.out, hk']
      go_upto_region 3 with fail
      refine wp_region_lit ?_
      refine wpList_loadT rfl _ _ rfl ⟨X, 0, none⟩ rfl _ (load9 HC3.out.x) ?_
      refine wpList_store_row rfl _ _ _ rfl w.heap.size #[.int .i64 (n0 : Int), .int .i64 (n1 : Int), .int .i64 (n2 : Int), .int .i64 0, .int .i64 0, .int .i64 0, .bool false, .slice none 0 0, .slice none 0 0] rfl rfl _ _ HC3.out.y (by kernel_rfl) rfl (by kernel_rfl) ?_
      have hf := HC3.out.fin2 hrb hB

      have HF := hide hf
      clear hf
      go_simp
      go_wp2
      have hld := load9 HF.out.1
      refine bodyPost_ret (v := .agg #[.int .i64 (n0 : Int), .int .i64 (n1 : Int), .int .i64 (n2 : Int), .int .i64 0, .int .i64 0, .int .i64 0, .bool false, .slice none 0 0, .slice none 0 0]) (by simp [results, Tryd.results59, asAddr, hld, Result.andThen]) rfl ?_
      rw [HE.out]
      exact ⟨.slice none 0 0, .slice none 0 0, rfl, RecRow.nil _ 0, TopsAt.nil _, HF.out.2.2.1, (by simp [Value.ownBlock]), (by simp [Value.ownBlock])⟩
  · as_aux_lemma =>
      have bz : ((n2 : Int) == 0) = true := by simp; omega
      have bz' : ((n2 : Int) != 0) = false := by simp [bne, bz]
      have b1 : ((n0 : Int) == 1) = true := by simp; omega
      have b2 : ((n0 : Int) == 2) = false := by simp; omega
      have b3 : ((n0 : Int) == 3) = false := by simp; omega
      have b4 : ((n0 : Int) == 4) = false := by simp; omega
      have b7 : ((n0 : Int) == 7) = false := by simp; omega
      have hk := hide (show n2 = 0 ∧ n0 = 1 ∧ ¬ n0 = 2 ∧ ¬ n0 = 3 ∧ ¬ n0 = 4 ∧ ¬ n0 = 7 by omega)
      clear hcase
      obtain ⟨c0, f0, y0, g0⟩ := HC3.out.cell 0
      simp only [zAv, List.getElem?_cons_zero, List.getElem?_cons_succ] at c0 y0
      clear y0 g0
      obtain ⟨c2, f2, y2, g2⟩ := HC3.out.cell 2
      simp only [zAv, List.getElem?_cons_zero, List.getElem?_cons_succ] at c2 y2
      clear y2 g2
      obtain ⟨a, r1, e1⟩ : ∃ n r, Bt.num q2 = (n, r) := ⟨_, _, rfl⟩

      have g1 := num_len q2
      rw [e1] at g1
      simp only at g1
      have E1 := hide e1
      clear e1
      go_wp2_with fail
      refine (wnum_any _ rb B q2 HC3.out.rd hB (by omega)).mono ?_
      rintro e wn1 ⟨rfl, hr, ht⟩
      rw [E1.out] at hr ⊢
      simp only [strV] at hr ⊢
      have HC4 := hide (HC3.out.num hrb ht hr)
      clear hr ht
      clear c0 f0 c2 f2
      obtain ⟨c0, f0, y0, g0⟩ := HC4.out.cell 0
      simp only [zAv, List.getElem?_cons_zero, List.getElem?_cons_succ] at c0 y0
      clear y0 g0
      obtain ⟨c3, f3, y3, g3⟩ := HC4.out.cell 3
      simp only [zAv, List.getElem?_cons_zero, List.getElem?_cons_succ] at c3 y3
      clear y3 g3
      have HC5 := hide (HC4.out.set hrb hB 3 (.int .i64 (a : Int)))
      simp only [List.set_cons_zero, List.set_cons_succ] at HC5
      have HE : Hid (ansP l = (⟨(n0 : Int), (n1 : Int), (n2 : Int), (a : Int), 0, 0, false, [], []⟩ : Ans)) := by
        show _ = _
        have hk' := hk.out
  
        unfold ansP atailP mkA
        simp [E00.out, E01.out, E02.out, E1.out, hk']
      go_upto_region 18 with fail
      refine wp_region_lit ?_
      refine wpList_loadT rfl _ _ rfl ⟨X, 0, none⟩ rfl _ (load9 HC5.out.x) ?_
      refine wpList_store_row rfl _ _ _ rfl w.heap.size #[.int .i64 (n0 : Int), .int .i64 (n1 : Int), .int .i64 (n2 : Int), .int .i64 (a : Int), .int .i64 0, .int .i64 0, .bool false, .slice none 0 0, .slice none 0 0] rfl rfl _ _ HC5.out.y (by kernel_rfl) rfl (by kernel_rfl) ?_
      have hf := HC5.out.fin2 hrb hB

      have HF := hide hf
      clear hf
      go_simp
      go_wp2
      have hld := load9 HF.out.1
      refine bodyPost_ret (v := .agg #[.int .i64 (n0 : Int), .int .i64 (n1 : Int), .int .i64 (n2 : Int), .int .i64 (a : Int), .int .i64 0, .int .i64 0, .bool false, .slice none 0 0, .slice none 0 0]) (by simp [results, Tryd.results59, asAddr, hld, Result.andThen]) rfl ?_
      rw [HE.out]
      exact ⟨.slice none 0 0, .slice none 0 0, rfl, RecRow.nil _ 0, TopsAt.nil _, HF.out.2.2.1, (by simp [Value.ownBlock]), (by simp [Value.ownBlock])⟩
  · as_aux_lemma =>
      have bz : ((n2 : Int) == 0) = true := by simp; omega
      have bz' : ((n2 : Int) != 0) = false := by simp [bne, bz]
      have b1 : ((n0 : Int) == 1) = false := by simp; omega
      have b2 : ((n0 : Int) == 2) = true := by simp; omega
      have b3 : ((n0 : Int) == 3) = false := by simp; omega
      have b4 : ((n0 : Int) == 4) = false := by simp; omega
      have b7 : ((n0 : Int) == 7) = false := by simp; omega
      have hk := hide (show n2 = 0 ∧ ¬ n0 = 1 ∧ n0 = 2 ∧ ¬ n0 = 3 ∧ ¬ n0 = 4 ∧ ¬ n0 = 7 by omega)
      clear hcase
      obtain ⟨c0, f0, y0, g0⟩ := HC3.out.cell 0
      simp only [zAv, List.getElem?_cons_zero, List.getElem?_cons_succ] at c0 y0
      clear y0 g0
      obtain ⟨c2, f2, y2, g2⟩ := HC3.out.cell 2
      simp only [zAv, List.getElem?_cons_zero, List.getElem?_cons_succ] at c2 y2
      clear y2 g2
      obtain ⟨a, r1, e1⟩ : ∃ n r, Bt.num q2 = (n, r) := ⟨_, _, rfl⟩

      have g1 := num_len q2
      rw [e1] at g1
      simp only at g1
      have E1 := hide e1
      clear e1
      go_wp2_with fail
      refine (wnum_any _ rb B q2 HC3.out.rd hB (by omega)).mono ?_
      rintro e wn1 ⟨rfl, hr, ht⟩
      rw [E1.out] at hr ⊢
      simp only [strV] at hr ⊢
      have HC4 := hide (HC3.out.num hrb ht hr)
      clear hr ht
      clear c0 f0 c2 f2
      obtain ⟨c0, f0, y0, g0⟩ := HC4.out.cell 0
      simp only [zAv, List.getElem?_cons_zero, List.getElem?_cons_succ] at c0 y0
      clear y0 g0
      obtain ⟨b, r2, e2⟩ : ∃ n r, Bt.num r1 = (n, r) := ⟨_, _, rfl⟩

      have g2 := num_len r1
      rw [e2] at g2
      simp only at g2
      have E2 := hide e2
      clear e2
      go_wp2_with fail
      refine (wnum_any _ rb B r1 HC4.out.rd hB (by omega)).mono ?_
      rintro e wn2 ⟨rfl, hr, ht⟩
      rw [E2.out] at hr ⊢
      simp only [strV] at hr ⊢
      have HC5 := hide (HC4.out.num hrb ht hr)
      clear hr ht
      clear c0 f0
      obtain ⟨c0, f0, y0, g0⟩ := HC5.out.cell 0
      simp only [zAv, List.getElem?_cons_zero, List.getElem?_cons_succ] at c0 y0
      clear y0 g0
      obtain ⟨c4, f4, y4, g4⟩ := HC5.out.cell 4
      simp only [zAv, List.getElem?_cons_zero, List.getElem?_cons_succ] at c4 y4
      clear y4 g4
      obtain ⟨c5, f5, y5, g5⟩ := HC5.out.cell 5
      simp only [zAv, List.getElem?_cons_zero, List.getElem?_cons_succ] at c5 y5
      clear y5 g5
      have HC6 := hide (HC5.out.set hrb hB 4 (.int .i64 (a : Int)))
      simp only [List.set_cons_zero, List.set_cons_succ] at HC6
      have HC7 := hide (HC6.out.set hrb hB 5 (.int .i64 (b : Int)))
      simp only [List.set_cons_zero, List.set_cons_succ] at HC7
      go_wp2_with fail
      refine (rlistP_any _ rb B r2 HC7.out.rd hB (by omega)).mono ?_
      rintro e wl ⟨sl, rfl, hrow, hrd, htl⟩
      obtain ⟨L, hL⟩ : ∃ L, L = listP plP (Bt.num r2).1 (Bt.num r2).2 := ⟨_, rfl⟩
      rw [← hL] at hrow hrd
      have hok := (listP_all (one := plP) (ok := RecRd) (L := 1000000) (fun l h => plP_rd h) (fun l h => plP_lt h) (Bt.num r2).1 (Bt.num r2).2 (by have := num_len r2; omega)).1
      rw [← hL] at hok
      obtain ⟨la, ln, lc, rfl⟩ : ∃ a n c, sl = .slice a n c := by exact hrow.some_slice
      have HOK := hide hok
      have HLL := hide hL
      have hszl := HC7.out.x
      have hszx := lt_of_heap hszl
      have hszy := lt_of_heap HC7.out.y
      try simp only [World.size_setCell] at hszx hszy
      have HC8 := hide (HC7.out.num hrb htl hrd)
      have HROW := hide hrow
      clear hrow hrd htl hok hL hszl
      clear c0 f0 c4 f4 c5 f5
      obtain ⟨c0, f0, y0, g0⟩ := HC8.out.cell 0
      simp only [zAv, List.getElem?_cons_zero, List.getElem?_cons_succ] at c0 y0
      clear y0 g0
      obtain ⟨c7, f7, y7, g7⟩ := HC8.out.cell 7
      simp only [zAv, List.getElem?_cons_zero, List.getElem?_cons_succ] at c7 y7
      clear y7 g7
      have HC9 := hide (HC8.out.set hrb hB 7 (.slice la ln lc))
      simp only [List.set_cons_zero, List.set_cons_succ] at HC9
      have HE : Hid (ansP l = (⟨(n0 : Int), (n1 : Int), (n2 : Int), 0, (a : Int), (b : Int), false, L.1, []⟩ : Ans)) := by
        show _ = _
        have hk' := hk.out
  
        unfold ansP atailP mkA
        simp [E00.out, E01.out, E02.out, E1.out, E2.out, hk', HLL.out]
      go_upto_region 18 with fail
      refine wp_region_lit ?_
      refine wpList_loadT rfl _ _ rfl ⟨X, 0, none⟩ rfl _ (load9 HC9.out.x) ?_
      refine wpList_store_row rfl _ _ _ rfl w.heap.size #[.int .i64 (n0 : Int), .int .i64 (n1 : Int), .int .i64 (n2 : Int), .int .i64 0, .int .i64 (a : Int), .int .i64 (b : Int), .bool false, .slice la ln lc, .slice none 0 0] rfl rfl _ _ HC9.out.y (by kernel_rfl) rfl (by kernel_rfl) ?_
      have hf := HC9.out.fin2 hrb hB
      have hrow := hide ((HROW.out.kept (S := [X]) ((Turn.refl [X] wl).setCell (.inl (by simp)) (.slice la ln lc)) (fun q hq hm => by have := (HROW.out.lt q hq).1; simp at hm; (try simp at this); omega)).kept hf.2.2.2 (fun q hq hm => by have := (HROW.out.lt q hq).1; simp at hm; (try simp at this); omega))
      have HF := hide hf
      clear hf
      go_simp
      go_wp2
      have hld := load9 HF.out.1
      refine bodyPost_ret (v := .agg #[.int .i64 (n0 : Int), .int .i64 (n1 : Int), .int .i64 (n2 : Int), .int .i64 0, .int .i64 (a : Int), .int .i64 (b : Int), .bool false, .slice la ln lc, .slice none 0 0]) (by simp [results, Tryd.results59, asAddr, hld, Result.andThen]) rfl ?_
      rw [HE.out]
      exact ⟨.slice la ln lc, .slice none 0 0, rfl, hrow.out.recs (fun r hr => (HOK.out r hr).ok), TopsAt.nil _, HF.out.2.2.1, (fun q hq => by have := (HROW.out.lt q hq).1; (try simp at this); omega), (by simp [Value.ownBlock])⟩
  · as_aux_lemma =>
      have bz : ((n2 : Int) == 0) = true := by simp; omega
      have bz' : ((n2 : Int) != 0) = false := by simp [bne, bz]
      have b1 : ((n0 : Int) == 1) = false := by simp; omega
      have b2 : ((n0 : Int) == 2) = false := by simp; omega
      have b3 : ((n0 : Int) == 3) = true := by simp; omega
      have b4 : ((n0 : Int) == 4) = false := by simp; omega
      have b7 : ((n0 : Int) == 7) = false := by simp; omega
      have hk := hide (show n2 = 0 ∧ ¬ n0 = 1 ∧ ¬ n0 = 2 ∧ n0 = 3 ∧ ¬ n0 = 4 ∧ ¬ n0 = 7 by omega)
      have hq := hcase.2.2
      clear hcase
      obtain ⟨c0, f0, y0, g0⟩ := HC3.out.cell 0
      simp only [zAv, List.getElem?_cons_zero, List.getElem?_cons_succ] at c0 y0
      clear y0 g0
      obtain ⟨c2, f2, y2, g2⟩ := HC3.out.cell 2
      simp only [zAv, List.getElem?_cons_zero, List.getElem?_cons_succ] at c2 y2
      clear y2 g2
      obtain ⟨a, r1, e1⟩ : ∃ n r, Bt.num q2 = (n, r) := ⟨_, _, rfl⟩
      rw [e1] at hq
      simp only at hq
      have hd : decide (a = 1) = true := by simp [hq]
      have HQ := hide hq
      clear hq
      have g1 := num_len q2
      rw [e1] at g1
      simp only at g1
      have E1 := hide e1
      clear e1
      go_wp2_with fail
      refine (wtru_any _ rb B q2 HC3.out.rd hB (by omega)).mono ?_
      rintro e wn1 ⟨rfl, hr, ht⟩
      rw [E1.out] at hr ⊢
      simp only [strV] at hr ⊢
      have HC4 := hide (HC3.out.num hrb ht hr)
      clear hr ht
      clear c0 f0 c2 f2
      obtain ⟨c0, f0, y0, g0⟩ := HC4.out.cell 0
      simp only [zAv, List.getElem?_cons_zero, List.getElem?_cons_succ] at c0 y0
      clear y0 g0
      obtain ⟨c6, f6, y6, g6⟩ := HC4.out.cell 6
      simp only [zAv, List.getElem?_cons_zero, List.getElem?_cons_succ] at c6 y6
      clear y6 g6
      rw [hd]
      clear hd
      have HC5 := hide (HC4.out.set hrb hB 6 (.bool true))
      simp only [List.set_cons_zero, List.set_cons_succ] at HC5
      obtain ⟨cz1_0, fz1_0, yz1_0, gz1_0⟩ := HC5.out.cell 0
      simp only [zAv, List.getElem?_cons_zero, List.getElem?_cons_succ] at cz1_0 yz1_0
      clear yz1_0 gz1_0
      obtain ⟨cz1_6, fz1_6, yz1_6, gz1_6⟩ := HC5.out.cell 6
      simp only [zAv, List.getElem?_cons_zero, List.getElem?_cons_succ] at cz1_6 yz1_6
      clear yz1_6 gz1_6
      obtain ⟨b, r2, e2⟩ : ∃ n r, Bt.num r1 = (n, r) := ⟨_, _, rfl⟩

      have g2 := num_len r1
      rw [e2] at g2
      simp only at g2
      have E2 := hide e2
      clear e2
      go_wp2_with fail
      refine (wnum_any _ rb B r1 HC5.out.rd hB (by omega)).mono ?_
      rintro e wn2 ⟨rfl, hr, ht⟩
      rw [E2.out] at hr ⊢
      simp only [strV] at hr ⊢
      have HC6 := hide (HC5.out.num hrb ht hr)
      clear hr ht
      clear c0 f0 c6 f6 cz1_0 fz1_0 cz1_6 fz1_6
      obtain ⟨c0, f0, y0, g0⟩ := HC6.out.cell 0
      simp only [zAv, List.getElem?_cons_zero, List.getElem?_cons_succ] at c0 y0
      clear y0 g0
      obtain ⟨c3, f3, y3, g3⟩ := HC6.out.cell 3
      simp only [zAv, List.getElem?_cons_zero, List.getElem?_cons_succ] at c3 y3
      clear y3 g3
      have HC7 := hide (HC6.out.set hrb hB 3 (.int .i64 (b : Int)))
      simp only [List.set_cons_zero, List.set_cons_succ] at HC7
      have HE : Hid (ansP l = (⟨(n0 : Int), (n1 : Int), (n2 : Int), (b : Int), 0, 0, true, [], []⟩ : Ans)) := by
        show _ = _
        have hk' := hk.out
  
        unfold ansP atailP mkA
        simp [E00.out, E01.out, E02.out, E1.out, E2.out, hk', HQ.out]
      go_upto_region 18 with fail
      refine wp_region_lit ?_
      refine wpList_loadT rfl _ _ rfl ⟨X, 0, none⟩ rfl _ (load9 HC7.out.x) ?_
      refine wpList_store_row rfl _ _ _ rfl w.heap.size #[.int .i64 (n0 : Int), .int .i64 (n1 : Int), .int .i64 (n2 : Int), .int .i64 (b : Int), .int .i64 0, .int .i64 0, .bool true, .slice none 0 0, .slice none 0 0] rfl rfl _ _ HC7.out.y (by kernel_rfl) rfl (by kernel_rfl) ?_
      have hf := HC7.out.fin2 hrb hB

      have HF := hide hf
      clear hf
      go_simp
      go_wp2
      have hld := load9 HF.out.1
      refine bodyPost_ret (v := .agg #[.int .i64 (n0 : Int), .int .i64 (n1 : Int), .int .i64 (n2 : Int), .int .i64 (b : Int), .int .i64 0, .int .i64 0, .bool true, .slice none 0 0, .slice none 0 0]) (by simp [results, Tryd.results59, asAddr, hld, Result.andThen]) rfl ?_
      rw [HE.out]
      exact ⟨.slice none 0 0, .slice none 0 0, rfl, RecRow.nil _ 0, TopsAt.nil _, HF.out.2.2.1, (by simp [Value.ownBlock]), (by simp [Value.ownBlock])⟩
  · as_aux_lemma =>
      have bz : ((n2 : Int) == 0) = true := by simp; omega
      have bz' : ((n2 : Int) != 0) = false := by simp [bne, bz]
      have b1 : ((n0 : Int) == 1) = false := by simp; omega
      have b2 : ((n0 : Int) == 2) = false := by simp; omega
      have b3 : ((n0 : Int) == 3) = true := by simp; omega
      have b4 : ((n0 : Int) == 4) = false := by simp; omega
      have b7 : ((n0 : Int) == 7) = false := by simp; omega
      have hk := hide (show n2 = 0 ∧ ¬ n0 = 1 ∧ ¬ n0 = 2 ∧ n0 = 3 ∧ ¬ n0 = 4 ∧ ¬ n0 = 7 by omega)
      have hq := hcase.2.2
      clear hcase
      obtain ⟨c0, f0, y0, g0⟩ := HC3.out.cell 0
      simp only [zAv, List.getElem?_cons_zero, List.getElem?_cons_succ] at c0 y0
      clear y0 g0
      obtain ⟨c2, f2, y2, g2⟩ := HC3.out.cell 2
      simp only [zAv, List.getElem?_cons_zero, List.getElem?_cons_succ] at c2 y2
      clear y2 g2
      obtain ⟨a, r1, e1⟩ : ∃ n r, Bt.num q2 = (n, r) := ⟨_, _, rfl⟩
      rw [e1] at hq
      simp only at hq
      have hd : decide (a = 1) = false := by simp [hq]
      have HQ := hide hq
      clear hq
      have g1 := num_len q2
      rw [e1] at g1
      simp only at g1
      have E1 := hide e1
      clear e1
      go_wp2_with fail
      refine (wtru_any _ rb B q2 HC3.out.rd hB (by omega)).mono ?_
      rintro e wn1 ⟨rfl, hr, ht⟩
      rw [E1.out] at hr ⊢
      simp only [strV] at hr ⊢
      have HC4 := hide (HC3.out.num hrb ht hr)
      clear hr ht
      clear c0 f0 c2 f2
      obtain ⟨c0, f0, y0, g0⟩ := HC4.out.cell 0
      simp only [zAv, List.getElem?_cons_zero, List.getElem?_cons_succ] at c0 y0
      clear y0 g0
      obtain ⟨c6, f6, y6, g6⟩ := HC4.out.cell 6
      simp only [zAv, List.getElem?_cons_zero, List.getElem?_cons_succ] at c6 y6
      clear y6 g6
      rw [hd]
      clear hd
      have HC5 := hide (HC4.out.set hrb hB 6 (.bool false))
      simp only [List.set_cons_zero, List.set_cons_succ] at HC5
      obtain ⟨cz1_0, fz1_0, yz1_0, gz1_0⟩ := HC5.out.cell 0
      simp only [zAv, List.getElem?_cons_zero, List.getElem?_cons_succ] at cz1_0 yz1_0
      clear yz1_0 gz1_0
      obtain ⟨cz1_6, fz1_6, yz1_6, gz1_6⟩ := HC5.out.cell 6
      simp only [zAv, List.getElem?_cons_zero, List.getElem?_cons_succ] at cz1_6 yz1_6
      clear yz1_6 gz1_6
      have HE : Hid (ansP l = (⟨(n0 : Int), (n1 : Int), (n2 : Int), 0, 0, 0, false, [], []⟩ : Ans)) := by
        show _ = _
        have hk' := hk.out
  
        unfold ansP atailP mkA
        simp [E00.out, E01.out, E02.out, E1.out, hk', HQ.out]
      go_upto_region 18 with fail
      refine wp_region_lit ?_
      refine wpList_loadT rfl _ _ rfl ⟨X, 0, none⟩ rfl _ (load9 HC5.out.x) ?_
      refine wpList_store_row rfl _ _ _ rfl w.heap.size #[.int .i64 (n0 : Int), .int .i64 (n1 : Int), .int .i64 (n2 : Int), .int .i64 0, .int .i64 0, .int .i64 0, .bool false, .slice none 0 0, .slice none 0 0] rfl rfl _ _ HC5.out.y (by kernel_rfl) rfl (by kernel_rfl) ?_
      have hf := HC5.out.fin2 hrb hB

      have HF := hide hf
      clear hf
      go_simp
      go_wp2
      have hld := load9 HF.out.1
      refine bodyPost_ret (v := .agg #[.int .i64 (n0 : Int), .int .i64 (n1 : Int), .int .i64 (n2 : Int), .int .i64 0, .int .i64 0, .int .i64 0, .bool false, .slice none 0 0, .slice none 0 0]) (by simp [results, Tryd.results59, asAddr, hld, Result.andThen]) rfl ?_
      rw [HE.out]
      exact ⟨.slice none 0 0, .slice none 0 0, rfl, RecRow.nil _ 0, TopsAt.nil _, HF.out.2.2.1, (by simp [Value.ownBlock]), (by simp [Value.ownBlock])⟩
  · as_aux_lemma =>
      have bz : ((n2 : Int) == 0) = true := by simp; omega
      have bz' : ((n2 : Int) != 0) = false := by simp [bne, bz]
      have b1 : ((n0 : Int) == 1) = false := by simp; omega
      have b2 : ((n0 : Int) == 2) = false := by simp; omega
      have b3 : ((n0 : Int) == 3) = false := by simp; omega
      have b4 : ((n0 : Int) == 4) = true := by simp; omega
      have b7 : ((n0 : Int) == 7) = false := by simp; omega
      have hk := hide (show n2 = 0 ∧ ¬ n0 = 1 ∧ ¬ n0 = 2 ∧ ¬ n0 = 3 ∧ n0 = 4 ∧ ¬ n0 = 7 by omega)
      clear hcase
      obtain ⟨c0, f0, y0, g0⟩ := HC3.out.cell 0
      simp only [zAv, List.getElem?_cons_zero, List.getElem?_cons_succ] at c0 y0
      clear y0 g0
      obtain ⟨c2, f2, y2, g2⟩ := HC3.out.cell 2
      simp only [zAv, List.getElem?_cons_zero, List.getElem?_cons_succ] at c2 y2
      clear y2 g2
      obtain ⟨a, r1, e1⟩ : ∃ n r, Bt.num q2 = (n, r) := ⟨_, _, rfl⟩

      have g1 := num_len q2
      rw [e1] at g1
      simp only at g1
      have E1 := hide e1
      clear e1
      go_wp2_with fail
      refine (wnum_any _ rb B q2 HC3.out.rd hB (by omega)).mono ?_
      rintro e wn1 ⟨rfl, hr, ht⟩
      rw [E1.out] at hr ⊢
      simp only [strV] at hr ⊢
      have HC4 := hide (HC3.out.num hrb ht hr)
      clear hr ht
      clear c0 f0 c2 f2
      obtain ⟨c0, f0, y0, g0⟩ := HC4.out.cell 0
      simp only [zAv, List.getElem?_cons_zero, List.getElem?_cons_succ] at c0 y0
      clear y0 g0
      obtain ⟨c4, f4, y4, g4⟩ := HC4.out.cell 4
      simp only [zAv, List.getElem?_cons_zero, List.getElem?_cons_succ] at c4 y4
      clear y4 g4
      have HC5 := hide (HC4.out.set hrb hB 4 (.int .i64 (a : Int)))
      simp only [List.set_cons_zero, List.set_cons_succ] at HC5
      have HE : Hid (ansP l = (⟨(n0 : Int), (n1 : Int), (n2 : Int), 0, (a : Int), 0, false, [], []⟩ : Ans)) := by
        show _ = _
        have hk' := hk.out
  
        unfold ansP atailP mkA
        simp [E00.out, E01.out, E02.out, E1.out, hk']
      go_upto_region 18 with fail
      refine wp_region_lit ?_
      refine wpList_loadT rfl _ _ rfl ⟨X, 0, none⟩ rfl _ (load9 HC5.out.x) ?_
      refine wpList_store_row rfl _ _ _ rfl w.heap.size #[.int .i64 (n0 : Int), .int .i64 (n1 : Int), .int .i64 (n2 : Int), .int .i64 0, .int .i64 (a : Int), .int .i64 0, .bool false, .slice none 0 0, .slice none 0 0] rfl rfl _ _ HC5.out.y (by kernel_rfl) rfl (by kernel_rfl) ?_
      have hf := HC5.out.fin2 hrb hB

      have HF := hide hf
      clear hf
      go_simp
      go_wp2
      have hld := load9 HF.out.1
      refine bodyPost_ret (v := .agg #[.int .i64 (n0 : Int), .int .i64 (n1 : Int), .int .i64 (n2 : Int), .int .i64 0, .int .i64 (a : Int), .int .i64 0, .bool false, .slice none 0 0, .slice none 0 0]) (by simp [results, Tryd.results59, asAddr, hld, Result.andThen]) rfl ?_
      rw [HE.out]
      exact ⟨.slice none 0 0, .slice none 0 0, rfl, RecRow.nil _ 0, TopsAt.nil _, HF.out.2.2.1, (by simp [Value.ownBlock]), (by simp [Value.ownBlock])⟩
  · as_aux_lemma =>
      have bz : ((n2 : Int) == 0) = true := by simp; omega
      have bz' : ((n2 : Int) != 0) = false := by simp [bne, bz]
      have b1 : ((n0 : Int) == 1) = false := by simp; omega
      have b2 : ((n0 : Int) == 2) = false := by simp; omega
      have b3 : ((n0 : Int) == 3) = false := by simp; omega
      have b4 : ((n0 : Int) == 4) = false := by simp; omega
      have b7 : ((n0 : Int) == 7) = true := by simp; omega
      have hk := hide (show n2 = 0 ∧ ¬ n0 = 1 ∧ ¬ n0 = 2 ∧ ¬ n0 = 3 ∧ ¬ n0 = 4 ∧ n0 = 7 by omega)
      clear hcase
      obtain ⟨c0, f0, y0, g0⟩ := HC3.out.cell 0
      simp only [zAv, List.getElem?_cons_zero, List.getElem?_cons_succ] at c0 y0
      clear y0 g0
      obtain ⟨c2, f2, y2, g2⟩ := HC3.out.cell 2
      simp only [zAv, List.getElem?_cons_zero, List.getElem?_cons_succ] at c2 y2
      clear y2 g2
      go_wp2_with fail
      refine (rlistT_any _ rb B q2 HC3.out.rd hB (by omega)).mono ?_
      rintro e wl ⟨sl, rfl, hrow, hrd, htl⟩
      obtain ⟨L, hL⟩ : ∃ L, L = listP tpP (Bt.num q2).1 (Bt.num q2).2 := ⟨_, rfl⟩
      rw [← hL] at hrow hrd
      have hok := (listP_all (one := tpP) (ok := TpRd) (L := 1000000) (fun l h => tpP_rd h) (fun l h => tpP_lt h) (Bt.num q2).1 (Bt.num q2).2 (by have := num_len q2; omega)).1
      rw [← hL] at hok
      obtain ⟨la, ln, lc, rfl⟩ : ∃ a n c, sl = .slice a n c := by obtain ⟨a, c, e, -⟩ := hrow.form; exact ⟨_, _, _, e⟩
      have HOK := hide hok
      have HLL := hide hL
      have hszl := HC3.out.x
      have hszx := lt_of_heap hszl
      have hszy := lt_of_heap HC3.out.y
      try simp only [World.size_setCell] at hszx hszy
      have HC4 := hide (HC3.out.num hrb htl hrd)
      have HROW := hide hrow
      clear hrow hrd htl hok hL hszl
      clear c0 f0 c2 f2
      obtain ⟨c0, f0, y0, g0⟩ := HC4.out.cell 0
      simp only [zAv, List.getElem?_cons_zero, List.getElem?_cons_succ] at c0 y0
      clear y0 g0
      obtain ⟨c8, f8, y8, g8⟩ := HC4.out.cell 8
      simp only [zAv, List.getElem?_cons_zero, List.getElem?_cons_succ] at c8 y8
      clear y8 g8
      have HC5 := hide (HC4.out.set hrb hB 8 (.slice la ln lc))
      simp only [List.set_cons_zero, List.set_cons_succ] at HC5
      have HE : Hid (ansP l = (⟨(n0 : Int), (n1 : Int), (n2 : Int), 0, 0, 0, false, [], L.1⟩ : Ans)) := by
        show _ = _
        have hk' := hk.out
  
        unfold ansP atailP mkA
        simp [E00.out, E01.out, E02.out, hk', HLL.out]
      go_upto_region 18 with fail
      refine wp_region_lit ?_
      refine wpList_loadT rfl _ _ rfl ⟨X, 0, none⟩ rfl _ (load9 HC5.out.x) ?_
      refine wpList_store_row rfl _ _ _ rfl w.heap.size #[.int .i64 (n0 : Int), .int .i64 (n1 : Int), .int .i64 (n2 : Int), .int .i64 0, .int .i64 0, .int .i64 0, .bool false, .slice none 0 0, .slice la ln lc] rfl rfl _ _ HC5.out.y (by kernel_rfl) rfl (by kernel_rfl) ?_
      have hf := HC5.out.fin2 hrb hB
      have hrow := hide ((HROW.out.kept (S := [X]) ((Turn.refl [X] wl).setCell (.inl (by simp)) (.slice la ln lc)) (fun q hq hm => by have := (HROW.out.lt q hq).1; simp at hm; (try simp at this); omega)).kept hf.2.2.2 (fun q hq hm => by have := (HROW.out.lt q hq).1; simp at hm; (try simp at this); omega))
      have HF := hide hf
      clear hf
      go_simp
      go_wp2
      have hld := load9 HF.out.1
      refine bodyPost_ret (v := .agg #[.int .i64 (n0 : Int), .int .i64 (n1 : Int), .int .i64 (n2 : Int), .int .i64 0, .int .i64 0, .int .i64 0, .bool false, .slice none 0 0, .slice la ln lc]) (by simp [results, Tryd.results59, asAddr, hld, Result.andThen]) rfl ?_
      rw [HE.out]
      exact ⟨.slice none 0 0, .slice la ln lc, rfl, RecRow.nil _ 0, TpRow.tops hrow.out (fun r hr => (HOK.out r hr).ok), HF.out.2.2.1, (by simp [Value.ownBlock]), (fun q hq => by have := (HROW.out.lt q hq).1; (try simp at this); omega)⟩
  · as_aux_lemma =>
      have bz : ((n2 : Int) == 0) = true := by simp; omega
      have bz' : ((n2 : Int) != 0) = false := by simp [bne, bz]
      have b1 : ((n0 : Int) == 1) = false := by simp; omega
      have b2 : ((n0 : Int) == 2) = false := by simp; omega
      have b3 : ((n0 : Int) == 3) = false := by simp; omega
      have b4 : ((n0 : Int) == 4) = false := by simp; omega
      have b7 : ((n0 : Int) == 7) = false := by simp; omega
      have hk := hide (show n2 = 0 ∧ ¬ n0 = 1 ∧ ¬ n0 = 2 ∧ ¬ n0 = 3 ∧ ¬ n0 = 4 ∧ ¬ n0 = 7 by omega)
      clear hcase
      obtain ⟨c0, f0, y0, g0⟩ := HC3.out.cell 0
      simp only [zAv, List.getElem?_cons_zero, List.getElem?_cons_succ] at c0 y0
      clear y0 g0
      obtain ⟨c2, f2, y2, g2⟩ := HC3.out.cell 2
      simp only [zAv, List.getElem?_cons_zero, List.getElem?_cons_succ] at c2 y2
      clear y2 g2
      have HE : Hid (ansP l = (⟨(n0 : Int), (n1 : Int), (n2 : Int), 0, 0, 0, false, [], []⟩ : Ans)) := by
        show _ = _
        have hk' := hk.out
        have hk' : n2 = 0 ∧ ¬ (n0 : Int) = 1 ∧ ¬ (n0 : Int) = 2 ∧ ¬ (n0 : Int) = 3 ∧ ¬ (n0 : Int) = 4 ∧ ¬ (n0 : Int) = 7 := by omega
        unfold ansP atailP mkA
        simp [E00.out, E01.out, E02.out, hk']
      go_upto_region 18 with fail
      refine wp_region_lit ?_
      refine wpList_loadT rfl _ _ rfl ⟨X, 0, none⟩ rfl _ (load9 HC3.out.x) ?_
      refine wpList_store_row rfl _ _ _ rfl w.heap.size #[.int .i64 (n0 : Int), .int .i64 (n1 : Int), .int .i64 (n2 : Int), .int .i64 0, .int .i64 0, .int .i64 0, .bool false, .slice none 0 0, .slice none 0 0] rfl rfl _ _ HC3.out.y (by kernel_rfl) rfl (by kernel_rfl) ?_
      have hf := HC3.out.fin2 hrb hB

      have HF := hide hf
      clear hf
      go_simp
      go_wp2
      have hld := load9 HF.out.1
      refine bodyPost_ret (v := .agg #[.int .i64 (n0 : Int), .int .i64 (n1 : Int), .int .i64 (n2 : Int), .int .i64 0, .int .i64 0, .int .i64 0, .bool false, .slice none 0 0, .slice none 0 0]) (by simp [results, Tryd.results59, asAddr, hld, Result.andThen]) rfl ?_
      rw [HE.out]
      exact ⟨.slice none 0 0, .slice none 0 0, rfl, RecRow.nil _ 0, TopsAt.nil _, HF.out.2.2.1, (by simp [Value.ownBlock]), (by simp [Value.ownBlock])⟩
end Go.Proofs.YtodadoaindfecaaDoor.Wi
