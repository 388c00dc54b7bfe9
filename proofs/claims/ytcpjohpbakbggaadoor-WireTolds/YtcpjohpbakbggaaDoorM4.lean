/- Wiz, Wjg, Wjh, Wjl, Wjm, Fr: texts merged. -/
import Derived.Test.YtcpjohpbakbggaaDoorM3
import Derived.Laws.Tables
import Derived.Test.YtcpjohpbakbggaaDoorM2
/- wire's reader: a request, an answer. -/
namespace Go.Proofs.YtcpjohpbakbggaaDoor.Wi
open Go.RowKit Go.Maps
set_option maxRecDepth 100000
set_option linter.unusedSimpArgs false
set_option linter.unusedVariables false

def zQv : List Value := [.int .i64 0, .int .i64 0, .string ⟨#[]⟩, .int .i64 0, .int .i64 0, .int .i64 0, .int .i64 0, .int .i64 0, .int .i64 0, .int .i64 0, .bool false, .bool false, .slice none 0 0]
def zAv : List Value := [.int .i64 0, .int .i64 0, .int .i64 0, .int .i64 0, .int .i64 0, .int .i64 0, .bool false, .slice none 0 0, .slice none 0 0]
theorem wpList_loadT {P : Program} {ops : Array Oper} {rest : List Oper} {op : Oper} {a : Act} {w : World} {Q : Exit → Act → World → Prop} (hgd : op.guard = none) (ty : TypeId) (x : Operand) (ho : op.op = .load ty x)
    (p : Addr) (hx : a.eval x = .pointer (some p)) (v : Value) (hl : (loadVar ty p).run P w = .ok v w) (h : wpList P ops Q rest (a.put op.dst v) w) : wpList P ops Q (op :: rest) a w :=
  wpList_plain hgd fun _ hK => by
    unfold Oper.wp execOp
    simp only [ho, hx, Instr.loadAt, Instr.sureAddr, Sem.run_bind, Sem.run_pure, Result.andThen_ok, hl]
    exact hK _ _ h
theorem Cn.fin2 {T : TypeId} {w0 w : World} {rb B X Y : Nat} {cs ys : List Value} {l : List UInt8} (h : Cn T w0 w rb B X Y cs ys l) (hrb : rb < w0.heap.size) (hB : B ≤ rb) :
    (w.setRow Y cs.toArray).heap[Y]? = some (.cells cs.toArray T (0, 0)) ∧ RdW (w.setRow Y cs.toArray) rb B l ∧ Turn [rb] w0 (w.setRow Y cs.toArray) ∧ Turn [Y] w (w.setRow Y cs.toArray) := by
  have hy := h.hy
  have ht : Turn [Y] w (w.setRow Y cs.toArray) := ⟨rfl, rfl, rfl, by simp, fun k _ hk => setRow_other w Y k _ (fun e => hk (by simp [e]))⟩
  exact ⟨setRow_heap w Y _ _ _ _ h.y, h.rd.kept ht (by simp; omega) (by simp; omega), h.turn.trans ht (fun k hk => .inr (by simp at hk; omega)), ht⟩
theorem sizeRq (w : World) : (sizeOf 25).run Tryd.prog w = .ok 13 w := by kernel_rfl
theorem aggRq (w : World) : (isAgg 25).run Tryd.prog w = .ok true w := by kernel_rfl
theorem sizeAn (w : World) : (sizeOf 38).run Tryd.prog w = .ok 9 w := by kernel_rfl
theorem aggAn (w : World) : (isAgg 38).run Tryd.prog w = .ok true w := by kernel_rfl
theorem RecRow.nil (w : World) (b : Nat) : RecsAt w (.slice none 0 0) [] := ⟨none, 0, rfl, Nat.le_refl _, Nat.zero_le _, fun _ => rfl, fun j hj => absurd hj (Nat.not_lt_zero _)⟩
theorem TopsAt.nil (w : World) : TopsAt w (.slice none 0 0) [] := ⟨none, 0, rfl, Nat.le_refl _, Nat.zero_le _, fun _ => rfl, fun j hj => absurd hj (Nat.not_lt_zero _)⟩
theorem load13 {w : World} {Y : Nat} {v0 v1 v2 v3 v4 v5 v6 v7 v8 v9 v10 v11 v12 : Value} (h : w.heap[Y]? = some (.cells #[v0, v1, v2, v3, v4, v5, v6, v7, v8, v9, v10, v11, v12] 25 (0, 0))) : (loadVar 25 ⟨Y, 0, none⟩).run Tryd.prog w = .ok (.agg #[v0, v1, v2, v3, v4, v5, v6, v7, v8, v9, v10, v11, v12]) w := by
  have c0 : w.cell? ⟨Y, 0, none⟩ = some v0 := by simpa using cell_of h 0
  have c1 : w.cell? ⟨Y, 1, none⟩ = some v1 := by simpa using cell_of h 1
  have c2 : w.cell? ⟨Y, 2, none⟩ = some v2 := by simpa using cell_of h 2
  have c3 : w.cell? ⟨Y, 3, none⟩ = some v3 := by simpa using cell_of h 3
  have c4 : w.cell? ⟨Y, 4, none⟩ = some v4 := by simpa using cell_of h 4
  have c5 : w.cell? ⟨Y, 5, none⟩ = some v5 := by simpa using cell_of h 5
  have c6 : w.cell? ⟨Y, 6, none⟩ = some v6 := by simpa using cell_of h 6
  have c7 : w.cell? ⟨Y, 7, none⟩ = some v7 := by simpa using cell_of h 7
  have c8 : w.cell? ⟨Y, 8, none⟩ = some v8 := by simpa using cell_of h 8
  have c9 : w.cell? ⟨Y, 9, none⟩ = some v9 := by simpa using cell_of h 9
  have c10 : w.cell? ⟨Y, 10, none⟩ = some v10 := by simpa using cell_of h 10
  have c11 : w.cell? ⟨Y, 11, none⟩ = some v11 := by simpa using cell_of h 11
  have c12 : w.cell? ⟨Y, 12, none⟩ = some v12 := by simpa using cell_of h 12
  simp [loadVar, aggRq, sizeRq, Result.andThen, loadCells, loadCellsFrom, addr_add, c0, c1, c2, c3, c4, c5, c6, c7, c8, c9, c10, c11, c12]
theorem load9 {w : World} {Y : Nat} {v0 v1 v2 v3 v4 v5 v6 v7 v8 : Value} (h : w.heap[Y]? = some (.cells #[v0, v1, v2, v3, v4, v5, v6, v7, v8] 38 (0, 0))) : (loadVar 38 ⟨Y, 0, none⟩).run Tryd.prog w = .ok (.agg #[v0, v1, v2, v3, v4, v5, v6, v7, v8]) w := by
  have c0 : w.cell? ⟨Y, 0, none⟩ = some v0 := by simpa using cell_of h 0
  have c1 : w.cell? ⟨Y, 1, none⟩ = some v1 := by simpa using cell_of h 1
  have c2 : w.cell? ⟨Y, 2, none⟩ = some v2 := by simpa using cell_of h 2
  have c3 : w.cell? ⟨Y, 3, none⟩ = some v3 := by simpa using cell_of h 3
  have c4 : w.cell? ⟨Y, 4, none⟩ = some v4 := by simpa using cell_of h 4
  have c5 : w.cell? ⟨Y, 5, none⟩ = some v5 := by simpa using cell_of h 5
  have c6 : w.cell? ⟨Y, 6, none⟩ = some v6 := by simpa using cell_of h 6
  have c7 : w.cell? ⟨Y, 7, none⟩ = some v7 := by simpa using cell_of h 7
  have c8 : w.cell? ⟨Y, 8, none⟩ = some v8 := by simpa using cell_of h 8
  simp [loadVar, aggAn, sizeAn, Result.andThen, loadCells, loadCellsFrom, addr_add, c0, c1, c2, c3, c4, c5, c6, c7, c8]

set_option maxHeartbeats 16000000 in
theorem rreq_any (w : World) (rb B : Nat) (l : List UInt8) (h : RdW w rb B l) (hB : B ≤ rb) (hl : l.length ≤ 900000) :
    Calls Tryd.prog 19 #[.pointer (some ⟨rb, 0, none⟩)] w fun e w' => ∃ rv, e = .returned (.agg (reqC (reqP l) rv)) ∧ RecsAt w' rv (reqP l).recs ∧ Turn [rb] w w' ∧ (∀ k ∈ rv.ownBlock, w.heap.size ≤ k) := by
  have hrb := h.lt
  obtain ⟨n0, q0, e00⟩ : ∃ n r, Bt.num l = (n, r) := ⟨_, _, rfl⟩
  obtain ⟨n1, q1, e01⟩ : ∃ n r, Bt.num q0 = (n, r) := ⟨_, _, rfl⟩

  have g00 := num_len l
  have g01 := num_len q0

  rw [e00] at g00
  rw [e01] at g01

  simp only at g00 g01
  obtain ⟨wy, hwy⟩ : ∃ wy, wy = w.alloc (.cells zQv.toArray 25) := ⟨_, rfl⟩
  have hty : Turn [] w wy := by rw [hwy]; exact (Turn.refl [] w).alloc _
  have E00 := hide e00
  have E01 := hide e01

  have HWY := hide hwy
  have HRY := hide (h.still hty)
  clear h hwy hty e00 e01
  go_enter Tryd.func19, Tryd.ntmps19
  go_wp2_with fail
  rw [show w.alloc (.cells #[.int .i64 0, .int .i64 0, .string ⟨#[]⟩, .int .i64 0, .int .i64 0, .int .i64 0, .int .i64 0, .int .i64 0, .int .i64 0, .int .i64 0, .bool false, .bool false, .slice none 0 0] 25) = wy from HWY.out.symm]
  refine (wnum_any _ rb B l HRY.out hB (by omega)).mono ?_
  rintro e w1 ⟨rfl, hr1, ht1⟩
  rw [E00.out] at hr1 ⊢
  simp only at hr1 ⊢
  have HR1 := hide hr1
  have HT1 := hide ht1
  clear hr1 ht1
  go_wp2_with fail
  refine (wnum_any _ rb B q0 HR1.out hB (by omega)).mono ?_
  rintro e w2 ⟨rfl, hr2, ht2⟩
  rw [E01.out] at hr2 ⊢
  simp only at hr2 ⊢
  have HR2 := hide hr2
  have HT2 := hide (HT1.out.same ht2)
  clear hr2 ht2

  have hr3 := HR2.out
  have ht3 := HT2.out
  obtain ⟨w3, rfl⟩ : ∃ w3, w3 = w2 := ⟨_, rfl⟩

  have hc3 := Cn.start (cs := [.int .i64 (n0 : Int), .int .i64 (n1 : Int), .string ⟨#[]⟩, .int .i64 0, .int .i64 0, .int .i64 0, .int .i64 0, .int .i64 0, .int .i64 0, .int .i64 0, .bool false, .bool false, .slice none 0 0]) HWY.out ht3 hrb hr3
  obtain ⟨X, hX⟩ : ∃ X, X = w3.heap.size := ⟨_, rfl⟩
  obtain ⟨wx, hwx⟩ : ∃ wx, wx = w3.alloc (.cells #[.int .i64 (n0 : Int), .int .i64 (n1 : Int), .string ⟨#[]⟩, .int .i64 0, .int .i64 0, .int .i64 0, .int .i64 0, .int .i64 0, .int .i64 0, .int .i64 0, .bool false, .bool false, .slice none 0 0] 25) := ⟨_, rfl⟩
  have hc3' : Cn 25 w wx rb B X w.heap.size [.int .i64 (n0 : Int), .int .i64 (n1 : Int), .string ⟨#[]⟩, .int .i64 0, .int .i64 0, .int .i64 0, .int .i64 0, .int .i64 0, .int .i64 0, .int .i64 0, .bool false, .bool false, .slice none 0 0] zQv q1 := by
    rw [hwx, hX]; exact hc3
  have HC3 := hide hc3'
  have HWX := hide hwx
  have HX := hide hX
  clear hc3 hc3' hwx hX hr3 ht3
  have HN : Hid (X < wx.heap.size) := lt_of_heap HC3.out.x
  go_upto_region 2 with fail
  rw [show w3.alloc (.cells #[.int .i64 (n0 : Int), .int .i64 (n1 : Int), .string ⟨#[]⟩, .int .i64 0, .int .i64 0, .int .i64 0, .int .i64 0, .int .i64 0, .int .i64 0, .int .i64 0, .bool false, .bool false, .slice none 0 0] 25) = wx from HWX.out.symm]
  rw [← HX.out]
  have hcase : n0 = 1 ∨ n0 = 2 ∨ n0 = 3 ∨ n0 = 4 ∨ n0 = 5 ∨ n0 = 7 ∨ (¬ n0 = 1 ∧ ¬ n0 = 2 ∧ ¬ n0 = 3 ∧ ¬ n0 = 4 ∧ ¬ n0 = 5 ∧ ¬ n0 = 7) := by omega
  rcases hcase with hcase | hcase | hcase | hcase | hcase | hcase | hcase
  · as_aux_lemma =>
      have b1 : ((n0 : Int) == 1) = true := by simp; omega
      have b2 : ((n0 : Int) == 2) = false := by simp; omega
      have b3 : ((n0 : Int) == 3) = false := by simp; omega
      have b4 : ((n0 : Int) == 4) = false := by simp; omega
      have b5 : ((n0 : Int) == 5) = false := by simp; omega
      have b7 : ((n0 : Int) == 7) = false := by simp; omega
      have b7' : ((n0 : Int) != 7) = true := by simp [bne, b7]
      have hk := hide (show n0 = 1 ∧ ¬ n0 = 2 ∧ ¬ n0 = 3 ∧ ¬ n0 = 4 ∧ ¬ n0 = 5 ∧ ¬ n0 = 7 by omega)
      clear hcase
      obtain ⟨c0, f0, y0, g0⟩ := HC3.out.cell 0
      simp only [zQv, List.getElem?_cons_zero, List.getElem?_cons_succ] at c0 y0
      clear y0 g0
      obtain ⟨tp, r1, e1⟩ : ∃ n r, Bt.text q1 = (n, r) := ⟨_, _, rfl⟩

      have g1 := text_len q1
      rw [e1] at g1
      simp only at g1
      have E1 := hide e1
      clear e1
      go_wp2_with fail
      refine (wtext_any _ rb B q1 HC3.out.rd hB (by omega)).mono ?_
      rintro e wn1 ⟨rfl, hr, ht⟩
      rw [E1.out] at hr ⊢
      simp only [strV] at hr ⊢
      have HC4 := hide (HC3.out.num hrb ht hr)
      clear hr ht
      clear c0 f0
      obtain ⟨c0, f0, y0, g0⟩ := HC4.out.cell 0
      simp only [zQv, List.getElem?_cons_zero, List.getElem?_cons_succ] at c0 y0
      clear y0 g0
      obtain ⟨c2, f2, y2, g2⟩ := HC4.out.cell 2
      simp only [zQv, List.getElem?_cons_zero, List.getElem?_cons_succ] at c2 y2
      clear y2 g2
      have HC5 := hide (HC4.out.set hrb hB 2 (.string ⟨tp.toArray⟩))
      simp only [List.set_cons_zero, List.set_cons_succ] at HC5
      obtain ⟨cz1_0, fz1_0, yz1_0, gz1_0⟩ := HC5.out.cell 0
      simp only [zQv, List.getElem?_cons_zero, List.getElem?_cons_succ] at cz1_0 yz1_0
      clear yz1_0 gz1_0
      obtain ⟨a, r2, e2⟩ : ∃ n r, Bt.num r1 = (n, r) := ⟨_, _, rfl⟩

      have g2 := num_len r1
      rw [e2] at g2
      simp only at g2
      have E2 := hide e2
      clear e2
      go_wp2_with fail
      refine (wnum_any _ rb B r1 HC5.out.rd hB (by omega)).mono ?_
      rintro e wn2 ⟨rfl, hr, ht⟩
      rw [E2.out] at hr ⊢
      simp only [strV] at hr ⊢
      have HC6 := hide (HC5.out.num hrb ht hr)
      clear hr ht
      clear c0 f0 c2 f2 cz1_0 fz1_0
      obtain ⟨c0, f0, y0, g0⟩ := HC6.out.cell 0
      simp only [zQv, List.getElem?_cons_zero, List.getElem?_cons_succ] at c0 y0
      clear y0 g0
      obtain ⟨b, r3, e3⟩ : ∃ n r, Bt.num r2 = (n, r) := ⟨_, _, rfl⟩

      have g3 := num_len r2
      rw [e3] at g3
      simp only at g3
      have E3 := hide e3
      clear e3
      go_wp2_with fail
      refine (wtru_any _ rb B r2 HC6.out.rd hB (by omega)).mono ?_
      rintro e wn3 ⟨rfl, hr, ht⟩
      rw [E3.out] at hr ⊢
      simp only [strV] at hr ⊢
      have HC7 := hide (HC6.out.num hrb ht hr)
      clear hr ht
      clear c0 f0
      obtain ⟨c0, f0, y0, g0⟩ := HC7.out.cell 0
      simp only [zQv, List.getElem?_cons_zero, List.getElem?_cons_succ] at c0 y0
      clear y0 g0
      obtain ⟨c3, f3, y3, g3⟩ := HC7.out.cell 3
      simp only [zQv, List.getElem?_cons_zero, List.getElem?_cons_succ] at c3 y3
      clear y3 g3
      obtain ⟨c10, f10, y10, g10⟩ := HC7.out.cell 10
      simp only [zQv, List.getElem?_cons_zero, List.getElem?_cons_succ] at c10 y10
      clear y10 g10
      have HC8 := hide (HC7.out.set hrb hB 3 (.int .i64 (a : Int)))
      simp only [List.set_cons_zero, List.set_cons_succ] at HC8
      have HC9 := hide (HC8.out.set hrb hB 10 (.bool (decide (b = 1))))
      simp only [List.set_cons_zero, List.set_cons_succ] at HC9
      go_wp2_with fail
      refine (rlistR_any _ rb B r3 HC9.out.rd hB (by omega)).mono ?_
      rintro e wl ⟨sl, rfl, hrow, hrd, htl⟩
      obtain ⟨L, hL⟩ : ∃ L, L = listP recP (Bt.num r3).1 (Bt.num r3).2 := ⟨_, rfl⟩
      rw [← hL] at hrow hrd
      have hok := (listP_all (one := recP) (ok := RecRd) (L := 1000000) (fun l h => recP_rd h) (fun l h => recP_lt h) (Bt.num r3).1 (Bt.num r3).2 (by have := num_len r3; omega)).1
      rw [← hL] at hok
      obtain ⟨la, ln, lc, rfl⟩ := hrow.some_slice
      have HOK := hide hok
      have HLL := hide hL
      have hszl := HC9.out.x
      have hszx := lt_of_heap hszl
      have hszy := lt_of_heap HC9.out.y
      simp only [World.size_setCell] at hszx hszy
      have HC10 := hide (HC9.out.num hrb htl hrd)
      have HROW := hide hrow
      clear hrow hrd htl hok hL hszl
      clear c0 f0 c3 f3 c10 f10
      obtain ⟨c0, f0, y0, g0⟩ := HC10.out.cell 0
      simp only [zQv, List.getElem?_cons_zero, List.getElem?_cons_succ] at c0 y0
      clear y0 g0
      obtain ⟨c12, f12, y12, g12⟩ := HC10.out.cell 12
      simp only [zQv, List.getElem?_cons_zero, List.getElem?_cons_succ] at c12 y12
      clear y12 g12
      have HC11 := hide (HC10.out.set hrb hB 12 (.slice la ln lc))
      simp only [List.set_cons_zero, List.set_cons_succ] at HC11
      have HE : Hid (reqP l = (⟨(n0 : Int), (n1 : Int), tp, (a : Int), 0, 0, 0, 0, 0, 0, decide (b = 1), false, L.1⟩ : Req)) := by
        show _ = _
        have hk' := hk.out
  
        unfold reqP tailP mkQ
        simp [E00.out, E01.out, E1.out, E2.out, E3.out, hk', HLL.out]
      go_upto_region 17 with fail
      refine wp_region_lit ?_
      refine wpList_loadT rfl _ _ rfl ⟨X, 0, none⟩ rfl _ (load13 HC11.out.x) ?_
      refine wpList_store_row rfl _ _ _ rfl w.heap.size #[.int .i64 (n0 : Int), .int .i64 (n1 : Int), .string ⟨tp.toArray⟩, .int .i64 (a : Int), .int .i64 0, .int .i64 0, .int .i64 0, .int .i64 0, .int .i64 0, .int .i64 0, .bool (decide (b = 1)), .bool false, .slice la ln lc] rfl rfl _ _ HC11.out.y (by kernel_rfl) rfl (by kernel_rfl) ?_
      have hf := HC11.out.fin2 hrb hB
      have hrow := hide ((HROW.out.kept (S := [X]) ((Turn.refl [X] wl).setCell (.inl (by simp)) (.slice la ln lc)) (fun q hq hm => by have := (HROW.out.lt q hq).1; simp at hm; (try simp at this); omega)).kept hf.2.2.2 (fun q hq hm => by have := (HROW.out.lt q hq).1; simp at hm; (try simp at this); omega))
      have HF := hide hf
      clear hf
      go_simp
      go_wp2
      have hld := load13 HF.out.1
      refine bodyPost_ret (v := .agg #[.int .i64 (n0 : Int), .int .i64 (n1 : Int), .string ⟨tp.toArray⟩, .int .i64 (a : Int), .int .i64 0, .int .i64 0, .int .i64 0, .int .i64 0, .int .i64 0, .int .i64 0, .bool (decide (b = 1)), .bool false, .slice la ln lc]) (by simp [results, Tryd.results19, asAddr, hld, Result.andThen]) rfl ?_
      rw [HE.out]
      exact ⟨.slice la ln lc, rfl, hrow.out.recs (fun r hr => (HOK.out r hr).ok), HF.out.2.2.1, (fun q hq => by have := (HROW.out.lt q hq).1; (try simp at this); omega)⟩
  · as_aux_lemma =>
      have b1 : ((n0 : Int) == 1) = false := by simp; omega
      have b2 : ((n0 : Int) == 2) = true := by simp; omega
      have b3 : ((n0 : Int) == 3) = false := by simp; omega
      have b4 : ((n0 : Int) == 4) = false := by simp; omega
      have b5 : ((n0 : Int) == 5) = false := by simp; omega
      have b7 : ((n0 : Int) == 7) = false := by simp; omega
      have b7' : ((n0 : Int) != 7) = true := by simp [bne, b7]
      have hk := hide (show ¬ n0 = 1 ∧ n0 = 2 ∧ ¬ n0 = 3 ∧ ¬ n0 = 4 ∧ ¬ n0 = 5 ∧ ¬ n0 = 7 by omega)
      clear hcase
      obtain ⟨c0, f0, y0, g0⟩ := HC3.out.cell 0
      simp only [zQv, List.getElem?_cons_zero, List.getElem?_cons_succ] at c0 y0
      clear y0 g0
      obtain ⟨tp, r1, e1⟩ : ∃ n r, Bt.text q1 = (n, r) := ⟨_, _, rfl⟩

      have g1 := text_len q1
      rw [e1] at g1
      simp only at g1
      have E1 := hide e1
      clear e1
      go_wp2_with fail
      refine (wtext_any _ rb B q1 HC3.out.rd hB (by omega)).mono ?_
      rintro e wn1 ⟨rfl, hr, ht⟩
      rw [E1.out] at hr ⊢
      simp only [strV] at hr ⊢
      have HC4 := hide (HC3.out.num hrb ht hr)
      clear hr ht
      clear c0 f0
      obtain ⟨c0, f0, y0, g0⟩ := HC4.out.cell 0
      simp only [zQv, List.getElem?_cons_zero, List.getElem?_cons_succ] at c0 y0
      clear y0 g0
      obtain ⟨c2, f2, y2, g2⟩ := HC4.out.cell 2
      simp only [zQv, List.getElem?_cons_zero, List.getElem?_cons_succ] at c2 y2
      clear y2 g2
      have HC5 := hide (HC4.out.set hrb hB 2 (.string ⟨tp.toArray⟩))
      simp only [List.set_cons_zero, List.set_cons_succ] at HC5
      obtain ⟨cz1_0, fz1_0, yz1_0, gz1_0⟩ := HC5.out.cell 0
      simp only [zQv, List.getElem?_cons_zero, List.getElem?_cons_succ] at cz1_0 yz1_0
      clear yz1_0 gz1_0
      obtain ⟨a, r2, e2⟩ : ∃ n r, Bt.num r1 = (n, r) := ⟨_, _, rfl⟩

      have g2 := num_len r1
      rw [e2] at g2
      simp only at g2
      have E2 := hide e2
      clear e2
      go_wp2_with fail
      refine (wnum_any _ rb B r1 HC5.out.rd hB (by omega)).mono ?_
      rintro e wn2 ⟨rfl, hr, ht⟩
      rw [E2.out] at hr ⊢
      simp only [strV] at hr ⊢
      have HC6 := hide (HC5.out.num hrb ht hr)
      clear hr ht
      clear c0 f0 c2 f2 cz1_0 fz1_0
      obtain ⟨c0, f0, y0, g0⟩ := HC6.out.cell 0
      simp only [zQv, List.getElem?_cons_zero, List.getElem?_cons_succ] at c0 y0
      clear y0 g0
      obtain ⟨b, r3, e3⟩ : ∃ n r, Bt.num r2 = (n, r) := ⟨_, _, rfl⟩

      have g3 := num_len r2
      rw [e3] at g3
      simp only at g3
      have E3 := hide e3
      clear e3
      go_wp2_with fail
      refine (wnum_any _ rb B r2 HC6.out.rd hB (by omega)).mono ?_
      rintro e wn3 ⟨rfl, hr, ht⟩
      rw [E3.out] at hr ⊢
      simp only [strV] at hr ⊢
      have HC7 := hide (HC6.out.num hrb ht hr)
      clear hr ht
      clear c0 f0
      obtain ⟨c0, f0, y0, g0⟩ := HC7.out.cell 0
      simp only [zQv, List.getElem?_cons_zero, List.getElem?_cons_succ] at c0 y0
      clear y0 g0
      obtain ⟨c3, f3, y3, g3⟩ := HC7.out.cell 3
      simp only [zQv, List.getElem?_cons_zero, List.getElem?_cons_succ] at c3 y3
      clear y3 g3
      obtain ⟨c4, f4, y4, g4⟩ := HC7.out.cell 4
      simp only [zQv, List.getElem?_cons_zero, List.getElem?_cons_succ] at c4 y4
      clear y4 g4
      have HC8 := hide (HC7.out.set hrb hB 3 (.int .i64 (a : Int)))
      simp only [List.set_cons_zero, List.set_cons_succ] at HC8
      have HC9 := hide (HC8.out.set hrb hB 4 (.int .i64 (b : Int)))
      simp only [List.set_cons_zero, List.set_cons_succ] at HC9
      obtain ⟨cz2_0, fz2_0, yz2_0, gz2_0⟩ := HC9.out.cell 0
      simp only [zQv, List.getElem?_cons_zero, List.getElem?_cons_succ] at cz2_0 yz2_0
      clear yz2_0 gz2_0
      obtain ⟨c, r4, e4⟩ : ∃ n r, Bt.num r3 = (n, r) := ⟨_, _, rfl⟩

      have g4 := num_len r3
      rw [e4] at g4
      simp only at g4
      have E4 := hide e4
      clear e4
      go_wp2_with fail
      refine (wnum_any _ rb B r3 HC9.out.rd hB (by omega)).mono ?_
      rintro e wn4 ⟨rfl, hr, ht⟩
      rw [E4.out] at hr ⊢
      simp only [strV] at hr ⊢
      have HC10 := hide (HC9.out.num hrb ht hr)
      clear hr ht
      clear c0 f0 c3 f3 c4 f4 cz2_0 fz2_0
      obtain ⟨c0, f0, y0, g0⟩ := HC10.out.cell 0
      simp only [zQv, List.getElem?_cons_zero, List.getElem?_cons_succ] at c0 y0
      clear y0 g0
      obtain ⟨d, r5, e5⟩ : ∃ n r, Bt.num r4 = (n, r) := ⟨_, _, rfl⟩

      have g5 := num_len r4
      rw [e5] at g5
      simp only at g5
      have E5 := hide e5
      clear e5
      go_wp2_with fail
      refine (wnum_any _ rb B r4 HC10.out.rd hB (by omega)).mono ?_
      rintro e wn5 ⟨rfl, hr, ht⟩
      rw [E5.out] at hr ⊢
      simp only [strV] at hr ⊢
      have HC11 := hide (HC10.out.num hrb ht hr)
      clear hr ht
      clear c0 f0
      obtain ⟨c0, f0, y0, g0⟩ := HC11.out.cell 0
      simp only [zQv, List.getElem?_cons_zero, List.getElem?_cons_succ] at c0 y0
      clear y0 g0
      obtain ⟨e', r6, e6⟩ : ∃ n r, Bt.num r5 = (n, r) := ⟨_, _, rfl⟩

      have g6 := num_len r5
      rw [e6] at g6
      simp only at g6
      have E6 := hide e6
      clear e6
      go_wp2_with fail
      refine (wnum_any _ rb B r5 HC11.out.rd hB (by omega)).mono ?_
      rintro e wn6 ⟨rfl, hr, ht⟩
      rw [E6.out] at hr ⊢
      simp only [strV] at hr ⊢
      have HC12 := hide (HC11.out.num hrb ht hr)
      clear hr ht
      clear c0 f0
      obtain ⟨c0, f0, y0, g0⟩ := HC12.out.cell 0
      simp only [zQv, List.getElem?_cons_zero, List.getElem?_cons_succ] at c0 y0
      clear y0 g0
      obtain ⟨c5, f5, y5, g5⟩ := HC12.out.cell 5
      simp only [zQv, List.getElem?_cons_zero, List.getElem?_cons_succ] at c5 y5
      clear y5 g5
      obtain ⟨c6, f6, y6, g6⟩ := HC12.out.cell 6
      simp only [zQv, List.getElem?_cons_zero, List.getElem?_cons_succ] at c6 y6
      clear y6 g6
      obtain ⟨c7, f7, y7, g7⟩ := HC12.out.cell 7
      simp only [zQv, List.getElem?_cons_zero, List.getElem?_cons_succ] at c7 y7
      clear y7 g7
      have HC13 := hide (HC12.out.set hrb hB 5 (.int .i64 (c : Int)))
      simp only [List.set_cons_zero, List.set_cons_succ] at HC13
      have HC14 := hide (HC13.out.set hrb hB 6 (.int .i64 (d : Int)))
      simp only [List.set_cons_zero, List.set_cons_succ] at HC14
      have HC15 := hide (HC14.out.set hrb hB 7 (.int .i64 (e' : Int)))
      simp only [List.set_cons_zero, List.set_cons_succ] at HC15
      have HE : Hid (reqP l = (⟨(n0 : Int), (n1 : Int), tp, (a : Int), (b : Int), (c : Int), (d : Int), (e' : Int), 0, 0, false, false, []⟩ : Req)) := by
        show _ = _
        have hk' := hk.out
  
        unfold reqP tailP mkQ
        simp [E00.out, E01.out, E1.out, E2.out, E3.out, E4.out, E5.out, E6.out, hk']
      go_upto_region 17 with fail
      refine wp_region_lit ?_
      refine wpList_loadT rfl _ _ rfl ⟨X, 0, none⟩ rfl _ (load13 HC15.out.x) ?_
      refine wpList_store_row rfl _ _ _ rfl w.heap.size #[.int .i64 (n0 : Int), .int .i64 (n1 : Int), .string ⟨tp.toArray⟩, .int .i64 (a : Int), .int .i64 (b : Int), .int .i64 (c : Int), .int .i64 (d : Int), .int .i64 (e' : Int), .int .i64 0, .int .i64 0, .bool false, .bool false, .slice none 0 0] rfl rfl _ _ HC15.out.y (by kernel_rfl) rfl (by kernel_rfl) ?_
      have hf := HC15.out.fin2 hrb hB

      have HF := hide hf
      clear hf
      go_simp
      go_wp2
      have hld := load13 HF.out.1
      refine bodyPost_ret (v := .agg #[.int .i64 (n0 : Int), .int .i64 (n1 : Int), .string ⟨tp.toArray⟩, .int .i64 (a : Int), .int .i64 (b : Int), .int .i64 (c : Int), .int .i64 (d : Int), .int .i64 (e' : Int), .int .i64 0, .int .i64 0, .bool false, .bool false, .slice none 0 0]) (by simp [results, Tryd.results19, asAddr, hld, Result.andThen]) rfl ?_
      rw [HE.out]
      exact ⟨.slice none 0 0, rfl, RecRow.nil _ 0, HF.out.2.2.1, (by simp [Value.ownBlock])⟩
  · as_aux_lemma =>
      have b1 : ((n0 : Int) == 1) = false := by simp; omega
      have b2 : ((n0 : Int) == 2) = false := by simp; omega
      have b3 : ((n0 : Int) == 3) = true := by simp; omega
      have b4 : ((n0 : Int) == 4) = false := by simp; omega
      have b5 : ((n0 : Int) == 5) = false := by simp; omega
      have b7 : ((n0 : Int) == 7) = false := by simp; omega
      have b7' : ((n0 : Int) != 7) = true := by simp [bne, b7]
      have hk := hide (show ¬ n0 = 1 ∧ ¬ n0 = 2 ∧ n0 = 3 ∧ ¬ n0 = 4 ∧ ¬ n0 = 5 ∧ ¬ n0 = 7 by omega)
      clear hcase
      obtain ⟨c0, f0, y0, g0⟩ := HC3.out.cell 0
      simp only [zQv, List.getElem?_cons_zero, List.getElem?_cons_succ] at c0 y0
      clear y0 g0
      obtain ⟨tp, r1, e1⟩ : ∃ n r, Bt.text q1 = (n, r) := ⟨_, _, rfl⟩

      have g1 := text_len q1
      rw [e1] at g1
      simp only at g1
      have E1 := hide e1
      clear e1
      go_wp2_with fail
      refine (wtext_any _ rb B q1 HC3.out.rd hB (by omega)).mono ?_
      rintro e wn1 ⟨rfl, hr, ht⟩
      rw [E1.out] at hr ⊢
      simp only [strV] at hr ⊢
      have HC4 := hide (HC3.out.num hrb ht hr)
      clear hr ht
      clear c0 f0
      obtain ⟨c0, f0, y0, g0⟩ := HC4.out.cell 0
      simp only [zQv, List.getElem?_cons_zero, List.getElem?_cons_succ] at c0 y0
      clear y0 g0
      obtain ⟨c2, f2, y2, g2⟩ := HC4.out.cell 2
      simp only [zQv, List.getElem?_cons_zero, List.getElem?_cons_succ] at c2 y2
      clear y2 g2
      have HC5 := hide (HC4.out.set hrb hB 2 (.string ⟨tp.toArray⟩))
      simp only [List.set_cons_zero, List.set_cons_succ] at HC5
      obtain ⟨cz1_0, fz1_0, yz1_0, gz1_0⟩ := HC5.out.cell 0
      simp only [zQv, List.getElem?_cons_zero, List.getElem?_cons_succ] at cz1_0 yz1_0
      clear yz1_0 gz1_0
      obtain ⟨a, r2, e2⟩ : ∃ n r, Bt.num r1 = (n, r) := ⟨_, _, rfl⟩

      have g2 := num_len r1
      rw [e2] at g2
      simp only at g2
      have E2 := hide e2
      clear e2
      go_wp2_with fail
      refine (wnum_any _ rb B r1 HC5.out.rd hB (by omega)).mono ?_
      rintro e wn2 ⟨rfl, hr, ht⟩
      rw [E2.out] at hr ⊢
      simp only [strV] at hr ⊢
      have HC6 := hide (HC5.out.num hrb ht hr)
      clear hr ht
      clear c0 f0 c2 f2 cz1_0 fz1_0
      obtain ⟨c0, f0, y0, g0⟩ := HC6.out.cell 0
      simp only [zQv, List.getElem?_cons_zero, List.getElem?_cons_succ] at c0 y0
      clear y0 g0
      obtain ⟨b, r3, e3⟩ : ∃ n r, Bt.num r2 = (n, r) := ⟨_, _, rfl⟩

      have g3 := num_len r2
      rw [e3] at g3
      simp only at g3
      have E3 := hide e3
      clear e3
      go_wp2_with fail
      refine (wnum_any _ rb B r2 HC6.out.rd hB (by omega)).mono ?_
      rintro e wn3 ⟨rfl, hr, ht⟩
      rw [E3.out] at hr ⊢
      simp only [strV] at hr ⊢
      have HC7 := hide (HC6.out.num hrb ht hr)
      clear hr ht
      clear c0 f0
      obtain ⟨c0, f0, y0, g0⟩ := HC7.out.cell 0
      simp only [zQv, List.getElem?_cons_zero, List.getElem?_cons_succ] at c0 y0
      clear y0 g0
      obtain ⟨c3, f3, y3, g3⟩ := HC7.out.cell 3
      simp only [zQv, List.getElem?_cons_zero, List.getElem?_cons_succ] at c3 y3
      clear y3 g3
      obtain ⟨c8, f8, y8, g8⟩ := HC7.out.cell 8
      simp only [zQv, List.getElem?_cons_zero, List.getElem?_cons_succ] at c8 y8
      clear y8 g8
      have HC8 := hide (HC7.out.set hrb hB 3 (.int .i64 (a : Int)))
      simp only [List.set_cons_zero, List.set_cons_succ] at HC8
      have HC9 := hide (HC8.out.set hrb hB 8 (.int .i64 (b : Int)))
      simp only [List.set_cons_zero, List.set_cons_succ] at HC9
      have HE : Hid (reqP l = (⟨(n0 : Int), (n1 : Int), tp, (a : Int), 0, 0, 0, 0, (b : Int), 0, false, false, []⟩ : Req)) := by
        show _ = _
        have hk' := hk.out
  
        unfold reqP tailP mkQ
        simp [E00.out, E01.out, E1.out, E2.out, E3.out, hk']
      go_upto_region 17 with fail
      refine wp_region_lit ?_
      refine wpList_loadT rfl _ _ rfl ⟨X, 0, none⟩ rfl _ (load13 HC9.out.x) ?_
      refine wpList_store_row rfl _ _ _ rfl w.heap.size #[.int .i64 (n0 : Int), .int .i64 (n1 : Int), .string ⟨tp.toArray⟩, .int .i64 (a : Int), .int .i64 0, .int .i64 0, .int .i64 0, .int .i64 0, .int .i64 (b : Int), .int .i64 0, .bool false, .bool false, .slice none 0 0] rfl rfl _ _ HC9.out.y (by kernel_rfl) rfl (by kernel_rfl) ?_
      have hf := HC9.out.fin2 hrb hB

      have HF := hide hf
      clear hf
      go_simp
      go_wp2
      have hld := load13 HF.out.1
      refine bodyPost_ret (v := .agg #[.int .i64 (n0 : Int), .int .i64 (n1 : Int), .string ⟨tp.toArray⟩, .int .i64 (a : Int), .int .i64 0, .int .i64 0, .int .i64 0, .int .i64 0, .int .i64 (b : Int), .int .i64 0, .bool false, .bool false, .slice none 0 0]) (by simp [results, Tryd.results19, asAddr, hld, Result.andThen]) rfl ?_
      rw [HE.out]
      exact ⟨.slice none 0 0, rfl, RecRow.nil _ 0, HF.out.2.2.1, (by simp [Value.ownBlock])⟩
  · as_aux_lemma =>
      have b1 : ((n0 : Int) == 1) = false := by simp; omega
      have b2 : ((n0 : Int) == 2) = false := by simp; omega
      have b3 : ((n0 : Int) == 3) = false := by simp; omega
      have b4 : ((n0 : Int) == 4) = true := by simp; omega
      have b5 : ((n0 : Int) == 5) = false := by simp; omega
      have b7 : ((n0 : Int) == 7) = false := by simp; omega
      have b7' : ((n0 : Int) != 7) = true := by simp [bne, b7]
      have hk := hide (show ¬ n0 = 1 ∧ ¬ n0 = 2 ∧ ¬ n0 = 3 ∧ n0 = 4 ∧ ¬ n0 = 5 ∧ ¬ n0 = 7 by omega)
      clear hcase
      obtain ⟨c0, f0, y0, g0⟩ := HC3.out.cell 0
      simp only [zQv, List.getElem?_cons_zero, List.getElem?_cons_succ] at c0 y0
      clear y0 g0
      obtain ⟨tp, r1, e1⟩ : ∃ n r, Bt.text q1 = (n, r) := ⟨_, _, rfl⟩

      have g1 := text_len q1
      rw [e1] at g1
      simp only at g1
      have E1 := hide e1
      clear e1
      go_wp2_with fail
      refine (wtext_any _ rb B q1 HC3.out.rd hB (by omega)).mono ?_
      rintro e wn1 ⟨rfl, hr, ht⟩
      rw [E1.out] at hr ⊢
      simp only [strV] at hr ⊢
      have HC4 := hide (HC3.out.num hrb ht hr)
      clear hr ht
      clear c0 f0
      obtain ⟨c0, f0, y0, g0⟩ := HC4.out.cell 0
      simp only [zQv, List.getElem?_cons_zero, List.getElem?_cons_succ] at c0 y0
      clear y0 g0
      obtain ⟨c2, f2, y2, g2⟩ := HC4.out.cell 2
      simp only [zQv, List.getElem?_cons_zero, List.getElem?_cons_succ] at c2 y2
      clear y2 g2
      have HC5 := hide (HC4.out.set hrb hB 2 (.string ⟨tp.toArray⟩))
      simp only [List.set_cons_zero, List.set_cons_succ] at HC5
      obtain ⟨cz1_0, fz1_0, yz1_0, gz1_0⟩ := HC5.out.cell 0
      simp only [zQv, List.getElem?_cons_zero, List.getElem?_cons_succ] at cz1_0 yz1_0
      clear yz1_0 gz1_0
      obtain ⟨a, r2, e2⟩ : ∃ n r, Bt.num r1 = (n, r) := ⟨_, _, rfl⟩

      have g2 := num_len r1
      rw [e2] at g2
      simp only at g2
      have E2 := hide e2
      clear e2
      go_wp2_with fail
      refine (wnum_any _ rb B r1 HC5.out.rd hB (by omega)).mono ?_
      rintro e wn2 ⟨rfl, hr, ht⟩
      rw [E2.out] at hr ⊢
      simp only [strV] at hr ⊢
      have HC6 := hide (HC5.out.num hrb ht hr)
      clear hr ht
      clear c0 f0 c2 f2 cz1_0 fz1_0
      obtain ⟨c0, f0, y0, g0⟩ := HC6.out.cell 0
      simp only [zQv, List.getElem?_cons_zero, List.getElem?_cons_succ] at c0 y0
      clear y0 g0
      obtain ⟨b, r3, e3⟩ : ∃ n r, Bt.num r2 = (n, r) := ⟨_, _, rfl⟩

      have g3 := num_len r2
      rw [e3] at g3
      simp only at g3
      have E3 := hide e3
      clear e3
      go_wp2_with fail
      refine (wnum_any _ rb B r2 HC6.out.rd hB (by omega)).mono ?_
      rintro e wn3 ⟨rfl, hr, ht⟩
      rw [E3.out] at hr ⊢
      simp only [strV] at hr ⊢
      have HC7 := hide (HC6.out.num hrb ht hr)
      clear hr ht
      clear c0 f0
      obtain ⟨c0, f0, y0, g0⟩ := HC7.out.cell 0
      simp only [zQv, List.getElem?_cons_zero, List.getElem?_cons_succ] at c0 y0
      clear y0 g0
      obtain ⟨c3, f3, y3, g3⟩ := HC7.out.cell 3
      simp only [zQv, List.getElem?_cons_zero, List.getElem?_cons_succ] at c3 y3
      clear y3 g3
      obtain ⟨c4, f4, y4, g4⟩ := HC7.out.cell 4
      simp only [zQv, List.getElem?_cons_zero, List.getElem?_cons_succ] at c4 y4
      clear y4 g4
      have HC8 := hide (HC7.out.set hrb hB 3 (.int .i64 (a : Int)))
      simp only [List.set_cons_zero, List.set_cons_succ] at HC8
      have HC9 := hide (HC8.out.set hrb hB 4 (.int .i64 (b : Int)))
      simp only [List.set_cons_zero, List.set_cons_succ] at HC9
      have HE : Hid (reqP l = (⟨(n0 : Int), (n1 : Int), tp, (a : Int), (b : Int), 0, 0, 0, 0, 0, false, false, []⟩ : Req)) := by
        show _ = _
        have hk' := hk.out
  
        unfold reqP tailP mkQ
        simp [E00.out, E01.out, E1.out, E2.out, E3.out, hk']
      go_upto_region 17 with fail
      refine wp_region_lit ?_
      refine wpList_loadT rfl _ _ rfl ⟨X, 0, none⟩ rfl _ (load13 HC9.out.x) ?_
      refine wpList_store_row rfl _ _ _ rfl w.heap.size #[.int .i64 (n0 : Int), .int .i64 (n1 : Int), .string ⟨tp.toArray⟩, .int .i64 (a : Int), .int .i64 (b : Int), .int .i64 0, .int .i64 0, .int .i64 0, .int .i64 0, .int .i64 0, .bool false, .bool false, .slice none 0 0] rfl rfl _ _ HC9.out.y (by kernel_rfl) rfl (by kernel_rfl) ?_
      have hf := HC9.out.fin2 hrb hB

      have HF := hide hf
      clear hf
      go_simp
      go_wp2
      have hld := load13 HF.out.1
      refine bodyPost_ret (v := .agg #[.int .i64 (n0 : Int), .int .i64 (n1 : Int), .string ⟨tp.toArray⟩, .int .i64 (a : Int), .int .i64 (b : Int), .int .i64 0, .int .i64 0, .int .i64 0, .int .i64 0, .int .i64 0, .bool false, .bool false, .slice none 0 0]) (by simp [results, Tryd.results19, asAddr, hld, Result.andThen]) rfl ?_
      rw [HE.out]
      exact ⟨.slice none 0 0, rfl, RecRow.nil _ 0, HF.out.2.2.1, (by simp [Value.ownBlock])⟩
  · as_aux_lemma =>
      have b1 : ((n0 : Int) == 1) = false := by simp; omega
      have b2 : ((n0 : Int) == 2) = false := by simp; omega
      have b3 : ((n0 : Int) == 3) = false := by simp; omega
      have b4 : ((n0 : Int) == 4) = false := by simp; omega
      have b5 : ((n0 : Int) == 5) = true := by simp; omega
      have b7 : ((n0 : Int) == 7) = false := by simp; omega
      have b7' : ((n0 : Int) != 7) = true := by simp [bne, b7]
      have hk := hide (show ¬ n0 = 1 ∧ ¬ n0 = 2 ∧ ¬ n0 = 3 ∧ ¬ n0 = 4 ∧ n0 = 5 ∧ ¬ n0 = 7 by omega)
      clear hcase
      obtain ⟨c0, f0, y0, g0⟩ := HC3.out.cell 0
      simp only [zQv, List.getElem?_cons_zero, List.getElem?_cons_succ] at c0 y0
      clear y0 g0
      obtain ⟨tp, r1, e1⟩ : ∃ n r, Bt.text q1 = (n, r) := ⟨_, _, rfl⟩

      have g1 := text_len q1
      rw [e1] at g1
      simp only at g1
      have E1 := hide e1
      clear e1
      go_wp2_with fail
      refine (wtext_any _ rb B q1 HC3.out.rd hB (by omega)).mono ?_
      rintro e wn1 ⟨rfl, hr, ht⟩
      rw [E1.out] at hr ⊢
      simp only [strV] at hr ⊢
      have HC4 := hide (HC3.out.num hrb ht hr)
      clear hr ht
      clear c0 f0
      obtain ⟨c0, f0, y0, g0⟩ := HC4.out.cell 0
      simp only [zQv, List.getElem?_cons_zero, List.getElem?_cons_succ] at c0 y0
      clear y0 g0
      obtain ⟨c2, f2, y2, g2⟩ := HC4.out.cell 2
      simp only [zQv, List.getElem?_cons_zero, List.getElem?_cons_succ] at c2 y2
      clear y2 g2
      have HC5 := hide (HC4.out.set hrb hB 2 (.string ⟨tp.toArray⟩))
      simp only [List.set_cons_zero, List.set_cons_succ] at HC5
      obtain ⟨cz1_0, fz1_0, yz1_0, gz1_0⟩ := HC5.out.cell 0
      simp only [zQv, List.getElem?_cons_zero, List.getElem?_cons_succ] at cz1_0 yz1_0
      clear yz1_0 gz1_0
      obtain ⟨a, r2, e2⟩ : ∃ n r, Bt.num r1 = (n, r) := ⟨_, _, rfl⟩

      have g2 := num_len r1
      rw [e2] at g2
      simp only at g2
      have E2 := hide e2
      clear e2
      go_wp2_with fail
      refine (wnum_any _ rb B r1 HC5.out.rd hB (by omega)).mono ?_
      rintro e wn2 ⟨rfl, hr, ht⟩
      rw [E2.out] at hr ⊢
      simp only [strV] at hr ⊢
      have HC6 := hide (HC5.out.num hrb ht hr)
      clear hr ht
      clear c0 f0 c2 f2 cz1_0 fz1_0
      obtain ⟨c0, f0, y0, g0⟩ := HC6.out.cell 0
      simp only [zQv, List.getElem?_cons_zero, List.getElem?_cons_succ] at c0 y0
      clear y0 g0
      obtain ⟨b, r3, e3⟩ : ∃ n r, Bt.num r2 = (n, r) := ⟨_, _, rfl⟩

      have g3 := num_len r2
      rw [e3] at g3
      simp only at g3
      have E3 := hide e3
      clear e3
      go_wp2_with fail
      refine (wtru_any _ rb B r2 HC6.out.rd hB (by omega)).mono ?_
      rintro e wn3 ⟨rfl, hr, ht⟩
      rw [E3.out] at hr ⊢
      simp only [strV] at hr ⊢
      have HC7 := hide (HC6.out.num hrb ht hr)
      clear hr ht
      clear c0 f0
      obtain ⟨c0, f0, y0, g0⟩ := HC7.out.cell 0
      simp only [zQv, List.getElem?_cons_zero, List.getElem?_cons_succ] at c0 y0
      clear y0 g0
      obtain ⟨c9, f9, y9, g9⟩ := HC7.out.cell 9
      simp only [zQv, List.getElem?_cons_zero, List.getElem?_cons_succ] at c9 y9
      clear y9 g9
      obtain ⟨c11, f11, y11, g11⟩ := HC7.out.cell 11
      simp only [zQv, List.getElem?_cons_zero, List.getElem?_cons_succ] at c11 y11
      clear y11 g11
      have HC8 := hide (HC7.out.set hrb hB 9 (.int .i64 (a : Int)))
      simp only [List.set_cons_zero, List.set_cons_succ] at HC8
      have HC9 := hide (HC8.out.set hrb hB 11 (.bool (decide (b = 1))))
      simp only [List.set_cons_zero, List.set_cons_succ] at HC9
      have HE : Hid (reqP l = (⟨(n0 : Int), (n1 : Int), tp, 0, 0, 0, 0, 0, 0, (a : Int), false, decide (b = 1), []⟩ : Req)) := by
        show _ = _
        have hk' := hk.out
  
        unfold reqP tailP mkQ
        simp [E00.out, E01.out, E1.out, E2.out, E3.out, hk']
      go_upto_region 17 with fail
      refine wp_region_lit ?_
      refine wpList_loadT rfl _ _ rfl ⟨X, 0, none⟩ rfl _ (load13 HC9.out.x) ?_
      refine wpList_store_row rfl _ _ _ rfl w.heap.size #[.int .i64 (n0 : Int), .int .i64 (n1 : Int), .string ⟨tp.toArray⟩, .int .i64 0, .int .i64 0, .int .i64 0, .int .i64 0, .int .i64 0, .int .i64 0, .int .i64 (a : Int), .bool false, .bool (decide (b = 1)), .slice none 0 0] rfl rfl _ _ HC9.out.y (by kernel_rfl) rfl (by kernel_rfl) ?_
      have hf := HC9.out.fin2 hrb hB

      have HF := hide hf
      clear hf
      go_simp
      go_wp2
      have hld := load13 HF.out.1
      refine bodyPost_ret (v := .agg #[.int .i64 (n0 : Int), .int .i64 (n1 : Int), .string ⟨tp.toArray⟩, .int .i64 0, .int .i64 0, .int .i64 0, .int .i64 0, .int .i64 0, .int .i64 0, .int .i64 (a : Int), .bool false, .bool (decide (b = 1)), .slice none 0 0]) (by simp [results, Tryd.results19, asAddr, hld, Result.andThen]) rfl ?_
      rw [HE.out]
      exact ⟨.slice none 0 0, rfl, RecRow.nil _ 0, HF.out.2.2.1, (by simp [Value.ownBlock])⟩
  · as_aux_lemma =>
      have b1 : ((n0 : Int) == 1) = false := by simp; omega
      have b2 : ((n0 : Int) == 2) = false := by simp; omega
      have b3 : ((n0 : Int) == 3) = false := by simp; omega
      have b4 : ((n0 : Int) == 4) = false := by simp; omega
      have b5 : ((n0 : Int) == 5) = false := by simp; omega
      have b7 : ((n0 : Int) == 7) = true := by simp; omega
      have b7' : ((n0 : Int) != 7) = false := by simp [bne, b7]
      have hk := hide (show ¬ n0 = 1 ∧ ¬ n0 = 2 ∧ ¬ n0 = 3 ∧ ¬ n0 = 4 ∧ ¬ n0 = 5 ∧ n0 = 7 by omega)
      clear hcase
      obtain ⟨c0, f0, y0, g0⟩ := HC3.out.cell 0
      simp only [zQv, List.getElem?_cons_zero, List.getElem?_cons_succ] at c0 y0
      clear y0 g0
      have HE : Hid (reqP l = (⟨(n0 : Int), (n1 : Int), [], 0, 0, 0, 0, 0, 0, 0, false, false, []⟩ : Req)) := by
        show _ = _
        have hk' := hk.out
  
        unfold reqP tailP mkQ
        simp [E00.out, E01.out, hk']
      go_upto_region 17 with fail
      refine wp_region_lit ?_
      refine wpList_loadT rfl _ _ rfl ⟨X, 0, none⟩ rfl _ (load13 HC3.out.x) ?_
      refine wpList_store_row rfl _ _ _ rfl w.heap.size #[.int .i64 (n0 : Int), .int .i64 (n1 : Int), .string ⟨#[]⟩, .int .i64 0, .int .i64 0, .int .i64 0, .int .i64 0, .int .i64 0, .int .i64 0, .int .i64 0, .bool false, .bool false, .slice none 0 0] rfl rfl _ _ HC3.out.y (by kernel_rfl) rfl (by kernel_rfl) ?_
      have hf := HC3.out.fin2 hrb hB

      have HF := hide hf
      clear hf
      go_simp
      go_wp2
      have hld := load13 HF.out.1
      refine bodyPost_ret (v := .agg #[.int .i64 (n0 : Int), .int .i64 (n1 : Int), .string ⟨#[]⟩, .int .i64 0, .int .i64 0, .int .i64 0, .int .i64 0, .int .i64 0, .int .i64 0, .int .i64 0, .bool false, .bool false, .slice none 0 0]) (by simp [results, Tryd.results19, asAddr, hld, Result.andThen]) rfl ?_
      rw [HE.out]
      exact ⟨.slice none 0 0, rfl, RecRow.nil _ 0, HF.out.2.2.1, (by simp [Value.ownBlock])⟩
  · as_aux_lemma =>
      have b1 : ((n0 : Int) == 1) = false := by simp; omega
      have b2 : ((n0 : Int) == 2) = false := by simp; omega
      have b3 : ((n0 : Int) == 3) = false := by simp; omega
      have b4 : ((n0 : Int) == 4) = false := by simp; omega
      have b5 : ((n0 : Int) == 5) = false := by simp; omega
      have b7 : ((n0 : Int) == 7) = false := by simp; omega
      have b7' : ((n0 : Int) != 7) = true := by simp [bne, b7]
      have hk := hide (show ¬ n0 = 1 ∧ ¬ n0 = 2 ∧ ¬ n0 = 3 ∧ ¬ n0 = 4 ∧ ¬ n0 = 5 ∧ ¬ n0 = 7 by omega)
      clear hcase
      obtain ⟨c0, f0, y0, g0⟩ := HC3.out.cell 0
      simp only [zQv, List.getElem?_cons_zero, List.getElem?_cons_succ] at c0 y0
      clear y0 g0
      obtain ⟨tp, r1, e1⟩ : ∃ n r, Bt.text q1 = (n, r) := ⟨_, _, rfl⟩

      have g1 := text_len q1
      rw [e1] at g1
      simp only at g1
      have E1 := hide e1
      clear e1
      go_wp2_with fail
      refine (wtext_any _ rb B q1 HC3.out.rd hB (by omega)).mono ?_
      rintro e wn1 ⟨rfl, hr, ht⟩
      rw [E1.out] at hr ⊢
      simp only [strV] at hr ⊢
      have HC4 := hide (HC3.out.num hrb ht hr)
      clear hr ht
      clear c0 f0
      obtain ⟨c0, f0, y0, g0⟩ := HC4.out.cell 0
      simp only [zQv, List.getElem?_cons_zero, List.getElem?_cons_succ] at c0 y0
      clear y0 g0
      obtain ⟨c2, f2, y2, g2⟩ := HC4.out.cell 2
      simp only [zQv, List.getElem?_cons_zero, List.getElem?_cons_succ] at c2 y2
      clear y2 g2
      have HC5 := hide (HC4.out.set hrb hB 2 (.string ⟨tp.toArray⟩))
      simp only [List.set_cons_zero, List.set_cons_succ] at HC5
      obtain ⟨cz1_0, fz1_0, yz1_0, gz1_0⟩ := HC5.out.cell 0
      simp only [zQv, List.getElem?_cons_zero, List.getElem?_cons_succ] at cz1_0 yz1_0
      clear yz1_0 gz1_0
      have HE : Hid (reqP l = (⟨(n0 : Int), (n1 : Int), tp, 0, 0, 0, 0, 0, 0, 0, false, false, []⟩ : Req)) := by
        show _ = _
        have hk' := hk.out
        have hk' : ¬ (n0 : Int) = 1 ∧ ¬ (n0 : Int) = 2 ∧ ¬ (n0 : Int) = 3 ∧ ¬ (n0 : Int) = 4 ∧ ¬ (n0 : Int) = 5 ∧ ¬ (n0 : Int) = 7 := by omega
        unfold reqP tailP mkQ
        simp [E00.out, E01.out, E1.out, hk']
      go_upto_region 17 with fail
      refine wp_region_lit ?_
      refine wpList_loadT rfl _ _ rfl ⟨X, 0, none⟩ rfl _ (load13 HC5.out.x) ?_
      refine wpList_store_row rfl _ _ _ rfl w.heap.size #[.int .i64 (n0 : Int), .int .i64 (n1 : Int), .string ⟨tp.toArray⟩, .int .i64 0, .int .i64 0, .int .i64 0, .int .i64 0, .int .i64 0, .int .i64 0, .int .i64 0, .bool false, .bool false, .slice none 0 0] rfl rfl _ _ HC5.out.y (by kernel_rfl) rfl (by kernel_rfl) ?_
      have hf := HC5.out.fin2 hrb hB

      have HF := hide hf
      clear hf
      go_simp
      go_wp2
      have hld := load13 HF.out.1
      refine bodyPost_ret (v := .agg #[.int .i64 (n0 : Int), .int .i64 (n1 : Int), .string ⟨tp.toArray⟩, .int .i64 0, .int .i64 0, .int .i64 0, .int .i64 0, .int .i64 0, .int .i64 0, .int .i64 0, .bool false, .bool false, .slice none 0 0]) (by simp [results, Tryd.results19, asAddr, hld, Result.andThen]) rfl ?_
      rw [HE.out]
      exact ⟨.slice none 0 0, rfl, RecRow.nil _ 0, HF.out.2.2.1, (by simp [Value.ownBlock])⟩

set_option maxHeartbeats 16000000 in
theorem rans_any (w : World) (rb B : Nat) (l : List UInt8) (h : RdW w rb B l) (hB : B ≤ rb) (hl : l.length ≤ 900000) :
    Calls Tryd.prog 25 #[.pointer (some ⟨rb, 0, none⟩)] w fun e w' => ∃ rv tv, e = .returned (.agg (ansC (ansP l) rv tv)) ∧ RecsAt w' rv (ansP l).recs ∧ TopsAt w' tv (ansP l).topics ∧ Turn [rb] w w' ∧ (∀ k ∈ rv.ownBlock, w.heap.size ≤ k) ∧ (∀ k ∈ tv.ownBlock, w.heap.size ≤ k) := by
  have hrb := h.lt
  obtain ⟨n0, q0, e00⟩ : ∃ n r, Bt.num l = (n, r) := ⟨_, _, rfl⟩
  obtain ⟨n1, q1, e01⟩ : ∃ n r, Bt.num q0 = (n, r) := ⟨_, _, rfl⟩
  obtain ⟨n2, q2, e02⟩ : ∃ n r, Bt.num q1 = (n, r) := ⟨_, _, rfl⟩
  have g00 := num_len l
  have g01 := num_len q0
  have g02 := num_len q1
  rw [e00] at g00
  rw [e01] at g01
  rw [e02] at g02
  simp only at g00 g01 g02
  obtain ⟨wy, hwy⟩ : ∃ wy, wy = w.alloc (.cells zAv.toArray 38) := ⟨_, rfl⟩
  have hty : Turn [] w wy := by rw [hwy]; exact (Turn.refl [] w).alloc _
  have E00 := hide e00
  have E01 := hide e01
  have E02 := hide e02
  have HWY := hide hwy
  have HRY := hide (h.still hty)
  clear h hwy hty e00 e01 e02
  go_enter Tryd.func25, Tryd.ntmps25
  go_wp2_with fail
  rw [show w.alloc (.cells #[.int .i64 0, .int .i64 0, .int .i64 0, .int .i64 0, .int .i64 0, .int .i64 0, .bool false, .slice none 0 0, .slice none 0 0] 38) = wy from HWY.out.symm]
  refine (wnum_any _ rb B l HRY.out hB (by omega)).mono ?_
  rintro e w1 ⟨rfl, hr1, ht1⟩
  rw [E00.out] at hr1 ⊢
  simp only at hr1 ⊢
  have HR1 := hide hr1
  have HT1 := hide ht1
  clear hr1 ht1
  go_wp2_with fail
  refine (wnum_any _ rb B q0 HR1.out hB (by omega)).mono ?_
  rintro e w2 ⟨rfl, hr2, ht2⟩
  rw [E01.out] at hr2 ⊢
  simp only at hr2 ⊢
  have HR2 := hide hr2
  have HT2 := hide (HT1.out.same ht2)
  clear hr2 ht2

  go_wp2_with fail
  refine (wnum_any _ rb B q1 HR2.out hB (by omega)).mono ?_
  rintro e w3 ⟨rfl, hr3, ht3⟩
  rw [E02.out] at hr3 ⊢
  simp only at hr3 ⊢
  have ht3 := HT2.out.same ht3

  have hc3 := Cn.start (cs := [.int .i64 (n0 : Int), .int .i64 (n1 : Int), .int .i64 (n2 : Int), .int .i64 0, .int .i64 0, .int .i64 0, .bool false, .slice none 0 0, .slice none 0 0]) HWY.out ht3 hrb hr3
  obtain ⟨X, hX⟩ : ∃ X, X = w3.heap.size := ⟨_, rfl⟩
  obtain ⟨wx, hwx⟩ : ∃ wx, wx = w3.alloc (.cells #[.int .i64 (n0 : Int), .int .i64 (n1 : Int), .int .i64 (n2 : Int), .int .i64 0, .int .i64 0, .int .i64 0, .bool false, .slice none 0 0, .slice none 0 0] 38) := ⟨_, rfl⟩
  have hc3' : Cn 38 w wx rb B X w.heap.size [.int .i64 (n0 : Int), .int .i64 (n1 : Int), .int .i64 (n2 : Int), .int .i64 0, .int .i64 0, .int .i64 0, .bool false, .slice none 0 0, .slice none 0 0] zAv q2 := by
    rw [hwx, hX]; exact hc3
  have HC3 := hide hc3'
  have HWX := hide hwx
  have HX := hide hX
  clear hc3 hc3' hwx hX hr3 ht3
  have HN : Hid (X < wx.heap.size) := lt_of_heap HC3.out.x
  go_upto_region 2 with fail
  rw [show w3.alloc (.cells #[.int .i64 (n0 : Int), .int .i64 (n1 : Int), .int .i64 (n2 : Int), .int .i64 0, .int .i64 0, .int .i64 0, .bool false, .slice none 0 0, .slice none 0 0] 38) = wx from HWX.out.symm]
  rw [← HX.out]
  have hcase : ¬ n2 = 0 ∨ (n2 = 0 ∧ n0 = 1) ∨ (n2 = 0 ∧ n0 = 2) ∨ (n2 = 0 ∧ n0 = 3 ∧ (Bt.num q2).1 = 1) ∨ (n2 = 0 ∧ n0 = 3 ∧ ¬ (Bt.num q2).1 = 1) ∨ (n2 = 0 ∧ n0 = 4) ∨ (n2 = 0 ∧ n0 = 7) ∨ (n2 = 0 ∧ ¬ n0 = 1 ∧ ¬ n0 = 2 ∧ ¬ n0 = 3 ∧ ¬ n0 = 4 ∧ ¬ n0 = 7) := by omega
  rcases hcase with hcase | hcase | hcase | hcase | hcase | hcase | hcase | hcase
  · as_aux_lemma =>
      have bz : ((n2 : Int) == 0) = false := by simp; omega
      have bz' : ((n2 : Int) != 0) = true := by simp [bne, bz]
      have hk := hide (show ¬ n2 = 0 by omega)
      clear hcase
      obtain ⟨c0, f0, y0, g0⟩ := HC3.out.cell 0
      simp only [zAv, List.getElem?_cons_zero, List.getElem?_cons_succ] at c0 y0
      clear y0 g0
      obtain ⟨c2, f2, y2, g2⟩ := HC3.out.cell 2
      simp only [zAv, List.getElem?_cons_zero, List.getElem?_cons_succ] at c2 y2
      clear y2 g2
      have HE : Hid (ansP l = (⟨(n0 : Int), (n1 : Int), (n2 : Int), 0, 0, 0, false, [], []⟩ : Ans)) := by
        show _ = _
        have hk' := hk.out
        unfold ansP atailP mkA
        simp [E00.out, E01.out, E02.out, hk']
      go_upto_region 3 with fail
      refine wp_region_lit ?_
      refine wpList_loadT rfl _ _ rfl ⟨X, 0, none⟩ rfl _ (load9 HC3.out.x) ?_
      refine wpList_store_row rfl _ _ _ rfl w.heap.size #[.int .i64 (n0 : Int), .int .i64 (n1 : Int), .int .i64 (n2 : Int), .int .i64 0, .int .i64 0, .int .i64 0, .bool false, .slice none 0 0, .slice none 0 0] rfl rfl _ _ HC3.out.y (by kernel_rfl) rfl (by kernel_rfl) ?_
      have hf := HC3.out.fin2 hrb hB

      have HF := hide hf
      clear hf
      go_simp
      go_wp2
      have hld := load9 HF.out.1
      refine bodyPost_ret (v := .agg #[.int .i64 (n0 : Int), .int .i64 (n1 : Int), .int .i64 (n2 : Int), .int .i64 0, .int .i64 0, .int .i64 0, .bool false, .slice none 0 0, .slice none 0 0]) (by simp [results, Tryd.results25, asAddr, hld, Result.andThen]) rfl ?_
      rw [HE.out]
      exact ⟨.slice none 0 0, .slice none 0 0, rfl, RecRow.nil _ 0, TopsAt.nil _, HF.out.2.2.1, (by simp [Value.ownBlock]), (by simp [Value.ownBlock])⟩
  · as_aux_lemma =>
      have bz : ((n2 : Int) == 0) = true := by simp; omega
      have bz' : ((n2 : Int) != 0) = false := by simp [bne, bz]
      have b1 : ((n0 : Int) == 1) = true := by simp; omega
      have b2 : ((n0 : Int) == 2) = false := by simp; omega
      have b3 : ((n0 : Int) == 3) = false := by simp; omega
      have b4 : ((n0 : Int) == 4) = false := by simp; omega
      have b7 : ((n0 : Int) == 7) = false := by simp; omega
      have hk := hide (show n2 = 0 ∧ n0 = 1 ∧ ¬ n0 = 2 ∧ ¬ n0 = 3 ∧ ¬ n0 = 4 ∧ ¬ n0 = 7 by omega)
      clear hcase
      obtain ⟨c0, f0, y0, g0⟩ := HC3.out.cell 0
      simp only [zAv, List.getElem?_cons_zero, List.getElem?_cons_succ] at c0 y0
      clear y0 g0
      obtain ⟨c2, f2, y2, g2⟩ := HC3.out.cell 2
      simp only [zAv, List.getElem?_cons_zero, List.getElem?_cons_succ] at c2 y2
      clear y2 g2
      obtain ⟨a, r1, e1⟩ : ∃ n r, Bt.num q2 = (n, r) := ⟨_, _, rfl⟩

      have g1 := num_len q2
      rw [e1] at g1
      simp only at g1
      have E1 := hide e1
      clear e1
      go_wp2_with fail
      refine (wnum_any _ rb B q2 HC3.out.rd hB (by omega)).mono ?_
      rintro e wn1 ⟨rfl, hr, ht⟩
      rw [E1.out] at hr ⊢
      simp only [strV] at hr ⊢
      have HC4 := hide (HC3.out.num hrb ht hr)
      clear hr ht
      clear c0 f0 c2 f2
      obtain ⟨c0, f0, y0, g0⟩ := HC4.out.cell 0
      simp only [zAv, List.getElem?_cons_zero, List.getElem?_cons_succ] at c0 y0
      clear y0 g0
      obtain ⟨c3, f3, y3, g3⟩ := HC4.out.cell 3
      simp only [zAv, List.getElem?_cons_zero, List.getElem?_cons_succ] at c3 y3
      clear y3 g3
      have HC5 := hide (HC4.out.set hrb hB 3 (.int .i64 (a : Int)))
      simp only [List.set_cons_zero, List.set_cons_succ] at HC5
      have HE : Hid (ansP l = (⟨(n0 : Int), (n1 : Int), (n2 : Int), (a : Int), 0, 0, false, [], []⟩ : Ans)) := by
        show _ = _
        have hk' := hk.out
  
        unfold ansP atailP mkA
        simp [E00.out, E01.out, E02.out, E1.out, hk']
      go_upto_region 18 with fail
      refine wp_region_lit ?_
      refine wpList_loadT rfl _ _ rfl ⟨X, 0, none⟩ rfl _ (load9 HC5.out.x) ?_
      refine wpList_store_row rfl _ _ _ rfl w.heap.size #[.int .i64 (n0 : Int), .int .i64 (n1 : Int), .int .i64 (n2 : Int), .int .i64 (a : Int), .int .i64 0, .int .i64 0, .bool false, .slice none 0 0, .slice none 0 0] rfl rfl _ _ HC5.out.y (by kernel_rfl) rfl (by kernel_rfl) ?_
      have hf := HC5.out.fin2 hrb hB

      have HF := hide hf
      clear hf
      go_simp
      go_wp2
      have hld := load9 HF.out.1
      refine bodyPost_ret (v := .agg #[.int .i64 (n0 : Int), .int .i64 (n1 : Int), .int .i64 (n2 : Int), .int .i64 (a : Int), .int .i64 0, .int .i64 0, .bool false, .slice none 0 0, .slice none 0 0]) (by simp [results, Tryd.results25, asAddr, hld, Result.andThen]) rfl ?_
      rw [HE.out]
      exact ⟨.slice none 0 0, .slice none 0 0, rfl, RecRow.nil _ 0, TopsAt.nil _, HF.out.2.2.1, (by simp [Value.ownBlock]), (by simp [Value.ownBlock])⟩
  · as_aux_lemma =>
      have bz : ((n2 : Int) == 0) = true := by simp; omega
      have bz' : ((n2 : Int) != 0) = false := by simp [bne, bz]
      have b1 : ((n0 : Int) == 1) = false := by simp; omega
      have b2 : ((n0 : Int) == 2) = true := by simp; omega
      have b3 : ((n0 : Int) == 3) = false := by simp; omega
      have b4 : ((n0 : Int) == 4) = false := by simp; omega
      have b7 : ((n0 : Int) == 7) = false := by simp; omega
      have hk := hide (show n2 = 0 ∧ ¬ n0 = 1 ∧ n0 = 2 ∧ ¬ n0 = 3 ∧ ¬ n0 = 4 ∧ ¬ n0 = 7 by omega)
      clear hcase
      obtain ⟨c0, f0, y0, g0⟩ := HC3.out.cell 0
      simp only [zAv, List.getElem?_cons_zero, List.getElem?_cons_succ] at c0 y0
      clear y0 g0
      obtain ⟨c2, f2, y2, g2⟩ := HC3.out.cell 2
      simp only [zAv, List.getElem?_cons_zero, List.getElem?_cons_succ] at c2 y2
      clear y2 g2
      obtain ⟨a, r1, e1⟩ : ∃ n r, Bt.num q2 = (n, r) := ⟨_, _, rfl⟩

      have g1 := num_len q2
      rw [e1] at g1
      simp only at g1
      have E1 := hide e1
      clear e1
      go_wp2_with fail
      refine (wnum_any _ rb B q2 HC3.out.rd hB (by omega)).mono ?_
      rintro e wn1 ⟨rfl, hr, ht⟩
      rw [E1.out] at hr ⊢
      simp only [strV] at hr ⊢
      have HC4 := hide (HC3.out.num hrb ht hr)
      clear hr ht
      clear c0 f0 c2 f2
      obtain ⟨c0, f0, y0, g0⟩ := HC4.out.cell 0
      simp only [zAv, List.getElem?_cons_zero, List.getElem?_cons_succ] at c0 y0
      clear y0 g0
      obtain ⟨b, r2, e2⟩ : ∃ n r, Bt.num r1 = (n, r) := ⟨_, _, rfl⟩

      have g2 := num_len r1
      rw [e2] at g2
      simp only at g2
      have E2 := hide e2
      clear e2
      go_wp2_with fail
      refine (wnum_any _ rb B r1 HC4.out.rd hB (by omega)).mono ?_
      rintro e wn2 ⟨rfl, hr, ht⟩
      rw [E2.out] at hr ⊢
      simp only [strV] at hr ⊢
      have HC5 := hide (HC4.out.num hrb ht hr)
      clear hr ht
      clear c0 f0
      obtain ⟨c0, f0, y0, g0⟩ := HC5.out.cell 0
      simp only [zAv, List.getElem?_cons_zero, List.getElem?_cons_succ] at c0 y0
      clear y0 g0
      obtain ⟨c4, f4, y4, g4⟩ := HC5.out.cell 4
      simp only [zAv, List.getElem?_cons_zero, List.getElem?_cons_succ] at c4 y4
      clear y4 g4
      obtain ⟨c5, f5, y5, g5⟩ := HC5.out.cell 5
      simp only [zAv, List.getElem?_cons_zero, List.getElem?_cons_succ] at c5 y5
      clear y5 g5
      have HC6 := hide (HC5.out.set hrb hB 4 (.int .i64 (a : Int)))
      simp only [List.set_cons_zero, List.set_cons_succ] at HC6
      have HC7 := hide (HC6.out.set hrb hB 5 (.int .i64 (b : Int)))
      simp only [List.set_cons_zero, List.set_cons_succ] at HC7
      go_wp2_with fail
      refine (rlistP_any _ rb B r2 HC7.out.rd hB (by omega)).mono ?_
      rintro e wl ⟨sl, rfl, hrow, hrd, htl⟩
      obtain ⟨L, hL⟩ : ∃ L, L = listP plP (Bt.num r2).1 (Bt.num r2).2 := ⟨_, rfl⟩
      rw [← hL] at hrow hrd
      have hok := (listP_all (one := plP) (ok := RecRd) (L := 1000000) (fun l h => plP_rd h) (fun l h => plP_lt h) (Bt.num r2).1 (Bt.num r2).2 (by have := num_len r2; omega)).1
      rw [← hL] at hok
      obtain ⟨la, ln, lc, rfl⟩ : ∃ a n c, sl = .slice a n c := by exact hrow.some_slice
      have HOK := hide hok
      have HLL := hide hL
      have hszl := HC7.out.x
      have hszx := lt_of_heap hszl
      have hszy := lt_of_heap HC7.out.y
      try simp only [World.size_setCell] at hszx hszy
      have HC8 := hide (HC7.out.num hrb htl hrd)
      have HROW := hide hrow
      clear hrow hrd htl hok hL hszl
      clear c0 f0 c4 f4 c5 f5
      obtain ⟨c0, f0, y0, g0⟩ := HC8.out.cell 0
      simp only [zAv, List.getElem?_cons_zero, List.getElem?_cons_succ] at c0 y0
      clear y0 g0
      obtain ⟨c7, f7, y7, g7⟩ := HC8.out.cell 7
      simp only [zAv, List.getElem?_cons_zero, List.getElem?_cons_succ] at c7 y7
      clear y7 g7
      have HC9 := hide (HC8.out.set hrb hB 7 (.slice la ln lc))
      simp only [List.set_cons_zero, List.set_cons_succ] at HC9
      have HE : Hid (ansP l = (⟨(n0 : Int), (n1 : Int), (n2 : Int), 0, (a : Int), (b : Int), false, L.1, []⟩ : Ans)) := by
        show _ = _
        have hk' := hk.out
  
        unfold ansP atailP mkA
        simp [E00.out, E01.out, E02.out, E1.out, E2.out, hk', HLL.out]
      go_upto_region 18 with fail
      refine wp_region_lit ?_
      refine wpList_loadT rfl _ _ rfl ⟨X, 0, none⟩ rfl _ (load9 HC9.out.x) ?_
      refine wpList_store_row rfl _ _ _ rfl w.heap.size #[.int .i64 (n0 : Int), .int .i64 (n1 : Int), .int .i64 (n2 : Int), .int .i64 0, .int .i64 (a : Int), .int .i64 (b : Int), .bool false, .slice la ln lc, .slice none 0 0] rfl rfl _ _ HC9.out.y (by kernel_rfl) rfl (by kernel_rfl) ?_
      have hf := HC9.out.fin2 hrb hB
      have hrow := hide ((HROW.out.kept (S := [X]) ((Turn.refl [X] wl).setCell (.inl (by simp)) (.slice la ln lc)) (fun q hq hm => by have := (HROW.out.lt q hq).1; simp at hm; (try simp at this); omega)).kept hf.2.2.2 (fun q hq hm => by have := (HROW.out.lt q hq).1; simp at hm; (try simp at this); omega))
      have HF := hide hf
      clear hf
      go_simp
      go_wp2
      have hld := load9 HF.out.1
      refine bodyPost_ret (v := .agg #[.int .i64 (n0 : Int), .int .i64 (n1 : Int), .int .i64 (n2 : Int), .int .i64 0, .int .i64 (a : Int), .int .i64 (b : Int), .bool false, .slice la ln lc, .slice none 0 0]) (by simp [results, Tryd.results25, asAddr, hld, Result.andThen]) rfl ?_
      rw [HE.out]
      exact ⟨.slice la ln lc, .slice none 0 0, rfl, hrow.out.recs (fun r hr => (HOK.out r hr).ok), TopsAt.nil _, HF.out.2.2.1, (fun q hq => by have := (HROW.out.lt q hq).1; (try simp at this); omega), (by simp [Value.ownBlock])⟩
  · as_aux_lemma =>
      have bz : ((n2 : Int) == 0) = true := by simp; omega
      have bz' : ((n2 : Int) != 0) = false := by simp [bne, bz]
      have b1 : ((n0 : Int) == 1) = false := by simp; omega
      have b2 : ((n0 : Int) == 2) = false := by simp; omega
      have b3 : ((n0 : Int) == 3) = true := by simp; omega
      have b4 : ((n0 : Int) == 4) = false := by simp; omega
      have b7 : ((n0 : Int) == 7) = false := by simp; omega
      have hk := hide (show n2 = 0 ∧ ¬ n0 = 1 ∧ ¬ n0 = 2 ∧ n0 = 3 ∧ ¬ n0 = 4 ∧ ¬ n0 = 7 by omega)
      have hq := hcase.2.2
      clear hcase
      obtain ⟨c0, f0, y0, g0⟩ := HC3.out.cell 0
      simp only [zAv, List.getElem?_cons_zero, List.getElem?_cons_succ] at c0 y0
      clear y0 g0
      obtain ⟨c2, f2, y2, g2⟩ := HC3.out.cell 2
      simp only [zAv, List.getElem?_cons_zero, List.getElem?_cons_succ] at c2 y2
      clear y2 g2
      obtain ⟨a, r1, e1⟩ : ∃ n r, Bt.num q2 = (n, r) := ⟨_, _, rfl⟩
      rw [e1] at hq
      simp only at hq
      have hd : decide (a = 1) = true := by simp [hq]
      have HQ := hide hq
      clear hq
      have g1 := num_len q2
      rw [e1] at g1
      simp only at g1
      have E1 := hide e1
      clear e1
      go_wp2_with fail
      refine (wtru_any _ rb B q2 HC3.out.rd hB (by omega)).mono ?_
      rintro e wn1 ⟨rfl, hr, ht⟩
      rw [E1.out] at hr ⊢
      simp only [strV] at hr ⊢
      have HC4 := hide (HC3.out.num hrb ht hr)
      clear hr ht
      clear c0 f0 c2 f2
      obtain ⟨c0, f0, y0, g0⟩ := HC4.out.cell 0
      simp only [zAv, List.getElem?_cons_zero, List.getElem?_cons_succ] at c0 y0
      clear y0 g0
      obtain ⟨c6, f6, y6, g6⟩ := HC4.out.cell 6
      simp only [zAv, List.getElem?_cons_zero, List.getElem?_cons_succ] at c6 y6
      clear y6 g6
      rw [hd]
      clear hd
      have HC5 := hide (HC4.out.set hrb hB 6 (.bool true))
      simp only [List.set_cons_zero, List.set_cons_succ] at HC5
      obtain ⟨cz1_0, fz1_0, yz1_0, gz1_0⟩ := HC5.out.cell 0
      simp only [zAv, List.getElem?_cons_zero, List.getElem?_cons_succ] at cz1_0 yz1_0
      clear yz1_0 gz1_0
      obtain ⟨cz1_6, fz1_6, yz1_6, gz1_6⟩ := HC5.out.cell 6
      simp only [zAv, List.getElem?_cons_zero, List.getElem?_cons_succ] at cz1_6 yz1_6
      clear yz1_6 gz1_6
      obtain ⟨b, r2, e2⟩ : ∃ n r, Bt.num r1 = (n, r) := ⟨_, _, rfl⟩

      have g2 := num_len r1
      rw [e2] at g2
      simp only at g2
      have E2 := hide e2
      clear e2
      go_wp2_with fail
      refine (wnum_any _ rb B r1 HC5.out.rd hB (by omega)).mono ?_
      rintro e wn2 ⟨rfl, hr, ht⟩
      rw [E2.out] at hr ⊢
      simp only [strV] at hr ⊢
      have HC6 := hide (HC5.out.num hrb ht hr)
      clear hr ht
      clear c0 f0 c6 f6 cz1_0 fz1_0 cz1_6 fz1_6
      obtain ⟨c0, f0, y0, g0⟩ := HC6.out.cell 0
      simp only [zAv, List.getElem?_cons_zero, List.getElem?_cons_succ] at c0 y0
      clear y0 g0
      obtain ⟨c3, f3, y3, g3⟩ := HC6.out.cell 3
      simp only [zAv, List.getElem?_cons_zero, List.getElem?_cons_succ] at c3 y3
      clear y3 g3
      have HC7 := hide (HC6.out.set hrb hB 3 (.int .i64 (b : Int)))
      simp only [List.set_cons_zero, List.set_cons_succ] at HC7
      have HE : Hid (ansP l = (⟨(n0 : Int), (n1 : Int), (n2 : Int), (b : Int), 0, 0, true, [], []⟩ : Ans)) := by
        show _ = _
        have hk' := hk.out
  
        unfold ansP atailP mkA
        simp [E00.out, E01.out, E02.out, E1.out, E2.out, hk', HQ.out]
      go_upto_region 18 with fail
      refine wp_region_lit ?_
      refine wpList_loadT rfl _ _ rfl ⟨X, 0, none⟩ rfl _ (load9 HC7.out.x) ?_
      refine wpList_store_row rfl _ _ _ rfl w.heap.size #[.int .i64 (n0 : Int), .int .i64 (n1 : Int), .int .i64 (n2 : Int), .int .i64 (b : Int), .int .i64 0, .int .i64 0, .bool true, .slice none 0 0, .slice none 0 0] rfl rfl _ _ HC7.out.y (by kernel_rfl) rfl (by kernel_rfl) ?_
      have hf := HC7.out.fin2 hrb hB

      have HF := hide hf
      clear hf
      go_simp
      go_wp2
      have hld := load9 HF.out.1
      refine bodyPost_ret (v := .agg #[.int .i64 (n0 : Int), .int .i64 (n1 : Int), .int .i64 (n2 : Int), .int .i64 (b : Int), .int .i64 0, .int .i64 0, .bool true, .slice none 0 0, .slice none 0 0]) (by simp [results, Tryd.results25, asAddr, hld, Result.andThen]) rfl ?_
      rw [HE.out]
      exact ⟨.slice none 0 0, .slice none 0 0, rfl, RecRow.nil _ 0, TopsAt.nil _, HF.out.2.2.1, (by simp [Value.ownBlock]), (by simp [Value.ownBlock])⟩
  · as_aux_lemma =>
      have bz : ((n2 : Int) == 0) = true := by simp; omega
      have bz' : ((n2 : Int) != 0) = false := by simp [bne, bz]
      have b1 : ((n0 : Int) == 1) = false := by simp; omega
      have b2 : ((n0 : Int) == 2) = false := by simp; omega
      have b3 : ((n0 : Int) == 3) = true := by simp; omega
      have b4 : ((n0 : Int) == 4) = false := by simp; omega
      have b7 : ((n0 : Int) == 7) = false := by simp; omega
      have hk := hide (show n2 = 0 ∧ ¬ n0 = 1 ∧ ¬ n0 = 2 ∧ n0 = 3 ∧ ¬ n0 = 4 ∧ ¬ n0 = 7 by omega)
      have hq := hcase.2.2
      clear hcase
      obtain ⟨c0, f0, y0, g0⟩ := HC3.out.cell 0
      simp only [zAv, List.getElem?_cons_zero, List.getElem?_cons_succ] at c0 y0
      clear y0 g0
      obtain ⟨c2, f2, y2, g2⟩ := HC3.out.cell 2
      simp only [zAv, List.getElem?_cons_zero, List.getElem?_cons_succ] at c2 y2
      clear y2 g2
      obtain ⟨a, r1, e1⟩ : ∃ n r, Bt.num q2 = (n, r) := ⟨_, _, rfl⟩
      rw [e1] at hq
      simp only at hq
      have hd : decide (a = 1) = false := by simp [hq]
      have HQ := hide hq
      clear hq
      have g1 := num_len q2
      rw [e1] at g1
      simp only at g1
      have E1 := hide e1
      clear e1
      go_wp2_with fail
      refine (wtru_any _ rb B q2 HC3.out.rd hB (by omega)).mono ?_
      rintro e wn1 ⟨rfl, hr, ht⟩
      rw [E1.out] at hr ⊢
      simp only [strV] at hr ⊢
      have HC4 := hide (HC3.out.num hrb ht hr)
      clear hr ht
      clear c0 f0 c2 f2
      obtain ⟨c0, f0, y0, g0⟩ := HC4.out.cell 0
      simp only [zAv, List.getElem?_cons_zero, List.getElem?_cons_succ] at c0 y0
      clear y0 g0
      obtain ⟨c6, f6, y6, g6⟩ := HC4.out.cell 6
      simp only [zAv, List.getElem?_cons_zero, List.getElem?_cons_succ] at c6 y6
      clear y6 g6
      rw [hd]
      clear hd
      have HC5 := hide (HC4.out.set hrb hB 6 (.bool false))
      simp only [List.set_cons_zero, List.set_cons_succ] at HC5
      obtain ⟨cz1_0, fz1_0, yz1_0, gz1_0⟩ := HC5.out.cell 0
      simp only [zAv, List.getElem?_cons_zero, List.getElem?_cons_succ] at cz1_0 yz1_0
      clear yz1_0 gz1_0
      obtain ⟨cz1_6, fz1_6, yz1_6, gz1_6⟩ := HC5.out.cell 6
      simp only [zAv, List.getElem?_cons_zero, List.getElem?_cons_succ] at cz1_6 yz1_6
      clear yz1_6 gz1_6
      have HE : Hid (ansP l = (⟨(n0 : Int), (n1 : Int), (n2 : Int), 0, 0, 0, false, [], []⟩ : Ans)) := by
        show _ = _
        have hk' := hk.out
  
        unfold ansP atailP mkA
        simp [E00.out, E01.out, E02.out, E1.out, hk', HQ.out]
      go_upto_region 18 with fail
      refine wp_region_lit ?_
      refine wpList_loadT rfl _ _ rfl ⟨X, 0, none⟩ rfl _ (load9 HC5.out.x) ?_
      refine wpList_store_row rfl _ _ _ rfl w.heap.size #[.int .i64 (n0 : Int), .int .i64 (n1 : Int), .int .i64 (n2 : Int), .int .i64 0, .int .i64 0, .int .i64 0, .bool false, .slice none 0 0, .slice none 0 0] rfl rfl _ _ HC5.out.y (by kernel_rfl) rfl (by kernel_rfl) ?_
      have hf := HC5.out.fin2 hrb hB

      have HF := hide hf
      clear hf
      go_simp
      go_wp2
      have hld := load9 HF.out.1
      refine bodyPost_ret (v := .agg #[.int .i64 (n0 : Int), .int .i64 (n1 : Int), .int .i64 (n2 : Int), .int .i64 0, .int .i64 0, .int .i64 0, .bool false, .slice none 0 0, .slice none 0 0]) (by simp [results, Tryd.results25, asAddr, hld, Result.andThen]) rfl ?_
      rw [HE.out]
      exact ⟨.slice none 0 0, .slice none 0 0, rfl, RecRow.nil _ 0, TopsAt.nil _, HF.out.2.2.1, (by simp [Value.ownBlock]), (by simp [Value.ownBlock])⟩
  · as_aux_lemma =>
      have bz : ((n2 : Int) == 0) = true := by simp; omega
      have bz' : ((n2 : Int) != 0) = false := by simp [bne, bz]
      have b1 : ((n0 : Int) == 1) = false := by simp; omega
      have b2 : ((n0 : Int) == 2) = false := by simp; omega
      have b3 : ((n0 : Int) == 3) = false := by simp; omega
      have b4 : ((n0 : Int) == 4) = true := by simp; omega
      have b7 : ((n0 : Int) == 7) = false := by simp; omega
      have hk := hide (show n2 = 0 ∧ ¬ n0 = 1 ∧ ¬ n0 = 2 ∧ ¬ n0 = 3 ∧ n0 = 4 ∧ ¬ n0 = 7 by omega)
      clear hcase
      obtain ⟨c0, f0, y0, g0⟩ := HC3.out.cell 0
      simp only [zAv, List.getElem?_cons_zero, List.getElem?_cons_succ] at c0 y0
      clear y0 g0
      obtain ⟨c2, f2, y2, g2⟩ := HC3.out.cell 2
      simp only [zAv, List.getElem?_cons_zero, List.getElem?_cons_succ] at c2 y2
      clear y2 g2
      obtain ⟨a, r1, e1⟩ : ∃ n r, Bt.num q2 = (n, r) := ⟨_, _, rfl⟩

      have g1 := num_len q2
      rw [e1] at g1
      simp only at g1
      have E1 := hide e1
      clear e1
      go_wp2_with fail
      refine (wnum_any _ rb B q2 HC3.out.rd hB (by omega)).mono ?_
      rintro e wn1 ⟨rfl, hr, ht⟩
      rw [E1.out] at hr ⊢
      simp only [strV] at hr ⊢
      have HC4 := hide (HC3.out.num hrb ht hr)
      clear hr ht
      clear c0 f0 c2 f2
      obtain ⟨c0, f0, y0, g0⟩ := HC4.out.cell 0
      simp only [zAv, List.getElem?_cons_zero, List.getElem?_cons_succ] at c0 y0
      clear y0 g0
      obtain ⟨c4, f4, y4, g4⟩ := HC4.out.cell 4
      simp only [zAv, List.getElem?_cons_zero, List.getElem?_cons_succ] at c4 y4
      clear y4 g4
      have HC5 := hide (HC4.out.set hrb hB 4 (.int .i64 (a : Int)))
      simp only [List.set_cons_zero, List.set_cons_succ] at HC5
      have HE : Hid (ansP l = (⟨(n0 : Int), (n1 : Int), (n2 : Int), 0, (a : Int), 0, false, [], []⟩ : Ans)) := by
        show _ = _
        have hk' := hk.out
  
        unfold ansP atailP mkA
        simp [E00.out, E01.out, E02.out, E1.out, hk']
      go_upto_region 18 with fail
      refine wp_region_lit ?_
      refine wpList_loadT rfl _ _ rfl ⟨X, 0, none⟩ rfl _ (load9 HC5.out.x) ?_
      refine wpList_store_row rfl _ _ _ rfl w.heap.size #[.int .i64 (n0 : Int), .int .i64 (n1 : Int), .int .i64 (n2 : Int), .int .i64 0, .int .i64 (a : Int), .int .i64 0, .bool false, .slice none 0 0, .slice none 0 0] rfl rfl _ _ HC5.out.y (by kernel_rfl) rfl (by kernel_rfl) ?_
      have hf := HC5.out.fin2 hrb hB

      have HF := hide hf
      clear hf
      go_simp
      go_wp2
      have hld := load9 HF.out.1
      refine bodyPost_ret (v := .agg #[.int .i64 (n0 : Int), .int .i64 (n1 : Int), .int .i64 (n2 : Int), .int .i64 0, .int .i64 (a : Int), .int .i64 0, .bool false, .slice none 0 0, .slice none 0 0]) (by simp [results, Tryd.results25, asAddr, hld, Result.andThen]) rfl ?_
      rw [HE.out]
      exact ⟨.slice none 0 0, .slice none 0 0, rfl, RecRow.nil _ 0, TopsAt.nil _, HF.out.2.2.1, (by simp [Value.ownBlock]), (by simp [Value.ownBlock])⟩
  · as_aux_lemma =>
      have bz : ((n2 : Int) == 0) = true := by simp; omega
      have bz' : ((n2 : Int) != 0) = false := by simp [bne, bz]
      have b1 : ((n0 : Int) == 1) = false := by simp; omega
      have b2 : ((n0 : Int) == 2) = false := by simp; omega
      have b3 : ((n0 : Int) == 3) = false := by simp; omega
      have b4 : ((n0 : Int) == 4) = false := by simp; omega
      have b7 : ((n0 : Int) == 7) = true := by simp; omega
      have hk := hide (show n2 = 0 ∧ ¬ n0 = 1 ∧ ¬ n0 = 2 ∧ ¬ n0 = 3 ∧ ¬ n0 = 4 ∧ n0 = 7 by omega)
      clear hcase
      obtain ⟨c0, f0, y0, g0⟩ := HC3.out.cell 0
      simp only [zAv, List.getElem?_cons_zero, List.getElem?_cons_succ] at c0 y0
      clear y0 g0
      obtain ⟨c2, f2, y2, g2⟩ := HC3.out.cell 2
      simp only [zAv, List.getElem?_cons_zero, List.getElem?_cons_succ] at c2 y2
      clear y2 g2
      go_wp2_with fail
      refine (rlistT_any _ rb B q2 HC3.out.rd hB (by omega)).mono ?_
      rintro e wl ⟨sl, rfl, hrow, hrd, htl⟩
      obtain ⟨L, hL⟩ : ∃ L, L = listP tpP (Bt.num q2).1 (Bt.num q2).2 := ⟨_, rfl⟩
      rw [← hL] at hrow hrd
      have hok := (listP_all (one := tpP) (ok := TpRd) (L := 1000000) (fun l h => tpP_rd h) (fun l h => tpP_lt h) (Bt.num q2).1 (Bt.num q2).2 (by have := num_len q2; omega)).1
      rw [← hL] at hok
      obtain ⟨la, ln, lc, rfl⟩ : ∃ a n c, sl = .slice a n c := by obtain ⟨a, c, e, -⟩ := hrow.form; exact ⟨_, _, _, e⟩
      have HOK := hide hok
      have HLL := hide hL
      have hszl := HC3.out.x
      have hszx := lt_of_heap hszl
      have hszy := lt_of_heap HC3.out.y
      try simp only [World.size_setCell] at hszx hszy
      have HC4 := hide (HC3.out.num hrb htl hrd)
      have HROW := hide hrow
      clear hrow hrd htl hok hL hszl
      clear c0 f0 c2 f2
      obtain ⟨c0, f0, y0, g0⟩ := HC4.out.cell 0
      simp only [zAv, List.getElem?_cons_zero, List.getElem?_cons_succ] at c0 y0
      clear y0 g0
      obtain ⟨c8, f8, y8, g8⟩ := HC4.out.cell 8
      simp only [zAv, List.getElem?_cons_zero, List.getElem?_cons_succ] at c8 y8
      clear y8 g8
      have HC5 := hide (HC4.out.set hrb hB 8 (.slice la ln lc))
      simp only [List.set_cons_zero, List.set_cons_succ] at HC5
      have HE : Hid (ansP l = (⟨(n0 : Int), (n1 : Int), (n2 : Int), 0, 0, 0, false, [], L.1⟩ : Ans)) := by
        show _ = _
        have hk' := hk.out
  
        unfold ansP atailP mkA
        simp [E00.out, E01.out, E02.out, hk', HLL.out]
      go_upto_region 18 with fail
      refine wp_region_lit ?_
      refine wpList_loadT rfl _ _ rfl ⟨X, 0, none⟩ rfl _ (load9 HC5.out.x) ?_
      refine wpList_store_row rfl _ _ _ rfl w.heap.size #[.int .i64 (n0 : Int), .int .i64 (n1 : Int), .int .i64 (n2 : Int), .int .i64 0, .int .i64 0, .int .i64 0, .bool false, .slice none 0 0, .slice la ln lc] rfl rfl _ _ HC5.out.y (by kernel_rfl) rfl (by kernel_rfl) ?_
      have hf := HC5.out.fin2 hrb hB
      have hrow := hide ((HROW.out.kept (S := [X]) ((Turn.refl [X] wl).setCell (.inl (by simp)) (.slice la ln lc)) (fun q hq hm => by have := (HROW.out.lt q hq).1; simp at hm; (try simp at this); omega)).kept hf.2.2.2 (fun q hq hm => by have := (HROW.out.lt q hq).1; simp at hm; (try simp at this); omega))
      have HF := hide hf
      clear hf
      go_simp
      go_wp2
      have hld := load9 HF.out.1
      refine bodyPost_ret (v := .agg #[.int .i64 (n0 : Int), .int .i64 (n1 : Int), .int .i64 (n2 : Int), .int .i64 0, .int .i64 0, .int .i64 0, .bool false, .slice none 0 0, .slice la ln lc]) (by simp [results, Tryd.results25, asAddr, hld, Result.andThen]) rfl ?_
      rw [HE.out]
      exact ⟨.slice none 0 0, .slice la ln lc, rfl, RecRow.nil _ 0, TpRow.tops hrow.out (fun r hr => (HOK.out r hr).ok), HF.out.2.2.1, (by simp [Value.ownBlock]), (fun q hq => by have := (HROW.out.lt q hq).1; (try simp at this); omega)⟩
  · as_aux_lemma =>
      have bz : ((n2 : Int) == 0) = true := by simp; omega
      have bz' : ((n2 : Int) != 0) = false := by simp [bne, bz]
      have b1 : ((n0 : Int) == 1) = false := by simp; omega
      have b2 : ((n0 : Int) == 2) = false := by simp; omega
      have b3 : ((n0 : Int) == 3) = false := by simp; omega
      have b4 : ((n0 : Int) == 4) = false := by simp; omega
      have b7 : ((n0 : Int) == 7) = false := by simp; omega
      have hk := hide (show n2 = 0 ∧ ¬ n0 = 1 ∧ ¬ n0 = 2 ∧ ¬ n0 = 3 ∧ ¬ n0 = 4 ∧ ¬ n0 = 7 by omega)
      clear hcase
      obtain ⟨c0, f0, y0, g0⟩ := HC3.out.cell 0
      simp only [zAv, List.getElem?_cons_zero, List.getElem?_cons_succ] at c0 y0
      clear y0 g0
      obtain ⟨c2, f2, y2, g2⟩ := HC3.out.cell 2
      simp only [zAv, List.getElem?_cons_zero, List.getElem?_cons_succ] at c2 y2
      clear y2 g2
      have HE : Hid (ansP l = (⟨(n0 : Int), (n1 : Int), (n2 : Int), 0, 0, 0, false, [], []⟩ : Ans)) := by
        show _ = _
        have hk' := hk.out
        have hk' : n2 = 0 ∧ ¬ (n0 : Int) = 1 ∧ ¬ (n0 : Int) = 2 ∧ ¬ (n0 : Int) = 3 ∧ ¬ (n0 : Int) = 4 ∧ ¬ (n0 : Int) = 7 := by omega
        unfold ansP atailP mkA
        simp [E00.out, E01.out, E02.out, hk']
      go_upto_region 18 with fail
      refine wp_region_lit ?_
      refine wpList_loadT rfl _ _ rfl ⟨X, 0, none⟩ rfl _ (load9 HC3.out.x) ?_
      refine wpList_store_row rfl _ _ _ rfl w.heap.size #[.int .i64 (n0 : Int), .int .i64 (n1 : Int), .int .i64 (n2 : Int), .int .i64 0, .int .i64 0, .int .i64 0, .bool false, .slice none 0 0, .slice none 0 0] rfl rfl _ _ HC3.out.y (by kernel_rfl) rfl (by kernel_rfl) ?_
      have hf := HC3.out.fin2 hrb hB

      have HF := hide hf
      clear hf
      go_simp
      go_wp2
      have hld := load9 HF.out.1
      refine bodyPost_ret (v := .agg #[.int .i64 (n0 : Int), .int .i64 (n1 : Int), .int .i64 (n2 : Int), .int .i64 0, .int .i64 0, .int .i64 0, .bool false, .slice none 0 0, .slice none 0 0]) (by simp [results, Tryd.results25, asAddr, hld, Result.andThen]) rfl ?_
      rw [HE.out]
      exact ⟨.slice none 0 0, .slice none 0 0, rfl, RecRow.nil _ 0, TopsAt.nil _, HF.out.2.2.1, (by simp [Value.ownBlock]), (by simp [Value.ownBlock])⟩
end Go.Proofs.YtcpjohpbakbggaaDoor.Wi

/- The document's taker: truth. -/
namespace Go.Proofs.YtcpjohpbakbggaaDoor.Wi
open Go.RowKit Go.Maps
set_option maxRecDepth 100000
set_option linter.unusedSimpArgs false
set_option linter.unusedVariables false

theorem TkAt.setB {w : World} {tb B : Nat} {l : List UInt8} {x : Bool} (h : TkAt w tb B (l, x)) (hB : B ≤ tb) (y : Bool) : TkAt (w.setCell ⟨tb, 1, none⟩ (.bool y)) tb B (l, y) ∧ Turn [tb] w (w.setCell ⟨tb, 1, none⟩ (.bool y)) := by
  obtain ⟨sv, h1, h2, h3⟩ := h
  have ht : Turn [tb] w (w.setCell ⟨tb, 1, none⟩ (.bool y)) := (Turn.refl _ _).setCell (.inl (by simp)) _
  exact ⟨⟨sv, by simpa using heap_set h1 1 (.bool y), h2.kept' ht (fun h0 k hk hm => by have := h3 h0 k hk; simp at hm; omega), h3⟩, ht⟩
theorem TkAt.lt {w : World} {tb B : Nat} {t : TS} (h : TkAt w tb B t) : tb < w.heap.size := by obtain ⟨sv, h1, -⟩ := h; exact lt_of_heap h1
theorem truR_len (t : TS) : (truR t).2.1.length ≤ t.1.length := (numR_len t).1

set_option maxHeartbeats 2000000 in
theorem ttru_any (w : World) (tb B : Nat) (t : TS) (h : TkAt w tb B t) (hB : B ≤ tb) (hl : t.1.length ≤ 1000000) :
    Calls Tryd.prog 15 #[.pointer (some ⟨tb, 0, none⟩)] w fun e w' => e = .returned (.bool (truR t).1) ∧ TkAt w' tb B (truR t).2 ∧ Turn [tb] w w' := by
  have hnl := numR_len t
  have HN := hide (tnum_any w tb B t h hB hl)
  have HT : Hid (truR t = (decide ((Bt.numR t).1 = 1), ((Bt.numR t).2.1, (Bt.numR t).2.2 || decide (1 < (Bt.numR t).1)))) := rfl
  clear h
  obtain ⟨n, r, x, hns⟩ : ∃ n r x, Bt.numR t = (n, (r, x)) := ⟨_, _, _, rfl⟩
  rw [hns] at HN HT hnl
  simp only at HN HT hnl
  rw [HT.out]
  clear hns HT
  go_enter Tryd.func15, Tryd.ntmps15
  go_wp2_with fail
  refine HN.out.mono ?_
  rintro e w1 ⟨rfl, htk, ht⟩
  have HTK := hide htk
  have HT := hide ht
  have hlt := TkAt.lt htk
  obtain ⟨sv, h1, -, -⟩ := htk
  have c1 : w1.cell? ⟨tb, 1, none⟩ = some (.bool x) := by simpa using cell_of h1 1
  have f1 : w1.frozen? ⟨tb, 1, none⟩ = false := frozen_of h1 1
  clear h1 ht
  have hn2 : n ≤ 1099511627776 := hnl.2
  clear hnl
  cases x with
  | true =>
    have hf := TkAt.setB HTK.out hB true
    have HF := hide hf
    clear hf
    go_wp2
    go_ret
    refine ⟨?_, by simpa using HF.out.1, HT.out.same HF.out.2⟩
    by_cases h1 : n = 1 <;> simp [h1] <;> omega
  | false =>
    by_cases hn : 1 < n
    · have hn1 : (n : Int) > 1 := by omega
      have hb : ((n : Int) == 1) = false := by simp; omega
      have hd : decide (n = 1) = false := by simp; omega
      have hf := TkAt.setB HTK.out hB true
      have HF := hide hf
      clear hf
      go_wp2
      go_ret
      refine ⟨by rw [hd]; rfl, by simpa [hn] using HF.out.1, HT.out.same HF.out.2⟩
    · have hn1 : ¬ (n : Int) > 1 := by omega
      have he : decide (1 < (n : Int)) = false := by simp; omega
      have hf := TkAt.setB HTK.out hB (decide (1 < (n : Int)))
      have HF := hide hf
      have HEE := hide he
      clear hf he
      go_wp2
      go_ret
      refine ⟨?_, by simpa [hn, HEE.out] using HF.out.1, HT.out.same HF.out.2⟩
      by_cases h1 : n = 1 <;> simp [h1] <;> omega
end Go.Proofs.YtcpjohpbakbggaaDoor.Wi

/- The document's taker: records. -/
namespace Go.Proofs.YtcpjohpbakbggaaDoor.Wi
open Go.RowKit Go.Maps
set_option maxRecDepth 100000
set_option linter.unusedSimpArgs false
set_option linter.unusedVariables false
attribute [local go_sem] Oper.semAt_some

structure Gd (t t' : TS) : Prop where
  len : t'.1.length ≤ t.1.length
  bad : t.2 = true → t'.2 = true
theorem Gd.refl (t : TS) : Gd t t := ⟨Nat.le_refl _, id⟩
theorem Gd.trans {a b c : TS} (h : Gd a b) (k : Gd b c) : Gd a c := ⟨Nat.le_trans k.len h.len, fun e => k.bad (h.bad e)⟩
theorem numR_gd (t : TS) : Gd t (Bt.numR t).2 := ⟨(numR_len t).1, fun h => by unfold Bt.numR; simp [h]⟩
theorem truR_gd (t : TS) : Gd t (truR t).2 := ⟨(numR_len t).1, fun h => by unfold truR; simp [(numR_gd t).bad h]⟩
theorem textR_gd (m : Nat) (t : TS) : Gd t (Bt.textR m t).2 := ⟨(textR_len m t).1, fun h => by
  have := (numR_gd t).bad h
  unfold Bt.textR
  simp [this]⟩
theorem numR_lt {t : TS} (h : (Bt.numR t).2.2 = false) : (Bt.numR t).2.1.length < t.1.length := by
  have := Nu.get_size (b := t.1)
  unfold Bt.numR at h ⊢
  simp only [Bool.or_eq_false_iff, beq_eq_false_iff_ne] at h
  simp only [List.length_drop]
  omega
theorem recR_gd (o : Bool) (t : TS) : Gd t (recR o t).2 ∧ ((recR o t).2.2 = false → (recR o t).2.1.length < t.1.length) := by
  obtain ⟨z, hz⟩ : ∃ z : Nat × TS, z = if o then Bt.numR t else (0, t) := ⟨_, rfl⟩
  have g0 : Gd t z.2 := by rw [hz]; split; exact numR_gd t; exact Gd.refl t
  have g1 := numR_gd z.2
  have g2 := truR_gd (Bt.numR z.2).2
  obtain ⟨k, hk⟩ : ∃ k : List UInt8 × TS, k = if (truR (Bt.numR z.2).2).1 then Bt.textR 60 (truR (Bt.numR z.2).2).2 else ([], (truR (Bt.numR z.2).2).2) := ⟨_, rfl⟩
  have g3 : Gd (truR (Bt.numR z.2).2).2 k.2 := by rw [hk]; split; exact textR_gd _ _; exact Gd.refl _
  have g4 := truR_gd k.2
  obtain ⟨v, hv⟩ : ∃ v : List UInt8 × TS, v = if (truR k.2).1 then ([], (truR k.2).2) else Bt.textR 500 (truR k.2).2 := ⟨_, rfl⟩
  have g5 : Gd (truR k.2).2 v.2 := by rw [hv]; split; exact Gd.refl _; exact textR_gd _ _
  have he : (recR o t).2 = v.2 := by unfold recR; simp only [← hz, ← hk, ← hv]
  rw [he]
  have g6 := ((g2.trans g3).trans g4).trans g5
  refine ⟨(g0.trans g1).trans g6, fun hb => ?_⟩
  have hn : (Bt.numR z.2).2.2 = false := by
    cases e : (Bt.numR z.2).2.2 with
    | false => rfl
    | true => rw [g6.bad e] at hb; exact absurd hb (by simp)
  have := numR_lt hn
  have := g6.len
  have := g0.len
  omega
/-- A struct under way in a loop: its own box, the taker. -/
structure Tn (T : TypeId) (w0 w : World) (tb B X : Nat) (cs : List Value) (t : TS) : Prop where
  hx : w0.heap.size ≤ X
  x : w.heap[X]? = some (.cells cs.toArray T (0, 0))
  rd : TkAt w tb B t
  turn : Turn [tb] w0 w
section
variable {T : TypeId} {w0 w w' : World} {tb B X : Nat} {cs : List Value} {t t' : TS}
theorem Tn.num (h : Tn T w0 w tb B X cs t) (hrb : tb < w0.heap.size) (ht : Turn [tb] w w') (hrd : TkAt w' tb B t') : Tn T w0 w' tb B X cs t' :=
  ⟨h.hx, ht.heap h.x (by have := h.hx; simp; omega), hrd, h.turn.same ht⟩
theorem Tn.set (h : Tn T w0 w tb B X cs t) (hrb : tb < w0.heap.size) (hB : B ≤ tb) (i : Nat) (v : Value) : Tn T w0 (w.setCell ⟨X, i, none⟩ v) tb B X (cs.set i v) t := by
  have ht : Turn [X] w (w.setCell ⟨X, i, none⟩ v) := (Turn.refl _ _).setCell (.inl (by simp)) _
  have hx := h.hx
  exact ⟨h.hx, by simpa using heap_set h.x i v, h.rd.kept ht (by simp; omega) (by simp; omega), h.turn.trans ht (fun k hk => .inr (by simp at hk; omega))⟩
theorem Tn.cell (h : Tn T w0 w tb B X cs t) (i : Nat) : w.cell? ⟨X, i, none⟩ = cs[i]? ∧ w.frozen? ⟨X, i, none⟩ = false := by
  refine ⟨?_, frozen_of h.x i⟩
  rw [cell_of h.x]; simp
theorem Tn.start {ys : List Value} (h : TkAt w tb B t) : Tn T w (w.alloc (.cells ys.toArray T)) tb B w.heap.size ys t :=
  ⟨Nat.le_refl _, heap_new w _, h.still ((Turn.refl [] w).alloc _), (Turn.refl _ w).alloc _⟩
end

set_option maxHeartbeats 8000000 in
theorem trecsF_any (w : World) (tb B : Nat) (s : TS) (h : TkAt w tb B s) (hB : B ≤ tb) (hl : s.1.length ≤ 900000) :
    Calls Tryd.prog 16 #[.pointer (some ⟨tb, 0, none⟩), .bool false] w fun e w' => ∃ sv, e = .returned sv ∧ RecRow w' w.heap.size sv (listR (recR false) (Bt.numR s).1 (Bt.numR s).2).1 ∧ TkAt w' tb B (listR (recR false) (Bt.numR s).1 (Bt.numR s).2).2 ∧ Turn [tb] w w' := by
  have hrb0 := TkAt.lt h
  obtain ⟨m0, s0, e0⟩ : ∃ n r, Bt.numR s = (n, r) := ⟨_, _, rfl⟩
  have g0 := numR_len s
  rw [e0] at g0 ⊢
  simp only at g0 ⊢
  have E0 := hide e0
  have HH := hide h
  obtain ⟨res, hres⟩ : ∃ res, res = listR (recR false) m0 s0 := ⟨_, rfl⟩
  rw [← hres]
  have HRES := hide hres
  clear h e0 hres
  go_enter Tryd.func16, Tryd.ntmps16
  go_wp2_with fail
  refine (tnum_any _ tb B s HH.out hB (by omega)).mono ?_
  rintro e w1 ⟨rfl, hr1, ht1⟩
  rw [E0.out] at hr1 ⊢
  simp only at hr1 ⊢
  have HR1 := hide hr1
  have HT1 := hide ht1
  clear hr1 ht1
  go_wp2
  go_loopw [5, 6] (fun lv nv wr => ∃ (v : Value) (k : Nat) (done : List Bt.Rec) (t : TS), v = lv ∧ nv = .int .i64 (k : Int) ∧ k ≤ 1099511627776 ∧ RecRow wr w.heap.size v done ∧ TkAt wr tb B t ∧ Turn [tb] w wr ∧ done.length + t.1.length ≤ 900000 + (if t.2 then 1 else 0) ∧ t.1.length ≤ 900000 ∧ res = (done ++ (listR (recR false) k t).1, (listR (recR false) k t).2)) (fun _ nv _ => (intOf nv).toNat)
  case atStart => exact ⟨_, m0, [], s0, rfl, rfl, g0.2, .inl ⟨rfl, rfl⟩, HR1.out, HT1.out, by simp; omega, by omega, by simpa using HRES.out⟩
  case round =>
    obtain ⟨v, k, done, t, rfl, rfl, hk, hrow, hrd, htw, hlen, htl, hre⟩ := hrel
    have HROW := hide hrow
    have HRD := hide hrd
    have HTW := hide htw
    have HRE := hide hre
    have hrb := TkAt.lt hrd
    have hszw := htw.size
    obtain ⟨rs, b1, b2, b3⟩ := hrd
    have cb : wr.cell? ⟨tb, 1, none⟩ = some (.bool t.2) := by simpa using cell_of b1 1
    clear hrow htw hre b1 b2 b3
    by_cases hk0 : k = 0
    · have hk1 : ¬ (k : Int) > 0 := by omega
      have hfin : listR (recR false) k t = ([], t) := by rw [hk0]; rfl
      have HF := hide hfin
      clear hk0 hfin
      go_wp2
      go_ret
      refine ⟨v, rfl, ?_, ?_, HTW.out⟩
      · rw [HRE.out, HF.out, List.append_nil]; exact HROW.out
      · rw [HRE.out, HF.out]; exact HRD.out
    · have hk1 : (k : Int) > 0 := by omega
      obtain ⟨k', rfl⟩ : ∃ k', k = k' + 1 := ⟨k - 1, by omega⟩
      by_cases hbd : t.2 = true
      · rw [hbd] at cb
        have hfin : listR (recR false) (k' + 1) t = ([], t) := by rw [listR, if_pos hbd]
        have HF := hide hfin
        clear hbd hfin hk0
        go_wp2
        go_ret
        refine ⟨v, rfl, ?_, ?_, HTW.out⟩
        · rw [HRE.out, HF.out, List.append_nil]; exact HROW.out
        · rw [HRE.out, HF.out]; exact HRD.out
      · have hbf : t.2 = false := by simpa using hbd
        rw [hbf] at cb
        rw [hbf] at hlen
        simp only [Bool.false_eq_true, if_false, Nat.add_zero] at hlen
        have hst : listR (recR false) (k' + 1) t = ((recR false t).1 :: (listR (recR false) k' (recR false t).2).1, (listR (recR false) k' (recR false t).2).2) := by rw [listR, if_neg hbd]
        have hgd := recR_gd false t
        have HST := hide hst
        have HGD := hide hgd
        clear hst hbd hbf hk0 hgd
        obtain ⟨n1, t1, e1⟩ : ∃ n r, Bt.numR t = (n, r) := ⟨_, _, rfl⟩
        have q1 := numR_len t
        rw [e1] at q1
        simp only at q1
        have E01 := hide e1
        obtain ⟨kb, t2, e2⟩ : ∃ n r, truR t1 = (n, r) := ⟨_, _, rfl⟩
        have q2 := truR_len t1
        rw [e2] at q2
        simp only at q2
        have E02 := hide e2
        clear e1 e2
        obtain ⟨X, hX⟩ : ∃ X, X = wr.heap.size := ⟨_, rfl⟩
        obtain ⟨wx, hwx⟩ : ∃ wx, wx = wr.alloc (.cells #[.int .i64 0, .int .i64 0, .bool false, .string ⟨#[]⟩, .bool false, .string ⟨#[]⟩] 76) := ⟨_, rfl⟩
        have hc0 : Tn 76 wr wx tb B X [.int .i64 0, .int .i64 0, .bool false, .string ⟨#[]⟩, .bool false, .string ⟨#[]⟩] t := by rw [hwx, hX]; exact Tn.start HRD.out
        have HC0 := hide hc0
        have HX := hide hX
        have HWX := hide hwx
        clear hc0 hX hwx
        have hnx := lt_of_heap HC0.out.x
        go_upto_region 6 with fail
        rw [show wr.alloc (.cells #[.int .i64 0, .int .i64 0, .bool false, .string ⟨#[]⟩, .bool false, .string ⟨#[]⟩] 76) = wx from HWX.out.symm]
        rw [← HX.out]
        go_wp2_with fail
        refine (tnum_any _ tb B t HC0.out.rd hB (by omega)).mono ?_
        rintro e wn0 ⟨rfl, hr, ht⟩
        rw [E01.out] at hr ⊢
        simp only [strV] at hr ⊢
        have HC1 := hide (HC0.out.num hrb ht hr)
        clear hr ht
        obtain ⟨c1, f1⟩ := HC1.out.cell 1
        simp only [List.getElem?_cons_zero, List.getElem?_cons_succ] at c1
        have HC2 := hide (HC1.out.set hrb hB 1 (.int .i64 (n1 : Int)))
        simp only [List.set_cons_zero, List.set_cons_succ] at HC2
        go_wp2_with fail
        refine (ttru_any _ tb B t1 HC2.out.rd hB (by omega)).mono ?_
        rintro e wn2 ⟨rfl, hr, ht⟩
        rw [E02.out] at hr ⊢
        simp only [strV] at hr ⊢
        have HC3 := hide (HC2.out.num hrb ht hr)
        clear hr ht
        try clear c1 f1
        obtain ⟨c2, f2⟩ := HC3.out.cell 2
        simp only [List.getElem?_cons_zero, List.getElem?_cons_succ] at c2
        have HC4 := hide (HC3.out.set hrb hB 2 (.bool kb))
        simp only [List.set_cons_zero, List.set_cons_succ] at HC4
        obtain ⟨c2, f2⟩ := HC4.out.cell 2
        simp only [List.getElem?_cons_zero, List.getElem?_cons_succ] at c2
        cases kb with
        | true =>
          obtain ⟨key, t3, e3⟩ : ∃ n r, Bt.textR 60 t2 = (n, r) := ⟨_, _, rfl⟩
          have q3 := (textR_len 60 t2).1
          rw [e3] at q3
          simp only at q3
          have E03 := hide e3
          clear e3
          obtain ⟨gb, t4, e4⟩ : ∃ n r, truR t3 = (n, r) := ⟨_, _, rfl⟩
          have q4 := truR_len t3
          rw [e4] at q4
          simp only at q4
          have E04 := hide e4
          clear e4
          go_wp2_with fail
          refine (ttext_any _ tb B t2 HC4.out.rd hB (by omega) 60 (by omega)).mono ?_
          rintro e wn4 ⟨rfl, hr, ht⟩
          rw [E03.out] at hr ⊢
          simp only [strV] at hr ⊢
          have HC5 := hide (HC4.out.num hrb ht hr)
          clear hr ht
          try clear c2 f2
          try clear c2 f2
          obtain ⟨c3, f3⟩ := HC5.out.cell 3
          simp only [List.getElem?_cons_zero, List.getElem?_cons_succ] at c3
          have HC6 := hide (HC5.out.set hrb hB 3 (.string ⟨key.toArray⟩))
          simp only [List.set_cons_zero, List.set_cons_succ] at HC6
          go_wp2_with fail
          refine (ttru_any _ tb B t3 HC6.out.rd hB (by omega)).mono ?_
          rintro e wn6 ⟨rfl, hr, ht⟩
          rw [E04.out] at hr ⊢
          simp only [strV] at hr ⊢
          have HC7 := hide (HC6.out.num hrb ht hr)
          clear hr ht
          try clear c3 f3
          obtain ⟨c4, f4⟩ := HC7.out.cell 4
          simp only [List.getElem?_cons_zero, List.getElem?_cons_succ] at c4
          have HC8 := hide (HC7.out.set hrb hB 4 (.bool gb))
          simp only [List.set_cons_zero, List.set_cons_succ] at HC8
          obtain ⟨c4, f4⟩ := HC8.out.cell 4
          simp only [List.getElem?_cons_zero, List.getElem?_cons_succ] at c4
          cases gb with
          | true =>
            obtain ⟨c0, f0⟩ := HC8.out.cell 0
            simp only [List.getElem?_cons_zero, List.getElem?_cons_succ] at c0
            obtain ⟨c1, f1⟩ := HC8.out.cell 1
            simp only [List.getElem?_cons_zero, List.getElem?_cons_succ] at c1
            obtain ⟨c2, f2⟩ := HC8.out.cell 2
            simp only [List.getElem?_cons_zero, List.getElem?_cons_succ] at c2
            obtain ⟨c3, f3⟩ := HC8.out.cell 3
            simp only [List.getElem?_cons_zero, List.getElem?_cons_succ] at c3
            obtain ⟨c4, f4⟩ := HC8.out.cell 4
            simp only [List.getElem?_cons_zero, List.getElem?_cons_succ] at c4
            obtain ⟨c5, f5⟩ := HC8.out.cell 5
            simp only [List.getElem?_cons_zero, List.getElem?_cons_succ] at c5
            have hre1 : recR false t = ((⟨0, (n1 : Int), true, key, true, []⟩ : Bt.Rec), t4) := by unfold recR; simp [E01.out, E02.out, E03.out, E04.out]
            have hgd := HGD.out
            rw [hre1] at hgd
            have hst := HST.out
            rw [hre1] at hst
            simp only at hgd hst
            have HGD2 := hide hgd
            have HST2 := hide hst
            have hw2 := HC8.out.turn
            have hszx := hw2.size
            have hrow2 := HROW.out.kept hw2 (fun q hq hm => by have := (HROW.out.lt q hq).1; simp at hm; omega)
            have hta := (Turn.refl [] (wn6.setCell ⟨X, 4, none⟩ (.bool true))).alloc (.cells #[.int .i64 0, .int .i64 (n1 : Int), .bool true, .string ⟨key.toArray⟩, .bool true, .string ⟨#[]⟩] 76)
            obtain ⟨v7, w7, hr7, hrow7, ht7, hown7⟩ := run_append_rec _ w.heap.size v done (⟨0, (n1 : Int), true, key, true, []⟩ : Bt.Rec) wn6.heap.size (hrow2.kept hta (by simp)) (by have h := heap_new (wn6.setCell ⟨X, 4, none⟩ (.bool true)) (.cells (recC (⟨0, (n1 : Int), true, key, true, []⟩ : Bt.Rec)).toArray 76); rw [World.size_setCell] at h; exact h) (by omega) (by simp at hszx ⊢; omega)
            obtain ⟨a3, n3, cp3, hv3⟩ : ∃ a n c, v7 = .slice a n c := hrow7.some_slice
            subst hv3
            have hrd7 := (HC8.out.rd.still hta).kept ht7 (fun hm => by have := (hrow2.lt tb (by simpa using hm)).1; omega) (fun q hq => by have := (hrow2.lt q (by simpa using hq)).1; omega)
            have htw7 : Turn [tb] w w7 := ((HTW.out.same hw2).trans hta (by simp)).trans ht7 (fun q hq => .inr (hrow2.lt q (by simpa using hq)).1)
            have HR7 := hide hr7
            have HROW7 := hide hrow7
            have HRD7 := hide hrd7
            have HTW7 := hide htw7
            clear hr7 hrow7 ht7 hown7 hrd7 htw7 hta hrow2 hw2 hre1 hgd hst
            go_wp2_with (at_builtin; go_must (refine wpList_append_told rfl rfl rfl rfl HR7.out ?_))
            go_roundw
            case rel =>
              refine ⟨_, k', done ++ [(⟨0, (n1 : Int), true, key, true, []⟩ : Bt.Rec)], t4, rfl, by go_num, by omega, HROW7.out, HRD7.out, HTW7.out, ?_, ?_, ?_⟩
              · have h1 := HGD2.out.1.len
                simp only [List.length_append, List.length_cons, List.length_nil]
                cases hb : t4.2 with
                | true => simp; omega
                | false => have := HGD2.out.2 hb; simp; omega
              · have := HGD2.out.1.len; omega
              · rw [HRE.out, HST2.out]
                simp only [List.append_assoc, List.cons_append, List.nil_append]
            case measure => simp only [intOf]; omega
          | false =>
            obtain ⟨val, t5, e5⟩ : ∃ n r, Bt.textR 500 t4 = (n, r) := ⟨_, _, rfl⟩
            have q5 := (textR_len 500 t4).1
            rw [e5] at q5
            simp only at q5
            have E05 := hide e5
            clear e5
            go_wp2_with fail
            refine (ttext_any _ tb B t4 HC8.out.rd hB (by omega) 500 (by omega)).mono ?_
            rintro e wn8 ⟨rfl, hr, ht⟩
            rw [E05.out] at hr ⊢
            simp only [strV] at hr ⊢
            have HC9 := hide (HC8.out.num hrb ht hr)
            clear hr ht
            try clear c4 f4
            try clear c4 f4
            obtain ⟨c5, f5⟩ := HC9.out.cell 5
            simp only [List.getElem?_cons_zero, List.getElem?_cons_succ] at c5
            have HC10 := hide (HC9.out.set hrb hB 5 (.string ⟨val.toArray⟩))
            simp only [List.set_cons_zero, List.set_cons_succ] at HC10
            obtain ⟨c0, f0⟩ := HC10.out.cell 0
            simp only [List.getElem?_cons_zero, List.getElem?_cons_succ] at c0
            obtain ⟨c1, f1⟩ := HC10.out.cell 1
            simp only [List.getElem?_cons_zero, List.getElem?_cons_succ] at c1
            obtain ⟨c2, f2⟩ := HC10.out.cell 2
            simp only [List.getElem?_cons_zero, List.getElem?_cons_succ] at c2
            obtain ⟨c3, f3⟩ := HC10.out.cell 3
            simp only [List.getElem?_cons_zero, List.getElem?_cons_succ] at c3
            obtain ⟨c4, f4⟩ := HC10.out.cell 4
            simp only [List.getElem?_cons_zero, List.getElem?_cons_succ] at c4
            obtain ⟨c5, f5⟩ := HC10.out.cell 5
            simp only [List.getElem?_cons_zero, List.getElem?_cons_succ] at c5
            have hre1 : recR false t = ((⟨0, (n1 : Int), true, key, false, val⟩ : Bt.Rec), t5) := by unfold recR; simp [E01.out, E02.out, E03.out, E04.out, E05.out]
            have hgd := HGD.out
            rw [hre1] at hgd
            have hst := HST.out
            rw [hre1] at hst
            simp only at hgd hst
            have HGD2 := hide hgd
            have HST2 := hide hst
            have hw2 := HC10.out.turn
            have hszx := hw2.size
            have hrow2 := HROW.out.kept hw2 (fun q hq hm => by have := (HROW.out.lt q hq).1; simp at hm; omega)
            have hta := (Turn.refl [] (wn8.setCell ⟨X, 5, none⟩ (.string ⟨val.toArray⟩))).alloc (.cells #[.int .i64 0, .int .i64 (n1 : Int), .bool true, .string ⟨key.toArray⟩, .bool false, .string ⟨val.toArray⟩] 76)
            obtain ⟨v7, w7, hr7, hrow7, ht7, hown7⟩ := run_append_rec _ w.heap.size v done (⟨0, (n1 : Int), true, key, false, val⟩ : Bt.Rec) wn8.heap.size (hrow2.kept hta (by simp)) (by have h := heap_new (wn8.setCell ⟨X, 5, none⟩ (.string ⟨val.toArray⟩)) (.cells (recC (⟨0, (n1 : Int), true, key, false, val⟩ : Bt.Rec)).toArray 76); rw [World.size_setCell] at h; exact h) (by omega) (by simp at hszx ⊢; omega)
            obtain ⟨a3, n3, cp3, hv3⟩ : ∃ a n c, v7 = .slice a n c := hrow7.some_slice
            subst hv3
            have hrd7 := (HC10.out.rd.still hta).kept ht7 (fun hm => by have := (hrow2.lt tb (by simpa using hm)).1; omega) (fun q hq => by have := (hrow2.lt q (by simpa using hq)).1; omega)
            have htw7 : Turn [tb] w w7 := ((HTW.out.same hw2).trans hta (by simp)).trans ht7 (fun q hq => .inr (hrow2.lt q (by simpa using hq)).1)
            have HR7 := hide hr7
            have HROW7 := hide hrow7
            have HRD7 := hide hrd7
            have HTW7 := hide htw7
            clear hr7 hrow7 ht7 hown7 hrd7 htw7 hta hrow2 hw2 hre1 hgd hst
            go_wp2_with (at_builtin; go_must (refine wpList_append_told rfl rfl rfl rfl HR7.out ?_))
            go_roundw
            case rel =>
              refine ⟨_, k', done ++ [(⟨0, (n1 : Int), true, key, false, val⟩ : Bt.Rec)], t5, rfl, by go_num, by omega, HROW7.out, HRD7.out, HTW7.out, ?_, ?_, ?_⟩
              · have h1 := HGD2.out.1.len
                simp only [List.length_append, List.length_cons, List.length_nil]
                cases hb : t5.2 with
                | true => simp; omega
                | false => have := HGD2.out.2 hb; simp; omega
              · have := HGD2.out.1.len; omega
              · rw [HRE.out, HST2.out]
                simp only [List.append_assoc, List.cons_append, List.nil_append]
            case measure => simp only [intOf]; omega

        | false =>
          obtain ⟨gb, t4, e4⟩ : ∃ n r, truR t2 = (n, r) := ⟨_, _, rfl⟩
          have q4 := truR_len t2
          rw [e4] at q4
          simp only at q4
          have E04 := hide e4
          clear e4
          go_wp2_with fail
          refine (ttru_any _ tb B t2 HC4.out.rd hB (by omega)).mono ?_
          rintro e wn4 ⟨rfl, hr, ht⟩
          rw [E04.out] at hr ⊢
          simp only [strV] at hr ⊢
          have HC5 := hide (HC4.out.num hrb ht hr)
          clear hr ht
          try clear c2 f2
          try clear c2 f2
          obtain ⟨c4, f4⟩ := HC5.out.cell 4
          simp only [List.getElem?_cons_zero, List.getElem?_cons_succ] at c4
          have HC6 := hide (HC5.out.set hrb hB 4 (.bool gb))
          simp only [List.set_cons_zero, List.set_cons_succ] at HC6
          obtain ⟨c4, f4⟩ := HC6.out.cell 4
          simp only [List.getElem?_cons_zero, List.getElem?_cons_succ] at c4
          cases gb with
          | true =>
            obtain ⟨c0, f0⟩ := HC6.out.cell 0
            simp only [List.getElem?_cons_zero, List.getElem?_cons_succ] at c0
            obtain ⟨c1, f1⟩ := HC6.out.cell 1
            simp only [List.getElem?_cons_zero, List.getElem?_cons_succ] at c1
            obtain ⟨c2, f2⟩ := HC6.out.cell 2
            simp only [List.getElem?_cons_zero, List.getElem?_cons_succ] at c2
            obtain ⟨c3, f3⟩ := HC6.out.cell 3
            simp only [List.getElem?_cons_zero, List.getElem?_cons_succ] at c3
            obtain ⟨c4, f4⟩ := HC6.out.cell 4
            simp only [List.getElem?_cons_zero, List.getElem?_cons_succ] at c4
            obtain ⟨c5, f5⟩ := HC6.out.cell 5
            simp only [List.getElem?_cons_zero, List.getElem?_cons_succ] at c5
            have hre1 : recR false t = ((⟨0, (n1 : Int), false, [], true, []⟩ : Bt.Rec), t4) := by unfold recR; simp [E01.out, E02.out, E04.out]
            have hgd := HGD.out
            rw [hre1] at hgd
            have hst := HST.out
            rw [hre1] at hst
            simp only at hgd hst
            have HGD2 := hide hgd
            have HST2 := hide hst
            have hw2 := HC6.out.turn
            have hszx := hw2.size
            have hrow2 := HROW.out.kept hw2 (fun q hq hm => by have := (HROW.out.lt q hq).1; simp at hm; omega)
            have hta := (Turn.refl [] (wn4.setCell ⟨X, 4, none⟩ (.bool true))).alloc (.cells #[.int .i64 0, .int .i64 (n1 : Int), .bool false, .string ⟨#[]⟩, .bool true, .string ⟨#[]⟩] 76)
            obtain ⟨v7, w7, hr7, hrow7, ht7, hown7⟩ := run_append_rec _ w.heap.size v done (⟨0, (n1 : Int), false, [], true, []⟩ : Bt.Rec) wn4.heap.size (hrow2.kept hta (by simp)) (by have h := heap_new (wn4.setCell ⟨X, 4, none⟩ (.bool true)) (.cells (recC (⟨0, (n1 : Int), false, [], true, []⟩ : Bt.Rec)).toArray 76); rw [World.size_setCell] at h; exact h) (by omega) (by simp at hszx ⊢; omega)
            obtain ⟨a3, n3, cp3, hv3⟩ : ∃ a n c, v7 = .slice a n c := hrow7.some_slice
            subst hv3
            have hrd7 := (HC6.out.rd.still hta).kept ht7 (fun hm => by have := (hrow2.lt tb (by simpa using hm)).1; omega) (fun q hq => by have := (hrow2.lt q (by simpa using hq)).1; omega)
            have htw7 : Turn [tb] w w7 := ((HTW.out.same hw2).trans hta (by simp)).trans ht7 (fun q hq => .inr (hrow2.lt q (by simpa using hq)).1)
            have HR7 := hide hr7
            have HROW7 := hide hrow7
            have HRD7 := hide hrd7
            have HTW7 := hide htw7
            clear hr7 hrow7 ht7 hown7 hrd7 htw7 hta hrow2 hw2 hre1 hgd hst
            go_wp2_with (at_builtin; go_must (refine wpList_append_told rfl rfl rfl rfl HR7.out ?_))
            go_roundw
            case rel =>
              refine ⟨_, k', done ++ [(⟨0, (n1 : Int), false, [], true, []⟩ : Bt.Rec)], t4, rfl, by go_num, by omega, HROW7.out, HRD7.out, HTW7.out, ?_, ?_, ?_⟩
              · have h1 := HGD2.out.1.len
                simp only [List.length_append, List.length_cons, List.length_nil]
                cases hb : t4.2 with
                | true => simp; omega
                | false => have := HGD2.out.2 hb; simp; omega
              · have := HGD2.out.1.len; omega
              · rw [HRE.out, HST2.out]
                simp only [List.append_assoc, List.cons_append, List.nil_append]
            case measure => simp only [intOf]; omega
          | false =>
            obtain ⟨val, t5, e5⟩ : ∃ n r, Bt.textR 500 t4 = (n, r) := ⟨_, _, rfl⟩
            have q5 := (textR_len 500 t4).1
            rw [e5] at q5
            simp only at q5
            have E05 := hide e5
            clear e5
            go_wp2_with fail
            refine (ttext_any _ tb B t4 HC6.out.rd hB (by omega) 500 (by omega)).mono ?_
            rintro e wn6 ⟨rfl, hr, ht⟩
            rw [E05.out] at hr ⊢
            simp only [strV] at hr ⊢
            have HC7 := hide (HC6.out.num hrb ht hr)
            clear hr ht
            try clear c4 f4
            try clear c4 f4
            obtain ⟨c5, f5⟩ := HC7.out.cell 5
            simp only [List.getElem?_cons_zero, List.getElem?_cons_succ] at c5
            have HC8 := hide (HC7.out.set hrb hB 5 (.string ⟨val.toArray⟩))
            simp only [List.set_cons_zero, List.set_cons_succ] at HC8
            obtain ⟨c0, f0⟩ := HC8.out.cell 0
            simp only [List.getElem?_cons_zero, List.getElem?_cons_succ] at c0
            obtain ⟨c1, f1⟩ := HC8.out.cell 1
            simp only [List.getElem?_cons_zero, List.getElem?_cons_succ] at c1
            obtain ⟨c2, f2⟩ := HC8.out.cell 2
            simp only [List.getElem?_cons_zero, List.getElem?_cons_succ] at c2
            obtain ⟨c3, f3⟩ := HC8.out.cell 3
            simp only [List.getElem?_cons_zero, List.getElem?_cons_succ] at c3
            obtain ⟨c4, f4⟩ := HC8.out.cell 4
            simp only [List.getElem?_cons_zero, List.getElem?_cons_succ] at c4
            obtain ⟨c5, f5⟩ := HC8.out.cell 5
            simp only [List.getElem?_cons_zero, List.getElem?_cons_succ] at c5
            have hre1 : recR false t = ((⟨0, (n1 : Int), false, [], false, val⟩ : Bt.Rec), t5) := by unfold recR; simp [E01.out, E02.out, E04.out, E05.out]
            have hgd := HGD.out
            rw [hre1] at hgd
            have hst := HST.out
            rw [hre1] at hst
            simp only at hgd hst
            have HGD2 := hide hgd
            have HST2 := hide hst
            have hw2 := HC8.out.turn
            have hszx := hw2.size
            have hrow2 := HROW.out.kept hw2 (fun q hq hm => by have := (HROW.out.lt q hq).1; simp at hm; omega)
            have hta := (Turn.refl [] (wn6.setCell ⟨X, 5, none⟩ (.string ⟨val.toArray⟩))).alloc (.cells #[.int .i64 0, .int .i64 (n1 : Int), .bool false, .string ⟨#[]⟩, .bool false, .string ⟨val.toArray⟩] 76)
            obtain ⟨v7, w7, hr7, hrow7, ht7, hown7⟩ := run_append_rec _ w.heap.size v done (⟨0, (n1 : Int), false, [], false, val⟩ : Bt.Rec) wn6.heap.size (hrow2.kept hta (by simp)) (by have h := heap_new (wn6.setCell ⟨X, 5, none⟩ (.string ⟨val.toArray⟩)) (.cells (recC (⟨0, (n1 : Int), false, [], false, val⟩ : Bt.Rec)).toArray 76); rw [World.size_setCell] at h; exact h) (by omega) (by simp at hszx ⊢; omega)
            obtain ⟨a3, n3, cp3, hv3⟩ : ∃ a n c, v7 = .slice a n c := hrow7.some_slice
            subst hv3
            have hrd7 := (HC8.out.rd.still hta).kept ht7 (fun hm => by have := (hrow2.lt tb (by simpa using hm)).1; omega) (fun q hq => by have := (hrow2.lt q (by simpa using hq)).1; omega)
            have htw7 : Turn [tb] w w7 := ((HTW.out.same hw2).trans hta (by simp)).trans ht7 (fun q hq => .inr (hrow2.lt q (by simpa using hq)).1)
            have HR7 := hide hr7
            have HROW7 := hide hrow7
            have HRD7 := hide hrd7
            have HTW7 := hide htw7
            clear hr7 hrow7 ht7 hown7 hrd7 htw7 hta hrow2 hw2 hre1 hgd hst
            go_wp2_with (at_builtin; go_must (refine wpList_append_told rfl rfl rfl rfl HR7.out ?_))
            go_roundw
            case rel =>
              refine ⟨_, k', done ++ [(⟨0, (n1 : Int), false, [], false, val⟩ : Bt.Rec)], t5, rfl, by go_num, by omega, HROW7.out, HRD7.out, HTW7.out, ?_, ?_, ?_⟩
              · have h1 := HGD2.out.1.len
                simp only [List.length_append, List.length_cons, List.length_nil]
                cases hb : t5.2 with
                | true => simp; omega
                | false => have := HGD2.out.2 hb; simp; omega
              · have := HGD2.out.1.len; omega
              · rw [HRE.out, HST2.out]
                simp only [List.append_assoc, List.cons_append, List.nil_append]
            case measure => simp only [intOf]; omega


set_option maxHeartbeats 8000000 in
theorem trecsT_any (w : World) (tb B : Nat) (s : TS) (h : TkAt w tb B s) (hB : B ≤ tb) (hl : s.1.length ≤ 900000) :
    Calls Tryd.prog 16 #[.pointer (some ⟨tb, 0, none⟩), .bool true] w fun e w' => ∃ sv, e = .returned sv ∧ RecRow w' w.heap.size sv (listR (recR true) (Bt.numR s).1 (Bt.numR s).2).1 ∧ TkAt w' tb B (listR (recR true) (Bt.numR s).1 (Bt.numR s).2).2 ∧ Turn [tb] w w' := by
  have hrb0 := TkAt.lt h
  obtain ⟨m0, s0, e0⟩ : ∃ n r, Bt.numR s = (n, r) := ⟨_, _, rfl⟩
  have g0 := numR_len s
  rw [e0] at g0 ⊢
  simp only at g0 ⊢
  have E0 := hide e0
  have HH := hide h
  obtain ⟨res, hres⟩ : ∃ res, res = listR (recR true) m0 s0 := ⟨_, rfl⟩
  rw [← hres]
  have HRES := hide hres
  clear h e0 hres
  go_enter Tryd.func16, Tryd.ntmps16
  go_wp2_with fail
  refine (tnum_any _ tb B s HH.out hB (by omega)).mono ?_
  rintro e w1 ⟨rfl, hr1, ht1⟩
  rw [E0.out] at hr1 ⊢
  simp only at hr1 ⊢
  have HR1 := hide hr1
  have HT1 := hide ht1
  clear hr1 ht1
  go_wp2
  go_loopw [5, 6] (fun lv nv wr => ∃ (v : Value) (k : Nat) (done : List Bt.Rec) (t : TS), v = lv ∧ nv = .int .i64 (k : Int) ∧ k ≤ 1099511627776 ∧ RecRow wr w.heap.size v done ∧ TkAt wr tb B t ∧ Turn [tb] w wr ∧ done.length + t.1.length ≤ 900000 + (if t.2 then 1 else 0) ∧ t.1.length ≤ 900000 ∧ res = (done ++ (listR (recR true) k t).1, (listR (recR true) k t).2)) (fun _ nv _ => (intOf nv).toNat)
  case atStart => exact ⟨_, m0, [], s0, rfl, rfl, g0.2, .inl ⟨rfl, rfl⟩, HR1.out, HT1.out, by simp; omega, by omega, by simpa using HRES.out⟩
  case round =>
    obtain ⟨v, k, done, t, rfl, rfl, hk, hrow, hrd, htw, hlen, htl, hre⟩ := hrel
    have HROW := hide hrow
    have HRD := hide hrd
    have HTW := hide htw
    have HRE := hide hre
    have hrb := TkAt.lt hrd
    have hszw := htw.size
    obtain ⟨rs, b1, b2, b3⟩ := hrd
    have cb : wr.cell? ⟨tb, 1, none⟩ = some (.bool t.2) := by simpa using cell_of b1 1
    clear hrow htw hre b1 b2 b3
    by_cases hk0 : k = 0
    · have hk1 : ¬ (k : Int) > 0 := by omega
      have hfin : listR (recR true) k t = ([], t) := by rw [hk0]; rfl
      have HF := hide hfin
      clear hk0 hfin
      go_wp2
      go_ret
      refine ⟨v, rfl, ?_, ?_, HTW.out⟩
      · rw [HRE.out, HF.out, List.append_nil]; exact HROW.out
      · rw [HRE.out, HF.out]; exact HRD.out
    · have hk1 : (k : Int) > 0 := by omega
      obtain ⟨k', rfl⟩ : ∃ k', k = k' + 1 := ⟨k - 1, by omega⟩
      by_cases hbd : t.2 = true
      · rw [hbd] at cb
        have hfin : listR (recR true) (k' + 1) t = ([], t) := by rw [listR, if_pos hbd]
        have HF := hide hfin
        clear hbd hfin hk0
        go_wp2
        go_ret
        refine ⟨v, rfl, ?_, ?_, HTW.out⟩
        · rw [HRE.out, HF.out, List.append_nil]; exact HROW.out
        · rw [HRE.out, HF.out]; exact HRD.out
      · have hbf : t.2 = false := by simpa using hbd
        rw [hbf] at cb
        rw [hbf] at hlen
        simp only [Bool.false_eq_true, if_false, Nat.add_zero] at hlen
        have hst : listR (recR true) (k' + 1) t = ((recR true t).1 :: (listR (recR true) k' (recR true t).2).1, (listR (recR true) k' (recR true t).2).2) := by rw [listR, if_neg hbd]
        have hgd := recR_gd true t
        have HST := hide hst
        have HGD := hide hgd
        clear hst hbd hbf hk0 hgd
        obtain ⟨n0, t0, e0⟩ : ∃ n r, Bt.numR t = (n, r) := ⟨_, _, rfl⟩
        have q0 := numR_len t
        rw [e0] at q0
        simp only at q0
        have E00 := hide e0
        obtain ⟨n1, t1, e1⟩ : ∃ n r, Bt.numR t0 = (n, r) := ⟨_, _, rfl⟩
        have q1 := numR_len t0
        rw [e1] at q1
        simp only at q1
        have E01 := hide e1
        obtain ⟨kb, t2, e2⟩ : ∃ n r, truR t1 = (n, r) := ⟨_, _, rfl⟩
        have q2 := truR_len t1
        rw [e2] at q2
        simp only at q2
        have E02 := hide e2
        clear e1 e2 e0
        obtain ⟨X, hX⟩ : ∃ X, X = wr.heap.size := ⟨_, rfl⟩
        obtain ⟨wx, hwx⟩ : ∃ wx, wx = wr.alloc (.cells #[.int .i64 0, .int .i64 0, .bool false, .string ⟨#[]⟩, .bool false, .string ⟨#[]⟩] 76) := ⟨_, rfl⟩
        have hc0 : Tn 76 wr wx tb B X [.int .i64 0, .int .i64 0, .bool false, .string ⟨#[]⟩, .bool false, .string ⟨#[]⟩] t := by rw [hwx, hX]; exact Tn.start HRD.out
        have HC0 := hide hc0
        have HX := hide hX
        have HWX := hide hwx
        clear hc0 hX hwx
        have hnx := lt_of_heap HC0.out.x
        go_upto_region 6 with fail
        rw [show wr.alloc (.cells #[.int .i64 0, .int .i64 0, .bool false, .string ⟨#[]⟩, .bool false, .string ⟨#[]⟩] 76) = wx from HWX.out.symm]
        rw [← HX.out]
        go_wp2_with fail
        refine (tnum_any _ tb B t HC0.out.rd hB (by omega)).mono ?_
        rintro e wn0 ⟨rfl, hr, ht⟩
        rw [E00.out] at hr ⊢
        simp only [strV] at hr ⊢
        have HC1 := hide (HC0.out.num hrb ht hr)
        clear hr ht
        obtain ⟨c0, f0⟩ := HC1.out.cell 0
        simp only [List.getElem?_cons_zero, List.getElem?_cons_succ] at c0
        have HC2 := hide (HC1.out.set hrb hB 0 (.int .i64 (n0 : Int)))
        simp only [List.set_cons_zero, List.set_cons_succ] at HC2
        go_wp2_with fail
        refine (tnum_any _ tb B t0 HC2.out.rd hB (by omega)).mono ?_
        rintro e wn2 ⟨rfl, hr, ht⟩
        rw [E01.out] at hr ⊢
        simp only [strV] at hr ⊢
        have HC3 := hide (HC2.out.num hrb ht hr)
        clear hr ht
        try clear c0 f0
        obtain ⟨c1, f1⟩ := HC3.out.cell 1
        simp only [List.getElem?_cons_zero, List.getElem?_cons_succ] at c1
        have HC4 := hide (HC3.out.set hrb hB 1 (.int .i64 (n1 : Int)))
        simp only [List.set_cons_zero, List.set_cons_succ] at HC4
        go_wp2_with fail
        refine (ttru_any _ tb B t1 HC4.out.rd hB (by omega)).mono ?_
        rintro e wn4 ⟨rfl, hr, ht⟩
        rw [E02.out] at hr ⊢
        simp only [strV] at hr ⊢
        have HC5 := hide (HC4.out.num hrb ht hr)
        clear hr ht
        try clear c1 f1
        obtain ⟨c2, f2⟩ := HC5.out.cell 2
        simp only [List.getElem?_cons_zero, List.getElem?_cons_succ] at c2
        have HC6 := hide (HC5.out.set hrb hB 2 (.bool kb))
        simp only [List.set_cons_zero, List.set_cons_succ] at HC6
        obtain ⟨c2, f2⟩ := HC6.out.cell 2
        simp only [List.getElem?_cons_zero, List.getElem?_cons_succ] at c2
        cases kb with
        | true =>
          obtain ⟨key, t3, e3⟩ : ∃ n r, Bt.textR 60 t2 = (n, r) := ⟨_, _, rfl⟩
          have q3 := (textR_len 60 t2).1
          rw [e3] at q3
          simp only at q3
          have E03 := hide e3
          clear e3
          obtain ⟨gb, t4, e4⟩ : ∃ n r, truR t3 = (n, r) := ⟨_, _, rfl⟩
          have q4 := truR_len t3
          rw [e4] at q4
          simp only at q4
          have E04 := hide e4
          clear e4
          go_wp2_with fail
          refine (ttext_any _ tb B t2 HC6.out.rd hB (by omega) 60 (by omega)).mono ?_
          rintro e wn6 ⟨rfl, hr, ht⟩
          rw [E03.out] at hr ⊢
          simp only [strV] at hr ⊢
          have HC7 := hide (HC6.out.num hrb ht hr)
          clear hr ht
          try clear c2 f2
          try clear c2 f2
          obtain ⟨c3, f3⟩ := HC7.out.cell 3
          simp only [List.getElem?_cons_zero, List.getElem?_cons_succ] at c3
          have HC8 := hide (HC7.out.set hrb hB 3 (.string ⟨key.toArray⟩))
          simp only [List.set_cons_zero, List.set_cons_succ] at HC8
          go_wp2_with fail
          refine (ttru_any _ tb B t3 HC8.out.rd hB (by omega)).mono ?_
          rintro e wn8 ⟨rfl, hr, ht⟩
          rw [E04.out] at hr ⊢
          simp only [strV] at hr ⊢
          have HC9 := hide (HC8.out.num hrb ht hr)
          clear hr ht
          try clear c3 f3
          obtain ⟨c4, f4⟩ := HC9.out.cell 4
          simp only [List.getElem?_cons_zero, List.getElem?_cons_succ] at c4
          have HC10 := hide (HC9.out.set hrb hB 4 (.bool gb))
          simp only [List.set_cons_zero, List.set_cons_succ] at HC10
          obtain ⟨c4, f4⟩ := HC10.out.cell 4
          simp only [List.getElem?_cons_zero, List.getElem?_cons_succ] at c4
          cases gb with
          | true =>
            obtain ⟨c0, f0⟩ := HC10.out.cell 0
            simp only [List.getElem?_cons_zero, List.getElem?_cons_succ] at c0
            obtain ⟨c1, f1⟩ := HC10.out.cell 1
            simp only [List.getElem?_cons_zero, List.getElem?_cons_succ] at c1
            obtain ⟨c2, f2⟩ := HC10.out.cell 2
            simp only [List.getElem?_cons_zero, List.getElem?_cons_succ] at c2
            obtain ⟨c3, f3⟩ := HC10.out.cell 3
            simp only [List.getElem?_cons_zero, List.getElem?_cons_succ] at c3
            obtain ⟨c4, f4⟩ := HC10.out.cell 4
            simp only [List.getElem?_cons_zero, List.getElem?_cons_succ] at c4
            obtain ⟨c5, f5⟩ := HC10.out.cell 5
            simp only [List.getElem?_cons_zero, List.getElem?_cons_succ] at c5
            have hre1 : recR true t = ((⟨(n0 : Int), (n1 : Int), true, key, true, []⟩ : Bt.Rec), t4) := by unfold recR; simp [E00.out, E01.out, E02.out, E03.out, E04.out]
            have hgd := HGD.out
            rw [hre1] at hgd
            have hst := HST.out
            rw [hre1] at hst
            simp only at hgd hst
            have HGD2 := hide hgd
            have HST2 := hide hst
            have hw2 := HC10.out.turn
            have hszx := hw2.size
            have hrow2 := HROW.out.kept hw2 (fun q hq hm => by have := (HROW.out.lt q hq).1; simp at hm; omega)
            have hta := (Turn.refl [] (wn8.setCell ⟨X, 4, none⟩ (.bool true))).alloc (.cells #[.int .i64 (n0 : Int), .int .i64 (n1 : Int), .bool true, .string ⟨key.toArray⟩, .bool true, .string ⟨#[]⟩] 76)
            obtain ⟨v7, w7, hr7, hrow7, ht7, hown7⟩ := run_append_rec _ w.heap.size v done (⟨(n0 : Int), (n1 : Int), true, key, true, []⟩ : Bt.Rec) wn8.heap.size (hrow2.kept hta (by simp)) (by have h := heap_new (wn8.setCell ⟨X, 4, none⟩ (.bool true)) (.cells (recC (⟨(n0 : Int), (n1 : Int), true, key, true, []⟩ : Bt.Rec)).toArray 76); rw [World.size_setCell] at h; exact h) (by omega) (by simp at hszx ⊢; omega)
            obtain ⟨a3, n3, cp3, hv3⟩ : ∃ a n c, v7 = .slice a n c := hrow7.some_slice
            subst hv3
            have hrd7 := (HC10.out.rd.still hta).kept ht7 (fun hm => by have := (hrow2.lt tb (by simpa using hm)).1; omega) (fun q hq => by have := (hrow2.lt q (by simpa using hq)).1; omega)
            have htw7 : Turn [tb] w w7 := ((HTW.out.same hw2).trans hta (by simp)).trans ht7 (fun q hq => .inr (hrow2.lt q (by simpa using hq)).1)
            have HR7 := hide hr7
            have HROW7 := hide hrow7
            have HRD7 := hide hrd7
            have HTW7 := hide htw7
            clear hr7 hrow7 ht7 hown7 hrd7 htw7 hta hrow2 hw2 hre1 hgd hst
            go_wp2_with (at_builtin; go_must (refine wpList_append_told rfl rfl rfl rfl HR7.out ?_))
            go_roundw
            case rel =>
              refine ⟨_, k', done ++ [(⟨(n0 : Int), (n1 : Int), true, key, true, []⟩ : Bt.Rec)], t4, rfl, by go_num, by omega, HROW7.out, HRD7.out, HTW7.out, ?_, ?_, ?_⟩
              · have h1 := HGD2.out.1.len
                simp only [List.length_append, List.length_cons, List.length_nil]
                cases hb : t4.2 with
                | true => simp; omega
                | false => have := HGD2.out.2 hb; simp; omega
              · have := HGD2.out.1.len; omega
              · rw [HRE.out, HST2.out]
                simp only [List.append_assoc, List.cons_append, List.nil_append]
            case measure => simp only [intOf]; omega
          | false =>
            obtain ⟨val, t5, e5⟩ : ∃ n r, Bt.textR 500 t4 = (n, r) := ⟨_, _, rfl⟩
            have q5 := (textR_len 500 t4).1
            rw [e5] at q5
            simp only at q5
            have E05 := hide e5
            clear e5
            go_wp2_with fail
            refine (ttext_any _ tb B t4 HC10.out.rd hB (by omega) 500 (by omega)).mono ?_
            rintro e wn10 ⟨rfl, hr, ht⟩
            rw [E05.out] at hr ⊢
            simp only [strV] at hr ⊢
            have HC11 := hide (HC10.out.num hrb ht hr)
            clear hr ht
            try clear c4 f4
            try clear c4 f4
            obtain ⟨c5, f5⟩ := HC11.out.cell 5
            simp only [List.getElem?_cons_zero, List.getElem?_cons_succ] at c5
            have HC12 := hide (HC11.out.set hrb hB 5 (.string ⟨val.toArray⟩))
            simp only [List.set_cons_zero, List.set_cons_succ] at HC12
            obtain ⟨c0, f0⟩ := HC12.out.cell 0
            simp only [List.getElem?_cons_zero, List.getElem?_cons_succ] at c0
            obtain ⟨c1, f1⟩ := HC12.out.cell 1
            simp only [List.getElem?_cons_zero, List.getElem?_cons_succ] at c1
            obtain ⟨c2, f2⟩ := HC12.out.cell 2
            simp only [List.getElem?_cons_zero, List.getElem?_cons_succ] at c2
            obtain ⟨c3, f3⟩ := HC12.out.cell 3
            simp only [List.getElem?_cons_zero, List.getElem?_cons_succ] at c3
            obtain ⟨c4, f4⟩ := HC12.out.cell 4
            simp only [List.getElem?_cons_zero, List.getElem?_cons_succ] at c4
            obtain ⟨c5, f5⟩ := HC12.out.cell 5
            simp only [List.getElem?_cons_zero, List.getElem?_cons_succ] at c5
            have hre1 : recR true t = ((⟨(n0 : Int), (n1 : Int), true, key, false, val⟩ : Bt.Rec), t5) := by unfold recR; simp [E00.out, E01.out, E02.out, E03.out, E04.out, E05.out]
            have hgd := HGD.out
            rw [hre1] at hgd
            have hst := HST.out
            rw [hre1] at hst
            simp only at hgd hst
            have HGD2 := hide hgd
            have HST2 := hide hst
            have hw2 := HC12.out.turn
            have hszx := hw2.size
            have hrow2 := HROW.out.kept hw2 (fun q hq hm => by have := (HROW.out.lt q hq).1; simp at hm; omega)
            have hta := (Turn.refl [] (wn10.setCell ⟨X, 5, none⟩ (.string ⟨val.toArray⟩))).alloc (.cells #[.int .i64 (n0 : Int), .int .i64 (n1 : Int), .bool true, .string ⟨key.toArray⟩, .bool false, .string ⟨val.toArray⟩] 76)
            obtain ⟨v7, w7, hr7, hrow7, ht7, hown7⟩ := run_append_rec _ w.heap.size v done (⟨(n0 : Int), (n1 : Int), true, key, false, val⟩ : Bt.Rec) wn10.heap.size (hrow2.kept hta (by simp)) (by have h := heap_new (wn10.setCell ⟨X, 5, none⟩ (.string ⟨val.toArray⟩)) (.cells (recC (⟨(n0 : Int), (n1 : Int), true, key, false, val⟩ : Bt.Rec)).toArray 76); rw [World.size_setCell] at h; exact h) (by omega) (by simp at hszx ⊢; omega)
            obtain ⟨a3, n3, cp3, hv3⟩ : ∃ a n c, v7 = .slice a n c := hrow7.some_slice
            subst hv3
            have hrd7 := (HC12.out.rd.still hta).kept ht7 (fun hm => by have := (hrow2.lt tb (by simpa using hm)).1; omega) (fun q hq => by have := (hrow2.lt q (by simpa using hq)).1; omega)
            have htw7 : Turn [tb] w w7 := ((HTW.out.same hw2).trans hta (by simp)).trans ht7 (fun q hq => .inr (hrow2.lt q (by simpa using hq)).1)
            have HR7 := hide hr7
            have HROW7 := hide hrow7
            have HRD7 := hide hrd7
            have HTW7 := hide htw7
            clear hr7 hrow7 ht7 hown7 hrd7 htw7 hta hrow2 hw2 hre1 hgd hst
            go_wp2_with (at_builtin; go_must (refine wpList_append_told rfl rfl rfl rfl HR7.out ?_))
            go_roundw
            case rel =>
              refine ⟨_, k', done ++ [(⟨(n0 : Int), (n1 : Int), true, key, false, val⟩ : Bt.Rec)], t5, rfl, by go_num, by omega, HROW7.out, HRD7.out, HTW7.out, ?_, ?_, ?_⟩
              · have h1 := HGD2.out.1.len
                simp only [List.length_append, List.length_cons, List.length_nil]
                cases hb : t5.2 with
                | true => simp; omega
                | false => have := HGD2.out.2 hb; simp; omega
              · have := HGD2.out.1.len; omega
              · rw [HRE.out, HST2.out]
                simp only [List.append_assoc, List.cons_append, List.nil_append]
            case measure => simp only [intOf]; omega

        | false =>
          obtain ⟨gb, t4, e4⟩ : ∃ n r, truR t2 = (n, r) := ⟨_, _, rfl⟩
          have q4 := truR_len t2
          rw [e4] at q4
          simp only at q4
          have E04 := hide e4
          clear e4
          go_wp2_with fail
          refine (ttru_any _ tb B t2 HC6.out.rd hB (by omega)).mono ?_
          rintro e wn6 ⟨rfl, hr, ht⟩
          rw [E04.out] at hr ⊢
          simp only [strV] at hr ⊢
          have HC7 := hide (HC6.out.num hrb ht hr)
          clear hr ht
          try clear c2 f2
          try clear c2 f2
          obtain ⟨c4, f4⟩ := HC7.out.cell 4
          simp only [List.getElem?_cons_zero, List.getElem?_cons_succ] at c4
          have HC8 := hide (HC7.out.set hrb hB 4 (.bool gb))
          simp only [List.set_cons_zero, List.set_cons_succ] at HC8
          obtain ⟨c4, f4⟩ := HC8.out.cell 4
          simp only [List.getElem?_cons_zero, List.getElem?_cons_succ] at c4
          cases gb with
          | true =>
            obtain ⟨c0, f0⟩ := HC8.out.cell 0
            simp only [List.getElem?_cons_zero, List.getElem?_cons_succ] at c0
            obtain ⟨c1, f1⟩ := HC8.out.cell 1
            simp only [List.getElem?_cons_zero, List.getElem?_cons_succ] at c1
            obtain ⟨c2, f2⟩ := HC8.out.cell 2
            simp only [List.getElem?_cons_zero, List.getElem?_cons_succ] at c2
            obtain ⟨c3, f3⟩ := HC8.out.cell 3
            simp only [List.getElem?_cons_zero, List.getElem?_cons_succ] at c3
            obtain ⟨c4, f4⟩ := HC8.out.cell 4
            simp only [List.getElem?_cons_zero, List.getElem?_cons_succ] at c4
            obtain ⟨c5, f5⟩ := HC8.out.cell 5
            simp only [List.getElem?_cons_zero, List.getElem?_cons_succ] at c5
            have hre1 : recR true t = ((⟨(n0 : Int), (n1 : Int), false, [], true, []⟩ : Bt.Rec), t4) := by unfold recR; simp [E00.out, E01.out, E02.out, E04.out]
            have hgd := HGD.out
            rw [hre1] at hgd
            have hst := HST.out
            rw [hre1] at hst
            simp only at hgd hst
            have HGD2 := hide hgd
            have HST2 := hide hst
            have hw2 := HC8.out.turn
            have hszx := hw2.size
            have hrow2 := HROW.out.kept hw2 (fun q hq hm => by have := (HROW.out.lt q hq).1; simp at hm; omega)
            have hta := (Turn.refl [] (wn6.setCell ⟨X, 4, none⟩ (.bool true))).alloc (.cells #[.int .i64 (n0 : Int), .int .i64 (n1 : Int), .bool false, .string ⟨#[]⟩, .bool true, .string ⟨#[]⟩] 76)
            obtain ⟨v7, w7, hr7, hrow7, ht7, hown7⟩ := run_append_rec _ w.heap.size v done (⟨(n0 : Int), (n1 : Int), false, [], true, []⟩ : Bt.Rec) wn6.heap.size (hrow2.kept hta (by simp)) (by have h := heap_new (wn6.setCell ⟨X, 4, none⟩ (.bool true)) (.cells (recC (⟨(n0 : Int), (n1 : Int), false, [], true, []⟩ : Bt.Rec)).toArray 76); rw [World.size_setCell] at h; exact h) (by omega) (by simp at hszx ⊢; omega)
            obtain ⟨a3, n3, cp3, hv3⟩ : ∃ a n c, v7 = .slice a n c := hrow7.some_slice
            subst hv3
            have hrd7 := (HC8.out.rd.still hta).kept ht7 (fun hm => by have := (hrow2.lt tb (by simpa using hm)).1; omega) (fun q hq => by have := (hrow2.lt q (by simpa using hq)).1; omega)
            have htw7 : Turn [tb] w w7 := ((HTW.out.same hw2).trans hta (by simp)).trans ht7 (fun q hq => .inr (hrow2.lt q (by simpa using hq)).1)
            have HR7 := hide hr7
            have HROW7 := hide hrow7
            have HRD7 := hide hrd7
            have HTW7 := hide htw7
            clear hr7 hrow7 ht7 hown7 hrd7 htw7 hta hrow2 hw2 hre1 hgd hst
            go_wp2_with (at_builtin; go_must (refine wpList_append_told rfl rfl rfl rfl HR7.out ?_))
            go_roundw
            case rel =>
              refine ⟨_, k', done ++ [(⟨(n0 : Int), (n1 : Int), false, [], true, []⟩ : Bt.Rec)], t4, rfl, by go_num, by omega, HROW7.out, HRD7.out, HTW7.out, ?_, ?_, ?_⟩
              · have h1 := HGD2.out.1.len
                simp only [List.length_append, List.length_cons, List.length_nil]
                cases hb : t4.2 with
                | true => simp; omega
                | false => have := HGD2.out.2 hb; simp; omega
              · have := HGD2.out.1.len; omega
              · rw [HRE.out, HST2.out]
                simp only [List.append_assoc, List.cons_append, List.nil_append]
            case measure => simp only [intOf]; omega
          | false =>
            obtain ⟨val, t5, e5⟩ : ∃ n r, Bt.textR 500 t4 = (n, r) := ⟨_, _, rfl⟩
            have q5 := (textR_len 500 t4).1
            rw [e5] at q5
            simp only at q5
            have E05 := hide e5
            clear e5
            go_wp2_with fail
            refine (ttext_any _ tb B t4 HC8.out.rd hB (by omega) 500 (by omega)).mono ?_
            rintro e wn8 ⟨rfl, hr, ht⟩
            rw [E05.out] at hr ⊢
            simp only [strV] at hr ⊢
            have HC9 := hide (HC8.out.num hrb ht hr)
            clear hr ht
            try clear c4 f4
            try clear c4 f4
            obtain ⟨c5, f5⟩ := HC9.out.cell 5
            simp only [List.getElem?_cons_zero, List.getElem?_cons_succ] at c5
            have HC10 := hide (HC9.out.set hrb hB 5 (.string ⟨val.toArray⟩))
            simp only [List.set_cons_zero, List.set_cons_succ] at HC10
            obtain ⟨c0, f0⟩ := HC10.out.cell 0
            simp only [List.getElem?_cons_zero, List.getElem?_cons_succ] at c0
            obtain ⟨c1, f1⟩ := HC10.out.cell 1
            simp only [List.getElem?_cons_zero, List.getElem?_cons_succ] at c1
            obtain ⟨c2, f2⟩ := HC10.out.cell 2
            simp only [List.getElem?_cons_zero, List.getElem?_cons_succ] at c2
            obtain ⟨c3, f3⟩ := HC10.out.cell 3
            simp only [List.getElem?_cons_zero, List.getElem?_cons_succ] at c3
            obtain ⟨c4, f4⟩ := HC10.out.cell 4
            simp only [List.getElem?_cons_zero, List.getElem?_cons_succ] at c4
            obtain ⟨c5, f5⟩ := HC10.out.cell 5
            simp only [List.getElem?_cons_zero, List.getElem?_cons_succ] at c5
            have hre1 : recR true t = ((⟨(n0 : Int), (n1 : Int), false, [], false, val⟩ : Bt.Rec), t5) := by unfold recR; simp [E00.out, E01.out, E02.out, E04.out, E05.out]
            have hgd := HGD.out
            rw [hre1] at hgd
            have hst := HST.out
            rw [hre1] at hst
            simp only at hgd hst
            have HGD2 := hide hgd
            have HST2 := hide hst
            have hw2 := HC10.out.turn
            have hszx := hw2.size
            have hrow2 := HROW.out.kept hw2 (fun q hq hm => by have := (HROW.out.lt q hq).1; simp at hm; omega)
            have hta := (Turn.refl [] (wn8.setCell ⟨X, 5, none⟩ (.string ⟨val.toArray⟩))).alloc (.cells #[.int .i64 (n0 : Int), .int .i64 (n1 : Int), .bool false, .string ⟨#[]⟩, .bool false, .string ⟨val.toArray⟩] 76)
            obtain ⟨v7, w7, hr7, hrow7, ht7, hown7⟩ := run_append_rec _ w.heap.size v done (⟨(n0 : Int), (n1 : Int), false, [], false, val⟩ : Bt.Rec) wn8.heap.size (hrow2.kept hta (by simp)) (by have h := heap_new (wn8.setCell ⟨X, 5, none⟩ (.string ⟨val.toArray⟩)) (.cells (recC (⟨(n0 : Int), (n1 : Int), false, [], false, val⟩ : Bt.Rec)).toArray 76); rw [World.size_setCell] at h; exact h) (by omega) (by simp at hszx ⊢; omega)
            obtain ⟨a3, n3, cp3, hv3⟩ : ∃ a n c, v7 = .slice a n c := hrow7.some_slice
            subst hv3
            have hrd7 := (HC10.out.rd.still hta).kept ht7 (fun hm => by have := (hrow2.lt tb (by simpa using hm)).1; omega) (fun q hq => by have := (hrow2.lt q (by simpa using hq)).1; omega)
            have htw7 : Turn [tb] w w7 := ((HTW.out.same hw2).trans hta (by simp)).trans ht7 (fun q hq => .inr (hrow2.lt q (by simpa using hq)).1)
            have HR7 := hide hr7
            have HROW7 := hide hrow7
            have HRD7 := hide hrd7
            have HTW7 := hide htw7
            clear hr7 hrow7 ht7 hown7 hrd7 htw7 hta hrow2 hw2 hre1 hgd hst
            go_wp2_with (at_builtin; go_must (refine wpList_append_told rfl rfl rfl rfl HR7.out ?_))
            go_roundw
            case rel =>
              refine ⟨_, k', done ++ [(⟨(n0 : Int), (n1 : Int), false, [], false, val⟩ : Bt.Rec)], t5, rfl, by go_num, by omega, HROW7.out, HRD7.out, HTW7.out, ?_, ?_, ?_⟩
              · have h1 := HGD2.out.1.len
                simp only [List.length_append, List.length_cons, List.length_nil]
                cases hb : t5.2 with
                | true => simp; omega
                | false => have := HGD2.out.2 hb; simp; omega
              · have := HGD2.out.1.len; omega
              · rw [HRE.out, HST2.out]
                simp only [List.append_assoc, List.cons_append, List.nil_append]
            case measure => simp only [intOf]; omega

end Go.Proofs.YtcpjohpbakbggaaDoor.Wi

/- What the document's taker reads: bounds. -/
namespace Go.Proofs.YtcpjohpbakbggaaDoor.Wi
open Go.RowKit Go.Maps
set_option maxRecDepth 100000
set_option linter.unusedSimpArgs false
set_option linter.unusedVariables false

theorem recR_rd (o : Bool) (t : TS) (hl : t.1.length ≤ 1000000) : RecRd (recR o t).1 := by
  obtain ⟨z, hz⟩ : ∃ z : Nat × TS, z = if o then Bt.numR t else (0, t) := ⟨_, rfl⟩
  have g0 : Gd t z.2 := by rw [hz]; split; exact numR_gd t; exact Gd.refl t
  have z0 : z.1 ≤ 1099511627776 := by rw [hz]; split; exact (numR_len t).2; exact Nat.zero_le _
  have a1 := (numR_len z.2).2
  have g1 := numR_gd z.2
  have g2 := truR_gd (Bt.numR z.2).2
  obtain ⟨k, hk⟩ : ∃ k : List UInt8 × TS, k = if (truR (Bt.numR z.2).2).1 then Bt.textR 60 (truR (Bt.numR z.2).2).2 else ([], (truR (Bt.numR z.2).2).2) := ⟨_, rfl⟩
  have l1 := g0.len
  have l2 := g1.len
  have l3 := g2.len
  have k1 : k.1.length ≤ 1000000 := by
    rw [hk]; split
    · have := (textR_len 60 (truR (Bt.numR z.2).2).2).2; omega
    · simp
  have g3 : Gd (truR (Bt.numR z.2).2).2 k.2 := by rw [hk]; split; exact textR_gd _ _; exact Gd.refl _
  have g4 := truR_gd k.2
  have l4 := g3.len
  have l5 := g4.len
  obtain ⟨v, hv⟩ : ∃ v : List UInt8 × TS, v = if (truR k.2).1 then ([], (truR k.2).2) else Bt.textR 500 (truR k.2).2 := ⟨_, rfl⟩
  have v1 : v.1.length ≤ 1000000 := by
    rw [hv]; split
    · simp
    · have := (textR_len 500 (truR k.2).2).2; omega
  have ho : (recR o t).1.off = (z.1 : Int) := by unfold recR; simp only [← hz]
  have ht : (recR o t).1.time = ((Bt.numR z.2).1 : Int) := by unfold recR; simp only [← hz]
  have hkey : (recR o t).1.key = k.1 := by unfold recR; simp only [← hz, ← hk]
  have hval : (recR o t).1.value = v.1 := by unfold recR; simp only [← hz, ← hk, ← hv]
  exact ⟨⟨by rw [ho]; omega, by rw [ho]; omega, by rw [ht]; omega, by rw [ht]; omega, by rw [hkey]; omega, by rw [hval]; omega⟩, by rw [hkey]; omega, by rw [hval]; omega⟩
theorem listR_all (o : Bool) : ∀ (n : Nat) (t : TS), t.1.length ≤ 900000 → (∀ r ∈ (listR (recR o) n t).1, RecRd r) ∧ (listR (recR o) n t).1.length ≤ t.1.length + (if t.2 then 0 else 1) ∧ Gd t (listR (recR o) n t).2
  | 0, t, _ => by simp [listR]; exact Gd.refl t
  | n + 1, t, hl => by
    unfold listR
    cases hb : t.2 with
    | true => simp; exact Gd.refl t
    | false =>
      rw [if_neg (by simp)]
      obtain ⟨g, glt⟩ := recR_gd o t
      have gl := g.len
      obtain ⟨k1, k2, k3⟩ := listR_all o n (recR o t).2 (by omega)
      refine ⟨fun x hx => ?_, ?_, g.trans k3⟩
      · rcases List.mem_cons.1 hx with rfl | hx
        · exact recR_rd o t (by omega)
        · exact k1 x hx
      · simp only [List.length_cons]
        cases hc : (recR o t).2.2 with
        | true => simp [hc] at k2 ⊢; omega
        | false => have := glt hc; simp [hc] at k2 ⊢; omega
end Go.Proofs.YtcpjohpbakbggaaDoor.Wi

/- A struct under way beside what is answered, read by the document's taker. -/
namespace Go.Proofs.YtcpjohpbakbggaaDoor.Wi
open Go.RowKit Go.Maps
set_option maxRecDepth 100000
set_option linter.unusedSimpArgs false
set_option linter.unusedVariables false

/-- A struct under way: its own box, the box of what is answered, the taker. -/
structure Ct (T : TypeId) (w0 w : World) (rb B X Y : Nat) (cs ys : List Value) (l : TS) : Prop where
  hx : w0.heap.size ≤ X
  hy : w0.heap.size ≤ Y
  hxy : X ≠ Y
  x : w.heap[X]? = some (.cells cs.toArray T (0, 0))
  y : w.heap[Y]? = some (.cells ys.toArray T (0, 0))
  rd : TkAt w rb B l
  turn : Turn [rb] w0 w
section
variable {T : TypeId} {w0 w w' : World} {rb B X Y : Nat} {cs ys : List Value} {l l' : TS}
theorem Ct.num (h : Ct T w0 w rb B X Y cs ys l) (hrb : rb < w0.heap.size) (ht : Turn [rb] w w') (hrd : TkAt w' rb B l') : Ct T w0 w' rb B X Y cs ys l' :=
  ⟨h.hx, h.hy, h.hxy, ht.heap h.x (by have := h.hx; simp; omega), ht.heap h.y (by have := h.hy; simp; omega), hrd, h.turn.same ht⟩
theorem Ct.set (h : Ct T w0 w rb B X Y cs ys l) (hrb : rb < w0.heap.size) (hB : B ≤ rb) (i : Nat) (v : Value) : Ct T w0 (w.setCell ⟨X, i, none⟩ v) rb B X Y (cs.set i v) ys l := by
  have ht : Turn [X] w (w.setCell ⟨X, i, none⟩ v) := (Turn.refl _ _).setCell (.inl (by simp)) _
  have hx := h.hx
  exact ⟨h.hx, h.hy, h.hxy, by simpa using heap_set h.x i v, ht.heap h.y (by simpa using fun e => h.hxy e.symm), h.rd.kept ht (by simp; omega) (by simp; omega), h.turn.trans ht (fun k hk => .inr (by simp at hk; omega))⟩
theorem Ct.cell (h : Ct T w0 w rb B X Y cs ys l) (i : Nat) : w.cell? ⟨X, i, none⟩ = cs[i]? ∧ w.frozen? ⟨X, i, none⟩ = false ∧ w.cell? ⟨Y, i, none⟩ = ys[i]? ∧ w.frozen? ⟨Y, i, none⟩ = false := by
  refine ⟨?_, frozen_of h.x i, ?_, frozen_of h.y i⟩
  · rw [cell_of h.x]; simp
  · rw [cell_of h.y]; simp
end
theorem Ct.fin2 {T : TypeId} {w0 w : World} {rb B X Y : Nat} {cs ys : List Value} {l : TS} (h : Ct T w0 w rb B X Y cs ys l) (hrb : rb < w0.heap.size) (hB : B ≤ rb) :
    (w.setRow Y cs.toArray).heap[Y]? = some (.cells cs.toArray T (0, 0)) ∧ TkAt (w.setRow Y cs.toArray) rb B l ∧ Turn [rb] w0 (w.setRow Y cs.toArray) ∧ Turn [Y] w (w.setRow Y cs.toArray) := by
  have hy := h.hy
  have ht : Turn [Y] w (w.setRow Y cs.toArray) := ⟨rfl, rfl, rfl, by simp, fun k _ hk => setRow_other w Y k _ (fun e => hk (by simp [e]))⟩
  exact ⟨setRow_heap w Y _ _ _ _ h.y, h.rd.kept ht (by simp; omega) (by simp; omega), h.turn.trans ht (fun k hk => .inr (by simp at hk; omega)), ht⟩
theorem Ct.start {T : TypeId} {w wy w2 : World} {rb B : Nat} {ys cs : List Value} {l : TS} (hwy : wy = w.alloc (.cells ys.toArray T)) (ht : Turn [rb] wy w2) (hrb : rb < w.heap.size) (hr : TkAt w2 rb B l) :
    Ct T w (w2.alloc (.cells cs.toArray T)) rb B w2.heap.size w.heap.size cs ys l := by
  have hsz : w.heap.size < wy.heap.size := by rw [hwy]; simp
  have h2 := ht.size
  have hy : w2.heap[w.heap.size]? = some (.cells ys.toArray T (0, 0)) := ht.heap (by rw [hwy]; exact heap_new w _) (by simp; omega)
  refine ⟨by omega, Nat.le_refl _, by omega, heap_new w2 _, ((Turn.refl [] w2).alloc _).heap hy (by simp), hr.still ((Turn.refl [] w2).alloc _), ?_⟩
  have h0 : Turn [rb] w wy := by rw [hwy]; exact (Turn.refl _ w).alloc _
  exact (h0.same ht).alloc _
end Go.Proofs.YtcpjohpbakbggaaDoor.Wi

/- record.four: the number at the beginning of bytes. -/
namespace Go.Proofs.YtcpjohpbakbggaaDoor
open Go.RowKit Go.Maps
set_option maxRecDepth 100000
set_option linter.unusedSimpArgs false
set_option linter.unusedVariables false

theorem or_add (a b k : Nat) (hb : b < 2 ^ k) (ha : a % 2 ^ k = 0) (h : a + b < 9223372036854775808) : bits .or .i64 (a : Int) (b : Int) = ((a + b : Nat) : Int) := by
  have hj : a ||| b = a + b := nat_join k a b ha hb
  rw [i64_or_nat _ _ (by omega) (by omega) (by rw [hj]; exact h), hj]
/-- The first four bytes. -/
theorem BytesAt.four {w : World} {v : Value} {bs : List UInt8} (h : BytesAt w v bs) (h4 : 4 ≤ bs.length) : ∃ p c, v = .slice (some p) bs.length c ∧ bs.length ≤ c ∧ c ≤ maxLen ∧
    w.cell? p = some (.int .u8 (bs.getD 0 0).toNat) ∧ w.cell? ⟨p.block, p.off + 1, none⟩ = some (.int .u8 (bs.getD 1 0).toNat) ∧ w.cell? ⟨p.block, p.off + 2, none⟩ = some (.int .u8 (bs.getD 2 0).toNat) ∧ w.cell? ⟨p.block, p.off + 3, none⟩ = some (.int .u8 (bs.getD 3 0).toNat) := by
  obtain ⟨a, c, rfl, h1, h2, -, hc⟩ := h
  obtain ⟨p, rfl, g0⟩ := hc 0 (by omega)
  refine ⟨p, c, rfl, h1, h2, ?_, ?_, ?_, ?_⟩
  · rw [add_zero] at g0; simpa [encB, List.getD, show 0 < bs.length by omega] using g0
  · obtain ⟨q, hq, g⟩ := hc 1 (by omega); cases hq
    rw [show (⟨p.block, p.off + 1, none⟩ : Addr) = p.add 1 from rfl, g]; simp [encB, List.getD, show 1 < bs.length by omega]
  · obtain ⟨q, hq, g⟩ := hc 2 (by omega); cases hq
    rw [show (⟨p.block, p.off + 2, none⟩ : Addr) = p.add 2 from rfl, g]; simp [encB, List.getD, show 2 < bs.length by omega]
  · obtain ⟨q, hq, g⟩ := hc 3 (by omega); cases hq
    rw [show (⟨p.block, p.off + 3, none⟩ : Addr) = p.add 3 from rfl, g]; simp [encB, List.getD, show 3 < bs.length by omega]

end Go.Proofs.YtcpjohpbakbggaaDoor
