/- wire's reader: a placed record, a topic, lists. -/
import Derived.Test.YtodadoaindfecaaDoorWiw
import Derived.Test.YtodadoaindfecaaDoorRow
namespace Go.Proofs.YtodadoaindfecaaDoor.Wi
open Go.RowKit Go.Maps
set_option maxRecDepth 100000
set_option linter.unusedSimpArgs false
set_option linter.unusedVariables false

theorem num_lt {l : List UInt8} (h : l ≠ []) : (Bt.num l).2.length < l.length := by
  have h0 := List.length_pos_iff.2 h
  unfold Bt.num
  have := Nu.get_size (b := l)
  split
  · simpa using h0
  · simp; omega
theorem recP_len (l : List UInt8) : (recP l).2.length ≤ (Bt.num l).2.length := by
  unfold recP
  simp only
  have h1 := num_len (Bt.num l).2
  split
  · have h2 := text_len (Bt.num (Bt.num l).2).2
    have h3 := num_len (Bt.text (Bt.num (Bt.num l).2).2).2
    split
    · simp only; omega
    · have h4 := text_len (Bt.num (Bt.text (Bt.num (Bt.num l).2).2).2).2
      omega
  · have h3 := num_len (Bt.num (Bt.num l).2).2
    simp only
    split
    · simp only; omega
    · have h4 := text_len (Bt.num (Bt.num (Bt.num l).2).2).2
      omega
theorem recP_lt {l : List UInt8} (h : l ≠ []) : (recP l).2.length < l.length := Nat.lt_of_le_of_lt (recP_len l) (num_lt h)
theorem plP_lt {l : List UInt8} (h : l ≠ []) : (plP l).2.length < l.length := by
  have h1 := recP_len (Bt.num l).2
  have h2 := num_len (Bt.num l).2
  have h3 := num_lt h
  have e : (plP l).2 = (recP (Bt.num l).2).2 := by simp only [plP]
  rw [e]
  omega
theorem tpP_lt {l : List UInt8} (h : l ≠ []) : (tpP l).2.length < l.length := by
  have h3 := num_lt h
  have h1 : (Bt.text l).2.length ≤ (Bt.num l).2.length := by
    unfold Bt.text
    split
    · simp
    · simp
  have h2 := num_len (Bt.text l).2
  have h4 := num_len (Bt.num (Bt.text l).2).2
  unfold tpP
  simp only
  generalize Bt.text l = a at *
  generalize Bt.num a.2 = b at *
  omega
/-- What a record that is read is like. -/
structure RecRd (r : Bt.Rec) : Prop where
  ok : RecOk r
  key : r.key.length ≤ 1000000
  value : r.value.length ≤ 1000000
theorem recP_rd {l : List UInt8} (h : l.length ≤ 1000000) : RecRd (recP l).1 := by
  have h0 := num_len l
  have h1 := num_len (Bt.num l).2
  have h2 := text_len (Bt.num (Bt.num l).2).2
  have hk : (recP l).1.key.length ≤ 1000000 := by
    show (if (Bt.num (Bt.num l).2).1 = 1 then Bt.text (Bt.num (Bt.num l).2).2 else ([], (Bt.num (Bt.num l).2).2)).1.length ≤ _
    split
    · omega
    · simp
  have hkk : (if (Bt.num (Bt.num l).2).1 = 1 then Bt.text (Bt.num (Bt.num l).2).2 else ([], (Bt.num (Bt.num l).2).2)).2.length ≤ l.length := by
    split
    · omega
    · simp only; omega
  have hv : (recP l).1.value.length ≤ 1000000 := by
    unfold recP
    simp only
    generalize (if (Bt.num (Bt.num l).2).1 = 1 then Bt.text (Bt.num (Bt.num l).2).2 else ([], (Bt.num (Bt.num l).2).2)) = K at hkk ⊢
    have h3 := num_len K.2
    have h4 := text_len (Bt.num K.2).2
    split
    · simp
    · omega
  have ht : (recP l).1.time = ((Bt.num l).1 : Int) := rfl
  have ho : (recP l).1.off = 0 := rfl
  exact ⟨⟨by rw [ho]; omega, by rw [ho]; omega, by rw [ht]; omega, by rw [ht]; omega, by omega, by omega⟩, hk, hv⟩
theorem plP_rd {l : List UInt8} (h : l.length ≤ 1000000) : RecRd (plP l).1 := by
  have h0 := num_len l
  have h1 := recP_rd (l := (Bt.num l).2) (by omega)
  have ho : (plP l).1.off = ((Bt.num l).1 : Int) := by simp only [plP]
  have ht : (plP l).1.time = (recP (Bt.num l).2).1.time := by simp only [plP]
  have hk : (plP l).1.key = (recP (Bt.num l).2).1.key := by simp only [plP]
  have hv : (plP l).1.value = (recP (Bt.num l).2).1.value := by simp only [plP]
  exact ⟨⟨by rw [ho]; omega, by rw [ho]; omega, by rw [ht]; exact h1.ok.time1, by rw [ht]; exact h1.ok.time2, by rw [hk]; exact h1.ok.key, by rw [hv]; exact h1.ok.value⟩, by rw [hk]; exact h1.key, by rw [hv]; exact h1.value⟩
structure TpRd (t : Tp) : Prop where
  ok : TpOk t
  name : t.name.length ≤ 1000000
theorem tpP_rd {l : List UInt8} (h : l.length ≤ 1000000) : TpRd (tpP l).1 := by
  have h0 := text_len l
  have h1 := num_len (Bt.text l).2
  have hn : (tpP l).1.name = (Bt.text l).1 := by simp only [tpP]
  have hp : (tpP l).1.parts = ((Bt.num (Bt.text l).2).1 : Int) := by simp only [tpP]
  exact ⟨⟨⟨by rw [hp]; omega, by rw [hp]; omega⟩, by rw [hn]; omega⟩, by rw [hn]; omega⟩
theorem listP_all {α : Type} {one : List UInt8 → α × List UInt8} {ok : α → Prop} {L : Nat} (h1 : ∀ l, l.length ≤ L → ok (one l).1) (h2 : ∀ l, l ≠ [] → (one l).2.length < l.length) : ∀ (n : Nat) (l : List UInt8), l.length ≤ L → (∀ x ∈ (listP one n l).1, ok x) ∧ (listP one n l).1.length ≤ l.length ∧ (listP one n l).2.length ≤ l.length
  | 0, l, _ => by simp [listP]
  | n + 1, l, hl => by
    unfold listP
    by_cases h0 : l = []
    · simp [h0]
    · rw [if_neg h0]
      have h3 := h2 l h0
      obtain ⟨k1, k2, k3⟩ := listP_all h1 h2 n (one l).2 (by omega)
      refine ⟨fun x hx => ?_, by simp only [List.length_cons]; omega, by simp only; omega⟩
      rcases List.mem_cons.1 hx with rfl | hx
      · exact h1 l hl
      · exact k1 x hx
theorem listP_nil {α : Type} (one : List UInt8 → α × List UInt8) (n : Nat) : listP one n [] = ([], []) := by cases n <;> simp [listP]
theorem listP_step {α : Type} (one : List UInt8 → α × List UInt8) {n : Nat} {l : List UInt8} (h : l ≠ []) : listP one (n + 1) l = ((one l).1 :: (listP one n (one l).2).1, (listP one n (one l).2).2) := by
  rw [listP, if_neg h]

/-- A row of topics. -/
abbrev TpRow (w : World) (base : Nat) (v : Value) (l : List Tp) : Prop := GRow 102 3 tpC w base v l
theorem tpC_len (t : Tp) : (tpC t).length = 3 := rfl
theorem infoTp : (Tryd.prog.info? 102).map (fun i => (i.zero.map (fun z => z.cells.size), i.size, i.bytes)) = some (some 3, 3, 32) := by kernel_rfl
theorem app_tp (w : World) (base : Nat) (v : Value) (xs : List Tp) (x : Tp) (k : Nat) (hrow : TpRow w base v xs) (hk : w.heap[k]? = some (.cells (tpC x).toArray 102 (0, 0))) (hlen : xs.length ≤ 1000000) (hbase : base ≤ w.heap.size) :
    ∃ v' w', (Builtin.append_ #[55, 55] 55 #[v, .slice (some ⟨k, 0, none⟩) 1 1]).run Tryd.prog w = .ok v' w' ∧ TpRow w' base v' (xs ++ [x]) ∧ Turn v.ownBlock.toList w w' ∧ (∀ j ∈ v'.ownBlock, j ∈ v.ownBlock ∨ w.heap.size ≤ j) := by
  have h := infoTp
  cases hi : Tryd.prog.info? 102 with
  | none => rw [hi] at h; cases h
  | some i =>
    rw [hi] at h
    simp only [Option.map_some, Option.some.injEq, Prod.mk.injEq, Option.map_eq_some_iff] at h
    obtain ⟨⟨z, hz, hzs⟩, hs, hb⟩ := h
    exact run_append_g (P := Tryd.prog) 55 55 Tryd.underlying55 i z hi hz hzs hs (by omega) tpC_len (by intro x u hu; simp [tpC] at hu; rcases hu with rfl | rfl | rfl <;> rfl) w base v xs x k hrow hk hlen hbase
theorem TpRow.tops {w : World} {base : Nat} {sv : Value} {ts : List Tp} (h : TpRow w base sv ts) (ok : ∀ t ∈ ts, TpOk t) : TopsAt w sv ts := by
  obtain ⟨a, c, rfl, h1, h2⟩ := h.form
  refine ⟨a, c, rfl, h1, h2, fun e => ?_, fun j hj => ?_⟩
  · rcases h with ⟨e1, -⟩ | ⟨g, cap, cur, e1, -⟩
    · simp only [Value.slice.injEq] at e1; exact e1.2.2
    · simp only [Value.slice.injEq] at e1; rw [e] at e1; cases e1.1
  · obtain ⟨g, cap, e1, hc, -⟩ := h.at tpC_len hj
    simp only [Value.slice.injEq] at e1
    obtain ⟨rfl, -, rfl⟩ := e1
    refine ⟨ok _ (List.getElem_mem _), ⟨g, 0, none⟩, rfl, fun i u hu => ?_⟩
    have hi : i < 3 := by have := (List.getElem?_eq_some_iff.1 hu).1; simpa [tpC] using this
    have := hc i hi
    rw [hu] at this
    have e2 : ((⟨g, 0, none⟩ : Addr).add (j * 3)).add i = ⟨g, j * 3 + i, none⟩ := by
      rw [add_add, addr_add]
    rw [e2]
    exact this

set_option maxHeartbeats 4000000 in
theorem rpl_any (w : World) (rb B : Nat) (l : List UInt8) (h : RdW w rb B l) (hB : B ≤ rb) (hl : l.length ≤ 1000000) :
    Calls Tryd.prog 79 #[.pointer (some ⟨rb, 0, none⟩)] w fun e w' => e = .returned (recV (plP l).1) ∧ RdW w' rb B (plP l).2 ∧ Turn [rb] w w' := by
  have hrb := h.lt
  obtain ⟨n0, r0, e0⟩ : ∃ n r, Bt.num l = (n, r) := ⟨_, _, rfl⟩
  obtain ⟨ro, rt, rk, rkey, rg, rv, r1, e1⟩ : ∃ ro rt rk rkey rg rv r, recP r0 = ((⟨ro, rt, rk, rkey, rg, rv⟩ : Bt.Rec), r) := ⟨_, _, _, _, _, _, _, rfl⟩
  have g0 := num_len l
  rw [e0] at g0
  simp only at g0
  have HE : Hid (plP l = (⟨n0, rt, rk, rkey, rg, rv⟩, r1)) := by
    show _ = _
    unfold plP
    rw [e0]
    simp only [e1]
  obtain ⟨wy, hwy⟩ : ∃ wy, wy = w.alloc (.cells zR.toArray 133) := ⟨_, rfl⟩
  have hty : Turn [] w wy := by rw [hwy]; exact (Turn.refl [] w).alloc _
  have E0 := hide e0
  have E1 := hide e1
  have HWY := hide hwy
  have HRY := hide (h.still hty)
  clear h hwy hty e0 e1
  go_enter Tryd.func79, Tryd.ntmps79
  go_wp2_with fail
  rw [show w.alloc (.cells #[.int .i64 0, .int .i64 0, .bool false, .string ⟨#[]⟩, .bool false, .string ⟨#[]⟩] 133) = wy from HWY.out.symm]
  refine (wnum_any _ rb B l HRY.out hB hl).mono ?_
  rintro e w1 ⟨rfl, hr1, ht1⟩
  rw [E0.out] at hr1 ⊢
  have HR1 := hide hr1
  have HT1 := hide ht1
  clear hr1 ht1
  go_wp2_with fail
  refine (rrec_any _ rb B r0 HR1.out hB (by omega)).mono ?_
  rintro e w2 ⟨rfl, hr2, ht2⟩
  rw [E1.out] at hr2 ⊢
  simp only at hr2 ⊢
  have hc3 := Cn.start (cs := [.int .i64 ro, .int .i64 rt, .bool rk, .string ⟨rkey.toArray⟩, .bool rg, .string ⟨rv.toArray⟩]) HWY.out (HT1.out.same ht2) hrb hr2
  obtain ⟨X, hX⟩ : ∃ X, X = w2.heap.size := ⟨_, rfl⟩
  obtain ⟨wx, hwx⟩ : ∃ wx, wx = w2.alloc (.cells #[.int .i64 ro, .int .i64 rt, .bool rk, .string ⟨rkey.toArray⟩, .bool rg, .string ⟨rv.toArray⟩] 133) := ⟨_, rfl⟩
  have hc3' : Cn 133 w wx rb B X w.heap.size [.int .i64 ro, .int .i64 rt, .bool rk, .string ⟨rkey.toArray⟩, .bool rg, .string ⟨rv.toArray⟩] zR r1 := by
    rw [hwx, hX]; exact hc3
  have HC4 := hide hc3'
  have HWX := hide hwx
  have HX := hide hX
  clear hc3 hc3' hwx hX hr2 ht2
  have HN : Hid (X < wx.heap.size) := lt_of_heap HC4.out.x
  simp only [recV, strV]
  go_upto_region 3 with fail
  rw [show w2.alloc (.cells #[.int .i64 ro, .int .i64 rt, .bool rk, .string ⟨rkey.toArray⟩, .bool rg, .string ⟨rv.toArray⟩] 133) = wx from HWX.out.symm]
  rw [← HX.out]
  obtain ⟨c0, f0, y0, g0⟩ := HC4.out.cell 0
  simp only [zR, List.set_cons_zero, List.set_cons_succ, List.getElem?_cons_zero, List.getElem?_cons_succ] at c0 y0
  obtain ⟨c1, f1, y1, g1⟩ := HC4.out.cell 1
  simp only [zR, List.set_cons_zero, List.set_cons_succ, List.getElem?_cons_zero, List.getElem?_cons_succ] at c1 y1
  obtain ⟨c2, f2, y2, g2⟩ := HC4.out.cell 2
  simp only [zR, List.set_cons_zero, List.set_cons_succ, List.getElem?_cons_zero, List.getElem?_cons_succ] at c2 y2
  obtain ⟨c3, f3, y3, g3⟩ := HC4.out.cell 3
  simp only [zR, List.set_cons_zero, List.set_cons_succ, List.getElem?_cons_zero, List.getElem?_cons_succ] at c3 y3
  obtain ⟨c4, f4, y4, g4⟩ := HC4.out.cell 4
  simp only [zR, List.set_cons_zero, List.set_cons_succ, List.getElem?_cons_zero, List.getElem?_cons_succ] at c4 y4
  obtain ⟨c5, f5, y5, g5⟩ := HC4.out.cell 5
  simp only [zR, List.set_cons_zero, List.set_cons_succ, List.getElem?_cons_zero, List.getElem?_cons_succ] at c5 y5
  have HC8 := hide (HC4.out.set hrb hB 0 (.int .i64 (n0 : Int)))
  simp only [List.set_cons_zero, List.set_cons_succ] at HC8
  have hxy1 : ¬ X = w.heap.size := HC8.out.hxy
  have hxy2 : ¬ w.heap.size = X := fun e => hxy1 e.symm
  clear c1 f1 c2 f2 c3 f3 c4 f4 c5 f5 y0 g0 y1 g1 y2 g2 y3 g3 y4 g4 y5 g5
  obtain ⟨cz0, fz0, yz0, gz0⟩ := HC8.out.cell 0
  simp only [zR, List.set_cons_zero, List.set_cons_succ, List.getElem?_cons_zero, List.getElem?_cons_succ] at cz0 yz0
  obtain ⟨cz1, fz1, yz1, gz1⟩ := HC8.out.cell 1
  simp only [zR, List.set_cons_zero, List.set_cons_succ, List.getElem?_cons_zero, List.getElem?_cons_succ] at cz1 yz1
  obtain ⟨cz2, fz2, yz2, gz2⟩ := HC8.out.cell 2
  simp only [zR, List.set_cons_zero, List.set_cons_succ, List.getElem?_cons_zero, List.getElem?_cons_succ] at cz2 yz2
  obtain ⟨cz3, fz3, yz3, gz3⟩ := HC8.out.cell 3
  simp only [zR, List.set_cons_zero, List.set_cons_succ, List.getElem?_cons_zero, List.getElem?_cons_succ] at cz3 yz3
  obtain ⟨cz4, fz4, yz4, gz4⟩ := HC8.out.cell 4
  simp only [zR, List.set_cons_zero, List.set_cons_succ, List.getElem?_cons_zero, List.getElem?_cons_succ] at cz4 yz4
  obtain ⟨cz5, fz5, yz5, gz5⟩ := HC8.out.cell 5
  simp only [zR, List.set_cons_zero, List.set_cons_succ, List.getElem?_cons_zero, List.getElem?_cons_succ] at cz5 yz5
  go_wp2
  have hf := HC8.out.fin hrb hB rfl
  have hld := load6 hf.1
  simp only [setN, Nat.reduceAdd] at hf hld
  refine bodyPost_ret (v := recV ⟨n0, rt, rk, rkey, rg, rv⟩) (by simp [results, Tryd.results79, asAddr, hld, Result.andThen, recV, strV, recC]) rfl ?_
  rw [HE.out]
  exact ⟨rfl, hf.2.1, hf.2.2⟩

set_option maxHeartbeats 4000000 in
theorem rtp_any (w : World) (rb B : Nat) (l : List UInt8) (h : RdW w rb B l) (hB : B ≤ rb) (hl : l.length ≤ 1000000) :
    Calls Tryd.prog 81 #[.pointer (some ⟨rb, 0, none⟩)] w fun e w' => e = .returned (.agg #[strV (tpP l).1.name, .int .i64 (tpP l).1.parts, .bool (tpP l).1.compact]) ∧ RdW w' rb B (tpP l).2 ∧ Turn [rb] w w' := by
  have hrb := h.lt
  obtain ⟨t0, r0, e0⟩ : ∃ n r, Bt.text l = (n, r) := ⟨_, _, rfl⟩
  obtain ⟨n1, r1, e1⟩ : ∃ n r, Bt.num r0 = (n, r) := ⟨_, _, rfl⟩
  obtain ⟨n2, r2, e2⟩ : ∃ n r, Bt.num r1 = (n, r) := ⟨_, _, rfl⟩
  have g0 := text_len l
  have g1 := num_len r0
  rw [e0] at g0
  rw [e1] at g1
  simp only at g0 g1
  have HE : Hid (tpP l = (⟨t0, n1, decide (n2 = 1)⟩, r2)) := by
    show _ = _
    unfold tpP
    simp only [e0, e1, e2]
  obtain ⟨wy, hwy⟩ : ∃ wy, wy = w.alloc (.cells #[.string ⟨#[]⟩, .int .i64 0, .bool false] 102) := ⟨_, rfl⟩
  have hty : Turn [] w wy := by rw [hwy]; exact (Turn.refl [] w).alloc _
  have hyy : wy.heap[w.heap.size]? = some (.cells ([.string ⟨#[]⟩, .int .i64 0, .bool false] : List Value).toArray 102 (0, 0)) := by rw [hwy]; exact heap_new w _
  have E0 := hide e0
  have E1 := hide e1
  have E2 := hide e2
  have HWY := hide hwy
  have HYY := hide hyy
  have HTY := hide hty
  have HRY := hide (h.still hty)
  clear h hwy hty e0 e1 e2 hyy
  go_enter Tryd.func81, Tryd.ntmps81
  go_wp2_with fail
  rw [show w.alloc (.cells #[.string ⟨#[]⟩, .int .i64 0, .bool false] 102) = wy from HWY.out.symm]
  refine (wtext_any _ rb B l HRY.out hB hl).mono ?_
  rintro e w1 ⟨rfl, hr1, ht1⟩
  rw [E0.out] at hr1 ⊢
  have HR1 := hide hr1
  have HT1 := hide ht1
  clear hr1 ht1
  go_wp2_with fail
  refine (wnum_any _ rb B r0 HR1.out hB (by omega)).mono ?_
  rintro e w2 ⟨rfl, hr2, ht2⟩
  rw [E1.out] at hr2 ⊢
  have HR2 := hide hr2
  have HT2 := hide (HT1.out.same ht2)
  clear hr2 ht2
  go_wp2_with fail
  refine (wtru_any _ rb B r1 HR2.out hB (by omega)).mono ?_
  rintro e w3 ⟨rfl, hr3, ht3⟩
  rw [E2.out] at hr3 ⊢
  simp only at hr3 ⊢
  have HT3 := hide (HT2.out.same ht3)
  have hy3 := HT3.out.heap HYY.out (by simp; omega)
  have c0 : w3.cell? ⟨w.heap.size, 0, none⟩ = some (.string ⟨#[]⟩) := by simpa using cell_of hy3 0
  have c1 : w3.cell? ⟨w.heap.size, 1, none⟩ = some (.int .i64 0) := by simpa using cell_of hy3 1
  have c2 : w3.cell? ⟨w.heap.size, 2, none⟩ = some (.bool false) := by simpa using cell_of hy3 2
  have f0 : w3.frozen? ⟨w.heap.size, 0, none⟩ = false := frozen_of hy3 0
  have f1 : w3.frozen? ⟨w.heap.size, 1, none⟩ = false := frozen_of hy3 1
  have f2 : w3.frozen? ⟨w.heap.size, 2, none⟩ = false := frozen_of hy3 2
  have HY3 := hide hy3
  have HR3 := hide hr3
  clear hy3 hr3 ht3
  simp only [strV]
  go_wp2
  have hf := setN_heap [.string ⟨t0.toArray⟩, .int .i64 (n1 : Int), .bool (decide (n2 = 1))] 0 _ _ HY3.out (by simp)
  have ht4 := setN_turn w.heap.size [.string ⟨t0.toArray⟩, .int .i64 (n1 : Int), .bool (decide (n2 = 1))] 0 w3
  have hr4 := HR3.out.kept ht4 (by simp; omega) (by simp; omega)
  simp only [List.take_zero, List.nil_append, List.length_cons, List.length_nil, Nat.zero_add, Nat.reduceAdd, List.drop_succ_cons, List.drop_zero, List.append_nil, List.drop_nil] at hf
  have hld := load3 hf
  simp only [setN, Nat.reduceAdd, Nat.zero_add] at hld ht4 hr4
  refine bodyPost_ret (v := .agg #[.string ⟨t0.toArray⟩, .int .i64 (n1 : Int), .bool (decide (n2 = 1))]) (by simp [results, Tryd.results81, asAddr, hld, Result.andThen]) rfl ?_
  rw [HE.out]
  exact ⟨rfl, hr4, ((HTY.out.mono (by simp)).same HT3.out).trans ht4 (fun k hk => .inr (by simp at hk; omega))⟩
end Go.Proofs.YtodadoaindfecaaDoor.Wi
