/- Sgr, Lge, Lgf, Lgm, Rest2A, Sgd, Lgo, Lgg, Late: texts merged. -/
import Derived.Test.YtmdmdbobbepogaaGreatDoorM5
import Derived.Test.YtmdmdbobbepogaaGreatDoorM3
import Derived.Test.YtmdmdbobbepogaaGreatDoorM1
import Derived.Test.YtmdmdbobbepogaaGreatDoorM4
import Derived.Test.YtmdmdbobbepogaaGreatDoorM2
/- (*segment.Segment).Read. -/
namespace Go.Proofs.YtmdmdbobbepogaaGreatDoor.Sg
open Go.RowKit Go.Maps
set_option maxRecDepth 100000
set_option linter.unusedSimpArgs false
set_option linter.unusedVariables false
attribute [local go_sem] Oper.semAt_some
open Dk (DA DiskAt Parts Did errR errV)

/-- A batch, and the slice of its records. -/
structure BV where
  x : Bt.Bat
  a : Option Addr
  n : Nat
  c : Nat
def BV.sl (y : BV) : Value := .slice y.a y.n y.c
def batC (y : BV) : List Value := [.int .i64 y.x.base, .int .i64 y.x.fin, .slice y.a y.n y.c]
theorem batC_len : ∀ y, (batC y).length = 3 := fun _ => rfl
/-- A row of batches, each with its records. -/
structure BRow (w : World) (base : Nat) (lv : Value) (ys : List BV) : Prop where
  row : GRow 76 3 batC w base lv ys
  recs : ∀ y ∈ ys, RecsAt w y.sl y.x.recs
  own : ∀ y ∈ ys, y.x.recs ≠ [] → ∀ k ∈ y.sl.ownBlock, base ≤ k
  sep : ∀ y ∈ ys, y.x.recs ≠ [] → ∀ k ∈ y.sl.ownBlock, k ∉ lv.ownBlock
theorem BRow.nil (w : World) (base : Nat) : BRow w base (.slice none 0 0) [] := ⟨.inl ⟨rfl, rfl⟩, by simp, by simp, by simp⟩
theorem BRow.still {w w' : World} {base : Nat} {lv : Value} {ys : List BV} (h : BRow w base lv ys) (ht : Turn [] w w') : BRow w' base lv ys := ⟨h.row.still ht, fun y hy => (h.recs y hy).still ht, h.own, h.sep⟩
theorem Tryz.infoBa : (Tryz.prog.info? 76).map (fun i => (i.zero, i.size, i.bytes)) = some (some (.agg #[.int .i64 0, .int .i64 0, .slice none 0 0]), 3, 40) := by kernel_rfl
theorem app_bat (w : World) (base : Nat) (v : Value) (xs : List BV) (x : BV) (k : Nat) (hrow : GRow 76 3 batC w base v xs) (hk : w.heap[k]? = some (.cells (batC x).toArray 76 (0, 0))) (hlen : xs.length ≤ 1000000) (hbase : base ≤ w.heap.size) :
    ∃ v' w', (Builtin.append_ #[111, 111] 111 #[v, .slice (some ⟨k, 0, none⟩) 1 1]).run Tryz.prog w = .ok v' w' ∧ GRow 76 3 batC w' base v' (xs ++ [x]) ∧ Turn v.ownBlock.toList w w' ∧ (∀ j ∈ v'.ownBlock, j ∈ v.ownBlock ∨ w.heap.size ≤ j) := by
  obtain ⟨i, hi, e⟩ := Option.map_eq_some_iff.1 Tryz.infoBa
  simp only [Prod.mk.injEq] at e
  exact run_append_g (P := Tryz.prog) 111 111 Tryz.underlying111 i _ hi e.1 (by rfl) e.2.1 (by omega) batC_len (fun x u hu => by simp [batC] at hu; rcases hu with rfl | rfl | rfl <;> rfl) w base v xs x k hrow hk hlen hbase

/-- How many of the batches from one on a read tells. -/
def Sel (most : Int) (zs : List Bt.Bat) (k : Nat) : Prop := k ≤ zs.length ∧ (∀ j, 1 ≤ j → j < k → ((flat (zs.take (j + 1))).length : Int) ≤ most) ∧ (k < zs.length → 0 < k ∧ most < ((flat (zs.take (k + 1))).length : Int))
def finAbove (xs : List Bt.Bat) (from' : Int) (k : Nat) : Bool := match xs[k]? with
  | some x => decide (from' < x.fin)
  | none => true
theorem chain_fin : ∀ {xs : List Bt.Bat} {b : Int}, Chain b xs → ∀ x ∈ xs, b < x.fin
  | x :: r, b, h, y, hy => by
    have h1 := Bt.chk_ok (Bt.encErr_ok h.1).1
    have h2 := h.2.1
    rcases List.mem_cons.1 hy with rfl | hy
    · omega
    · have := chain_fin h.2.2 y hy; omega
theorem fin_mono : ∀ {xs : List Bt.Bat} {b : Int}, Chain b xs → ∀ (from' : Int) (i j : Nat), i ≤ j → finAbove xs from' i = true → finAbove xs from' j = true
  | [], b, h, fr, i, j, hij, hi => by simp [finAbove]
  | x :: r, b, h, fr, i, j, hij, hi => by
    cases j with
    | zero => obtain rfl : i = 0 := by omega
              exact hi
    | succ j =>
      cases i with
      | succ i =>
        have := fin_mono h.2.2 fr i j (by omega) (by simpa [finAbove] using hi)
        simpa [finAbove] using this
      | zero =>
        simp only [finAbove, List.getElem?_cons_zero, decide_eq_true_eq] at hi
        simp only [finAbove, List.getElem?_cons_succ]
        cases hr : r[j]? with
        | none => rfl
        | some y => have := chain_fin h.2.2 y (List.mem_of_getElem? hr); simp; omega
theorem least_exists (f : Nat → Bool) (hm : ∀ i j, i ≤ j → f i = true → f j = true) : ∀ n, ∃ m, Least n f m
  | 0 => ⟨0, Nat.le_refl _, fun i h => absurd h (Nat.not_lt_zero _), fun i _ h => absurd h (Nat.not_lt_zero _)⟩
  | n + 1 => by
    obtain ⟨m, h1, h2, h3⟩ := least_exists f hm n
    cases hf : f n with
    | true => exact ⟨m, by omega, h2, fun i hi hn => by
        by_cases h : i < n
        · exact h3 i hi h
        · obtain rfl : i = n := by omega
          exact hf⟩
    | false =>
      refine ⟨n + 1, Nat.le_refl _, fun i hi => ?_, fun i hi hn => absurd hi (by omega)⟩
      cases hfi : f i with
      | false => rfl
      | true => have := hm i n (by omega) hfi; rw [hf] at this; cases this
theorem least_unique {n : Nat} {f : Nat → Bool} {m m' : Nat} (h : Least n f m) (h' : Least n f m') : m = m' := by
  rcases Nat.lt_trichotomy m m' with h1 | h1 | h1
  · have a := h'.2.1 m h1
    have b := h.2.2 m (Nat.le_refl _) (by have := h'.1; omega)
    rw [a] at b; cases b
  · exact h1
  · have a := h.2.1 m' h1
    have b := h'.2.2 m' (Nat.le_refl _) (by have := h.1; omega)
    rw [a] at b; cases b
theorem readL_at {xs : List Bt.Bat} {k : Nat} (hk : k < xs.length) : Dk.readL (flat xs) (flat (xs.take k)).length (Bt.encB xs[k]).length = Bt.encB xs[k] := by
  have e : flat xs = flat (xs.take k) ++ (Bt.encB xs[k] ++ flat (xs.drop (k + 1))) := by
    have e : flat xs = flat (xs.take k) ++ flat (xs.drop k) := by rw [← flat_append, List.take_append_drop]
    rw [e, List.drop_eq_getElem_cons hk]
    rfl
  have hp := encB_pos xs[k]
  have hl := congrArg List.length e
  rw [List.length_append, List.length_append] at hl
  unfold Dk.readL
  rw [if_neg (by omega)]
  conv => lhs; rw [e]
  simp
def advP (a : Option Addr) (n c : Nat) : Option Addr := if c = n then a else a.map (·.add (n * 5))
theorem run_fromP (a : Option Addr) (l c n : Nat) (hn : n ≤ l) (w : World) : (Instr.slice 101 (.slice a l c) (some (.int .i64 (n : Int))) none none).run Tryz.prog w = .ok (.slice (advP a n c) (l - n) (c - n)) w := by
  have h := sizePl w
  simp [Instr.slice, run_underlying Tryz.underlying101, Instr.sliceBounds, run_sliceBound, h, Result.andThen, hn, advP]

set_option maxHeartbeats 8000000 in
theorem read_any (w : World) (base d : Nat) (F : List Nat) (A : DA) (sb : Nat) (sv : Value) (file : ByteArray) (b0 : Int) (xs : List Bt.Bat) (h : Both w base d F A sb sv file b0 (pls 0 (-1) xs)) (hfs : file.size ≤ maxLen) (f : Dk.FA) (hf : A.file file.data.toList = some f) (hfb : f.bytes = flat xs) (hch : Chain b0 xs)
    (from' most : Int) (hmo : -9223372036854775808 ≤ most ∧ most ≤ 9223372036854775807) :
    Calls Tryz.prog 75 #[.pointer (some ⟨sb, 0, none⟩), .int .i64 from', .int .i64 most] w fun e w' => ∃ lv ys m k, e = .returned (.tuple #[lv, .nilIface]) ∧ Least xs.length (finAbove xs from') m ∧ BRow w' w.heap.size lv ys ∧ ys.map (·.x) = (xs.drop m).take k ∧ Sel most (xs.drop m) k ∧ Turn [] w w' := by
  obtain ⟨m0, hm0⟩ := least_exists (finAbove xs from') (fun i j => fin_mono hch from' i j) xs.length
  have hfl := flat_len xs
  have hfsh := file_short h.disk hf
  rw [hfb] at hfsh
  obtain ⟨xa, xc, hsv, hxl, hxm⟩ := h.seg.row.form
  rw [pls_len] at hsv hxl
  have hpl := pls_len xs 0 (-1)
  subst hsv
  have HB := hide h
  have HF := hide hf
  have HFB := hide hfb
  have HCH := hide hch
  have HM0 := hide hm0
  have hsb := lt_of_heap h.seg.box
  have hm0l := hm0.1
  have hmf : ∀ (fn : Fn) (first cap : Array Value) (w : World), (Instr.makeFunc fn first cap).run Tryz.prog w = .ok (.func fn first cap) w := fun _ _ _ _ => rfl
  clear h hf hfb hch hm0
  go_enter Tryz.func75, Tryz.ntmps75
  go_wp2
  obtain ⟨w0, hw0⟩ : ∃ w0, w0 = w.alloc (.cells #[.int .i64 from'] 3) := ⟨_, rfl⟩
  rw [← hw0]
  have HFR : Hid (w0.heap[w.heap.size]? = some (.cells #[.int .i64 from'] 3 (0, 0))) := by show _ = _; rw [hw0]; exact heap_new w _
  have HT0 : Hid (Turn [] w w0) := by show Turn _ _ _; rw [hw0]; exact (Turn.refl [] w).alloc _
  clear hw0
  refine wp_region_loose (Turn []) (by kernel_rfl) (by kernel_rfl) (by kernel_rfl) (by kernel_rfl) rfl (Turn.refl _) (fun _ _ _ h k => h.same k) ?_
  apply Lo.runx 1 rfl rfl [] (by kernel_rfl) (Turn.refl _)
  apply Exists.intro; apply And.intro
  · intro u w1 hR hF
    clear hF
    refine ⟨rfl, fun a ha K hK => ?_⟩
    have e0 := ha 0
    conv at e0 => rhs; whnf
    clear ha
    go_simp
    refine hK _ ?_; rfl
  apply Lo.runx 2 rfl rfl [0] (by kernel_rfl) (Turn.refl _)
  apply Exists.intro; apply And.intro
  · intro u w1 hR hF
    obtain ⟨h0, -⟩ := hF
    refine ⟨rfl, fun a ha K hK => ?_⟩
    have e14 := (ha 14).trans h0
    clear ha h0
    go_simp
    refine hK _ ?_; rfl
  apply Lo.runx 3 rfl rfl [1] (by kernel_rfl) (Turn.refl _)
  apply Exists.intro; apply And.intro
  · intro u w1 hR hF
    obtain ⟨h1, -⟩ := hF
    refine ⟨rfl, fun a ha K hK => ?_⟩
    have e15 := (ha 15).trans h1
    clear ha h1
    go_simp
    refine hK _ ?_; rfl
  apply Lo.runx 4 rfl rfl [2] (by kernel_rfl) (Turn.refl _)
  apply Exists.intro; apply And.intro
  · intro u w1 hR hF
    obtain ⟨h2, -⟩ := hF
    refine ⟨rfl, fun a ha K hK => ?_⟩
    have e16 := (ha 16).trans h2
    clear ha h2
    have hS := HB.out.seg.still (HT0.out.same (((Turn.refl [] _).drew).same hR))
    have c3 := hS.c3
    have z1 := lt_of_heap hS.box
    go_simp
    refine hK _ ?_; rfl
  apply Lo.runx 5 rfl rfl [] (by kernel_rfl) (Turn.refl _)
  apply Exists.intro; apply And.intro
  · intro u w1 hR hF
    clear hF
    refine ⟨rfl, fun a ha K hK => ?_⟩
    have e0 := ha 0
    conv at e0 => rhs; whnf
    clear ha
    go_simp
    refine hK _ ?_; rfl
  refine Lo.runv 6 rfl rfl [] (.func (.func 107) #[] #[.pointer (some ⟨w.heap.size, 0, none⟩)]) (by kernel_rfl) (fun u w1 hR hF => ?_) (Turn.refl _) ?_
  · clear hF
    refine ⟨rfl, fun a ha K hK => ?_⟩
    have e4 := ha 4
    conv at e4 => rhs; whnf
    clear ha
    go_simp
    refine hK _ ?_
    rfl
  refine Lo.run 7 rfl rfl [4, 5] (fun y _ => y = .int .i64 (m0 : Nat)) (by kernel_rfl) (fun x w w' h hR => ?_) (fun _ _ h => h) (fun u w1 hR hF => ?_) ?_
  · exact h
  · obtain ⟨h4, h5, -⟩ := hF
    refine ⟨rfl, fun a ha K hK => ?_⟩
    have e18 := (ha 18).trans h4
    have e19 := (ha 19).trans h5
    clear ha h4 h5
    go_simp
    have hw1 := (((Turn.refl [] w0).drew).same hR)
    refine (first_any _ base d sb _ file b0 _ (HB.out.seg.still (HT0.out.same hw1)) (by omega) 107 w.heap.size enter_read1 (finAbove xs from') (fun i j => fin_mono HCH.out from' i j) (fun Z hZ k hk => ?_)).mono ?_
    · have hk' : k < xs.length := by rwa [hpl] at hk
      have e1 := pls_at xs hk'
      rw [List.getElem?_eq_getElem hk] at e1
      have e2 := Option.some.inj e1
      rw [e2]
      have e3 : finAbove xs from' k = decide (from' < xs[k].fin) := by simp [finAbove, List.getElem?_eq_getElem hk']
      rw [e3]
      exact read1_any Z _ w.heap.size from' (hZ.heap (hw1.heap HFR.out (by simp)) (by simp))
    rintro e w2 ⟨⟨m, rfl, hm⟩, ht2⟩
    rw [hpl] at hm
    exact hK _ _ (by rw [least_unique hm HM0.out]) ht2
  refine Lo.runv 8 rfl rfl [3, 6] (.slice (advP xa m0 xc) (xs.length - m0) (xc - m0)) (by kernel_rfl) (fun u w1 hR hF => ?_) (Turn.refl _) ?_
  · obtain ⟨h3, h6, -⟩ := hF
    refine ⟨rfl, fun a ha K hK => ?_⟩
    have e17 := (ha 17).trans h3
    have e20 : a.tmps.getD 20 undef = u 6 := ha 20
    have h6 := (show (fun y _ => y = .int .i64 (m0 : Nat)) (u 6) w1 from h6)
    dsimp only at h6
    clear ha h3
    rw [h6] at e20
    have hsl : ∀ w, (Instr.slice 101 (.slice xa xs.length xc) (some (.int .i64 (m0 : Int))) none none).run Tryz.prog w = .ok (.slice (advP xa m0 xc) (xs.length - m0) (xc - m0)) w := fun w => run_fromP xa xs.length xc m0 hm0l w
    go_simp
    refine hK _ ?_
    rfl
  refine Lo.runv 9 rfl rfl [7] (.int .i64 ((xs.length - m0 : Nat) : Int)) (by kernel_rfl) (fun u w1 hR hF => ?_) (Turn.refl _) ?_
  · obtain ⟨h7, -⟩ := hF
    refine ⟨rfl, fun a ha K hK => ?_⟩
    have e21 := (ha 21).trans h7
    clear ha h7
    go_simp
    refine hK _ ?_
    rfl
  apply Lo.runx 10 rfl rfl [] (by kernel_rfl) (Turn.refl _)
  apply Exists.intro; apply And.intro
  · intro u w1 hR hF
    clear hF
    refine ⟨rfl, fun a ha K hK => ?_⟩
    clear ha
    go_simp
    refine hK _ ?_; rfl
  refine Lo.done [7, 8, 9] (fun u w1 hRd hSd hF => ?_)
  clear hSd
  obtain ⟨f7, f8, f9, -⟩ := hF
  have d7 : u 7 = _ := f7
  have d8 : u 8 = _ := f8
  have d9 : u 9 = _ := f9
  clear f7 f8 f9
  simp only [putFrom, Act.put, List.setIfInBounds_toArray, List.set_cons_succ, List.set_cons_zero, Nat.zero_add, Nat.reduceAdd, d7, d8, d9]
  have HT1 := hide (HT0.out.same (((Turn.refl [] w0).drew).same hRd))
  obtain ⟨nz, hnz⟩ : ∃ nz, nz = xs.length - m0 := ⟨_, rfl⟩
  rw [← hnz]
  have HNZ := hide hnz
  obtain ⟨zs, hzs⟩ : ∃ zs, zs = xs.drop m0 := ⟨_, rfl⟩
  have HZS := hide hzs
  have hzl : zs.length = nz := by rw [hzs, List.length_drop, hnz]
  have hzf : (flat zs).length ≤ (flat xs).length := by
    have e : flat xs = flat (xs.take m0) ++ flat zs := by rw [hzs, ← flat_append, List.take_append_drop]
    have := congrArg List.length e
    rw [List.length_append] at this
    omega
  have htf : ∀ k, (flat (zs.take k)).length ≤ (flat zs).length := fun k => by
    have e : flat zs = flat (zs.take k) ++ flat (zs.drop k) := by rw [← flat_append, List.take_append_drop]
    have := congrArg List.length e
    rw [List.length_append] at this
    omega
  have HTF := hide htf
  have hwl := HT1.out.size
  clear d7 d8 d9 hRd hnz hzs htf
  go_wp2
  go_loopw [8, 9, 23] (fun lv s i wr => ∃ (k : Nat) (ys : List BV), k ≤ nz ∧ i = .int .i64 k ∧ s = .int .i64 ((flat (zs.take k)).length : Nat) ∧ BRow wr w.heap.size lv ys ∧ ys.map (·.x) = zs.take k ∧ (∀ j, 1 ≤ j → j < k → ((flat (zs.take (j + 1))).length : Int) ≤ most) ∧ Turn [] w wr) (fun _ _ i _ => nz - (intOf i).toNat)
  case atStart => exact ⟨0, [], Nat.zero_le _, rfl, rfl, BRow.nil _ _, rfl, fun j h1 h2 => absurd h2 (by omega), HT1.out⟩
  case round =>
    obtain ⟨k, ys, hk, rfl, rfl, hbr, hym, hjs, ht⟩ := hrel
    obtain ⟨la, lc, hlv, hll, hlm⟩ := hbr.row.form
    subst hlv
    have hyl : ys.length = k := by have := congrArg List.length hym; rw [List.length_map, List.length_take] at this; omega
    have HBR := hide hbr
    have HYM := hide hym
    have HJS := hide hjs
    have HT := hide ht
    have hkf := HTF.out k
    clear hbr hym hjs ht
    by_cases hlt : k < nz
    · have hj : m0 + k < xs.length := by have := HNZ.out; omega
      obtain ⟨x, hx⟩ : ∃ x, x = xs[m0 + k] := ⟨_, rfl⟩
      have hkz : k < zs.length := by rw [hzl]; exact hlt
      have hzk : zs[k]'hkz = x := by rw [hx]; simp [HZS.out]
      have hflk : (flat (zs.take (k + 1))).length = (flat (zs.take k)).length + (Bt.encB x).length := by
        rw [List.take_succ_eq_append_getElem hkz, flat_append, List.length_append, flat_one, hzk]
      have hps : (pls 0 (-1) xs)[m0 + k]? = some ⟨(flat (xs.take (m0 + k))).length, (Bt.encB x).length, Cr.sum (Bt.encB x), x.fin, latOf (-1) (xs.take (m0 + k + 1))⟩ := by rw [hx]; exact pls_at xs hj
      have hj' : m0 + k < (pls 0 (-1) xs).length := by omega
      rw [List.getElem?_eq_getElem hj'] at hps
      obtain ⟨p, hp⟩ : ∃ p : Pl, p = ⟨(flat (xs.take (m0 + k))).length, (Bt.encB x).length, Cr.sum (Bt.encB x), x.fin, latOf (-1) (xs.take (m0 + k + 1))⟩ := ⟨_, rfl⟩
      rw [← hp] at hps
      have hps2 := Option.some.inj hps
      obtain ⟨g, cap, e, hc, _⟩ := (HB.out.seg.still HT.out).row.at plC_len hj'
      rw [hps2, hpl] at *
      simp only [Value.slice.injEq, true_and] at e
      obtain ⟨rfl, rfl⟩ := e
      have hadv : advP (some ⟨g, 0, none⟩) m0 xc = some ⟨g, m0 * 5, none⟩ := by
        unfold advP
        rw [if_neg (by omega)]
        simp [addr_add]
      rw [hadv]
      have hml : (m0 + k) * 5 = m0 * 5 + k * 5 := Nat.add_mul _ _ _
      rw [hml] at hc
      have k0 : wr.cell? ⟨g, m0 * 5 + k * 5, none⟩ = some (.int .i64 p.at) := hc 0 (by omega)
      have k1 : wr.cell? ⟨g, m0 * 5 + k * 5 + 1, none⟩ = some (.int .i64 p.size) := hc 1 (by omega)
      have k2 : wr.cell? ⟨g, m0 * 5 + k * 5 + 2, none⟩ = some (.int .i64 p.sum) := hc 2 (by omega)
      have k3 : wr.cell? ⟨g, m0 * 5 + k * 5 + 3, none⟩ = some (.int .i64 p.fin) := hc 3 (by omega)
      have k4 : wr.cell? ⟨g, m0 * 5 + k * 5 + 4, none⟩ = some (.int .i64 p.latest) := hc 4 (by omega)
      have hpsz : p.size = (Bt.encB x).length := by rw [hp]
      have hsum : ((flat (zs.take k)).length : Int) + (p.size : Int) = ((flat (zs.take (k + 1))).length : Nat) := by rw [hpsz, hflk]; omega
      have hkf1 := HTF.out (k + 1)
      have hkl : (k : Int) < nz := by omega
      have HP := hide hp
      have HX := hide hx
      have HZK := hide hzk
      have HSUM := hide hsum
      have HFLK := hide hflk
      have HPS := hide hpsz
      clear hp hx hzk hc hadv hml hps hps2 hj' hflk hpsz
      by_cases hbrk : 0 < k ∧ most < ((flat (zs.take (k + 1))).length : Int)
      · obtain ⟨hb1, hb2⟩ := hbrk
        have hb1' : (0 : Int) < (ys.length : Int) := by omega
        have HYL := hide hyl
        have HB1 := hide hb1
        have HB2 := hide hb2
        clear hyl hpl hb1
        go_wp2
        refine bodyPost_ret (v := .tuple #[.slice la ys.length lc, .nilIface]) (by simp [results, Tryz.results75]) rfl ⟨_, ys, m0, k, rfl, HM0.out, HBR.out.still ((Turn.refl [] wr).alloc _), ?_, ?_, HT.out.alloc _⟩
        · rw [HYM.out, ← HZS.out]
        · rw [← HZS.out]
          exact ⟨by omega, HJS.out, fun _ => ⟨HB1.out, HB2.out⟩⟩
      · have hcases : (¬ (0 : Int) < (ys.length : Int)) ∨ ((0 : Int) < (ys.length : Int) ∧ ¬ most < ((flat (zs.take (k + 1))).length : Int)) := by
          by_cases h0 : 0 < k
          · exact .inr ⟨by omega, fun h => hbrk ⟨h0, h⟩⟩
          · exact .inl (by omega)
        have HYL := hide hyl
        have HBRK := hide hbrk
        clear hyl hpl hbrk
        rcases hcases with hcs | ⟨hcs, hcs2⟩
        all_goals
          have hta : Turn [] w (wr.alloc (.cells #[.int .i64 p.at, .int .i64 p.size, .int .i64 p.sum, .int .i64 p.fin, .int .i64 p.latest] 108)) := HT.out.alloc _
          have hba := batch_any1 _ base d F A sb _ file b0 _ (HB.out.still hta) hfs f HF.out p x (by rw [HX.out]; exact HCH.out.mem _ (List.getElem_mem _)) (by rw [HFB.out, HP.out, HX.out]; exact readL_at hj) (by rw [HP.out]) (by rw [HPS.out]; have := HFLK.out; omega)
          rw [show plV p = .agg #[.int .i64 p.at, .int .i64 p.size, .int .i64 p.sum, .int .i64 p.fin, .int .i64 p.latest] from rfl] at hba
          have HBA := hide hba
          have HTA := hide hta
          clear hba hta
          go_wp2_with fail
          refine HBA.out.mono ?_
          rintro e w4 ⟨rv, rfl, hrec, ht4, hfr⟩
          obtain ⟨ra, rc, hrv, -⟩ := hrec.form
          subst hrv
          have h46 : Turn [] w4 ((w4.alloc (.cells #[.int .i64 x.base, .int .i64 x.fin, .slice ra x.recs.length rc] 76)).alloc (.cells #[.int .i64 x.base, .int .i64 x.fin, .slice ra x.recs.length rc] 76)) := ((Turn.refl [] w4).alloc _).alloc _
          have hr4 : Turn [] wr w4 := ((Turn.refl [] wr).alloc _).same ht4
          have hk6 : ((w4.alloc (.cells #[.int .i64 x.base, .int .i64 x.fin, .slice ra x.recs.length rc] 76)).alloc (.cells #[.int .i64 x.base, .int .i64 x.fin, .slice ra x.recs.length rc] 76)).heap[w4.heap.size + 1]? = some (.cells (batC ⟨x, ra, x.recs.length, rc⟩).toArray 76 (0, 0)) := by
            have := heap_new (w4.alloc (.cells #[.int .i64 x.base, .int .i64 x.fin, .slice ra x.recs.length rc] 76)) (.cells #[.int .i64 x.base, .int .i64 x.fin, .slice ra x.recs.length rc] 76)
            rwa [World.size_alloc] at this
          obtain ⟨v7, w7, hr7, hrow7, ht7, hown7⟩ := app_bat _ w.heap.size (.slice la ys.length lc) ys ⟨x, ra, x.recs.length, rc⟩ (w4.heap.size + 1) ((HBR.out.row.still hr4).still h46) hk6 (by have := HYL.out; omega) (by have := HTA.out.size; have := ht4.size; have := HT.out.size; simp at *; omega)
          have HREC := hide (hrec.still h46)
          have HLT4 := hide hrec.lt
          have HFR := hide hfr
          have HOWN7 := hide hown7
          have HS6 := hide h46.size
          have HR7 := hide hr7
          have HROW7 := hide hrow7
          have HT7 := hide ht7
          have HW6 := hide (hr4.same h46)
          have HTA' := hide ((HT.out.same (hr4.same h46)).trans ht7 (fun k hk => .inr (by have := (HBR.out.row.lt k (by simpa using hk)).1; omega)))
          clear HBA hrec ht4 h46 hr4 hk6 hr7 hrow7 ht7 hown7 hfr
          go_wp2_with (at_builtin; go_must (refine wpList_append_told rfl rfl rfl rfl HR7.out ?_))
          have hwr := HT.out.size
          have hw46 := HS6.out
          have hbl := HBR.out.row.lt
          refine ⟨⟨k + 1, ys ++ [⟨x, ra, x.recs.length, rc⟩], hlt, by go_num, rfl, ⟨HROW7.out, fun y hy => ?_, fun y hy => ?_, fun y hy => ?_⟩, ?_, fun j h1 h2 => ?_, HTA'.out⟩, ?_⟩
          · rcases List.mem_append.1 hy with hy | hy
            · exact ((HBR.out.recs y hy).still HW6.out).kept' HT7.out (fun h0 k hk hm => HBR.out.sep y hy h0 k hk (by simpa using hm))
            · obtain rfl := List.mem_singleton.1 hy
              exact HREC.out.kept' HT7.out (fun h0 k hk hm => by have h1 := HFR.out h0 k hk; have h2 := hbl k (by simpa using hm); simp at h1; omega)
          · rcases List.mem_append.1 hy with hy | hy
            · exact HBR.out.own y hy
            · obtain rfl := List.mem_singleton.1 hy
              intro h0 k hk
              have h1 := HFR.out h0 k hk
              simp at h1; omega
          · rcases List.mem_append.1 hy with hy | hy
            · intro h0 k hk hm
              rcases HOWN7.out k hm with h | h
              · exact HBR.out.sep y hy h0 k hk h
              · have := (HBR.out.recs y hy).lt h0 k hk; have := HW6.out.size; omega
            · obtain rfl := List.mem_singleton.1 hy
              intro h0 k hk hm
              rcases HOWN7.out k hm with h | h
              · have h1 := HFR.out h0 k hk; have h2 := hbl k h; simp at h1; omega
              · have := HLT4.out h0 k hk; omega
          · rw [List.map_append, HYM.out, List.take_succ_eq_append_getElem hkz, HZK.out]; rfl
          · by_cases hjk : j < k
            · exact HJS.out j h1 hjk
            · obtain rfl : j = k := by omega
              first
              | exact hcs2
              | exact absurd HYL.out (by omega)
          · simp only [intOf]; omega
    · obtain rfl : k = nz := by omega
      go_wp2
      refine bodyPost_ret (v := .tuple #[.slice la ys.length lc, .nilIface]) (by simp [results, Tryz.results75]) rfl ⟨_, ys, m0, zs.length, rfl, HM0.out, HBR.out, ?_, ?_, HT.out⟩
      · rw [HYM.out, ← HZS.out, hzl]
      · rw [← HZS.out]
        exact ⟨Nat.le_refl _, fun j h1 h2 => HJS.out j h1 (by omega), fun h => absurd h (by omega)⟩
end Go.Proofs.YtmdmdbobbepogaaGreatDoor.Sg

/- plog.since: the records of batches from an offset on. -/
namespace Go.Proofs.YtmdmdbobbepogaaGreatDoor.Lg
open Go.RowKit Go.Maps
set_option maxRecDepth 100000
set_option linter.unusedSimpArgs false
set_option linter.unusedVariables false
attribute [local go_sem] Oper.semAt_some
open Sg (BRow BV batC batC_len)

/-- The records from an offset on. -/
def fromL (fr : Int) (rs : List Bt.Rec) : List Bt.Rec := rs.filter (fun r => decide (fr ≤ r.off))
def sinceL (fr : Int) (xs : List Bt.Bat) : List Bt.Rec := xs.flatMap (fun x => fromL fr x.recs)
theorem sinceL_snoc (fr : Int) (xs : List Bt.Bat) {k : Nat} (hk : k < xs.length) : sinceL fr (xs.take (k + 1)) = sinceL fr (xs.take k) ++ fromL fr xs[k].recs := by
  unfold sinceL
  rw [List.take_succ_eq_append_getElem hk, List.flatMap_append]
  simp
theorem fromL_snoc (fr : Int) (rs : List Bt.Rec) {k : Nat} (hk : k < rs.length) : fromL fr (rs.take (k + 1)) = fromL fr (rs.take k) ++ (if fr ≤ rs[k].off then [rs[k]] else []) := by
  unfold fromL
  rw [List.take_succ_eq_append_getElem hk, List.filter_append]
  simp only [List.filter_cons, List.filter_nil, decide_eq_true_eq]
theorem sinceL_le (fr : Int) : ∀ xs : List Bt.Bat, (sinceL fr xs).length ≤ (xs.flatMap (·.recs)).length
  | [] => by simp [sinceL]
  | x :: r => by
    have h := sinceL_le fr r
    unfold sinceL at h ⊢
    rw [List.flatMap_cons, List.flatMap_cons, List.length_append, List.length_append]
    have := List.length_filter_le (fun r : Bt.Rec => decide (fr ≤ r.off)) x.recs
    unfold fromL at *
    omega
theorem take_le (xs : List Bt.Bat) (k : Nat) (hk : k < xs.length) : ((xs.take k).flatMap (·.recs)).length + xs[k].recs.length ≤ (xs.flatMap (·.recs)).length := by
  have e : xs = xs.take k ++ xs[k] :: xs.drop (k + 1) := by rw [← List.drop_eq_getElem_cons hk, List.take_append_drop]
  have h : (xs.flatMap (·.recs)).length = ((xs.take k ++ xs[k] :: xs.drop (k + 1)).flatMap (·.recs)).length := congrArg (fun l : List Bt.Bat => (l.flatMap (·.recs)).length) e
  rw [h, List.flatMap_append, List.flatMap_cons, List.length_append, List.length_append]
  omega
set_option maxHeartbeats 8000000 in
theorem since_any (w : World) (base : Nat) (lv : Value) (ys : List BV) (h : BRow w base lv ys) (fr : Int) (hyl : ys.length ≤ 1000000) (hT : ((ys.map (·.x)).flatMap (·.recs)).length ≤ 900000) :
    Calls Tryz.prog 65 #[lv, .int .i64 fr] w fun e w' => ∃ ov, e = .returned ov ∧ GRow 37 6 recC w' w.heap.size ov (sinceL fr (ys.map (·.x))) ∧ Turn [] w w' := by
  obtain ⟨la, lc, hlv, hllc, hlcm⟩ := h.row.form
  subst hlv
  have hmx : maxLen = 9223372036854775807 := by simp [maxLen]
  rw [hmx] at hlcm
  have H := hide h
  obtain ⟨xs, hxs⟩ : ∃ xs, xs = ys.map (fun y : BV => y.x) := ⟨_, rfl⟩
  have hT' : (xs.flatMap (·.recs)).length ≤ 900000 := by rw [hxs]; exact hT
  have HTT := hide hT'
  have HXS := hide hxs
  obtain ⟨N, hN⟩ : ∃ N, N = ys.length := ⟨_, rfl⟩
  rw [← hN] at hllc hyl
  have HN := hide hN
  clear h hT hT'
  rw [← hN, ← hxs]
  clear hxs
  clear hN
  go_enter Tryz.func65, Tryz.ntmps65
  go_wp2
  go_loopw [5, 12] (fun ov kv wr => ∃ k : Nat, k ≤ N ∧ kv = .int .i64 k ∧ GRow 37 6 recC wr w.heap.size ov (sinceL fr (xs.take k)) ∧ Turn [] w wr) (fun _ kv _ => N - (intOf kv).toNat)
  case atStart => exact ⟨0, Nat.zero_le _, rfl, .inl ⟨rfl, by simp [sinceL]⟩, Turn.refl _ _⟩
  case round =>
    obtain ⟨k, hk, rfl, hrow, htw⟩ := hrel
    have HROW := hide hrow
    have HTW := hide htw
    obtain ⟨oa, oc, hov, -, -⟩ := hrow.form
    subst hov
    clear hrow htw
    by_cases hlt : k < N
    · have hky : k < ys.length := by rw [← HN.out]; exact hlt
      obtain ⟨g, cap, e, hc, -⟩ := (H.out.still HTW.out).row.at batC_len (j := k) hky
      rw [← HN.out] at e
      simp only [Value.slice.injEq, true_and] at e
      obtain ⟨rfl, rfl⟩ := e
      obtain ⟨y, hy⟩ : ∃ y, y = ys[k] := ⟨_, rfl⟩
      rw [← hy] at hc
      have c0 : wr.cell? ⟨g, k * 3, none⟩ = some (.int .i64 y.x.base) := hc 0 (by omega)
      have c1 : wr.cell? ⟨g, k * 3 + 1, none⟩ = some (.int .i64 y.x.fin) := hc 1 (by omega)
      have c2 : wr.cell? ⟨g, k * 3 + 2, none⟩ = some (.slice y.a y.n y.c) := hc 2 (by omega)
      have hrec : RecsAt w y.sl y.x.recs := H.out.recs y (by rw [hy]; exact List.getElem_mem _)
      obtain ⟨ra, rc, hyv, hrlc, hrcm, -⟩ := hrec.form
      obtain ⟨rs, hrs⟩ : ∃ rs, rs = y.x.recs := ⟨_, rfl⟩
      have hsl : y.a = ra ∧ y.n = rs.length ∧ y.c = rc := by
        unfold BV.sl at hyv
        simp only [Value.slice.injEq] at hyv
        rw [hrs]; exact hyv
      have hkx : k < xs.length := by rw [HXS.out, List.length_map]; exact hky
      have hxk : xs[k].recs = rs := by
        have e1 : xs[k]? = some y.x := by rw [HXS.out, List.getElem?_map, List.getElem?_eq_getElem hky, ← hy]; rfl
        rw [List.getElem?_eq_getElem hkx] at e1
        rw [Option.some.inj e1, hrs]
      have hsn := sinceL_snoc fr xs (k := k) hkx
      have htl := take_le xs k hkx
      rw [hxk] at hsn htl
      rw [hsl.1, hsl.2.1, hsl.2.2] at c2
      rw [hyv, ← hrs] at hrec
      rw [← hrs] at hrlc
      rw [hmx] at hrcm
      have hsL := sinceL_le fr (xs.take k)
      have HSN := hide hsn
      have HREC := hide hrec
      have hrt : rs.length ≤ 900000 := by have := HTT.out; omega
      have hacc : (sinceL fr (xs.take k)).length + rs.length ≤ 900000 := by have := HTT.out; omega
      obtain ⟨acc, hac⟩ : ∃ acc, acc = sinceL fr (xs.take k) := ⟨_, rfl⟩
      rw [← hac] at HROW hacc HSN ⊢
      have HAC := hide hac
      clear hkx hc hsn htl hsL hac hxk hsl hyv hrs hy hrec
      go_wp2
      go_loopw [5, 19] (fun ov jv wi => ∃ j : Nat, j ≤ rs.length ∧ jv = .int .i64 j ∧ GRow 37 6 recC wi w.heap.size ov (acc ++ fromL fr (rs.take j)) ∧ Turn [] w wi) (fun _ jv _ => rs.length - (intOf jv).toNat)
      case atStart => exact ⟨0, Nat.zero_le _, rfl, by simpa [fromL] using HROW.out.still ((Turn.refl [] wr).alloc _), HTW.out.alloc _⟩
      case round =>
        obtain ⟨j, hj, rfl, hrow, hti⟩ := hrel
        have HROI := hide hrow
        have HTI := hide hti
        obtain ⟨oa2, oc2, hov2, -, -⟩ := hrow.form
        subst hov2
        clear hrow hti
        by_cases hjl : j < rs.length
        · obtain ⟨p, rfl⟩ : ∃ p, ra = some p := by
            obtain ⟨a', c', e, -, -, -, h4⟩ := HREC.out
            simp only [Value.slice.injEq] at e
            obtain ⟨-, p, hp, -⟩ := h4 j hjl
            exact ⟨p, e.1.trans hp⟩
          obtain ⟨g0, g1, g2, g3, g4, g5⟩ := (HREC.out.still HTI.out).six hjl
          obtain ⟨r, hr⟩ : ∃ r, r = rs[j] := ⟨_, rfl⟩
          have hfs := fromL_snoc fr rs hjl
          have hfl : (fromL fr (rs.take j)).length ≤ j := by
            have := List.length_filter_le (fun r : Bt.Rec => decide (fr ≤ r.off)) (rs.take j)
            rw [List.length_take] at this
            unfold fromL
            omega
          rw [← hr] at g0 g1 g2 g3 g4 g5 hfs
          have HFS := hide hfs
          clear hr hfs
          by_cases hge : fr ≤ r.off
          · have hw7 : Turn [] wr ((wr.alloc (.cells #[.int .i64 r.off, .int .i64 r.time, .bool r.keyed, .string ⟨r.key.toArray⟩, .bool r.gone, .string ⟨r.value.toArray⟩] 37)).alloc (.cells #[.int .i64 r.off, .int .i64 r.time, .bool r.keyed, .string ⟨r.key.toArray⟩, .bool r.gone, .string ⟨r.value.toArray⟩] 37)) := ((Turn.refl [] wr).alloc _).alloc _
            have hk7 : ((wr.alloc (.cells #[.int .i64 r.off, .int .i64 r.time, .bool r.keyed, .string ⟨r.key.toArray⟩, .bool r.gone, .string ⟨r.value.toArray⟩] 37)).alloc (.cells #[.int .i64 r.off, .int .i64 r.time, .bool r.keyed, .string ⟨r.key.toArray⟩, .bool r.gone, .string ⟨r.value.toArray⟩] 37)).heap[wr.heap.size + 1]? = some (.cells (recC r).toArray 37 (0, 0)) := by
              have := heap_new (wr.alloc (.cells #[.int .i64 r.off, .int .i64 r.time, .bool r.keyed, .string ⟨r.key.toArray⟩, .bool r.gone, .string ⟨r.value.toArray⟩] 37)) (.cells #[.int .i64 r.off, .int .i64 r.time, .bool r.keyed, .string ⟨r.key.toArray⟩, .bool r.gone, .string ⟨r.value.toArray⟩] 37)
              rwa [World.size_alloc] at this
            obtain ⟨v7, w7, hr7, hrow7, ht7, -⟩ := run_append_rec _ w.heap.size (.slice oa2 (acc ++ fromL fr (rs.take j)).length oc2) (acc ++ fromL fr (rs.take j)) r (wr.heap.size + 1) (HROI.out.still hw7) hk7 (by rw [List.length_append]; omega) (by have := (HTI.out.same hw7).size; exact this)
            have HROW7 := hide hrow7
            have hown : ∀ q ∈ (Value.slice oa2 (acc ++ fromL fr (rs.take j)).length oc2).ownBlock.toList, w.heap.size ≤ q := fun q hq => (HROI.out.lt q (by simpa using hq)).1
            have HT7 := hide ((HTI.out.same hw7).trans ht7 (fun q hq => .inr (hown q hq)))
            have HR7 := hide hr7
            clear hw7 hk7 hr7 hrow7 ht7 hown hfl
            go_wp2_with (at_builtin; go_must (refine wpList_append_told rfl rfl rfl rfl HR7.out ?_))
            all_goals refine ⟨⟨j + 1, by omega, by go_num, ?_, HT7.out⟩, ?_⟩
            all_goals first | (simp only [intOf]; omega) | (rw [HFS.out, if_pos hge, ← List.append_assoc]; exact HROW7.out)
          · have HGE := hide hge
            clear hfl
            go_wp2
            all_goals refine ⟨⟨j + 1, by omega, by go_num, ?_, HTI.out.alloc _⟩, ?_⟩
            all_goals first | (simp only [intOf]; omega) | (rw [HFS.out, if_neg HGE.out, List.append_nil]; exact HROI.out.still ((Turn.refl [] wr).alloc _))
        · obtain rfl : j = rs.length := by omega
          rw [List.take_length] at HROI ⊢
          go_wp2
          all_goals refine ⟨⟨k + 1, by omega, by go_num, ?_, HTI.out⟩, ?_⟩
          all_goals first | (simp only [intOf]; omega) | (rw [HSN.out]; exact HROI.out)
    · obtain rfl : k = N := by omega
      have htk : xs.take k = xs := List.take_of_length_le (by rw [HXS.out, List.length_map, HN.out]; exact Nat.le_refl _)
      rw [htk] at HROW ⊢
      clear htk
      go_wp2
      go_ret
      exact ⟨_, rfl, HROW.out, HTW.out⟩
end Go.Proofs.YtmdmdbobbepogaaGreatDoor.Lg

/- plog.read: the records from an offset on of a segment's Read; where there are none of those, of what is behind. -/
namespace Go.Proofs.YtmdmdbobbepogaaGreatDoor.Lg
open Go.RowKit Go.Maps
set_option maxRecDepth 100000
set_option linter.unusedSimpArgs false
set_option linter.unusedVariables false
attribute [local go_sem] Oper.semAt_some
open Dk (DA DiskAt Parts Did errR errV)
open Sg (BRow BV batC batC_len Chain flat pls Both Least finAbove Sel chain_fin nextOf)

theorem recsErr_mem : ∀ {rs : List Bt.Rec} {lo hi : Int}, Bt.recsErr rs lo hi = 0 → ∀ r ∈ rs, lo ≤ r.off ∧ r.off < hi
  | [], _, _, _, r, hr => by simp at hr
  | q :: rs, lo, hi, h, r, hr => by
    unfold Bt.recsErr at h
    split at h
    · rename_i h0
      have h1 := Bt.recErr_ok h0
      rcases List.mem_cons.1 hr with rfl | hr
      · exact ⟨h1.1, h1.2.1⟩
      · have := recsErr_mem h r hr
        omega
    · rename_i h0
      exact absurd h h0
theorem bat_mem {x : Bt.Bat} (h : Bt.encErr x = 0) : ∀ r ∈ x.recs, x.base ≤ r.off ∧ r.off < x.fin := recsErr_mem (Bt.chk_ok (Bt.encErr_ok h).1).2.2.2.2.2
theorem bat_lt {x : Bt.Bat} (h : Bt.encErr x = 0) : x.base < x.fin := (Bt.chk_ok (Bt.encErr_ok h).1).2.2.1
theorem chain_base : ∀ {xs : List Bt.Bat} {b : Int}, Chain b xs → ∀ x ∈ xs, b ≤ x.base
  | x :: r, b, h, y, hy => by
    rcases List.mem_cons.1 hy with rfl | hy
    · exact h.2.1
    · have := chain_base h.2.2 y hy
      have := bat_lt h.1
      have := h.2.1
      omega
/-- In a chain what stands behind begins at the end of what stands ahead, or behind. -/
theorem chain_le : ∀ {xs : List Bt.Bat} {b : Int}, Chain b xs → ∀ {i j : Nat} (hij : i < j) (hj : j < xs.length), (xs[i]'(by omega)).fin ≤ xs[j].base
  | x :: r, b, h, 0, j + 1, _, hj => by
    have := chain_base h.2.2 (r[j]'(by simpa using hj)) (List.getElem_mem _)
    simpa using this
  | x :: r, b, h, i + 1, j + 1, hij, hj => by
    have := chain_le h.2.2 (i := i) (j := j) (by omega) (by simpa using hj)
    simpa using this
theorem fromL_all {fr : Int} {rs : List Bt.Rec} (h : ∀ r ∈ rs, fr ≤ r.off) : fromL fr rs = rs := by
  unfold fromL
  rw [List.filter_eq_self]
  intro r hr
  exact decide_eq_true (h r hr)
theorem fromL_none {fr : Int} {rs : List Bt.Rec} (h : ∀ r ∈ rs, r.off < fr) : fromL fr rs = [] := by
  unfold fromL
  rw [List.filter_eq_nil_iff]
  intro r hr
  have := h r hr
  simp
  omega
theorem sinceL_append (fr : Int) (xs ys : List Bt.Bat) : sinceL fr (xs ++ ys) = sinceL fr xs ++ sinceL fr ys := by unfold sinceL; rw [List.flatMap_append]
theorem sinceL_none {fr : Int} {xs : List Bt.Bat} (h : ∀ x ∈ xs, fromL fr x.recs = []) : sinceL fr xs = [] := by
  unfold sinceL
  rw [List.flatMap_eq_nil_iff]
  exact h
theorem sinceL_congr {fr fr' : Int} {xs : List Bt.Bat} (h : ∀ x ∈ xs, fromL fr' x.recs = fromL fr x.recs) : sinceL fr' xs = sinceL fr xs := by
  induction xs with
  | nil => rfl
  | cons x r ih =>
    unfold sinceL at ih ⊢
    rw [List.flatMap_cons, List.flatMap_cons, h x (by simp), ih (fun y hy => h y (by simp [hy]))]
/-- Where read's loop stands: a batches have nothing from fr on. -/
structure RInv (fr fr' : Int) (xs : List Bt.Bat) (a : Nat) : Prop where
  le : a ≤ xs.length
  none : sinceL fr (xs.take a) = []
  rest : ∀ x ∈ xs.drop a, fromL fr' x.recs = fromL fr x.recs
  fins : ∀ i (h : i < xs.length), i < a → (xs[i]).fin ≤ fr'
  ge : fr ≤ fr'
theorem RInv.first (fr : Int) (xs : List Bt.Bat) : RInv fr fr xs 0 := ⟨Nat.zero_le _, by simp [sinceL], fun _ _ => rfl, fun i _ h => absurd h (Nat.not_lt_zero _), Int.le_refl _⟩
theorem fin_false {xs : List Bt.Bat} {fr : Int} {i : Nat} (hi : i < xs.length) (h : finAbove xs fr i = false) : xs[i].fin ≤ fr := by
  unfold finAbove at h
  rw [List.getElem?_eq_getElem hi] at h
  simp at h
  exact h
theorem fin_true {xs : List Bt.Bat} {fr : Int} {i : Nat} (hi : i < xs.length) (h : finAbove xs fr i = true) : fr < xs[i].fin := by
  unfold finAbove at h
  rw [List.getElem?_eq_getElem hi] at h
  simpa using h
section
variable {fr fr' b most : Int} {xs : List Bt.Bat} {a m k : Nat}
theorem RInv.ahead (hr : RInv fr fr' xs a) (hl : Least xs.length (finAbove xs fr') m) : a ≤ m := by
  rcases Nat.lt_or_ge m a with h | h
  · have hm : m < xs.length := Nat.lt_of_lt_of_le h hr.le
    have h1 := fin_true hm (hl.2.2 m (Nat.le_refl _) hm)
    have h2 := hr.fins m hm h
    omega
  · exact h
theorem RInv.upto (hc : Chain b xs) (hr : RInv fr fr' xs a) (hl : Least xs.length (finAbove xs fr') m) : sinceL fr (xs.take m) = [] := by
  have ham := hr.ahead hl
  have e : xs.take m = xs.take a ++ (xs.drop a).take (m - a) := by
    rw [← List.take_append_drop a (xs.take m), List.take_take, Nat.min_eq_left ham, List.drop_take]
  rw [e, sinceL_append, hr.none, List.nil_append]
  refine sinceL_none fun x hx => ?_
  rw [← hr.rest x (List.mem_of_mem_take hx)]
  obtain ⟨i, hi, rfl⟩ := List.mem_iff_getElem.1 hx
  rw [List.length_take, List.length_drop] at hi
  have hi2 : a + i < xs.length := by omega
  have hxi : ((xs.drop a).take (m - a))[i] = xs[a + i] := by rw [List.getElem_take, List.getElem_drop]
  rw [hxi]
  have h1 := fin_false hi2 (hl.2.1 (a + i) (by omega))
  exact fromL_none fun r hr' => by have := (bat_mem (Chain.mem hc _ (List.getElem_mem hi2)) r hr').2; omega
theorem RInv.group (hc : Chain b xs) (hr : RInv fr fr' xs a) (hl : Least xs.length (finAbove xs fr') m) : sinceL fr' ((xs.drop m).take k) = sinceL fr (xs.take (m + k)) := by
  have ham := hr.ahead hl
  have e : xs.take (m + k) = xs.take m ++ (xs.drop m).take k := List.take_add
  rw [e, sinceL_append, hr.upto hc hl, List.nil_append]
  refine sinceL_congr fun x hx => hr.rest x ?_
  have h1 := List.mem_of_mem_take hx
  have e2 : xs.drop m = (xs.drop a).drop (m - a) := by rw [List.drop_drop]; congr 1; omega
  rw [e2] at h1
  exact List.mem_of_mem_drop h1
theorem RInv.over (hc : Chain b xs) (hr : RInv fr fr' xs a) (hl : Least xs.length (finAbove xs fr') m) (hs : Sel most (xs.drop m) k) (hk : k = 0) : sinceL fr xs = [] := by
  have hm : m = xs.length := by
    rcases Nat.lt_or_ge m xs.length with h | h
    · have := (hs.2.2 (by rw [List.length_drop]; omega)).1; omega
    · have := hl.1; omega
  have := hr.upto hc hl
  rwa [hm, List.take_length] at this
theorem RInv.next (hc : Chain b xs) (hr : RInv fr fr' xs a) (hl : Least xs.length (finAbove xs fr') m) (hs : Sel most (xs.drop m) k) (hk : 0 < k) (hn : sinceL fr (xs.take (m + k)) = []) (h : m + k - 1 < xs.length) : RInv fr (xs[m + k - 1]).fin xs (m + k) ∧ fr' < (xs[m + k - 1]).fin ∧ m + k ≤ xs.length := by
  have ham := hr.ahead hl
  have h1 := hs.1
  rw [List.length_drop] at h1
  have h0 := fin_true (i := m) (by omega) (hl.2.2 m (Nat.le_refl _) (by omega))
  have hmono : ∀ i (hi : i < xs.length), i < m + k → (xs[i]).fin ≤ (xs[m + k - 1]).fin := by
    intro i hi hik
    rcases Nat.lt_or_ge i (m + k - 1) with h' | h'
    · have := chain_le hc h' h
      have := bat_lt (Chain.mem hc _ (List.getElem_mem h))
      omega
    · obtain rfl : i = m + k - 1 := by omega
      exact Int.le_refl _
  have hge : fr ≤ (xs[m + k - 1]).fin := by have := hmono m (by omega) (by omega); have := hr.ge; omega
  refine ⟨⟨by omega, hn, fun x hx => ?_, hmono, hge⟩, by have := hmono m (by omega) (by omega); omega, by omega⟩
  obtain ⟨i, hi, rfl⟩ := List.mem_iff_getElem.1 hx
  rw [List.length_drop] at hi
  have hi2 : m + k + i < xs.length := by omega
  rw [List.getElem_drop]
  have h2 := chain_le hc (i := m + k - 1) (j := m + k + i) (by omega) hi2
  have hmem := bat_mem (Chain.mem hc _ (List.getElem_mem hi2))
  rw [fromL_all (fun r hr' => by have := (hmem r hr').1; omega), fromL_all (fun r hr' => by have := (hmem r hr').1; omega)]
end
theorem group_le (xs : List Bt.Bat) (m k : Nat) : ((((xs.drop m).take k)).flatMap (·.recs)).length ≤ (xs.flatMap (·.recs)).length := by
  have e : xs = xs.take m ++ ((xs.drop m).take k ++ (xs.drop m).drop k) := by rw [List.take_append_drop, List.take_append_drop]
  have h : (xs.flatMap (·.recs)).length = ((xs.take m ++ ((xs.drop m).take k ++ (xs.drop m).drop k)).flatMap (·.recs)).length := congrArg (fun l : List Bt.Bat => (l.flatMap (·.recs)).length) e
  rw [h, List.flatMap_append, List.flatMap_append, List.length_append, List.length_append]
  omega
set_option maxHeartbeats 8000000 in
theorem read_any (w : World) (base d : Nat) (F : List Nat) (A : DA) (sb : Nat) (sv : Value) (file : ByteArray) (b0 : Int) (xs : List Bt.Bat) (h : Both w base d F A sb sv file b0 (pls 0 (-1) xs)) (hfs : file.size ≤ maxLen) (f : Dk.FA) (hf : A.file file.data.toList = some f) (hfb : f.bytes = flat xs) (hch : Chain b0 xs)
    (fr most : Int) (hmo : -9223372036854775808 ≤ most ∧ most ≤ 9223372036854775807) (hT : (xs.flatMap (·.recs)).length ≤ 900000) (hxl : xs.length ≤ 1000000) :
    Calls Tryz.prog 51 #[.pointer (some ⟨sb, 0, none⟩), .int .i64 fr, .int .i64 most] w fun e w' => ∃ ov q, e = .returned (.tuple #[ov, .nilIface]) ∧ q ≤ xs.length ∧ GRow 37 6 recC w' w.heap.size ov (sinceL fr (xs.take q)) ∧ (sinceL fr (xs.take q) = [] → sinceL fr xs = []) ∧ Turn [] w w' := by
  have H := hide h
  have HF := hide hf
  have HFB := hide hfb
  have HCH := hide hch
  have HT := hide hT
  clear h hf hfb hch hT
  go_enter Tryz.func51, Tryz.ntmps51
  go_wp2
  go_loopw [1] (fun fv wr => ∃ (fr' : Int) (a : Nat), fv = .int .i64 fr' ∧ RInv fr fr' xs a ∧ Turn [] w wr) (fun fv _ => (1099511627777 - intOf fv).toNat)
  case atStart => exact ⟨fr, 0, rfl, RInv.first fr xs, Turn.refl _ _⟩
  case round =>
    obtain ⟨fr', a, rfl, hinv, htw⟩ := hrel
    have HINV := hide hinv
    have HTW := hide htw
    clear hinv htw
    go_wp2_with fail
    refine (Sg.read_any wr base d F A sb sv file b0 xs (H.out.still HTW.out) hfs f HF.out HFB.out HCH.out fr' most hmo).mono ?_
    rintro e w1 ⟨lv, ys, m, k, rfl, hle, hrow, hys, hsel, ht1⟩
    have hk1 := hsel.1
    rw [List.length_drop] at hk1
    have hkl : ys.length = k := by rw [← List.length_map (f := fun y : BV => y.x), hys, List.length_take, List.length_drop]; omega
    obtain ⟨la, lc, hlv, hllc, hlcm⟩ := hrow.row.form
    rw [hkl] at hlv hllc
    subst hlv
    have hml := hle.1
    have hmx : maxLen = 9223372036854775807 := by simp [maxLen]
    rw [hmx] at hlcm
    have hgr := HINV.out.group (k := k) HCH.out hle
    have HLE := hide hle
    have HSEL := hide hsel
    have HROW := hide hrow
    have HYS := hide hys
    have HKL := hide hkl
    have HT1 := hide (HTW.out.same ht1)
    have HGR := hide hgr
    clear hle hsel hrow hys hkl ht1 hgr
    by_cases hk0 : k = 0
    · have hov := HINV.out.over HCH.out HLE.out HSEL.out hk0
      have HOV := hide hov
      clear hov
      subst hk0
      go_wp2
      go_ret2
      refine ⟨_, xs.length, rfl, Nat.le_refl _, .inl ⟨rfl, by rw [List.take_length]; exact HOV.out⟩, fun _ => HOV.out, HT1.out⟩
    · obtain ⟨k', rfl⟩ := Nat.exists_eq_succ_of_ne_zero hk0
      have hkb : (((k' + 1 : Nat) : Int) == 0) = false := by rw [beq_eq_false_iff_ne]; omega
      go_wp2_with fail
      refine (since_any w1 _ _ ys HROW.out fr' (by rw [HKL.out]; omega) (by rw [HYS.out]; exact Nat.le_trans (group_le xs m (k' + 1)) HT.out)).mono ?_
      rintro e w2 ⟨ov, rfl, hov, ht2⟩
      rw [HYS.out, HGR.out] at hov
      obtain ⟨R, hR⟩ : ∃ R, R = sinceL fr (xs.take (m + (k' + 1))) := ⟨_, rfl⟩
      rw [← hR] at hov
      obtain ⟨oa, oc, hoe, hol, hom⟩ := hov.form
      subst hoe
      have HR := hide hR
      have HOV := hide hov
      have HT12 := hide ht2
      have HT2 := hide (HT1.out.same ht2)
      have HW1 := hide HT1.out.size
      have hRl : R.length ≤ 900000 := by
        rw [hR]
        refine Nat.le_trans (sinceL_le fr _) (Nat.le_trans ?_ HT.out)
        have := group_le xs 0 (m + (k' + 1))
        rwa [List.drop_zero] at this
      clear hR hov ht2
      by_cases hR0 : 0 < (R.length : Int)
      · go_wp2
        go_ret2
        refine ⟨_, m + (k' + 1), rfl, by omega, by rw [← HR.out]; exact HOV.out.base_le HW1.out, fun h => ?_, HT2.out⟩
        rw [← HR.out] at h
        rw [h] at hR0
        exact absurd hR0 (by simp)
      · have hRn : R = [] := List.eq_nil_of_length_eq_zero (by omega)
        have hlt : m + k' < xs.length := by omega
        obtain ⟨hn1, hn2, hn3⟩ := HINV.out.next (k := k' + 1) HCH.out HLE.out HSEL.out (by omega) (by rw [← HR.out]; exact hRn) hlt
        obtain ⟨g, cap, e, hc, -⟩ := HROW.out.row.at batC_len (j := k') (by rw [HKL.out]; omega)
        rw [HKL.out] at e
        simp only [Value.slice.injEq, true_and] at e
        obtain ⟨rfl, rfl⟩ := e
        have hyx : (ys[k']'(by rw [HKL.out]; omega)).x = xs[m + k'] := by
          have h1 : (ys.map (fun y : BV => y.x))[k']? = some (ys[k']'(by rw [HKL.out]; omega)).x := by rw [List.getElem?_map, List.getElem?_eq_getElem (by rw [HKL.out]; omega)]; rfl
          rw [HYS.out, List.getElem?_take_of_lt (by omega), List.getElem?_drop, List.getElem?_eq_getElem hlt] at h1
          exact (Option.some.inj h1).symm
        have c1 : w2.cell? ⟨g, k' * 3 + 1, none⟩ = some (.int .i64 (xs[m + k']).fin) := by
          have h1 := hc 1 (by omega)
          have h2 : (batC (ys[k']'(by rw [HKL.out]; omega)))[1]? = some (.int .i64 (xs[m + k']).fin) := by simp [batC, hyx]
          rw [h2] at h1
          have ht12 := HT12.out
          rw [World.cell?_of_block (w := w1) (ht12.block _ (World.block_lt_of_cell? _ _ h1) (by simp)), h1]
        have hi1 : (k' : Int) < (k' : Int) + 1 := by omega
        have hfin := (Bt.chk_ok (Bt.encErr_ok (Chain.mem HCH.out _ (List.getElem_mem hlt))).1).2.1
        obtain ⟨fx, hfx⟩ : ∃ fx, fx = (xs[m + k']).fin := ⟨_, rfl⟩
        have hn1' : RInv fr fx xs (m + (k' + 1)) := by rw [hfx]; exact hn1
        have hn2' : fr' < fx := by rw [hfx]; exact hn2
        rw [← hfx] at c1 hfin
        have HN1 := hide hn1'
        have HRN := hide hRn
        clear hn1 hn1' hn2 hfx hyx hc hRn
        go_wp2
        all_goals refine ⟨⟨fx, m + (k' + 1), rfl, HN1.out, HT2.out⟩, ?_⟩
        all_goals (simp only [intOf]; omega)
end Go.Proofs.YtmdmdbobbepogaaGreatDoor.Lg

/- A partition's log in memory: its box, its row of segments, each segment, the disk. -/
namespace Go.Proofs.YtmdmdbobbepogaaGreatDoor.Lg
open Go.RowKit Go.Maps
set_option maxRecDepth 100000
set_option linter.unusedSimpArgs false
set_option linter.unusedVariables false
attribute [local go_sem] Oper.semAt_some
open Dk (DA DiskAt Parts Did errR errV)
open Sg (SegAt sfoot pls Both Came)

theorem ne_of_type {w : World} {i j : Nat} {c1 c2 : Array Value} {T1 T2 : TypeId} {f1 f2 : Nat × Nat} (h1 : w.heap[i]? = some (.cells c1 T1 f1)) (h2 : w.heap[j]? = some (.cells c2 T2 f2)) (hT : T1 ≠ T2) : i ≠ j := by
  rintro rfl
  rw [h1] at h2
  simp at h2
  exact hT h2.2.1
theorem _root_.Go.Proofs.YtmdmdbobbepogaaGreatDoor.GRow.kind {α : Type} {T : TypeId} {n : Nat} {enc : α → List Value} {w : World} {base : Nat} {sv : Value} {xs : List α} (h : GRow T n enc w base sv xs) : ∀ k ∈ sv.ownBlock, ∃ cs, w.heap[k]? = some (.cells cs T (0, 0)) := by
  intro k hk
  rcases h with ⟨rfl, -⟩ | ⟨g, cap, cur, rfl, -, hg, -⟩
  · simp [Value.ownBlock] at hk
  · simp [Value.ownBlock] at hk; subst hk; exact ⟨_, hg⟩
theorem _root_.Go.Proofs.YtmdmdbobbepogaaGreatDoor.GRow.congr {α : Type} {T : TypeId} {n : Nat} {enc : α → List Value} {w : World} {base : Nat} {sv : Value} {xs ys : List α} (h : GRow T n enc w base sv xs) (hl : xs.length = ys.length) (he : xs.flatMap enc = ys.flatMap enc) : GRow T n enc w base sv ys := by
  rcases h with ⟨h1, rfl⟩ | ⟨g, cap, cur, e, hb, hg, r⟩
  · exact .inl ⟨h1, List.eq_nil_of_length_eq_zero hl.symm⟩
  · rw [hl, he] at r
    rw [hl] at e
    exact .inr ⟨g, cap, cur, e, hb, hg, r⟩
theorem seg_kind {w : World} {base d sb : Nat} {sv : Value} {file : ByteArray} {b0 : Int} {ps : List Sg.Pl} (h : SegAt w base d sb sv file b0 ps) : ∀ k ∈ sfoot sb sv, ∃ cs T, w.heap[k]? = some (.cells cs T (0, 0)) ∧ (T = 103 ∨ T = 108) := by
  intro k hk
  simp only [sfoot, List.mem_cons, Option.mem_toList] at hk
  rcases hk with rfl | hk
  · exact ⟨_, _, h.box, .inl rfl⟩
  · obtain ⟨cs, e⟩ := h.row.kind k hk
    exact ⟨_, _, e, .inr rfl⟩
theorem disk_kind {w : World} {base d : Nat} {F : List Nat} {A : DA} (h : DiskAt w base d F A) {k : Nat} (hk : k ∈ F) {cs : Array Value} {T : TypeId} {fr : Nat × Nat} (hc : w.heap[k]? = some (.cells cs T fr)) : T = 65 ∨ T = 123 ∨ T = 5 := by
  obtain ⟨mref, ms, hp⟩ := h
  rw [hp.foot] at hk
  simp only [List.mem_cons, List.mem_append, List.mem_flatMap, Option.mem_toList] at hk
  rcases hk with rfl | hk | ⟨m, hm, hk⟩
  · rw [hp.self] at hc; simp at hc; exact .inl hc.2.1.symm
  · have hmap := hp.map
    cases mref with
    | none => simp at hk
    | some mb =>
      simp at hk
      subst hk
      obtain ⟨D, ⟨es, clock, hb, -⟩, -⟩ := hmap
      rw [hb] at hc
      simp at hc
  · have hf := hp.each m hm
    simp only [Dk.FileM.foot, List.mem_cons, Option.mem_toList] at hk
    rcases hk with rfl | hk
    · rw [hf.1] at hc; simp at hc; exact .inr (.inl hc.2.1.symm)
    · rcases hf.2 with ⟨e, -⟩ | ⟨g, cap, cur, e, -, hg, -⟩
      · rw [e] at hk; simp [Value.ownBlock] at hk
      · rw [e] at hk
        simp [Value.ownBlock] at hk
        subst hk
        rw [hg] at hc; simp at hc; exact .inr (.inr hc.2.1.symm)

/-- A segment of a log: where it lies, its base, its batches. -/
structure SM where
  sb : Nat
  sv : Value
  n : Nat
  xs : List Bt.Bat
def SM.foot (m : SM) : List Nat := sfoot m.sb m.sv
def smC (m : SM) : List Value := [.pointer (some ⟨m.sb, 0, none⟩)]
theorem smC_len : ∀ m, (smC m).length = 1 := fun _ => rfl
/-- What a log's box tells besides. -/
structure LV where
  most : Int
  start : Int
  safe : Int
  down : Bool
def boxC (d : Nat) (dir : ByteArray) (gv : Value) (v : LV) : Array Value := #[.pointer (some ⟨d, 0, none⟩), .string dir, .int .i64 v.most, gv, .int .i64 v.start, .int .i64 v.safe, .bool v.down]
structure LogAt (w : World) (base d : Nat) (F : List Nat) (A : DA) (lb : Nat) (gv : Value) (dir : ByteArray) (v : LV) (ms : List SM) : Prop where
  disk : DiskAt w base d F A
  box : w.heap[lb]? = some (.cells (boxC d dir gv v) 70 (0, 0))
  row : GRow 73 1 smC w base gv ms
  low : base ≤ lb
  segs : ∀ m ∈ ms, SegAt w base d m.sb m.sv (Sn.nameB dir m.n) m.n (pls 0 (-1) m.xs)
  apart : ms.Pairwise (fun a b => ∀ k ∈ a.foot, k ∉ b.foot)
def lfoot (F : List Nat) (lb : Nat) (gv : Value) (ms : List SM) : List Nat := lb :: (gv.ownBlock.toList ++ (ms.flatMap SM.foot ++ F))
theorem mem_lfoot {F : List Nat} {lb : Nat} {gv : Value} {ms : List SM} {k : Nat} : k ∈ lfoot F lb gv ms ↔ k = lb ∨ k ∈ gv.ownBlock ∨ (∃ m ∈ ms, k ∈ m.foot) ∨ k ∈ F := by
  unfold lfoot
  rw [List.mem_cons, List.mem_append, List.mem_append, Option.mem_toList, List.mem_flatMap]
  exact Iff.rfl
section
variable {w w' : World} {base d lb : Nat} {F : List Nat} {A : DA} {gv : Value} {dir : ByteArray} {v : LV} {ms ms0 ms1 : List SM} {m : SM}
theorem LogAt.c0 (h : LogAt w base d F A lb gv dir v ms) : w.cell? ⟨lb, 0, none⟩ = some (.pointer (some ⟨d, 0, none⟩)) := by rw [cell_of h.box]; rfl
theorem LogAt.c1 (h : LogAt w base d F A lb gv dir v ms) : w.cell? ⟨lb, 1, none⟩ = some (.string dir) := by rw [cell_of h.box]; rfl
theorem LogAt.c2 (h : LogAt w base d F A lb gv dir v ms) : w.cell? ⟨lb, 2, none⟩ = some (.int .i64 v.most) := by rw [cell_of h.box]; rfl
theorem LogAt.c3 (h : LogAt w base d F A lb gv dir v ms) : w.cell? ⟨lb, 3, none⟩ = some gv := by rw [cell_of h.box]; rfl
theorem LogAt.c4 (h : LogAt w base d F A lb gv dir v ms) : w.cell? ⟨lb, 4, none⟩ = some (.int .i64 v.start) := by rw [cell_of h.box]; rfl
theorem LogAt.c5 (h : LogAt w base d F A lb gv dir v ms) : w.cell? ⟨lb, 5, none⟩ = some (.int .i64 v.safe) := by rw [cell_of h.box]; rfl
theorem LogAt.c6 (h : LogAt w base d F A lb gv dir v ms) : w.cell? ⟨lb, 6, none⟩ = some (.bool v.down) := by rw [cell_of h.box]; rfl
theorem LogAt.fr (h : LogAt w base d F A lb gv dir v ms) (i : Nat) : w.frozen? ⟨lb, i, none⟩ = false := frozen_of h.box i
theorem LogAt.lt (h : LogAt w base d F A lb gv dir v ms) : ∀ k ∈ lfoot F lb gv ms, base ≤ k ∧ k < w.heap.size := by
  intro k hk
  rcases mem_lfoot.1 hk with rfl | hk | ⟨m, hm, hk⟩ | hk
  · exact ⟨h.low, lt_of_heap h.box⟩
  · exact h.row.lt k hk
  · exact (h.segs m hm).lt k hk
  · exact ⟨h.disk.low k hk, h.disk.lt k hk⟩
theorem LogAt.kept {S : List Nat} (h : LogAt w base d F A lb gv dir v ms) (ht : Turn S w w') (hn : ∀ k ∈ lfoot F lb gv ms, k ∉ S) : LogAt w' base d F A lb gv dir v ms :=
  { disk := h.disk.kept ht (fun k hk => hn k (mem_lfoot.2 (.inr (.inr (.inr hk)))))
    box := ht.heap h.box (hn lb (mem_lfoot.2 (.inl rfl)))
    row := h.row.kept ht (fun k hk => hn k (mem_lfoot.2 (.inr (.inl hk))))
    low := h.low
    segs := fun m hm => (h.segs m hm).kept ht (fun k hk => hn k (mem_lfoot.2 (.inr (.inr (.inl ⟨m, hm, hk⟩)))))
    apart := h.apart }
theorem LogAt.still (h : LogAt w base d F A lb gv dir v ms) (ht : Turn [] w w') : LogAt w' base d F A lb gv dir v ms := h.kept ht (by simp)
theorem LogAt.lb_F (h : LogAt w base d F A lb gv dir v ms) : lb ∉ F := fun hm => by
  rcases disk_kind h.disk hm h.box with e | e | e <;> exact absurd e (by decide)
theorem LogAt.gv_F (h : LogAt w base d F A lb gv dir v ms) : ∀ k ∈ gv.ownBlock, k ∉ F := fun k hk hm => by
  obtain ⟨cs, e⟩ := h.row.kind k hk
  rcases disk_kind h.disk hm e with e | e | e <;> exact absurd e (by decide)
theorem seg_F {sb : Nat} {sv : Value} {file : ByteArray} {b0 : Int} {ps : List Sg.Pl} (h : DiskAt w base d F A) (hs : SegAt w base d sb sv file b0 ps) : ∀ k ∈ sfoot sb sv, k ∉ F := fun k hk hm => by
  obtain ⟨cs, T, e, hT⟩ := seg_kind hs k hk
  rcases hT with rfl | rfl <;> rcases disk_kind h hm e with e | e | e <;> exact absurd e (by decide)
theorem LogAt.lb_seg (h : LogAt w base d F A lb gv dir v ms) (hm : m ∈ ms) : lb ∉ m.foot := fun hk => by
  obtain ⟨cs, T, e, hT⟩ := seg_kind (h.segs m hm) lb hk
  rcases hT with rfl | rfl <;> exact ne_of_type h.box e (by decide) rfl
theorem LogAt.gv_seg (h : LogAt w base d F A lb gv dir v ms) (hm : m ∈ ms) : ∀ k ∈ gv.ownBlock, k ∉ m.foot := fun k hk hs => by
  obtain ⟨cs, e⟩ := h.row.kind k hk
  obtain ⟨cs', T, e', hT⟩ := seg_kind (h.segs m hm) k hs
  rcases hT with rfl | rfl <;> exact ne_of_type e e' (by decide) rfl
theorem LogAt.lb_gv (h : LogAt w base d F A lb gv dir v ms) : lb ∉ gv.ownBlock := fun hk => by
  obtain ⟨cs, e⟩ := h.row.kind lb hk
  exact ne_of_type h.box e (by decide) rfl
/-- A segment of it, and the disk. -/
theorem LogAt.both (h : LogAt w base d F A lb gv dir v ms) (hm : m ∈ ms) : Both w base d F A m.sb m.sv (Sn.nameB dir m.n) m.n (pls 0 (-1) m.xs) :=
  ⟨h.disk, h.segs m hm, seg_F h.disk (h.segs m hm)⟩
/-- Something was done with a segment of it. -/
theorem LogAt.back {A' : DA} {xs' : List Bt.Bat} (h : LogAt w base d F A lb gv dir v (ms0 ++ m :: ms1)) (hc : Came w w' base d F A' m.sb m.sv (Sn.nameB dir m.n) m.n (pls 0 (-1) xs')) :
    ∃ F' sv', LogAt w' base d F' A' lb gv dir v (ms0 ++ ⟨m.sb, sv', m.n, xs'⟩ :: ms1) ∧ Turn (F ++ m.foot) w w' ∧ ∀ k ∈ lfoot F' lb gv (ms0 ++ ⟨m.sb, sv', m.n, xs'⟩ :: ms1), k ∈ lfoot F lb gv (ms0 ++ m :: ms1) ∨ w.heap.size ≤ k := by
  obtain ⟨F', sv', hb, ht, hF, hS⟩ := hc
  have hmm : m ∈ ms0 ++ m :: ms1 := by simp
  have hap := h.apart
  rw [List.pairwise_append, List.pairwise_cons] at hap
  obtain ⟨ap0, ⟨ap1, ap2⟩, ap3⟩ := hap
  have hSm : ∀ k ∈ sfoot m.sb sv', k ∈ m.foot ∨ w.heap.size ≤ k := hS
  have hother : ∀ x, x ∈ ms0 ∨ x ∈ ms1 → ∀ k ∈ x.foot, k ∉ F ++ m.foot := by
    intro x hx k hk hm'
    have hxm : x ∈ ms0 ++ m :: ms1 := by rcases hx with hx | hx <;> simp [hx]
    rcases List.mem_append.1 hm' with h' | h'
    · exact seg_F h.disk (h.segs x hxm) k hk h'
    · rcases hx with hx | hx
      · exact ap3 x hx m (by simp) k hk h'
      · exact ap1 x hx k h' hk
  refine ⟨F', sv', ⟨hb.disk, ?_, ?_, h.low, ?_, ?_⟩, ht, ?_⟩
  · exact ht.heap h.box (fun hm' => (List.mem_append.1 hm').elim h.lb_F (h.lb_seg hmm))
  · refine (h.row.kept ht (fun k hk hm' => (List.mem_append.1 hm').elim (h.gv_F k hk) (h.gv_seg hmm k hk))).congr ?_ ?_
    · simp
    · simp [smC]
  · intro x hx
    rcases List.mem_append.1 hx with hx | hx
    · exact (h.segs x (by simp [hx])).kept ht (hother x (.inl hx))
    · rcases List.mem_cons.1 hx with rfl | hx
      · exact hb.seg
      · exact (h.segs x (by simp [hx])).kept ht (hother x (.inr hx))
  · rw [List.pairwise_append, List.pairwise_cons]
    refine ⟨ap0, ⟨fun x hx k hk hk' => ?_, ap2⟩, fun x hx y hy => ?_⟩
    · rcases hSm k hk with h' | h'
      · exact ap1 x hx k h' hk'
      · have := ((h.segs x (by simp [hx])).lt k hk').2; omega
    · rcases List.mem_cons.1 hy with rfl | hy
      · intro k hk hk'
        rcases hSm k hk' with h' | h'
        · exact ap3 x hx m (by simp) k hk h'
        · have := ((h.segs x (by simp [hx])).lt k hk).2; omega
      · exact ap3 x hx y (by simp [hy])
  · intro k hk
    rcases mem_lfoot.1 hk with rfl | hk | ⟨x, hx, hk⟩ | hk
    · exact .inl (mem_lfoot.2 (.inl rfl))
    · exact .inl (mem_lfoot.2 (.inr (.inl hk)))
    · rcases List.mem_append.1 hx with hx | hx
      · exact .inl (mem_lfoot.2 (.inr (.inr (.inl ⟨x, by simp [hx], hk⟩))))
      · rcases List.mem_cons.1 hx with rfl | hx
        · rcases hSm k hk with h' | h'
          · exact .inl (mem_lfoot.2 (.inr (.inr (.inl ⟨m, hmm, h'⟩))))
          · exact .inr h'
        · exact .inl (mem_lfoot.2 (.inr (.inr (.inl ⟨x, by simp [hx], hk⟩))))
    · rcases hF k hk with h' | h'
      · exact .inl (mem_lfoot.2 (.inr (.inr (.inr h'))))
      · exact .inr h'
end
end Go.Proofs.YtmdmdbobbepogaaGreatDoor.Lg

/- Remove, Rename: files that leave the map, and come back under another name. -/
namespace Go.Proofs.YtmdmdbobbepogaaGreatDoor.Dk
open Go.RowKit Go.Maps
set_option maxRecDepth 100000
set_option linter.unusedSimpArgs false
set_option linter.unusedVariables false

theorem sub_flat {l l' : List FileM} (h : l.Sublist l') : (l.flatMap FileM.foot).Sublist (l'.flatMap FileM.foot) := by
  induction h with
  | slnil => exact List.Sublist.refl _
  | cons a _ ih => rw [List.flatMap_cons]; exact ih.trans (List.sublist_append_right _ _)
  | cons_cons a _ ih => rw [List.flatMap_cons, List.flatMap_cons]; exact List.Sublist.append (List.Sublist.refl _) ih

section
variable {w w' : World} {base d : Nat} {F : List Nat} {A A' : DA} {mref : Option Nat} {ms ms' : List FileM} {mb : Nat}

/-- The map is told anew; each of its files lies where one lay. -/
theorem Parts.setMap (h : Parts w base d F A (some mb) ms) (ht : Turn [mb] w w') (hm : MapAt w' (some mb) ms')
    (hin : ∀ x ∈ ms', ∃ m ∈ ms, x.blk = m.blk ∧ x.sl = m.sl ∧ x.abs.bytes = m.abs.bytes ∧ x.abs.safe = m.abs.safe) (hnd : (ms'.flatMap FileM.foot).Nodup)
    (hroom : A'.room = A.room) (hlim : A'.limited = A.limited) (hleft : A'.left = A.left) (hf : A'.files = ms'.map (·.abs)) (hg : Good A') :
    Parts w' base d (d :: mb :: ms'.flatMap FileM.foot) A' (some mb) ms' ∧ ∀ k ∈ d :: mb :: ms'.flatMap FileM.foot, k ∈ F := by
  have hfoot := h.foot
  have hnd0 := h.nodup
  rw [hfoot] at hnd0
  simp only [Option.toList_some, List.cons_append, List.nil_append, List.nodup_cons, List.mem_cons, not_or] at hnd0
  have hsub : ∀ k ∈ ms'.flatMap FileM.foot, k ∈ ms.flatMap FileM.foot := by
    intro k hk
    obtain ⟨x, hx, hkx⟩ := List.mem_flatMap.1 hk
    obtain ⟨m, hm1, e1, e2, _⟩ := hin x hx
    exact List.mem_flatMap.2 ⟨m, hm1, by rw [FileM.foot, e1, e2] at hkx; exact hkx⟩
  have hall : ∀ k ∈ d :: mb :: ms'.flatMap FileM.foot, k ∈ F := by
    intro k hk
    rw [hfoot]
    simp only [List.mem_cons] at hk
    rcases hk with rfl | rfl | hk
    · simp
    · simp
    · have := hsub k hk
      simp only [List.mem_cons, List.mem_append]
      exact .inr (.inr this)
  refine ⟨{ foot := by simp, nodup := ?_, low := fun k hk => h.low k (hall k hk), self := ?_, map := hm, each := ?_, files := hf, good := hg }, hall⟩
  · simp only [List.nodup_cons, List.mem_cons, not_or]
    exact ⟨⟨hnd0.1.1, fun e => hnd0.1.2 (hsub _ e)⟩, fun e => hnd0.2.1 (hsub _ e), hnd⟩
  · rw [hroom, hlim, hleft]
    exact ht.heap h.self (by simp; exact hnd0.1.1)
  · intro x hx
    obtain ⟨m, hm1, e1, e2, e3, e4⟩ := hin x hx
    have hq := (h.each m hm1).kept ht (by
      intro k hk e
      simp only [List.mem_singleton] at e
      subst e
      exact hnd0.2.1 (List.mem_flatMap.2 ⟨m, hm1, hk⟩))
    unfold FileAt at hq ⊢
    rw [e1, e2, e3, e4]
    exact hq

theorem drop_split (pre post : List FileM) (m : FileM) (hn : ((pre ++ m :: post).map (·.abs.name)).Nodup) : dropM (pre ++ m :: post) m.abs.name = pre ++ post := by
  have h1 : ∀ x ∈ pre, (!(x.abs.name == m.abs.name)) = true := by
    intro x hx
    simp only [List.map_append, List.map_cons, List.nodup_append] at hn
    have := hn.2.2 x.abs.name (List.mem_map.2 ⟨x, hx, rfl⟩) m.abs.name (by simp)
    simpa using this
  have h2 : ∀ x ∈ post, (!(x.abs.name == m.abs.name)) = true := by
    intro x hx
    simp only [List.map_append, List.map_cons, List.nodup_append, List.nodup_cons] at hn
    have : x.abs.name ≠ m.abs.name := fun e => hn.2.1.1 (by rw [← e]; exact List.mem_map.2 ⟨x, hx, rfl⟩)
    simpa using this
  unfold dropM
  rw [List.filter_append, List.filter_cons]
  simp only [beq_self_eq_true, Bool.not_true, Bool.false_eq_true, if_false]
  rw [List.filter_eq_self.2 h1, List.filter_eq_self.2 h2]

/-- A list of files without one name. -/
def outF (l : List FA) (nm : List UInt8) : List FA := l.filter (fun f => !(f.name == nm))
theorem out_drop (ms : List FileM) (nm : List UInt8) : (dropM ms nm).map (·.abs) = outF (ms.map (·.abs)) nm := by
  unfold dropM outF
  rw [List.filter_map]; rfl
theorem used_sub {l l' : List FA} (h : l.Sublist l') : usedL l ≤ usedL l' := by
  unfold usedL
  induction h with
  | slnil => exact Nat.le_refl _
  | cons a _ ih => simp only [List.map_cons, List.sum_cons]; omega
  | cons_cons a _ ih => simp only [List.map_cons, List.sum_cons]; omega
theorem Good.sub (h : Good A) {l : List FA} (hs : l.Sublist A.files) : Good { A with files := l } where
  room := h.room
  used := Nat.le_trans (used_sub hs) h.used
  count := Nat.le_trans hs.length_le h.count
  names := (hs.map _).nodup h.names
  short := fun f hf => h.short f (hs.subset hf)
  safe := fun f hf => h.safe f (hs.subset hf)
  left := h.left

def DA.remove (A : DA) (nm : List UInt8) : Int × DA :=
  if A.fails then (14, A)
  else if !A.has nm then (7, A.tick)
  else (0, { A.tick with files := outF A.files nm })
set_option maxHeartbeats 1000000 in
theorem remove_any (h : Parts w base d F A mref ms) (s : ByteArray) (hs : s.size ≤ maxLen) :
    Calls Tryz.prog 55 #[.pointer (some ⟨d, 0, none⟩), .string s] w fun e w' => e = .returned (errR (A.remove s.data.toList).1) ∧ Did w w' base d F (A.remove s.data.toList).2 := by
  have H : Hid (Parts w base d F A mref ms) := h
  have hdF := h.mem_self
  have hhas := has_find h s.data.toList
  clear h
  cases hf : A.fails
  case true =>
    have HV : Hid (A.remove s.data.toList = (14, A)) := by show _ = _; simp [DA.remove, hf]
    have HF : Hid (A.fails = true) := hf
    clear hf hhas
    go_enter Tryz.func55, Tryz.ntmps55
    go_wp2_with (go_at_call 83; refine (operate_fails H.out HF.out _).mono ?_; rintro e w' ⟨rfl, rfl⟩; unfold errV)
    go_ret
    exact ⟨by rw [HV.out]; rfl, by rw [HV.out]; exact Did.none H.out⟩
  case false =>
    have HF : Hid (A.fails = false) := hf
    cases hm : findM ms s.data.toList with
    | none =>
      have HV : Hid (A.remove s.data.toList = (7, A.tick)) := by show _ = _; simp [DA.remove, hf, hhas, hm]
      have HM : Hid (findM ms s.data.toList = none) := hm
      clear hf hhas hm
      go_enter Tryz.func55, Tryz.ntmps55
      go_wp2_with (go_at_call 83; refine (operate_ok H.out HF.out _ hs _ HM.out).mono ?_; rintro e w1 ⟨rfl, hp, ht⟩; simp only [opRes]; unfold errV)
      go_ret
      exact ⟨by rw [HV.out]; rfl, by rw [HV.out]; exact Did.tick hp hdF ht⟩
    | some m =>
      have HV : Hid (A.remove s.data.toList = (0, { A.tick with files := outF A.files s.data.toList })) := by show _ = _; simp [DA.remove, hf, hhas, hm]
      have HM : Hid (findM ms s.data.toList = some m) := hm
      have HN : Hid ((ms.map (·.abs.name)).Nodup) := H.out.names
      clear hf hhas
      cases mref with
      | none =>
        have hms : ms = [] := H.out.map
        subst hms
        simp [findM] at hm
      | some mb =>
        clear hm
        go_enter Tryz.func55, Tryz.ntmps55
        go_wp2_with fail
        refine (operate_ok H.out HF.out _ hs _ HM.out).mono ?_
        rintro e w1 ⟨rfl, hp, ht⟩
        simp only [opRes]
        have c1 := hp.c1
        have HP : Hid (Parts w1 base d F A.tick (some mb) ms) := hp
        clear hp
        obtain ⟨D, hown, hrd⟩ := HP.out.map
        have HR : Hid (Reads D ms) := hrd
        clear hrd
        go_wp2_with (at_delete; refine wpList_delete_own _ rfl _ _ 63 9 rfl 121 law Tryz.underlying63 ptrR mb ms.length D rfl hown _ _ rfl (keyS hs) ?_; intro w2 hown2 hgr2)
        go_ret
        have ht2 : Turn [mb] w1 w2 := (Turn.refl [mb] w1).grown hgr2.grown (by intro k hk; cases hk; simp)
        have hrd2 := HR.out.del HN.out (hown.tidy law) s.data.toList
        have hmap2 : MapAt w2 (some mb) (dropM ms s.data.toList) := ⟨_, by have := ownsMap_tight hown2; rw [hrd2.1] at this; exact this, hrd2⟩
        have hsub : (dropM ms s.data.toList).Sublist ms := List.filter_sublist
        have hfl : A.tick.files = ms.map (·.abs) := HP.out.files
        have hnd0 : (ms.flatMap FileM.foot).Nodup := by
          have := HP.out.nodup
          rw [HP.out.foot, List.nodup_cons, List.nodup_append] at this
          exact this.2.2.1
        have hP := HP.out.setMap (A' := { A.tick with files := outF A.files s.data.toList }) ht2 hmap2 (fun x hx => ⟨x, hsub.subset hx, rfl, rfl, rfl, rfl⟩) ((sub_flat hsub).nodup hnd0) rfl rfl rfl
          (by rw [out_drop, ← hfl, tick_files]) (by have := HP.out.good.sub (l := outF A.files s.data.toList) (by rw [tick_files]; exact List.filter_sublist); exact this)
        refine ⟨by rw [HV.out]; rfl, ?_⟩
        rw [HV.out]
        exact ⟨_, ⟨_, _, hP.1⟩, (ht.mono (by simpa using .inl hdF)).trans ht2 (by simpa using .inl (HP.out.mem_map rfl)), fun k hk => .inl (hP.2 k hk)⟩

def DA.rename (A : DA) (nm : List UInt8) (tn : ByteArray) : Int × DA :=
  if A.fails then (14, A)
  else match A.file nm with
    | none => (7, A.tick)
    | some f => if !nameB tn then (5, A.tick) else (0, { A.tick with files := outF (outF A.files nm) tn.data.toList ++ [{ f with name := tn.data.toList }] })
theorem nodup_move {X o Y Z : List Nat} (h : (X ++ (o ++ Y)).Nodup) (hz : Z.Sublist (X ++ Y)) : (Z ++ o).Nodup := by
  have h1 : ((X ++ Y) ++ o).Nodup := by
    refine (List.Perm.nodup_iff ?_).1 h
    rw [List.append_assoc]
    exact List.Perm.append_left X List.perm_append_comm
  rw [List.nodup_append] at h1 ⊢
  exact ⟨hz.nodup h1.1, h1.2.1, fun a ha b hb => h1.2.2 a (hz.subset ha) b hb⟩
set_option maxHeartbeats 1000000 in
theorem rename_any (h : Parts w base d F A mref ms) (s : ByteArray) (hs : s.size ≤ maxLen) (s2 : ByteArray) (hs2 : s2.size ≤ maxLen) :
    Calls Tryz.prog 128 #[.pointer (some ⟨d, 0, none⟩), .string s, .string s2] w fun e w' => e = .returned (errR (A.rename s.data.toList s2).1) ∧ Did w w' base d F (A.rename s.data.toList s2).2 := by
  have H : Hid (Parts w base d F A mref ms) := h
  have hdF := h.mem_self
  have hff := file_find h s.data.toList
  clear h
  cases hf : A.fails
  case true =>
    have HV : Hid (A.rename s.data.toList s2 = (14, A)) := by show _ = _; simp [DA.rename, hf]
    have HF : Hid (A.fails = true) := hf
    clear hf hff
    go_enter Tryz.func128, Tryz.ntmps128
    go_wp2_with (go_at_call 83; refine (operate_fails H.out HF.out _).mono ?_; rintro e w' ⟨rfl, rfl⟩; unfold errV)
    go_ret
    exact ⟨by rw [HV.out]; rfl, by rw [HV.out]; exact Did.none H.out⟩
  case false =>
    have HF : Hid (A.fails = false) := hf
    cases hm : findM ms s.data.toList with
    | none =>
      have HV : Hid (A.rename s.data.toList s2 = (7, A.tick)) := by show _ = _; simp [DA.rename, hf, hff, hm]
      have HM : Hid (findM ms s.data.toList = none) := hm
      clear hf hff hm
      go_enter Tryz.func128, Tryz.ntmps128
      go_wp2_with (go_at_call 83; refine (operate_ok H.out HF.out _ hs _ HM.out).mono ?_; rintro e w1 ⟨rfl, hp, ht⟩; simp only [opRes]; unfold errV)
      go_ret
      exact ⟨by rw [HV.out]; rfl, by rw [HV.out]; exact Did.tick hp hdF ht⟩
    | some m =>
      have HM : Hid (findM ms s.data.toList = some m) := hm
      cases hb : nameB s2
      case false =>
        have HV : Hid (A.rename s.data.toList s2 = (5, A.tick)) := by show _ = _; simp [DA.rename, hf, hff, hm, hb]
        clear hf hff hm
        go_enter Tryz.func128, Tryz.ntmps128
        go_wp2_with fail
        refine (operate_ok H.out HF.out _ hs _ HM.out).mono ?_
        rintro e w1 ⟨rfl, hp, ht⟩
        simp only [opRes]
        go_wp2_with (go_at_call 163; refine (name_loop _ _ hs2).mono ?_; rintro e w' ⟨rfl, rfl⟩)
        go_ret
        exact ⟨by rw [HV.out]; rfl, by rw [HV.out]; exact Did.tick hp hdF ht⟩
      case true =>
        have HV : Hid (A.rename s.data.toList s2 = (0, { A.tick with files := outF (outF A.files s.data.toList) s2.data.toList ++ [{ m.abs with name := s2.data.toList }] })) := by show _ = _; simp [DA.rename, hf, hff, hm, hb]
        have HN : Hid ((ms.map (·.abs.name)).Nodup) := H.out.names
        clear hf hff
        cases mref with
        | none =>
          have hms : ms = [] := H.out.map
          subst hms
          simp [findM] at hm
        | some mb =>
          clear hm
          go_enter Tryz.func128, Tryz.ntmps128
          go_wp2_with fail
          refine (operate_ok H.out HF.out _ hs _ HM.out).mono ?_
          rintro e w1 ⟨rfl, hp, ht⟩
          simp only [opRes]
          have c1 := hp.c1
          have HP : Hid (Parts w1 base d F A.tick (some mb) ms) := hp
          have hnd := hp.nodup
          rw [hp.foot] at hnd
          have hdm : d ∉ [mb] := by
            simp only [Option.toList_some, List.cons_append, List.nil_append, List.nodup_cons, List.mem_cons, not_or] at hnd
            simp only [List.mem_singleton]; exact hnd.1.1
          have HD : Hid (d ∉ [mb]) := hdm
          clear hp hnd hdm
          obtain ⟨D, hown, hrd⟩ := HP.out.map
          have HR : Hid (Reads D ms) := hrd
          have hsm := HP.out.good.count
          rw [HP.out.files, List.length_map] at hsm
          clear hrd
          go_wp2_with (first | (go_at_call 163; refine (name_loop _ _ hs2).mono ?_; rintro e w' ⟨rfl, rfl⟩) | (at_delete; refine wpList_delete_own _ rfl _ _ 63 9 rfl 121 law Tryz.underlying63 ptrR mb ms.length D rfl hown _ _ rfl (keyS hs) ?_; intro w2 hown2 hgr2; have c12 := cell_of ((Turn.grown (Turn.refl [mb] _) hgr2.grown (by intro k hk; cases hk; simp)).heap HP.out.self HD.out) 1; simp only [List.getElem?_toArray, List.getElem?_cons_succ, List.getElem?_cons_zero] at c12))
          obtain ⟨w3, hrun, ho3, hgr3⟩ := hown2.store law Tryz.underlying63 (by simp only [maxLen]; omega) (keyS hs2) (val := .pointer (some ⟨m.blk, 0, .none⟩)) (d := .lit (.int .i64 (m.blk : Int))) (ps := []) rfl
          rw [hrun]
          simp only [Result.andThen]
          rw [Oper.upon_skip]
          go_wp2
          go_ret
          have ht2 := (Turn.refl [mb] _).grown hgr2.grown (by intro k hk; cases hk; simp)
          have ht3 := (Turn.refl [mb] w2).grown hgr3.grown (by intro k hk; cases hk; simp)
          have ht23 := ht2.same ht3
          have hrd2 := HR.out.del HN.out (hown.tidy law) s.data.toList
          obtain ⟨pre, post, rfl, hnm⟩ := split_at HM.out
          have hds : dropM (pre ++ m :: post) s.data.toList = pre ++ post := by rw [← hnm]; exact drop_split pre post m HN.out
          rw [hds] at hrd2
          have hnpp : ((pre ++ post).map (·.abs.name)).Nodup := by
            refine (List.Sublist.map _ ?_).nodup HN.out
            exact List.Sublist.append (List.Sublist.refl _) (List.sublist_cons_self _ _)
          have hrd3 := hrd2.put hnpp (hown2.tidy law) ⟨{ m.abs with name := s2.data.toList }, m.blk, m.sl⟩
          obtain ⟨Z, hZ⟩ : ∃ Z, Z = dropM (pre ++ post) s2.data.toList := ⟨_, rfl⟩
          simp only at hrd3
          rw [← hZ] at hrd3
          have hZs : Z.Sublist (pre ++ post) := by rw [hZ]; exact List.filter_sublist
          have hmap3 : MapAt w3 (some mb) (Z ++ [⟨{ m.abs with name := s2.data.toList }, m.blk, m.sl⟩]) := ⟨_, by have := ownsMap_tight ho3; rw [hrd3.1] at this; exact this, hrd3⟩
          have hfl : A.tick.files = (pre ++ m :: post).map (·.abs) := HP.out.files
          have hflat : (Z ++ [(⟨{ m.abs with name := s2.data.toList }, m.blk, m.sl⟩ : FileM)]).flatMap FileM.foot = Z.flatMap FileM.foot ++ m.foot := by
            rw [List.flatMap_append]; simp [FileM.foot]
          have hnd0 : ((Z ++ [(⟨{ m.abs with name := s2.data.toList }, m.blk, m.sl⟩ : FileM)]).flatMap FileM.foot).Nodup := by
            rw [hflat]
            have := HP.out.nodup
            rw [HP.out.foot, List.nodup_cons, List.nodup_append] at this
            have h1 := this.2.2.1
            rw [List.flatMap_append, List.flatMap_cons] at h1
            refine nodup_move h1 ?_
            rw [← List.flatMap_append]
            exact sub_flat hZs
          have hout : outF (outF A.files s.data.toList) s2.data.toList = Z.map (·.abs) := by
            rw [hZ, out_drop, ← hds, out_drop, ← hfl, tick_files]
          have hA' : (outF (outF A.files s.data.toList) s2.data.toList ++ [{ m.abs with name := s2.data.toList }]) = (Z ++ [(⟨{ m.abs with name := s2.data.toList }, m.blk, m.sl⟩ : FileM)]).map (·.abs) := by rw [hout]; simp
          have hZall : ∀ x ∈ Z, x ∈ pre ++ m :: post := fun x hx => by
            have := hZs.subset hx
            simp only [List.mem_append, List.mem_cons] at this ⊢
            rcases this with h | h
            · exact .inl h
            · exact .inr (.inr h)
          have hg := HP.out.good
          have hsz : s2.size ≤ 40 := by
            simp only [nameB, Bool.and_eq_true, decide_eq_true_eq] at hb
            exact hb.2.2
          have hgood : Good { A.tick with files := outF (outF A.files s.data.toList) s2.data.toList ++ [{ m.abs with name := s2.data.toList }] } := by
            refine { room := hg.room, used := ?_, count := ?_, names := ?_, short := ?_, safe := ?_, left := hg.left }
            · have h1 := hg.used
              rw [hfl, List.map_append, List.map_cons, usedL_split] at h1
              have h2 := used_sub (List.Sublist.map (fun x : FileM => x.abs) hZs)
              rw [List.map_append] at h2
              rw [hout, usedL_split]
              have h3 : usedL (pre.map (fun x : FileM => x.abs) ++ post.map (fun x : FileM => x.abs)) = usedL (pre.map (fun x : FileM => x.abs)) + usedL (post.map (fun x : FileM => x.abs)) := by simp [usedL, List.sum_append]
              have h4 : usedL ([] : List FA) = 0 := rfl
              show usedL (Z.map (fun x : FileM => x.abs)) + m.abs.bytes.length + usedL [] ≤ A.tick.room
              omega
            · have h1 := hg.count
              rw [hfl] at h1
              have h2 := hZs.length_le
              rw [hout]
              simp only [List.length_append, List.length_map, List.length_cons, List.length_nil] at h1 h2 ⊢
              omega
            · rw [hout, List.map_append, List.map_cons, List.map_nil, List.nodup_append]
              refine ⟨?_, by simp, ?_⟩
              · rw [List.map_map]
                exact (List.Sublist.map _ hZs).nodup hnpp
              · intro a ha b hb e
                simp only [List.mem_singleton] at hb
                rw [hb] at e
                rw [List.map_map] at ha
                obtain ⟨x, hx, e2⟩ := List.mem_map.1 ha
                rw [hZ] at hx
                have := (List.mem_filter.1 hx).2
                simp only [Function.comp_def] at e2
                rw [e2, e] at this
                simp at this
            · intro f hf
              rw [hA'] at hf
              obtain ⟨x, hx, rfl⟩ := List.mem_map.1 hf
              rcases List.mem_append.1 hx with hx | hx
              · exact hg.short _ (by rw [hfl]; exact List.mem_map.2 ⟨x, hZall x hx, rfl⟩)
              · simp only [List.mem_singleton] at hx
                subst hx
                simpa using hsz
            · intro f hf
              rw [hA'] at hf
              obtain ⟨x, hx, rfl⟩ := List.mem_map.1 hf
              rcases List.mem_append.1 hx with hx | hx
              · exact hg.safe _ (by rw [hfl]; exact List.mem_map.2 ⟨x, hZall x hx, rfl⟩)
              · simp only [List.mem_singleton] at hx
                subst hx
                exact hg.safe m.abs (by rw [hfl]; simp)
          have hP := HP.out.setMap (ms' := Z ++ [⟨{ m.abs with name := s2.data.toList }, m.blk, m.sl⟩]) (A' := { A.tick with files := outF (outF A.files s.data.toList) s2.data.toList ++ [{ m.abs with name := s2.data.toList }] }) ht23 hmap3
            (fun x hx => by
              rcases List.mem_append.1 hx with hx | hx
              · exact ⟨x, hZall x hx, rfl, rfl, rfl, rfl⟩
              · simp only [List.mem_singleton] at hx
                subst hx
                exact ⟨m, by simp, rfl, rfl, rfl, rfl⟩) hnd0 rfl rfl rfl hA' hgood
          refine ⟨by rw [HV.out]; rfl, ?_⟩
          rw [HV.out]
          exact ⟨_, ⟨_, _, hP.1⟩, (ht.mono (by simpa using .inl hdF)).trans ht23 (by simpa using .inl (HP.out.mem_map rfl)), fun k hk => .inl (hP.2 k hk)⟩
end

end Go.Proofs.YtmdmdbobbepogaaGreatDoor.Dk

/- (*segment.Segment).Sync, Remove: the disk's, of its file. -/
namespace Go.Proofs.YtmdmdbobbepogaaGreatDoor.Sg
open Go.RowKit Go.Maps
set_option maxRecDepth 100000
set_option linter.unusedSimpArgs false
set_option linter.unusedVariables false
attribute [local go_sem] Oper.semAt_some
open Dk (DA DiskAt Parts Did errR errV)

theorem did_before {w w1 w' : World} {base d : Nat} {F : List Nat} {A' : DA} (ht : Turn [] w w1) (h : Did w1 w' base d F A') : Did w w' base d F A' := by
  obtain ⟨F', hd, ht2, hf⟩ := h
  exact ⟨F', hd, (ht.mono (T := F) (by simp)).same ht2, fun k hk => (hf k hk).imp_right (Nat.le_trans ht.size)⟩
theorem Both.did {w w' : World} {base d sb : Nat} {F : List Nat} {A A' : DA} {sv : Value} {file : ByteArray} {b0 : Int} {ps : List Pl} (h : Both w base d F A sb sv file b0 ps) (hd : Did w w' base d F A') : Came w w' base d F A' sb sv file b0 ps := by
  obtain ⟨F', hd, ht, hf⟩ := hd
  exact ⟨F', sv, ⟨hd, h.seg.kept ht h.sep, fun k hk hm => (hf k hm).elim (h.sep k hk) (fun h' => by have := (h.seg.lt k hk).2; omega)⟩, ht.mono (fun k hk => .inl (List.mem_append_left _ hk)), hf, fun _ hk => .inl hk⟩
set_option maxHeartbeats 1000000 in
theorem sync_any (w : World) (base d : Nat) (F : List Nat) (A : DA) (sb : Nat) (sv : Value) (file : ByteArray) (b0 : Int) (ps : List Pl) (h : Both w base d F A sb sv file b0 ps) (hfs : file.size ≤ maxLen) :
    Calls Tryz.prog 58 #[.pointer (some ⟨sb, 0, none⟩)] w fun e w' => e = .returned (errR (A.sync file.data.toList).1) ∧ Did w w' base d F (A.sync file.data.toList).2 := by
  have HB := hide h
  have hsb := lt_of_heap h.seg.box
  clear h
  go_enter Tryz.func58, Tryz.ntmps58
  go_wp2
  refine wp_region_tail 8 (Turn []) (by kernel_rfl) (by kernel_rfl) (by kernel_rfl) (by kernel_rfl) (by kernel_rfl) (Nat.le_of_ble_eq_true rfl) rfl (Turn.refl _) (fun _ _ _ h k => h.same k) ?_
  apply Lo.runx 1 rfl rfl [] (by kernel_rfl) (Turn.refl _)
  apply Exists.intro; apply And.intro
  · intro u w1 hR hF
    clear hF
    refine ⟨rfl, fun a ha K hK => ?_⟩
    have e0 := ha 0
    conv at e0 => rhs; whnf
    clear ha
    go_simp
    refine hK _ ?_; rfl
  apply Lo.runx 2 rfl rfl [0] (by kernel_rfl) (Turn.refl _)
  apply Exists.intro; apply And.intro
  · intro u w1 hR hF
    obtain ⟨h0, -⟩ := hF
    refine ⟨rfl, fun a ha K hK => ?_⟩
    have e3 := (ha 3).trans h0
    clear ha h0
    go_simp
    refine hK _ ?_; rfl
  apply Lo.runx 3 rfl rfl [1] (by kernel_rfl) (Turn.refl _)
  apply Exists.intro; apply And.intro
  · intro u w1 hR hF
    obtain ⟨h1, -⟩ := hF
    refine ⟨rfl, fun a ha K hK => ?_⟩
    have e4 := (ha 4).trans h1
    clear ha h1
    go_simp
    refine hK _ ?_; rfl
  apply Lo.runx 4 rfl rfl [2] (by kernel_rfl) (Turn.refl _)
  apply Exists.intro; apply And.intro
  · intro u w1 hR hF
    obtain ⟨h2, -⟩ := hF
    refine ⟨rfl, fun a ha K hK => ?_⟩
    have e5 := (ha 5).trans h2
    clear ha h2
    have hS := HB.out.seg.still (((Turn.refl [] _).drew).same hR)
    have c0 := hS.c0
    have z1 := lt_of_heap hS.box
    go_simp
    refine hK _ ?_; rfl
  apply Lo.runx 5 rfl rfl [] (by kernel_rfl) (Turn.refl _)
  apply Exists.intro; apply And.intro
  · intro u w1 hR hF
    clear hF
    refine ⟨rfl, fun a ha K hK => ?_⟩
    have e0 := ha 0
    conv at e0 => rhs; whnf
    clear ha
    go_simp
    refine hK _ ?_; rfl
  apply Lo.runx 6 rfl rfl [4] (by kernel_rfl) (Turn.refl _)
  apply Exists.intro; apply And.intro
  · intro u w1 hR hF
    obtain ⟨h4, -⟩ := hF
    refine ⟨rfl, fun a ha K hK => ?_⟩
    have e7 := (ha 7).trans h4
    clear ha h4
    go_simp
    refine hK _ ?_; rfl
  apply Lo.runx 7 rfl rfl [5] (by kernel_rfl) (Turn.refl _)
  apply Exists.intro; apply And.intro
  · intro u w1 hR hF
    obtain ⟨h5, -⟩ := hF
    refine ⟨rfl, fun a ha K hK => ?_⟩
    have e8 := (ha 8).trans h5
    clear ha h5
    go_simp
    refine hK _ ?_; rfl
  apply Lo.runx 8 rfl rfl [6] (by kernel_rfl) (Turn.refl _)
  apply Exists.intro; apply And.intro
  · intro u w1 hR hF
    obtain ⟨h6, -⟩ := hF
    refine ⟨rfl, fun a ha K hK => ?_⟩
    have e9 := (ha 9).trans h6
    clear ha h6
    have hS := HB.out.seg.still (((Turn.refl [] _).drew).same hR)
    have c1 := hS.c1
    have z1 := lt_of_heap hS.box
    go_simp
    refine hK _ ?_; rfl
  refine Lo.done [3, 7] (fun u w1 hRd hSd hF => ?_)
  clear hSd
  obtain ⟨f3, f7, -⟩ := hF
  have d3 : u 3 = _ := f3
  have d7 : u 7 = _ := f7
  clear f3 f7
  simp only [List.take_succ_cons, List.take_zero, List.drop_succ_cons, List.drop_zero, putFrom, Act.put, List.setIfInBounds_toArray, List.set_cons_succ, List.set_cons_zero, Nat.zero_add, Nat.reduceAdd, d3, d7]
  have HT := hide (((Turn.refl [] w).drew).same hRd)
  clear d3 d7 hRd
  go_wp2_with fail
  obtain ⟨mref, ms, hp⟩ := HB.out.disk.kept HT.out (by simp)
  refine (Dk.sync_any hp file hfs).mono ?_
  rintro e w2 ⟨rfl, hd⟩
  obtain ⟨r, hr⟩ : ∃ r, r = errR (A.sync file.data.toList).1 := ⟨_, rfl⟩
  rw [← hr]
  have HR := hide hr
  have HD := hide hd
  clear hr hd hp
  go_wp2
  go_ret
  rw [HR.out]
  exact ⟨rfl, did_before HT.out HD.out⟩
set_option maxHeartbeats 1000000 in
theorem remove_any (w : World) (base d : Nat) (F : List Nat) (A : DA) (sb : Nat) (sv : Value) (file : ByteArray) (b0 : Int) (ps : List Pl) (h : Both w base d F A sb sv file b0 ps) (hfs : file.size ≤ maxLen) :
    Calls Tryz.prog 68 #[.pointer (some ⟨sb, 0, none⟩)] w fun e w' => e = .returned (errR (A.remove file.data.toList).1) ∧ Did w w' base d F (A.remove file.data.toList).2 := by
  have HB := hide h
  have hsb := lt_of_heap h.seg.box
  clear h
  go_enter Tryz.func68, Tryz.ntmps68
  go_wp2
  refine wp_region_tail 8 (Turn []) (by kernel_rfl) (by kernel_rfl) (by kernel_rfl) (by kernel_rfl) (by kernel_rfl) (Nat.le_of_ble_eq_true rfl) rfl (Turn.refl _) (fun _ _ _ h k => h.same k) ?_
  apply Lo.runx 1 rfl rfl [] (by kernel_rfl) (Turn.refl _)
  apply Exists.intro; apply And.intro
  · intro u w1 hR hF
    clear hF
    refine ⟨rfl, fun a ha K hK => ?_⟩
    have e0 := ha 0
    conv at e0 => rhs; whnf
    clear ha
    go_simp
    refine hK _ ?_; rfl
  apply Lo.runx 2 rfl rfl [0] (by kernel_rfl) (Turn.refl _)
  apply Exists.intro; apply And.intro
  · intro u w1 hR hF
    obtain ⟨h0, -⟩ := hF
    refine ⟨rfl, fun a ha K hK => ?_⟩
    have e3 := (ha 3).trans h0
    clear ha h0
    go_simp
    refine hK _ ?_; rfl
  apply Lo.runx 3 rfl rfl [1] (by kernel_rfl) (Turn.refl _)
  apply Exists.intro; apply And.intro
  · intro u w1 hR hF
    obtain ⟨h1, -⟩ := hF
    refine ⟨rfl, fun a ha K hK => ?_⟩
    have e4 := (ha 4).trans h1
    clear ha h1
    go_simp
    refine hK _ ?_; rfl
  apply Lo.runx 4 rfl rfl [2] (by kernel_rfl) (Turn.refl _)
  apply Exists.intro; apply And.intro
  · intro u w1 hR hF
    obtain ⟨h2, -⟩ := hF
    refine ⟨rfl, fun a ha K hK => ?_⟩
    have e5 := (ha 5).trans h2
    clear ha h2
    have hS := HB.out.seg.still (((Turn.refl [] _).drew).same hR)
    have c0 := hS.c0
    have z1 := lt_of_heap hS.box
    go_simp
    refine hK _ ?_; rfl
  apply Lo.runx 5 rfl rfl [] (by kernel_rfl) (Turn.refl _)
  apply Exists.intro; apply And.intro
  · intro u w1 hR hF
    clear hF
    refine ⟨rfl, fun a ha K hK => ?_⟩
    have e0 := ha 0
    conv at e0 => rhs; whnf
    clear ha
    go_simp
    refine hK _ ?_; rfl
  apply Lo.runx 6 rfl rfl [4] (by kernel_rfl) (Turn.refl _)
  apply Exists.intro; apply And.intro
  · intro u w1 hR hF
    obtain ⟨h4, -⟩ := hF
    refine ⟨rfl, fun a ha K hK => ?_⟩
    have e7 := (ha 7).trans h4
    clear ha h4
    go_simp
    refine hK _ ?_; rfl
  apply Lo.runx 7 rfl rfl [5] (by kernel_rfl) (Turn.refl _)
  apply Exists.intro; apply And.intro
  · intro u w1 hR hF
    obtain ⟨h5, -⟩ := hF
    refine ⟨rfl, fun a ha K hK => ?_⟩
    have e8 := (ha 8).trans h5
    clear ha h5
    go_simp
    refine hK _ ?_; rfl
  apply Lo.runx 8 rfl rfl [6] (by kernel_rfl) (Turn.refl _)
  apply Exists.intro; apply And.intro
  · intro u w1 hR hF
    obtain ⟨h6, -⟩ := hF
    refine ⟨rfl, fun a ha K hK => ?_⟩
    have e9 := (ha 9).trans h6
    clear ha h6
    have hS := HB.out.seg.still (((Turn.refl [] _).drew).same hR)
    have c1 := hS.c1
    have z1 := lt_of_heap hS.box
    go_simp
    refine hK _ ?_; rfl
  refine Lo.done [3, 7] (fun u w1 hRd hSd hF => ?_)
  clear hSd
  obtain ⟨f3, f7, -⟩ := hF
  have d3 : u 3 = _ := f3
  have d7 : u 7 = _ := f7
  clear f3 f7
  simp only [List.take_succ_cons, List.take_zero, List.drop_succ_cons, List.drop_zero, putFrom, Act.put, List.setIfInBounds_toArray, List.set_cons_succ, List.set_cons_zero, Nat.zero_add, Nat.reduceAdd, d3, d7]
  have HT := hide (((Turn.refl [] w).drew).same hRd)
  clear d3 d7 hRd
  go_wp2_with fail
  obtain ⟨mref, ms, hp⟩ := HB.out.disk.kept HT.out (by simp)
  refine (Dk.remove_any hp file hfs).mono ?_
  rintro e w2 ⟨rfl, hd⟩
  obtain ⟨r, hr⟩ : ∃ r, r = errR (A.remove file.data.toList).1 := ⟨_, rfl⟩
  rw [← hr]
  have HR := hide hr
  have HD := hide hd
  clear hr hd hp
  go_wp2
  go_ret
  rw [HR.out]
  exact ⟨rfl, did_before HT.out HD.out⟩
end Go.Proofs.YtmdmdbobbepogaaGreatDoor.Sg

/- What is done with a log, at its end: last, End, Start, sync, begin, roll. -/
namespace Go.Proofs.YtmdmdbobbepogaaGreatDoor.Lg
open Go.RowKit Go.Maps
set_option maxRecDepth 100000
set_option linter.unusedSimpArgs false
set_option linter.unusedVariables false
attribute [local go_sem] Oper.semAt_some
open Dk (DA DiskAt Parts Did errR errV)
open Sg (SegAt sfoot pls Both Came nextOf)

def SM.abs (m : SM) : Nat × List Bt.Bat := (m.n, m.xs)
/-- What an operation on a log has come to. -/
def LDid (w w' : World) (base d : Nat) (G : List Nat) (A' : DA) (lb : Nat) (dir : ByteArray) (v' : LV) (ss' : List (Nat × List Bt.Bat)) : Prop :=
  ∃ F' gv' ms', LogAt w' base d F' A' lb gv' dir v' ms' ∧ ms'.map SM.abs = ss' ∧ Turn G w w' ∧ ∀ k ∈ lfoot F' lb gv' ms', k ∈ G ∨ w.heap.size ≤ k
section
variable {w w' w1 : World} {base d lb : Nat} {F G : List Nat} {A A' : DA} {gv : Value} {dir : ByteArray} {v v' : LV} {ms ms0 ms1 : List SM} {m : SM} {ss' : List (Nat × List Bt.Bat)}
theorem LDid.before (ht : Turn [] w w1) (h : LDid w1 w' base d G A' lb dir v' ss') : LDid w w' base d G A' lb dir v' ss' := by
  obtain ⟨F', gv', ms', hl, hm, ht2, hf⟩ := h
  exact ⟨F', gv', ms', hl, hm, (ht.mono (T := G) (by simp)).same ht2, fun k hk => (hf k hk).imp_right (Nat.le_trans ht.size)⟩
theorem LogAt.quiet (h : LogAt w base d F A lb gv dir v ms) (ht : Turn [] w w') : LDid w w' base d (lfoot F lb gv ms) A lb dir v (ms.map SM.abs) :=
  ⟨F, gv, ms, h.still ht, rfl, ht.mono (by simp), fun _ hk => .inl hk⟩
/-- The disk alone has turned. -/
theorem LogAt.did (h : LogAt w base d F A lb gv dir v ms) (hd : Did w w' base d F A') : LDid w w' base d (lfoot F lb gv ms) A' lb dir v (ms.map SM.abs) := by
  obtain ⟨F', hd, ht, hf⟩ := hd
  refine ⟨F', gv, ms, ⟨hd, ht.heap h.box h.lb_F, h.row.kept ht h.gv_F, h.low, fun m hm => (h.segs m hm).kept ht (seg_F h.disk (h.segs m hm)), h.apart⟩, rfl, ht.mono (fun k hk => .inl (mem_lfoot.2 (.inr (.inr (.inr hk))))), fun k hk => ?_⟩
  rcases mem_lfoot.1 hk with h1 | h1 | h1 | h1
  · exact .inl (mem_lfoot.2 (.inl h1))
  · exact .inl (mem_lfoot.2 (.inr (.inl h1)))
  · exact .inl (mem_lfoot.2 (.inr (.inr (.inl h1))))
  · rcases hf k h1 with h2 | h2
    · exact .inl (mem_lfoot.2 (.inr (.inr (.inr h2))))
    · exact .inr h2
/-- A segment, and the disk, have turned. -/
theorem LogAt.came {xs' : List Bt.Bat} (h : LogAt w base d F A lb gv dir v (ms0 ++ m :: ms1)) (hc : Came w w' base d F A' m.sb m.sv (Sn.nameB dir m.n) m.n (pls 0 (-1) xs')) :
    LDid w w' base d (lfoot F lb gv (ms0 ++ m :: ms1)) A' lb dir v (ms0.map SM.abs ++ (m.n, xs') :: ms1.map SM.abs) := by
  obtain ⟨F', sv', hl, ht, hf⟩ := h.back hc
  refine ⟨F', gv, _, hl, by simp [SM.abs], ht.mono (fun k hk => .inl ?_), hf⟩
  rcases List.mem_append.1 hk with h1 | h1
  · exact mem_lfoot.2 (.inr (.inr (.inr h1)))
  · exact mem_lfoot.2 (.inr (.inr (.inl ⟨m, by simp, h1⟩)))
/-- A cell of the log's box has turned. -/
theorem LogAt.setBox {i : Nat} {u : Value} {v' : LV} (h : LogAt w base d F A lb gv dir v ms) (hc : (boxC d dir gv v).setIfInBounds i u = boxC d dir gv v') : LogAt (w.setCell ⟨lb, i, none⟩ u) base d F A lb gv dir v' ms := by
  have ht : Turn [lb] w (w.setCell ⟨lb, i, none⟩ u) := (Turn.refl _ _).setCell (.inl (by simp)) _
  refine ⟨h.disk.kept ht (fun k hk hm => ?_), ?_, h.row.kept ht (fun k hk hm => ?_), h.low, fun m hm => (h.segs m hm).kept ht (fun k hk hm' => ?_), h.apart⟩
  · obtain rfl := List.mem_singleton.1 hm; exact h.lb_F hk
  · rw [heap_set h.box, hc]
  · obtain rfl := List.mem_singleton.1 hm; exact h.lb_gv hk
  · obtain rfl := List.mem_singleton.1 hm'; exact h.lb_seg hm hk
end
theorem split_last {α β : Type} {f : α → β} {l : List α} {r : List β} {b : β} (h : l.map f = r ++ [b]) : ∃ l0 a, l = l0 ++ [a] ∧ l0.map f = r ∧ f a = b := by
  obtain ⟨l0, l1, rfl, h1, h2⟩ := List.map_eq_append_iff.1 h
  obtain ⟨a, l2, rfl, h3, h4⟩ := List.map_eq_cons_iff.1 h2
  obtain rfl := List.map_eq_nil_iff.1 h4
  exact ⟨l0, a, rfl, h1, h3⟩

set_option maxHeartbeats 2000000 in
theorem last_any (w : World) (base d : Nat) (F : List Nat) (A : DA) (lb : Nat) (gv : Value) (dir : ByteArray) (v : LV) (ms0 : List SM) (m : SM) (h : LogAt w base d F A lb gv dir v (ms0 ++ [m])) (hl : ms0.length ≤ 1000000) :
    Calls Tryz.prog 33 #[.pointer (some ⟨lb, 0, none⟩)] w fun e w' => e = .returned (.pointer (some ⟨m.sb, 0, none⟩)) ∧ Turn [] w w' := by
  obtain ⟨g, cap, hgv, hc, -⟩ := h.row.at smC_len (j := ms0.length) (by simp)
  subst hgv
  have H := hide h
  clear h hc
  have hlb := lt_of_heap H.out.box
  go_enter Tryz.func33, Tryz.ntmps33
  go_wp2
  refine wp_region_tail 12 (Turn []) (by kernel_rfl) (by kernel_rfl) (by kernel_rfl) (by kernel_rfl) (by kernel_rfl) (Nat.le_of_ble_eq_true rfl) rfl (Turn.refl _) (fun _ _ _ h k => h.same k) ?_
  apply Lo.runx 1 rfl rfl [] (by kernel_rfl) (Turn.refl _)
  apply Exists.intro; apply And.intro
  · intro u w1 hR hF
    clear hF
    refine ⟨rfl, fun a ha K hK => ?_⟩
    have e0 := ha 0
    conv at e0 => rhs; whnf
    clear ha
    go_simp
    refine hK _ ?_; rfl
  apply Lo.runx 2 rfl rfl [0] (by kernel_rfl) (Turn.refl _)
  apply Exists.intro; apply And.intro
  · intro u w1 hR hF
    obtain ⟨h0, -⟩ := hF
    refine ⟨rfl, fun a ha K hK => ?_⟩
    have e3 := (ha 3).trans h0
    clear ha h0
    go_simp
    refine hK _ ?_; rfl
  apply Lo.runx 3 rfl rfl [1] (by kernel_rfl) (Turn.refl _)
  apply Exists.intro; apply And.intro
  · intro u w1 hR hF
    obtain ⟨h1, -⟩ := hF
    refine ⟨rfl, fun a ha K hK => ?_⟩
    have e4 := (ha 4).trans h1
    clear ha h1
    go_simp
    refine hK _ ?_; rfl
  refine Lo.runv 4 rfl rfl [2] (.slice (some ⟨g, 0, none⟩) (ms0.length + 1) cap) (by kernel_rfl) (fun u w1 hR hF => ?_) (Turn.refl _) ?_
  · obtain ⟨h2, -⟩ := hF
    refine ⟨rfl, fun a ha K hK => ?_⟩
    have e5 := (ha 5).trans h2
    clear ha h2
    have hL := H.out.still (((Turn.refl [] _).drew).same hR)
    have c3 := hL.c3
    have z1 := lt_of_heap hL.box
    rw [List.length_append, List.length_singleton] at c3
    go_simp
    refine hK _ ?_
    rfl
  apply Lo.runx 5 rfl rfl [] (by kernel_rfl) (Turn.refl _)
  apply Exists.intro; apply And.intro
  · intro u w1 hR hF
    clear hF
    refine ⟨rfl, fun a ha K hK => ?_⟩
    have e0 := ha 0
    conv at e0 => rhs; whnf
    clear ha
    go_simp
    refine hK _ ?_; rfl
  apply Lo.runx 6 rfl rfl [4] (by kernel_rfl) (Turn.refl _)
  apply Exists.intro; apply And.intro
  · intro u w1 hR hF
    obtain ⟨h4, -⟩ := hF
    refine ⟨rfl, fun a ha K hK => ?_⟩
    have e7 := (ha 7).trans h4
    clear ha h4
    go_simp
    refine hK _ ?_; rfl
  apply Lo.runx 7 rfl rfl [5] (by kernel_rfl) (Turn.refl _)
  apply Exists.intro; apply And.intro
  · intro u w1 hR hF
    obtain ⟨h5, -⟩ := hF
    refine ⟨rfl, fun a ha K hK => ?_⟩
    have e8 := (ha 8).trans h5
    clear ha h5
    go_simp
    refine hK _ ?_; rfl
  refine Lo.runv 8 rfl rfl [6] (.slice (some ⟨g, 0, none⟩) (ms0.length + 1) cap) (by kernel_rfl) (fun u w1 hR hF => ?_) (Turn.refl _) ?_
  · obtain ⟨h6, -⟩ := hF
    refine ⟨rfl, fun a ha K hK => ?_⟩
    have e9 := (ha 9).trans h6
    clear ha h6
    have hL := H.out.still (((Turn.refl [] _).drew).same hR)
    have c3 := hL.c3
    have z1 := lt_of_heap hL.box
    rw [List.length_append, List.length_singleton] at c3
    go_simp
    refine hK _ ?_
    rfl
  apply Lo.runx 9 rfl rfl [7] (by kernel_rfl) (Turn.refl _)
  apply Exists.intro; apply And.intro
  · intro u w1 hR hF
    obtain ⟨h7, -⟩ := hF
    refine ⟨rfl, fun a ha K hK => ?_⟩
    have e10 := (ha 10).trans h7
    clear ha h7
    go_simp
    refine hK _ ?_; rfl
  refine Lo.runv 10 rfl rfl [8] (.int .i64 (ms0.length : Int)) (by kernel_rfl) (fun u w1 hR hF => ?_) (Turn.refl _) ?_
  · obtain ⟨h8, -⟩ := hF
    refine ⟨rfl, fun a ha K hK => ?_⟩
    have e11 := (ha 11).trans h8
    clear ha h8
    go_simp
    refine hK _ ?_
    rw [IntWalk.i64_left, IntWalk.wrap64_in _ (by omega)]
  refine Lo.runv 11 rfl rfl [3, 9] (.pointer (some ⟨g, ms0.length, none⟩)) (by kernel_rfl) (fun u w1 hR hF => ?_) (Turn.refl _) ?_
  · obtain ⟨h3, h9, -⟩ := hF
    refine ⟨rfl, fun a ha K hK => ?_⟩
    have e6 := (ha 6).trans h3
    have e12 := (ha 12).trans h9
    clear ha h3 h9
    have h10 : (ms0.length : Int) < ms0.length + 1 := by omega
    go_simp
    refine hK _ ?_
    rfl
  refine Lo.runv 12 rfl rfl [10] (.pointer (some ⟨m.sb, 0, none⟩)) (by kernel_rfl) (fun u w1 hR hF => ?_) (Turn.refl _) ?_
  · obtain ⟨h10, -⟩ := hF
    refine ⟨rfl, fun a ha K hK => ?_⟩
    have e13 := (ha 13).trans h10
    clear ha h10
    have hL := H.out.still (((Turn.refl [] _).drew).same hR)
    obtain ⟨g', cap', e, hc, -⟩ := hL.row.at smC_len (j := ms0.length) (by simp)
    simp at e
    obtain ⟨rfl, rfl⟩ := e
    have hc0 : w1.cell? ⟨g, ms0.length, none⟩ = some (.pointer (some ⟨m.sb, 0, none⟩)) := by simpa [smC] using hc 0 (by omega)
    clear hc
    go_simp
    refine hK _ ?_
    rfl
  refine Lo.done [11] (fun u w1 hRd hSd hF => ?_)
  clear hSd
  obtain ⟨f11, -⟩ := hF
  have d11 : u 11 = _ := f11
  clear f11
  simp only [List.take_succ_cons, List.take_zero, List.drop_succ_cons, List.drop_zero, putFrom, Act.put, List.setIfInBounds_toArray, List.set_cons_succ, List.set_cons_zero, Nat.zero_add, Nat.reduceAdd, d11]
  have HT := hide (((Turn.refl [] w).drew).same hRd)
  clear d11 hRd
  go_wp2
  go_ret
  exact ⟨rfl, HT.out⟩

set_option maxHeartbeats 1000000 in
theorem end_any (w : World) (base d : Nat) (F : List Nat) (A : DA) (lb : Nat) (gv : Value) (dir : ByteArray) (v : LV) (ms0 : List SM) (m : SM) (h : LogAt w base d F A lb gv dir v (ms0 ++ [m])) (hl : ms0.length ≤ 1000000) (hx : m.xs.length ≤ 1000000) :
    Calls Tryz.prog 14 #[.pointer (some ⟨lb, 0, none⟩)] w fun e w' => e = .returned (.int .i64 (nextOf m.n m.xs)) ∧ Turn [] w w' := by
  have H := hide h
  have hla := last_any w base d F A lb gv dir v ms0 m h hl
  clear h
  go_enter Tryz.func14, Tryz.ntmps14
  go_wp2_with fail
  refine hla.mono ?_
  rintro e w1 ⟨rfl, ht1⟩
  have HT1 := hide ht1
  clear ht1 hla
  go_wp2_with fail
  refine (Sg.next_any _ base d m.sb m.sv _ m.n _ ((H.out.segs m (by simp)).still HT1.out) (by rw [Sg.pls_len]; exact hx)).mono ?_
  rintro e w2 ⟨rfl, ht2⟩
  rw [Sg.nextP_pls]
  obtain ⟨nx, hnx⟩ : ∃ nx, nx = nextOf m.n m.xs := ⟨_, rfl⟩
  rw [← hnx]
  have HNX := hide hnx
  have HT2 := hide (HT1.out.same ht2)
  clear hnx ht2
  go_wp2
  go_ret
  rw [← HNX.out]
  exact ⟨rfl, HT2.out⟩
theorem start_any (w : World) (base d : Nat) (F : List Nat) (A : DA) (lb : Nat) (gv : Value) (dir : ByteArray) (v : LV) (ms : List SM) (h : LogAt w base d F A lb gv dir v ms) :
    Calls Tryz.prog 15 #[.pointer (some ⟨lb, 0, none⟩)] w fun e w' => e = .returned (.int .i64 v.start) ∧ w = w' := by
  have c4 := h.c4
  have hlb := lt_of_heap h.box
  clear h
  go_enter Tryz.func15, Tryz.ntmps15
  go_wp2
  go_ret
  exact ⟨rfl, rfl⟩

/-- sync: the last segment is made safe; then all is. -/
def safeIf (c : Int) (v : LV) (nx : Int) : LV := if c = 0 then { v with safe := nx } else v
set_option maxHeartbeats 2000000 in
theorem sync_any (w : World) (base d : Nat) (F : List Nat) (A : DA) (lb : Nat) (gv : Value) (dir : ByteArray) (v : LV) (ms0 : List SM) (m : SM) (h : LogAt w base d F A lb gv dir v (ms0 ++ [m])) (hl : ms0.length ≤ 1000000) (hx : m.xs.length ≤ 1000000) (hfs : (Sn.nameB dir m.n).size ≤ maxLen) :
    Calls Tryz.prog 28 #[.pointer (some ⟨lb, 0, none⟩)] w fun e w' => e = .returned (errR (A.sync (Sn.nameB dir m.n).data.toList).1) ∧
      LDid w w' base d (lfoot F lb gv (ms0 ++ [m])) (A.sync (Sn.nameB dir m.n).data.toList).2 lb dir (safeIf (A.sync (Sn.nameB dir m.n).data.toList).1 v (nextOf m.n m.xs)) ((ms0 ++ [m]).map SM.abs) := by
  have H := hide h
  have hla := last_any w base d F A lb gv dir v ms0 m h hl
  clear h
  go_enter Tryz.func28, Tryz.ntmps28
  go_wp2_with fail
  refine hla.mono ?_
  rintro e w1 ⟨rfl, ht1⟩
  have HT1 := hide ht1
  clear ht1 hla
  go_wp2_with fail
  refine (Sg.sync_any _ base d F A m.sb m.sv _ m.n _ ((H.out.still HT1.out).both (by simp)) hfs).mono ?_
  rintro e w2 ⟨rfl, hd⟩
  obtain ⟨c, hc⟩ : ∃ c, c = (A.sync (Sn.nameB dir m.n).data.toList).1 := ⟨_, rfl⟩
  obtain ⟨A2, hA2⟩ : ∃ A2, A2 = (A.sync (Sn.nameB dir m.n).data.toList).2 := ⟨_, rfl⟩
  rw [← hA2] at hd
  rw [← hc]
  have HCE := hide hc
  have HAE := hide hA2
  obtain ⟨F2, gv2, ms2, hl2, hm2, ht2, hf2⟩ := ((H.out.still HT1.out).did hd).before HT1.out
  rw [List.map_append, List.map_singleton] at hm2
  obtain ⟨ms20, m2, rfl, hm20, hm2a⟩ := split_last hm2
  have hla2 := end_any w2 base d F2 A2 lb gv2 dir v ms20 m2 hl2 (by rw [← List.length_map (f := SM.abs), hm20, List.length_map]; exact hl) (by have : m2.xs = m.xs := congrArg Prod.snd hm2a; rw [this]; exact hx)
  have e1 : nextOf m2.n m2.xs = nextOf m.n m.xs := by
    have h1 : m2.n = m.n := congrArg Prod.fst hm2a
    have h2 : m2.xs = m.xs := congrArg Prod.snd hm2a
    rw [h1, h2]
  rw [e1] at hla2
  have HL2 := hide hl2
  have HLA2 := hide hla2
  have HM2 := hide hm2
  have HT2 := hide ht2
  have HF2 := hide hf2
  clear hd hc hA2 hl2 hm2 ht2 hf2 hla2 hm20 hm2a e1
  by_cases hc0 : c = 0
  · have hr0 : errR c = .nilIface := by rw [hc0]; rfl
    have HC0 := hide hc0
    rw [hr0]
    clear hr0 hc0
    go_wp2_with fail
    refine HLA2.out.mono ?_
    rintro e w3 ⟨rfl, ht3⟩
    obtain ⟨nx, hnx⟩ : ∃ nx, nx = nextOf m.n m.xs := ⟨_, rfl⟩
    rw [← hnx]
    have hl3 := HL2.out.still ht3
    have c5 := hl3.c5
    have fr := hl3.fr 5
    have hlb := lt_of_heap hl3.box
    have HL3 := hide hl3
    have HT3 := hide ht3
    have HNX := hide hnx
    clear ht3 hl3 hnx HLA2
    go_wp2
    go_ret
    have e : errR c = .nilIface := by rw [HC0.out]; rfl
    have hs : safeIf c v nx = { v with safe := nx } := by unfold safeIf; rw [if_pos HC0.out]
    rw [← HAE.out, ← HCE.out, ← HNX.out, e, hs]
    refine ⟨rfl, F2, gv2, _, HL3.out.setBox (i := 5) (u := .int .i64 nx) (v' := { v with safe := nx }) rfl, by rw [HM2.out, List.map_append, List.map_singleton], ?_, fun k hk => HF2.out k hk⟩
    exact (HT2.out.same (HT3.out.mono (by simp))).setCell (.inl (mem_lfoot.2 (.inl rfl))) _
  · have hr0 : errR c = .iface 62 (.int .i64 c) := by unfold errR; rw [if_neg hc0]; rfl
    have HC0 := hide hc0
    have HR0 := hide hr0
    rw [hr0]
    clear hr0 hc0 HLA2
    go_wp2
    go_ret
    have hs : safeIf c v (nextOf m.n m.xs) = v := by unfold safeIf; rw [if_neg HC0.out]
    rw [← HAE.out, ← HCE.out, HR0.out, hs]
    exact ⟨rfl, F2, gv2, _, HL2.out, by rw [HM2.out, List.map_append, List.map_singleton], HT2.out, HF2.out⟩
end Go.Proofs.YtmdmdbobbepogaaGreatDoor.Lg

/- (*plog.Log).Read: the records from an offset on, of the first segment that has some. -/
namespace Go.Proofs.YtmdmdbobbepogaaGreatDoor.Lg
open Go.RowKit Go.Maps
set_option maxRecDepth 100000
set_option linter.unusedSimpArgs false
set_option linter.unusedVariables false
attribute [local go_sem] Oper.semAt_some
open Dk (DA DiskAt Parts Did errR errV)
open Sg (Chain flat pls Both nextOf)

/-- All batches of segments. -/
def batsL (ss : List (Nat × List Bt.Bat)) : List Bt.Bat := ss.flatMap (·.2)
/-- Each segment's file has its batches. -/
structure OkS (A : DA) (dir : ByteArray) (ss : List (Nat × List Bt.Bat)) : Prop where
  base : ∀ p ∈ ss, p.1 ≤ 1099511627776
  file : ∀ p ∈ ss, ∃ f, A.file (Sn.nameB dir p.1).data.toList = some f ∧ f.bytes = flat p.2
  chain : ∀ p ∈ ss, Chain p.1 p.2
  many : ss.length ≤ 1000
theorem flat_short {w : World} {base d : Nat} {F : List Nat} {A : DA} {dir : ByteArray} {ss : List (Nat × List Bt.Bat)} (hd : DiskAt w base d F A) (h : OkS A dir ss) {p : Nat × List Bt.Bat} (hp : p ∈ ss) : (flat p.2).length ≤ 1048576 := by
  obtain ⟨f, hf, hb⟩ := h.file p hp
  have := Sg.file_short hd hf
  rwa [hb] at this
theorem recsB_len (base : Int) : ∀ rs : List Bt.Rec, 3 * rs.length ≤ (Bt.recsB base rs).length
  | [] => by simp [Bt.recsB]
  | r :: rs => by
    have h := recsB_len base rs
    have h1 : 3 ≤ (Bt.recB base r).length := by
      unfold Bt.recB
      have := Nu.put_pos (r.off - base).toNat
      have := Nu.put_pos r.time.toNat
      have := Nu.put_pos (Bt.mark r)
      simp only [List.length_append]
      omega
    unfold Bt.recsB at h ⊢
    rw [List.flatMap_cons, List.length_append, List.length_cons]
    omega
theorem recs_few : ∀ xs : List Bt.Bat, 3 * (xs.flatMap (·.recs)).length ≤ (flat xs).length
  | [] => by simp
  | x :: r => by
    have h1 := recs_few r
    have h2 := recsB_len x.base x.recs
    have h3 : (Bt.recsB x.base x.recs).length ≤ (Bt.encB x).length := by
      rw [Bt.encB_len]
      unfold Bt.body
      simp only [List.length_append]
      omega
    have h4 : flat (x :: r) = Bt.encB x ++ flat r := by
      rw [← Sg.flat_one, ← Sg.flat_append]; rfl
    rw [h4, List.flatMap_cons, List.length_append, List.length_append]
    omega
theorem sinceL_take_nil {fr : Int} {xs : List Bt.Bat} (h : sinceL fr xs = []) (q : Nat) : sinceL fr (xs.take q) = [] := by
  have e : sinceL fr xs = sinceL fr (xs.take q) ++ sinceL fr (xs.drop q) := by rw [← sinceL_append, List.take_append_drop]
  rw [h] at e
  exact (List.append_eq_nil_iff.1 e.symm).1
theorem batsL_take (ss : List (Nat × List Bt.Bat)) {k : Nat} (hk : k < ss.length) : batsL (ss.take (k + 1)) = batsL (ss.take k) ++ ss[k].2 := by
  unfold batsL
  rw [List.take_succ_eq_append_getElem hk, List.flatMap_append]
  simp
theorem batsL_pre (ss : List (Nat × List Bt.Bat)) {k : Nat} (hk : k < ss.length) {q : Nat} (hq : q ≤ ss[k].2.length) : (batsL ss).take ((batsL (ss.take k)).length + q) = batsL (ss.take k) ++ ss[k].2.take q := by
  have e : batsL ss = batsL (ss.take k) ++ (ss[k].2 ++ batsL (ss.drop (k + 1))) := by
    rw [← List.append_assoc, ← batsL_take ss hk]
    unfold batsL
    rw [← List.flatMap_append, List.take_append_drop]
  rw [e, List.take_append, List.take_of_length_le (by omega), Nat.add_sub_cancel_left, List.take_append_of_le_length hq]
set_option maxHeartbeats 4000000 in
theorem Read_any (w : World) (base d : Nat) (F : List Nat) (A : DA) (lb : Nat) (gv : Value) (dir : ByteArray) (v : LV) (ms0 : List SM) (m : SM) (h : LogAt w base d F A lb gv dir v (ms0 ++ [m])) (hdir : dir.size ≤ 1000) (hok : OkS A dir ((ms0 ++ [m]).map SM.abs)) (fr most : Int) (hmo : -9223372036854775808 ≤ most ∧ most ≤ 9223372036854775807) (h1 : v.start ≤ fr) (h2 : fr ≤ nextOf m.n m.xs) :
    Calls Tryz.prog 25 #[.pointer (some ⟨lb, 0, none⟩), .int .i64 fr, .int .i64 most] w fun e w' => ∃ ov q, e = .returned (.tuple #[ov, .nilIface]) ∧ GRow 37 6 recC w' w.heap.size ov (sinceL fr ((batsL ((ms0 ++ [m]).map SM.abs)).take q)) ∧
      (sinceL fr ((batsL ((ms0 ++ [m]).map SM.abs)).take q) = [] → sinceL fr (batsL ((ms0 ++ [m]).map SM.abs)) = []) ∧ Turn [] w w' := by
  obtain ⟨ms, hms⟩ : ∃ ms, ms = ms0 ++ [m] := ⟨_, rfl⟩
  have hmany := hok.many
  have hxm := flat_short h.disk hok (p := m.abs) (by simp)
  have hfl := Sg.flat_len m.xs
  have hfl2 : (flat m.xs).length ≤ 1048576 := hxm
  rw [List.length_map] at hmany
  have hend := end_any w base d F A lb gv dir v ms0 m h (by simp at hmany; omega) (by omega)
  rw [← hms] at h hok hmany ⊢
  obtain ⟨nx, hnx⟩ : ∃ nx, nx = nextOf m.n m.xs := ⟨_, rfl⟩
  rw [← hnx] at hend h2
  obtain ⟨ga, gc, hgv, hglc, hgcm⟩ := h.row.form
  subst hgv
  have H := hide h
  have HOK := hide hok
  have HEND := hide hend
  have c4 := h.c4
  have hlb := lt_of_heap h.box
  have hmx : maxLen = 9223372036854775807 := by simp [maxLen]
  rw [hmx] at hgcm
  clear h hok hend hms hnx hxm hfl hfl2
  go_enter Tryz.func25, Tryz.ntmps25
  go_wp2_with fail
  refine HEND.out.mono ?_
  rintro e w1 ⟨rfl, ht1⟩
  have HT1 := hide ht1
  have hl1 := H.out.still ht1
  have c3 := hl1.c3
  have hlb1 := lt_of_heap hl1.box
  clear ht1 hl1 HEND c4 hlb
  go_wp2
  go_loopw [30] (fun kv wr => ∃ k : Nat, k ≤ ms.length ∧ kv = .int .i64 k ∧ sinceL fr (batsL ((ms.map SM.abs).take k)) = [] ∧ Turn [] w wr) (fun kv _ => ms.length - (intOf kv).toNat)
  case atStart => exact ⟨0, Nat.zero_le _, rfl, by simp [batsL, sinceL], HT1.out⟩
  case round =>
    obtain ⟨k, hk, rfl, hno, htw⟩ := hrel
    have HNO := hide hno
    have HTW := hide htw
    clear hno htw
    by_cases hlt : k < ms.length
    · obtain ⟨g, cap, e, hc, -⟩ := (H.out.still HTW.out).row.at smC_len (j := k) hlt
      simp only [Value.slice.injEq, true_and] at e
      obtain ⟨rfl, rfl⟩ := e
      obtain ⟨mk, hmk⟩ : ∃ mk, mk = ms[k] := ⟨_, rfl⟩
      have hmem : mk ∈ ms := by rw [hmk]; exact List.getElem_mem _
      have hsk : (ms.map SM.abs)[k]'(by rw [List.length_map]; exact hlt) = mk.abs := by rw [List.getElem_map, ← hmk]
      rw [← hmk] at hc
      have c0 : wr.cell? ⟨g, k, none⟩ = some (.pointer (some ⟨mk.sb, 0, none⟩)) := by simpa [smC] using hc 0 (by omega)
      have habs : mk.abs ∈ ms.map SM.abs := List.mem_map_of_mem hmem
      obtain ⟨f, hf, hfb⟩ := HOK.out.file _ habs
      have hch := HOK.out.chain _ habs
      have hfs := flat_short H.out.disk HOK.out habs
      have hfl := Sg.flat_len mk.xs
      have hrf := recs_few mk.xs
      have hrd := read_any wr base d F A mk.sb mk.sv (Sn.nameB dir mk.n) mk.n mk.xs ((H.out.still HTW.out).both hmem) (Sg.nameB_len (HOK.out.base _ habs) hdir) f hf hfb hch fr most hmo (by have : (flat mk.xs).length ≤ 1048576 := hfs; omega) (by have : (flat mk.xs).length ≤ 1048576 := hfs; omega)
      have HRD := hide hrd
      have HSK := hide hsk
      clear hc hmk hmem habs hf hfb hch hfs hfl hrf hrd hsk
      go_wp2_with fail
      refine HRD.out.mono ?_
      rintro e w2 ⟨ov, q, rfl, hq, hov, hemp, ht2⟩
      obtain ⟨R, hR⟩ : ∃ R, R = sinceL fr (mk.xs.take q) := ⟨_, rfl⟩
      rw [← hR] at hov hemp
      obtain ⟨oa, oc, hoe, -, -⟩ := hov.form
      subst hoe
      have HR := hide hR
      have HOV := hide hov
      have HEM := hide hemp
      have HT2 := hide (HTW.out.same ht2)
      have hws := HTW.out.size
      clear hR hov hemp ht2 HRD
      by_cases hR0 : 0 < (R.length : Int)
      · go_wp2
        go_ret2
        have hkl : k < (ms.map SM.abs).length := by rw [List.length_map]; exact hlt
        have hp := batsL_pre (ms.map SM.abs) hkl (q := q) (by rw [HSK.out]; exact hq)
        rw [HSK.out] at hp
        have hs : sinceL fr ((batsL (ms.map SM.abs)).take ((batsL ((ms.map SM.abs).take k)).length + q)) = R := by
          rw [hp, sinceL_append, HNO.out, List.nil_append, HR.out]; rfl
        refine ⟨_, (batsL ((ms.map SM.abs).take k)).length + q, rfl, by rw [hs]; exact HOV.out.base_le hws, fun h => ?_, HT2.out⟩
        rw [hs] at h
        rw [h] at hR0
        exact absurd hR0 (by simp)
      · have hRn : R = [] := List.eq_nil_of_length_eq_zero (by omega)
        have hn2 := HEM.out hRn
        have hkl : k < (ms.map SM.abs).length := by rw [List.length_map]; exact hlt
        have hno2 : sinceL fr (batsL ((ms.map SM.abs).take (k + 1))) = [] := by
          rw [batsL_take _ hkl, sinceL_append, HNO.out, List.nil_append, HSK.out]; exact hn2
        have HN2 := hide hno2
        clear hn2 hno2 hRn hkl
        go_wp2
        all_goals refine ⟨⟨k + 1, by omega, by go_num, HN2.out, HT2.out⟩, ?_⟩
        all_goals (simp only [intOf]; omega)
    · obtain rfl : k = ms.length := by omega
      have hall : sinceL fr (batsL (ms.map SM.abs)) = [] := by
        have := HNO.out
        rwa [List.take_of_length_le (by rw [List.length_map]; exact Nat.le_refl _)] at this
      have HALL := hide hall
      clear hall
      go_wp2
      go_ret2
      exact ⟨_, 0, rfl, .inl ⟨rfl, by simp [sinceL]⟩, fun _ => HALL.out, HTW.out⟩
end Go.Proofs.YtmdmdbobbepogaaGreatDoor.Lg

/- A loose region's operation that waits for all loud ones. No program. -/
namespace Go.Proofs.YtmdmdbobbepogaaGreatDoor
open Go.RowKit
section
variable {P : Program} {l : List Oper} {Q : Exit → Act → World → Prop} {R R' : World → World → Prop} {S : Nat → World → Prop} {loud : List Nat} {a0 : Act} {w0 : World} {E : Act → World → Prop}
/-- Its fact is kept by what is quiet alone. -/
theorem Lo.late {o : Oper} {os : List Oper} {Vs : List (Nat × (Value → World → Prop))} {i : Nat} (n : Nat) (hn : i + 1 = n) (hq : posOf loud i = none) (js : List Nat) (V : Value → World → Prop) (hj : selB l o js = true) (hV : ∀ x w w', V x w → R' w w' → V x w') (hlast : lastL l loud i o = true)
    (h1 : ∀ u w, R w0 w → factsAt Vs u w js → guardIs o (slotF l 0 u a0.tmps) l true ∧ ∀ a : Act, (∀ d, a.tmps.getD d undef = slotF l 0 u a0.tmps d) → ∀ K : Act → World → Prop, (∀ x w', V x w' → R' w w' → K (a.put o.dst x) w') → o.wp P a w K Q)
    (h2 : Lo P l Q E R R' S loud w0 a0 os n ((i, V) :: Vs)) : Lo P l Q E R R' S loud w0 a0 (o :: os) i Vs :=
  ⟨V, hV, fun hl => (by rw [hlast] at hl; cases hl), fun u w hR _ hF => .inl (by unfold relOf; rw [hq]; exact h1 u w hR (factsAt_of hF js hj)), by rw [hn]; exact h2⟩
end
end Go.Proofs.YtmdmdbobbepogaaGreatDoor
