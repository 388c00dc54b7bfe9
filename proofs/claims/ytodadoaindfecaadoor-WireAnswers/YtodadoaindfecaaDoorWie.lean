/- wire's writer: numbers, text. -/
import Derived.Test.YtodadoaindfecaaDoorWia
import Derived.Test.YtodadoaindfecaaDoorPutN
import Derived.Test.YtodadoaindfecaaDoorPutT
import Derived.Test.YtodadoaindfecaaDoorLoose
import Derived.Test.YtodadoaindfecaaDoorBare
namespace Go.Proofs.YtodadoaindfecaaDoor.Wi
open Go.RowKit Go.Maps
set_option maxRecDepth 100000
set_option linter.unusedSimpArgs false
set_option linter.unusedVariables false

/-- A writer in a box: its bytes, and what is wrong. -/
def MkAt (T : TypeId) (ee : Int → Value) (w : World) (wb base : Nat) (sv : Value) (s : WS) : Prop :=
  w.heap[wb]? = some (.cells #[sv, ee s.2] T (0, 0)) ∧ RowAt w 5 base sv s.1 ∧ (∀ k ∈ sv.ownBlock, k ≠ wb)
/-- What turns where a writer goes on. -/
def MkTo (T : TypeId) (ee : Int → Value) (w w' : World) (wb base : Nat) (sv sv' : Value) (s' : WS) : Prop :=
  MkAt T ee w' wb base sv' s' ∧ Turn (wb :: sv.ownBlock.toList) w w' ∧ (∀ k ∈ sv'.ownBlock, k ∈ sv.ownBlock ∨ w.heap.size ≤ k)
section
variable {T : TypeId} {ee : Int → Value} {wb base : Nat}
theorem MkAt.still {w w' : World} {sv : Value} {s : WS} (h : MkAt T ee w wb base sv s) (ht : Turn [] w w') : MkAt T ee w' wb base sv s := ⟨ht.heap h.1 (by simp), h.2.1.kept ht (by simp), h.2.2⟩
theorem MkAt.self {w : World} {sv : Value} {s : WS} (h : MkAt T ee w wb base sv s) : MkTo T ee w w wb base sv sv s := ⟨h, Turn.refl _ _, fun k hk => .inl hk⟩
theorem MkTo.trans {w w1 w2 : World} {sv s1 s2 : Value} {b1 b2 : WS} (h : MkTo T ee w w1 wb base sv s1 b1) (k : MkTo T ee w1 w2 wb base s1 s2 b2) : MkTo T ee w w2 wb base sv s2 b2 := by
  obtain ⟨h1, h2, h3⟩ := h
  obtain ⟨k1, k2, k3⟩ := k
  refine ⟨k1, h2.trans k2 (fun x hx => ?_), fun x hx => ?_⟩
  · rcases List.mem_cons.1 hx with rfl | hx
    · exact .inl (by simp)
    · rcases h3 x (by simpa using hx) with h | h
      · exact .inl (by simp at h ⊢; exact .inr h)
      · exact .inr h
  · rcases k3 x hx with h | h
    · exact h3 x h
    · have := h2.size; exact .inr (by omega)
theorem MkTo.still {w w1 w2 : World} {sv s1 : Value} {b1 : WS} (h : MkTo T ee w w1 wb base sv s1 b1) (k : Turn [] w1 w2) : MkTo T ee w w2 wb base sv s1 b1 := ⟨h.1.still k, h.2.1.trans k (by simp), h.2.2⟩
theorem MkTo.pre {w w1 w2 : World} {sv s2 : Value} {b : WS} (h : Turn [] w w1) (k : MkTo T ee w1 w2 wb base sv s2 b) : MkTo T ee w w2 wb base sv s2 b := by
  obtain ⟨k1, k2, k3⟩ := k
  refine ⟨k1, (h.mono (by simp)).trans k2 (fun x hx => .inl hx), fun x hx => ?_⟩
  rcases k3 x hx with h' | h'
  · exact .inl h'
  · have := h.size; exact .inr (by omega)
theorem MkTo.box {w w' : World} {sv sv' : Value} {s' : WS} (h : MkTo T ee w w' wb base sv sv' s') {k : Nat} {o : Obj} (hk : w.heap[k]? = some o) (hb : k ≠ wb) (hn : ∀ x ∈ sv.ownBlock, x ≠ k) : w'.heap[k]? = some o :=
  h.2.1.heap hk (fun hm => by
    rcases List.mem_cons.1 hm with e | hm
    · exact hb e
    · exact hn k (by simpa using hm) rfl)
/-- A block of another type lies apart. -/
theorem MkAt.ne {w : World} {sv : Value} {s : WS} (h : MkAt T ee w wb base sv s) {k : Nat} {cs : Array Value} {t : TypeId} {fr : Nat × Nat} (hk : w.heap[k]? = some (.cells cs t fr)) (h1 : t ≠ T) (h2 : t ≠ 5) : k ≠ wb ∧ ∀ x ∈ sv.ownBlock, x ≠ k := by
  obtain ⟨a1, a2, a3⟩ := h
  constructor
  · rintro rfl
    rw [hk] at a1
    simp at a1
    exact h1 a1.2.1
  · rintro x hx rfl
    rcases a2 with ⟨rfl, -⟩ | ⟨g, cap, cur, rfl, -, hg, -⟩
    · simp [Value.ownBlock] at hx
    · simp [Value.ownBlock] at hx
      subst hx
      rw [hk] at hg
      simp at hg
      exact h2 hg.2.1
theorem MkAt.lt {w : World} {sv : Value} {s : WS} (h : MkAt T ee w wb base sv s) : wb < w.heap.size ∧ ∀ k ∈ sv.ownBlock, base ≤ k ∧ k < w.heap.size := ⟨lt_of_heap h.1, h.2.1.lt⟩
theorem MkAt.cells {w : World} {sv : Value} {s : WS} (h : MkAt T ee w wb base sv s) : (w.cell? ⟨wb, 0, none⟩ = some sv ∧ w.cell? ⟨wb, 1, none⟩ = some (ee s.2)) ∧ w.frozen? ⟨wb, 0, none⟩ = false ∧ w.frozen? ⟨wb, 1, none⟩ = false :=
  ⟨⟨by simpa using cell_of h.1 0, by simpa using cell_of h.1 1⟩, frozen_of h.1 0, frozen_of h.1 1⟩
/-- A grown row, stored. -/
theorem MkAt.put {w w2 : World} {sv s2 : Value} {s : WS} {b2 : List UInt8} (h : MkAt T ee w wb base sv s) (hg : Grew w w2 base sv s2 b2) : MkTo T ee w (w2.setCell ⟨wb, 0, none⟩ s2) wb base sv s2 (b2, s.2) := by
  have hbb := h.lt.1
  obtain ⟨h1, h2, h3⟩ := h
  obtain ⟨g1, g2, g3⟩ := hg
  have hne : ∀ k ∈ s2.ownBlock, k ≠ wb := by
    intro k hk
    rcases g3 k hk with h | h
    · exact h3 k h
    · omega
  have hb2 : w2.heap[wb]? = some (.cells #[sv, ee s.2] T (0, 0)) := g2.heap h1 (fun hm => h3 wb (by simpa using hm) rfl)
  have ht : Turn [wb] w2 (w2.setCell ⟨wb, 0, none⟩ s2) := (Turn.refl _ _).setCell (.inl (by simp)) _
  refine ⟨⟨by simpa using heap_set hb2 0 s2, g1.kept ht (fun k hk => by simpa using hne k hk), hne⟩, ?_, g3⟩
  exact (g2.mono (T := wb :: sv.ownBlock.toList) (fun x hx => .inl (by simp at hx ⊢; exact .inr hx))).trans ht (fun x hx => .inl (by simp at hx ⊢; exact .inl hx))
/-- What is wrong, stored. -/
theorem MkAt.bad {w : World} {sv : Value} {s : WS} (h : MkAt T ee w wb base sv s) (e : Int) : MkTo T ee w (w.setCell ⟨wb, 1, none⟩ (ee e)) wb base sv sv (s.1, e) := by
  obtain ⟨h1, h2, h3⟩ := h
  have ht : Turn [wb] w (w.setCell ⟨wb, 1, none⟩ (ee e)) := (Turn.refl _ _).setCell (.inl (by simp)) _
  exact ⟨⟨by simpa using heap_set h1 1 (ee e), h2.kept ht (fun k hk => by simpa using h3 k hk), h3⟩, ht.mono (fun x hx => .inl (by simp at hx ⊢; exact .inl hx)), fun k hk => .inl hk⟩
theorem rowTake {w : World} {e : Nat} {a : Option Addr} {n c m : Nat} {bs : List UInt8} (h : RowAt w e base (.slice a n c) bs) (hm : m ≤ n) : RowAt w e base (.slice a m c) (bs.take m) := by
  rcases h with ⟨h1, rfl⟩ | ⟨g, cap, cur, h1, hb, hg, h2, h3, h4, h5⟩
  · simp only [Value.slice.injEq] at h1
    obtain ⟨rfl, rfl, rfl⟩ := h1
    obtain rfl : m = 0 := by omega
    exact .inl ⟨rfl, by simp⟩
  · simp only [Value.slice.injEq] at h1
    obtain ⟨rfl, rfl, rfl⟩ := h1
    have hl : (bs.take m).length = m := by rw [List.length_take]; omega
    refine .inr ⟨g, c, cur, by rw [hl], hb, hg, by omega, h3, h4, ?_⟩
    rw [hl, List.map_take, ← h5, List.take_take, Nat.min_eq_left hm]
/-- Cut in place. -/
theorem MkAt.cut {w : World} {a : Option Addr} {n c m : Nat} {s : WS} (h : MkAt T ee w wb base (.slice a n c) s) (hm : m ≤ n) : MkTo T ee w (w.setCell ⟨wb, 0, none⟩ (.slice a m c)) wb base (.slice a n c) (.slice a m c) (s.1.take m, s.2) := by
  obtain ⟨h1, h2, h3⟩ := h
  have ht : Turn [wb] w (w.setCell ⟨wb, 0, none⟩ (.slice a m c)) := (Turn.refl _ _).setCell (.inl (by simp)) _
  have ho : (Value.slice a m c).ownBlock = (Value.slice a n c).ownBlock := by cases a <;> rfl
  exact ⟨⟨by simpa using heap_set h1 0 (.slice a m c), (rowTake h2 hm).kept ht (fun k hk => by rw [ho] at hk; simpa using h3 k hk), fun k hk => by rw [ho] at hk; exact h3 k hk⟩, ht.mono (fun x hx => .inl (by simp at hx ⊢; exact .inl hx)), fun k hk => .inl (by rw [ho] at hk; exact hk)⟩
end
def intsZ (l : List Int) : Array Value := (l.map fun n => Value.int .i64 n).toArray
abbrev wT : TypeId := 135
theorem nums_len (s : WS) : ∀ l, (nums s l).1.length ≤ s.1.length + 6 * l.length
  | [] => by simp [nums]
  | n :: l => by
    have h1 := nums_len (pN s n) l
    rw [nums_cons]
    have h2 : (pN s n).1.length ≤ s.1.length + 6 := by
      unfold pN
      split
      · rename_i h
        have := Nu.put_len6 (show n.toNat ≤ 1099511627776 by have := h.2; omega)
        simp; omega
      · have := Nu.put_len6 (show 0 ≤ 1099511627776 by omega)
        simp only [List.length_append]; omega
    simp only [List.length_cons]; omega
theorem nums_snoc (s : WS) {l : List Int} {j : Nat} (hj : j < l.length) : nums s (l.take (j + 1)) = pN (nums s (l.take j)) l[j] := by
  rw [List.take_succ_eq_append_getElem hj, nums_app]
  rfl

set_option maxHeartbeats 2000000 in
theorem numbers_any (w : World) (wb base : Nat) (sv : Value) (s : WS) (h : MkAt wT As.errN w wb base sv s) (hbase : base ≤ w.heap.size) (k : Nat) (l : List Int) (hk : w.heap[k]? = some (.cells (intsZ l) 3 (0, 0))) (hl : l.length ≤ 9) (hsl : s.1.length ≤ 1000000) :
    Calls Tryd.prog 69 #[.pointer (some ⟨wb, 0, none⟩), .slice (some ⟨k, 0, none⟩) l.length l.length] w fun e w' => e = .returned (.tuple #[]) ∧ ∃ sv', MkTo wT As.errN w w' wb base sv sv' (nums (cut s) l) := by
  have hkn := h.ne hk (by decide) (by decide)
  obtain ⟨a, c, rfl, hlc, hcm⟩ := h.2.1.form
  obtain ⟨m, hm⟩ : ∃ m, m = min s.1.length 10005 := ⟨_, rfl⟩
  have hmin : ∀ ts t w, (Builtin.min_ ts t #[.int .i64 (s.1.length : Int), .int .i64 10005]).run Tryd.prog w = .ok (.int .i64 (m : Int)) w := by
    intro ts t w
    by_cases h6 : 10005 < s.1.length
    · have : (10005 : Int) < (s.1.length : Int) := by omega
      simp [Builtin.min_, Builtin.min2, this]; omega
    · have : ¬ (10005 : Int) < (s.1.length : Int) := by omega
      simp [Builtin.min_, Builtin.min2, this]; omega
  have hml : m ≤ s.1.length := by omega
  have hsll := fun w => @run_to a s.1.length c m (by omega) w
  have hcut : (s.1.take m, s.2) = cut s := by
    unfold cut
    by_cases h6 : 10005 < s.1.length
    · rw [show m = 10005 by omega]
    · rw [List.take_of_length_le (show s.1.length ≤ m by omega), List.take_of_length_le (show s.1.length ≤ 10005 by omega)]
  have hcl : ∀ Z, Turn [] w Z → Z.cell? ⟨wb, 0, none⟩ = some (.slice a s.1.length c) := fun Z hZ => ((h.still hZ).cells).1.1
  have HC := hide hcl
  have HMK := hide h
  have HK := hide hk
  have HKN := hide hkn
  have HCUT := hide hcut
  have hm1 : m ≤ 10005 := by omega
  clear h hk hkn hcut hcl hm
  go_enter Tryd.func69, Tryd.ntmps69
  go_wp2
  refine wp_region_tail 14 (Turn []) (by kernel_rfl) (by kernel_rfl) (by kernel_rfl) (by kernel_rfl) (by kernel_rfl) (Nat.le_of_ble_eq_true rfl) rfl (Turn.refl _) (fun _ _ _ h k => h.same k) ?_
  apply Lo.runx 1 rfl rfl [] (by kernel_rfl) (Turn.refl _)
  apply Exists.intro; apply And.intro
  · intro u w1 hR hF
    clear hF
    refine ⟨rfl, fun a ha K hK => ?_⟩
    have e0 := ha 0
    conv at e0 => rhs; whnf
    clear ha
    go_simp
    refine hK _ ?_; rfl
  apply Lo.runx 2 rfl rfl [] (by kernel_rfl) (Turn.refl _)
  apply Exists.intro; apply And.intro
  · intro u w1 hR hF
    clear hF
    refine ⟨rfl, fun a ha K hK => ?_⟩
    have e0 := ha 0
    conv at e0 => rhs; whnf
    clear ha
    go_simp
    refine hK _ ?_; rfl
  apply Lo.runx 3 rfl rfl [1] (by kernel_rfl) (Turn.refl _)
  apply Exists.intro; apply And.intro
  · intro u w1 hR hF
    obtain ⟨h1, -⟩ := hF
    refine ⟨rfl, fun a ha K hK => ?_⟩
    have e7 := (ha 7).trans h1
    clear ha h1
    go_simp
    refine hK _ ?_; rfl
  apply Lo.runx 4 rfl rfl [2] (by kernel_rfl) (Turn.refl _)
  apply Exists.intro; apply And.intro
  · intro u w1 hR hF
    obtain ⟨h2, -⟩ := hF
    refine ⟨rfl, fun a ha K hK => ?_⟩
    have e8 := (ha 8).trans h2
    clear ha h2
    go_simp
    refine hK _ ?_; rfl
  apply Lo.runx 5 rfl rfl [3] (by kernel_rfl) (Turn.refl _)
  apply Exists.intro; apply And.intro
  · intro u w1 hR hF
    obtain ⟨h3, -⟩ := hF
    refine ⟨rfl, fun a ha K hK => ?_⟩
    have e9 := (ha 9).trans h3
    clear ha h3
    have c0 := HC.out w1 (((Turn.refl [] _).drew).same hR)
    go_simp
    refine hK _ ?_; rfl
  apply Lo.runx 6 rfl rfl [] (by kernel_rfl) (Turn.refl _)
  apply Exists.intro; apply And.intro
  · intro u w1 hR hF
    clear hF
    refine ⟨rfl, fun a ha K hK => ?_⟩
    have e0 := ha 0
    conv at e0 => rhs; whnf
    clear ha
    go_simp
    refine hK _ ?_; rfl
  apply Lo.runx 7 rfl rfl [5] (by kernel_rfl) (Turn.refl _)
  apply Exists.intro; apply And.intro
  · intro u w1 hR hF
    obtain ⟨h5, -⟩ := hF
    refine ⟨rfl, fun a ha K hK => ?_⟩
    have e11 := (ha 11).trans h5
    clear ha h5
    go_simp
    refine hK _ ?_; rfl
  apply Lo.runx 8 rfl rfl [6] (by kernel_rfl) (Turn.refl _)
  apply Exists.intro; apply And.intro
  · intro u w1 hR hF
    obtain ⟨h6, -⟩ := hF
    refine ⟨rfl, fun a ha K hK => ?_⟩
    have e12 := (ha 12).trans h6
    clear ha h6
    go_simp
    refine hK _ ?_; rfl
  apply Lo.runx 9 rfl rfl [7] (by kernel_rfl) (Turn.refl _)
  apply Exists.intro; apply And.intro
  · intro u w1 hR hF
    obtain ⟨h7, -⟩ := hF
    refine ⟨rfl, fun a ha K hK => ?_⟩
    have e13 := (ha 13).trans h7
    clear ha h7
    have c0 := HC.out w1 (((Turn.refl [] _).drew).same hR)
    go_simp
    refine hK _ ?_; rfl
  apply Lo.runx 10 rfl rfl [8] (by kernel_rfl) (Turn.refl _)
  apply Exists.intro; apply And.intro
  · intro u w1 hR hF
    obtain ⟨h8, -⟩ := hF
    refine ⟨rfl, fun a ha K hK => ?_⟩
    have e14 := (ha 14).trans h8
    clear ha h8
    go_simp
    refine hK _ ?_; rfl
  apply Lo.runx 11 rfl rfl [9] (by kernel_rfl) (Turn.refl _)
  apply Exists.intro; apply And.intro
  · intro u w1 hR hF
    obtain ⟨h9, -⟩ := hF
    refine ⟨rfl, fun a ha K hK => ?_⟩
    have e15 := (ha 15).trans h9
    clear ha h9
    go_simp
    refine hK _ ?_; rfl
  refine Lo.runv 12 rfl rfl [4, 10] (.slice a m c) (by kernel_rfl) (fun u w1 hR hF => ?_) (Turn.refl _) ?_
  · obtain ⟨h4, h10, -⟩ := hF
    refine ⟨rfl, fun a ha K hK => ?_⟩
    have e10 := (ha 10).trans h4
    have e16 := (ha 16).trans h10
    clear ha h4 h10
    go_simp
    refine hK _ ?_
    rfl
  apply Lo.runx 13 rfl rfl [0] (by kernel_rfl) (Turn.refl _)
  apply Exists.intro; apply And.intro
  · intro u w1 hR hF
    obtain ⟨h0, -⟩ := hF
    refine ⟨rfl, fun a ha K hK => ?_⟩
    have e6 := (ha 6).trans h0
    clear ha h0
    go_simp
    refine hK _ ?_; rfl
  apply Lo.runx 14 rfl rfl [12] (by kernel_rfl) (Turn.refl _)
  apply Exists.intro; apply And.intro
  · intro u w1 hR hF
    obtain ⟨h12, -⟩ := hF
    refine ⟨rfl, fun a ha K hK => ?_⟩
    have e18 := (ha 18).trans h12
    clear ha h12
    go_simp
    refine hK _ ?_; rfl
  refine Lo.done [11, 13] (fun u w1 hRd hSd hF => ?_)
  clear hSd
  obtain ⟨f11, f13, -⟩ := hF
  have d11 : u 11 = _ := f11
  have d13 : u 13 = _ := f13
  clear f11 f13
  simp only [List.take_succ_cons, List.take_zero, List.drop_succ_cons, List.drop_zero, putFrom, Act.put, List.setIfInBounds_toArray, List.set_cons_succ, List.set_cons_zero, Nat.zero_add, Nat.reduceAdd, d11, d13]
  have ht1 : Turn [] w w1 := ((Turn.refl [] w).drew).same hRd
  have hmk1 := HMK.out.still ht1
  have hc1 := hmk1.cells
  have f0 := hc1.2.1
  have c0 := hc1.1.1
  have HM2 := hide (MkTo.pre ht1 (hmk1.cut hml))
  have HK2 : Hid (∀ wi si bi, MkTo wT As.errN w wi wb base (.slice a s.1.length c) si bi → wi.heap[k]? = some (.cells (intsZ l) 3 (0, 0))) := fun wi si bi hh => hh.box HK.out HKN.out.1 HKN.out.2
  have HWS := hide (ht1.size)
  rw [HCUT.out] at HM2
  clear ht1 hmk1 hc1 hRd d11 hmin hsll
  have e2 : (Value.iface 34 (.int .i64 2)) = As.errN 2 := by simp [As.errN]
  have HE2 := hide e2
  clear e2
  go_wp2
  go_loopw [22] (fun iv wr => ∃ (j : Nat) (sr : Value), j ≤ l.length ∧ iv = .int .i64 (j : Int) ∧ MkTo wT As.errN w wr wb base (.slice a s.1.length c) sr (nums (cut s) (l.take j))) (fun iv _ => l.length - (intOf iv).toNat)
  case atStart => exact ⟨0, _, Nat.zero_le _, rfl, HM2.out⟩
  case round =>
    obtain ⟨j, sr, hj, rfl, hr⟩ := hrel
    have HR := hide hr
    have hbk := HK2.out _ _ _ hr
    have hws := hr.2.1.size
    clear hr c0 f0
    by_cases hlt : j < l.length
    · have hlt1 : (j : Int) < l.length := by omega
      obtain ⟨n, hn⟩ : ∃ n, n = l[j] := ⟨_, rfl⟩
      have hcell : wr.cell? ⟨k, j, none⟩ = some (.int .i64 n) := by
        rw [cell_of hbk, hn]; simp [intsZ, hlt]
      have hcell2 : wr.cell? ⟨k, 0 + j, none⟩ = some (.int .i64 n) := by rw [Nat.zero_add]; exact hcell
      have hsn := nums_snoc (cut s) hlt
      rw [← hn] at hsn
      have hnl := nums_len (cut s) (l.take j)
      have hcl : (cut s).1.length ≤ 10005 := by unfold cut; simp only [List.length_take]; omega
      have htl : (l.take j).length ≤ 9 := by rw [List.length_take]; omega
      obtain ⟨t, ht⟩ : ∃ t, t = nums (cut s) (l.take j) := ⟨_, rfl⟩
      rw [← ht] at hsn hnl HR
      have HSN := hide hsn
      obtain ⟨⟨c0, c1⟩, f0, f1⟩ := HR.out.1.cells
      have htl2 : t.1.length ≤ 10059 := by omega
      clear hn hbk hsn hnl hcl htl ht
      by_cases hok : okN n
      · have hpn := ok_pN (s := t) hok
        obtain ⟨hok1, hok2⟩ := hok
        obtain ⟨q, rfl⟩ : ∃ q : Nat, n = (q : Int) := ⟨n.toNat, by omega⟩
        rw [Int.toNat_natCast] at hpn
        have HPN := hide hpn
        have hq0 : ¬ (q : Int) < 0 := by omega
        have hq1 : ¬ (q : Int) > 1099511627776 := by omega
        clear hpn hok1 hok2
        go_wp2_with fail
        refine (put_any _ base sr t.1 HR.out.1.2.1 (by omega) q (by omega) (by omega)).mono ?_
        rintro e w2 ⟨v2, rfl, hr2, ht2, ho2⟩
        obtain ⟨a2, cp2, rfl, -, -⟩ := hr2.form
        rw [List.length_append] at hr2 ho2
        have hg := (⟨hr2, ht2, ho2⟩ : Grew wr w2 base sr _ (t.1 ++ Nu.put q))
        have HP := hide (HR.out.trans (HR.out.1.put hg))
        have hb2 : w2.heap[wb]? = some (.cells #[sr, As.errN t.2] wT (0, 0)) := ht2.heap HR.out.1.1 (fun hm => HR.out.1.2.2 wb (by simpa using hm) rfl)
        clear c0 c1 f0 f1
        have c0 : w2.cell? ⟨wb, 0, none⟩ = some sr := by simpa using cell_of hb2 0
        have f0 : w2.frozen? ⟨wb, 0, none⟩ = false := frozen_of hb2 0
        clear hr2 ht2 ho2 hg hb2 hcell hcell2
        go_wp2
        refine ⟨⟨j + 1, _, by omega, by go_num, by rw [HSN.out, HPN.out]; exact HP.out⟩, ?_⟩
        simp only [intOf]; omega
      · have hpn : pN t n = (t.1 ++ Nu.put 0, 2) := by unfold pN; rw [if_neg hok]
        have HPN := hide hpn
        have HOK : Hid (¬ okN n) := hok
        clear hpn hok
        by_cases hn0 : n < 0
        · go_wp2_with fail
          have hb := HR.out.1.bad 2
          rw [← HE2.out] at hb
          refine (put_any _ base sr t.1 hb.1.2.1 (by simpa using (by omega : base ≤ wr.heap.size)) 0 (by omega) (by omega)).mono ?_
          rintro e w2 ⟨v2, rfl, hr2, ht2, ho2⟩
          obtain ⟨a2, cp2, rfl, -, -⟩ := hr2.form
          rw [List.length_append] at hr2 ho2
          have hg := (⟨hr2, ht2, ho2⟩ : Grew _ w2 base sr _ (t.1 ++ Nu.put 0))
          have HP := hide (HR.out.trans (hb.trans (hb.1.put hg)))
          have hb2 : w2.heap[wb]? = some (.cells #[sr, As.errN 2] wT (0, 0)) := ht2.heap hb.1.1 (fun hm => hb.1.2.2 wb (by simpa using hm) rfl)
          clear c0 c1 f0 f1
          have c0 : w2.cell? ⟨wb, 0, none⟩ = some sr := by simpa using cell_of hb2 0
          have f0 : w2.frozen? ⟨wb, 0, none⟩ = false := frozen_of hb2 0
          clear hr2 ht2 ho2 hg hb2 hcell hcell2 hb
          go_wp2
          refine ⟨⟨j + 1, _, by omega, by go_num, by rw [HSN.out, HPN.out]; exact HP.out⟩, ?_⟩
          simp only [intOf]; omega
        · have hn1 : n > 1099511627776 := by
            have := HOK.out
            unfold okN at this
            omega
          go_wp2_with fail
          have hb := HR.out.1.bad 2
          rw [← HE2.out] at hb
          refine (put_any _ base sr t.1 hb.1.2.1 (by simpa using (by omega : base ≤ wr.heap.size)) 0 (by omega) (by omega)).mono ?_
          rintro e w2 ⟨v2, rfl, hr2, ht2, ho2⟩
          obtain ⟨a2, cp2, rfl, -, -⟩ := hr2.form
          rw [List.length_append] at hr2 ho2
          have hg := (⟨hr2, ht2, ho2⟩ : Grew _ w2 base sr _ (t.1 ++ Nu.put 0))
          have HP := hide (HR.out.trans (hb.trans (hb.1.put hg)))
          have hb2 : w2.heap[wb]? = some (.cells #[sr, As.errN 2] wT (0, 0)) := ht2.heap hb.1.1 (fun hm => hb.1.2.2 wb (by simpa using hm) rfl)
          clear c0 c1 f0 f1
          have c0 : w2.cell? ⟨wb, 0, none⟩ = some sr := by simpa using cell_of hb2 0
          have f0 : w2.frozen? ⟨wb, 0, none⟩ = false := frozen_of hb2 0
          clear hr2 ht2 ho2 hg hb2 hcell hcell2 hb
          go_wp2
          refine ⟨⟨j + 1, _, by omega, by go_num, by rw [HSN.out, HPN.out]; exact HP.out⟩, ?_⟩
          simp only [intOf]; omega
    · obtain rfl : j = l.length := by omega
      have hlast : l.take l.length = l := List.take_of_length_le (Nat.le_refl _)
      have HL := hide hlast
      clear hlast
      go_wp2
      go_end0
      refine ⟨rfl, sr, ?_⟩
      have := HR.out
      rwa [HL.out] at this
end Go.Proofs.YtodadoaindfecaaDoor.Wi
