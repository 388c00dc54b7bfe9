/- record's reader: batch, carried out. -/
import Derived.Test.YtlcgcckllecjpaaRdB
namespace Go.Proofs.Ytlcgcckllecjpaa
open Go.RowKit Go.Maps
set_option maxRecDepth 100000
set_option linter.unusedSimpArgs false
set_option linter.unusedVariables false

theorem rec1_len (base : Int) (l : List UInt8) : (Bt.rec1 base l).2.length ≤ l.length ∧ (l ≠ [] → (Bt.rec1 base l).2.length < l.length) := by
  have a0 := num_len l
  have a1 := num_len (Bt.num l).2
  have a2 := num_len (Bt.num (Bt.num l).2).2
  have a3 := text_len (Bt.num (Bt.num (Bt.num l).2).2).2
  have a4 := text_len (Bt.text (Bt.num (Bt.num (Bt.num l).2).2).2).2
  have hlt : l ≠ [] → (Bt.num l).2.length < l.length := by
    intro h
    have hp := List.length_pos_iff.2 h
    unfold Bt.num
    have := Nu.get_size (b := l)
    split
    · simpa using hp
    · simp; omega
  have hm : (Bt.rec1 base l).2.length ≤ (Bt.num (Bt.num (Bt.num l).2).2).2.length := by
    unfold Bt.rec1
    simp only
    split <;> split <;> (try dsimp only) <;> omega
  exact ⟨by omega, fun h => by have := hlt h; omega⟩
theorem rec1_ok (base : Int) (l : List UInt8) (h0 : 0 ≤ base) (h1 : base ≤ 1099511627776) (hl : l.length ≤ 1000000) : RecOk (Bt.rec1 base l).1 := by
  have a0 := num_len l
  have a1 := num_len (Bt.num l).2
  have a2 := num_len (Bt.num (Bt.num l).2).2
  have a3 := text_len (Bt.num (Bt.num (Bt.num l).2).2).2
  have a4 := text_len (Bt.text (Bt.num (Bt.num (Bt.num l).2).2).2).2
  unfold Bt.rec1
  simp only
  refine ⟨by simp only; omega, by simp only; omega, by simp only; omega, by simp only; omega, ?_, ?_⟩
  · simp only
    split
    · omega
    · simp
  · simp only
    split
    · simp
    · split <;> (try dsimp only) <;> omega
theorem recs1_ok (base : Int) (h0 : 0 ≤ base) (h1 : base ≤ 1099511627776) : ∀ (n : Nat) (l : List UInt8), l.length ≤ 1000000 → ∀ r ∈ Bt.recs1 base n l, RecOk r
  | 0, _, _, r, hr => by simp [Bt.recs1] at hr
  | n + 1, l, hl, r, hr => by
    unfold Bt.recs1 at hr
    split at hr
    · simp at hr
    · rcases List.mem_cons.1 hr with rfl | hr
      · exact rec1_ok base l h0 h1 hl
      · exact recs1_ok base h0 h1 n _ (by have := rec1_len base l; omega) r hr

/-- Where the reading of a batch stands. -/
structure BSt (w0 w : World) (rb B X : Nat) (b f : Int) (sv : Value) (rs : List Bt.Rec) (l : List UInt8) : Prop where
  hx : w0.heap.size < X
  x : w.heap[X]? = some (.cells #[.int .i64 b, .int .i64 f, sv] 47 (0, 0))
  y : w.heap[w0.heap.size]? = some (.cells #[.int .i64 0, .int .i64 0, .slice none 0 0] 47 (0, 0))
  row : RecRow w (X + 1) sv rs
  rd : RdAt w rb B l
  turn : Turn [rb] w0 w
theorem BSt.sz {w0 w : World} {rb B X : Nat} {b f : Int} {sv : Value} {rs : List Bt.Rec} {l : List UInt8} (h : BSt w0 w rb B X b f sv rs l) : w0.heap.size < w.heap.size ∧ X < w.heap.size := ⟨Nat.lt_trans h.hx (lt_of_heap h.x), lt_of_heap h.x⟩
theorem BSt.num {w0 w w' : World} {rb B X : Nat} {b f : Int} {sv : Value} {rs : List Bt.Rec} {l l' : List UInt8} (h : BSt w0 w rb B X b f sv rs l) (ht : Turn [rb] w w') (hrd : RdAt w' rb B l') (hrb : rb < w0.heap.size) : BSt w0 w' rb B X b f sv rs l' :=
  ⟨h.hx, ht.heap h.x (by have := h.hx; simp; omega), ht.heap h.y (by simp; omega), h.row.kept ht (fun k hk => by have := (h.row.lt k hk).1; have := h.hx; simp; omega), hrd, h.turn.same ht⟩
theorem BSt.still {w0 w w' : World} {rb B X : Nat} {b f : Int} {sv : Value} {rs : List Bt.Rec} {l : List UInt8} (h : BSt w0 w rb B X b f sv rs l) (ht : Turn [] w w') : BSt w0 w' rb B X b f sv rs l :=
  ⟨h.hx, ht.heap h.x (by simp), ht.heap h.y (by simp), h.row.kept ht (by simp), h.rd.still ht, h.turn.trans ht (by simp)⟩
theorem BSt.cells {w0 w : World} {rb B X : Nat} {b f : Int} {sv : Value} {rs : List Bt.Rec} {l : List UInt8} (h : BSt w0 w rb B X b f sv rs l) :
    (w.cell? ⟨X, 0, none⟩ = some (.int .i64 b) ∧ w.cell? ⟨X, 1, none⟩ = some (.int .i64 f) ∧ w.cell? ⟨X, 2, none⟩ = some sv) ∧
    (w.frozen? ⟨X, 0, none⟩ = false ∧ w.frozen? ⟨X, 1, none⟩ = false ∧ w.frozen? ⟨X, 2, none⟩ = false) ∧
    (w.cell? ⟨w0.heap.size, 0, none⟩ = some (.int .i64 0) ∧ w.cell? ⟨w0.heap.size, 1, none⟩ = some (.int .i64 0) ∧ w.cell? ⟨w0.heap.size, 2, none⟩ = some (.slice none 0 0)) ∧
    (w.frozen? ⟨w0.heap.size, 0, none⟩ = false ∧ w.frozen? ⟨w0.heap.size, 1, none⟩ = false ∧ w.frozen? ⟨w0.heap.size, 2, none⟩ = false) :=
  ⟨⟨by simpa using cell_of h.x 0, by simpa using cell_of h.x 1, by simpa using cell_of h.x 2⟩, ⟨frozen_of h.x 0, frozen_of h.x 1, frozen_of h.x 2⟩,
   ⟨by simpa using cell_of h.y 0, by simpa using cell_of h.y 1, by simpa using cell_of h.y 2⟩, frozen_of h.y 0, frozen_of h.y 1, frozen_of h.y 2⟩
/-- The end of the batch is told. -/
theorem BSt.setF {w0 w : World} {rb B X : Nat} {b f : Int} {sv : Value} {rs : List Bt.Rec} {l : List UInt8} (h : BSt w0 w rb B X b f sv rs l) (f' : Int) (hrb : rb < w0.heap.size) (hB : B ≤ rb) : BSt w0 (w.setCell ⟨X, 1, none⟩ (.int .i64 f')) rb B X b f' sv rs l := by
  have ht : Turn [X] w (w.setCell ⟨X, 1, none⟩ (.int .i64 f')) := (Turn.refl _ _).setCell (.inl (by simp)) _
  have hx := h.hx
  exact ⟨hx, by simpa using heap_set h.x 1 (.int .i64 f'), ht.heap h.y (by simp; omega), h.row.kept ht (fun k hk => by have := (h.row.lt k hk).1; simp; omega), h.rd.kept ht (by simp; omega) (by simp; omega), h.turn.trans ht (fun k hk => .inr (by simp at hk; omega))⟩

/-- A grown row of records, stored. -/
theorem BSt.setR {w0 w w2 : World} {rb B X : Nat} {b f : Int} {sv s2 : Value} {rs r2 : List Bt.Rec} {l : List UInt8} (h : BSt w0 w rb B X b f sv rs l) (hrb : rb < w0.heap.size) (hB : B ≤ rb) (h1 : RecRow w2 (X + 1) s2 r2) (h2 : Turn sv.ownBlock.toList w w2) : BSt w0 (w2.setCell ⟨X, 2, none⟩ s2) rb B X b f s2 r2 l := by
  have hx := h.hx
  have ht : Turn [X] w2 (w2.setCell ⟨X, 2, none⟩ s2) := (Turn.refl _ _).setCell (.inl (by simp)) _
  have own : ∀ k ∈ sv.ownBlock.toList, X + 1 ≤ k := fun k hk => (h.row.lt k (by simpa using hk)).1
  have hx2 : w2.heap[X]? = some (.cells #[.int .i64 b, .int .i64 f, sv] 47 (0, 0)) := h2.heap h.x (fun hm => by have := own X hm; omega)
  have hy2 := h2.heap h.y (fun hm => by have := own _ hm; omega)
  refine ⟨hx, by simpa using heap_set hx2 2 s2, ht.heap hy2 (by simp; omega), h1.kept ht (fun k hk => by have := (h1.lt k hk).1; simp; omega), (h.rd.kept h2 (fun hm => by have := own _ hm; omega) (fun k hk => by have := own k hk; omega)).kept ht (by simp; omega) (by simp; omega), ?_⟩
  exact (h.turn.trans h2 (fun k hk => .inr (by have := own k hk; omega))).trans ht (fun k hk => .inr (by simp at hk; omega))

theorem size53 (w : World) : (sizeOf 47).run Try.prog w = .ok 3 w := by kernel_rfl
theorem agg53 (w : World) : (isAgg 47).run Try.prog w = .ok true w := by kernel_rfl
theorem load_bat {w : World} {Y : Nat} {a b c : Value} (h : w.heap[Y]? = some (.cells #[a, b, c] 47 (0, 0))) : (loadVar 47 ⟨Y, 0, none⟩).run Try.prog w = .ok (.agg #[a, b, c]) w := by
  have c0 : w.cell? ⟨Y, 0, none⟩ = some a := by simpa using cell_of h 0
  have c1 : w.cell? ⟨Y, 1, none⟩ = some b := by simpa using cell_of h 1
  have c2 : w.cell? ⟨Y, 2, none⟩ = some c := by simpa using cell_of h 2
  simp [loadVar, agg53, size53, Result.andThen, loadCells, loadCellsFrom, addr_add, c0, c1, c2]
/-- What is answered, stored. -/
theorem BSt.fin {w0 w : World} {rb B X : Nat} {b f : Int} {sv : Value} {rs : List Bt.Rec} {l : List UInt8} (h : BSt w0 w rb B X b f sv rs l) (hrb : rb < w0.heap.size) :
    (loadVar 47 ⟨w0.heap.size, 0, none⟩).run Try.prog (((w.setCell ⟨w0.heap.size, 0, none⟩ (.int .i64 b)).setCell ⟨w0.heap.size, 1, none⟩ (.int .i64 f)).setCell ⟨w0.heap.size, 2, none⟩ sv) = .ok (.agg #[.int .i64 b, .int .i64 f, sv]) (((w.setCell ⟨w0.heap.size, 0, none⟩ (.int .i64 b)).setCell ⟨w0.heap.size, 1, none⟩ (.int .i64 f)).setCell ⟨w0.heap.size, 2, none⟩ sv) ∧
    RecRow (((w.setCell ⟨w0.heap.size, 0, none⟩ (.int .i64 b)).setCell ⟨w0.heap.size, 1, none⟩ (.int .i64 f)).setCell ⟨w0.heap.size, 2, none⟩ sv) (w0.heap.size + 1) sv rs ∧ Turn [rb] w0 (((w.setCell ⟨w0.heap.size, 0, none⟩ (.int .i64 b)).setCell ⟨w0.heap.size, 1, none⟩ (.int .i64 f)).setCell ⟨w0.heap.size, 2, none⟩ sv) := by
  have hx := h.hx
  have hy := heap_set (heap_set (heap_set h.y 0 (.int .i64 b)) 1 (.int .i64 f)) 2 sv
  have ht : Turn [w0.heap.size] w (((w.setCell ⟨w0.heap.size, 0, none⟩ (.int .i64 b)).setCell ⟨w0.heap.size, 1, none⟩ (.int .i64 f)).setCell ⟨w0.heap.size, 2, none⟩ sv) :=
    (((Turn.refl _ _).setCell (.inl (by simp)) _).setCell (.inl (by simp)) _).setCell (.inl (by simp)) _
  refine ⟨load_bat (by simpa using hy), ?_, h.turn.trans ht (fun k hk => .inr (by simp at hk; omega))⟩
  rcases h.row.kept ht (fun k hk => by have := (h.row.lt k hk).1; simp; omega) with h | ⟨g, cap, cur, e, hb, r⟩
  · exact .inl h
  · exact .inr ⟨g, cap, cur, e, by omega, r⟩
set_option maxHeartbeats 4000000 in
theorem batch_any (w : World) (rb B : Nat) (l : List UInt8) (h : RdAt w rb B l) (hB : B ≤ rb) (hl : l.length ≤ 1000000) :
    Calls Try.prog 43 #[.pointer (some ⟨rb, 0, none⟩)] w fun e w' => ∃ sv, e = .returned (.agg #[.int .i64 (Bt.bat1 l).base, .int .i64 (Bt.bat1 l).fin, sv]) ∧ RecRow w' (w.heap.size + 1) sv (Bt.bat1 l).recs ∧ Turn [rb] w w' := by
  have hrb : rb < w.heap.size := by obtain ⟨sv, h1, -⟩ := h; exact lt_of_heap h1
  obtain ⟨n0, r0, e0⟩ : ∃ n r, Bt.num l = (n, r) := ⟨_, _, rfl⟩
  obtain ⟨n1, r1, e1⟩ : ∃ n r, Bt.num r0 = (n, r) := ⟨_, _, rfl⟩
  obtain ⟨n2, r2, e2⟩ : ∃ n r, Bt.num r1 = (n, r) := ⟨_, _, rfl⟩
  have g0 := num_len l
  have g1 := num_len r0
  have g2 := num_len r1
  rw [e0] at g0
  rw [e1] at g1
  rw [e2] at g2
  simp only at g0 g1 g2
  have hb : Bt.bat1 l = ⟨n0, (n0 : Int) + n1, Bt.recs1 n0 n2 r2⟩ := by
    unfold Bt.bat1
    simp only [e0, e1, e2]
  rw [hb]
  have E0 := hide e0
  have E1 := hide e1
  have E2 := hide e2
  have H := hide h
  clear h hb e0 e1 e2
  go_enter Try.func43, Try.ntmps43
  go_wp2_with fail
  refine (number_any _ rb B l (H.out.still ((Turn.refl [] w).alloc _)) hB hl).mono ?_
  rintro e w1 ⟨rfl, hr1, ht1⟩
  rw [E0.out] at hr1 ⊢
  have hsz1 : w.heap.size < w1.heap.size := by have := ht1.size; simp at this; omega
  have hb1 : BSt w (w1.alloc (.cells #[.int .i64 (n0 : Int), .int .i64 0, .slice none 0 0] 47)) rb B w1.heap.size (n0 : Int) 0 (.slice none 0 0) [] r0 := by
    refine ⟨hsz1, heap_new w1 _, ?_, .inl ⟨rfl, rfl⟩, hr1.still ((Turn.refl [] w1).alloc _), ?_⟩
    · exact ((Turn.refl [] w1).alloc _).heap (ht1.heap (heap_new w _) (by simp; omega)) (by simp)
    · exact (((Turn.refl [] w).alloc _).mono (by simp) |>.trans ht1 (fun k hk => .inl hk)).trans (T := []) ((Turn.refl [] w1).alloc _) (by simp)
  obtain ⟨X, hX⟩ : ∃ X, X = w1.heap.size := ⟨_, rfl⟩
  have hX1 : X < (w1.alloc (.cells #[.int .i64 (n0 : Int), .int .i64 0, .slice none 0 0] 47)).heap.size := by simp; omega
  rw [← hX] at hb1 hsz1
  have HX := hide hX
  have HB1 := hide hb1
  clear hb1 ht1 hr1 hX
  go_wp2
  rw [← HX.out]
  refine wp_region_loud 5 (Turn [rb]) (Turn []) (fun k w => match k with | 0 => (fun w => RdAt w rb B r0) w | _ => (fun w => RdAt w rb B r1) w) [3] (by kernel_rfl) (by kernel_rfl) (by kernel_rfl) (by kernel_rfl) (by kernel_rfl) (by kernel_rfl) (Nat.le_of_ble_eq_true rfl) (by decide) rfl (Turn.refl _) (fun _ _ _ h k => h.same k) (fun _ _ h => h.mono (by simp)) ?_ ?_ ?_
  · intro k a b hk hR
    match k, hk with
    | 0, hk =>
      have hk := (show (fun w => RdAt w rb B r0) a from hk)
      dsimp only at hk
      show (fun w => RdAt w rb B r0) b
      dsimp only
      exact hk.still hR
    | _ + 1, hk =>
      have hk := (show (fun w => RdAt w rb B r1) a from hk)
      dsimp only at hk
      show (fun w => RdAt w rb B r1) b
      dsimp only
      exact hk.still hR
  · show (fun w => RdAt w rb B r0) _
    dsimp only
    exact HB1.out.rd.still ((Turn.refl [] _).drew)
  apply Lo.runx 1 rfl rfl [] (by kernel_rfl) (Turn.refl _)
  apply Exists.intro; apply And.intro
  · intro u w1 hR hF
    clear hF
    refine ⟨rfl, fun a ha K hK => ?_⟩
    have e3 := ha 3
    conv at e3 => rhs; whnf
    clear ha
    go_simp
    refine hK _ ?_; rfl
  apply Lo.runx 2 rfl rfl [0] (by kernel_rfl) (Turn.refl _)
  apply Exists.intro; apply And.intro
  · intro u w1 hR hF
    obtain ⟨h0, -⟩ := hF
    refine ⟨rfl, fun a ha K hK => ?_⟩
    have e8 := (ha 8).trans h0
    clear ha h0
    have hbw := ((HB1.out.still ((Turn.refl [] _).drew)).x)
    have c0 := cell_of (hR.heap hbw (by simp; omega)) 0
    simp at c0
    go_simp
    refine hK _ ?_; rfl
  apply Lo.runx 3 rfl rfl [] (by kernel_rfl) (Turn.refl _)
  apply Exists.intro; apply And.intro
  · intro u w1 hR hF
    clear hF
    refine ⟨rfl, fun a ha K hK => ?_⟩
    have e0 := ha 0
    conv at e0 => rhs; whnf
    clear ha
    go_simp
    refine hK _ ?_; rfl
  refine Lo.noisy 4 rfl 0 rfl [2] (fun x w' => x = .int .i64 n1) (by kernel_rfl) (fun x w w' h hR => ?_) (.inr (fun x w w' h hR => by exact h)) (fun u w1 hR hS hF => ?_) ?_
  · exact h
  · obtain ⟨h2, -⟩ := hF
    have hS := (show (fun w => RdAt w rb B r0) w1 from hS)
    dsimp only at hS
    refine ⟨rfl, fun a ha K hK => ?_⟩
    have e10 := (ha 10).trans h2
    clear ha h2
    go_simp
    refine (number_any _ rb B r0 hS hB (by omega)).mono ?_
    rintro e w2 ⟨rfl, hr2, ht2⟩
    rw [E1.out] at hr2 ⊢
    exact hK _ _ rfl ht2 hr2
  refine Lo.runv 5 rfl rfl [1, 3] (.int .i64 ((n0 : Int) + n1)) (by kernel_rfl) (fun u w1 hR hF => ?_) (Turn.refl _) ?_
  · obtain ⟨h1, h3, -⟩ := hF
    refine ⟨rfl, fun a ha K hK => ?_⟩
    have e9 := (ha 9).trans h1
    have e11 : a.tmps.getD 11 undef = u 3 := ha 11
    have h3 := (show (fun x w' => x = .int .i64 n1) (u 3) w1 from h3)
    dsimp only at h3
    clear ha h1
    go_simp
    refine hK _ ?_
    rw [IntWalk.i64_left, IntWalk.wrap64_in _ (by omega)]
  refine Lo.done [4] (fun u w1 hRd hSd hF => ?_)
  have hSd := (show (fun w => RdAt w rb B r1) w1 from hSd)
  dsimp only at hSd
  obtain ⟨f4, -⟩ := hF
  have d4 : u 4 = _ := f4
  clear f4
  simp only [List.take_succ_cons, List.take_zero, List.drop_succ_cons, List.drop_zero, putFrom, Act.put, List.setIfInBounds_toArray, List.set_cons_succ, List.set_cons_zero, Nat.zero_add, Nat.reduceAdd, d4]
  have HB2 := hide ((HB1.out.still (Turn.refl [] _).drew).num hRd hSd hrb)
  clear hRd hSd d4
  obtain ⟨⟨c0, c1, c2⟩, ⟨f0, f1, f2⟩, -, -⟩ := HB2.out.cells
  go_wp2_with fail
  have HB3 := hide (HB2.out.setF ((n0 : Int) + n1) hrb hB)
  refine (number_any _ rb B r1 HB3.out.rd hB (by omega)).mono ?_
  rintro e w2 ⟨rfl, hr2, ht2⟩
  rw [E2.out] at hr2 ⊢
  have HB4 := hide (HB3.out.num ht2 hr2 hrb)
  clear hr2 ht2 c0 c1 c2 f0 f1 f2
  go_wp2
  go_loopw [4] (fun n wr => ∃ (c : Nat) (sv : Value) (rs : List Bt.Rec) (l' : List UInt8), n = .int .i64 c ∧ c ≤ 1099511627776 ∧ BSt w wr rb B X n0 ((n0 : Int) + n1) sv rs l' ∧ Bt.recs1 n0 n2 r2 = rs ++ Bt.recs1 n0 c l' ∧ rs.length + l'.length ≤ l.length) (fun n _ => (intOf n).toNat)
  case atStart => exact ⟨n2, _, [], r2, rfl, g2.2, HB4.out, rfl, by simp; omega⟩
  case round =>
    obtain ⟨c, sv, rs, l', rfl, hc40, hbs, hrecs, hlen⟩ := hrel
    have HBS := hide hbs
    have HRC := hide hrecs
    obtain ⟨rv, hrh, hrby, -⟩ := hbs.rd
    obtain ⟨ra, rc, hrv, hlc, -, -⟩ := hrby.form
    subst hrv
    have cr : wr.cell? ⟨rb, 0, none⟩ = some (.slice ra l'.length rc) := by simpa using cell_of hrh 0
    obtain ⟨z1, z2⟩ := hbs.sz
    obtain ⟨⟨c0, c1, c2⟩, ⟨f0, f1, f2⟩, ⟨y0, y1, y2⟩, ⟨q0, q1, q2⟩⟩ := hbs.cells
    clear hbs hrecs hrh hrby
    by_cases hc0 : c = 0
    · subst hc0
      have HEND : Hid (Bt.recs1 n0 n2 r2 = rs) := by show _ = _; rw [HRC.out]; simp [Bt.recs1]
      obtain ⟨sa, sn, sc, hsv⟩ := HBS.out.row.some_slice
      subst hsv
      go_wp2
      have hfin := HBS.out.fin hrb
      have hld := hfin.1
      refine bodyPost_ret (v := .agg #[.int .i64 n0, .int .i64 ((n0 : Int) + n1), .slice sa sn sc]) (by simp [results, Try.results43, asAddr, hld, Result.andThen]) rfl ?_
      refine ⟨_, rfl, ?_, hfin.2.2⟩
      rw [HEND.out]
      exact hfin.2.1
    by_cases hl0 : l' = []
    · subst hl0
      have HEND : Hid (Bt.recs1 n0 n2 r2 = rs) := by
        show _ = _
        rw [HRC.out]
        cases c <;> simp [Bt.recs1]
      obtain ⟨sa, sn, sc, hsv⟩ := HBS.out.row.some_slice
      subst hsv
      go_wp2
      have hfin := HBS.out.fin hrb
      have hld := hfin.1
      refine bodyPost_ret (v := .agg #[.int .i64 n0, .int .i64 ((n0 : Int) + n1), .slice sa sn sc]) (by simp [results, Try.results43, asAddr, hld, Result.andThen]) rfl ?_
      refine ⟨_, rfl, ?_, hfin.2.2⟩
      rw [HEND.out]
      exact hfin.2.1
    · obtain ⟨c', rfl⟩ : ∃ c', c = c' + 1 := ⟨c - 1, by omega⟩
      have hlp : 0 < l'.length := List.length_pos_iff.2 hl0
      have hr1l := rec1_len n0 l'
      have HR1 : Hid (Bt.recs1 n0 n2 r2 = (rs ++ [(Bt.rec1 n0 l').1]) ++ Bt.recs1 n0 c' (Bt.rec1 n0 l').2) := by
        show _ = _
        rw [HRC.out, Bt.recs1, if_neg hl0]; simp
      have hr2l := hr1l.2 hl0
      clear hl0 hr1l
      obtain ⟨r, hr⟩ : ∃ r, r = (Bt.rec1 n0 l').1 := ⟨_, rfl⟩
      obtain ⟨l2, hl2⟩ : ∃ l2, l2 = (Bt.rec1 n0 l').2 := ⟨_, rfl⟩
      rw [← hr, ← hl2] at HR1
      rw [← hl2] at hr2l
      have HRL : Hid (Bt.rec1 n0 l' = (r, l2)) := by show _ = _; rw [hr, hl2]
      clear hr hl2
      go_wp2
      refine wp_region_loud 7 (Turn [rb]) (Turn []) (fun k w => match k with | 0 => (fun w => RdAt w rb B l') w | _ => (fun w => RdAt w rb B l2) w) [5] (by kernel_rfl) (by kernel_rfl) (by kernel_rfl) (by kernel_rfl) (by kernel_rfl) (by kernel_rfl) (Nat.le_of_ble_eq_true rfl) (by decide) rfl (Turn.refl _) (fun _ _ _ h k => h.same k) (fun _ _ h => h.mono (by simp)) ?_ ?_ ?_
      · intro k a b hk hR
        match k, hk with
        | 0, hk =>
          have hk := (show (fun w => RdAt w rb B l') a from hk)
          dsimp only at hk
          show (fun w => RdAt w rb B l') b
          dsimp only
          exact hk.still hR
        | _ + 1, hk =>
          have hk := (show (fun w => RdAt w rb B l2) a from hk)
          dsimp only at hk
          show (fun w => RdAt w rb B l2) b
          dsimp only
          exact hk.still hR
      · show (fun w => RdAt w rb B l') _
        dsimp only
        exact HBS.out.rd.still ((Turn.refl [] _).drew)
      apply Lo.runx 1 rfl rfl [] (by kernel_rfl) (Turn.refl _)
      apply Exists.intro; apply And.intro
      · intro u w1 hR hF
        clear hF
        refine ⟨rfl, fun a ha K hK => ?_⟩
        have e3 := ha 3
        conv at e3 => rhs; whnf
        clear ha
        go_simp
        refine hK _ ?_; rfl
      apply Lo.runx 2 rfl rfl [0] (by kernel_rfl) (Turn.refl _)
      apply Exists.intro; apply And.intro
      · intro u w1 hR hF
        obtain ⟨h0, -⟩ := hF
        refine ⟨rfl, fun a ha K hK => ?_⟩
        have e28 := (ha 28).trans h0
        clear ha h0
        have c2 := cell_of (hR.heap (HBS.out.still (Turn.refl [] _).drew).x (by simp; omega)) 2
        simp at c2
        go_simp
        refine hK _ ?_; rfl
      apply Lo.runx 3 rfl rfl [] (by kernel_rfl) (Turn.refl _)
      apply Exists.intro; apply And.intro
      · intro u w1 hR hF
        clear hF
        refine ⟨rfl, fun a ha K hK => ?_⟩
        have e0 := ha 0
        conv at e0 => rhs; whnf
        clear ha
        go_simp
        refine hK _ ?_; rfl
      apply Lo.runx 4 rfl rfl [] (by kernel_rfl) (Turn.refl _)
      apply Exists.intro; apply And.intro
      · intro u w1 hR hF
        clear hF
        refine ⟨rfl, fun a ha K hK => ?_⟩
        have e3 := ha 3
        conv at e3 => rhs; whnf
        clear ha
        go_simp
        refine hK _ ?_; rfl
      apply Lo.runx 5 rfl rfl [3] (by kernel_rfl) (Turn.refl _)
      apply Exists.intro; apply And.intro
      · intro u w1 hR hF
        obtain ⟨h3, -⟩ := hF
        refine ⟨rfl, fun a ha K hK => ?_⟩
        have e31 := (ha 31).trans h3
        clear ha h3
        have c0 := cell_of (hR.heap (HBS.out.still (Turn.refl [] _).drew).x (by simp; omega)) 0
        simp at c0
        go_simp
        refine hK _ ?_; rfl
      refine Lo.noisy 6 rfl 0 rfl [2, 4] (fun x w' => x = recV r) (by kernel_rfl) (fun x w w' h hR => ?_) (.inr (fun x w w' h hR => by exact h)) (fun u w1 hR hS hF => ?_) ?_
      · exact h
      · obtain ⟨h2, h4, -⟩ := hF
        have hS := (show (fun w => RdAt w rb B l') w1 from hS)
        dsimp only at hS
        refine ⟨rfl, fun a ha K hK => ?_⟩
        have e30 := (ha 30).trans h2
        have e32 := (ha 32).trans h4
        clear ha h2 h4
        go_simp
        refine (record_any _ rb B l' hS hB (by omega) n0 (by omega) (by omega)).mono ?_
        rintro e w2 ⟨rfl, hr2, ht2⟩
        rw [HRL.out] at hr2 ⊢
        exact hK _ _ rfl ht2 hr2
      refine Lo.run 7 rfl rfl [5] (fun x w' => ∃ k, x = .slice (some ⟨k, 0, none⟩) 1 1 ∧ w'.heap[k]? = some (.cells (recC r).toArray 79 (0, 0)) ∧ wr.heap.size ≤ k) (by kernel_rfl) (fun x w w' h hR => ?_) (fun _ _ h => h.mono (by simp)) (fun u w1 hR hF => ?_) ?_
      · obtain ⟨k, h1, h2, h3⟩ := h; exact ⟨k, h1, hR.heap h2 (by simp; omega), h3⟩
      · obtain ⟨h5, -⟩ := hF
        refine ⟨rfl, fun a ha K hK => ?_⟩
        have e33 : a.tmps.getD 33 undef = u 5 := ha 33
        have h5 := (show (fun x w' => x = recV r) (u 5) w1 from h5)
        dsimp only at h5
        clear ha
        have e33' : a.tmps[33]?.getD undef = .agg #[.int .i64 r.off, .int .i64 r.time, .bool r.keyed, strV r.key, .bool r.gone, strV r.value] := by rw [← Array.getD_eq_getD_getElem?, e33]; exact h5
        go_simp
        have hs6 := ((Turn.refl [] wr).drew.mono (T := [rb]) (by simp)).same hR |>.size
        exact hK _ _ ⟨w1.heap.size, rfl, heap_new w1 _, hs6⟩ ((Turn.refl [] _).alloc _)
      refine Lo.done [1, 6] (fun u w1 hRd hSd hF => ?_)
      have hSd := (show (fun w => RdAt w rb B l2) w1 from hSd)
      dsimp only at hSd
      obtain ⟨f1, f6, -⟩ := hF
      have d1 : u 1 = _ := f1
      have d6 := (show (fun x w' => ∃ k, x = .slice (some ⟨k, 0, none⟩) 1 1 ∧ w'.heap[k]? = some (.cells (recC r).toArray 79 (0, 0)) ∧ wr.heap.size ≤ k) (u 6) w1 from f6)
      dsimp only at d6
      clear f1 f6
      simp only [List.take_succ_cons, List.take_zero, List.drop_succ_cons, List.drop_zero, putFrom, Act.put, List.setIfInBounds_toArray, List.set_cons_succ, List.set_cons_zero, Nat.zero_add, Nat.reduceAdd, d1]
      have hb5 := (HBS.out.still (Turn.refl [] _).drew).num hRd hSd hrb
      have HB5 := hide hb5
      obtain ⟨k, hk1, hk2, hk3⟩ := d6
      rw [hk1]
      obtain ⟨v7, w7, hr7, hrow7, ht7, hown7⟩ := run_append_rec w1 (X + 1) sv rs r k hb5.row hk2 (by omega) (by have := hb5.sz; omega)
      obtain ⟨a7, n7, p7, hv7⟩ := hrow7.some_slice
      subst hv7
      have hx7 := ht7.heap hb5.x (fun hm => by have := (hb5.row.lt X (by simpa using hm)).1; omega)
      have c7 : w7.cell? ⟨X, 2, none⟩ = some sv := by simpa using cell_of hx7 2
      have f7 : w7.frozen? ⟨X, 2, none⟩ = false := frozen_of hx7 2
      have HROW7 := hide hrow7
      have HT7 := hide ht7
      have HR7 := hide hr7
      clear hb5 hk1 hk2 hk3 d1 hRd hSd hr7 hrow7 ht7 hown7 hx7 c0 c1 c2 f0 f1 f2 y0 y1 y2 q0 q1 q2 cr
      go_wp2_with (at_builtin; go_must (refine wpList_append_told rfl rfl rfl rfl HR7.out ?_))
      refine ⟨⟨c', _, rs ++ [r], l2, by go_num, by omega, HB5.out.setR hrb hB HROW7.out HT7.out, HR1.out, by simp; omega⟩, ?_⟩
      simp only [intOf]; omega
end Go.Proofs.Ytlcgcckllecjpaa
