/- RdC, Fr, PutT, PutB, Err, ChkP, SumP, EncP, DecP, Bit, Back, Torn, Scan: texts merged. -/
import Derived.Test.YthbhfhagbaommaaGreatDoorM2
import Derived.Deep.AppendSrc
import Derived.Test.YthbhfhagbaommaaGreatDoorProg
import Derived.Test.YthbhfhagbaommaaGreatDoorM1
import Derived.WalkKit
import Derived.WalkLawsBesides
import Derived.Laws.BitsAllLaws
/- record's reader: batch, carried out. -/
namespace Go.Proofs.YthbhfhagbaommaaGreatDoor
open Go.RowKit Go.Maps
set_option maxRecDepth 100000
set_option linter.unusedSimpArgs false
set_option linter.unusedVariables false

theorem rec1_len (base : Int) (l : List UInt8) : (Bt.rec1 base l).2.length ≤ l.length ∧ (l ≠ [] → (Bt.rec1 base l).2.length < l.length) := by
  have a0 := num_len l
  have a1 := num_len (Bt.num l).2
  have a2 := num_len (Bt.num (Bt.num l).2).2
  have a3 := text_len (Bt.num (Bt.num (Bt.num l).2).2).2
  have a4 := text_len (Bt.text (Bt.num (Bt.num (Bt.num l).2).2).2).2
  have hlt : l ≠ [] → (Bt.num l).2.length < l.length := by
    intro h
    have hp := List.length_pos_iff.2 h
    unfold Bt.num
    have := Nu.get_size (b := l)
    split
    · simpa using hp
    · simp; omega
  have hm : (Bt.rec1 base l).2.length ≤ (Bt.num (Bt.num (Bt.num l).2).2).2.length := by
    unfold Bt.rec1
    simp only
    split <;> split <;> (try dsimp only) <;> omega
  exact ⟨by omega, fun h => by have := hlt h; omega⟩
theorem rec1_ok (base : Int) (l : List UInt8) (h0 : 0 ≤ base) (h1 : base ≤ 1099511627776) (hl : l.length ≤ 1000000) : RecOk (Bt.rec1 base l).1 := by
  have a0 := num_len l
  have a1 := num_len (Bt.num l).2
  have a2 := num_len (Bt.num (Bt.num l).2).2
  have a3 := text_len (Bt.num (Bt.num (Bt.num l).2).2).2
  have a4 := text_len (Bt.text (Bt.num (Bt.num (Bt.num l).2).2).2).2
  unfold Bt.rec1
  simp only
  refine ⟨by simp only; omega, by simp only; omega, by simp only; omega, by simp only; omega, ?_, ?_⟩
  · simp only
    split
    · omega
    · simp
  · simp only
    split
    · simp
    · split <;> (try dsimp only) <;> omega
theorem recs1_ok (base : Int) (h0 : 0 ≤ base) (h1 : base ≤ 1099511627776) : ∀ (n : Nat) (l : List UInt8), l.length ≤ 1000000 → ∀ r ∈ Bt.recs1 base n l, RecOk r
  | 0, _, _, r, hr => by simp [Bt.recs1] at hr
  | n + 1, l, hl, r, hr => by
    unfold Bt.recs1 at hr
    split at hr
    · simp at hr
    · rcases List.mem_cons.1 hr with rfl | hr
      · exact rec1_ok base l h0 h1 hl
      · exact recs1_ok base h0 h1 n _ (by have := rec1_len base l; omega) r hr

/-- Where the reading of a batch stands. -/
structure BSt (w0 w : World) (rb B X : Nat) (b f : Int) (sv : Value) (rs : List Bt.Rec) (l : List UInt8) : Prop where
  hx : w0.heap.size < X
  x : w.heap[X]? = some (.cells #[.int .i64 b, .int .i64 f, sv] 70 (0, 0))
  y : w.heap[w0.heap.size]? = some (.cells #[.int .i64 0, .int .i64 0, .slice none 0 0] 70 (0, 0))
  row : RecRow w (X + 1) sv rs
  rd : RdAt w rb B l
  turn : Turn [rb] w0 w
theorem BSt.sz {w0 w : World} {rb B X : Nat} {b f : Int} {sv : Value} {rs : List Bt.Rec} {l : List UInt8} (h : BSt w0 w rb B X b f sv rs l) : w0.heap.size < w.heap.size ∧ X < w.heap.size := ⟨Nat.lt_trans h.hx (lt_of_heap h.x), lt_of_heap h.x⟩
theorem BSt.num {w0 w w' : World} {rb B X : Nat} {b f : Int} {sv : Value} {rs : List Bt.Rec} {l l' : List UInt8} (h : BSt w0 w rb B X b f sv rs l) (ht : Turn [rb] w w') (hrd : RdAt w' rb B l') (hrb : rb < w0.heap.size) : BSt w0 w' rb B X b f sv rs l' :=
  ⟨h.hx, ht.heap h.x (by have := h.hx; simp; omega), ht.heap h.y (by simp; omega), h.row.kept ht (fun k hk => by have := (h.row.lt k hk).1; have := h.hx; simp; omega), hrd, h.turn.same ht⟩
theorem BSt.still {w0 w w' : World} {rb B X : Nat} {b f : Int} {sv : Value} {rs : List Bt.Rec} {l : List UInt8} (h : BSt w0 w rb B X b f sv rs l) (ht : Turn [] w w') : BSt w0 w' rb B X b f sv rs l :=
  ⟨h.hx, ht.heap h.x (by simp), ht.heap h.y (by simp), h.row.kept ht (by simp), h.rd.still ht, h.turn.trans ht (by simp)⟩
theorem BSt.cells {w0 w : World} {rb B X : Nat} {b f : Int} {sv : Value} {rs : List Bt.Rec} {l : List UInt8} (h : BSt w0 w rb B X b f sv rs l) :
    (w.cell? ⟨X, 0, none⟩ = some (.int .i64 b) ∧ w.cell? ⟨X, 1, none⟩ = some (.int .i64 f) ∧ w.cell? ⟨X, 2, none⟩ = some sv) ∧
    (w.frozen? ⟨X, 0, none⟩ = false ∧ w.frozen? ⟨X, 1, none⟩ = false ∧ w.frozen? ⟨X, 2, none⟩ = false) ∧
    (w.cell? ⟨w0.heap.size, 0, none⟩ = some (.int .i64 0) ∧ w.cell? ⟨w0.heap.size, 1, none⟩ = some (.int .i64 0) ∧ w.cell? ⟨w0.heap.size, 2, none⟩ = some (.slice none 0 0)) ∧
    (w.frozen? ⟨w0.heap.size, 0, none⟩ = false ∧ w.frozen? ⟨w0.heap.size, 1, none⟩ = false ∧ w.frozen? ⟨w0.heap.size, 2, none⟩ = false) :=
  ⟨⟨by simpa using cell_of h.x 0, by simpa using cell_of h.x 1, by simpa using cell_of h.x 2⟩, ⟨frozen_of h.x 0, frozen_of h.x 1, frozen_of h.x 2⟩,
   ⟨by simpa using cell_of h.y 0, by simpa using cell_of h.y 1, by simpa using cell_of h.y 2⟩, frozen_of h.y 0, frozen_of h.y 1, frozen_of h.y 2⟩
/-- The end of the batch is told. -/
theorem BSt.setF {w0 w : World} {rb B X : Nat} {b f : Int} {sv : Value} {rs : List Bt.Rec} {l : List UInt8} (h : BSt w0 w rb B X b f sv rs l) (f' : Int) (hrb : rb < w0.heap.size) (hB : B ≤ rb) : BSt w0 (w.setCell ⟨X, 1, none⟩ (.int .i64 f')) rb B X b f' sv rs l := by
  have ht : Turn [X] w (w.setCell ⟨X, 1, none⟩ (.int .i64 f')) := (Turn.refl _ _).setCell (.inl (by simp)) _
  have hx := h.hx
  exact ⟨hx, by simpa using heap_set h.x 1 (.int .i64 f'), ht.heap h.y (by simp; omega), h.row.kept ht (fun k hk => by have := (h.row.lt k hk).1; simp; omega), h.rd.kept ht (by simp; omega) (by simp; omega), h.turn.trans ht (fun k hk => .inr (by simp at hk; omega))⟩

/-- A grown row of records, stored. -/
theorem BSt.setR {w0 w w2 : World} {rb B X : Nat} {b f : Int} {sv s2 : Value} {rs r2 : List Bt.Rec} {l : List UInt8} (h : BSt w0 w rb B X b f sv rs l) (hrb : rb < w0.heap.size) (hB : B ≤ rb) (h1 : RecRow w2 (X + 1) s2 r2) (h2 : Turn sv.ownBlock.toList w w2) : BSt w0 (w2.setCell ⟨X, 2, none⟩ s2) rb B X b f s2 r2 l := by
  have hx := h.hx
  have ht : Turn [X] w2 (w2.setCell ⟨X, 2, none⟩ s2) := (Turn.refl _ _).setCell (.inl (by simp)) _
  have own : ∀ k ∈ sv.ownBlock.toList, X + 1 ≤ k := fun k hk => (h.row.lt k (by simpa using hk)).1
  have hx2 : w2.heap[X]? = some (.cells #[.int .i64 b, .int .i64 f, sv] 70 (0, 0)) := h2.heap h.x (fun hm => by have := own X hm; omega)
  have hy2 := h2.heap h.y (fun hm => by have := own _ hm; omega)
  refine ⟨hx, by simpa using heap_set hx2 2 s2, ht.heap hy2 (by simp; omega), h1.kept ht (fun k hk => by have := (h1.lt k hk).1; simp; omega), (h.rd.kept h2 (fun hm => by have := own _ hm; omega) (fun k hk => by have := own k hk; omega)).kept ht (by simp; omega) (by simp; omega), ?_⟩
  exact (h.turn.trans h2 (fun k hk => .inr (by have := own k hk; omega))).trans ht (fun k hk => .inr (by simp at hk; omega))

theorem size53 (w : World) : (sizeOf 70).run Tryz.prog w = .ok 3 w := by kernel_rfl
theorem agg53 (w : World) : (isAgg 70).run Tryz.prog w = .ok true w := by kernel_rfl
theorem load_bat {w : World} {Y : Nat} {a b c : Value} (h : w.heap[Y]? = some (.cells #[a, b, c] 70 (0, 0))) : (loadVar 70 ⟨Y, 0, none⟩).run Tryz.prog w = .ok (.agg #[a, b, c]) w := by
  have c0 : w.cell? ⟨Y, 0, none⟩ = some a := by simpa using cell_of h 0
  have c1 : w.cell? ⟨Y, 1, none⟩ = some b := by simpa using cell_of h 1
  have c2 : w.cell? ⟨Y, 2, none⟩ = some c := by simpa using cell_of h 2
  simp [loadVar, agg53, size53, Result.andThen, loadCells, loadCellsFrom, addr_add, c0, c1, c2]
/-- What is answered, stored. -/
theorem BSt.fin {w0 w : World} {rb B X : Nat} {b f : Int} {sv : Value} {rs : List Bt.Rec} {l : List UInt8} (h : BSt w0 w rb B X b f sv rs l) (hrb : rb < w0.heap.size) :
    (loadVar 70 ⟨w0.heap.size, 0, none⟩).run Tryz.prog (((w.setCell ⟨w0.heap.size, 0, none⟩ (.int .i64 b)).setCell ⟨w0.heap.size, 1, none⟩ (.int .i64 f)).setCell ⟨w0.heap.size, 2, none⟩ sv) = .ok (.agg #[.int .i64 b, .int .i64 f, sv]) (((w.setCell ⟨w0.heap.size, 0, none⟩ (.int .i64 b)).setCell ⟨w0.heap.size, 1, none⟩ (.int .i64 f)).setCell ⟨w0.heap.size, 2, none⟩ sv) ∧
    RecRow (((w.setCell ⟨w0.heap.size, 0, none⟩ (.int .i64 b)).setCell ⟨w0.heap.size, 1, none⟩ (.int .i64 f)).setCell ⟨w0.heap.size, 2, none⟩ sv) (w0.heap.size + 1) sv rs ∧ Turn [rb] w0 (((w.setCell ⟨w0.heap.size, 0, none⟩ (.int .i64 b)).setCell ⟨w0.heap.size, 1, none⟩ (.int .i64 f)).setCell ⟨w0.heap.size, 2, none⟩ sv) := by
  have hx := h.hx
  have hy := heap_set (heap_set (heap_set h.y 0 (.int .i64 b)) 1 (.int .i64 f)) 2 sv
  have ht : Turn [w0.heap.size] w (((w.setCell ⟨w0.heap.size, 0, none⟩ (.int .i64 b)).setCell ⟨w0.heap.size, 1, none⟩ (.int .i64 f)).setCell ⟨w0.heap.size, 2, none⟩ sv) :=
    (((Turn.refl _ _).setCell (.inl (by simp)) _).setCell (.inl (by simp)) _).setCell (.inl (by simp)) _
  refine ⟨load_bat (by simpa using hy), ?_, h.turn.trans ht (fun k hk => .inr (by simp at hk; omega))⟩
  rcases h.row.kept ht (fun k hk => by have := (h.row.lt k hk).1; simp; omega) with h | ⟨g, cap, cur, e, hb, r⟩
  · exact .inl h
  · exact .inr ⟨g, cap, cur, e, by omega, r⟩
set_option maxHeartbeats 4000000 in
theorem batch_any (w : World) (rb B : Nat) (l : List UInt8) (h : RdAt w rb B l) (hB : B ≤ rb) (hl : l.length ≤ 1000000) :
    Calls Tryz.prog 164 #[.pointer (some ⟨rb, 0, none⟩)] w fun e w' => ∃ sv, e = .returned (.agg #[.int .i64 (Bt.bat1 l).base, .int .i64 (Bt.bat1 l).fin, sv]) ∧ RecRow w' (w.heap.size + 1) sv (Bt.bat1 l).recs ∧ Turn [rb] w w' := by
  have hrb : rb < w.heap.size := by obtain ⟨sv, h1, -⟩ := h; exact lt_of_heap h1
  obtain ⟨n0, r0, e0⟩ : ∃ n r, Bt.num l = (n, r) := ⟨_, _, rfl⟩
  obtain ⟨n1, r1, e1⟩ : ∃ n r, Bt.num r0 = (n, r) := ⟨_, _, rfl⟩
  obtain ⟨n2, r2, e2⟩ : ∃ n r, Bt.num r1 = (n, r) := ⟨_, _, rfl⟩
  have g0 := num_len l
  have g1 := num_len r0
  have g2 := num_len r1
  rw [e0] at g0
  rw [e1] at g1
  rw [e2] at g2
  simp only at g0 g1 g2
  have hb : Bt.bat1 l = ⟨n0, (n0 : Int) + n1, Bt.recs1 n0 n2 r2⟩ := by
    unfold Bt.bat1
    simp only [e0, e1, e2]
  rw [hb]
  have E0 := hide e0
  have E1 := hide e1
  have E2 := hide e2
  have H := hide h
  clear h hb e0 e1 e2
  go_enter Tryz.func164, Tryz.ntmps164
  go_wp2_with fail
  refine (number_any _ rb B l (H.out.still ((Turn.refl [] w).alloc _)) hB hl).mono ?_
  rintro e w1 ⟨rfl, hr1, ht1⟩
  rw [E0.out] at hr1 ⊢
  have hsz1 : w.heap.size < w1.heap.size := by have := ht1.size; simp at this; omega
  have hb1 : BSt w (w1.alloc (.cells #[.int .i64 (n0 : Int), .int .i64 0, .slice none 0 0] 70)) rb B w1.heap.size (n0 : Int) 0 (.slice none 0 0) [] r0 := by
    refine ⟨hsz1, heap_new w1 _, ?_, .inl ⟨rfl, rfl⟩, hr1.still ((Turn.refl [] w1).alloc _), ?_⟩
    · exact ((Turn.refl [] w1).alloc _).heap (ht1.heap (heap_new w _) (by simp; omega)) (by simp)
    · exact (((Turn.refl [] w).alloc _).mono (by simp) |>.trans ht1 (fun k hk => .inl hk)).trans (T := []) ((Turn.refl [] w1).alloc _) (by simp)
  obtain ⟨X, hX⟩ : ∃ X, X = w1.heap.size := ⟨_, rfl⟩
  have hX1 : X < (w1.alloc (.cells #[.int .i64 (n0 : Int), .int .i64 0, .slice none 0 0] 70)).heap.size := by simp; omega
  rw [← hX] at hb1 hsz1
  have HX := hide hX
  have HB1 := hide hb1
  clear hb1 ht1 hr1 hX
  go_wp2
  rw [← HX.out]
  refine wp_region_loud 5 (Turn [rb]) (Turn []) (fun k w => match k with | 0 => (fun w => RdAt w rb B r0) w | _ => (fun w => RdAt w rb B r1) w) [3] (by kernel_rfl) (by kernel_rfl) (by kernel_rfl) (by kernel_rfl) (by kernel_rfl) (by kernel_rfl) (Nat.le_of_ble_eq_true rfl) (by decide) rfl (Turn.refl _) (fun _ _ _ h k => h.same k) (fun _ _ h => h.mono (by simp)) ?_ ?_ ?_
  · intro k a b hk hR
    match k, hk with
    | 0, hk =>
      have hk := (show (fun w => RdAt w rb B r0) a from hk)
      dsimp only at hk
      show (fun w => RdAt w rb B r0) b
      dsimp only
      exact hk.still hR
    | _ + 1, hk =>
      have hk := (show (fun w => RdAt w rb B r1) a from hk)
      dsimp only at hk
      show (fun w => RdAt w rb B r1) b
      dsimp only
      exact hk.still hR
  · show (fun w => RdAt w rb B r0) _
    dsimp only
    exact HB1.out.rd.still ((Turn.refl [] _).drew)
  apply Lo.runx 1 rfl rfl [] (by kernel_rfl) (Turn.refl _)
  apply Exists.intro; apply And.intro
  · intro u w1 hR hF
    clear hF
    refine ⟨rfl, fun a ha K hK => ?_⟩
    have e3 := ha 3
    conv at e3 => rhs; whnf
    clear ha
    go_simp
    refine hK _ ?_; rfl
  apply Lo.runx 2 rfl rfl [0] (by kernel_rfl) (Turn.refl _)
  apply Exists.intro; apply And.intro
  · intro u w1 hR hF
    obtain ⟨h0, -⟩ := hF
    refine ⟨rfl, fun a ha K hK => ?_⟩
    have e8 := (ha 8).trans h0
    clear ha h0
    have hbw := ((HB1.out.still ((Turn.refl [] _).drew)).x)
    have c0 := cell_of (hR.heap hbw (by simp; omega)) 0
    simp at c0
    go_simp
    refine hK _ ?_; rfl
  apply Lo.runx 3 rfl rfl [] (by kernel_rfl) (Turn.refl _)
  apply Exists.intro; apply And.intro
  · intro u w1 hR hF
    clear hF
    refine ⟨rfl, fun a ha K hK => ?_⟩
    have e0 := ha 0
    conv at e0 => rhs; whnf
    clear ha
    go_simp
    refine hK _ ?_; rfl
  refine Lo.noisy 4 rfl 0 rfl [2] (fun x w' => x = .int .i64 n1) (by kernel_rfl) (fun x w w' h hR => ?_) (.inr (fun x w w' h hR => by exact h)) (fun u w1 hR hS hF => ?_) ?_
  · exact h
  · obtain ⟨h2, -⟩ := hF
    have hS := (show (fun w => RdAt w rb B r0) w1 from hS)
    dsimp only at hS
    refine ⟨rfl, fun a ha K hK => ?_⟩
    have e10 := (ha 10).trans h2
    clear ha h2
    go_simp
    refine (number_any _ rb B r0 hS hB (by omega)).mono ?_
    rintro e w2 ⟨rfl, hr2, ht2⟩
    rw [E1.out] at hr2 ⊢
    exact hK _ _ rfl ht2 hr2
  refine Lo.runv 5 rfl rfl [1, 3] (.int .i64 ((n0 : Int) + n1)) (by kernel_rfl) (fun u w1 hR hF => ?_) (Turn.refl _) ?_
  · obtain ⟨h1, h3, -⟩ := hF
    refine ⟨rfl, fun a ha K hK => ?_⟩
    have e9 := (ha 9).trans h1
    have e11 : a.tmps.getD 11 undef = u 3 := ha 11
    have h3 := (show (fun x w' => x = .int .i64 n1) (u 3) w1 from h3)
    dsimp only at h3
    clear ha h1
    go_simp
    refine hK _ ?_
    rw [IntWalk.i64_left, IntWalk.wrap64_in _ (by omega)]
  refine Lo.done [4] (fun u w1 hRd hSd hF => ?_)
  have hSd := (show (fun w => RdAt w rb B r1) w1 from hSd)
  dsimp only at hSd
  obtain ⟨f4, -⟩ := hF
  have d4 : u 4 = _ := f4
  clear f4
  simp only [List.take_succ_cons, List.take_zero, List.drop_succ_cons, List.drop_zero, putFrom, Act.put, List.setIfInBounds_toArray, List.set_cons_succ, List.set_cons_zero, Nat.zero_add, Nat.reduceAdd, d4]
  have HB2 := hide ((HB1.out.still (Turn.refl [] _).drew).num hRd hSd hrb)
  clear hRd hSd d4
  obtain ⟨⟨c0, c1, c2⟩, ⟨f0, f1, f2⟩, -, -⟩ := HB2.out.cells
  go_wp2_with fail
  have HB3 := hide (HB2.out.setF ((n0 : Int) + n1) hrb hB)
  refine (number_any _ rb B r1 HB3.out.rd hB (by omega)).mono ?_
  rintro e w2 ⟨rfl, hr2, ht2⟩
  rw [E2.out] at hr2 ⊢
  have HB4 := hide (HB3.out.num ht2 hr2 hrb)
  clear hr2 ht2 c0 c1 c2 f0 f1 f2
  go_wp2
  go_loopw [4] (fun n wr => ∃ (c : Nat) (sv : Value) (rs : List Bt.Rec) (l' : List UInt8), n = .int .i64 c ∧ c ≤ 1099511627776 ∧ BSt w wr rb B X n0 ((n0 : Int) + n1) sv rs l' ∧ Bt.recs1 n0 n2 r2 = rs ++ Bt.recs1 n0 c l' ∧ rs.length + l'.length ≤ l.length) (fun n _ => (intOf n).toNat)
  case atStart => exact ⟨n2, _, [], r2, rfl, g2.2, HB4.out, rfl, by simp; omega⟩
  case round =>
    obtain ⟨c, sv, rs, l', rfl, hc40, hbs, hrecs, hlen⟩ := hrel
    have HBS := hide hbs
    have HRC := hide hrecs
    obtain ⟨rv, hrh, hrby, -⟩ := hbs.rd
    obtain ⟨ra, rc, hrv, hlc, -, -⟩ := hrby.form
    subst hrv
    have cr : wr.cell? ⟨rb, 0, none⟩ = some (.slice ra l'.length rc) := by simpa using cell_of hrh 0
    obtain ⟨z1, z2⟩ := hbs.sz
    obtain ⟨⟨c0, c1, c2⟩, ⟨f0, f1, f2⟩, ⟨y0, y1, y2⟩, ⟨q0, q1, q2⟩⟩ := hbs.cells
    clear hbs hrecs hrh hrby
    by_cases hc0 : c = 0
    · subst hc0
      have HEND : Hid (Bt.recs1 n0 n2 r2 = rs) := by show _ = _; rw [HRC.out]; simp [Bt.recs1]
      obtain ⟨sa, sn, sc, hsv⟩ := HBS.out.row.some_slice
      subst hsv
      go_wp2
      have hfin := HBS.out.fin hrb
      have hld := hfin.1
      refine bodyPost_ret (v := .agg #[.int .i64 n0, .int .i64 ((n0 : Int) + n1), .slice sa sn sc]) (by simp [results, Tryz.results164, asAddr, hld, Result.andThen]) rfl ?_
      refine ⟨_, rfl, ?_, hfin.2.2⟩
      rw [HEND.out]
      exact hfin.2.1
    by_cases hl0 : l' = []
    · subst hl0
      have HEND : Hid (Bt.recs1 n0 n2 r2 = rs) := by
        show _ = _
        rw [HRC.out]
        cases c <;> simp [Bt.recs1]
      obtain ⟨sa, sn, sc, hsv⟩ := HBS.out.row.some_slice
      subst hsv
      go_wp2
      have hfin := HBS.out.fin hrb
      have hld := hfin.1
      refine bodyPost_ret (v := .agg #[.int .i64 n0, .int .i64 ((n0 : Int) + n1), .slice sa sn sc]) (by simp [results, Tryz.results164, asAddr, hld, Result.andThen]) rfl ?_
      refine ⟨_, rfl, ?_, hfin.2.2⟩
      rw [HEND.out]
      exact hfin.2.1
    · obtain ⟨c', rfl⟩ : ∃ c', c = c' + 1 := ⟨c - 1, by omega⟩
      have hlp : 0 < l'.length := List.length_pos_iff.2 hl0
      have hr1l := rec1_len n0 l'
      have HR1 : Hid (Bt.recs1 n0 n2 r2 = (rs ++ [(Bt.rec1 n0 l').1]) ++ Bt.recs1 n0 c' (Bt.rec1 n0 l').2) := by
        show _ = _
        rw [HRC.out, Bt.recs1, if_neg hl0]; simp
      have hr2l := hr1l.2 hl0
      clear hl0 hr1l
      obtain ⟨r, hr⟩ : ∃ r, r = (Bt.rec1 n0 l').1 := ⟨_, rfl⟩
      obtain ⟨l2, hl2⟩ : ∃ l2, l2 = (Bt.rec1 n0 l').2 := ⟨_, rfl⟩
      rw [← hr, ← hl2] at HR1
      rw [← hl2] at hr2l
      have HRL : Hid (Bt.rec1 n0 l' = (r, l2)) := by show _ = _; rw [hr, hl2]
      clear hr hl2
      go_wp2
      refine wp_region_loud 7 (Turn [rb]) (Turn []) (fun k w => match k with | 0 => (fun w => RdAt w rb B l') w | _ => (fun w => RdAt w rb B l2) w) [5] (by kernel_rfl) (by kernel_rfl) (by kernel_rfl) (by kernel_rfl) (by kernel_rfl) (by kernel_rfl) (Nat.le_of_ble_eq_true rfl) (by decide) rfl (Turn.refl _) (fun _ _ _ h k => h.same k) (fun _ _ h => h.mono (by simp)) ?_ ?_ ?_
      · intro k a b hk hR
        match k, hk with
        | 0, hk =>
          have hk := (show (fun w => RdAt w rb B l') a from hk)
          dsimp only at hk
          show (fun w => RdAt w rb B l') b
          dsimp only
          exact hk.still hR
        | _ + 1, hk =>
          have hk := (show (fun w => RdAt w rb B l2) a from hk)
          dsimp only at hk
          show (fun w => RdAt w rb B l2) b
          dsimp only
          exact hk.still hR
      · show (fun w => RdAt w rb B l') _
        dsimp only
        exact HBS.out.rd.still ((Turn.refl [] _).drew)
      apply Lo.runx 1 rfl rfl [] (by kernel_rfl) (Turn.refl _)
      apply Exists.intro; apply And.intro
      · intro u w1 hR hF
        clear hF
        refine ⟨rfl, fun a ha K hK => ?_⟩
        have e3 := ha 3
        conv at e3 => rhs; whnf
        clear ha
        go_simp
        refine hK _ ?_; rfl
      apply Lo.runx 2 rfl rfl [0] (by kernel_rfl) (Turn.refl _)
      apply Exists.intro; apply And.intro
      · intro u w1 hR hF
        obtain ⟨h0, -⟩ := hF
        refine ⟨rfl, fun a ha K hK => ?_⟩
        have e28 := (ha 28).trans h0
        clear ha h0
        have c2 := cell_of (hR.heap (HBS.out.still (Turn.refl [] _).drew).x (by simp; omega)) 2
        simp at c2
        go_simp
        refine hK _ ?_; rfl
      apply Lo.runx 3 rfl rfl [] (by kernel_rfl) (Turn.refl _)
      apply Exists.intro; apply And.intro
      · intro u w1 hR hF
        clear hF
        refine ⟨rfl, fun a ha K hK => ?_⟩
        have e0 := ha 0
        conv at e0 => rhs; whnf
        clear ha
        go_simp
        refine hK _ ?_; rfl
      apply Lo.runx 4 rfl rfl [] (by kernel_rfl) (Turn.refl _)
      apply Exists.intro; apply And.intro
      · intro u w1 hR hF
        clear hF
        refine ⟨rfl, fun a ha K hK => ?_⟩
        have e3 := ha 3
        conv at e3 => rhs; whnf
        clear ha
        go_simp
        refine hK _ ?_; rfl
      apply Lo.runx 5 rfl rfl [3] (by kernel_rfl) (Turn.refl _)
      apply Exists.intro; apply And.intro
      · intro u w1 hR hF
        obtain ⟨h3, -⟩ := hF
        refine ⟨rfl, fun a ha K hK => ?_⟩
        have e31 := (ha 31).trans h3
        clear ha h3
        have c0 := cell_of (hR.heap (HBS.out.still (Turn.refl [] _).drew).x (by simp; omega)) 0
        simp at c0
        go_simp
        refine hK _ ?_; rfl
      refine Lo.noisy 6 rfl 0 rfl [2, 4] (fun x w' => x = recV r) (by kernel_rfl) (fun x w w' h hR => ?_) (.inr (fun x w w' h hR => by exact h)) (fun u w1 hR hS hF => ?_) ?_
      · exact h
      · obtain ⟨h2, h4, -⟩ := hF
        have hS := (show (fun w => RdAt w rb B l') w1 from hS)
        dsimp only at hS
        refine ⟨rfl, fun a ha K hK => ?_⟩
        have e30 := (ha 30).trans h2
        have e32 := (ha 32).trans h4
        clear ha h2 h4
        go_simp
        refine (record_any _ rb B l' hS hB (by omega) n0 (by omega) (by omega)).mono ?_
        rintro e w2 ⟨rfl, hr2, ht2⟩
        rw [HRL.out] at hr2 ⊢
        exact hK _ _ rfl ht2 hr2
      refine Lo.run 7 rfl rfl [5] (fun x w' => ∃ k, x = .slice (some ⟨k, 0, none⟩) 1 1 ∧ w'.heap[k]? = some (.cells (recC r).toArray 42 (0, 0)) ∧ wr.heap.size ≤ k) (by kernel_rfl) (fun x w w' h hR => ?_) (fun _ _ h => h.mono (by simp)) (fun u w1 hR hF => ?_) ?_
      · obtain ⟨k, h1, h2, h3⟩ := h; exact ⟨k, h1, hR.heap h2 (by simp; omega), h3⟩
      · obtain ⟨h5, -⟩ := hF
        refine ⟨rfl, fun a ha K hK => ?_⟩
        have e33 : a.tmps.getD 33 undef = u 5 := ha 33
        have h5 := (show (fun x w' => x = recV r) (u 5) w1 from h5)
        dsimp only at h5
        clear ha
        have e33' : a.tmps[33]?.getD undef = .agg #[.int .i64 r.off, .int .i64 r.time, .bool r.keyed, strV r.key, .bool r.gone, strV r.value] := by rw [← Array.getD_eq_getD_getElem?, e33]; exact h5
        go_simp
        have hs6 := ((Turn.refl [] wr).drew.mono (T := [rb]) (by simp)).same hR |>.size
        exact hK _ _ ⟨w1.heap.size, rfl, heap_new w1 _, hs6⟩ ((Turn.refl [] _).alloc _)
      refine Lo.done [1, 6] (fun u w1 hRd hSd hF => ?_)
      have hSd := (show (fun w => RdAt w rb B l2) w1 from hSd)
      dsimp only at hSd
      obtain ⟨f1, f6, -⟩ := hF
      have d1 : u 1 = _ := f1
      have d6 := (show (fun x w' => ∃ k, x = .slice (some ⟨k, 0, none⟩) 1 1 ∧ w'.heap[k]? = some (.cells (recC r).toArray 42 (0, 0)) ∧ wr.heap.size ≤ k) (u 6) w1 from f6)
      dsimp only at d6
      clear f1 f6
      simp only [List.take_succ_cons, List.take_zero, List.drop_succ_cons, List.drop_zero, putFrom, Act.put, List.setIfInBounds_toArray, List.set_cons_succ, List.set_cons_zero, Nat.zero_add, Nat.reduceAdd, d1]
      have hb5 := (HBS.out.still (Turn.refl [] _).drew).num hRd hSd hrb
      have HB5 := hide hb5
      obtain ⟨k, hk1, hk2, hk3⟩ := d6
      rw [hk1]
      obtain ⟨v7, w7, hr7, hrow7, ht7, hown7⟩ := run_append_rec w1 (X + 1) sv rs r k hb5.row hk2 (by omega) (by have := hb5.sz; omega)
      obtain ⟨a7, n7, p7, hv7⟩ := hrow7.some_slice
      subst hv7
      have hx7 := ht7.heap hb5.x (fun hm => by have := (hb5.row.lt X (by simpa using hm)).1; omega)
      have c7 : w7.cell? ⟨X, 2, none⟩ = some sv := by simpa using cell_of hx7 2
      have f7 : w7.frozen? ⟨X, 2, none⟩ = false := frozen_of hx7 2
      have HROW7 := hide hrow7
      have HT7 := hide ht7
      have HR7 := hide hr7
      clear hb5 hk1 hk2 hk3 d1 hRd hSd hr7 hrow7 ht7 hown7 hx7 c0 c1 c2 f0 f1 f2 y0 y1 y2 q0 q1 q2 cr
      go_wp2_with (at_builtin; go_must (refine wpList_append_told rfl rfl rfl rfl HR7.out ?_))
      refine ⟨⟨c', _, rs ++ [r], l2, by go_num, by omega, HB5.out.setR hrb hB HROW7.out HT7.out, HR1.out, by simp; omega⟩, ?_⟩
      simp only [intOf]; omega
end Go.Proofs.YthbhfhagbaommaaGreatDoor

/- record.four: the number at the beginning of bytes. -/
namespace Go.Proofs.YthbhfhagbaommaaGreatDoor
open Go.RowKit Go.Maps
set_option maxRecDepth 100000
set_option linter.unusedSimpArgs false
set_option linter.unusedVariables false

theorem or_add (a b k : Nat) (hb : b < 2 ^ k) (ha : a % 2 ^ k = 0) (h : a + b < 9223372036854775808) : bits .or .i64 (a : Int) (b : Int) = ((a + b : Nat) : Int) := by
  have hj : a ||| b = a + b := nat_join k a b ha hb
  rw [i64_or_nat _ _ (by omega) (by omega) (by rw [hj]; exact h), hj]
/-- The first four bytes. -/
theorem BytesAt.four {w : World} {v : Value} {bs : List UInt8} (h : BytesAt w v bs) (h4 : 4 ≤ bs.length) : ∃ p c, v = .slice (some p) bs.length c ∧ bs.length ≤ c ∧ c ≤ maxLen ∧
    w.cell? p = some (.int .u8 (bs.getD 0 0).toNat) ∧ w.cell? ⟨p.block, p.off + 1, none⟩ = some (.int .u8 (bs.getD 1 0).toNat) ∧ w.cell? ⟨p.block, p.off + 2, none⟩ = some (.int .u8 (bs.getD 2 0).toNat) ∧ w.cell? ⟨p.block, p.off + 3, none⟩ = some (.int .u8 (bs.getD 3 0).toNat) := by
  obtain ⟨a, c, rfl, h1, h2, -, hc⟩ := h
  obtain ⟨p, rfl, g0⟩ := hc 0 (by omega)
  refine ⟨p, c, rfl, h1, h2, ?_, ?_, ?_, ?_⟩
  · rw [add_zero] at g0; simpa [encB, List.getD, show 0 < bs.length by omega] using g0
  · obtain ⟨q, hq, g⟩ := hc 1 (by omega); cases hq
    rw [show (⟨p.block, p.off + 1, none⟩ : Addr) = p.add 1 from rfl, g]; simp [encB, List.getD, show 1 < bs.length by omega]
  · obtain ⟨q, hq, g⟩ := hc 2 (by omega); cases hq
    rw [show (⟨p.block, p.off + 2, none⟩ : Addr) = p.add 2 from rfl, g]; simp [encB, List.getD, show 2 < bs.length by omega]
  · obtain ⟨q, hq, g⟩ := hc 3 (by omega); cases hq
    rw [show (⟨p.block, p.off + 3, none⟩ : Addr) = p.add 3 from rfl, g]; simp [encB, List.getD, show 3 < bs.length by omega]

set_option maxHeartbeats 2000000 in
theorem four_any (w : World) (v : Value) (bs : List UInt8) (hx : BytesAt w v bs) (h4 : 4 ≤ bs.length) :
    Calls Tryz.prog 163 #[v] w fun e w' => e = .returned (.int .i64 (Bt.fourV bs : Nat)) ∧ w' = w.drew := by
  obtain ⟨p, c, rfl, hlc, hcm, c0, c1, c2, c3⟩ := hx.four h4
  obtain ⟨b0, e0⟩ : ∃ b : Nat, (bs.getD 0 0).toNat = b := ⟨_, rfl⟩
  obtain ⟨b1, e1⟩ : ∃ b : Nat, (bs.getD 1 0).toNat = b := ⟨_, rfl⟩
  obtain ⟨b2, e2⟩ : ∃ b : Nat, (bs.getD 2 0).toNat = b := ⟨_, rfl⟩
  obtain ⟨b3, e3⟩ : ∃ b : Nat, (bs.getD 3 0).toNat = b := ⟨_, rfl⟩
  have l0 : b0 < 256 := by rw [← e0]; exact UInt8.toNat_lt _
  have l1 : b1 < 256 := by rw [← e1]; exact UInt8.toNat_lt _
  have l2 : b2 < 256 := by rw [← e2]; exact UInt8.toNat_lt _
  have l3 : b3 < 256 := by rw [← e3]; exact UInt8.toNat_lt _
  have hv : Bt.fourV bs = b0 * 16777216 + b1 * 65536 + b2 * 256 + b3 := by unfold Bt.fourV; rw [e0, e1, e2, e3]
  rw [e0] at c0
  rw [e1] at c1
  rw [e2] at c2
  rw [e3] at c3
  rw [hv]
  have i0 : 0 < bs.length := by omega
  have i1 : (1 : Int) < (bs.length : Int) := by omega
  have i2 : (2 : Int) < (bs.length : Int) := by omega
  have i3 : (3 : Int) < (bs.length : Int) := by omega
  clear hx hv e0 e1 e2 e3
  go_enter Tryz.func163, Tryz.ntmps163
  go_wp2
  refine wp_region_loose (fun a b => a = b) (by kernel_rfl) (by kernel_rfl) (by kernel_rfl) (by kernel_rfl) rfl (fun _ => rfl) (fun _ _ _ h k => h.trans k) ?_
  apply Lo.runx 1 rfl rfl [] (by kernel_rfl) (fun _ => rfl)
  apply Exists.intro; apply And.intro
  · intro u w1 hR hF
    clear hF
    subst hR
    refine ⟨rfl, fun a ha K hK => ?_⟩
    have e0 := ha 0
    conv at e0 => rhs; whnf
    clear ha
    go_simp
    refine hK _ ?_; rfl
  apply Lo.runx 2 rfl rfl [0] (by kernel_rfl) (fun _ => rfl)
  apply Exists.intro; apply And.intro
  · intro u w1 hR hF
    obtain ⟨h0, -⟩ := hF
    subst hR
    refine ⟨rfl, fun a ha K hK => ?_⟩
    have e3 := (ha 3).trans h0
    clear ha h0
    go_simp
    refine hK _ ?_; rfl
  apply Lo.runx 3 rfl rfl [1] (by kernel_rfl) (fun _ => rfl)
  apply Exists.intro; apply And.intro
  · intro u w1 hR hF
    obtain ⟨h1, -⟩ := hF
    subst hR
    refine ⟨rfl, fun a ha K hK => ?_⟩
    have e4 := (ha 4).trans h1
    clear ha h1
    go_simp
    refine hK _ ?_; rfl
  apply Lo.runx 4 rfl rfl [2] (by kernel_rfl) (fun _ => rfl)
  apply Exists.intro; apply And.intro
  · intro u w1 hR hF
    obtain ⟨h2, -⟩ := hF
    subst hR
    refine ⟨rfl, fun a ha K hK => ?_⟩
    have e5 := (ha 5).trans h2
    clear ha h2
    go_simp
    refine hK _ ?_; rfl
  refine Lo.runv 5 rfl rfl [3] (.int .i64 ((b0 * 16777216 : Nat) : Int)) (by kernel_rfl) (fun u w1 hR hF => ?_) (fun _ => rfl) ?_
  · obtain ⟨h3, -⟩ := hF
    subst hR
    refine ⟨rfl, fun a ha K hK => ?_⟩
    have e6 := (ha 6).trans h3
    clear ha h3
    go_simp
    refine hK _ ?_
    rw [IntWalk.i64_left, IntWalk.i64_left, IntWalk.wrap64_in (b0 : Int) (by omega), IntWalk.wrap64_in _ (by omega)]; simp
  apply Lo.runx 6 rfl rfl [] (by kernel_rfl) (fun _ => rfl)
  apply Exists.intro; apply And.intro
  · intro u w1 hR hF
    clear hF
    subst hR
    refine ⟨rfl, fun a ha K hK => ?_⟩
    have e0 := ha 0
    conv at e0 => rhs; whnf
    clear ha
    go_simp
    refine hK _ ?_; rfl
  apply Lo.runx 7 rfl rfl [5] (by kernel_rfl) (fun _ => rfl)
  apply Exists.intro; apply And.intro
  · intro u w1 hR hF
    obtain ⟨h5, -⟩ := hF
    subst hR
    refine ⟨rfl, fun a ha K hK => ?_⟩
    have e8 := (ha 8).trans h5
    clear ha h5
    go_simp
    refine hK _ ?_; rfl
  apply Lo.runx 8 rfl rfl [6] (by kernel_rfl) (fun _ => rfl)
  apply Exists.intro; apply And.intro
  · intro u w1 hR hF
    obtain ⟨h6, -⟩ := hF
    subst hR
    refine ⟨rfl, fun a ha K hK => ?_⟩
    have e9 := (ha 9).trans h6
    clear ha h6
    go_simp
    refine hK _ ?_; rfl
  apply Lo.runx 9 rfl rfl [7] (by kernel_rfl) (fun _ => rfl)
  apply Exists.intro; apply And.intro
  · intro u w1 hR hF
    obtain ⟨h7, -⟩ := hF
    subst hR
    refine ⟨rfl, fun a ha K hK => ?_⟩
    have e10 := (ha 10).trans h7
    clear ha h7
    go_simp
    refine hK _ ?_; rfl
  refine Lo.runv 10 rfl rfl [8] (.int .i64 ((b1 * 65536 : Nat) : Int)) (by kernel_rfl) (fun u w1 hR hF => ?_) (fun _ => rfl) ?_
  · obtain ⟨h8, -⟩ := hF
    subst hR
    refine ⟨rfl, fun a ha K hK => ?_⟩
    have e11 := (ha 11).trans h8
    clear ha h8
    go_simp
    refine hK _ ?_
    rw [IntWalk.i64_left, IntWalk.i64_left, IntWalk.wrap64_in (b1 : Int) (by omega), IntWalk.wrap64_in _ (by omega)]; simp
  refine Lo.runv 11 rfl rfl [4, 9] (.int .i64 ((b0 * 16777216 + b1 * 65536 : Nat) : Int)) (by kernel_rfl) (fun u w1 hR hF => ?_) (fun _ => rfl) ?_
  · obtain ⟨h4, h9, -⟩ := hF
    subst hR
    refine ⟨rfl, fun a ha K hK => ?_⟩
    have e7 := (ha 7).trans h4
    have e12 := (ha 12).trans h9
    clear ha h4 h9
    go_simp
    refine hK _ ?_
    have hor := or_add (b0 * 16777216) (b1 * 65536) 24 (by omega) (by omega) (by omega)
    try rw [IntWalk.i64_left (n := (b3 : Int)), IntWalk.wrap64_in (b3 : Int) (by omega)]
    simpa using hor
  apply Lo.runx 12 rfl rfl [] (by kernel_rfl) (fun _ => rfl)
  apply Exists.intro; apply And.intro
  · intro u w1 hR hF
    clear hF
    subst hR
    refine ⟨rfl, fun a ha K hK => ?_⟩
    have e0 := ha 0
    conv at e0 => rhs; whnf
    clear ha
    go_simp
    refine hK _ ?_; rfl
  apply Lo.runx 13 rfl rfl [11] (by kernel_rfl) (fun _ => rfl)
  apply Exists.intro; apply And.intro
  · intro u w1 hR hF
    obtain ⟨h11, -⟩ := hF
    subst hR
    refine ⟨rfl, fun a ha K hK => ?_⟩
    have e14 := (ha 14).trans h11
    clear ha h11
    go_simp
    refine hK _ ?_; rfl
  apply Lo.runx 14 rfl rfl [12] (by kernel_rfl) (fun _ => rfl)
  apply Exists.intro; apply And.intro
  · intro u w1 hR hF
    obtain ⟨h12, -⟩ := hF
    subst hR
    refine ⟨rfl, fun a ha K hK => ?_⟩
    have e15 := (ha 15).trans h12
    clear ha h12
    go_simp
    refine hK _ ?_; rfl
  apply Lo.runx 15 rfl rfl [13] (by kernel_rfl) (fun _ => rfl)
  apply Exists.intro; apply And.intro
  · intro u w1 hR hF
    obtain ⟨h13, -⟩ := hF
    subst hR
    refine ⟨rfl, fun a ha K hK => ?_⟩
    have e16 := (ha 16).trans h13
    clear ha h13
    go_simp
    refine hK _ ?_; rfl
  refine Lo.runv 16 rfl rfl [14] (.int .i64 ((b2 * 256 : Nat) : Int)) (by kernel_rfl) (fun u w1 hR hF => ?_) (fun _ => rfl) ?_
  · obtain ⟨h14, -⟩ := hF
    subst hR
    refine ⟨rfl, fun a ha K hK => ?_⟩
    have e17 := (ha 17).trans h14
    clear ha h14
    go_simp
    refine hK _ ?_
    rw [IntWalk.i64_left, IntWalk.i64_left, IntWalk.wrap64_in (b2 : Int) (by omega), IntWalk.wrap64_in _ (by omega)]; simp
  refine Lo.runv 17 rfl rfl [10, 15] (.int .i64 ((b0 * 16777216 + b1 * 65536 + b2 * 256 : Nat) : Int)) (by kernel_rfl) (fun u w1 hR hF => ?_) (fun _ => rfl) ?_
  · obtain ⟨h10, h15, -⟩ := hF
    subst hR
    refine ⟨rfl, fun a ha K hK => ?_⟩
    have e13 := (ha 13).trans h10
    have e18 := (ha 18).trans h15
    clear ha h10 h15
    go_simp
    refine hK _ ?_
    have hor := or_add (b0 * 16777216 + b1 * 65536) (b2 * 256) 16 (by omega) (by omega) (by omega)
    try rw [IntWalk.i64_left (n := (b3 : Int)), IntWalk.wrap64_in (b3 : Int) (by omega)]
    simpa using hor
  apply Lo.runx 18 rfl rfl [] (by kernel_rfl) (fun _ => rfl)
  apply Exists.intro; apply And.intro
  · intro u w1 hR hF
    clear hF
    subst hR
    refine ⟨rfl, fun a ha K hK => ?_⟩
    have e0 := ha 0
    conv at e0 => rhs; whnf
    clear ha
    go_simp
    refine hK _ ?_; rfl
  apply Lo.runx 19 rfl rfl [17] (by kernel_rfl) (fun _ => rfl)
  apply Exists.intro; apply And.intro
  · intro u w1 hR hF
    obtain ⟨h17, -⟩ := hF
    subst hR
    refine ⟨rfl, fun a ha K hK => ?_⟩
    have e20 := (ha 20).trans h17
    clear ha h17
    go_simp
    refine hK _ ?_; rfl
  apply Lo.runx 20 rfl rfl [18] (by kernel_rfl) (fun _ => rfl)
  apply Exists.intro; apply And.intro
  · intro u w1 hR hF
    obtain ⟨h18, -⟩ := hF
    subst hR
    refine ⟨rfl, fun a ha K hK => ?_⟩
    have e21 := (ha 21).trans h18
    clear ha h18
    go_simp
    refine hK _ ?_; rfl
  apply Lo.runx 21 rfl rfl [19] (by kernel_rfl) (fun _ => rfl)
  apply Exists.intro; apply And.intro
  · intro u w1 hR hF
    obtain ⟨h19, -⟩ := hF
    subst hR
    refine ⟨rfl, fun a ha K hK => ?_⟩
    have e22 := (ha 22).trans h19
    clear ha h19
    go_simp
    refine hK _ ?_; rfl
  refine Lo.runv 22 rfl rfl [16, 20] (.int .i64 ((b0 * 16777216 + b1 * 65536 + b2 * 256 + b3 : Nat) : Int)) (by kernel_rfl) (fun u w1 hR hF => ?_) (fun _ => rfl) ?_
  · obtain ⟨h16, h20, -⟩ := hF
    subst hR
    refine ⟨rfl, fun a ha K hK => ?_⟩
    have e19 := (ha 19).trans h16
    have e23 := (ha 23).trans h20
    clear ha h16 h20
    go_simp
    refine hK _ ?_
    have hor := or_add (b0 * 16777216 + b1 * 65536 + b2 * 256) b3 8 (by omega) (by omega) (by omega)
    try rw [IntWalk.i64_left (n := (b3 : Int)), IntWalk.wrap64_in (b3 : Int) (by omega)]
    simpa using hor
  apply Lo.runx 23 rfl rfl [21] (by kernel_rfl) (fun _ => rfl)
  apply Exists.intro; apply And.intro
  · intro u w1 hR hF
    obtain ⟨h21, -⟩ := hF
    subst hR
    refine ⟨rfl, fun a ha K hK => ?_⟩
    have e24 := (ha 24).trans h21
    clear ha h21
    go_simp
    refine hK _ ?_; rfl
  refine Lo.done [22] (fun u w1 hRd hSd hF => ?_)
  clear hSd
  obtain ⟨f22, -⟩ := hF
  subst hRd
  have d22 : u 22 = _ := f22
  clear f22
  simp only [putFrom, Act.put, List.setIfInBounds_toArray, List.set_cons_succ, List.set_cons_zero, Nat.zero_add, Nat.reduceAdd, d22]
  clear d22
  go_wp2
  go_ret
  exact ⟨rfl, rfl⟩
end Go.Proofs.YthbhfhagbaommaaGreatDoor

/- A text's bytes appended onto a row; record.putText, marks, putRecord. -/
namespace Go.Proofs.YthbhfhagbaommaaGreatDoor
open Go.RowKit Go.Maps
set_option maxRecDepth 100000
set_option linter.unusedSimpArgs false
set_option linter.unusedVariables false

section
variable {P : Program} (w : World)
theorem cells_str (s : List UInt8) : byteCells ⟨s.toArray⟩ = s.map encB := rfl
theorem run_append_room_str (t tx ty e : TypeId) (i : TypeInfo) (ht : P.underlying t = some (.slice e)) (hx : P.underlying tx = some .string) (hi : P.info? e = some i) (hz1 : i.size = 1)
    (g sLen sCap : Nat) (cur : Array Value) (hg : w.heap[g]? = some (.cells cur e (0, 0))) (s : ByteArray) (hroom : sLen + s.size ≤ sCap) (hfit : sLen + s.size ≤ cur.size) :
    (Builtin.append_ #[t, tx] ty #[.slice (some ⟨g, 0, none⟩) sLen sCap, .string s]).run P w =
      .ok (.slice (some ⟨g, 0, none⟩) (sLen + s.size) sCap) (w.setRow g (cur.toList.take sLen ++ byteCells s ++ cur.toList.drop (sLen + s.size)).toArray) := by
  have hf := firstCells_string (P := P) s w
  have hst := run_storeCells_at P g sLen e (byteCells s) 0 cur w hg (by rw [byteCells_length]; exact hfit) (fun u hu => by
    obtain ⟨_, _, rfl⟩ := List.mem_map.1 hu
    rfl)
  simp only [Nat.add_zero, byteCells_length] at hst
  simp [Builtin.append_, run_underlying ht, run_underlying hx, sizeOf, typeInfo, hi, hz1, Builtin.lenOf, hroom, hf, Addr.add_lit, hst]

/-- APPEND of a text's bytes onto a row. -/
theorem run_append_row_str (t tx ty e base : Nat) (i : TypeInfo) (ht : P.underlying t = some (.slice e)) (hx : P.underlying tx = some .string) (hi : P.info? e = some i) (hz : i.zero = some (.int .u8 0)) (hsize : i.size = 1) (hby : i.bytes = 1)
    (v : Value) (bs cs : List UInt8) (hrow : RowAt w e base v bs) (hlen : bs.length + cs.length ≤ 1099511627776) (hbase : base ≤ w.heap.size) :
    ∃ v' w', (Builtin.append_ #[t, tx] ty #[v, .string ⟨cs.toArray⟩]).run P w = .ok v' w' ∧ RowAt w' e base v' (bs ++ cs) ∧ Turn v.ownBlock.toList w w' ∧ (∀ k ∈ v'.ownBlock, k ∈ v.ownBlock ∨ w.heap.size ≤ k) := by
  have hmax : maxLen = 9223372036854775807 := by simp [maxLen]
  have hsz : (ByteArray.mk cs.toArray).size = cs.length := by simp [ByteArray.size]
  have hsrc : Src P i.size tx (.string ⟨cs.toArray⟩) cs.length (cs.map encB) w := by
    have := Src.ofString (P := P) w hx ⟨cs.toArray⟩
    rw [hsz, cells_str] at this
    rw [hsize]; exact this
  have new : ∀ old : Nat, old < bs.length + cs.length → RowAt (w.drew.alloc (.cells ((bs.map encB ++ cs.map encB).toArray ++ Builtin.zeroCells (Value.cells (.int .u8 0)) (grownCap w (bs.length + cs.length) old e - (bs.length + cs.length))) e)) e base
      (.slice (some ⟨w.heap.size, 0, none⟩) (bs.length + cs.length) (grownCap w (bs.length + cs.length) old e)) (bs ++ cs) ∧
      Turn v.ownBlock.toList w (w.drew.alloc (.cells ((bs.map encB ++ cs.map encB).toArray ++ Builtin.zeroCells (Value.cells (.int .u8 0)) (grownCap w (bs.length + cs.length) old e - (bs.length + cs.length))) e)) := by
    intro old ho
    have hge := grownCap_ge w (bs.length + cs.length) old e
    have hcm := grownCap_le_maxLen w (bs.length + cs.length) old e (by rw [hmax]; omega)
    refine ⟨.inr ⟨w.heap.size, _, _, by simp, hbase, heap_new w.drew _, by simpa using hge, ?_, hcm, ?_⟩, ((Turn.refl _ _).drew).alloc _⟩
    · simp only [Array.size_append, List.size_toArray, List.length_map, List.length_append, size_zeroCells, Value.cells]
      simp; omega
    · simp only [Array.toList_append]
      rw [List.take_append_of_le_length (by simp)]
      rw [List.take_of_length_le (by simp)]
      simp
  rcases hrow with ⟨rfl, rfl⟩ | ⟨g, cap, cur, rfl, hb, hg, h1, h2, h3, h4⟩
  · by_cases h0 : cs.length = 0
    · have : cs = [] := List.eq_nil_of_length_eq_zero h0
      subst this
      have e0 : (ByteArray.mk #[]) = ByteArray.empty := rfl
      exact ⟨.slice none 0 0, w, by simp [Builtin.append_, run_underlying ht, run_underlying hx, sizeOf, typeInfo, hi, Builtin.lenOf, Builtin.firstCells, storeCells, e0], .inl ⟨rfl, rfl⟩, Turn.refl _ _, by simp [Value.ownBlock]⟩
    · have hr := run_append_grow_src (P := P) w t tx ty e i _ ht hi hz none 0 0 [] (run_firstCells_none w.drew i.size 0 0 0) _ cs.length (cs.map encB) hsrc (by omega) (by simp at hlen; omega) (growslice_fits (by omega) (by rw [hby]; simp at hlen; omega))
      have hn := new 0 (by simp; omega)
      simp only [List.length_nil, Nat.zero_add, List.map_nil, List.nil_append] at hn hr
      exact ⟨_, _, hr, by simpa using hn.1, by simpa using hn.2, by simp [Value.ownBlock]⟩
  · by_cases hroom : bs.length + cs.length ≤ cap
    · have hr := run_append_room_str (P := P) w t tx ty e i ht hx hi hsize g bs.length cap cur hg ⟨cs.toArray⟩ (by rw [hsz]; exact hroom) (by rw [hsz]; omega)
      rw [hsz, cells_str] at hr
      refine ⟨_, _, hr, .inr ⟨g, cap, _, by simp, hb, setRow_heap w g cur _ e _ hg, by simpa using hroom, ?_, h3, ?_⟩, ⟨rfl, rfl, rfl, by simp, fun k _ hk => setRow_other w g k _ (fun e => hk (by simp [Value.ownBlock, e]))⟩, by simp [Value.ownBlock]⟩
      · simp; omega
      · simp only [h4, List.append_assoc]
        rw [← List.append_assoc, List.take_append_of_le_length (by simp), List.take_of_length_le (by simp)]
        simp
    · have holds : ∀ j u, (bs.map encB)[j]? = some u → w.drew.cell? ((⟨g, 0, none⟩ : Addr).add j) = some u := by
        intro j u hu
        rw [addr_add]
        show w.cell? ⟨g, j, none⟩ = some u
        rw [cell_of hg]
        rw [← h4, List.getElem?_take] at hu
        split at hu
        · simpa using hu
        · cases hu
      have hr := run_append_grow_src (P := P) w t tx ty e i _ ht hi hz (some ⟨g, 0, none⟩) bs.length cap (bs.map encB) (run_firstCells_some w.drew i.size bs.length ⟨g, 0, none⟩ bs.length cap (bs.map encB) (by simp [hsize]) holds) _ cs.length (cs.map encB) hsrc (by omega) (by omega) (growslice_fits (by omega) (by rw [hby]; omega))
      have hn := new cap (by omega)
      exact ⟨_, _, hr, hn.1, hn.2, by simp [Value.ownBlock]⟩
end
theorem wpList_append_str {P : Program} {ops : Array Oper} {rest : List Oper} {o : Oper} {a : Act} {Q : Exit → Act → World → Prop} {w : World} (hgd : o.guard = none) (s x : Operand) (t tx : TypeId)
    (ho : o.op = .call { callee := .builtin .append, args := #[s, x], argTypes := #[t, tx] })
    (e base : Nat) (i : TypeInfo) (ht : P.underlying t = some (.slice e)) (hx : P.underlying tx = some .string) (hi : P.info? e = some i) (hz : i.zero = some (.int .u8 0)) (hsize : i.size = 1) (hby : i.bytes = 1)
    (v : Value) (bs cs : List UInt8) (hs : a.eval s = v) (hxe : a.eval x = .string ⟨cs.toArray⟩) (hrow : RowAt w e base v bs) (hlen : bs.length + cs.length ≤ 1099511627776) (hbase : base ≤ w.heap.size)
    (h : ∀ v' w', RowAt w' e base v' (bs ++ cs) → Turn v.ownBlock.toList w w' → (∀ k ∈ v'.ownBlock, k ∈ v.ownBlock ∨ w.heap.size ≤ k) → wpList P ops Q rest (a.put o.dst v') w') : wpList P ops Q (o :: rest) a w := by
  refine wpList_plain hgd fun _ hK => ?_
  obtain ⟨v', w', hr, h2, h3, h4⟩ := run_append_row_str (P := P) w t tx o.type e base i ht hx hi hz hsize hby v bs cs hrow hlen hbase
  unfold Oper.wp execOp
  simp only [ho, resolve, invoke, builtin, Sem.run_bind, Sem.run_pure, Result.andThen_ok, List.map_toArray, List.map_cons, List.map_nil, hs, hxe, hr]
  exact hK _ _ (h v' w' h2 h3 h4)

/-- What a call that grows a row leaves. -/
def Grew (w w' : World) (base : Nat) (v v' : Value) (bs : List UInt8) : Prop :=
  RowAt w' 5 base v' bs ∧ Turn v.ownBlock.toList w w' ∧ (∀ k ∈ v'.ownBlock, k ∈ v.ownBlock ∨ w.heap.size ≤ k)
theorem Grew.trans {w w1 w2 : World} {base : Nat} {v v1 v2 : Value} {b1 b2 : List UInt8} (h : Grew w w1 base v v1 b1) (k : Grew w1 w2 base v1 v2 b2) : Grew w w2 base v v2 b2 := by
  obtain ⟨h1, h2, h3⟩ := h
  obtain ⟨k1, k2, k3⟩ := k
  refine ⟨k1, h2.trans k2 (fun x hx => ?_), fun x hx => ?_⟩
  · rcases h3 x (by simpa using hx) with h | h
    · exact .inl (by simpa using h)
    · exact .inr h
  · rcases k3 x hx with h | h
    · exact h3 x h
    · have := h2.size; exact .inr (by omega)
theorem Grew.pre {w w1 w2 : World} {base : Nat} {v v2 : Value} {b : List UInt8} (h : Turn [] w w1) (k : Grew w1 w2 base v v2 b) : Grew w w2 base v v2 b := by
  obtain ⟨k1, k2, k3⟩ := k
  refine ⟨k1, h.mono (by simp) |>.trans k2 (fun x hx => .inl hx), fun x hx => ?_⟩
  rcases k3 x hx with h' | h'
  · exact .inl h'
  · have := h.size; exact .inr (by omega)

theorem putText_any (w : World) (base : Nat) (v : Value) (bs : List UInt8) (hrow : RowAt w 5 base v bs) (hbase : base ≤ w.heap.size) (s : List UInt8) (hs : s.length ≤ 600) (hl : bs.length ≤ 1000000) :
    Calls Tryz.prog 161 #[v, .string ⟨s.toArray⟩] w fun e w' => ∃ v', e = .returned v' ∧ Grew w w' base v v' (bs ++ Bt.textB s) := by
  obtain ⟨i0, hi, hz, hz1, hz2⟩ := infoB_parts
  have HR : Hid (RowAt w 5 base v bs) := hrow
  clear hrow
  have hp := Nu.put_len6 (show s.length ≤ 1099511627776 by omega)
  go_enter Tryz.func161, Tryz.ntmps161
  go_wp2_with fail
  refine (put_any _ base v bs HR.out hbase s.length (by omega) (by omega)).mono ?_
  rintro e w1 ⟨v1, rfl, hr1, ht1, ho1⟩
  have hs1 := ht1.size
  have HR1 := hide hr1
  have HT1 := hide ht1
  have HO1 := hide ho1
  clear hr1 ht1 ho1
  go_wp2_with (at_builtin; go_must (refine wpList_append_str rfl _ _ 50 9 rfl 5 base i0 Tryz.underlying50 Tryz.underlying9 hi hz hz1 hz2 v1 (bs ++ Nu.put s.length) s rfl rfl HR1.out (by simp; omega) (by omega) ?_; intro v2 w2 hr2 ht2 ho2; have HG : Hid (Grew w w2 base v v2 (bs ++ Nu.put s.length ++ s)) := Grew.trans ⟨HR1.out, HT1.out, HO1.out⟩ ⟨hr2, ht2, ho2⟩; clear hr2 ht2 ho2))
  go_ret
  refine ⟨v2, rfl, ?_⟩
  have := HG.out
  rwa [List.append_assoc] at this

theorem marks_any (w : World) (r : Bt.Rec) :
    Calls Tryz.prog 160 #[recV r] w fun e w' => e = .returned (.int .i64 (Bt.mark r : Nat)) ∧ Turn [] w w' := by
  obtain ⟨off, time, keyed, key, gone, value⟩ := r
  simp only [recV, strV]
  have b1 : bits .or .i64 1 2 = 3 := by kernel_rfl
  have b2 : bits .or .i64 0 2 = 2 := by kernel_rfl
  have b3 : bits .or .i64 0 1 = 1 := by kernel_rfl
  cases keyed <;> cases gone
  all_goals
    go_enter Tryz.func160, Tryz.ntmps160
    go_wp2
    go_ret
    exact ⟨rfl, (Turn.refl _ _).alloc _⟩
end Go.Proofs.YthbhfhagbaommaaGreatDoor

/- record.putRecord, putBody. -/
namespace Go.Proofs.YthbhfhagbaommaaGreatDoor
open Go.RowKit Go.Maps
set_option maxRecDepth 100000
set_option linter.unusedSimpArgs false
set_option linter.unusedVariables false

theorem Grew.box {W w : World} {base : Nat} {v v' : Value} {b : List UInt8} (h : Grew W w base v v' b) {k : Nat} {cs : Array Value} {t : TypeId} (hk : W.heap[k]? = some (.cells cs t (0, 0))) (hn : ∀ x ∈ v.ownBlock, x ≠ k) : w.heap[k]? = some (.cells cs t (0, 0)) :=
  h.2.1.heap hk (fun hm => hn k (by simpa using hm) rfl)
theorem Grew.still {W w w2 : World} {base : Nat} {v v' : Value} {b : List UInt8} (h : Grew W w base v v' b) (k : Turn [] w w2) : Grew W w2 base v v' b :=
  ⟨h.1.kept k (by simp), h.2.1.trans k (by simp), h.2.2⟩
theorem Grew.refl {W : World} {base : Nat} {v : Value} {b : List UInt8} (h : RowAt W 5 base v b) : Grew W W base v v b := ⟨h, Turn.refl _ _, fun k hk => .inl hk⟩
/-- A record's cells in a box of the call's own. -/
theorem box_cells {w : World} {k : Nat} {r : Bt.Rec} (h : w.heap[k]? = some (.cells #[.int .i64 r.off, .int .i64 r.time, .bool r.keyed, .string ⟨r.key.toArray⟩, .bool r.gone, .string ⟨r.value.toArray⟩] 42 (0, 0))) :
    w.cell? ⟨k, 0, none⟩ = some (.int .i64 r.off) ∧ w.cell? ⟨k, 1, none⟩ = some (.int .i64 r.time) ∧ w.cell? ⟨k, 2, none⟩ = some (.bool r.keyed) ∧ w.cell? ⟨k, 3, none⟩ = some (.string ⟨r.key.toArray⟩) ∧ w.cell? ⟨k, 4, none⟩ = some (.bool r.gone) ∧ w.cell? ⟨k, 5, none⟩ = some (.string ⟨r.value.toArray⟩) :=
  ⟨by simpa using cell_of h 0, by simpa using cell_of h 1, by simpa using cell_of h 2, by simpa using cell_of h 3, by simpa using cell_of h 4, by simpa using cell_of h 5⟩
theorem put_len_le {n : Nat} (h : n ≤ 1099511627776) : (Nu.put n).length ≤ 6 := Nu.put_len6 h
theorem textB_len {s : List UInt8} (h : s.length ≤ 600) : (Bt.textB s).length ≤ s.length + 6 := by
  unfold Bt.textB
  have := Nu.put_len6 (show s.length ≤ 1099511627776 by omega)
  simp; omega
theorem mark_le (r : Bt.Rec) : Bt.mark r ≤ 3 := by unfold Bt.mark; split <;> split <;> omega
/-- What a record asks that is written. -/
structure RecFit (r : Bt.Rec) (b : Int) : Prop where
  lo : b ≤ r.off
  hi : r.off - b ≤ 1099511627776
  b0 : 0 ≤ b
  bT : b ≤ 1099511627776
  t0 : 0 ≤ r.time
  tT : r.time ≤ 1099511627776
  key : r.key.length ≤ 60
  value : r.value.length ≤ 500
theorem recB_len {r : Bt.Rec} {b : Int} (h : RecFit r b) : (Bt.recB b r).length ≤ 600 := by
  obtain ⟨h1, h2, h3, h4, h5, h6, h7, h8⟩ := h
  have a1 := Nu.put_len6 (show (r.off - b).toNat ≤ 1099511627776 by omega)
  have a2 := Nu.put_len6 (show r.time.toNat ≤ 1099511627776 by omega)
  have a3 := Nu.put_len6 (show Bt.mark r ≤ 1099511627776 by have := mark_le r; omega)
  have a4 := textB_len (show r.key.length ≤ 600 by omega)
  have a5 := textB_len (show r.value.length ≤ 600 by omega)
  unfold Bt.recB
  simp only [List.length_append]
  split <;> split <;> simp <;> omega

set_option maxHeartbeats 2000000 in
theorem putRecord_any (w : World) (base : Nat) (v : Value) (bs : List UInt8) (hrow : RowAt w 5 base v bs) (hbase : base ≤ w.heap.size) (r : Bt.Rec) (b : Int) (hfit : RecFit r b) (hl : bs.length ≤ 900000) :
    Calls Tryz.prog 122 #[v, recV r, .int .i64 b] w fun e w' => ∃ v', e = .returned v' ∧ Grew w w' base v v' (bs ++ Bt.recB b r) := by
  have HF := hide hfit
  obtain ⟨h1, h2, h3, h4, h5, h6, h7, h8⟩ := hfit
  have hlt : ∀ x ∈ v.ownBlock, x ≠ w.heap.size := fun x hx => by have := (hrow.lt x hx).2; omega
  have HLT := hide hlt
  clear hlt
  obtain ⟨n0, hsub⟩ : ∃ n0 : Nat, r.off - b = n0 := ⟨(r.off - b).toNat, by omega⟩
  obtain ⟨n1, htime⟩ : ∃ n1 : Nat, r.time = n1 := ⟨r.time.toNat, by omega⟩
  have HB : Hid (Bt.recB b r = Nu.put n0 ++ Nu.put n1 ++ Nu.put (Bt.mark r) ++ (if r.keyed then Bt.textB r.key else []) ++ (if r.gone then [] else Bt.textB r.value)) := by
    show _ = _
    unfold Bt.recB
    rw [hsub, htime]; simp
  have HG0 : Hid (Grew (w.alloc (.cells #[.int .i64 r.off, .int .i64 r.time, .bool r.keyed, .string ⟨r.key.toArray⟩, .bool r.gone, .string ⟨r.value.toArray⟩] 42)) (w.alloc (.cells #[.int .i64 r.off, .int .i64 r.time, .bool r.keyed, .string ⟨r.key.toArray⟩, .bool r.gone, .string ⟨r.value.toArray⟩] 42)) base v v bs) :=
    Grew.refl (hrow.kept ((Turn.refl [] w).alloc _) (by simp))
  have box : ∀ wi vi bi, Grew (w.alloc (.cells #[.int .i64 r.off, .int .i64 r.time, .bool r.keyed, .string ⟨r.key.toArray⟩, .bool r.gone, .string ⟨r.value.toArray⟩] 42)) wi base v vi bi → w.heap.size < wi.heap.size ∧
      (wi.cell? ⟨w.heap.size, 0, none⟩ = some (.int .i64 r.off) ∧ wi.cell? ⟨w.heap.size, 1, none⟩ = some (.int .i64 r.time) ∧ wi.cell? ⟨w.heap.size, 2, none⟩ = some (.bool r.keyed) ∧ wi.cell? ⟨w.heap.size, 3, none⟩ = some (.string ⟨r.key.toArray⟩) ∧ wi.cell? ⟨w.heap.size, 4, none⟩ = some (.bool r.gone) ∧ wi.cell? ⟨w.heap.size, 5, none⟩ = some (.string ⟨r.value.toArray⟩)) :=
    fun wi vi bi hg => ⟨by have := hg.2.1.size; simp at this; omega, box_cells (hg.box (heap_new w _) HLT.out)⟩
  have BOX := hide box
  clear box hrow
  have l0 := Nu.put_len6 (show n0 ≤ 1099511627776 by omega)
  have l1 := Nu.put_len6 (show n1 ≤ 1099511627776 by omega)
  have l2 := Nu.put_len6 (show Bt.mark r ≤ 1099511627776 by have := mark_le r; omega)
  have l3 := textB_len (show r.key.length ≤ 600 by omega)
  have l4 := mark_le r
  have o1 : -9223372036854775808 ≤ r.off := by omega
  have o2 : r.off ≤ 9223372036854775807 := by omega
  simp only [recV, strV]
  have hn1 : n1 ≤ 1099511627776 := by omega
  have HTM := hide htime
  clear htime
  go_enter Tryz.func122, Tryz.ntmps122
  go_wp2_with fail
  refine (put_any _ base v bs HG0.out.1 (by simp; omega) n0 (by omega) (by omega)).mono ?_
  rintro e w1 ⟨v1, rfl, hr1, ht1, ho1⟩
  have HG1 := hide (HG0.out.trans ⟨hr1, ht1, ho1⟩)
  clear hr1 ht1 ho1
  obtain ⟨z1, c0, c1, c2, c3, c4, c5⟩ := BOX.out _ _ _ HG1.out
  go_wp2_with fail
  rw [HTM.out]
  refine (put_any _ base v1 _ HG1.out.1 (by omega) n1 (by omega) (by simp; omega)).mono ?_
  rintro e w2 ⟨v2, rfl, hr2, ht2, ho2⟩
  have HG2 := hide (HG1.out.trans ⟨hr2, ht2, ho2⟩)
  clear hr2 ht2 ho2 c0 c1 c2 c3 c4 c5 z1
  obtain ⟨z1, c0, c1, c2, c3, c4, c5⟩ := BOX.out _ _ _ HG2.out
  go_wp2_with fail
  refine (marks_any _ r).mono ?_
  rintro e w3 ⟨rfl, ht3⟩
  have HG3 := hide (HG2.out.still ht3)
  clear ht3 c0 c1 c2 c3 c4 c5 z1
  obtain ⟨z1, c0, c1, c2, c3, c4, c5⟩ := BOX.out _ _ _ HG3.out
  go_wp2_with fail
  refine (put_any _ base v2 _ HG3.out.1 (by omega) (Bt.mark r) (by omega) (by simp; omega)).mono ?_
  rintro e w4 ⟨v4, rfl, hr4, ht4, ho4⟩
  have HG4 := hide (HG3.out.trans ⟨hr4, ht4, ho4⟩)
  clear hr4 ht4 ho4 c0 c1 c2 c3 c4 c5 z1
  obtain ⟨z1, c0, c1, c2, c3, c4, c5⟩ := BOX.out _ _ _ HG4.out
  have fin : ∀ wi vi bi, Grew (w.alloc (.cells #[.int .i64 r.off, .int .i64 r.time, .bool r.keyed, .string ⟨r.key.toArray⟩, .bool r.gone, .string ⟨r.value.toArray⟩] 42)) wi base v vi bi → bi = bs ++ Bt.recB b r → Grew w wi base v vi (bs ++ Bt.recB b r) :=
    fun wi vi bi h e => e ▸ Grew.pre ((Turn.refl [] w).alloc _) h
  have FIN := hide fin
  clear fin
  obtain ⟨kd, hkd⟩ : ∃ kd, r.keyed = kd := ⟨_, rfl⟩
  obtain ⟨gn, hgn⟩ : ∃ gn, r.gone = gn := ⟨_, rfl⟩
  rw [hkd] at c2
  rw [hgn] at c4
  have HB2 : Hid (Bt.recB b r = Nu.put n0 ++ Nu.put n1 ++ Nu.put (Bt.mark r) ++ (if kd then Bt.textB r.key else []) ++ (if gn then [] else Bt.textB r.value)) := by
    show _ = _
    rw [HB.out, hkd, hgn]
  have HKD := hide hkd
  have HGN := hide hgn
  clear hkd hgn HB
  cases kd with
  | true =>
    go_wp2_with fail
    refine (putText_any _ base v4 _ HG4.out.1 (by omega) r.key (by omega) (by simp; omega)).mono ?_
    rintro e w5 ⟨v5, rfl, hg5⟩
    have HG5 := hide (HG4.out.trans hg5)
    clear hg5 c0 c1 c2 c3 c4 c5 z1
    obtain ⟨z1, c0, c1, c2, c3, c4, c5⟩ := BOX.out _ _ _ HG5.out
    rw [HGN.out] at c4
    cases gn with
    | true =>
      go_wp2
      go_ret
      exact ⟨_, rfl, FIN.out _ _ _ HG5.out (by rw [HB2.out]; simp)⟩
    | false =>
      go_wp2_with fail
      refine (putText_any _ base v5 _ HG5.out.1 (by omega) r.value (by omega) (by simp; omega)).mono ?_
      rintro e w6 ⟨v6, rfl, hg6⟩
      have HG6 := hide (HG5.out.trans hg6)
      clear hg6 c0 c1 c2 c3 c4 c5 z1
      go_wp2
      go_ret
      exact ⟨_, rfl, FIN.out _ _ _ HG6.out (by rw [HB2.out]; simp)⟩
  | false =>
    cases gn with
    | true =>
      go_wp2
      go_ret
      exact ⟨_, rfl, FIN.out _ _ _ HG4.out (by rw [HB2.out]; simp)⟩
    | false =>
      go_wp2_with fail
      refine (putText_any _ base v4 _ HG4.out.1 (by omega) r.value (by omega) (by simp; omega)).mono ?_
      rintro e w6 ⟨v6, rfl, hg6⟩
      have HG6 := hide (HG4.out.trans hg6)
      clear hg6 c0 c1 c2 c3 c4 c5 z1
      go_wp2
      go_ret
      exact ⟨_, rfl, FIN.out _ _ _ HG6.out (by rw [HB2.out]; simp)⟩

/-! ### the whole body -/
theorem recs_fit {hi base : Int} : ∀ (rs : List Bt.Rec) (lo : Int), base ≤ lo → Bt.recsErr rs lo hi = 0 → ∀ r ∈ rs, base ≤ r.off ∧ r.off < hi ∧ r.key.length ≤ 60 ∧ r.value.length ≤ 500 ∧ 0 ≤ r.time ∧ r.time ≤ 1099511627776
  | [], _, _, _, r, hr => by simp at hr
  | x :: rs, lo, hb, h, r, hr => by
    have h1 : Bt.recErr x lo hi = 0 := by
      unfold Bt.recsErr at h
      split at h
      · assumption
      · exact h
    have h2 : Bt.recsErr rs (x.off + 1) hi = 0 := by
      unfold Bt.recsErr at h
      rwa [if_pos h1] at h
    have hk := Bt.recErr_ok h1
    rcases List.mem_cons.1 hr with rfl | hr
    · exact ⟨by omega, hk.2.1, hk.2.2.2.2.1, hk.2.2.2.2.2.1, hk.2.2.2.2.2.2.1, hk.2.2.2.2.2.2.2⟩
    · exact recs_fit rs (x.off + 1) (by omega) h2 r hr
theorem bat_fit {x : Bt.Bat} (h : Bt.chk x = 0) : ∀ r ∈ x.recs, RecFit r x.base := by
  intro r hr
  obtain ⟨h1, h2, h3, h4, h5, h6⟩ := Bt.chk_ok h
  obtain ⟨a, b, c, d, e, f⟩ := recs_fit x.recs x.base (Int.le_refl _) h6 r hr
  exact ⟨a, by omega, h1, by omega, e, f, c, d⟩
theorem recsB_take {b : Int} {rs : List Bt.Rec} {k : Nat} (hk : k < rs.length) : Bt.recsB b (rs.take (k + 1)) = Bt.recsB b (rs.take k) ++ Bt.recB b rs[k] := by
  unfold Bt.recsB
  rw [List.take_succ_eq_append_getElem hk]
  simp only [List.flatMap_append, List.flatMap_cons, List.flatMap_nil, List.append_nil]
theorem recsB_len {b : Int} : ∀ (rs : List Bt.Rec), (∀ r ∈ rs, RecFit r b) → (Bt.recsB b rs).length ≤ 600 * rs.length
  | [], _ => by simp [Bt.recsB]
  | r :: rs, h => by
    have h1 := recB_len (h r (by simp))
    have h2 := recsB_len rs (fun x hx => h x (by simp [hx]))
    simp only [Bt.recsB, List.flatMap_cons, List.length_append, List.length_cons] at h2 ⊢
    omega

set_option maxHeartbeats 2000000 in
theorem putBody_any (w : World) (base : Nat) (v sv : Value) (bs : List UInt8) (hrow : RowAt w 5 base v bs) (hbase : base ≤ w.heap.size) (x : Bt.Bat) (hx : RecsAt w sv x.recs) (hd : x.recs ≠ [] → ∀ k ∈ sv.ownBlock, k ∉ v.ownBlock) (hc : Bt.chk x = 0) (hl : bs.length ≤ 100) :
    Calls Tryz.prog 82 #[v, .agg #[.int .i64 x.base, .int .i64 x.fin, sv]] w fun e w' => ∃ v', e = .returned v' ∧ Grew w w' base v v' (bs ++ Bt.body x) := by
  have hfit := bat_fit hc
  obtain ⟨h1, h2, h3, h4, h5, h6⟩ := Bt.chk_ok hc
  obtain ⟨xb, xf, recs⟩ := x
  simp only at h1 h2 h3 h4 h5 h6 hx hfit hd ⊢
  obtain ⟨a, c, rfl, hlc, hcm, hn0, hp⟩ := hx.form
  have hmx : maxLen = 9223372036854775807 := by simp [maxLen]
  rw [hmx] at hcm
  have HFIT := hide hfit
  have HX := hide hx
  have HD := hide hd
  have hlt : ∀ x ∈ v.ownBlock, x ≠ w.heap.size := fun x hx => by have := (hrow.lt x hx).2; omega
  have HLT := hide hlt
  obtain ⟨n0, hnb⟩ : ∃ n0 : Nat, xb = n0 := ⟨xb.toNat, by omega⟩
  subst hnb
  obtain ⟨n1, hsub⟩ : ∃ n1 : Nat, xf - (n0 : Int) = n1 := ⟨(xf - n0).toNat, by omega⟩
  have HB : Hid (Bt.body ⟨(n0 : Int), xf, recs⟩ = Nu.put n0 ++ Nu.put n1 ++ Nu.put recs.length ++ Bt.recsB n0 recs) := by
    show _ = _
    unfold Bt.body
    simp only [hsub]; simp
  have HG0 : Hid (Grew (w.alloc (.cells #[.int .i64 (n0 : Int), .int .i64 xf, .slice a recs.length c] 70)) (w.alloc (.cells #[.int .i64 (n0 : Int), .int .i64 xf, .slice a recs.length c] 70)) base v v bs) :=
    Grew.refl (hrow.kept ((Turn.refl [] w).alloc _) (by simp))
  have box : ∀ wi vi bi, Grew (w.alloc (.cells #[.int .i64 (n0 : Int), .int .i64 xf, .slice a recs.length c] 70)) wi base v vi bi → w.heap.size < wi.heap.size ∧
      wi.cell? ⟨w.heap.size, 0, none⟩ = some (.int .i64 (n0 : Int)) ∧ wi.cell? ⟨w.heap.size, 1, none⟩ = some (.int .i64 xf) ∧ wi.cell? ⟨w.heap.size, 2, none⟩ = some (.slice a recs.length c) := by
    intro wi vi bi hg
    have hb := hg.box (heap_new w _) HLT.out
    exact ⟨by have := hg.2.1.size; simp at this; omega, by simpa using cell_of hb 0, by simpa using cell_of hb 1, by simpa using cell_of hb 2⟩
  have BOX := hide box
  have recsAt : ∀ wi vi bi, Grew (w.alloc (.cells #[.int .i64 (n0 : Int), .int .i64 xf, .slice a recs.length c] 70)) wi base v vi bi → RecsAt wi (.slice a recs.length c) recs := by
    intro wi vi bi hg
    exact (HX.out.still ((Turn.refl [] w).alloc _)).kept' hg.2.1 (fun h0 k hk hm => HD.out h0 k hk (by simpa using hm))
  have RECS := hide recsAt
  clear box hrow hx hd hlt hfit recsAt hn0
  have l0 := Nu.put_len6 (show n0 ≤ 1099511627776 by omega)
  have l1 := Nu.put_len6 (show n1 ≤ 1099511627776 by omega)
  have l2 := Nu.put_len6 (show recs.length ≤ 1099511627776 by omega)
  go_enter Tryz.func82, Tryz.ntmps82
  go_wp2_with fail
  refine (put_any _ base v bs HG0.out.1 (by simp; omega) n0 (by omega) (by omega)).mono ?_
  rintro e w1 ⟨v1, rfl, hr1, ht1, ho1⟩
  have HG1 := hide (HG0.out.trans ⟨hr1, ht1, ho1⟩)
  clear hr1 ht1 ho1
  obtain ⟨z1, c0, c1, c2⟩ := BOX.out _ _ _ HG1.out
  go_wp2_with fail
  refine (put_any _ base v1 _ HG1.out.1 (by omega) n1 (by omega) (by simp; omega)).mono ?_
  rintro e w2 ⟨v2, rfl, hr2, ht2, ho2⟩
  have HG2 := hide (HG1.out.trans ⟨hr2, ht2, ho2⟩)
  clear hr2 ht2 ho2 c0 c1 c2 z1
  obtain ⟨z1, c0, c1, c2⟩ := BOX.out _ _ _ HG2.out
  go_wp2_with fail
  refine (put_any _ base v2 _ HG2.out.1 (by omega) recs.length (by omega) (by simp; omega)).mono ?_
  rintro e w3 ⟨v3, rfl, hr3, ht3, ho3⟩
  have HG3 := hide (HG2.out.trans ⟨hr3, ht3, ho3⟩)
  clear hr3 ht3 ho3 c0 c1 c2 z1
  obtain ⟨z1, c0, c1, c2⟩ := BOX.out _ _ _ HG3.out
  go_wp2
  go_loopw [0, 26] (fun s i wr => ∃ k : Nat, k ≤ recs.length ∧ i = .int .i64 k ∧ Grew (w.alloc (.cells #[.int .i64 (n0 : Int), .int .i64 xf, .slice a recs.length c] 70)) wr base v s (bs ++ Nu.put n0 ++ Nu.put n1 ++ Nu.put recs.length ++ Bt.recsB n0 (recs.take k))) (fun _ i _ => recs.length - (intOf i).toNat)
  case atStart => exact ⟨0, Nat.zero_le _, rfl, by simpa [Bt.recsB] using HG3.out⟩
  case round =>
    obtain ⟨k, hk, rfl, hg⟩ := hrel
    have HG := hide hg
    clear hg c0 c1 c2 z1
    obtain ⟨z1, c0, c1, c2⟩ := BOX.out _ _ _ HG.out
    by_cases hlt : k < recs.length
    · obtain ⟨p, rfl⟩ := hp k hlt
      obtain ⟨g0, g1, g2, g3, g4, g5⟩ := (RECS.out _ _ _ HG.out).six hlt
      have hf := HFIT.out recs[k] (List.getElem_mem _)
      have HF := hide hf
      have HS := hide (recsB_take (b := (n0 : Int)) hlt)
      have hln := recsB_len (b := (n0 : Int)) (recs.take k) (fun r hr => HFIT.out r (List.mem_of_mem_take hr))
      have hln2 : (recs.take k).length ≤ k := List.length_take_le _ _
      clear hp hf
      obtain ⟨r, hr⟩ : ∃ r, r = recs[k] := ⟨_, rfl⟩
      rw [← hr] at g0 g1 g2 g3 g4 g5 HS HF
      clear hr
      go_wp2_with fail
      refine (putRecord_any _ base _ _ (HG.out.1.kept ((Turn.refl [] _).alloc _) (by simp)) (by simp; omega) r n0 HF.out (by simp only [List.length_append]; omega)).mono ?_
      rintro e w4 ⟨v4, rfl, hg4⟩
      have HG4 := hide (HG.out.trans (Grew.pre ((Turn.refl [] _).alloc _) hg4))
      clear hg4 c0 c1 c2 z1 g0 g1 g2 g3 g4 g5
      obtain ⟨z1, c0, c1, c2⟩ := BOX.out _ _ _ HG4.out
      go_wp2
      refine ⟨⟨k + 1, by omega, by go_num, ?_⟩, ?_⟩
      · rw [HS.out, ← List.append_assoc]; exact HG4.out
      · simp only [intOf]; omega
    · have hlast : recs.take k = recs := List.take_of_length_le (by omega)
      have HL := hide hlast
      clear hlast
      go_wp2
      go_ret
      refine ⟨_, rfl, Grew.pre ((Turn.refl [] w).alloc (.cells #[.int .i64 (n0 : Int), .int .i64 xf, .slice a recs.length c] 70)) ?_⟩
      have := HG.out
      rw [HL.out] at this
      rw [HB.out]
      simpa [List.append_assoc] using this
end Go.Proofs.YthbhfhagbaommaaGreatDoor

/- An error's value. No program. -/
namespace Go.Proofs.YthbhfhagbaommaaGreatDoor.As
def errN (n : Int) : Value := if n = 0 then .nilIface else .iface 56 (.int .i64 n)
end Go.Proofs.YthbhfhagbaommaaGreatDoor.As

/- record.Check. -/
namespace Go.Proofs.YthbhfhagbaommaaGreatDoor
open Go.RowKit Go.Maps
set_option maxRecDepth 100000
set_option linter.unusedSimpArgs false
set_option linter.unusedVariables false

set_option maxHeartbeats 2000000 in
theorem chkRec_any (w : World) (r : Bt.Rec) (ok : RecOk r) (lo hi : Int) :
    Calls Tryz.prog 120 #[recV r, .int .i64 lo, .int .i64 hi] w fun e w' => e = .returned (As.errN (Bt.recErr r lo hi)) ∧ Turn [] w w' := by
  obtain ⟨off, time, keyed, key, gone, value⟩ := r
  obtain ⟨o1, o2, t1, t2, k1, v1⟩ := ok
  simp only at o1 o2 t1 t2 k1 v1
  simp only [recV, strV]
  by_cases h1 : off < lo
  · have hz : Bt.recErr ⟨off, time, keyed, key, gone, value⟩ lo hi = 1 := by unfold Bt.recErr; rw [if_pos (.inl h1)]
    rw [hz]
    clear hz
    go_enter Tryz.func120, Tryz.ntmps120
    go_wp2
    go_ret
    exact ⟨rfl, (Turn.refl _ _).alloc _⟩
  by_cases h2 : hi ≤ off
  · have hz : Bt.recErr ⟨off, time, keyed, key, gone, value⟩ lo hi = 1 := by unfold Bt.recErr; rw [if_pos (.inr (.inl h2))]
    rw [hz]
    clear hz
    go_enter Tryz.func120, Tryz.ntmps120
    go_wp2
    go_ret
    exact ⟨rfl, (Turn.refl _ _).alloc _⟩
  by_cases h3 : keyed = false ∧ key ≠ []
  · have hz : Bt.recErr ⟨off, time, keyed, key, gone, value⟩ lo hi = 1 := by unfold Bt.recErr; rw [if_pos (.inr (.inr (.inl h3)))]
    rw [hz]
    clear hz
    obtain ⟨rfl, h3⟩ := h3
    have h3' : key.isEmpty = false := by simpa using h3
    go_enter Tryz.func120, Tryz.ntmps120
    go_wp2
    go_ret
    exact ⟨rfl, (Turn.refl _ _).alloc _⟩
  have hk : keyed = true ∨ (keyed = false ∧ key = []) := by
    cases keyed
    · exact .inr ⟨rfl, Classical.byContradiction fun h => h3 ⟨rfl, h⟩⟩
    · exact .inl rfl
  by_cases h4 : gone = true ∧ value ≠ []
  · have hz : Bt.recErr ⟨off, time, keyed, key, gone, value⟩ lo hi = 1 := by unfold Bt.recErr; rw [if_pos (.inr (.inr (.inr h4)))]
    rw [hz]
    clear hz h3
    obtain ⟨rfl, h4⟩ := h4
    have h4' : value.isEmpty = false := by simpa using h4
    rcases hk with rfl | ⟨rfl, rfl⟩
    all_goals
      go_enter Tryz.func120, Tryz.ntmps120
      go_wp2
      go_ret
      exact ⟨rfl, (Turn.refl _ _).alloc _⟩
  have hg : gone = false ∨ (gone = true ∧ value = []) := by
    cases gone
    · exact .inl rfl
    · exact .inr ⟨rfl, Classical.byContradiction fun h => h4 ⟨rfl, h⟩⟩
  have hz : Bt.recErr ⟨off, time, keyed, key, gone, value⟩ lo hi = if 60 < key.length ∨ 500 < value.length then 4 else if time < 0 ∨ 1099511627776 < time then 2 else 0 := by
    unfold Bt.recErr
    rw [if_neg]
    simp only [h1, h2, h3, h4, or_self, not_false_eq_true]
  rw [hz]
  clear hz h3 h4
  by_cases h5 : 60 < key.length
  · rw [if_pos (.inl h5)]
    rcases hk with rfl | ⟨rfl, rfl⟩
    rotate_left
    · simp at h5
    rcases hg with rfl | ⟨rfl, rfl⟩
    all_goals
      go_enter Tryz.func120, Tryz.ntmps120
      go_wp2
      go_ret
      exact ⟨rfl, (Turn.refl _ _).alloc _⟩
  by_cases h6 : 500 < value.length
  · rw [if_pos (.inr h6)]
    rcases hg with rfl | ⟨rfl, rfl⟩
    rotate_left
    · simp at h6
    rcases hk with rfl | ⟨rfl, rfl⟩
    all_goals
      go_enter Tryz.func120, Tryz.ntmps120
      go_wp2
      go_ret
      exact ⟨rfl, (Turn.refl _ _).alloc _⟩
  rw [if_neg (by omega)]
  by_cases h7 : time < 0
  · rw [if_pos (.inl h7)]
    rcases hk with rfl | ⟨rfl, rfl⟩ <;> rcases hg with rfl | ⟨rfl, rfl⟩
    all_goals
      go_enter Tryz.func120, Tryz.ntmps120
      go_wp2
      go_ret
      exact ⟨rfl, (Turn.refl _ _).alloc _⟩
  by_cases h8 : 1099511627776 < time
  · rw [if_pos (.inr h8)]
    rcases hk with rfl | ⟨rfl, rfl⟩ <;> rcases hg with rfl | ⟨rfl, rfl⟩
    all_goals
      go_enter Tryz.func120, Tryz.ntmps120
      go_wp2
      go_ret
      exact ⟨rfl, (Turn.refl _ _).alloc _⟩
  rw [if_neg (by omega)]
  rcases hk with rfl | ⟨rfl, rfl⟩ <;> rcases hg with rfl | ⟨rfl, rfl⟩
  all_goals
    go_enter Tryz.func120, Tryz.ntmps120
    go_wp2
    go_ret
    exact ⟨rfl, (Turn.refl _ _).alloc _⟩

/-- How the check of records goes on behind some that were right. -/
theorem recsErr_step {rs : List Bt.Rec} {k : Nat} (hk : k < rs.length) (lo hi : Int) : Bt.recsErr (rs.drop k) lo hi = if Bt.recErr rs[k] lo hi = 0 then Bt.recsErr (rs.drop (k + 1)) (rs[k].off + 1) hi else Bt.recErr rs[k] lo hi := by
  rw [List.drop_eq_getElem_cons hk]
  rfl

set_option maxHeartbeats 1000000 in
theorem chk_any (w : World) (v : Value) (x : Bt.Bat) (hx : BatAt w v x) :
    Calls Tryz.prog 81 #[v] w fun e w' => e = .returned (As.errN (Bt.chk x)) ∧ Turn [] w w' := by
  obtain ⟨sv, rfl, hr, b1, b2, f1, f2⟩ := hx
  obtain ⟨base, fin, recs⟩ := x
  simp only at hr b1 b2 f1 f2
  obtain ⟨a, c, rfl, hlc, hcm, hn0, hp⟩ := hr.form
  have hmx : maxLen = 9223372036854775807 := by simp [maxLen]
  rw [hmx] at hcm
  by_cases h1 : base < 0
  · have hz : Bt.chk ⟨base, fin, recs⟩ = 2 := by unfold Bt.chk; rw [if_pos (.inl h1)]
    rw [hz]
    clear hz hr
    go_enter Tryz.func81, Tryz.ntmps81
    go_wp2
    go_ret
    exact ⟨rfl, (Turn.refl _ _).alloc _⟩
  by_cases h2 : 1099511627776 < fin
  · have hz : Bt.chk ⟨base, fin, recs⟩ = 2 := by unfold Bt.chk; rw [if_pos (.inr h2)]
    rw [hz]
    clear hz hr
    go_enter Tryz.func81, Tryz.ntmps81
    go_wp2
    go_ret
    exact ⟨rfl, (Turn.refl _ _).alloc _⟩
  by_cases h3 : fin ≤ base
  · have hz : Bt.chk ⟨base, fin, recs⟩ = 1 := by unfold Bt.chk; rw [if_neg (by simp only; omega), if_pos h3]
    rw [hz]
    clear hz hr
    go_enter Tryz.func81, Tryz.ntmps81
    go_wp2
    go_ret
    exact ⟨rfl, (Turn.refl _ _).alloc _⟩
  by_cases h4 : 50 < recs.length
  · have hz : Bt.chk ⟨base, fin, recs⟩ = 4 := by unfold Bt.chk; rw [if_neg (by simp only; omega), if_neg h3, if_pos (.inl h4)]
    rw [hz]
    clear hz hr
    go_enter Tryz.func81, Tryz.ntmps81
    go_wp2
    go_ret
    exact ⟨rfl, (Turn.refl _ _).alloc _⟩
  by_cases h5 : 50 < fin - base
  · have hz : Bt.chk ⟨base, fin, recs⟩ = 4 := by unfold Bt.chk; rw [if_neg (by simp only; omega), if_neg h3, if_pos (.inr h5)]
    rw [hz]
    clear hz hr
    go_enter Tryz.func81, Tryz.ntmps81
    go_wp2
    go_ret
    exact ⟨rfl, (Turn.refl _ _).alloc _⟩
  have hz : Bt.chk ⟨base, fin, recs⟩ = Bt.recsErr recs base fin := by unfold Bt.chk; rw [if_neg (by simp only; omega), if_neg h3, if_neg (by simp only; omega)]
  have HZ := hide hz
  have HR : Hid (RecsAt w (.slice a recs.length c) recs) := hr
  clear hz hr
  go_enter Tryz.func81, Tryz.ntmps81
  go_wp2
  go_loopw [3, 40] (fun l i wr => ∃ (k : Nat) (lo : Int), k ≤ recs.length ∧ i = .int .i64 k ∧ l = .int .i64 lo ∧ Bt.recsErr recs base fin = Bt.recsErr (recs.drop k) lo fin ∧ lo ≤ fin ∧ Turn [] (w.alloc (.cells #[.int .i64 base, .int .i64 fin, .slice a recs.length c] 70)) wr) (fun _ i _ => recs.length - (intOf i).toNat)
  case atStart => exact ⟨0, base, Nat.zero_le _, rfl, rfl, rfl, by omega, Turn.refl _ _⟩
  case round =>
    obtain ⟨k, lo, hk, rfl, rfl, he, hlo, ht⟩ := hrel
    have HE := hide he
    have HT := hide ht
    clear he ht
    have ht1 : w.heap.size < wr.heap.size := by have := HT.out.size; simp at this; omega
    have hb0 : wr.heap[w.heap.size]? = some (.cells #[.int .i64 base, .int .i64 fin, .slice a recs.length c] 70 (0, 0)) := HT.out.heap (heap_new w _) (by simp)
    have c0 := cell_of hb0 0
    have c1 := cell_of hb0 1
    have c2 := cell_of hb0 2
    simp at c0 c1 c2
    by_cases hlt : k < recs.length
    · obtain ⟨p, rfl⟩ := hp k hlt
      have ok := HR.out.ok hlt
      obtain ⟨g0, g1, g2, g3, g4, g5⟩ := ((HR.out.still ((Turn.refl [] w).alloc _)).still HT.out).six hlt
      have HS := hide (recsErr_step hlt lo fin)
      have HO := hide ok
      clear hp hn0 ok
      obtain ⟨r, hr⟩ : ∃ r, r = recs[k] := ⟨_, rfl⟩
      rw [← hr] at g0 g1 g2 g3 g4 g5 HS HO
      have o1 := HO.out.off1
      have o2 := HO.out.off2
      have HR1 : Hid (r = recs[k]) := hr
      clear hr
      obtain ⟨ec, hec⟩ : ∃ ec, ec = Bt.recErr r lo fin := ⟨_, rfl⟩
      have HEC := hide hec
      clear hec
      have aft : ∀ w2, Turn [] (wr.alloc (.cells #[.int .i64 r.off, .int .i64 r.time, .bool r.keyed, .string ⟨r.key.toArray⟩, .bool r.gone, .string ⟨r.value.toArray⟩] 42)) w2 →
          Turn [] (w.alloc (.cells #[.int .i64 base, .int .i64 fin, .slice (some p) recs.length c] 70)) w2 ∧ w2.cell? ⟨wr.heap.size, 0, none⟩ = some (.int .i64 r.off) := by
        intro w2 h
        have hb1 := h.heap (heap_new wr _) (by simp)
        have := cell_of hb1 0
        exact ⟨HT.out.same (((Turn.refl [] wr).alloc _).same h), by simpa using this⟩
      have AFT := hide aft
      clear aft
      by_cases h0 : ec = 0
      · have hof : lo ≤ r.off ∧ r.off < fin := by
          have := Bt.recErr_ok (HEC.out.symm.trans h0)
          exact ⟨this.1, this.2.1⟩
        have HS2 : Hid (Bt.recsErr (recs.drop k) lo fin = Bt.recsErr (recs.drop (k + 1)) (r.off + 1) fin) := by
          show _ = _
          rw [HS.out, if_pos (HEC.out.symm.trans h0)]
        subst h0
        go_wp2_with fail
        refine (chkRec_any _ r HO.out lo fin).mono ?_
        rintro e w2 ⟨rfl, ht2⟩
        rw [← HEC.out]
        obtain ⟨ht3, hc3⟩ := AFT.out w2 ht2
        have HT3 := hide ht3
        clear ht3 ht2 c0 c1 c2 g0 g1 g2 g3 g4 g5
        simp only [As.errN, if_true]
        go_wp2
        refine ⟨⟨k + 1, r.off + 1, by omega, by go_num, ?_, ?_, by omega, HT3.out⟩, ?_⟩
        · rfl
        · rw [HE.out, HS2.out]
        · simp only [intOf]; omega
      · have HS2 : Hid (Bt.recsErr (recs.drop k) lo fin = ec) := by
          show _ = _
          rw [HS.out, if_neg (fun h => h0 (HEC.out.trans h)), HEC.out]
        go_wp2_with fail
        refine (chkRec_any _ r HO.out lo fin).mono ?_
        rintro e w2 ⟨rfl, ht2⟩
        rw [← HEC.out]
        obtain ⟨ht3, hc3⟩ := AFT.out w2 ht2
        have HT3 := hide ht3
        clear ht3 ht2 c0 c1 c2 g0 g1 g2 g3 g4 g5
        simp only [As.errN, h0, if_false]
        go_wp2
        go_ret
        refine ⟨?_, ((Turn.refl [] w).alloc _).same HT3.out⟩
        rw [HZ.out, HE.out, HS2.out]
        simp only [As.errN, h0, if_false]
        rfl
    · have HL : Hid (recs.drop k = []) := by show _ = _; rw [List.drop_eq_nil_iff]; omega
      go_wp2
      go_ret
      refine ⟨?_, ((Turn.refl [] w).alloc _).same HT.out⟩
      rw [HZ.out, HE.out, HL.out]
      rfl
end Go.Proofs.YthbhfhagbaommaaGreatDoor

/- record.Sum: the walk. -/
namespace Go.Proofs.YthbhfhagbaommaaGreatDoor
open Go.RowKit Go.Maps
set_option maxRecDepth 100000
set_option linter.unusedSimpArgs false
set_option linter.unusedVariables false

theorem not_u32 (s : Nat) (h : s < 4294967296) : bits .xor .u32 IntKind.u32.max (s : Int) = ((4294967295 - s : Nat) : Int) := by
  rw [show IntKind.u32.max = ((4294967295 : Nat) : Int) by decide, u32_xor_nat _ _ (by omega) h]
  congr 1
  apply Nat.eq_of_testBit_eq
  intro i
  have h1 := Nat.testBit_two_pow_sub_one 32 i
  have h2 := Nat.testBit_two_pow_sub_succ (n := 32) (x := s) (by simpa using h) i
  rw [show 2 ^ 32 - (s + 1) = 4294967295 - s by omega] at h2
  rw [show (2 ^ 32 - 1 : Nat) = 4294967295 by decide] at h1
  rw [Nat.testBit_xor, h1, h2]
  by_cases hi : i < 32
  · simp [hi]
  · simp [hi, Cr.tb_high h (by omega : 32 ≤ i)]

theorem step_u32 (s : Nat) (h : s < 4294967296) : bits .xor .u32 ((s : Int) / 2) (3988292384 * bits .and .u32 (s : Int) 1 % 4294967296) = ((Cr.step s : Nat) : Int) := by
  have h1 := u32_and_nat s 1 h (by omega)
  rw [nat_mask1] at h1
  simp only [Int.natCast_one] at h1
  rw [h1, show (s : Int) / 2 = ((s / 2 : Nat) : Int) by omega, show (3988292384 * ((s % 2 : Nat) : Int) % 4294967296) = ((3988292384 * (s % 2) : Nat) : Int) by omega, u32_xor_nat _ _ (by omega) (by omega)]
  rfl

set_option maxHeartbeats 400000 in
theorem sum_any (w : World) (v : Value) (bs : List UInt8) (hx : SliceAt w v (bs.map encB)) (hl : bs.length ≤ 9223372036854775806) :
    Calls Tryz.prog 84 #[v] w fun e w' => e = .returned (.int .i64 (Cr.sum bs)) ∧ w = w' := by
  obtain ⟨a, c, rfl, hc⟩ := hx.form
  clear hx
  simp only [List.length_map]
  go_enter Tryz.func84, Tryz.ntmps84
  go_wp2
  go_loop [3, 8] (fun s i => ∃ k : Nat, k ≤ bs.length ∧ i = .int .i64 k ∧ s = .int .u32 (Cr.crc (bs.take k))) (fun _ i => bs.length - (intOf i).toNat)
  case atStart => exact ⟨0, Nat.zero_le _, rfl, rfl⟩
  case round =>
    obtain ⟨k, hk, rfl, rfl⟩ := hrel
    by_cases hlt : k < bs.length
    · obtain ⟨p, rfl, hcell⟩ := hc k _ (enc_at bs k hlt)
      have hb8 := bs[k].toNat_lt
      have hs := Cr.crc_lt (bs.take k)
      have HS : Hid (Cr.crc (bs.take (k + 1)) = Cr.byte (Cr.crc (bs.take k)) bs[k]) := by show _ = _; rw [take_snoc bs k hlt, Cr.crc_snoc]
      clear hc
      go_wp2
      have hxx := Cr.xor_lt hs bs[k]
      go_loop [3, 16] (fun s i => ∃ j : Nat, j ≤ 8 ∧ i = .int .i64 j ∧ s = .int .u32 (Cr.steps j (Cr.crc (bs.take k) ^^^ bs[k].toNat))) (fun _ i => 8 - (intOf i).toNat)
      case atStart => exact ⟨0, Nat.zero_le _, rfl, by rw [u32_xor_nat _ _ hs (by omega)]; rfl⟩
      case round =>
        obtain ⟨j, hj, rfl, rfl⟩ := hrel
        have hsj := Cr.steps_lt hxx j
        by_cases hlj : j < 8
        · go_wp2
          go_round
          case rel => exact ⟨j + 1, by omega, by go_num, by rw [step_u32 _ hsj]; rfl⟩
          case measure => simp [intOf]; omega
        · obtain rfl : j = 8 := by omega
          go_wp2
          go_round
          case rel => exact ⟨k + 1, by omega, by go_num, by rw [HS.out]; rfl⟩
          case measure => simp [intOf]; omega
    · go_wp2
      have hlast : bs.take k = bs := List.take_of_length_le (by omega)
      rw [hlast] at *
      go_ret
      exact ⟨ret_int (by rw [not_u32 _ (Cr.crc_lt bs), IntWalk.wrap64_in _ (by have := Cr.crc_lt bs; omega)]; rfl), rfl⟩
end Go.Proofs.YthbhfhagbaommaaGreatDoor

/- record.setFour, record.Encode. -/
namespace Go.Proofs.YthbhfhagbaommaaGreatDoor
open Go.RowKit Go.Maps
set_option maxRecDepth 100000
set_option linter.unusedSimpArgs false
set_option linter.unusedVariables false

/-- Four cells told anew. -/
def set4 (cur : Array Value) (o n : Nat) : Array Value :=
  (((cur.setIfInBounds o (.int .u8 (n / 16777216 % 256 : Nat))).setIfInBounds (o + 1) (.int .u8 (n / 65536 % 256 : Nat))).setIfInBounds (o + 2) (.int .u8 (n / 256 % 256 : Nat))).setIfInBounds (o + 3) (.int .u8 (n % 256 : Nat))
set_option maxHeartbeats 1000000 in
theorem setFour_any (w : World) (g o : Nat) (cur : Array Value) (hg : w.heap[g]? = some (.cells cur 5 (0, 0))) (ho : o + 4 ≤ cur.size) (l c n : Nat) (hl : 4 ≤ l) (hlm : l ≤ 1000000) (hn : n < 4294967296) :
    Calls Tryz.prog 83 #[.slice (some ⟨g, o, none⟩) l c, .int .i64 n] w fun e w' => e = .returned (.tuple #[]) ∧ Turn [g] w w' ∧ w'.heap[g]? = some (.cells (set4 cur o n) 5 (0, 0)) := by
  have c0 : w.cell? ⟨g, o, none⟩ = some (cur[o]'(by omega)) := by rw [cell_of hg]; simp
  have c1 : w.cell? ⟨g, o + 1, none⟩ = some (cur[o + 1]'(by omega)) := by rw [cell_of hg]; simp
  have c2 : w.cell? ⟨g, o + 2, none⟩ = some (cur[o + 2]'(by omega)) := by rw [cell_of hg]; simp
  have c3 : w.cell? ⟨g, o + 3, none⟩ = some (cur[o + 3]'(by omega)) := by rw [cell_of hg]; simp
  have fz : ∀ i, w.frozen? ⟨g, i, none⟩ = false := fun i => frozen_of hg i
  have f0 := fz o
  have f1 := fz (o + 1)
  have f2 := fz (o + 2)
  have f3 := fz (o + 3)
  clear fz
  have HG := hide hg
  clear hg
  go_enter Tryz.func83, Tryz.ntmps83
  go_wp2
  go_end0
  have e0 : (n : Int) / 16777216 = ((n / 16777216 % 256 : Nat) : Int) := by omega
  have e1 : (n : Int) / 65536 % 256 = ((n / 65536 % 256 : Nat) : Int) := by omega
  have e2 : (n : Int) / 256 % 256 = ((n / 256 % 256 : Nat) : Int) := by omega
  have e3 : (n : Int) % 256 = ((n % 256 : Nat) : Int) := by omega
  refine ⟨rfl, ((((Turn.refl _ _).setCell (.inl (by simp)) _).setCell (.inl (by simp)) _).setCell (.inl (by simp)) _).setCell (.inl (by simp)) _, ?_⟩
  rw [e0, e1, e2, e3]
  exact heap_set (heap_set (heap_set (heap_set HG.out o _) (o + 1) _) (o + 2) _) (o + 3) _

theorem four_enc {n : Nat} : (Bt.four n).map encB = [.int .u8 (n / 16777216 % 256 : Nat), .int .u8 (n / 65536 % 256 : Nat), .int .u8 (n / 256 % 256 : Nat), .int .u8 (n % 256 : Nat)] := by
  simp only [Bt.four, List.map_cons, List.map_nil, encB]
  have a0 : (UInt8.ofNat (n / 16777216 % 256)).toNat = n / 16777216 % 256 := by simp
  have a1 : (UInt8.ofNat (n / 65536 % 256)).toNat = n / 65536 % 256 := by simp
  have a2 : (UInt8.ofNat (n / 256 % 256)).toNat = n / 256 % 256 := by simp
  have a3 : (UInt8.ofNat (n % 256)).toNat = n % 256 := by simp
  rw [a0, a1, a2, a3]
theorem set4_size (cur : Array Value) (o n : Nat) : (set4 cur o n).size = cur.size := by simp [set4]
theorem set4_0 {cur : Array Value} {n L : Nat} {a b c d : UInt8} {post : List UInt8} (hL : L = post.length + 4) (h : cur.toList.take L = (a :: b :: c :: d :: post).map encB) : (set4 cur 0 n).toList.take L = (Bt.four n ++ post).map encB := by
  rw [List.map_append, four_enc]
  have e := List.take_append_drop L cur.toList
  rw [h] at e
  unfold set4
  simp only [Array.toList_setIfInBounds]
  rw [← e]
  simp only [List.map_cons, List.cons_append, List.set_cons_zero, List.set_cons_succ, Nat.zero_add]
  subst hL
  simp
theorem set4_4 {cur : Array Value} {n L : Nat} {p q r s a b c d : UInt8} {post : List UInt8} (hL : L = post.length + 8) (h : cur.toList.take L = (p :: q :: r :: s :: a :: b :: c :: d :: post).map encB) : (set4 cur 4 n).toList.take L = (p :: q :: r :: s :: (Bt.four n ++ post)).map encB := by
  rw [List.map_cons, List.map_cons, List.map_cons, List.map_cons, List.map_append, four_enc]
  have e := List.take_append_drop L cur.toList
  rw [h] at e
  unfold set4
  simp only [Array.toList_setIfInBounds]
  rw [← e]
  simp only [List.map_cons, List.cons_append, List.set_cons_zero, List.set_cons_succ, Nat.zero_add]
  subst hL
  simp

theorem mk8 (w : World) : (Instr.makeSlice 50 (.int .i64 8) (.int .i64 8)).run Tryz.prog w = .ok (.slice (some ⟨w.heap.size, 0, none⟩) 8 8) (w.alloc (.cells #[.int .u8 0, .int .u8 0, .int .u8 0, .int .u8 0, .int .u8 0, .int .u8 0, .int .u8 0, .int .u8 0] 5)) := by kernel_rfl

theorem body_len {x : Bt.Bat} (h : Bt.chk x = 0) : (Bt.body x).length ≤ 30018 := by
  have hf := bat_fit h
  obtain ⟨h1, h2, h3, h4, h5, h6⟩ := Bt.chk_ok h
  have a0 := Nu.put_len6 (show x.base.toNat ≤ 1099511627776 by omega)
  have a1 := Nu.put_len6 (show (x.fin - x.base).toNat ≤ 1099511627776 by omega)
  have a2 := Nu.put_len6 (show x.recs.length ≤ 1099511627776 by omega)
  have a3 := recsB_len x.recs hf
  unfold Bt.body
  simp only [List.length_append]
  omega
theorem body_pos (x : Bt.Bat) : 3 ≤ (Bt.body x).length := by
  have a0 := Nu.put_pos x.base.toNat
  have a1 := Nu.put_pos (x.fin - x.base).toNat
  have a2 := Nu.put_pos x.recs.length
  unfold Bt.body
  simp only [List.length_append]
  omega
/-- The end of a row's bytes. -/
theorem row_drop {w : World} {g : Nat} {cur : Array Value} {t : TypeId} {bs : List UInt8} (hg : w.heap[g]? = some (.cells cur t (0, 0))) (ht : cur.toList.take bs.length = bs.map encB) (o c : Nat) : SliceAt w (.slice (some ⟨g, o, none⟩) (bs.length - o) c) ((bs.drop o).map encB) := by
  refine .inr ⟨⟨g, o, none⟩, c, by simp, fun j u hu => ?_⟩
  have e : (⟨g, o, none⟩ : Addr).add j = ⟨g, o + j, none⟩ := by
    rw [← addr_add g o, add_add, addr_add]
  rw [e, cell_of hg]
  have hj : o + j < bs.length := by
    have := (List.getElem?_eq_some_iff.1 hu).1
    simp at this; omega
  have h1 : (bs.map encB)[o + j]? = some u := by
    rw [← hu]; simp
  rw [← ht, List.getElem?_take_of_lt hj] at h1
  simpa using h1
/-- What Encode answers: the bytes, or none. -/
def encR (x : Bt.Bat) : List UInt8 := if Bt.encErr x = 0 then Bt.encB x else []
set_option maxHeartbeats 2000000 in
theorem enc_any (w : World) (v : Value) (x : Bt.Bat) (hx : BatAt w v x) :
    Calls Tryz.prog 50 #[v] w fun e w' => ∃ v', e = .returned (.tuple #[v', As.errN (Bt.encErr x)]) ∧ Turn [] w w' ∧ RowAt w' 5 w.heap.size v' (encR x) := by
  have HX := hide hx
  obtain ⟨sv, rfl, hr, b1, b2, f1, f2⟩ := hx
  have HR := hide hr
  obtain ⟨a, c, rfl, hlc, hcm, hn0, hp⟩ := hr.form
  have hmx : maxLen = 9223372036854775807 := by simp [maxLen]
  rw [hmx] at hcm
  have bat : ∀ Z, Turn [] w Z → BatAt Z (.agg #[.int .i64 x.base, .int .i64 x.fin, .slice a x.recs.length c]) x := by
    intro Z hZ
    obtain ⟨sv, e, hr, r⟩ := HX.out
    exact ⟨sv, e, hr.still hZ, r⟩
  have BAT := hide bat
  have cells : ∀ Z, Turn [] (w.alloc (.cells #[.int .i64 x.base, .int .i64 x.fin, .slice a x.recs.length c] 70)) Z → w.heap.size < Z.heap.size ∧
      Z.cell? ⟨w.heap.size, 0, none⟩ = some (.int .i64 x.base) ∧ Z.cell? ⟨w.heap.size, 1, none⟩ = some (.int .i64 x.fin) ∧ Z.cell? ⟨w.heap.size, 2, none⟩ = some (.slice a x.recs.length c) := by
    intro Z hZ
    have hb := hZ.heap (heap_new w _) (by simp)
    exact ⟨by have := hZ.size; simp at this; omega, by simpa using cell_of hb 0, by simpa using cell_of hb 1, by simpa using cell_of hb 2⟩
  have CELLS := hide cells
  clear hr hp hn0 bat cells
  have hmk := mk8
  obtain ⟨ce, hce⟩ : ∃ ce, ce = Bt.chk x := ⟨_, rfl⟩
  have HCE := hide hce
  clear hce
  go_enter Tryz.func50, Tryz.ntmps50
  go_wp2_with fail
  refine (chk_any _ _ x (BAT.out _ ((Turn.refl [] w).alloc _))).mono ?_
  rintro e wa ⟨rfl, ht1⟩
  rw [← HCE.out]
  have HT1 := hide ht1
  clear ht1
  obtain ⟨z1, c0, c1, c2⟩ := CELLS.out _ HT1.out
  by_cases h0 : ce = 0
  · subst h0
    simp only [As.errN, if_true]
    go_wp2
    refine wp_region_tail 2 (Turn []) (by kernel_rfl) (by kernel_rfl) (by kernel_rfl) (by kernel_rfl) (by kernel_rfl) (Nat.le_of_ble_eq_true rfl) rfl (Turn.refl _) (fun _ _ _ h k => h.same k) ?_
    refine Lo.run 1 rfl rfl [] (fun y w' => ∃ g, wa.heap.size ≤ g ∧ y = .slice (some ⟨g, 0, none⟩) 8 8 ∧ w'.heap[g]? = some (.cells #[.int .u8 0, .int .u8 0, .int .u8 0, .int .u8 0, .int .u8 0, .int .u8 0, .int .u8 0, .int .u8 0] 5 (0, 0))) (by kernel_rfl) (fun x w w' h hR => ?_) (fun _ _ h => h) (fun u w1 hR hF => ?_) ?_
    · obtain ⟨g, e1, e2, e3⟩ := h; exact ⟨g, e1, e2, hR.heap e3 (by simp)⟩
    · clear hF
      refine ⟨rfl, fun a ha K hK => ?_⟩
      clear ha
      go_simp
      exact hK _ _ ⟨_, ((Turn.refl [] _).drew.same hR).size, rfl, heap_new _ _⟩ ((Turn.refl _ _).alloc _)
    apply Lo.runx 2 rfl rfl [] (by kernel_rfl) (Turn.refl _)
    apply Exists.intro; apply And.intro
    · intro u w1 hR hF
      clear hF
      refine ⟨rfl, fun a ha K hK => ?_⟩
      have e1 := ha 1
      conv at e1 => rhs; whnf
      clear ha
      obtain ⟨z1, c0, c1, c2⟩ := CELLS.out _ (HT1.out.drew.same hR)
      go_simp
      refine hK _ ?_; rfl
    refine Lo.done [0, 1] (fun u w1 hRd hSd hF => ?_)
    clear hSd
    obtain ⟨f0, f1, -⟩ := hF
    have d0 := (show (fun y w' => ∃ g, wa.heap.size ≤ g ∧ y = .slice (some ⟨g, 0, none⟩) 8 8 ∧ w'.heap[g]? = some (.cells #[.int .u8 0, .int .u8 0, .int .u8 0, .int .u8 0, .int .u8 0, .int .u8 0, .int .u8 0, .int .u8 0] 5 (0, 0))) (u 0) w1 from f0)
    dsimp only at d0
    have d1 : u 1 = _ := f1
    clear f0 f1
    simp only [List.take_succ_cons, List.take_zero, List.drop_succ_cons, List.drop_zero, putFrom, Act.put, List.setIfInBounds_toArray, List.set_cons_succ, List.set_cons_zero, Nat.zero_add, Nat.reduceAdd, d1]
    obtain ⟨g, hge, hgv, hgb⟩ := d0
    rw [hgv]
    clear hgv
    have hrow0 : RowAt w1 5 w.heap.size (.slice (some ⟨g, 0, none⟩) 8 8) [0, 0, 0, 0, 0, 0, 0, 0] :=
      .inr ⟨g, 8, _, rfl, by omega, hgb, Nat.le_refl _, Nat.le_refl _, by rw [hmx]; omega, rfl⟩
    have HR0 := hide hrow0
    have htw : Turn [] w w1 := ((Turn.refl [] w).alloc _).same (HT1.out.drew.same hRd)
    have HTW := hide htw
    have hdj : x.recs ≠ [] → ∀ k ∈ (Value.slice a x.recs.length c).ownBlock, k ∉ (Value.slice (some ⟨g, 0, none⟩) 8 8).ownBlock := by
      intro h0 k hk hm
      have h1 := HR.out.lt h0 k hk
      simp [Value.ownBlock] at hm
      omega
    have HDJ := hide hdj
    have hs1 := htw.size
    clear hrow0 htw hdj hgb hRd c0 c1 c2
    go_wp2_with fail
    refine (putBody_any _ w.heap.size _ _ [0, 0, 0, 0, 0, 0, 0, 0] HR0.out (by omega) x (HR.out.still HTW.out) HDJ.out HCE.out.symm (by simp)).mono ?_
    rintro e w2 ⟨v2, rfl, hg2⟩
    obtain ⟨hr2, ht2, ho2⟩ := hg2
    have htn : Turn [] w w2 := HTW.out.trans ht2 (fun k hk => .inr (by simp [Value.ownBlock] at hk; omega))
    rcases hr2 with ⟨-, hnil⟩ | ⟨g2, cap, cur, hv2, hb2, hh2, hcl, hcs, hcx, htk⟩
    · simp at hnil
    have hbl := body_len HCE.out.symm
    obtain ⟨L, hL⟩ : ∃ L, L = ([0, 0, 0, 0, 0, 0, 0, 0] ++ Bt.body x).length := ⟨_, rfl⟩
    rw [← hL] at hv2 hcl htk
    have hL8 : L = (Bt.body x).length + 8 := by rw [hL]; simp
    rw [hmx] at hcx
    have HH2 := hide hh2
    have HTK := hide htk
    have HTN := hide htn
    have HL := hide hL
    have hL6 : 8 ≤ L ∧ L ≤ 30026 := by omega
    have HL8 := hide hL8
    subst hv2
    clear hh2 htk htn hL hL8 ht2 ho2
    have hew : Bt.encErr x = if 6000 < L then 4 else 0 := by
      unfold Bt.encErr
      rw [if_pos HCE.out.symm, ← HL8.out]
    have HEW := hide hew
    clear hew hbl
    by_cases hbig : 6000 < L
    · have he : Bt.encErr x = 4 := by rw [HEW.out, if_pos hbig]
      have HE := hide he
      clear he
      go_wp2
      go_ret2
      refine ⟨_, by rw [HE.out]; rfl, HTN.out, ?_⟩
      unfold encR
      rw [HE.out]
      exact .inl ⟨rfl, rfl⟩
    · have he : Bt.encErr x = 0 := by rw [HEW.out, if_neg hbig]
      have HE := hide he
      clear he
      go_wp2_with fail
      refine (setFour_any _ g2 0 cur HH2.out (by omega) L cap L (by omega) (by omega) (by omega)).mono ?_
      rintro e w3 ⟨rfl, ht3, hh3⟩
      have htn3 : Turn [] w w3 := HTN.out.trans ht3 (fun k hk => .inr (by simp at hk; omega))
      have htk3 := set4_0 (n := L) (L := L) (a := 0) (b := 0) (c := 0) (d := 0) (post := [0, 0, 0, 0] ++ Bt.body x) (by have := HL8.out; simp; omega) HTK.out
      have HH3 := hide hh3
      have HTN3 := hide htn3
      have HTK3 := hide htk3
      clear ht3 hh3 htn3 htk3
      have hbp := body_pos x
      have hs4 : ∀ w, (Instr.slice 50 (.slice (some ⟨g2, 0, none⟩) L cap) (some (.int .i64 4)) none none).run Tryz.prog w = .ok (.slice (some ⟨g2, 4, none⟩) (L - 4) (cap - 4)) w := by
        intro w
        have h := run_from (some ⟨g2, 0, none⟩) L cap 4 (by omega) w
        have h1 : ¬ cap = 4 := by omega
        simpa [advA, h1, addr_add] using h
      have hs8 : ∀ w, (Instr.slice 50 (.slice (some ⟨g2, 0, none⟩) L cap) (some (.int .i64 8)) none none).run Tryz.prog w = .ok (.slice (some ⟨g2, 8, none⟩) (L - 8) (cap - 8)) w := by
        intro w
        have h := run_from (some ⟨g2, 0, none⟩) L cap 8 (by omega) w
        have h1 : ¬ cap = 8 := by have := HL8.out; omega
        simpa [advA, h1, addr_add] using h
      have hsm : SliceAt w3.drew (.slice (some ⟨g2, 8, none⟩) (L - 8) (cap - 8)) ((Bt.body x).map encB) := by
        have hlen4 : (Bt.four L ++ ([0, 0, 0, 0] ++ Bt.body x)).length = L := by have := HL8.out; simp [Bt.four_len]; omega
        have h := row_drop (bs := Bt.four L ++ ([0, 0, 0, 0] ++ Bt.body x)) HH3.out (by rw [hlen4]; exact HTK3.out) 8 (cap - 8)
        rw [hlen4] at h
        exact h.kept ((Turn.refl [] _).drew) (by simp)
      have HSM := hide hsm
      clear hsm
      go_wp2
      refine wp_region_tail 5 (fun a b => a = b) (by kernel_rfl) (by kernel_rfl) (by kernel_rfl) (by kernel_rfl) (by kernel_rfl) (Nat.le_of_ble_eq_true rfl) rfl (fun _ => rfl) (fun _ _ _ h k => h.trans k) ?_
      apply Lo.runx 1 rfl rfl [] (by kernel_rfl) (fun _ => rfl)
      apply Exists.intro; apply And.intro
      · intro u w1 hR hF
        clear hF
        subst hR
        refine ⟨rfl, fun a ha K hK => ?_⟩
        have e5 := ha 5
        conv at e5 => rhs; whnf
        clear ha
        go_simp
        refine hK _ ?_; rfl
      apply Lo.runx 2 rfl rfl [0] (by kernel_rfl) (fun _ => rfl)
      apply Exists.intro; apply And.intro
      · intro u w1 hR hF
        obtain ⟨h0, -⟩ := hF
        subst hR
        refine ⟨rfl, fun a ha K hK => ?_⟩
        have e22 := (ha 22).trans h0
        clear ha h0
        go_simp
        refine hK _ ?_; rfl
      apply Lo.runx 3 rfl rfl [] (by kernel_rfl) (fun _ => rfl)
      apply Exists.intro; apply And.intro
      · intro u w1 hR hF
        clear hF
        subst hR
        refine ⟨rfl, fun a ha K hK => ?_⟩
        have e5 := ha 5
        conv at e5 => rhs; whnf
        clear ha
        go_simp
        refine hK _ ?_; rfl
      apply Lo.runx 4 rfl rfl [2] (by kernel_rfl) (fun _ => rfl)
      apply Exists.intro; apply And.intro
      · intro u w1 hR hF
        obtain ⟨h2, -⟩ := hF
        subst hR
        refine ⟨rfl, fun a ha K hK => ?_⟩
        have e24 := (ha 24).trans h2
        clear ha h2
        go_simp
        refine hK _ ?_; rfl
      refine Lo.run 5 rfl rfl [3] (fun y _ => y = .int .i64 (Cr.sum (Bt.body x) : Nat)) (by kernel_rfl) (fun x w w' h hR => ?_) (fun _ _ h => h) (fun u w1 hR hF => ?_) ?_
      · exact h
      · obtain ⟨h3, -⟩ := hF
        subst hR
        refine ⟨rfl, fun a ha K hK => ?_⟩
        have e25 := (ha 25).trans h3
        clear ha h3
        go_simp
        refine (sum_any _ _ (Bt.body x) HSM.out (by have := HL8.out; omega)).mono ?_
        rintro e w4 ⟨rfl, rfl⟩
        exact hK _ _ rfl rfl
      refine Lo.done [1, 4] (fun u w1 hRd hSd hF => ?_)
      clear hSd
      obtain ⟨f1, f4, -⟩ := hF
      subst hRd
      have d1 : u 1 = _ := f1
      have d4 := (show (fun y _ => y = .int .i64 (Cr.sum (Bt.body x) : Nat)) (u 4) w1 from f4)
      dsimp only at d4
      clear f1 f4
      simp only [List.take_succ_cons, List.take_zero, List.drop_succ_cons, List.drop_zero, putFrom, Act.put, List.setIfInBounds_toArray, List.set_cons_succ, List.set_cons_zero, Nat.zero_add, Nat.reduceAdd, d1]
      rw [d4]
      clear d1 d4 hs4 hs8
      have hcrc := Cr.crc_lt (Bt.body x)
      go_wp2_with fail
      refine (setFour_any w3.drew g2 4 (set4 cur 0 L) HH3.out (by rw [set4_size]; omega) (L - 4) (cap - 4) (Cr.sum (Bt.body x)) (by omega) (by omega) (by unfold Cr.sum; omega)).mono ?_
      rintro e w4 ⟨rfl, ht4, hh4⟩
      have htn4 : Turn [] w w4 := HTN3.out.drew.trans ht4 (fun k hk => .inr (by simp at hk; omega))
      have htk4 := set4_4 (n := Cr.sum (Bt.body x)) (L := L) (post := Bt.body x) HL8.out (by simpa [Bt.four] using HTK3.out)
      have HH4 := hide hh4
      have HTN4 := hide htn4
      have HTK4 := hide htk4
      clear ht4 hh4 htn4 htk4
      go_wp2
      go_ret2
      refine ⟨_, by rw [HE.out]; rfl, HTN4.out, ?_⟩
      unfold encR
      rw [HE.out, if_pos rfl]
      have hel := Bt.encB_len x
      have hlL : L = (Bt.encB x).length := by rw [hel]; exact HL8.out
      refine .inr ⟨g2, cap, _, by rw [← hlL]; rfl, hb2, HH4.out, by rw [← hlL]; exact hcl, by rw [set4_size, set4_size]; exact hcs, by rw [hmx]; omega, ?_⟩
      rw [← hlL, HTK4.out]
      unfold Bt.encB
      rw [← HL8.out]
      simp [Bt.four]
  · simp only [As.errN, h0, if_false]
    go_wp2
    go_ret2
    have he : Bt.encErr x = ce := by unfold Bt.encErr; rw [← HCE.out, if_neg h0]
    refine ⟨_, by rw [he]; simp only [As.errN, h0, if_false]; rfl, ((Turn.refl [] w).alloc _).same HT1.out, ?_⟩
    unfold encR
    rw [he, if_neg h0]
    exact .inl ⟨rfl, rfl⟩
end Go.Proofs.YthbhfhagbaommaaGreatDoor

/- record.Decode. -/
namespace Go.Proofs.YthbhfhagbaommaaGreatDoor
open Go.RowKit Go.Maps
set_option maxRecDepth 100000
set_option linter.unusedSimpArgs false
set_option linter.unusedVariables false

def noBat : Bt.Bat := ⟨0, 0, []⟩
/-- What is between a batch's head and its end. -/
def midB (b : List UInt8) : List UInt8 := (b.take (Bt.fourV b)).drop 8
def isB (b : List UInt8) (x : Bt.Bat) : Prop := Bt.encErr x = 0 ∧ Bt.encB x = b.take (Bt.fourV b)
instance (b : List UInt8) (x : Bt.Bat) : Decidable (isB b x) := by unfold isB; exact inferInstance
/-- What Decode answers. -/
def dec (b : List UInt8) : Bt.Bat × Nat × Int :=
  if b.length < 8 then (noBat, 0, 12) else if Bt.fourV b < 11 ∨ 6000 < Bt.fourV b then (noBat, 0, 3) else if b.length < Bt.fourV b then (noBat, 0, 12) else if isB b (Bt.bat1 (midB b)) then (Bt.bat1 (midB b), Bt.fourV b, 0) else (noBat, 0, 3)

theorem equal_any (w : World) (v x : Value) (a b : List UInt8) (hv : BytesAt w v a) (hx : BytesAt w x b) :
    Calls Tryz.prog 165 #[v, x] w fun e w' => e = .returned (.bool (a == b)) ∧ w = w' := by
  have h1 := hv.conv
  have h2 := hx.conv
  clear hv hx
  go_enter Tryz.func165, Tryz.ntmps165
  go_wp2
  go_ret
  exact ⟨rfl, rfl⟩
theorem bat1_ok (l : List UInt8) (hl : l.length ≤ 1000000) : 0 ≤ (Bt.bat1 l).base ∧ (Bt.bat1 l).base ≤ 1099511627776 ∧ 0 ≤ (Bt.bat1 l).fin ∧ (Bt.bat1 l).fin ≤ 2199023255552 ∧ ∀ r ∈ (Bt.bat1 l).recs, RecOk r := by
  have g0 := num_len l
  have g1 := num_len (Bt.num l).2
  have g2 := num_len (Bt.num (Bt.num l).2).2
  unfold Bt.bat1
  simp only
  exact ⟨by omega, by omega, by omega, by omega, recs1_ok _ (by omega) (by omega) _ _ (by omega)⟩

set_option maxHeartbeats 4000000 in
theorem dec_own (w : World) (v : Value) (b : List UInt8) (hx : BytesAt w v b) (hl : b.length ≤ 9223372036854775807) :
    Calls Tryz.prog 133 #[v] w fun e w' => ∃ sv, e = .returned (.tuple #[.agg #[.int .i64 (dec b).1.base, .int .i64 (dec b).1.fin, sv], .int .i64 (dec b).2.1, As.errN (dec b).2.2]) ∧ RecRow w' w.heap.size sv (dec b).1.recs ∧ (∀ r ∈ (dec b).1.recs, RecOk r) ∧ Turn [] w w' := by
  have HX := hide hx
  obtain ⟨a, c, rfl, hlc, hcm, hc⟩ := hx.form
  have hmx : maxLen = 9223372036854775807 := by simp [maxLen]
  rw [hmx] at hcm
  clear hx hc
  have nil0 : ∀ Z, RecsAt Z (.slice none 0 0) [] := fun Z => ⟨none, 0, rfl, Nat.le_refl _, Nat.zero_le _, fun _ => rfl, fun j hj => absurd hj (Nat.not_lt_zero _)⟩
  have NIL := hide nil0
  clear nil0
  by_cases h8 : b.length < 8
  · have hd : dec b = (noBat, 0, 12) := by unfold dec; rw [if_pos h8]
    rw [hd]
    clear hd
    go_enter Tryz.func133, Tryz.ntmps133
    go_wp2
    have hld := load_bat (heap_new w (.cells #[.int .i64 0, .int .i64 0, .slice none 0 0] 70))
    refine bodyPost_ret (v := .tuple #[.agg #[.int .i64 0, .int .i64 0, .slice none 0 0], .int .i64 0, .iface 56 (.int .i64 12)]) (by simp [results, Tryz.results133, asAddr, hld, Result.andThen]) rfl ?_
    exact ⟨_, rfl, .inl ⟨rfl, rfl⟩, fun r hr => absurd hr (by simp [noBat]), (Turn.refl [] w).alloc _⟩
  obtain ⟨n, hn⟩ : ∃ n, Bt.fourV b = n := ⟨_, rfl⟩
  have HN := hide hn
  by_cases hs : n < 11
  · have hd : dec b = (noBat, 0, 3) := by unfold dec; rw [if_neg h8, if_pos (.inl (by omega))]
    rw [hd]
    clear hd
    go_enter Tryz.func133, Tryz.ntmps133
    go_wp2_with fail
    refine (four_any _ _ b (HX.out.still ((Turn.refl [] w).alloc _)) (by omega)).mono ?_
    rintro e w1 ⟨rfl, rfl⟩
    rw [HN.out]
    go_wp2
    have hld := load_bat (w := (w.alloc (.cells #[.int .i64 0, .int .i64 0, .slice none 0 0] 70)).drew) (heap_new w (.cells #[.int .i64 0, .int .i64 0, .slice none 0 0] 70))
    refine bodyPost_ret (v := .tuple #[.agg #[.int .i64 0, .int .i64 0, .slice none 0 0], .int .i64 0, .iface 56 (.int .i64 3)]) (by simp [results, Tryz.results133, asAddr, hld, Result.andThen]) rfl ?_
    exact ⟨_, rfl, .inl ⟨rfl, rfl⟩, fun r hr => absurd hr (by simp [noBat]), ((Turn.refl [] w).alloc _).drew⟩
  by_cases hg : 6000 < n
  · have hd : dec b = (noBat, 0, 3) := by unfold dec; rw [if_neg h8, if_pos (.inr (by omega))]
    rw [hd]
    clear hd
    go_enter Tryz.func133, Tryz.ntmps133
    go_wp2_with fail
    refine (four_any _ _ b (HX.out.still ((Turn.refl [] w).alloc _)) (by omega)).mono ?_
    rintro e w1 ⟨rfl, rfl⟩
    rw [HN.out]
    go_wp2
    have hld := load_bat (w := (w.alloc (.cells #[.int .i64 0, .int .i64 0, .slice none 0 0] 70)).drew) (heap_new w (.cells #[.int .i64 0, .int .i64 0, .slice none 0 0] 70))
    refine bodyPost_ret (v := .tuple #[.agg #[.int .i64 0, .int .i64 0, .slice none 0 0], .int .i64 0, .iface 56 (.int .i64 3)]) (by simp [results, Tryz.results133, asAddr, hld, Result.andThen]) rfl ?_
    exact ⟨_, rfl, .inl ⟨rfl, rfl⟩, fun r hr => absurd hr (by simp [noBat]), ((Turn.refl [] w).alloc _).drew⟩
  by_cases hsh : b.length < n
  · have hd : dec b = (noBat, 0, 12) := by unfold dec; rw [if_neg h8, if_neg (by omega), if_pos (by omega)]
    rw [hd]
    clear hd
    go_enter Tryz.func133, Tryz.ntmps133
    go_wp2_with fail
    refine (four_any _ _ b (HX.out.still ((Turn.refl [] w).alloc _)) (by omega)).mono ?_
    rintro e w1 ⟨rfl, rfl⟩
    rw [HN.out]
    go_wp2
    have hld := load_bat (w := (w.alloc (.cells #[.int .i64 0, .int .i64 0, .slice none 0 0] 70)).drew) (heap_new w (.cells #[.int .i64 0, .int .i64 0, .slice none 0 0] 70))
    refine bodyPost_ret (v := .tuple #[.agg #[.int .i64 0, .int .i64 0, .slice none 0 0], .int .i64 0, .iface 56 (.int .i64 12)]) (by simp [results, Tryz.results133, asAddr, hld, Result.andThen]) rfl ?_
    exact ⟨_, rfl, .inl ⟨rfl, rfl⟩, fun r hr => absurd hr (by simp [noBat]), ((Turn.refl [] w).alloc _).drew⟩
  have hmid : midB b = (b.take n).drop 8 := by unfold midB; rw [hn]
  have hml : ((b.take n).drop 8).length = n - 8 := by simp; omega
  have hsl : ∀ w, (Instr.slice 50 (.slice a b.length c) (some (.int .i64 8)) (some (.int .i64 (n : Int))) none).run Tryz.prog w = .ok (.slice (advA a 8 c) (n - 8) (c - 8)) w := fun w => by simpa using @run_from_to a b.length c 8 n (by omega) (by omega) w
  have hst : ∀ w, (Instr.slice 50 (.slice a b.length c) none (some (.int .i64 (n : Int))) none).run Tryz.prog w = .ok (.slice a n c) w := fun w => @run_to a b.length c n (by omega) w
  have htk : BytesAt w (.slice a n c) (b.take n) := HX.out.take (by omega)
  have HTK := hide htk
  have hbm : ∀ Z, Turn [] w Z → BytesAt Z (.slice (advA a 8 c) (n - 8) (c - 8)) ((b.take n).drop 8) := by
    intro Z hZ
    have h1 : (b.take n).length = n := by simp; omega
    have h2 := BytesAt.drop (n := 8) (by rw [h1]; exact htk) (by omega : 8 ≤ (b.take n).length)
    rw [h1] at h2
    exact h2.still hZ
  have HBM := hide hbm
  have hown : ∀ k ∈ (Value.slice (advA a 8 c) (n - 8) (c - 8)).ownBlock, k < w.heap.size := fun k hk =>
    HX.out.lt (fun e => by rw [e] at h8; simp at h8) k (advA_own (l' := b.length) k hk)
  have HOWN := hide hown
  obtain ⟨x, hxx⟩ : ∃ x, x = Bt.bat1 ((b.take n).drop 8) := ⟨_, rfl⟩
  obtain ⟨k1, k2, k3, k4, k5⟩ := bat1_ok ((b.take n).drop 8) (by omega)
  rw [← hxx] at k1 k2 k3 k4 k5
  have HK5 := hide k5
  have HXX := hide hxx
  have HD : Hid (dec b = if isB b x then (x, n, 0) else (noBat, 0, 3)) := by
    show _ = _
    unfold dec
    rw [if_neg h8, if_neg (by omega), if_neg (by omega), hmid, ← hxx, hn]
  have HML := hide hml
  clear hmid htk hbm hown hxx k5 hn hml
  go_enter Tryz.func133, Tryz.ntmps133
  go_wp2_with fail
  refine (four_any _ _ b (HX.out.still ((Turn.refl [] w).alloc _)) (by omega)).mono ?_
  rintro e w1 ⟨rfl, rfl⟩
  rw [HN.out]
  go_wp2_with fail
  have hrd : RdAt ((w.alloc (.cells #[.int .i64 0, .int .i64 0, .slice none 0 0] 70)).alloc (.cells #[.slice (advA a 8 c) (n - 8) (c - 8)] 220)).drew (w.heap.size + 1) w.heap.size ((b.take n).drop 8) := by
    refine ⟨_, ?_, HBM.out _ (((Turn.refl [] w).alloc _).alloc _).drew, fun _ => HOWN.out⟩
    have := heap_new (w.alloc (.cells #[.int .i64 0, .int .i64 0, .slice none 0 0] 70)) (.cells #[.slice (advA a 8 c) (n - 8) (c - 8)] 220)
    rwa [World.size_alloc] at this
  refine (batch_any _ (w.heap.size + 1) w.heap.size _ hrd (by omega) (by rw [HML.out]; omega)).mono ?_
  rintro e w3 ⟨sv, rfl, hrow3, ht3⟩
  rw [← HXX.out] at hrow3 ⊢
  obtain ⟨sa, sn, sc, hsv⟩ := hrow3.some_slice
  subst hsv
  have htw3 : Turn [] w w3 := ((((Turn.refl [] w).alloc _).alloc _).drew).trans ht3 (fun k hk => .inr (by simp at hk; omega))
  have hy3 : w3.heap[w.heap.size]? = some (.cells #[.int .i64 0, .int .i64 0, .slice none 0 0] 70 (0, 0)) := ht3.heap (((Turn.refl [] (w.alloc (.cells #[.int .i64 0, .int .i64 0, .slice none 0 0] 70))).alloc (.cells #[.slice (advA a 8 c) (n - 8) (c - 8)] 220)).drew.heap (heap_new w _) (by simp)) (by simp)
  have hsz3 : w.heap.size + 1 < w3.heap.size := by have := ht3.size; simp at this; omega
  have hrs : RecsAt w3 (.slice sa sn sc) x.recs := hrow3.recs HK5.out
  have hrl : ∀ k ∈ (Value.slice sa sn sc).ownBlock, w.heap.size + 1 ≤ k := fun k hk => by have := (hrow3.lt k hk).1; simp at this; omega
  have hrow3b : RecRow w3 w.heap.size (.slice sa sn sc) x.recs := by
    rcases hrow3 with h | ⟨g, cap, cur, e, hb, r⟩
    · exact .inl h
    · exact .inr ⟨g, cap, cur, e, by simp at hb; omega, r⟩
  have HLT := hide hrl
  have hall : ∀ Q, Turn [] (w3.alloc (.cells #[.int .i64 x.base, .int .i64 x.fin, .slice sa sn sc] 70)) Q → (w.heap.size + 1 < Q.heap.size ∧ w3.heap.size < Q.heap.size) ∧
      (Q.cell? ⟨w3.heap.size, 0, none⟩ = some (.int .i64 x.base) ∧ Q.cell? ⟨w3.heap.size, 1, none⟩ = some (.int .i64 x.fin) ∧ Q.cell? ⟨w3.heap.size, 2, none⟩ = some (.slice sa sn sc)) ∧
      Q.heap[w.heap.size]? = some (.cells #[.int .i64 0, .int .i64 0, .slice none 0 0] 70 (0, 0)) ∧ BatAt Q (.agg #[.int .i64 x.base, .int .i64 x.fin, .slice sa sn sc]) x ∧ Turn [] w Q ∧ RecRow Q w.heap.size (.slice sa sn sc) x.recs := by
    intro Q hQ
    have hq := hQ.heap (heap_new w3 _) (by simp)
    have hs := hQ.size
    simp at hs
    have ht : Turn [] w3 Q := ((Turn.refl [] w3).alloc _).same hQ
    exact ⟨⟨by omega, by omega⟩, ⟨by simpa using cell_of hq 0, by simpa using cell_of hq 1, by simpa using cell_of hq 2⟩, ht.heap hy3 (by simp), ⟨_, rfl, hrs.still ht, by omega, by omega, by omega, by omega⟩, htw3.same ht, hrow3b.kept ht (by simp)⟩
  have HALL := hide hall
  clear hrd hrow3 hrow3b ht3 htw3 hy3 hrs hall hrl
  go_wp2_with fail
  refine (enc_any _ _ x (HALL.out _ (Turn.refl _ _)).2.2.2.1).mono ?_
  rintro e w4 ⟨v4, rfl, ht4, hr4⟩
  have HT4 := hide ht4
  have HR4 := hide hr4.bytes
  clear ht4 hr4
  obtain ⟨⟨z1, z2⟩, ⟨c0, c1, c2⟩, hy4, -, -⟩ := HALL.out _ HT4.out
  have y0 : w4.cell? ⟨w.heap.size, 0, none⟩ = some (.int .i64 0) := by simpa using cell_of hy4 0
  have y1 : w4.cell? ⟨w.heap.size, 1, none⟩ = some (.int .i64 0) := by simpa using cell_of hy4 1
  have y2 : w4.cell? ⟨w.heap.size, 2, none⟩ = some (.slice none 0 0) := by simpa using cell_of hy4 2
  have q0 : w4.frozen? ⟨w.heap.size, 0, none⟩ = false := frozen_of hy4 0
  have q1 : w4.frozen? ⟨w.heap.size, 1, none⟩ = false := frozen_of hy4 1
  have q2 : w4.frozen? ⟨w.heap.size, 2, none⟩ = false := frozen_of hy4 2
  have HY4 := hide hy4
  clear hy4
  have hfin : ∀ (p q : Int) (s : Value), Turn [] w (((w4.setCell ⟨w.heap.size, 0, none⟩ (.int .i64 p)).setCell ⟨w.heap.size, 1, none⟩ (.int .i64 q)).setCell ⟨w.heap.size, 2, none⟩ s) ∧ Turn [w.heap.size] w4 (((w4.setCell ⟨w.heap.size, 0, none⟩ (.int .i64 p)).setCell ⟨w.heap.size, 1, none⟩ (.int .i64 q)).setCell ⟨w.heap.size, 2, none⟩ s) ∧
      (((w4.setCell ⟨w.heap.size, 0, none⟩ (.int .i64 p)).setCell ⟨w.heap.size, 1, none⟩ (.int .i64 q)).setCell ⟨w.heap.size, 2, none⟩ s).heap[w.heap.size]? = some (.cells #[.int .i64 p, .int .i64 q, s] 70 (0, 0)) := by
    intro p q s
    have ht : Turn [w.heap.size] w4 (((w4.setCell ⟨w.heap.size, 0, none⟩ (.int .i64 p)).setCell ⟨w.heap.size, 1, none⟩ (.int .i64 q)).setCell ⟨w.heap.size, 2, none⟩ s) := (((Turn.refl _ _).setCell (.inl (by simp)) _).setCell (.inl (by simp)) _).setCell (.inl (by simp)) _
    exact ⟨(HALL.out _ HT4.out).2.2.2.2.1.trans ht (fun k hk => .inr (by simp at hk; omega)), ht, by simpa using heap_set (heap_set (heap_set HY4.out 0 (.int .i64 p)) 1 (.int .i64 q)) 2 s⟩
  have HFIN := hide hfin
  clear hfin
  obtain ⟨er, her⟩ : ∃ er, Bt.encErr x = er := ⟨_, rfl⟩
  rw [her]
  have HER := hide her
  clear her
  by_cases h0 : er = 0
  · subst h0
    have hrb : encR x = Bt.encB x := by unfold encR; rw [if_pos HER.out]
    have h4 := HR4.out
    rw [hrb] at h4
    have H4 := hide h4
    have htk4 := HTK.out.still (HALL.out _ HT4.out).2.2.2.2.1
    have HTK4 := hide htk4
    clear hrb h4 htk4
    simp only [As.errN, if_true]
    go_wp2_with fail
    refine (equal_any _ _ _ (Bt.encB x) (b.take n) H4.out HTK4.out).mono ?_
    rintro e w5 ⟨rfl, rfl⟩
    by_cases heq : Bt.encB x = b.take n
    · have hbq : (Bt.encB x == b.take n) = true := by simpa using heq
      have HDD : Hid (dec b = (x, n, 0)) := by show _ = _; rw [HD.out, if_pos ⟨HER.out, by rw [HN.out]; exact heq⟩]
      rw [hbq]
      clear heq hbq
      go_wp2
      have hf := HFIN.out x.base x.fin (.slice sa sn sc)
      have hld := load_bat hf.2.2
      refine bodyPost_ret (v := .tuple #[.agg #[.int .i64 x.base, .int .i64 x.fin, .slice sa sn sc], .int .i64 n, .nilIface]) (by simp [results, Tryz.results133, asAddr, hld, Result.andThen]) rfl ?_
      rw [HDD.out]
      refine ⟨.slice sa sn sc, rfl, (HALL.out _ HT4.out).2.2.2.2.2.kept hf.2.1 (fun k hk hm => ?_), HK5.out, hf.1⟩
      have := HLT.out k hk
      simp at hm
      omega
    · have hbq : (Bt.encB x == b.take n) = false := by simpa using heq
      have HDD : Hid (dec b = (noBat, 0, 3)) := by show _ = _; rw [HD.out, if_neg (fun h => heq (by have := h.2; rwa [HN.out] at this))]
      rw [hbq]
      clear heq hbq
      go_wp2
      have hf := HFIN.out 0 0 (.slice none 0 0)
      have hld := load_bat hf.2.2
      refine bodyPost_ret (v := .tuple #[.agg #[.int .i64 0, .int .i64 0, .slice none 0 0], .int .i64 0, .iface 56 (.int .i64 3)]) (by simp [results, Tryz.results133, asAddr, hld, Result.andThen]) rfl ?_
      rw [HDD.out]
      exact ⟨_, rfl, .inl ⟨rfl, rfl⟩, fun r hr => absurd hr (by simp [noBat]), hf.1⟩
  · simp only [As.errN, h0, if_false]
    have HDD : Hid (dec b = (noBat, 0, 3)) := by show _ = _; rw [HD.out, if_neg (fun h => h0 (HER.out.symm.trans h.1))]
    go_wp2
    have hf := HFIN.out 0 0 (.slice none 0 0)
    have hld := load_bat hf.2.2
    refine bodyPost_ret (v := .tuple #[.agg #[.int .i64 0, .int .i64 0, .slice none 0 0], .int .i64 0, .iface 56 (.int .i64 3)]) (by simp [results, Tryz.results133, asAddr, hld, Result.andThen]) rfl ?_
    rw [HDD.out]
    exact ⟨_, rfl, .inl ⟨rfl, rfl⟩, fun r hr => absurd hr (by simp [noBat]), hf.1⟩
theorem dec_fresh (w : World) (v : Value) (b : List UInt8) (hx : BytesAt w v b) (hl : b.length ≤ 9223372036854775807) :
    Calls Tryz.prog 133 #[v] w fun e w' => ∃ sv, e = .returned (.tuple #[.agg #[.int .i64 (dec b).1.base, .int .i64 (dec b).1.fin, sv], .int .i64 (dec b).2.1, As.errN (dec b).2.2]) ∧ RecsAt w' sv (dec b).1.recs ∧ Turn [] w w' ∧ ((dec b).1.recs ≠ [] → ∀ k ∈ sv.ownBlock, w.heap.size ≤ k) :=
  (dec_own w v b hx hl).mono fun e w' ⟨sv, h1, h2, h3, h4⟩ => ⟨sv, h1, h2.recs h3, h4, fun _ k hk => (h2.lt k hk).1⟩
theorem dec_any (w : World) (v : Value) (b : List UInt8) (hx : BytesAt w v b) (hl : b.length ≤ 9223372036854775807) :
    Calls Tryz.prog 133 #[v] w fun e w' => ∃ sv, e = .returned (.tuple #[.agg #[.int .i64 (dec b).1.base, .int .i64 (dec b).1.fin, sv], .int .i64 (dec b).2.1, As.errN (dec b).2.2]) ∧ RecsAt w' sv (dec b).1.recs ∧ Turn [] w w' :=
  (dec_fresh w v b hx hl).mono fun e w' ⟨sv, h1, h2, h3, _⟩ => ⟨sv, h1, h2, h3⟩
end Go.Proofs.YthbhfhagbaommaaGreatDoor

/- One bit that turned is seen: the check tells any byte that changed; no beginning of a batch's body is one. No program. -/
namespace Go.Proofs.YthbhfhagbaommaaGreatDoor.Cr
set_option linter.unusedSimpArgs false
set_option linter.unusedVariables false

theorem xr {a b c : Nat} (h : c ^^^ a = c ^^^ b) : a = b := by
  have := congrArg (c ^^^ ·) h
  simpa [← Nat.xor_assoc] using this
theorem xl {a b c : Nat} (h : a ^^^ c = b ^^^ c) : a = b := xr (c := c) (by rwa [Nat.xor_comm c, Nat.xor_comm c])
theorem top_step {s : Nat} (h : s < 4294967296) : (step s).testBit 31 = decide (s % 2 = 1) := by
  unfold step
  rw [Nat.testBit_xor]
  have h1 : (s / 2).testBit 31 = false := Nat.testBit_lt_two_pow (by omega)
  rw [h1]
  have : s % 2 = 0 ∨ s % 2 = 1 := by omega
  rcases this with e | e <;> rw [e] <;> decide
theorem step_inj {s t : Nat} (hs : s < 4294967296) (ht : t < 4294967296) (h : step s = step t) : s = t := by
  have h1 : s % 2 = t % 2 := by
    have := (top_step hs).symm.trans ((congrArg (fun x => Nat.testBit x 31) h).trans (top_step ht))
    have := decide_eq_decide.1 this
    omega
  have h2 : s / 2 = t / 2 := by
    unfold step at h
    rw [h1] at h
    exact xl h
  omega
theorem steps_inj {s t : Nat} (hs : s < 4294967296) (ht : t < 4294967296) : ∀ n, steps n s = steps n t → s = t
  | 0, h => h
  | n + 1, h => steps_inj hs ht n (step_inj (steps_lt hs n) (steps_lt ht n) h)
theorem byte_inj {s t : Nat} (hs : s < 4294967296) (ht : t < 4294967296) {c d : UInt8} (h : byte s c = byte t d) : s ^^^ c.toNat = t ^^^ d.toNat := steps_inj (xor_lt hs c) (xor_lt ht d) 8 h
theorem fold_inj (bs : List UInt8) : ∀ s t, s < 4294967296 → t < 4294967296 → bs.foldl byte s = bs.foldl byte t → s = t := by
  induction bs with
  | nil => intro s t _ _ h; exact h
  | cons c bs ih =>
    intro s t hs ht h
    have := byte_inj hs ht (ih _ _ (byte_lt hs c) (byte_lt ht c) h)
    exact xl this
theorem crc_byte (pre post : List UInt8) {c d : UInt8} (h : crc (pre ++ c :: post) = crc (pre ++ d :: post)) : c = d := by
  unfold crc at h
  rw [List.foldl_append, List.foldl_append, List.foldl_cons, List.foldl_cons] at h
  have h0 : pre.foldl byte 4294967295 < 4294967296 := fold_lt pre _ (by omega)
  have h1 := byte_inj h0 h0 (fold_inj post _ _ (byte_lt h0 c) (byte_lt h0 d) h)
  exact UInt8.toNat_inj.1 (xr h1)
theorem sum_byte (pre post : List UInt8) {c d : UInt8} (h : sum (pre ++ c :: post) = sum (pre ++ d :: post)) : c = d := by
  have h1 := crc_lt (pre ++ c :: post)
  have h2 := crc_lt (pre ++ d :: post)
  unfold sum at h
  exact crc_byte pre post (by omega)
theorem sum_lt (bs : List UInt8) : sum bs < 4294967296 := by unfold sum; omega
end Go.Proofs.YthbhfhagbaommaaGreatDoor.Cr
namespace Go.Proofs.YthbhfhagbaommaaGreatDoor.Bt
open Go.Proofs.YthbhfhagbaommaaGreatDoor
set_option linter.unusedSimpArgs false
set_option linter.unusedVariables false

theorem put_split {a b : Nat} (ha : a ≤ 1099511627776) (hb : b ≤ 1099511627776) {r s : List UInt8} (h : Nu.put a ++ r = Nu.put b ++ s) : a = b ∧ r = s := by
  have h1 := num_put ha r
  rw [h, num_put hb s] at h1
  simp only [Prod.mk.injEq] at h1
  exact ⟨h1.1.symm, h1.2.symm⟩
theorem recs_split {base : Int} (hB : 0 ≤ base) {hi : Int} (hT : hi ≤ 1099511627776) : ∀ (rs ss : List Rec) (lo lo' : Int), base ≤ lo → base ≤ lo' → recsErr rs lo hi = 0 → recsErr ss lo' hi = 0 → rs.length = ss.length →
    ∀ r s : List UInt8, recsB base rs ++ r = recsB base ss ++ s → r = s
  | [], [], _, _, _, _, _, _, _, r, s, h => by simpa [recsB] using h
  | [], _ :: _, _, _, _, _, _, _, hl, _, _, _ => by simp at hl
  | _ :: _, [], _, _, _, _, _, _, hl, _, _, _ => by simp at hl
  | x :: rs, y :: ss, lo, lo', hb, hb', h, h', hl, r, s, e => by
    have h1 : recErr x lo hi = 0 := by
      unfold recsErr at h
      split at h
      · assumption
      · exact h
    have h2 : recsErr rs (x.off + 1) hi = 0 := by
      unfold recsErr at h
      rwa [if_pos h1] at h
    have h1' : recErr y lo' hi = 0 := by
      unfold recsErr at h'
      split at h'
      · assumption
      · exact h'
    have h2' : recsErr ss (y.off + 1) hi = 0 := by
      unfold recsErr at h'
      rwa [if_pos h1'] at h'
    have hk := recErr_ok h1
    have hk' := recErr_ok h1'
    have ex : ∀ r, recsB base (x :: rs) ++ r = recB base x ++ (recsB base rs ++ r) := by intro r; simp [recsB]
    have ey : ∀ r, recsB base (y :: ss) ++ r = recB base y ++ (recsB base ss ++ r) := by intro r; simp [recsB]
    rw [ex, ey] at e
    have g := rec1_B h1 hb hB hT (recsB base rs ++ r)
    rw [e, rec1_B h1' hb' hB hT] at g
    simp only [Prod.mk.injEq] at g
    exact recs_split hB hT rs ss (x.off + 1) (y.off + 1) (by omega) (by omega) h2 h2' (by simpa using hl) r s g.2.symm
/-- No beginning of a batch's body is one. -/
theorem body_split {x y : Bat} (hx : chk x = 0) (hy : chk y = 0) {r s : List UInt8} (h : body x ++ r = body y ++ s) : r = s := by
  obtain ⟨h1, h2, h3, h4, h5, h6⟩ := chk_ok hx
  obtain ⟨k1, k2, k3, k4, k5, k6⟩ := chk_ok hy
  unfold body at h
  simp only [List.append_assoc] at h
  obtain ⟨e1, h⟩ := put_split (by omega) (by omega) h
  obtain ⟨e2, h⟩ := put_split (by omega) (by omega) h
  obtain ⟨e3, h⟩ := put_split (by omega) (by omega) h
  have e4 : y.base = x.base := by omega
  have e5 : y.fin = x.fin := by omega
  rw [e4] at h k6
  rw [e5] at k6
  exact recs_split h1 h2 x.recs y.recs x.base x.base (Int.le_refl _) (Int.le_refl _) h6 k6 e3 r s h
theorem four_inj {a b : Nat} (ha : a < 4294967296) (hb : b < 4294967296) (h : four a = four b) : a = b := by
  have h1 := fourV_four ha []
  rw [h, fourV_four hb] at h1
  exact h1.symm
theorem encErr_ok {x : Bat} (h : encErr x = 0) : chk x = 0 ∧ (body x).length + 8 ≤ 6000 := by
  unfold encErr at h
  split at h
  · rename_i hc
    split at h
    · omega
    · exact ⟨hc, by omega⟩
  · exact absurd h ‹_›
/-- A batch's bytes with one byte changed are no batch's. -/
theorem bit_seen {x y : Bat} (hx : encErr x = 0) (hy : encErr y = 0) (pre post : List UInt8) {c d : UInt8} (hcd : c ≠ d) (hb : encB x = pre ++ c :: post)
    (hn : fourV (pre ++ d :: post) ≤ (encB x).length) (h : encB y = (pre ++ d :: post).take (fourV (pre ++ d :: post))) : False := by
  obtain ⟨cx, lx⟩ := encErr_ok hx
  obtain ⟨cy, ly⟩ := encErr_ok hy
  have hlx := encB_len x
  have hly := encB_len y
  have hlen : (pre ++ d :: post).length = (encB x).length := by rw [hb]; simp
  generalize hb' : pre ++ d :: post = b' at *
  have hn2 : (encB y).length = fourV b' := by rw [h, List.length_take, Nat.min_eq_left (Nat.le_trans hn (Nat.le_of_eq hlen.symm))]
  have hfy : fourV b' = (body y).length + 8 := hn2.symm.trans hly
  have hyb : body y = (b'.take (fourV b')).drop 8 := by rw [← h, encB_drop]
  have hxb : body x = (encB x).drop 8 := (encB_drop x).symm
  have hx4 : (encB x).take 4 = four ((body x).length + 8) := by simp [encB, four]
  have hy4 : (encB y).take 4 = four ((body y).length + 8) := by simp [encB, four]
  have hx8 : ((encB x).drop 4).take 4 = four (Cr.sum (body x)) := by simp [encB, four]
  have hy8 : ((encB y).drop 4).take 4 = four (Cr.sum (body y)) := by simp [encB, four]
  have hfx : fourV (encB x) = (body x).length + 8 := by
    unfold encB; rw [List.append_assoc]; exact fourV_four (by omega) _
  by_cases h8 : 8 ≤ pre.length
  · -- behind the head
    have e4 : b'.take 8 = (encB x).take 8 := by
      rw [← hb', hb, List.take_append_of_le_length h8, List.take_append_of_le_length h8]
    have ef : fourV b' = fourV (encB x) := by
      have hv : ∀ l : List UInt8, fourV (l.take 8) = fourV l := by
        intro l
        unfold fourV
        simp [List.getD_eq_getElem?_getD, List.getElem?_take]
      rw [← hv b', e4, hv]
    have hyw : encB y = b' := by rw [h, List.take_of_length_le (by omega)]
    have es : four (Cr.sum (body x)) = four (Cr.sum (body y)) := by
      rw [← hx8, ← hy8, hyw]
      have : ∀ l : List UInt8, (l.drop 4).take 4 = (l.take 8).drop 4 := by intro l; rw [List.drop_take]
      rw [this, this, e4]
    have es' := four_inj (Cr.sum_lt _) (Cr.sum_lt _) es
    have hby : body y = pre.drop 8 ++ d :: post := by rw [← encB_drop, hyw, ← hb', List.drop_append_of_le_length h8]
    have hbx : body x = pre.drop 8 ++ c :: post := by rw [← encB_drop, hb, List.drop_append_of_le_length h8]
    rw [hbx, hby] at es'
    exact hcd (Cr.sum_byte _ _ es')
  · have hsame : b'.drop 8 = (encB x).drop 8 := by
      have hk : ∀ e : UInt8, (pre ++ e :: post).drop 8 = post.drop (7 - pre.length) := by
        intro e
        rw [List.drop_append, List.drop_eq_nil_of_le (by omega), List.nil_append, show 8 - pre.length = 7 - pre.length + 1 by omega, List.drop_succ_cons]
      rw [hb, ← hb', hk, hk]
    have hbody : body y ++ (body x).drop (body y).length = body x ++ [] := by
      have : body y = (body x).take (body y).length := by
        conv => lhs; rw [hyb, List.drop_take, hsame, ← hxb]
        congr 1; omega
      conv => lhs; lhs; rw [this]
      rw [List.take_append_drop, List.append_nil]
    have hnil := body_split cy cx hbody
    have hll : (body x).length ≤ (body y).length := List.drop_eq_nil_iff.1 hnil
    have hyw : encB y = b' := by rw [h, List.take_of_length_le (by omega)]
    have hll2 : (body y).length = (body x).length := by
      have := congrArg List.length hyw
      omega
    have hbe : body y = body x := by rw [← encB_drop, hyw, hsame, encB_drop]
    have : encB y = encB x := by unfold encB; rw [hbe]
    rw [hyw, ← hb', hb] at this
    have := List.append_cancel_left this
    simp at this
    exact hcd this.symm
end Go.Proofs.YthbhfhagbaommaaGreatDoor.Bt

/- What a batch's bytes tell is that batch again, whatever stands behind them; of a beginning of them, that it is too short; bytes of which one changed are none. -/
namespace Go.Proofs.YthbhfhagbaommaaGreatDoor
set_option maxRecDepth 100000
set_option linter.unusedSimpArgs false
set_option linter.unusedVariables false

theorem fourV_enc {x : Bt.Bat} (h : Bt.encErr x = 0) (more : List UInt8) : Bt.fourV (Bt.encB x ++ more) = (Bt.encB x).length := by
  obtain ⟨hc, hl⟩ := Bt.encErr_ok h
  have hlx := Bt.encB_len x
  rw [hlx]
  unfold Bt.encB
  rw [List.append_assoc, List.append_assoc]
  exact Bt.fourV_four (by omega) _
theorem dec_enc {x : Bt.Bat} (h : Bt.encErr x = 0) (more : List UInt8) : dec (Bt.encB x ++ more) = (x, (Bt.encB x).length, 0) := by
  obtain ⟨hc, hl⟩ := Bt.encErr_ok h
  have hlx := Bt.encB_len x
  have hb := body_pos x
  have hf := fourV_enc h more
  have ht : (Bt.encB x ++ more).take (Bt.encB x).length = Bt.encB x := by simp
  have hm : midB (Bt.encB x ++ more) = Bt.body x := by unfold midB; rw [hf, ht, Bt.encB_drop]
  unfold dec
  rw [hm, Bt.bat1_body hc, hf, List.length_append]
  generalize (Bt.encB x).length = L at *
  rw [if_neg (by omega), if_neg (by omega), if_neg (by omega), if_pos ⟨h, by rw [hf, ht]⟩]
theorem dec_short {x : Bt.Bat} (h : Bt.encErr x = 0) {k : Nat} (hk : k < (Bt.encB x).length) : dec ((Bt.encB x).take k) = (noBat, 0, 12) := by
  obtain ⟨hc, hl⟩ := Bt.encErr_ok h
  have hlx := Bt.encB_len x
  have hb := body_pos x
  have hf := fourV_enc h []
  rw [List.append_nil] at hf
  have hkl : ((Bt.encB x).take k).length = k := by rw [List.length_take]; exact Nat.min_eq_left (Nat.le_of_lt hk)
  unfold dec
  rw [hkl]
  by_cases h8 : k < 8
  · rw [if_pos h8]
  · have hf' : Bt.fourV ((Bt.encB x).take k) = (Bt.encB x).length := by
      rw [← hf]
      unfold Bt.fourV
      simp only [List.getD_eq_getElem?_getD, List.getElem?_take]
      rw [if_pos (by omega), if_pos (by omega), if_pos (by omega), if_pos (by omega)]
    rw [hf']
    generalize (Bt.encB x).length = L at *
    rw [if_neg h8, if_neg (by omega), if_pos hk]
theorem dec_bit {x : Bt.Bat} (h : Bt.encErr x = 0) (pre post : List UInt8) {c d : UInt8} (hcd : c ≠ d) (hb : Bt.encB x = pre ++ c :: post) : (dec (pre ++ d :: post)).2.2 ≠ 0 := by
  intro h0
  have hlen : (pre ++ d :: post).length = (Bt.encB x).length := by rw [hb]; simp
  unfold dec at h0
  split at h0
  · simp at h0
  split at h0
  · simp at h0
  split at h0
  · simp at h0
  rename_i h1
  split at h0
  · rename_i h2
    exact Bt.bit_seen h h2.1 pre post hcd hb (by rw [← hlen]; exact Nat.le_of_not_lt h1) h2.2
  · simp at h0
end Go.Proofs.YthbhfhagbaommaaGreatDoor

/- A torn end is seen: bytes that are a batch's but for its last three are no batch; the batches at the beginning of any bytes. No program. -/
namespace Go.Proofs.YthbhfhagbaommaaGreatDoor.Cr
set_option linter.unusedSimpArgs false
set_option linter.unusedVariables false

theorem step_xor (a b : Nat) : step (a ^^^ b) = step a ^^^ step b := by
  have h1 : (a ^^^ b) / 2 = a / 2 ^^^ b / 2 := by
    apply Nat.eq_of_testBit_eq
    intro i
    simp [Nat.testBit_div_two]
  have h2 : (a ^^^ b) % 2 = (a % 2 + b % 2) % 2 := by
    have hx := Nat.testBit_xor a b 0
    simp only [Nat.testBit_zero] at hx
    have ha : a % 2 = 0 ∨ a % 2 = 1 := by omega
    have hb : b % 2 = 0 ∨ b % 2 = 1 := by omega
    have hc : (a ^^^ b) % 2 = 0 ∨ (a ^^^ b) % 2 = 1 := by omega
    rcases ha with ha | ha <;> rcases hb with hb | hb <;> rcases hc with hc | hc <;> simp_all
  unfold step
  rw [h1, h2]
  have ha : a % 2 = 0 ∨ a % 2 = 1 := by omega
  have hb : b % 2 = 0 ∨ b % 2 = 1 := by omega
  rcases ha with ha | ha <;> rcases hb with hb | hb <;> rw [ha, hb]
  · simp
  · simp [Nat.xor_assoc]
  · simp only [Nat.mul_one, Nat.mul_zero, Nat.xor_zero, Nat.reduceMod, Nat.reduceAdd]
    rw [Nat.xor_assoc, Nat.xor_assoc, Nat.xor_comm (b / 2)]
  · simp only [Nat.mul_one, Nat.mul_zero, Nat.xor_zero, Nat.reduceMod, Nat.reduceAdd]
    rw [Nat.xor_assoc, Nat.xor_comm (b / 2), ← Nat.xor_assoc 3988292384, Nat.xor_self, Nat.zero_xor]
theorem steps_xor (a b : Nat) : ∀ n, steps n (a ^^^ b) = steps n a ^^^ steps n b
  | 0 => rfl
  | n + 1 => by rw [steps, steps_xor a b n, step_xor]; rfl
theorem steps_zero : ∀ n, steps n 0 = 0
  | 0 => rfl
  | n + 1 => by rw [steps, steps_zero n]; rfl
theorem step_small {s : Nat} (h : s < 4294967296) (h2 : step s < 2147483648) : s = 2 * step s := by
  have h3 : (step s).testBit 31 = false := Nat.testBit_lt_two_pow (by omega)
  rw [top_step h] at h3
  have h4 : s % 2 = 0 := by
    have := of_decide_eq_false h3
    omega
  unfold step
  rw [h4]
  simp
  omega
theorem steps_small {s : Nat} (h : s < 4294967296) : ∀ (n k : Nat), k + n ≤ 32 → steps n s < 2 ^ k → s = 2 ^ n * steps n s
  | 0, _, _, _ => by simp [steps]
  | n + 1, k, hk, hs => by
    have hs' : step (steps n s) < 2 ^ k := hs
    have hp : 2 ^ k ≤ 2 ^ 31 := Nat.pow_le_pow_right (by omega) (by omega)
    have h1 := step_small (steps_lt h n) (by omega)
    have h2 : steps n s < 2 ^ (k + 1) := by rw [Nat.pow_succ]; omega
    have h3 := steps_small h n (k + 1) (by omega) h2
    show s = 2 ^ (n + 1) * step (steps n s)
    rw [Nat.pow_succ, Nat.mul_assoc, ← h1]
    exact h3
theorem byte_xor {s t : Nat} (a b : UInt8) : byte s a ^^^ byte t b = steps 8 ((s ^^^ t) ^^^ (a.toNat ^^^ b.toNat)) := by
  unfold byte
  rw [← steps_xor]
  congr 1
  rw [Nat.xor_assoc, Nat.xor_assoc]
  congr 1
  rw [← Nat.xor_assoc, Nat.xor_comm a.toNat t, Nat.xor_assoc]
theorem xor_zero {a b : Nat} (h : a ^^^ b = 0) : a = b := by
  have := congrArg (· ^^^ b) h
  simpa [Nat.xor_assoc] using this
theorem fold3 {s : Nat} (hs : s < 4294967296) {a1 a2 a3 b1 b2 b3 : UInt8} (h : [a1, a2, a3].foldl byte s = [b1, b2, b3].foldl byte s) : a1 = b1 ∧ a2 = b2 ∧ a3 = b3 := by
  simp only [List.foldl_cons, List.foldl_nil] at h
  have x8 : ∀ a b : UInt8, a.toNat ^^^ b.toNat < 256 := fun a b => Nat.xor_lt_two_pow (n := 8) a.toNat_lt b.toNat_lt
  have same : ∀ {a b : UInt8}, a.toNat ^^^ b.toNat = 0 → a = b := fun h => UInt8.toNat_inj.1 (xor_zero h)
  have lx : ∀ {a b : Nat}, a < 4294967296 → b < 4294967296 → a ^^^ b < 4294967296 := fun ha hb => Nat.xor_lt_two_pow (n := 32) ha hb
  obtain ⟨s1, h1⟩ : ∃ x, x = byte s a1 := ⟨_, rfl⟩
  obtain ⟨t1, k1⟩ : ∃ x, x = byte s b1 := ⟨_, rfl⟩
  obtain ⟨s2, h2⟩ : ∃ x, x = byte s1 a2 := ⟨_, rfl⟩
  obtain ⟨t2, k2⟩ : ∃ x, x = byte t1 b2 := ⟨_, rfl⟩
  have ls1 : s1 < 4294967296 := by rw [h1]; exact byte_lt hs _
  have lt1 : t1 < 4294967296 := by rw [k1]; exact byte_lt hs _
  have ls2 : s2 < 4294967296 := by rw [h2]; exact byte_lt ls1 _
  have lt2 : t2 < 4294967296 := by rw [k2]; exact byte_lt lt1 _
  rw [← h1, ← k1, ← h2, ← k2] at h
  have e3 : s2 ^^^ t2 = a3.toNat ^^^ b3.toNat := by
    have := byte_inj ls2 lt2 h
    have h5 : (s2 ^^^ a3.toNat) ^^^ (t2 ^^^ a3.toNat) = (t2 ^^^ b3.toNat) ^^^ (t2 ^^^ a3.toNat) := by rw [this]
    have l5 : s2 ^^^ a3.toNat ^^^ (t2 ^^^ a3.toNat) = s2 ^^^ t2 := by
      rw [Nat.xor_comm t2, Nat.xor_assoc, ← Nat.xor_assoc a3.toNat, Nat.xor_self, Nat.zero_xor]
    have r5 : t2 ^^^ b3.toNat ^^^ (t2 ^^^ a3.toNat) = a3.toNat ^^^ b3.toNat := by
      rw [Nat.xor_comm t2 b3.toNat, Nat.xor_assoc, ← Nat.xor_assoc t2, Nat.xor_self, Nat.zero_xor, Nat.xor_comm]
    rw [l5, r5] at h5
    exact h5
  have d2 : s2 ^^^ t2 = steps 8 ((s1 ^^^ t1) ^^^ (a2.toNat ^^^ b2.toNat)) := by rw [h2, k2]; exact byte_xor _ _
  have d1 : s1 ^^^ t1 = steps 8 (a1.toNat ^^^ b1.toNat) := by rw [h1, k1, byte_xor, Nat.xor_self, Nat.zero_xor]
  have x1 := x8 a1 b1
  have x2 := x8 a2 b2
  have x3 := x8 a3 b3
  have q2 := steps_small (lx (lx ls1 lt1) (Nat.lt_trans x2 (by omega))) 8 8 (by omega) (by rw [← d2, e3]; exact x3)
  rw [← d2, e3] at q2
  have w1 : s1 ^^^ t1 < 65536 := by
    have e : s1 ^^^ t1 = (2 ^ 8 * (a3.toNat ^^^ b3.toNat)) ^^^ (a2.toNat ^^^ b2.toNat) := by rw [← q2, Nat.xor_assoc (s1 ^^^ t1), Nat.xor_self, Nat.xor_zero]
    rw [e]
    exact Nat.xor_lt_two_pow (n := 16) (by omega) (by omega)
  have q1 := steps_small (Nat.lt_trans x1 (by omega)) 8 16 (by omega) (by rw [← d1]; exact w1)
  rw [← d1] at q1
  have z1 : s1 ^^^ t1 = 0 := by omega
  have z0 : a1.toNat ^^^ b1.toNat = 0 := by rw [q1, z1]
  rw [z1, Nat.zero_xor] at q2
  have z3 : a3.toNat ^^^ b3.toNat = 0 := by omega
  have z2 : a2.toNat ^^^ b2.toNat = 0 := by rw [q2, z3]
  exact ⟨same z0, same z2, same z3⟩
theorem sum3 (pre : List UInt8) {a1 a2 a3 b1 b2 b3 : UInt8} (h : sum (pre ++ [a1, a2, a3]) = sum (pre ++ [b1, b2, b3])) : [a1, a2, a3] = [b1, b2, b3] := by
  have h1 := crc_lt (pre ++ [a1, a2, a3])
  have h2 := crc_lt (pre ++ [b1, b2, b3])
  have h3 : crc (pre ++ [a1, a2, a3]) = crc (pre ++ [b1, b2, b3]) := by unfold sum at h; omega
  unfold crc at h3
  rw [List.foldl_append, List.foldl_append] at h3
  obtain ⟨rfl, rfl, rfl⟩ := fold3 (fold_lt pre _ (by omega)) h3
  rfl
end Go.Proofs.YthbhfhagbaommaaGreatDoor.Cr

/- The batches at the beginning of any bytes; where they lie; a torn end. No program. -/
namespace Go.Proofs.YthbhfhagbaommaaGreatDoor.Sg
set_option linter.unusedSimpArgs false
set_option linter.unusedVariables false
open Go.Proofs.YthbhfhagbaommaaGreatDoor

def flat (xs : List Bt.Bat) : List UInt8 := xs.flatMap Bt.encB
def nextOf (b : Int) (xs : List Bt.Bat) : Int := match xs.getLast? with
  | some x => x.fin
  | none => b
/-- Batches that may stand one behind the other, from an offset on. -/
def Chain : Int → List Bt.Bat → Prop
  | _, [] => True
  | nx, x :: r => Bt.encErr x = 0 ∧ nx ≤ x.base ∧ Chain x.fin r
theorem nextOf_cons (b : Int) (x : Bt.Bat) (r : List Bt.Bat) : nextOf b (x :: r) = nextOf x.fin r := by
  unfold nextOf
  cases r with
  | nil => rfl
  | cons y s => rw [List.getLast?_cons_cons]; cases h : (y :: s).getLast? with
    | none => simp at h
    | some z => rfl
theorem nextOf_snoc (b : Int) (xs : List Bt.Bat) (x : Bt.Bat) : nextOf b (xs ++ [x]) = x.fin := by simp [nextOf]
theorem chain_append : ∀ (xs ys : List Bt.Bat) (b : Int), Chain b (xs ++ ys) ↔ Chain b xs ∧ Chain (nextOf b xs) ys
  | [], ys, b => by simp [Chain, nextOf]
  | x :: r, ys, b => by
    rw [List.cons_append, nextOf_cons]
    show _ ∧ _ ∧ Chain x.fin (r ++ ys) ↔ (_ ∧ _ ∧ Chain x.fin r) ∧ _
    rw [chain_append r ys x.fin]
    constructor
    · rintro ⟨a, b, c, d⟩; exact ⟨⟨a, b, c⟩, d⟩
    · rintro ⟨⟨a, b, c⟩, d⟩; exact ⟨a, b, c, d⟩
theorem chain_snoc {b : Int} {xs : List Bt.Bat} {x : Bt.Bat} (h : Chain b xs) (hx : Bt.encErr x = 0) (hb : nextOf b xs ≤ x.base) : Chain b (xs ++ [x]) :=
  (chain_append xs [x] b).2 ⟨h, hx, hb, trivial⟩
theorem Chain.take {b : Int} {xs : List Bt.Bat} (h : Chain b xs) (n : Nat) : Chain b (xs.take n) := by
  rw [← List.take_append_drop n xs] at h
  exact ((chain_append _ _ _).1 h).1
theorem Chain.mem : ∀ {xs : List Bt.Bat} {b : Int}, Chain b xs → ∀ x ∈ xs, Bt.encErr x = 0
  | x :: r, b, h, y, hy => by
    rcases List.mem_cons.1 hy with rfl | hy
    · exact h.1
    · exact Chain.mem h.2.2 y hy
theorem flat_append (xs ys : List Bt.Bat) : flat (xs ++ ys) = flat xs ++ flat ys := by simp [flat]
theorem flat_one (x : Bt.Bat) : flat [x] = Bt.encB x := by simp [flat]
theorem encB_pos (x : Bt.Bat) : 11 ≤ (Bt.encB x).length := by have := body_pos x; have := Bt.encB_len x; omega
theorem flat_len (xs : List Bt.Bat) : 11 * xs.length ≤ (flat xs).length := by
  induction xs with
  | nil => simp [flat]
  | cons x r ih =>
    have : flat (x :: r) = Bt.encB x ++ flat r := by simp [flat]
    have := encB_pos x
    simp [*]
    omega

/-- What Decode finds is a batch's bytes. -/
theorem dec_ok {b : List UInt8} (h : (dec b).2.2 = 0) : Bt.encErr (dec b).1 = 0 ∧ (dec b).2.1 = (Bt.encB (dec b).1).length ∧ b = Bt.encB (dec b).1 ++ b.drop (dec b).2.1 := by
  unfold dec at h
  split at h
  · simp at h
  split at h
  · simp at h
  split at h
  · simp at h
  rename_i h1 h2 h3
  split at h
  · rename_i h4
    have e : dec b = (Bt.bat1 (midB b), Bt.fourV b, 0) := by
      unfold dec; rw [if_neg h1, if_neg h2, if_neg h3, if_pos h4]
    rw [e]
    have hl : (Bt.encB (Bt.bat1 (midB b))).length = Bt.fourV b := by rw [h4.2, List.length_take]; omega
    exact ⟨h4.1, hl.symm, by show b = _ ++ b.drop (Bt.fourV b); rw [h4.2, List.take_append_drop]⟩
  · simp at h

/-- The batches at the beginning of bytes. -/
inductive Scan : Int → List UInt8 → List Bt.Bat → Prop
  | stop {nx : Int} {b : List UInt8} (h : ¬ ((dec b).2.2 = 0 ∧ nx ≤ (dec b).1.base)) : Scan nx b []
  | step {nx : Int} {b : List UInt8} {xs : List Bt.Bat} (h : (dec b).2.2 = 0) (h2 : nx ≤ (dec b).1.base) (k : Scan (dec b).1.fin (b.drop (dec b).2.1) xs) : Scan nx b ((dec b).1 :: xs)
theorem Scan.unique : ∀ {nx : Int} {b : List UInt8} {xs ys : List Bt.Bat}, Scan nx b xs → Scan nx b ys → xs = ys := by
  intro nx b xs ys h
  induction h generalizing ys with
  | stop h =>
    intro k
    cases k with
    | stop _ => rfl
    | step h1 h2 _ => exact absurd ⟨h1, h2⟩ h
  | step h h2 k ih =>
    intro m
    cases m with
    | stop h3 => exact absurd ⟨h, h2⟩ h3
    | step _ _ m => rw [ih m]
theorem Scan.whole {nx : Int} {b : List UInt8} {xs : List Bt.Bat} (h : Scan nx b xs) : Chain nx xs ∧ b = flat xs ++ b.drop (flat xs).length := by
  induction h with
  | stop h => exact ⟨trivial, by simp [flat]⟩
  | @step nx b xs h h2 k ih =>
    obtain ⟨h3, h4, h5⟩ := dec_ok h
    obtain ⟨i1, i2⟩ := ih
    refine ⟨⟨h3, h2, i1⟩, ?_⟩
    have e : flat ((dec b).1 :: xs) = Bt.encB (dec b).1 ++ flat xs := by simp [flat]
    rw [e, List.length_append, ← h4]
    conv => lhs; rw [h5, i2]
    rw [List.append_assoc, List.drop_drop]
theorem scan_flat : ∀ {xs : List Bt.Bat} {nx : Int} {r : List UInt8}, Chain nx xs → ¬ ((dec r).2.2 = 0 ∧ nextOf nx xs ≤ (dec r).1.base) → Scan nx (flat xs ++ r) xs
  | [], nx, r, _, h => .stop (by simpa [flat, nextOf] using h)
  | x :: xs, nx, r, hc, h => by
    have e : flat (x :: xs) ++ r = Bt.encB x ++ (flat xs ++ r) := by simp [flat]
    rw [e]
    have hd := dec_enc hc.1 (flat xs ++ r)
    have h1 : (dec (Bt.encB x ++ (flat xs ++ r))).1 = x := by rw [hd]
    have h2 : (dec (Bt.encB x ++ (flat xs ++ r))).2.1 = (Bt.encB x).length := by rw [hd]
    have h3 : (dec (Bt.encB x ++ (flat xs ++ r))).2.2 = 0 := by rw [hd]
    have k := scan_flat (xs := xs) (nx := x.fin) (r := r) hc.2.2 (by rw [nextOf_cons] at h; exact h)
    have := Scan.step (xs := xs) h3 (by rw [h1]; exact hc.2.1) (by rw [h1, h2]; simpa using k)
    rw [h1] at this
    exact this
theorem dec_few {r : List UInt8} (h : r.length < 8) : (dec r).2.2 ≠ 0 := by unfold dec; rw [if_pos h]; simp
theorem scan_whole {xs : List Bt.Bat} {nx : Int} (h : Chain nx xs) : Scan nx (flat xs) xs := by
  have := scan_flat (r := []) h (fun e => dec_few (by simp) e.1)
  simpa using this

theorem fourV_take {l : List UInt8} {k : Nat} (h : 4 ≤ k) : Bt.fourV (l.take k) = Bt.fourV l := by
  unfold Bt.fourV
  simp only [List.getD_eq_getElem?_getD, List.getElem?_take]
  rw [if_pos (by omega), if_pos (by omega), if_pos (by omega), if_pos (by omega)]
theorem len3 {α : Type} {l : List α} (h : l.length = 3) : ∃ a b c, l = [a, b, c] := by
  match l, h with
  | [a, b, c], _ => exact ⟨a, b, c, rfl⟩
/-- Bytes that are a batch's but for its last three are no batch, or that one. -/
theorem dec_torn {x : Bt.Bat} (h : Bt.encErr x = 0) {r : List UInt8} (hp : r.take ((Bt.encB x).length - 3) = (Bt.encB x).take ((Bt.encB x).length - 3)) (h0 : (dec r).2.2 = 0) : r.take (Bt.encB x).length = Bt.encB x := by
  obtain ⟨hy, hl, hr⟩ := dec_ok h0
  obtain ⟨y, hyd⟩ : ∃ y, y = (dec r).1 := ⟨_, rfl⟩
  rw [← hyd] at hy hl hr
  have hL := encB_pos x
  have hL2 := encB_pos y
  have fx := fourV_enc h []
  have fy := fourV_enc hy (r.drop (dec r).2.1)
  rw [← hr] at fy
  rw [List.append_nil] at fx
  have e4 : Bt.fourV r = Bt.fourV (Bt.encB x) := by
    rw [← fourV_take (l := r) (k := (Bt.encB x).length - 3) (by omega), hp, fourV_take (by omega)]
  have hll : (Bt.encB y).length = (Bt.encB x).length := by omega
  have hrt : r.take (Bt.encB x).length = Bt.encB y := by
    conv => lhs; rw [hr]
    rw [← hll]; simp
  rw [hrt]
  have ht : (Bt.encB y).take ((Bt.encB x).length - 3) = (Bt.encB x).take ((Bt.encB x).length - 3) := by
    rw [← hrt, List.take_take, Nat.min_eq_left (by omega), hp]
  have hx8 : ((Bt.encB x).drop 4).take 4 = Bt.four (Cr.sum (Bt.body x)) := by simp [Bt.encB, Bt.four]
  have hy8 : ((Bt.encB y).drop 4).take 4 = Bt.four (Cr.sum (Bt.body y)) := by simp [Bt.encB, Bt.four]
  have e8 : ((Bt.encB y).drop 4).take 4 = ((Bt.encB x).drop 4).take 4 := by
    have := congrArg (fun l => (l.drop 4).take 4) ht
    simp only [List.drop_take, List.take_take] at this
    rwa [Nat.min_eq_left (by omega)] at this
  rw [hx8, hy8] at e8
  have es := Bt.four_inj (Cr.sum_lt _) (Cr.sum_lt _) e8
  have hbx := Bt.encB_drop x
  have hby := Bt.encB_drop y
  obtain ⟨a1, a2, a3, ha⟩ := len3 (l := (Bt.encB x).drop ((Bt.encB x).length - 3)) (by rw [List.length_drop]; omega)
  obtain ⟨b1, b2, b3, hb⟩ := len3 (l := (Bt.encB y).drop ((Bt.encB x).length - 3)) (by rw [List.length_drop]; omega)
  have sx : Bt.encB x = (Bt.encB x).take ((Bt.encB x).length - 3) ++ [a1, a2, a3] := by rw [← ha, List.take_append_drop]
  have sy : Bt.encB y = (Bt.encB x).take ((Bt.encB x).length - 3) ++ [b1, b2, b3] := by rw [← hb, ← ht, List.take_append_drop]
  obtain ⟨p, hpd⟩ : ∃ p, p = (Bt.encB x).take ((Bt.encB x).length - 3) := ⟨_, rfl⟩
  have hpl : p.length = (Bt.encB x).length - 3 := by rw [hpd, List.length_take]; omega
  rw [← hpd] at sx sy
  have dx : Bt.body x = p.drop 8 ++ [a1, a2, a3] := by
    have := congrArg (List.drop 8) sx
    rw [List.drop_append_of_le_length (by omega), hbx] at this
    exact this
  have dy : Bt.body y = p.drop 8 ++ [b1, b2, b3] := by
    have := congrArg (List.drop 8) sy
    rw [List.drop_append_of_le_length (by omega), hby] at this
    exact this
  rw [dx, dy] at es
  have := Cr.sum3 _ es
  rw [sx, sy, this]
theorem dec_cut {x : Bt.Bat} (h : Bt.encErr x = 0) {c : Nat} (hc : c < (Bt.encB x).length) {more : List UInt8} (hm : more.length ≤ 3) (hn : ((Bt.encB x).take c ++ more).take (Bt.encB x).length ≠ Bt.encB x) : (dec ((Bt.encB x).take c ++ more)).2.2 ≠ 0 := by
  intro h0
  have hL := encB_pos x
  have hlt : ((Bt.encB x).take c).length = c := by rw [List.length_take]; omega
  by_cases h3 : (Bt.encB x).length - 3 ≤ c
  · refine hn (dec_torn h ?_ h0)
    rw [List.take_append_of_le_length (by omega), List.take_take, Nat.min_eq_left h3]
  · obtain ⟨hy, hl, hr⟩ := dec_ok h0
    have fy := fourV_enc hy (((Bt.encB x).take c ++ more).drop (dec ((Bt.encB x).take c ++ more)).2.1)
    rw [← hr] at fy
    have hlen := congrArg List.length hr
    rw [List.length_append, List.length_append, hlt] at hlen
    have hy2 := encB_pos (dec ((Bt.encB x).take c ++ more)).1
    have fx := fourV_enc h []
    rw [List.append_nil] at fx
    have e4 : Bt.fourV ((Bt.encB x).take c ++ more) = Bt.fourV (Bt.encB x) := by
      have : Bt.fourV (((Bt.encB x).take c ++ more).take c) = Bt.fourV ((Bt.encB x).take c) := by rw [List.take_append_of_le_length (by omega), List.take_take, Nat.min_self]
      rw [fourV_take (by omega), fourV_take (by omega)] at this
      exact this
    omega

/-- How far a torn file is as it was. -/
def Upto (was is : List UInt8) (xs : List Bt.Bat) (j : Nat) : Prop := (flat (xs.take j)).length ≤ is.length ∧ is.take (flat (xs.take j)).length = was.take (flat (xs.take j)).length
theorem take_flat (xs : List Bt.Bat) (j : Nat) : (flat xs).take (flat (xs.take j)).length = flat (xs.take j) := by
  have e : flat xs = flat (xs.take j) ++ flat (xs.drop j) := by rw [← flat_append, List.take_append_drop]
  rw [e, List.take_left]
theorem torn {b : Int} {xs : List Bt.Bat} (hc : Chain b xs) {k : Nat} (hk : k ≤ (flat xs).length) {more : List UInt8} (hm : more.length ≤ 3) {n : Nat} (hn : n ≤ xs.length) (hP : Upto (flat xs) ((flat xs).take k ++ more) xs n)
    (hE : n = xs.length ∨ ¬ Upto (flat xs) ((flat xs).take k ++ more) xs (n + 1)) : Scan b ((flat xs).take k ++ more) (xs.take n) := by
  obtain ⟨h1, h2⟩ := hP
  obtain ⟨is, his⟩ : ∃ l, l = (flat xs).take k ++ more := ⟨_, rfl⟩
  rw [← his] at h1 h2 hE ⊢
  rw [take_flat] at h2
  have hlen : is.length = k + more.length := by rw [his, List.length_append, List.length_take]; omega
  have hs : is = flat (xs.take n) ++ is.drop (flat (xs.take n)).length := by conv => lhs; rw [← List.take_append_drop (flat (xs.take n)).length is, h2]
  rw [hs]
  refine scan_flat (hc.take n) (fun e => ?_)
  revert e
  rintro ⟨e, -⟩
  revert e
  have hrl : (is.drop (flat (xs.take n)).length).length = is.length - (flat (xs.take n)).length := List.length_drop
  rcases Nat.lt_or_ge n xs.length with hlt | hge
  · have hE' := hE.resolve_left (by omega)
    have hsplit : flat xs = flat (xs.take n) ++ (Bt.encB xs[n] ++ flat (xs.drop (n + 1))) := by
      have e : flat xs = flat (xs.take n) ++ flat (xs.drop n) := by rw [← flat_append, List.take_append_drop]
      rw [e, List.drop_eq_getElem_cons hlt]
      rfl
    have htk1 : flat (xs.take (n + 1)) = flat (xs.take n) ++ Bt.encB xs[n] := by
      rw [List.take_succ_eq_append_getElem hlt, flat_append, flat_one]
    by_cases hkn : k ≤ (flat (xs.take n)).length
    · exact dec_few (by omega)
    · obtain ⟨c, hcd⟩ : ∃ c, k = (flat (xs.take n)).length + c := ⟨k - (flat (xs.take n)).length, by omega⟩
      have htake : (flat xs).take k = flat (xs.take n) ++ (Bt.encB xs[n] ++ flat (xs.drop (n + 1))).take c := by
        conv => lhs; rw [hsplit, hcd]
        rw [List.take_append, List.take_of_length_le (by omega)]
        congr 2
        omega
      by_cases hcB : (Bt.encB xs[n]).length ≤ c
      · exfalso
        refine hE' ⟨by rw [htk1, List.length_append]; omega, ?_⟩
        rw [his, List.take_append_of_le_length (by rw [List.length_take, htk1, List.length_append]; omega), List.take_take, Nat.min_eq_left (by rw [htk1, List.length_append]; omega)]
      · have hr : is.drop (flat (xs.take n)).length = (Bt.encB xs[n]).take c ++ more := by
          rw [his, htake, List.append_assoc, List.drop_left, List.take_append_of_le_length (by omega)]
        rw [hr]
        refine dec_cut (hc.mem _ (List.getElem_mem hlt)) (by omega) hm (fun e => hE' ?_)
        rw [← hr] at e
        have e2 : is.take (flat (xs.take (n + 1))).length = flat (xs.take (n + 1)) := by
          rw [htk1, List.length_append]
          conv => lhs; rw [hs]
          rw [List.take_append, List.take_of_length_le (by omega), Nat.add_sub_cancel_left, e]
        refine ⟨?_, by rw [e2, take_flat]⟩
        have := congrArg List.length e2
        rw [List.length_take] at this
        omega
  · have : n = xs.length := by omega
    subst this
    rw [List.take_length] at *
    exact dec_few (by omega)

/-! ### Where they lie -/
structure Pl where
  «at» : Nat
  size : Nat
  sum : Nat
  fin : Int
  latest : Int
def lat (l : Int) (rs : List Bt.Rec) : Int := rs.foldl (fun m r => max m r.time) l
def latOf (l : Int) (xs : List Bt.Bat) : Int := xs.foldl (fun m x => lat m x.recs) l
def pls (a : Nat) (l : Int) : List Bt.Bat → List Pl
  | [] => []
  | x :: r => ⟨a, (Bt.encB x).length, Cr.sum (Bt.encB x), x.fin, lat l x.recs⟩ :: pls (a + (Bt.encB x).length) (lat l x.recs) r
theorem pls_len : ∀ (xs : List Bt.Bat) (a : Nat) (l : Int), (pls a l xs).length = xs.length
  | [], _, _ => rfl
  | x :: r, a, l => by simp [pls, pls_len r]
theorem pls_snoc : ∀ (xs : List Bt.Bat) (a : Nat) (l : Int) (x : Bt.Bat), pls a l (xs ++ [x]) = pls a l xs ++ [⟨a + (flat xs).length, (Bt.encB x).length, Cr.sum (Bt.encB x), x.fin, lat (latOf l xs) x.recs⟩]
  | [], a, l, x => by simp [pls, flat, latOf]
  | y :: r, a, l, x => by
    rw [List.cons_append, pls, pls, pls_snoc r, List.cons_append]
    have : (flat (y :: r)).length = (Bt.encB y).length + (flat r).length := by simp [flat]
    rw [this, Nat.add_assoc]
    rfl
theorem latOf_snoc (l : Int) (xs : List Bt.Bat) (x : Bt.Bat) : latOf l (xs ++ [x]) = lat (latOf l xs) x.recs := by simp [latOf]
theorem pls_at (xs : List Bt.Bat) {k : Nat} (hk : k < xs.length) : (pls 0 (-1) xs)[k]? = some ⟨(flat (xs.take k)).length, (Bt.encB xs[k]).length, Cr.sum (Bt.encB xs[k]), xs[k].fin, latOf (-1) (xs.take (k + 1))⟩ := by
  have aux : ∀ (xs : List Bt.Bat) (k : Nat) (hk : k < xs.length) (a : Nat) (l : Int), (pls a l xs)[k]? = some ⟨a + (flat (xs.take k)).length, (Bt.encB xs[k]).length, Cr.sum (Bt.encB xs[k]), xs[k].fin, latOf l (xs.take (k + 1))⟩ := by
    intro xs
    induction xs with
    | nil => intro k hk; simp at hk
    | cons x r ih =>
      intro k hk a l
      cases k with
      | zero => simp [pls, flat, latOf]
      | succ k =>
        have hk' : k < r.length := by simpa using hk
        rw [pls, List.getElem?_cons_succ, ih k hk']
        have : (flat ((x :: r).take (k + 1))).length = (Bt.encB x).length + (flat (r.take k)).length := by simp [flat]
        rw [this, Nat.add_assoc]
        simp [latOf]
  have := aux xs k hk 0 (-1)
  rw [Nat.zero_add] at this
  exact this
end Go.Proofs.YthbhfhagbaommaaGreatDoor.Sg
