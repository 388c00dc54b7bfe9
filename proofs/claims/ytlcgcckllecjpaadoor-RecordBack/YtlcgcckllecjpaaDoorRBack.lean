/- conveyorkeep.RecordBack, walked. -/
import Derived.Test.YtlcgcckllecjpaaDoorRec5
import Derived.Test.YtlcgcckllecjpaaDoorBare
import Derived.Test.YtlcgcckllecjpaaDoorPutN
import Derived.Lib.Strings
namespace Go.Proofs.YtlcgcckllecjpaaDoor
open Go.RowKit Go.Maps
set_option maxRecDepth 100000
set_option linter.unusedSimpArgs false
set_option linter.unusedVariables false

theorem app_bytes (w : World) (base : Nat) (v x : Value) (bs cs : List UInt8) (hrow : RowAt w 5 base v bs) (hx : SliceAt w x (cs.map encB)) (hlen : bs.length + cs.length ≤ 1099511627776) (hbase : base ≤ w.heap.size) :
    ∃ v' w', (Builtin.append_ #[35, 35] 35 #[v, x]).run Tryd.prog w = .ok v' w' ∧ RowAt w' 5 base v' (bs ++ cs) ∧ Turn v.ownBlock.toList w w' ∧ (∀ k ∈ v'.ownBlock, k ∈ v.ownBlock ∨ w.heap.size ≤ k) := by
  obtain ⟨i, hi, hz, hs, hb⟩ := infoB_parts
  exact run_append_row (P := Tryd.prog) w 35 35 5 base i Tryd.underlying35 hi hz hs hb v x bs cs hrow hx hlen hbase

set_option maxHeartbeats 4000000 in
theorem recordBack_any (W : World) (z cut : Int) (rs : List Bt.Rec) (more : List UInt8) (v1 v2 : Value) (hr : RecsAt W v1 rs) (hm : BytesAt W v2 more) (z1 : -9223372036854775808 ≤ z) (z2 : z ≤ 9223372036854775807) (u1 : -9223372036854775808 ≤ cut) (u2 : cut ≤ 9223372036854775807) (hL : As.ErrT W) :
    Calls Tryd.prog 7 #[.int .i64 z, v1, v2, .int .i64 cut] W fun e w' => e = .returned (.bool true) ∧ Below W.heap.size W w' := by
  have HG := hide hL
  obtain ⟨a1, c1, rfl, hlc1, hcm1, hn1, hp1⟩ := hr.form
  obtain ⟨a2, c2, rfl, hlc2, hcm2, hp2⟩ := hm.form
  have HR := hide hr
  have HM := hide hm
  clear hr hm hp1 hp2 hn1 hL
  have hmx : maxLen = 9223372036854775807 := by simp [maxLen]
  rw [hmx] at hcm1 hcm2
  by_cases hz : z < 0
  · go_enter Tryd.func7, Tryd.ntmps7
    go_wp2
    go_ret
    exact ⟨rfl, Below.refl _ _⟩
  by_cases hz2 : 1099511627676 < z
  · go_enter Tryd.func7, Tryd.ntmps7
    go_wp2
    go_ret
    exact ⟨rfl, Below.refl _ _⟩
  by_cases hl : 60 < (rs.length : Int)
  · go_enter Tryd.func7, Tryd.ntmps7
    go_wp2
    go_ret
    exact ⟨rfl, Below.refl _ _⟩
  by_cases hm : 2000 < (more.length : Int)
  · go_enter Tryd.func7, Tryd.ntmps7
    go_wp2
    go_ret
    exact ⟨rfl, Below.refl _ _⟩
  go_enter Tryd.func7, Tryd.ntmps7
  go_wp2_with fail
  refine (kbatch_any W z _ rs HR.out (by omega) (by omega) (by omega)).mono ?_
  rintro e w1 ⟨s1, rfl, hrow1, ht1⟩
  obtain ⟨sa, sn, sc, hsv⟩ := hrow1.some_slice
  subst hsv
  obtain ⟨x, hx⟩ : ∃ x, x = batOf z rs := ⟨_, rfl⟩
  have hxb : x.base = z ∧ x.fin = z + rs.length ∧ x.recs = renum z rs := by rw [hx]; exact ⟨rfl, rfl, rfl⟩
  obtain ⟨xb, xf, xr⟩ := hxb
  clear hx
  have hok := renum_ok z rs (fun r hr => by obtain ⟨j, hj, rfl⟩ := List.mem_iff_getElem.1 hr; exact HR.out.ok hj) (by omega) (by omega) (by omega)
  have hrec1 := hrow1.recs hok
  rw [← xr] at hrec1
  have hall : ∀ Z, Turn [] (w1.alloc (.cells #[.int .i64 z, .int .i64 (z + rs.length), .slice sa sn sc] 53)) Z →
      BatAt Z (.agg #[.int .i64 z, .int .i64 (z + rs.length), .slice sa sn sc]) x ∧ Turn [] W Z ∧ As.ErrT Z ∧ BytesAt Z (.slice a2 more.length c2) more ∧
      (Z.cell? ⟨w1.heap.size, 0, none⟩ = some (.int .i64 z) ∧ Z.cell? ⟨w1.heap.size, 1, none⟩ = some (.int .i64 (z + rs.length)) ∧ Z.cell? ⟨w1.heap.size, 2, none⟩ = some (.slice sa sn sc)) ∧ w1.heap.size < Z.heap.size ∧ RecsAt Z (.slice sa sn sc) x.recs := by
    intro Z hZ
    have hb := hZ.heap (heap_new w1 _) (by simp)
    have h1 : Turn [] w1 Z := ((Turn.refl [] _).alloc _).same hZ
    have h0 := ht1.same h1
    have h2 := hrec1.still h1
    exact ⟨⟨_, by rw [xb, xf], h2, by omega, by omega, by omega, by omega⟩, h0, HG.out.below h0.nil, HM.out.still h0, ⟨by simpa using cell_of hb 0, by simpa using cell_of hb 1, by simpa using cell_of hb 2⟩, lt_of_heap hb, h2⟩
  have HALL := hide hall
  clear hall hrec1 hrow1 ht1 hok xr
  go_wp2_with fail
  refine (enc_any _ _ x (HALL.out _ (Turn.refl _ _)).1).mono ?_
  rintro e w2 ⟨v2, rfl, ht2, hr2⟩
  obtain ⟨ee, hee⟩ : ∃ ee, ee = Bt.encErr x := ⟨_, rfl⟩
  rw [← hee]
  have HE := hide hee
  clear hee
  obtain ⟨a3, c3, rfl, hl3, -, -⟩ := hr2.bytes.form
  have HT2 := hide ht2
  have HR2 := hide hr2
  clear ht2 hr2
  by_cases h0 : ee = 0
  · subst h0
    simp only [As.errN, if_true]
    go_wp2_with fail
    refine (recorded_any _).mono ?_
    rintro e w3 ⟨rfl, ht3⟩
    have HT3 := hide (HT2.out.same ht3)
    have hr3 := HR2.out.kept ht3 (by simp)
    unfold encR at hr3
    rw [if_pos HE.out.symm] at hr3
    rw [show (encR x).length = (Bt.encB x).length by unfold encR; rw [if_pos HE.out.symm]] at *
    have hL2 := (Bt.encErr_ok HE.out.symm).2
    rw [← Bt.encB_len] at hL2
    have hL0 : 11 ≤ (Bt.encB x).length := by have := body_pos x; have := Bt.encB_len x; omega
    obtain ⟨v4, w4, hr4, hrow4, ht4, hown4⟩ := app_bytes (w3.alloc (.cells #[] 5)) w3.heap.size (.slice (some ⟨w3.heap.size, 0, none⟩) 0 0) (.slice a3 (Bt.encB x).length c3) [] (Bt.encB x)
      (.inr ⟨w3.heap.size, 0, #[], rfl, Nat.le_refl _, heap_new w3 _, Nat.le_refl _, Nat.le_refl _, by simp [maxLen], rfl⟩) (hr3.bytes.slice.kept ((Turn.refl [] _).alloc _) (by simp)) (by simp; omega) (by simp)
    rw [List.nil_append] at hrow4
    have ht34 : Turn [] w3 w4 := ((Turn.refl [] w3).alloc (.cells #[] 5)).trans ht4 (fun k hk => .inr (by simp [Value.ownBlock] at hk; omega))
    have hm4 := (HALL.out _ (HT3.out.same ht34)).2.2.2.1
    obtain ⟨v5, w5, hr5, hrow5, ht5, hown5⟩ := app_bytes w4 w3.heap.size v4 (.slice a2 more.length c2) (Bt.encB x) more hrow4 hm4.slice (by omega) (by have := ht34.size; omega)
    have ht35 : Turn [] w3 w5 := ht34.trans ht5 (fun k hk => .inr (hrow4.lt k (by simpa using hk)).1)
    have hb5 := hrow5.bytes
    obtain ⟨a4, c4, rfl, -, -, -⟩ := hrow4.bytes.form
    obtain ⟨a5, c5, rfl, -, -, -⟩ := hb5.form
    have hb35 := hr3.bytes.still ht35
    rw [List.length_append] at hb5 hr5
    have HR4 := hide hr4
    have HR5 := hide hr5
    have HB5 := hide hb5
    have HT5 := hide (HT3.out.same ht35)
    have HB3 := hide hb35
    have hd := dec_enc HE.out.symm more
    have HD := hide hd
    obtain ⟨L, hL⟩ : ∃ L, L = (Bt.encB x).length := ⟨_, rfl⟩
    rw [← hL] at HB3 HB5 HD HR4 HR5 hL2 hL0 hl3 ⊢
    have HL := hide hL
    clear hd hr4 hr5 hb5 hb35 hrow4 hrow5 ht4 ht5 ht34 ht35 hm4 hown4 hown5 hr3 ht3 hL
    go_wp2_with (at_builtin; go_must (first | (refine wpList_append_told rfl rfl rfl rfl HR4.out ?_; clear HR4) | refine wpList_append_told rfl rfl rfl rfl HR5.out ?_))
    have hdec := dec_any _ _ (Bt.encB x ++ more) HB5.out (by rw [List.length_append, ← HL.out]; omega)
    rw [HD.out] at hdec
    refine hdec.mono ?_
    rintro e w6 ⟨s6, rfl, hr6, ht6⟩
    obtain ⟨a6, q6, rfl, -, -, -, -⟩ := hr6.form
    simp only [As.errN, if_true]
    clear hdec
    have hall6 : ∀ Z, Turn [] (w6.alloc (.cells #[.int .i64 z, .int .i64 (z + rs.length), .slice a6 x.recs.length q6] 53)) Z →
        (Z.cell? ⟨w6.heap.size, 0, none⟩ = some (.int .i64 z) ∧ Z.cell? ⟨w6.heap.size, 1, none⟩ = some (.int .i64 (z + rs.length)) ∧ Z.cell? ⟨w6.heap.size, 2, none⟩ = some (.slice a6 x.recs.length q6)) ∧
        (Z.cell? ⟨w1.heap.size, 0, none⟩ = some (.int .i64 z) ∧ Z.cell? ⟨w1.heap.size, 1, none⟩ = some (.int .i64 (z + rs.length)) ∧ Z.cell? ⟨w1.heap.size, 2, none⟩ = some (.slice sa sn sc)) ∧
        (w6.heap.size < Z.heap.size ∧ w1.heap.size < Z.heap.size) ∧ RecsAt Z (.slice a6 x.recs.length q6) x.recs ∧ RecsAt Z (.slice sa sn sc) x.recs ∧ BytesAt Z (.slice a3 L c3) (Bt.encB x) ∧ As.ErrT Z ∧ Turn [] W Z := by
      intro Z hZ
      have hb := hZ.heap (heap_new w6 _) (by simp)
      have h6 : Turn [] w6 Z := ((Turn.refl [] _).alloc _).same hZ
      have h5 := ht6.same h6
      obtain ⟨-, k1, k2, -, k4, k5, k6⟩ := HALL.out Z (HT5.out.same h5)
      exact ⟨⟨by simpa using cell_of hb 0, by simpa using cell_of hb 1, by simpa using cell_of hb 2⟩, k4, ⟨lt_of_heap hb, k5⟩, hr6.still h6, k6, HB3.out.still h5, k2, k1⟩
    have HALL6 := hide hall6
    clear hall6 hr6 ht6
    go_wp2_with fail
    refine (pickN_any cut L (by omega) (by omega) _).mono ?_
    rintro e w7 ⟨⟨k, hk, rfl⟩, rfl⟩
    have hsl : ∀ w, (Instr.slice 35 (.slice a3 L c3) none (some (.int .i64 (k : Int))) none).run Tryd.prog w = .ok (.slice a3 k c3) w := fun w => @run_to a3 L c3 k (by omega) w
    go_wp2_with fail
    have hb8 := BytesAt.take (n := k) (by rw [← HL.out]; exact (HALL6.out _ (Turn.refl _ _)).2.2.2.2.2.1) (by rw [← HL.out]; omega)
    have hdec := dec_any _ _ ((Bt.encB x).take k) hb8 (by rw [List.length_take]; omega)
    rw [dec_short HE.out.symm (by rw [← HL.out]; exact hk)] at hdec
    refine hdec.mono ?_
    rintro e w8 ⟨s8, rfl, hr8, ht8⟩
    obtain ⟨a8, q8, rfl, -, -, -, -⟩ := hr8.form
    have hc12 : ¬ ((12 : Int) = 0) := by decide
    simp only [noBat, List.length_nil, As.errN, hc12, if_false]
    have HT8 := hide ((ht8.alloc (.cells #[.int .i64 0, .int .i64 0, .slice a8 0 q8] 53)))
    clear hdec hb8 hr8 ht8
    obtain ⟨⟨b0, b1, b2⟩, ⟨y0, y1, y2⟩, ⟨g1, g2⟩, -, -, -, -, -⟩ := HALL6.out _ HT8.out
    go_wp2_with fail
    refine (same_any _ _ _ x.recs (HALL6.out _ HT8.out).2.2.2.1 (HALL6.out _ HT8.out).2.2.2.2.1).mono ?_
    rintro e w9 ⟨rfl, ht9⟩
    have HT9 := hide (HT8.out.same ht9)
    clear ht9 b0 b1 b2 y0 y1 y2 g1 g2
    go_wp2_with fail
    refine (As.tell_errno 12 _ (HALL6.out _ HT9.out).2.2.2.2.2.2.1).mono ?_
    rintro e w10 ⟨rfl, hb10⟩
    go_wp2
    go_ret
    exact ⟨rfl, (HALL6.out _ (HT9.out.same (Turn.of_below hb10 _))).2.2.2.2.2.2.2.nil⟩
  · simp only [As.errN, h0, if_false]
    go_wp2_with fail
    refine (recorded_any _).mono ?_
    rintro e w3 ⟨rfl, ht3⟩
    have HT3 := hide (HT2.out.same ht3)
    go_wp2_with fail
    refine (recorded_any _).mono ?_
    rintro e w4 ⟨rfl, ht4⟩
    have HT4 := hide (HT3.out.same ht4)
    go_wp2
    go_ret
    exact ⟨rfl, (HALL.out _ HT4.out).2.1.nil⟩
end Go.Proofs.YtlcgcckllecjpaaDoor
