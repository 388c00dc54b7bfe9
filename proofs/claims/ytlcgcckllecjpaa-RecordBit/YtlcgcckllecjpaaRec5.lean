/- conveyorkeep.recorded: true. -/
import Derived.Test.YtlcgcckllecjpaaKBat
import Derived.Test.YtlcgcckllecjpaaSame
import Derived.Test.YtlcgcckllecjpaaBack
import Derived.Lib.SlBytesConst
namespace Go.Proofs.Ytlcgcckllecjpaa
open Go.RowKit Go.Maps
set_option maxRecDepth 100000
set_option linter.unusedSimpArgs false
set_option linter.unusedVariables false

def r5 : Bt.Rec := ⟨5, 7, false, [], false, [118]⟩
def x5 : Bt.Bat := ⟨5, 6, [r5]⟩
theorem x5_ok : Bt.encErr x5 = 0 := by decide
theorem sum9 : Cr.sum [49, 50, 51, 52, 53, 54, 55, 56, 57] = 3421780262 := by decide
theorem r5_ok : ∀ r ∈ x5.recs, RecOk r := by
  intro r hr
  simp only [x5, List.mem_singleton] at hr
  subst hr
  exact ⟨by decide, by decide, by decide, by decide, by decide, by decide⟩

set_option maxHeartbeats 4000000 in
theorem recorded_any (w : World) : Calls Try.prog 26 #[] w fun e w' => e = .returned (.bool true) ∧ Turn [] w w' := by
  have hall : ∀ Z, Turn [] ((w.alloc (.cells #[.int .i64 5, .int .i64 7, .bool false, .string ⟨#[]⟩, .bool false, .string ⟨#[118]⟩] 79)).alloc (.cells #[.int .i64 5, .int .i64 6, .slice (some ⟨w.heap.size, 0, none⟩) 1 1] 47)) Z →
      BatAt Z (.agg #[.int .i64 5, .int .i64 6, .slice (some ⟨w.heap.size, 0, none⟩) 1 1]) x5 ∧ Turn [] w Z ∧
      (Z.cell? ⟨w.heap.size + 1, 0, none⟩ = some (.int .i64 5) ∧ Z.cell? ⟨w.heap.size + 1, 1, none⟩ = some (.int .i64 6) ∧ Z.cell? ⟨w.heap.size + 1, 2, none⟩ = some (.slice (some ⟨w.heap.size, 0, none⟩) 1 1)) ∧ w.heap.size + 1 < Z.heap.size := by
    intro Z hZ
    have hb := hZ.heap (heap_new (w.alloc (.cells #[.int .i64 5, .int .i64 7, .bool false, .string ⟨#[]⟩, .bool false, .string ⟨#[118]⟩] 79)) _) (by simp)
    rw [World.size_alloc] at hb
    have hr := (((Turn.refl [] _).alloc _).same hZ).heap (heap_new w (.cells #[.int .i64 5, .int .i64 7, .bool false, .string ⟨#[]⟩, .bool false, .string ⟨#[118]⟩] 79)) (by simp)
    refine ⟨⟨_, rfl, RecRow.recs (base := 0) (.inr ⟨w.heap.size, 1, _, rfl, Nat.zero_le _, hr, Nat.le_refl _, by simp, by simp [maxLen], by simp [x5, r5, recC, strV]⟩) r5_ok, by decide, by decide, by decide, by decide⟩, (((Turn.refl [] w).alloc _).alloc _).same hZ,
      ⟨by simpa using cell_of hb 0, by simpa using cell_of hb 1, by simpa using cell_of hb 2⟩, lt_of_heap hb⟩
  have HALL := hide hall
  clear hall
  go_enter Try.func26, Try.ntmps26
  go_wp2_with fail
  refine (enc_any _ _ x5 (HALL.out _ (Turn.refl _ _)).1).mono ?_
  rintro e w2 ⟨v2, rfl, ht2, hr2⟩
  rw [x5_ok]
  unfold encR at hr2
  rw [if_pos x5_ok] at hr2
  have hb2 := hr2.bytes
  obtain ⟨a2, c2, rfl, -, -, -⟩ := hb2.form
  have HB2 := hide hb2
  have HT2 := hide ht2
  clear hr2 hb2 ht2
  have hd := dec_enc x5_ok []
  rw [List.append_nil] at hd
  have HD := hide hd
  clear hd
  obtain ⟨L, hL⟩ : ∃ L, L = (Bt.encB x5).length := ⟨_, rfl⟩
  have hL2 : L ≤ 6000 := by rw [hL, Bt.encB_len]; exact (Bt.encErr_ok x5_ok).2
  rw [← hL] at HB2 HD ⊢
  have HL := hide hL
  clear hL
  simp only [As.errN, if_true]
  go_wp2_with fail
  have hdec := dec_any w2 (.slice a2 L c2) (Bt.encB x5) HB2.out (by rw [← HL.out]; omega)
  rw [HD.out] at hdec
  refine hdec.mono ?_
  rintro e w3 ⟨s3, rfl, hr3, ht3⟩
  obtain ⟨a3, q3, rfl, -, -, -, -⟩ := hr3.form
  have hall3 : ∀ Z, Turn [] (w3.alloc (.cells #[.int .i64 5, .int .i64 6, .slice a3 1 q3] 47)) Z →
      (Z.cell? ⟨w3.heap.size, 0, none⟩ = some (.int .i64 5) ∧ Z.cell? ⟨w3.heap.size, 1, none⟩ = some (.int .i64 6) ∧ Z.cell? ⟨w3.heap.size, 2, none⟩ = some (.slice a3 1 q3)) ∧ Z.cell? ⟨w.heap.size + 1, 2, none⟩ = some (.slice (some ⟨w.heap.size, 0, none⟩) 1 1) ∧
      RecsAt Z (.slice (some ⟨w.heap.size, 0, none⟩) 1 1) x5.recs ∧ RecsAt Z (.slice a3 1 q3) x5.recs ∧ (w3.heap.size < Z.heap.size ∧ w.heap.size + 1 < Z.heap.size) ∧ Turn [] w Z := by
    intro Z hZ
    have hb := hZ.heap (heap_new w3 _) (by simp)
    have h3 : Turn [] w3 Z := ((Turn.refl [] _).alloc _).same hZ
    have h2 := HT2.out.same (ht3.same h3)
    obtain ⟨⟨sv, e, hq, -⟩, k2, k3, k4⟩ := HALL.out Z h2
    simp only [Value.agg.injEq] at e
    have e2 := congrArg (fun x => x.getD 2 undef) e
    simp at e2
    rw [← e2] at hq
    exact ⟨⟨by simpa using cell_of hb 0, by simpa using cell_of hb 1, by simpa using cell_of hb 2⟩, k3.2.2, hq, hr3.still h3, ⟨lt_of_heap hb, k4⟩, k2⟩
  have HALL3 := hide hall3
  clear hall3 hr3 ht3 hdec
  simp only [x5, List.length_singleton, As.errN, if_true]
  obtain ⟨⟨c0, c1, c2'⟩, d2, -, -, ⟨z1, z2⟩, -⟩ := HALL3.out _ (Turn.refl _ _)
  go_wp2_with fail
  refine (same_any _ _ _ x5.recs (HALL3.out _ (Turn.refl _ _)).2.2.1 (HALL3.out _ (Turn.refl _ _)).2.2.2.1).mono ?_
  rintro e w4 ⟨rfl, ht4⟩
  have HT4 := hide (HALL3.out _ ht4).2.2.2.2.2
  clear ht4
  have kc := fun (w : World) (C : Array Value) (n c : Nat) => Lib.run_convert_bytes_const (P := Try.prog) w 23 5 C n c Try.underlying23 Try.underlying5
  go_wp2_with fail
  have hcs : SliceAt (w4.alloc (.cells (([49, 50, 51, 52, 53, 54, 55, 56, 57] : List UInt8).map encB).toArray 5 (9, 10))) (.slice (some ⟨w4.heap.size, 0, none⟩) 9 9) (([49, 50, 51, 52, 53, 54, 55, 56, 57] : List UInt8).map encB) := by
    refine .inr ⟨⟨w4.heap.size, 0, none⟩, 9, rfl, fun j u hu => ?_⟩
    rw [addr_add, cell_of (heap_new w4 _)]
    simpa using hu
  refine (sum_any _ _ [49, 50, 51, 52, 53, 54, 55, 56, 57] hcs (by decide)).mono ?_
  rintro e w5 ⟨rfl, rfl⟩
  rw [sum9]
  go_wp2
  go_ret
  exact ⟨rfl, HT4.out.alloc _⟩
end Go.Proofs.Ytlcgcckllecjpaa
