/- For every three rows of bytes and every number, the law DiskSafe answers true; what it was given lies as it lay. Rows of more than 5000 bytes together are not asked. No condition. -/
import Derived.Test.YtemdclbibnjbgaaRows
import Derived.WalkKit
import Derived.ProofKit
import Derived.OpenShut
import Derived.ShutString
import Derived.ChangeOld
import Derived.Below
import Derived.SizedLaws
import Derived.Test.YtemdclbibnjbgaaSafe
namespace Go.Proofs.Ytemdclbibnjbgaa.diskSafe
open Go.ChangeShapes Go.WideShapes Go.ChangeAt Go.RowKit
open Go.ChangeMaps (open_string shut_string)
open Go.Proofs.Ytemdclbibnjbgaa Go.Proofs.Ytemdclbibnjbgaa.Dk
set_option linter.unusedVariables false

theorem own : ownKnob Try.prog.godebug = none := by kernel_rfl
theorem laidOut : laidOutB Try.prog = true := by kernel_rfl

/-- WHAT THE WALK IS TOLD OF A SLICE OF INTEGERS THAT CAME IN: it is nil; or it leads to a row of 'cap' cells, the numbers 'zs' (the first 'len' are its elements, the rest its spare room), each fitting its kind. -/
def IsRow (k : IntKind) (w : World) (a : Option Addr) (len cap : Nat) (zs : List Int) : Prop :=
  (a = none ∧ len = 0 ∧ cap = 0 ∧ zs = []) ∨
  ∃ x, a = some x ∧ len ≤ cap ∧ cap ≤ maxLen ∧ zs.length = cap ∧ (∀ i, i < zs.length → w.cell? (x.add i) = some (.int k (zs.getD i 0))) ∧ ∀ n ∈ zs, (Lit.int k n).wf = true

/-! ### STEP 1: THE WALK: the Go text returns true, AND WRITES NOTHING THAT WAS THERE: 'Below w.heap.size w w'' (Derived/Below.lean: '.refl', '.alloc', '.drew', '.setCell' at a new block, '.trans'). Open each 'IsRow' by 'rcases' AHEAD of 'go_enter'; part every test ahead of the walk. -/
theorem walk (a0 : Option Addr) (len0 cap0 : Nat) (z0 : List Int) (a1 : Option Addr) (len1 cap1 : Nat) (z1 : List Int) (a2 : Option Addr) (len2 cap2 : Nat) (z2 : List Int) (a3 : Int) (w : World) (w0 : IsRow .u8 w a0 len0 cap0 z0) (w1 : IsRow .u8 w a1 len1 cap1 z1) (w2 : IsRow .u8 w a2 len2 cap2 z2) (w3 : (Lit.int .i64 a3).wf = true) (r0 : len0 ≤ 140737488351232) (r1 : len1 ≤ 140737488351232) :
    Calls Try.prog 4 #[.slice a0 len0 cap0, .slice a1 len1 cap1, .slice a2 len2 cap2, .int .i64 a3] w fun e w' => e = .returned (.bool true) ∧ Below w.heap.size w w' := by
  obtain ⟨bs0, hl0, hm0, hx0⟩ := arg_slice w0
  obtain ⟨bs1, hl1, hm1, hx1⟩ := arg_slice w1
  obtain ⟨fs, hl2, hm2, hx2⟩ := arg_slice w2
  subst hl0 hl1 hl2
  simp only [maxLen] at hm0 hm1 hm2
  have hwr : IntKind.i64.wrap ((bs0.length : Int) + (bs1.length : Int)) = (bs0.length : Int) + (bs1.length : Int) := by
    rw [IntWalk.i64_left, IntWalk.wrap64_in _ (by omega)]
  clear w0 w1 w2
  by_cases hbig : 5000 < bs0.length + bs1.length
  · have hbi : (5000 : Int) < (bs0.length : Int) + (bs1.length : Int) := by omega
    clear hx0 hx1 hx2
    go_enter Try.func4, Try.ntmps4
    go_wp2
    go_ret
    exact ⟨rfl, Below.refl _ _⟩
  · have hbi : ¬ (5000 : Int) < (bs0.length : Int) + (bs1.length : Int) := by omega
    have HX0 : Hid (∀ Z, Turn [] w Z → SliceAt Z (.slice a0 bs0.length cap0) (bs0.map encB)) := hx0
    have HX1 : Hid (∀ Z, Turn [] w Z → SliceAt Z (.slice a1 bs1.length cap1) (bs1.map encB)) := hx1
    have HX2 : Hid (∀ Z, Turn [] w Z → SliceAt Z (.slice a2 fs.length cap2) (fs.map encB)) := hx2
    clear hx0 hx1 hx2
    go_enter Try.func4, Try.ntmps4
    go_wp2_with fail
    refine (new_ok 1048576 (by omega) w w.heap.size (Nat.le_refl _)).mono ?_
    rintro e W1 ⟨rfl, h1, t1⟩
    go_wp2_with fail
    refine (kept_any W1).mono ?_
    rintro e W2 ⟨rfl, t2⟩
    have h2 := h1.kept t2 (by simp)
    have t12 := t1.trans t2 (by simp)
    go_wp2_with fail
    refine (make_c h2 t12).mono ?_
    rintro e W3 ⟨rfl, F3, h3, t3⟩
    go_wp2_with fail
    refine (add_c h3 t3 _ bs0 (fun Z hZ => HX0.out Z (turn_over t3 h3 hZ)) (by simp; omega)).mono ?_
    rintro e W4 ⟨rfl, F4, h4, t4⟩
    go_wp2_with fail
    refine (sync_c h4 t4).mono ?_
    rintro e W5 ⟨rfl, F5, h5, t5⟩
    go_wp2_with fail
    refine (add_c h5 t5 _ bs1 (fun Z hZ => HX1.out Z (turn_over t5 h5 hZ)) (by simp; omega)).mono ?_
    rintro e W6 ⟨rfl, F6, h6, t6⟩
    have k0 := conv_any (HX0.out W6 t6)
    have k1 := conv_any (HX1.out W6 t6)
    go_wp2
    have hall : ({ data := bs0.toArray } : ByteArray) ++ { data := bs1.toArray } = ⟨(bs0 ++ bs1).toArray⟩ := by
      apply ByteArray.ext; simp
    rw [hall]
    simp only [List.nil_append] at h6
    clear k0 k1 h1 h2 h3 h4 h5 t1 t2 t12 t3 t4 t5 hall
    go_loopw [11, 12] (fun al i wr => ∃ (k : Nat) (bb : List UInt8) (s : Nat) (Fx : List Nat), k ≤ 4 ∧ i = .int .i64 k ∧ al = .string ⟨bb.toArray⟩ ∧ DiskAt wr w.heap.size w.heap.size Fx (Dk.one 1048576 bb s) ∧ Turn [] w wr ∧ bs0.length ≤ s ∧ s ≤ bb.length ∧ bb.length ≤ 5000) (fun _ i _ => 5 - (intOf i).toNat)
    case atStart => exact ⟨0, bs0 ++ bs1, bs0.length, F6, by omega, rfl, rfl, h6, t6, Nat.le_refl _, by simp, by simp; omega⟩
    case round =>
      obtain ⟨k, bb, s, Fx, hk, rfl, rfl, hd, ht, hs1, hs2, hs3⟩ := hrel
      clear h6 t6
      go_wp2_with fail
      refine (pick_any a3 wr).mono ?_
      rintro e wr ⟨⟨p, hp, rfl⟩, rfl⟩
      by_cases hkp : k ≤ p
      · have hki : (k : Int) ≤ (p : Int) := by omega
        go_wp2_with fail
        refine (crash_c hd ht _ fs (fun Z hZ => HX2.out Z (turn_over ht hd hZ)) (by omega)).mono ?_
        rintro e Wc ⟨rfl, Fc, hc, tc⟩
        obtain ⟨nb, hnb⟩ : ∃ nb, nb = bb.take (min (s + fateN fs 0) bb.length) := ⟨_, rfl⟩
        have hnl : nb.length = min (s + fateN fs 0) bb.length := by rw [hnb]; simp
        have hn1 : bs0.length ≤ nb.length := by omega
        have hn2 : nb.length ≤ bb.length := by omega
        have hn3 : nb = bb.take nb.length := by rw [hnl]; exact hnb
        rw [← hnb, ← hnl] at hc
        have HN : Hid (nb = bb.take nb.length) := hn3
        clear hnb hnl hn3
        go_wp2_with fail
        refine (read_c hc tc 1048576 (by omega)).mono ?_
        rintro e Wr ⟨ra, rc, rfl, hcv, hr, tr⟩
        rw [show nb.take 1048576 = nb from List.take_of_length_le (by omega)] at hcv ⊢
        have hsl : ∀ Z, (Instr.slice 9 (.string ⟨bb.toArray⟩) none (some (.int .i64 nb.length)) none).run Try.prog Z = .ok (.string ⟨nb.toArray⟩) Z := by
          intro Z
          rw [run_slice_string_to_if _ _ _ _ _ Try.underlying9, if_pos ⟨by omega, by show (nb.length : Int) ≤ (bb.toArray.size : Int); simp; omega⟩]
          have hx : ({ data := bb.toArray } : ByteArray).extract 0 ((nb.length : Int)).toNat = ⟨nb.toArray⟩ := by
            apply ByteArray.ext
            rw [ByteArray.data_extract]
            simp only [Int.toNat_natCast, List.extract_toArray, List.extract_eq_take_drop, List.drop_zero, Nat.sub_zero]
            rw [← HN.out]
          rw [hx]
        have g1 : ¬ ((nb.length : Int) < (bs0.length : Int)) := by omega
        have g2 : ¬ ((bb.length : Int) < (nb.length : Int)) := by omega
        go_wp2
        refine ⟨⟨k + 1, nb, nb.length, Fc, by omega, by simp, rfl, hr, tr, hn1, Nat.le_refl _, by omega⟩, ?_⟩
        simp only [intOf]
        omega
      · have hki : ¬ (k : Int) ≤ (p : Int) := by omega
        go_wp2
        go_ret
        exact ⟨rfl, ht.nil⟩

/-! ### THE ROW's STEP: WRITTEN OUT: LEAVE IT -/
set_option maxRecDepth 100000 in
theorem lifted (os : Os) (started : os.Started) (H : Type) (enc : TypeId × Value → H) :
    ReturnsInHanded {} Try.checked os 4 .any (Rows.diskSafeSpec.pre6 enc Try.prog Try.f4 Rows.diskSafeRow.domain false) (Rows.diskSafeSpec.post enc Try.prog Try.f4 false true false false) := by
  refine returnsInHanded_of_change_sized (C := Try.checked) own started (by kernel_rfl) Try.func4
    (ChangeSpec.witness6 (enc := enc) (C := Try.checked) false ⟨#[], #[.slice none 0 0, .slice none 0 0, .slice none 0 0, .int .i64 0], []⟩ 8 (by kernel_rfl) (by kernel_rfl) (by kernel_rfl) (by kernel_rfl)) ?_
  intro W base args ds gs before hval0 hW hcnd hsz0 _
  have hval : ∀ (j : Nat) t v, Try.f4.params[j]? = some t → args[j]? = some v → Value.okWide Try.prog W .any base t v := hval0
  have hW' := hW
  obtain ⟨p, q, hA0, hV, rfl, hfz, hnd⟩ := hW
  have hA : DataW.TrodAll enc Try.prog W 0 (fun _ => true) true Try.f4.params.toList args.toList ds p := hA0
  have hsz : (DataW.weightsEach Try.prog (Try.f4.params.toList ++ Rows.diskSafeSpec.plain.varTypes Try.prog) (ds ++ gs)).all (· ≤ reachBytes) = true := hsz0
  rw [Try.params4] at hA hval hsz
  obtain ⟨v0, vs0, d0, ds0, p0, q0, hargs, rfl, rfl, h0, r0⟩ := trodAll_cons hA
  obtain ⟨v1, vs1, d1, ds1, p1, q1, rfl, rfl, rfl, h1, r1⟩ := trodAll_cons r0
  obtain ⟨v2, vs2, d2, ds2, p2, q2, rfl, rfl, rfl, h2, r2⟩ := trodAll_cons r1
  obtain ⟨v3, vs3, d3, ds3, p3, q3, rfl, rfl, rfl, h3, r3⟩ := trodAll_cons r2
  obtain ⟨rfl, rfl, rfl⟩ := trodAll_nil r3
  obtain rfl : args = #[v0, v1, v2, v3] := by cases args; simp_all
  obtain ⟨rfl, rfl⟩ := trodVars_none hV
  obtain ⟨a0, len0, cap0, rfl⟩ := okWide_slice Try.underlying23 (hval 0 23 v0 rfl rfl)
  have k0 := h0
  have lt0 : ∀ x ∈ p0, x.block < W.heap.size := by obtain ⟨m, hm⟩ := k0; exact DataW.trod_lt m _ _ _ hm
  obtain ⟨z0, w0, rr0⟩ : ∃ zs, IsRow .u8 W a0 len0 cap0 zs ∧ len0 ≤ 140737488351232 := by
    obtain ⟨fuel, hf⟩ := h0
    rcases open_ints Try.underlying23 Try.underlying5 (by kernel_rfl) hf with ⟨hcs, _⟩ | ⟨x, l, c, zs, hcs, _, hl, hm, hz, hxx, hcell, hwz⟩
    · simp [Value.cells] at hcs
      obtain ⟨rfl, rfl, rfl⟩ := hcs
      exact ⟨[], .inl ⟨rfl, rfl, rfl, rfl⟩, by omega⟩
    · simp [Value.cells] at hcs
      obtain ⟨rfl, rfl, rfl⟩ := hcs
      refine ⟨zs, .inr ⟨_, rfl, hl, hm, by simpa using hz, hcell, hwz⟩, ?_⟩
      have hq := sized_slice hsz (j := 0) (t := 23) (e := 5) rfl (by simp only [Prod.mk.injEq] at hxx; rw [hxx.1]; rfl) Try.underlying23
      rw [show Try.prog.bytesOf 5 = 1 by kernel_rfl] at hq
      simp only [lits, List.length_map, List.length_take, List.length_drop, reachBytes] at hq
      have hz' : zs.length = cap0 := by simpa using hz
      omega
  obtain ⟨a1, len1, cap1, rfl⟩ := okWide_slice Try.underlying23 (hval 1 23 v1 rfl rfl)
  have k1 := h1
  have lt1 : ∀ x ∈ p1, x.block < W.heap.size := by obtain ⟨m, hm⟩ := k1; exact DataW.trod_lt m _ _ _ hm
  obtain ⟨z1, w1, rr1⟩ : ∃ zs, IsRow .u8 W a1 len1 cap1 zs ∧ len1 ≤ 140737488351232 := by
    obtain ⟨fuel, hf⟩ := h1
    rcases open_ints Try.underlying23 Try.underlying5 (by kernel_rfl) hf with ⟨hcs, _⟩ | ⟨x, l, c, zs, hcs, _, hl, hm, hz, hxx, hcell, hwz⟩
    · simp [Value.cells] at hcs
      obtain ⟨rfl, rfl, rfl⟩ := hcs
      exact ⟨[], .inl ⟨rfl, rfl, rfl, rfl⟩, by omega⟩
    · simp [Value.cells] at hcs
      obtain ⟨rfl, rfl, rfl⟩ := hcs
      refine ⟨zs, .inr ⟨_, rfl, hl, hm, by simpa using hz, hcell, hwz⟩, ?_⟩
      have hq := sized_slice hsz (j := 1) (t := 23) (e := 5) rfl (by simp only [Prod.mk.injEq] at hxx; rw [hxx.1]; rfl) Try.underlying23
      rw [show Try.prog.bytesOf 5 = 1 by kernel_rfl] at hq
      simp only [lits, List.length_map, List.length_take, List.length_drop, reachBytes] at hq
      have hz' : zs.length = cap1 := by simpa using hz
      omega
  obtain ⟨a2, len2, cap2, rfl⟩ := okWide_slice Try.underlying23 (hval 2 23 v2 rfl rfl)
  have k2 := h2
  have lt2 : ∀ x ∈ p2, x.block < W.heap.size := by obtain ⟨m, hm⟩ := k2; exact DataW.trod_lt m _ _ _ hm
  obtain ⟨z2, w2⟩ : ∃ zs, IsRow .u8 W a2 len2 cap2 zs := by
    obtain ⟨fuel, hf⟩ := h2
    rcases open_ints Try.underlying23 Try.underlying5 (by kernel_rfl) hf with ⟨hcs, _⟩ | ⟨x, l, c, zs, hcs, _, hl, hm, hz, _, hcell, hwz⟩
    · simp [Value.cells] at hcs
      obtain ⟨rfl, rfl, rfl⟩ := hcs
      exact ⟨[], .inl ⟨rfl, rfl, rfl, rfl⟩⟩
    · simp [Value.cells] at hcs
      obtain ⟨rfl, rfl, rfl⟩ := hcs
      exact ⟨zs, .inr ⟨_, rfl, hl, hm, by simpa using hz, hcell, hwz⟩⟩
  obtain ⟨a3, rfl, rfl, rfl, w3⟩ := open_int Try.underlying3 (hval 3 3 v3 rfl rfl) h3
  clear hA0 hval0
  refine (walk a0 len0 cap0 z0 a1 len1 cap1 z1 a2 len2 cap2 z2 a3 W w0 w1 w2 w3 rr0 rr1).mono fun e W' ⟨he, bel⟩ => ?_
  subst he
  exact ⟨_, rfl, _, _, _, [], _, [], hW', trodAll_mk1 (shut_bool Try.underlying4 _), (trodAll_cons_mk (Below.trod laidOut (by kernel_rfl) (of_decide_eq_true (by kernel_rfl)) k0 bel lt0) (trodAll_cons_mk (Below.trod laidOut (by kernel_rfl) (of_decide_eq_true (by kernel_rfl)) k1 bel lt1) (trodAll_cons_mk (Below.trod laidOut (by kernel_rfl) (of_decide_eq_true (by kernel_rfl)) k2 bel lt2) (trodAll_cons_mk (shut_int Try.underlying3 w3) trodAll_mk0)))), rfl, bel.frame _, fun h => by cases h⟩

theorem over : Rows.diskSafeRow.holds Try.pinned (OpenSpec.ofChange Rows.diskSafeSpec) :=
  OpenClaim.holds_of_wide 4 Try.f4 rfl rfl rfl rfl rfl rfl rfl ⟨rfl, rfl, rfl, rfl, rfl⟩ rfl rfl rfl rfl rfl (by kernel_rfl) Try.func4 (by kernel_rfl)
    (of_decide_eq_true (by kernel_rfl)) (by unfold Func.isWrapper; first | (rw [if_pos (by decide +kernel)]; kernel_rfl) | (rw [if_neg (by decide +kernel)]; exact ⟨rfl, rfl⟩))
    (fun os started H enc _ => lifted os started H enc)

/-- ████ THE STATEMENT ████ -/
theorem proved : Rows.DiskSafeSaid := over
end Go.Proofs.Ytemdclbibnjbgaa.diskSafe
namespace Go.Proofs.Ytemdclbibnjbgaa
theorem diskSafe_holds : Rows.DiskSafeSaid := diskSafe.proved
end Go.Proofs.Ytemdclbibnjbgaa
