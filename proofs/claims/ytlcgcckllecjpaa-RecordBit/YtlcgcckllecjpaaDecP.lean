/- record.Decode. -/
import Derived.Test.YtlcgcckllecjpaaFr
import Derived.Test.YtlcgcckllecjpaaEncP
namespace Go.Proofs.Ytlcgcckllecjpaa
open Go.RowKit Go.Maps
set_option maxRecDepth 100000
set_option linter.unusedSimpArgs false
set_option linter.unusedVariables false

def noBat : Bt.Bat := ⟨0, 0, []⟩
/-- What is between a batch's head and its end. -/
def midB (b : List UInt8) : List UInt8 := (b.take (Bt.fourV b)).drop 8
def isB (b : List UInt8) (x : Bt.Bat) : Prop := Bt.encErr x = 0 ∧ Bt.encB x = b.take (Bt.fourV b)
instance (b : List UInt8) (x : Bt.Bat) : Decidable (isB b x) := by unfold isB; exact inferInstance
/-- What Decode answers. -/
def dec (b : List UInt8) : Bt.Bat × Nat × Int :=
  if b.length < 8 then (noBat, 0, 12) else if Bt.fourV b < 11 ∨ 6000 < Bt.fourV b then (noBat, 0, 3) else if b.length < Bt.fourV b then (noBat, 0, 12) else if isB b (Bt.bat1 (midB b)) then (Bt.bat1 (midB b), Bt.fourV b, 0) else (noBat, 0, 3)

theorem equal_any (w : World) (v x : Value) (a b : List UInt8) (hv : BytesAt w v a) (hx : BytesAt w x b) :
    Calls Try.prog 44 #[v, x] w fun e w' => e = .returned (.bool (a == b)) ∧ w = w' := by
  have h1 := hv.conv
  have h2 := hx.conv
  clear hv hx
  go_enter Try.func44, Try.ntmps44
  go_wp2
  go_ret
  exact ⟨rfl, rfl⟩
theorem bat1_ok (l : List UInt8) (hl : l.length ≤ 1000000) : 0 ≤ (Bt.bat1 l).base ∧ (Bt.bat1 l).base ≤ 1099511627776 ∧ 0 ≤ (Bt.bat1 l).fin ∧ (Bt.bat1 l).fin ≤ 2199023255552 ∧ ∀ r ∈ (Bt.bat1 l).recs, RecOk r := by
  have g0 := num_len l
  have g1 := num_len (Bt.num l).2
  have g2 := num_len (Bt.num (Bt.num l).2).2
  unfold Bt.bat1
  simp only
  exact ⟨by omega, by omega, by omega, by omega, recs1_ok _ (by omega) (by omega) _ _ (by omega)⟩

set_option maxHeartbeats 4000000 in
theorem dec_any (w : World) (v : Value) (b : List UInt8) (hx : BytesAt w v b) (hl : b.length ≤ 9223372036854775807) :
    Calls Try.prog 27 #[v] w fun e w' => ∃ sv, e = .returned (.tuple #[.agg #[.int .i64 (dec b).1.base, .int .i64 (dec b).1.fin, sv], .int .i64 (dec b).2.1, As.errN (dec b).2.2]) ∧ RecsAt w' sv (dec b).1.recs ∧ Turn [] w w' := by
  have HX := hide hx
  obtain ⟨a, c, rfl, hlc, hcm, hc⟩ := hx.form
  have hmx : maxLen = 9223372036854775807 := by simp [maxLen]
  rw [hmx] at hcm
  clear hx hc
  have nil0 : ∀ Z, RecsAt Z (.slice none 0 0) [] := fun Z => ⟨none, 0, rfl, Nat.le_refl _, Nat.zero_le _, fun _ => rfl, fun j hj => absurd hj (Nat.not_lt_zero _)⟩
  have NIL := hide nil0
  clear nil0
  by_cases h8 : b.length < 8
  · have hd : dec b = (noBat, 0, 12) := by unfold dec; rw [if_pos h8]
    rw [hd]
    clear hd
    go_enter Try.func27, Try.ntmps27
    go_wp2
    have hld := load_bat (heap_new w (.cells #[.int .i64 0, .int .i64 0, .slice none 0 0] 47))
    refine bodyPost_ret (v := .tuple #[.agg #[.int .i64 0, .int .i64 0, .slice none 0 0], .int .i64 0, .iface 54 (.int .i64 12)]) (by simp [results, Try.results27, asAddr, hld, Result.andThen]) rfl ?_
    exact ⟨_, rfl, NIL.out _, (Turn.refl [] w).alloc _⟩
  obtain ⟨n, hn⟩ : ∃ n, Bt.fourV b = n := ⟨_, rfl⟩
  have HN := hide hn
  by_cases hs : n < 11
  · have hd : dec b = (noBat, 0, 3) := by unfold dec; rw [if_neg h8, if_pos (.inl (by omega))]
    rw [hd]
    clear hd
    go_enter Try.func27, Try.ntmps27
    go_wp2_with fail
    refine (four_any _ _ b (HX.out.still ((Turn.refl [] w).alloc _)) (by omega)).mono ?_
    rintro e w1 ⟨rfl, rfl⟩
    rw [HN.out]
    go_wp2
    have hld := load_bat (w := (w.alloc (.cells #[.int .i64 0, .int .i64 0, .slice none 0 0] 47)).drew) (heap_new w (.cells #[.int .i64 0, .int .i64 0, .slice none 0 0] 47))
    refine bodyPost_ret (v := .tuple #[.agg #[.int .i64 0, .int .i64 0, .slice none 0 0], .int .i64 0, .iface 54 (.int .i64 3)]) (by simp [results, Try.results27, asAddr, hld, Result.andThen]) rfl ?_
    exact ⟨_, rfl, NIL.out _, ((Turn.refl [] w).alloc _).drew⟩
  by_cases hg : 6000 < n
  · have hd : dec b = (noBat, 0, 3) := by unfold dec; rw [if_neg h8, if_pos (.inr (by omega))]
    rw [hd]
    clear hd
    go_enter Try.func27, Try.ntmps27
    go_wp2_with fail
    refine (four_any _ _ b (HX.out.still ((Turn.refl [] w).alloc _)) (by omega)).mono ?_
    rintro e w1 ⟨rfl, rfl⟩
    rw [HN.out]
    go_wp2
    have hld := load_bat (w := (w.alloc (.cells #[.int .i64 0, .int .i64 0, .slice none 0 0] 47)).drew) (heap_new w (.cells #[.int .i64 0, .int .i64 0, .slice none 0 0] 47))
    refine bodyPost_ret (v := .tuple #[.agg #[.int .i64 0, .int .i64 0, .slice none 0 0], .int .i64 0, .iface 54 (.int .i64 3)]) (by simp [results, Try.results27, asAddr, hld, Result.andThen]) rfl ?_
    exact ⟨_, rfl, NIL.out _, ((Turn.refl [] w).alloc _).drew⟩
  by_cases hsh : b.length < n
  · have hd : dec b = (noBat, 0, 12) := by unfold dec; rw [if_neg h8, if_neg (by omega), if_pos (by omega)]
    rw [hd]
    clear hd
    go_enter Try.func27, Try.ntmps27
    go_wp2_with fail
    refine (four_any _ _ b (HX.out.still ((Turn.refl [] w).alloc _)) (by omega)).mono ?_
    rintro e w1 ⟨rfl, rfl⟩
    rw [HN.out]
    go_wp2
    have hld := load_bat (w := (w.alloc (.cells #[.int .i64 0, .int .i64 0, .slice none 0 0] 47)).drew) (heap_new w (.cells #[.int .i64 0, .int .i64 0, .slice none 0 0] 47))
    refine bodyPost_ret (v := .tuple #[.agg #[.int .i64 0, .int .i64 0, .slice none 0 0], .int .i64 0, .iface 54 (.int .i64 12)]) (by simp [results, Try.results27, asAddr, hld, Result.andThen]) rfl ?_
    exact ⟨_, rfl, NIL.out _, ((Turn.refl [] w).alloc _).drew⟩
  have hmid : midB b = (b.take n).drop 8 := by unfold midB; rw [hn]
  have hml : ((b.take n).drop 8).length = n - 8 := by simp; omega
  have hsl : ∀ w, (Instr.slice 23 (.slice a b.length c) (some (.int .i64 8)) (some (.int .i64 (n : Int))) none).run Try.prog w = .ok (.slice (advA a 8 c) (n - 8) (c - 8)) w := fun w => by simpa using @run_from_to a b.length c 8 n (by omega) (by omega) w
  have hst : ∀ w, (Instr.slice 23 (.slice a b.length c) none (some (.int .i64 (n : Int))) none).run Try.prog w = .ok (.slice a n c) w := fun w => @run_to a b.length c n (by omega) w
  have htk : BytesAt w (.slice a n c) (b.take n) := HX.out.take (by omega)
  have HTK := hide htk
  have hbm : ∀ Z, Turn [] w Z → BytesAt Z (.slice (advA a 8 c) (n - 8) (c - 8)) ((b.take n).drop 8) := by
    intro Z hZ
    have h1 : (b.take n).length = n := by simp; omega
    have h2 := BytesAt.drop (n := 8) (by rw [h1]; exact htk) (by omega : 8 ≤ (b.take n).length)
    rw [h1] at h2
    exact h2.still hZ
  have HBM := hide hbm
  have hown : ∀ k ∈ (Value.slice (advA a 8 c) (n - 8) (c - 8)).ownBlock, k < w.heap.size := fun k hk =>
    HX.out.lt (fun e => by rw [e] at h8; simp at h8) k (advA_own (l' := b.length) k hk)
  have HOWN := hide hown
  obtain ⟨x, hxx⟩ : ∃ x, x = Bt.bat1 ((b.take n).drop 8) := ⟨_, rfl⟩
  obtain ⟨k1, k2, k3, k4, k5⟩ := bat1_ok ((b.take n).drop 8) (by omega)
  rw [← hxx] at k1 k2 k3 k4 k5
  have HK5 := hide k5
  have HXX := hide hxx
  have HD : Hid (dec b = if isB b x then (x, n, 0) else (noBat, 0, 3)) := by
    show _ = _
    unfold dec
    rw [if_neg h8, if_neg (by omega), if_neg (by omega), hmid, ← hxx, hn]
  have HML := hide hml
  clear hmid htk hbm hown hxx k5 hn hml
  go_enter Try.func27, Try.ntmps27
  go_wp2_with fail
  refine (four_any _ _ b (HX.out.still ((Turn.refl [] w).alloc _)) (by omega)).mono ?_
  rintro e w1 ⟨rfl, rfl⟩
  rw [HN.out]
  go_wp2_with fail
  have hrd : RdAt ((w.alloc (.cells #[.int .i64 0, .int .i64 0, .slice none 0 0] 47)).alloc (.cells #[.slice (advA a 8 c) (n - 8) (c - 8)] 82)).drew (w.heap.size + 1) w.heap.size ((b.take n).drop 8) := by
    refine ⟨_, ?_, HBM.out _ (((Turn.refl [] w).alloc _).alloc _).drew, fun _ => HOWN.out⟩
    have := heap_new (w.alloc (.cells #[.int .i64 0, .int .i64 0, .slice none 0 0] 47)) (.cells #[.slice (advA a 8 c) (n - 8) (c - 8)] 82)
    rwa [World.size_alloc] at this
  refine (batch_any _ (w.heap.size + 1) w.heap.size _ hrd (by omega) (by rw [HML.out]; omega)).mono ?_
  rintro e w3 ⟨sv, rfl, hrow3, ht3⟩
  rw [← HXX.out] at hrow3 ⊢
  obtain ⟨sa, sn, sc, hsv⟩ := hrow3.some_slice
  subst hsv
  have htw3 : Turn [] w w3 := ((((Turn.refl [] w).alloc _).alloc _).drew).trans ht3 (fun k hk => .inr (by simp at hk; omega))
  have hy3 : w3.heap[w.heap.size]? = some (.cells #[.int .i64 0, .int .i64 0, .slice none 0 0] 47 (0, 0)) := ht3.heap (((Turn.refl [] (w.alloc (.cells #[.int .i64 0, .int .i64 0, .slice none 0 0] 47))).alloc (.cells #[.slice (advA a 8 c) (n - 8) (c - 8)] 82)).drew.heap (heap_new w _) (by simp)) (by simp)
  have hsz3 : w.heap.size + 1 < w3.heap.size := by have := ht3.size; simp at this; omega
  have hrs : RecsAt w3 (.slice sa sn sc) x.recs := hrow3.recs HK5.out
  have hrl : x.recs ≠ [] → ∀ k ∈ (Value.slice sa sn sc).ownBlock, w.heap.size + 1 ≤ k := fun _ k hk => by have := (hrow3.lt k hk).1; simp at this; omega
  have HLT := hide hrl
  have hall : ∀ Q, Turn [] (w3.alloc (.cells #[.int .i64 x.base, .int .i64 x.fin, .slice sa sn sc] 47)) Q → (w.heap.size + 1 < Q.heap.size ∧ w3.heap.size < Q.heap.size) ∧
      (Q.cell? ⟨w3.heap.size, 0, none⟩ = some (.int .i64 x.base) ∧ Q.cell? ⟨w3.heap.size, 1, none⟩ = some (.int .i64 x.fin) ∧ Q.cell? ⟨w3.heap.size, 2, none⟩ = some (.slice sa sn sc)) ∧
      Q.heap[w.heap.size]? = some (.cells #[.int .i64 0, .int .i64 0, .slice none 0 0] 47 (0, 0)) ∧ BatAt Q (.agg #[.int .i64 x.base, .int .i64 x.fin, .slice sa sn sc]) x ∧ Turn [] w Q := by
    intro Q hQ
    have hq := hQ.heap (heap_new w3 _) (by simp)
    have hs := hQ.size
    simp at hs
    have ht : Turn [] w3 Q := ((Turn.refl [] w3).alloc _).same hQ
    exact ⟨⟨by omega, by omega⟩, ⟨by simpa using cell_of hq 0, by simpa using cell_of hq 1, by simpa using cell_of hq 2⟩, ht.heap hy3 (by simp), ⟨_, rfl, hrs.still ht, by omega, by omega, by omega, by omega⟩, htw3.same ht⟩
  have HALL := hide hall
  clear hrd hrow3 ht3 htw3 hy3 hrs hall hrl
  go_wp2_with fail
  refine (enc_any _ _ x (HALL.out _ (Turn.refl _ _)).2.2.2.1).mono ?_
  rintro e w4 ⟨v4, rfl, ht4, hr4⟩
  have HT4 := hide ht4
  have HR4 := hide hr4.bytes
  clear ht4 hr4
  obtain ⟨⟨z1, z2⟩, ⟨c0, c1, c2⟩, hy4, -, -⟩ := HALL.out _ HT4.out
  have y0 : w4.cell? ⟨w.heap.size, 0, none⟩ = some (.int .i64 0) := by simpa using cell_of hy4 0
  have y1 : w4.cell? ⟨w.heap.size, 1, none⟩ = some (.int .i64 0) := by simpa using cell_of hy4 1
  have y2 : w4.cell? ⟨w.heap.size, 2, none⟩ = some (.slice none 0 0) := by simpa using cell_of hy4 2
  have q0 : w4.frozen? ⟨w.heap.size, 0, none⟩ = false := frozen_of hy4 0
  have q1 : w4.frozen? ⟨w.heap.size, 1, none⟩ = false := frozen_of hy4 1
  have q2 : w4.frozen? ⟨w.heap.size, 2, none⟩ = false := frozen_of hy4 2
  have HY4 := hide hy4
  clear hy4
  have hfin : ∀ (p q : Int) (s : Value), Turn [] w (((w4.setCell ⟨w.heap.size, 0, none⟩ (.int .i64 p)).setCell ⟨w.heap.size, 1, none⟩ (.int .i64 q)).setCell ⟨w.heap.size, 2, none⟩ s) ∧ Turn [w.heap.size] w4 (((w4.setCell ⟨w.heap.size, 0, none⟩ (.int .i64 p)).setCell ⟨w.heap.size, 1, none⟩ (.int .i64 q)).setCell ⟨w.heap.size, 2, none⟩ s) ∧
      (((w4.setCell ⟨w.heap.size, 0, none⟩ (.int .i64 p)).setCell ⟨w.heap.size, 1, none⟩ (.int .i64 q)).setCell ⟨w.heap.size, 2, none⟩ s).heap[w.heap.size]? = some (.cells #[.int .i64 p, .int .i64 q, s] 47 (0, 0)) := by
    intro p q s
    have ht : Turn [w.heap.size] w4 (((w4.setCell ⟨w.heap.size, 0, none⟩ (.int .i64 p)).setCell ⟨w.heap.size, 1, none⟩ (.int .i64 q)).setCell ⟨w.heap.size, 2, none⟩ s) := (((Turn.refl _ _).setCell (.inl (by simp)) _).setCell (.inl (by simp)) _).setCell (.inl (by simp)) _
    exact ⟨(HALL.out _ HT4.out).2.2.2.2.trans ht (fun k hk => .inr (by simp at hk; omega)), ht, by simpa using heap_set (heap_set (heap_set HY4.out 0 (.int .i64 p)) 1 (.int .i64 q)) 2 s⟩
  have HFIN := hide hfin
  clear hfin
  obtain ⟨er, her⟩ : ∃ er, Bt.encErr x = er := ⟨_, rfl⟩
  rw [her]
  have HER := hide her
  clear her
  by_cases h0 : er = 0
  · subst h0
    have hrb : encR x = Bt.encB x := by unfold encR; rw [if_pos HER.out]
    have h4 := HR4.out
    rw [hrb] at h4
    have H4 := hide h4
    have htk4 := HTK.out.still (HALL.out _ HT4.out).2.2.2.2
    have HTK4 := hide htk4
    clear hrb h4 htk4
    simp only [As.errN, if_true]
    go_wp2_with fail
    refine (equal_any _ _ _ (Bt.encB x) (b.take n) H4.out HTK4.out).mono ?_
    rintro e w5 ⟨rfl, rfl⟩
    by_cases heq : Bt.encB x = b.take n
    · have hbq : (Bt.encB x == b.take n) = true := by simpa using heq
      have HDD : Hid (dec b = (x, n, 0)) := by show _ = _; rw [HD.out, if_pos ⟨HER.out, by rw [HN.out]; exact heq⟩]
      rw [hbq]
      clear heq hbq
      go_wp2
      have hf := HFIN.out x.base x.fin (.slice sa sn sc)
      have hld := load_bat hf.2.2
      refine bodyPost_ret (v := .tuple #[.agg #[.int .i64 x.base, .int .i64 x.fin, .slice sa sn sc], .int .i64 n, .nilIface]) (by simp [results, Try.results27, asAddr, hld, Result.andThen]) rfl ?_
      rw [HDD.out]
      obtain ⟨sv, e, hr, -⟩ := (HALL.out _ HT4.out).2.2.2.1
      refine ⟨.slice sa sn sc, rfl, ?_, hf.1⟩
      have e2 : sv = .slice sa sn sc := by simp at e; exact e.symm
      subst e2
      refine RecsAt.kept' hr hf.2.1 (fun h0 k hk hm => ?_)
      have := HLT.out h0 k hk
      simp at hm
      omega
    · have hbq : (Bt.encB x == b.take n) = false := by simpa using heq
      have HDD : Hid (dec b = (noBat, 0, 3)) := by show _ = _; rw [HD.out, if_neg (fun h => heq (by have := h.2; rwa [HN.out] at this))]
      rw [hbq]
      clear heq hbq
      go_wp2
      have hf := HFIN.out 0 0 (.slice none 0 0)
      have hld := load_bat hf.2.2
      refine bodyPost_ret (v := .tuple #[.agg #[.int .i64 0, .int .i64 0, .slice none 0 0], .int .i64 0, .iface 54 (.int .i64 3)]) (by simp [results, Try.results27, asAddr, hld, Result.andThen]) rfl ?_
      rw [HDD.out]
      exact ⟨_, rfl, NIL.out _, hf.1⟩
  · simp only [As.errN, h0, if_false]
    have HDD : Hid (dec b = (noBat, 0, 3)) := by show _ = _; rw [HD.out, if_neg (fun h => h0 (HER.out.symm.trans h.1))]
    go_wp2
    have hf := HFIN.out 0 0 (.slice none 0 0)
    have hld := load_bat hf.2.2
    refine bodyPost_ret (v := .tuple #[.agg #[.int .i64 0, .int .i64 0, .slice none 0 0], .int .i64 0, .iface 54 (.int .i64 3)]) (by simp [results, Try.results27, asAddr, hld, Result.andThen]) rfl ?_
    rw [HDD.out]
    exact ⟨_, rfl, NIL.out _, hf.1⟩
end Go.Proofs.Ytlcgcckllecjpaa
