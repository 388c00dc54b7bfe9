/- record.setFour, record.Encode. -/
import Derived.Test.YtlcgcckllecjpaaPutB
import Derived.Test.YtlcgcckllecjpaaChkP
import Derived.Test.YtlcgcckllecjpaaSumP
import Derived.Test.YtlcgcckllecjpaaLoose
namespace Go.Proofs.Ytlcgcckllecjpaa
open Go.RowKit Go.Maps
set_option maxRecDepth 100000
set_option linter.unusedSimpArgs false
set_option linter.unusedVariables false

/-- Four cells told anew. -/
def set4 (cur : Array Value) (o n : Nat) : Array Value :=
  (((cur.setIfInBounds o (.int .u8 (n / 16777216 % 256 : Nat))).setIfInBounds (o + 1) (.int .u8 (n / 65536 % 256 : Nat))).setIfInBounds (o + 2) (.int .u8 (n / 256 % 256 : Nat))).setIfInBounds (o + 3) (.int .u8 (n % 256 : Nat))
set_option maxHeartbeats 1000000 in
theorem setFour_any (w : World) (g o : Nat) (cur : Array Value) (hg : w.heap[g]? = some (.cells cur 5 (0, 0))) (ho : o + 4 ≤ cur.size) (l c n : Nat) (hl : 4 ≤ l) (hlm : l ≤ 1000000) (hn : n < 4294967296) :
    Calls Try.prog 40 #[.slice (some ⟨g, o, none⟩) l c, .int .i64 n] w fun e w' => e = .returned (.tuple #[]) ∧ Turn [g] w w' ∧ w'.heap[g]? = some (.cells (set4 cur o n) 5 (0, 0)) := by
  have c0 : w.cell? ⟨g, o, none⟩ = some (cur[o]'(by omega)) := by rw [cell_of hg]; simp
  have c1 : w.cell? ⟨g, o + 1, none⟩ = some (cur[o + 1]'(by omega)) := by rw [cell_of hg]; simp
  have c2 : w.cell? ⟨g, o + 2, none⟩ = some (cur[o + 2]'(by omega)) := by rw [cell_of hg]; simp
  have c3 : w.cell? ⟨g, o + 3, none⟩ = some (cur[o + 3]'(by omega)) := by rw [cell_of hg]; simp
  have fz : ∀ i, w.frozen? ⟨g, i, none⟩ = false := fun i => frozen_of hg i
  have f0 := fz o
  have f1 := fz (o + 1)
  have f2 := fz (o + 2)
  have f3 := fz (o + 3)
  clear fz
  have HG := hide hg
  clear hg
  go_enter Try.func40, Try.ntmps40
  go_wp2
  go_end0
  have e0 : (n : Int) / 16777216 = ((n / 16777216 % 256 : Nat) : Int) := by omega
  have e1 : (n : Int) / 65536 % 256 = ((n / 65536 % 256 : Nat) : Int) := by omega
  have e2 : (n : Int) / 256 % 256 = ((n / 256 % 256 : Nat) : Int) := by omega
  have e3 : (n : Int) % 256 = ((n % 256 : Nat) : Int) := by omega
  refine ⟨rfl, ((((Turn.refl _ _).setCell (.inl (by simp)) _).setCell (.inl (by simp)) _).setCell (.inl (by simp)) _).setCell (.inl (by simp)) _, ?_⟩
  rw [e0, e1, e2, e3]
  exact heap_set (heap_set (heap_set (heap_set HG.out o _) (o + 1) _) (o + 2) _) (o + 3) _

theorem four_enc {n : Nat} : (Bt.four n).map encB = [.int .u8 (n / 16777216 % 256 : Nat), .int .u8 (n / 65536 % 256 : Nat), .int .u8 (n / 256 % 256 : Nat), .int .u8 (n % 256 : Nat)] := by
  simp only [Bt.four, List.map_cons, List.map_nil, encB]
  have a0 : (UInt8.ofNat (n / 16777216 % 256)).toNat = n / 16777216 % 256 := by simp
  have a1 : (UInt8.ofNat (n / 65536 % 256)).toNat = n / 65536 % 256 := by simp
  have a2 : (UInt8.ofNat (n / 256 % 256)).toNat = n / 256 % 256 := by simp
  have a3 : (UInt8.ofNat (n % 256)).toNat = n % 256 := by simp
  rw [a0, a1, a2, a3]
theorem set4_size (cur : Array Value) (o n : Nat) : (set4 cur o n).size = cur.size := by simp [set4]
theorem set4_0 {cur : Array Value} {n L : Nat} {a b c d : UInt8} {post : List UInt8} (hL : L = post.length + 4) (h : cur.toList.take L = (a :: b :: c :: d :: post).map encB) : (set4 cur 0 n).toList.take L = (Bt.four n ++ post).map encB := by
  rw [List.map_append, four_enc]
  have e := List.take_append_drop L cur.toList
  rw [h] at e
  unfold set4
  simp only [Array.toList_setIfInBounds]
  rw [← e]
  simp only [List.map_cons, List.cons_append, List.set_cons_zero, List.set_cons_succ, Nat.zero_add]
  subst hL
  simp
theorem set4_4 {cur : Array Value} {n L : Nat} {p q r s a b c d : UInt8} {post : List UInt8} (hL : L = post.length + 8) (h : cur.toList.take L = (p :: q :: r :: s :: a :: b :: c :: d :: post).map encB) : (set4 cur 4 n).toList.take L = (p :: q :: r :: s :: (Bt.four n ++ post)).map encB := by
  rw [List.map_cons, List.map_cons, List.map_cons, List.map_cons, List.map_append, four_enc]
  have e := List.take_append_drop L cur.toList
  rw [h] at e
  unfold set4
  simp only [Array.toList_setIfInBounds]
  rw [← e]
  simp only [List.map_cons, List.cons_append, List.set_cons_zero, List.set_cons_succ, Nat.zero_add]
  subst hL
  simp

theorem mk8 (w : World) : (Instr.makeSlice 23 (.int .i64 8) (.int .i64 8)).run Try.prog w = .ok (.slice (some ⟨w.heap.size, 0, none⟩) 8 8) (w.alloc (.cells #[.int .u8 0, .int .u8 0, .int .u8 0, .int .u8 0, .int .u8 0, .int .u8 0, .int .u8 0, .int .u8 0] 5)) := by kernel_rfl

theorem body_len {x : Bt.Bat} (h : Bt.chk x = 0) : (Bt.body x).length ≤ 30018 := by
  have hf := bat_fit h
  obtain ⟨h1, h2, h3, h4, h5, h6⟩ := Bt.chk_ok h
  have a0 := Nu.put_len6 (show x.base.toNat ≤ 1099511627776 by omega)
  have a1 := Nu.put_len6 (show (x.fin - x.base).toNat ≤ 1099511627776 by omega)
  have a2 := Nu.put_len6 (show x.recs.length ≤ 1099511627776 by omega)
  have a3 := recsB_len x.recs hf
  unfold Bt.body
  simp only [List.length_append]
  omega
theorem body_pos (x : Bt.Bat) : 3 ≤ (Bt.body x).length := by
  have a0 := Nu.put_pos x.base.toNat
  have a1 := Nu.put_pos (x.fin - x.base).toNat
  have a2 := Nu.put_pos x.recs.length
  unfold Bt.body
  simp only [List.length_append]
  omega
/-- The end of a row's bytes. -/
theorem row_drop {w : World} {g : Nat} {cur : Array Value} {t : TypeId} {bs : List UInt8} (hg : w.heap[g]? = some (.cells cur t (0, 0))) (ht : cur.toList.take bs.length = bs.map encB) (o c : Nat) : SliceAt w (.slice (some ⟨g, o, none⟩) (bs.length - o) c) ((bs.drop o).map encB) := by
  refine .inr ⟨⟨g, o, none⟩, c, by simp, fun j u hu => ?_⟩
  have e : (⟨g, o, none⟩ : Addr).add j = ⟨g, o + j, none⟩ := by
    rw [← addr_add g o, add_add, addr_add]
  rw [e, cell_of hg]
  have hj : o + j < bs.length := by
    have := (List.getElem?_eq_some_iff.1 hu).1
    simp at this; omega
  have h1 : (bs.map encB)[o + j]? = some u := by
    rw [← hu]; simp
  rw [← ht, List.getElem?_take_of_lt hj] at h1
  simpa using h1
/-- What Encode answers: the bytes, or none. -/
def encR (x : Bt.Bat) : List UInt8 := if Bt.encErr x = 0 then Bt.encB x else []
set_option maxHeartbeats 2000000 in
theorem enc_any (w : World) (v : Value) (x : Bt.Bat) (hx : BatAt w v x) :
    Calls Try.prog 24 #[v] w fun e w' => ∃ v', e = .returned (.tuple #[v', As.errN (Bt.encErr x)]) ∧ Turn [] w w' ∧ RowAt w' 5 w.heap.size v' (encR x) := by
  have HX := hide hx
  obtain ⟨sv, rfl, hr, b1, b2, f1, f2⟩ := hx
  have HR := hide hr
  obtain ⟨a, c, rfl, hlc, hcm, hn0, hp⟩ := hr.form
  have hmx : maxLen = 9223372036854775807 := by simp [maxLen]
  rw [hmx] at hcm
  have bat : ∀ Z, Turn [] w Z → BatAt Z (.agg #[.int .i64 x.base, .int .i64 x.fin, .slice a x.recs.length c]) x := by
    intro Z hZ
    obtain ⟨sv, e, hr, r⟩ := HX.out
    exact ⟨sv, e, hr.still hZ, r⟩
  have BAT := hide bat
  have cells : ∀ Z, Turn [] (w.alloc (.cells #[.int .i64 x.base, .int .i64 x.fin, .slice a x.recs.length c] 47)) Z → w.heap.size < Z.heap.size ∧
      Z.cell? ⟨w.heap.size, 0, none⟩ = some (.int .i64 x.base) ∧ Z.cell? ⟨w.heap.size, 1, none⟩ = some (.int .i64 x.fin) ∧ Z.cell? ⟨w.heap.size, 2, none⟩ = some (.slice a x.recs.length c) := by
    intro Z hZ
    have hb := hZ.heap (heap_new w _) (by simp)
    exact ⟨by have := hZ.size; simp at this; omega, by simpa using cell_of hb 0, by simpa using cell_of hb 1, by simpa using cell_of hb 2⟩
  have CELLS := hide cells
  clear hr hp hn0 bat cells
  have hmk := mk8
  obtain ⟨ce, hce⟩ : ∃ ce, ce = Bt.chk x := ⟨_, rfl⟩
  have HCE := hide hce
  clear hce
  go_enter Try.func24, Try.ntmps24
  go_wp2_with fail
  refine (chk_any _ _ x (BAT.out _ ((Turn.refl [] w).alloc _))).mono ?_
  rintro e wa ⟨rfl, ht1⟩
  rw [← HCE.out]
  have HT1 := hide ht1
  clear ht1
  obtain ⟨z1, c0, c1, c2⟩ := CELLS.out _ HT1.out
  by_cases h0 : ce = 0
  · subst h0
    simp only [As.errN, if_true]
    go_wp2
    refine wp_region_tail 2 (Turn []) (by kernel_rfl) (by kernel_rfl) (by kernel_rfl) (by kernel_rfl) (by kernel_rfl) (Nat.le_of_ble_eq_true rfl) rfl (Turn.refl _) (fun _ _ _ h k => h.same k) ?_
    refine Lo.run 1 rfl rfl [] (fun y w' => ∃ g, wa.heap.size ≤ g ∧ y = .slice (some ⟨g, 0, none⟩) 8 8 ∧ w'.heap[g]? = some (.cells #[.int .u8 0, .int .u8 0, .int .u8 0, .int .u8 0, .int .u8 0, .int .u8 0, .int .u8 0, .int .u8 0] 5 (0, 0))) (by kernel_rfl) (fun x w w' h hR => ?_) (fun _ _ h => h) (fun u w1 hR hF => ?_) ?_
    · obtain ⟨g, e1, e2, e3⟩ := h; exact ⟨g, e1, e2, hR.heap e3 (by simp)⟩
    · clear hF
      refine ⟨rfl, fun a ha K hK => ?_⟩
      clear ha
      go_simp
      exact hK _ _ ⟨_, ((Turn.refl [] _).drew.same hR).size, rfl, heap_new _ _⟩ ((Turn.refl _ _).alloc _)
    apply Lo.runx 2 rfl rfl [] (by kernel_rfl) (Turn.refl _)
    apply Exists.intro; apply And.intro
    · intro u w1 hR hF
      clear hF
      refine ⟨rfl, fun a ha K hK => ?_⟩
      have e1 := ha 1
      conv at e1 => rhs; whnf
      clear ha
      obtain ⟨z1, c0, c1, c2⟩ := CELLS.out _ (HT1.out.drew.same hR)
      go_simp
      refine hK _ ?_; rfl
    refine Lo.done [0, 1] (fun u w1 hRd hSd hF => ?_)
    clear hSd
    obtain ⟨f0, f1, -⟩ := hF
    have d0 := (show (fun y w' => ∃ g, wa.heap.size ≤ g ∧ y = .slice (some ⟨g, 0, none⟩) 8 8 ∧ w'.heap[g]? = some (.cells #[.int .u8 0, .int .u8 0, .int .u8 0, .int .u8 0, .int .u8 0, .int .u8 0, .int .u8 0, .int .u8 0] 5 (0, 0))) (u 0) w1 from f0)
    dsimp only at d0
    have d1 : u 1 = _ := f1
    clear f0 f1
    simp only [List.take_succ_cons, List.take_zero, List.drop_succ_cons, List.drop_zero, putFrom, Act.put, List.setIfInBounds_toArray, List.set_cons_succ, List.set_cons_zero, Nat.zero_add, Nat.reduceAdd, d1]
    obtain ⟨g, hge, hgv, hgb⟩ := d0
    rw [hgv]
    clear hgv
    have hrow0 : RowAt w1 5 w.heap.size (.slice (some ⟨g, 0, none⟩) 8 8) [0, 0, 0, 0, 0, 0, 0, 0] :=
      .inr ⟨g, 8, _, rfl, by omega, hgb, Nat.le_refl _, Nat.le_refl _, by rw [hmx]; omega, rfl⟩
    have HR0 := hide hrow0
    have htw : Turn [] w w1 := ((Turn.refl [] w).alloc _).same (HT1.out.drew.same hRd)
    have HTW := hide htw
    have hdj : x.recs ≠ [] → ∀ k ∈ (Value.slice a x.recs.length c).ownBlock, k ∉ (Value.slice (some ⟨g, 0, none⟩) 8 8).ownBlock := by
      intro h0 k hk hm
      have h1 := HR.out.lt h0 k hk
      simp [Value.ownBlock] at hm
      omega
    have HDJ := hide hdj
    have hs1 := htw.size
    clear hrow0 htw hdj hgb hRd c0 c1 c2
    go_wp2_with fail
    refine (putBody_any _ w.heap.size _ _ [0, 0, 0, 0, 0, 0, 0, 0] HR0.out (by omega) x (HR.out.still HTW.out) HDJ.out HCE.out.symm (by simp)).mono ?_
    rintro e w2 ⟨v2, rfl, hg2⟩
    obtain ⟨hr2, ht2, ho2⟩ := hg2
    have htn : Turn [] w w2 := HTW.out.trans ht2 (fun k hk => .inr (by simp [Value.ownBlock] at hk; omega))
    rcases hr2 with ⟨-, hnil⟩ | ⟨g2, cap, cur, hv2, hb2, hh2, hcl, hcs, hcx, htk⟩
    · simp at hnil
    have hbl := body_len HCE.out.symm
    obtain ⟨L, hL⟩ : ∃ L, L = ([0, 0, 0, 0, 0, 0, 0, 0] ++ Bt.body x).length := ⟨_, rfl⟩
    rw [← hL] at hv2 hcl htk
    have hL8 : L = (Bt.body x).length + 8 := by rw [hL]; simp
    rw [hmx] at hcx
    have HH2 := hide hh2
    have HTK := hide htk
    have HTN := hide htn
    have HL := hide hL
    have hL6 : 8 ≤ L ∧ L ≤ 30026 := by omega
    have HL8 := hide hL8
    subst hv2
    clear hh2 htk htn hL hL8 ht2 ho2
    have hew : Bt.encErr x = if 6000 < L then 4 else 0 := by
      unfold Bt.encErr
      rw [if_pos HCE.out.symm, ← HL8.out]
    have HEW := hide hew
    clear hew hbl
    by_cases hbig : 6000 < L
    · have he : Bt.encErr x = 4 := by rw [HEW.out, if_pos hbig]
      have HE := hide he
      clear he
      go_wp2
      go_ret2
      refine ⟨_, by rw [HE.out]; rfl, HTN.out, ?_⟩
      unfold encR
      rw [HE.out]
      exact .inl ⟨rfl, rfl⟩
    · have he : Bt.encErr x = 0 := by rw [HEW.out, if_neg hbig]
      have HE := hide he
      clear he
      go_wp2_with fail
      refine (setFour_any _ g2 0 cur HH2.out (by omega) L cap L (by omega) (by omega) (by omega)).mono ?_
      rintro e w3 ⟨rfl, ht3, hh3⟩
      have htn3 : Turn [] w w3 := HTN.out.trans ht3 (fun k hk => .inr (by simp at hk; omega))
      have htk3 := set4_0 (n := L) (L := L) (a := 0) (b := 0) (c := 0) (d := 0) (post := [0, 0, 0, 0] ++ Bt.body x) (by have := HL8.out; simp; omega) HTK.out
      have HH3 := hide hh3
      have HTN3 := hide htn3
      have HTK3 := hide htk3
      clear ht3 hh3 htn3 htk3
      have hbp := body_pos x
      have hs4 : ∀ w, (Instr.slice 23 (.slice (some ⟨g2, 0, none⟩) L cap) (some (.int .i64 4)) none none).run Try.prog w = .ok (.slice (some ⟨g2, 4, none⟩) (L - 4) (cap - 4)) w := by
        intro w
        have h := run_from (some ⟨g2, 0, none⟩) L cap 4 (by omega) w
        have h1 : ¬ cap = 4 := by omega
        simpa [advA, h1, addr_add] using h
      have hs8 : ∀ w, (Instr.slice 23 (.slice (some ⟨g2, 0, none⟩) L cap) (some (.int .i64 8)) none none).run Try.prog w = .ok (.slice (some ⟨g2, 8, none⟩) (L - 8) (cap - 8)) w := by
        intro w
        have h := run_from (some ⟨g2, 0, none⟩) L cap 8 (by omega) w
        have h1 : ¬ cap = 8 := by have := HL8.out; omega
        simpa [advA, h1, addr_add] using h
      have hsm : SliceAt w3.drew (.slice (some ⟨g2, 8, none⟩) (L - 8) (cap - 8)) ((Bt.body x).map encB) := by
        have hlen4 : (Bt.four L ++ ([0, 0, 0, 0] ++ Bt.body x)).length = L := by have := HL8.out; simp [Bt.four_len]; omega
        have h := row_drop (bs := Bt.four L ++ ([0, 0, 0, 0] ++ Bt.body x)) HH3.out (by rw [hlen4]; exact HTK3.out) 8 (cap - 8)
        rw [hlen4] at h
        exact h.kept ((Turn.refl [] _).drew) (by simp)
      have HSM := hide hsm
      clear hsm
      go_wp2
      refine wp_region_tail 5 (fun a b => a = b) (by kernel_rfl) (by kernel_rfl) (by kernel_rfl) (by kernel_rfl) (by kernel_rfl) (Nat.le_of_ble_eq_true rfl) rfl (fun _ => rfl) (fun _ _ _ h k => h.trans k) ?_
      apply Lo.runx 1 rfl rfl [] (by kernel_rfl) (fun _ => rfl)
      apply Exists.intro; apply And.intro
      · intro u w1 hR hF
        clear hF
        subst hR
        refine ⟨rfl, fun a ha K hK => ?_⟩
        have e5 := ha 5
        conv at e5 => rhs; whnf
        clear ha
        go_simp
        refine hK _ ?_; rfl
      apply Lo.runx 2 rfl rfl [0] (by kernel_rfl) (fun _ => rfl)
      apply Exists.intro; apply And.intro
      · intro u w1 hR hF
        obtain ⟨h0, -⟩ := hF
        subst hR
        refine ⟨rfl, fun a ha K hK => ?_⟩
        have e22 := (ha 22).trans h0
        clear ha h0
        go_simp
        refine hK _ ?_; rfl
      apply Lo.runx 3 rfl rfl [] (by kernel_rfl) (fun _ => rfl)
      apply Exists.intro; apply And.intro
      · intro u w1 hR hF
        clear hF
        subst hR
        refine ⟨rfl, fun a ha K hK => ?_⟩
        have e5 := ha 5
        conv at e5 => rhs; whnf
        clear ha
        go_simp
        refine hK _ ?_; rfl
      apply Lo.runx 4 rfl rfl [2] (by kernel_rfl) (fun _ => rfl)
      apply Exists.intro; apply And.intro
      · intro u w1 hR hF
        obtain ⟨h2, -⟩ := hF
        subst hR
        refine ⟨rfl, fun a ha K hK => ?_⟩
        have e24 := (ha 24).trans h2
        clear ha h2
        go_simp
        refine hK _ ?_; rfl
      refine Lo.run 5 rfl rfl [3] (fun y _ => y = .int .i64 (Cr.sum (Bt.body x) : Nat)) (by kernel_rfl) (fun x w w' h hR => ?_) (fun _ _ h => h) (fun u w1 hR hF => ?_) ?_
      · exact h
      · obtain ⟨h3, -⟩ := hF
        subst hR
        refine ⟨rfl, fun a ha K hK => ?_⟩
        have e25 := (ha 25).trans h3
        clear ha h3
        go_simp
        refine (sum_any _ _ (Bt.body x) HSM.out (by have := HL8.out; omega)).mono ?_
        rintro e w4 ⟨rfl, rfl⟩
        exact hK _ _ rfl rfl
      refine Lo.done [1, 4] (fun u w1 hRd hSd hF => ?_)
      clear hSd
      obtain ⟨f1, f4, -⟩ := hF
      subst hRd
      have d1 : u 1 = _ := f1
      have d4 := (show (fun y _ => y = .int .i64 (Cr.sum (Bt.body x) : Nat)) (u 4) w1 from f4)
      dsimp only at d4
      clear f1 f4
      simp only [List.take_succ_cons, List.take_zero, List.drop_succ_cons, List.drop_zero, putFrom, Act.put, List.setIfInBounds_toArray, List.set_cons_succ, List.set_cons_zero, Nat.zero_add, Nat.reduceAdd, d1]
      rw [d4]
      clear d1 d4 hs4 hs8
      have hcrc := Cr.crc_lt (Bt.body x)
      go_wp2_with fail
      refine (setFour_any w3.drew g2 4 (set4 cur 0 L) HH3.out (by rw [set4_size]; omega) (L - 4) (cap - 4) (Cr.sum (Bt.body x)) (by omega) (by omega) (by unfold Cr.sum; omega)).mono ?_
      rintro e w4 ⟨rfl, ht4, hh4⟩
      have htn4 : Turn [] w w4 := HTN3.out.drew.trans ht4 (fun k hk => .inr (by simp at hk; omega))
      have htk4 := set4_4 (n := Cr.sum (Bt.body x)) (L := L) (post := Bt.body x) HL8.out (by simpa [Bt.four] using HTK3.out)
      have HH4 := hide hh4
      have HTN4 := hide htn4
      have HTK4 := hide htk4
      clear ht4 hh4 htn4 htk4
      go_wp2
      go_ret2
      refine ⟨_, by rw [HE.out]; rfl, HTN4.out, ?_⟩
      unfold encR
      rw [HE.out, if_pos rfl]
      have hel := Bt.encB_len x
      have hlL : L = (Bt.encB x).length := by rw [hel]; exact HL8.out
      refine .inr ⟨g2, cap, _, by rw [← hlL]; rfl, hb2, HH4.out, by rw [← hlL]; exact hcl, by rw [set4_size, set4_size]; exact hcs, by rw [hmx]; omega, ?_⟩
      rw [← hlL, HTK4.out]
      unfold Bt.encB
      rw [← HL8.out]
      simp [Bt.four]
  · simp only [As.errN, h0, if_false]
    go_wp2
    go_ret2
    have he : Bt.encErr x = ce := by unfold Bt.encErr; rw [← HCE.out, if_neg h0]
    refine ⟨_, by rw [he]; simp only [As.errN, h0, if_false]; rfl, ((Turn.refl [] w).alloc _).same HT1.out, ?_⟩
    unfold encR
    rw [he, if_neg h0]
    exact .inl ⟨rfl, rfl⟩
end Go.Proofs.Ytlcgcckllecjpaa
