/- conveyorkeep.RecordBit, walked. -/
import Derived.Test.YtlcgcckllecjpaaRec5
import Derived.Test.YtlcgcckllecjpaaPutN
import Derived.Laws.BitsAllLaws
import Derived.Lib.Strings
namespace Go.Proofs.Ytlcgcckllecjpaa
open Go.RowKit Go.Maps
set_option maxRecDepth 100000
set_option linter.unusedSimpArgs false
set_option linter.unusedVariables false

theorem flip_byte (c : UInt8) (m : Nat) (hm : m < 8) : ∃ d : UInt8, c ≠ d ∧ bits .xor .u8 (c.toNat : Int) (IntKind.u8.wrap (2 ^ m)) = (d.toNat : Int) := by
  have hp : (2 : Nat) ^ m < 256 := Nat.lt_of_lt_of_le (Nat.pow_lt_pow_right (by omega) hm) (by decide)
  have hw : IntKind.u8.wrap (2 ^ m) = ((2 ^ m : Nat) : Int) := by
    have e : ((2 : Int) ^ m) = ((2 ^ m : Nat) : Int) := by simp
    rw [e]
    generalize (2 : Nat) ^ m = p at hp
    simp only [IntKind.wrap, IntKind.bits, IntKind.signed]
    simp
    omega
  have hc := c.toNat_lt
  have hx : c.toNat ^^^ 2 ^ m < 256 := Nat.xor_lt_two_pow (n := 8) (by omega) (by omega)
  refine ⟨UInt8.ofNat (c.toNat ^^^ 2 ^ m), fun h => ?_, ?_⟩
  · have h1 := congrArg UInt8.toNat h
    rw [UInt8.toNat_ofNat_of_lt' (by show _ < 256; exact hx)] at h1
    have h2 := congrArg (c.toNat ^^^ ·) h1
    simp only [Nat.xor_self, ← Nat.xor_assoc, Nat.zero_xor] at h2
    have := Nat.two_pow_pos m
    omega
  · rw [hw, u8_xor_nat _ _ (by omega) hp, UInt8.toNat_ofNat_of_lt' (by show _ < 256; exact hx)]

set_option maxHeartbeats 4000000 in
theorem recordBit_any (W : World) (z bit : Int) (rs : List Bt.Rec) (v1 : Value) (hr : RecsAt W v1 rs) (z1 : -9223372036854775808 ≤ z) (z2 : z ≤ 9223372036854775807) (u1 : -9223372036854775808 ≤ bit) (u2 : bit ≤ 9223372036854775807) :
    Calls Try.prog 7 #[.int .i64 z, v1, .int .i64 bit] W fun e w' => e = .returned (.bool true) ∧ Below W.heap.size W w' := by
  obtain ⟨a1, c1, rfl, hlc1, hcm1, hn1, hp1⟩ := hr.form
  have HR := hide hr
  clear hr hp1 hn1
  have hmx : maxLen = 9223372036854775807 := by simp [maxLen]
  rw [hmx] at hcm1
  by_cases hz : z < 0
  · go_enter Try.func7, Try.ntmps7
    go_wp2
    go_ret
    exact ⟨rfl, Below.refl _ _⟩
  by_cases hz2 : 1099511627676 < z
  · go_enter Try.func7, Try.ntmps7
    go_wp2
    go_ret
    exact ⟨rfl, Below.refl _ _⟩
  by_cases hl : 60 < (rs.length : Int)
  · go_enter Try.func7, Try.ntmps7
    go_wp2
    go_ret
    exact ⟨rfl, Below.refl _ _⟩
  go_enter Try.func7, Try.ntmps7
  go_wp2_with fail
  refine (kbatch_any W z _ rs HR.out (by omega) (by omega) (by omega)).mono ?_
  rintro e w1 ⟨s1, rfl, hrow1, ht1⟩
  obtain ⟨sa, sn, sc, hsv⟩ := hrow1.some_slice
  subst hsv
  obtain ⟨x, hx⟩ : ∃ x, x = batOf z rs := ⟨_, rfl⟩
  have hxb : x.base = z ∧ x.fin = z + rs.length ∧ x.recs = renum z rs := by rw [hx]; exact ⟨rfl, rfl, rfl⟩
  obtain ⟨xb, xf, xr⟩ := hxb
  clear hx
  have hok := renum_ok z rs (fun r hr => by obtain ⟨j, hj, rfl⟩ := List.mem_iff_getElem.1 hr; exact HR.out.ok hj) (by omega) (by omega) (by omega)
  have hrec1 := hrow1.recs hok
  rw [← xr] at hrec1
  have hbat : BatAt w1 (.agg #[.int .i64 z, .int .i64 (z + rs.length), .slice sa sn sc]) x := ⟨_, by rw [xb, xf], hrec1, by omega, by omega, by omega, by omega⟩
  have HBAT := hide hbat
  have HT1 := hide ht1
  clear hrec1 hrow1 ht1 hok xr xb xf hbat
  go_wp2_with fail
  refine (enc_any _ _ x HBAT.out).mono ?_
  rintro e w2 ⟨v2, rfl, ht2, hr2⟩
  obtain ⟨ee, hee⟩ : ∃ ee, ee = Bt.encErr x := ⟨_, rfl⟩
  rw [← hee]
  have HE := hide hee
  clear hee
  obtain ⟨a3, c3, rfl, hl3, -, -⟩ := hr2.bytes.form
  have HT2 := hide (HT1.out.same ht2)
  have HR2 := hide hr2
  clear ht2 hr2
  by_cases h0 : ee = 0
  · subst h0
    simp only [As.errN, if_true]
    go_wp2_with fail
    refine (recorded_any _).mono ?_
    rintro e w3 ⟨rfl, ht3⟩
    have HT3 := hide (HT2.out.same ht3)
    have hr3 := HR2.out.kept ht3 (by simp)
    unfold encR at hr3
    rw [if_pos HE.out.symm] at hr3
    rw [show (encR x).length = (Bt.encB x).length by unfold encR; rw [if_pos HE.out.symm]] at *
    have hL2 := (Bt.encErr_ok HE.out.symm).2
    rw [← Bt.encB_len] at hL2
    have hL0 : 11 ≤ (Bt.encB x).length := by have := body_pos x; have := Bt.encB_len x; omega
    obtain ⟨L, hL⟩ : ∃ L, L = (Bt.encB x).length := ⟨_, rfl⟩
    have HR3 := hide hr3
    rw [← hL] at HR3 hL2 hL0 hl3 ⊢
    have HL := hide hL
    clear hr3 ht3 hL
    go_wp2_with fail
    refine (pickN_any bit (8 * L) (by omega) (by omega) _).mono ?_
    rintro e w7 ⟨⟨k, hk, rfl⟩, rfl⟩
    rcases HR3.out with ⟨he, -⟩ | ⟨g, cap, cur, he, hb3, hg3, hcl, hcs, hcm3, htk⟩
    · simp only [Value.slice.injEq] at he
      omega
    rw [← HL.out] at he
    simp only [Value.slice.injEq] at he
    obtain ⟨rfl, -, rfl⟩ := he
    have hkl : k / 8 < L := by omega
    have hkc : k / 8 < (Bt.encB x).length := by rw [← HL.out]; exact hkl
    obtain ⟨c, hc⟩ : ∃ c, c = (Bt.encB x)[k / 8] := ⟨_, rfl⟩
    have hcell : w3.cell? ⟨g, k / 8, none⟩ = some (.int .u8 c.toNat) := by
      rw [cell_of hg3]
      have h1 : (cur.toList.take (Bt.encB x).length)[k / 8]? = ((Bt.encB x).map encB)[k / 8]? := by rw [htk]
      rw [List.getElem?_take_of_lt hkc, List.getElem?_map, List.getElem?_eq_getElem hkc, ← hc] at h1
      simpa [encB] using h1
    have hfr : w3.frozen? ⟨g, k / 8, none⟩ = false := frozen_of hg3 _
    obtain ⟨q, hq⟩ : ∃ q, q = k / 8 := ⟨_, rfl⟩
    obtain ⟨m, hm⟩ : ∃ m, m = k % 8 := ⟨_, rfl⟩
    rw [← hq] at hcell hfr
    have hkl' : q < L := by omega
    have hm8 : m < 8 := by omega
    have HQ := hide hq
    have HM := hide hm
    clear hq hm
    have HG3 := hide hg3
    have HTK := hide htk
    have HC := hide hc
    clear hg3 htk hc
    go_wp2
    refine wp_region_tail 9 (fun a b => a = b) (by kernel_rfl) (by kernel_rfl) (by kernel_rfl) (by kernel_rfl) (by kernel_rfl) (Nat.le_of_ble_eq_true rfl) rfl (fun _ => rfl) (fun _ _ _ h k => h.trans k) ?_
    apply Lo.runx 1 rfl rfl [] (by kernel_rfl) (fun _ => rfl)
    apply Exists.intro; apply And.intro
    · intro u w1 hR hF
      clear hF
      subst hR
      refine ⟨rfl, fun a ha K hK => ?_⟩
      have e7 := ha 7
      conv at e7 => rhs; whnf
      clear ha
      go_simp
      refine hK _ ?_; rfl
    apply Lo.runx 2 rfl rfl [] (by kernel_rfl) (fun _ => rfl)
    apply Exists.intro; apply And.intro
    · intro u w1 hR hF
      clear hF
      subst hR
      refine ⟨rfl, fun a ha K hK => ?_⟩
      have e9 := ha 9
      conv at e9 => rhs; whnf
      clear ha
      go_simp
      refine hK _ ?_; rfl
    refine Lo.runv 3 rfl rfl [1] (.int .i64 (q : Int)) (by kernel_rfl) (fun u w1 hR hF => ?_) (fun _ => rfl) ?_
    · obtain ⟨h1, -⟩ := hF
      subst hR
      refine ⟨rfl, fun a ha K hK => ?_⟩
      have e41 := (ha 41).trans h1
      clear ha h1
      go_simp
      refine hK _ ?_
      have hq := HQ.out
      have e : (k : Int) / 8 = q := by omega
      rw [e, IntWalk.i64_left, IntWalk.wrap64_in _ (by omega)]
    apply Lo.runx 4 rfl rfl [0, 2] (by kernel_rfl) (fun _ => rfl)
    apply Exists.intro; apply And.intro
    · intro u w1 hR hF
      obtain ⟨h0, h2, -⟩ := hF
      subst hR
      refine ⟨rfl, fun a ha K hK => ?_⟩
      have e40 := (ha 40).trans h0
      have e42 := (ha 42).trans h2
      clear ha h0 h2
      go_simp
      refine hK _ ?_; rfl
    apply Lo.runx 5 rfl rfl [3] (by kernel_rfl) (fun _ => rfl)
    apply Exists.intro; apply And.intro
    · intro u w1 hR hF
      obtain ⟨h3, -⟩ := hF
      subst hR
      refine ⟨rfl, fun a ha K hK => ?_⟩
      have e43 := (ha 43).trans h3
      clear ha h3
      go_simp
      refine hK _ ?_; rfl
    apply Lo.runx 6 rfl rfl [] (by kernel_rfl) (fun _ => rfl)
    apply Exists.intro; apply And.intro
    · intro u w1 hR hF
      clear hF
      subst hR
      refine ⟨rfl, fun a ha K hK => ?_⟩
      have e9 := ha 9
      conv at e9 => rhs; whnf
      clear ha
      go_simp
      refine hK _ ?_; rfl
    refine Lo.runv 7 rfl rfl [5] (.int .i64 (m : Int)) (by kernel_rfl) (fun u w1 hR hF => ?_) (fun _ => rfl) ?_
    · obtain ⟨h5, -⟩ := hF
      subst hR
      refine ⟨rfl, fun a ha K hK => ?_⟩
      have e45 := (ha 45).trans h5
      clear ha h5
      go_simp
      refine hK _ ?_
      have hm := HM.out
      have e : (k : Int).tmod 8 = m := by rw [Int.tmod_eq_emod_of_nonneg (by omega)]; omega
      rw [e]
    apply Lo.runx 8 rfl rfl [6] (by kernel_rfl) (fun _ => rfl)
    apply Exists.intro; apply And.intro
    · intro u w1 hR hF
      obtain ⟨h6, -⟩ := hF
      subst hR
      refine ⟨rfl, fun a ha K hK => ?_⟩
      have e46 := (ha 46).trans h6
      clear ha h6
      have em : (2 : Int) ^ min m 8 = 2 ^ m := by rw [Nat.min_eq_left (by omega)]
      go_simp
      refine hK _ ?_; rfl
    apply Lo.runx 9 rfl rfl [4, 7] (by kernel_rfl) (fun _ => rfl)
    apply Exists.intro; apply And.intro
    · intro u w1 hR hF
      obtain ⟨h4, h7, -⟩ := hF
      subst hR
      refine ⟨rfl, fun a ha K hK => ?_⟩
      have e44 := (ha 44).trans h4
      have e47 := (ha 47).trans h7
      clear ha h4 h7
      go_simp
      refine hK _ ?_; rfl
    refine Lo.done [0, 2, 8] (fun u w1 hRd hSd hF => ?_)
    clear hSd
    obtain ⟨f0, f2, f8, -⟩ := hF
    subst hRd
    have d0 : u 0 = _ := f0
    have d2 : u 2 = _ := f2
    have d8 : u 8 = _ := f8
    clear f0 f2 f8
    simp only [List.take_succ_cons, List.take_zero, List.drop_succ_cons, List.drop_zero, putFrom, Act.put, List.setIfInBounds_toArray, List.set_cons_succ, List.set_cons_zero, Nat.zero_add, Nat.reduceAdd, d0, d2, d8]
    obtain ⟨d, hcd, hd⟩ := flip_byte c m hm8
    rw [hd] at d8
    have fr2 : w3.drew.frozen? ⟨g, q, none⟩ = false := hfr
    go_wp2_with fail
    obtain ⟨pre, hpre⟩ : ∃ pre, pre = (Bt.encB x).take q := ⟨_, rfl⟩
    obtain ⟨post, hpost⟩ : ∃ post, post = (Bt.encB x).drop (q + 1) := ⟨_, rfl⟩
    have hqx : q < (Bt.encB x).length := by rw [← HL.out]; exact hkl'
    have hcq : c = (Bt.encB x)[q] := by have := HC.out; rw [this]; congr 1; exact HQ.out.symm
    have hsplit : Bt.encB x = pre ++ c :: post := by
      rw [hpre, hpost, hcq, ← List.drop_eq_getElem_cons hqx, List.take_append_drop]
    have hset : (Bt.encB x).set q d = pre ++ d :: post := by
      rw [List.set_eq_take_append_cons_drop, if_pos hqx, hpre, hpost]
    have hlen : (pre ++ d :: post).length = L := by rw [← hset, List.length_set, ← HL.out]
    have hrow : RowAt (w3.setCell ⟨g, q, none⟩ (.int .u8 d.toNat)) 5 w1.heap.size (.slice (some ⟨g, 0, none⟩) L c3) (pre ++ d :: post) := by
      refine .inr ⟨g, c3, _, by rw [hlen], hb3, heap_set HG3.out q _, by rw [hlen]; exact hl3, by rw [Array.size_setIfInBounds]; exact hcs, hcm3, ?_⟩
      rw [hlen, HL.out, Array.toList_setIfInBounds, List.take_set, HTK.out, ← hset, List.map_set]
      rfl
    have hb9 := hrow.bytes.still (Turn.refl [] _).drew
    have hne := dec_bit HE.out.symm pre post hcd hsplit
    obtain ⟨ee, hee⟩ : ∃ ee, ee = (dec (pre ++ d :: post)).2.2 := ⟨_, rfl⟩
    rw [← hee] at hne
    have ht9 : Turn [] W (w3.setCell ⟨g, q, none⟩ (.int .u8 d.toNat)).drew := (HT3.out.trans ((Turn.refl [g] w3).setCell (.inl (by simp)) _) (fun k hk => .inr (by have := HT1.out.size; simp at hk; omega))).drew
    refine (dec_any _ _ (pre ++ d :: post) hb9 (by omega)).mono ?_
    rintro e w5 ⟨s5, rfl, -, ht5⟩
    rw [← hee]
    simp only [As.errN, hne, if_false]
    have HT5 := hide (ht9.same ht5)
    clear ht9 ht5 hb9 hrow hlen hset hsplit hcq hee hpre hpost
    go_wp2
    go_ret
    exact ⟨rfl, HT5.out.nil⟩
  · simp only [As.errN, h0, if_false]
    go_wp2_with fail
    refine (recorded_any _).mono ?_
    rintro e w3 ⟨rfl, ht3⟩
    have HT3 := hide (HT2.out.same ht3)
    go_wp2_with fail
    refine (recorded_any _).mono ?_
    rintro e w4 ⟨rfl, ht4⟩
    have HT4 := hide (HT3.out.same ht4)
    go_wp2
    go_ret
    exact ⟨rfl, HT4.out.nil⟩
end Go.Proofs.Ytlcgcckllecjpaa
