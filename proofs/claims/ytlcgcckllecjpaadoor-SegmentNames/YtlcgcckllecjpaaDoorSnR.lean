/- Names of segments: conveyorref.Number, conveyorref.SegBase. -/
import Derived.Test.YtlcgcckllecjpaaDoorSnB
namespace Go.Proofs.YtlcgcckllecjpaaDoor.Sn
open Go.Lib Go.RowKit
set_option linter.unusedSimpArgs false
set_option linter.unusedVariables false
attribute [local go_sem] Oper.semAt_some
set_option maxRecDepth 100000

theorem parse_any (R : ByteArray) (hR : R.size ≤ 1000) (w : World) (hv : VarT w) :
    Calls Tryd.prog 113 #[.string R, .int .i64 10, .int .i64 64] w fun e w' => (∃ v er, e = .returned (.tuple #[.int .i64 v, er]) ∧ ((er = .nilIface ∧ atoiAll R.data.toList = .ok v) ∨ ((∀ u, atoiAll R.data.toList ≠ .ok u) ∧ ∃ N, er = .iface 195 (.pointer (some ⟨N, 0, none⟩))))) ∧ Below w.heap.size w w' := by
  obtain ⟨tp, p, h1⟩ := hv.syn
  obtain ⟨tq, q, h2⟩ := hv.rng
  have h9 : R.size ≤ 9223372036854775806 := Nat.le_trans hR (by decide)
  have h8 : R.size ≤ 281474976710656 := Nat.le_trans hR (by decide)
  cases hA : atoiAll R.data.toList with
  | ok v =>
    have h := Tryd.strconv_ParseInt_10_at64_ok R h9 v ((parseIntB_64 _).trans hA) w
    refine h.mono ?_
    rintro e w' ⟨rfl, h⟩
    exact ⟨⟨_, _, rfl, .inl ⟨rfl, rfl⟩⟩, below_same h⟩
  | «syntax» =>
    have h := Tryd.strconv_ParseInt_10_at64_syntax_var R h8 ((parseIntB_64 _).trans hA) tp p w h1
    refine h.mono ?_
    rintro e w' ⟨N, rfl, _, _, hb⟩
    exact ⟨⟨_, _, rfl, .inr ⟨fun u e => (by cases e), N, rfl⟩⟩, hb⟩
  | range =>
    have h := Tryd.strconv_ParseInt_10_at64_range_var R h8 ((parseIntB_64 _).trans hA) tq q w h2
    refine h.mono ?_
    rintro e w' ⟨N, rfl, _, _, hb⟩
    exact ⟨⟨_, _, rfl, .inr ⟨fun u e => (by cases e), N, rfl⟩⟩, hb⟩
theorem format_any (v : Int) (h1 : -9223372036854775808 ≤ v) (h2 : v ≤ 9223372036854775807) (w : World) (hv : VarT w) :
    Calls Tryd.prog 114 #[.int .i64 v, .int .i64 10] w fun e w' => ∃ S : ByteArray, e = .returned (.string S) ∧ S.data.toList = itoa v ∧ Below w.heap.size w w' := by
  have h := Tryd.strconv_FormatInt_10 v h1 h2 w hv.tab
  refine h.mono ?_
  rintro e w' ⟨rfl, k, os, rfl⟩
  exact ⟨⟨(itoa v).toArray⟩, rfl, rfl, below_grow w k os⟩

/-- What a text tells as a number: the number's own text, no other. -/
def numOk (l : List UInt8) (v : Int) (b : Bool) : Prop := (b = true ∧ atoiAll l = .ok v ∧ itoa v = l) ∨ (b = false ∧ v = 0 ∧ ∀ u, atoiAll l = .ok u → itoa u ≠ l)

set_option maxHeartbeats 1000000 in
theorem number_any (R : ByteArray) (hR : R.size ≤ 1000) (w : World) (hv : VarT w) :
    Calls Tryd.prog 82 #[.string R] w fun e w' => ∃ v b, e = .returned (.tuple #[.int .i64 v, .bool b]) ∧ numOk R.data.toList v b ∧ Below w.heap.size w w' := by
  have HV := hide hv
  clear hv
  go_enter Tryd.func82, Tryd.ntmps82
  go_wp2_with fail
  refine (parse_any R hR _ HV.out).mono ?_
  rintro e w1 ⟨⟨v, er, rfl, hor⟩, hb1⟩
  have HB1 := hide hb1
  clear hb1
  rcases hor with ⟨rfl, hat⟩ | ⟨hat, N, rfl⟩
  · have HA := hide hat
    obtain ⟨v1, v2⟩ := atoi_bounds hat
    clear hat
    go_wp2_with fail
    refine (format_any v v1 v2 _ (HV.out.below HB1.out)).mono ?_
    rintro e w2 ⟨S, rfl, hS, hb2⟩
    have HS := hide hS
    have HB2 := hide (below_step HB1.out hb2)
    clear hS hb2
    by_cases he : itoa v = R.data.toList
    · have hc : (S.toList == R.toList) = true := by rw [beq_iff_eq, toList_data, toList_data, HS.out, he]
      have HE := hide he
      clear he
      go_wp2_with fail
      go_ret2
      exact ⟨v, true, rfl, .inl ⟨rfl, HA.out, HE.out⟩, HB2.out⟩
    · have hc : (S.toList == R.toList) = false := by rw [beq_eq_false_iff_ne, toList_data, toList_data, HS.out]; exact he
      have HE := hide he
      clear he
      go_wp2_with fail
      go_ret2
      exact ⟨0, false, rfl, .inr ⟨rfl, rfl, fun u hu => by rw [HA.out] at hu; cases hu; exact HE.out⟩, HB2.out⟩
  · have HA := hide hat
    clear hat
    go_wp2_with fail
    go_ret2
    exact ⟨0, false, rfl, .inr ⟨rfl, rfl, fun u hu => absurd hu (HA.out u)⟩, HB1.out⟩

theorem left_any (R : ByteArray) (w : World) :
    Calls Tryd.prog 83 #[.string R, .string ⟨#[48]⟩] w fun e w' => ∃ T : ByteArray, e = .returned (.string T) ∧ T.data.toList = trimLeftB R.data.toList 48 ∧ w = w' := by
  have h := Tryd.strings_TrimLeft_one R 48 (by decide) w
  refine h.mono ?_
  rintro e w' ⟨rfl, rfl⟩
  exact ⟨⟨(trimLeftB R.data.toList 48).toArray⟩, rfl, rfl, rfl⟩
theorem trim_any (R : ByteArray) (hR : R.size ≤ 1000) (w : World) :
    Calls Tryd.prog 84 #[.string R, .string ⟨#[48]⟩] w fun e w' => ∃ T : ByteArray, e = .returned (.string T) ∧ T.data.toList = trimB R.data.toList 48 ∧ Below w.heap.size w w' := by
  have h9 : R.size ≤ 9223372036854775807 := Nat.le_trans hR (by decide)
  have h := Tryd.strings_Trim_one R 48 (by decide) w h9
  refine h.mono ?_
  rintro e w' ⟨rfl, h⟩
  refine ⟨⟨(trimB R.data.toList 48).toArray⟩, rfl, rfl, ?_⟩
  rcases h with rfl | rfl
  · exact Below.refl _ _
  · exact (Below.refl _ _).drew

theorem no_zero {d l : List UInt8} (hZ : trimB (restL d l) 48 = []) (h0 : l ≠ nameL d 0) : ¬ ∃ n : Nat, n ≤ 1099511627776 ∧ l = nameL d n := by
  rintro ⟨n, hn, rfl⟩
  have hr : restL d (nameL d n) = pad (decDigits n) := rest_name d n
  rw [hr] at hZ
  have := (trim_pad n).1 hZ
  subst this
  exact h0 rfl
theorem no_num {d l : List UInt8} {v : Int} {b : Bool} (hZ : ¬ (trimB (restL d l) 48 = [] ∧ restL d l ≠ [])) (hN : numOk (trimLeftB (restL d l) 48) v b) (h0 : b = true → 0 ≤ v → v ≤ 1099511627776 → l ≠ nameL d v.toNat) : ¬ ∃ n : Nat, n ≤ 1099511627776 ∧ l = nameL d n := by
  rintro ⟨n, hn, rfl⟩
  have hr : restL d (nameL d n) = pad (decDigits n) := rest_name d n
  rw [hr] at hZ hN
  by_cases h : n = 0
  · exact hZ ⟨(trim_pad n).2 h, pad_ne n⟩
  · rw [trimLeft_pad, if_neg h] at hN
    have ha : atoiAll (decDigits n) = .ok (n : Int) := atoi_dec (by omega)
    rcases hN with ⟨rfl, h1, h2⟩ | ⟨rfl, h1, h2⟩
    · have : v = (n : Int) := by rw [ha] at h1; simpa using h1.symm
      subst this
      exact h0 rfl (by omega) (by omega) (by simp)
    · exact h2 n ha (itoa_nonneg n)
set_option maxHeartbeats 2000000 in
theorem segBase_any (dir name : ByteArray) (hd : dir.size ≤ 1000) (hl : name.size ≤ 1000) (w : World) (hv : VarT w) :
    Calls Tryd.prog 44 #[.string dir, .string name] w fun e w' => e = .returned (.int .i64 (baseS dir.data.toList name.data.toList)) ∧ Below w.heap.size w w' := by
  have HV := hide hv
  clear hv
  go_enter Tryd.func44, Tryd.ntmps44
  go_wp2_with fail
  refine (pre_any name dir _).mono ?_
  rintro e w' ⟨P, rfl, hP, rfl⟩
  have hPs : P.size ≤ 1000 := by rw [size_eq, hP]; have := pre_len name.data.toList (dir.data.toList ++ [47]); rw [size_eq] at hl; omega
  go_wp2_with fail
  refine (suf_any P _ hPs).mono ?_
  rintro e w' ⟨R, rfl, hR, rfl⟩
  rw [hP] at hR
  have hRl : R.data.toList = restL dir.data.toList name.data.toList := hR
  have hRs : R.size ≤ 1000 := by rw [size_eq, hRl]; have := restL_len dir.data.toList name.data.toList; rw [size_eq] at hl; omega
  have HR := hide hRl
  clear hP hR hRl
  go_wp2_with fail
  refine (left_any R _).mono ?_
  rintro e w' ⟨T, rfl, hT, rfl⟩
  have hTs : T.size ≤ 1000 := by rw [size_eq, hT]; rw [size_eq] at hRs; exact Nat.le_trans (List.Sublist.length_le (List.dropWhile_sublist _)) hRs
  have HT := hide hT
  clear hT
  go_wp2_with fail
  refine (number_any T hTs _ HV.out).mono ?_
  rintro e w1 ⟨v, b, rfl, hnum, hb1⟩
  have HN := hide hnum
  have HB1 := hide hb1
  clear hnum hb1
  go_wp2_with fail
  refine (trim_any R hRs _).mono ?_
  rintro e w2 ⟨U, rfl, hU, hb2⟩
  have HU := hide hU
  have HB2 := hide (below_step HB1.out hb2)
  clear hU hb2
  by_cases hZ : trimB (restL dir.data.toList name.data.toList) 48 = [] ∧ restL dir.data.toList name.data.toList ≠ []
  · have hU1 : U.toList.isEmpty = true := by rw [toList_data, HU.out, HR.out, hZ.1]; rfl
    have hR1 : R.toList.isEmpty = false := by rw [toList_data, HR.out, List.isEmpty_eq_false_iff]; exact hZ.2
    have HZ := hide hZ
    clear hZ
    go_wp2_with fail
    refine (segName_any dir 0 (by omega) hd _ (HV.out.below HB2.out)).mono ?_
    rintro e w3 ⟨rfl, hb3⟩
    have HB3 := hide (below_step HB2.out hb3)
    clear hb3
    by_cases he : name.data.toList = nameL dir.data.toList 0
    · have hc := name_eq he
      have HE := hide he
      clear he
      go_wp2_with fail
      go_ret
      exact ⟨by rw [HE.out]; exact ret_int (baseS_yes (d := dir.data.toList) (n := 0) (by omega)).symm, HB3.out⟩
    · have hc : ((nameB dir 0).toList == name.toList) = false := by
        rw [beq_eq_false_iff_ne, toList_data, toList_data]; intro e; exact he (by rw [← e]; simp [nameB])
      have HE := hide he
      clear he
      go_wp2_with fail
      go_ret
      exact ⟨ret_int (baseS_no (no_zero HZ.out.1 HE.out)).symm, HB3.out⟩
  · have hor : U.toList.isEmpty = false ∨ (U.toList.isEmpty = true ∧ R.toList.isEmpty = true) := by
      rw [toList_data, toList_data, HU.out, HR.out]
      by_cases h1 : trimB (restL dir.data.toList name.data.toList) 48 = []
      · right
        have h2 : restL dir.data.toList name.data.toList = [] := by
          by_cases h3 : restL dir.data.toList name.data.toList = []
          · exact h3
          · exact absurd ⟨h1, h3⟩ hZ
        exact ⟨by rw [h1]; rfl, by rw [h2]; rfl⟩
      · left
        rw [List.isEmpty_eq_false_iff]; exact h1
    have HZ := hide hZ
    have HN2 : Hid (numOk (trimLeftB (restL dir.data.toList name.data.toList) 48) v b) := by rw [← HR.out, ← HT.out]; exact HN.out
    clear hZ
    cases b with
    | false =>
      have HX : Hid (¬ ∃ n : Nat, n ≤ 1099511627776 ∧ name.data.toList = nameL dir.data.toList n) := no_num HZ.out HN2.out (by intro h; cases h)
      rcases hor with hU | ⟨hU, hR⟩
      all_goals
        go_wp2_with fail
        go_ret
        exact ⟨ret_int (baseS_no HX.out).symm, HB2.out⟩
    | true =>
      by_cases hv0 : v < 0
      · have HX : Hid (¬ ∃ n : Nat, n ≤ 1099511627776 ∧ name.data.toList = nameL dir.data.toList n) := no_num HZ.out HN2.out (by intros; omega)
        rcases hor with hU | ⟨hU, hR⟩
        all_goals
          go_wp2_with fail
          go_ret
          exact ⟨ret_int (baseS_no HX.out).symm, HB2.out⟩
      by_cases hvm : 1099511627776 < v
      · have HX : Hid (¬ ∃ n : Nat, n ≤ 1099511627776 ∧ name.data.toList = nameL dir.data.toList n) := no_num HZ.out HN2.out (by intros; omega)
        rcases hor with hU | ⟨hU, hR⟩
        all_goals
          go_wp2_with fail
          go_ret
          exact ⟨ret_int (baseS_no HX.out).symm, HB2.out⟩
      obtain ⟨n, rfl⟩ := Int.eq_ofNat_of_zero_le (by omega : 0 ≤ v)
      by_cases he : name.data.toList = nameL dir.data.toList n
      · have hc := name_eq he
        have HE := hide he
        clear he
        rcases hor with hU | ⟨hU, hR⟩
        all_goals
          go_wp2_with fail
          refine (segName_any dir n (by omega) hd _ (HV.out.below HB2.out)).mono ?_
          rintro e w3 ⟨rfl, hb3⟩
          have HB3 := hide (below_step HB2.out hb3)
          clear hb3
          go_wp2_with fail
          go_ret
          exact ⟨by rw [HE.out]; exact ret_int (baseS_yes (by omega)).symm, HB3.out⟩
      · have hc : ((nameB dir n).toList == name.toList) = false := by
          rw [beq_eq_false_iff_ne, toList_data, toList_data]; intro e; exact he (by rw [← e]; simp [nameB])
        have HX : Hid (¬ ∃ n : Nat, n ≤ 1099511627776 ∧ name.data.toList = nameL dir.data.toList n) := no_num HZ.out HN2.out (fun _ _ _ => by simpa using he)
        clear he
        rcases hor with hU | ⟨hU, hR⟩
        all_goals
          go_wp2_with fail
          refine (segName_any dir n (by omega) hd _ (HV.out.below HB2.out)).mono ?_
          rintro e w3 ⟨rfl, hb3⟩
          have HB3 := hide (below_step HB2.out hb3)
          clear hb3
          go_wp2_with fail
          go_ret
          exact ⟨ret_int (baseS_no HX.out).symm, HB3.out⟩

theorem base_any (dir name : ByteArray) (hd : dir.size ≤ 1000) (hl : name.size ≤ 1000) (w : World) (hv : VarT w) :
    Calls Tryd.prog 43 #[.string dir, .string name] w fun e w' => e = .returned (.int .i64 (baseS dir.data.toList name.data.toList)) ∧ Below w.heap.size w w' := by
  by_cases h : ∃ n : Nat, n ≤ 1099511627776 ∧ name.data.toList = nameL dir.data.toList n
  · obtain ⟨n, hn, h⟩ := h
    have := base_yes dir name hd hl w hv n hn h
    rw [h, baseS_yes hn]; exact this
  · have := base_no dir name hd hl w hv h
    rw [baseS_no h]; exact this
end Go.Proofs.YtlcgcckllecjpaaDoor.Sn
