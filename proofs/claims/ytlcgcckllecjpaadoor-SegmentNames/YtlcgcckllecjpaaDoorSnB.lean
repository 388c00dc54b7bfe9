/- Names of segments: segment.Base and conveyorref.SegBase answer alike. -/
import Derived.Test.YtlcgcckllecjpaaDoorSnV
namespace Go.Proofs.YtlcgcckllecjpaaDoor.Sn
open Go.Lib Go.RowKit
set_option linter.unusedSimpArgs false
set_option linter.unusedVariables false
attribute [local go_sem] Oper.semAt_some
set_option maxRecDepth 100000

theorem name_inj {d : List UInt8} {n m : Nat} (hn : n ≤ 1099511627776) (hm : m ≤ 1099511627776) (h : nameL d n = nameL d m) : n = m := by
  have h1 := rest_name d n
  rw [h, rest_name d m] at h1
  have a := atoi_pad (n := n) (by omega)
  have b := atoi_pad (n := m) (by omega)
  rw [h1] at b
  rw [a] at b
  have : (n : Int) = m := by simpa using b
  omega
open Classical in
/-- The offset in a file's name. -/
noncomputable def baseS (d l : List UInt8) : Int := if h : ∃ n : Nat, n ≤ 1099511627776 ∧ l = nameL d n then (h.choose : Int) else -1
theorem baseS_yes {d : List UInt8} {n : Nat} (hn : n ≤ 1099511627776) : baseS d (nameL d n) = n := by
  have h : ∃ m : Nat, m ≤ 1099511627776 ∧ nameL d n = nameL d m := ⟨n, hn, rfl⟩
  unfold baseS
  rw [dif_pos h, name_inj h.choose_spec.1 hn h.choose_spec.2.symm]
theorem baseS_no {d l : List UInt8} (h : ¬ ∃ n : Nat, n ≤ 1099511627776 ∧ l = nameL d n) : baseS d l = -1 := by
  unfold baseS
  rw [dif_neg h]

/-- What is left of a name without its directory and its ending. -/
def restL (d l : List UInt8) : List UInt8 := trimSuffix (trimPrefix l (d ++ [47])) [46, 108, 111, 103]
theorem restL_len (d l : List UInt8) : (restL d l).length ≤ l.length := by
  unfold restL trimSuffix trimPrefix
  repeat' split
  all_goals simp
  all_goals omega

theorem offset_any (z : Int) (w : World) :
    Calls Tryd.prog 81 #[.int .i64 z] w fun e w' => e = .returned (.bool (decide (0 ≤ z ∧ z ≤ 1099511627776))) ∧ w' = w := by
  by_cases h : 0 ≤ z ∧ z ≤ 1099511627776
  · have HD : Hid (decide (0 ≤ z ∧ z ≤ 1099511627776) = true) := decide_eq_true h
    obtain ⟨h1, h2⟩ := h
    go_enter Tryd.func81, Tryd.ntmps81
    go_wp2
    go_ret
    exact ⟨ret_bool HD.out.symm, rfl⟩
  · have HD : Hid (decide (0 ≤ z ∧ z ≤ 1099511627776) = false) := decide_eq_false h
    by_cases h1 : 0 ≤ z
    · have h2 : ¬ z ≤ 1099511627776 := fun e => h ⟨h1, e⟩
      clear h
      go_enter Tryd.func81, Tryd.ntmps81
      go_wp2
      go_ret
      exact ⟨ret_bool (by rw [eq_comm, Bool.eq_false_iff]; simp; omega), rfl⟩
    · clear h
      go_enter Tryd.func81, Tryd.ntmps81
      go_wp2
      go_ret
      exact ⟨ret_bool (by rw [eq_comm, Bool.eq_false_iff]; simp; omega), rfl⟩

theorem pre_any (name dir : ByteArray) (w : World) :
    Calls Tryd.prog 79 #[.string name, .string (dir ++ (⟨#[47]⟩ : ByteArray))] w fun e w' => ∃ P : ByteArray, e = .returned (.string P) ∧ P.data.toList = trimPrefix name.data.toList (dir.data.toList ++ [47]) ∧ w = w' := by
  have h := Tryd.strings_TrimPrefix name (dir ++ (⟨#[47]⟩ : ByteArray)) w
  refine h.mono ?_
  rintro e w' ⟨rfl, rfl⟩
  exact ⟨⟨(trimPrefix name.data.toList (dir ++ (⟨#[47]⟩ : ByteArray)).data.toList).toArray⟩, rfl, by rw [ByteArray.data_append]; simp, rfl⟩
theorem suf_any (P : ByteArray) (w : World) (hP : P.size ≤ 1000) :
    Calls Tryd.prog 78 #[.string P, .string ⟨#[46, 108, 111, 103]⟩] w fun e w' => ∃ R : ByteArray, e = .returned (.string R) ∧ R.data.toList = trimSuffix P.data.toList [46, 108, 111, 103] ∧ w = w' := by
  have h9 : P.size ≤ 9223372036854775807 := Nat.le_trans hP (by decide)
  have h := Tryd.strings_TrimSuffix P ⟨#[46, 108, 111, 103]⟩ w h9
  refine h.mono ?_
  rintro e w' ⟨rfl, rfl⟩
  exact ⟨⟨(trimSuffix P.data.toList [46, 108, 111, 103]).toArray⟩, rfl, rfl, rfl⟩
theorem pre_len (l p : List UInt8) : (trimPrefix l p).length ≤ l.length := by
  unfold trimPrefix; split <;> simp
theorem below_same {w w' : World} {e : TypeId} (h : w' = w ∨ ∃ t, w' = bytesWorld w e t) : Below w.heap.size w w' := by
  rcases h with rfl | ⟨t, rfl⟩
  · exact Below.refl _ _
  · exact below_bytes _ _ _
theorem atoi_bounds {l : List UInt8} {v : Int} (h : atoiAll l = .ok v) : -9223372036854775808 ≤ v ∧ v ≤ 9223372036854775807 := by
  rw [← parseIntB_64] at h
  have := parseIntB_bounds h
  omega
theorem atoi_any (R : ByteArray) (hR : R.size ≤ 1000) (w : World) (hv : VarT w) :
    Calls Tryd.prog 80 #[.string R] w fun e w' => (∃ v er, e = .returned (.tuple #[.int .i64 v, er]) ∧ ((er = .nilIface ∧ atoiAll R.data.toList = .ok v) ∨ ((∀ u, atoiAll R.data.toList ≠ .ok u) ∧ ∃ N, er = .iface 195 (.pointer (some ⟨N, 0, none⟩))))) ∧ Below w.heap.size w w' := by
  obtain ⟨tp, p, h1⟩ := hv.syn
  obtain ⟨tq, q, h2⟩ := hv.rng
  cases hA : atoiAll R.data.toList with
  | ok v =>
    refine (Tryd.strconv_Atoi_ok R (by omega) v hA w).mono ?_
    rintro e w' ⟨rfl, h⟩
    exact ⟨⟨_, _, rfl, .inl ⟨rfl, rfl⟩⟩, below_same h⟩
  | «syntax» =>
    refine (Tryd.strconv_Atoi_syntax_var R (by omega) hA tp p w h1).mono ?_
    rintro e w' ⟨N, rfl, _, _, hb⟩
    exact ⟨⟨_, _, rfl, .inr ⟨fun u e => (by cases e), N, rfl⟩⟩, hb⟩
  | range =>
    refine (Tryd.strconv_Atoi_range_var R (by omega) hA tq q w h2).mono ?_
    rintro e w' ⟨N, rfl, _, _, hb⟩
    exact ⟨⟨_, _, rfl, .inr ⟨fun u e => (by cases e), N, rfl⟩⟩, hb⟩

theorem name_ne {dir name : ByteArray} (h : ¬ ∃ n : Nat, n ≤ 1099511627776 ∧ name.data.toList = nameL dir.data.toList n) {n : Nat} (hn : n ≤ 1099511627776) : ((nameB dir n).toList == name.toList) = false := by
  rw [beq_eq_false_iff_ne]
  intro e
  refine h ⟨n, hn, ?_⟩
  rw [toList_data, toList_data] at e
  rw [← e]; simp [nameB]
theorem name_eq {dir name : ByteArray} {n : Nat} (h : name.data.toList = nameL dir.data.toList n) : ((nameB dir n).toList == name.toList) = true := by
  rw [beq_iff_eq, toList_data, toList_data, h]; simp [nameB]

set_option maxHeartbeats 1000000 in
theorem base_no (dir name : ByteArray) (hd : dir.size ≤ 1000) (hl : name.size ≤ 1000) (w : World) (hv : VarT w) (hno : ¬ ∃ n : Nat, n ≤ 1099511627776 ∧ name.data.toList = nameL dir.data.toList n) :
    Calls Tryd.prog 43 #[.string dir, .string name] w fun e w' => e = .returned (.int .i64 (-1)) ∧ Below w.heap.size w w' := by
  have HV := hide hv
  have HN := hide hno
  clear hv hno
  go_enter Tryd.func43, Tryd.ntmps43
  go_wp2_with fail
  refine (pre_any name dir _).mono ?_
  rintro e w' ⟨P, rfl, hP, rfl⟩
  have hPs : P.size ≤ 1000 := by rw [size_eq, hP]; have := pre_len name.data.toList (dir.data.toList ++ [47]); rw [size_eq] at hl; omega
  go_wp2_with fail
  refine (suf_any P _ hPs).mono ?_
  rintro e w' ⟨R, rfl, hR, rfl⟩
  rw [hP] at hR
  have hRl : R.data.toList = restL dir.data.toList name.data.toList := hR
  have hRs : R.size ≤ 1000 := by rw [size_eq, hRl]; have := restL_len dir.data.toList name.data.toList; rw [size_eq] at hl; omega
  clear hP hR hRl
  go_wp2_with fail
  refine (atoi_any R hRs _ HV.out).mono ?_
  rintro e w1 ⟨⟨v, er, rfl, hor⟩, hb1⟩
  have HB1 := hide hb1
  clear hb1
  rcases hor with ⟨rfl, hat⟩ | ⟨hat, N, rfl⟩
  · have hat2 := atoi_bounds hat
    clear hat
    obtain ⟨v1, v2⟩ := hat2
    by_cases h : 0 ≤ v ∧ v ≤ 1099511627776
    · have hdc : decide (0 ≤ v ∧ v ≤ 1099511627776) = true := by simp [h]
      go_wp2_with (go_at_call 81; refine (offset_any _ _).mono ?_; rintro e w' ⟨rfl, rfl⟩)
      obtain ⟨n, rfl⟩ := Int.eq_ofNat_of_zero_le h.1
      refine (name_any dir n (by omega) hd _ (HV.out.below HB1.out)).mono ?_
      rintro e w2 ⟨rfl, hb2⟩
      have hne := name_ne HN.out (show n ≤ 1099511627776 by omega)
      go_wp2_with fail
      go_ret
      exact ⟨rfl, below_step HB1.out hb2⟩
    · have hdc : decide (0 ≤ v ∧ v ≤ 1099511627776) = false := by simp [h]
      go_wp2_with (go_at_call 81; refine (offset_any _ _).mono ?_; rintro e w' ⟨rfl, rfl⟩)
      go_ret
      exact ⟨rfl, HB1.out⟩
  · clear hat
    go_wp2
    go_ret
    exact ⟨rfl, HB1.out⟩

set_option maxHeartbeats 1000000 in
theorem base_yes (dir name : ByteArray) (hd : dir.size ≤ 1000) (hl : name.size ≤ 1000) (w : World) (hv : VarT w) (n : Nat) (hn : n ≤ 1099511627776) (hna : name.data.toList = nameL dir.data.toList n) :
    Calls Tryd.prog 43 #[.string dir, .string name] w fun e w' => e = .returned (.int .i64 n) ∧ Below w.heap.size w w' := by
  have HV := hide hv
  have HN := hide hna
  clear hv hna
  go_enter Tryd.func43, Tryd.ntmps43
  go_wp2_with fail
  refine (pre_any name dir _).mono ?_
  rintro e w' ⟨P, rfl, hP, rfl⟩
  have hPs : P.size ≤ 1000 := by rw [size_eq, hP]; have := pre_len name.data.toList (dir.data.toList ++ [47]); rw [size_eq] at hl; omega
  go_wp2_with fail
  refine (suf_any P _ hPs).mono ?_
  rintro e w' ⟨R, rfl, hR, rfl⟩
  rw [hP] at hR
  have hRl : R.data.toList = restL dir.data.toList name.data.toList := hR
  have hRs : R.size ≤ 1000 := by rw [size_eq, hRl]; have := restL_len dir.data.toList name.data.toList; rw [size_eq] at hl; omega
  rw [HN.out] at hR
  rw [rest_name] at hR
  have hat : atoiAll R.data.toList = .ok (n : Int) := by rw [hR]; exact atoi_pad (by omega)
  have HA := hide hat
  clear hP hR hRl hat
  go_wp2_with fail
  refine (atoi_any R hRs _ HV.out).mono ?_
  rintro e w1 ⟨⟨v, er, rfl, hor⟩, hb1⟩
  have HB1 := hide hb1
  clear hb1
  rcases hor with ⟨rfl, hat⟩ | ⟨hat, N, rfl⟩
  · obtain rfl : v = (n : Int) := by rw [HA.out] at hat; simpa using hat.symm
    clear hat
    have hdc : decide (0 ≤ (n : Int) ∧ (n : Int) ≤ 1099511627776) = true := decide_eq_true ⟨by omega, by omega⟩
    go_wp2_with (go_at_call 81; refine (offset_any _ _).mono ?_; rintro e w' ⟨rfl, rfl⟩)
    refine (name_any dir n (by omega) hd _ (HV.out.below HB1.out)).mono ?_
    rintro e w2 ⟨rfl, hb2⟩
    have hne := name_eq HN.out
    go_wp2_with fail
    go_ret
    exact ⟨rfl, below_step HB1.out hb2⟩
  · exact absurd HA.out (hat _)
end Go.Proofs.YtlcgcckllecjpaaDoor.Sn
