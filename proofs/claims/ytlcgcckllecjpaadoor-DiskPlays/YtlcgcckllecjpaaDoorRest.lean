/- Fail, Size, Cut, Remove, Rename. -/
import Derived.Test.YtlcgcckllecjpaaDoorCrash
namespace Go.Proofs.YtlcgcckllecjpaaDoor.Dk
open Go.RowKit Go.Maps
set_option maxRecDepth 100000
set_option linter.unusedSimpArgs false
set_option linter.unusedVariables false

section
variable {w w' : World} {base d : Nat} {F : List Nat} {A A' : DA} {mref : Option Nat} {ms ms' : List FileM} {mb : Nat}

def DA.file (A : DA) (nm : List UInt8) : Option FA := A.files.find? (fun f => f.name == nm)
theorem file_find (h : Parts w base d F A mref ms) (nm : List UInt8) : A.file nm = (findM ms nm).map (·.abs) := by
  unfold DA.file findM
  rw [h.files, List.find?_map]
  rfl
theorem has_file (A : DA) (nm : List UInt8) : A.has nm = (A.file nm).isSome := rfl

/-! ### Fail -/
def DA.failAt (A : DA) (n : Int) : DA := { A with limited := decide (0 ≤ n), left := n }
set_option maxHeartbeats 400000 in
theorem fail_any (h : Parts w base d F A mref ms) (n : Int) (hn : n ≤ 9223372036854775807) :
    Calls Tryd.prog 18 #[.pointer (some ⟨d, 0, none⟩), .int .i64 n] w fun e w' => e = .returned (.tuple #[]) ∧ Parts w' base d F (A.failAt n) mref ms ∧ Turn [d] w w' := by
  have H : Hid (Parts w base d F A mref ms) := h
  have c2 := h.c2; have c3 := h.c3; have f2 := h.fr 2; have f3 := h.fr 3
  clear h
  go_enter Tryd.func18, Tryd.ntmps18
  go_wp2
  go_end0
  have t : Turn [d] w ((w.setCell ⟨d, 2, none⟩ (.bool (decide (0 ≤ n)))).setCell ⟨d, 3, none⟩ (.int .i64 n)) := ((Turn.refl _ _).setCell (by simp) _).setCell (by simp) _
  refine ⟨rfl, H.out.setSelf t ?_ rfl ?_, t⟩
  · rw [heap_set (heap_set H.out.self 2 _) 3]; simp [DA.failAt]
  · have hg := H.out.good
    exact { room := hg.room, used := hg.used, count := hg.count, names := hg.names, short := hg.short, safe := hg.safe, left := by intro h; simp [DA.failAt] at h; exact ⟨h, hn⟩ }

/-! ### Size -/
def DA.sizeOf (A : DA) (nm : List UInt8) : Int := match A.file nm with
  | some f => f.bytes.length
  | none => -1
set_option maxHeartbeats 400000 in
theorem size_any (h : Parts w base d F A mref ms) (s : ByteArray) (hs : s.size ≤ maxLen) :
    Calls Tryd.prog 23 #[.pointer (some ⟨d, 0, none⟩), .string s] w fun e w' => e = .returned (.int .i64 (A.sizeOf s.data.toList)) ∧ w = w' := by
  have c1 := h.c1
  have hlook := h.map.look hs
  have hff := file_find h s.data.toList
  cases hm : findM ms s.data.toList with
  | none =>
    have HV : Hid (A.sizeOf s.data.toList = -1) := by show _ = _; simp [DA.sizeOf, hff, hm]
    rw [hm] at hlook
    simp only [ptrOf] at hlook
    clear h hff hm
    go_enter Tryd.func23, Tryd.ntmps23
    go_wp2
    go_ret
    exact ⟨by rw [HV.out]; rfl, rfl⟩
  | some m =>
    have HV : Hid (A.sizeOf s.data.toList = m.abs.bytes.length) := by show _ = _; simp [DA.sizeOf, hff, hm]
    have hfa := h.each m (findM_mem hm).1
    obtain ⟨sa, sc, hsl, hsl1, hsl2⟩ := hfa.2.form
    have cf : w.cell? ⟨m.blk, 0, none⟩ = some (.slice sa m.abs.bytes.length sc) := by rw [cell_of hfa.1, hsl]; rfl
    rw [hm] at hlook
    simp only [ptrOf] at hlook
    clear h hff hm hfa hsl
    go_enter Tryd.func23, Tryd.ntmps23
    go_wp2
    go_ret
    exact ⟨by rw [HV.out]; rfl, rfl⟩

/-! ### Cut -/
def cut1 (n : Nat) (f : FA) : FA := { f with bytes := f.bytes.take n, safe := min f.safe n }
def DA.cut (A : DA) (nm : List UInt8) (n : Int) : Int × DA :=
  if A.fails then (14, A)
  else match A.file nm with
    | none => (7, A.tick)
    | some f => if n < 0 ∨ (f.bytes.length : Int) < n then (2, A.tick) else (0, A.tick.upd nm (cut1 n.toNat))
set_option maxHeartbeats 1000000 in
theorem cut_any (h : Parts w base d F A mref ms) (s : ByteArray) (hs : s.size ≤ maxLen) (n : Int) :
    Calls Tryd.prog 13 #[.pointer (some ⟨d, 0, none⟩), .string s, .int .i64 n] w fun e w' => e = .returned (errR (A.cut s.data.toList n).1) ∧ Did w w' base d F (A.cut s.data.toList n).2 := by
  have H : Hid (Parts w base d F A mref ms) := h
  have hdF := h.mem_self
  have hff := file_find h s.data.toList
  clear h
  cases hf : A.fails
  case true =>
    have HV : Hid (A.cut s.data.toList n = (14, A)) := by show _ = _; simp [DA.cut, hf]
    have HF : Hid (A.fails = true) := hf
    clear hf hff
    go_enter Tryd.func13, Tryd.ntmps13
    go_wp2_with (go_at_call 48; refine (operate_fails H.out HF.out _).mono ?_; rintro e w' ⟨rfl, rfl⟩; unfold errV)
    go_ret
    exact ⟨by rw [HV.out]; rfl, by rw [HV.out]; exact Did.none H.out⟩
  case false =>
    have HF : Hid (A.fails = false) := hf
    cases hm : findM ms s.data.toList with
    | none =>
      have HV : Hid (A.cut s.data.toList n = (7, A.tick)) := by show _ = _; simp [DA.cut, hf, hff, hm]
      have HM : Hid (findM ms s.data.toList = none) := hm
      clear hf hff hm
      go_enter Tryd.func13, Tryd.ntmps13
      go_wp2_with (go_at_call 48; refine (operate_ok H.out HF.out _ hs _ HM.out).mono ?_; rintro e w1 ⟨rfl, hp, ht⟩; simp only [opRes]; unfold errV)
      go_ret
      exact ⟨by rw [HV.out]; rfl, by rw [HV.out]; exact Did.tick hp hdF ht⟩
    | some m =>
      have HM : Hid (findM ms s.data.toList = some m) := hm
      by_cases hr : n < 0 ∨ (m.abs.bytes.length : Int) < n
      · have HV : Hid (A.cut s.data.toList n = (2, A.tick)) := by show _ = _; simp [DA.cut, hf, hff, hm, hr]
        have HR : Hid (n < 0 ∨ (m.abs.bytes.length : Int) < n) := hr
        clear hf hff hm hr
        by_cases h1 : n < 0
        all_goals
          have h2 : n < 0 ∨ (m.abs.bytes.length : Int) < n := HR.out
          go_enter Tryd.func13, Tryd.ntmps13
          go_wp2_with fail
          refine (operate_ok H.out HF.out _ hs _ HM.out).mono ?_
          rintro e w1 ⟨rfl, hp, ht⟩
          simp only [opRes]
          have HP : Hid (Parts w1 base d F A.tick mref ms) := hp
          have hfa := hp.each m (findM_mem HM.out).1
          obtain ⟨sa, sc, hsl, hsl1, hsl2⟩ := hfa.2.form
          have cf : w1.cell? ⟨m.blk, 0, none⟩ = some (.slice sa m.abs.bytes.length sc) := by rw [cell_of hfa.1, hsl]; rfl
          try (have h3 : (m.abs.bytes.length : Int) < n := by (have := HR.out; omega))
          clear hp hfa hsl h2
          go_wp2
          go_ret
          exact ⟨by rw [HV.out]; rfl, by rw [HV.out]; exact Did.tick HP.out hdF ht⟩
      · have HV : Hid (A.cut s.data.toList n = (0, A.tick.upd s.data.toList (cut1 n.toNat))) := by show _ = _; simp [DA.cut, hf, hff, hm, hr]
        obtain ⟨k, rfl⟩ := Int.eq_ofNat_of_zero_le (show 0 ≤ n by omega)
        have h1 : ¬ (k : Int) < 0 := by omega
        have h2 : ¬ (m.abs.bytes.length : Int) < k := by omega
        have hkn : k ≤ m.abs.bytes.length := by omega
        clear hf hff hm hr
        go_enter Tryd.func13, Tryd.ntmps13
        go_wp2_with fail
        refine (operate_ok H.out HF.out _ hs _ HM.out).mono ?_
        rintro e w1 ⟨rfl, hp, ht⟩
        simp only [opRes]
        have HP : Hid (Parts w1 base d F A.tick mref ms) := hp
        obtain ⟨pre, post, rfl, hnm⟩ := split_at HM.out
        have hfa := hp.each m (by simp)
        obtain ⟨sa, sc, hsl, hsl1, hsl2⟩ := hfa.2.form
        have cf : w1.cell? ⟨m.blk, 0, none⟩ = some (.slice sa m.abs.bytes.length sc) := by rw [cell_of hfa.1, hsl]; rfl
        have HFA : Hid (FileAt w1 base m) := hfa
        have HNM : Hid (m.abs.name = s.data.toList) := hnm
        have hnb : m.blk ∉ m.sl.ownBlock := by
          have hnd := hp.nodup
          rw [hp.foot] at hnd
          simp only [List.flatMap_append, List.flatMap_cons, List.nodup_cons, List.nodup_append, FileM.foot] at hnd
          intro e
          exact hnd.2.2.1.2.1.1.1 (by simpa using e)
        have hbytes : m.abs.bytes.length ≤ 1048576 := by
          have h1 := hp.good.used
          have h2 := hp.good.room
          rw [hp.files, List.map_append, List.map_cons, usedL_split] at h1
          omega
        have hsafe := hp.good.safe m.abs (by rw [hp.files]; simp)
        have HB : Hid (m.blk ∉ m.sl.ownBlock ∧ m.abs.bytes.length ≤ 1048576 ∧ m.abs.safe ≤ m.abs.bytes.length) := ⟨hnb, hbytes, hsafe⟩
        clear hp hfa hsl hnm hnb hbytes hsafe
        go_wp2_with fail
        refine (keep_any HFA.out HB.out.1 k hkn HB.out.2.1 HB.out.2.2).mono ?_
        rintro e w2 ⟨rfl, hfa2, ht2⟩
        go_wp2
        go_ret
        have htf : Turn m.foot w1 w2 := ht2.mono (by intro x hx; simp only [List.mem_singleton] at hx; subst hx; exact .inl (by simp [FileM.foot]))
        have hgood : Good (A.tick.upd m.abs.name (cut1 k)) := HP.out.good.upd (fun _ _ => rfl) (fun f _ hh => by simp only [cut1, List.length_take]; omega) (Nat.le_trans (usedL_le (fun f _ => by simp only [cut1, List.length_take]; omega)) HP.out.good.used)
        obtain ⟨F', hP, hsub, _⟩ := HP.out.setFile (m' := ⟨cut1 k m.abs, m.blk, cutSl m.sl k⟩) rfl rfl htf hfa2 (fun x hx => .inl (cutSl_own m.sl k x hx)) (A' := A.tick.upd m.abs.name (cut1 k)) rfl rfl rfl (upd_at HP.out _) hgood
        refine ⟨by rw [HV.out]; rfl, ?_⟩
        rw [HV.out]
        simp only [Int.toNat_natCast]
        rw [← HNM.out]
        refine ⟨F', ⟨_, _, hP⟩, (ht.mono (by simpa using .inl hdF)).trans htf (fun x hx => .inl (HP.out.mem_file (m := m) (by simp) hx)), fun x hx => .inl ?_⟩
        rcases hsub x hx with h1 | h1
        · exact h1
        · exact HP.out.mem_file (m := m) (by simp) (by simp only [FileM.foot, List.mem_cons, Option.mem_toList]; exact .inr (cutSl_own m.sl k x h1))
end

end Go.Proofs.YtlcgcckllecjpaaDoor.Dk
