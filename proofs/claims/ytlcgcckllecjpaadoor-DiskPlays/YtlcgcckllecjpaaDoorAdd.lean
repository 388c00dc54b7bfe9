/- Add: bytes at a file's end. -/
import Derived.Test.YtlcgcckllecjpaaDoorOps2
namespace Go.Proofs.YtlcgcckllecjpaaDoor.Dk
open Go.RowKit Go.Maps
set_option linter.unusedSimpArgs false

section
variable {w w' : World} {base d : Nat} {F : List Nat} {A A' : DA} {mref : Option Nat} {ms : List FileM}

def DA.add (A : DA) (nm : List UInt8) (bs : List UInt8) : Int × DA :=
  if A.fails then (14, A)
  else if !A.has nm then (7, A.tick)
  else if A.room < usedL A.files + bs.length then (12, A.tick)
  else (0, A.tick.upd nm (fun f => { f with bytes := f.bytes ++ bs }))

theorem usedL_split (l r : List FA) (f : FA) : usedL (l ++ f :: r) = usedL l + f.bytes.length + usedL r := by
  simp [usedL, List.sum_append]; omega

theorem Tryd.infoB : (Tryd.prog.info? 5).map (fun i => (i.zero, i.size, i.bytes)) = some (some (.int .u8 0), 1, 1) := by kernel_rfl

set_option maxRecDepth 100000 in
set_option maxHeartbeats 1000000 in
theorem add_any (h : Parts w base d F A mref ms) (s : ByteArray) (hs : s.size ≤ maxLen) (v : Value) (bs : List UInt8) (hxk : ∀ Z, Turn F w Z → SliceAt Z v (bs.map encB)) (hbs : bs.length ≤ 1099511627776) :
    Calls Tryd.prog 12 #[.pointer (some ⟨d, 0, none⟩), .string s, v] w fun e w' => e = .returned (errR (A.add s.data.toList bs).1) ∧ Did w w' base d F (A.add s.data.toList bs).2 := by
  have hx := hxk w (Turn.refl _ _)
  have H : Hid (Parts w base d F A mref ms) := h
  have hdF := h.mem_self
  have hhas := has_find h s.data.toList
  have hroom := h.good.room
  have hused := h.good.used
  clear h
  cases hf : A.fails
  case true =>
    have HV : Hid (A.add s.data.toList bs = (14, A)) := by show _ = _; simp [DA.add, hf]
    have HF : Hid (A.fails = true) := hf
    clear hf hhas hroom hused hx
    go_enter Tryd.func12, Tryd.ntmps12
    go_wp2_with (go_at_call 48; refine (operate_fails H.out HF.out _).mono ?_; rintro e w' ⟨rfl, rfl⟩; unfold errV)
    go_ret
    exact ⟨by rw [HV.out]; rfl, by rw [HV.out]; exact Did.none H.out⟩
  case false =>
    have HF : Hid (A.fails = false) := hf
    cases hm : findM ms s.data.toList with
    | none =>
      have HV : Hid (A.add s.data.toList bs = (7, A.tick)) := by show _ = _; simp [DA.add, hf, hhas, hm]
      have HM : Hid (findM ms s.data.toList = none) := hm
      clear hf hhas hm hroom hused hx
      go_enter Tryd.func12, Tryd.ntmps12
      go_wp2_with (go_at_call 48; refine (operate_ok H.out HF.out _ hs _ HM.out).mono ?_; rintro e w1 ⟨rfl, hp, ht⟩; simp only [opRes]; unfold errV)
      go_ret
      exact ⟨by rw [HV.out]; rfl, by rw [HV.out]; exact Did.tick hp hdF ht⟩
    | some m =>
      have HM : Hid (findM ms s.data.toList = some m) := hm
      have hsl0 : ∃ xa xc, v = .slice xa bs.length xc := by
        rcases hx with ⟨rfl, hb⟩ | ⟨a, c, rfl, _⟩
        · have : bs = [] := by simpa using hb
          subst this; exact ⟨_, _, rfl⟩
        · exact ⟨some a, c, by simp⟩
      obtain ⟨xa, xc, rfl⟩ := hsl0
      have HX : Hid (SliceAt w (.slice xa bs.length xc) (bs.map encB)) := hx
      have hwr : IntKind.i64.wrap ((usedL A.files : Int) + (bs.length : Int)) = (usedL A.files : Int) + (bs.length : Int) := by
        rw [IntWalk.i64_left, IntWalk.wrap64_in _ (by omega)]
      by_cases hfull : A.room < usedL A.files + bs.length
      · have HV : Hid (A.add s.data.toList bs = (12, A.tick)) := by show _ = _; simp [DA.add, hf, hhas, hm, hfull]
        clear hf hhas hm hx
        have hfi : (A.room : Int) < (usedL A.files : Int) + bs.length := by omega
        go_enter Tryd.func12, Tryd.ntmps12
        go_wp2_with fail
        refine (operate_ok H.out HF.out _ hs _ HM.out).mono ?_
        rintro e w1 ⟨rfl, hp, ht⟩
        simp only [opRes]
        have c0 := hp.c0
        rw [tick_room] at c0
        have hu1 : ∀ W, Turn [] w1 W → Calls Tryd.prog 21 #[.pointer (some ⟨d, 0, none⟩)] W fun e w' => e = .returned (.int .i64 (usedL A.files)) ∧ Turn [] W w' := by
          intro W hW
          have hq := used_any (hp.kept hW (by simp))
          rw [tick_files] at hq
          exact hq
        have HP : Hid (Parts w1 base d F A.tick mref ms) := hp
        have HU : Hid (∀ W, Turn [] w1 W → Calls Tryd.prog 21 #[.pointer (some ⟨d, 0, none⟩)] W fun e w' => e = .returned (.int .i64 (usedL A.files)) ∧ Turn [] W w') := hu1
        clear hp hu1
        go_wp2_with fail
        go_region_with (go_at_call 21; refine (HU.out _ (by repeat (first | exact Turn.refl _ _ | refine Turn.drew ?_))).mono ?_; rintro e w2 ⟨rfl, ht2⟩; have ht3 : Turn [] w1 w2 := Turn.same (by repeat (first | exact Turn.refl _ _ | refine Turn.drew ?_)) ht2; have c02 : w2.cell? ⟨d, 0, none⟩ = some (.int .i64 A.room) := by { have hq := (HP.out.kept ht3 (by simp)).c0; rw [tick_room] at hq; exact hq })
        all_goals
          go_wp2
          go_ret
          exact ⟨by rw [HV.out]; rfl, by rw [HV.out]; exact Did.tick (HP.out.kept ht3 (by simp)) hdF (ht.trans ht3 (by simp))⟩
      · have HV : Hid (A.add s.data.toList bs = (0, A.tick.upd s.data.toList (fun f => { f with bytes := f.bytes ++ bs }))) := by show _ = _; simp [DA.add, hf, hhas, hm, hfull]
        obtain ⟨i0, hi, hz, hz1, hz2⟩ := info_parts Tryd.infoB
        clear hf hhas hm hx
        have hfi : ((usedL A.files : Int) + bs.length ≤ A.room) := by omega
        go_enter Tryd.func12, Tryd.ntmps12
        go_wp2_with fail
        refine (operate_ok H.out HF.out _ hs _ HM.out).mono ?_
        rintro e w1 ⟨rfl, hp, ht⟩
        simp only [opRes]
        have c0 := hp.c0
        rw [tick_room] at c0
        have hu1 : ∀ W, Turn [] w1 W → Calls Tryd.prog 21 #[.pointer (some ⟨d, 0, none⟩)] W fun e w' => e = .returned (.int .i64 (usedL A.files)) ∧ Turn [] W w' := by
          intro W hW
          have hq := used_any (hp.kept hW (by simp))
          rw [tick_files] at hq
          exact hq
        have HP : Hid (Parts w1 base d F A.tick mref ms) := hp
        have HU : Hid (∀ W, Turn [] w1 W → Calls Tryd.prog 21 #[.pointer (some ⟨d, 0, none⟩)] W fun e w' => e = .returned (.int .i64 (usedL A.files)) ∧ Turn [] W w') := hu1
        clear hp hu1
        obtain ⟨pre, post, rfl, hnm⟩ := split_at HM.out
        have HNM : Hid (m.abs.name = s.data.toList) := hnm
        clear hnm
        go_wp2_with fail
        go_region_with (go_at_call 21; refine (HU.out _ (by repeat (first | exact Turn.refl _ _ | refine Turn.drew ?_))).mono ?_; rintro e w2 ⟨rfl, ht2⟩; have ht3 : Turn [] w1 w2 := Turn.same (by repeat (first | exact Turn.refl _ _ | refine Turn.drew ?_)) ht2; have c02 : w2.cell? ⟨d, 0, none⟩ = some (.int .i64 A.room) := by { have hq := (HP.out.kept ht3 (by simp)).c0; rw [tick_room] at hq; exact hq })
        all_goals
          have HP2 : Hid (Parts w2 base d F A.tick mref (pre ++ m :: post)) := HP.out.kept ht3 (by simp)
          have hfa := HP2.out.each m (by simp)
          obtain ⟨sa, sc, hsl, hsl1, hsl2⟩ := hfa.2.form
          have cf : w2.cell? ⟨m.blk, 0, none⟩ = some (.slice sa m.abs.bytes.length sc) := by rw [cell_of hfa.1, hsl]; rfl
          have HFA : Hid (FileAt w2 base m) := hfa
          have HS : Hid (m.sl = .slice sa m.abs.bytes.length sc) := hsl
          have hX2 : SliceAt w2 (.slice xa bs.length xc) (bs.map encB) := hxk w2 ((ht.mono (by simpa using .inl hdF)).trans ht3 (by simp))
          have hml : m.abs.bytes.length ≤ usedL A.files := by
            have hq := HP.out.files
            rw [tick_files] at hq
            rw [hq, List.map_append, List.map_cons, usedL_split]; omega
          have hbl : base ≤ w2.heap.size := by have := HP2.out.low d hdF; have := HP2.out.lt d hdF; omega
          have HX2 : Hid (SliceAt w2 (.slice xa bs.length xc) (bs.map encB)) := hX2
          have hnb : m.blk ∉ m.sl.ownBlock.toList := by
            have hnd := HP.out.nodup
            rw [HP.out.foot] at hnd
            simp only [List.flatMap_append, List.flatMap_cons, List.nodup_cons, List.nodup_append, FileM.foot] at hnd
            exact hnd.2.2.1.2.1.1.1
          have HNB : Hid (m.blk ∉ m.sl.ownBlock.toList) := hnb
          clear hfa hsl hX2 hnb
          go_wp2_with (at_builtin; go_must (refine wpList_append_row _ rfl _ _ 35 rfl 5 base i0 Tryd.underlying35 hi hz hz1 hz2 (.slice sa m.abs.bytes.length sc) (.slice xa bs.length xc) m.abs.bytes bs rfl rfl (by rw [← HS.out]; exact HFA.out.2) HX2.out (by omega) hbl ?_; intro v3 w3 hrow3 ht4 hown3; rw [← HS.out] at ht4 hown3; have hb3 := ht4.heap HFA.out.1 HNB.out; have cf3 := cell_of hb3 0; have ff3 := frozen_of hb3 0; simp only [List.getElem?_toArray, List.getElem?_cons_zero] at cf3; have HB3 : Hid (w3.heap[m.blk]? = _) := hb3; clear hb3; obtain ⟨a3, c3, hv3, h31, h32⟩ := hrow3.form; rw [List.length_append] at hv3; subst hv3; have HR3 : Hid (RowAt w3 5 base _ (m.abs.bytes ++ bs)) := hrow3; clear hrow3))
          go_ret
          have ht5 : Turn m.foot w2 (w3.setCell ⟨m.blk, 0, none⟩ (.slice a3 (m.abs.bytes.length + bs.length) c3)) := (ht4.mono (by intro k hk; exact .inl (by simp only [FileM.foot, List.mem_cons]; exact .inr hk))).setCell (by simp [FileM.foot]) _
          have hle4 := ht4.size
          have hne3 : m.blk ∉ (Value.slice a3 (m.abs.bytes.length + bs.length) c3).ownBlock := by
            intro e
            rcases hown3 _ e with h1 | h1
            · exact HNB.out (by simpa using h1)
            · have := lt_of_heap HFA.out.1; omega
          have hnew : FileAt (w3.setCell ⟨m.blk, 0, none⟩ (.slice a3 (m.abs.bytes.length + bs.length) c3)) base ⟨{ m.abs with bytes := m.abs.bytes ++ bs }, m.blk, .slice a3 (m.abs.bytes.length + bs.length) c3⟩ :=
            ⟨by rw [heap_set HB3.out]; simp, HR3.out.kept (S := [m.blk]) ((Turn.refl _ _).setCell (by simp) _) (by intro k hk e; simp only [List.mem_singleton] at e; subst e; exact hne3 hk)⟩
          have hgood : Good (A.tick.upd m.abs.name (fun f => { f with bytes := f.bytes ++ bs })) := HP.out.good.upd (fun _ _ => rfl) (fun f _ hh => by show f.safe ≤ (f.bytes ++ bs).length; rw [List.length_append]; omega) (by
            have hu := upd_at HP.out (fun f => { f with bytes := f.bytes ++ bs })
            have hq := HP.out.files
            have hu2 : usedL A.files + bs.length ≤ A.room := by omega
            have e : setF A.tick.files m.abs.name (fun f => { f with bytes := f.bytes ++ bs }) = (A.tick.upd m.abs.name (fun f => { f with bytes := f.bytes ++ bs })).files := rfl
            rw [e, hu, usedL_split, tick_room]
            rw [tick_files] at hq
            rw [hq, List.map_append, List.map_cons, usedL_split] at hu2
            simp only [List.length_append]
            omega)
          obtain ⟨F', hP, _, hF'⟩ := HP2.out.setFile (m' := ⟨{ m.abs with bytes := m.abs.bytes ++ bs }, m.blk, .slice a3 (m.abs.bytes.length + bs.length) c3⟩) rfl rfl ht5 hnew hown3 (A' := A.tick.upd m.abs.name (fun f => { f with bytes := f.bytes ++ bs })) rfl rfl rfl (upd_at HP.out _) hgood
          refine ⟨by rw [HV.out]; rfl, ?_⟩
          rw [HV.out, ← HNM.out]
          refine ⟨F', ⟨_, _, hP⟩, ((ht.mono (by simpa using .inl hdF)).trans ht3 (by simp)).trans ht5 (fun k hk => .inl (HP.out.mem_file (m := m) (by simp) hk)), fun k hk => ?_⟩
          rcases hF' k hk with h1 | h1
          · exact .inl h1
          · have := ht.size; have := ht3.size; exact .inr (by omega)
end

end Go.Proofs.YtlcgcckllecjpaaDoor.Dk
