/- Ops2, Add, KeepA, RestA, Bit, Back, Torn, Scan, Sgm, Sgn, Sga: texts merged. -/
import Derived.Test.YtmdmdbobbepogaaGreatDoorM3
import Derived.Deep.RegionWith
import Derived.Deep.DeepMust
import Derived.Test.YtmdmdbobbepogaaGreatDoorM1
import Derived.Test.YtmdmdbobbepogaaGreatDoorM2
/- Sync, Add: what they do with the disk. -/
namespace Go.Proofs.YtmdmdbobbepogaaGreatDoor.Dk
open Go.RowKit Go.Maps
set_option linter.unusedSimpArgs false

theorem nodup_swap {X Y o o' : List Nat} (h : (X ++ (o ++ Y)).Nodup) (ho : o'.Nodup) (hs : ∀ k ∈ o', k ∈ o ∨ (k ∉ X ∧ k ∉ Y)) : (X ++ (o' ++ Y)).Nodup := by
  simp only [List.nodup_append, List.mem_append] at *
  obtain ⟨hX, ⟨_, hY, hoY⟩, hXr⟩ := h
  refine ⟨hX, ⟨ho, hY, ?_⟩, ?_⟩
  · intro a ha b hb e
    rcases hs a ha with h1 | h1
    · exact hoY a h1 b hb e
    · exact h1.2 (e ▸ hb)
  · intro a ha b hb e
    rcases hb with hb | hb
    · rcases hs b hb with h1 | h1
      · exact hXr a ha b (.inl h1) e
      · exact h1.1 (e ▸ ha)
    · exact hXr a ha b (.inr hb) e

def setF (l : List FA) (nm : List UInt8) (g : FA → FA) : List FA := l.map (fun f => if f.name == nm then g f else f)
theorem setF_len (l : List FA) (nm : List UInt8) (g : FA → FA) : (setF l nm g).length = l.length := by simp [setF]
theorem setF_at (pre post : List FA) (f : FA) (g : FA → FA) (hn : ((pre ++ f :: post).map (·.name)).Nodup) : setF (pre ++ f :: post) f.name g = pre ++ g f :: post := by
  have h1 : ∀ x ∈ pre, (x.name == f.name) = false := by
    intro x hx
    simp only [List.map_append, List.map_cons, List.nodup_append] at hn
    have := hn.2.2 x.name (List.mem_map.2 ⟨x, hx, rfl⟩) f.name (by simp)
    simpa using this
  have h2 : ∀ x ∈ post, (x.name == f.name) = false := by
    intro x hx
    simp only [List.map_append, List.map_cons, List.nodup_append, List.nodup_cons] at hn
    have : x.name ≠ f.name := fun e => hn.2.1.1 (by rw [← e]; exact List.mem_map.2 ⟨x, hx, rfl⟩)
    simpa using this
  unfold setF
  rw [List.map_append, List.map_cons]
  congr 1
  · conv => rhs; rw [← List.map_id pre]
    apply List.map_congr_left
    intro x hx; simp [h1 x hx]
  · congr 1
    · simp
    · conv => rhs; rw [← List.map_id post]
      apply List.map_congr_left
      intro x hx; simp [h2 x hx]

section
variable {w w' : World} {base d : Nat} {F : List Nat} {A A' : DA} {mref : Option Nat} {ms : List FileM}

theorem split_at {nm : List UInt8} {m : FileM} (h : findM ms nm = some m) : ∃ pre post, ms = pre ++ m :: post ∧ m.abs.name = nm := by
  obtain ⟨h1, h2⟩ := findM_mem h
  obtain ⟨pre, post, e⟩ := List.append_of_mem h1
  exact ⟨pre, post, e, h2⟩

/-- A file is told anew; all others lie as they lay. -/
theorem Parts.setFile {pre post : List FileM} {m m' : FileM} (h : Parts w base d F A mref (pre ++ m :: post)) (hn : m'.abs.name = m.abs.name) (hb : m'.blk = m.blk) (ht : Turn m.foot w w') (hfa : FileAt w' base m')
    (hown : ∀ k ∈ m'.sl.ownBlock, k ∈ m.sl.ownBlock ∨ w.heap.size ≤ k) (hroom : A'.room = A.room) (hlim : A'.limited = A.limited) (hleft : A'.left = A.left) (hf : A'.files = pre.map (·.abs) ++ m'.abs :: post.map (·.abs)) (hg : Good A') :
    ∃ F', Parts w' base d F' A' mref (pre ++ m' :: post) ∧ (∀ k ∈ F', k ∈ F ∨ k ∈ m'.sl.ownBlock) ∧ ∀ k ∈ F', k ∈ F ∨ w.heap.size ≤ k := by
  have hnd := h.nodup
  have hlt := h.lt
  have hlo := h.low
  have hft := h.foot
  have hF : F = (d :: (mref.toList ++ pre.flatMap FileM.foot)) ++ (m.foot ++ post.flatMap FileM.foot) := by rw [hft]; simp [List.flatMap_append]
  rw [hF] at hnd
  have hblk : m.blk ∈ F := by rw [hF]; simp [FileM.foot]
  have hfresh : ∀ k ∈ m'.foot, k ∈ m.foot ∨ (k ∉ (d :: (mref.toList ++ pre.flatMap FileM.foot)) ∧ k ∉ post.flatMap FileM.foot) := by
    intro k hk
    simp only [FileM.foot, List.mem_cons, Option.mem_toList] at hk
    rcases hk with rfl | hk
    · exact .inl (by simp [FileM.foot, hb])
    · rcases hown k hk with h1 | h1
      · exact .inl (by simp only [FileM.foot, List.mem_cons, Option.mem_toList]; exact .inr h1)
      · refine .inr ⟨fun e => ?_, fun e => ?_⟩
        · have := hlt k (by rw [hF]; exact List.mem_append.2 (.inl e)); omega
        · have := hlt k (by rw [hF]; exact List.mem_append.2 (.inr (List.mem_append.2 (.inr e)))); omega
  have hnd' : m'.foot.Nodup := by
    simp only [FileM.foot, List.nodup_cons, Option.mem_toList]
    refine ⟨fun e => ?_, by cases m'.sl.ownBlock <;> simp⟩
    rcases hown _ e with h1 | h1
    · rw [hb] at h1
      have : m.foot.Nodup := by
        have := hnd
        rw [List.nodup_append, List.nodup_append] at this
        exact this.2.1.1
      simp only [FileM.foot, List.nodup_cons, Option.mem_toList] at this
      exact this.1 h1
    · rw [hb] at h1; have := hlt _ hblk; omega
  have hsw := nodup_swap hnd hnd' hfresh
  have hsep : ∀ x, (x ∈ (d :: (mref.toList ++ pre.flatMap FileM.foot)) ∨ x ∈ post.flatMap FileM.foot) → x ∉ m.foot := by
    intro x hx e
    rw [List.nodup_append, List.nodup_append] at hnd
    rcases hx with hx | hx
    · exact hnd.2.2 x hx x (List.mem_append.2 (.inl e)) rfl
    · exact hnd.2.1.2.2 x e x hx rfl
  have hin0 : ∀ k ∈ (d :: (mref.toList ++ pre.flatMap FileM.foot)) ++ (m'.foot ++ post.flatMap FileM.foot), k ∈ F ∨ k ∈ m'.sl.ownBlock := by
    intro k hk
    rw [hF]
    simp only [List.mem_append] at hk ⊢
    rcases hk with hk | hk | hk
    · exact .inl (.inl hk)
    · simp only [FileM.foot, List.mem_cons, Option.mem_toList] at hk
      rcases hk with rfl | hk
      · exact .inl (.inr (.inl (by simp [FileM.foot, hb])))
      · exact .inr hk
    · exact .inl (.inr (.inr hk))
  have hin : ∀ k ∈ (d :: (mref.toList ++ pre.flatMap FileM.foot)) ++ (m'.foot ++ post.flatMap FileM.foot), k ∈ F ∨ w.heap.size ≤ k := by
    intro k hk
    rw [hF]
    simp only [List.mem_append] at hk ⊢
    rcases hk with hk | hk | hk
    · exact .inl (.inl hk)
    · simp only [FileM.foot, List.mem_cons, Option.mem_toList] at hk
      rcases hk with rfl | hk
      · exact .inl (.inr (.inl (by simp [FileM.foot, hb])))
      · rcases hown k hk with h1 | h1
        · exact .inl (.inr (.inl (by simp only [FileM.foot, List.mem_cons, Option.mem_toList]; exact .inr h1)))
        · exact .inr h1
    · exact .inl (.inr (.inr hk))
  refine ⟨_, { foot := ?_, nodup := hsw, low := ?_, self := ?_, map := ?_, each := ?_, files := ?_, good := hg }, hin0, hin⟩
  · simp [List.flatMap_append]
  · intro k hk
    rcases hin k hk with h1 | h1
    · exact hlo k h1
    · have := hlo _ hblk; have := hlt _ hblk; omega
  · rw [hroom, hlim, hleft]
    exact ht.heap h.self (hsep d (.inl (by simp)))
  · refine (h.map.kept ht (fun k hk => hsep k (.inl ?_))).congr ?_
    · simp only [List.mem_cons, List.mem_append, Option.mem_toList]; exact .inr (.inl hk)
    · simp [hn, hb]
  · intro x hx
    rcases List.mem_append.1 hx with hx | hx
    · exact (h.each x (by simp [hx])).kept ht (fun k hk => hsep k (.inl (by simp only [List.mem_cons, List.mem_append, List.mem_flatMap]; exact .inr (.inr ⟨x, hx, hk⟩))))
    · rcases List.mem_cons.1 hx with rfl | hx
      · exact hfa
      · exact (h.each x (by simp [hx])).kept ht (fun k hk => hsep k (.inr (List.mem_flatMap.2 ⟨x, hx, hk⟩)))
  · rw [hf]; simp

/-- The disk with one file told anew. -/
def DA.upd (A : DA) (nm : List UInt8) (g : FA → FA) : DA := { A with files := setF A.files nm g }
theorem upd_at {pre post : List FileM} {m : FileM} (h : Parts w base d F A mref (pre ++ m :: post)) (g : FA → FA) : (A.upd m.abs.name g).files = pre.map (·.abs) ++ g m.abs :: post.map (·.abs) := by
  have hn := h.good.names
  unfold DA.upd
  have hf := h.files
  simp only [List.map_append, List.map_cons] at hf
  rw [hf] at hn ⊢
  exact setF_at _ _ _ g hn
theorem Good.upd (h : Good A) {nm : List UInt8} {g : FA → FA} (hn : ∀ f ∈ A.files, (g f).name = f.name) (hs : ∀ f ∈ A.files, f.safe ≤ f.bytes.length → (g f).safe ≤ (g f).bytes.length) (hu : usedL (setF A.files nm g) ≤ A.room) : Good (A.upd nm g) where
  room := h.room
  used := hu
  count := by simp [DA.upd, setF_len]; exact h.count
  names := by
    have : (setF A.files nm g).map (·.name) = A.files.map (·.name) := by
      unfold setF; rw [List.map_map]
      apply List.map_congr_left
      intro f hf; simp only [Function.comp_def]; split
      · exact hn f hf
      · rfl
    show ((setF A.files nm g).map (·.name)).Nodup
    rw [this]; exact h.names
  short := by
    intro f hf
    obtain ⟨f', hf', rfl⟩ := List.mem_map.1 hf
    split
    · rw [hn f' hf']; exact h.short f' hf'
    · exact h.short f' hf'
  safe := by
    intro f hf
    obtain ⟨f', hf', rfl⟩ := List.mem_map.1 hf
    split
    · exact hs f' hf' (h.safe f' hf')
    · exact h.safe f' hf'
  left := h.left

def DA.sync (A : DA) (nm : List UInt8) : Int × DA :=
  if A.fails then (14, A)
  else if !A.has nm then (7, A.tick)
  else (0, A.tick.upd nm (fun f => { f with safe := f.bytes.length }))

theorem used_same {l : List FA} {nm : List UInt8} {g : FA → FA} (h : ∀ f ∈ l, (g f).bytes.length = f.bytes.length) : usedL (setF l nm g) = usedL l := by
  unfold usedL setF
  rw [List.map_map]
  congr 1
  apply List.map_congr_left
  intro f hf; simp only [Function.comp_def]; split
  · exact h f hf
  · rfl

set_option maxRecDepth 100000 in
set_option maxHeartbeats 1000000 in
theorem sync_any (h : Parts w base d F A mref ms) (s : ByteArray) (hs : s.size ≤ maxLen) :
    Calls Tryz.prog 86 #[.pointer (some ⟨d, 0, none⟩), .string s] w fun e w' => e = .returned (errR (A.sync s.data.toList).1) ∧ Did w w' base d F (A.sync s.data.toList).2 := by
  have H : Hid (Parts w base d F A mref ms) := h
  have hdF := h.mem_self
  have hhas := has_find h s.data.toList
  clear h
  cases hf : A.fails
  case true =>
    have HV : Hid (A.sync s.data.toList = (14, A)) := by show _ = _; simp [DA.sync, hf]
    have HF : Hid (A.fails = true) := hf
    clear hf hhas
    go_enter Tryz.func86, Tryz.ntmps86
    go_wp2_with (go_at_call 83; refine (operate_fails H.out HF.out _).mono ?_; rintro e w' ⟨rfl, rfl⟩; unfold errV)
    go_ret
    exact ⟨by rw [HV.out]; rfl, by rw [HV.out]; exact Did.none H.out⟩
  case false =>
    have HF : Hid (A.fails = false) := hf
    cases hm : findM ms s.data.toList with
    | none =>
      have HV : Hid (A.sync s.data.toList = (7, A.tick)) := by show _ = _; simp [DA.sync, hf, hhas, hm]
      have HM : Hid (findM ms s.data.toList = none) := hm
      clear hf hhas hm
      go_enter Tryz.func86, Tryz.ntmps86
      go_wp2_with (go_at_call 83; refine (operate_ok H.out HF.out _ hs _ HM.out).mono ?_; rintro e w1 ⟨rfl, hp, ht⟩; simp only [opRes]; unfold errV)
      go_ret
      exact ⟨by rw [HV.out]; rfl, by rw [HV.out]; exact Did.tick hp hdF ht⟩
    | some m =>
      have HV : Hid (A.sync s.data.toList = (0, A.tick.upd s.data.toList (fun f => { f with safe := f.bytes.length }))) := by show _ = _; simp [DA.sync, hf, hhas, hm]
      have HM : Hid (findM ms s.data.toList = some m) := hm
      clear hf hhas hm
      go_enter Tryz.func86, Tryz.ntmps86
      go_wp2_with fail
      refine (operate_ok H.out HF.out _ hs _ HM.out).mono ?_
      rintro e w1 ⟨rfl, hp, ht⟩
      simp only [opRes]
      have HP : Hid (Parts w1 base d F A.tick mref ms) := hp
      obtain ⟨pre, post, rfl, hnm⟩ := split_at HM.out
      have hfa := hp.each m (by simp)
      obtain ⟨sa, sc, hsl, hsl1, hsl2⟩ := hfa.2.form
      have cf : w1.cell? ⟨m.blk, 0, none⟩ = some (.slice sa m.abs.bytes.length sc) := by rw [cell_of hfa.1, hsl]; rfl
      have cg : w1.cell? ⟨m.blk, 1, none⟩ = some (.int .i64 m.abs.safe) := by rw [cell_of hfa.1]; rfl
      have ff : w1.frozen? ⟨m.blk, 1, none⟩ = false := frozen_of hfa.1 1
      have HFA : Hid (FileAt w1 base m) := hfa
      have HS : Hid (m.sl = .slice sa m.abs.bytes.length sc) := hsl
      have HNM : Hid (m.abs.name = s.data.toList) := hnm
      clear hp hfa hsl hnm
      go_wp2
      go_ret
      have ht2 : Turn m.foot w1 (w1.setCell ⟨m.blk, 1, none⟩ (.int .i64 m.abs.bytes.length)) := (Turn.refl _ _).setCell (by simp [FileM.foot]) _
      have hnew : FileAt (w1.setCell ⟨m.blk, 1, none⟩ (.int .i64 m.abs.bytes.length)) base ⟨{ m.abs with safe := m.abs.bytes.length }, m.blk, m.sl⟩ := by
        refine ⟨by rw [heap_set HFA.out.1]; simp, ?_⟩
        have hnd := HP.out.nodup
        rw [HP.out.foot] at hnd
        simp only [List.flatMap_append, List.flatMap_cons, List.nodup_cons, List.nodup_append, FileM.foot, List.mem_append, List.mem_cons] at hnd
        exact HFA.out.2.kept (S := [m.blk]) ((Turn.refl _ _).setCell (by simp) _) (by
          intro k hk e
          simp only [List.mem_singleton] at e
          subst e
          exact hnd.2.2.1.2.1.1.1 (by simpa using hk))
      have hgood : Good (A.tick.upd m.abs.name (fun f => { f with safe := f.bytes.length })) := HP.out.good.upd (fun _ _ => rfl) (fun _ _ _ => Nat.le_refl _) (by rw [used_same (g := fun f => { f with safe := f.bytes.length }) (fun _ _ => rfl)]; exact HP.out.good.used)
      obtain ⟨F', hP, _, hF'⟩ := HP.out.setFile (m' := ⟨{ m.abs with safe := m.abs.bytes.length }, m.blk, m.sl⟩) rfl rfl ht2 hnew (fun k hk => .inl hk) (A' := A.tick.upd m.abs.name (fun f => { f with safe := f.bytes.length })) rfl rfl rfl (upd_at HP.out _) hgood
      refine ⟨by rw [HV.out]; rfl, ?_⟩
      rw [HV.out, ← HNM.out]
      refine ⟨F', ⟨_, _, hP⟩, (ht.mono (by simpa using .inl hdF)).trans ht2 (fun k hk => .inl (HP.out.mem_file (m := m) (by simp) hk)), fun k hk => ?_⟩
      rcases hF' k hk with h1 | h1
      · exact .inl h1
      · have := ht.size; exact .inr (by omega)
end

end Go.Proofs.YtmdmdbobbepogaaGreatDoor.Dk

/- Add: bytes at a file's end. -/
namespace Go.Proofs.YtmdmdbobbepogaaGreatDoor.Dk
open Go.RowKit Go.Maps
set_option linter.unusedSimpArgs false

section
variable {w w' : World} {base d : Nat} {F : List Nat} {A A' : DA} {mref : Option Nat} {ms : List FileM}

def DA.add (A : DA) (nm : List UInt8) (bs : List UInt8) : Int × DA :=
  if A.fails then (14, A)
  else if !A.has nm then (7, A.tick)
  else if A.room < usedL A.files + bs.length then (12, A.tick)
  else (0, A.tick.upd nm (fun f => { f with bytes := f.bytes ++ bs }))

theorem usedL_split (l r : List FA) (f : FA) : usedL (l ++ f :: r) = usedL l + f.bytes.length + usedL r := by
  simp [usedL, List.sum_append]; omega

theorem Tryz.infoB : (Tryz.prog.info? 5).map (fun i => (i.zero, i.size, i.bytes)) = some (some (.int .u8 0), 1, 1) := by kernel_rfl

set_option maxRecDepth 100000 in
set_option maxHeartbeats 1000000 in
theorem add_any (h : Parts w base d F A mref ms) (s : ByteArray) (hs : s.size ≤ maxLen) (v : Value) (bs : List UInt8) (hxk : ∀ Z, Turn F w Z → SliceAt Z v (bs.map encB)) (hbs : bs.length ≤ 1099511627776) :
    Calls Tryz.prog 91 #[.pointer (some ⟨d, 0, none⟩), .string s, v] w fun e w' => e = .returned (errR (A.add s.data.toList bs).1) ∧ Did w w' base d F (A.add s.data.toList bs).2 := by
  have hx := hxk w (Turn.refl _ _)
  have H : Hid (Parts w base d F A mref ms) := h
  have hdF := h.mem_self
  have hhas := has_find h s.data.toList
  have hroom := h.good.room
  have hused := h.good.used
  clear h
  cases hf : A.fails
  case true =>
    have HV : Hid (A.add s.data.toList bs = (14, A)) := by show _ = _; simp [DA.add, hf]
    have HF : Hid (A.fails = true) := hf
    clear hf hhas hroom hused hx
    go_enter Tryz.func91, Tryz.ntmps91
    go_wp2_with (go_at_call 83; refine (operate_fails H.out HF.out _).mono ?_; rintro e w' ⟨rfl, rfl⟩; unfold errV)
    go_ret
    exact ⟨by rw [HV.out]; rfl, by rw [HV.out]; exact Did.none H.out⟩
  case false =>
    have HF : Hid (A.fails = false) := hf
    cases hm : findM ms s.data.toList with
    | none =>
      have HV : Hid (A.add s.data.toList bs = (7, A.tick)) := by show _ = _; simp [DA.add, hf, hhas, hm]
      have HM : Hid (findM ms s.data.toList = none) := hm
      clear hf hhas hm hroom hused hx
      go_enter Tryz.func91, Tryz.ntmps91
      go_wp2_with (go_at_call 83; refine (operate_ok H.out HF.out _ hs _ HM.out).mono ?_; rintro e w1 ⟨rfl, hp, ht⟩; simp only [opRes]; unfold errV)
      go_ret
      exact ⟨by rw [HV.out]; rfl, by rw [HV.out]; exact Did.tick hp hdF ht⟩
    | some m =>
      have HM : Hid (findM ms s.data.toList = some m) := hm
      have hsl0 : ∃ xa xc, v = .slice xa bs.length xc := by
        rcases hx with ⟨rfl, hb⟩ | ⟨a, c, rfl, _⟩
        · have : bs = [] := by simpa using hb
          subst this; exact ⟨_, _, rfl⟩
        · exact ⟨some a, c, by simp⟩
      obtain ⟨xa, xc, rfl⟩ := hsl0
      have HX : Hid (SliceAt w (.slice xa bs.length xc) (bs.map encB)) := hx
      have hwr : IntKind.i64.wrap ((usedL A.files : Int) + (bs.length : Int)) = (usedL A.files : Int) + (bs.length : Int) := by
        rw [IntWalk.i64_left, IntWalk.wrap64_in _ (by omega)]
      by_cases hfull : A.room < usedL A.files + bs.length
      · have HV : Hid (A.add s.data.toList bs = (12, A.tick)) := by show _ = _; simp [DA.add, hf, hhas, hm, hfull]
        clear hf hhas hm hx
        have hfi : (A.room : Int) < (usedL A.files : Int) + bs.length := by omega
        go_enter Tryz.func91, Tryz.ntmps91
        go_wp2_with fail
        refine (operate_ok H.out HF.out _ hs _ HM.out).mono ?_
        rintro e w1 ⟨rfl, hp, ht⟩
        simp only [opRes]
        have c0 := hp.c0
        rw [tick_room] at c0
        have hu1 : ∀ W, Turn [] w1 W → Calls Tryz.prog 127 #[.pointer (some ⟨d, 0, none⟩)] W fun e w' => e = .returned (.int .i64 (usedL A.files)) ∧ Turn [] W w' := by
          intro W hW
          have hq := used_any (hp.kept hW (by simp))
          rw [tick_files] at hq
          exact hq
        have HP : Hid (Parts w1 base d F A.tick mref ms) := hp
        have HU : Hid (∀ W, Turn [] w1 W → Calls Tryz.prog 127 #[.pointer (some ⟨d, 0, none⟩)] W fun e w' => e = .returned (.int .i64 (usedL A.files)) ∧ Turn [] W w') := hu1
        clear hp hu1
        go_wp2_with fail
        go_region_with (go_at_call 127; refine (HU.out _ (by repeat (first | exact Turn.refl _ _ | refine Turn.drew ?_))).mono ?_; rintro e w2 ⟨rfl, ht2⟩; have ht3 : Turn [] w1 w2 := Turn.same (by repeat (first | exact Turn.refl _ _ | refine Turn.drew ?_)) ht2; have c02 : w2.cell? ⟨d, 0, none⟩ = some (.int .i64 A.room) := by { have hq := (HP.out.kept ht3 (by simp)).c0; rw [tick_room] at hq; exact hq })
        all_goals
          go_wp2
          go_ret
          exact ⟨by rw [HV.out]; rfl, by rw [HV.out]; exact Did.tick (HP.out.kept ht3 (by simp)) hdF (ht.trans ht3 (by simp))⟩
      · have HV : Hid (A.add s.data.toList bs = (0, A.tick.upd s.data.toList (fun f => { f with bytes := f.bytes ++ bs }))) := by show _ = _; simp [DA.add, hf, hhas, hm, hfull]
        obtain ⟨i0, hi, hz, hz1, hz2⟩ := info_parts Tryz.infoB
        clear hf hhas hm hx
        have hfi : ((usedL A.files : Int) + bs.length ≤ A.room) := by omega
        go_enter Tryz.func91, Tryz.ntmps91
        go_wp2_with fail
        refine (operate_ok H.out HF.out _ hs _ HM.out).mono ?_
        rintro e w1 ⟨rfl, hp, ht⟩
        simp only [opRes]
        have c0 := hp.c0
        rw [tick_room] at c0
        have hu1 : ∀ W, Turn [] w1 W → Calls Tryz.prog 127 #[.pointer (some ⟨d, 0, none⟩)] W fun e w' => e = .returned (.int .i64 (usedL A.files)) ∧ Turn [] W w' := by
          intro W hW
          have hq := used_any (hp.kept hW (by simp))
          rw [tick_files] at hq
          exact hq
        have HP : Hid (Parts w1 base d F A.tick mref ms) := hp
        have HU : Hid (∀ W, Turn [] w1 W → Calls Tryz.prog 127 #[.pointer (some ⟨d, 0, none⟩)] W fun e w' => e = .returned (.int .i64 (usedL A.files)) ∧ Turn [] W w') := hu1
        clear hp hu1
        obtain ⟨pre, post, rfl, hnm⟩ := split_at HM.out
        have HNM : Hid (m.abs.name = s.data.toList) := hnm
        clear hnm
        go_wp2_with fail
        go_region_with (go_at_call 127; refine (HU.out _ (by repeat (first | exact Turn.refl _ _ | refine Turn.drew ?_))).mono ?_; rintro e w2 ⟨rfl, ht2⟩; have ht3 : Turn [] w1 w2 := Turn.same (by repeat (first | exact Turn.refl _ _ | refine Turn.drew ?_)) ht2; have c02 : w2.cell? ⟨d, 0, none⟩ = some (.int .i64 A.room) := by { have hq := (HP.out.kept ht3 (by simp)).c0; rw [tick_room] at hq; exact hq })
        all_goals
          have HP2 : Hid (Parts w2 base d F A.tick mref (pre ++ m :: post)) := HP.out.kept ht3 (by simp)
          have hfa := HP2.out.each m (by simp)
          obtain ⟨sa, sc, hsl, hsl1, hsl2⟩ := hfa.2.form
          have cf : w2.cell? ⟨m.blk, 0, none⟩ = some (.slice sa m.abs.bytes.length sc) := by rw [cell_of hfa.1, hsl]; rfl
          have HFA : Hid (FileAt w2 base m) := hfa
          have HS : Hid (m.sl = .slice sa m.abs.bytes.length sc) := hsl
          have hX2 : SliceAt w2 (.slice xa bs.length xc) (bs.map encB) := hxk w2 ((ht.mono (by simpa using .inl hdF)).trans ht3 (by simp))
          have hml : m.abs.bytes.length ≤ usedL A.files := by
            have hq := HP.out.files
            rw [tick_files] at hq
            rw [hq, List.map_append, List.map_cons, usedL_split]; omega
          have hbl : base ≤ w2.heap.size := by have := HP2.out.low d hdF; have := HP2.out.lt d hdF; omega
          have HX2 : Hid (SliceAt w2 (.slice xa bs.length xc) (bs.map encB)) := hX2
          have hnb : m.blk ∉ m.sl.ownBlock.toList := by
            have hnd := HP.out.nodup
            rw [HP.out.foot] at hnd
            simp only [List.flatMap_append, List.flatMap_cons, List.nodup_cons, List.nodup_append, FileM.foot] at hnd
            exact hnd.2.2.1.2.1.1.1
          have HNB : Hid (m.blk ∉ m.sl.ownBlock.toList) := hnb
          clear hfa hsl hX2 hnb
          go_wp2_with (at_builtin; go_must (refine wpList_append_row _ rfl _ _ 57 rfl 5 base i0 Tryz.underlying57 hi hz hz1 hz2 (.slice sa m.abs.bytes.length sc) (.slice xa bs.length xc) m.abs.bytes bs rfl rfl (by rw [← HS.out]; exact HFA.out.2) HX2.out (by omega) hbl ?_; intro v3 w3 hrow3 ht4 hown3; rw [← HS.out] at ht4 hown3; have hb3 := ht4.heap HFA.out.1 HNB.out; have cf3 := cell_of hb3 0; have ff3 := frozen_of hb3 0; simp only [List.getElem?_toArray, List.getElem?_cons_zero] at cf3; have HB3 : Hid (w3.heap[m.blk]? = _) := hb3; clear hb3; obtain ⟨a3, c3, hv3, h31, h32⟩ := hrow3.form; rw [List.length_append] at hv3; subst hv3; have HR3 : Hid (RowAt w3 5 base _ (m.abs.bytes ++ bs)) := hrow3; clear hrow3))
          go_ret
          have ht5 : Turn m.foot w2 (w3.setCell ⟨m.blk, 0, none⟩ (.slice a3 (m.abs.bytes.length + bs.length) c3)) := (ht4.mono (by intro k hk; exact .inl (by simp only [FileM.foot, List.mem_cons]; exact .inr hk))).setCell (by simp [FileM.foot]) _
          have hle4 := ht4.size
          have hne3 : m.blk ∉ (Value.slice a3 (m.abs.bytes.length + bs.length) c3).ownBlock := by
            intro e
            rcases hown3 _ e with h1 | h1
            · exact HNB.out (by simpa using h1)
            · have := lt_of_heap HFA.out.1; omega
          have hnew : FileAt (w3.setCell ⟨m.blk, 0, none⟩ (.slice a3 (m.abs.bytes.length + bs.length) c3)) base ⟨{ m.abs with bytes := m.abs.bytes ++ bs }, m.blk, .slice a3 (m.abs.bytes.length + bs.length) c3⟩ :=
            ⟨by rw [heap_set HB3.out]; simp, HR3.out.kept (S := [m.blk]) ((Turn.refl _ _).setCell (by simp) _) (by intro k hk e; simp only [List.mem_singleton] at e; subst e; exact hne3 hk)⟩
          have hgood : Good (A.tick.upd m.abs.name (fun f => { f with bytes := f.bytes ++ bs })) := HP.out.good.upd (fun _ _ => rfl) (fun f _ hh => by show f.safe ≤ (f.bytes ++ bs).length; rw [List.length_append]; omega) (by
            have hu := upd_at HP.out (fun f => { f with bytes := f.bytes ++ bs })
            have hq := HP.out.files
            have hu2 : usedL A.files + bs.length ≤ A.room := by omega
            have e : setF A.tick.files m.abs.name (fun f => { f with bytes := f.bytes ++ bs }) = (A.tick.upd m.abs.name (fun f => { f with bytes := f.bytes ++ bs })).files := rfl
            rw [e, hu, usedL_split, tick_room]
            rw [tick_files] at hq
            rw [hq, List.map_append, List.map_cons, usedL_split] at hu2
            simp only [List.length_append]
            omega)
          obtain ⟨F', hP, _, hF'⟩ := HP2.out.setFile (m' := ⟨{ m.abs with bytes := m.abs.bytes ++ bs }, m.blk, .slice a3 (m.abs.bytes.length + bs.length) c3⟩) rfl rfl ht5 hnew hown3 (A' := A.tick.upd m.abs.name (fun f => { f with bytes := f.bytes ++ bs })) rfl rfl rfl (upd_at HP.out _) hgood
          refine ⟨by rw [HV.out]; rfl, ?_⟩
          rw [HV.out, ← HNM.out]
          refine ⟨F', ⟨_, _, hP⟩, ((ht.mono (by simpa using .inl hdF)).trans ht3 (by simp)).trans ht5 (fun k hk => .inl (HP.out.mem_file (m := m) (by simp) hk)), fun k hk => ?_⟩
          rcases hF' k hk with h1 | h1
          · exact .inl h1
          · have := ht.size; have := ht3.size; exact .inr (by omega)
end

end Go.Proofs.YtmdmdbobbepogaaGreatDoor.Dk

/- keep, fate: what a crash does with one file. -/
namespace Go.Proofs.YtmdmdbobbepogaaGreatDoor.Dk
open Go.RowKit Go.Maps
set_option linter.unusedSimpArgs false
set_option linter.unusedVariables false

section
variable {w w' : World} {base d : Nat} {F : List Nat} {A A' : DA} {mref : Option Nat} {ms : List FileM}

theorem run_min2 (ts : Array TypeId) (t : TypeId) (x y : Int) (w : World) : (Builtin.min_ ts t #[.int .i64 x, .int .i64 y]).run Tryz.prog w = .ok (.int .i64 (if y < x then y else x)) w := by
  simp [Builtin.min_, Builtin.min2]

/-- The slice behind keep. -/
def cutSl (sl : Value) (n : Nat) : Value := match sl with
  | .slice a _ _ => .slice a n n
  | v => v
theorem RowAt.cut {w : World} {e base : Nat} {sl : Value} {bs : List UInt8} {n : Nat} (h : RowAt w e base sl bs) (hn : n ≤ bs.length) : RowAt w e base (cutSl sl n) (bs.take n) := by
  rcases h with ⟨rfl, rfl⟩ | ⟨g, cap, cur, rfl, hb, hg, h1, h2, h3, h4⟩
  · have : n = 0 := by simpa using hn
    subst this
    exact .inl ⟨rfl, rfl⟩
  · refine .inr ⟨g, n, cur, by simp [cutSl]; omega, hb, hg, by simp; omega, by omega, by omega, ?_⟩
    rw [show (bs.take n).length = n by simp; omega]
    rw [List.map_take, ← h4, List.take_take]
    congr 1; omega
theorem cutSl_own (sl : Value) (n : Nat) : ∀ k ∈ (cutSl sl n).ownBlock, k ∈ sl.ownBlock := by
  intro k hk
  unfold cutSl at hk
  split at hk
  · rename_i a _ _
    cases a <;> simp [Value.ownBlock] at hk ⊢
    exact hk
  · exact hk

set_option maxRecDepth 100000 in
set_option maxHeartbeats 1000000 in
theorem keep_any {m : FileM} (h : FileAt w base m) (hnb : m.blk ∉ m.sl.ownBlock) (n : Nat) (hn : n ≤ m.abs.bytes.length) (hbig : m.abs.bytes.length ≤ 1048576) (hsafe : m.abs.safe ≤ m.abs.bytes.length) :
    Calls Tryz.prog 72 #[.pointer (some ⟨m.blk, 0, none⟩), .int .i64 n] w fun e w' => e = .returned (.tuple #[]) ∧ FileAt w' base ⟨{ m.abs with bytes := m.abs.bytes.take n, safe := min m.abs.safe n }, m.blk, cutSl m.sl n⟩ ∧ Turn [m.blk] w w' := by
  obtain ⟨sa, sc, hsl, hsl1, hsl2⟩ := h.2.form
  have cf : w.cell? ⟨m.blk, 0, none⟩ = some (.slice sa m.abs.bytes.length sc) := by rw [cell_of h.1, hsl]; rfl
  have cg : w.cell? ⟨m.blk, 1, none⟩ = some (.int .i64 m.abs.safe) := by rw [cell_of h.1]; rfl
  have f0 : w.frozen? ⟨m.blk, 0, none⟩ = false := frozen_of h.1 0
  have f1 : w.frozen? ⟨m.blk, 1, none⟩ = false := frozen_of h.1 1
  have H : Hid (FileAt w base m) := h
  have HS : Hid (m.sl = .slice sa m.abs.bytes.length sc) := hsl
  have HNB : Hid (m.blk ∉ m.sl.ownBlock) := hnb
  have hs3 : ∀ w, (Instr.slice 57 (.slice sa m.abs.bytes.length sc) none (some (.int .i64 (n : Int))) (some (.int .i64 (n : Int)))).run Tryz.prog w = .ok (.slice sa n n) w := by
    intro w
    have hsz : (sizeOf 5).run Tryz.prog w = .ok 1 w := by kernel_rfl
    simp [Instr.slice, run_underlying Tryz.underlying57, Instr.sliceBounds, run_sliceBound, hsz, Result.andThen, (by omega : n ≤ sc), Addr.add]
  have hmin := run_min2
  clear h hsl hnb
  have HC : Hid (cutSl m.sl n = .slice sa n n) := by show _ = _; rw [HS.out]; rfl
  have HR : Hid (RowAt w 5 base (.slice sa n n) (m.abs.bytes.take n)) := by have := RowAt.cut H.out.2 hn; rw [HC.out] at this; exact this
  have hfin : ∀ q : Nat, q = min m.abs.safe n → FileAt ((w.setCell ⟨m.blk, 0, none⟩ (.slice sa n n)).setCell ⟨m.blk, 1, none⟩ (.int .i64 (q : Int))) base ⟨{ m.abs with bytes := m.abs.bytes.take n, safe := min m.abs.safe n }, m.blk, cutSl m.sl n⟩ := by
    intro q hq
    refine ⟨?_, ?_⟩
    · rw [heap_set (heap_set H.out.1 0 _) 1, HC.out, hq]; simp
    · show RowAt _ _ _ (cutSl m.sl n) (m.abs.bytes.take n)
      rw [HC.out]
      refine HR.out.kept (S := [m.blk]) (((Turn.refl _ _).setCell (by simp) _).setCell (by simp) _) ?_
      intro k hk e
      simp only [List.mem_singleton] at e
      subst e
      exact HNB.out (cutSl_own m.sl n _ (by rw [HC.out]; exact hk))
  have HFin : Hid (∀ q : Nat, q = min m.abs.safe n → FileAt ((w.setCell ⟨m.blk, 0, none⟩ (.slice sa n n)).setCell ⟨m.blk, 1, none⟩ (.int .i64 (q : Int))) base ⟨{ m.abs with bytes := m.abs.bytes.take n, safe := min m.abs.safe n }, m.blk, cutSl m.sl n⟩) := hfin
  clear hfin
  by_cases hsn : (n : Int) < (m.abs.safe : Int)
  all_goals
    go_enter Tryz.func72, Tryz.ntmps72
    go_wp2
    go_end0
    exact ⟨rfl, HFin.out _ (by omega), ((Turn.refl _ _).setCell (by simp) _).setCell (by simp) _⟩

end

end Go.Proofs.YtmdmdbobbepogaaGreatDoor.Dk

/- Size, Cut. -/
namespace Go.Proofs.YtmdmdbobbepogaaGreatDoor.Dk
open Go.RowKit Go.Maps
set_option maxRecDepth 100000
set_option linter.unusedSimpArgs false
set_option linter.unusedVariables false

theorem setF_names (l : List FA) (nm : List UInt8) (g : FA → FA) (hg : ∀ f, (g f).name = f.name) : (setF l nm g).map (·.name) = l.map (·.name) := by
  unfold setF; rw [List.map_map]
  apply List.map_congr_left
  intro f _; simp only [Function.comp_def]; split
  · exact hg f
  · rfl
theorem usedL_le {l : List FA} {nm : List UInt8} {g : FA → FA} (h : ∀ f ∈ l, (g f).bytes.length ≤ f.bytes.length) : usedL (setF l nm g) ≤ usedL l := by
  unfold usedL setF
  induction l with
  | nil => exact Nat.le_refl _
  | cons a r ih =>
    have ih := ih (fun f hf => h f (by simp [hf]))
    have h1 := h a (by simp)
    simp only [List.map_cons, List.sum_cons]
    split <;> omega

section
variable {w w' : World} {base d : Nat} {F : List Nat} {A A' : DA} {mref : Option Nat} {ms ms' : List FileM} {mb : Nat}

def DA.file (A : DA) (nm : List UInt8) : Option FA := A.files.find? (fun f => f.name == nm)
theorem file_find (h : Parts w base d F A mref ms) (nm : List UInt8) : A.file nm = (findM ms nm).map (·.abs) := by
  unfold DA.file findM
  rw [h.files, List.find?_map]
  rfl
theorem has_file (A : DA) (nm : List UInt8) : A.has nm = (A.file nm).isSome := rfl

/-! ### Size -/
def DA.sizeOf (A : DA) (nm : List UInt8) : Int := match A.file nm with
  | some f => f.bytes.length
  | none => -1
set_option maxHeartbeats 400000 in
theorem size_any (h : Parts w base d F A mref ms) (s : ByteArray) (hs : s.size ≤ maxLen) :
    Calls Tryz.prog 119 #[.pointer (some ⟨d, 0, none⟩), .string s] w fun e w' => e = .returned (.int .i64 (A.sizeOf s.data.toList)) ∧ w = w' := by
  have c1 := h.c1
  have hlook := h.map.look hs
  have hff := file_find h s.data.toList
  cases hm : findM ms s.data.toList with
  | none =>
    have HV : Hid (A.sizeOf s.data.toList = -1) := by show _ = _; simp [DA.sizeOf, hff, hm]
    rw [hm] at hlook
    simp only [ptrOf] at hlook
    clear h hff hm
    go_enter Tryz.func119, Tryz.ntmps119
    go_wp2
    go_ret
    exact ⟨by rw [HV.out]; rfl, rfl⟩
  | some m =>
    have HV : Hid (A.sizeOf s.data.toList = m.abs.bytes.length) := by show _ = _; simp [DA.sizeOf, hff, hm]
    have hfa := h.each m (findM_mem hm).1
    obtain ⟨sa, sc, hsl, hsl1, hsl2⟩ := hfa.2.form
    have cf : w.cell? ⟨m.blk, 0, none⟩ = some (.slice sa m.abs.bytes.length sc) := by rw [cell_of hfa.1, hsl]; rfl
    rw [hm] at hlook
    simp only [ptrOf] at hlook
    clear h hff hm hfa hsl
    go_enter Tryz.func119, Tryz.ntmps119
    go_wp2
    go_ret
    exact ⟨by rw [HV.out]; rfl, rfl⟩

/-! ### Cut -/
def cut1 (n : Nat) (f : FA) : FA := { f with bytes := f.bytes.take n, safe := min f.safe n }
def DA.cut (A : DA) (nm : List UInt8) (n : Int) : Int × DA :=
  if A.fails then (14, A)
  else match A.file nm with
    | none => (7, A.tick)
    | some f => if n < 0 ∨ (f.bytes.length : Int) < n then (2, A.tick) else (0, A.tick.upd nm (cut1 n.toNat))
set_option maxHeartbeats 1000000 in
theorem cut_any (h : Parts w base d F A mref ms) (s : ByteArray) (hs : s.size ≤ maxLen) (n : Int) :
    Calls Tryz.prog 122 #[.pointer (some ⟨d, 0, none⟩), .string s, .int .i64 n] w fun e w' => e = .returned (errR (A.cut s.data.toList n).1) ∧ Did w w' base d F (A.cut s.data.toList n).2 := by
  have H : Hid (Parts w base d F A mref ms) := h
  have hdF := h.mem_self
  have hff := file_find h s.data.toList
  clear h
  cases hf : A.fails
  case true =>
    have HV : Hid (A.cut s.data.toList n = (14, A)) := by show _ = _; simp [DA.cut, hf]
    have HF : Hid (A.fails = true) := hf
    clear hf hff
    go_enter Tryz.func122, Tryz.ntmps122
    go_wp2_with (go_at_call 83; refine (operate_fails H.out HF.out _).mono ?_; rintro e w' ⟨rfl, rfl⟩; unfold errV)
    go_ret
    exact ⟨by rw [HV.out]; rfl, by rw [HV.out]; exact Did.none H.out⟩
  case false =>
    have HF : Hid (A.fails = false) := hf
    cases hm : findM ms s.data.toList with
    | none =>
      have HV : Hid (A.cut s.data.toList n = (7, A.tick)) := by show _ = _; simp [DA.cut, hf, hff, hm]
      have HM : Hid (findM ms s.data.toList = none) := hm
      clear hf hff hm
      go_enter Tryz.func122, Tryz.ntmps122
      go_wp2_with (go_at_call 83; refine (operate_ok H.out HF.out _ hs _ HM.out).mono ?_; rintro e w1 ⟨rfl, hp, ht⟩; simp only [opRes]; unfold errV)
      go_ret
      exact ⟨by rw [HV.out]; rfl, by rw [HV.out]; exact Did.tick hp hdF ht⟩
    | some m =>
      have HM : Hid (findM ms s.data.toList = some m) := hm
      by_cases hr : n < 0 ∨ (m.abs.bytes.length : Int) < n
      · have HV : Hid (A.cut s.data.toList n = (2, A.tick)) := by show _ = _; simp [DA.cut, hf, hff, hm, hr]
        have HR : Hid (n < 0 ∨ (m.abs.bytes.length : Int) < n) := hr
        clear hf hff hm hr
        by_cases h1 : n < 0
        all_goals
          have h2 : n < 0 ∨ (m.abs.bytes.length : Int) < n := HR.out
          go_enter Tryz.func122, Tryz.ntmps122
          go_wp2_with fail
          refine (operate_ok H.out HF.out _ hs _ HM.out).mono ?_
          rintro e w1 ⟨rfl, hp, ht⟩
          simp only [opRes]
          have HP : Hid (Parts w1 base d F A.tick mref ms) := hp
          have hfa := hp.each m (findM_mem HM.out).1
          obtain ⟨sa, sc, hsl, hsl1, hsl2⟩ := hfa.2.form
          have cf : w1.cell? ⟨m.blk, 0, none⟩ = some (.slice sa m.abs.bytes.length sc) := by rw [cell_of hfa.1, hsl]; rfl
          try (have h3 : (m.abs.bytes.length : Int) < n := by (have := HR.out; omega))
          clear hp hfa hsl h2
          go_wp2
          go_ret
          exact ⟨by rw [HV.out]; rfl, by rw [HV.out]; exact Did.tick HP.out hdF ht⟩
      · have HV : Hid (A.cut s.data.toList n = (0, A.tick.upd s.data.toList (cut1 n.toNat))) := by show _ = _; simp [DA.cut, hf, hff, hm, hr]
        obtain ⟨k, rfl⟩ := Int.eq_ofNat_of_zero_le (show 0 ≤ n by omega)
        have h1 : ¬ (k : Int) < 0 := by omega
        have h2 : ¬ (m.abs.bytes.length : Int) < k := by omega
        have hkn : k ≤ m.abs.bytes.length := by omega
        clear hf hff hm hr
        go_enter Tryz.func122, Tryz.ntmps122
        go_wp2_with fail
        refine (operate_ok H.out HF.out _ hs _ HM.out).mono ?_
        rintro e w1 ⟨rfl, hp, ht⟩
        simp only [opRes]
        have HP : Hid (Parts w1 base d F A.tick mref ms) := hp
        obtain ⟨pre, post, rfl, hnm⟩ := split_at HM.out
        have hfa := hp.each m (by simp)
        obtain ⟨sa, sc, hsl, hsl1, hsl2⟩ := hfa.2.form
        have cf : w1.cell? ⟨m.blk, 0, none⟩ = some (.slice sa m.abs.bytes.length sc) := by rw [cell_of hfa.1, hsl]; rfl
        have HFA : Hid (FileAt w1 base m) := hfa
        have HNM : Hid (m.abs.name = s.data.toList) := hnm
        have hnb : m.blk ∉ m.sl.ownBlock := by
          have hnd := hp.nodup
          rw [hp.foot] at hnd
          simp only [List.flatMap_append, List.flatMap_cons, List.nodup_cons, List.nodup_append, FileM.foot] at hnd
          intro e
          exact hnd.2.2.1.2.1.1.1 (by simpa using e)
        have hbytes : m.abs.bytes.length ≤ 1048576 := by
          have h1 := hp.good.used
          have h2 := hp.good.room
          rw [hp.files, List.map_append, List.map_cons, usedL_split] at h1
          omega
        have hsafe := hp.good.safe m.abs (by rw [hp.files]; simp)
        have HB : Hid (m.blk ∉ m.sl.ownBlock ∧ m.abs.bytes.length ≤ 1048576 ∧ m.abs.safe ≤ m.abs.bytes.length) := ⟨hnb, hbytes, hsafe⟩
        clear hp hfa hsl hnm hnb hbytes hsafe
        go_wp2_with fail
        refine (keep_any HFA.out HB.out.1 k hkn HB.out.2.1 HB.out.2.2).mono ?_
        rintro e w2 ⟨rfl, hfa2, ht2⟩
        go_wp2
        go_ret
        have htf : Turn m.foot w1 w2 := ht2.mono (by intro x hx; simp only [List.mem_singleton] at hx; subst hx; exact .inl (by simp [FileM.foot]))
        have hgood : Good (A.tick.upd m.abs.name (cut1 k)) := HP.out.good.upd (fun _ _ => rfl) (fun f _ hh => by simp only [cut1, List.length_take]; omega) (Nat.le_trans (usedL_le (fun f _ => by simp only [cut1, List.length_take]; omega)) HP.out.good.used)
        obtain ⟨F', hP, hsub, _⟩ := HP.out.setFile (m' := ⟨cut1 k m.abs, m.blk, cutSl m.sl k⟩) rfl rfl htf hfa2 (fun x hx => .inl (cutSl_own m.sl k x hx)) (A' := A.tick.upd m.abs.name (cut1 k)) rfl rfl rfl (upd_at HP.out _) hgood
        refine ⟨by rw [HV.out]; rfl, ?_⟩
        rw [HV.out]
        simp only [Int.toNat_natCast]
        rw [← HNM.out]
        refine ⟨F', ⟨_, _, hP⟩, (ht.mono (by simpa using .inl hdF)).trans htf (fun x hx => .inl (HP.out.mem_file (m := m) (by simp) hx)), fun x hx => .inl ?_⟩
        rcases hsub x hx with h1 | h1
        · exact h1
        · exact HP.out.mem_file (m := m) (by simp) (by simp only [FileM.foot, List.mem_cons, Option.mem_toList]; exact .inr (cutSl_own m.sl k x h1))
end

end Go.Proofs.YtmdmdbobbepogaaGreatDoor.Dk

/- One bit that turned is seen: the check tells any byte that changed; no beginning of a batch's body is one. No program. -/
namespace Go.Proofs.YtmdmdbobbepogaaGreatDoor.Cr
set_option linter.unusedSimpArgs false
set_option linter.unusedVariables false

theorem xr {a b c : Nat} (h : c ^^^ a = c ^^^ b) : a = b := by
  have := congrArg (c ^^^ ·) h
  simpa [← Nat.xor_assoc] using this
theorem xl {a b c : Nat} (h : a ^^^ c = b ^^^ c) : a = b := xr (c := c) (by rwa [Nat.xor_comm c, Nat.xor_comm c])
theorem top_step {s : Nat} (h : s < 4294967296) : (step s).testBit 31 = decide (s % 2 = 1) := by
  unfold step
  rw [Nat.testBit_xor]
  have h1 : (s / 2).testBit 31 = false := Nat.testBit_lt_two_pow (by omega)
  rw [h1]
  have : s % 2 = 0 ∨ s % 2 = 1 := by omega
  rcases this with e | e <;> rw [e] <;> decide
theorem step_inj {s t : Nat} (hs : s < 4294967296) (ht : t < 4294967296) (h : step s = step t) : s = t := by
  have h1 : s % 2 = t % 2 := by
    have := (top_step hs).symm.trans ((congrArg (fun x => Nat.testBit x 31) h).trans (top_step ht))
    have := decide_eq_decide.1 this
    omega
  have h2 : s / 2 = t / 2 := by
    unfold step at h
    rw [h1] at h
    exact xl h
  omega
theorem steps_inj {s t : Nat} (hs : s < 4294967296) (ht : t < 4294967296) : ∀ n, steps n s = steps n t → s = t
  | 0, h => h
  | n + 1, h => steps_inj hs ht n (step_inj (steps_lt hs n) (steps_lt ht n) h)
theorem byte_inj {s t : Nat} (hs : s < 4294967296) (ht : t < 4294967296) {c d : UInt8} (h : byte s c = byte t d) : s ^^^ c.toNat = t ^^^ d.toNat := steps_inj (xor_lt hs c) (xor_lt ht d) 8 h
theorem fold_inj (bs : List UInt8) : ∀ s t, s < 4294967296 → t < 4294967296 → bs.foldl byte s = bs.foldl byte t → s = t := by
  induction bs with
  | nil => intro s t _ _ h; exact h
  | cons c bs ih =>
    intro s t hs ht h
    have := byte_inj hs ht (ih _ _ (byte_lt hs c) (byte_lt ht c) h)
    exact xl this
theorem crc_byte (pre post : List UInt8) {c d : UInt8} (h : crc (pre ++ c :: post) = crc (pre ++ d :: post)) : c = d := by
  unfold crc at h
  rw [List.foldl_append, List.foldl_append, List.foldl_cons, List.foldl_cons] at h
  have h0 : pre.foldl byte 4294967295 < 4294967296 := fold_lt pre _ (by omega)
  have h1 := byte_inj h0 h0 (fold_inj post _ _ (byte_lt h0 c) (byte_lt h0 d) h)
  exact UInt8.toNat_inj.1 (xr h1)
theorem sum_byte (pre post : List UInt8) {c d : UInt8} (h : sum (pre ++ c :: post) = sum (pre ++ d :: post)) : c = d := by
  have h1 := crc_lt (pre ++ c :: post)
  have h2 := crc_lt (pre ++ d :: post)
  unfold sum at h
  exact crc_byte pre post (by omega)
theorem sum_lt (bs : List UInt8) : sum bs < 4294967296 := by unfold sum; omega
end Go.Proofs.YtmdmdbobbepogaaGreatDoor.Cr
namespace Go.Proofs.YtmdmdbobbepogaaGreatDoor.Bt
open Go.Proofs.YtmdmdbobbepogaaGreatDoor
set_option linter.unusedSimpArgs false
set_option linter.unusedVariables false

theorem put_split {a b : Nat} (ha : a ≤ 1099511627776) (hb : b ≤ 1099511627776) {r s : List UInt8} (h : Nu.put a ++ r = Nu.put b ++ s) : a = b ∧ r = s := by
  have h1 := num_put ha r
  rw [h, num_put hb s] at h1
  simp only [Prod.mk.injEq] at h1
  exact ⟨h1.1.symm, h1.2.symm⟩
theorem recs_split {base : Int} (hB : 0 ≤ base) {hi : Int} (hT : hi ≤ 1099511627776) : ∀ (rs ss : List Rec) (lo lo' : Int), base ≤ lo → base ≤ lo' → recsErr rs lo hi = 0 → recsErr ss lo' hi = 0 → rs.length = ss.length →
    ∀ r s : List UInt8, recsB base rs ++ r = recsB base ss ++ s → r = s
  | [], [], _, _, _, _, _, _, _, r, s, h => by simpa [recsB] using h
  | [], _ :: _, _, _, _, _, _, _, hl, _, _, _ => by simp at hl
  | _ :: _, [], _, _, _, _, _, _, hl, _, _, _ => by simp at hl
  | x :: rs, y :: ss, lo, lo', hb, hb', h, h', hl, r, s, e => by
    have h1 : recErr x lo hi = 0 := by
      unfold recsErr at h
      split at h
      · assumption
      · exact h
    have h2 : recsErr rs (x.off + 1) hi = 0 := by
      unfold recsErr at h
      rwa [if_pos h1] at h
    have h1' : recErr y lo' hi = 0 := by
      unfold recsErr at h'
      split at h'
      · assumption
      · exact h'
    have h2' : recsErr ss (y.off + 1) hi = 0 := by
      unfold recsErr at h'
      rwa [if_pos h1'] at h'
    have hk := recErr_ok h1
    have hk' := recErr_ok h1'
    have ex : ∀ r, recsB base (x :: rs) ++ r = recB base x ++ (recsB base rs ++ r) := by intro r; simp [recsB]
    have ey : ∀ r, recsB base (y :: ss) ++ r = recB base y ++ (recsB base ss ++ r) := by intro r; simp [recsB]
    rw [ex, ey] at e
    have g := rec1_B h1 hb hB hT (recsB base rs ++ r)
    rw [e, rec1_B h1' hb' hB hT] at g
    simp only [Prod.mk.injEq] at g
    exact recs_split hB hT rs ss (x.off + 1) (y.off + 1) (by omega) (by omega) h2 h2' (by simpa using hl) r s g.2.symm
/-- No beginning of a batch's body is one. -/
theorem body_split {x y : Bat} (hx : chk x = 0) (hy : chk y = 0) {r s : List UInt8} (h : body x ++ r = body y ++ s) : r = s := by
  obtain ⟨h1, h2, h3, h4, h5, h6⟩ := chk_ok hx
  obtain ⟨k1, k2, k3, k4, k5, k6⟩ := chk_ok hy
  unfold body at h
  simp only [List.append_assoc] at h
  obtain ⟨e1, h⟩ := put_split (by omega) (by omega) h
  obtain ⟨e2, h⟩ := put_split (by omega) (by omega) h
  obtain ⟨e3, h⟩ := put_split (by omega) (by omega) h
  have e4 : y.base = x.base := by omega
  have e5 : y.fin = x.fin := by omega
  rw [e4] at h k6
  rw [e5] at k6
  exact recs_split h1 h2 x.recs y.recs x.base x.base (Int.le_refl _) (Int.le_refl _) h6 k6 e3 r s h
theorem four_inj {a b : Nat} (ha : a < 4294967296) (hb : b < 4294967296) (h : four a = four b) : a = b := by
  have h1 := fourV_four ha []
  rw [h, fourV_four hb] at h1
  exact h1.symm
theorem encErr_ok {x : Bat} (h : encErr x = 0) : chk x = 0 ∧ (body x).length + 8 ≤ 6000 := by
  unfold encErr at h
  split at h
  · rename_i hc
    split at h
    · omega
    · exact ⟨hc, by omega⟩
  · exact absurd h ‹_›
/-- A batch's bytes with one byte changed are no batch's. -/
theorem bit_seen {x y : Bat} (hx : encErr x = 0) (hy : encErr y = 0) (pre post : List UInt8) {c d : UInt8} (hcd : c ≠ d) (hb : encB x = pre ++ c :: post)
    (hn : fourV (pre ++ d :: post) ≤ (encB x).length) (h : encB y = (pre ++ d :: post).take (fourV (pre ++ d :: post))) : False := by
  obtain ⟨cx, lx⟩ := encErr_ok hx
  obtain ⟨cy, ly⟩ := encErr_ok hy
  have hlx := encB_len x
  have hly := encB_len y
  have hlen : (pre ++ d :: post).length = (encB x).length := by rw [hb]; simp
  generalize hb' : pre ++ d :: post = b' at *
  have hn2 : (encB y).length = fourV b' := by rw [h, List.length_take, Nat.min_eq_left (Nat.le_trans hn (Nat.le_of_eq hlen.symm))]
  have hfy : fourV b' = (body y).length + 8 := hn2.symm.trans hly
  have hyb : body y = (b'.take (fourV b')).drop 8 := by rw [← h, encB_drop]
  have hxb : body x = (encB x).drop 8 := (encB_drop x).symm
  have hx4 : (encB x).take 4 = four ((body x).length + 8) := by simp [encB, four]
  have hy4 : (encB y).take 4 = four ((body y).length + 8) := by simp [encB, four]
  have hx8 : ((encB x).drop 4).take 4 = four (Cr.sum (body x)) := by simp [encB, four]
  have hy8 : ((encB y).drop 4).take 4 = four (Cr.sum (body y)) := by simp [encB, four]
  have hfx : fourV (encB x) = (body x).length + 8 := by
    unfold encB; rw [List.append_assoc]; exact fourV_four (by omega) _
  by_cases h8 : 8 ≤ pre.length
  · -- behind the head
    have e4 : b'.take 8 = (encB x).take 8 := by
      rw [← hb', hb, List.take_append_of_le_length h8, List.take_append_of_le_length h8]
    have ef : fourV b' = fourV (encB x) := by
      have hv : ∀ l : List UInt8, fourV (l.take 8) = fourV l := by
        intro l
        unfold fourV
        simp [List.getD_eq_getElem?_getD, List.getElem?_take]
      rw [← hv b', e4, hv]
    have hyw : encB y = b' := by rw [h, List.take_of_length_le (by omega)]
    have es : four (Cr.sum (body x)) = four (Cr.sum (body y)) := by
      rw [← hx8, ← hy8, hyw]
      have : ∀ l : List UInt8, (l.drop 4).take 4 = (l.take 8).drop 4 := by intro l; rw [List.drop_take]
      rw [this, this, e4]
    have es' := four_inj (Cr.sum_lt _) (Cr.sum_lt _) es
    have hby : body y = pre.drop 8 ++ d :: post := by rw [← encB_drop, hyw, ← hb', List.drop_append_of_le_length h8]
    have hbx : body x = pre.drop 8 ++ c :: post := by rw [← encB_drop, hb, List.drop_append_of_le_length h8]
    rw [hbx, hby] at es'
    exact hcd (Cr.sum_byte _ _ es')
  · have hsame : b'.drop 8 = (encB x).drop 8 := by
      have hk : ∀ e : UInt8, (pre ++ e :: post).drop 8 = post.drop (7 - pre.length) := by
        intro e
        rw [List.drop_append, List.drop_eq_nil_of_le (by omega), List.nil_append, show 8 - pre.length = 7 - pre.length + 1 by omega, List.drop_succ_cons]
      rw [hb, ← hb', hk, hk]
    have hbody : body y ++ (body x).drop (body y).length = body x ++ [] := by
      have : body y = (body x).take (body y).length := by
        conv => lhs; rw [hyb, List.drop_take, hsame, ← hxb]
        congr 1; omega
      conv => lhs; lhs; rw [this]
      rw [List.take_append_drop, List.append_nil]
    have hnil := body_split cy cx hbody
    have hll : (body x).length ≤ (body y).length := List.drop_eq_nil_iff.1 hnil
    have hyw : encB y = b' := by rw [h, List.take_of_length_le (by omega)]
    have hll2 : (body y).length = (body x).length := by
      have := congrArg List.length hyw
      omega
    have hbe : body y = body x := by rw [← encB_drop, hyw, hsame, encB_drop]
    have : encB y = encB x := by unfold encB; rw [hbe]
    rw [hyw, ← hb', hb] at this
    have := List.append_cancel_left this
    simp at this
    exact hcd this.symm
end Go.Proofs.YtmdmdbobbepogaaGreatDoor.Bt

/- What a batch's bytes tell is that batch again, whatever stands behind them; of a beginning of them, that it is too short; bytes of which one changed are none. -/
namespace Go.Proofs.YtmdmdbobbepogaaGreatDoor
set_option maxRecDepth 100000
set_option linter.unusedSimpArgs false
set_option linter.unusedVariables false

theorem fourV_enc {x : Bt.Bat} (h : Bt.encErr x = 0) (more : List UInt8) : Bt.fourV (Bt.encB x ++ more) = (Bt.encB x).length := by
  obtain ⟨hc, hl⟩ := Bt.encErr_ok h
  have hlx := Bt.encB_len x
  rw [hlx]
  unfold Bt.encB
  rw [List.append_assoc, List.append_assoc]
  exact Bt.fourV_four (by omega) _
theorem dec_enc {x : Bt.Bat} (h : Bt.encErr x = 0) (more : List UInt8) : dec (Bt.encB x ++ more) = (x, (Bt.encB x).length, 0) := by
  obtain ⟨hc, hl⟩ := Bt.encErr_ok h
  have hlx := Bt.encB_len x
  have hb := body_pos x
  have hf := fourV_enc h more
  have ht : (Bt.encB x ++ more).take (Bt.encB x).length = Bt.encB x := by simp
  have hm : midB (Bt.encB x ++ more) = Bt.body x := by unfold midB; rw [hf, ht, Bt.encB_drop]
  unfold dec
  rw [hm, Bt.bat1_body hc, hf, List.length_append]
  generalize (Bt.encB x).length = L at *
  rw [if_neg (by omega), if_neg (by omega), if_neg (by omega), if_pos ⟨h, by rw [hf, ht]⟩]
theorem dec_short {x : Bt.Bat} (h : Bt.encErr x = 0) {k : Nat} (hk : k < (Bt.encB x).length) : dec ((Bt.encB x).take k) = (noBat, 0, 12) := by
  obtain ⟨hc, hl⟩ := Bt.encErr_ok h
  have hlx := Bt.encB_len x
  have hb := body_pos x
  have hf := fourV_enc h []
  rw [List.append_nil] at hf
  have hkl : ((Bt.encB x).take k).length = k := by rw [List.length_take]; exact Nat.min_eq_left (Nat.le_of_lt hk)
  unfold dec
  rw [hkl]
  by_cases h8 : k < 8
  · rw [if_pos h8]
  · have hf' : Bt.fourV ((Bt.encB x).take k) = (Bt.encB x).length := by
      rw [← hf]
      unfold Bt.fourV
      simp only [List.getD_eq_getElem?_getD, List.getElem?_take]
      rw [if_pos (by omega), if_pos (by omega), if_pos (by omega), if_pos (by omega)]
    rw [hf']
    generalize (Bt.encB x).length = L at *
    rw [if_neg h8, if_neg (by omega), if_pos hk]
theorem dec_bit {x : Bt.Bat} (h : Bt.encErr x = 0) (pre post : List UInt8) {c d : UInt8} (hcd : c ≠ d) (hb : Bt.encB x = pre ++ c :: post) : (dec (pre ++ d :: post)).2.2 ≠ 0 := by
  intro h0
  have hlen : (pre ++ d :: post).length = (Bt.encB x).length := by rw [hb]; simp
  unfold dec at h0
  split at h0
  · simp at h0
  split at h0
  · simp at h0
  split at h0
  · simp at h0
  rename_i h1
  split at h0
  · rename_i h2
    exact Bt.bit_seen h h2.1 pre post hcd hb (by rw [← hlen]; exact Nat.le_of_not_lt h1) h2.2
  · simp at h0
end Go.Proofs.YtmdmdbobbepogaaGreatDoor

/- A torn end is seen: bytes that are a batch's but for its last three are no batch; the batches at the beginning of any bytes. No program. -/
namespace Go.Proofs.YtmdmdbobbepogaaGreatDoor.Cr
set_option linter.unusedSimpArgs false
set_option linter.unusedVariables false

theorem step_xor (a b : Nat) : step (a ^^^ b) = step a ^^^ step b := by
  have h1 : (a ^^^ b) / 2 = a / 2 ^^^ b / 2 := by
    apply Nat.eq_of_testBit_eq
    intro i
    simp [Nat.testBit_div_two]
  have h2 : (a ^^^ b) % 2 = (a % 2 + b % 2) % 2 := by
    have hx := Nat.testBit_xor a b 0
    simp only [Nat.testBit_zero] at hx
    have ha : a % 2 = 0 ∨ a % 2 = 1 := by omega
    have hb : b % 2 = 0 ∨ b % 2 = 1 := by omega
    have hc : (a ^^^ b) % 2 = 0 ∨ (a ^^^ b) % 2 = 1 := by omega
    rcases ha with ha | ha <;> rcases hb with hb | hb <;> rcases hc with hc | hc <;> simp_all
  unfold step
  rw [h1, h2]
  have ha : a % 2 = 0 ∨ a % 2 = 1 := by omega
  have hb : b % 2 = 0 ∨ b % 2 = 1 := by omega
  rcases ha with ha | ha <;> rcases hb with hb | hb <;> rw [ha, hb]
  · simp
  · simp [Nat.xor_assoc]
  · simp only [Nat.mul_one, Nat.mul_zero, Nat.xor_zero, Nat.reduceMod, Nat.reduceAdd]
    rw [Nat.xor_assoc, Nat.xor_assoc, Nat.xor_comm (b / 2)]
  · simp only [Nat.mul_one, Nat.mul_zero, Nat.xor_zero, Nat.reduceMod, Nat.reduceAdd]
    rw [Nat.xor_assoc, Nat.xor_comm (b / 2), ← Nat.xor_assoc 3988292384, Nat.xor_self, Nat.zero_xor]
theorem steps_xor (a b : Nat) : ∀ n, steps n (a ^^^ b) = steps n a ^^^ steps n b
  | 0 => rfl
  | n + 1 => by rw [steps, steps_xor a b n, step_xor]; rfl
theorem steps_zero : ∀ n, steps n 0 = 0
  | 0 => rfl
  | n + 1 => by rw [steps, steps_zero n]; rfl
theorem step_small {s : Nat} (h : s < 4294967296) (h2 : step s < 2147483648) : s = 2 * step s := by
  have h3 : (step s).testBit 31 = false := Nat.testBit_lt_two_pow (by omega)
  rw [top_step h] at h3
  have h4 : s % 2 = 0 := by
    have := of_decide_eq_false h3
    omega
  unfold step
  rw [h4]
  simp
  omega
theorem steps_small {s : Nat} (h : s < 4294967296) : ∀ (n k : Nat), k + n ≤ 32 → steps n s < 2 ^ k → s = 2 ^ n * steps n s
  | 0, _, _, _ => by simp [steps]
  | n + 1, k, hk, hs => by
    have hs' : step (steps n s) < 2 ^ k := hs
    have hp : 2 ^ k ≤ 2 ^ 31 := Nat.pow_le_pow_right (by omega) (by omega)
    have h1 := step_small (steps_lt h n) (by omega)
    have h2 : steps n s < 2 ^ (k + 1) := by rw [Nat.pow_succ]; omega
    have h3 := steps_small h n (k + 1) (by omega) h2
    show s = 2 ^ (n + 1) * step (steps n s)
    rw [Nat.pow_succ, Nat.mul_assoc, ← h1]
    exact h3
theorem byte_xor {s t : Nat} (a b : UInt8) : byte s a ^^^ byte t b = steps 8 ((s ^^^ t) ^^^ (a.toNat ^^^ b.toNat)) := by
  unfold byte
  rw [← steps_xor]
  congr 1
  rw [Nat.xor_assoc, Nat.xor_assoc]
  congr 1
  rw [← Nat.xor_assoc, Nat.xor_comm a.toNat t, Nat.xor_assoc]
theorem xor_zero {a b : Nat} (h : a ^^^ b = 0) : a = b := by
  have := congrArg (· ^^^ b) h
  simpa [Nat.xor_assoc] using this
theorem fold3 {s : Nat} (hs : s < 4294967296) {a1 a2 a3 b1 b2 b3 : UInt8} (h : [a1, a2, a3].foldl byte s = [b1, b2, b3].foldl byte s) : a1 = b1 ∧ a2 = b2 ∧ a3 = b3 := by
  simp only [List.foldl_cons, List.foldl_nil] at h
  have x8 : ∀ a b : UInt8, a.toNat ^^^ b.toNat < 256 := fun a b => Nat.xor_lt_two_pow (n := 8) a.toNat_lt b.toNat_lt
  have same : ∀ {a b : UInt8}, a.toNat ^^^ b.toNat = 0 → a = b := fun h => UInt8.toNat_inj.1 (xor_zero h)
  have lx : ∀ {a b : Nat}, a < 4294967296 → b < 4294967296 → a ^^^ b < 4294967296 := fun ha hb => Nat.xor_lt_two_pow (n := 32) ha hb
  obtain ⟨s1, h1⟩ : ∃ x, x = byte s a1 := ⟨_, rfl⟩
  obtain ⟨t1, k1⟩ : ∃ x, x = byte s b1 := ⟨_, rfl⟩
  obtain ⟨s2, h2⟩ : ∃ x, x = byte s1 a2 := ⟨_, rfl⟩
  obtain ⟨t2, k2⟩ : ∃ x, x = byte t1 b2 := ⟨_, rfl⟩
  have ls1 : s1 < 4294967296 := by rw [h1]; exact byte_lt hs _
  have lt1 : t1 < 4294967296 := by rw [k1]; exact byte_lt hs _
  have ls2 : s2 < 4294967296 := by rw [h2]; exact byte_lt ls1 _
  have lt2 : t2 < 4294967296 := by rw [k2]; exact byte_lt lt1 _
  rw [← h1, ← k1, ← h2, ← k2] at h
  have e3 : s2 ^^^ t2 = a3.toNat ^^^ b3.toNat := by
    have := byte_inj ls2 lt2 h
    have h5 : (s2 ^^^ a3.toNat) ^^^ (t2 ^^^ a3.toNat) = (t2 ^^^ b3.toNat) ^^^ (t2 ^^^ a3.toNat) := by rw [this]
    have l5 : s2 ^^^ a3.toNat ^^^ (t2 ^^^ a3.toNat) = s2 ^^^ t2 := by
      rw [Nat.xor_comm t2, Nat.xor_assoc, ← Nat.xor_assoc a3.toNat, Nat.xor_self, Nat.zero_xor]
    have r5 : t2 ^^^ b3.toNat ^^^ (t2 ^^^ a3.toNat) = a3.toNat ^^^ b3.toNat := by
      rw [Nat.xor_comm t2 b3.toNat, Nat.xor_assoc, ← Nat.xor_assoc t2, Nat.xor_self, Nat.zero_xor, Nat.xor_comm]
    rw [l5, r5] at h5
    exact h5
  have d2 : s2 ^^^ t2 = steps 8 ((s1 ^^^ t1) ^^^ (a2.toNat ^^^ b2.toNat)) := by rw [h2, k2]; exact byte_xor _ _
  have d1 : s1 ^^^ t1 = steps 8 (a1.toNat ^^^ b1.toNat) := by rw [h1, k1, byte_xor, Nat.xor_self, Nat.zero_xor]
  have x1 := x8 a1 b1
  have x2 := x8 a2 b2
  have x3 := x8 a3 b3
  have q2 := steps_small (lx (lx ls1 lt1) (Nat.lt_trans x2 (by omega))) 8 8 (by omega) (by rw [← d2, e3]; exact x3)
  rw [← d2, e3] at q2
  have w1 : s1 ^^^ t1 < 65536 := by
    have e : s1 ^^^ t1 = (2 ^ 8 * (a3.toNat ^^^ b3.toNat)) ^^^ (a2.toNat ^^^ b2.toNat) := by rw [← q2, Nat.xor_assoc (s1 ^^^ t1), Nat.xor_self, Nat.xor_zero]
    rw [e]
    exact Nat.xor_lt_two_pow (n := 16) (by omega) (by omega)
  have q1 := steps_small (Nat.lt_trans x1 (by omega)) 8 16 (by omega) (by rw [← d1]; exact w1)
  rw [← d1] at q1
  have z1 : s1 ^^^ t1 = 0 := by omega
  have z0 : a1.toNat ^^^ b1.toNat = 0 := by rw [q1, z1]
  rw [z1, Nat.zero_xor] at q2
  have z3 : a3.toNat ^^^ b3.toNat = 0 := by omega
  have z2 : a2.toNat ^^^ b2.toNat = 0 := by rw [q2, z3]
  exact ⟨same z0, same z2, same z3⟩
theorem sum3 (pre : List UInt8) {a1 a2 a3 b1 b2 b3 : UInt8} (h : sum (pre ++ [a1, a2, a3]) = sum (pre ++ [b1, b2, b3])) : [a1, a2, a3] = [b1, b2, b3] := by
  have h1 := crc_lt (pre ++ [a1, a2, a3])
  have h2 := crc_lt (pre ++ [b1, b2, b3])
  have h3 : crc (pre ++ [a1, a2, a3]) = crc (pre ++ [b1, b2, b3]) := by unfold sum at h; omega
  unfold crc at h3
  rw [List.foldl_append, List.foldl_append] at h3
  obtain ⟨rfl, rfl, rfl⟩ := fold3 (fold_lt pre _ (by omega)) h3
  rfl
end Go.Proofs.YtmdmdbobbepogaaGreatDoor.Cr

/- The batches at the beginning of any bytes; where they lie; a torn end. No program. -/
namespace Go.Proofs.YtmdmdbobbepogaaGreatDoor.Sg
set_option linter.unusedSimpArgs false
set_option linter.unusedVariables false
open Go.Proofs.YtmdmdbobbepogaaGreatDoor

def flat (xs : List Bt.Bat) : List UInt8 := xs.flatMap Bt.encB
def nextOf (b : Int) (xs : List Bt.Bat) : Int := match xs.getLast? with
  | some x => x.fin
  | none => b
/-- Batches that may stand one behind the other, from an offset on. -/
def Chain : Int → List Bt.Bat → Prop
  | _, [] => True
  | nx, x :: r => Bt.encErr x = 0 ∧ nx ≤ x.base ∧ Chain x.fin r
theorem nextOf_cons (b : Int) (x : Bt.Bat) (r : List Bt.Bat) : nextOf b (x :: r) = nextOf x.fin r := by
  unfold nextOf
  cases r with
  | nil => rfl
  | cons y s => rw [List.getLast?_cons_cons]; cases h : (y :: s).getLast? with
    | none => simp at h
    | some z => rfl
theorem nextOf_snoc (b : Int) (xs : List Bt.Bat) (x : Bt.Bat) : nextOf b (xs ++ [x]) = x.fin := by simp [nextOf]
theorem chain_append : ∀ (xs ys : List Bt.Bat) (b : Int), Chain b (xs ++ ys) ↔ Chain b xs ∧ Chain (nextOf b xs) ys
  | [], ys, b => by simp [Chain, nextOf]
  | x :: r, ys, b => by
    rw [List.cons_append, nextOf_cons]
    show _ ∧ _ ∧ Chain x.fin (r ++ ys) ↔ (_ ∧ _ ∧ Chain x.fin r) ∧ _
    rw [chain_append r ys x.fin]
    constructor
    · rintro ⟨a, b, c, d⟩; exact ⟨⟨a, b, c⟩, d⟩
    · rintro ⟨⟨a, b, c⟩, d⟩; exact ⟨a, b, c, d⟩
theorem chain_snoc {b : Int} {xs : List Bt.Bat} {x : Bt.Bat} (h : Chain b xs) (hx : Bt.encErr x = 0) (hb : nextOf b xs ≤ x.base) : Chain b (xs ++ [x]) :=
  (chain_append xs [x] b).2 ⟨h, hx, hb, trivial⟩
theorem Chain.take {b : Int} {xs : List Bt.Bat} (h : Chain b xs) (n : Nat) : Chain b (xs.take n) := by
  rw [← List.take_append_drop n xs] at h
  exact ((chain_append _ _ _).1 h).1
theorem Chain.mem : ∀ {xs : List Bt.Bat} {b : Int}, Chain b xs → ∀ x ∈ xs, Bt.encErr x = 0
  | x :: r, b, h, y, hy => by
    rcases List.mem_cons.1 hy with rfl | hy
    · exact h.1
    · exact Chain.mem h.2.2 y hy
theorem flat_append (xs ys : List Bt.Bat) : flat (xs ++ ys) = flat xs ++ flat ys := by simp [flat]
theorem flat_one (x : Bt.Bat) : flat [x] = Bt.encB x := by simp [flat]
theorem encB_pos (x : Bt.Bat) : 11 ≤ (Bt.encB x).length := by have := body_pos x; have := Bt.encB_len x; omega
theorem flat_len (xs : List Bt.Bat) : 11 * xs.length ≤ (flat xs).length := by
  induction xs with
  | nil => simp [flat]
  | cons x r ih =>
    have : flat (x :: r) = Bt.encB x ++ flat r := by simp [flat]
    have := encB_pos x
    simp [*]
    omega

/-- What Decode finds is a batch's bytes. -/
theorem dec_ok {b : List UInt8} (h : (dec b).2.2 = 0) : Bt.encErr (dec b).1 = 0 ∧ (dec b).2.1 = (Bt.encB (dec b).1).length ∧ b = Bt.encB (dec b).1 ++ b.drop (dec b).2.1 := by
  unfold dec at h
  split at h
  · simp at h
  split at h
  · simp at h
  split at h
  · simp at h
  rename_i h1 h2 h3
  split at h
  · rename_i h4
    have e : dec b = (Bt.bat1 (midB b), Bt.fourV b, 0) := by
      unfold dec; rw [if_neg h1, if_neg h2, if_neg h3, if_pos h4]
    rw [e]
    have hl : (Bt.encB (Bt.bat1 (midB b))).length = Bt.fourV b := by rw [h4.2, List.length_take]; omega
    exact ⟨h4.1, hl.symm, by show b = _ ++ b.drop (Bt.fourV b); rw [h4.2, List.take_append_drop]⟩
  · simp at h

/-- The batches at the beginning of bytes. -/
inductive Scan : Int → List UInt8 → List Bt.Bat → Prop
  | stop {nx : Int} {b : List UInt8} (h : ¬ ((dec b).2.2 = 0 ∧ nx ≤ (dec b).1.base)) : Scan nx b []
  | step {nx : Int} {b : List UInt8} {xs : List Bt.Bat} (h : (dec b).2.2 = 0) (h2 : nx ≤ (dec b).1.base) (k : Scan (dec b).1.fin (b.drop (dec b).2.1) xs) : Scan nx b ((dec b).1 :: xs)
theorem Scan.unique : ∀ {nx : Int} {b : List UInt8} {xs ys : List Bt.Bat}, Scan nx b xs → Scan nx b ys → xs = ys := by
  intro nx b xs ys h
  induction h generalizing ys with
  | stop h =>
    intro k
    cases k with
    | stop _ => rfl
    | step h1 h2 _ => exact absurd ⟨h1, h2⟩ h
  | step h h2 k ih =>
    intro m
    cases m with
    | stop h3 => exact absurd ⟨h, h2⟩ h3
    | step _ _ m => rw [ih m]
theorem Scan.whole {nx : Int} {b : List UInt8} {xs : List Bt.Bat} (h : Scan nx b xs) : Chain nx xs ∧ b = flat xs ++ b.drop (flat xs).length := by
  induction h with
  | stop h => exact ⟨trivial, by simp [flat]⟩
  | @step nx b xs h h2 k ih =>
    obtain ⟨h3, h4, h5⟩ := dec_ok h
    obtain ⟨i1, i2⟩ := ih
    refine ⟨⟨h3, h2, i1⟩, ?_⟩
    have e : flat ((dec b).1 :: xs) = Bt.encB (dec b).1 ++ flat xs := by simp [flat]
    rw [e, List.length_append, ← h4]
    conv => lhs; rw [h5, i2]
    rw [List.append_assoc, List.drop_drop]
theorem scan_flat : ∀ {xs : List Bt.Bat} {nx : Int} {r : List UInt8}, Chain nx xs → ¬ ((dec r).2.2 = 0 ∧ nextOf nx xs ≤ (dec r).1.base) → Scan nx (flat xs ++ r) xs
  | [], nx, r, _, h => .stop (by simpa [flat, nextOf] using h)
  | x :: xs, nx, r, hc, h => by
    have e : flat (x :: xs) ++ r = Bt.encB x ++ (flat xs ++ r) := by simp [flat]
    rw [e]
    have hd := dec_enc hc.1 (flat xs ++ r)
    have h1 : (dec (Bt.encB x ++ (flat xs ++ r))).1 = x := by rw [hd]
    have h2 : (dec (Bt.encB x ++ (flat xs ++ r))).2.1 = (Bt.encB x).length := by rw [hd]
    have h3 : (dec (Bt.encB x ++ (flat xs ++ r))).2.2 = 0 := by rw [hd]
    have k := scan_flat (xs := xs) (nx := x.fin) (r := r) hc.2.2 (by rw [nextOf_cons] at h; exact h)
    have := Scan.step (xs := xs) h3 (by rw [h1]; exact hc.2.1) (by rw [h1, h2]; simpa using k)
    rw [h1] at this
    exact this
theorem dec_few {r : List UInt8} (h : r.length < 8) : (dec r).2.2 ≠ 0 := by unfold dec; rw [if_pos h]; simp
theorem scan_whole {xs : List Bt.Bat} {nx : Int} (h : Chain nx xs) : Scan nx (flat xs) xs := by
  have := scan_flat (r := []) h (fun e => dec_few (by simp) e.1)
  simpa using this

theorem fourV_take {l : List UInt8} {k : Nat} (h : 4 ≤ k) : Bt.fourV (l.take k) = Bt.fourV l := by
  unfold Bt.fourV
  simp only [List.getD_eq_getElem?_getD, List.getElem?_take]
  rw [if_pos (by omega), if_pos (by omega), if_pos (by omega), if_pos (by omega)]
theorem len3 {α : Type} {l : List α} (h : l.length = 3) : ∃ a b c, l = [a, b, c] := by
  match l, h with
  | [a, b, c], _ => exact ⟨a, b, c, rfl⟩
/-- Bytes that are a batch's but for its last three are no batch, or that one. -/
theorem dec_torn {x : Bt.Bat} (h : Bt.encErr x = 0) {r : List UInt8} (hp : r.take ((Bt.encB x).length - 3) = (Bt.encB x).take ((Bt.encB x).length - 3)) (h0 : (dec r).2.2 = 0) : r.take (Bt.encB x).length = Bt.encB x := by
  obtain ⟨hy, hl, hr⟩ := dec_ok h0
  obtain ⟨y, hyd⟩ : ∃ y, y = (dec r).1 := ⟨_, rfl⟩
  rw [← hyd] at hy hl hr
  have hL := encB_pos x
  have hL2 := encB_pos y
  have fx := fourV_enc h []
  have fy := fourV_enc hy (r.drop (dec r).2.1)
  rw [← hr] at fy
  rw [List.append_nil] at fx
  have e4 : Bt.fourV r = Bt.fourV (Bt.encB x) := by
    rw [← fourV_take (l := r) (k := (Bt.encB x).length - 3) (by omega), hp, fourV_take (by omega)]
  have hll : (Bt.encB y).length = (Bt.encB x).length := by omega
  have hrt : r.take (Bt.encB x).length = Bt.encB y := by
    conv => lhs; rw [hr]
    rw [← hll]; simp
  rw [hrt]
  have ht : (Bt.encB y).take ((Bt.encB x).length - 3) = (Bt.encB x).take ((Bt.encB x).length - 3) := by
    rw [← hrt, List.take_take, Nat.min_eq_left (by omega), hp]
  have hx8 : ((Bt.encB x).drop 4).take 4 = Bt.four (Cr.sum (Bt.body x)) := by simp [Bt.encB, Bt.four]
  have hy8 : ((Bt.encB y).drop 4).take 4 = Bt.four (Cr.sum (Bt.body y)) := by simp [Bt.encB, Bt.four]
  have e8 : ((Bt.encB y).drop 4).take 4 = ((Bt.encB x).drop 4).take 4 := by
    have := congrArg (fun l => (l.drop 4).take 4) ht
    simp only [List.drop_take, List.take_take] at this
    rwa [Nat.min_eq_left (by omega)] at this
  rw [hx8, hy8] at e8
  have es := Bt.four_inj (Cr.sum_lt _) (Cr.sum_lt _) e8
  have hbx := Bt.encB_drop x
  have hby := Bt.encB_drop y
  obtain ⟨a1, a2, a3, ha⟩ := len3 (l := (Bt.encB x).drop ((Bt.encB x).length - 3)) (by rw [List.length_drop]; omega)
  obtain ⟨b1, b2, b3, hb⟩ := len3 (l := (Bt.encB y).drop ((Bt.encB x).length - 3)) (by rw [List.length_drop]; omega)
  have sx : Bt.encB x = (Bt.encB x).take ((Bt.encB x).length - 3) ++ [a1, a2, a3] := by rw [← ha, List.take_append_drop]
  have sy : Bt.encB y = (Bt.encB x).take ((Bt.encB x).length - 3) ++ [b1, b2, b3] := by rw [← hb, ← ht, List.take_append_drop]
  obtain ⟨p, hpd⟩ : ∃ p, p = (Bt.encB x).take ((Bt.encB x).length - 3) := ⟨_, rfl⟩
  have hpl : p.length = (Bt.encB x).length - 3 := by rw [hpd, List.length_take]; omega
  rw [← hpd] at sx sy
  have dx : Bt.body x = p.drop 8 ++ [a1, a2, a3] := by
    have := congrArg (List.drop 8) sx
    rw [List.drop_append_of_le_length (by omega), hbx] at this
    exact this
  have dy : Bt.body y = p.drop 8 ++ [b1, b2, b3] := by
    have := congrArg (List.drop 8) sy
    rw [List.drop_append_of_le_length (by omega), hby] at this
    exact this
  rw [dx, dy] at es
  have := Cr.sum3 _ es
  rw [sx, sy, this]
theorem dec_cut {x : Bt.Bat} (h : Bt.encErr x = 0) {c : Nat} (hc : c < (Bt.encB x).length) {more : List UInt8} (hm : more.length ≤ 3) (hn : ((Bt.encB x).take c ++ more).take (Bt.encB x).length ≠ Bt.encB x) : (dec ((Bt.encB x).take c ++ more)).2.2 ≠ 0 := by
  intro h0
  have hL := encB_pos x
  have hlt : ((Bt.encB x).take c).length = c := by rw [List.length_take]; omega
  by_cases h3 : (Bt.encB x).length - 3 ≤ c
  · refine hn (dec_torn h ?_ h0)
    rw [List.take_append_of_le_length (by omega), List.take_take, Nat.min_eq_left h3]
  · obtain ⟨hy, hl, hr⟩ := dec_ok h0
    have fy := fourV_enc hy (((Bt.encB x).take c ++ more).drop (dec ((Bt.encB x).take c ++ more)).2.1)
    rw [← hr] at fy
    have hlen := congrArg List.length hr
    rw [List.length_append, List.length_append, hlt] at hlen
    have hy2 := encB_pos (dec ((Bt.encB x).take c ++ more)).1
    have fx := fourV_enc h []
    rw [List.append_nil] at fx
    have e4 : Bt.fourV ((Bt.encB x).take c ++ more) = Bt.fourV (Bt.encB x) := by
      have : Bt.fourV (((Bt.encB x).take c ++ more).take c) = Bt.fourV ((Bt.encB x).take c) := by rw [List.take_append_of_le_length (by omega), List.take_take, Nat.min_self]
      rw [fourV_take (by omega), fourV_take (by omega)] at this
      exact this
    omega

/-- How far a torn file is as it was. -/
def Upto (was is : List UInt8) (xs : List Bt.Bat) (j : Nat) : Prop := (flat (xs.take j)).length ≤ is.length ∧ is.take (flat (xs.take j)).length = was.take (flat (xs.take j)).length
theorem take_flat (xs : List Bt.Bat) (j : Nat) : (flat xs).take (flat (xs.take j)).length = flat (xs.take j) := by
  have e : flat xs = flat (xs.take j) ++ flat (xs.drop j) := by rw [← flat_append, List.take_append_drop]
  rw [e, List.take_left]
theorem torn {b : Int} {xs : List Bt.Bat} (hc : Chain b xs) {k : Nat} (hk : k ≤ (flat xs).length) {more : List UInt8} (hm : more.length ≤ 3) {n : Nat} (hn : n ≤ xs.length) (hP : Upto (flat xs) ((flat xs).take k ++ more) xs n)
    (hE : n = xs.length ∨ ¬ Upto (flat xs) ((flat xs).take k ++ more) xs (n + 1)) : Scan b ((flat xs).take k ++ more) (xs.take n) := by
  obtain ⟨h1, h2⟩ := hP
  obtain ⟨is, his⟩ : ∃ l, l = (flat xs).take k ++ more := ⟨_, rfl⟩
  rw [← his] at h1 h2 hE ⊢
  rw [take_flat] at h2
  have hlen : is.length = k + more.length := by rw [his, List.length_append, List.length_take]; omega
  have hs : is = flat (xs.take n) ++ is.drop (flat (xs.take n)).length := by conv => lhs; rw [← List.take_append_drop (flat (xs.take n)).length is, h2]
  rw [hs]
  refine scan_flat (hc.take n) (fun e => ?_)
  revert e
  rintro ⟨e, -⟩
  revert e
  have hrl : (is.drop (flat (xs.take n)).length).length = is.length - (flat (xs.take n)).length := List.length_drop
  rcases Nat.lt_or_ge n xs.length with hlt | hge
  · have hE' := hE.resolve_left (by omega)
    have hsplit : flat xs = flat (xs.take n) ++ (Bt.encB xs[n] ++ flat (xs.drop (n + 1))) := by
      have e : flat xs = flat (xs.take n) ++ flat (xs.drop n) := by rw [← flat_append, List.take_append_drop]
      rw [e, List.drop_eq_getElem_cons hlt]
      rfl
    have htk1 : flat (xs.take (n + 1)) = flat (xs.take n) ++ Bt.encB xs[n] := by
      rw [List.take_succ_eq_append_getElem hlt, flat_append, flat_one]
    by_cases hkn : k ≤ (flat (xs.take n)).length
    · exact dec_few (by omega)
    · obtain ⟨c, hcd⟩ : ∃ c, k = (flat (xs.take n)).length + c := ⟨k - (flat (xs.take n)).length, by omega⟩
      have htake : (flat xs).take k = flat (xs.take n) ++ (Bt.encB xs[n] ++ flat (xs.drop (n + 1))).take c := by
        conv => lhs; rw [hsplit, hcd]
        rw [List.take_append, List.take_of_length_le (by omega)]
        congr 2
        omega
      by_cases hcB : (Bt.encB xs[n]).length ≤ c
      · exfalso
        refine hE' ⟨by rw [htk1, List.length_append]; omega, ?_⟩
        rw [his, List.take_append_of_le_length (by rw [List.length_take, htk1, List.length_append]; omega), List.take_take, Nat.min_eq_left (by rw [htk1, List.length_append]; omega)]
      · have hr : is.drop (flat (xs.take n)).length = (Bt.encB xs[n]).take c ++ more := by
          rw [his, htake, List.append_assoc, List.drop_left, List.take_append_of_le_length (by omega)]
        rw [hr]
        refine dec_cut (hc.mem _ (List.getElem_mem hlt)) (by omega) hm (fun e => hE' ?_)
        rw [← hr] at e
        have e2 : is.take (flat (xs.take (n + 1))).length = flat (xs.take (n + 1)) := by
          rw [htk1, List.length_append]
          conv => lhs; rw [hs]
          rw [List.take_append, List.take_of_length_le (by omega), Nat.add_sub_cancel_left, e]
        refine ⟨?_, by rw [e2, take_flat]⟩
        have := congrArg List.length e2
        rw [List.length_take] at this
        omega
  · have : n = xs.length := by omega
    subst this
    rw [List.take_length] at *
    exact dec_few (by omega)

/-! ### Where they lie -/
structure Pl where
  «at» : Nat
  size : Nat
  sum : Nat
  fin : Int
  latest : Int
def lat (l : Int) (rs : List Bt.Rec) : Int := rs.foldl (fun m r => max m r.time) l
def latOf (l : Int) (xs : List Bt.Bat) : Int := xs.foldl (fun m x => lat m x.recs) l
def pls (a : Nat) (l : Int) : List Bt.Bat → List Pl
  | [] => []
  | x :: r => ⟨a, (Bt.encB x).length, Cr.sum (Bt.encB x), x.fin, lat l x.recs⟩ :: pls (a + (Bt.encB x).length) (lat l x.recs) r
theorem pls_len : ∀ (xs : List Bt.Bat) (a : Nat) (l : Int), (pls a l xs).length = xs.length
  | [], _, _ => rfl
  | x :: r, a, l => by simp [pls, pls_len r]
theorem pls_snoc : ∀ (xs : List Bt.Bat) (a : Nat) (l : Int) (x : Bt.Bat), pls a l (xs ++ [x]) = pls a l xs ++ [⟨a + (flat xs).length, (Bt.encB x).length, Cr.sum (Bt.encB x), x.fin, lat (latOf l xs) x.recs⟩]
  | [], a, l, x => by simp [pls, flat, latOf]
  | y :: r, a, l, x => by
    rw [List.cons_append, pls, pls, pls_snoc r, List.cons_append]
    have : (flat (y :: r)).length = (Bt.encB y).length + (flat r).length := by simp [flat]
    rw [this, Nat.add_assoc]
    rfl
theorem latOf_snoc (l : Int) (xs : List Bt.Bat) (x : Bt.Bat) : latOf l (xs ++ [x]) = lat (latOf l xs) x.recs := by simp [latOf]
theorem pls_at (xs : List Bt.Bat) {k : Nat} (hk : k < xs.length) : (pls 0 (-1) xs)[k]? = some ⟨(flat (xs.take k)).length, (Bt.encB xs[k]).length, Cr.sum (Bt.encB xs[k]), xs[k].fin, latOf (-1) (xs.take (k + 1))⟩ := by
  have aux : ∀ (xs : List Bt.Bat) (k : Nat) (hk : k < xs.length) (a : Nat) (l : Int), (pls a l xs)[k]? = some ⟨a + (flat (xs.take k)).length, (Bt.encB xs[k]).length, Cr.sum (Bt.encB xs[k]), xs[k].fin, latOf l (xs.take (k + 1))⟩ := by
    intro xs
    induction xs with
    | nil => intro k hk; simp at hk
    | cons x r ih =>
      intro k hk a l
      cases k with
      | zero => simp [pls, flat, latOf]
      | succ k =>
        have hk' : k < r.length := by simpa using hk
        rw [pls, List.getElem?_cons_succ, ih k hk']
        have : (flat ((x :: r).take (k + 1))).length = (Bt.encB x).length + (flat (r.take k)).length := by simp [flat]
        rw [this, Nat.add_assoc]
        simp [latOf]
  have := aux xs k hk 0 (-1)
  rw [Nat.zero_add] at this
  exact this
end Go.Proofs.YtmdmdbobbepogaaGreatDoor.Sg

/- A segment in memory; last, Next, Size, Latest, Batches, Base. -/
namespace Go.Proofs.YtmdmdbobbepogaaGreatDoor.Sg
open Go.RowKit Go.Maps
set_option maxRecDepth 100000
set_option linter.unusedSimpArgs false
set_option linter.unusedVariables false
attribute [local go_sem] Oper.semAt_some

def plC (p : Pl) : List Value := [.int .i64 p.at, .int .i64 p.size, .int .i64 p.sum, .int .i64 p.fin, .int .i64 p.latest]
theorem plC_len : ∀ p, (plC p).length = 5 := fun _ => rfl
def plV (p : Pl) : Value := .agg (plC p).toArray
def noPl : Pl := ⟨0, 0, 0, 0, 0⟩
/-- A segment: its box, and the row of its places. -/
structure SegAt (w : World) (base d sb : Nat) (sv : Value) (file : ByteArray) (b0 : Int) (ps : List Pl) : Prop where
  box : w.heap[sb]? = some (.cells #[.pointer (some ⟨d, 0, none⟩), .string file, .int .i64 b0, sv] 103 (0, 0))
  row : GRow 108 5 plC w base sv ps
  low : base ≤ sb
def sfoot (sb : Nat) (sv : Value) : List Nat := sb :: sv.ownBlock.toList
section
variable {w w' : World} {base d sb : Nat} {sv : Value} {file : ByteArray} {b0 : Int} {ps : List Pl}
theorem SegAt.kept {S : List Nat} (h : SegAt w base d sb sv file b0 ps) (ht : Turn S w w') (hn : ∀ k ∈ sfoot sb sv, k ∉ S) : SegAt w' base d sb sv file b0 ps :=
  ⟨ht.heap h.box (hn sb (by simp [sfoot])), h.row.kept ht (fun k hk => hn k (by simp [sfoot]; exact .inr (by simpa using hk))), h.low⟩
theorem SegAt.still (h : SegAt w base d sb sv file b0 ps) (ht : Turn [] w w') : SegAt w' base d sb sv file b0 ps := h.kept ht (by simp)
theorem SegAt.lt (h : SegAt w base d sb sv file b0 ps) : ∀ k ∈ sfoot sb sv, base ≤ k ∧ k < w.heap.size := by
  intro k hk
  simp only [sfoot, List.mem_cons, Option.mem_toList] at hk
  rcases hk with rfl | hk
  · exact ⟨h.low, lt_of_heap h.box⟩
  · exact h.row.lt k hk
theorem SegAt.c0 (h : SegAt w base d sb sv file b0 ps) : w.cell? ⟨sb, 0, none⟩ = some (.pointer (some ⟨d, 0, none⟩)) := by rw [cell_of h.box]; rfl
theorem SegAt.c1 (h : SegAt w base d sb sv file b0 ps) : w.cell? ⟨sb, 1, none⟩ = some (.string file) := by rw [cell_of h.box]; rfl
theorem SegAt.c2 (h : SegAt w base d sb sv file b0 ps) : w.cell? ⟨sb, 2, none⟩ = some (.int .i64 b0) := by rw [cell_of h.box]; rfl
theorem SegAt.c3 (h : SegAt w base d sb sv file b0 ps) : w.cell? ⟨sb, 3, none⟩ = some sv := by rw [cell_of h.box]; rfl
theorem SegAt.fr (h : SegAt w base d sb sv file b0 ps) (i : Nat) : w.frozen? ⟨sb, i, none⟩ = false := frozen_of h.box i
end
theorem sizePl (w : World) : (sizeOf 108).run Tryz.prog w = .ok 5 w := by kernel_rfl
theorem aggPl (w : World) : (isAgg 108).run Tryz.prog w = .ok true w := by kernel_rfl
theorem load_pl {w : World} {a : Addr} {p : Pl} (h : ∀ i, i < 5 → w.cell? (a.add i) = (plC p)[i]?) : (loadVar 108 a).run Tryz.prog w = .ok (plV p) w := by
  have c0 : w.cell? (a.add 0) = some (.int .i64 p.at) := h 0 (by omega)
  have c1 : w.cell? (a.add 1) = some (.int .i64 p.size) := h 1 (by omega)
  have c2 : w.cell? (a.add 2) = some (.int .i64 p.sum) := h 2 (by omega)
  have c3 : w.cell? (a.add 3) = some (.int .i64 p.fin) := h 3 (by omega)
  have c4 : w.cell? (a.add 4) = some (.int .i64 p.latest) := h 4 (by omega)
  simp [loadVar, aggPl, sizePl, Result.andThen, loadCells, loadCellsFrom, plV, plC, c0, c1, c2, c3, c4]
theorem load_plBox {w : World} {Y : Nat} {p : Pl} (h : w.heap[Y]? = some (.cells (plC p).toArray 108 (0, 0))) : (loadVar 108 ⟨Y, 0, none⟩).run Tryz.prog w = .ok (plV p) w := by
  refine load_pl fun i hi => ?_
  rw [addr_add, cell_of h]
  simp
/-- The element of a row of places. -/
theorem grow_pl {w : World} {base : Nat} {sv : Value} {ps : List Pl} (h : GRow 108 5 plC w base sv ps) {j : Nat} (hj : j < ps.length) :
    ∃ g cap, sv = .slice (some ⟨g, 0, none⟩) ps.length cap ∧ (loadVar 108 ⟨g, j * 5, none⟩).run Tryz.prog w = .ok (plV ps[j]) w := by
  obtain ⟨g, cap, e, hc, _⟩ := h.at plC_len hj
  refine ⟨g, cap, e, load_pl fun i hi => ?_⟩
  have : (⟨g, j * 5, none⟩ : Addr).add i = ⟨g, j * 5 + i, none⟩ := by unfold Addr.add; split <;> simp_all
  rw [this]; exact hc i hi

def putPl (w : World) (X : Nat) (p : Pl) : World := ((((w.setCell ⟨X, 0, none⟩ (.int .i64 p.at)).setCell ⟨X, 1, none⟩ (.int .i64 p.size)).setCell ⟨X, 2, none⟩ (.int .i64 p.sum)).setCell ⟨X, 3, none⟩ (.int .i64 p.fin)).setCell ⟨X, 4, none⟩ (.int .i64 p.latest)
theorem put_pl {w : World} {X : Nat} {a0 a1 a2 a3 a4 : Value} (h : w.heap[X]? = some (.cells #[a0, a1, a2, a3, a4] 108 (0, 0))) (p : Pl) :
    (loadVar 108 ⟨X, 0, none⟩).run Tryz.prog (putPl w X p) = .ok (plV p) (putPl w X p) ∧ (putPl w X p).heap[X]? = some (.cells (plC p).toArray 108 (0, 0)) ∧ Turn [X] w (putPl w X p) := by
  have hy : (putPl w X p).heap[X]? = some (.cells (plC p).toArray 108 (0, 0)) := by
    have := heap_set (heap_set (heap_set (heap_set (heap_set h 0 (.int .i64 p.at)) 1 (.int .i64 p.size)) 2 (.int .i64 p.sum)) 3 (.int .i64 p.fin)) 4 (.int .i64 p.latest)
    simpa [putPl, plC] using this
  exact ⟨load_plBox hy, hy, (((((Turn.refl [X] w).setCell (.inl (by simp)) _).setCell (.inl (by simp)) _).setCell (.inl (by simp)) _).setCell (.inl (by simp)) _).setCell (.inl (by simp)) _⟩

set_option maxHeartbeats 2000000 in
theorem last_none (w : World) (base d sb : Nat) (sv : Value) (file : ByteArray) (b0 : Int) (h : SegAt w base d sb sv file b0 []) :
    Calls Tryz.prog 63 #[.pointer (some ⟨sb, 0, none⟩)] w fun e w' => e = .returned (.tuple #[plV noPl, .bool false]) ∧ Turn [] w w' := by
  obtain ⟨a, c, hsv, -, -⟩ := h.row.form
  subst hsv
  have c3 := h.c3
  simp only [List.length_nil] at c3
  have hlt := lt_of_heap h.box
  clear h
  go_enter Tryz.func63, Tryz.ntmps63
  go_wp2
  have hld : (loadVar 108 ⟨w.heap.size, 0, none⟩).run Tryz.prog (w.alloc (.cells #[.int .i64 0, .int .i64 0, .int .i64 0, .int .i64 0, .int .i64 0] 108)) = .ok (plV noPl) (w.alloc (.cells #[.int .i64 0, .int .i64 0, .int .i64 0, .int .i64 0, .int .i64 0] 108)) := load_plBox (p := noPl) (heap_new w _)
  refine bodyPost_ret (v := .tuple #[plV noPl, .bool false]) ?_ rfl ⟨rfl, (Turn.refl [] w).alloc _⟩
  simp [results, Tryz.results63, asAddr, hld, Result.andThen]
set_option maxHeartbeats 2000000 in
theorem last_some (w : World) (base d sb : Nat) (sv : Value) (file : ByteArray) (b0 : Int) (ps : List Pl) (p : Pl) (h : SegAt w base d sb sv file b0 (ps ++ [p])) (hl : ps.length ≤ 1000000) :
    Calls Tryz.prog 63 #[.pointer (some ⟨sb, 0, none⟩)] w fun e w' => e = .returned (.tuple #[plV p, .bool true]) ∧ Turn [] w w' := by
  obtain ⟨g, cap, hsv, hld⟩ := grow_pl h.row (j := ps.length) (by simp)
  subst hsv
  have c3 := h.c3
  simp only [List.length_append, List.length_singleton] at c3
  have hlt := lt_of_heap h.box
  have HS := hide h
  clear h hld
  go_enter Tryz.func63, Tryz.ntmps63
  go_wp2
  obtain ⟨wr, hwr⟩ : ∃ wr, wr = w.alloc (.cells #[.int .i64 0, .int .i64 0, .int .i64 0, .int .i64 0, .int .i64 0] 108) := ⟨_, rfl⟩
  rw [← hwr]
  have hX : wr.heap[w.heap.size]? = some (.cells #[.int .i64 0, .int .i64 0, .int .i64 0, .int .i64 0, .int .i64 0] 108 (0, 0)) := by rw [hwr]; exact heap_new w _
  have HT : Hid (Turn [] w wr) := by rw [hwr]; exact (Turn.refl [] w).alloc _
  have hXs : w.heap.size < wr.heap.size := lt_of_heap hX
  have HX := hide hX
  clear hwr hX c3
  refine wp_region_tail 12 (Turn []) (by kernel_rfl) (by kernel_rfl) (by kernel_rfl) (by kernel_rfl) (by kernel_rfl) (Nat.le_of_ble_eq_true rfl) rfl (Turn.refl _) (fun _ _ _ h k => h.same k) ?_
  apply Lo.runx 1 rfl rfl [] (by kernel_rfl) (Turn.refl _)
  apply Exists.intro; apply And.intro
  · intro u w1 hR hF
    clear hF
    refine ⟨rfl, fun a ha K hK => ?_⟩
    have e0 := ha 0
    conv at e0 => rhs; whnf
    clear ha
    go_simp
    refine hK _ ?_; rfl
  apply Lo.runx 2 rfl rfl [0] (by kernel_rfl) (Turn.refl _)
  apply Exists.intro; apply And.intro
  · intro u w1 hR hF
    obtain ⟨h0, -⟩ := hF
    refine ⟨rfl, fun a ha K hK => ?_⟩
    have e11 := (ha 11).trans h0
    clear ha h0
    go_simp
    refine hK _ ?_; rfl
  apply Lo.runx 3 rfl rfl [1] (by kernel_rfl) (Turn.refl _)
  apply Exists.intro; apply And.intro
  · intro u w1 hR hF
    obtain ⟨h1, -⟩ := hF
    refine ⟨rfl, fun a ha K hK => ?_⟩
    have e12 := (ha 12).trans h1
    clear ha h1
    go_simp
    refine hK _ ?_; rfl
  apply Lo.runx 4 rfl rfl [2] (by kernel_rfl) (Turn.refl _)
  apply Exists.intro; apply And.intro
  · intro u w1 hR hF
    obtain ⟨h2, -⟩ := hF
    refine ⟨rfl, fun a ha K hK => ?_⟩
    have e13 := (ha 13).trans h2
    clear ha h2
    have c3 := (HS.out.still (HT.out.same ((Turn.refl [] wr).drew.same hR))).c3
    simp only [List.length_append, List.length_singleton] at c3
    go_simp
    refine hK _ ?_; rfl
  apply Lo.runx 5 rfl rfl [] (by kernel_rfl) (Turn.refl _)
  apply Exists.intro; apply And.intro
  · intro u w1 hR hF
    clear hF
    refine ⟨rfl, fun a ha K hK => ?_⟩
    have e0 := ha 0
    conv at e0 => rhs; whnf
    clear ha
    go_simp
    refine hK _ ?_; rfl
  apply Lo.runx 6 rfl rfl [4] (by kernel_rfl) (Turn.refl _)
  apply Exists.intro; apply And.intro
  · intro u w1 hR hF
    obtain ⟨h4, -⟩ := hF
    refine ⟨rfl, fun a ha K hK => ?_⟩
    have e15 := (ha 15).trans h4
    clear ha h4
    go_simp
    refine hK _ ?_; rfl
  apply Lo.runx 7 rfl rfl [5] (by kernel_rfl) (Turn.refl _)
  apply Exists.intro; apply And.intro
  · intro u w1 hR hF
    obtain ⟨h5, -⟩ := hF
    refine ⟨rfl, fun a ha K hK => ?_⟩
    have e16 := (ha 16).trans h5
    clear ha h5
    go_simp
    refine hK _ ?_; rfl
  apply Lo.runx 8 rfl rfl [6] (by kernel_rfl) (Turn.refl _)
  apply Exists.intro; apply And.intro
  · intro u w1 hR hF
    obtain ⟨h6, -⟩ := hF
    refine ⟨rfl, fun a ha K hK => ?_⟩
    have e17 := (ha 17).trans h6
    clear ha h6
    have c3 := (HS.out.still (HT.out.same ((Turn.refl [] wr).drew.same hR))).c3
    simp only [List.length_append, List.length_singleton] at c3
    go_simp
    refine hK _ ?_; rfl
  apply Lo.runx 9 rfl rfl [7] (by kernel_rfl) (Turn.refl _)
  apply Exists.intro; apply And.intro
  · intro u w1 hR hF
    obtain ⟨h7, -⟩ := hF
    refine ⟨rfl, fun a ha K hK => ?_⟩
    have e18 := (ha 18).trans h7
    clear ha h7
    go_simp
    refine hK _ ?_; rfl
  refine Lo.runv 10 rfl rfl [8] (.int .i64 (ps.length : Int)) (by kernel_rfl) (fun u w1 hR hF => ?_) (Turn.refl _) ?_
  · obtain ⟨h8, -⟩ := hF
    refine ⟨rfl, fun a ha K hK => ?_⟩
    have e19 := (ha 19).trans h8
    clear ha h8
    go_simp
    refine hK _ ?_
    rw [IntWalk.i64_left, IntWalk.wrap64_in _ (by omega)]
  refine Lo.runv 11 rfl rfl [3, 9] (.pointer (some ⟨g, ps.length * 5, none⟩)) (by kernel_rfl) (fun u w1 hR hF => ?_) (Turn.refl _) ?_
  · obtain ⟨h3, h9, -⟩ := hF
    refine ⟨rfl, fun a ha K hK => ?_⟩
    have e14 := (ha 14).trans h3
    have e20 := (ha 20).trans h9
    clear ha h3 h9
    have h10 : (ps.length : Int) < ps.length + 1 := by omega
    go_simp
    refine hK _ ?_
    rfl
  refine Lo.runv 12 rfl rfl [10] (plV p) (by kernel_rfl) (fun u w1 hR hF => ?_) (Turn.refl _) ?_
  · obtain ⟨h10, -⟩ := hF
    refine ⟨rfl, fun a ha K hK => ?_⟩
    have e21 := (ha 21).trans h10
    clear ha h10
    have hc : ∀ i, i < 5 → w1.cell? ⟨g, ps.length * 5 + i, none⟩ = (plC p)[i]? := by
      obtain ⟨g', cap', e, hc, _⟩ := (HS.out.still (HT.out.same ((Turn.refl [] wr).drew.same hR))).row.at plC_len (j := ps.length) (by simp)
      simp at e
      obtain ⟨rfl, rfl⟩ := e
      simpa using hc
    have k0 : w1.cell? ⟨g, ps.length * 5, none⟩ = some (.int .i64 p.at) := hc 0 (by omega)
    have k1 : w1.cell? ⟨g, ps.length * 5 + 1, none⟩ = some (.int .i64 p.size) := hc 1 (by omega)
    have k2 : w1.cell? ⟨g, ps.length * 5 + 2, none⟩ = some (.int .i64 p.sum) := hc 2 (by omega)
    have k3 : w1.cell? ⟨g, ps.length * 5 + 3, none⟩ = some (.int .i64 p.fin) := hc 3 (by omega)
    have k4 : w1.cell? ⟨g, ps.length * 5 + 4, none⟩ = some (.int .i64 p.latest) := hc 4 (by omega)
    clear hc
    go_simp
    refine hK _ ?_
    rfl
  refine Lo.done [11] (fun u w1 hRd hSd hF => ?_)
  clear hSd
  obtain ⟨f11, -⟩ := hF
  have d11 : u 11 = _ := f11
  clear f11
  simp only [List.take_succ_cons, List.take_zero, List.drop_succ_cons, List.drop_zero, putFrom, Act.put, List.setIfInBounds_toArray, List.set_cons_succ, List.set_cons_zero, Nat.zero_add, Nat.reduceAdd, d11]
  have ht1 : Turn [] w w1 := HT.out.same ((Turn.refl [] wr).drew.same hRd)
  have hY := hRd.heap (show wr.drew.heap[w.heap.size]? = _ from HX.out) (by simp)
  have hXw := lt_of_heap hY
  have y0 : w1.cell? ⟨w.heap.size, 0, none⟩ = some (.int .i64 0) := by simpa using cell_of hY 0
  have y1 : w1.cell? ⟨w.heap.size, 1, none⟩ = some (.int .i64 0) := by simpa using cell_of hY 1
  have y2 : w1.cell? ⟨w.heap.size, 2, none⟩ = some (.int .i64 0) := by simpa using cell_of hY 2
  have y3 : w1.cell? ⟨w.heap.size, 3, none⟩ = some (.int .i64 0) := by simpa using cell_of hY 3
  have y4 : w1.cell? ⟨w.heap.size, 4, none⟩ = some (.int .i64 0) := by simpa using cell_of hY 4
  have q0 : w1.frozen? ⟨w.heap.size, 0, none⟩ = false := frozen_of hY 0
  have q1 : w1.frozen? ⟨w.heap.size, 1, none⟩ = false := frozen_of hY 1
  have q2 : w1.frozen? ⟨w.heap.size, 2, none⟩ = false := frozen_of hY 2
  have q3 : w1.frozen? ⟨w.heap.size, 3, none⟩ = false := frozen_of hY 3
  have q4 : w1.frozen? ⟨w.heap.size, 4, none⟩ = false := frozen_of hY 4
  have HY := hide hY
  have HT1 := hide ht1
  clear hY ht1 hRd hXs
  clear d11
  rw [show plV p = .agg #[.int .i64 p.at, .int .i64 p.size, .int .i64 p.sum, .int .i64 p.fin, .int .i64 p.latest] from rfl]
  go_wp2
  obtain ⟨hld, -, ht2⟩ := put_pl HY.out p
  unfold putPl at hld ht2
  refine bodyPost_ret (v := .tuple #[plV p, .bool true]) (by simp [results, Tryz.results63, asAddr, hld, Result.andThen]) rfl ⟨rfl, HT1.out.trans ht2 (fun k hk => .inr (by simp at hk; omega))⟩

/-- What last hands back. -/
def lastOf (ps : List Pl) : Pl := ps.getLast?.getD noPl
theorem last_any (w : World) (base d sb : Nat) (sv : Value) (file : ByteArray) (b0 : Int) (ps : List Pl) (h : SegAt w base d sb sv file b0 ps) (hl : ps.length ≤ 1000000) :
    Calls Tryz.prog 63 #[.pointer (some ⟨sb, 0, none⟩)] w fun e w' => e = .returned (.tuple #[plV (lastOf ps), .bool !ps.isEmpty]) ∧ Turn [] w w' := by
  rcases List.eq_nil_or_concat ps with rfl | ⟨qs, p, rfl⟩
  · exact last_none w base d sb sv file b0 h
  · rw [List.concat_eq_append] at h hl ⊢
    have := last_some w base d sb sv file b0 qs p h (by simp at hl; omega)
    have e1 : lastOf (qs ++ [p]) = p := by simp [lastOf]
    have e2 : (!(qs ++ [p]).isEmpty) = true := by simp
    rw [e1, e2]; exact this

/-- Next, Size, Latest of places. -/
def nextP (b0 : Int) (ps : List Pl) : Int := if ps.isEmpty then b0 else (lastOf ps).fin
def sizeP (ps : List Pl) : Nat := (lastOf ps).at + (lastOf ps).size
def latestP (ps : List Pl) : Int := if ps.isEmpty then -1 else (lastOf ps).latest
set_option maxHeartbeats 1000000 in
theorem next_any (w : World) (base d sb : Nat) (sv : Value) (file : ByteArray) (b0 : Int) (ps : List Pl) (h : SegAt w base d sb sv file b0 ps) (hl : ps.length ≤ 1000000) :
    Calls Tryz.prog 34 #[.pointer (some ⟨sb, 0, none⟩)] w fun e w' => e = .returned (.int .i64 (nextP b0 ps)) ∧ Turn [] w w' := by
  have HS := hide h
  have hlt := lt_of_heap h.box
  have hla := last_any w base d sb sv file b0 ps h hl
  unfold plV plC at hla
  cases hb : ps.isEmpty with
  | true =>
    have HN : Hid (nextP b0 ps = b0) := by show _ = _; simp [nextP, hb]
    rw [hb] at hla
    clear h hb
    go_enter Tryz.func34, Tryz.ntmps34
    go_wp2_with fail
    refine hla.mono ?_
    rintro e w1 ⟨rfl, ht1⟩
    have c2 := (HS.out.still ht1).c2
    have hlt1 := lt_of_heap (HS.out.still ht1).box
    have HT1 := hide ht1
    clear ht1 hla
    go_wp2
    go_ret
    exact ⟨ret_int HN.out.symm, HT1.out.alloc _⟩
  | false =>
    have HN : Hid (nextP b0 ps = (lastOf ps).fin) := by show _ = _; simp [nextP, hb]
    rw [hb] at hla
    clear h hb
    go_enter Tryz.func34, Tryz.ntmps34
    go_wp2_with fail
    refine hla.mono ?_
    rintro e w1 ⟨rfl, ht1⟩
    have HT1 := hide ht1
    clear ht1 hla
    go_wp2
    go_ret
    exact ⟨ret_int HN.out.symm, HT1.out.alloc _⟩
set_option maxHeartbeats 1000000 in
theorem latest_any (w : World) (base d sb : Nat) (sv : Value) (file : ByteArray) (b0 : Int) (ps : List Pl) (h : SegAt w base d sb sv file b0 ps) (hl : ps.length ≤ 1000000) :
    Calls Tryz.prog 41 #[.pointer (some ⟨sb, 0, none⟩)] w fun e w' => e = .returned (.int .i64 (latestP ps)) ∧ Turn [] w w' := by
  have HS := hide h
  have hlt := lt_of_heap h.box
  have hla := last_any w base d sb sv file b0 ps h hl
  unfold plV plC at hla
  cases hb : ps.isEmpty with
  | true =>
    have HN : Hid (latestP ps = -1) := by show _ = _; simp [latestP, hb]
    rw [hb] at hla
    clear h hb
    go_enter Tryz.func41, Tryz.ntmps41
    go_wp2_with fail
    refine hla.mono ?_
    rintro e w1 ⟨rfl, ht1⟩
    have HT1 := hide ht1
    clear ht1 hla
    go_wp2
    go_ret
    exact ⟨ret_int HN.out.symm, HT1.out.alloc _⟩
  | false =>
    have HN : Hid (latestP ps = (lastOf ps).latest) := by show _ = _; simp [latestP, hb]
    rw [hb] at hla
    clear h hb
    go_enter Tryz.func41, Tryz.ntmps41
    go_wp2_with fail
    refine hla.mono ?_
    rintro e w1 ⟨rfl, ht1⟩
    have HT1 := hide ht1
    clear ht1 hla
    go_wp2
    go_ret
    exact ⟨ret_int HN.out.symm, HT1.out.alloc _⟩
set_option maxHeartbeats 1000000 in
theorem size_any (w : World) (base d sb : Nat) (sv : Value) (file : ByteArray) (b0 : Int) (ps : List Pl) (h : SegAt w base d sb sv file b0 ps) (hl : ps.length ≤ 1000000) (hs : sizeP ps ≤ 1099511627776) :
    Calls Tryz.prog 43 #[.pointer (some ⟨sb, 0, none⟩)] w fun e w' => e = .returned (.int .i64 (sizeP ps)) ∧ Turn [] w w' := by
  have hla := last_any w base d sb sv file b0 ps h hl
  unfold plV plC at hla
  unfold sizeP at hs ⊢
  clear h
  go_enter Tryz.func43, Tryz.ntmps43
  go_wp2_with fail
  refine hla.mono ?_
  rintro e w1 ⟨rfl, ht1⟩
  have HT1 := hide ht1
  clear ht1 hla
  go_wp2
  go_ret
  exact ⟨ret_int (by omega), HT1.out.alloc _⟩
theorem baseOf_any (w : World) (base d sb : Nat) (sv : Value) (file : ByteArray) (b0 : Int) (ps : List Pl) (h : SegAt w base d sb sv file b0 ps) :
    Calls Tryz.prog 29 #[.pointer (some ⟨sb, 0, none⟩)] w fun e w' => e = .returned (.int .i64 b0) ∧ w = w' := by
  have c2 := h.c2
  clear h
  go_enter Tryz.func29, Tryz.ntmps29
  go_wp2
  go_ret
  exact ⟨rfl, rfl⟩

/-! What the numbers of batches' places are. -/
theorem lastOf_pls (xs : List Bt.Bat) (x : Bt.Bat) : lastOf (pls 0 (-1) (xs ++ [x])) = ⟨(flat xs).length, (Bt.encB x).length, Cr.sum (Bt.encB x), x.fin, latOf (-1) (xs ++ [x])⟩ := by
  unfold lastOf
  rw [pls_snoc, List.getLast?_concat, Nat.zero_add, latOf_snoc]
  rfl
theorem pls_empty (xs : List Bt.Bat) : (pls 0 (-1) xs).isEmpty = xs.isEmpty := by cases xs <;> rfl
theorem nextP_pls (b0 : Int) (xs : List Bt.Bat) : nextP b0 (pls 0 (-1) xs) = nextOf b0 xs := by
  rcases List.eq_nil_or_concat xs with rfl | ⟨ys, x, rfl⟩
  · rfl
  · rw [List.concat_eq_append]; unfold nextP; rw [pls_empty, lastOf_pls, nextOf_snoc]; simp
theorem sizeP_pls (xs : List Bt.Bat) : sizeP (pls 0 (-1) xs) = (flat xs).length := by
  rcases List.eq_nil_or_concat xs with rfl | ⟨ys, x, rfl⟩
  · rfl
  · rw [List.concat_eq_append]; unfold sizeP; rw [lastOf_pls, flat_append, List.length_append, flat_one]
theorem latestP_pls (xs : List Bt.Bat) : latestP (pls 0 (-1) xs) = latOf (-1) xs := by
  rcases List.eq_nil_or_concat xs with rfl | ⟨ys, x, rfl⟩
  · rfl
  · rw [List.concat_eq_append]; unfold latestP; rw [pls_empty, lastOf_pls]; simp
end Go.Proofs.YtmdmdbobbepogaaGreatDoor.Sg

/- (*segment.Segment).note: one more place. -/
namespace Go.Proofs.YtmdmdbobbepogaaGreatDoor.Sg
open Go.RowKit Go.Maps
set_option maxRecDepth 100000
set_option linter.unusedSimpArgs false
set_option linter.unusedVariables false
attribute [local go_sem] Oper.semAt_some

theorem Tryz.infoPl : (Tryz.prog.info? 108).map (fun i => (i.zero, i.size, i.bytes)) = some (some (.agg #[.int .i64 0, .int .i64 0, .int .i64 0, .int .i64 0, .int .i64 0]), 5, 40) := by kernel_rfl
theorem app_pl (w : World) (base : Nat) (v : Value) (xs : List Pl) (x : Pl) (k : Nat) (hrow : GRow 108 5 plC w base v xs) (hk : w.heap[k]? = some (.cells (plC x).toArray 108 (0, 0))) (hlen : xs.length ≤ 1000000) (hbase : base ≤ w.heap.size) :
    ∃ v' w', (Builtin.append_ #[101, 101] 101 #[v, .slice (some ⟨k, 0, none⟩) 1 1]).run Tryz.prog w = .ok v' w' ∧ GRow 108 5 plC w' base v' (xs ++ [x]) ∧ Turn v.ownBlock.toList w w' ∧ (∀ j ∈ v'.ownBlock, j ∈ v.ownBlock ∨ w.heap.size ≤ j) := by
  obtain ⟨i, hi, e⟩ := Option.map_eq_some_iff.1 Tryz.infoPl
  simp only [Prod.mk.injEq] at e
  exact run_append_g (P := Tryz.prog) 101 101 Tryz.underlying101 i _ hi e.1 (by rfl) e.2.1 (by omega) plC_len (fun x u hu => by simp [plC] at hu; rcases hu with rfl | rfl | rfl | rfl | rfl <;> rfl) w base v xs x k hrow hk hlen hbase
theorem lat_snoc (l : Int) (rs : List Bt.Rec) {k : Nat} (hk : k < rs.length) : lat l (rs.take (k + 1)) = max (lat l (rs.take k)) rs[k].time := by
  unfold lat; rw [List.take_succ_eq_append_getElem hk, List.foldl_append]; rfl
theorem max_if (a b : Int) : (if a < b then b else a) = max a b := by split <;> omega

set_option maxHeartbeats 4000000 in
theorem note_any (w : World) (base d sb : Nat) (sv : Value) (file : ByteArray) (b0 : Int) (ps : List Pl) (h : SegAt w base d sb sv file b0 ps) (hl : ps.length ≤ 999999) (hz : sizeP ps ≤ 1099511627776)
    (vb : Value) (bs : List UInt8) (hb : ∀ Z, Turn (sfoot sb sv) w Z → BytesAt Z vb bs) (hbl : bs.length ≤ 1099511627776) (xb xf : Int) (va : Value) (rs : List Bt.Rec) (hr : RecsAt w va rs) :
    Calls Tryz.prog 92 #[.pointer (some ⟨sb, 0, none⟩), .agg #[.int .i64 xb, .int .i64 xf, va], vb] w fun e w' => e = .returned (.tuple #[]) ∧
      ∃ sv', SegAt w' base d sb sv' file b0 (ps ++ [⟨sizeP ps, bs.length, Cr.sum bs, xf, lat (latestP ps) rs⟩]) ∧ Turn (sfoot sb sv) w w' ∧ ∀ k ∈ sfoot sb sv', k ∈ sfoot sb sv ∨ w.heap.size ≤ k := by
  obtain ⟨ra, rc, rfl, hrlc, hrcm, hrn0, hrp⟩ := hr.form
  have hmx : maxLen = 9223372036854775807 := by simp [maxLen]
  rw [hmx] at hrcm
  obtain ⟨ba, bc, rfl, hblc, hbcm, -⟩ := (hb w (Turn.refl _ _)).form
  rw [hmx] at hbcm
  have HR := hide hr
  have HS := hide h
  have HB := hide hb
  have hsb := lt_of_heap h.box
  clear h hr hb hrn0
  go_enter Tryz.func92, Tryz.ntmps92
  go_wp2_with fail
  have ht0 : Turn [] w (w.alloc (.cells #[.int .i64 xb, .int .i64 xf, .slice ra rs.length rc] 76)) := (Turn.refl [] w).alloc _
  refine (latest_any _ base d sb sv file b0 ps (HS.out.still ht0) (by omega)).mono ?_
  rintro e w1 ⟨rfl, ht1⟩
  have hbx := ht1.heap (heap_new w (.cells #[.int .i64 xb, .int .i64 xf, .slice ra rs.length rc] 76)) (by simp)
  have HBX := hide hbx
  have HT1 := hide (ht0.same ht1)
  have hsz1 := lt_of_heap hbx
  have k2 : w1.cell? ⟨w.heap.size, 2, none⟩ = some (.slice ra rs.length rc) := by simpa using cell_of hbx 2
  clear ht0 ht1 hbx
  go_wp2
  go_loopw [6, 14] (fun t i wr => ∃ k : Nat, k ≤ rs.length ∧ i = .int .i64 k ∧ t = .int .i64 (lat (latestP ps) (rs.take k)) ∧ Turn [] w1 wr) (fun _ i _ => rs.length - (intOf i).toNat)
  case atStart => exact ⟨0, Nat.zero_le _, rfl, rfl, Turn.refl _ _⟩
  case round =>
    obtain ⟨k, hk, rfl, rfl, ht⟩ := hrel
    have HTW := hide ht
    clear ht
    by_cases hlt : k < rs.length
    · obtain ⟨p, rfl⟩ := hrp k hlt
      obtain ⟨g0, g1, g2, g3, g4, g5⟩ := (HR.out.still (HT1.out.same HTW.out)).six hlt
      obtain ⟨r, hre⟩ : ∃ r, r = rs[k] := ⟨_, rfl⟩
      have HLS := hide (lat_snoc (latestP ps) rs hlt)
      rw [← hre] at g0 g1 g2 g3 g4 g5 HLS
      clear hre
      go_wp2
      all_goals refine ⟨⟨k + 1, by omega, by go_num, by first | (rw [HLS.out]; done) | (rw [HLS.out]; exact congrArg _ (max_if _ _)), HTW.out.alloc _⟩, ?_⟩
      all_goals (simp only [intOf]; omega)
    · obtain rfl : k = rs.length := by omega
      rw [List.take_length]
      obtain ⟨lt, hlt'⟩ : ∃ lt, lt = lat (latestP ps) rs := ⟨_, rfl⟩
      rw [← hlt']
      obtain ⟨xa, xc, hsv, hxl, hxm⟩ := HS.out.row.form
      subst hsv
      rw [hmx] at hxm
      have HL : Hid (lt = lat (latestP ps) rs) := hlt'
      have HT2 := hide (HT1.out.same HTW.out)
      have HBX2 := hide (HTW.out.heap HBX.out (by simp))
      have hown : sb ∉ (Value.slice xa ps.length xc).ownBlock := fun hk => by
        rcases HS.out.row with ⟨e, -⟩ | ⟨g, cap, cur, e, hb', hg, -⟩
        · rw [e] at hk; simp [Value.ownBlock] at hk
        · rw [e] at hk
          simp [Value.ownBlock] at hk
          subst hk
          have := HS.out.box
          rw [hg] at this
          simp at this
      have hcells : ∀ Z, Turn (Value.slice xa ps.length xc).ownBlock.toList wr Z → (Z.heap[sb]? = some (.cells #[.pointer (some ⟨d, 0, none⟩), .string file, .int .i64 b0, .slice xa ps.length xc] 103 (0, 0)) ∧ Z.cell? ⟨sb, 3, none⟩ = some (.slice xa ps.length xc)) ∧
          (Z.heap[w.heap.size]? = some (.cells #[.int .i64 xb, .int .i64 xf, .slice ra rs.length rc] 76 (0, 0)) ∧ Z.cell? ⟨w.heap.size, 1, none⟩ = some (.int .i64 xf)) ∧ BytesAt Z (.slice ba bs.length bc) bs ∧ (sb < Z.heap.size ∧ w.heap.size < Z.heap.size) ∧ Turn (sfoot sb (.slice xa ps.length xc)) w Z := by
        intro Z hZ
        have h1 := hZ.heap (HS.out.still HT2.out).box (by simpa using hown)
        have h2 := hZ.heap HBX2.out (fun hm => by have := (HS.out.row.lt _ (by simpa using hm)).2; omega)
        have ht : Turn (sfoot sb (.slice xa ps.length xc)) w Z := (HT2.out.mono (by simp)).trans hZ (fun k hk => .inl (by simp [sfoot]; exact .inr (by simpa using hk)))
        exact ⟨⟨h1, by rw [cell_of h1]; rfl⟩, ⟨h2, by rw [cell_of h2]; rfl⟩, HB.out Z ht, ⟨lt_of_heap h1, lt_of_heap h2⟩, ht⟩
      have HC := hide hcells
      have HOWN := hide hown
      obtain ⟨np, hnp⟩ : ∃ np : Pl, np = ⟨sizeP ps, bs.length, Cr.sum bs, xf, lt⟩ := ⟨_, rfl⟩
      have HNP := hide hnp
      clear hcells hown hlt' hnp hlt k2 hsz1
      go_wp2
      refine wp_region_loud 19 (Turn (Value.slice xa ps.length xc).ownBlock.toList) (Turn []) (fun k w => match k with | 0 => (fun w => SegAt w base d sb (.slice xa ps.length xc) file b0 ps) w | 1 => (fun w => SegAt w base d sb (.slice xa ps.length xc) file b0 ps) w | _ => (fun w => w.heap[sb]? = some (.cells #[.pointer (some ⟨d, 0, none⟩), .string file, .int .i64 b0, .slice xa ps.length xc] 103 (0, 0))) w) [6, 16] (by kernel_rfl) (by kernel_rfl) (by kernel_rfl) (by kernel_rfl) (by kernel_rfl) (by kernel_rfl) (Nat.le_of_ble_eq_true rfl) (by decide) rfl (Turn.refl _) (fun _ _ _ h k => h.same k) (fun _ _ h => h.mono (by simp)) ?_ ?_ ?_
      · intro k a b hk hR
        match k, hk with
        | 0, hk =>
          have hk := (show (fun w => SegAt w base d sb (.slice xa ps.length xc) file b0 ps) a from hk)
          dsimp only at hk
          show (fun w => SegAt w base d sb (.slice xa ps.length xc) file b0 ps) b
          dsimp only
          first | exact hk.still hR | exact hR.heap hk (by simp)
        | 1, hk =>
          have hk := (show (fun w => SegAt w base d sb (.slice xa ps.length xc) file b0 ps) a from hk)
          dsimp only at hk
          show (fun w => SegAt w base d sb (.slice xa ps.length xc) file b0 ps) b
          dsimp only
          first | exact hk.still hR | exact hR.heap hk (by simp)
        | _ + 2, hk =>
          have hk := (show (fun w => w.heap[sb]? = some (.cells #[.pointer (some ⟨d, 0, none⟩), .string file, .int .i64 b0, .slice xa ps.length xc] 103 (0, 0))) a from hk)
          dsimp only at hk
          show (fun w => w.heap[sb]? = some (.cells #[.pointer (some ⟨d, 0, none⟩), .string file, .int .i64 b0, .slice xa ps.length xc] 103 (0, 0))) b
          dsimp only
          first | exact hk.still hR | exact hR.heap hk (by simp)
      · show (fun w => SegAt w base d sb (.slice xa ps.length xc) file b0 ps) _
        dsimp only
        exact (HS.out.still HT2.out).still ((Turn.refl [] _).drew)
      apply Lo.runx 1 rfl rfl [] (by kernel_rfl) (Turn.refl _)
      apply Exists.intro; apply And.intro
      · intro u w1 hR hF
        clear hF
        refine ⟨rfl, fun a ha K hK => ?_⟩
        have e0 := ha 0
        conv at e0 => rhs; whnf
        clear ha
        go_simp
        refine hK _ ?_; rfl
      apply Lo.runx 2 rfl rfl [] (by kernel_rfl) (Turn.refl _)
      apply Exists.intro; apply And.intro
      · intro u w1 hR hF
        clear hF
        refine ⟨rfl, fun a ha K hK => ?_⟩
        have e0 := ha 0
        conv at e0 => rhs; whnf
        clear ha
        go_simp
        refine hK _ ?_; rfl
      apply Lo.runx 3 rfl rfl [1] (by kernel_rfl) (Turn.refl _)
      apply Exists.intro; apply And.intro
      · intro u w1 hR hF
        obtain ⟨h1, -⟩ := hF
        refine ⟨rfl, fun a ha K hK => ?_⟩
        have e24 := (ha 24).trans h1
        clear ha h1
        go_simp
        refine hK _ ?_; rfl
      apply Lo.runx 4 rfl rfl [2] (by kernel_rfl) (Turn.refl _)
      apply Exists.intro; apply And.intro
      · intro u w1 hR hF
        obtain ⟨h2, -⟩ := hF
        refine ⟨rfl, fun a ha K hK => ?_⟩
        have e25 := (ha 25).trans h2
        clear ha h2
        go_simp
        refine hK _ ?_; rfl
      apply Lo.runx 5 rfl rfl [3] (by kernel_rfl) (Turn.refl _)
      apply Exists.intro; apply And.intro
      · intro u w1 hR hF
        obtain ⟨h3, -⟩ := hF
        refine ⟨rfl, fun a ha K hK => ?_⟩
        have e26 := (ha 26).trans h3
        clear ha h3
        obtain ⟨⟨-, c3⟩, -, -, ⟨z1, z2⟩, -⟩ := HC.out w1 (((Turn.refl _ _).drew).same hR)
        go_simp
        refine hK _ ?_; rfl
      apply Lo.runx 6 rfl rfl [] (by kernel_rfl) (Turn.refl _)
      apply Exists.intro; apply And.intro
      · intro u w1 hR hF
        clear hF
        refine ⟨rfl, fun a ha K hK => ?_⟩
        have e0 := ha 0
        conv at e0 => rhs; whnf
        clear ha
        go_simp
        refine hK _ ?_; rfl
      refine Lo.noisy 7 rfl 0 rfl [5] (fun y _ => y = .int .i64 (sizeP ps : Nat)) (by kernel_rfl) (fun x w w' h hR => ?_) (.inr (fun x w w' h hR => by exact h)) (fun u w1 hR hS hF => ?_) ?_
      · exact h
      · obtain ⟨h5, -⟩ := hF
        have hS := (show (fun w => SegAt w base d sb (.slice xa ps.length xc) file b0 ps) w1 from hS)
        dsimp only at hS
        refine ⟨rfl, fun a ha K hK => ?_⟩
        have e28 := (ha 28).trans h5
        clear ha h5
        go_simp
        refine (size_any _ base d sb _ file b0 ps hS (by omega) hz).mono ?_
        rintro e w2 ⟨rfl, ht2⟩
        exact hK _ _ rfl (ht2.mono (by simp)) (hS.still ht2)
      apply Lo.runx 8 rfl rfl [] (by kernel_rfl) (Turn.refl _)
      apply Exists.intro; apply And.intro
      · intro u w1 hR hF
        clear hF
        refine ⟨rfl, fun a ha K hK => ?_⟩
        have e2 := ha 2
        conv at e2 => rhs; whnf
        clear ha
        go_simp
        refine hK _ ?_; rfl
      apply Lo.runx 9 rfl rfl [7] (by kernel_rfl) (Turn.refl _)
      apply Exists.intro; apply And.intro
      · intro u w1 hR hF
        obtain ⟨h7, -⟩ := hF
        refine ⟨rfl, fun a ha K hK => ?_⟩
        have e30 := (ha 30).trans h7
        clear ha h7
        go_simp
        refine hK _ ?_; rfl
      apply Lo.runx 10 rfl rfl [] (by kernel_rfl) (Turn.refl _)
      apply Exists.intro; apply And.intro
      · intro u w1 hR hF
        clear hF
        refine ⟨rfl, fun a ha K hK => ?_⟩
        have e2 := ha 2
        conv at e2 => rhs; whnf
        clear ha
        go_simp
        refine hK _ ?_; rfl
      refine Lo.run 11 rfl rfl [9] (fun y _ => y = .int .i64 (Cr.sum bs : Nat)) (by kernel_rfl) (fun x w w' h hR => ?_) (fun _ _ h => h.mono (by simp)) (fun u w1 hR hF => ?_) ?_
      · exact h
      · obtain ⟨h9, -⟩ := hF
        refine ⟨rfl, fun a ha K hK => ?_⟩
        have e32 := (ha 32).trans h9
        clear ha h9
        have hby := (HC.out w1 (((Turn.refl _ _).drew).same hR)).2.2.1
        go_simp
        refine (sum_any _ _ bs hby.slice (by omega)).mono ?_
        rintro e w2 ⟨rfl, rfl⟩
        exact hK _ _ rfl (Turn.refl _ _)
      apply Lo.runx 12 rfl rfl [] (by kernel_rfl) (Turn.refl _)
      apply Exists.intro; apply And.intro
      · intro u w1 hR hF
        clear hF
        refine ⟨rfl, fun a ha K hK => ?_⟩
        have e4 := ha 4
        conv at e4 => rhs; whnf
        clear ha
        go_simp
        refine hK _ ?_; rfl
      apply Lo.runx 13 rfl rfl [11] (by kernel_rfl) (Turn.refl _)
      apply Exists.intro; apply And.intro
      · intro u w1 hR hF
        obtain ⟨h11, -⟩ := hF
        refine ⟨rfl, fun a ha K hK => ?_⟩
        have e34 := (ha 34).trans h11
        clear ha h11
        obtain ⟨-, ⟨-, cx⟩, -, ⟨z1, z2⟩, -⟩ := HC.out w1 (((Turn.refl _ _).drew).same hR)
        go_simp
        refine hK _ ?_; rfl
      apply Lo.runx 14 rfl rfl [] (by kernel_rfl) (Turn.refl _)
      apply Exists.intro; apply And.intro
      · intro u w1 hR hF
        clear hF
        refine ⟨rfl, fun a ha K hK => ?_⟩
        have e6 := ha 6
        conv at e6 => rhs; whnf
        clear ha
        go_simp
        refine hK _ ?_; rfl
      refine Lo.runv 15 rfl rfl [6, 8, 10, 12, 13] (plV np) (by kernel_rfl) (fun u w1 hR hF => ?_) (Turn.refl _) ?_
      · obtain ⟨h6, h8, h10, h12, h13, -⟩ := hF
        refine ⟨rfl, fun a ha K hK => ?_⟩
        have e29 : a.tmps.getD 29 undef = u 6 := ha 29
        have e31 := (ha 31).trans h8
        have e33 : a.tmps.getD 33 undef = u 10 := ha 33
        have e35 := (ha 35).trans h12
        have e36 := (ha 36).trans h13
        have h6 := (show (fun y _ => y = .int .i64 (sizeP ps : Nat)) (u 6) w1 from h6)
        dsimp only at h6
        have h10 := (show (fun y _ => y = .int .i64 (Cr.sum bs : Nat)) (u 10) w1 from h10)
        dsimp only at h10
        clear ha h8 h12 h13
        rw [h6] at e29
        rw [h10] at e33
        rw [Array.getD_eq_getD_getElem?] at e29 e31 e33 e35 e36
        go_simp
        refine hK _ ?_
        rw [HNP.out]; rfl
      refine Lo.run 16 rfl rfl [14] (fun x w' => ∃ k, x = .slice (some ⟨k, 0, none⟩) 1 1 ∧ w'.heap[k]? = some (.cells (plC np).toArray 108 (0, 0)) ∧ wr.heap.size ≤ k) (by kernel_rfl) (fun x w w' h hR => ?_) (fun _ _ h => h.mono (by simp)) (fun u w1 hR hF => ?_) ?_
      · obtain ⟨k, h1, h2, h3⟩ := h; exact ⟨k, h1, hR.heap h2 (fun hm => by have := ((HS.out.still HT2.out).row.lt k (by simpa using hm)).2; omega), h3⟩
      · obtain ⟨h14, -⟩ := hF
        refine ⟨rfl, fun a ha K hK => ?_⟩
        have e37 := (ha 37).trans h14
        clear ha h14
        have e37' : a.tmps[37]?.getD undef = .agg #[.int .i64 np.at, .int .i64 np.size, .int .i64 np.sum, .int .i64 np.fin, .int .i64 np.latest] := by rw [← Array.getD_eq_getD_getElem?, e37]; rfl
        go_simp
        exact hK _ _ ⟨w1.heap.size, rfl, heap_new w1 _, hR.size⟩ ((Turn.refl [] _).alloc _)
      refine Lo.noisy 17 rfl 1 rfl [4, 15] (fun x w' => GRow 108 5 plC w' base x (ps ++ [np]) ∧ ∀ j ∈ x.ownBlock, j ∈ (Value.slice xa ps.length xc).ownBlock ∨ wr.heap.size ≤ j) (by kernel_rfl) (fun x w w' h hR => ?_) (.inl (by kernel_rfl)) (fun u w1 hR hS hF => ?_) ?_
      · exact ⟨h.1.still hR, h.2⟩
      · obtain ⟨h4, h15, -⟩ := hF
        have hS := (show (fun w => SegAt w base d sb (.slice xa ps.length xc) file b0 ps) w1 from hS)
        dsimp only at hS
        refine ⟨rfl, fun a ha K hK => ?_⟩
        have e27 := (ha 27).trans h4
        have e38 : a.tmps.getD 38 undef = u 15 := ha 38
        have h15 := (show (fun x w' => ∃ k, x = .slice (some ⟨k, 0, none⟩) 1 1 ∧ w'.heap[k]? = some (.cells (plC np).toArray 108 (0, 0)) ∧ wr.heap.size ≤ k) (u 15) w1 from h15)
        dsimp only at h15
        clear ha h4
        obtain ⟨kk, hx15, hc15, hk15⟩ := h15
        rw [hx15] at e38
        obtain ⟨v7, w7, hr7, hrow7, ht7, hown7⟩ := app_pl w1 base (.slice xa ps.length xc) ps np kk hS.row hc15 (by omega) (by have := hS.low; have := lt_of_heap hS.box; omega)
        have hsz7 := hR.size
        have hbx7 := ht7.heap hS.box (by simpa using HOWN.out)
        clear hx15 hc15
        exact oper_append rfl e27 e38 hr7 (hK _ _ ⟨hrow7, fun j hj => (hown7 j hj).elim .inl (fun h => .inr (Nat.le_trans hsz7 h))⟩ ht7 hbx7)
      apply Lo.runx 18 rfl rfl [0] (by kernel_rfl) (Turn.refl _)
      apply Exists.intro; apply And.intro
      · intro u w1 hR hF
        obtain ⟨h0, -⟩ := hF
        refine ⟨rfl, fun a ha K hK => ?_⟩
        have e23 := (ha 23).trans h0
        clear ha h0
        go_simp
        refine hK _ ?_; rfl
      apply Lo.runx 19 rfl rfl [17] (by kernel_rfl) (Turn.refl _)
      apply Exists.intro; apply And.intro
      · intro u w1 hR hF
        obtain ⟨h17, -⟩ := hF
        refine ⟨rfl, fun a ha K hK => ?_⟩
        have e40 := (ha 40).trans h17
        clear ha h17
        go_simp
        refine hK _ ?_; rfl
      refine Lo.done [16, 18] (fun u w1 hRd hSd hF => ?_)
      have hSd := (show (fun w => w.heap[sb]? = some (.cells #[.pointer (some ⟨d, 0, none⟩), .string file, .int .i64 b0, .slice xa ps.length xc] 103 (0, 0))) w1 from hSd)
      dsimp only at hSd
      obtain ⟨f16, f18, -⟩ := hF
      have d16 := (show (fun x w' => GRow 108 5 plC w' base x (ps ++ [np]) ∧ ∀ j ∈ x.ownBlock, j ∈ (Value.slice xa ps.length xc).ownBlock ∨ wr.heap.size ≤ j) (u 16) w1 from f16)
      dsimp only at d16
      have d18 : u 18 = _ := f18
      clear f16 f18
      simp only [List.take_succ_cons, List.take_zero, List.drop_succ_cons, List.drop_zero, putFrom, Act.put, List.setIfInBounds_toArray, List.set_cons_succ, List.set_cons_zero, Nat.zero_add, Nat.reduceAdd, d18]
      obtain ⟨hrow7, hown7⟩ := d16
      obtain ⟨ya, yc, hyv, -, -⟩ := hrow7.form
      rw [hyv] at hrow7 hown7 ⊢
      rw [List.length_append, List.length_singleton] at hrow7 hown7 ⊢
      have ht7 : Turn (Value.slice xa ps.length xc).ownBlock.toList wr w1 := ((Turn.refl _ _).drew).same hRd
      obtain ⟨⟨hbox, c3⟩, -, -, ⟨z1, -⟩, htw⟩ := HC.out w1 ht7
      have f3 : w1.frozen? ⟨sb, 3, none⟩ = false := frozen_of hbox 3
      have hws : w.heap.size ≤ wr.heap.size := HT2.out.size
      have hrn : sb ∉ (Value.slice ya (ps.length + 1) yc).ownBlock := fun hk => (hown7 sb hk).elim (fun h => HOWN.out h) (fun h => by omega)
      have HROW7 := hide hrow7
      have HOWN7 := hide hown7
      have HTW7 := hide htw
      have HBOX := hide hbox
      have HRN := hide hrn
      clear hrow7 hown7 ht7 hbox htw hrn hRd hSd hyv d18
      go_wp2
      go_end0
      have e : np = ⟨sizeP ps, bs.length, Cr.sum bs, xf, lat (latestP ps) rs⟩ := by rw [HNP.out, HL.out]
      have hts : Turn [sb] w1 (w1.setCell ⟨sb, 3, none⟩ (.slice ya (ps.length + 1) yc)) := (Turn.refl _ _).setCell (.inl (by simp)) _
      rw [← e]
      refine ⟨rfl, _, ⟨by simpa using heap_set HBOX.out 3 _, HROW7.out.kept hts (fun k hk => by simp only [List.mem_singleton]; intro e; subst e; exact HRN.out hk), HS.out.low⟩, HTW7.out.trans hts (fun k hk => .inl (by simp at hk; subst hk; simp [sfoot])), fun k hk => ?_⟩
      simp only [sfoot, List.mem_cons, Option.mem_toList] at hk ⊢
      rcases hk with rfl | hk
      · exact .inl (.inl rfl)
      · rcases HOWN7.out k hk with h | h
        · exact .inl (.inr h)
        · exact .inr (Nat.le_trans hws h)
end Go.Proofs.YtmdmdbobbepogaaGreatDoor.Sg

/- (*segment.Segment).Add: a batch put at the end. -/
namespace Go.Proofs.YtmdmdbobbepogaaGreatDoor.Sg
open Go.RowKit Go.Maps
set_option maxRecDepth 100000
set_option linter.unusedSimpArgs false
set_option linter.unusedVariables false
attribute [local go_sem] Oper.semAt_some
open Dk (DA DiskAt Parts Did errR errV)

/-- A disk, and a segment on it. -/
structure Both (w : World) (base d : Nat) (F : List Nat) (A : DA) (sb : Nat) (sv : Value) (file : ByteArray) (b0 : Int) (ps : List Pl) : Prop where
  disk : DiskAt w base d F A
  seg : SegAt w base d sb sv file b0 ps
  sep : ∀ k ∈ sfoot sb sv, k ∉ F
section
variable {w w' : World} {base d sb : Nat} {F : List Nat} {A : DA} {sv : Value} {file : ByteArray} {b0 : Int} {ps : List Pl}
theorem Both.kept {S : List Nat} (h : Both w base d F A sb sv file b0 ps) (ht : Turn S w w') (h1 : ∀ k ∈ F, k ∉ S) (h2 : ∀ k ∈ sfoot sb sv, k ∉ S) : Both w' base d F A sb sv file b0 ps :=
  ⟨h.disk.kept ht h1, h.seg.kept ht h2, h.sep⟩
theorem Both.still (h : Both w base d F A sb sv file b0 ps) (ht : Turn [] w w') : Both w' base d F A sb sv file b0 ps := h.kept ht (by simp) (by simp)
end
/-- What an operation on a disk and a segment has come to. -/
def Came (w w' : World) (base d : Nat) (F : List Nat) (A' : DA) (sb : Nat) (sv : Value) (file : ByteArray) (b0 : Int) (ps' : List Pl) : Prop :=
  ∃ F' sv', Both w' base d F' A' sb sv' file b0 ps' ∧ Turn (F ++ sfoot sb sv) w w' ∧ (∀ k ∈ F', k ∈ F ∨ w.heap.size ≤ k) ∧ ∀ k ∈ sfoot sb sv', k ∈ sfoot sb sv ∨ w.heap.size ≤ k
def plOf (ps : List Pl) (x : Bt.Bat) : Pl := ⟨sizeP ps, (Bt.encB x).length, Cr.sum (Bt.encB x), x.fin, lat (latestP ps) x.recs⟩
def psIf (c : Int) (ps : List Pl) (p : Pl) : List Pl := if c = 0 then ps ++ [p] else ps
theorem plOf_pls (xs : List Bt.Bat) (x : Bt.Bat) : pls 0 (-1) xs ++ [plOf (pls 0 (-1) xs) x] = pls 0 (-1) (xs ++ [x]) := by
  rw [pls_snoc, plOf, sizeP_pls, latestP_pls, Nat.zero_add]

set_option maxHeartbeats 4000000 in
theorem add_any (w : World) (base d : Nat) (F : List Nat) (A : DA) (sb : Nat) (sv : Value) (file : ByteArray) (b0 : Int) (ps : List Pl) (h : Both w base d F A sb sv file b0 ps) (hfs : file.size ≤ maxLen) (hl : ps.length ≤ 999999) (hz : sizeP ps ≤ 1099511627776)
    (va : Value) (x : Bt.Bat) (hx : BatAt w (.agg #[.int .i64 x.base, .int .i64 x.fin, va]) x) (hxs : ∀ k ∈ va.ownBlock, k < w.heap.size → k ∉ F ∧ k ∉ sfoot sb sv) :
    Calls Tryz.prog 62 #[.pointer (some ⟨sb, 0, none⟩), .agg #[.int .i64 x.base, .int .i64 x.fin, va]] w fun e w' =>
      (Bt.encErr x ≠ 0 ∧ e = .returned (errR (Bt.encErr x)) ∧ Turn [] w w') ∨ (Bt.encErr x = 0 ∧ x.base < nextP b0 ps ∧ e = .returned (errR 10) ∧ Turn [] w w') ∨
      (Bt.encErr x = 0 ∧ nextP b0 ps ≤ x.base ∧ e = .returned (errR (A.add file.data.toList (Bt.encB x)).1) ∧ Came w w' base d F (A.add file.data.toList (Bt.encB x)).2 sb sv file b0 (psIf (A.add file.data.toList (Bt.encB x)).1 ps (plOf ps x))) := by
  have HBX := hide hx
  obtain ⟨sv0, hsv0, hr, b1, b2, f1, f2⟩ := hx
  simp only [Value.agg.injEq, Array.mk.injEq, List.cons.injEq, Value.int.injEq, true_and, and_true] at hsv0
  subst hsv0
  have HB := hide h
  have HXS := hide hxs
  have HR := hide hr
  have hmx : maxLen = 9223372036854775807 := by simp [maxLen]
  have hsb := lt_of_heap h.seg.box
  clear h hxs hr
  go_enter Tryz.func62, Tryz.ntmps62
  go_wp2_with fail
  have ht0 : Turn [] w (w.alloc (.cells #[.int .i64 x.base, .int .i64 x.fin, va] 76)) := (Turn.refl [] w).alloc _
  have hbb : BatAt (w.alloc (.cells #[.int .i64 x.base, .int .i64 x.fin, va] 76)) (.agg #[.int .i64 x.base, .int .i64 x.fin, va]) x := ⟨va, rfl, HR.out.still ht0, b1, b2, f1, f2⟩
  refine (enc_any _ _ x hbb).mono ?_
  rintro e w1 ⟨vb, rfl, ht1, hrow1⟩
  have hX := ht1.heap (heap_new w (.cells #[.int .i64 x.base, .int .i64 x.fin, va] 76)) (by simp)
  have HX := hide hX
  have HT1 := hide (ht0.same ht1)
  have HROW := hide hrow1
  have hsz1 := lt_of_heap hX
  clear ht0 hbb ht1 hrow1 hX
  by_cases he : Bt.encErr x = 0
  · have hee : As.errN (Bt.encErr x) = .nilIface := by rw [he]; rfl
    have hrow1 := HROW.out
    unfold encR at hrow1
    rw [if_pos he] at hrow1
    obtain ⟨ba, bc, hvb, hblc, hbcm⟩ := hrow1.form
    subst hvb
    have HE := hide he
    have HROW1 := hide hrow1
    rw [hee]
    clear he hee hrow1 HROW
    go_wp2
    obtain ⟨nx, hnx⟩ : ∃ nx, nx = nextP b0 ps := ⟨_, rfl⟩
    have HNX := hide hnx
    clear hnx
    refine wp_region_tail 4 (Turn []) (by kernel_rfl) (by kernel_rfl) (by kernel_rfl) (by kernel_rfl) (by kernel_rfl) (Nat.le_of_ble_eq_true rfl) rfl (Turn.refl _) (fun _ _ _ h k => h.same k) ?_
    apply Lo.runx 1 rfl rfl [] (by kernel_rfl) (Turn.refl _)
    apply Exists.intro; apply And.intro
    · intro u w1 hR hF
      clear hF
      refine ⟨rfl, fun a ha K hK => ?_⟩
      have e3 := ha 3
      conv at e3 => rhs; whnf
      clear ha
      go_simp
      refine hK _ ?_; rfl
    apply Lo.runx 2 rfl rfl [0] (by kernel_rfl) (Turn.refl _)
    apply Exists.intro; apply And.intro
    · intro u w1 hR hF
      obtain ⟨h0, -⟩ := hF
      refine ⟨rfl, fun a ha K hK => ?_⟩
      have e16 := (ha 16).trans h0
      clear ha h0
      have hX := (((Turn.refl [] _).drew).same hR).heap HX.out (by simp)
      have c0 : w1.cell? ⟨w.heap.size, 0, none⟩ = some (.int .i64 x.base) := by rw [cell_of hX]; rfl
      have z1 := lt_of_heap hX
      go_simp
      refine hK _ ?_; rfl
    apply Lo.runx 3 rfl rfl [] (by kernel_rfl) (Turn.refl _)
    apply Exists.intro; apply And.intro
    · intro u w1 hR hF
      clear hF
      refine ⟨rfl, fun a ha K hK => ?_⟩
      have e0 := ha 0
      conv at e0 => rhs; whnf
      clear ha
      go_simp
      refine hK _ ?_; rfl
    refine Lo.run 4 rfl rfl [2] (fun y _ => y = .int .i64 nx) (by kernel_rfl) (fun x w w' h hR => ?_) (fun _ _ h => h) (fun u w1 hR hF => ?_) ?_
    · exact h
    · obtain ⟨h2, -⟩ := hF
      refine ⟨rfl, fun a ha K hK => ?_⟩
      have e18 := (ha 18).trans h2
      clear ha h2
      go_simp
      refine (next_any _ base d sb sv file b0 ps (HB.out.seg.still (HT1.out.same (((Turn.refl [] _).drew).same hR))) (by omega)).mono ?_
      rintro e w2 ⟨rfl, ht2⟩
      exact hK _ _ (by rw [HNX.out]) ht2
    refine Lo.done [1, 3] (fun u w1 hRd hSd hF => ?_)
    clear hSd
    obtain ⟨f1, f3, -⟩ := hF
    have d1 : u 1 = _ := f1
    have d3 := (show (fun y _ => y = .int .i64 nx) (u 3) w1 from f3)
    dsimp only at d3
    clear f1 f3
    simp only [List.take_succ_cons, List.take_zero, List.drop_succ_cons, List.drop_zero, putFrom, Act.put, List.setIfInBounds_toArray, List.set_cons_succ, List.set_cons_zero, Nat.zero_add, Nat.reduceAdd, d1]
    rw [d3]
    have HT2 := hide (HT1.out.same (((Turn.refl [] _).drew).same hRd))
    have HX2 := hide ((((Turn.refl [] _).drew).same hRd).heap HX.out (by simp))
    have HROW2 := hide (HROW1.out.kept (((Turn.refl [] _).drew).same hRd) (by simp))
    clear d1 d3 hRd
    by_cases hlt : x.base < nx
    · have HLT := hide hlt
      go_wp2
      go_ret
      exact .inr (.inl ⟨HE.out, by rw [← HNX.out]; exact HLT.out, rfl, HT2.out⟩)
    · have HLT := hide hlt
      go_wp2
      refine wp_region_tail 9 (Turn []) (by kernel_rfl) (by kernel_rfl) (by kernel_rfl) (by kernel_rfl) (by kernel_rfl) (Nat.le_of_ble_eq_true rfl) rfl (Turn.refl _) (fun _ _ _ h k => h.same k) ?_
      apply Lo.runx 1 rfl rfl [] (by kernel_rfl) (Turn.refl _)
      apply Exists.intro; apply And.intro
      · intro u w1 hR hF
        clear hF
        refine ⟨rfl, fun a ha K hK => ?_⟩
        have e0 := ha 0
        conv at e0 => rhs; whnf
        clear ha
        go_simp
        refine hK _ ?_; rfl
      apply Lo.runx 2 rfl rfl [0] (by kernel_rfl) (Turn.refl _)
      apply Exists.intro; apply And.intro
      · intro u w1 hR hF
        obtain ⟨h0, -⟩ := hF
        refine ⟨rfl, fun a ha K hK => ?_⟩
        have e22 := (ha 22).trans h0
        clear ha h0
        go_simp
        refine hK _ ?_; rfl
      apply Lo.runx 3 rfl rfl [1] (by kernel_rfl) (Turn.refl _)
      apply Exists.intro; apply And.intro
      · intro u w1 hR hF
        obtain ⟨h1, -⟩ := hF
        refine ⟨rfl, fun a ha K hK => ?_⟩
        have e23 := (ha 23).trans h1
        clear ha h1
        go_simp
        refine hK _ ?_; rfl
      apply Lo.runx 4 rfl rfl [2] (by kernel_rfl) (Turn.refl _)
      apply Exists.intro; apply And.intro
      · intro u w1 hR hF
        obtain ⟨h2, -⟩ := hF
        refine ⟨rfl, fun a ha K hK => ?_⟩
        have e24 := (ha 24).trans h2
        clear ha h2
        have hS := HB.out.seg.still (HT2.out.same (((Turn.refl [] _).drew).same hR))
        have c0 := hS.c0
        have z1 := lt_of_heap hS.box
        go_simp
        refine hK _ ?_; rfl
      apply Lo.runx 5 rfl rfl [] (by kernel_rfl) (Turn.refl _)
      apply Exists.intro; apply And.intro
      · intro u w1 hR hF
        clear hF
        refine ⟨rfl, fun a ha K hK => ?_⟩
        have e0 := ha 0
        conv at e0 => rhs; whnf
        clear ha
        go_simp
        refine hK _ ?_; rfl
      apply Lo.runx 6 rfl rfl [4] (by kernel_rfl) (Turn.refl _)
      apply Exists.intro; apply And.intro
      · intro u w1 hR hF
        obtain ⟨h4, -⟩ := hF
        refine ⟨rfl, fun a ha K hK => ?_⟩
        have e26 := (ha 26).trans h4
        clear ha h4
        go_simp
        refine hK _ ?_; rfl
      apply Lo.runx 7 rfl rfl [5] (by kernel_rfl) (Turn.refl _)
      apply Exists.intro; apply And.intro
      · intro u w1 hR hF
        obtain ⟨h5, -⟩ := hF
        refine ⟨rfl, fun a ha K hK => ?_⟩
        have e27 := (ha 27).trans h5
        clear ha h5
        go_simp
        refine hK _ ?_; rfl
      apply Lo.runx 8 rfl rfl [6] (by kernel_rfl) (Turn.refl _)
      apply Exists.intro; apply And.intro
      · intro u w1 hR hF
        obtain ⟨h6, -⟩ := hF
        refine ⟨rfl, fun a ha K hK => ?_⟩
        have e28 := (ha 28).trans h6
        clear ha h6
        have hS := HB.out.seg.still (HT2.out.same (((Turn.refl [] _).drew).same hR))
        have c1 := hS.c1
        have z1 := lt_of_heap hS.box
        go_simp
        refine hK _ ?_; rfl
      apply Lo.runx 9 rfl rfl [] (by kernel_rfl) (Turn.refl _)
      apply Exists.intro; apply And.intro
      · intro u w1 hR hF
        clear hF
        refine ⟨rfl, fun a ha K hK => ?_⟩
        have e5 := ha 5
        conv at e5 => rhs; whnf
        clear ha
        go_simp
        refine hK _ ?_; rfl
      refine Lo.done [3, 7, 8] (fun u w1 hRd hSd hF => ?_)
      clear hSd
      obtain ⟨f3, f7, f8, -⟩ := hF
      have d3 : u 3 = _ := f3
      have d7 : u 7 = _ := f7
      have d8 : u 8 = _ := f8
      clear f3 f7 f8
      simp only [List.take_succ_cons, List.take_zero, List.drop_succ_cons, List.drop_zero, putFrom, Act.put, List.setIfInBounds_toArray, List.set_cons_succ, List.set_cons_zero, Nat.zero_add, Nat.reduceAdd, d3, d7, d8]
      have HT3 := hide (HT2.out.same (((Turn.refl [] _).drew).same hRd))
      have HX3 := hide ((((Turn.refl [] _).drew).same hRd).heap HX2.out (by simp))
      have HROW3 := hide (HROW2.out.kept (((Turn.refl [] _).drew).same hRd) (by simp))
      clear d3 d7 d8 hRd
      have hboth := HB.out.still HT3.out
      obtain ⟨mref, ms, hparts⟩ := hboth.disk
      have hFlt : ∀ k ∈ F, k < w.heap.size := HB.out.disk.lt
      have hGlt : ∀ k ∈ sfoot sb sv, base ≤ k ∧ k < w.heap.size := HB.out.seg.lt
      have hws := HT1.out.size
      have hbown : ∀ k ∈ (Value.slice ba (Bt.encB x).length bc).ownBlock, w.heap.size ≤ k := fun k hk => by
        have := (HROW3.out.lt k hk).1
        simp at this
        omega
      have hsl : ∀ Z, Turn F w1 Z → SliceAt Z (.slice ba (Bt.encB x).length bc) ((Bt.encB x).map encB) := fun Z hZ =>
        HROW3.out.cells.kept hZ (fun k hk hm => by have := hbown k hk; have := hFlt k hm; omega)
      have hen : (Bt.encB x).length ≤ 6000 := by have := (Bt.encErr_ok HE.out).2; rw [Bt.encB_len]; exact this
      have HSL := hide hsl
      have hlt' : nx ≤ x.base := HLT.out
      have HGE : Hid (nextP b0 ps ≤ x.base) := by rw [HNX.out] at hlt'; exact hlt'
      have HBO := hide hbown
      have HF := hide hFlt
      have HG := hide hGlt
      clear hsl hlt' hbown hFlt hGlt hboth hblc hbcm
      go_wp2_with fail
      refine (Dk.add_any hparts file hfs _ (Bt.encB x) HSL.out (by omega)).mono ?_
      rintro e w2 ⟨rfl, F', hd2, ht2, hf2⟩
      have hws1 := HT3.out.size
      have hdis : ∀ k ∈ sfoot sb sv, k ∉ F' := fun k hk hm => (hf2 k hm).elim (fun h => HB.out.sep k hk h) (fun h => by have := (HG.out k hk).2; omega)
      have hX2 := ht2.heap HX3.out (fun hm => by have := HF.out _ hm; omega)
      have hs2 := (HB.out.seg.still HT3.out).kept ht2 (fun k hk => HB.out.sep k hk)
      have htw2 : Turn F w w2 := (HT3.out.mono (by simp)).same ht2
      obtain ⟨c, hc⟩ : ∃ c, c = (A.add file.data.toList (Bt.encB x)).1 := ⟨_, rfl⟩
      obtain ⟨A2, hA2⟩ : ∃ A2, A2 = (A.add file.data.toList (Bt.encB x)).2 := ⟨_, rfl⟩
      have HCE := hide hc
      have HAE := hide hA2
      rw [← hA2] at hd2
      rw [← hc]
      have HD2 := hide hd2
      have HT2' := hide ht2
      have HF2 := hide hf2
      have HDIS := hide hdis
      have HS2 := hide hs2
      have HTW2 := hide htw2
      by_cases hc0 : c = 0
      · have hr0 : errR c = .nilIface := by rw [hc0]; rfl
        have k0 : w2.cell? ⟨w.heap.size, 0, none⟩ = some (.int .i64 x.base) := by rw [cell_of hX2]; rfl
        have k1 : w2.cell? ⟨w.heap.size, 1, none⟩ = some (.int .i64 x.fin) := by rw [cell_of hX2]; rfl
        have k2 : w2.cell? ⟨w.heap.size, 2, none⟩ = some va := by rw [cell_of hX2]; rfl
        have z2 := lt_of_heap hX2
        have HC0 := hide hc0
        have HR0 := hide hr0
        rw [hr0]
        clear hc hA2 hd2 ht2 hf2 hdis hs2 htw2 hX2 hc0 hr0 hparts
        go_wp2_with fail
        refine (note_any w2 base d sb sv file b0 ps HS2.out hl hz _ (Bt.encB x) (fun Z hZ => ?_) (by omega) x.base x.fin va x.recs (HR.out.kept HTW2.out (fun k hk hlt => (HXS.out k hk hlt).1))).mono ?_
        · exact ((HROW3.out.kept HT2'.out (fun k hk hm => by have := HBO.out k hk; have := HF.out k hm; omega)).kept hZ (fun k hk hm => by have := HBO.out k hk; have := (HG.out k hm).2; omega)).bytes
        rintro e w3 ⟨rfl, sv', hseg, ht3, hg⟩
        go_wp2
        go_ret
        refine .inr (.inr ⟨HE.out, HGE.out, by rw [← HCE.out, HR0.out]; rfl, F', sv', ⟨by rw [← HAE.out]; exact HD2.out.kept ht3 (fun k hk hm => HDIS.out k hm hk), ?_, fun k hk hm => ?_⟩, ?_, fun k hk => (HF2.out k hk).imp_right (Nat.le_trans hws1), fun k hk => (hg k hk).imp_right (Nat.le_trans HTW2.out.size)⟩)
        · rw [← HCE.out, HC0.out]; exact hseg
        · rcases hg k hk with h | h
          · exact HDIS.out k h hm
          · have := HD2.out.lt k hm; omega
        · exact (HTW2.out.mono (fun k hk => .inl (List.mem_append_left _ hk))).trans ht3 (fun k hk => .inl (List.mem_append_right _ hk))
      · have hr0 : errR c = .iface 62 (.int .i64 c) := by unfold errR; rw [if_neg hc0]; rfl
        have HC0 := hide hc0
        have HR0 := hide hr0
        rw [hr0]
        clear hc hA2 hd2 ht2 hf2 hdis hs2 htw2 hX2 hc0 hr0 hparts
        go_wp2
        go_ret
        refine .inr (.inr ⟨HE.out, HGE.out, by rw [← HCE.out, HR0.out]; rfl, F', sv, ⟨by rw [← HAE.out]; exact HD2.out, ?_, HDIS.out⟩, HTW2.out.mono (fun k hk => .inl (List.mem_append_left _ hk)), fun k hk => (HF2.out k hk).imp_right (Nat.le_trans hws1), fun k hk => .inl hk⟩)
        unfold psIf
        rw [← HCE.out, if_neg HC0.out]; exact HS2.out
  · have hee : As.errN (Bt.encErr x) = errR (Bt.encErr x) := rfl
    have hne : errR (Bt.encErr x) = .iface 62 (.int .i64 (Bt.encErr x)) := by unfold errR; rw [if_neg he]; rfl
    rw [hee, hne]
    have HNE := hide hne
    have HE := hide he
    clear hee hne he HROW
    go_wp2
    go_ret
    exact .inl ⟨HE.out, by rw [HNE.out]; rfl, HT1.out⟩
end Go.Proofs.YtmdmdbobbepogaaGreatDoor.Sg
