/- Sync, Add: what they do with the disk. -/
import Derived.Test.YtlcgcckllecjpaaDoorOps
import Derived.Deep.RegionWith
import Derived.Deep.DeepMust
namespace Go.Proofs.YtlcgcckllecjpaaDoor.Dk
open Go.RowKit Go.Maps
set_option linter.unusedSimpArgs false

theorem nodup_swap {X Y o o' : List Nat} (h : (X ++ (o ++ Y)).Nodup) (ho : o'.Nodup) (hs : ∀ k ∈ o', k ∈ o ∨ (k ∉ X ∧ k ∉ Y)) : (X ++ (o' ++ Y)).Nodup := by
  simp only [List.nodup_append, List.mem_append] at *
  obtain ⟨hX, ⟨_, hY, hoY⟩, hXr⟩ := h
  refine ⟨hX, ⟨ho, hY, ?_⟩, ?_⟩
  · intro a ha b hb e
    rcases hs a ha with h1 | h1
    · exact hoY a h1 b hb e
    · exact h1.2 (e ▸ hb)
  · intro a ha b hb e
    rcases hb with hb | hb
    · rcases hs b hb with h1 | h1
      · exact hXr a ha b (.inl h1) e
      · exact h1.1 (e ▸ ha)
    · exact hXr a ha b (.inr hb) e

def setF (l : List FA) (nm : List UInt8) (g : FA → FA) : List FA := l.map (fun f => if f.name == nm then g f else f)
theorem setF_len (l : List FA) (nm : List UInt8) (g : FA → FA) : (setF l nm g).length = l.length := by simp [setF]
theorem setF_at (pre post : List FA) (f : FA) (g : FA → FA) (hn : ((pre ++ f :: post).map (·.name)).Nodup) : setF (pre ++ f :: post) f.name g = pre ++ g f :: post := by
  have h1 : ∀ x ∈ pre, (x.name == f.name) = false := by
    intro x hx
    simp only [List.map_append, List.map_cons, List.nodup_append] at hn
    have := hn.2.2 x.name (List.mem_map.2 ⟨x, hx, rfl⟩) f.name (by simp)
    simpa using this
  have h2 : ∀ x ∈ post, (x.name == f.name) = false := by
    intro x hx
    simp only [List.map_append, List.map_cons, List.nodup_append, List.nodup_cons] at hn
    have : x.name ≠ f.name := fun e => hn.2.1.1 (by rw [← e]; exact List.mem_map.2 ⟨x, hx, rfl⟩)
    simpa using this
  unfold setF
  rw [List.map_append, List.map_cons]
  congr 1
  · conv => rhs; rw [← List.map_id pre]
    apply List.map_congr_left
    intro x hx; simp [h1 x hx]
  · congr 1
    · simp
    · conv => rhs; rw [← List.map_id post]
      apply List.map_congr_left
      intro x hx; simp [h2 x hx]

section
variable {w w' : World} {base d : Nat} {F : List Nat} {A A' : DA} {mref : Option Nat} {ms : List FileM}

theorem split_at {nm : List UInt8} {m : FileM} (h : findM ms nm = some m) : ∃ pre post, ms = pre ++ m :: post ∧ m.abs.name = nm := by
  obtain ⟨h1, h2⟩ := findM_mem h
  obtain ⟨pre, post, e⟩ := List.append_of_mem h1
  exact ⟨pre, post, e, h2⟩

/-- A file is told anew; all others lie as they lay. -/
theorem Parts.setFile {pre post : List FileM} {m m' : FileM} (h : Parts w base d F A mref (pre ++ m :: post)) (hn : m'.abs.name = m.abs.name) (hb : m'.blk = m.blk) (ht : Turn m.foot w w') (hfa : FileAt w' base m')
    (hown : ∀ k ∈ m'.sl.ownBlock, k ∈ m.sl.ownBlock ∨ w.heap.size ≤ k) (hroom : A'.room = A.room) (hlim : A'.limited = A.limited) (hleft : A'.left = A.left) (hf : A'.files = pre.map (·.abs) ++ m'.abs :: post.map (·.abs)) (hg : Good A') :
    ∃ F', Parts w' base d F' A' mref (pre ++ m' :: post) ∧ (∀ k ∈ F', k ∈ F ∨ k ∈ m'.sl.ownBlock) ∧ ∀ k ∈ F', k ∈ F ∨ w.heap.size ≤ k := by
  have hnd := h.nodup
  have hlt := h.lt
  have hlo := h.low
  have hft := h.foot
  have hF : F = (d :: (mref.toList ++ pre.flatMap FileM.foot)) ++ (m.foot ++ post.flatMap FileM.foot) := by rw [hft]; simp [List.flatMap_append]
  rw [hF] at hnd
  have hblk : m.blk ∈ F := by rw [hF]; simp [FileM.foot]
  have hfresh : ∀ k ∈ m'.foot, k ∈ m.foot ∨ (k ∉ (d :: (mref.toList ++ pre.flatMap FileM.foot)) ∧ k ∉ post.flatMap FileM.foot) := by
    intro k hk
    simp only [FileM.foot, List.mem_cons, Option.mem_toList] at hk
    rcases hk with rfl | hk
    · exact .inl (by simp [FileM.foot, hb])
    · rcases hown k hk with h1 | h1
      · exact .inl (by simp only [FileM.foot, List.mem_cons, Option.mem_toList]; exact .inr h1)
      · refine .inr ⟨fun e => ?_, fun e => ?_⟩
        · have := hlt k (by rw [hF]; exact List.mem_append.2 (.inl e)); omega
        · have := hlt k (by rw [hF]; exact List.mem_append.2 (.inr (List.mem_append.2 (.inr e)))); omega
  have hnd' : m'.foot.Nodup := by
    simp only [FileM.foot, List.nodup_cons, Option.mem_toList]
    refine ⟨fun e => ?_, by cases m'.sl.ownBlock <;> simp⟩
    rcases hown _ e with h1 | h1
    · rw [hb] at h1
      have : m.foot.Nodup := by
        have := hnd
        rw [List.nodup_append, List.nodup_append] at this
        exact this.2.1.1
      simp only [FileM.foot, List.nodup_cons, Option.mem_toList] at this
      exact this.1 h1
    · rw [hb] at h1; have := hlt _ hblk; omega
  have hsw := nodup_swap hnd hnd' hfresh
  have hsep : ∀ x, (x ∈ (d :: (mref.toList ++ pre.flatMap FileM.foot)) ∨ x ∈ post.flatMap FileM.foot) → x ∉ m.foot := by
    intro x hx e
    rw [List.nodup_append, List.nodup_append] at hnd
    rcases hx with hx | hx
    · exact hnd.2.2 x hx x (List.mem_append.2 (.inl e)) rfl
    · exact hnd.2.1.2.2 x e x hx rfl
  have hin0 : ∀ k ∈ (d :: (mref.toList ++ pre.flatMap FileM.foot)) ++ (m'.foot ++ post.flatMap FileM.foot), k ∈ F ∨ k ∈ m'.sl.ownBlock := by
    intro k hk
    rw [hF]
    simp only [List.mem_append] at hk ⊢
    rcases hk with hk | hk | hk
    · exact .inl (.inl hk)
    · simp only [FileM.foot, List.mem_cons, Option.mem_toList] at hk
      rcases hk with rfl | hk
      · exact .inl (.inr (.inl (by simp [FileM.foot, hb])))
      · exact .inr hk
    · exact .inl (.inr (.inr hk))
  have hin : ∀ k ∈ (d :: (mref.toList ++ pre.flatMap FileM.foot)) ++ (m'.foot ++ post.flatMap FileM.foot), k ∈ F ∨ w.heap.size ≤ k := by
    intro k hk
    rw [hF]
    simp only [List.mem_append] at hk ⊢
    rcases hk with hk | hk | hk
    · exact .inl (.inl hk)
    · simp only [FileM.foot, List.mem_cons, Option.mem_toList] at hk
      rcases hk with rfl | hk
      · exact .inl (.inr (.inl (by simp [FileM.foot, hb])))
      · rcases hown k hk with h1 | h1
        · exact .inl (.inr (.inl (by simp only [FileM.foot, List.mem_cons, Option.mem_toList]; exact .inr h1)))
        · exact .inr h1
    · exact .inl (.inr (.inr hk))
  refine ⟨_, { foot := ?_, nodup := hsw, low := ?_, self := ?_, map := ?_, each := ?_, files := ?_, good := hg }, hin0, hin⟩
  · simp [List.flatMap_append]
  · intro k hk
    rcases hin k hk with h1 | h1
    · exact hlo k h1
    · have := hlo _ hblk; have := hlt _ hblk; omega
  · rw [hroom, hlim, hleft]
    exact ht.heap h.self (hsep d (.inl (by simp)))
  · refine (h.map.kept ht (fun k hk => hsep k (.inl ?_))).congr ?_
    · simp only [List.mem_cons, List.mem_append, Option.mem_toList]; exact .inr (.inl hk)
    · simp [hn, hb]
  · intro x hx
    rcases List.mem_append.1 hx with hx | hx
    · exact (h.each x (by simp [hx])).kept ht (fun k hk => hsep k (.inl (by simp only [List.mem_cons, List.mem_append, List.mem_flatMap]; exact .inr (.inr ⟨x, hx, hk⟩))))
    · rcases List.mem_cons.1 hx with rfl | hx
      · exact hfa
      · exact (h.each x (by simp [hx])).kept ht (fun k hk => hsep k (.inr (List.mem_flatMap.2 ⟨x, hx, hk⟩)))
  · rw [hf]; simp

/-- The disk with one file told anew. -/
def DA.upd (A : DA) (nm : List UInt8) (g : FA → FA) : DA := { A with files := setF A.files nm g }
theorem upd_at {pre post : List FileM} {m : FileM} (h : Parts w base d F A mref (pre ++ m :: post)) (g : FA → FA) : (A.upd m.abs.name g).files = pre.map (·.abs) ++ g m.abs :: post.map (·.abs) := by
  have hn := h.good.names
  unfold DA.upd
  have hf := h.files
  simp only [List.map_append, List.map_cons] at hf
  rw [hf] at hn ⊢
  exact setF_at _ _ _ g hn
theorem Good.upd (h : Good A) {nm : List UInt8} {g : FA → FA} (hn : ∀ f ∈ A.files, (g f).name = f.name) (hs : ∀ f ∈ A.files, f.safe ≤ f.bytes.length → (g f).safe ≤ (g f).bytes.length) (hu : usedL (setF A.files nm g) ≤ A.room) : Good (A.upd nm g) where
  room := h.room
  used := hu
  count := by simp [DA.upd, setF_len]; exact h.count
  names := by
    have : (setF A.files nm g).map (·.name) = A.files.map (·.name) := by
      unfold setF; rw [List.map_map]
      apply List.map_congr_left
      intro f hf; simp only [Function.comp_def]; split
      · exact hn f hf
      · rfl
    show ((setF A.files nm g).map (·.name)).Nodup
    rw [this]; exact h.names
  short := by
    intro f hf
    obtain ⟨f', hf', rfl⟩ := List.mem_map.1 hf
    split
    · rw [hn f' hf']; exact h.short f' hf'
    · exact h.short f' hf'
  safe := by
    intro f hf
    obtain ⟨f', hf', rfl⟩ := List.mem_map.1 hf
    split
    · exact hs f' hf' (h.safe f' hf')
    · exact h.safe f' hf'
  left := h.left

def DA.sync (A : DA) (nm : List UInt8) : Int × DA :=
  if A.fails then (14, A)
  else if !A.has nm then (7, A.tick)
  else (0, A.tick.upd nm (fun f => { f with safe := f.bytes.length }))

theorem used_same {l : List FA} {nm : List UInt8} {g : FA → FA} (h : ∀ f ∈ l, (g f).bytes.length = f.bytes.length) : usedL (setF l nm g) = usedL l := by
  unfold usedL setF
  rw [List.map_map]
  congr 1
  apply List.map_congr_left
  intro f hf; simp only [Function.comp_def]; split
  · exact h f hf
  · rfl

set_option maxRecDepth 100000 in
set_option maxHeartbeats 1000000 in
theorem sync_any (h : Parts w base d F A mref ms) (s : ByteArray) (hs : s.size ≤ maxLen) :
    Calls Tryd.prog 14 #[.pointer (some ⟨d, 0, none⟩), .string s] w fun e w' => e = .returned (errR (A.sync s.data.toList).1) ∧ Did w w' base d F (A.sync s.data.toList).2 := by
  have H : Hid (Parts w base d F A mref ms) := h
  have hdF := h.mem_self
  have hhas := has_find h s.data.toList
  clear h
  cases hf : A.fails
  case true =>
    have HV : Hid (A.sync s.data.toList = (14, A)) := by show _ = _; simp [DA.sync, hf]
    have HF : Hid (A.fails = true) := hf
    clear hf hhas
    go_enter Tryd.func14, Tryd.ntmps14
    go_wp2_with (go_at_call 48; refine (operate_fails H.out HF.out _).mono ?_; rintro e w' ⟨rfl, rfl⟩; unfold errV)
    go_ret
    exact ⟨by rw [HV.out]; rfl, by rw [HV.out]; exact Did.none H.out⟩
  case false =>
    have HF : Hid (A.fails = false) := hf
    cases hm : findM ms s.data.toList with
    | none =>
      have HV : Hid (A.sync s.data.toList = (7, A.tick)) := by show _ = _; simp [DA.sync, hf, hhas, hm]
      have HM : Hid (findM ms s.data.toList = none) := hm
      clear hf hhas hm
      go_enter Tryd.func14, Tryd.ntmps14
      go_wp2_with (go_at_call 48; refine (operate_ok H.out HF.out _ hs _ HM.out).mono ?_; rintro e w1 ⟨rfl, hp, ht⟩; simp only [opRes]; unfold errV)
      go_ret
      exact ⟨by rw [HV.out]; rfl, by rw [HV.out]; exact Did.tick hp hdF ht⟩
    | some m =>
      have HV : Hid (A.sync s.data.toList = (0, A.tick.upd s.data.toList (fun f => { f with safe := f.bytes.length }))) := by show _ = _; simp [DA.sync, hf, hhas, hm]
      have HM : Hid (findM ms s.data.toList = some m) := hm
      clear hf hhas hm
      go_enter Tryd.func14, Tryd.ntmps14
      go_wp2_with fail
      refine (operate_ok H.out HF.out _ hs _ HM.out).mono ?_
      rintro e w1 ⟨rfl, hp, ht⟩
      simp only [opRes]
      have HP : Hid (Parts w1 base d F A.tick mref ms) := hp
      obtain ⟨pre, post, rfl, hnm⟩ := split_at HM.out
      have hfa := hp.each m (by simp)
      obtain ⟨sa, sc, hsl, hsl1, hsl2⟩ := hfa.2.form
      have cf : w1.cell? ⟨m.blk, 0, none⟩ = some (.slice sa m.abs.bytes.length sc) := by rw [cell_of hfa.1, hsl]; rfl
      have cg : w1.cell? ⟨m.blk, 1, none⟩ = some (.int .i64 m.abs.safe) := by rw [cell_of hfa.1]; rfl
      have ff : w1.frozen? ⟨m.blk, 1, none⟩ = false := frozen_of hfa.1 1
      have HFA : Hid (FileAt w1 base m) := hfa
      have HS : Hid (m.sl = .slice sa m.abs.bytes.length sc) := hsl
      have HNM : Hid (m.abs.name = s.data.toList) := hnm
      clear hp hfa hsl hnm
      go_wp2
      go_ret
      have ht2 : Turn m.foot w1 (w1.setCell ⟨m.blk, 1, none⟩ (.int .i64 m.abs.bytes.length)) := (Turn.refl _ _).setCell (by simp [FileM.foot]) _
      have hnew : FileAt (w1.setCell ⟨m.blk, 1, none⟩ (.int .i64 m.abs.bytes.length)) base ⟨{ m.abs with safe := m.abs.bytes.length }, m.blk, m.sl⟩ := by
        refine ⟨by rw [heap_set HFA.out.1]; simp, ?_⟩
        have hnd := HP.out.nodup
        rw [HP.out.foot] at hnd
        simp only [List.flatMap_append, List.flatMap_cons, List.nodup_cons, List.nodup_append, FileM.foot, List.mem_append, List.mem_cons] at hnd
        exact HFA.out.2.kept (S := [m.blk]) ((Turn.refl _ _).setCell (by simp) _) (by
          intro k hk e
          simp only [List.mem_singleton] at e
          subst e
          exact hnd.2.2.1.2.1.1.1 (by simpa using hk))
      have hgood : Good (A.tick.upd m.abs.name (fun f => { f with safe := f.bytes.length })) := HP.out.good.upd (fun _ _ => rfl) (fun _ _ _ => Nat.le_refl _) (by rw [used_same (g := fun f => { f with safe := f.bytes.length }) (fun _ _ => rfl)]; exact HP.out.good.used)
      obtain ⟨F', hP, _, hF'⟩ := HP.out.setFile (m' := ⟨{ m.abs with safe := m.abs.bytes.length }, m.blk, m.sl⟩) rfl rfl ht2 hnew (fun k hk => .inl hk) (A' := A.tick.upd m.abs.name (fun f => { f with safe := f.bytes.length })) rfl rfl rfl (upd_at HP.out _) hgood
      refine ⟨by rw [HV.out]; rfl, ?_⟩
      rw [HV.out, ← HNM.out]
      refine ⟨F', ⟨_, _, hP⟩, (ht.mono (by simpa using .inl hdF)).trans ht2 (fun k hk => .inl (HP.out.mem_file (m := m) (by simp) hk)), fun k hk => ?_⟩
      rcases hF' k hk with h1 | h1
      · exact .inl h1
      · have := ht.size; exact .inr (by omega)
end

end Go.Proofs.YtlcgcckllecjpaaDoor.Dk
