/- Remove, Rename: files that leave the map, and come back under another name. -/
import Derived.Test.YtlcgcckllecjpaaDoorRest
namespace Go.Proofs.YtlcgcckllecjpaaDoor.Dk
open Go.RowKit Go.Maps
set_option maxRecDepth 100000
set_option linter.unusedSimpArgs false
set_option linter.unusedVariables false

theorem sub_flat {l l' : List FileM} (h : l.Sublist l') : (l.flatMap FileM.foot).Sublist (l'.flatMap FileM.foot) := by
  induction h with
  | slnil => exact List.Sublist.refl _
  | cons a _ ih => rw [List.flatMap_cons]; exact ih.trans (List.sublist_append_right _ _)
  | cons_cons a _ ih => rw [List.flatMap_cons, List.flatMap_cons]; exact List.Sublist.append (List.Sublist.refl _) ih

section
variable {w w' : World} {base d : Nat} {F : List Nat} {A A' : DA} {mref : Option Nat} {ms ms' : List FileM} {mb : Nat}

/-- The map is told anew; each of its files lies where one lay. -/
theorem Parts.setMap (h : Parts w base d F A (some mb) ms) (ht : Turn [mb] w w') (hm : MapAt w' (some mb) ms')
    (hin : ∀ x ∈ ms', ∃ m ∈ ms, x.blk = m.blk ∧ x.sl = m.sl ∧ x.abs.bytes = m.abs.bytes ∧ x.abs.safe = m.abs.safe) (hnd : (ms'.flatMap FileM.foot).Nodup)
    (hroom : A'.room = A.room) (hlim : A'.limited = A.limited) (hleft : A'.left = A.left) (hf : A'.files = ms'.map (·.abs)) (hg : Good A') :
    Parts w' base d (d :: mb :: ms'.flatMap FileM.foot) A' (some mb) ms' ∧ ∀ k ∈ d :: mb :: ms'.flatMap FileM.foot, k ∈ F := by
  have hfoot := h.foot
  have hnd0 := h.nodup
  rw [hfoot] at hnd0
  simp only [Option.toList_some, List.cons_append, List.nil_append, List.nodup_cons, List.mem_cons, not_or] at hnd0
  have hsub : ∀ k ∈ ms'.flatMap FileM.foot, k ∈ ms.flatMap FileM.foot := by
    intro k hk
    obtain ⟨x, hx, hkx⟩ := List.mem_flatMap.1 hk
    obtain ⟨m, hm1, e1, e2, _⟩ := hin x hx
    exact List.mem_flatMap.2 ⟨m, hm1, by rw [FileM.foot, e1, e2] at hkx; exact hkx⟩
  have hall : ∀ k ∈ d :: mb :: ms'.flatMap FileM.foot, k ∈ F := by
    intro k hk
    rw [hfoot]
    simp only [List.mem_cons] at hk
    rcases hk with rfl | rfl | hk
    · simp
    · simp
    · have := hsub k hk
      simp only [List.mem_cons, List.mem_append]
      exact .inr (.inr this)
  refine ⟨{ foot := by simp, nodup := ?_, low := fun k hk => h.low k (hall k hk), self := ?_, map := hm, each := ?_, files := hf, good := hg }, hall⟩
  · simp only [List.nodup_cons, List.mem_cons, not_or]
    exact ⟨⟨hnd0.1.1, fun e => hnd0.1.2 (hsub _ e)⟩, fun e => hnd0.2.1 (hsub _ e), hnd⟩
  · rw [hroom, hlim, hleft]
    exact ht.heap h.self (by simp; exact hnd0.1.1)
  · intro x hx
    obtain ⟨m, hm1, e1, e2, e3, e4⟩ := hin x hx
    have hq := (h.each m hm1).kept ht (by
      intro k hk e
      simp only [List.mem_singleton] at e
      subst e
      exact hnd0.2.1 (List.mem_flatMap.2 ⟨m, hm1, hk⟩))
    unfold FileAt at hq ⊢
    rw [e1, e2, e3, e4]
    exact hq

theorem drop_split (pre post : List FileM) (m : FileM) (hn : ((pre ++ m :: post).map (·.abs.name)).Nodup) : dropM (pre ++ m :: post) m.abs.name = pre ++ post := by
  have h1 : ∀ x ∈ pre, (!(x.abs.name == m.abs.name)) = true := by
    intro x hx
    simp only [List.map_append, List.map_cons, List.nodup_append] at hn
    have := hn.2.2 x.abs.name (List.mem_map.2 ⟨x, hx, rfl⟩) m.abs.name (by simp)
    simpa using this
  have h2 : ∀ x ∈ post, (!(x.abs.name == m.abs.name)) = true := by
    intro x hx
    simp only [List.map_append, List.map_cons, List.nodup_append, List.nodup_cons] at hn
    have : x.abs.name ≠ m.abs.name := fun e => hn.2.1.1 (by rw [← e]; exact List.mem_map.2 ⟨x, hx, rfl⟩)
    simpa using this
  unfold dropM
  rw [List.filter_append, List.filter_cons]
  simp only [beq_self_eq_true, Bool.not_true, Bool.false_eq_true, if_false]
  rw [List.filter_eq_self.2 h1, List.filter_eq_self.2 h2]

/-- A list of files without one name. -/
def outF (l : List FA) (nm : List UInt8) : List FA := l.filter (fun f => !(f.name == nm))
theorem out_drop (ms : List FileM) (nm : List UInt8) : (dropM ms nm).map (·.abs) = outF (ms.map (·.abs)) nm := by
  unfold dropM outF
  rw [List.filter_map]; rfl
theorem used_sub {l l' : List FA} (h : l.Sublist l') : usedL l ≤ usedL l' := by
  unfold usedL
  induction h with
  | slnil => exact Nat.le_refl _
  | cons a _ ih => simp only [List.map_cons, List.sum_cons]; omega
  | cons_cons a _ ih => simp only [List.map_cons, List.sum_cons]; omega
theorem Good.sub (h : Good A) {l : List FA} (hs : l.Sublist A.files) : Good { A with files := l } where
  room := h.room
  used := Nat.le_trans (used_sub hs) h.used
  count := Nat.le_trans hs.length_le h.count
  names := (hs.map _).nodup h.names
  short := fun f hf => h.short f (hs.subset hf)
  safe := fun f hf => h.safe f (hs.subset hf)
  left := h.left

def DA.remove (A : DA) (nm : List UInt8) : Int × DA :=
  if A.fails then (14, A)
  else if !A.has nm then (7, A.tick)
  else (0, { A.tick with files := outF A.files nm })
set_option maxHeartbeats 1000000 in
theorem remove_any (h : Parts w base d F A mref ms) (s : ByteArray) (hs : s.size ≤ maxLen) :
    Calls Tryd.prog 16 #[.pointer (some ⟨d, 0, none⟩), .string s] w fun e w' => e = .returned (errR (A.remove s.data.toList).1) ∧ Did w w' base d F (A.remove s.data.toList).2 := by
  have H : Hid (Parts w base d F A mref ms) := h
  have hdF := h.mem_self
  have hhas := has_find h s.data.toList
  clear h
  cases hf : A.fails
  case true =>
    have HV : Hid (A.remove s.data.toList = (14, A)) := by show _ = _; simp [DA.remove, hf]
    have HF : Hid (A.fails = true) := hf
    clear hf hhas
    go_enter Tryd.func16, Tryd.ntmps16
    go_wp2_with (go_at_call 48; refine (operate_fails H.out HF.out _).mono ?_; rintro e w' ⟨rfl, rfl⟩; unfold errV)
    go_ret
    exact ⟨by rw [HV.out]; rfl, by rw [HV.out]; exact Did.none H.out⟩
  case false =>
    have HF : Hid (A.fails = false) := hf
    cases hm : findM ms s.data.toList with
    | none =>
      have HV : Hid (A.remove s.data.toList = (7, A.tick)) := by show _ = _; simp [DA.remove, hf, hhas, hm]
      have HM : Hid (findM ms s.data.toList = none) := hm
      clear hf hhas hm
      go_enter Tryd.func16, Tryd.ntmps16
      go_wp2_with (go_at_call 48; refine (operate_ok H.out HF.out _ hs _ HM.out).mono ?_; rintro e w1 ⟨rfl, hp, ht⟩; simp only [opRes]; unfold errV)
      go_ret
      exact ⟨by rw [HV.out]; rfl, by rw [HV.out]; exact Did.tick hp hdF ht⟩
    | some m =>
      have HV : Hid (A.remove s.data.toList = (0, { A.tick with files := outF A.files s.data.toList })) := by show _ = _; simp [DA.remove, hf, hhas, hm]
      have HM : Hid (findM ms s.data.toList = some m) := hm
      have HN : Hid ((ms.map (·.abs.name)).Nodup) := H.out.names
      clear hf hhas
      cases mref with
      | none =>
        have hms : ms = [] := H.out.map
        subst hms
        simp [findM] at hm
      | some mb =>
        clear hm
        go_enter Tryd.func16, Tryd.ntmps16
        go_wp2_with fail
        refine (operate_ok H.out HF.out _ hs _ HM.out).mono ?_
        rintro e w1 ⟨rfl, hp, ht⟩
        simp only [opRes]
        have c1 := hp.c1
        have HP : Hid (Parts w1 base d F A.tick (some mb) ms) := hp
        clear hp
        obtain ⟨D, hown, hrd⟩ := HP.out.map
        have HR : Hid (Reads D ms) := hrd
        clear hrd
        go_wp2_with (at_delete; refine wpList_delete_own _ rfl _ _ 75 9 rfl 82 law Tryd.underlying75 ptrR mb ms.length D rfl hown _ _ rfl (keyS hs) ?_; intro w2 hown2 hgr2)
        go_ret
        have ht2 : Turn [mb] w1 w2 := (Turn.refl [mb] w1).grown hgr2.grown (by intro k hk; cases hk; simp)
        have hrd2 := HR.out.del HN.out (hown.tidy law) s.data.toList
        have hmap2 : MapAt w2 (some mb) (dropM ms s.data.toList) := ⟨_, by have := ownsMap_tight hown2; rw [hrd2.1] at this; exact this, hrd2⟩
        have hsub : (dropM ms s.data.toList).Sublist ms := List.filter_sublist
        have hfl : A.tick.files = ms.map (·.abs) := HP.out.files
        have hnd0 : (ms.flatMap FileM.foot).Nodup := by
          have := HP.out.nodup
          rw [HP.out.foot, List.nodup_cons, List.nodup_append] at this
          exact this.2.2.1
        have hP := HP.out.setMap (A' := { A.tick with files := outF A.files s.data.toList }) ht2 hmap2 (fun x hx => ⟨x, hsub.subset hx, rfl, rfl, rfl, rfl⟩) ((sub_flat hsub).nodup hnd0) rfl rfl rfl
          (by rw [out_drop, ← hfl, tick_files]) (by have := HP.out.good.sub (l := outF A.files s.data.toList) (by rw [tick_files]; exact List.filter_sublist); exact this)
        refine ⟨by rw [HV.out]; rfl, ?_⟩
        rw [HV.out]
        exact ⟨_, ⟨_, _, hP.1⟩, (ht.mono (by simpa using .inl hdF)).trans ht2 (by simpa using .inl (HP.out.mem_map rfl)), fun k hk => .inl (hP.2 k hk)⟩

def DA.rename (A : DA) (nm : List UInt8) (to : ByteArray) : Int × DA :=
  if A.fails then (14, A)
  else match A.file nm with
    | none => (7, A.tick)
    | some f => if !nameB to then (5, A.tick) else (0, { A.tick with files := outF (outF A.files nm) to.data.toList ++ [{ f with name := to.data.toList }] })
theorem nodup_move {X o Y Z : List Nat} (h : (X ++ (o ++ Y)).Nodup) (hz : Z.Sublist (X ++ Y)) : (Z ++ o).Nodup := by
  have h1 : ((X ++ Y) ++ o).Nodup := by
    refine (List.Perm.nodup_iff ?_).1 h
    rw [List.append_assoc]
    exact List.Perm.append_left X List.perm_append_comm
  rw [List.nodup_append] at h1 ⊢
  exact ⟨hz.nodup h1.1, h1.2.1, fun a ha b hb => h1.2.2 a (hz.subset ha) b hb⟩
set_option maxHeartbeats 1000000 in
theorem rename_any (h : Parts w base d F A mref ms) (s : ByteArray) (hs : s.size ≤ maxLen) (s2 : ByteArray) (hs2 : s2.size ≤ maxLen) :
    Calls Tryd.prog 15 #[.pointer (some ⟨d, 0, none⟩), .string s, .string s2] w fun e w' => e = .returned (errR (A.rename s.data.toList s2).1) ∧ Did w w' base d F (A.rename s.data.toList s2).2 := by
  have H : Hid (Parts w base d F A mref ms) := h
  have hdF := h.mem_self
  have hff := file_find h s.data.toList
  clear h
  cases hf : A.fails
  case true =>
    have HV : Hid (A.rename s.data.toList s2 = (14, A)) := by show _ = _; simp [DA.rename, hf]
    have HF : Hid (A.fails = true) := hf
    clear hf hff
    go_enter Tryd.func15, Tryd.ntmps15
    go_wp2_with (go_at_call 48; refine (operate_fails H.out HF.out _).mono ?_; rintro e w' ⟨rfl, rfl⟩; unfold errV)
    go_ret
    exact ⟨by rw [HV.out]; rfl, by rw [HV.out]; exact Did.none H.out⟩
  case false =>
    have HF : Hid (A.fails = false) := hf
    cases hm : findM ms s.data.toList with
    | none =>
      have HV : Hid (A.rename s.data.toList s2 = (7, A.tick)) := by show _ = _; simp [DA.rename, hf, hff, hm]
      have HM : Hid (findM ms s.data.toList = none) := hm
      clear hf hff hm
      go_enter Tryd.func15, Tryd.ntmps15
      go_wp2_with (go_at_call 48; refine (operate_ok H.out HF.out _ hs _ HM.out).mono ?_; rintro e w1 ⟨rfl, hp, ht⟩; simp only [opRes]; unfold errV)
      go_ret
      exact ⟨by rw [HV.out]; rfl, by rw [HV.out]; exact Did.tick hp hdF ht⟩
    | some m =>
      have HM : Hid (findM ms s.data.toList = some m) := hm
      cases hb : nameB s2
      case false =>
        have HV : Hid (A.rename s.data.toList s2 = (5, A.tick)) := by show _ = _; simp [DA.rename, hf, hff, hm, hb]
        clear hf hff hm
        go_enter Tryd.func15, Tryd.ntmps15
        go_wp2_with fail
        refine (operate_ok H.out HF.out _ hs _ HM.out).mono ?_
        rintro e w1 ⟨rfl, hp, ht⟩
        simp only [opRes]
        go_wp2_with (go_at_call 47; refine (name_loop _ _ hs2).mono ?_; rintro e w' ⟨rfl, rfl⟩)
        go_ret
        exact ⟨by rw [HV.out]; rfl, by rw [HV.out]; exact Did.tick hp hdF ht⟩
      case true =>
        have HV : Hid (A.rename s.data.toList s2 = (0, { A.tick with files := outF (outF A.files s.data.toList) s2.data.toList ++ [{ m.abs with name := s2.data.toList }] })) := by show _ = _; simp [DA.rename, hf, hff, hm, hb]
        have HN : Hid ((ms.map (·.abs.name)).Nodup) := H.out.names
        clear hf hff
        cases mref with
        | none =>
          have hms : ms = [] := H.out.map
          subst hms
          simp [findM] at hm
        | some mb =>
          clear hm
          go_enter Tryd.func15, Tryd.ntmps15
          go_wp2_with fail
          refine (operate_ok H.out HF.out _ hs _ HM.out).mono ?_
          rintro e w1 ⟨rfl, hp, ht⟩
          simp only [opRes]
          have c1 := hp.c1
          have HP : Hid (Parts w1 base d F A.tick (some mb) ms) := hp
          have hnd := hp.nodup
          rw [hp.foot] at hnd
          have hdm : d ∉ [mb] := by
            simp only [Option.toList_some, List.cons_append, List.nil_append, List.nodup_cons, List.mem_cons, not_or] at hnd
            simp only [List.mem_singleton]; exact hnd.1.1
          have HD : Hid (d ∉ [mb]) := hdm
          clear hp hnd hdm
          obtain ⟨D, hown, hrd⟩ := HP.out.map
          have HR : Hid (Reads D ms) := hrd
          have hsm := HP.out.good.count
          rw [HP.out.files, List.length_map] at hsm
          clear hrd
          go_wp2_with (first | (go_at_call 47; refine (name_loop _ _ hs2).mono ?_; rintro e w' ⟨rfl, rfl⟩) | (at_delete; refine wpList_delete_own _ rfl _ _ 75 9 rfl 82 law Tryd.underlying75 ptrR mb ms.length D rfl hown _ _ rfl (keyS hs) ?_; intro w2 hown2 hgr2; have c12 := cell_of ((Turn.grown (Turn.refl [mb] _) hgr2.grown (by intro k hk; cases hk; simp)).heap HP.out.self HD.out) 1; simp only [List.getElem?_toArray, List.getElem?_cons_succ, List.getElem?_cons_zero] at c12))
          obtain ⟨w3, hrun, ho3, hgr3⟩ := hown2.store law Tryd.underlying75 (by simp only [maxLen]; omega) (keyS hs2) (val := .pointer (some ⟨m.blk, 0, .none⟩)) (d := .lit (.int .i64 (m.blk : Int))) (ps := []) rfl
          rw [hrun]
          simp only [Result.andThen]
          rw [Oper.upon_skip]
          go_wp2
          go_ret
          have ht2 := (Turn.refl [mb] _).grown hgr2.grown (by intro k hk; cases hk; simp)
          have ht3 := (Turn.refl [mb] w2).grown hgr3.grown (by intro k hk; cases hk; simp)
          have ht23 := ht2.same ht3
          have hrd2 := HR.out.del HN.out (hown.tidy law) s.data.toList
          obtain ⟨pre, post, rfl, hnm⟩ := split_at HM.out
          have hds : dropM (pre ++ m :: post) s.data.toList = pre ++ post := by rw [← hnm]; exact drop_split pre post m HN.out
          rw [hds] at hrd2
          have hnpp : ((pre ++ post).map (·.abs.name)).Nodup := by
            refine (List.Sublist.map _ ?_).nodup HN.out
            exact List.Sublist.append (List.Sublist.refl _) (List.sublist_cons_self _ _)
          have hrd3 := hrd2.put hnpp (hown2.tidy law) ⟨{ m.abs with name := s2.data.toList }, m.blk, m.sl⟩
          obtain ⟨Z, hZ⟩ : ∃ Z, Z = dropM (pre ++ post) s2.data.toList := ⟨_, rfl⟩
          simp only at hrd3
          rw [← hZ] at hrd3
          have hZs : Z.Sublist (pre ++ post) := by rw [hZ]; exact List.filter_sublist
          have hmap3 : MapAt w3 (some mb) (Z ++ [⟨{ m.abs with name := s2.data.toList }, m.blk, m.sl⟩]) := ⟨_, by have := ownsMap_tight ho3; rw [hrd3.1] at this; exact this, hrd3⟩
          have hfl : A.tick.files = (pre ++ m :: post).map (·.abs) := HP.out.files
          have hflat : (Z ++ [(⟨{ m.abs with name := s2.data.toList }, m.blk, m.sl⟩ : FileM)]).flatMap FileM.foot = Z.flatMap FileM.foot ++ m.foot := by
            rw [List.flatMap_append]; simp [FileM.foot]
          have hnd0 : ((Z ++ [(⟨{ m.abs with name := s2.data.toList }, m.blk, m.sl⟩ : FileM)]).flatMap FileM.foot).Nodup := by
            rw [hflat]
            have := HP.out.nodup
            rw [HP.out.foot, List.nodup_cons, List.nodup_append] at this
            have h1 := this.2.2.1
            rw [List.flatMap_append, List.flatMap_cons] at h1
            refine nodup_move h1 ?_
            rw [← List.flatMap_append]
            exact sub_flat hZs
          have hout : outF (outF A.files s.data.toList) s2.data.toList = Z.map (·.abs) := by
            rw [hZ, out_drop, ← hds, out_drop, ← hfl, tick_files]
          have hA' : (outF (outF A.files s.data.toList) s2.data.toList ++ [{ m.abs with name := s2.data.toList }]) = (Z ++ [(⟨{ m.abs with name := s2.data.toList }, m.blk, m.sl⟩ : FileM)]).map (·.abs) := by rw [hout]; simp
          have hZall : ∀ x ∈ Z, x ∈ pre ++ m :: post := fun x hx => by
            have := hZs.subset hx
            simp only [List.mem_append, List.mem_cons] at this ⊢
            rcases this with h | h
            · exact .inl h
            · exact .inr (.inr h)
          have hg := HP.out.good
          have hsz : s2.size ≤ 40 := by
            simp only [nameB, Bool.and_eq_true, decide_eq_true_eq] at hb
            exact hb.2.2
          have hgood : Good { A.tick with files := outF (outF A.files s.data.toList) s2.data.toList ++ [{ m.abs with name := s2.data.toList }] } := by
            refine { room := hg.room, used := ?_, count := ?_, names := ?_, short := ?_, safe := ?_, left := hg.left }
            · have h1 := hg.used
              rw [hfl, List.map_append, List.map_cons, usedL_split] at h1
              have h2 := used_sub (List.Sublist.map (fun x : FileM => x.abs) hZs)
              rw [List.map_append] at h2
              rw [hout, usedL_split]
              have h3 : usedL (pre.map (fun x : FileM => x.abs) ++ post.map (fun x : FileM => x.abs)) = usedL (pre.map (fun x : FileM => x.abs)) + usedL (post.map (fun x : FileM => x.abs)) := by simp [usedL, List.sum_append]
              have h4 : usedL ([] : List FA) = 0 := rfl
              show usedL (Z.map (fun x : FileM => x.abs)) + m.abs.bytes.length + usedL [] ≤ A.tick.room
              omega
            · have h1 := hg.count
              rw [hfl] at h1
              have h2 := hZs.length_le
              rw [hout]
              simp only [List.length_append, List.length_map, List.length_cons, List.length_nil] at h1 h2 ⊢
              omega
            · rw [hout, List.map_append, List.map_cons, List.map_nil, List.nodup_append]
              refine ⟨?_, by simp, ?_⟩
              · rw [List.map_map]
                exact (List.Sublist.map _ hZs).nodup hnpp
              · intro a ha b hb e
                simp only [List.mem_singleton] at hb
                rw [hb] at e
                rw [List.map_map] at ha
                obtain ⟨x, hx, e2⟩ := List.mem_map.1 ha
                rw [hZ] at hx
                have := (List.mem_filter.1 hx).2
                simp only [Function.comp_def] at e2
                rw [e2, e] at this
                simp at this
            · intro f hf
              rw [hA'] at hf
              obtain ⟨x, hx, rfl⟩ := List.mem_map.1 hf
              rcases List.mem_append.1 hx with hx | hx
              · exact hg.short _ (by rw [hfl]; exact List.mem_map.2 ⟨x, hZall x hx, rfl⟩)
              · simp only [List.mem_singleton] at hx
                subst hx
                simpa using hsz
            · intro f hf
              rw [hA'] at hf
              obtain ⟨x, hx, rfl⟩ := List.mem_map.1 hf
              rcases List.mem_append.1 hx with hx | hx
              · exact hg.safe _ (by rw [hfl]; exact List.mem_map.2 ⟨x, hZall x hx, rfl⟩)
              · simp only [List.mem_singleton] at hx
                subst hx
                exact hg.safe m.abs (by rw [hfl]; simp)
          have hP := HP.out.setMap (ms' := Z ++ [⟨{ m.abs with name := s2.data.toList }, m.blk, m.sl⟩]) (A' := { A.tick with files := outF (outF A.files s.data.toList) s2.data.toList ++ [{ m.abs with name := s2.data.toList }] }) ht23 hmap3
            (fun x hx => by
              rcases List.mem_append.1 hx with hx | hx
              · exact ⟨x, hZall x hx, rfl, rfl, rfl, rfl⟩
              · simp only [List.mem_singleton] at hx
                subst hx
                exact ⟨m, by simp, rfl, rfl, rfl, rfl⟩) hnd0 rfl rfl rfl hA' hgood
          refine ⟨by rw [HV.out]; rfl, ?_⟩
          rw [HV.out]
          exact ⟨_, ⟨_, _, hP.1⟩, (ht.mono (by simpa using .inl hdF)).trans ht23 (by simpa using .inl (HP.out.mem_map rfl)), fun k hk => .inl (hP.2 k hk)⟩
end

end Go.Proofs.YtlcgcckllecjpaaDoor.Dk
