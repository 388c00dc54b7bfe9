/- New, Make, Sync, Add: what they do with the disk. -/
import Derived.Test.YtlcgcckllecjpaaDoorUsed
import Derived.Test.YtlcgcckllecjpaaDoorNm
namespace Go.Proofs.YtlcgcckllecjpaaDoor.Dk
open Go.RowKit Go.Maps
set_option linter.unusedSimpArgs false

/-- An error: none for 0. -/
def errR (n : Int) : Value := if n = 0 then .nilIface else errV n

theorem new_bad (r : Int) (h : r < 0 ∨ 1048576 < r) (w : World) :
    Calls Tryd.prog 9 #[.int .i64 r] w fun e w' => e = .returned (.tuple #[.pointer none, errV 2]) ∧ w = w' := by
  by_cases h1 : r < 0
  · go_enter Tryd.func9, Tryd.ntmps9
    go_wp2
    go_ret2
    exact ⟨rfl, rfl⟩
  · have h2 : 1048576 < r := by omega
    go_enter Tryd.func9, Tryd.ntmps9
    go_wp2
    go_ret2
    exact ⟨rfl, rfl⟩

def DA.empty (r : Nat) : DA := ⟨r, [], false, 0⟩
theorem new_ok (r : Nat) (h : r ≤ 1048576) (w : World) (base : Nat) (hb : base ≤ w.heap.size) :
    Calls Tryd.prog 9 #[.int .i64 r] w fun e w' => e = .returned (.tuple #[.pointer (some ⟨w.heap.size, 0, none⟩), .nilIface]) ∧ DiskAt w' base w.heap.size [w.heap.size] (DA.empty r) ∧ Turn [] w w' := by
  go_enter Tryd.func9, Tryd.ntmps9
  go_wp2
  go_ret2
  refine ⟨rfl, ⟨none, [], ?_⟩, (Turn.refl _ _).alloc _⟩
  exact { foot := rfl, nodup := by simp, low := by simpa using hb, self := heap_new w _, map := rfl, each := by simp, files := rfl
          good := { room := h, used := by simp [usedL, DA.empty], count := by simp [DA.empty], names := by simp [DA.empty], short := by simp [DA.empty], safe := by simp [DA.empty], left := by simp [DA.empty] } }

/-- What an operation has come to. -/
def Did (w w' : World) (base d : Nat) (F : List Nat) (A' : DA) : Prop := ∃ F', DiskAt w' base d F' A' ∧ Turn F w w' ∧ ∀ k ∈ F', k ∈ F ∨ w.heap.size ≤ k
section
variable {w w' : World} {base d : Nat} {F : List Nat} {A A' : DA} {mref : Option Nat} {ms : List FileM}
theorem Did.same (h : Parts w' base d F A' mref ms) (ht : Turn F w w') : Did w w' base d F A' := ⟨F, ⟨_, _, h⟩, ht, fun _ hk => .inl hk⟩
theorem Did.tick (h : Parts w' base d F A' mref ms) (hd : d ∈ F) (ht : Turn [d] w w') : Did w w' base d F A' := Did.same h (ht.mono (by simpa using .inl hd))
theorem Did.none (h : Parts w base d F A mref ms) : Did w w base d F A := Did.same h (Turn.refl _ _)

def DA.has (A : DA) (nm : List UInt8) : Bool := (A.files.find? (fun f => f.name == nm)).isSome
def DA.make (A : DA) (s : ByteArray) : Int × DA :=
  if A.fails then (14, A)
  else if !nameB s then (5, A.tick)
  else if A.has s.data.toList then (9, A.tick)
  else if 200 ≤ A.files.length then (4, A.tick)
  else (0, { A.tick with files := A.files ++ [⟨s.data.toList, [], 0⟩] })
theorem has_find (h : Parts w base d F A mref ms) (nm : List UInt8) : A.has nm = (findM ms nm).isSome := by
  unfold DA.has findM
  rw [h.files, List.find?_map]
  simp [Function.comp_def]

/-- A new file, empty, in a new block. -/
theorem Parts.addFile (h : Parts w base d F A mref ms) {mb : Nat} {D : DataW Unit} {s : ByteArray} {F' : List Nat} {A' : DA} {k : Nat} (hk : k ∉ F) (hkb : base ≤ k)
    (ht : Turn (d :: mref.toList) w w') (hs : w'.heap[d]? = some (.cells #[.int .i64 A'.room, .map (some mb), .bool A'.limited, .int .i64 A'.left] 77 (0, 0)))
    (hmb : mref = some mb ∨ (mref = none ∧ mb ∉ F ∧ base ≤ mb ∧ mb ≠ k)) (hown : w'.ownsMap Tryd.prog 9 ptrR mb (ms.length + 1) D) (hrd : Reads D (ms ++ [⟨⟨s.data.toList, [], 0⟩, k, .slice none 0 0⟩]))
    (hnew : w'.heap[k]? = some (.cells #[.slice none 0 0, .int .i64 0] 84 (0, 0))) (hf : A'.files = A.files ++ [⟨s.data.toList, [], 0⟩]) (hg : Good A')
    (hF : F' = d :: (mb :: (ms.flatMap FileM.foot ++ [k]))) :
    Parts w' base d F' A' (some mb) (ms ++ [⟨⟨s.data.toList, [], 0⟩, k, .slice none 0 0⟩]) := by
  have hnd := h.nodup
  have hlo := h.low
  have hfoot := h.foot
  rw [hfoot] at hnd hlo hk hmb
  simp only [List.mem_cons, List.mem_append, not_or] at hk
  have hsep : ∀ x ∈ ms.flatMap FileM.foot, x ∉ d :: mref.toList := by
    intro x hx e
    rw [List.nodup_cons, List.nodup_append] at hnd
    rcases List.mem_cons.1 e with rfl | e
    · exact hnd.1 (List.mem_append.2 (.inr hx))
    · exact hnd.2.2.2 x e x hx rfl
  refine { foot := ?_, nodup := ?_, low := ?_, self := hs, map := ⟨D, by simpa using hown, hrd⟩, each := ?_, files := ?_, good := hg }
  · rw [hF]; simp [FileM.foot, Value.ownBlock, List.flatMap_append]
  · rw [hF]
    rw [List.nodup_cons, List.nodup_append] at hnd
    have hmb' : d ≠ mb ∧ mb ∉ ms.flatMap FileM.foot ∧ mb ≠ k := by
      rcases hmb with rfl | ⟨rfl, h1, _, h3⟩
      · simp at hnd hk
        refine ⟨hnd.1.1, fun e => ?_, fun e => hk.2.1 e.symm⟩
        exact hsep mb e (by simp)
      · simp at h1
        exact ⟨fun e => h1.1 e.symm, by simpa using h1.2, h3⟩
    simp only [List.nodup_cons, List.mem_cons, List.mem_append, List.nodup_append, List.not_mem_nil, or_false, not_or, not_false_eq_true, true_and, List.nodup_nil, and_true]
    refine ⟨⟨hmb'.1, fun e => hnd.1 (List.mem_append.2 (.inr e)), fun e => hk.1 e.symm⟩, ⟨hmb'.2.1, hmb'.2.2⟩, hnd.2.2.1, ?_⟩
    intro x hx y hy e
    subst hy; subst e
    exact hk.2.2 hx
  · rw [hF]
    intro x hx
    simp only [List.mem_cons, List.mem_append, List.mem_singleton, List.not_mem_nil, or_false] at hx
    rcases hx with rfl | rfl | hx | rfl
    · exact hlo _ (by simp)
    · rcases hmb with rfl | ⟨rfl, _, h2, _⟩
      · exact hlo _ (by simp)
      · exact h2
    · exact hlo _ (List.mem_cons.2 (.inr (List.mem_append.2 (.inr hx))))
    · exact hkb
  · intro m hm
    rcases List.mem_append.1 hm with hm | hm
    · exact (h.each m hm).kept ht (fun x hx => hsep x (List.mem_flatMap.2 ⟨m, hm, hx⟩))
    · simp only [List.mem_singleton] at hm
      subst hm
      exact ⟨hnew, .inl ⟨rfl, rfl⟩⟩
  · rw [hf, h.files]; simp
theorem Good.addFile (h : Good A) {s : ByteArray} (hn : nameB s = true) (hh : A.has s.data.toList = false) (hc : A.files.length < 200) : Good { A with files := A.files ++ [⟨s.data.toList, [], 0⟩] } where
  room := h.room
  used := by have := h.used; simpa [usedL] using this
  count := by simp; omega
  names := by
    simp only [List.map_append, List.map_cons, List.map_nil]
    rw [List.nodup_append]
    refine ⟨h.names, by simp, ?_⟩
    intro a ha b hb e
    simp only [List.mem_singleton] at hb
    subst hb; subst e
    obtain ⟨f, hf, he⟩ := List.mem_map.1 ha
    unfold DA.has at hh
    rw [Option.isSome_eq_false_iff, Option.isNone_iff_eq_none, List.find?_eq_none] at hh
    exact hh f hf (by simpa using he)
  short := by
    intro f hf
    rcases List.mem_append.1 hf with hf | hf
    · exact h.short f hf
    · simp only [List.mem_singleton] at hf
      subst hf
      simp only [nameB, Bool.and_eq_true, decide_eq_true_eq] at hn
      simpa using hn.2.2
  safe := by
    intro f hf
    rcases List.mem_append.1 hf with hf | hf
    · exact h.safe f hf
    · simp only [List.mem_singleton] at hf; subst hf; simp
  left := h.left

theorem run_eql_map_nil' (w : World) (x : Option Nat) : (binOp .eql 75 (.map x) (.map none)).run Tryd.prog w = .ok (.bool x.isNone) w := by
  exact Go.run_eql_map_nil w _ _ _ x Tryd.underlying75

set_option maxRecDepth 100000 in
set_option maxHeartbeats 1000000 in
theorem make_any (h : Parts w base d F A mref ms) (s : ByteArray) (hs : s.size ≤ maxLen) :
    Calls Tryd.prog 11 #[.pointer (some ⟨d, 0, none⟩), .string s] w fun e w' => e = .returned (errR (A.make s).1) ∧ Did w w' base d F (A.make s).2 := by
  have H : Hid (Parts w base d F A mref ms) := h
  have hdF := h.mem_self
  have hhas := has_find h s.data.toList
  have hlen : A.files.length = ms.length := by rw [h.files]; simp
  clear h
  cases hf : A.fails
  case true =>
    have HV : Hid (A.make s = (14, A)) := by show A.make s = (14, A); simp [DA.make, hf]
    have HF : Hid (A.fails = true) := hf
    clear hf hhas hlen
    go_enter Tryd.func11, Tryd.ntmps11
    go_wp2_with (go_at_call 46; refine (count_fails H.out HF.out).mono ?_; rintro e w' ⟨rfl, rfl⟩; unfold errV)
    go_ret
    exact ⟨by rw [HV.out]; rfl, by rw [HV.out]; exact Did.none H.out⟩
  case false =>
    have HF : Hid (A.fails = false) := hf
    cases hn : nameB s
    case false =>
      have HV : Hid (A.make s = (5, A.tick)) := by show A.make s = _; simp [DA.make, hf, hn]
      clear hf hhas hlen
      go_enter Tryd.func11, Tryd.ntmps11
      go_wp2_with (first | (go_at_call 46; refine (count_ok H.out HF.out).mono ?_; rintro e w1 ⟨rfl, hp, ht⟩) | (go_at_call 47; refine (name_loop _ _ hs).mono ?_; rintro e w' ⟨rfl, rfl⟩))
      go_ret
      exact ⟨by rw [HV.out]; rfl, by rw [HV.out]; exact Did.tick hp hdF ht⟩
    case true =>
      have hlk := fun (w1 : World) (hp : Parts w1 base d F A.tick mref ms) => hp.map.look hs
      have hln := fun (w1 : World) (hp : Parts w1 base d F A.tick mref ms) ty => hp.map.len ty
      cases hm : findM ms s.data.toList with
      | some m =>
        have HV : Hid (A.make s = (9, A.tick)) := by show A.make s = _; simp [DA.make, hf, hn, hhas, hm]
        have HM : Hid (findM ms s.data.toList = some m) := hm
        clear hf hhas hlen hm
        go_enter Tryd.func11, Tryd.ntmps11
        go_wp2_with fail
        refine (count_ok H.out HF.out).mono ?_
        rintro e w1 ⟨rfl, hp, ht⟩
        have c1 := hp.c1
        have hlook := hlk w1 hp
        rw [HM.out] at hlook
        simp only [ptrOf] at hlook
        have HP : Hid (Parts w1 base d F A.tick mref ms) := hp
        clear hp hlk hln
        go_wp2_with (first | (go_at_call 47; refine (name_loop _ _ hs).mono ?_; rintro e w' ⟨rfl, rfl⟩))
        go_ret
        exact ⟨by rw [HV.out]; rfl, by rw [HV.out]; exact Did.tick HP.out hdF ht⟩
      | none =>
        have HM : Hid (findM ms s.data.toList = none) := hm
        have hq := run_eql_map_nil'
        by_cases hc : 200 ≤ A.files.length
        · have HV : Hid (A.make s = (4, A.tick)) := by show A.make s = _; simp [DA.make, hf, hn, hhas, hm, hc]
          rw [hlen] at hc
          clear hf hhas hlen hm
          go_enter Tryd.func11, Tryd.ntmps11
          go_wp2_with fail
          refine (count_ok H.out HF.out).mono ?_
          rintro e w1 ⟨rfl, hp, ht⟩
          have c1 := hp.c1
          have hlook := hlk w1 hp
          have hl := hln w1 hp
          rw [HM.out] at hlook
          simp only [ptrOf] at hlook
          have HP : Hid (Parts w1 base d F A.tick mref ms) := hp
          clear hp hlk hln
          go_wp2_with (first | (go_at_call 47; refine (name_loop _ _ hs).mono ?_; rintro e w' ⟨rfl, rfl⟩))
          go_ret
          exact ⟨by rw [HV.out]; rfl, by rw [HV.out]; exact Did.tick HP.out hdF ht⟩
        · have HV : Hid (A.make s = (0, { A.tick with files := A.files ++ [⟨s.data.toList, [], 0⟩] })) := by show A.make s = _; simp [DA.make, hf, hn, hhas, hm, hc]
          have hg := H.out.good.tick hf
          have hgA : Good { A.tick with files := A.tick.files ++ [⟨s.data.toList, [], 0⟩] } := hg.addFile hn (by rw [DA.has, tick_files]; rw [DA.has, hm] at hhas; exact hhas) (by rw [tick_files]; omega)
          have HG : Hid (Good { A.tick with files := A.tick.files ++ [⟨s.data.toList, [], 0⟩] }) := hgA
          rw [hlen] at hc
          have hcl : ¬ (200 : Int) ≤ (ms.length : Int) := by omega
          have hnam := H.out.names
          have HN : Hid ((ms.map (·.abs.name)).Nodup) := hnam
          have hdrop : dropM ms s.data.toList = ms := by
            unfold dropM; rw [List.filter_eq_self]; intro x hx
            have := (List.find?_eq_none.1 hm) x hx
            simpa using this
          have HD : Hid (dropM ms s.data.toList = ms) := hdrop
          clear hf hhas hlen hm hg hgA hc hnam hdrop
          cases mref with
          | none =>
            go_enter Tryd.func11, Tryd.ntmps11
            go_wp2_with fail
            refine (count_ok H.out HF.out).mono ?_
            rintro e w1 ⟨rfl, hp, ht⟩
            have c1 := hp.c1
            have f1 := hp.fr 1
            have hlook := hlk w1 hp
            have hl := hln w1 hp
            rw [HM.out] at hlook
            simp only [ptrOf] at hlook
            have HP : Hid (Parts w1 base d F A.tick .none ms) := hp
            have hdlt := hp.lt d hdF
            have hmm := @run_makeMap Tryd.prog
            clear hp hlk hln
            go_wp2_with (first | (go_at_call 47; refine (name_loop _ _ hs).mono ?_; rintro e w' ⟨rfl, rfl⟩))
            have hms : ms = [] := HP.out.map
            subst hms
            have ho0 := World.ownsMap_made (w'.setCell ⟨d, 1, none⟩ (.map (some w'.heap.size))) Tryd.prog 9 ptrR
            have hsz : (w'.setCell ⟨d, 1, none⟩ (.map (some w'.heap.size))).heap.size = w'.heap.size := by simp [World.setCell]
            rw [hsz] at ho0
            obtain ⟨w2, hrun, ho2, hgr⟩ := (ho0.alloc (.cells #[.slice .none 0 0, .int .i64 0] 84)).store law Tryd.underlying75 (by simp [maxLen]) (keyS hs) (val := .pointer (some ⟨w'.heap.size + 1, 0, .none⟩)) (d := .lit (.int .i64 ((w'.heap.size + 1 : Nat) : Int))) (ps := []) rfl
            rw [hrun]
            simp only [Result.andThen]
            rw [Oper.upon_skip]
            go_wp2
            go_ret
            have ht0 : Turn [d] w' (w'.setCell ⟨d, 1, .none⟩ (.map (some w'.heap.size))) := (Turn.refl _ _).setCell (by simp) _
            have ht1 := (ht0.alloc (.map #[] 0)).alloc (.cells #[.slice .none 0 0, .int .i64 0] 84)
            have ht2 := ht1.grown hgr.grown (by intro k hk; cases hk; simp)
            have hold : ∀ k ∈ F, k < w'.heap.size := HP.out.lt
            have hbase := HP.out.low d hdF
            have hself : w2.heap[d]? = some (.cells #[.int .i64 A.tick.room, .map (some w'.heap.size), .bool A.tick.limited, .int .i64 A.tick.left] 77 (0, 0)) := by
              have h1 : (w'.setCell ⟨d, 1, .none⟩ (.map (some w'.heap.size))).heap[d]? = some (.cells #[.int .i64 A.tick.room, .map (some w'.heap.size), .bool A.tick.limited, .int .i64 A.tick.left] 77 (0, 0)) := by
                rw [heap_set HP.out.self]; simp
              have h2 := (((Turn.refl [] _).alloc (.map #[] 0)).alloc (.cells #[.slice .none 0 0, .int .i64 0] 84)).heap h1 (by simp)
              exact ((Turn.refl [w'.heap.size] _).grown hgr.grown (by intro k hk; cases hk; simp)).heap h2 (by simp; omega)
            have hnew : w2.heap[w'.heap.size + 1]? = some (.cells #[.slice .none 0 0, .int .i64 0] 84 (0, 0)) := by
              have h1 := heap_new ((w'.setCell ⟨d, 1, .none⟩ (.map (some w'.heap.size))).alloc (.map #[] 0)) (.cells #[.slice .none 0 0, .int .i64 0] 84)
              have hs2 : ((w'.setCell ⟨d, 1, .none⟩ (.map (some w'.heap.size))).alloc (.map #[] 0)).heap.size = w'.heap.size + 1 := by simp [World.setCell]
              rw [hs2] at h1
              exact ((Turn.refl [w'.heap.size] _).grown hgr.grown (by intro k hk; cases hk; simp)).heap h1 (by simp)
            have hrd : Reads ((DataW.map [] : DataW Unit).put (.string s.data.toList) (.lit (.int .i64 ((w'.heap.size + 1 : Nat) : Int)))) ([] ++ [⟨⟨s.data.toList, [], 0⟩, w'.heap.size + 1, .slice .none 0 0⟩]) :=
              Reads.put (ms := []) ⟨rfl, fun nm z => rfl⟩ (by simp) tidy_empty ⟨⟨s.data.toList, [], 0⟩, w'.heap.size + 1, .slice .none 0 0⟩
            have hP := HP.out.addFile (mb := w'.heap.size) (k := w'.heap.size + 1) (w' := w2) (A' := { A.tick with files := A.tick.files ++ [⟨s.data.toList, [], 0⟩] }) (fun e => by have := hold _ e; omega) (by have := hold d hdF; omega) (by simpa using ht2) hself (.inr ⟨rfl, fun e => by have := hold _ e; omega, by have := hold d hdF; omega, by omega⟩)
              (by simpa using ho2) hrd hnew rfl HG.out rfl
            rw [tick_files] at hP
            refine ⟨by rw [HV.out]; rfl, ?_⟩
            rw [HV.out]
            refine ⟨_, ⟨_, _, hP⟩, (ht.mono (by simpa using .inl hdF)).trans ht2 (by simpa using .inl hdF), ?_⟩
            intro k hk
            have hle := ht.size
            simp at hk
            rcases hk with rfl | rfl | rfl
            · exact .inl hdF
            · exact .inr hle
            · exact .inr (by omega)
          | some mb =>
            go_enter Tryd.func11, Tryd.ntmps11
            go_wp2_with fail
            refine (count_ok H.out HF.out).mono ?_
            rintro e w1 ⟨rfl, hp, ht⟩
            have c1 := hp.c1
            have hlook := hlk w1 hp
            have hl := hln w1 hp
            rw [HM.out] at hlook
            simp only [ptrOf] at hlook
            have HP : Hid (Parts w1 base d F A.tick (.some mb) ms) := hp
            have hdlt := hp.lt d hdF
            clear hp hlk hln
            go_wp2_with (first | (go_at_call 47; refine (name_loop _ _ hs).mono ?_; rintro e w' ⟨rfl, rfl⟩))
            obtain ⟨D, hown, hrd⟩ := HP.out.map
            have hsm := HP.out.good.count
            rw [HP.out.files, List.length_map] at hsm
            obtain ⟨w2, hrun, ho2, hgr⟩ := (hown.alloc (.cells #[.slice .none 0 0, .int .i64 0] 84)).store law Tryd.underlying75 (by simp only [maxLen]; omega) (keyS hs) (val := .pointer (some ⟨w'.heap.size, 0, .none⟩)) (d := .lit (.int .i64 (w'.heap.size : Int))) (ps := []) rfl
            rw [hrun]
            simp only [Result.andThen]
            rw [Oper.upon_skip]
            go_wp2
            go_ret
            have hmbF : mb ∈ F := HP.out.mem_map rfl
            have ht2 : Turn [mb] w' w2 := ((Turn.refl [mb] w').alloc (.cells #[.slice .none 0 0, .int .i64 0] 84)).grown hgr.grown (by intro k hk; cases hk; simp)
            have hold : ∀ k ∈ F, k < w'.heap.size := HP.out.lt
            have hnd := HP.out.nodup
            rw [HP.out.foot] at hnd
            simp at hnd
            have hself := ht2.heap HP.out.self (by simpa using hnd.1.1)
            have hnew : w2.heap[w'.heap.size]? = some (.cells #[.slice .none 0 0, .int .i64 0] 84 (0, 0)) :=
              ((Turn.refl [mb] _).grown hgr.grown (by intro k hk; cases hk; simp)).heap (heap_new w' _) (by simp; have := hold mb hmbF; omega)
            have hrd2 := hrd.put HN.out (hown.tidy law) ⟨⟨s.data.toList, [], 0⟩, w'.heap.size, .slice .none 0 0⟩
            simp only [HD.out] at hrd2
            have hP := HP.out.addFile (mb := mb) (k := w'.heap.size) (w' := w2) (A' := { A.tick with files := A.tick.files ++ [⟨s.data.toList, [], 0⟩] }) (fun e => by have := hold _ e; omega) (by have := HP.out.low d hdF; have := hold d hdF; omega) (ht2.mono (by simp)) hself (.inl rfl)
              ho2 hrd2 hnew rfl HG.out rfl
            rw [tick_files] at hP
            refine ⟨by rw [HV.out]; rfl, ?_⟩
            rw [HV.out]
            refine ⟨_, ⟨_, _, hP⟩, (ht.mono (by simpa using .inl hdF)).trans ht2 (by simpa using .inl hmbF), ?_⟩
            intro k hk
            have hle := ht.size
            have hft := HP.out.foot
            simp only [List.mem_cons, List.mem_append, List.not_mem_nil, or_false] at hk
            rcases hk with rfl | rfl | hk | rfl
            · exact .inl hdF
            · exact .inl hmbF
            · exact .inl (by rw [hft]; exact List.mem_cons.2 (.inr (List.mem_append.2 (.inr hk))))
            · exact .inr hle
end

end Go.Proofs.YtlcgcckllecjpaaDoor.Dk
