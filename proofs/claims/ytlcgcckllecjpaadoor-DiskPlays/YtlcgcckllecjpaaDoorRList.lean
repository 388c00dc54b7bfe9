/- The document's disk: List (the library's sort.Strings on a row of its own). -/
import Derived.Test.YtlcgcckllecjpaaDoorRRead
import Derived.Test.YtlcgcckllecjpaaDoorList
import Derived.Sort.OwnSorted
import Derived.Sort.KeysCollected
namespace Go.Proofs.YtlcgcckllecjpaaDoor.Dk
open Go.RowKit Go.Maps Go.Sort
set_option maxRecDepth 100000
set_option linter.unusedSimpArgs false
set_option linter.unusedVariables false

def encS (x : List UInt8) : List Value := [encStr x]
theorem encS_len (x : List UInt8) : (encS x).length = 1 := rfl
theorem flat_encS : ∀ l : List (List UInt8), l.flatMap encS = l.map encStr
  | [] => rfl
  | x :: l => by rw [List.flatMap_cons, flat_encS l]; rfl
theorem Tryd.infoT : (Tryd.prog.info? 9).map (fun i => (i.zero.map (fun z => z.cells.size), i.size, i.bytes)) = some (some 1, 1, 16) := by kernel_rfl
theorem infoT_parts : ∃ i z, Tryd.prog.info? 9 = some i ∧ i.zero = some z ∧ z.cells.size = 1 ∧ i.size = 1 ∧ i.bytes ≤ 1000 := by
  have h := Tryd.infoT
  cases hi : Tryd.prog.info? 9 with
  | none => rw [hi] at h; cases h
  | some i =>
    rw [hi] at h
    simp only [Option.map_some, Option.some.injEq, Prod.mk.injEq, Option.map_eq_some_iff] at h
    obtain ⟨⟨z, hz, hz2⟩, h2, h3⟩ := h
    exact ⟨i, z, rfl, hz, hz2, h2, by omega⟩
theorem app_str (w : World) (base : Nat) (v : Value) (xs : List (List UInt8)) (x : List UInt8) (k : Nat) (hrow : GRow 9 1 encS w base v xs) (hk : w.heap[k]? = some (.cells #[encStr x] 9 (0, 0))) (hlen : xs.length ≤ 1000000) (hbase : base ≤ w.heap.size) :
    ∃ v' w', (Builtin.append_ #[34, 34] 34 #[v, .slice (some ⟨k, 0, none⟩) 1 1]).run Tryd.prog w = .ok v' w' ∧ GRow 9 1 encS w' base v' (xs ++ [x]) ∧ Turn v.ownBlock.toList w w' ∧ (∀ j ∈ v'.ownBlock, j ∈ v.ownBlock ∨ w.heap.size ≤ j) := by
  obtain ⟨i, z, hi, hz, hzs, hs, hb⟩ := infoT_parts
  exact run_append_g (P := Tryd.prog) 34 34 Tryd.underlying34 i z hi hz hzs hs hb encS_len (by intro x u hu; simp [encS] at hu; subst hu; rfl) w base v xs x k hrow hk hlen hbase

/-! ### names that begin so, sorted -/
theorem leB_tr : ∀ a b c : List UInt8, leB a b = true → leB b c = true → leB a c = true := fun a b c h1 h2 => by simp only [leB, decide_eq_true_eq] at *; exact List.le_trans h1 h2
theorem leB_to : ∀ a b : List UInt8, (leB a b || leB b a) = true := fun a b => by simp only [leB, Bool.or_eq_true, decide_eq_true_eq]; exact List.le_total a b
theorem filter_sorted (l : List (List UInt8)) (p : List UInt8 → Bool) : (l.filter p).mergeSort leB = (l.mergeSort leB).filter p := by
  have h1 : ((l.mergeSort leB).filter p).Perm (l.filter p) := (List.mergeSort_perm l leB).filter p
  rw [← mergeSort_of_perm h1]
  exact List.mergeSort_of_pairwise ((List.pairwise_mergeSort leB_tr leB_to l).filter p)

theorem sortStrings_any (w : World) (base g cap : Nat) (ss : List (List UInt8)) (hrow : GRow 9 1 encS w base (.slice (some ⟨g, 0, none⟩) ss.length cap) ss) (hl : ss.length ≤ 1000000) :
    Calls Tryd.prog 58 #[.slice (some ⟨g, 0, none⟩) ss.length cap] w fun e w' => e = .returned (.tuple #[]) ∧ GRow 9 1 encS w' base (.slice (some ⟨g, 0, none⟩) ss.length cap) (ss.mergeSort leB) ∧ Turn [g] w w' := by
  rcases hrow with ⟨h, -⟩ | ⟨g', cap', cur, h, hb, hg, h1, h2, h3, h4⟩
  · simp at h
  simp only [Value.slice.injEq, Option.some.injEq, Addr.mk.injEq] at h
  obtain ⟨⟨rfl, -, -⟩, -, rfl⟩ := h
  rw [flat_encS, Nat.mul_one] at h4
  have hH := holds_of_block hg h4
  have hc := AnyM.slices_Sort_string Tryd.sort92 g 0 cap ss w hH (lt_of_heap hg) (by omega)
  have HC := hide hc
  have HG := hide hg
  clear hc hg hH h4
  go_enter Tryd.func58, Tryd.ntmps58
  go_wp2_with fail
  refine HC.out.mono ?_
  rintro e w1 ⟨rfl, n, os, hw⟩
  have HW := hide hw
  clear hw
  go_wp2
  go_end0
  refine ⟨rfl, ?_, ?_⟩
  · refine .inr ⟨g, cap, _, by simp, hb, by rw [HW.out]; exact heap_sorted _ HG.out, by simpa using h1, by simpa [putCells] using h2, h3, ?_⟩
    rw [flat_encS, Nat.mul_one]
    refine take_putCells cur _ ?_
    simp; omega
  · have hgb := grownBy_sorted (w := w) (g := g) (n := n) (os := os) (ss.mergeSort fun x y => decide (x ≤ y)).toArray
    rw [HW.out]
    exact (Turn.refl [g] w).grown hgb (fun k hk => .inl (by cases hk; simp))
/-- Of none: nothing. -/
theorem sortStrings_none (w : World) : Calls Tryd.prog 58 #[.slice none 0 0] w fun e w' => e = .returned (.tuple #[]) ∧ w = w' := by
  have HC := hide (AnyM.slices_Sort_string_none Tryd.sort92 none 0)
  go_enter Tryd.func58, Tryd.ntmps58
  go_wp2_with fail
  refine (HC.out _).mono ?_
  rintro e w1 ⟨rfl, rfl⟩
  go_wp2
  go_end0
  exact ⟨rfl, rfl⟩

def namesR (ms : List RM) : List (List UInt8) := ms.map (·.abs.name)
set_option maxHeartbeats 4000000 in
theorem refList_any {w : World} {r : Nat} {sv : Value} {ms : List RM} {room : Nat} {left : Int} (h : RefAt w r sv ms room left) (hl : ms.length ≤ 1000000) (hn : ∀ m ∈ ms, m.abs.name.length ≤ 1000000) (bg : List UInt8) (hbg : bg.length ≤ 1000000) :
    Calls Tryd.prog 27 #[.pointer (some ⟨r, 0, none⟩), .string ⟨bg.toArray⟩] w fun e w' => ∃ v, e = .returned v ∧ GRow 9 1 encS w' w.heap.size v (((namesR ms).mergeSort leB).filter (preL bg)) ∧ Turn [] w w' := by
  obtain ⟨a, c, rfl, hlc, hcm⟩ := h.form
  have hmx : maxLen = 9223372036854775807 := by simp [maxLen]
  rw [hmx] at hcm
  have H := hide h
  obtain ⟨c0, -, -⟩ := h.c
  clear h
  rw [← filter_sorted]
  go_enter Tryd.func27, Tryd.ntmps27
  go_wp2
  go_loopw [5, 13] (fun out i wr => ∃ k : Nat, k ≤ ms.length ∧ i = .int .i64 k ∧ GRow 9 1 encS wr w.heap.size out ((namesR (ms.take k)).filter (preL bg)) ∧ Turn [] w wr) (fun _ i _ => ms.length - (intOf i).toNat)
  case atStart => exact ⟨0, Nat.zero_le _, rfl, .inl ⟨rfl, by simp [namesR]⟩, Turn.refl _ _⟩
  case round =>
    obtain ⟨k, hk, rfl, hrow, ht⟩ := hrel
    have HT := hide ht
    have HROW := hide hrow
    obtain ⟨oa, oc, hv, hoc, -⟩ := hrow.form
    subst hv
    clear ht hrow
    have hfl : ((namesR (ms.take k)).filter (preL bg)).length ≤ ms.length := Nat.le_trans (List.length_filter_le _ _) (by simp [namesR]; omega)
    obtain ⟨G, hG⟩ : ∃ G, G = (namesR (ms.take k)).filter (preL bg) := ⟨_, rfl⟩
    rw [← hG] at HROW hoc hfl ⊢
    have HGG := hide hG
    clear hG
    by_cases hlt : k < ms.length
    · obtain ⟨p, rfl, g0, g1, g2, q, d, hq, -, -⟩ := (H.out.still HT.out).three hlt
      have hnk := hn _ (List.getElem_mem hlt)
      have hsnoc : (namesR (ms.take (k + 1))).filter (preL bg) = G ++ if preL bg ms[k].abs.name then [ms[k].abs.name] else [] := by
        rw [HGG.out, show ms.take (k + 1) = ms.take k ++ [ms[k]] by simp]
        unfold namesR
        rw [List.map_append, List.filter_append]
        simp [List.filter_cons]
      obtain ⟨m, hm⟩ : ∃ m, m = ms[k] := ⟨_, rfl⟩
      rw [hq] at g1
      rw [← hm] at g0 g1 g2 hnk hsnoc
      have HS := hide hsnoc
      clear hq hm hsnoc
      have hpre : ∀ w, Calls Tryd.prog 57 #[.string ⟨m.abs.name.toArray⟩, .string ⟨bg.toArray⟩] w fun e w' => e = .returned (.bool (preL bg m.abs.name)) ∧ w = w' := fun w =>
        hasPrefix_any _ _ (by simp [ByteArray.size, maxLen]; omega) (by simp [ByteArray.size, maxLen]; omega) w
      have HP := hide hpre
      clear hpre
      have hsz := HT.out.size
      rcases Bool.eq_false_or_eq_true (preL bg m.abs.name) with hb | hb
      · rw [hb] at HS HP
        simp only [if_true] at HS
        go_wp2_with fail
        refine (HP.out _).mono ?_
        rintro e w1 ⟨rfl, rfl⟩
        obtain ⟨v7, w7, hr7, hrow7, ht7, hown7⟩ := app_str ((wr.alloc (.cells #[.string ⟨m.abs.name.toArray⟩, .slice q m.abs.bytes.length d, .int .i64 m.abs.safe] 88)).alloc (.cells #[.string ⟨m.abs.name.toArray⟩] 9)) w.heap.size (.slice oa G.length oc) G m.abs.name (wr.heap.size + 1)
          (HROW.out.kept (((Turn.refl [] wr).alloc _).alloc _) (by simp)) (by have := heap_new (wr.alloc (.cells #[.string ⟨m.abs.name.toArray⟩, .slice q m.abs.bytes.length d, .int .i64 m.abs.safe] 88)) (.cells #[.string ⟨m.abs.name.toArray⟩] 9); rwa [World.size_alloc] at this) (by omega) (by simp; omega)
        have ht7' := HT.out.trans ((((Turn.refl [] wr).alloc (.cells #[.string ⟨m.abs.name.toArray⟩, .slice q m.abs.bytes.length d, .int .i64 m.abs.safe] 88)).alloc (.cells #[.string ⟨m.abs.name.toArray⟩] 9)).mono (T := (Value.slice oa G.length oc).ownBlock.toList) (by simp) |>.same ht7) (fun k hk => .inr (HROW.out.lt k (by simpa using hk)).1)
        have HR7 := hide hr7
        have HROW7 := hide hrow7
        have HT7 := hide ht7'
        clear hr7 hrow7 ht7 hown7 ht7'
        go_wp2_with (at_builtin; go_must (refine wpList_append_told rfl rfl rfl rfl HR7.out ?_))
        refine ⟨⟨k + 1, by omega, by go_num, by rw [HS.out]; exact HROW7.out, HT7.out⟩, ?_⟩
        simp only [intOf]; omega
      · rw [hb] at HS HP
        simp only [Bool.false_eq_true, if_false, List.append_nil] at HS
        go_wp2_with fail
        refine (HP.out _).mono ?_
        rintro e w1 ⟨rfl, rfl⟩
        go_wp2
        refine ⟨⟨k + 1, by omega, by go_num, by rw [HS.out]; exact HROW.out.still ((Turn.refl [] wr).alloc _), HT.out.alloc _⟩, ?_⟩
        simp only [intOf]; omega
    · obtain rfl : k = ms.length := by omega
      rw [List.take_length] at HGG
      rcases HROW.out with ⟨he, hnil⟩ | ⟨g, cap, cur, he, r7⟩
      · subst hnil
        simp only [List.length_nil, Value.slice.injEq] at he
        obtain ⟨rfl, -, rfl⟩ := he
        go_wp2_with fail
        refine (sortStrings_none _).mono ?_
        rintro e w1 ⟨rfl, rfl⟩
        go_wp2
        go_ret
        refine ⟨_, rfl, ?_, HT.out⟩
        rw [← HGG.out]
        exact .inl ⟨rfl, by simp⟩
      · simp only [Value.slice.injEq] at he
        obtain ⟨rfl, -, rfl⟩ := he
        clear r7
        go_wp2_with fail
        refine (sortStrings_any _ w.heap.size g oc G HROW.out (by omega)).mono ?_
        rintro e w1 ⟨rfl, hrow1, ht1⟩
        have HROW1 := hide hrow1
        have ht1' := HT.out.trans ht1 (fun k hk => .inr (by simp at hk; subst hk; exact (HROW.out.lt _ (by simp [Value.ownBlock])).1))
        have HT1 := hide ht1'
        clear hrow1 ht1 ht1'
        go_wp2
        go_ret
        refine ⟨_, rfl, ?_, HT1.out⟩
        rw [← HGG.out]
        exact HROW1.out
end Go.Proofs.YtlcgcckllecjpaaDoor.Dk
