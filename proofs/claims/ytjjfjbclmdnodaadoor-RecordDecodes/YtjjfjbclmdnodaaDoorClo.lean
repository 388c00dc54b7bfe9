/- The document's Encode: its two closures. -/
import Derived.Test.YtjjfjbclmdnodaaDoorPutR
import Derived.Test.YtjjfjbclmdnodaaDoorPutB
import Derived.Test.YtjjfjbclmdnodaaDoorLoose
import Derived.Laws.EntriesVeiled
namespace Go.Proofs.YtjjfjbclmdnodaaDoor
open Go.RowKit Go.Maps
set_option maxRecDepth 100000
set_option linter.unusedSimpArgs false
set_option linter.unusedVariables false

/-- A variable of bytes in a box of its own. -/
def BufAt (w : World) (bb base : Nat) (s : Value) (bs : List UInt8) : Prop :=
  w.heap[bb]? = some (.cells #[s] 35 (0, 0)) ∧ RowAt w 5 base s bs ∧ (∀ k ∈ s.ownBlock, k ≠ bb)
/-- What turns where bytes are put behind it. -/
def BufTo (w w' : World) (bb base : Nat) (s s' : Value) (bs : List UInt8) : Prop :=
  BufAt w' bb base s' bs ∧ Turn (bb :: s.ownBlock.toList) w w' ∧ (∀ k ∈ s'.ownBlock, k ∈ s.ownBlock ∨ w.heap.size ≤ k)
theorem BufTo.refl {w : World} {bb base : Nat} {s : Value} {bs : List UInt8} (h : BufAt w bb base s bs) : BufTo w w bb base s s bs := ⟨h, Turn.refl _ _, fun k hk => .inl hk⟩
theorem BufTo.trans {w w1 w2 : World} {bb base : Nat} {s s1 s2 : Value} {b1 b2 : List UInt8} (h : BufTo w w1 bb base s s1 b1) (k : BufTo w1 w2 bb base s1 s2 b2) : BufTo w w2 bb base s s2 b2 := by
  obtain ⟨h1, h2, h3⟩ := h
  obtain ⟨k1, k2, k3⟩ := k
  refine ⟨k1, h2.trans k2 (fun x hx => ?_), fun x hx => ?_⟩
  · rcases List.mem_cons.1 hx with rfl | hx
    · exact .inl (by simp)
    · rcases h3 x (by simpa using hx) with h | h
      · exact .inl (by simp at h ⊢; exact .inr h)
      · exact .inr h
  · rcases k3 x hx with h | h
    · exact h3 x h
    · have := h2.size; exact .inr (by omega)
theorem BufAt.still {w w' : World} {bb base : Nat} {s : Value} {bs : List UInt8} (h : BufAt w bb base s bs) (ht : Turn [] w w') : BufAt w' bb base s bs := ⟨ht.heap h.1 (by simp), h.2.1.kept ht (by simp), h.2.2⟩
theorem BufTo.still {w w1 w2 : World} {bb base : Nat} {s s1 : Value} {b1 : List UInt8} (h : BufTo w w1 bb base s s1 b1) (k : Turn [] w1 w2) : BufTo w w2 bb base s s1 b1 := ⟨h.1.still k, h.2.1.trans k (by simp), h.2.2⟩
theorem BufTo.pre {w w1 w2 : World} {bb base : Nat} {s s2 : Value} {b : List UInt8} (h : Turn [] w w1) (k : BufTo w1 w2 bb base s s2 b) : BufTo w w2 bb base s s2 b := by
  obtain ⟨k1, k2, k3⟩ := k
  refine ⟨k1, (h.mono (by simp)).trans k2 (fun x hx => .inl hx), fun x hx => ?_⟩
  rcases k3 x hx with h' | h'
  · exact .inl h'
  · have := h.size; exact .inr (by omega)
theorem BufTo.box {w w' : World} {bb base : Nat} {s s' : Value} {bs : List UInt8} (h : BufTo w w' bb base s s' bs) {k : Nat} {o : Obj} (hk : w.heap[k]? = some o) (hb : k ≠ bb) (hn : ∀ x ∈ s.ownBlock, x ≠ k) : w'.heap[k]? = some o :=
  h.2.1.heap hk (fun hm => by
    rcases List.mem_cons.1 hm with e | hm
    · exact hb e
    · exact hn k (by simpa using hm) rfl)
/-- A grown row, stored. -/
theorem BufAt.put {w w2 : World} {bb base : Nat} {s s2 : Value} {bs b2 : List UInt8} (h : BufAt w bb base s bs) (hbb : bb < w.heap.size) (hg : Grew w w2 base s s2 b2) : BufTo w (w2.setCell ⟨bb, 0, none⟩ s2) bb base s s2 b2 := by
  obtain ⟨h1, h2, h3⟩ := h
  obtain ⟨g1, g2, g3⟩ := hg
  have hne : ∀ k ∈ s2.ownBlock, k ≠ bb := by
    intro k hk
    rcases g3 k hk with h | h
    · exact h3 k h
    · omega
  have hb2 : w2.heap[bb]? = some (.cells #[s] 35 (0, 0)) := g2.heap h1 (fun hm => h3 bb (by simpa using hm) rfl)
  have ht : Turn [bb] w2 (w2.setCell ⟨bb, 0, none⟩ s2) := (Turn.refl _ _).setCell (.inl (by simp)) _
  refine ⟨⟨by simpa using heap_set hb2 0 s2, g1.kept ht (fun k hk => by simpa using hne k hk), hne⟩, ?_, g3⟩
  exact (g2.mono (T := bb :: s.ownBlock.toList) (fun x hx => .inl (by simp at hx ⊢; exact .inr hx))).trans ht (fun x hx => .inl (by simp at hx ⊢; exact .inl hx))

theorem RowAt.some_slice {w : World} {e base : Nat} {sl : Value} {bs : List UInt8} (h : RowAt w e base sl bs) : ∃ a n c, sl = .slice a n c := by
  obtain ⟨a, c, rfl, -, -⟩ := h.form
  exact ⟨_, _, _, rfl⟩
def intsV (ns : List Nat) : Array Value := (ns.map fun (n : Nat) => Value.int .i64 (n : Int)).toArray
def putsB (ns : List Nat) : List UInt8 := ns.flatMap Nu.put
theorem putsB_take {ns : List Nat} {k : Nat} (hk : k < ns.length) : putsB (ns.take (k + 1)) = putsB (ns.take k) ++ Nu.put ns[k] := by
  unfold putsB
  rw [List.take_succ_eq_append_getElem hk]
  simp only [List.flatMap_append, List.flatMap_cons, List.flatMap_nil, List.append_nil]
theorem putsB_len : ∀ (ns : List Nat), (∀ n ∈ ns, n ≤ 1099511627776) → (putsB ns).length ≤ 6 * ns.length
  | [], _ => by simp [putsB]
  | n :: ns, h => by
    have h1 := Nu.put_len6 (h n (by simp))
    have h2 := putsB_len ns (fun x hx => h x (by simp [hx]))
    simp only [putsB, List.flatMap_cons, List.length_append, List.length_cons] at h2 ⊢
    omega

set_option maxHeartbeats 2000000 in
theorem clo_put (w : World) (bb base : Nat) (s : Value) (bs : List UInt8) (hb : BufAt w bb base s bs) (hbase : base ≤ w.heap.size) (k : Nat) (ns : List Nat) (hk : w.heap[k]? = some (.cells (intsV ns) 3 (0, 0))) (hkb : k ≠ bb) (hks : ∀ x ∈ s.ownBlock, x ≠ k)
    (hn : ∀ n ∈ ns, n ≤ 1099511627776) (hnl : ns.length ≤ 3) (hl : bs.length ≤ 900000) :
    Calls Tryd.prog 56 #[.slice (some ⟨k, 0, none⟩) ns.length ns.length, .pointer (some ⟨bb, 0, none⟩)] w fun e w' => e = .returned (.tuple #[]) ∧ ∃ s', BufTo w w' bb base s s' (bs ++ putsB ns) := by
  obtain ⟨i0, hi, hz, hz1, hz2⟩ := infoB_parts
  have hbb := lt_of_heap hb.1
  have HB := hide hb
  have HK := hide hk
  have HN := hide hn
  have HKS := hide hks
  have HKB := hide hkb
  clear hb hk hn hks hkb
  go_enter Tryd.func56, Tryd.ntmps56
  go_wp2
  go_loopw [7] (fun i wr => ∃ (j : Nat) (sr : Value), j ≤ ns.length ∧ i = .int .i64 j ∧ BufTo w wr bb base s sr (bs ++ putsB (ns.take j))) (fun i _ => ns.length - (intOf i).toNat)
  case atStart => exact ⟨0, s, Nat.zero_le _, rfl, by simpa [putsB] using BufTo.refl HB.out⟩
  case round =>
    obtain ⟨j, sr, hj, rfl, hr⟩ := hrel
    have HR := hide hr
    clear hr
    by_cases hlt : j < ns.length
    · have hwr := HR.out.2.1.size
      have hbk := HR.out.box HK.out HKB.out HKS.out
      have hcell : wr.cell? ⟨k, j, none⟩ = some (.int .i64 (ns[j] : Int)) := by
        rw [cell_of hbk]; simp [intsV, hlt]
      have hcell2 : wr.cell? ⟨k, 0 + j, none⟩ = some (.int .i64 (ns[j] : Int)) := by rw [Nat.zero_add]; exact hcell
      have hnj := HN.out ns[j] (List.getElem_mem _)
      have hlj := Nu.put_len6 hnj
      have hpl := putsB_len (ns.take j) (fun n h => HN.out n (List.mem_of_mem_take h))
      have hpl2 : (ns.take j).length ≤ j := List.length_take_le _ _
      have HS := hide (putsB_take hlt)
      obtain ⟨n, hnn⟩ : ∃ n, n = ns[j] := ⟨_, rfl⟩
      rw [← hnn] at hcell hcell2 hnj hlj HS
      clear hnn hbk
      go_wp2
      refine wp_region_tail 3 (Turn []) (by kernel_rfl) (by kernel_rfl) (by kernel_rfl) (by kernel_rfl) (by kernel_rfl) (Nat.le_of_ble_eq_true rfl) rfl (Turn.refl _) (fun _ _ _ h k => h.same k) ?_
      apply Lo.runx 1 rfl rfl [] (by kernel_rfl) (Turn.refl _)
      apply Exists.intro; apply And.intro
      · intro u w1 hR hF
        clear hF
        refine ⟨rfl, fun a ha K hK => ?_⟩
        have e1 := ha 1
        conv at e1 => rhs; whnf
        clear ha
        have hbw := HR.out.1.still ((Turn.refl [] wr).drew.same hR)
        have c0 := cell_of hbw.1 0
        simp at c0
        go_simp
        refine hK _ ?_; rfl
      apply Lo.runx 2 rfl rfl [] (by kernel_rfl) (Turn.refl _)
      apply Exists.intro; apply And.intro
      · intro u w1 hR hF
        clear hF
        refine ⟨rfl, fun a ha K hK => ?_⟩
        have e4 := ha 4
        conv at e4 => rhs; whnf
        clear ha
        go_simp
        refine hK _ ?_; rfl
      refine Lo.run 3 rfl rfl [1] (fun y w' => BytesAt w' y (Nu.put n)) (by kernel_rfl) (fun x w w' h hR => ?_) (fun _ _ h => h) (fun u w1 hR hF => ?_) ?_
      · exact h.still hR
      · obtain ⟨h1, -⟩ := hF
        refine ⟨rfl, fun a ha K hK => ?_⟩
        have e12 := (ha 12).trans h1
        clear ha h1
        go_simp
        refine (refPut_any (n + 1) n (by omega) hnj _).mono ?_
        rintro e w2 ⟨v2, rfl, hr2, ht2⟩
        exact hK _ _ hr2.bytes ht2
      refine Lo.done [0, 2] (fun u w1 hRd hSd hF => ?_)
      clear hSd
      obtain ⟨f0, f2, -⟩ := hF
      have d0 : u 0 = _ := f0
      have d2 := (show (fun y w' => BytesAt w' y (Nu.put n)) (u 2) w1 from f2)
      dsimp only at d2
      clear f0 f2
      simp only [List.take_succ_cons, List.take_zero, List.drop_succ_cons, List.drop_zero, putFrom, Act.put, List.setIfInBounds_toArray, List.set_cons_succ, List.set_cons_zero, Nat.zero_add, Nat.reduceAdd, d0]
      have ht1 : Turn [] wr w1 := (Turn.refl [] wr).drew.same hRd
      have hbw := HR.out.still ht1
      have HBW := hide hbw
      have HD2 := hide d2.slice
      have hs1 := ht1.size
      have hbb1 : bb < w1.heap.size := by omega
      have hlen1 : (bs ++ putsB (ns.take j)).length + (Nu.put n).length ≤ 1099511627776 := by simp only [List.length_append]; omega
      have HLEN := hide hlen1
      clear ht1 hbw d0 d2 hRd hlen1
      go_wp2_with (at_builtin; go_must (refine wpList_append_row _ rfl _ _ 35 rfl 5 base i0 Tryd.underlying35 hi hz hz1 hz2 sr (u 2) (bs ++ putsB (ns.take j)) (Nu.put n) rfl rfl HBW.out.1.2.1 HD2.out HLEN.out (by omega) ?_; intro v3 w3 hrow3 ht3 hown3; obtain ⟨a3, n3, cp3, hv3⟩ := hrow3.some_slice; subst hv3; have HG3 : Hid (Grew w1 w3 base sr (.slice a3 n3 cp3) (bs ++ putsB (ns.take j) ++ Nu.put n)) := ⟨hrow3, ht3, hown3⟩; have hb3 : w3.heap[bb]? = some (.cells #[sr] 35 (0, 0)) := ht3.heap HBW.out.1.1 (fun hm => HBW.out.1.2.2 bb (by simpa using hm) rfl); have c3 : w3.cell? ⟨bb, 0, none⟩ = some sr := (by simpa using cell_of hb3 0); have f3 : w3.frozen? ⟨bb, 0, none⟩ = false := frozen_of hb3 0; clear hrow3 ht3 hown3 hb3))
      refine ⟨⟨j + 1, .slice a3 n3 cp3, by omega, by go_num, ?_⟩, ?_⟩
      · rw [HS.out, ← List.append_assoc]
        exact HBW.out.trans (HBW.out.1.put hbb1 HG3.out)
      · simp only [intOf]; omega
    · have hlast : ns.take j = ns := List.take_of_length_le (by omega)
      have HL := hide hlast
      clear hlast
      go_wp2
      go_end0
      refine ⟨rfl, sr, ?_⟩
      have := HR.out
      rwa [HL.out] at this

/-- The closure that puts numbers, as a value. -/
def putV (bb : Nat) : Value := .func (.func 56) #[] #[.pointer (some ⟨bb, 0, none⟩)]
set_option maxHeartbeats 2000000 in
theorem clo_text (w : World) (pp bb base : Nat) (s : Value) (bs : List UInt8) (hb : BufAt w bb base s bs) (hbase : base ≤ w.heap.size) (hp : w.heap[pp]? = some (.cells #[putV bb] 102 (0, 0))) (hpb : pp ≠ bb) (hps : ∀ x ∈ s.ownBlock, x ≠ pp)
    (t : List UInt8) (ht : t.length ≤ 600) (hl : bs.length ≤ 800000) :
    Calls Tryd.prog 58 #[.string ⟨t.toArray⟩, .pointer (some ⟨pp, 0, none⟩), .pointer (some ⟨bb, 0, none⟩)] w fun e w' => e = .returned (.tuple #[]) ∧ ∃ s', BufTo w w' bb base s s' (bs ++ Bt.textB t) := by
  obtain ⟨i0, hi, hz, hz1, hz2⟩ := infoB_parts
  have hbb := lt_of_heap hb.1
  have cp := cell_of hp 0
  unfold putV at cp
  simp at cp
  have HB := hide hb
  have hlt : ∀ x ∈ s.ownBlock, x ≠ w.heap.size := fun x hx => by have := (hb.2.1.lt x hx).2; omega
  have HLT := hide hlt
  have hlp := Nu.put_len6 (show t.length ≤ 1099511627776 by omega)
  clear hb hp hpb hps hlt
  go_enter Tryd.func58, Tryd.ntmps58
  go_wp2_with fail
  refine (clo_put (w.alloc (.cells (intsV [t.length]) 3)) bb base s bs (HB.out.still ((Turn.refl [] w).alloc _)) (by simp; omega) w.heap.size [t.length] (heap_new w _) (by omega) HLT.out (by simp; omega) (by simp) (by omega)).mono ?_
  rintro e w1 ⟨rfl, s1, h1⟩
  have hb1 := BufTo.pre ((Turn.refl [] w).alloc (.cells (intsV [t.length]) 3)) h1
  have e1 : putsB [t.length] = Nu.put t.length := by simp [putsB]
  rw [e1] at hb1
  obtain ⟨a1, n1, cp1, hv1⟩ := hb1.1.2.1.some_slice
  subst hv1
  have c1 : w1.cell? ⟨bb, 0, none⟩ = some (.slice a1 n1 cp1) := by simpa using cell_of hb1.1.1 0
  have HB1 := hide hb1
  have hs1 := hb1.2.1.size
  have hlen1 : (bs ++ Nu.put t.length).length + t.length ≤ 1099511627776 := by simp only [List.length_append]; omega
  have HLEN := hide hlen1
  clear h1 hb1 e1 cp hlen1
  go_wp2_with (at_builtin; go_must (refine wpList_append_str rfl _ _ 35 9 rfl 5 base i0 Tryd.underlying35 Tryd.underlying9 hi hz hz1 hz2 (.slice a1 n1 cp1) (bs ++ Nu.put t.length) t rfl rfl HB1.out.1.2.1 HLEN.out (by omega) ?_; intro v3 w3 hrow3 ht3 hown3; obtain ⟨a3, n3, cp3, hv3⟩ := hrow3.some_slice; subst hv3; have HG3 : Hid (Grew w1 w3 base (.slice a1 n1 cp1) (.slice a3 n3 cp3) (bs ++ Nu.put t.length ++ t)) := ⟨hrow3, ht3, hown3⟩; have hb3 : w3.heap[bb]? = some (.cells #[.slice a1 n1 cp1] 35 (0, 0)) := ht3.heap HB1.out.1.1 (fun hm => HB1.out.1.2.2 bb (by simpa using hm) rfl); have c3 : w3.cell? ⟨bb, 0, none⟩ = some (.slice a1 n1 cp1) := (by simpa using cell_of hb3 0); have f3 : w3.frozen? ⟨bb, 0, none⟩ = false := frozen_of hb3 0; clear hrow3 ht3 hown3 hb3))
  go_end0
  refine ⟨rfl, .slice a3 n3 cp3, ?_⟩
  have := HB1.out.trans (HB1.out.1.put (by omega) HG3.out)
  unfold Bt.textB
  rwa [List.append_assoc] at this
end Go.Proofs.YtjjfjbclmdnodaaDoor
