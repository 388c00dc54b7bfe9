/- Both disks, side by side. -/
import Derived.Test.YtlcgcckllecjpaaDoorRDo
import Derived.Test.YtlcgcckllecjpaaDoorRCrash
import Derived.Test.YtlcgcckllecjpaaDoorTexts
import Derived.Test.YtlcgcckllecjpaaDoorErr
namespace Go.Proofs.YtlcgcckllecjpaaDoor.Dk
open Go.RowKit Go.Maps
set_option linter.unusedSimpArgs false
set_option linter.unusedVariables false

theorem errR_eq (n : Int) : errR n = As.errN n := rfl
structure PlS (W w : World) (d r : Nat) (K : List (Nat × Obj)) (A : DA) (F : List Nat) (sv : Value) (ms : List RM) : Prop where
  dk : DiskAt w W.heap.size d F A
  rf : Ref w r sv ms A
  dis : ∀ k ∈ F, k ∉ RFoot r sv ms
  low : ∀ k ∈ RFoot r sv ms, W.heap.size ≤ k
  turn : Turn [] W w
  kept : ∀ p ∈ K, w.heap[p.1]? = some p.2 ∧ p.1 ∉ F ∧ p.1 ∉ RFoot r sv ms
theorem DiskAt.kept' {w w' : World} {base d : Nat} {F : List Nat} {A : DA} {S : List Nat} (h : DiskAt w base d F A) (ht : Turn S w w') (hn : ∀ k ∈ F, k ∉ S) : DiskAt w' base d F A := by
  obtain ⟨mref, ms, hp⟩ := h
  exact ⟨mref, ms, hp.kept ht hn⟩
section
variable {W w w1 w2 : World} {d r : Nat} {K : List (Nat × Obj)} {A A' : DA} {F : List Nat} {sv : Value} {ms : List RM}
theorem PlS.flow (h : PlS W w d r K A F sv ms) : ∀ k ∈ F, W.heap.size ≤ k ∧ k < w.heap.size := by
  obtain ⟨mref, ms, hp⟩ := h.dk
  exact fun k hk => ⟨hp.low k hk, hp.lt k hk⟩
theorem PlS.good (h : PlS W w d r K A F sv ms) : Good A := by
  obtain ⟨mref, ms, hp⟩ := h.dk
  exact hp.good
theorem PlS.still (h : PlS W w d r K A F sv ms) (ht : Turn [] w w1) : PlS W w1 d r K A F sv ms :=
  ⟨h.dk.kept' ht (by simp), h.rf.still ht, h.dis, h.low, h.turn.same ht, fun p hp => ⟨ht.heap (h.kept p hp).1 (by simp), (h.kept p hp).2⟩⟩
theorem PlS.add (h : PlS W w d r K A F sv ms) (o : Obj) : PlS W (w.alloc o) d r ((w.heap.size, o) :: K) A F sv ms := by
  have h' := h.still ((Turn.refl [] w).alloc o)
  refine ⟨h'.dk, h'.rf, h'.dis, h'.low, h'.turn, fun p hp => ?_⟩
  rcases List.mem_cons.1 hp with rfl | hp
  · exact ⟨heap_new w o, fun hk => by have := (h.flow _ hk).2; simp at this, fun hk => by have := h.rf.mem.lt _ hk; simp at this⟩
  · exact h'.kept p hp
theorem PlS.less (h : PlS W w d r K A F sv ms) {K' : List (Nat × Obj)} (hk : ∀ p ∈ K', p ∈ K) : PlS W w d r K' A F sv ms := ⟨h.dk, h.rf, h.dis, h.low, h.turn, fun p hp => h.kept p (hk p hp)⟩
/-- The program's disk has done something: the document's is as it was. -/
theorem PlS.did (h : PlS W w d r K A F sv ms) (hd : Did w w1 W.heap.size d F A') : Ref w1 r sv ms A ∧ Turn [] W w1 ∧ (∀ p ∈ K, w1.heap[p.1]? = some p.2) := by
  obtain ⟨F', hF', ht, hn⟩ := hd
  refine ⟨⟨h.rf.mem.kept ht (fun k hk hf => h.dis k hf hk), h.rf.files⟩, h.turn.trans ht (fun k hk => .inr (h.flow k hk).1), fun p hp => ht.heap (h.kept p hp).1 (h.kept p hp).2.1⟩
/-- Both have done the same. -/
theorem PlS.step (h : PlS W w d r K A F sv ms) (hd : Did w w1 W.heap.size d F A') (hr : RDid w1 w2 r sv ms A') : ∃ F' sv' ms', PlS W w2 d r K A' F' sv' ms' := by
  obtain ⟨hrf1, ht1, hk1⟩ := h.did hd
  obtain ⟨F', hF', ht, hn⟩ := hd
  obtain ⟨sv', ms', href, ht2, hn2⟩ := hr
  have hlt : ∀ k ∈ F', k < w1.heap.size := by
    obtain ⟨mref, ms, hp⟩ := hF'
    exact hp.lt
  have hlow : ∀ k ∈ F', W.heap.size ≤ k := by
    obtain ⟨mref, ms, hp⟩ := hF'
    exact hp.low
  have hsz := ht.size
  have hrl := h.rf.mem.lt
  have hdis : ∀ k ∈ F', k ∉ RFoot r sv ms := fun k hk hr => (hn k hk).elim (fun hf => h.dis k hf hr) (fun hw => by have := hrl k hr; omega)
  refine ⟨F', sv', ms', hF'.kept' ht2 hdis, href, fun k hk hr => ?_, fun k hk => ?_, ht1.trans ht2 (fun k hk => .inr (h.low k hk)), fun p hp => ?_⟩
  · rcases hn2 k hr with hr | hr
    · exact hdis k hk hr
    · have := hlt k hk; omega
  · rcases hn2 k hk with hk | hk
    · exact h.low k hk
    · have := ht1.size; omega
  · obtain ⟨e1, e2, e3⟩ := h.kept p hp
    have hp1 := lt_of_heap e1
    refine ⟨ht2.heap (hk1 p hp) e3, fun hk => ?_, fun hk => ?_⟩
    · rcases hn _ hk with hk | hk
      · exact e2 hk
      · omega
    · rcases hn2 _ hk with hk | hk
      · exact e3 hk
      · omega
theorem RDid.still {w w1 w2 : World} (h : RDid w w1 r sv ms A') (ht : Turn [] w1 w2) : RDid w w2 r sv ms A' := by
  obtain ⟨sv', ms', href, ht1, hn⟩ := h
  exact ⟨sv', ms', href.still ht, ht1.trans ht (by simp), hn⟩
theorem RDid.turn {w w1 : World} (h : RDid w w1 r sv ms A') : Turn (RFoot r sv ms) w w1 := by
  obtain ⟨sv', ms', href, ht1, hn⟩ := h
  exact ht1
theorem RDid.from' {w w1 w2 : World} (ht : Turn (RFoot r sv ms) w w1) (h : RDid w1 w2 r sv ms A') : RDid w w2 r sv ms A' := by
  obtain ⟨sv', ms', href, ht1, hn⟩ := h
  exact ⟨sv', ms', href, ht.same ht1, fun k hk => (hn k hk).elim .inl (fun h => .inr (by have := ht.size; omega))⟩
end
end Go.Proofs.YtlcgcckllecjpaaDoor.Dk
