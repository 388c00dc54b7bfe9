/- The document's Encode: its two closures. -/
import Derived.Test.YtodadoaindfecaaDoorPutR
import Derived.Test.YtodadoaindfecaaDoorPutB
import Derived.Test.YtodadoaindfecaaDoorLoose
import Derived.Laws.EntriesVeiled
namespace Go.Proofs.YtodadoaindfecaaDoor
open Go.RowKit Go.Maps
set_option maxRecDepth 100000
set_option linter.unusedSimpArgs false
set_option linter.unusedVariables false

/-- A variable of bytes in a box of its own. -/
def BufAt (w : World) (bb base : Nat) (s : Value) (bs : List UInt8) : Prop :=
  w.heap[bb]? = some (.cells #[s] 49 (0, 0)) ∧ RowAt w 5 base s bs ∧ (∀ k ∈ s.ownBlock, k ≠ bb)
/-- What turns where bytes are put behind it. -/
def BufTo (w w' : World) (bb base : Nat) (s s' : Value) (bs : List UInt8) : Prop :=
  BufAt w' bb base s' bs ∧ Turn (bb :: s.ownBlock.toList) w w' ∧ (∀ k ∈ s'.ownBlock, k ∈ s.ownBlock ∨ w.heap.size ≤ k)
theorem BufTo.refl {w : World} {bb base : Nat} {s : Value} {bs : List UInt8} (h : BufAt w bb base s bs) : BufTo w w bb base s s bs := ⟨h, Turn.refl _ _, fun k hk => .inl hk⟩
theorem BufTo.trans {w w1 w2 : World} {bb base : Nat} {s s1 s2 : Value} {b1 b2 : List UInt8} (h : BufTo w w1 bb base s s1 b1) (k : BufTo w1 w2 bb base s1 s2 b2) : BufTo w w2 bb base s s2 b2 := by
  obtain ⟨h1, h2, h3⟩ := h
  obtain ⟨k1, k2, k3⟩ := k
  refine ⟨k1, h2.trans k2 (fun x hx => ?_), fun x hx => ?_⟩
  · rcases List.mem_cons.1 hx with rfl | hx
    · exact .inl (by simp)
    · rcases h3 x (by simpa using hx) with h | h
      · exact .inl (by simp at h ⊢; exact .inr h)
      · exact .inr h
  · rcases k3 x hx with h | h
    · exact h3 x h
    · have := h2.size; exact .inr (by omega)
theorem BufAt.still {w w' : World} {bb base : Nat} {s : Value} {bs : List UInt8} (h : BufAt w bb base s bs) (ht : Turn [] w w') : BufAt w' bb base s bs := ⟨ht.heap h.1 (by simp), h.2.1.kept ht (by simp), h.2.2⟩
theorem BufTo.still {w w1 w2 : World} {bb base : Nat} {s s1 : Value} {b1 : List UInt8} (h : BufTo w w1 bb base s s1 b1) (k : Turn [] w1 w2) : BufTo w w2 bb base s s1 b1 := ⟨h.1.still k, h.2.1.trans k (by simp), h.2.2⟩
theorem BufTo.pre {w w1 w2 : World} {bb base : Nat} {s s2 : Value} {b : List UInt8} (h : Turn [] w w1) (k : BufTo w1 w2 bb base s s2 b) : BufTo w w2 bb base s s2 b := by
  obtain ⟨k1, k2, k3⟩ := k
  refine ⟨k1, (h.mono (by simp)).trans k2 (fun x hx => .inl hx), fun x hx => ?_⟩
  rcases k3 x hx with h' | h'
  · exact .inl h'
  · have := h.size; exact .inr (by omega)
theorem BufTo.box {w w' : World} {bb base : Nat} {s s' : Value} {bs : List UInt8} (h : BufTo w w' bb base s s' bs) {k : Nat} {o : Obj} (hk : w.heap[k]? = some o) (hb : k ≠ bb) (hn : ∀ x ∈ s.ownBlock, x ≠ k) : w'.heap[k]? = some o :=
  h.2.1.heap hk (fun hm => by
    rcases List.mem_cons.1 hm with e | hm
    · exact hb e
    · exact hn k (by simpa using hm) rfl)
/-- A grown row, stored. -/
theorem BufAt.put {w w2 : World} {bb base : Nat} {s s2 : Value} {bs b2 : List UInt8} (h : BufAt w bb base s bs) (hbb : bb < w.heap.size) (hg : Grew w w2 base s s2 b2) : BufTo w (w2.setCell ⟨bb, 0, none⟩ s2) bb base s s2 b2 := by
  obtain ⟨h1, h2, h3⟩ := h
  obtain ⟨g1, g2, g3⟩ := hg
  have hne : ∀ k ∈ s2.ownBlock, k ≠ bb := by
    intro k hk
    rcases g3 k hk with h | h
    · exact h3 k h
    · omega
  have hb2 : w2.heap[bb]? = some (.cells #[s] 49 (0, 0)) := g2.heap h1 (fun hm => h3 bb (by simpa using hm) rfl)
  have ht : Turn [bb] w2 (w2.setCell ⟨bb, 0, none⟩ s2) := (Turn.refl _ _).setCell (.inl (by simp)) _
  refine ⟨⟨by simpa using heap_set hb2 0 s2, g1.kept ht (fun k hk => by simpa using hne k hk), hne⟩, ?_, g3⟩
  exact (g2.mono (T := bb :: s.ownBlock.toList) (fun x hx => .inl (by simp at hx ⊢; exact .inr hx))).trans ht (fun x hx => .inl (by simp at hx ⊢; exact .inl hx))

theorem RowAt.some_slice {w : World} {e base : Nat} {sl : Value} {bs : List UInt8} (h : RowAt w e base sl bs) : ∃ a n c, sl = .slice a n c := by
  obtain ⟨a, c, rfl, -, -⟩ := h.form
  exact ⟨_, _, _, rfl⟩
def intsV (ns : List Nat) : Array Value := (ns.map fun (n : Nat) => Value.int .i64 (n : Int)).toArray
def putsB (ns : List Nat) : List UInt8 := ns.flatMap Nu.put
theorem putsB_take {ns : List Nat} {k : Nat} (hk : k < ns.length) : putsB (ns.take (k + 1)) = putsB (ns.take k) ++ Nu.put ns[k] := by
  unfold putsB
  rw [List.take_succ_eq_append_getElem hk]
  simp only [List.flatMap_append, List.flatMap_cons, List.flatMap_nil, List.append_nil]
theorem putsB_len : ∀ (ns : List Nat), (∀ n ∈ ns, n ≤ 1099511627776) → (putsB ns).length ≤ 6 * ns.length
  | [], _ => by simp [putsB]
  | n :: ns, h => by
    have h1 := Nu.put_len6 (h n (by simp))
    have h2 := putsB_len ns (fun x hx => h x (by simp [hx]))
    simp only [putsB, List.flatMap_cons, List.length_append, List.length_cons] at h2 ⊢
    omega

end Go.Proofs.YtodadoaindfecaaDoor
