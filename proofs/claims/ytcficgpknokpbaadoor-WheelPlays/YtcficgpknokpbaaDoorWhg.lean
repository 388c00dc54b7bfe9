/- The wheel: what its slots hold; what time comes to. -/
import Derived.Test.YtcficgpknokpbaaDoorWhf
import Derived.Test.YtcficgpknokpbaaDoorRow3
namespace Go.Proofs.YtcficgpknokpbaaDoor.Wh
open Go.RowKit Go.Maps
set_option maxRecDepth 100000
set_option linter.unusedSimpArgs false
set_option linter.unusedVariables false
attribute [local go_sem] Oper.semAt_some

theorem app_tms (w : World) (base : Nat) (v sx : Value) (xs ys : List Tm) (hrow : TR w base v xs) (hx : TR w base sx ys) (hlen : xs.length + ys.length ≤ 1000000) (hbase : base ≤ w.heap.size) :
    ∃ v' w', (Builtin.append_ #[24, 24] 24 #[v, sx]).run Tryd.prog w = .ok v' w' ∧ TR w' base v' (xs ++ ys) ∧ Turn v.ownBlock.toList w w' ∧ (∀ j ∈ v'.ownBlock, j ∈ v.ownBlock ∨ w.heap.size ≤ j) := by
  obtain ⟨i, z, hi, hz, hzs, hs, hb⟩ := infoTm_parts
  exact run_append_gs (P := Tryd.prog) 24 24 Tryd.underlying24 i z hi hz hzs hs hb tmC_len tmC_one w base v sx xs ys hrow (hx.src tmC_len) hlen hbase

theorem atL_filter (p : Int → Bool) (l : List Tm) (t : Int) : atL t (l.filter (fun x => p x.1)) = if p t then atL t l else [] := by
  unfold atL
  rw [List.filter_filter]
  cases hp : p t
  · rw [if_neg (by simp)]
    rw [List.filter_eq_nil_iff]
    intro x hx hxt
    simp only [Bool.and_eq_true, beq_iff_eq] at hxt
    rw [hxt.1, hp] at hxt
    simp at hxt
  · rw [if_pos rfl]
    apply List.filter_congr
    intro x hx
    by_cases e : x.1 = t
    · simp [e, hp]
    · simp [e]
/-- What holds of a wheel's slots: each has what lies there, like ones as they were added. -/
structure WInv (now : Nat) (all : List Tm) (sl : Nat → List Tm) : Prop where
  le : now ≤ 1099511627776
  slots : ∀ j, j < 448 → Sq (sl j) (all.filter (fun x => slotJ now x.1.toNat == j))
  nd : (all.map (·.2)).Nodup
  len : all.length ≤ 10000
  ok : ∀ x ∈ all, 0 ≤ x.1 ∧ x.1 ≤ 1099511627776 ∧ (Lit.int .i64 x.2).wf = true
theorem WInv.mem {now : Nat} {all : List Tm} {sl : Nat → List Tm} (h : WInv now all sl) {j : Nat} (hj : j < 448) {x : Tm} (hx : x ∈ sl j) : x ∈ all ∧ slotJ now x.1.toNat = j := by
  have := (h.slots j hj).perm.mem_iff.1 hx
  rw [List.mem_filter] at this
  exact ⟨this.1, by simpa using this.2⟩
theorem WInv.slen {now : Nat} {all : List Tm} {sl : Nat → List Tm} (h : WInv now all sl) {j : Nat} (hj : j < 448) : (sl j).length ≤ 10000 := by
  rw [(h.slots j hj).length]
  exact Nat.le_trans (List.length_filter_le _ _) h.len

def dn (now to k i j : Nat) : Bool := (decide (j / 64 < k) && visited now to j) || (decide (j / 64 = k) && decide (placeN k now ≤ j % 64) && decide (j % 64 < i))
theorem dn_step (now to k i j : Nat) (hi : i < 64) (hp : placeN k now ≤ i) : dn now to k (i + 1) j = (dn now to k i j || decide (j = k * 64 + i)) := by
  unfold dn
  generalize visited now to j = v
  rw [Bool.eq_iff_iff]
  simp only [Bool.or_eq_true, Bool.and_eq_true, decide_eq_true_eq]
  constructor
  · rintro (h | ⟨⟨h1, h2⟩, h3⟩)
    · exact .inl (.inl h)
    · by_cases e : j % 64 = i
      · exact .inr (by omega)
      · exact .inl (.inr ⟨⟨h1, h2⟩, by omega⟩)
  · rintro ((h | ⟨⟨h1, h2⟩, h3⟩) | h)
    · exact .inl h
    · exact .inr ⟨⟨h1, h2⟩, by omega⟩
    · exact .inr ⟨⟨by omega, by omega⟩, by omega⟩
theorem dn_self (now to k i : Nat) (hi : i < 64) : dn now to k i (k * 64 + i) = false := by
  unfold dn
  generalize visited now to (k * 64 + i) = v
  rw [Bool.eq_false_iff]
  simp only [ne_eq, Bool.or_eq_true, Bool.and_eq_true, decide_eq_true_eq]
  rintro (⟨h, -⟩ | ⟨⟨h1, h2⟩, h3⟩) <;> omega
theorem dn_end (now to k j : Nat) : dn now to k (lastN now to k + 1) j = dn now to (k + 1) (placeN (k + 1) now) j := by
  unfold dn visited
  rw [Bool.eq_iff_iff]
  simp only [Bool.or_eq_true, Bool.and_eq_true, decide_eq_true_eq]
  constructor
  · rintro (⟨h1, h2⟩ | ⟨⟨h1, h2⟩, h3⟩)
    · exact .inl ⟨by omega, h2⟩
    · refine .inl ⟨by omega, ?_⟩
      rw [h1]
      exact ⟨h2, by omega⟩
  · rintro (⟨h1, h2, h3⟩ | ⟨⟨h1, h2⟩, h3⟩)
    · by_cases e : j / 64 = k
      · rw [e] at h2 h3
        exact .inr ⟨⟨e, h2⟩, by omega⟩
      · exact .inl ⟨by omega, h2, h3⟩
    · omega
theorem dn_0 (now to j : Nat) : dn now to 0 (placeN 0 now) j = false := by
  unfold dn
  rw [Bool.eq_false_iff]
  simp only [ne_eq, Bool.or_eq_true, Bool.and_eq_true, decide_eq_true_eq]
  rintro (⟨h, -⟩ | ⟨⟨h1, h2⟩, h3⟩) <;> omega
theorem dn_7 (now to j : Nat) (hj : j < 448) : dn now to 7 (placeN 7 now) j = visited now to j := by
  unfold dn
  generalize visited now to j = v
  rw [Bool.eq_iff_iff]
  simp only [Bool.or_eq_true, Bool.and_eq_true, decide_eq_true_eq]
  constructor
  · rintro (⟨-, h⟩ | ⟨⟨h1, h2⟩, h3⟩)
    · exact h
    · omega
  · intro h
    exact .inl ⟨by omega, h⟩
theorem lastN_lt (now to k : Nat) : lastN now to k < 64 := by
  unfold lastN
  split
  · exact placeN_lt _ _
  · omega
/-- What is taken out of the slots. -/
theorem reached_step {now to k i : Nat} {all R S : List Tm} (hi : i < 64) (hp : placeN k now ≤ i) (h1 : Sq R (all.filter (fun x => dn now to k i (slotJ now x.1.toNat)))) (h2 : Sq S (all.filter (fun x => slotJ now x.1.toNat == k * 64 + i))) : Sq (R ++ S) (all.filter (fun x => dn now to k (i + 1) (slotJ now x.1.toNat))) := by
  intro t
  rw [atL_append, h1 t, h2 t, atL_filter (fun y => dn now to k i (slotJ now y.toNat)), atL_filter (fun y => slotJ now y.toNat == k * 64 + i), atL_filter (fun y => dn now to k (i + 1) (slotJ now y.toNat)), dn_step _ _ _ _ _ hi hp]
  by_cases e : slotJ now t.toNat = k * 64 + i
  · rw [e, dn_self _ _ _ _ hi]
    simp
  · have e1 : (slotJ now t.toNat == k * 64 + i) = false := by simpa using e
    have e2 : decide (slotJ now t.toNat = k * 64 + i) = false := by simpa using e
    rw [e1, e2]
    simp
/-- The slots behind a reach. -/
theorem reach_inv {now to : Nat} {all R : List Tm} {sl : Nat → List Tm} (h : WInv now all sl) (hn : now ≤ to) (hto : to ≤ 1099511627776) (hR : Sq R (all.filter (fun x => dn now to 7 (placeN 7 now) (slotJ now x.1.toNat)))) :
    WInv to all (fun j => (if dn now to 7 (placeN 7 now) j then [] else sl j) ++ R.filter (fun x => slotJ to x.1.toNat == j)) := by
  refine ⟨hto, fun j hj t => ?_, h.nd, h.len, h.ok⟩
  rw [atL_append, atL_filter (fun y => slotJ to y.toNat == j), atL_filter (fun y => slotJ to y.toNat == j), hR t, atL_filter (fun y => dn now to 7 (placeN 7 now) (slotJ now y.toNat)), dn_7 _ _ _ hj]
  have hs := h.slots j hj t
  rw [atL_filter (fun y => slotJ now y.toNat == j)] at hs
  by_cases hall : atL t all = []
  · rw [hall] at hs ⊢
    have hs' : atL t (sl j) = [] := by rw [hs]; simp
    split
    · simp [atL]
    · rw [hs']; simp
  · obtain ⟨x, hx⟩ := List.exists_mem_of_ne_nil _ hall
    unfold atL at hx
    rw [List.mem_filter] at hx
    obtain ⟨h1, h2, -⟩ := h.ok x hx.1
    have hxt : x.1 = t := by simpa using hx.2
    rw [hxt] at h1 h2
    have htn : t.toNat ≤ 1099511627776 := by omega
    have hsj : slotJ now t.toNat < 448 := slotJ_lt h.le htn
    rw [dn_7 _ _ _ hsj]
    cases hv : visited now to (slotJ now t.toNat)
    · have hst := slot_stays hn hto htn hv
      rw [hst]
      cases hvj : visited now to j
      · simp [hs]
      · have : (slotJ now t.toNat == j) = false := by
          rw [Bool.eq_false_iff]
          intro e
          have e' : slotJ now t.toNat = j := by simpa using e
          rw [e', hvj] at hv
          cases hv
        simp [this, atL]
    · cases hvj : visited now to j
      · have : (slotJ now t.toNat == j) = false := by
          rw [Bool.eq_false_iff]
          intro e
          have e' : slotJ now t.toNat = j := by simpa using e
          rw [e', hvj] at hv
          cases hv
        rw [this] at hs
        have hs' : atL t (sl j) = [] := by simpa using hs
        simp [hs']
      · simp [atL]
end Go.Proofs.YtcficgpknokpbaaDoor.Wh
