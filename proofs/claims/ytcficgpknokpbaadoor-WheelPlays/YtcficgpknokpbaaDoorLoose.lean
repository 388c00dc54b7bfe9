/- A region that draws its order, whose operations may make memory: each operation is asked once, in whatever order those stand that it doesn't wait for; what each leaves is told by a predicate that later worlds keep. No program. -/
import Derived.Test.YtcficgpknokpbaaDoorCover
import Derived.Test.YtcficgpknokpbaaDoorTurn
namespace Go.Proofs.YtcficgpknokpbaaDoor
open Go.RowKit
set_option linter.unusedSimpArgs false
set_option linter.unusedVariables false

/-- The frame behind operations whose slots hold these. -/
def putFrom : List Oper → Nat → (Nat → Value) → Act → Act
  | [], _, _, a => a
  | o :: os, i, u, a => putFrom os (i + 1) u (a.put o.dst (u i))
def upd (u : Nat → Value) (k : Nat) (x : Value) : Nat → Value := fun j => if j = k then x else u j
/-- No two operations have one slot. -/
def apartB : List Oper → Bool
  | [] => true
  | o :: os => (match o.dst with
    | some d => os.all fun p => p.dst != some d
    | none => true) && apartB os

theorem put_twice (a : Act) (d : Option Tmp) (x y : Value) : (a.put d x).put d y = a.put d y := by
  cases d <;> simp [Act.put]
theorem put_comm (a : Act) (d e : Option Tmp) (x y : Value) (h : d = none ∨ d ≠ e) : (a.put d x).put e y = (a.put e y).put d x := by
  cases d with
  | none => simp [Act.put]
  | some d =>
    cases e with
    | none => simp [Act.put]
    | some e =>
      have : d ≠ e := by
        rcases h with h | h
        · cases h
        · exact fun he => h (by rw [he])
      simp only [Act.put]
      rw [Array.setIfInBounds_comm _ _ this]
theorem putFrom_put : ∀ (os : List Oper) (i : Nat) (u : Nat → Value) (a : Act) (d : Option Tmp) (x : Value), (d = none ∨ ∀ p ∈ os, p.dst ≠ d) → (putFrom os i u a).put d x = putFrom os i u (a.put d x)
  | [], _, _, _, _, _, _ => rfl
  | o :: os, i, u, a, d, x, h => by
    unfold putFrom
    rw [putFrom_put os (i + 1) u _ d x (h.imp id fun h p hp => h p (by simp [hp])), put_comm]
    rcases h with h | h
    · by_cases e : o.dst = none
      · exact .inl e
      · exact .inr (by rw [h]; exact e)
    · exact .inr (h o (by simp))
theorem putFrom_upd : ∀ (os : List Oper) (i k : Nat) (u : Nat → Value) (a : Act) (x : Value), k < i → putFrom os i (upd u k x) a = putFrom os i u a
  | [], _, _, _, _, _, _ => rfl
  | o :: os, i, k, u, a, x, h => by
    unfold putFrom
    rw [putFrom_upd os (i + 1) k u _ x (by omega)]
    have : ¬ i = k := by omega
    simp only [upd, if_neg this]
theorem putFrom_set : ∀ (os : List Oper) (i k : Nat) (o : Oper) (u : Nat → Value) (a : Act) (x : Value), apartB os = true → os[k]? = some o → (putFrom os i u a).put o.dst x = putFrom os i (upd u (i + k) x) a
  | [], _, _, _, _, _, _, _, h => by simp at h
  | p :: os, i, 0, o, u, a, x, hd, h => by
    simp only [List.getElem?_cons_zero, Option.some.injEq] at h
    subst h
    simp only [apartB, Bool.and_eq_true] at hd
    unfold putFrom
    rw [putFrom_put, put_twice, Nat.add_zero, putFrom_upd _ _ _ _ _ _ (by omega)]
    · simp [upd]
    · cases hp : p.dst with
      | none => exact .inl rfl
      | some d =>
        rw [hp] at hd
        refine .inr fun q hq => ?_
        have := (List.all_eq_true.1 hd.1) q hq
        simpa using this
  | p :: os, i, k + 1, o, u, a, x, hd, h => by
    simp only [List.getElem?_cons_succ] at h
    simp only [apartB, Bool.and_eq_true] at hd
    unfold putFrom
    rw [putFrom_set os (i + 1) k o u _ x hd.2 h, show i + 1 + k = i + (k + 1) by omega]
    have : ¬ i = i + (k + 1) := by omega
    simp only [upd, if_neg this]
theorem put_self (a : Act) (d : Option Tmp) : a.put d (match d with | some d => a.tmps.getD d undef | none => undef) = a := by
  cases d with
  | none => rfl
  | some d =>
    simp only [Act.put]
    have : a.tmps.setIfInBounds d (a.tmps.getD d undef) = a.tmps := by
      apply Array.ext_getElem?
      intro i
      rw [Array.getElem?_setIfInBounds]
      split
      · rename_i h
        subst h
        split
        · rename_i h2; simp [Array.getD_eq_getD_getElem?, h2]
        · rename_i h2; simp at h2; simp [h2]
      · rfl
    rw [this]
theorem putFrom_self : ∀ (os : List Oper) (i : Nat) (a : Act), ∃ u, putFrom os i u a = a
  | [], _, a => ⟨fun _ => undef, rfl⟩
  | o :: os, i, a => by
    obtain ⟨u, hu⟩ := putFrom_self os (i + 1) a
    refine ⟨upd u i (match o.dst with | some d => a.tmps.getD d undef | none => undef), ?_⟩
    unfold putFrom
    rw [show upd u i (match o.dst with | some d => a.tmps.getD d undef | none => undef) i = (match o.dst with | some d => a.tmps.getD d undef | none => undef) by simp [upd], put_self, putFrom_upd _ _ _ _ _ _ (by omega), hu]

/-- What one operation is asked: it leaves a value that the predicate tells, and a world that is related. -/
def stepL (P : Program) (ops : Array Oper) (Q : Exit → Act → World → Prop) (R : World → World → Prop) (o : Oper) (V : Value → World → Prop) (a : Act) (w : World) : Prop :=
  if Region.wanted o (yielded ops a.tmps) then ∀ K : Act → World → Prop, (∀ x w', V x w' → R w w' → K (a.put o.dst x) w') → o.wp P a w K Q else V undef w ∧ R w w

/-- Which operations stand ahead of one, by way of others. -/
def selOf (l : List Oper) (o : Oper) : Nat := coverOf l l.length (o.after.toList.foldl (fun T e => if Region.binds .any e then T ||| 2 ^ e.on else T) 0)
theorem sel_sound {l : List Oper} {listed : Array Bool} (hd : Down l listed) {o : Oper} (ho : ∀ e ∈ o.after.toList, Region.binds .any e = true → Listed listed e.on) : ∀ j, (selOf l o).testBit j = true → Listed listed j :=
  cover_sound hd _ _ (fun j hj => fold_bits _ 0 (by simp) ho j hj)

theorem count_set {b : Array Bool} {i : Nat} (h : b[i]? = some false) : (b.setIfInBounds i true).toList.countP (! ·) + 1 = b.toList.countP (! ·) := by
  obtain ⟨hi, he⟩ := Array.getElem?_eq_some_iff.1 h
  have h1 : b.toList[i] = false := by simpa using he
  have hp : 0 < b.toList.countP (! ·) := by
    rw [List.countP_pos_iff]
    exact ⟨false, by rw [← h1]; exact List.getElem_mem _, rfl⟩
  have h2 := List.countP_set (p := (! ·)) (l := b.toList) (i := i) (a := true) (by simpa using hi)
  rw [h1] at h2
  rw [Array.toList_setIfInBounds, h2]
  simp only [Bool.not_true, Bool.not_false, if_true, Bool.false_eq_true, if_false, Nat.add_zero]
  omega

/-- A tail, each of whose operations waits for all that stand ahead. -/
def tailB (L : List Oper) (n : Nat) : Bool := (List.range L.length).all fun i => decide (i < n) || ((L[i]?).map fun o => (List.range i).all fun j => (selOf L o).testBit j).getD true
theorem tail_of {L : List Oper} {n i : Nat} {o : Oper} {listed : Array Bool} (h : tailB L n = true) (ho : L[i]? = some o) (hi : n ≤ i) (hd : Down L listed) (hr : ∀ e ∈ o.after.toList, Region.binds .any e = true → Listed listed e.on) : ∀ j, j < i → Listed listed j := by
  intro j hj
  have hl := (List.getElem?_eq_some_iff.1 ho).1
  have h1 := (List.all_eq_true.1 h) i (List.mem_range.2 hl)
  rw [Bool.or_eq_true] at h1
  rcases h1 with h1 | h1
  · simp at h1; omega
  · rw [ho, Option.map_some, Option.getD_some] at h1
    exact sel_sound hd hr j ((List.all_eq_true.1 h1) j (List.mem_range.2 hj))
theorem edge_of {L : List Oper} (hlex : edgesB L = true) {i : Nat} {o : Oper} (ho : L[i]? = some o) : ∀ e ∈ o.after.toList, Region.binds .any e = true → e.on < i := by
  intro e he hb
  have hi := (List.getElem?_eq_some_iff.1 ho).1
  have h6 := (List.all_eq_true.1 hlex) i (List.mem_range.2 hi)
  rw [ho, Option.map_some, Option.getD_some] at h6
  have h7 := (List.all_eq_true.1 h6) e he
  rw [hb] at h7
  simpa using h7
theorem any_seq {P : Program} {L : List Oper} {Q : Exit → Act → World → Prop} {n : Nat} (hlex : edgesB L = true) (ht : tailB L n = true) : ∀ (rest pre : List Oper) (fuel : Nat) (listed : Array Bool) (a : Act) (w : World), L = pre ++ rest → n ≤ pre.length → listed.size = L.length → Down L listed → (∀ j, Listed listed j ↔ j < pre.length) → rest.length ≤ fuel →
    wpList P L.toArray Q rest a w → wpAny P .any L.toArray Q fuel listed a w
  | [], pre, fuel, listed, a, w, hL, hn, hs, hd, hli, hf, h => by
    have hr : Region.ready .any L.toArray listed = [] := by
      rw [List.eq_nil_iff_forall_not_mem]
      intro i hi
      rw [mem_ready] at hi
      have h1 : i < pre.length := by have := hi.1; rw [hL] at this; simpa using this
      have h2 := (hli i).2 h1
      unfold Listed at h2
      rw [hi.2.1] at h2; cases h2
    cases fuel with
    | zero => exact ⟨hr, h⟩
    | succ f => exact ⟨fun _ => h, fun i hi => (by rw [hr] at hi; cases hi)⟩
  | o :: os, pre, 0, listed, a, w, hL, hn, hs, hd, hli, hf, h => by simp at hf
  | o :: os, pre, f + 1, listed, a, w, hL, hn, hs, hd, hli, hf, h => by
    have ho : L[pre.length]? = some o := by rw [hL]; simp
    have hlt : pre.length < L.length := (List.getElem?_eq_some_iff.1 ho).1
    have hnot : listed[pre.length]? = some false := by
      have h1 : ¬ Listed listed pre.length := fun h => by have := (hli _).1 h; omega
      unfold Listed at h1
      rw [Array.getElem?_eq_getElem (by omega)] at h1 ⊢
      simpa using h1
    have hrd : pre.length ∈ Region.ready .any L.toArray listed := by
      rw [mem_ready]
      exact ⟨by simpa using hlt, hnot, o, by simpa using ho, fun e he hb => (hli _).2 (edge_of hlex ho e he hb)⟩
    refine ⟨fun h0 => (by rw [h0] at hrd; cases hrd), fun i hi => ?_⟩
    rw [mem_ready] at hi
    obtain ⟨h1, h2, x, hx, h3⟩ := hi
    have hx' : L[i]? = some x := by simpa using hx
    have hge : pre.length ≤ i := by
      refine Nat.le_of_not_lt fun hlt => ?_
      have := (hli i).2 hlt
      unfold Listed at this
      rw [h2] at this; cases this
    have hall := tail_of ht hx' (by omega) hd h3
    have hii : i = pre.length := by
      refine Nat.le_antisymm (Nat.le_of_not_lt fun hlt => ?_) hge
      have := (hli _).1 (hall _ hlt)
      omega
    subst hii
    have hxo : x = o := by rw [ho] at hx'; exact (Option.some.inj hx').symm
    subst hxo
    have next : ∀ a w, wpList P L.toArray Q os a w → wpAny P .any L.toArray Q f (listed.setIfInBounds pre.length true) a w := fun a w hh =>
      any_seq hlex ht os (pre ++ [x]) f _ a w (by rw [hL]; simp) (by simp; omega) (by simpa using hs) (down_set hd ho h3) (fun j => by
        rw [listed_set, hli]
        simp only [List.length_append, List.length_cons, List.length_nil]
        constructor
        · rintro (h | ⟨h, _⟩) <;> omega
        · intro h
          by_cases hj : j < pre.length
          · exact .inl hj
          · exact .inr ⟨by omega, by omega⟩) (by simp at hf; omega) hh
    unfold wpOp
    rw [hx]
    simp only [wpList] at h ⊢
    split
    · rename_i hw
      rw [if_pos hw] at h
      exact h.imp (Oper.wp_mono next) id
    · rename_i hw
      rw [if_neg hw] at h
      exact next _ _ h

/-- The place of an operation among those that are loud. -/
def posOf : List Nat → Nat → Option Nat
  | [], _ => none
  | c :: cs, i => bif Nat.beq c i then some 0 else (posOf cs i).map (· + 1)
/-- Loud operations stand in one order: each waits for the one ahead. -/
def chainB (l : List Oper) : List Nat → Bool
  | [] => true
  | [c] => decide (c < l.length)
  | c :: d :: cs => decide (c < l.length) && ((l[d]?).map fun o => (selOf l o).testBit c).getD false && chainB l (d :: cs)
/-- Whether all other loud operations stand ahead of one. -/
def lastL (l : List Oper) (loud : List Nat) (i : Nat) (o : Oper) : Bool := let m := selOf l o; loud.all fun c => Nat.beq c i || m.testBit c
theorem beq_nat {a b : Nat} : Nat.beq a b = true ↔ a = b := ⟨Nat.eq_of_beq_eq_true, fun h => by subst h; simp⟩
theorem posOf_some : ∀ (cs : List Nat) (i p : Nat), posOf cs i = some p → cs[p]? = some i
  | [], _, _, h => by cases h
  | c :: cs, i, p, h => by
    unfold posOf at h
    cases hb : Nat.beq c i
    · rw [hb] at h
      simp only [cond_false, Option.map_eq_some_iff] at h
      obtain ⟨q, hq, rfl⟩ := h
      simpa using posOf_some cs i q hq
    · rw [hb] at h
      simp only [cond_true, Option.some.injEq] at h
      subst h
      simpa using beq_nat.1 hb
theorem posOf_mem : ∀ (cs : List Nat) (i : Nat), i ∈ cs → ∃ p, posOf cs i = some p
  | [], _, h => by cases h
  | c :: cs, i, h => by
    unfold posOf
    cases hb : Nat.beq c i
    · rcases List.mem_cons.1 h with e | h
      · exact absurd (beq_nat.2 e.symm) (by rw [hb]; simp)
      · obtain ⟨p, hp⟩ := posOf_mem cs i h
        exact ⟨p + 1, by simp [hp]⟩
    · exact ⟨0, rfl⟩
theorem chain_step {l : List Oper} : ∀ (cs : List Nat) (p c d : Nat) (o : Oper), chainB l cs = true → cs[p]? = some c → cs[p + 1]? = some d → l[d]? = some o → (selOf l o).testBit c = true
  | [], _, _, _, _, _, h, _, _ => by simp at h
  | [_], _, _, _, _, _, _, h, _ => by simp at h
  | c' :: d' :: cs, 0, c, d, o, hc, h1, h2, ho => by
    simp only [List.getElem?_cons_zero, Option.some.injEq] at h1
    simp only [List.getElem?_cons_succ, List.getElem?_cons_zero, Option.some.injEq] at h2
    subst h1; subst h2
    simp only [chainB, Bool.and_eq_true] at hc
    have := hc.1.2
    rw [ho] at this
    simpa using this
  | c' :: d' :: cs, p + 1, c, d, o, hc, h1, h2, ho => by
    simp only [chainB, Bool.and_eq_true] at hc
    exact chain_step (d' :: cs) p c d o hc.2 (by simpa using h1) (by simpa using h2) ho
theorem chain_lt {l : List Oper} : ∀ (cs : List Nat), chainB l cs = true → ∀ c ∈ cs, c < l.length
  | [], _, c, h => by cases h
  | [d], hc, c, h => by
    simp only [List.mem_singleton] at h
    subst h
    simpa [chainB] using hc
  | c' :: d' :: cs, hc, c, h => by
    simp only [chainB, Bool.and_eq_true] at hc
    rcases List.mem_cons.1 h with rfl | h
    · simpa using hc.1.1
    · exact chain_lt (d' :: cs) hc.2 c h

section
variable {P : Program} {l : List Oper} {Q : Exit → Act → World → Prop} {R R' : World → World → Prop} {S : Nat → World → Prop} {loud : List Nat} {V : Nat → Value → World → Prop} {a0 : Act} {w0 : World}
theorem yielded_app {ls tl : List Oper} {tmps : Array Value} {j : Nat} (hj : j < ls.length) : yielded (ls ++ tl).toArray tmps j = yielded ls.toArray tmps j := by
  unfold yielded
  simp [List.getElem?_append_left hj]
theorem wanted_app {ls tl : List Oper} {x : Oper} {tmps : Array Value} (hg : guardsB ls = true) {i : Nat} (hx : ls[i]? = some x) : Region.wanted x (yielded (ls ++ tl).toArray tmps) = Region.wanted x (yielded ls.toArray tmps) := by
  have := (List.all_eq_true.1 hg) x (List.mem_of_getElem? hx)
  unfold Region.wanted
  cases hgd : x.guard with
  | none => rfl
  | some g =>
    obtain ⟨j, want⟩ := g
    rw [hgd] at this
    simp only [decide_eq_true_eq] at this
    simp only [yielded_app this]
/-- What an operation may do with the world, and what it is told of it. -/
def relOf (R R' : World → World → Prop) (S : Nat → World → Prop) (loud : List Nat) (i : Nat) : World → World → Prop := match posOf loud i with
  | none => R'
  | some p => fun w w' => R w w' ∧ S (p + 1) w'
def preOf (S : Nat → World → Prop) (loud : List Nat) (i : Nat) : World → Prop := match posOf loud i with
  | none => fun _ => True
  | some p => S p
theorem any_loose {tl : List Oper} (hap : apartB l = true) (hg : guardsB l = true) (hlex : edgesB (l ++ tl) = true) (htl : tailB (l ++ tl) l.length = true) (hch : chainB l loud = true) (hnd : loud.Nodup)
    (rr : ∀ w, R' w w) (rt : ∀ a b c, R a b → R b c → R a c) (hRR : ∀ a b, R' a b → R a b) (hS : ∀ k a b, S k a → R' a b → S k b)
    (hV : ∀ i x w w', V i x w → R' w w' → V i x w') (hV2 : ∀ i o, l[i]? = some o → lastL l loud i o = false → ∀ x w w', V i x w → R w w' → V i x w')
    (hstep : ∀ i o, l[i]? = some o → ∀ u w, R w0 w → preOf S loud i w → (∀ j, (selOf l o).testBit j = true → V j (u j) w) → stepL P l.toArray Q (relOf R R' S loud i) o (V i) (putFrom l 0 u a0) w)
    (hend : ∀ u w, R w0 w → S loud.length w → (∀ j, j < l.length → V j (u j) w) → wpList P (l ++ tl).toArray Q tl (putFrom l 0 u a0) w) :
    ∀ (fuel : Nat) (listed : Array Bool) (u : Nat → Value) (w : World) (k : Nat), listed.size = (l ++ tl).length → Down (l ++ tl) listed → R w0 w → S k w → (∀ p c, loud[p]? = some c → (Listed listed c ↔ p < k)) → k ≤ loud.length → (∀ j, Listed listed j → j < l.length) → (∀ j, Listed listed j → V j (u j) w) → listed.toList.countP (! ·) ≤ fuel →
      wpAny P .any (l ++ tl).toArray Q fuel listed (putFrom l 0 u a0) w := by
  have dn : ∀ listed : Array Bool, Down (l ++ tl) listed → Down l listed := fun listed hd i x hx hi => hd i x (by rw [List.getElem?_append_left (List.getElem?_eq_some_iff.1 hx).1]; exact hx) hi
  have full : ∀ listed : Array Bool, listed.size = (l ++ tl).length → (∀ i, i < l.length → i ∉ Region.ready .any (l ++ tl).toArray listed) → ∀ i, i < l.length → Listed listed i := by
    intro listed hs hr i
    induction i using Nat.strongRecOn with
    | ind i ih =>
      intro hi
      refine Classical.byContradiction fun hn => hr i hi ?_
      have hli : (l ++ tl)[i]? = some l[i] := by rw [List.getElem?_append_left hi]; simp [hi]
      rw [mem_ready]
      refine ⟨by simp at hs ⊢; omega, ?_, l[i], by simpa using hli, fun e he hb => ih e.on (edge_of hlex hli e he hb) (by have := edge_of hlex hli e he hb; omega)⟩
      unfold Listed at hn
      rw [Array.getElem?_eq_getElem (by simp at hs; omega)] at hn ⊢
      simpa using hn
  have done : ∀ (fuel : Nat) (listed : Array Bool) (u : Nat → Value) (w : World) (k : Nat), listed.size = (l ++ tl).length → Down (l ++ tl) listed → R w0 w → S k w → (∀ p c, loud[p]? = some c → (Listed listed c ↔ p < k)) → k ≤ loud.length → (∀ j, Listed listed j → j < l.length) → (∀ j, Listed listed j → V j (u j) w) → (∀ j, j < l.length → Listed listed j) → listed.toList.countP (! ·) ≤ fuel → wpAny P .any (l ++ tl).toArray Q fuel listed (putFrom l 0 u a0) w := by
    intro fuel listed u w k hs hd hR hSk hk hkl hb hF hall hc
    have hkm : k = loud.length := by
      refine Nat.le_antisymm hkl (Nat.le_of_not_lt fun hlt => ?_)
      have h1 : loud[k]? = some loud[k] := by simp [hlt]
      have := (hk k _ h1).1 (hall _ (chain_lt loud hch _ (List.getElem_mem _)))
      omega
    subst hkm
    refine any_seq hlex htl tl l fuel listed _ w rfl (Nat.le_refl _) hs hd (fun j => ⟨hb j, hall j⟩) ?_ (hend u w hR hSk fun j hj => hF j (hall j hj))
    have h1 : listed.toList.countP (! ·) = tl.length := by
      have h2 : listed.toList = List.replicate l.length true ++ List.replicate tl.length false := by
        apply List.ext_getElem?
        intro i
        rw [List.getElem?_append]
        simp only [List.length_replicate, List.getElem?_replicate]
        by_cases h : i < l.length
        · have := hall i h
          unfold Listed at this
          rw [if_pos h, if_pos h]; simpa using this
        · rw [if_neg h]
          by_cases h3 : i - l.length < tl.length
          · rw [if_pos h3]
            have hlt : i < listed.size := by rw [hs]; simp; omega
            have : ¬ Listed listed i := fun hh => h (hb i hh)
            unfold Listed at this
            rw [Array.getElem?_eq_getElem hlt] at this
            simp only [Array.getElem?_toList, Array.getElem?_eq_getElem hlt]
            simpa using this
          · rw [if_neg h3]
            simp only [Array.getElem?_toList]
            rw [Array.getElem?_eq_none]
            rw [hs]; simp; omega
      rw [h2]
      simp [List.countP_append, List.countP_replicate]
    omega
  intro fuel
  induction fuel with
  | zero =>
    intro listed u w k hs hd hR hSk hk hkl hb hF hc
    refine done 0 listed u w k hs hd hR hSk hk hkl hb hF (full listed hs fun i hi hm => ?_) hc
    rw [mem_ready] at hm
    have := count_set hm.2.1
    omega
  | succ fuel ih =>
    intro listed u w k hs hd hR hSk hk hkl hb hF hc
    by_cases hall : ∀ j, j < l.length → Listed listed j
    · exact done _ listed u w k hs hd hR hSk hk hkl hb hF hall hc
    refine ⟨fun hr => absurd (full listed hs fun i hi hm => (by rw [hr] at hm; cases hm)) hall, fun i hi => ?_⟩
    rw [mem_ready] at hi
    obtain ⟨h1, h2, o, ho, h3⟩ := hi
    have hoL : (l ++ tl)[i]? = some o := by simpa using ho
    have hil : i < l.length := by
      refine Nat.lt_of_not_le fun hge => hall ?_
      intro j hj
      exact tail_of htl hoL hge hd h3 j (by omega)
    have ho' : l[i]? = some o := by rwa [List.getElem?_append_left hil] at hoL
    have hcs := count_set h2
    have hdn := down_set hd hoL h3
    have hun : ¬ Listed listed i := by unfold Listed; rw [h2]; simp
    have hsel := sel_sound (dn _ hd) h3
    -- which state it is, where this one is loud
    have hpos : ∀ p, posOf loud i = some p → k = p := by
      intro p hp
      have hc := posOf_some _ _ _ hp
      have h4 : ¬ p < k := fun h => hun ((hk p i hc).2 h)
      cases p with
      | zero => omega
      | succ q =>
        have hq : q < loud.length := by have := (List.getElem?_eq_some_iff.1 hc).1; omega
        have hcq : loud[q]? = some loud[q] := by simp [hq]
        have := (hk q _ hcq).1 (hsel _ (chain_step loud q _ i o hch hcq hc ho'))
        omega
    have hpre : preOf S loud i w := by
      unfold preOf
      cases hp : posOf loud i with
      | none => trivial
      | some p => have := hpos p hp; subst this; exact hSk
    have next : ∀ x w', V i x w' → relOf R R' S loud i w w' → wpAny P .any (l ++ tl).toArray Q fuel (listed.setIfInBounds i true) ((putFrom l 0 u a0).put o.dst x) w' := by
      intro x w' hx hw
      rw [putFrom_set l 0 i o u a0 x hap ho', Nat.zero_add]
      have hbs : ∀ j, Listed (listed.setIfInBounds i true) j → j < l.length := by
        intro j hj
        rcases listed_set.1 hj with h | h
        · exact hb j h
        · omega
      cases hp : posOf loud i with
      | none =>
        unfold relOf at hw
        rw [hp] at hw
        refine ih _ _ _ k (by simpa using hs) hdn (rt _ _ _ hR (hRR _ _ hw)) (hS _ _ _ hSk hw) (fun p c hc => ?_) hkl hbs (fun j hj => ?_) (by omega)
        · rw [listed_set, hk p c hc]
          constructor
          · rintro (h | ⟨h, _⟩)
            · exact h
            · subst h
              obtain ⟨q, hq⟩ := posOf_mem loud i (List.mem_of_getElem? hc)
              rw [hp] at hq; cases hq
          · exact .inl
        · by_cases hji : j = i
          · subst hji
            simpa [upd] using hx
          · rcases listed_set.1 hj with h | h
            · simpa [upd, hji] using hV _ _ _ _ (hF j h) hw
            · exact absurd h.1.symm hji
      | some p =>
        unfold relOf at hw
        rw [hp] at hw
        have hc := posOf_some _ _ _ hp
        have hkp := hpos p hp
        subst hkp
        have hlt := (List.getElem?_eq_some_iff.1 hc).1
        refine ih _ _ _ (k + 1) (by simpa using hs) hdn (rt _ _ _ hR hw.1) hw.2 (fun q c hq => ?_) hlt hbs (fun j hj => ?_) (by omega)
        · rw [listed_set, hk q c hq]
          constructor
          · rintro (h | ⟨h, _⟩)
            · omega
            · subst h
              have : q = k := by
                have h5 := (List.getElem?_eq_some_iff.1 hq).1
                exact (List.getElem?_inj h5 hnd).1 (hq.trans hc.symm)
              omega
          · intro h
            by_cases hqk : q < k
            · exact .inl hqk
            · have : q = k := by omega
              subst this
              rw [hc] at hq
              exact .inr ⟨Option.some.inj hq, by rw [← Option.some.inj hq]; exact (Array.getElem?_eq_some_iff.1 h2).1⟩
        · by_cases hji : j = i
          · subst hji
            simpa [upd] using hx
          · rcases listed_set.1 hj with h | h
            · have hjl := hb j h
              have hoj : l[j]? = some l[j] := by simp [hjl]
              have hlast : lastL l loud j l[j] = false := by
                cases hh : lastL l loud j l[j]
                · rfl
                · exfalso
                  have h6 := (List.all_eq_true.1 hh) i (List.mem_of_getElem? hc)
                  rw [Bool.or_eq_true] at h6
                  rcases h6 with h6 | h6
                  · exact hji (beq_nat.1 h6).symm
                  · exact hun (sel_sound (dn _ hd) ((dn _ hd) j _ hoj h) i h6)
              simpa [upd, hji] using hV2 j _ hoj hlast _ _ _ (hF j h) hw.1
            · exact absurd h.1.symm hji
    have rri : ∀ w', V i undef w' → True := fun _ _ => trivial
    have st := hstep i o ho' u w hR hpre (fun j hj => hF j (hsel j hj))
    unfold wpOp
    rw [ho]
    simp only
    unfold stepL at st
    rw [wanted_app hg ho']
    split
    · rename_i hw
      rw [if_pos hw] at st
      exact .inl (st _ (fun x w' hx hR' => next x w' hx hR'))
    · rename_i hw
      rw [if_neg hw] at st
      exact next undef w st.1 st.2

/-- What is told of those operations that stand ahead, the latest first. -/
def look : List (Nat × (Value → World → Prop)) → Nat → Value → World → Prop
  | [], _, _, _ => True
  | (k, V) :: r, j, x, w => bif Nat.beq k j then V x w else look r j x w
/-- What a slot holds behind operations. -/
def isDst : Option Nat → Nat → Bool
  | none, _ => false
  | some e, d => Nat.beq e d
def slotF : List Oper → Nat → (Nat → Value) → Array Value → Nat → Value
  | [], _, _, t, d => t.getD d undef
  | o :: os, i, u, t, d => bif isDst o.dst d then u i else slotF os (i + 1) u t d
theorem isDst_eq (o : Option Nat) (d : Nat) : isDst o d = (o == some d) := by
  cases o with
  | none => rfl
  | some e =>
    by_cases h : e = d
    · subst h; simp [isDst]
    · have : (some e == some d) = false := by simpa using h
      rw [this]
      show Nat.beq e d = false
      cases hb : Nat.beq e d
      · rfl
      · exact absurd (Nat.eq_of_beq_eq_true hb) h
def roomB (os : List Oper) (n : Nat) : Bool := os.all fun o => match o.dst with | some d => decide (d < n) | none => true
theorem putFrom_size : ∀ (os : List Oper) (i : Nat) (u : Nat → Value) (a : Act), (putFrom os i u a).tmps.size = a.tmps.size
  | [], _, _, _ => rfl
  | o :: os, i, u, a => by
    unfold putFrom
    rw [putFrom_size os]
    cases o.dst <;> simp [Act.put]
theorem putFrom_other : ∀ (os : List Oper) (i : Nat) (u : Nat → Value) (a : Act) (d : Nat), (os.all fun p => p.dst != some d) = true → (putFrom os i u a).tmps.getD d undef = a.tmps.getD d undef
  | [], _, _, _, _, _ => rfl
  | o :: os, i, u, a, d, h => by
    simp only [List.all_cons, Bool.and_eq_true] at h
    unfold putFrom
    rw [putFrom_other os _ _ _ d h.2]
    cases ho : o.dst with
    | none => rfl
    | some e =>
      have he : e ≠ d := by have := h.1; rw [ho] at this; simpa using this
      simp [Act.put, Array.getD_eq_getD_getElem?, Array.getElem?_setIfInBounds, he]
theorem putFrom_slot : ∀ (os : List Oper) (i : Nat) (u : Nat → Value) (a : Act) (d : Nat), apartB os = true → roomB os a.tmps.size = true → (putFrom os i u a).tmps.getD d undef = slotF os i u a.tmps d
  | [], _, _, _, _, _, _ => rfl
  | o :: os, i, u, a, d, hd, hr => by
    simp only [apartB, Bool.and_eq_true] at hd
    simp only [roomB, List.all_cons, Bool.and_eq_true] at hr
    have hr2 : roomB os (a.put o.dst (u i)).tmps.size = true := by
      have : (a.put o.dst (u i)).tmps.size = a.tmps.size := by cases o.dst <;> simp [Act.put]
      rw [this]; exact hr.2
    unfold putFrom slotF
    rw [isDst_eq]
    cases ho : o.dst with
    | none =>
      rw [ho] at hr2
      rw [putFrom_slot os (i + 1) u _ d hd.2 hr2]
      rfl
    | some e =>
      rw [ho] at hd hr hr2
      by_cases he : e = d
      · subst he
        rw [putFrom_other os _ _ _ e hd.1]
        have hlt : e < a.tmps.size := by simpa using hr.1
        simp [Act.put, Array.getD_eq_getD_getElem?, Array.getElem?_setIfInBounds, hlt]
      · rw [putFrom_slot os (i + 1) u _ d hd.2 hr2]
        have hb : (some e == some d) = false := by simpa using he
        rw [hb, cond_false]
        have aux : ∀ (os : List Oper) (i : Nat) (t s : Array Value), t.getD d undef = s.getD d undef → slotF os i u t d = slotF os i u s d := by
          intro os
          induction os with
          | nil => intro i t s h; exact h
          | cons o os ih => intro i t s h; unfold slotF; rw [ih _ _ _ h]
        refine aux _ _ _ _ ?_
        simp [Act.put, Array.getD_eq_getD_getElem?, Array.getElem?_setIfInBounds, he]

/-- Whether a guard lets an operation by, told by what its slot holds. -/
def guardIs (o : Oper) (f : Nat → Value) (ops : List Oper) (b : Bool) : Prop :=
  match o.guard with
  | none => b = true
  | some (j, want) => match (ops[j]?).bind (·.dst) with
    | some d => (∃ x, f d = .bool x ∧ b = (x == want)) ∨ (f d = undef ∧ b = false)
    | none => False
theorem wanted_of {o : Oper} {a : Act} {f : Nat → Value} {b : Bool} {ops : List Oper} (hf : ∀ d, a.tmps.getD d undef = f d) (h : guardIs o f ops b) : Region.wanted o (yielded ops.toArray a.tmps) = b := by
  unfold guardIs at h
  unfold Region.wanted
  cases hg : o.guard with
  | none => rw [hg] at h; simpa using h.symm
  | some g =>
    obtain ⟨j, want⟩ := g
    rw [hg] at h
    simp only at h ⊢
    cases hd : (ops[j]?).bind (·.dst) with
    | none => rw [hd] at h; exact h.elim
    | some d =>
      rw [hd] at h
      rcases h with ⟨x, hx, hb⟩ | ⟨hx, hb⟩
      rotate_left
      · have h2 := hf d
        rw [hx] at h2
        have hd' : (ops.toArray[j]?).bind (·.dst) = some d := by simpa using hd
        simp only [yielded, hd', Option.bind_some]
        rw [Array.getD_eq_getD_getElem?] at h2
        rw [hb]
        cases h4 : a.tmps[d]? with
        | none => rfl
        | some y =>
          rw [h4] at h2
          have : y = undef := by simpa using h2
          subst this
          rfl
      have h2 := hf d
      rw [hx] at h2
      have h3 : a.tmps[d]? = some (.bool x) := by
        rw [Array.getD_eq_getD_getElem?] at h2
        cases h4 : a.tmps[d]? with
        | none => rw [h4] at h2; simp [undef] at h2
        | some y => rw [h4] at h2; simpa using h2
      have hd' : (ops.toArray[j]?).bind (·.dst) = some d := by simpa using hd
      simp only [yielded, hd', Option.bind_some, h3]
      rw [hb]
      cases x <;> cases want <;> rfl

/-- What one operation is asked, its slots told. -/
def stepT (P : Program) (l : List Oper) (Q : Exit → Act → World → Prop) (R : World → World → Prop) (o : Oper) (V : Value → World → Prop) (f : Nat → Value) (w : World) : Prop :=
  (guardIs o f l true ∧ ∀ a : Act, (∀ d, a.tmps.getD d undef = f d) → ∀ K : Act → World → Prop, (∀ x w', V x w' → R w w' → K (a.put o.dst x) w') → o.wp P a w K Q) ∨ (guardIs o f l false ∧ V undef w ∧ R w w)
theorem stepL_of {f : Nat → Value} {o : Oper} {V : Value → World → Prop} {a : Act} {w : World} (ha : ∀ d, a.tmps.getD d undef = f d) (h : stepT P l Q R o V f w) : stepL P l.toArray Q R o V a w := by
  rcases h with ⟨hg, h⟩ | ⟨hg, h⟩
  · unfold stepL; rw [if_pos (wanted_of ha hg)]; exact h a ha
  · unfold stepL; rw [if_neg (by rw [wanted_of ha hg]; simp)]; exact h
/-- The region, one operation at a time, in the order of the text. -/
def Lo (P : Program) (l : List Oper) (Q : Exit → Act → World → Prop) (E : Act → World → Prop) (R R' : World → World → Prop) (S : Nat → World → Prop) (loud : List Nat) (w0 : World) (a0 : Act) : List Oper → Nat → List (Nat × (Value → World → Prop)) → Prop
  | [], _, Vs => ∀ u w, R w0 w → S loud.length w → (∀ j, look Vs j (u j) w) → E (putFrom l 0 u a0) w
  | o :: os, i, Vs => ∃ V : Value → World → Prop, (∀ x w w', V x w → R' w w' → V x w') ∧ (lastL l loud i o = false → ∀ x w w', V x w → R w w' → V x w') ∧ (∀ u w, R w0 w → preOf S loud i w → (∀ j, (selOf l o).testBit j = true → look Vs j (u j) w) → stepT P l Q (relOf R R' S loud i) o V (slotF l 0 u a0.tmps) w) ∧ Lo P l Q E R R' S loud w0 a0 os (i + 1) ((i, V) :: Vs)
theorem look_cons (k : Nat) (V : Value → World → Prop) (r : List (Nat × (Value → World → Prop))) (j : Nat) : look ((k, V) :: r) j = if k = j then V else look r j := by
  funext x w
  unfold look
  by_cases h : k = j
  · subst h; simp
  · have : Nat.beq k j = false := by
      cases hb : Nat.beq k j
      · rfl
      · exact absurd (Nat.eq_of_beq_eq_true hb) h
    rw [this, if_neg h]; rfl
theorem look_above : ∀ (Vs : List (Nat × (Value → World → Prop))) (n j : Nat), (∀ p ∈ Vs, p.1 < n) → n ≤ j → look Vs j = fun _ _ => True
  | [], _, _, _, _ => rfl
  | (k, V) :: r, n, j, h, hj => by
    have hk : k < n := h (k, V) (by simp)
    rw [look_cons, if_neg (by omega), look_above r n j (fun p hp => h p (by simp [hp])) hj]
variable {E : Act → World → Prop}
theorem lo_collect : ∀ (os : List Oper) (pre : List Oper) (Vs : List (Nat × (Value → World → Prop))), l = pre ++ os → (∀ p ∈ Vs, p.1 < pre.length) → Lo P l Q E R R' S loud w0 a0 os pre.length Vs →
    ∃ Ws : List (Nat × (Value → World → Prop)), (∀ j, j < pre.length → look Ws j = look Vs j) ∧ (∀ j, pre.length ≤ j → ∀ x w w', look Ws j x w → R' w w' → look Ws j x w') ∧ (∀ j o, pre.length ≤ j → l[j]? = some o → lastL l loud j o = false → ∀ x w w', look Ws j x w → R w w' → look Ws j x w') ∧
      (∀ (i : Nat) (o : Oper), pre.length ≤ i → l[i]? = some o → ∀ u w, R w0 w → preOf S loud i w → (∀ j, (selOf l o).testBit j = true → look Ws j (u j) w) → stepT P l Q (relOf R R' S loud i) o (look Ws i) (slotF l 0 u a0.tmps) w) ∧
      (∀ j, l.length ≤ j → look Ws j = fun _ _ => True) ∧ (∀ u w, R w0 w → S loud.length w → (∀ j, look Ws j (u j) w) → E (putFrom l 0 u a0) w)
  | [], pre, Vs, hl, hk, h => by
    refine ⟨Vs, fun _ _ => rfl, fun j hj x w w' hx _ => ?_, fun j o hj ho => ?_, fun i o hi ho => ?_, ?_, h⟩
    · rw [look_above Vs _ j hk hj]; trivial
    · rw [hl, List.append_nil] at ho
      have := (List.getElem?_eq_some_iff.1 ho).1
      omega
    · rw [hl, List.append_nil] at ho
      have := (List.getElem?_eq_some_iff.1 ho).1
      omega
    · rw [hl, List.append_nil]; exact fun j hj => look_above Vs _ j hk hj
  | o :: os, pre, Vs, hl, hk, h => by
    obtain ⟨V, h1, h1', h2, h3⟩ := h
    have hlen : (pre ++ [o]).length = pre.length + 1 := by simp
    obtain ⟨Ws, g1, g2, g2', g3, g5, g4⟩ := lo_collect os (pre ++ [o]) ((pre.length, V) :: Vs) (by rw [hl]; simp) (by
      intro p hp
      rw [hlen]
      rcases List.mem_cons.1 hp with rfl | hp
      · simp
      · have := hk p hp; omega) (by rw [hlen]; exact h3)
    rw [hlen] at g1 g2 g2' g3
    have e0 : look Ws pre.length = V := by rw [g1 _ (by omega), look_cons, if_pos rfl]
    have e1 : ∀ j, j < pre.length → look Ws j = look Vs j := fun j hj => by rw [g1 _ (by omega), look_cons, if_neg (by omega)]
    have eo : ∀ p, l[pre.length]? = some p → p = o := fun p hp => by rw [hl] at hp; simpa using hp.symm
    refine ⟨Ws, e1, fun j hj => ?_, fun j p hj hp => ?_, fun i p hi hp => ?_, g5, g4⟩
    · rcases Nat.eq_or_lt_of_le hj with h | h
      · subst h; rw [e0]; exact h1
      · exact g2 j (by omega)
    · rcases Nat.eq_or_lt_of_le hj with h | h
      · subst h; rw [e0, eo p hp]; exact h1'
      · exact g2' j p (by omega) hp
    · rcases Nat.eq_or_lt_of_le hi with h | h
      · subst h
        have := eo p hp
        subst this
        rw [e0]
        intro u w hR hP hF
        refine h2 u w hR hP fun j hj => ?_
        by_cases hjl : j < pre.length
        · rw [← e1 j hjl]; exact hF j hj
        · rw [look_above Vs _ j hk (by omega)]; trivial
      · exact g3 i p (by omega) hp
/-- THE LAW: each operation is asked once; loud ones, which stand in one order, hand a state on; a tail, each of whose operations waits for all ahead, is walked in its order. -/
theorem wp_region_loud {id : Nat} {L : List Oper} (n : Nat) (R R' : World → World → Prop) (S : Nat → World → Prop) (loud : List Nat) (hm : P.follows .mixedOrders = true) (hap : apartB (L.take n) = true) (hg : guardsB (L.take n) = true) (hlex : edgesB L = true) (htl : tailB L n = true) (hch : chainB (L.take n) loud = true) (hn : n ≤ L.length) (hnd : loud.Nodup) (hrm : roomB (L.take n) a0.tmps.size = true)
    (rr : ∀ w, R' w w) (rt : ∀ a b c, R a b → R b c → R a c) (hRR : ∀ a b, R' a b → R a b) (hS : ∀ k a b, S k a → R' a b → S k b) (hS0 : S 0 w0.drew)
    (h : Lo P (L.take n) Q (fun a w => wpList P L.toArray Q (L.drop n) a w) R R' S loud w0.drew a0 (L.take n) 0 []) : (Code.region id L.toArray true).wp P Q a0 w0 := by
  obtain ⟨l, hl⟩ : ∃ l, l = L.take n := ⟨_, rfl⟩
  obtain ⟨tl, htl'⟩ : ∃ tl, tl = L.drop n := ⟨_, rfl⟩
  have hL : L = l ++ tl := by rw [hl, htl', List.take_append_drop]
  have hln : l.length = n := by rw [hl]; simp; omega
  rw [← hl, ← htl'] at h
  rw [← hl] at hap hg hrm hch
  rw [← hln] at htl
  clear hl htl'
  subst hL
  obtain ⟨Ws, -, hs, hs', hst, hab, he⟩ := lo_collect (l := l) l [] [] (by simp) (by simp) h
  refine wp_region_any hm ?_
  obtain ⟨u, hu⟩ := putFrom_self l 0 a0
  have none_listed : ∀ i, ¬ Listed (Array.replicate (l ++ tl).length false) i := by
    intro i hi
    unfold Listed at hi
    rw [Array.getElem?_replicate] at hi
    split at hi <;> cases hi
  have hall := any_loose (P := P) (l := l) (tl := tl) (Q := Q) (R := R) (R' := R') (S := S) (loud := loud) (V := look Ws) (a0 := a0) (w0 := w0.drew) hap hg hlex htl hch hnd rr rt hRR hS
    (fun i x w w' hx hR => hs i (by simp) x w w' hx hR)
    (fun i o ho hl => hs' i o (by simp) ho hl)
    (fun i o ho u w hR hP hF => stepL_of (fun d => putFrom_slot l 0 u a0 d hap hrm) (hst i o (by simp) ho u w hR hP hF))
    (fun u w hR hSm hF => he u w hR hSm (fun j => by
      by_cases hj : j < l.length
      · exact hF j hj
      · rw [hab j (by omega)]; trivial))
    (l ++ tl).length (Array.replicate (l ++ tl).length false) u w0.drew 0 (by simp) (fun i x _ hi => absurd hi (none_listed i)) (hRR _ _ (rr _)) hS0 (fun p c _ => ⟨fun h => absurd h (none_listed c), fun h => absurd h (Nat.not_lt_zero _)⟩) (Nat.zero_le _) (fun j hj => absurd hj (none_listed j)) (fun j hj => absurd hj (none_listed j)) (by
      have := List.countP_le_length (p := fun b => !b) (l := (Array.replicate (l ++ tl).length false).toList)
      simpa using this)
  rw [hu] at hall
  simpa using hall
/-- Nothing loud. -/
theorem wp_region_tail {id : Nat} {L : List Oper} (n : Nat) (R : World → World → Prop) (hm : P.follows .mixedOrders = true) (hap : apartB (L.take n) = true) (hg : guardsB (L.take n) = true) (hlex : edgesB L = true) (htl : tailB L n = true) (hn : n ≤ L.length) (hrm : roomB (L.take n) a0.tmps.size = true) (rr : ∀ w, R w w) (rt : ∀ a b c, R a b → R b c → R a c)
    (h : Lo P (L.take n) Q (fun a w => wpList P L.toArray Q (L.drop n) a w) R R (fun _ _ => True) [] w0.drew a0 (L.take n) 0 []) : (Code.region id L.toArray true).wp P Q a0 w0 :=
  wp_region_loud n R R _ [] hm hap hg hlex htl rfl hn List.nodup_nil hrm rr rt (fun _ _ h => h) (fun _ _ _ _ _ => trivial) trivial h
/-- Without a tail. -/
theorem wp_region_loose {id : Nat} (R : World → World → Prop) (hm : P.follows .mixedOrders = true) (hap : apartB l = true) (hlex : edgesB l = true) (hg : guardsB l = true) (hrm : roomB l a0.tmps.size = true) (rr : ∀ w, R w w) (rt : ∀ a b c, R a b → R b c → R a c)
    (h : Lo P l Q (fun a w => Q .normal a w) R R (fun _ _ => True) [] w0.drew a0 l 0 []) : (Code.region id l.toArray true).wp P Q a0 w0 := by
  have e1 : l.take l.length = l := List.take_length
  have e2 : l.drop l.length = [] := List.drop_length
  refine wp_region_tail l.length R hm (by rw [e1]; exact hap) (by rw [e1]; exact hg) hlex ?_ (Nat.le_refl _) (by rw [e1]; exact hrm) rr rt ?_
  · unfold tailB
    rw [List.all_eq_true]
    intro i hi
    have := List.mem_range.1 hi
    simp [this]
  · rw [e1, e2]; exact h

/-- The facts of those operations that are named. -/
def factsAt (Vs : List (Nat × (Value → World → Prop))) (u : Nat → Value) (w : World) : List Nat → Prop
  | [] => True
  | j :: js => look Vs j (u j) w ∧ factsAt Vs u w js
def selB (l : List Oper) (o : Oper) (js : List Nat) : Bool := let m := selOf l o; js.all fun j => m.testBit j
theorem factsAt_of {p : Nat → Bool} {Vs : List (Nat × (Value → World → Prop))} {u : Nat → Value} {w : World} (hf : ∀ j, p j = true → look Vs j (u j) w) : ∀ js : List Nat, js.all p = true → factsAt Vs u w js
  | [], _ => trivial
  | j :: js, h => by
    simp only [List.all_cons, Bool.and_eq_true] at h
    exact ⟨hf j h.1, factsAt_of hf js h.2⟩

/-- An operation that is carried out, and leaves what a predicate tells; of those ahead, these facts are used. -/
theorem Lo.run {o : Oper} {os : List Oper} {Vs : List (Nat × (Value → World → Prop))} {i : Nat} (n : Nat) (hn : i + 1 = n) (hq : posOf loud i = none) (js : List Nat) (V : Value → World → Prop) (hj : selB l o js = true) (hV : ∀ x w w', V x w → R w w' → V x w') (hRR : ∀ a b, R' a b → R a b)
    (h1 : ∀ u w, R w0 w → factsAt Vs u w js → guardIs o (slotF l 0 u a0.tmps) l true ∧ ∀ a : Act, (∀ d, a.tmps.getD d undef = slotF l 0 u a0.tmps d) → ∀ K : Act → World → Prop, (∀ x w', V x w' → R' w w' → K (a.put o.dst x) w') → o.wp P a w K Q)
    (h2 : Lo P l Q E R R' S loud w0 a0 os n ((i, V) :: Vs)) : Lo P l Q E R R' S loud w0 a0 (o :: os) i Vs :=
  ⟨V, fun x w w' h k => hV x w w' h (hRR _ _ k), fun _ => hV, fun u w hR _ hF => .inl (by unfold relOf; rw [hq]; exact h1 u w hR (factsAt_of hF js hj)), by rw [hn]; exact h2⟩
/-- A loud one: it is told the state, and hands on the next. -/
theorem Lo.noisy {o : Oper} {os : List Oper} {Vs : List (Nat × (Value → World → Prop))} {i : Nat} (n : Nat) (hn : i + 1 = n) (p : Nat) (hq : posOf loud i = some p) (js : List Nat) (V : Value → World → Prop) (hj : selB l o js = true) (hV : ∀ x w w', V x w → R' w w' → V x w') (hV2 : lastL l loud i o = true ∨ ∀ x w w', V x w → R w w' → V x w')
    (h1 : ∀ u w, R w0 w → S p w → factsAt Vs u w js → guardIs o (slotF l 0 u a0.tmps) l true ∧ ∀ a : Act, (∀ d, a.tmps.getD d undef = slotF l 0 u a0.tmps d) → ∀ K : Act → World → Prop, (∀ x w', V x w' → R w w' → S (p + 1) w' → K (a.put o.dst x) w') → o.wp P a w K Q)
    (h2 : Lo P l Q E R R' S loud w0 a0 os n ((i, V) :: Vs)) : Lo P l Q E R R' S loud w0 a0 (o :: os) i Vs :=
  ⟨V, hV, fun hl => hV2.elim (fun h => by rw [h] at hl; cases hl) id, fun u w hR hP hF => .inl (by
    unfold preOf at hP
    rw [hq] at hP
    obtain ⟨g1, g2⟩ := h1 u w hR hP (factsAt_of hF js hj)
    unfold relOf
    rw [hq]
    exact ⟨g1, fun a ha K hK => g2 a ha K (fun x w' hx hR hS => hK x w' hx ⟨hR, hS⟩)⟩), by rw [hn]; exact h2⟩
theorem Lo.runv {o : Oper} {os : List Oper} {Vs : List (Nat × (Value → World → Prop))} {i : Nat} (n : Nat) (hn : i + 1 = n) (hq : posOf loud i = none) (js : List Nat) (v : Value) (hj : selB l o js = true)
    (h1 : ∀ u w, R w0 w → factsAt Vs u w js → guardIs o (slotF l 0 u a0.tmps) l true ∧ ∀ a : Act, (∀ d, a.tmps.getD d undef = slotF l 0 u a0.tmps d) → ∀ K : Act → World → Prop, (∀ x, x = v → K (a.put o.dst x) w) → o.wp P a w K Q)
    (rr : ∀ w, R' w w) (h2 : Lo P l Q E R R' S loud w0 a0 os n ((i, fun x _ => x = v) :: Vs)) : Lo P l Q E R R' S loud w0 a0 (o :: os) i Vs :=
  ⟨_, fun _ _ _ h _ => h, fun _ _ _ _ h _ => h, fun u w hR _ hF => .inl (by
    unfold relOf; rw [hq]
    obtain ⟨g1, g2⟩ := h1 u w hR (factsAt_of hF js hj)
    exact ⟨g1, fun a ha K hK => g2 a ha K (fun x hx => hK _ _ hx (rr _))⟩), by rw [hn]; exact h2⟩
/-- One that leaves a value outright, which the walk finds. -/
theorem Lo.runx {o : Oper} {os : List Oper} {Vs : List (Nat × (Value → World → Prop))} {i : Nat} (n : Nat) (hn : i + 1 = n) (hq : posOf loud i = none) (js : List Nat) (hj : selB l o js = true) (rr : ∀ w, R' w w)
    (h : ∃ v : Value, (∀ u w, R w0 w → factsAt Vs u w js → guardIs o (slotF l 0 u a0.tmps) l true ∧ ∀ a : Act, (∀ d, a.tmps.getD d undef = slotF l 0 u a0.tmps d) → ∀ K : Act → World → Prop, (∀ x, x = v → K (a.put o.dst x) w) → o.wp P a w K Q) ∧
      Lo P l Q E R R' S loud w0 a0 os n ((i, fun x _ => x = v) :: Vs)) : Lo P l Q E R R' S loud w0 a0 (o :: os) i Vs := by
  obtain ⟨v, h1, h2⟩ := h
  exact Lo.runv n hn hq js v hj h1 rr h2
/-- One that its guard passes over. -/
theorem Lo.pass {o : Oper} {os : List Oper} {Vs : List (Nat × (Value → World → Prop))} {i : Nat} (n : Nat) (hn : i + 1 = n) (hq : posOf loud i = none) (js : List Nat) (hj : selB l o js = true) (rr : ∀ w, R' w w)
    (h1 : ∀ u w, R w0 w → factsAt Vs u w js → guardIs o (slotF l 0 u a0.tmps) l false) (h2 : Lo P l Q E R R' S loud w0 a0 os n ((i, fun x _ => x = undef) :: Vs)) : Lo P l Q E R R' S loud w0 a0 (o :: os) i Vs :=
  ⟨_, fun _ _ _ h _ => h, fun _ _ _ _ h _ => h, fun u w hR _ hF => .inr ⟨h1 u w hR (factsAt_of hF js hj), rfl, by unfold relOf; rw [hq]; exact rr _⟩, by rw [hn]; exact h2⟩
/-- What a guard's slot holds, where it is carried out under a condition itself. -/
theorem guard_t {x : Value} {c t want : Bool} (h : x = bif c then .bool t else undef) (hc : (c && (t == want)) = true) : (∃ y, x = .bool y ∧ true = (y == want)) ∨ (x = undef ∧ true = false) := by
  cases c <;> simp at hc
  subst hc
  exact .inl ⟨t, h, by simp⟩
theorem guard_f {x : Value} {c t want : Bool} (h : x = bif c then .bool t else undef) (hc : (c && (t == want)) = false) : (∃ y, x = .bool y ∧ false = (y == want)) ∨ (x = undef ∧ false = false) := by
  cases c
  · exact .inr ⟨h, rfl⟩
  · exact .inl ⟨t, h, by simpa using hc.symm⟩
theorem guard_t0 {x : Value} {t want : Bool} (h : x = .bool t) (hc : (t == want) = true) : (∃ y, x = .bool y ∧ true = (y == want)) ∨ (x = undef ∧ true = false) := .inl ⟨t, h, hc.symm⟩
theorem guard_f0 {x : Value} {t want : Bool} (h : x = .bool t) (hc : (t == want) = false) : (∃ y, x = .bool y ∧ false = (y == want)) ∨ (x = undef ∧ false = false) := .inl ⟨t, h, hc.symm⟩
/-- One that is carried out under a condition that is not decided. -/
theorem Lo.cond {o : Oper} {os : List Oper} {Vs : List (Nat × (Value → World → Prop))} {i : Nat} (n : Nat) (hn : i + 1 = n) (hq : posOf loud i = none) (js : List Nat) (hj : selB l o js = true) (rr : ∀ w, R' w w) (c : Bool)
    (h : ∃ v : Value, (∀ u w, R w0 w → factsAt Vs u w js → c = false → guardIs o (slotF l 0 u a0.tmps) l false) ∧
      (∀ u w, R w0 w → factsAt Vs u w js → c = true → guardIs o (slotF l 0 u a0.tmps) l true ∧ ∀ a : Act, (∀ d, a.tmps.getD d undef = slotF l 0 u a0.tmps d) → ∀ K : Act → World → Prop, (∀ x, x = v → K (a.put o.dst x) w) → o.wp P a w K Q) ∧
      Lo P l Q E R R' S loud w0 a0 os n ((i, fun x _ => x = bif c then v else undef) :: Vs)) : Lo P l Q E R R' S loud w0 a0 (o :: os) i Vs := by
  obtain ⟨v, h1, h2, h3⟩ := h
  cases c with
  | false => exact Lo.pass n hn hq js hj rr (fun u w hR hF => h1 u w hR hF rfl) h3
  | true => exact Lo.runv n hn hq js v hj (fun u w hR hF => h2 u w hR hF rfl) rr h3
theorem Lo.done {Vs : List (Nat × (Value → World → Prop))} {i : Nat} (js : List Nat) (h : ∀ u w, R w0 w → S loud.length w → factsAt Vs u w js → E (putFrom l 0 u a0) w) : Lo P l Q E R R' S loud w0 a0 [] i Vs :=
  fun u w hR hSm hF => h u w hR hSm (factsAt_of (p := fun _ => true) (fun j _ => hF j) js (by simp))
end

end Go.Proofs.YtcficgpknokpbaaDoor
