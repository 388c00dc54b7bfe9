/- Loose, Rd, PutP, PutN, RdB, RdC, PutR, GetR, Tk, Wia, Wib, Wiv, Wih: texts merged. -/
import Derived.Test.YtcpjohpbakbggaaDoorM1
import Derived.Laws.BitsAllLaws
import Derived.Deep.RegionWith
/- A region that draws its order, whose operations may make memory: each operation is asked once, in whatever order those stand that it doesn't wait for; what each leaves is told by a predicate that later worlds keep. No program. -/
namespace Go.Proofs.YtcpjohpbakbggaaDoor
open Go.RowKit
set_option linter.unusedSimpArgs false
set_option linter.unusedVariables false

/-- The frame behind operations whose slots hold these. -/
def putFrom : List Oper → Nat → (Nat → Value) → Act → Act
  | [], _, _, a => a
  | o :: os, i, u, a => putFrom os (i + 1) u (a.put o.dst (u i))
def upd (u : Nat → Value) (k : Nat) (x : Value) : Nat → Value := fun j => if j = k then x else u j
/-- No two operations have one slot. -/
def apartB : List Oper → Bool
  | [] => true
  | o :: os => (match o.dst with
    | some d => os.all fun p => p.dst != some d
    | none => true) && apartB os

theorem put_twice (a : Act) (d : Option Tmp) (x y : Value) : (a.put d x).put d y = a.put d y := by
  cases d <;> simp [Act.put]
theorem put_comm (a : Act) (d e : Option Tmp) (x y : Value) (h : d = none ∨ d ≠ e) : (a.put d x).put e y = (a.put e y).put d x := by
  cases d with
  | none => simp [Act.put]
  | some d =>
    cases e with
    | none => simp [Act.put]
    | some e =>
      have : d ≠ e := by
        rcases h with h | h
        · cases h
        · exact fun he => h (by rw [he])
      simp only [Act.put]
      rw [Array.setIfInBounds_comm _ _ this]
theorem putFrom_put : ∀ (os : List Oper) (i : Nat) (u : Nat → Value) (a : Act) (d : Option Tmp) (x : Value), (d = none ∨ ∀ p ∈ os, p.dst ≠ d) → (putFrom os i u a).put d x = putFrom os i u (a.put d x)
  | [], _, _, _, _, _, _ => rfl
  | o :: os, i, u, a, d, x, h => by
    unfold putFrom
    rw [putFrom_put os (i + 1) u _ d x (h.imp id fun h p hp => h p (by simp [hp])), put_comm]
    rcases h with h | h
    · by_cases e : o.dst = none
      · exact .inl e
      · exact .inr (by rw [h]; exact e)
    · exact .inr (h o (by simp))
theorem putFrom_upd : ∀ (os : List Oper) (i k : Nat) (u : Nat → Value) (a : Act) (x : Value), k < i → putFrom os i (upd u k x) a = putFrom os i u a
  | [], _, _, _, _, _, _ => rfl
  | o :: os, i, k, u, a, x, h => by
    unfold putFrom
    rw [putFrom_upd os (i + 1) k u _ x (by omega)]
    have : ¬ i = k := by omega
    simp only [upd, if_neg this]
theorem putFrom_set : ∀ (os : List Oper) (i k : Nat) (o : Oper) (u : Nat → Value) (a : Act) (x : Value), apartB os = true → os[k]? = some o → (putFrom os i u a).put o.dst x = putFrom os i (upd u (i + k) x) a
  | [], _, _, _, _, _, _, _, h => by simp at h
  | p :: os, i, 0, o, u, a, x, hd, h => by
    simp only [List.getElem?_cons_zero, Option.some.injEq] at h
    subst h
    simp only [apartB, Bool.and_eq_true] at hd
    unfold putFrom
    rw [putFrom_put, put_twice, Nat.add_zero, putFrom_upd _ _ _ _ _ _ (by omega)]
    · simp [upd]
    · cases hp : p.dst with
      | none => exact .inl rfl
      | some d =>
        rw [hp] at hd
        refine .inr fun q hq => ?_
        have := (List.all_eq_true.1 hd.1) q hq
        simpa using this
  | p :: os, i, k + 1, o, u, a, x, hd, h => by
    simp only [List.getElem?_cons_succ] at h
    simp only [apartB, Bool.and_eq_true] at hd
    unfold putFrom
    rw [putFrom_set os (i + 1) k o u _ x hd.2 h, show i + 1 + k = i + (k + 1) by omega]
    have : ¬ i = i + (k + 1) := by omega
    simp only [upd, if_neg this]
theorem put_self (a : Act) (d : Option Tmp) : a.put d (match d with | some d => a.tmps.getD d undef | none => undef) = a := by
  cases d with
  | none => rfl
  | some d =>
    simp only [Act.put]
    have : a.tmps.setIfInBounds d (a.tmps.getD d undef) = a.tmps := by
      apply Array.ext_getElem?
      intro i
      rw [Array.getElem?_setIfInBounds]
      split
      · rename_i h
        subst h
        split
        · rename_i h2; simp [Array.getD_eq_getD_getElem?, h2]
        · rename_i h2; simp at h2; simp [h2]
      · rfl
    rw [this]
theorem putFrom_self : ∀ (os : List Oper) (i : Nat) (a : Act), ∃ u, putFrom os i u a = a
  | [], _, a => ⟨fun _ => undef, rfl⟩
  | o :: os, i, a => by
    obtain ⟨u, hu⟩ := putFrom_self os (i + 1) a
    refine ⟨upd u i (match o.dst with | some d => a.tmps.getD d undef | none => undef), ?_⟩
    unfold putFrom
    rw [show upd u i (match o.dst with | some d => a.tmps.getD d undef | none => undef) i = (match o.dst with | some d => a.tmps.getD d undef | none => undef) by simp [upd], put_self, putFrom_upd _ _ _ _ _ _ (by omega), hu]

/-- What one operation is asked: it leaves a value that the predicate tells, and a world that is related. -/
def stepL (P : Program) (ops : Array Oper) (Q : Exit → Act → World → Prop) (R : World → World → Prop) (o : Oper) (V : Value → World → Prop) (a : Act) (w : World) : Prop :=
  if Region.wanted o (yielded ops a.tmps) then ∀ K : Act → World → Prop, (∀ x w', V x w' → R w w' → K (a.put o.dst x) w') → o.wp P a w K Q else V undef w ∧ R w w

/-- Which operations stand ahead of one, by way of others. -/
def selOf (l : List Oper) (o : Oper) : Nat := coverOf l l.length (o.after.toList.foldl (fun T e => if Region.binds .any e then T ||| 2 ^ e.on else T) 0)
theorem sel_sound {l : List Oper} {listed : Array Bool} (hd : Down l listed) {o : Oper} (ho : ∀ e ∈ o.after.toList, Region.binds .any e = true → Listed listed e.on) : ∀ j, (selOf l o).testBit j = true → Listed listed j :=
  cover_sound hd _ _ (fun j hj => fold_bits _ 0 (by simp) ho j hj)

theorem count_set {b : Array Bool} {i : Nat} (h : b[i]? = some false) : (b.setIfInBounds i true).toList.countP (! ·) + 1 = b.toList.countP (! ·) := by
  obtain ⟨hi, he⟩ := Array.getElem?_eq_some_iff.1 h
  have h1 : b.toList[i] = false := by simpa using he
  have hp : 0 < b.toList.countP (! ·) := by
    rw [List.countP_pos_iff]
    exact ⟨false, by rw [← h1]; exact List.getElem_mem _, rfl⟩
  have h2 := List.countP_set (p := (! ·)) (l := b.toList) (i := i) (a := true) (by simpa using hi)
  rw [h1] at h2
  rw [Array.toList_setIfInBounds, h2]
  simp only [Bool.not_true, Bool.not_false, if_true, Bool.false_eq_true, if_false, Nat.add_zero]
  omega

/-- A tail, each of whose operations waits for all that stand ahead. -/
def tailB (L : List Oper) (n : Nat) : Bool := (List.range L.length).all fun i => decide (i < n) || ((L[i]?).map fun o => (List.range i).all fun j => (selOf L o).testBit j).getD true
theorem tail_of {L : List Oper} {n i : Nat} {o : Oper} {listed : Array Bool} (h : tailB L n = true) (ho : L[i]? = some o) (hi : n ≤ i) (hd : Down L listed) (hr : ∀ e ∈ o.after.toList, Region.binds .any e = true → Listed listed e.on) : ∀ j, j < i → Listed listed j := by
  intro j hj
  have hl := (List.getElem?_eq_some_iff.1 ho).1
  have h1 := (List.all_eq_true.1 h) i (List.mem_range.2 hl)
  rw [Bool.or_eq_true] at h1
  rcases h1 with h1 | h1
  · simp at h1; omega
  · rw [ho, Option.map_some, Option.getD_some] at h1
    exact sel_sound hd hr j ((List.all_eq_true.1 h1) j (List.mem_range.2 hj))
theorem edge_of {L : List Oper} (hlex : edgesB L = true) {i : Nat} {o : Oper} (ho : L[i]? = some o) : ∀ e ∈ o.after.toList, Region.binds .any e = true → e.on < i := by
  intro e he hb
  have hi := (List.getElem?_eq_some_iff.1 ho).1
  have h6 := (List.all_eq_true.1 hlex) i (List.mem_range.2 hi)
  rw [ho, Option.map_some, Option.getD_some] at h6
  have h7 := (List.all_eq_true.1 h6) e he
  rw [hb] at h7
  simpa using h7
theorem any_seq {P : Program} {L : List Oper} {Q : Exit → Act → World → Prop} {n : Nat} (hlex : edgesB L = true) (ht : tailB L n = true) : ∀ (rest pre : List Oper) (fuel : Nat) (listed : Array Bool) (a : Act) (w : World), L = pre ++ rest → n ≤ pre.length → listed.size = L.length → Down L listed → (∀ j, Listed listed j ↔ j < pre.length) → rest.length ≤ fuel →
    wpList P L.toArray Q rest a w → wpAny P .any L.toArray Q fuel listed a w
  | [], pre, fuel, listed, a, w, hL, hn, hs, hd, hli, hf, h => by
    have hr : Region.ready .any L.toArray listed = [] := by
      rw [List.eq_nil_iff_forall_not_mem]
      intro i hi
      rw [mem_ready] at hi
      have h1 : i < pre.length := by have := hi.1; rw [hL] at this; simpa using this
      have h2 := (hli i).2 h1
      unfold Listed at h2
      rw [hi.2.1] at h2; cases h2
    cases fuel with
    | zero => exact ⟨hr, h⟩
    | succ f => exact ⟨fun _ => h, fun i hi => (by rw [hr] at hi; cases hi)⟩
  | o :: os, pre, 0, listed, a, w, hL, hn, hs, hd, hli, hf, h => by simp at hf
  | o :: os, pre, f + 1, listed, a, w, hL, hn, hs, hd, hli, hf, h => by
    have ho : L[pre.length]? = some o := by rw [hL]; simp
    have hlt : pre.length < L.length := (List.getElem?_eq_some_iff.1 ho).1
    have hnot : listed[pre.length]? = some false := by
      have h1 : ¬ Listed listed pre.length := fun h => by have := (hli _).1 h; omega
      unfold Listed at h1
      rw [Array.getElem?_eq_getElem (by omega)] at h1 ⊢
      simpa using h1
    have hrd : pre.length ∈ Region.ready .any L.toArray listed := by
      rw [mem_ready]
      exact ⟨by simpa using hlt, hnot, o, by simpa using ho, fun e he hb => (hli _).2 (edge_of hlex ho e he hb)⟩
    refine ⟨fun h0 => (by rw [h0] at hrd; cases hrd), fun i hi => ?_⟩
    rw [mem_ready] at hi
    obtain ⟨h1, h2, x, hx, h3⟩ := hi
    have hx' : L[i]? = some x := by simpa using hx
    have hge : pre.length ≤ i := by
      refine Nat.le_of_not_lt fun hlt => ?_
      have := (hli i).2 hlt
      unfold Listed at this
      rw [h2] at this; cases this
    have hall := tail_of ht hx' (by omega) hd h3
    have hii : i = pre.length := by
      refine Nat.le_antisymm (Nat.le_of_not_lt fun hlt => ?_) hge
      have := (hli _).1 (hall _ hlt)
      omega
    subst hii
    have hxo : x = o := by rw [ho] at hx'; exact (Option.some.inj hx').symm
    subst hxo
    have next : ∀ a w, wpList P L.toArray Q os a w → wpAny P .any L.toArray Q f (listed.setIfInBounds pre.length true) a w := fun a w hh =>
      any_seq hlex ht os (pre ++ [x]) f _ a w (by rw [hL]; simp) (by simp; omega) (by simpa using hs) (down_set hd ho h3) (fun j => by
        rw [listed_set, hli]
        simp only [List.length_append, List.length_cons, List.length_nil]
        constructor
        · rintro (h | ⟨h, _⟩) <;> omega
        · intro h
          by_cases hj : j < pre.length
          · exact .inl hj
          · exact .inr ⟨by omega, by omega⟩) (by simp at hf; omega) hh
    unfold wpOp
    rw [hx]
    simp only [wpList] at h ⊢
    split
    · rename_i hw
      rw [if_pos hw] at h
      exact h.imp (Oper.wp_mono next) id
    · rename_i hw
      rw [if_neg hw] at h
      exact next _ _ h

/-- The place of an operation among those that are loud. -/
def posOf : List Nat → Nat → Option Nat
  | [], _ => none
  | c :: cs, i => bif Nat.beq c i then some 0 else (posOf cs i).map (· + 1)
/-- Loud operations stand in one order: each waits for the one ahead. -/
def chainB (l : List Oper) : List Nat → Bool
  | [] => true
  | [c] => decide (c < l.length)
  | c :: d :: cs => decide (c < l.length) && ((l[d]?).map fun o => (selOf l o).testBit c).getD false && chainB l (d :: cs)
/-- Whether all other loud operations stand ahead of one. -/
def lastL (l : List Oper) (loud : List Nat) (i : Nat) (o : Oper) : Bool := let m := selOf l o; loud.all fun c => Nat.beq c i || m.testBit c
theorem beq_nat {a b : Nat} : Nat.beq a b = true ↔ a = b := ⟨Nat.eq_of_beq_eq_true, fun h => by subst h; simp⟩
theorem posOf_some : ∀ (cs : List Nat) (i p : Nat), posOf cs i = some p → cs[p]? = some i
  | [], _, _, h => by cases h
  | c :: cs, i, p, h => by
    unfold posOf at h
    cases hb : Nat.beq c i
    · rw [hb] at h
      simp only [cond_false, Option.map_eq_some_iff] at h
      obtain ⟨q, hq, rfl⟩ := h
      simpa using posOf_some cs i q hq
    · rw [hb] at h
      simp only [cond_true, Option.some.injEq] at h
      subst h
      simpa using beq_nat.1 hb
theorem posOf_mem : ∀ (cs : List Nat) (i : Nat), i ∈ cs → ∃ p, posOf cs i = some p
  | [], _, h => by cases h
  | c :: cs, i, h => by
    unfold posOf
    cases hb : Nat.beq c i
    · rcases List.mem_cons.1 h with e | h
      · exact absurd (beq_nat.2 e.symm) (by rw [hb]; simp)
      · obtain ⟨p, hp⟩ := posOf_mem cs i h
        exact ⟨p + 1, by simp [hp]⟩
    · exact ⟨0, rfl⟩
theorem chain_step {l : List Oper} : ∀ (cs : List Nat) (p c d : Nat) (o : Oper), chainB l cs = true → cs[p]? = some c → cs[p + 1]? = some d → l[d]? = some o → (selOf l o).testBit c = true
  | [], _, _, _, _, _, h, _, _ => by simp at h
  | [_], _, _, _, _, _, _, h, _ => by simp at h
  | c' :: d' :: cs, 0, c, d, o, hc, h1, h2, ho => by
    simp only [List.getElem?_cons_zero, Option.some.injEq] at h1
    simp only [List.getElem?_cons_succ, List.getElem?_cons_zero, Option.some.injEq] at h2
    subst h1; subst h2
    simp only [chainB, Bool.and_eq_true] at hc
    have := hc.1.2
    rw [ho] at this
    simpa using this
  | c' :: d' :: cs, p + 1, c, d, o, hc, h1, h2, ho => by
    simp only [chainB, Bool.and_eq_true] at hc
    exact chain_step (d' :: cs) p c d o hc.2 (by simpa using h1) (by simpa using h2) ho
theorem chain_lt {l : List Oper} : ∀ (cs : List Nat), chainB l cs = true → ∀ c ∈ cs, c < l.length
  | [], _, c, h => by cases h
  | [d], hc, c, h => by
    simp only [List.mem_singleton] at h
    subst h
    simpa [chainB] using hc
  | c' :: d' :: cs, hc, c, h => by
    simp only [chainB, Bool.and_eq_true] at hc
    rcases List.mem_cons.1 h with rfl | h
    · simpa using hc.1.1
    · exact chain_lt (d' :: cs) hc.2 c h

section
variable {P : Program} {l : List Oper} {Q : Exit → Act → World → Prop} {R R' : World → World → Prop} {S : Nat → World → Prop} {loud : List Nat} {V : Nat → Value → World → Prop} {a0 : Act} {w0 : World}
theorem yielded_app {ls tl : List Oper} {tmps : Array Value} {j : Nat} (hj : j < ls.length) : yielded (ls ++ tl).toArray tmps j = yielded ls.toArray tmps j := by
  unfold yielded
  simp [List.getElem?_append_left hj]
theorem wanted_app {ls tl : List Oper} {x : Oper} {tmps : Array Value} (hg : guardsB ls = true) {i : Nat} (hx : ls[i]? = some x) : Region.wanted x (yielded (ls ++ tl).toArray tmps) = Region.wanted x (yielded ls.toArray tmps) := by
  have := (List.all_eq_true.1 hg) x (List.mem_of_getElem? hx)
  unfold Region.wanted
  cases hgd : x.guard with
  | none => rfl
  | some g =>
    obtain ⟨j, want⟩ := g
    rw [hgd] at this
    simp only [decide_eq_true_eq] at this
    simp only [yielded_app this]
/-- What an operation may do with the world, and what it is told of it. -/
def relOf (R R' : World → World → Prop) (S : Nat → World → Prop) (loud : List Nat) (i : Nat) : World → World → Prop := match posOf loud i with
  | none => R'
  | some p => fun w w' => R w w' ∧ S (p + 1) w'
def preOf (S : Nat → World → Prop) (loud : List Nat) (i : Nat) : World → Prop := match posOf loud i with
  | none => fun _ => True
  | some p => S p
theorem any_loose {tl : List Oper} (hap : apartB l = true) (hg : guardsB l = true) (hlex : edgesB (l ++ tl) = true) (htl : tailB (l ++ tl) l.length = true) (hch : chainB l loud = true) (hnd : loud.Nodup)
    (rr : ∀ w, R' w w) (rt : ∀ a b c, R a b → R b c → R a c) (hRR : ∀ a b, R' a b → R a b) (hS : ∀ k a b, S k a → R' a b → S k b)
    (hV : ∀ i x w w', V i x w → R' w w' → V i x w') (hV2 : ∀ i o, l[i]? = some o → lastL l loud i o = false → ∀ x w w', V i x w → R w w' → V i x w')
    (hstep : ∀ i o, l[i]? = some o → ∀ u w, R w0 w → preOf S loud i w → (∀ j, (selOf l o).testBit j = true → V j (u j) w) → stepL P l.toArray Q (relOf R R' S loud i) o (V i) (putFrom l 0 u a0) w)
    (hend : ∀ u w, R w0 w → S loud.length w → (∀ j, j < l.length → V j (u j) w) → wpList P (l ++ tl).toArray Q tl (putFrom l 0 u a0) w) :
    ∀ (fuel : Nat) (listed : Array Bool) (u : Nat → Value) (w : World) (k : Nat), listed.size = (l ++ tl).length → Down (l ++ tl) listed → R w0 w → S k w → (∀ p c, loud[p]? = some c → (Listed listed c ↔ p < k)) → k ≤ loud.length → (∀ j, Listed listed j → j < l.length) → (∀ j, Listed listed j → V j (u j) w) → listed.toList.countP (! ·) ≤ fuel →
      wpAny P .any (l ++ tl).toArray Q fuel listed (putFrom l 0 u a0) w := by
  have dn : ∀ listed : Array Bool, Down (l ++ tl) listed → Down l listed := fun listed hd i x hx hi => hd i x (by rw [List.getElem?_append_left (List.getElem?_eq_some_iff.1 hx).1]; exact hx) hi
  have full : ∀ listed : Array Bool, listed.size = (l ++ tl).length → (∀ i, i < l.length → i ∉ Region.ready .any (l ++ tl).toArray listed) → ∀ i, i < l.length → Listed listed i := by
    intro listed hs hr i
    induction i using Nat.strongRecOn with
    | ind i ih =>
      intro hi
      refine Classical.byContradiction fun hn => hr i hi ?_
      have hli : (l ++ tl)[i]? = some l[i] := by rw [List.getElem?_append_left hi]; simp [hi]
      rw [mem_ready]
      refine ⟨by simp at hs ⊢; omega, ?_, l[i], by simpa using hli, fun e he hb => ih e.on (edge_of hlex hli e he hb) (by have := edge_of hlex hli e he hb; omega)⟩
      unfold Listed at hn
      rw [Array.getElem?_eq_getElem (by simp at hs; omega)] at hn ⊢
      simpa using hn
  have done : ∀ (fuel : Nat) (listed : Array Bool) (u : Nat → Value) (w : World) (k : Nat), listed.size = (l ++ tl).length → Down (l ++ tl) listed → R w0 w → S k w → (∀ p c, loud[p]? = some c → (Listed listed c ↔ p < k)) → k ≤ loud.length → (∀ j, Listed listed j → j < l.length) → (∀ j, Listed listed j → V j (u j) w) → (∀ j, j < l.length → Listed listed j) → listed.toList.countP (! ·) ≤ fuel → wpAny P .any (l ++ tl).toArray Q fuel listed (putFrom l 0 u a0) w := by
    intro fuel listed u w k hs hd hR hSk hk hkl hb hF hall hc
    have hkm : k = loud.length := by
      refine Nat.le_antisymm hkl (Nat.le_of_not_lt fun hlt => ?_)
      have h1 : loud[k]? = some loud[k] := by simp [hlt]
      have := (hk k _ h1).1 (hall _ (chain_lt loud hch _ (List.getElem_mem _)))
      omega
    subst hkm
    refine any_seq hlex htl tl l fuel listed _ w rfl (Nat.le_refl _) hs hd (fun j => ⟨hb j, hall j⟩) ?_ (hend u w hR hSk fun j hj => hF j (hall j hj))
    have h1 : listed.toList.countP (! ·) = tl.length := by
      have h2 : listed.toList = List.replicate l.length true ++ List.replicate tl.length false := by
        apply List.ext_getElem?
        intro i
        rw [List.getElem?_append]
        simp only [List.length_replicate, List.getElem?_replicate]
        by_cases h : i < l.length
        · have := hall i h
          unfold Listed at this
          rw [if_pos h, if_pos h]; simpa using this
        · rw [if_neg h]
          by_cases h3 : i - l.length < tl.length
          · rw [if_pos h3]
            have hlt : i < listed.size := by rw [hs]; simp; omega
            have : ¬ Listed listed i := fun hh => h (hb i hh)
            unfold Listed at this
            rw [Array.getElem?_eq_getElem hlt] at this
            simp only [Array.getElem?_toList, Array.getElem?_eq_getElem hlt]
            simpa using this
          · rw [if_neg h3]
            simp only [Array.getElem?_toList]
            rw [Array.getElem?_eq_none]
            rw [hs]; simp; omega
      rw [h2]
      simp [List.countP_append, List.countP_replicate]
    omega
  intro fuel
  induction fuel with
  | zero =>
    intro listed u w k hs hd hR hSk hk hkl hb hF hc
    refine done 0 listed u w k hs hd hR hSk hk hkl hb hF (full listed hs fun i hi hm => ?_) hc
    rw [mem_ready] at hm
    have := count_set hm.2.1
    omega
  | succ fuel ih =>
    intro listed u w k hs hd hR hSk hk hkl hb hF hc
    by_cases hall : ∀ j, j < l.length → Listed listed j
    · exact done _ listed u w k hs hd hR hSk hk hkl hb hF hall hc
    refine ⟨fun hr => absurd (full listed hs fun i hi hm => (by rw [hr] at hm; cases hm)) hall, fun i hi => ?_⟩
    rw [mem_ready] at hi
    obtain ⟨h1, h2, o, ho, h3⟩ := hi
    have hoL : (l ++ tl)[i]? = some o := by simpa using ho
    have hil : i < l.length := by
      refine Nat.lt_of_not_le fun hge => hall ?_
      intro j hj
      exact tail_of htl hoL hge hd h3 j (by omega)
    have ho' : l[i]? = some o := by rwa [List.getElem?_append_left hil] at hoL
    have hcs := count_set h2
    have hdn := down_set hd hoL h3
    have hun : ¬ Listed listed i := by unfold Listed; rw [h2]; simp
    have hsel := sel_sound (dn _ hd) h3
    -- which state it is, where this one is loud
    have hpos : ∀ p, posOf loud i = some p → k = p := by
      intro p hp
      have hc := posOf_some _ _ _ hp
      have h4 : ¬ p < k := fun h => hun ((hk p i hc).2 h)
      cases p with
      | zero => omega
      | succ q =>
        have hq : q < loud.length := by have := (List.getElem?_eq_some_iff.1 hc).1; omega
        have hcq : loud[q]? = some loud[q] := by simp [hq]
        have := (hk q _ hcq).1 (hsel _ (chain_step loud q _ i o hch hcq hc ho'))
        omega
    have hpre : preOf S loud i w := by
      unfold preOf
      cases hp : posOf loud i with
      | none => trivial
      | some p => have := hpos p hp; subst this; exact hSk
    have next : ∀ x w', V i x w' → relOf R R' S loud i w w' → wpAny P .any (l ++ tl).toArray Q fuel (listed.setIfInBounds i true) ((putFrom l 0 u a0).put o.dst x) w' := by
      intro x w' hx hw
      rw [putFrom_set l 0 i o u a0 x hap ho', Nat.zero_add]
      have hbs : ∀ j, Listed (listed.setIfInBounds i true) j → j < l.length := by
        intro j hj
        rcases listed_set.1 hj with h | h
        · exact hb j h
        · omega
      cases hp : posOf loud i with
      | none =>
        unfold relOf at hw
        rw [hp] at hw
        refine ih _ _ _ k (by simpa using hs) hdn (rt _ _ _ hR (hRR _ _ hw)) (hS _ _ _ hSk hw) (fun p c hc => ?_) hkl hbs (fun j hj => ?_) (by omega)
        · rw [listed_set, hk p c hc]
          constructor
          · rintro (h | ⟨h, _⟩)
            · exact h
            · subst h
              obtain ⟨q, hq⟩ := posOf_mem loud i (List.mem_of_getElem? hc)
              rw [hp] at hq; cases hq
          · exact .inl
        · by_cases hji : j = i
          · subst hji
            simpa [upd] using hx
          · rcases listed_set.1 hj with h | h
            · simpa [upd, hji] using hV _ _ _ _ (hF j h) hw
            · exact absurd h.1.symm hji
      | some p =>
        unfold relOf at hw
        rw [hp] at hw
        have hc := posOf_some _ _ _ hp
        have hkp := hpos p hp
        subst hkp
        have hlt := (List.getElem?_eq_some_iff.1 hc).1
        refine ih _ _ _ (k + 1) (by simpa using hs) hdn (rt _ _ _ hR hw.1) hw.2 (fun q c hq => ?_) hlt hbs (fun j hj => ?_) (by omega)
        · rw [listed_set, hk q c hq]
          constructor
          · rintro (h | ⟨h, _⟩)
            · omega
            · subst h
              have : q = k := by
                have h5 := (List.getElem?_eq_some_iff.1 hq).1
                exact (List.getElem?_inj h5 hnd).1 (hq.trans hc.symm)
              omega
          · intro h
            by_cases hqk : q < k
            · exact .inl hqk
            · have : q = k := by omega
              subst this
              rw [hc] at hq
              exact .inr ⟨Option.some.inj hq, by rw [← Option.some.inj hq]; exact (Array.getElem?_eq_some_iff.1 h2).1⟩
        · by_cases hji : j = i
          · subst hji
            simpa [upd] using hx
          · rcases listed_set.1 hj with h | h
            · have hjl := hb j h
              have hoj : l[j]? = some l[j] := by simp [hjl]
              have hlast : lastL l loud j l[j] = false := by
                cases hh : lastL l loud j l[j]
                · rfl
                · exfalso
                  have h6 := (List.all_eq_true.1 hh) i (List.mem_of_getElem? hc)
                  rw [Bool.or_eq_true] at h6
                  rcases h6 with h6 | h6
                  · exact hji (beq_nat.1 h6).symm
                  · exact hun (sel_sound (dn _ hd) ((dn _ hd) j _ hoj h) i h6)
              simpa [upd, hji] using hV2 j _ hoj hlast _ _ _ (hF j h) hw.1
            · exact absurd h.1.symm hji
    have rri : ∀ w', V i undef w' → True := fun _ _ => trivial
    have st := hstep i o ho' u w hR hpre (fun j hj => hF j (hsel j hj))
    unfold wpOp
    rw [ho]
    simp only
    unfold stepL at st
    rw [wanted_app hg ho']
    split
    · rename_i hw
      rw [if_pos hw] at st
      exact .inl (st _ (fun x w' hx hR' => next x w' hx hR'))
    · rename_i hw
      rw [if_neg hw] at st
      exact next undef w st.1 st.2

/-- What is told of those operations that stand ahead, the latest first. -/
def look : List (Nat × (Value → World → Prop)) → Nat → Value → World → Prop
  | [], _, _, _ => True
  | (k, V) :: r, j, x, w => bif Nat.beq k j then V x w else look r j x w
/-- What a slot holds behind operations. -/
def isDst : Option Nat → Nat → Bool
  | none, _ => false
  | some e, d => Nat.beq e d
def slotF : List Oper → Nat → (Nat → Value) → Array Value → Nat → Value
  | [], _, _, t, d => t.getD d undef
  | o :: os, i, u, t, d => bif isDst o.dst d then u i else slotF os (i + 1) u t d
theorem isDst_eq (o : Option Nat) (d : Nat) : isDst o d = (o == some d) := by
  cases o with
  | none => rfl
  | some e =>
    by_cases h : e = d
    · subst h; simp [isDst]
    · have : (some e == some d) = false := by simpa using h
      rw [this]
      show Nat.beq e d = false
      cases hb : Nat.beq e d
      · rfl
      · exact absurd (Nat.eq_of_beq_eq_true hb) h
def roomB (os : List Oper) (n : Nat) : Bool := os.all fun o => match o.dst with | some d => decide (d < n) | none => true
theorem putFrom_size : ∀ (os : List Oper) (i : Nat) (u : Nat → Value) (a : Act), (putFrom os i u a).tmps.size = a.tmps.size
  | [], _, _, _ => rfl
  | o :: os, i, u, a => by
    unfold putFrom
    rw [putFrom_size os]
    cases o.dst <;> simp [Act.put]
theorem putFrom_other : ∀ (os : List Oper) (i : Nat) (u : Nat → Value) (a : Act) (d : Nat), (os.all fun p => p.dst != some d) = true → (putFrom os i u a).tmps.getD d undef = a.tmps.getD d undef
  | [], _, _, _, _, _ => rfl
  | o :: os, i, u, a, d, h => by
    simp only [List.all_cons, Bool.and_eq_true] at h
    unfold putFrom
    rw [putFrom_other os _ _ _ d h.2]
    cases ho : o.dst with
    | none => rfl
    | some e =>
      have he : e ≠ d := by have := h.1; rw [ho] at this; simpa using this
      simp [Act.put, Array.getD_eq_getD_getElem?, Array.getElem?_setIfInBounds, he]
theorem putFrom_slot : ∀ (os : List Oper) (i : Nat) (u : Nat → Value) (a : Act) (d : Nat), apartB os = true → roomB os a.tmps.size = true → (putFrom os i u a).tmps.getD d undef = slotF os i u a.tmps d
  | [], _, _, _, _, _, _ => rfl
  | o :: os, i, u, a, d, hd, hr => by
    simp only [apartB, Bool.and_eq_true] at hd
    simp only [roomB, List.all_cons, Bool.and_eq_true] at hr
    have hr2 : roomB os (a.put o.dst (u i)).tmps.size = true := by
      have : (a.put o.dst (u i)).tmps.size = a.tmps.size := by cases o.dst <;> simp [Act.put]
      rw [this]; exact hr.2
    unfold putFrom slotF
    rw [isDst_eq]
    cases ho : o.dst with
    | none =>
      rw [ho] at hr2
      rw [putFrom_slot os (i + 1) u _ d hd.2 hr2]
      rfl
    | some e =>
      rw [ho] at hd hr hr2
      by_cases he : e = d
      · subst he
        rw [putFrom_other os _ _ _ e hd.1]
        have hlt : e < a.tmps.size := by simpa using hr.1
        simp [Act.put, Array.getD_eq_getD_getElem?, Array.getElem?_setIfInBounds, hlt]
      · rw [putFrom_slot os (i + 1) u _ d hd.2 hr2]
        have hb : (some e == some d) = false := by simpa using he
        rw [hb, cond_false]
        have aux : ∀ (os : List Oper) (i : Nat) (t s : Array Value), t.getD d undef = s.getD d undef → slotF os i u t d = slotF os i u s d := by
          intro os
          induction os with
          | nil => intro i t s h; exact h
          | cons o os ih => intro i t s h; unfold slotF; rw [ih _ _ _ h]
        refine aux _ _ _ _ ?_
        simp [Act.put, Array.getD_eq_getD_getElem?, Array.getElem?_setIfInBounds, he]

/-- Whether a guard lets an operation by, told by what its slot holds. -/
def guardIs (o : Oper) (f : Nat → Value) (ops : List Oper) (b : Bool) : Prop :=
  match o.guard with
  | none => b = true
  | some (j, want) => match (ops[j]?).bind (·.dst) with
    | some d => (∃ x, f d = .bool x ∧ b = (x == want)) ∨ (f d = undef ∧ b = false)
    | none => False
theorem wanted_of {o : Oper} {a : Act} {f : Nat → Value} {b : Bool} {ops : List Oper} (hf : ∀ d, a.tmps.getD d undef = f d) (h : guardIs o f ops b) : Region.wanted o (yielded ops.toArray a.tmps) = b := by
  unfold guardIs at h
  unfold Region.wanted
  cases hg : o.guard with
  | none => rw [hg] at h; simpa using h.symm
  | some g =>
    obtain ⟨j, want⟩ := g
    rw [hg] at h
    simp only at h ⊢
    cases hd : (ops[j]?).bind (·.dst) with
    | none => rw [hd] at h; exact h.elim
    | some d =>
      rw [hd] at h
      rcases h with ⟨x, hx, hb⟩ | ⟨hx, hb⟩
      rotate_left
      · have h2 := hf d
        rw [hx] at h2
        have hd' : (ops.toArray[j]?).bind (·.dst) = some d := by simpa using hd
        simp only [yielded, hd', Option.bind_some]
        rw [Array.getD_eq_getD_getElem?] at h2
        rw [hb]
        cases h4 : a.tmps[d]? with
        | none => rfl
        | some y =>
          rw [h4] at h2
          have : y = undef := by simpa using h2
          subst this
          rfl
      have h2 := hf d
      rw [hx] at h2
      have h3 : a.tmps[d]? = some (.bool x) := by
        rw [Array.getD_eq_getD_getElem?] at h2
        cases h4 : a.tmps[d]? with
        | none => rw [h4] at h2; simp [undef] at h2
        | some y => rw [h4] at h2; simpa using h2
      have hd' : (ops.toArray[j]?).bind (·.dst) = some d := by simpa using hd
      simp only [yielded, hd', Option.bind_some, h3]
      rw [hb]
      cases x <;> cases want <;> rfl

/-- What one operation is asked, its slots told. -/
def stepT (P : Program) (l : List Oper) (Q : Exit → Act → World → Prop) (R : World → World → Prop) (o : Oper) (V : Value → World → Prop) (f : Nat → Value) (w : World) : Prop :=
  (guardIs o f l true ∧ ∀ a : Act, (∀ d, a.tmps.getD d undef = f d) → ∀ K : Act → World → Prop, (∀ x w', V x w' → R w w' → K (a.put o.dst x) w') → o.wp P a w K Q) ∨ (guardIs o f l false ∧ V undef w ∧ R w w)
theorem stepL_of {f : Nat → Value} {o : Oper} {V : Value → World → Prop} {a : Act} {w : World} (ha : ∀ d, a.tmps.getD d undef = f d) (h : stepT P l Q R o V f w) : stepL P l.toArray Q R o V a w := by
  rcases h with ⟨hg, h⟩ | ⟨hg, h⟩
  · unfold stepL; rw [if_pos (wanted_of ha hg)]; exact h a ha
  · unfold stepL; rw [if_neg (by rw [wanted_of ha hg]; simp)]; exact h
/-- The region, one operation at a time, in the order of the text. -/
def Lo (P : Program) (l : List Oper) (Q : Exit → Act → World → Prop) (E : Act → World → Prop) (R R' : World → World → Prop) (S : Nat → World → Prop) (loud : List Nat) (w0 : World) (a0 : Act) : List Oper → Nat → List (Nat × (Value → World → Prop)) → Prop
  | [], _, Vs => ∀ u w, R w0 w → S loud.length w → (∀ j, look Vs j (u j) w) → E (putFrom l 0 u a0) w
  | o :: os, i, Vs => ∃ V : Value → World → Prop, (∀ x w w', V x w → R' w w' → V x w') ∧ (lastL l loud i o = false → ∀ x w w', V x w → R w w' → V x w') ∧ (∀ u w, R w0 w → preOf S loud i w → (∀ j, (selOf l o).testBit j = true → look Vs j (u j) w) → stepT P l Q (relOf R R' S loud i) o V (slotF l 0 u a0.tmps) w) ∧ Lo P l Q E R R' S loud w0 a0 os (i + 1) ((i, V) :: Vs)
theorem look_cons (k : Nat) (V : Value → World → Prop) (r : List (Nat × (Value → World → Prop))) (j : Nat) : look ((k, V) :: r) j = if k = j then V else look r j := by
  funext x w
  unfold look
  by_cases h : k = j
  · subst h; simp
  · have : Nat.beq k j = false := by
      cases hb : Nat.beq k j
      · rfl
      · exact absurd (Nat.eq_of_beq_eq_true hb) h
    rw [this, if_neg h]; rfl
theorem look_above : ∀ (Vs : List (Nat × (Value → World → Prop))) (n j : Nat), (∀ p ∈ Vs, p.1 < n) → n ≤ j → look Vs j = fun _ _ => True
  | [], _, _, _, _ => rfl
  | (k, V) :: r, n, j, h, hj => by
    have hk : k < n := h (k, V) (by simp)
    rw [look_cons, if_neg (by omega), look_above r n j (fun p hp => h p (by simp [hp])) hj]
variable {E : Act → World → Prop}
theorem lo_collect : ∀ (os : List Oper) (pre : List Oper) (Vs : List (Nat × (Value → World → Prop))), l = pre ++ os → (∀ p ∈ Vs, p.1 < pre.length) → Lo P l Q E R R' S loud w0 a0 os pre.length Vs →
    ∃ Ws : List (Nat × (Value → World → Prop)), (∀ j, j < pre.length → look Ws j = look Vs j) ∧ (∀ j, pre.length ≤ j → ∀ x w w', look Ws j x w → R' w w' → look Ws j x w') ∧ (∀ j o, pre.length ≤ j → l[j]? = some o → lastL l loud j o = false → ∀ x w w', look Ws j x w → R w w' → look Ws j x w') ∧
      (∀ (i : Nat) (o : Oper), pre.length ≤ i → l[i]? = some o → ∀ u w, R w0 w → preOf S loud i w → (∀ j, (selOf l o).testBit j = true → look Ws j (u j) w) → stepT P l Q (relOf R R' S loud i) o (look Ws i) (slotF l 0 u a0.tmps) w) ∧
      (∀ j, l.length ≤ j → look Ws j = fun _ _ => True) ∧ (∀ u w, R w0 w → S loud.length w → (∀ j, look Ws j (u j) w) → E (putFrom l 0 u a0) w)
  | [], pre, Vs, hl, hk, h => by
    refine ⟨Vs, fun _ _ => rfl, fun j hj x w w' hx _ => ?_, fun j o hj ho => ?_, fun i o hi ho => ?_, ?_, h⟩
    · rw [look_above Vs _ j hk hj]; trivial
    · rw [hl, List.append_nil] at ho
      have := (List.getElem?_eq_some_iff.1 ho).1
      omega
    · rw [hl, List.append_nil] at ho
      have := (List.getElem?_eq_some_iff.1 ho).1
      omega
    · rw [hl, List.append_nil]; exact fun j hj => look_above Vs _ j hk hj
  | o :: os, pre, Vs, hl, hk, h => by
    obtain ⟨V, h1, h1', h2, h3⟩ := h
    have hlen : (pre ++ [o]).length = pre.length + 1 := by simp
    obtain ⟨Ws, g1, g2, g2', g3, g5, g4⟩ := lo_collect os (pre ++ [o]) ((pre.length, V) :: Vs) (by rw [hl]; simp) (by
      intro p hp
      rw [hlen]
      rcases List.mem_cons.1 hp with rfl | hp
      · simp
      · have := hk p hp; omega) (by rw [hlen]; exact h3)
    rw [hlen] at g1 g2 g2' g3
    have e0 : look Ws pre.length = V := by rw [g1 _ (by omega), look_cons, if_pos rfl]
    have e1 : ∀ j, j < pre.length → look Ws j = look Vs j := fun j hj => by rw [g1 _ (by omega), look_cons, if_neg (by omega)]
    have eo : ∀ p, l[pre.length]? = some p → p = o := fun p hp => by rw [hl] at hp; simpa using hp.symm
    refine ⟨Ws, e1, fun j hj => ?_, fun j p hj hp => ?_, fun i p hi hp => ?_, g5, g4⟩
    · rcases Nat.eq_or_lt_of_le hj with h | h
      · subst h; rw [e0]; exact h1
      · exact g2 j (by omega)
    · rcases Nat.eq_or_lt_of_le hj with h | h
      · subst h; rw [e0, eo p hp]; exact h1'
      · exact g2' j p (by omega) hp
    · rcases Nat.eq_or_lt_of_le hi with h | h
      · subst h
        have := eo p hp
        subst this
        rw [e0]
        intro u w hR hP hF
        refine h2 u w hR hP fun j hj => ?_
        by_cases hjl : j < pre.length
        · rw [← e1 j hjl]; exact hF j hj
        · rw [look_above Vs _ j hk (by omega)]; trivial
      · exact g3 i p (by omega) hp
/-- THE LAW: each operation is asked once; loud ones, which stand in one order, hand a state on; a tail, each of whose operations waits for all ahead, is walked in its order. -/
theorem wp_region_loud {id : Nat} {L : List Oper} (n : Nat) (R R' : World → World → Prop) (S : Nat → World → Prop) (loud : List Nat) (hm : P.follows .mixedOrders = true) (hap : apartB (L.take n) = true) (hg : guardsB (L.take n) = true) (hlex : edgesB L = true) (htl : tailB L n = true) (hch : chainB (L.take n) loud = true) (hn : n ≤ L.length) (hnd : loud.Nodup) (hrm : roomB (L.take n) a0.tmps.size = true)
    (rr : ∀ w, R' w w) (rt : ∀ a b c, R a b → R b c → R a c) (hRR : ∀ a b, R' a b → R a b) (hS : ∀ k a b, S k a → R' a b → S k b) (hS0 : S 0 w0.drew)
    (h : Lo P (L.take n) Q (fun a w => wpList P L.toArray Q (L.drop n) a w) R R' S loud w0.drew a0 (L.take n) 0 []) : (Code.region id L.toArray true).wp P Q a0 w0 := by
  obtain ⟨l, hl⟩ : ∃ l, l = L.take n := ⟨_, rfl⟩
  obtain ⟨tl, htl'⟩ : ∃ tl, tl = L.drop n := ⟨_, rfl⟩
  have hL : L = l ++ tl := by rw [hl, htl', List.take_append_drop]
  have hln : l.length = n := by rw [hl]; simp; omega
  rw [← hl, ← htl'] at h
  rw [← hl] at hap hg hrm hch
  rw [← hln] at htl
  clear hl htl'
  subst hL
  obtain ⟨Ws, -, hs, hs', hst, hab, he⟩ := lo_collect (l := l) l [] [] (by simp) (by simp) h
  refine wp_region_any hm ?_
  obtain ⟨u, hu⟩ := putFrom_self l 0 a0
  have none_listed : ∀ i, ¬ Listed (Array.replicate (l ++ tl).length false) i := by
    intro i hi
    unfold Listed at hi
    rw [Array.getElem?_replicate] at hi
    split at hi <;> cases hi
  have hall := any_loose (P := P) (l := l) (tl := tl) (Q := Q) (R := R) (R' := R') (S := S) (loud := loud) (V := look Ws) (a0 := a0) (w0 := w0.drew) hap hg hlex htl hch hnd rr rt hRR hS
    (fun i x w w' hx hR => hs i (by simp) x w w' hx hR)
    (fun i o ho hl => hs' i o (by simp) ho hl)
    (fun i o ho u w hR hP hF => stepL_of (fun d => putFrom_slot l 0 u a0 d hap hrm) (hst i o (by simp) ho u w hR hP hF))
    (fun u w hR hSm hF => he u w hR hSm (fun j => by
      by_cases hj : j < l.length
      · exact hF j hj
      · rw [hab j (by omega)]; trivial))
    (l ++ tl).length (Array.replicate (l ++ tl).length false) u w0.drew 0 (by simp) (fun i x _ hi => absurd hi (none_listed i)) (hRR _ _ (rr _)) hS0 (fun p c _ => ⟨fun h => absurd h (none_listed c), fun h => absurd h (Nat.not_lt_zero _)⟩) (Nat.zero_le _) (fun j hj => absurd hj (none_listed j)) (fun j hj => absurd hj (none_listed j)) (by
      have := List.countP_le_length (p := fun b => !b) (l := (Array.replicate (l ++ tl).length false).toList)
      simpa using this)
  rw [hu] at hall
  simpa using hall
/-- Nothing loud. -/
theorem wp_region_tail {id : Nat} {L : List Oper} (n : Nat) (R : World → World → Prop) (hm : P.follows .mixedOrders = true) (hap : apartB (L.take n) = true) (hg : guardsB (L.take n) = true) (hlex : edgesB L = true) (htl : tailB L n = true) (hn : n ≤ L.length) (hrm : roomB (L.take n) a0.tmps.size = true) (rr : ∀ w, R w w) (rt : ∀ a b c, R a b → R b c → R a c)
    (h : Lo P (L.take n) Q (fun a w => wpList P L.toArray Q (L.drop n) a w) R R (fun _ _ => True) [] w0.drew a0 (L.take n) 0 []) : (Code.region id L.toArray true).wp P Q a0 w0 :=
  wp_region_loud n R R _ [] hm hap hg hlex htl rfl hn List.nodup_nil hrm rr rt (fun _ _ h => h) (fun _ _ _ _ _ => trivial) trivial h
/-- Without a tail. -/
theorem wp_region_loose {id : Nat} (R : World → World → Prop) (hm : P.follows .mixedOrders = true) (hap : apartB l = true) (hlex : edgesB l = true) (hg : guardsB l = true) (hrm : roomB l a0.tmps.size = true) (rr : ∀ w, R w w) (rt : ∀ a b c, R a b → R b c → R a c)
    (h : Lo P l Q (fun a w => Q .normal a w) R R (fun _ _ => True) [] w0.drew a0 l 0 []) : (Code.region id l.toArray true).wp P Q a0 w0 := by
  have e1 : l.take l.length = l := List.take_length
  have e2 : l.drop l.length = [] := List.drop_length
  refine wp_region_tail l.length R hm (by rw [e1]; exact hap) (by rw [e1]; exact hg) hlex ?_ (Nat.le_refl _) (by rw [e1]; exact hrm) rr rt ?_
  · unfold tailB
    rw [List.all_eq_true]
    intro i hi
    have := List.mem_range.1 hi
    simp [this]
  · rw [e1, e2]; exact h

/-- The facts of those operations that are named. -/
def factsAt (Vs : List (Nat × (Value → World → Prop))) (u : Nat → Value) (w : World) : List Nat → Prop
  | [] => True
  | j :: js => look Vs j (u j) w ∧ factsAt Vs u w js
def selB (l : List Oper) (o : Oper) (js : List Nat) : Bool := let m := selOf l o; js.all fun j => m.testBit j
theorem factsAt_of {p : Nat → Bool} {Vs : List (Nat × (Value → World → Prop))} {u : Nat → Value} {w : World} (hf : ∀ j, p j = true → look Vs j (u j) w) : ∀ js : List Nat, js.all p = true → factsAt Vs u w js
  | [], _ => trivial
  | j :: js, h => by
    simp only [List.all_cons, Bool.and_eq_true] at h
    exact ⟨hf j h.1, factsAt_of hf js h.2⟩

/-- An operation that is carried out, and leaves what a predicate tells; of those ahead, these facts are used. -/
theorem Lo.run {o : Oper} {os : List Oper} {Vs : List (Nat × (Value → World → Prop))} {i : Nat} (n : Nat) (hn : i + 1 = n) (hq : posOf loud i = none) (js : List Nat) (V : Value → World → Prop) (hj : selB l o js = true) (hV : ∀ x w w', V x w → R w w' → V x w') (hRR : ∀ a b, R' a b → R a b)
    (h1 : ∀ u w, R w0 w → factsAt Vs u w js → guardIs o (slotF l 0 u a0.tmps) l true ∧ ∀ a : Act, (∀ d, a.tmps.getD d undef = slotF l 0 u a0.tmps d) → ∀ K : Act → World → Prop, (∀ x w', V x w' → R' w w' → K (a.put o.dst x) w') → o.wp P a w K Q)
    (h2 : Lo P l Q E R R' S loud w0 a0 os n ((i, V) :: Vs)) : Lo P l Q E R R' S loud w0 a0 (o :: os) i Vs :=
  ⟨V, fun x w w' h k => hV x w w' h (hRR _ _ k), fun _ => hV, fun u w hR _ hF => .inl (by unfold relOf; rw [hq]; exact h1 u w hR (factsAt_of hF js hj)), by rw [hn]; exact h2⟩
/-- A loud one: it is told the state, and hands on the next. -/
theorem Lo.noisy {o : Oper} {os : List Oper} {Vs : List (Nat × (Value → World → Prop))} {i : Nat} (n : Nat) (hn : i + 1 = n) (p : Nat) (hq : posOf loud i = some p) (js : List Nat) (V : Value → World → Prop) (hj : selB l o js = true) (hV : ∀ x w w', V x w → R' w w' → V x w') (hV2 : lastL l loud i o = true ∨ ∀ x w w', V x w → R w w' → V x w')
    (h1 : ∀ u w, R w0 w → S p w → factsAt Vs u w js → guardIs o (slotF l 0 u a0.tmps) l true ∧ ∀ a : Act, (∀ d, a.tmps.getD d undef = slotF l 0 u a0.tmps d) → ∀ K : Act → World → Prop, (∀ x w', V x w' → R w w' → S (p + 1) w' → K (a.put o.dst x) w') → o.wp P a w K Q)
    (h2 : Lo P l Q E R R' S loud w0 a0 os n ((i, V) :: Vs)) : Lo P l Q E R R' S loud w0 a0 (o :: os) i Vs :=
  ⟨V, hV, fun hl => hV2.elim (fun h => by rw [h] at hl; cases hl) id, fun u w hR hP hF => .inl (by
    unfold preOf at hP
    rw [hq] at hP
    obtain ⟨g1, g2⟩ := h1 u w hR hP (factsAt_of hF js hj)
    unfold relOf
    rw [hq]
    exact ⟨g1, fun a ha K hK => g2 a ha K (fun x w' hx hR hS => hK x w' hx ⟨hR, hS⟩)⟩), by rw [hn]; exact h2⟩
theorem Lo.runv {o : Oper} {os : List Oper} {Vs : List (Nat × (Value → World → Prop))} {i : Nat} (n : Nat) (hn : i + 1 = n) (hq : posOf loud i = none) (js : List Nat) (v : Value) (hj : selB l o js = true)
    (h1 : ∀ u w, R w0 w → factsAt Vs u w js → guardIs o (slotF l 0 u a0.tmps) l true ∧ ∀ a : Act, (∀ d, a.tmps.getD d undef = slotF l 0 u a0.tmps d) → ∀ K : Act → World → Prop, (∀ x, x = v → K (a.put o.dst x) w) → o.wp P a w K Q)
    (rr : ∀ w, R' w w) (h2 : Lo P l Q E R R' S loud w0 a0 os n ((i, fun x _ => x = v) :: Vs)) : Lo P l Q E R R' S loud w0 a0 (o :: os) i Vs :=
  ⟨_, fun _ _ _ h _ => h, fun _ _ _ _ h _ => h, fun u w hR _ hF => .inl (by
    unfold relOf; rw [hq]
    obtain ⟨g1, g2⟩ := h1 u w hR (factsAt_of hF js hj)
    exact ⟨g1, fun a ha K hK => g2 a ha K (fun x hx => hK _ _ hx (rr _))⟩), by rw [hn]; exact h2⟩
/-- One that leaves a value outright, which the walk finds. -/
theorem Lo.runx {o : Oper} {os : List Oper} {Vs : List (Nat × (Value → World → Prop))} {i : Nat} (n : Nat) (hn : i + 1 = n) (hq : posOf loud i = none) (js : List Nat) (hj : selB l o js = true) (rr : ∀ w, R' w w)
    (h : ∃ v : Value, (∀ u w, R w0 w → factsAt Vs u w js → guardIs o (slotF l 0 u a0.tmps) l true ∧ ∀ a : Act, (∀ d, a.tmps.getD d undef = slotF l 0 u a0.tmps d) → ∀ K : Act → World → Prop, (∀ x, x = v → K (a.put o.dst x) w) → o.wp P a w K Q) ∧
      Lo P l Q E R R' S loud w0 a0 os n ((i, fun x _ => x = v) :: Vs)) : Lo P l Q E R R' S loud w0 a0 (o :: os) i Vs := by
  obtain ⟨v, h1, h2⟩ := h
  exact Lo.runv n hn hq js v hj h1 rr h2
/-- One that its guard passes over. -/
theorem Lo.pass {o : Oper} {os : List Oper} {Vs : List (Nat × (Value → World → Prop))} {i : Nat} (n : Nat) (hn : i + 1 = n) (hq : posOf loud i = none) (js : List Nat) (hj : selB l o js = true) (rr : ∀ w, R' w w)
    (h1 : ∀ u w, R w0 w → factsAt Vs u w js → guardIs o (slotF l 0 u a0.tmps) l false) (h2 : Lo P l Q E R R' S loud w0 a0 os n ((i, fun x _ => x = undef) :: Vs)) : Lo P l Q E R R' S loud w0 a0 (o :: os) i Vs :=
  ⟨_, fun _ _ _ h _ => h, fun _ _ _ _ h _ => h, fun u w hR _ hF => .inr ⟨h1 u w hR (factsAt_of hF js hj), rfl, by unfold relOf; rw [hq]; exact rr _⟩, by rw [hn]; exact h2⟩
/-- What a guard's slot holds, where it is carried out under a condition itself. -/
theorem guard_t {x : Value} {c t want : Bool} (h : x = bif c then .bool t else undef) (hc : (c && (t == want)) = true) : (∃ y, x = .bool y ∧ true = (y == want)) ∨ (x = undef ∧ true = false) := by
  cases c <;> simp at hc
  subst hc
  exact .inl ⟨t, h, by simp⟩
theorem guard_f {x : Value} {c t want : Bool} (h : x = bif c then .bool t else undef) (hc : (c && (t == want)) = false) : (∃ y, x = .bool y ∧ false = (y == want)) ∨ (x = undef ∧ false = false) := by
  cases c
  · exact .inr ⟨h, rfl⟩
  · exact .inl ⟨t, h, by simpa using hc.symm⟩
theorem guard_t0 {x : Value} {t want : Bool} (h : x = .bool t) (hc : (t == want) = true) : (∃ y, x = .bool y ∧ true = (y == want)) ∨ (x = undef ∧ true = false) := .inl ⟨t, h, hc.symm⟩
theorem guard_f0 {x : Value} {t want : Bool} (h : x = .bool t) (hc : (t == want) = false) : (∃ y, x = .bool y ∧ false = (y == want)) ∨ (x = undef ∧ false = false) := .inl ⟨t, h, hc.symm⟩
/-- One that is carried out under a condition that is not decided. -/
theorem Lo.cond {o : Oper} {os : List Oper} {Vs : List (Nat × (Value → World → Prop))} {i : Nat} (n : Nat) (hn : i + 1 = n) (hq : posOf loud i = none) (js : List Nat) (hj : selB l o js = true) (rr : ∀ w, R' w w) (c : Bool)
    (h : ∃ v : Value, (∀ u w, R w0 w → factsAt Vs u w js → c = false → guardIs o (slotF l 0 u a0.tmps) l false) ∧
      (∀ u w, R w0 w → factsAt Vs u w js → c = true → guardIs o (slotF l 0 u a0.tmps) l true ∧ ∀ a : Act, (∀ d, a.tmps.getD d undef = slotF l 0 u a0.tmps d) → ∀ K : Act → World → Prop, (∀ x, x = v → K (a.put o.dst x) w) → o.wp P a w K Q) ∧
      Lo P l Q E R R' S loud w0 a0 os n ((i, fun x _ => x = bif c then v else undef) :: Vs)) : Lo P l Q E R R' S loud w0 a0 (o :: os) i Vs := by
  obtain ⟨v, h1, h2, h3⟩ := h
  cases c with
  | false => exact Lo.pass n hn hq js hj rr (fun u w hR hF => h1 u w hR hF rfl) h3
  | true => exact Lo.runv n hn hq js v hj (fun u w hR hF => h2 u w hR hF rfl) rr h3
theorem Lo.done {Vs : List (Nat × (Value → World → Prop))} {i : Nat} (js : List Nat) (h : ∀ u w, R w0 w → S loud.length w → factsAt Vs u w js → E (putFrom l 0 u a0) w) : Lo P l Q E R R' S loud w0 a0 [] i Vs :=
  fun u w hR hSm hF => h u w hR hSm (factsAt_of (p := fun _ => true) (fun j _ => hF j) js (by simp))
end

end Go.Proofs.YtcpjohpbakbggaaDoor

/- record's reader: number, text, record, batch. -/
namespace Go.Proofs.YtcpjohpbakbggaaDoor
open Go.RowKit Go.Maps
set_option maxRecDepth 100000
set_option linter.unusedSimpArgs false
set_option linter.unusedVariables false

theorem BytesAt.kept' {w w' : World} {v : Value} {bs : List UInt8} {S : List Nat} (h : BytesAt w v bs) (ht : Turn S w w') (hn : bs ≠ [] → ∀ k ∈ v.ownBlock, k ∉ S) : BytesAt w' v bs := by
  by_cases h0 : bs = []
  · subst h0
    obtain ⟨a, c, e, h1, h2, h3, h4⟩ := h
    exact ⟨a, c, e, h1, h2, h3, fun j hj => absurd hj (Nat.not_lt_zero _)⟩
  · exact h.kept ht (fun k hk _ => hn h0 k hk)
theorem BytesAt.lt {w : World} {v : Value} {bs : List UInt8} (h : BytesAt w v bs) (h0 : bs ≠ []) : ∀ k ∈ v.ownBlock, k < w.heap.size := by
  obtain ⟨a, c, rfl, h1, h2, h3, h4⟩ := h
  obtain ⟨p, rfl, hc⟩ := h4 0 (List.length_pos_iff.2 h0)
  intro k hk
  simp [Value.ownBlock] at hk
  subst hk
  have := World.block_lt_of_cell? w _ hc
  rwa [add_block] at this
theorem bytes_nil (w : World) : BytesAt w (.slice none 0 0) [] := ⟨none, 0, rfl, Nat.le_refl _, Nat.zero_le _, fun _ => rfl, fun j hj => absurd hj (Nat.not_lt_zero _)⟩
theorem advA_own {a : Option Addr} {n c l l' c' : Nat} : ∀ k ∈ (Value.slice (advA a n c) l c').ownBlock, k ∈ (Value.slice a l' c).ownBlock := by
  intro k hk
  unfold advA at hk
  split at hk
  · cases a with
    | none => simp [Value.ownBlock] at hk
    | some p => simpa [Value.ownBlock] using hk
  · cases a with
    | none => simp [Value.ownBlock] at hk
    | some p => simp [Value.ownBlock, add_block] at hk ⊢; exact hk

theorem num_len (l : List UInt8) : (Bt.num l).2.length ≤ l.length ∧ (Bt.num l).1 ≤ 1099511627776 := by
  unfold Bt.num
  have := Nu.get_size (b := l)
  split
  · simp
  · simp; omega
theorem text_len (l : List UInt8) : (Bt.text l).2.length ≤ l.length ∧ (Bt.text l).1.length ≤ l.length := by
  unfold Bt.text
  have := num_len l
  split
  · simp
  · simp; omega
/-! ### a record -/
def zeroRec : Array Value := #[.int .i64 0, .int .i64 0, .bool false, .string ⟨#[]⟩, .bool false, .string ⟨#[]⟩]
theorem and_one_ne (n : Nat) (h : n ≤ 1099511627776) : (bits .and .i64 (n : Int) 1 != 0) = decide (n % 2 = 1) := by
  have e : bits .and .i64 (n : Int) 1 = ((n % 2 : Nat) : Int) := by
    show IntKind.i64.wrap ((BitVec.ofInt 64 (n : Int) &&& BitVec.ofInt 64 ((1 : Nat) : Int)).toNat : Int) = _
    rw [BitVec.toNat_and, ofInt_u64 n (by omega), ofInt_u64 1 (by omega), Nat.and_one_is_mod, IntWalk.i64_left, IntWalk.wrap64_in _ (by omega)]
  rw [e]
  by_cases q : n % 2 = 1
  · simp [q]
  · have : n % 2 = 0 := by omega
    simp [this]
theorem nat_and_two (n : Nat) : n &&& 2 = n / 2 % 2 * 2 := by
  apply Nat.eq_of_testBit_eq
  intro i
  rw [Nat.testBit_and, show (2 : Nat) = 2 ^ 1 from rfl, Nat.testBit_two_pow, Nat.testBit_mul_two_pow]
  by_cases h1 : i = 1
  · subst h1
    simp [Nat.testBit_eq_decide_div_mod_eq]
  · have : ¬ 1 = i := fun e => h1 e.symm
    simp only [this, decide_false, Bool.and_false]
    rcases Nat.eq_zero_or_pos i with rfl | hi
    · simp
    · have h2 : (n / 2 ^ 1 % 2 ^ 1).testBit (i - 1) = false := Nat.testBit_lt_two_pow (Nat.lt_of_lt_of_le (Nat.mod_lt _ (by omega)) (Nat.pow_le_pow_right (by omega) (by omega)))
      simp [h2]
theorem and_two_ne (n : Nat) (h : n ≤ 1099511627776) : (bits .and .i64 (n : Int) 2 != 0) = decide (n / 2 % 2 = 1) := by
  have e : bits .and .i64 (n : Int) 2 = ((n / 2 % 2 * 2 : Nat) : Int) := by
    show IntKind.i64.wrap ((BitVec.ofInt 64 (n : Int) &&& BitVec.ofInt 64 ((2 : Nat) : Int)).toNat : Int) = _
    rw [BitVec.toNat_and, ofInt_u64 n (by omega), ofInt_u64 2 (by omega), nat_and_two, IntWalk.i64_left, IntWalk.wrap64_in _ (by omega)]
  rw [e]
  by_cases q : n / 2 % 2 = 1
  · simp [q]
  · have : n / 2 % 2 = 0 := by omega
    simp [this]
theorem load_box {w : World} {Y : Nat} {r : Bt.Rec} (h : w.heap[Y]? = some (.cells (recC r).toArray 76 (0, 0))) : (loadVar 76 ⟨Y, 0, none⟩).run Tryd.prog w = .ok (recV r) w := by
  refine load_rec fun i u hu => ?_
  rw [addr_add, cell_of h]
  simpa using hu
end Go.Proofs.YtcpjohpbakbggaaDoor

/- record.Put: a number's bytes behind a row. -/
namespace Go.Proofs.YtcpjohpbakbggaaDoor
open Go.RowKit Go.Maps
set_option maxRecDepth 100000
set_option linter.unusedSimpArgs false
set_option linter.unusedVariables false

theorem Tryd.infoB : (Tryd.prog.info? 5).map (fun i => (i.zero, i.size, i.bytes)) = some (some (.int .u8 0), 1, 1) := by kernel_rfl
theorem infoB_parts : ∃ i, Tryd.prog.info? 5 = some i ∧ i.zero = some (.int .u8 0) ∧ i.size = 1 ∧ i.bytes = 1 := by
  have h := Tryd.infoB
  cases hi : Tryd.prog.info? 5 with
  | none => rw [hi] at h; cases h
  | some i =>
    rw [hi] at h
    simp only [Option.map_some, Option.some.injEq, Prod.mk.injEq] at h
    exact ⟨i, rfl, h.1, h.2.1, h.2.2⟩
/-- A new row of bytes. -/
theorem fresh_row (w : World) (bs : List UInt8) (b : Nat) (cs : Array Value) (hb : w.heap[b]? = some (.cells cs 5 (0, 0))) (hc : cs = (bs.map encB).toArray) (c : Nat) : SliceAt w (.slice (some ⟨b, 0, none⟩) bs.length c) (bs.map encB) := by
  refine .inr ⟨⟨b, 0, none⟩, c, by simp, fun j u hu => ?_⟩
  rw [addr_add, cell_of hb, hc]
  simpa using hu

theorem put_byte (m : Nat) : bits .or .u8 ((m : Int) % 256) 128 = ((UInt8.ofNat (m % 128 + 128)).toNat : Int) := by
  have h := u8_or_nat (m % 256) 128 (by omega) (by omega)
  have e : ((m % 256 : Nat) : Int) = (m : Int) % 256 := by omega
  rw [e] at h
  have h' : bits .or .u8 ((m : Int) % 256) 128 = ((m % 256 ||| 128 : Nat) : Int) := h
  rw [h']
  have : ∀ i : Fin 256, i.val ||| 128 = i.val % 128 + 128 := by decide
  have := this ⟨m % 256, by omega⟩
  simp only at this
  rw [this]
  simp; omega

set_option maxHeartbeats 1000000 in
theorem put_any (w : World) (base : Nat) (v : Value) (bs : List UInt8) (hrow : RowAt w 5 base v bs) (hbase : base ≤ w.heap.size) (n : Nat) (hn : n ≤ 1099511627776) (hl : bs.length ≤ 549755813888) :
    Calls Tryd.prog 56 #[v, .int .i64 n] w fun e w' => ∃ v', e = .returned v' ∧ RowAt w' 5 base v' (bs ++ Nu.put n) ∧ Turn v.ownBlock.toList w w' ∧ (∀ k ∈ v'.ownBlock, k ∈ v.ownBlock ∨ w.heap.size ≤ k) := by
  obtain ⟨i0, hi, hz, hz1, hz2⟩ := infoB_parts
  have HR : Hid (RowAt w 5 base v bs) := hrow
  clear hrow
  go_enter Tryd.func56, Tryd.ntmps56
  go_wp2
  go_loopw [0, 5] (fun s u wr => ∃ (m : Nat) (pre : List UInt8), m ≤ n ∧ u = .int .u64 m ∧ pre ++ Nu.put m = Nu.put n ∧ RowAt wr 5 base s (bs ++ pre) ∧ Turn v.ownBlock.toList w wr ∧ (∀ k ∈ s.ownBlock, k ∈ v.ownBlock ∨ w.heap.size ≤ k)) (fun _ u _ => (intOf u).toNat)
  case atStart => exact ⟨n, [], Nat.le_refl _, rfl, rfl, by simpa using HR.out, Turn.refl _ _, fun k hk => .inl hk⟩
  case round =>
    obtain ⟨m, pre, hm, rfl, hpre, hrow, ht, hown⟩ := hrel
    have HP : Hid (pre ++ Nu.put m = Nu.put n) := hpre
    have HR2 : Hid (RowAt wr 5 base _ (bs ++ pre)) := hrow
    have HO : Hid (∀ k ∈ _, k ∈ v.ownBlock ∨ w.heap.size ≤ k) := hown
    clear hpre hrow hown
    have hpl : pre.length ≤ 6 := by
      have h1 := Nu.put_len6 hn
      rw [← HP.out] at h1
      simp at h1; omega
    have hlen : (bs ++ pre).length ≤ 1099511627775 := by simp; omega
    by_cases hbig : 128 ≤ m
    · have hbyte := put_byte m
      have HB : Hid (bits .or .u8 ((m : Int) % 256) 128 = ((UInt8.ofNat (m % 128 + 128)).toNat : Int)) := hbyte
      clear hbyte
      go_wp2_with (at_builtin; go_must (refine wpList_append_row _ rfl _ _ 22 rfl 5 base i0 Tryd.underlying22 hi hz hz1 hz2 _ (.slice (some ⟨wr.heap.size, 0, none⟩) 1 1) (bs ++ pre) [UInt8.ofNat (m % 128 + 128)] rfl rfl (HR2.out.kept ((Turn.refl [] wr).alloc _) (by simp)) (fresh_row _ [UInt8.ofNat (m % 128 + 128)] wr.heap.size _ (heap_new wr _) (by rw [HB.out]; rfl) 1) (by simp at hlen ⊢; omega) (by have := ht.size; simp; omega) ?_; intro v3 w3 hrow3 ht3 hown3; have HR3 : Hid (RowAt w3 5 base v3 (bs ++ pre ++ [UInt8.ofNat (m % 128 + 128)])) := hrow3; clear hrow3))
      refine ⟨⟨m / 128, pre ++ [UInt8.ofNat (m % 128 + 128)], by omega, by go_num, ?_, by have := HR3.out; rwa [List.append_assoc] at this, ?_, ?_⟩, ?_⟩
      · rw [← HP.out, Nu.put_big hbig]; simp
      · exact (ht.trans (T := []) ((Turn.refl [] _).alloc _) (by simp)).trans ht3 (fun k hk => by
          rcases HO.out k (by simp only [Option.mem_toList] at hk; exact hk) with h1 | h1
          · exact .inl (by simpa using h1)
          · exact .inr h1)
      · intro k hk
        rcases hown3 k hk with h1 | h1
        · exact HO.out k h1
        · have := ht.size; simp at h1; exact .inr (by omega)
      · simp only [intOf]; omega
    · have HB : Hid (((m : Nat) : Int) = ((UInt8.ofNat m).toNat : Int)) := by show _ = _; simp; omega
      go_wp2_with (at_builtin; go_must (refine wpList_append_row _ rfl _ _ 22 rfl 5 base i0 Tryd.underlying22 hi hz hz1 hz2 _ (.slice (some ⟨wr.heap.size, 0, none⟩) 1 1) (bs ++ pre) [UInt8.ofNat m] rfl rfl (HR2.out.kept ((Turn.refl [] wr).alloc _) (by simp)) (fresh_row _ [UInt8.ofNat m] wr.heap.size _ (heap_new wr _) (by rw [HB.out]; rfl) 1) (by simp at hlen ⊢; omega) (by have := ht.size; simp; omega) ?_; intro v3 w3 hrow3 ht3 hown3; have HR3 : Hid (RowAt w3 5 base v3 (bs ++ pre ++ [UInt8.ofNat m])) := hrow3; clear hrow3))
      go_ret
      refine ⟨v3, rfl, ?_, ?_, ?_⟩
      · have := HR3.out
        rw [← HP.out, Nu.put_small (by omega)]; rwa [List.append_assoc] at this
      · exact (ht.trans (T := []) ((Turn.refl [] _).alloc _) (by simp)).trans ht3 (fun k hk => by
          rcases HO.out k (by simp only [Option.mem_toList] at hk; exact hk) with h1 | h1
          · exact .inl (by simpa using h1)
          · exact .inr h1)
      · intro k hk
        rcases hown3 k hk with h1 | h1
        · exact HO.out k h1
        · have := ht.size; simp at h1; exact .inr (by omega)
end Go.Proofs.YtcpjohpbakbggaaDoor

/- record.Put behind a row that is full: nothing that was there turns. -/
namespace Go.Proofs.YtcpjohpbakbggaaDoor
open Go.RowKit Go.Maps
set_option maxRecDepth 100000
set_option linter.unusedSimpArgs false
set_option linter.unusedVariables false

/-- A row that is full, or one that has been made since. -/
def Fresh (w0 w : World) (v : Value) (bs : List UInt8) : Prop :=
  Turn [] w0 w ∧ ((∃ p, v = .slice (some p) bs.length bs.length ∧ SliceAt w v (bs.map encB)) ∨ RowAt w 5 w0.heap.size v bs)
theorem Fresh.bytes {w0 w : World} {v : Value} {bs : List UInt8} (h : Fresh w0 w v bs) : SliceAt w v (bs.map encB) := by
  rcases h.2 with ⟨p, _, h⟩ | h
  · exact h
  · exact h.cells
theorem run_append_fresh {P : Program} (t ty : Nat) (i : TypeInfo) (ht : P.underlying t = some (.slice 5)) (hi : P.info? 5 = some i) (hz : i.zero = some (.int .u8 0)) (hsize : i.size = 1) (hby : i.bytes = 1)
    (w0 w : World) (v x : Value) (bs cs : List UInt8) (hf : Fresh w0 w v bs) (hx : SliceAt w x (cs.map encB)) (h0 : cs ≠ []) (hlen : bs.length + cs.length ≤ 1099511627776) :
    ∃ v' w', (Builtin.append_ #[t, t] ty #[v, x]).run P w = .ok v' w' ∧ RowAt w' 5 w0.heap.size v' (bs ++ cs) ∧ Turn [] w0 w' := by
  obtain ⟨ht0, hr⟩ := hf
  have hs0 := ht0.size
  rcases hr with ⟨p, rfl, hsl⟩ | hr
  · have hp : 0 < cs.length := List.length_pos_iff.2 h0
    rcases hx with ⟨_, hcs⟩ | ⟨a, c, rfl, hnews⟩
    · simp at hcs; exact absurd hcs h0
    rcases hsl with ⟨h1, _⟩ | ⟨p', c', h1, hc⟩
    · cases h1
    simp only [Value.slice.injEq, Option.some.injEq] at h1
    obtain ⟨rfl, _, rfl⟩ := h1
    have hmax : maxLen = 9223372036854775807 := by simp [maxLen]
    have hl : (cs.map encB).length = cs.length * i.size := by simp [hsize]
    simp only [List.length_map] at hnews ⊢
    have hr := run_append_grow (P := P) w t ty 5 i _ ht hi hz p bs.length bs.length (bs.map encB) (by simp [hsize]) hc a cs.length c (cs.map encB) hl hnews (by omega) (by omega) (growslice_fits (by omega) (by rw [hby]; omega))
    have hge := grownCap_ge w (bs.length + cs.length) bs.length 5
    have hcm := grownCap_le_maxLen w (bs.length + cs.length) bs.length 5 (by rw [hmax]; omega)
    refine ⟨_, _, hr, .inr ⟨w.heap.size, _, _, by simp, by omega, heap_new w.drew _, by simpa using hge, ?_, hcm, ?_⟩, (ht0.drew).alloc _⟩
    · simp only [Array.size_append, List.size_toArray, List.length_map, size_zeroCells, Value.cells]
      simp; omega
    · simp only [Array.toList_append]
      rw [List.take_append_of_le_length (by simp)]
      rw [List.take_of_length_le (by simp)]
      simp
  · obtain ⟨v', w', h1, h2, h3, h4⟩ := run_append_row (P := P) w t ty 5 w0.heap.size i ht hi hz hsize hby v x bs cs hr hx hlen hs0
    refine ⟨v', w', h1, h2, ht0.trans h3 (fun k hk => .inr ?_)⟩
    exact (hr.lt k (by simpa using hk)).1
theorem wpList_append_fresh {P : Program} {ops : Array Oper} {rest : List Oper} {o : Oper} {a : Act} {Q : Exit → Act → World → Prop} {w : World} (hgd : o.guard = none) (s x : Operand) (t : TypeId)
    (ho : o.op = .call { callee := .builtin .append, args := #[s, x], argTypes := #[t, t] })
    (i : TypeInfo) (ht : P.underlying t = some (.slice 5)) (hi : P.info? 5 = some i) (hz : i.zero = some (.int .u8 0)) (hsize : i.size = 1) (hby : i.bytes = 1)
    (w0 : World) (v xv : Value) (bs cs : List UInt8) (hs : a.eval s = v) (hxe : a.eval x = xv) (hf : Fresh w0 w v bs) (hx : SliceAt w xv (cs.map encB)) (h0 : cs ≠ []) (hlen : bs.length + cs.length ≤ 1099511627776)
    (h : ∀ v' w', RowAt w' 5 w0.heap.size v' (bs ++ cs) → Turn [] w0 w' → wpList P ops Q rest (a.put o.dst v') w') : wpList P ops Q (o :: rest) a w := by
  refine wpList_plain hgd fun _ hK => ?_
  obtain ⟨v', w', hr, h2, h3⟩ := run_append_fresh (P := P) t o.type i ht hi hz hsize hby w0 w v xv bs cs hf hx h0 hlen
  unfold Oper.wp execOp
  simp only [ho, resolve, invoke, builtin, Sem.run_bind, Sem.run_pure, Result.andThen_ok, List.map_toArray, List.map_cons, List.map_nil, hs, hxe, hr]
  exact hK _ _ (h v' w' h2 h3)
/-- An append whose run is told. -/
theorem oper_append {P : Program} {o : Oper} {a : Act} {K : Act → World → Prop} {Q : Exit → Act → World → Prop} {w w' : World} {s x : Operand} {t tx : TypeId} {v xv v' : Value}
    (ho : o.op = .call { callee := .builtin .append, args := #[s, x], argTypes := #[t, tx] }) (hs : a.eval s = v) (hx : a.eval x = xv) (hr : (Builtin.append_ #[t, tx] o.type #[v, xv]).run P w = .ok v' w') (h : K (a.put o.dst v') w') : o.wp P a w K Q := by
  unfold Oper.wp execOp
  simp only [ho, resolve, invoke, builtin, Sem.run_bind, Sem.run_pure, Result.andThen_ok, List.map_toArray, List.map_cons, List.map_nil, hs, hx, hr]
  exact h
theorem wpList_append_told {P : Program} {ops : Array Oper} {rest : List Oper} {o : Oper} {a : Act} {Q : Exit → Act → World → Prop} {w w' : World} (hgd : o.guard = none) {s x : Operand} {t tx : TypeId} {v xv v' : Value}
    (ho : o.op = .call { callee := .builtin .append, args := #[s, x], argTypes := #[t, tx] }) (hs : a.eval s = v) (hx : a.eval x = xv) (hr : (Builtin.append_ #[t, tx] o.type #[v, xv]).run P w = .ok v' w') (h : wpList P ops Q rest (a.put o.dst v') w') : wpList P ops Q (o :: rest) a w :=
  wpList_plain hgd fun _ hK => oper_append ho hs hx hr (hK _ _ h)
theorem Fresh.alloc {w0 w : World} {v : Value} {bs : List UInt8} (h : Fresh w0 w v bs) (o : Obj) : Fresh w0 (w.alloc o) v bs := by
  have ht : Turn [] w (w.alloc o) := (Turn.refl _ _).alloc _
  refine ⟨h.1.same ht, ?_⟩
  rcases h.2 with ⟨p, e, h⟩ | h
  · exact .inl ⟨p, e, h.kept ht (by simp)⟩
  · exact .inr (h.kept ht (by simp))

set_option maxHeartbeats 1000000 in
theorem put_new (w : World) (p : Addr) (bs : List UInt8) (hv : SliceAt w (.slice (some p) bs.length bs.length) (bs.map encB)) (n : Nat) (hn : n ≤ 1099511627776) (hl : bs.length ≤ 549755813888) :
    Calls Tryd.prog 56 #[.slice (some p) bs.length bs.length, .int .i64 n] w fun e w' => ∃ v', e = .returned v' ∧ RowAt w' 5 w.heap.size v' (bs ++ Nu.put n) ∧ Turn [] w w' := by
  obtain ⟨i0, hi, hz, hz1, hz2⟩ := infoB_parts
  have HR : Hid (Fresh w w (.slice (some p) bs.length bs.length) bs) := ⟨Turn.refl _ _, .inl ⟨p, rfl, hv⟩⟩
  clear hv
  go_enter Tryd.func56, Tryd.ntmps56
  go_wp2
  go_loopw [0, 5] (fun s u wr => ∃ (m : Nat) (pre : List UInt8), m ≤ n ∧ u = .int .u64 m ∧ pre ++ Nu.put m = Nu.put n ∧ Fresh w wr s (bs ++ pre)) (fun _ u _ => (intOf u).toNat)
  case atStart => exact ⟨n, [], Nat.le_refl _, rfl, rfl, by simpa using HR.out⟩
  case round =>
    obtain ⟨m, pre, hm, rfl, hpre, hrow⟩ := hrel
    have HP : Hid (pre ++ Nu.put m = Nu.put n) := hpre
    have HR2 : Hid (Fresh w wr _ (bs ++ pre)) := hrow
    clear hpre hrow
    have hpl : pre.length ≤ 6 := by
      have h1 := Nu.put_len6 hn
      rw [← HP.out] at h1
      simp at h1; omega
    have hlen : (bs ++ pre).length ≤ 1099511627775 := by simp; omega
    by_cases hbig : 128 ≤ m
    · have hbyte := put_byte m
      have HB : Hid (bits .or .u8 ((m : Int) % 256) 128 = ((UInt8.ofNat (m % 128 + 128)).toNat : Int)) := hbyte
      clear hbyte
      go_wp2_with (at_builtin; go_must (refine wpList_append_fresh rfl _ _ 22 rfl i0 Tryd.underlying22 hi hz hz1 hz2 w _ (.slice (some ⟨wr.heap.size, 0, none⟩) 1 1) (bs ++ pre) [UInt8.ofNat (m % 128 + 128)] rfl rfl (HR2.out.alloc _) (fresh_row _ [UInt8.ofNat (m % 128 + 128)] wr.heap.size _ (heap_new wr _) (by rw [HB.out]; rfl) 1) (by simp) (by simp at hlen ⊢; omega) ?_; intro v3 w3 hrow3 ht3; have HR3 : Hid (Fresh w w3 v3 (bs ++ pre ++ [UInt8.ofNat (m % 128 + 128)])) := ⟨ht3, .inr hrow3⟩; clear hrow3 ht3))
      refine ⟨⟨m / 128, pre ++ [UInt8.ofNat (m % 128 + 128)], by omega, by go_num, ?_, by have := HR3.out; rwa [List.append_assoc] at this⟩, ?_⟩
      · rw [← HP.out, Nu.put_big hbig]; simp
      · simp only [intOf]; omega
    · have HB : Hid (((m : Nat) : Int) = ((UInt8.ofNat m).toNat : Int)) := by show _ = _; simp; omega
      go_wp2_with (at_builtin; go_must (refine wpList_append_fresh rfl _ _ 22 rfl i0 Tryd.underlying22 hi hz hz1 hz2 w _ (.slice (some ⟨wr.heap.size, 0, none⟩) 1 1) (bs ++ pre) [UInt8.ofNat m] rfl rfl (HR2.out.alloc _) (fresh_row _ [UInt8.ofNat m] wr.heap.size _ (heap_new wr _) (by rw [HB.out]; rfl) 1) (by simp) (by simp at hlen ⊢; omega) ?_; intro v3 w3 hrow3 ht3; have HR3 : Hid (RowAt w3 5 w.heap.size v3 (bs ++ pre ++ [UInt8.ofNat m])) := hrow3; have HT3 := hide ht3; clear hrow3 ht3))
      go_ret
      refine ⟨v3, rfl, ?_, HT3.out⟩
      have := HR3.out
      rw [← HP.out, Nu.put_small (by omega)]; rwa [List.append_assoc] at this
end Go.Proofs.YtcpjohpbakbggaaDoor

/- record's reader: a whole batch. -/
namespace Go.Proofs.YtcpjohpbakbggaaDoor
open Go.RowKit Go.Maps
set_option maxRecDepth 100000
set_option linter.unusedSimpArgs false
set_option linter.unusedVariables false

/-- A slice of records with a block of its own; behind its capacity the block may go on. -/
def RecRow (w : World) (base : Nat) (sv : Value) (rs : List Bt.Rec) : Prop :=
  (sv = .slice none 0 0 ∧ rs = []) ∨
  ∃ g cap cur, sv = .slice (some ⟨g, 0, none⟩) rs.length cap ∧ base ≤ g ∧ w.heap[g]? = some (.cells cur 76 (0, 0)) ∧ rs.length ≤ cap ∧ cap * 6 ≤ cur.size ∧ cap ≤ maxLen ∧ cur.toList.take (rs.length * 6) = rs.flatMap recC
theorem recC_len (r : Bt.Rec) : (recC r).length = 6 := rfl
theorem flat_len : ∀ (rs : List Bt.Rec), (rs.flatMap recC).length = rs.length * 6
  | [] => rfl
  | r :: rs => by rw [List.flatMap_cons, List.length_append, flat_len rs, recC_len, List.length_cons]; omega
theorem RecRow.kept {w w' : World} {base : Nat} {sv : Value} {rs : List Bt.Rec} {S : List Nat} (h : RecRow w base sv rs) (ht : Turn S w w') (hn : ∀ k ∈ sv.ownBlock, k ∉ S) : RecRow w' base sv rs := by
  rcases h with h | ⟨g, cap, cur, rfl, hb, hg, r⟩
  · exact .inl h
  · exact .inr ⟨g, cap, cur, rfl, hb, ht.heap hg (hn g (by simp [Value.ownBlock])), r⟩
theorem RecRow.lt {w : World} {base : Nat} {sv : Value} {rs : List Bt.Rec} (h : RecRow w base sv rs) : ∀ k ∈ sv.ownBlock, base ≤ k ∧ k < w.heap.size := by
  intro k hk
  rcases h with ⟨rfl, _⟩ | ⟨g, cap, cur, rfl, hb, hg, r⟩
  · simp [Value.ownBlock] at hk
  · simp [Value.ownBlock] at hk; subst hk; exact ⟨hb, lt_of_heap hg⟩
theorem RecRow.some_slice {w : World} {base : Nat} {sv : Value} {rs : List Bt.Rec} (h : RecRow w base sv rs) : ∃ a n c, sv = .slice a n c := by
  rcases h with ⟨rfl, _⟩ | ⟨g, cap, cur, rfl, r⟩
  · exact ⟨_, _, _, rfl⟩
  · exact ⟨_, _, _, rfl⟩
theorem flat_at : ∀ (rs : List Bt.Rec) (j i : Nat) (h : j < rs.length) (u : Value), (recC rs[j])[i]? = some u → (rs.flatMap recC)[j * 6 + i]? = some u
  | [], _, _, h, _, _ => by simp at h
  | r :: rs, 0, i, h, u, hu => by
    have hi : i < 6 := by have := (List.getElem?_eq_some_iff.1 hu).1; simpa [recC] using this
    rw [List.flatMap_cons, Nat.zero_mul, Nat.zero_add, List.getElem?_append_left (by rw [recC_len]; exact hi)]
    simpa using hu
  | r :: rs, j + 1, i, h, u, hu => by
    rw [List.flatMap_cons, List.getElem?_append_right (by rw [recC_len]; omega), recC_len, show (j + 1) * 6 + i - 6 = j * 6 + i by omega]
    exact flat_at rs j i (by simpa using h) u (by simpa using hu)
theorem RecRow.recs {w : World} {base : Nat} {sv : Value} {rs : List Bt.Rec} (h : RecRow w base sv rs) (ok : ∀ r ∈ rs, RecOk r) : RecsAt w sv rs := by
  rcases h with ⟨rfl, rfl⟩ | ⟨g, cap, cur, rfl, hb, hg, h1, h2, h3, h4⟩
  · exact ⟨none, 0, rfl, Nat.le_refl _, Nat.zero_le _, fun _ => rfl, fun j hj => absurd hj (Nat.not_lt_zero _)⟩
  · refine ⟨_, cap, rfl, h1, h3, by simp, fun j hj => ⟨ok _ (List.getElem_mem _), _, rfl, fun i u hu => ?_⟩⟩
    have hi : i < 6 := by have := (List.getElem?_eq_some_iff.1 hu).1; simpa [recC] using this
    rw [add_add, addr_add, cell_of hg]
    have h5 := flat_at rs j i hj u hu
    rw [← h4, List.getElem?_take_of_lt (by omega)] at h5
    simpa using h5

theorem Tryd.infoR : (Tryd.prog.info? 76).map (fun i => (i.zero.map (fun z => z.cells.size), i.size, i.bytes)) = some (some 6, 6, 64) := by kernel_rfl
theorem infoR_parts : ∃ i z, Tryd.prog.info? 76 = some i ∧ i.zero = some z ∧ z.cells.size = 6 ∧ i.size = 6 ∧ i.bytes = 64 := by
  have h := Tryd.infoR
  cases hi : Tryd.prog.info? 76 with
  | none => rw [hi] at h; cases h
  | some i =>
    rw [hi] at h
    simp only [Option.map_some, Option.some.injEq, Prod.mk.injEq, Option.map_eq_some_iff] at h
    obtain ⟨⟨z, hz, hz2⟩, h2, h3⟩ := h
    exact ⟨i, z, rfl, hz, hz2, h2, h3⟩
theorem run_append_rec (w : World) (base : Nat) (v : Value) (rs : List Bt.Rec) (r : Bt.Rec) (k : Nat) (hrow : RecRow w base v rs) (hk : w.heap[k]? = some (.cells (recC r).toArray 76 (0, 0))) (hlen : rs.length ≤ 1000000) (hbase : base ≤ w.heap.size) :
    ∃ v' w', (Builtin.append_ #[23, 23] 23 #[v, .slice (some ⟨k, 0, none⟩) 1 1]).run Tryd.prog w = .ok v' w' ∧ RecRow w' base v' (rs ++ [r]) ∧ Turn v.ownBlock.toList w w' ∧ (∀ j ∈ v'.ownBlock, j ∈ v.ownBlock ∨ w.heap.size ≤ j) := by
  obtain ⟨i, z, hi, hz, hzs, hsize, hby⟩ := infoR_parts
  have hmax : maxLen = 9223372036854775807 := by simp [maxLen]
  have hl : (recC r).length = 1 * i.size := by rw [hsize]; rfl
  have hnews : ∀ j u, (recC r)[j]? = some u → w.cell? ((⟨k, 0, none⟩ : Addr).add j) = some u := fun j u hu => by
    rw [addr_add, cell_of hk]; simpa using hu
  have hone : ∀ u ∈ recC r, u.oneCell' = true := by
    intro u hu
    simp only [recC, strV, List.mem_cons, List.not_mem_nil, or_false] at hu
    rcases hu with rfl | rfl | rfl | rfl | rfl | rfl <;> rfl
  rcases hrow with ⟨rfl, rfl⟩ | ⟨g, cap, cur, rfl, hb, hg, h1, h2, h3, h4⟩
  · have hr := run_append_nil (P := Tryd.prog) w 23 23 76 i z Tryd.underlying23 hi hz ⟨k, 0, none⟩ 1 1 (recC r) hl hnews (by omega) (by omega) (by rw [hby]; omega)
    have hge := grownCap_ge w 1 0 76
    have hcm := grownCap_le_maxLen w 1 0 76 (by rw [hmax]; omega)
    refine ⟨_, _, hr, .inr ⟨w.heap.size, _, _, by simp, hbase, heap_new w.drew _, by simpa using hge, ?_, hcm, ?_⟩, ((Turn.refl _ _).drew).alloc _, by simp [Value.ownBlock]⟩
    · simp only [Array.size_append, List.size_toArray, size_zeroCells, hzs, recC_len]
      omega
    · simp [recC]
  · have hfl : (rs.flatMap recC ++ recC r).length = (rs.length + 1) * 6 := by rw [List.length_append, flat_len, recC_len]; omega
    by_cases hroom : rs.length + 1 ≤ cap
    · have hr := run_append_room (P := Tryd.prog) w 23 23 76 i Tryd.underlying23 hi g rs.length cap cur hg ⟨k, 0, none⟩ 1 1 (recC r) hl hnews hone hroom (by rw [hsize, recC_len]; omega)
      rw [hsize] at hr
      refine ⟨_, _, hr, .inr ⟨g, cap, _, by simp, hb, setRow_heap w g cur _ 76 _ hg, by simpa using hroom, ?_, h3, ?_⟩, ⟨rfl, rfl, rfl, by simp, fun k _ hk => setRow_other w g k _ (fun e => hk (by simp [Value.ownBlock, e]))⟩, by simp [Value.ownBlock]⟩
      · simp [recC_len]; omega
      · simp only [h4, List.append_assoc]
        rw [← List.append_assoc, List.take_append_of_le_length (by rw [hfl]; simp), List.take_of_length_le (by rw [hfl]; simp)]
        simp
    · have holds : ∀ j u, (rs.flatMap recC)[j]? = some u → w.cell? ((⟨g, 0, none⟩ : Addr).add j) = some u := by
        intro j u hu
        rw [addr_add, cell_of hg]
        have hj : j < rs.length * 6 := by have := (List.getElem?_eq_some_iff.1 hu).1; rwa [flat_len] at this
        rw [← h4, List.getElem?_take_of_lt hj] at hu
        simpa using hu
      have hr := run_append_grow (P := Tryd.prog) w 23 23 76 i z Tryd.underlying23 hi hz ⟨g, 0, none⟩ rs.length cap (rs.flatMap recC) (by rw [flat_len, hsize]) holds ⟨k, 0, none⟩ 1 1 (recC r) hl hnews (by omega) (by omega) (growslice_fits (by omega) (by rw [hby]; omega))
      have hge := grownCap_ge w (rs.length + 1) cap 76
      have hcm := grownCap_le_maxLen w (rs.length + 1) cap 76 (by rw [hmax]; omega)
      refine ⟨_, _, hr, .inr ⟨w.heap.size, _, _, by simp, hbase, heap_new w.drew _, by simpa using hge, ?_, hcm, ?_⟩, ((Turn.refl _ _).drew).alloc _, by simp [Value.ownBlock]⟩
      · simp only [Array.size_append, List.size_toArray, size_zeroCells, hzs, recC_len, flat_len]
        omega
      · simp only [Array.toList_append]
        rw [List.take_append_of_le_length (by show (rs ++ [r]).length * 6 ≤ (rs.flatMap recC ++ recC r).length; rw [hfl]; simp), List.take_of_length_le (by show (rs.flatMap recC ++ recC r).length ≤ (rs ++ [r]).length * 6; rw [hfl]; simp)]
        simp
end Go.Proofs.YtcpjohpbakbggaaDoor

/- record's reader: batch, carried out. -/
namespace Go.Proofs.YtcpjohpbakbggaaDoor
open Go.RowKit Go.Maps
set_option maxRecDepth 100000
set_option linter.unusedSimpArgs false
set_option linter.unusedVariables false

theorem rec1_len (base : Int) (l : List UInt8) : (Bt.rec1 base l).2.length ≤ l.length ∧ (l ≠ [] → (Bt.rec1 base l).2.length < l.length) := by
  have a0 := num_len l
  have a1 := num_len (Bt.num l).2
  have a2 := num_len (Bt.num (Bt.num l).2).2
  have a3 := text_len (Bt.num (Bt.num (Bt.num l).2).2).2
  have a4 := text_len (Bt.text (Bt.num (Bt.num (Bt.num l).2).2).2).2
  have hlt : l ≠ [] → (Bt.num l).2.length < l.length := by
    intro h
    have hp := List.length_pos_iff.2 h
    unfold Bt.num
    have := Nu.get_size (b := l)
    split
    · simpa using hp
    · simp; omega
  have hm : (Bt.rec1 base l).2.length ≤ (Bt.num (Bt.num (Bt.num l).2).2).2.length := by
    unfold Bt.rec1
    simp only
    split <;> split <;> (try dsimp only) <;> omega
  exact ⟨by omega, fun h => by have := hlt h; omega⟩
theorem rec1_ok (base : Int) (l : List UInt8) (h0 : 0 ≤ base) (h1 : base ≤ 1099511627776) (hl : l.length ≤ 1000000) : RecOk (Bt.rec1 base l).1 := by
  have a0 := num_len l
  have a1 := num_len (Bt.num l).2
  have a2 := num_len (Bt.num (Bt.num l).2).2
  have a3 := text_len (Bt.num (Bt.num (Bt.num l).2).2).2
  have a4 := text_len (Bt.text (Bt.num (Bt.num (Bt.num l).2).2).2).2
  unfold Bt.rec1
  simp only
  refine ⟨by simp only; omega, by simp only; omega, by simp only; omega, by simp only; omega, ?_, ?_⟩
  · simp only
    split
    · omega
    · simp
  · simp only
    split
    · simp
    · split <;> (try dsimp only) <;> omega
theorem recs1_ok (base : Int) (h0 : 0 ≤ base) (h1 : base ≤ 1099511627776) : ∀ (n : Nat) (l : List UInt8), l.length ≤ 1000000 → ∀ r ∈ Bt.recs1 base n l, RecOk r
  | 0, _, _, r, hr => by simp [Bt.recs1] at hr
  | n + 1, l, hl, r, hr => by
    unfold Bt.recs1 at hr
    split at hr
    · simp at hr
    · rcases List.mem_cons.1 hr with rfl | hr
      · exact rec1_ok base l h0 h1 hl
      · exact recs1_ok base h0 h1 n _ (by have := rec1_len base l; omega) r hr

end Go.Proofs.YtcpjohpbakbggaaDoor

/- The document's Put. -/
namespace Go.Proofs.YtcpjohpbakbggaaDoor
open Go.RowKit Go.Maps
set_option maxRecDepth 100000
set_option linter.unusedSimpArgs false
set_option linter.unusedVariables false

/-- A new row of bytes is a row. -/
theorem new_row (w : World) (bs : List UInt8) (b : Nat) (cs : Array Value) (hb : w.heap[b]? = some (.cells cs 5 (0, 0))) (hc : cs = (bs.map encB).toArray) (base : Nat) (h : base ≤ b) (hl : bs.length ≤ maxLen) : RowAt w 5 base (.slice (some ⟨b, 0, none⟩) bs.length bs.length) bs := by
  refine .inr ⟨b, bs.length, cs, rfl, h, hb, Nat.le_refl _, by rw [hc]; simp, hl, ?_⟩
  rw [hc]; simp [List.take_of_length_le]

set_option maxHeartbeats 1000000 in
theorem refPut_any : ∀ (f n : Nat), n < f → n ≤ 1099511627776 → ∀ w : World,
    Calls Tryd.prog 48 #[.int .i64 n] w fun e w' => ∃ v', e = .returned v' ∧ RowAt w' 5 w.heap.size v' (Nu.put n) ∧ Turn [] w w'
  | 0, _, h, _, _ => by omega
  | f + 1, n, h, hn, w => by
    obtain ⟨i0, hi, hz, hz1, hz2⟩ := infoB_parts
    by_cases hs : n < 128
    · have HB : Hid ((n : Int) = ((UInt8.ofNat n).toNat : Int)) := by show _ = _; simp; omega
      have HP : Hid (Nu.put n = [UInt8.ofNat n]) := Nu.put_small hs
      go_enter Tryd.func48, Tryd.ntmps48
      go_wp2
      go_ret
      refine ⟨_, rfl, ?_, (Turn.refl _ _).alloc _⟩
      rw [HP.out]
      exact new_row _ [UInt8.ofNat n] w.heap.size _ (heap_new w _) (by rw [HB.out]; rfl) _ (Nat.le_refl _) (by simp [maxLen])
    · have IH : Hid (∀ w : World, Calls Tryd.prog 48 #[.int .i64 (n / 128 : Nat)] w fun e w' => ∃ v', e = .returned v' ∧ RowAt w' 5 w.heap.size v' (Nu.put (n / 128)) ∧ Turn [] w w') := refPut_any f (n / 128) (by omega) (by omega)
      have HB : Hid ((n : Int) % 128 + 128 = ((UInt8.ofNat (n % 128 + 128)).toNat : Int)) := by show _ = _; simp; omega
      have HP : Hid (Nu.put n = [UInt8.ofNat (n % 128 + 128)] ++ Nu.put (n / 128)) := Nu.put_big (by omega)
      have HL := Nu.put_len6 (show n / 128 ≤ 1099511627776 by omega)
      go_enter Tryd.func48, Tryd.ntmps48
      go_wp2_with fail
      rw [show (n : Int) / 128 = ((n / 128 : Nat) : Int) by omega]
      refine (IH.out _).mono ?_
      rintro e w2 ⟨v2, rfl, hr2, ht2⟩
      have hw2 := ht2.size
      simp only [World.size_alloc] at hw2
      have h1 : RowAt w2 5 w.heap.size (.slice (some ⟨w.heap.size, 0, none⟩) [UInt8.ofNat (n % 128 + 128)].length [UInt8.ofNat (n % 128 + 128)].length) [UInt8.ofNat (n % 128 + 128)] :=
        (new_row _ [UInt8.ofNat (n % 128 + 128)] w.heap.size _ (heap_new w _) (by rw [HB.out]; rfl) _ (Nat.le_refl _) (by simp [maxLen])).kept ht2 (by simp)
      have H1 : Hid (RowAt w2 5 w.heap.size (.slice (some ⟨w.heap.size, 0, none⟩) 1 1) [UInt8.ofNat (n % 128 + 128)]) := h1
      have H2 : Hid (SliceAt w2 v2 ((Nu.put (n / 128)).map encB)) := hr2.cells
      clear h1 hr2
      go_wp2_with (at_builtin; go_must (refine wpList_append_row _ rfl _ _ 22 rfl 5 w.heap.size i0 Tryd.underlying22 hi hz hz1 hz2 (.slice (some ⟨w.heap.size, 0, none⟩) 1 1) v2 [UInt8.ofNat (n % 128 + 128)] (Nu.put (n / 128)) rfl rfl H1.out H2.out (by simp; omega) (by omega) ?_; intro v3 w3 hrow3 ht3 hown3))
      go_ret
      refine ⟨v3, rfl, by rw [HP.out]; exact hrow3, ?_⟩
      exact (((Turn.refl [] w).alloc _).trans ht2 (by simp)).trans ht3 (fun k hk => by simp [Value.ownBlock] at hk; exact .inr (by omega))
end Go.Proofs.YtcpjohpbakbggaaDoor

/- The document's Get. -/
namespace Go.Proofs.YtcpjohpbakbggaaDoor
open Go.RowKit Go.Maps
set_option maxRecDepth 100000
set_option linter.unusedSimpArgs false
set_option linter.unusedVariables false

theorem add_val (bs : List UInt8) (k : Nat) (hk : k < bs.length) (h6 : k < 6) :
    wrap64 ((Nu.val (bs.take k) : Int) + wrap64 ((bs[k].toNat : Int) % 128 * 128 ^ k)) = ((Nu.val (bs.take (k + 1)) : Nat) : Int) := by
  have hb := bs[k].toNat_lt
  rw [take_snoc bs k hk, Nu.val_snoc]
  have hl : (bs.take k).length = k := by simp; omega
  have hv := Nu.val_lt (bs.take k)
  rw [hl] at hv ⊢
  have hp : 128 ^ k ≤ 128 ^ 5 := Nat.pow_le_pow_right (by omega) (by omega)
  have hp' : 128 ^ k ≤ 34359738368 := hp
  rw [show ((bs[k].toNat : Int) % 128) = ((bs[k].toNat % 128 : Nat) : Int) by omega]
  generalize hq : bs[k].toNat % 128 = q at *
  have hm : q * 128 ^ k ≤ 127 * 34359738368 := Nat.mul_le_mul (by omega) hp'
  rw [show ((128 : Int) ^ k) = ((128 ^ k : Nat) : Int) by simp]
  generalize Nu.val (bs.take k) = x at *
  rw [show ((q : Int) * ((128 ^ k : Nat) : Int)) = ((q * 128 ^ k : Nat) : Int) by simp]
  generalize 128 ^ k = r at *
  generalize q * r = y at *
  rw [IntWalk.wrap64_in (y : Int) (by omega), IntWalk.wrap64_in _ (by omega)]
  omega

set_option maxHeartbeats 1000000 in
theorem refGet_any (w : World) (v : Value) (bs : List UInt8) (hx : BytesAt w v bs) (hl : bs.length ≤ 9223372036854775807) :
    Calls Tryd.prog 28 #[v] w fun e w' => e = .returned (.tuple #[.int .i64 (Nu.get bs).1, .int .i64 (Nu.get bs).2]) ∧ Turn [] w w' := by
  obtain ⟨a, c, rfl, hlc, hcm, hc⟩ := hx.form
  have HX : Hid (BytesAt w (.slice a bs.length c) bs) := hx
  clear hx
  go_enter Tryd.func28, Tryd.ntmps28
  go_wp2
  go_loop [4, 5, 6] (fun n t i => ∃ k : Nat, k ≤ bs.length ∧ k ≤ 6 ∧ i = .int .i64 k ∧ n = .int .i64 (Nu.val (bs.take k)) ∧ t = .int .i64 (128 ^ k : Nat) ∧ Nu.more (bs.take k) = true ∧ Nu.get bs = Nu.getF (6 - k) (bs.take k) (bs.drop k)) (fun _ _ i => 6 - (intOf i).toNat)
  case atStart => exact ⟨0, Nat.zero_le _, by omega, rfl, rfl, rfl, rfl, rfl⟩
  case round =>
    obtain ⟨k, hk, hk6, rfl, rfl, rfl, hmo, hg⟩ := hrel
    have HG : Hid (Nu.get bs = Nu.getF (6 - k) (bs.take k) (bs.drop k)) := hg
    have HM : Hid (Nu.more (bs.take k) = true) := hmo
    clear hg hmo
    by_cases hlt : k < bs.length
    · by_cases hlt6 : k < 6
      · obtain ⟨p, rfl, hcell⟩ := hc k (by omega)
        have hb8 := bs[k].toNat_lt
        clear hc
        have hn1 := Nu.val_lt (bs.take k)
        rw [show (bs.take k).length = k by simp; omega] at hn1
        have hp : 128 ^ k ≤ 128 ^ 5 := Nat.pow_le_pow_right (by omega) (by omega)
        have hp' : 128 ^ k ≤ 34359738368 := hp
        have hval := add_val bs k hlt hlt6
        have htim : wrap64 (128 ^ k * 128) = 128 ^ (k + 1) := by
          rw [Int.pow_succ, IntWalk.wrap64_in _ (by rw [show ((128 : Int) ^ k) = ((128 ^ k : Nat) : Int) by simp]; generalize 128 ^ k = q at *; omega)]
        have HS : Hid (Nu.get bs = Nu.getF (5 - k + 1) (bs.take k) (bs[k] :: bs.drop (k + 1))) := by
          show _ = _
          rw [HG.out, drop_cons bs k (by omega), show 6 - k = 5 - k + 1 by omega]
        have HT : Hid (bs.take k ++ [bs[k]] = bs.take (k + 1)) := (take_snoc bs k (by omega)).symm
        have HL : Hid ((bs.take k).length = k) := by show _ = _; simp; omega
        have HN : Hid (bs.take k ≠ [] ↔ 0 < k) := by
          show _ ↔ _
          have := HL.out
          rw [List.ne_nil_iff_length_pos, this]
        by_cases hc8 : 128 ≤ bs[k].toNat
        · have HM2 : Hid (Nu.get bs = Nu.getF (6 - (k + 1)) (bs.take (k + 1)) (bs.drop (k + 1))) := by
            show _ = _
            rw [HS.out, Nu.getF_more hc8, HT.out, show 5 - k = 6 - (k + 1) by omega]
          have HM3 : Hid (Nu.more (bs.take (k + 1)) = true) := by
            show _ = _
            rw [← HT.out, Nu.more_snoc, HM.out]; simpa using hc8
          go_wp2
          refine ⟨⟨k + 1, by omega, by omega, by go_num, by rw [hval], by rw [htim]; simp, HM3.out, HM2.out⟩, ?_⟩
          simp only [intOf]; omega
        · have HM2 : Hid (Nu.get bs = if 1099511627776 < Nu.val (bs.take (k + 1)) ∨ (bs.take k ≠ [] ∧ bs[k].toNat = 0) then (0, 0) else (Nu.val (bs.take (k + 1)), k + 1)) := by
            show _ = _
            rw [HS.out, Nu.getF_last (by omega), HT.out, HL.out]
          by_cases hbig : 1099511627776 < Nu.val (bs.take (k + 1))
          · have hbd : decide ((1099511627776 : Int) < ((Nu.val (bs.take (k + 1)) : Nat) : Int)) = true := by simp; omega
            have hz : Nu.get bs = (0, 0) := by rw [HM2.out, if_pos (.inl hbig)]
            have HZ := hide hz
            clear hz
            go_wp2
            go_region
            all_goals
              go_wp2
              go_ret2
              exact ⟨ret_two (by rw [HZ.out] <;> rfl) (by rw [HZ.out] <;> rfl), (Turn.refl _ _).drew⟩
          · have hbd : decide ((1099511627776 : Int) < ((Nu.val (bs.take (k + 1)) : Nat) : Int)) = false := by simp; omega
            have hput := fun w => refPut_any (Nu.val (bs.take (k + 1)) + 1) (Nu.val (bs.take (k + 1))) (by omega) (by omega) w
            have HPut := hide hput
            clear hput
            have hsl := fun w => @run_to (some p) bs.length c (k + 1) (by omega) w
            simp only [Int.natCast_add, Int.natCast_one] at hsl
            have hcvA : ∀ Z, Turn [] w Z → (convert 22 9 (.slice (some p) (k + 1) c)).run Tryd.prog Z = .ok (.string ⟨(bs.take (k + 1)).toArray⟩) Z := fun Z hZ => ((HX.out.take (n := k + 1) (by omega)).still hZ).conv
            have hcv0 := hcvA w.drew (Turn.refl [] w).drew
            have HC := hide hcvA
            clear hcvA
            by_cases hlast : bs.take k ≠ [] ∧ bs[k].toNat = 0
            · have hz : Nu.get bs = (0, 0) := by rw [HM2.out, if_pos (.inr hlast)]
              have hne : Nu.put (Nu.val (bs.take (k + 1))) ≠ bs.take (k + 1) := by rw [← HT.out]; exact Nu.put_ne _ _ _ hlast.1 hlast.2
              have HZ := hide hz
              have HNE := hide hne
              clear hz hne hlast
              go_wp2
              refine wp_region_loose (Turn []) (by kernel_rfl) (by kernel_rfl) (by kernel_rfl) (by kernel_rfl) rfl (Turn.refl _) (fun _ _ _ h k => h.same k) ?_
              apply Lo.runx 1 rfl rfl [] (by kernel_rfl) (Turn.refl _)
              apply Exists.intro; apply And.intro
              · intro u w1 hR hF
                clear hF
                refine ⟨rfl, fun a ha K hK => ?_⟩
                have e4 := ha 4
                conv at e4 => rhs; whnf
                clear ha
                go_simp
                refine hK _ ?_; rfl
              apply Lo.runx 2 rfl rfl [0] (by kernel_rfl) (Turn.refl _)
              apply Exists.intro; apply And.intro
              · intro u w1 hR hF
                obtain ⟨h0, -⟩ := hF
                refine ⟨rfl, fun a ha K hK => ?_⟩
                have e34 := (ha 34).trans h0
                clear ha h0
                go_simp
                refine hK _ ?_; rfl
              apply Lo.runx 3 rfl rfl [1] (by kernel_rfl) (Turn.refl _)
              apply Exists.intro; apply And.intro
              · intro u w1 hR hF
                obtain ⟨h1, -⟩ := hF
                refine ⟨rfl, fun a ha K hK => ?_⟩
                have e35 := (ha 35).trans h1
                clear ha h1
                go_simp
                refine hK _ ?_; rfl
              apply Lo.runx 4 rfl rfl [2] (by kernel_rfl) (Turn.refl _)
              apply Exists.intro; apply And.intro
              · intro u w1 hR hF
                obtain ⟨h2, -⟩ := hF
                refine ⟨.inl ⟨false, h2, rfl⟩, fun a ha K hK => ?_⟩
                have e4 := ha 4
                conv at e4 => rhs; whnf
                clear ha h2
                go_simp
                refine hK _ ?_; rfl
              refine Lo.run 5 rfl rfl [2, 3] (fun x w' => BytesAt w' x (Nu.put (Nu.val (bs.take (k + 1))))) (by kernel_rfl) (fun x w w' h hR => ?_) (fun _ _ h => h) (fun u w1 hR hF => ?_) ?_
              · exact h.still hR
              · obtain ⟨h2, h3, -⟩ := hF
                refine ⟨.inl ⟨false, h2, rfl⟩, fun a ha K hK => ?_⟩
                have e37 := (ha 37).trans h3
                clear ha h2 h3
                go_simp
                refine (HPut.out _).mono ?_
                rintro e w2 ⟨v2, rfl, hr2, ht2⟩
                exact hK _ _ (hr2.bytes) ht2
              apply Lo.runx 6 rfl rfl [2, 4] (by kernel_rfl) (Turn.refl _)
              apply Exists.intro; apply And.intro
              · intro u w1 hR hF
                obtain ⟨h2, h4, -⟩ := hF
                refine ⟨.inl ⟨false, h2, rfl⟩, fun a ha K hK => ?_⟩
                have e38 : a.tmps.getD 38 undef = u 4 := ha 38
                have h4 := (show (fun x w' => BytesAt w' x (Nu.put (Nu.val (bs.take (k + 1))))) (u 4) w1 from h4)
                dsimp only at h4
                clear ha h2
                have hcv := (show BytesAt w1 (u 4) _ from h4).conv
                go_simp
                refine hK _ ?_; rfl
              apply Lo.runx 7 rfl rfl [2] (by kernel_rfl) (Turn.refl _)
              apply Exists.intro; apply And.intro
              · intro u w1 hR hF
                obtain ⟨h2, -⟩ := hF
                refine ⟨.inl ⟨false, h2, rfl⟩, fun a ha K hK => ?_⟩
                have e0 := ha 0
                conv at e0 => rhs; whnf
                clear ha h2
                go_simp
                refine hK _ ?_; rfl
              apply Lo.runx 8 rfl rfl [2] (by kernel_rfl) (Turn.refl _)
              apply Exists.intro; apply And.intro
              · intro u w1 hR hF
                obtain ⟨h2, -⟩ := hF
                refine ⟨.inl ⟨false, h2, rfl⟩, fun a ha K hK => ?_⟩
                have e6 := ha 6
                conv at e6 => rhs; whnf
                clear ha h2
                go_simp
                refine hK _ ?_; rfl
              refine Lo.runv 9 rfl rfl [2, 7] (.int .i64 ((k : Int) + 1)) (by kernel_rfl) (fun u w1 hR hF => ?_) (Turn.refl _) ?_
              · obtain ⟨h2, h7, -⟩ := hF
                refine ⟨.inl ⟨false, h2, rfl⟩, fun a ha K hK => ?_⟩
                have e41 := (ha 41).trans h7
                clear ha h2 h7
                go_simp
                refine hK _ ?_
                rw [IntWalk.i64_left, IntWalk.wrap64_in _ (by omega)]
              refine Lo.runv 10 rfl rfl [2, 6, 8] (.slice (some p) (k + 1) c) (by kernel_rfl) (fun u w1 hR hF => ?_) (Turn.refl _) ?_
              · obtain ⟨h2, h6, h8, -⟩ := hF
                refine ⟨.inl ⟨false, h2, rfl⟩, fun a ha K hK => ?_⟩
                have e40 := (ha 40).trans h6
                have e42 := (ha 42).trans h8
                clear ha h2 h6 h8
                go_simp
                refine hK _ ?_
                rfl
              apply Lo.runx 11 rfl rfl [2, 9] (by kernel_rfl) (Turn.refl _)
              apply Exists.intro; apply And.intro
              · intro u w1 hR hF
                obtain ⟨h2, h9, -⟩ := hF
                refine ⟨.inl ⟨false, h2, rfl⟩, fun a ha K hK => ?_⟩
                have e43 := (ha 43).trans h9
                clear ha h2 h9
                have hcv := HC.out w1 ((Turn.refl [] w).drew.same hR)
                go_simp
                refine hK _ ?_; rfl
              refine Lo.runv 12 rfl rfl [2, 5, 10] (.bool true) (by kernel_rfl) (fun u w1 hR hF => ?_) (Turn.refl _) ?_
              · obtain ⟨h2, h5, h10, -⟩ := hF
                refine ⟨.inl ⟨false, h2, rfl⟩, fun a ha K hK => ?_⟩
                have e39 := (ha 39).trans h5
                have e44 := (ha 44).trans h10
                clear ha h2 h5 h10
                go_simp
                refine hK _ ?_
                simp [HNE.out]
              apply Lo.runx 13 rfl rfl [2, 11] (by kernel_rfl) (Turn.refl _)
              apply Exists.intro; apply And.intro
              · intro u w1 hR hF
                obtain ⟨h2, h11, -⟩ := hF
                refine ⟨rfl, fun a ha K hK => ?_⟩
                have e36 := (ha 36).trans h2
                have e45 := (ha 45).trans h11
                clear ha h2 h11
                go_simp
                refine hK _ ?_; rfl
              refine Lo.done [12] (fun u w1 hRd hSd hF => ?_)
              clear hSd
              obtain ⟨f12, -⟩ := hF
              have d12 : u 12 = _ := f12
              clear f12
              simp only [putFrom, Act.put, List.setIfInBounds_toArray, List.set_cons_succ, List.set_cons_zero, Nat.zero_add, Nat.reduceAdd, d12]
              have ht1 := (Turn.refl [] w).drew.same hRd
              clear hRd
              all_goals
                go_wp2
                go_ret2
                exact ⟨ret_two (by rw [HZ.out] <;> rfl) (by rw [HZ.out] <;> rfl), ht1⟩
            · have hz : Nu.get bs = (Nu.val (bs.take (k + 1)), k + 1) := by
                rw [HM2.out, if_neg]
                rintro (h1 | h1)
                · omega
                · exact hlast h1
              have hpt : Nu.put (Nu.val (bs.take (k + 1))) = bs.take (k + 1) := by
                rw [← HT.out]
                refine Nu.put_val _ _ HM.out (by omega) ?_
                by_cases e : bs.take k = []
                · exact .inl e
                · exact .inr (fun e2 => hlast ⟨e, e2⟩)
              have HZ := hide hz
              have HE := hide hpt
              clear hz hpt hlast
              go_wp2
              refine wp_region_loose (Turn []) (by kernel_rfl) (by kernel_rfl) (by kernel_rfl) (by kernel_rfl) rfl (Turn.refl _) (fun _ _ _ h k => h.same k) ?_
              apply Lo.runx 1 rfl rfl [] (by kernel_rfl) (Turn.refl _)
              apply Exists.intro; apply And.intro
              · intro u w1 hR hF
                clear hF
                refine ⟨rfl, fun a ha K hK => ?_⟩
                have e4 := ha 4
                conv at e4 => rhs; whnf
                clear ha
                go_simp
                refine hK _ ?_; rfl
              apply Lo.runx 2 rfl rfl [0] (by kernel_rfl) (Turn.refl _)
              apply Exists.intro; apply And.intro
              · intro u w1 hR hF
                obtain ⟨h0, -⟩ := hF
                refine ⟨rfl, fun a ha K hK => ?_⟩
                have e34 := (ha 34).trans h0
                clear ha h0
                go_simp
                refine hK _ ?_; rfl
              apply Lo.runx 3 rfl rfl [1] (by kernel_rfl) (Turn.refl _)
              apply Exists.intro; apply And.intro
              · intro u w1 hR hF
                obtain ⟨h1, -⟩ := hF
                refine ⟨rfl, fun a ha K hK => ?_⟩
                have e35 := (ha 35).trans h1
                clear ha h1
                go_simp
                refine hK _ ?_; rfl
              apply Lo.runx 4 rfl rfl [2] (by kernel_rfl) (Turn.refl _)
              apply Exists.intro; apply And.intro
              · intro u w1 hR hF
                obtain ⟨h2, -⟩ := hF
                refine ⟨.inl ⟨false, h2, rfl⟩, fun a ha K hK => ?_⟩
                have e4 := ha 4
                conv at e4 => rhs; whnf
                clear ha h2
                go_simp
                refine hK _ ?_; rfl
              refine Lo.run 5 rfl rfl [2, 3] (fun x w' => BytesAt w' x (bs.take (k + 1))) (by kernel_rfl) (fun x w w' h hR => ?_) (fun _ _ h => h) (fun u w1 hR hF => ?_) ?_
              · exact h.still hR
              · obtain ⟨h2, h3, -⟩ := hF
                refine ⟨.inl ⟨false, h2, rfl⟩, fun a ha K hK => ?_⟩
                have e37 := (ha 37).trans h3
                clear ha h2 h3
                go_simp
                refine (HPut.out _).mono ?_
                rintro e w2 ⟨v2, rfl, hr2, ht2⟩
                exact hK _ _ (by have := hr2.bytes; rwa [HE.out] at this) ht2
              apply Lo.runx 6 rfl rfl [2, 4] (by kernel_rfl) (Turn.refl _)
              apply Exists.intro; apply And.intro
              · intro u w1 hR hF
                obtain ⟨h2, h4, -⟩ := hF
                refine ⟨.inl ⟨false, h2, rfl⟩, fun a ha K hK => ?_⟩
                have e38 : a.tmps.getD 38 undef = u 4 := ha 38
                have h4 := (show (fun x w' => BytesAt w' x (bs.take (k + 1))) (u 4) w1 from h4)
                dsimp only at h4
                clear ha h2
                have hcv := (show BytesAt w1 (u 4) _ from h4).conv
                go_simp
                refine hK _ ?_; rfl
              apply Lo.runx 7 rfl rfl [2] (by kernel_rfl) (Turn.refl _)
              apply Exists.intro; apply And.intro
              · intro u w1 hR hF
                obtain ⟨h2, -⟩ := hF
                refine ⟨.inl ⟨false, h2, rfl⟩, fun a ha K hK => ?_⟩
                have e0 := ha 0
                conv at e0 => rhs; whnf
                clear ha h2
                go_simp
                refine hK _ ?_; rfl
              apply Lo.runx 8 rfl rfl [2] (by kernel_rfl) (Turn.refl _)
              apply Exists.intro; apply And.intro
              · intro u w1 hR hF
                obtain ⟨h2, -⟩ := hF
                refine ⟨.inl ⟨false, h2, rfl⟩, fun a ha K hK => ?_⟩
                have e6 := ha 6
                conv at e6 => rhs; whnf
                clear ha h2
                go_simp
                refine hK _ ?_; rfl
              refine Lo.runv 9 rfl rfl [2, 7] (.int .i64 ((k : Int) + 1)) (by kernel_rfl) (fun u w1 hR hF => ?_) (Turn.refl _) ?_
              · obtain ⟨h2, h7, -⟩ := hF
                refine ⟨.inl ⟨false, h2, rfl⟩, fun a ha K hK => ?_⟩
                have e41 := (ha 41).trans h7
                clear ha h2 h7
                go_simp
                refine hK _ ?_
                rw [IntWalk.i64_left, IntWalk.wrap64_in _ (by omega)]
              refine Lo.runv 10 rfl rfl [2, 6, 8] (.slice (some p) (k + 1) c) (by kernel_rfl) (fun u w1 hR hF => ?_) (Turn.refl _) ?_
              · obtain ⟨h2, h6, h8, -⟩ := hF
                refine ⟨.inl ⟨false, h2, rfl⟩, fun a ha K hK => ?_⟩
                have e40 := (ha 40).trans h6
                have e42 := (ha 42).trans h8
                clear ha h2 h6 h8
                go_simp
                refine hK _ ?_
                rfl
              apply Lo.runx 11 rfl rfl [2, 9] (by kernel_rfl) (Turn.refl _)
              apply Exists.intro; apply And.intro
              · intro u w1 hR hF
                obtain ⟨h2, h9, -⟩ := hF
                refine ⟨.inl ⟨false, h2, rfl⟩, fun a ha K hK => ?_⟩
                have e43 := (ha 43).trans h9
                clear ha h2 h9
                have hcv := HC.out w1 ((Turn.refl [] w).drew.same hR)
                go_simp
                refine hK _ ?_; rfl
              refine Lo.runv 12 rfl rfl [2, 5, 10] (.bool false) (by kernel_rfl) (fun u w1 hR hF => ?_) (Turn.refl _) ?_
              · obtain ⟨h2, h5, h10, -⟩ := hF
                refine ⟨.inl ⟨false, h2, rfl⟩, fun a ha K hK => ?_⟩
                have e39 := (ha 39).trans h5
                have e44 := (ha 44).trans h10
                clear ha h2 h5 h10
                go_simp
                refine hK _ ?_
                simp
              apply Lo.runx 13 rfl rfl [2, 11] (by kernel_rfl) (Turn.refl _)
              apply Exists.intro; apply And.intro
              · intro u w1 hR hF
                obtain ⟨h2, h11, -⟩ := hF
                refine ⟨rfl, fun a ha K hK => ?_⟩
                have e36 := (ha 36).trans h2
                have e45 := (ha 45).trans h11
                clear ha h2 h11
                go_simp
                refine hK _ ?_; rfl
              refine Lo.done [12] (fun u w1 hRd hSd hF => ?_)
              clear hSd
              obtain ⟨f12, -⟩ := hF
              have d12 : u 12 = _ := f12
              clear f12
              simp only [putFrom, Act.put, List.setIfInBounds_toArray, List.set_cons_succ, List.set_cons_zero, Nat.zero_add, Nat.reduceAdd, d12]
              have ht1 := (Turn.refl [] w).drew.same hRd
              clear hRd
              all_goals
                go_wp2
                go_ret2
                exact ⟨ret_two (by rw [HZ.out] <;> rfl) (by rw [HZ.out] <;> rfl), ht1⟩
      · go_wp2
        go_ret2
        have hz : Nu.get bs = (0, 0) := by
          rw [HG.out, show 6 - k = 0 by omega]; rfl
        exact ⟨ret_two (by rw [hz] <;> rfl) (by rw [hz] <;> rfl), Turn.refl _ _⟩
    · go_wp2
      go_ret2
      have hz : Nu.get bs = (0, 0) := by
        rw [HG.out, List.drop_of_length_le (by omega)]; exact Nu.getF_none _ _
      exact ⟨ret_two (by rw [hz] <;> rfl) (by rw [hz] <;> rfl), Turn.refl _ _⟩
end Go.Proofs.YtcpjohpbakbggaaDoor

/- The document's taker: num, text. -/
namespace Go.Proofs.YtcpjohpbakbggaaDoor
open Go.RowKit Go.Maps
set_option maxRecDepth 100000
set_option linter.unusedSimpArgs false
set_option linter.unusedVariables false

/-- A taker in a box: what is left, and whether it is bad. -/
def TkAt (w : World) (tb B : Nat) (t : List UInt8 × Bool) : Prop :=
  ∃ sv, w.heap[tb]? = some (.cells #[sv, .bool t.2] 48 (0, 0)) ∧ BytesAt w sv t.1 ∧ (t.1 ≠ [] → ∀ k ∈ sv.ownBlock, k < B)
theorem TkAt.kept {w w' : World} {tb B : Nat} {t : List UInt8 × Bool} {S : List Nat} (h : TkAt w tb B t) (ht : Turn S w w') (hr : tb ∉ S) (hB : ∀ x ∈ S, B ≤ x) : TkAt w' tb B t := by
  obtain ⟨sv, h1, h2, h3⟩ := h
  exact ⟨sv, ht.heap h1 hr, h2.kept' ht (fun h0 k hk hm => by have := h3 h0 k hk; have := hB k hm; omega), h3⟩
theorem TkAt.still {w w' : World} {tb B : Nat} {t : List UInt8 × Bool} (h : TkAt w tb B t) (ht : Turn [] w w') : TkAt w' tb B t := h.kept ht (by simp) (by simp)
theorem numR_len (t : List UInt8 × Bool) : (Bt.numR t).2.1.length ≤ t.1.length ∧ (Bt.numR t).1 ≤ 1099511627776 := by
  unfold Bt.numR
  have := Nu.get_size (b := t.1)
  simp; omega

set_option maxHeartbeats 2000000 in
theorem tnum_any (w : World) (tb B : Nat) (t : List UInt8 × Bool) (h : TkAt w tb B t) (hB : B ≤ tb) (hl : t.1.length ≤ 1000000) :
    Calls Tryd.prog 13 #[.pointer (some ⟨tb, 0, none⟩)] w fun e w' => e = .returned (.int .i64 (Bt.numR t).1) ∧ TkAt w' tb B (Bt.numR t).2 ∧ Turn [tb] w w' := by
  obtain ⟨l, bad⟩ := t
  obtain ⟨sv, h1, h2, h3⟩ := h
  simp only at h1 h2 h3 hl
  have H1 := hide h1
  have H2 := hide h2
  have H3 := hide h3
  obtain ⟨a, c, hsv, hlc, hcm, hc⟩ := h2.form
  subst hsv
  have c0 : w.cell? ⟨tb, 0, none⟩ = some (.slice a l.length c) := by simpa using cell_of h1 0
  have c1 : w.cell? ⟨tb, 1, none⟩ = some (.bool bad) := by simpa using cell_of h1 1
  have hgs := Nu.get_size (b := l)
  have hn : Bt.numR (l, bad) = ((Nu.get l).1, (l.drop (Nu.get l).2, bad || (Nu.get l).2 == 0)) := rfl
  rw [hn]
  obtain ⟨n, s, hns⟩ : ∃ n s, Nu.get l = (n, s) := ⟨_, _, rfl⟩
  rw [hns] at hgs ⊢
  simp only at hgs ⊢
  have HNS := hide hns
  have hsl := fun w => @run_from a l.length c s (by omega) w
  clear h1 h2 h3 hc hn hns
  obtain ⟨b', hb'⟩ : ∃ b', (bad || s == 0) = b' := ⟨_, rfl⟩
  have HBB := hide hb'
  have fin : ∀ w1, Turn [] w w1 → TkAt ((w1.setCell ⟨tb, 1, none⟩ (.bool b')).setCell ⟨tb, 0, none⟩ (.slice (advA a s c) (l.length - s) (c - s))) tb B (l.drop s, b') ∧ Turn [tb] w ((w1.setCell ⟨tb, 1, none⟩ (.bool b')).setCell ⟨tb, 0, none⟩ (.slice (advA a s c) (l.length - s) (c - s))) := by
    intro w1 ht
    have g1 := ht.heap H1.out (by simp)
    have ht2 : Turn [tb] w1 ((w1.setCell ⟨tb, 1, none⟩ (.bool b')).setCell ⟨tb, 0, none⟩ (.slice (advA a s c) (l.length - s) (c - s))) := ((Turn.refl _ _).setCell (.inl (by simp)) _).setCell (.inl (by simp)) _
    have hd := (H2.out.still ht).drop (n := s) (by omega)
    have own : l.drop s ≠ [] → ∀ k ∈ (Value.slice (advA a s c) (l.length - s) (c - s)).ownBlock, k < B := fun h0 k hk => H3.out (fun e => h0 (by rw [e]; simp)) k (advA_own (l' := l.length) k hk)
    refine ⟨⟨_, by simpa using heap_set (heap_set g1 1 (.bool b')) 0 (.slice (advA a s c) (l.length - s) (c - s)), hd.kept' ht2 (fun h0 k hk hm => by have := own h0 k hk; simp at hm; omega), own⟩, (ht.mono (by simp)).trans ht2 (fun k hk => .inl hk)⟩
  have FIN := hide fin
  rw [hb']
  clear fin hb'
  go_enter Tryd.func13, Tryd.ntmps13
  go_wp2_with fail
  refine (refGet_any _ _ l H2.out (by omega)).mono ?_
  rintro e w1 ⟨rfl, ht1⟩
  rw [HNS.out]
  have g1 := ht1.heap H1.out (by simp)
  have HT1 := hide ht1
  clear c0 c1
  have c0 : w1.cell? ⟨tb, 0, none⟩ = some (.slice a l.length c) := by simpa using cell_of g1 0
  have c1 : w1.cell? ⟨tb, 1, none⟩ = some (.bool bad) := by simpa using cell_of g1 1
  have f0 : w1.frozen? ⟨tb, 0, none⟩ = false := frozen_of g1 0
  have f1 : w1.frozen? ⟨tb, 1, none⟩ = false := frozen_of g1 1
  clear ht1 g1
  cases bad with
  | true =>
    have hb : b' = true := by rw [← HBB.out]; rfl
    subst hb
    go_wp2
    go_ret
    exact ⟨rfl, FIN.out w1 HT1.out⟩
  | false =>
    by_cases hs : s = 0
    · have hb : b' = true := by rw [← HBB.out, hs]; rfl
      subst hb
      have hs' : ((s : Int) == 0) = true := by simp [hs]
      clear hs
      go_wp2
      go_ret
      exact ⟨rfl, FIN.out w1 HT1.out⟩
    · have hb : b' = false := by rw [← HBB.out]; simpa using hs
      subst hb
      have hs' : ((s : Int) == 0) = false := by simp; omega
      clear hs
      go_wp2
      go_ret
      exact ⟨rfl, FIN.out w1 HT1.out⟩

theorem textR_len (most : Nat) (t : List UInt8 × Bool) : (Bt.textR most t).2.1.length ≤ t.1.length ∧ (Bt.textR most t).1.length ≤ t.1.length := by
  have := numR_len t
  unfold Bt.textR
  simp only
  split
  · simp; omega
  · simp; omega
theorem TkAt.bad {w : World} {tb B : Nat} {l : List UInt8} {x : Bool} (h : TkAt w tb B (l, x)) (hB : B ≤ tb) : TkAt (w.setCell ⟨tb, 1, none⟩ (.bool true)) tb B (l, true) ∧ Turn [tb] w (w.setCell ⟨tb, 1, none⟩ (.bool true)) := by
  obtain ⟨sv, h1, h2, h3⟩ := h
  have ht : Turn [tb] w (w.setCell ⟨tb, 1, none⟩ (.bool true)) := (Turn.refl _ _).setCell (.inl (by simp)) _
  exact ⟨⟨sv, by simpa using heap_set h1 1 (.bool true), h2.kept' ht (fun h0 k hk hm => by have := h3 h0 k hk; simp at hm; omega), h3⟩, ht⟩
set_option maxHeartbeats 2000000 in
theorem ttext_any (w : World) (tb B : Nat) (t : List UInt8 × Bool) (h : TkAt w tb B t) (hB : B ≤ tb) (hl : t.1.length ≤ 1000000) (most : Nat) (hm : most ≤ 1000000) :
    Calls Tryd.prog 14 #[.pointer (some ⟨tb, 0, none⟩), .int .i64 most] w fun e w' => e = .returned (strV (Bt.textR most t).1) ∧ TkAt w' tb B (Bt.textR most t).2 ∧ Turn [tb] w w' := by
  have hnl := numR_len t
  have HN := hide (tnum_any w tb B t h hB hl)
  have HT : Hid (Bt.textR most t = if (Bt.numR t).2.2 = true ∨ most < (Bt.numR t).1 ∨ (Bt.numR t).2.1.length < (Bt.numR t).1 then ([], ((Bt.numR t).2.1, true)) else ((Bt.numR t).2.1.take (Bt.numR t).1, ((Bt.numR t).2.1.drop (Bt.numR t).1, (Bt.numR t).2.2))) := rfl
  clear h
  obtain ⟨n, r, x, hns⟩ : ∃ n r x, Bt.numR t = (n, (r, x)) := ⟨_, _, _, rfl⟩
  rw [hns] at HN HT hnl
  simp only at HN HT hnl
  clear hns
  by_cases hbad : x = true ∨ most < n ∨ r.length < n
  · have ht : Bt.textR most t = ([], (r, true)) := by rw [HT.out, if_pos hbad]
    rw [ht]
    clear ht HT
    have go : ∀ (P : Prop), P → P := fun _ h => h
    go_enter Tryd.func14, Tryd.ntmps14
    go_wp2_with fail
    refine HN.out.mono ?_
    rintro e w1 ⟨rfl, htk, ht1⟩
    have HTK := hide htk
    have HT1 := hide ht1
    obtain ⟨sv, h1, h2, h3⟩ := htk
    obtain ⟨a, c, hsv, hlc, hcm, hc⟩ := h2.form
    subst hsv
    have c0 : w1.cell? ⟨tb, 0, none⟩ = some (.slice a r.length c) := by simpa using cell_of h1 0
    have c1 : w1.cell? ⟨tb, 1, none⟩ = some (.bool x) := by simpa using cell_of h1 1
    have f1 : w1.frozen? ⟨tb, 1, none⟩ = false := frozen_of h1 1
    clear h1 h2 h3 ht1 hc go
    cases x with
    | true =>
      go_wp2
      go_ret
      have hs := HTK.out.bad hB
      exact ⟨rfl, hs.1, HT1.out.same hs.2⟩
    | false =>
      simp only [Bool.false_eq_true, false_or] at hbad
      by_cases hmn : most < n
      · clear hbad
        go_wp2
        go_ret
        have hs := HTK.out.bad hB
        exact ⟨rfl, hs.1, HT1.out.same hs.2⟩
      · have hrn : r.length < n := by omega
        clear hbad
        go_wp2
        go_ret
        have hs := HTK.out.bad hB
        exact ⟨rfl, hs.1, HT1.out.same hs.2⟩
  · have ht : Bt.textR most t = (r.take n, (r.drop n, x)) := by rw [HT.out, if_neg hbad]
    rw [ht]
    clear ht HT
    have hx : x = false := by cases x <;> simp at hbad ⊢
    subst hx
    have hmn : ¬ most < n := fun h => hbad (.inr (.inl h))
    have hrn : ¬ r.length < n := fun h => hbad (.inr (.inr h))
    clear hbad
    go_enter Tryd.func14, Tryd.ntmps14
    go_wp2_with fail
    refine HN.out.mono ?_
    rintro e w1 ⟨rfl, htk, ht1⟩
    have HT1 := hide ht1
    obtain ⟨sv, h1, h2, h3⟩ := htk
    obtain ⟨a, c, hsv, hlc, hcm, hc⟩ := h2.form
    subst hsv
    simp only at h1 h2 h3 hlc
    have H1 := hide h1
    have H2 := hide h2
    have H3 := hide h3
    have c0 : w1.cell? ⟨tb, 0, none⟩ = some (.slice a r.length c) := by simpa using cell_of h1 0
    have c1 : w1.cell? ⟨tb, 1, none⟩ = some (.bool false) := by simpa using cell_of h1 1
    have f0 : w1.frozen? ⟨tb, 0, none⟩ = false := frozen_of h1 0
    have hst := fun w => @run_to a r.length c n (by omega) w
    have hsf := fun w => @run_from a r.length c n (by omega) w
    have hcv := (H2.out.take (n := n) (by omega)).conv
    clear h1 h2 h3 ht1 hc
    go_wp2
    go_ret
    have ht2 : Turn [tb] w1 (w1.setCell ⟨tb, 0, none⟩ (.slice (advA a n c) (r.length - n) (c - n))) := (Turn.refl _ _).setCell (.inl (by simp)) _
    have own : r.drop n ≠ [] → ∀ k ∈ (Value.slice (advA a n c) (r.length - n) (c - n)).ownBlock, k < B := fun h0 k hk => H3.out (fun e => h0 (by rw [e]; simp)) k (advA_own (l' := r.length) k hk)
    exact ⟨rfl, ⟨_, by simpa using heap_set H1.out 0 (.slice (advA a n c) (r.length - n) (c - n)), (H2.out.drop (n := n) (by omega)).kept' ht2 (fun h0 k hk hm => by have := own h0 k hk; simp at hm; omega), own⟩, HT1.out.same ht2⟩
end Go.Proofs.YtcpjohpbakbggaaDoor

/- Frames as bytes: what is written. No program. -/
namespace Go.Proofs.YtcpjohpbakbggaaDoor.Wi
open Go.Proofs.YtcpjohpbakbggaaDoor
set_option linter.unusedSimpArgs false
set_option linter.unusedVariables false

/-- What has been written, and what is wrong. -/
abbrev WS := List UInt8 × Int
def okN (n : Int) : Prop := 0 ≤ n ∧ n ≤ 1099511627776
instance (n : Int) : Decidable (okN n) := inferInstanceAs (Decidable (_ ∧ _))
def pN (s : WS) (n : Int) : WS := if okN n then (s.1 ++ Nu.put n.toNat, s.2) else (s.1 ++ Nu.put 0, 2)
def nums (s : WS) (l : List Int) : WS := l.foldl pN s
def tr (b : Bool) : Int := if b then 1 else 0
/-- A call of a writer: numbers, or a text. -/
inductive Cl where
  | ns (l : List Int)
  | tx (s : List UInt8) (most : Nat)
/-- The document's writer. -/
def rStep (s : WS) : Cl → WS
  | .ns l => nums s l
  | .tx t most => ((pN (if most < t.length then (s.1, 4) else s) t.length).1 ++ t, (pN (if most < t.length then (s.1, 4) else s) t.length).2)
def cut (s : WS) : WS := (s.1.take 10005, s.2)
/-- The program's. -/
def pStep (s : WS) : Cl → WS
  | .ns l => nums (cut s) l
  | .tx t most => if most < t.length then nums (cut (s.1, 4)) [0] else ((nums (cut s) [(t.length : Int)]).1 ++ t, (nums (cut s) [(t.length : Int)]).2)
theorem rStep_tx (s : WS) (t : List UInt8) (most : Nat) : rStep s (.tx t most) = ((pN (if most < t.length then (s.1, 4) else s) t.length).1 ++ t, (pN (if most < t.length then (s.1, 4) else s) t.length).2) := rfl
theorem pStep_tx (s : WS) (t : List UInt8) (most : Nat) : pStep s (.tx t most) = if most < t.length then nums (cut (s.1, 4)) [0] else ((nums (cut s) [(t.length : Int)]).1 ++ t, (nums (cut s) [(t.length : Int)]).2) := rfl
def rRun (s : WS) (l : List Cl) : WS := l.foldl rStep s
def pRun (s : WS) (l : List Cl) : WS := l.foldl pStep s
theorem rRun_app (s : WS) (a b : List Cl) : rRun s (a ++ b) = rRun (rRun s a) b := by simp [rRun]
theorem pRun_app (s : WS) (a b : List Cl) : pRun s (a ++ b) = pRun (pRun s a) b := by simp [pRun]
theorem rRun_cons (s : WS) (c : Cl) (b : List Cl) : rRun s (c :: b) = rRun (rStep s c) b := rfl
theorem pRun_cons (s : WS) (c : Cl) (b : List Cl) : pRun s (c :: b) = pRun (pStep s c) b := rfl
theorem nums_app (s : WS) (a b : List Int) : nums s (a ++ b) = nums (nums s a) b := by simp [nums]
theorem nums_cons (s : WS) (a : Int) (b : List Int) : nums s (a :: b) = nums (pN s a) b := rfl
/-- What was written whole, or more than any frame holds. -/
def Rl (p r : WS) : Prop := p.2 = r.2 ∧ (r.2 = 0 → p.1 = [0, 0, 0, 0] ++ r.1 ∨ (10005 ≤ p.1.length ∧ 10001 ≤ r.1.length))
theorem Rl.pN {p r : WS} (h : Rl p r) (n : Int) : Rl (pN p n) (pN r n) := by
  obtain ⟨h1, h2⟩ := h
  unfold Wi.pN
  by_cases e : okN n
  · rw [if_pos e, if_pos e]
    refine ⟨h1, fun h0 => ?_⟩
    rcases h2 h0 with h3 | ⟨h3, h4⟩
    · exact .inl (by rw [h3, List.append_assoc])
    · exact .inr ⟨by simp only [List.length_append]; omega, by simp only [List.length_append]; omega⟩
  · rw [if_neg e, if_neg e]
    exact ⟨rfl, fun h0 => by simp at h0⟩
theorem Rl.nums {p r : WS} (h : Rl p r) : ∀ l, Rl (nums p l) (nums r l)
  | [] => h
  | n :: l => by
    rw [nums_cons, nums_cons]
    exact (h.pN n).nums l
theorem Rl.cut {p r : WS} (h : Rl p r) : Rl (cut p) r := by
  obtain ⟨h1, h2⟩ := h
  refine ⟨h1, fun h0 => ?_⟩
  unfold Wi.cut
  rcases h2 h0 with h3 | ⟨h3, h4⟩
  · by_cases hl : r.1.length ≤ 10001
    · exact .inl (by simp only [h3]; rw [List.take_of_length_le]; simp; omega)
    · refine .inr ⟨?_, by omega⟩
      simp only [h3, List.length_take, List.length_append, List.length_cons, List.length_nil]
      omega
  · exact .inr ⟨by simp only [List.length_take]; omega, h4⟩
/-- Texts that a frame's length could tell. -/
def Cl.small : Cl → Prop
  | .ns _ => True
  | .tx t _ => t.length ≤ 1099511627776
theorem Rl.step {p r : WS} (h : Rl p r) {c : Cl} (hc : c.small) : Rl (pStep p c) (rStep r c) := by
  cases c with
  | ns l => exact h.cut.nums l
  | tx t most =>
    have hl : okN (t.length : Int) := ⟨by omega, by simp only [Cl.small] at hc; omega⟩
    rw [pStep_tx, rStep_tx]
    by_cases e : most < t.length
    · rw [if_pos e, if_pos e, nums_cons]
      refine ⟨?_, fun h0 => ?_⟩
      · unfold Wi.nums Wi.pN Wi.cut
        rw [if_pos hl, if_pos (show okN 0 by decide)]
        rfl
      · exfalso
        unfold Wi.pN at h0
        rw [if_pos hl] at h0
        simp at h0
    · rw [if_neg e, if_neg e]
      have hk := (h.cut.nums [(t.length : Int)])
      obtain ⟨k1, k2⟩ := hk
      refine ⟨k1, fun h0 => ?_⟩
      rcases k2 h0 with h3 | ⟨h3, h4⟩
      · exact .inl (by simp only [h3]; rw [List.append_assoc]; rfl)
      · refine .inr ⟨by simp only [List.length_append]; omega, ?_⟩
        simp only [List.length_append]
        have : (Wi.nums r [(t.length : Int)]).1.length = (Wi.pN r (t.length : Int)).1.length := rfl
        omega
theorem Rl.run {p r : WS} (h : Rl p r) : ∀ (l : List Cl), (∀ c ∈ l, c.small) → Rl (pRun p l) (rRun r l)
  | [], _ => h
  | c :: l, hl => by
    rw [pRun_cons, rRun_cons]
    exact (h.step (hl c (by simp))).run l (fun x hx => hl x (by simp [hx]))

/-! ### frames -/
def rF (s : WS) : List UInt8 × Int := if s.2 ≠ 0 then ([], s.2) else if 10000 < s.1.length then ([], 4) else (Bt.four s.1.length ++ s.1, 0)
def pF (s : WS) : List UInt8 × Int := if s.2 ≠ 0 then ([], s.2) else if 10004 < s.1.length then ([], 4) else (Bt.four (s.1.length - 4) ++ s.1.drop 4, 0)
theorem pF_rF {p r : WS} (h : Rl p r) : pF p = rF r := by
  obtain ⟨h1, h2⟩ := h
  unfold pF rF
  by_cases e : r.2 = 0
  · have hp : ¬ p.2 ≠ 0 := fun hn => hn (h1.trans e)
    have hr : ¬ r.2 ≠ 0 := fun hn => hn e
    rw [if_neg hp, if_neg hr]
    rcases h2 e with h3 | ⟨h3, h4⟩
    · have hl : p.1.length = r.1.length + 4 := by rw [h3]; simp
      by_cases hb : 10000 < r.1.length
      · rw [if_pos (by omega), if_pos hb]
      · rw [if_neg (by omega), if_neg hb, hl, h3]
        simp
    · rw [if_pos (by omega), if_pos (by omega)]
  · have hp : p.2 ≠ 0 := fun hn => e (h1.symm.trans hn)
    rw [if_pos hp, if_pos e, h1]
def encF (l : List Cl) : List UInt8 × Int := rF (rRun ([], 0) l)
theorem encF_p {l : List Cl} (h : ∀ c ∈ l, c.small) : pF (pRun ([0, 0, 0, 0], 0) l) = encF l :=
  pF_rF (Rl.run (p := ([0, 0, 0, 0], 0)) (r := ([], 0)) ⟨rfl, fun _ => .inl rfl⟩ l h)

/-! ### what is written where nothing is wrong -/
def okC : Cl → Prop
  | .ns l => ∀ n ∈ l, okN n
  | .tx t most => t.length ≤ most
def clB : Cl → List UInt8
  | .ns l => l.flatMap (fun n => Nu.put n.toNat)
  | .tx t _ => Bt.textB t
theorem pN_ok {s : WS} {n : Int} (h : (pN s n).2 = 0) : s.2 = 0 ∧ okN n ∧ (pN s n).1 = s.1 ++ Nu.put n.toNat := by
  unfold pN at h ⊢
  by_cases e : okN n
  · rw [if_pos e] at h ⊢
    exact ⟨h, e, rfl⟩
  · rw [if_neg e] at h
    simp at h
theorem ok_pN {s : WS} {n : Int} (h : okN n) : pN s n = (s.1 ++ Nu.put n.toNat, s.2) := by unfold pN; rw [if_pos h]
theorem nums_ok : ∀ {l : List Int} {s : WS}, (nums s l).2 = 0 → s.2 = 0 ∧ (∀ n ∈ l, okN n) ∧ (nums s l).1 = s.1 ++ l.flatMap (fun n => Nu.put n.toNat)
  | [], s, h => ⟨h, by simp, by simp [nums]⟩
  | n :: l, s, h => by
    rw [nums_cons] at h ⊢
    obtain ⟨h1, h2, h3⟩ := nums_ok h
    obtain ⟨k1, k2, k3⟩ := pN_ok h1
    refine ⟨k1, fun x hx => ?_, by rw [h3, k3]; simp [List.append_assoc]⟩
    rcases List.mem_cons.1 hx with rfl | hx
    · exact k2
    · exact h2 x hx
theorem ok_nums : ∀ {l : List Int} {s : WS}, (∀ n ∈ l, okN n) → nums s l = (s.1 ++ l.flatMap (fun n => Nu.put n.toNat), s.2)
  | [], s, _ => by simp [nums]
  | n :: l, s, h => by
    rw [nums_cons, ok_pN (h n (by simp)), ok_nums (fun x hx => h x (by simp [hx]))]
    simp [List.append_assoc]
theorem rStep_ok {s : WS} {c : Cl} (h : (rStep s c).2 = 0) (hs : 0 ≤ s.2) : s.2 = 0 ∧ okC c ∧ (rStep s c).1 = s.1 ++ clB c := by
  cases c with
  | ns l => exact nums_ok h
  | tx t most =>
    rw [rStep_tx] at h ⊢
    obtain ⟨h1, h2, h3⟩ := pN_ok h
    by_cases e : most < t.length
    · rw [if_pos e] at h1
      simp at h1
    · rw [if_neg e] at h1 h3 ⊢
      refine ⟨h1, by show t.length ≤ most; omega, ?_⟩
      rw [h3]
      simp [clB, Bt.textB, List.append_assoc]
theorem ok_rStep {s : WS} {c : Cl} (h : okC c) (hsm : c.small) : rStep s c = (s.1 ++ clB c, s.2) := by
  cases c with
  | ns l => exact ok_nums h
  | tx t most =>
    rw [rStep_tx]
    simp only [okC] at h
    rw [if_neg (show ¬ most < t.length by omega), ok_pN ⟨by omega, by simp only [Cl.small] at hsm; omega⟩]
    simp [clB, Bt.textB, List.append_assoc]
theorem pN_nn {s : WS} {n : Int} (h : 0 ≤ s.2) : 0 ≤ (pN s n).2 := by unfold pN; split <;> simp [h]
theorem nums_nn : ∀ {l : List Int} {s : WS}, 0 ≤ s.2 → 0 ≤ (nums s l).2
  | [], _, h => h
  | n :: l, s, h => by rw [nums_cons]; exact nums_nn (pN_nn h)
theorem rStep_nn {s : WS} {c : Cl} (h : 0 ≤ s.2) : 0 ≤ (rStep s c).2 := by
  cases c with
  | ns l => exact nums_nn h
  | tx t most =>
    rw [rStep_tx]
    split
    · exact pN_nn (by simp)
    · exact pN_nn h
theorem rRun_ok : ∀ {l : List Cl} {s : WS}, (rRun s l).2 = 0 → 0 ≤ s.2 → s.2 = 0 ∧ (∀ c ∈ l, okC c) ∧ (rRun s l).1 = s.1 ++ l.flatMap clB
  | [], s, h, _ => ⟨h, by simp, by simp [rRun]⟩
  | c :: l, s, h, hs => by
    rw [rRun_cons] at h ⊢
    obtain ⟨h1, h2, h3⟩ := rRun_ok h (rStep_nn hs)
    obtain ⟨k1, k2, k3⟩ := rStep_ok h1 hs
    refine ⟨k1, fun x hx => ?_, by rw [h3, k3]; simp [List.append_assoc]⟩
    rcases List.mem_cons.1 hx with rfl | hx
    · exact k2
    · exact h2 x hx
theorem ok_rRun : ∀ {l : List Cl} {s : WS}, (∀ c ∈ l, okC c) → (∀ c ∈ l, c.small) → rRun s l = (s.1 ++ l.flatMap clB, s.2)
  | [], s, _, _ => by simp [rRun]
  | c :: l, s, h, k => by
    rw [rRun_cons, ok_rStep (h c (by simp)) (k c (by simp)), ok_rRun (fun x hx => h x (by simp [hx])) (fun x hx => k x (by simp [hx]))]
    simp [List.append_assoc]
theorem encF_ok {l : List Cl} (h : (encF l).2 = 0) : (∀ c ∈ l, okC c) ∧ (l.flatMap clB).length ≤ 10000 ∧ (encF l).1 = Bt.four (l.flatMap clB).length ++ l.flatMap clB := by
  unfold encF rF at h ⊢
  by_cases e : (rRun ([], 0) l).2 = 0
  · rw [if_neg (by simpa using e)] at h ⊢
    obtain ⟨-, h2, h3⟩ := rRun_ok e (Int.le_refl 0)
    simp only [List.nil_append] at h3
    rw [h3] at h ⊢
    split at h
    · simp at h
    · rename_i hb
      rw [if_neg hb]
      exact ⟨h2, by omega, rfl⟩
  · rw [if_pos e] at h
    exact absurd h e
theorem ok_encF {l : List Cl} (h : ∀ c ∈ l, okC c) (hs : ∀ c ∈ l, c.small) (hl : (l.flatMap clB).length ≤ 10000) : encF l = (Bt.four (l.flatMap clB).length ++ l.flatMap clB, 0) := by
  unfold encF rF
  rw [ok_rRun h hs]
  simp only [List.nil_append]
  rw [if_neg (by simp), if_neg (by omega)]
theorem encF_err {l : List Cl} (h : (encF l).2 ≠ 0) : (encF l).1 = [] := by
  unfold encF rF at h ⊢
  split
  · rfl
  · rename_i e
    rw [if_neg e] at h
    split
    · rfl
    · rename_i e2
      rw [if_neg e2] at h
      simp at h
end Go.Proofs.YtcpjohpbakbggaaDoor.Wi

/- Requests and answers: what is written of each, and that it is read again. No program. -/
namespace Go.Proofs.YtcpjohpbakbggaaDoor.Wi
open Go.Proofs.YtcpjohpbakbggaaDoor
set_option linter.unusedSimpArgs false
set_option linter.unusedVariables false

structure Req where
  kind : Int
  corr : Int
  topic : List UInt8
  part : Int
  offset : Int
  most : Int
  least : Int
  wait : Int
  time : Int
  parts : Int
  sure : Bool
  compact : Bool
  recs : List Bt.Rec
structure Tp where
  name : List UInt8
  parts : Int
  compact : Bool
structure Ans where
  kind : Int
  corr : Int
  err : Int
  offset : Int
  start : Int
  fin : Int
  found : Bool
  recs : List Bt.Rec
  topics : List Tp

def recCl (r : Bt.Rec) : List Cl := .ns [r.time, tr r.keyed] :: ((if r.keyed then [.tx r.key 60] else []) ++ .ns [tr r.gone] :: (if r.gone then [] else [.tx r.value 500]))
def plCl (r : Bt.Rec) : List Cl := .ns [r.off] :: recCl r
def tpCl (t : Tp) : List Cl := [.tx t.name 40, .ns [t.parts, tr t.compact]]
def reqTail (x : Req) : List Cl :=
  if x.kind = 1 then .ns [x.part, tr x.sure, x.recs.length] :: x.recs.flatMap recCl
  else if x.kind = 2 then [.ns [x.part, x.offset, x.most, x.least, x.wait]]
  else if x.kind = 3 then [.ns [x.part, x.time]]
  else if x.kind = 4 then [.ns [x.part, x.offset]]
  else if x.kind = 5 then [.ns [x.parts, tr x.compact]] else []
def reqCl (x : Req) : List Cl := .ns [x.kind, x.corr] :: ((if x.kind = 7 then [] else [.tx x.topic 40]) ++ reqTail x)
def ansTail (x : Ans) : List Cl :=
  if x.kind = 1 then [.ns [x.offset]]
  else if x.kind = 2 then .ns [x.start, x.fin, x.recs.length] :: x.recs.flatMap plCl
  else if x.kind = 3 then .ns [tr x.found] :: (if x.found then [.ns [x.offset]] else [])
  else if x.kind = 4 then [.ns [x.start]]
  else if x.kind = 7 then .ns [x.topics.length] :: x.topics.flatMap tpCl else []
def ansCl (x : Ans) : List Cl := .ns [x.kind, x.corr, x.err] :: (if x.err = 0 then ansTail x else [])

/-! ### reading -/
abbrev TS := List UInt8 × Bool
def recP (l : List UInt8) : Bt.Rec × List UInt8 :=
  let a := Bt.num l
  let b := Bt.num a.2
  let k := if b.1 = 1 then Bt.text b.2 else ([], b.2)
  let g := Bt.num k.2
  let v := if g.1 = 1 then ([], g.2) else Bt.text g.2
  ({ off := 0, time := a.1, keyed := decide (b.1 = 1), key := k.1, gone := decide (g.1 = 1), value := v.1 }, v.2)
def plP (l : List UInt8) : Bt.Rec × List UInt8 :=
  let a := Bt.num l
  ({ (recP a.2).1 with off := a.1 }, (recP a.2).2)
def tpP (l : List UInt8) : Tp × List UInt8 :=
  let a := Bt.text l
  let b := Bt.num a.2
  let c := Bt.num b.2
  ({ name := a.1, parts := b.1, compact := decide (c.1 = 1) }, c.2)
def listP {α : Type} (one : List UInt8 → α × List UInt8) : Nat → List UInt8 → List α × List UInt8
  | 0, l => ([], l)
  | n + 1, l => if l = [] then ([], l) else ((one l).1 :: (listP one n (one l).2).1, (listP one n (one l).2).2)
def truR (t : TS) : Bool × TS := (decide ((Bt.numR t).1 = 1), ((Bt.numR t).2.1, (Bt.numR t).2.2 || decide (1 < (Bt.numR t).1)))
def recR (o : Bool) (t : TS) : Bt.Rec × TS :=
  let z := if o then Bt.numR t else (0, t)
  let a := Bt.numR z.2
  let b := truR a.2
  let k := if b.1 then Bt.textR 60 b.2 else ([], b.2)
  let g := truR k.2
  let v := if g.1 then ([], g.2) else Bt.textR 500 g.2
  ({ off := z.1, time := a.1, keyed := b.1, key := k.1, gone := g.1, value := v.1 }, v.2)
def tpR (t : TS) : Tp × TS :=
  let a := Bt.textR 40 t
  let b := Bt.numR a.2
  let c := truR b.2
  ({ name := a.1, parts := b.1, compact := c.1 }, c.2)
def listR {α : Type} (one : TS → α × TS) : Nat → TS → List α × TS
  | 0, t => ([], t)
  | n + 1, t => if t.2 then ([], t) else ((one t).1 :: (listR one n (one t).2).1, (listR one n (one t).2).2)

/-! ### what is told -/
def canR (r : Bt.Rec) : Bt.Rec := { off := 0, time := r.time, keyed := r.keyed, key := if r.keyed then r.key else [], gone := r.gone, value := if r.gone then [] else r.value }
def canP (r : Bt.Rec) : Bt.Rec := { off := r.off, time := r.time, keyed := r.keyed, key := if r.keyed then r.key else [], gone := r.gone, value := if r.gone then [] else r.value }

theorem num_ok {n : Int} (h : okN n) (l : List UInt8) : Bt.num (Nu.put n.toNat ++ l) = (n.toNat, l) := Bt.num_put (by have := h.2; omega) l
theorem numR_ok {n : Int} (h : okN n) (l : List UInt8) : Bt.numR (Nu.put n.toNat ++ l, false) = (n.toNat, (l, false)) := Bt.numR_put (by have := h.2; omega) l false
theorem toNat_ok {n : Int} (h : okN n) : ((n.toNat : Nat) : Int) = n := by have := h.1; omega
theorem okN_tr (b : Bool) : okN (tr b) := by cases b <;> decide
theorem tr_one (b : Bool) : decide ((tr b).toNat = 1) = b := by cases b <;> rfl
theorem tr_le (b : Bool) : decide (1 < (tr b).toNat) = false := by cases b <;> rfl
theorem truR_ok (b : Bool) (l : List UInt8) : truR (Nu.put (tr b).toNat ++ l, false) = (b, (l, false)) := by
  unfold truR
  rw [numR_ok (okN_tr b), tr_one, tr_le]
  rfl
def recW (r : Bt.Rec) : List UInt8 := Nu.put r.time.toNat ++ (Nu.put (tr r.keyed).toNat ++ ((if r.keyed then Bt.textB r.key else []) ++ (Nu.put (tr r.gone).toNat ++ (if r.gone then [] else Bt.textB r.value))))
theorem recCl_B (r : Bt.Rec) : (recCl r).flatMap clB = recW r := by
  obtain ⟨off, time, keyed, key, gone, value⟩ := r
  unfold recCl recW
  cases keyed <;> cases gone <;> simp [clB, List.append_assoc]
theorem plCl_B (r : Bt.Rec) : (plCl r).flatMap clB = Nu.put r.off.toNat ++ recW r := by
  unfold plCl
  rw [List.flatMap_cons, recCl_B]
  simp [clB]
theorem tpCl_B (t : Tp) : (tpCl t).flatMap clB = Bt.textB t.name ++ (Nu.put t.parts.toNat ++ Nu.put (tr t.compact).toNat) := by
  unfold tpCl
  simp [clB]
structure RecFits (r : Bt.Rec) : Prop where
  time : okN r.time
  key : r.keyed = true → r.key.length ≤ 60
  value : r.gone = false → r.value.length ≤ 500
theorem recFits_of {r : Bt.Rec} (h : ∀ c ∈ recCl r, okC c) : RecFits r := by
  refine ⟨?_, fun e => ?_, fun e => ?_⟩
  · have := h (.ns [r.time, tr r.keyed]) (by simp [recCl])
    exact this r.time (by simp)
  · exact h (.tx r.key 60) (by simp [recCl, e])
  · exact h (.tx r.value 500) (by simp [recCl, e])
theorem recP_B {r : Bt.Rec} (h : RecFits r) (l : List UInt8) : recP (recW r ++ l) = (canR r, l) := by
  obtain ⟨off, time, keyed, key, gone, value⟩ := r
  obtain ⟨h1, h2, h3⟩ := h
  simp only at h1 h2 h3
  unfold recP recW canR
  simp only [List.append_assoc]
  rw [num_ok h1, num_ok (okN_tr keyed)]
  simp only [tr_one, toNat_ok h1]
  cases keyed
  · simp only [tr, Bool.false_eq_true, if_false, List.nil_append, show ¬ ((0 : Int).toNat = 1) by decide]
    cases gone
    · rw [num_ok (show okN (if false = true then 1 else 0) by decide)]
      simp [Bt.text_put (show value.length ≤ 1099511627776 by have := h3 rfl; omega)]
    · rw [num_ok (show okN (if true = true then 1 else 0) by decide)]
      simp
  · simp only [tr, if_true, show ((1 : Int).toNat = 1) by decide]
    rw [Bt.text_put (show key.length ≤ 1099511627776 by have := h2 rfl; omega)]
    cases gone
    · simp only [Bool.false_eq_true, if_false]
      rw [num_ok (show okN 0 by decide)]
      simp [Bt.text_put (show value.length ≤ 1099511627776 by have := h3 rfl; omega)]
    · simp only [if_true]
      rw [num_ok (show okN 1 by decide)]
      simp
theorem recR_B {r : Bt.Rec} (h : RecFits r) (l : List UInt8) : recR false (recW r ++ l, false) = (canR r, (l, false)) := by
  obtain ⟨off, time, keyed, key, gone, value⟩ := r
  obtain ⟨h1, h2, h3⟩ := h
  simp only at h1 h2 h3
  unfold recR recW canR
  simp only [List.append_assoc, Bool.false_eq_true, if_false]
  rw [numR_ok h1]
  simp only
  rw [truR_ok keyed]
  simp only [toNat_ok h1]
  cases keyed
  · simp only [Bool.false_eq_true, if_false, List.nil_append]
    rw [truR_ok gone]
    cases gone
    · simp [Bt.textR_put (show value.length ≤ 1099511627776 by have := h3 rfl; omega) (h3 rfl)]
    · simp
  · simp only [if_true]
    rw [Bt.textR_put (show key.length ≤ 1099511627776 by have := h2 rfl; omega) (h2 rfl)]
    simp only
    rw [truR_ok gone]
    cases gone
    · simp [Bt.textR_put (show value.length ≤ 1099511627776 by have := h3 rfl; omega) (h3 rfl)]
    · simp
theorem plP_B {r : Bt.Rec} (h : RecFits r) (ho : okN r.off) (l : List UInt8) : plP (Nu.put r.off.toNat ++ recW r ++ l) = (canP r, l) := by
  unfold plP
  rw [List.append_assoc, num_ok ho]
  simp only
  rw [recP_B h, toNat_ok ho]
  rfl
theorem recR_off (t : TS) : recR true t = ({ (recR false (Bt.numR t).2).1 with off := (Bt.numR t).1 }, (recR false (Bt.numR t).2).2) := rfl
theorem plR_B {r : Bt.Rec} (h : RecFits r) (ho : okN r.off) (l : List UInt8) : recR true (Nu.put r.off.toNat ++ recW r ++ l, false) = (canP r, (l, false)) := by
  rw [recR_off, List.append_assoc, numR_ok ho]
  simp only
  rw [recR_B h, toNat_ok ho]
  rfl
theorem tpP_B {t : Tp} (hn : t.name.length ≤ 40) (hp : okN t.parts) (l : List UInt8) : tpP (Bt.textB t.name ++ (Nu.put t.parts.toNat ++ Nu.put (tr t.compact).toNat) ++ l) = (t, l) := by
  unfold tpP
  rw [List.append_assoc, Bt.text_put (by omega)]
  simp only [List.append_assoc]
  rw [num_ok hp]
  simp only
  rw [num_ok (okN_tr _)]
  simp only [tr_one, toNat_ok hp]
theorem tpR_B {t : Tp} (hn : t.name.length ≤ 40) (hp : okN t.parts) (l : List UInt8) : tpR (Bt.textB t.name ++ (Nu.put t.parts.toNat ++ Nu.put (tr t.compact).toNat) ++ l, false) = (t, (l, false)) := by
  unfold tpR
  rw [List.append_assoc, Bt.textR_put (by omega) hn]
  simp only [List.append_assoc]
  rw [numR_ok hp]
  simp only
  rw [truR_ok]
  simp only [toNat_ok hp]
theorem put_ne (n : Nat) : Nu.put n ≠ [] := fun h => by have := Nu.put_pos n; rw [h] at this; simp at this
theorem listP_B {α : Type} {one : List UInt8 → α × List UInt8} {W : α → List UInt8} {c : α → α} {ok : α → Prop} (h1 : ∀ x, ok x → ∀ l, one (W x ++ l) = (c x, l)) (h0 : ∀ x, W x ≠ []) : ∀ (xs : List α), (∀ x ∈ xs, ok x) → ∀ l, listP one xs.length (xs.flatMap W ++ l) = (xs.map c, l)
  | [], _, l => by simp [listP]
  | x :: xs, h, l => by
    have hne : (x :: xs).flatMap W ++ l ≠ [] := fun e => by
      have := congrArg List.length e
      have h2 := List.length_pos_iff.2 (h0 x)
      rw [List.flatMap_cons, List.append_assoc] at this
      simp at this
      exact h0 x this.1
    rw [List.length_cons, listP, if_neg hne, List.flatMap_cons, List.append_assoc, h1 x (h x (by simp))]
    simp only
    rw [listP_B h1 h0 xs (fun y hy => h y (by simp [hy]))]
    rfl
theorem listR_B {α : Type} {one : TS → α × TS} {W : α → List UInt8} {c : α → α} {ok : α → Prop} (h1 : ∀ x, ok x → ∀ l, one (W x ++ l, false) = (c x, (l, false))) : ∀ (xs : List α), (∀ x ∈ xs, ok x) → ∀ l, listR one xs.length (xs.flatMap W ++ l, false) = (xs.map c, (l, false))
  | [], _, l => by simp [listR]
  | x :: xs, h, l => by
    rw [List.length_cons, listR, if_neg (by simp), List.flatMap_cons, List.append_assoc, h1 x (h x (by simp))]
    simp only
    rw [listR_B h1 xs (fun y hy => h y (by simp [hy]))]
    rfl
theorem recW_ne (r : Bt.Rec) : recW r ≠ [] := fun h => by
  have := congrArg List.length h
  unfold recW at this
  simp at this
  exact put_ne _ this.1
end Go.Proofs.YtcpjohpbakbggaaDoor.Wi

/- wire's reader: numbers, texts, truths. -/
namespace Go.Proofs.YtcpjohpbakbggaaDoor.Wi
open Go.RowKit Go.Maps
set_option maxRecDepth 100000
set_option linter.unusedSimpArgs false
set_option linter.unusedVariables false

/-- A reader in a box: what is left to read; the bytes lie below a bound. -/
def RdW (w : World) (rb B : Nat) (l : List UInt8) : Prop :=
  ∃ sv, w.heap[rb]? = some (.cells #[sv] 58 (0, 0)) ∧ BytesAt w sv l ∧ (l ≠ [] → ∀ k ∈ sv.ownBlock, k < B)
theorem RdW.kept {w w' : World} {rb B : Nat} {l : List UInt8} {S : List Nat} (h : RdW w rb B l) (ht : Turn S w w') (hr : rb ∉ S) (hB : ∀ x ∈ S, B ≤ x) : RdW w' rb B l := by
  obtain ⟨sv, h1, h2, h3⟩ := h
  exact ⟨sv, ht.heap h1 hr, h2.kept' ht (fun h0 k hk hm => by have := h3 h0 k hk; have := hB k hm; omega), h3⟩
theorem RdW.still {w w' : World} {rb B : Nat} {l : List UInt8} (h : RdW w rb B l) (ht : Turn [] w w') : RdW w' rb B l := h.kept ht (by simp) (by simp)
theorem RdW.set {w : World} {rb B : Nat} {l' : List UInt8} {sv sv' : Value} (h : w.heap[rb]? = some (.cells #[sv] 58 (0, 0))) (hB : B ≤ rb) (hb : BytesAt w sv' l') (hn : l' ≠ [] → ∀ k ∈ sv'.ownBlock, k < B) : RdW (w.setCell ⟨rb, 0, none⟩ sv') rb B l' ∧ Turn [rb] w (w.setCell ⟨rb, 0, none⟩ sv') := by
  have ht : Turn [rb] w (w.setCell ⟨rb, 0, none⟩ sv') := (Turn.refl _ _).setCell (.inl (by simp)) _
  exact ⟨⟨sv', by simpa using heap_set h 0 sv', hb.kept' ht (fun h0 k hk => by have := hn h0 k hk; simp; omega), hn⟩, ht⟩

set_option maxHeartbeats 1000000 in
theorem wnum_any (w : World) (rb B : Nat) (l : List UInt8) (h : RdW w rb B l) (hB : B ≤ rb) (hl : l.length ≤ 1000000) :
    Calls Tryd.prog 34 #[.pointer (some ⟨rb, 0, none⟩)] w fun e w' => e = .returned (.int .i64 (Bt.num l).1) ∧ RdW w' rb B (Bt.num l).2 ∧ Turn [rb] w w' := by
  obtain ⟨sv, h1, h2, h3⟩ := h
  have H1 := hide h1
  have H2 := hide h2
  have H3 := hide h3
  obtain ⟨a, c, hsv, hlc, hcm, hc⟩ := h2.form
  subst hsv
  have c0 : w.cell? ⟨rb, 0, none⟩ = some (.slice a l.length c) := by simpa using cell_of h1 0
  have f0 : w.frozen? ⟨rb, 0, none⟩ = false := frozen_of h1 0
  have hgs := Nu.get_size (b := l)
  clear h1 h2 h3 hc
  by_cases h0 : (Nu.get l).2 = 0
  · have hn : Bt.num l = (0, []) := by unfold Bt.num; rw [if_pos h0]
    rw [hn]
    clear hn
    obtain ⟨n, s, hns⟩ : ∃ n s, Nu.get l = (n, s) := ⟨_, _, rfl⟩
    rw [hns] at h0 hgs
    simp only at h0 hgs
    subst h0
    have HNS := hide hns
    clear hns
    go_enter Tryd.func34, Tryd.ntmps34
    go_wp2_with fail
    refine (get_any _ _ l H2.out (by omega)).mono ?_
    rintro e w' ⟨rfl, rfl⟩
    rw [HNS.out]
    go_wp2
    go_ret
    exact ⟨rfl, RdW.set H1.out hB (bytes_nil _) (by simp)⟩
  · have hn : Bt.num l = ((Nu.get l).1, l.drop (Nu.get l).2) := by unfold Bt.num; rw [if_neg h0]
    rw [hn]
    clear hn
    obtain ⟨n, s, hns⟩ : ∃ n s, Nu.get l = (n, s) := ⟨_, _, rfl⟩
    rw [hns] at h0 hgs ⊢
    simp only at h0 hgs ⊢
    have HNS := hide hns
    clear hns
    have hsl := fun w => @run_from a l.length c s (by omega) w
    go_enter Tryd.func34, Tryd.ntmps34
    go_wp2_with fail
    refine (get_any _ _ l H2.out (by omega)).mono ?_
    rintro e w' ⟨rfl, rfl⟩
    rw [HNS.out]
    go_wp2
    go_ret
    exact ⟨rfl, RdW.set H1.out hB (by simpa using H2.out.drop (n := s) (by omega)) (fun h0 k hk => H3.out (fun e => h0 (by rw [e]; simp)) k (advA_own (l' := l.length) k hk))⟩

set_option maxHeartbeats 1000000 in
theorem wtext_any (w : World) (rb B : Nat) (l : List UInt8) (h : RdW w rb B l) (hB : B ≤ rb) (hl : l.length ≤ 1000000) :
    Calls Tryd.prog 35 #[.pointer (some ⟨rb, 0, none⟩)] w fun e w' => e = .returned (strV (Bt.text l).1) ∧ RdW w' rb B (Bt.text l).2 ∧ Turn [rb] w w' := by
  have hnl := num_len l
  have HN := hide (wnum_any w rb B l h hB hl)
  have HT : Hid (Bt.text l = if (Bt.num l).2.length < (Bt.num l).1 then ([], []) else ((Bt.num l).2.take (Bt.num l).1, (Bt.num l).2.drop (Bt.num l).1)) := rfl
  clear h
  obtain ⟨n, r, hns⟩ : ∃ n r, Bt.num l = (n, r) := ⟨_, _, rfl⟩
  rw [hns] at HN HT hnl
  simp only at HN HT hnl
  clear hns
  by_cases hbig : r.length < n
  · have ht : Bt.text l = ([], []) := by rw [HT.out, if_pos hbig]
    rw [ht]
    clear ht
    go_enter Tryd.func35, Tryd.ntmps35
    go_wp2_with fail
    refine HN.out.mono ?_
    rintro e w1 ⟨rfl, ⟨sv, h1, h2, h3⟩, ht1⟩
    have H1 := hide h1
    have HT1 := hide ht1
    obtain ⟨a, c, hsv, hlc, hcm, hc⟩ := h2.form
    subst hsv
    have c0 : w1.cell? ⟨rb, 0, none⟩ = some (.slice a r.length c) := by simpa using cell_of h1 0
    have f0 : w1.frozen? ⟨rb, 0, none⟩ = false := frozen_of h1 0
    clear h1 h2 h3 ht1 hc
    go_wp2
    go_ret
    have hs := RdW.set (l' := []) (sv' := .slice none 0 0) H1.out hB (bytes_nil _) (by simp)
    exact ⟨rfl, hs.1, HT1.out.same hs.2⟩
  · have ht : Bt.text l = (r.take n, r.drop n) := by rw [HT.out, if_neg hbig]
    rw [ht]
    clear ht
    go_enter Tryd.func35, Tryd.ntmps35
    go_wp2_with fail
    refine HN.out.mono ?_
    rintro e w1 ⟨rfl, ⟨sv, h1, h2, h3⟩, ht1⟩
    have H1 := hide h1
    have H2 := hide h2
    have H3 := hide h3
    have HT1 := hide ht1
    obtain ⟨a, c, hsv, hlc, hcm, hc⟩ := h2.form
    subst hsv
    have c0 : w1.cell? ⟨rb, 0, none⟩ = some (.slice a r.length c) := by simpa using cell_of h1 0
    have f0 : w1.frozen? ⟨rb, 0, none⟩ = false := frozen_of h1 0
    have hst := fun w => @run_to a r.length c n (by omega) w
    have hsf := fun w => @run_from a r.length c n (by omega) w
    have hcv := (H2.out.take (n := n) (by omega)).conv
    clear h1 h2 h3 ht1 hc
    go_wp2
    go_ret
    have hs := RdW.set (l' := r.drop n) (sv' := .slice (advA a n c) (r.length - n) (c - n)) H1.out hB (H2.out.drop (n := n) (by omega)) (fun h0 k hk => H3.out (fun e => h0 (by rw [e]; simp)) k (advA_own (l' := r.length) k hk))
    exact ⟨rfl, hs.1, HT1.out.same hs.2⟩


theorem wtru_any (w : World) (rb B : Nat) (l : List UInt8) (h : RdW w rb B l) (hB : B ≤ rb) (hl : l.length ≤ 1000000) :
    Calls Tryd.prog 36 #[.pointer (some ⟨rb, 0, none⟩)] w fun e w' => e = .returned (.bool (decide ((Bt.num l).1 = 1))) ∧ RdW w' rb B (Bt.num l).2 ∧ Turn [rb] w w' := by
  have HN := hide (wnum_any w rb B l h hB hl)
  clear h
  obtain ⟨n, r, hns⟩ : ∃ n r, Bt.num l = (n, r) := ⟨_, _, rfl⟩
  rw [hns] at HN ⊢
  simp only at HN ⊢
  clear hns
  by_cases h1 : n = 1
  · have hd : decide (n = 1) = true := decide_eq_true h1
    have hb : ((n : Int) == 1) = true := by simp [h1]
    rw [hd]
    clear hd h1
    go_enter Tryd.func36, Tryd.ntmps36
    go_wp2_with fail
    refine HN.out.mono ?_
    rintro e w1 ⟨rfl, hr, ht⟩
    have HR := hide hr
    have HT := hide ht
    clear hr ht
    go_wp2
    go_ret
    exact ⟨rfl, HR.out, HT.out⟩
  · have hd : decide (n = 1) = false := decide_eq_false h1
    have hb : ((n : Int) == 1) = false := by simp; omega
    rw [hd]
    clear hd h1
    go_enter Tryd.func36, Tryd.ntmps36
    go_wp2_with fail
    refine HN.out.mono ?_
    rintro e w1 ⟨rfl, hr, ht⟩
    have HR := hide hr
    have HT := hide ht
    clear hr ht
    go_wp2
    go_ret
    exact ⟨rfl, HR.out, HT.out⟩
end Go.Proofs.YtcpjohpbakbggaaDoor.Wi

/- Requests, topics and answers in memory. -/
namespace Go.Proofs.YtcpjohpbakbggaaDoor.Wi
open Go.RowKit Go.Maps
set_option maxRecDepth 100000
set_option linter.unusedSimpArgs false
set_option linter.unusedVariables false

def reqC (x : Req) (rv : Value) : Array Value := #[.int .i64 x.kind, .int .i64 x.corr, strV x.topic, .int .i64 x.part, .int .i64 x.offset, .int .i64 x.most, .int .i64 x.least, .int .i64 x.wait, .int .i64 x.time, .int .i64 x.parts, .bool x.sure, .bool x.compact, rv]
def inI (n : Int) : Prop := -9223372036854775808 ≤ n ∧ n ≤ 9223372036854775807
structure ReqOk (x : Req) : Prop where
  kind : inI x.kind
  corr : inI x.corr
  part : inI x.part
  offset : inI x.offset
  most : inI x.most
  least : inI x.least
  wait : inI x.wait
  time : inI x.time
  parts : inI x.parts
  topic : x.topic.length ≤ 9223372036854775807
/-- A request's value. -/
def ReqAt (w : World) (v : Value) (x : Req) : Prop := ∃ rv, v = .agg (reqC x rv) ∧ RecsAt w rv x.recs ∧ ReqOk x

def tpC (t : Tp) : List Value := [strV t.name, .int .i64 t.parts, .bool t.compact]
structure TpOk (t : Tp) : Prop where
  parts : inI t.parts
  name : t.name.length ≤ 9223372036854775807
/-- A slice of topics. -/
def TopsAt (w : World) (v : Value) (ts : List Tp) : Prop :=
  ∃ a c, v = .slice a ts.length c ∧ ts.length ≤ c ∧ c ≤ maxLen ∧ (a = none → c = 0) ∧ (∀ j (h : j < ts.length), TpOk ts[j] ∧ ∃ p, a = some p ∧ ∀ i u, (tpC ts[j])[i]? = some u → w.cell? ((p.add (j * 3)).add i) = some u)
theorem TopsAt.kept {w w' : World} {v : Value} {ts : List Tp} {S : List Nat} (h : TopsAt w v ts) (ht : Turn S w w') (hn : ∀ k ∈ v.ownBlock, k < w.heap.size → k ∉ S) : TopsAt w' v ts := by
  obtain ⟨a, c, rfl, h1, h2, h3, h4⟩ := h
  refine ⟨a, c, rfl, h1, h2, h3, fun j hj => ?_⟩
  obtain ⟨h5, p, rfl, hc⟩ := h4 j hj
  refine ⟨h5, p, rfl, fun i u hu => ?_⟩
  have hlt := World.block_lt_of_cell? w _ (hc i u hu)
  rw [World.cell?_of_block (w := w) (ht.block _ hlt (by rw [add_block, add_block] at hlt ⊢; exact hn _ (by simp [Value.ownBlock]) hlt)), hc i u hu]
theorem TopsAt.kept' {w w' : World} {v : Value} {ts : List Tp} {S : List Nat} (h : TopsAt w v ts) (ht : Turn S w w') (hn : ts ≠ [] → ∀ k ∈ v.ownBlock, k ∉ S) : TopsAt w' v ts := by
  by_cases h0 : ts = []
  · subst h0
    obtain ⟨a, c, e, h1, h2, h3, h4⟩ := h
    exact ⟨a, c, e, h1, h2, h3, fun j hj => absurd hj (Nat.not_lt_zero _)⟩
  · exact h.kept ht (fun k hk _ => hn h0 k hk)
theorem TopsAt.lt {w : World} {v : Value} {ts : List Tp} (h : TopsAt w v ts) (h0 : ts ≠ []) : ∀ k ∈ v.ownBlock, k < w.heap.size := by
  obtain ⟨a, c, rfl, h1, h2, h3, h4⟩ := h
  have hl : 0 < ts.length := List.length_pos_iff.2 h0
  obtain ⟨-, p, rfl, hc⟩ := h4 0 hl
  intro k hk
  simp [Value.ownBlock] at hk
  subst hk
  have := World.block_lt_of_cell? w _ (hc 0 _ rfl)
  rwa [add_block, add_block] at this
theorem TopsAt.still {w w' : World} {v : Value} {ts : List Tp} (h : TopsAt w v ts) (ht : Turn [] w w') : TopsAt w' v ts := h.kept ht (by simp)
theorem TopsAt.form {w : World} {v : Value} {ts : List Tp} (h : TopsAt w v ts) : ∃ a c, v = .slice a ts.length c ∧ ts.length ≤ c ∧ c ≤ maxLen ∧ (a = none → c = 0) ∧ ∀ j (hj : j < ts.length), ∃ p, a = some p := by
  obtain ⟨a, c, rfl, h1, h2, h3, h4⟩ := h
  exact ⟨a, c, rfl, h1, h2, h3, fun j hj => ⟨_, (h4 j hj).2.choose_spec.1⟩⟩
theorem TopsAt.ok {w : World} {v : Value} {ts : List Tp} (h : TopsAt w v ts) {j : Nat} (hj : j < ts.length) : TpOk ts[j] := by
  obtain ⟨a, c, rfl, h1, h2, h3, h4⟩ := h
  exact (h4 j hj).1
theorem TopsAt.three {w : World} {p : Addr} {c : Nat} {ts : List Tp} (h : TopsAt w (.slice (some p) ts.length c) ts) {j : Nat} (hj : j < ts.length) :
    w.cell? (p.add (j * 3)) = some (.string ⟨ts[j].name.toArray⟩) ∧ w.cell? ⟨(p.add (j * 3)).block, (p.add (j * 3)).off + 1, none⟩ = some (.int .i64 ts[j].parts) ∧ w.cell? ⟨(p.add (j * 3)).block, (p.add (j * 3)).off + 2, none⟩ = some (.bool ts[j].compact) := by
  obtain ⟨a, c', e, h1, h2, h3, h4⟩ := h
  simp only [Value.slice.injEq] at e
  obtain ⟨rfl, -, rfl⟩ := e
  obtain ⟨-, q, hq, hc⟩ := h4 j hj
  cases hq
  refine ⟨?_, hc 1 _ rfl, hc 2 _ rfl⟩
  have := hc 0 _ rfl
  rwa [add_zero] at this

def ansC (x : Ans) (rv tv : Value) : Array Value := #[.int .i64 x.kind, .int .i64 x.corr, .int .i64 x.err, .int .i64 x.offset, .int .i64 x.start, .int .i64 x.fin, .bool x.found, rv, tv]
structure AnsOk (x : Ans) : Prop where
  kind : inI x.kind
  corr : inI x.corr
  err : inI x.err
  offset : inI x.offset
  start : inI x.start
  fin : inI x.fin
/-- An answer's value. -/
def AnsAt (w : World) (v : Value) (x : Ans) : Prop := ∃ rv tv, v = .agg (ansC x rv tv) ∧ RecsAt w rv x.recs ∧ TopsAt w tv x.topics ∧ AnsOk x
end Go.Proofs.YtcpjohpbakbggaaDoor.Wi
