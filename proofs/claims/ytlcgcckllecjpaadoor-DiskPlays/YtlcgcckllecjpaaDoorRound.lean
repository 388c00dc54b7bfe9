/- A region that draws its order, in a round of a loop over a function: its operations only read, but for the last one, which waits for all others: one walk in the order of the text serves every order. No program. -/
import Derived.Test.YtlcgcckllecjpaaDoorTurn
import Derived.Test.YtlcgcckllecjpaaDoorCover
import Derived.Deep.QuietTactic
import Derived.BigQuiet
import Derived.RangeFuncCalls
import Derived.OrdersIn
import Derived.TacticsInMore
namespace Go.Proofs.YtlcgcckllecjpaaDoor
open Go.RowKit
set_option linter.unusedSimpArgs false
set_option linter.unusedVariables false

section
variable {n l : Nat} {P : Program} {C : World → Prop}

/-- A quiet operation, carried out in a round. -/
theorem wpIn_of_quiet {o : Oper} {a : Act} {K : Act → Prop} {K' : Act → World → Prop} {Q' : Exit → Act → World → Prop} {w : World} (hp : ∀ c, o.op ≠ .defer c) (hw : C w) (h : ∀ a w', C w' → K a → K' a w') (hh : o.quiet P a C K) :
    o.wpIn (Fence.wide.inRound l) n P a w K' Q' := by
  obtain ⟨v, h1, h2⟩ := hh
  have h3 := h1 w hw
  unfold Oper.quietAt at h3
  unfold Oper.wpIn
  refine ⟨fun f _ => trivial, ?_⟩
  rw [Oper.semAt_eq _ _ _ hp]
  generalize (execOp a.eval o).run P w = r at *
  cases r with
  | ok x w' =>
    cases x <;> simp only [Oper.quietUpon] at h3 <;> simp only [Oper.uponIn]
    case value u => obtain ⟨e1, e2⟩ := h3; rw [e1, e2]; exact h _ _ hw h2
    case skip => obtain ⟨e1, e2⟩ := h3; rw [e1, ← e2]; exact h _ _ hw h2
    case enter f args =>
      obtain ⟨e1, hc⟩ := h3
      rw [e1]
      exact ⟨fun hd => by simp [Fence.wide] at hd, CallsIn.inRound l (callsIn_wide.2 (hc.mono fun e w'' ⟨he, hw''⟩ => by subst he; exact h _ _ hw'' h2))⟩
  | halt x w' => simp only [Oper.quietUpon] at h3

theorem any_of_quiet {ls : List Oper} {o : Oper} {Q : Exit → Act → World → Prop} (hc : coverB ls o = true) (hp : plainB ls = true) (hg : guardsB ls = true) (hon : ∀ e ∈ o.after.toList, e.on < ls.length) (hlex : ∀ (i : Nat) (x : Oper), ls[i]? = some x → ∀ e ∈ x.after.toList, Region.binds .any e = true → e.on < i) :
    ∀ (fuel : Nat) (listed : Array Bool) (a : Act) (w : World), listed.size = ls.length → Down ls listed → C w →
      wpAnyQ P .any ls.toArray C (fun a' => ∀ w', C w' → wpOpIn (Fence.wide.inRound l) n P (ls ++ [o]).toArray Q ls.length (fun a w => Q .normal a w) a' w') fuel listed a →
      wpAnyIn (Fence.wide.inRound l) n P .any (ls ++ [o]).toArray Q (fuel + 1) (listed.push false) a w := by
  have last : (ls ++ [o])[ls.length]? = some o := by simp
  have dn : ∀ listed : Array Bool, Down ls listed → listed.size = ls.length → Down (ls ++ [o]) listed := by
    intro listed hd hs i x hx hi
    by_cases h1 : i < ls.length
    · rw [List.getElem?_append_left h1] at hx; exact hd i x hx hi
    · exfalso
      have := listed_lt hi
      omega
  -- nothing of the first ones ready: all of them are listed
  have full : ∀ listed : Array Bool, listed.size = ls.length → Region.ready .any ls.toArray listed = [] → ∀ i, i < ls.length → Listed listed i := by
    intro listed hs hr i
    induction i using Nat.strongRecOn with
    | ind i ih =>
      intro hi
      refine Classical.byContradiction fun hn => ?_
      have hm : i ∈ Region.ready .any ls.toArray listed := by
        rw [mem_ready]
        refine ⟨by simpa using hi, ?_, ls[i], by simp [hi], fun e he hb => ih e.on (hlex i _ (by simp [hi]) e he hb) (by have := hlex i _ (by simp [hi] : ls[i]? = some ls[i]) e he hb; omega)⟩
        unfold Listed at hn
        rw [Array.getElem?_eq_getElem (by omega)] at hn ⊢
        simpa using hn
      rw [hr] at hm; cases hm
  -- the last one, when all others are listed
  have fin : ∀ (fuel : Nat) (listed : Array Bool) (a : Act) (w : World), listed.size = ls.length → (∀ i, i < ls.length → Listed listed i) → C w →
      (∀ w', C w' → wpOpIn (Fence.wide.inRound l) n P (ls ++ [o]).toArray Q ls.length (fun a w => Q .normal a w) a w') →
      wpOpIn (Fence.wide.inRound l) n P (ls ++ [o]).toArray Q ls.length (wpAnyIn (Fence.wide.inRound l) n P .any (ls ++ [o]).toArray Q fuel ((listed.push false).setIfInBounds ls.length true)) a w := by
    intro fuel listed a w hs hall hw h
    refine wpOpIn_mono (fun a' w' hq => ?_) (h w hw)
    have hr : Region.ready .any (ls ++ [o]).toArray ((listed.push false).setIfInBounds ls.length true) = [] := by
      rw [List.eq_nil_iff_forall_not_mem]
      intro i hi
      rw [mem_ready] at hi
      obtain ⟨h1, h2, _⟩ := hi
      simp only [List.size_toArray, List.length_append, List.length_cons, List.length_nil] at h1
      by_cases hil : i < ls.length
      · have := hall i hil
        have h5 : Listed ((listed.push false).setIfInBounds ls.length true) i := listed_set.2 (.inl (listed_push.2 this))
        unfold Listed at h5
        rw [h5] at h2; cases h2
      · have : i = ls.length := by omega
        subst this
        have h5 : Listed ((listed.push false).setIfInBounds ls.length true) ls.length := listed_set.2 (.inr ⟨rfl, by simp; omega⟩)
        unfold Listed at h5
        rw [h5] at h2; cases h2
    cases fuel with
    | zero => exact ⟨hr, hq⟩
    | succ fuel => exact ⟨fun _ => hq, fun i hi => by rw [hr] at hi; cases hi⟩
  intro fuel
  induction fuel with
  | zero =>
    intro listed a w hs hd hw h
    have hall := full listed hs h.1
    refine ⟨fun hr => ?_, fun i hi => ?_⟩
    · exfalso
      have hm : ls.length ∈ Region.ready .any (ls ++ [o]).toArray (listed.push false) := by
        rw [mem_ready]
        refine ⟨by simp, by rw [← hs]; simp, o, by simp, fun e he _ => listed_push.2 (hall _ (hon e he))⟩
      rw [hr] at hm; cases hm
    · have hi' := hi
      rw [mem_ready] at hi
      obtain ⟨h1, h2, _⟩ := hi
      simp only [List.size_toArray, List.length_append, List.length_cons, List.length_nil] at h1
      by_cases hil : i < ls.length
      · exfalso
        have := hall i hil
        rw [false_push (by omega)] at h2
        unfold Listed at this
        rw [this] at h2; cases h2
      · have : i = ls.length := by omega
        subst this
        exact fin 0 listed a w hs hall hw h.2
  | succ fuel ih =>
    intro listed a w hs hd hw h
    refine ⟨fun hr => ?_, fun i hi => ?_⟩
    · exfalso
      by_cases he : Region.ready .any ls.toArray listed = []
      · have hall := full listed hs he
        have hm : ls.length ∈ Region.ready .any (ls ++ [o]).toArray (listed.push false) := by
          rw [mem_ready]
          exact ⟨by simp, by rw [← hs]; simp, o, by simp, fun e he _ => listed_push.2 (hall _ (hon e he))⟩
        rw [hr] at hm; cases hm
      · obtain ⟨i, hi⟩ := List.exists_mem_of_ne_nil _ he
        rw [mem_ready] at hi
        obtain ⟨h1, h2, x, hx, h3⟩ := hi
        simp only [List.size_toArray] at h1
        have hm : i ∈ Region.ready .any (ls ++ [o]).toArray (listed.push false) := by
          rw [mem_ready]
          refine ⟨by simp; omega, (false_push (by omega)).2 h2, x, ?_, fun e he hb => listed_push.2 (h3 e he hb)⟩
          simpa [List.getElem?_append_left h1] using hx
        rw [hr] at hm; cases hm
    · have hi' := hi
      rw [mem_ready] at hi
      obtain ⟨h1, h2, x, hx, h3⟩ := hi
      simp only [List.size_toArray, List.length_append, List.length_cons, List.length_nil] at h1
      by_cases hil : i < ls.length
      · have hx' : ls[i]? = some x := by simpa [List.getElem?_append_left hil] using hx
        have hm : i ∈ Region.ready .any ls.toArray listed := by
          rw [mem_ready]
          exact ⟨by simpa using hil, (false_push (by omega)).1 h2, x, by simpa using hx', fun e he hb => listed_push.1 (h3 e he hb)⟩
        have hq := h.2 i hm
        unfold qOp at hq
        rw [show ls.toArray[i]? = some x by simpa using hx'] at hq
        simp only at hq
        have hdn : Down ls (listed.setIfInBounds i true) := down_set hd hx' (fun e he hb => listed_push.1 (h3 e he hb))
        unfold wpOpIn
        rw [hx]
        simp only [wanted_pre hg hx']
        rw [push_set (by omega)]
        split
        · rename_i hw'
          rw [if_pos hw'] at hq
          exact wpIn_of_quiet (plain_of hp hx') hw (fun a' w' hC hK => ih _ a' w' (by simpa using hs) hdn hC hK) hq
        · rename_i hw'
          rw [if_neg hw'] at hq
          exact ⟨fun f _ => trivial, ih _ _ w (by simpa using hs) hdn hw hq⟩
      · have : i = ls.length := by omega
        subst this
        have hxo : x = o := by simpa using hx.symm
        subst hxo
        have hall := all_listed hc (dn _ hd hs) (fun e he hb => listed_push.1 (h3 e he hb))
        refine fin (fuel + 1) listed a w hs hall hw (h.1 ?_)
        rw [List.eq_nil_iff_forall_not_mem]
        intro i hi
        rw [mem_ready] at hi
        obtain ⟨g1, g2, _⟩ := hi
        simp only [List.size_toArray] at g1
        have := hall i g1
        unfold Listed at this
        rw [this] at g2; cases g2

def lastB (ls : List Oper) (o : Oper) : Bool := coverB ls o && plainB ls && guardsB ls && edgesB ls && o.after.toList.all fun e => decide (e.on < ls.length)

/-- THE LAST ONE WAITS FOR ALL OTHERS, which only read: one walk of the order of the text serves every order. -/
theorem wpIn_round_quiet_last {id m : Nat} {lo : List Oper} {o : Oper} {Q : Exit → Act → World → Prop} {a : Act} {w : World} (hget : lo[m]? = some o) (hlen : m + 1 = lo.length) (hm : P.follows .mixedOrders = true)
    (hB : Region.lexB .any (lo.take m).toArray = true) (hl : lastB (lo.take m) o = true)
    (h : wpQuiet P (lo.take m).toArray (fun w' => ∃ k, w' = w.drewN k) (fun a' => ∀ w', (∃ k, w' = w.drewN k) → wpListIn (Fence.wide.inRound l) n P lo.toArray Q [o] a' w') (lo.take m) a) :
    (Code.region id lo.toArray true).wpIn (Fence.wide.inRound l) n P Q a w := by
  have hlm : (lo.take m).length = m := by simp; omega
  have hsplit : lo = lo.take m ++ [o] := by
    have h1 := List.take_append_drop m lo
    have h2 : lo.drop m = [o] := by
      obtain ⟨hi, he⟩ := List.getElem?_eq_some_iff.1 hget
      rw [List.drop_eq_getElem_cons hi, he, List.drop_of_length_le (by omega)]
    rw [h2] at h1; exact h1.symm
  simp only [lastB, Bool.and_eq_true] at hl
  obtain ⟨⟨⟨⟨h1, h2⟩, h3⟩, h4⟩, h5⟩ := hl
  simp only [Region.lexB, Bool.and_eq_true] at hB
  have hq := wpAnyQ_lex (C := fun w' => ∃ k, w' = w.drewN k) (md := .any) hB.1 (lo.take m) 0 (Array.replicate (lo.take m).toArray.size false) a (by simp) (by simpa using hB.2) h
  have hfin : ∀ a' w', wpListIn (Fence.wide.inRound l) n P lo.toArray Q [o] a' w' → wpOpIn (Fence.wide.inRound l) n P (lo.take m ++ [o]).toArray Q (lo.take m).length (fun a w => Q .normal a w) a' w' := by
    intro a' w' hh
    rw [← hsplit, hlm]
    unfold wpOpIn
    rw [show lo.toArray[m]? = some o by simpa using hget]
    exact hh
  have hq2 : wpAnyQ P .any (lo.take m).toArray (fun w' => ∃ k, w' = w.drewN k) (fun a' => ∀ w', (∃ k, w' = w.drewN k) → wpOpIn (Fence.wide.inRound l) n P (lo.take m ++ [o]).toArray Q (lo.take m).length (fun a w => Q .normal a w) a' w') (lo.take m).length (Array.replicate (lo.take m).toArray.size false) a := by
    have mono : ∀ (fuel : Nat) (listed : Array Bool) (a : Act), wpAnyQ P .any (lo.take m).toArray (fun w' => ∃ k, w' = w.drewN k) (fun a' => ∀ w', (∃ k, w' = w.drewN k) → wpListIn (Fence.wide.inRound l) n P lo.toArray Q [o] a' w') fuel listed a →
        wpAnyQ P .any (lo.take m).toArray (fun w' => ∃ k, w' = w.drewN k) (fun a' => ∀ w', (∃ k, w' = w.drewN k) → wpOpIn (Fence.wide.inRound l) n P (lo.take m ++ [o]).toArray Q (lo.take m).length (fun a w => Q .normal a w) a' w') fuel listed a := by
      intro fuel
      induction fuel with
      | zero => intro listed a hh; exact ⟨hh.1, fun w' hw' => hfin _ _ (hh.2 w' hw')⟩
      | succ fuel ih => intro listed a hh; exact ⟨fun hr w' hw' => hfin _ _ (hh.1 hr w' hw'), fun i hi => qOp_mono (fun a => ih _ a) (hh.2 i hi)⟩
    exact mono _ _ _ hq
  have hany := any_of_quiet (n := n) (l := l) (Q := Q) h1 h2 h3 (fun e he => by simpa using (List.all_eq_true.1 h5) e he) (by
    intro i x hx e he hb
    have hi : i < (lo.take m).length := (List.getElem?_eq_some_iff.1 hx).1
    have h6 := (List.all_eq_true.1 h4) i (List.mem_range.2 hi)
    rw [hx, Option.map_some, Option.getD_some] at h6
    have h7 := (List.all_eq_true.1 h6) e he
    rw [hb] at h7
    simpa using h7) (lo.take m).length (Array.replicate (lo.take m).toArray.size false) a { w with drawn := w.drawn + 1 } (by simp) (by
      intro i x _ hi
      unfold Listed at hi
      rw [Array.getElem?_replicate] at hi
      split at hi <;> cases hi) ⟨1, rfl⟩ hq2
  refine wpIn_region_any hm ?_
  rw [← hsplit] at hany
  have e1 : (Array.replicate (lo.take m).toArray.size false).push false = Array.replicate lo.toArray.size false := by
    rw [← Array.replicate_succ]
    congr 1
    simp; omega
  have e2 : (lo.take m).length + 1 = lo.toArray.size := by rw [hlm]; simpa using hlen
  rw [e1, e2] at hany
  exact hany
end

end Go.Proofs.YtlcgcckllecjpaaDoor
