/- The wheel: reach: what is taken out of the slots. -/
import Derived.Test.YtcficgpknokpbaaDoorWhg
namespace Go.Proofs.YtcficgpknokpbaaDoor.Wh
open Go.RowKit Go.Maps
set_option maxRecDepth 100000
set_option linter.unusedSimpArgs false
set_option linter.unusedVariables false
attribute [local go_sem] Oper.semAt_some

def nilS : Value := .slice none 0 0
def capOf : Value → Nat
  | .slice _ _ c => c
  | _ => 0
/-- What is left of slots and their lists, once some are taken out. -/
def svD (D : Nat → Bool) (sv : Nat → Value) : Nat → Value := fun j => if D j then nilS else sv j
def slD (D : Nat → Bool) (sl : Nat → List Tm) : Nat → List Tm := fun j => if D j then [] else sl j
theorem svD_set (now to k i : Nat) (sv : Nat → Value) (hi : i < 64) (hp : placeN k now ≤ i) : setF (svD (dn now to k i) sv) (k * 64 + i) nilS = svD (dn now to k (i + 1)) sv := by
  funext j
  unfold setF svD
  rw [dn_step _ _ _ _ _ hi hp]
  by_cases e : j = k * 64 + i
  · simp [e]
  · simp [e]
theorem slD_set (now to k i : Nat) (sl : Nat → List Tm) (hi : i < 64) (hp : placeN k now ≤ i) : setF (slD (dn now to k i) sl) (k * 64 + i) [] = slD (dn now to k (i + 1)) sl := by
  funext j
  unfold setF slD
  rw [dn_step _ _ _ _ _ hi hp]
  by_cases e : j = k * 64 + i
  · simp [e]
  · simp [e]
theorem dn_end_f (now to k : Nat) : dn now to k (lastN now to k + 1) = dn now to (k + 1) (placeN (k + 1) now) := funext (dn_end now to k)

/-- Where reach stands: what is taken out of the slots that are done. -/
structure RcSt (w wr : World) (base b now to : Nat) (mref : Option Nat) (all : List Tm) (sv : Nat → Value) (sl : Nat → List Tm) (k i : Nat) (rv : Value) (R : List Tm) : Prop where
  row : TR wr base rv R
  own : ∀ q ∈ rv.ownBlock, w.heap.size ≤ q
  sq : Sq R (all.filter (fun x => dn now to k i (slotJ now x.1.toNat)))
  at_ : WAt wr base b now mref all (svD (dn now to k i) sv) (slD (dn now to k i) sl)
  turn : Turn [b] w wr
theorem RcSt.len {w wr : World} {base b now to : Nat} {mref : Option Nat} {all : List Tm} {sv : Nat → Value} {sl : Nat → List Tm} {k i : Nat} {rv : Value} {R : List Tm} (h : RcSt w wr base b now to mref all sv sl k i rv R) (hl : all.length ≤ 10000) : R.length ≤ 10000 := by
  rw [h.sq.length]
  exact Nat.le_trans (List.length_filter_le _ _) hl
theorem RcSt.still {w wr wq : World} {base b now to : Nat} {mref : Option Nat} {all : List Tm} {sv : Nat → Value} {sl : Nat → List Tm} {k i : Nat} {rv : Value} {R : List Tm} (h : RcSt w wr base b now to mref all sv sl k i rv R) (ht : Turn [] wr wq) : RcSt w wq base b now to mref all sv sl k i rv R :=
  ⟨h.row.still ht, h.own, h.sq, h.at_.still ht, h.turn.same (ht.mono (by simp))⟩

set_option maxHeartbeats 2000000 in
/-- One slot is taken out. -/
theorem RcSt.next {w wr : World} {base b now to : Nat} {mref : Option Nat} {all : List Tm} {sv : Nat → Value} {sl : Nat → List Tm} {k i : Nat} {rv : Value} {R : List Tm} (h : RcSt w wr base b now to mref all sv sl k i rv R) (hI : WInv now all sl) (hw : WAt w base b now mref all sv sl) (hk : k < 7) (hi : i < 64) (hp : placeN k now ≤ i) :
    ∃ va vn vc rv' w7, wr.cell? ⟨b, 2 + k * 64 + i, none⟩ = some (.slice va vn vc) ∧ b < wr.heap.size ∧ (Builtin.append_ #[24, 24] 24 #[rv, .slice va vn vc]).run Tryd.prog wr = .ok rv' w7 ∧ b < w7.heap.size ∧ w7.cell? ⟨b, 2 + k * 64 + i, none⟩ = some (.slice va vn vc) ∧ w7.frozen? ⟨b, 2 + k * 64 + i, none⟩ = false ∧
      ∃ ra R', rv' = .slice ra R'.length (capOf rv') ∧ RcSt w (w7.setCell ⟨b, 2 + k * 64 + i, none⟩ (.slice none 0 0)) base b now to mref all sv sl k (i + 1) rv' R' := by
  have hj : k * 64 + i < 448 := by omega
  have hsl : slD (dn now to k i) sl (k * 64 + i) = sl (k * 64 + i) := by unfold slD; rw [dn_self _ _ _ _ hi]; rfl
  have hsv : svD (dn now to k i) sv (k * 64 + i) = sv (k * 64 + i) := by unfold svD; rw [dn_self _ _ _ _ hi]; rfl
  have hrow := h.at_.rows (k * 64 + i) hj
  have hce := h.at_.cells.slot hj
  rw [hsl, hsv] at hrow
  rw [hsv, show 2 + (k * 64 + i) = 2 + k * 64 + i by omega] at hce
  obtain ⟨va, vc, hv, -, -⟩ := hrow.form
  have hRl := h.len hI.len
  have hsll := hI.slen hj
  obtain ⟨rv', w7, hr7, hrow7, ht7, hown7⟩ := app_tms wr base rv (sv (k * 64 + i)) R (sl (k * 64 + i)) h.row hrow (by omega) (by have := h.turn.size; have := hw.lo; have := hw.blt; omega)
  have hbr : b ∉ rv.ownBlock := fun hm => by have := h.own b hm; have := hw.blt; omega
  have hat7 : WAt w7 base b now mref all (svD (dn now to k i) sv) (slD (dn now to k i) sl) := h.at_.kept ht7 (fun q hq hm => by
    have h1 := h.own q (by simpa using hm)
    rcases mem_wfoot.1 hq with rfl | hq | ⟨j, hj, hq⟩
    · have := hw.blt; omega
    · have := hw.map.lt q hq; omega
    · unfold svD at hq
      split at hq
      · simp [nilS, Value.ownBlock] at hq
      · have := ((hw.rows j hj).lt q hq).2; omega)
  have hset : Turn [b] w7 (w7.setCell ⟨b, 2 + k * 64 + i, none⟩ (.slice none 0 0)) := (Turn.refl [b] w7).setCell (.inl (by simp)) _
  have hce7 := hat7.cells.slot hj
  rw [hsv, show 2 + (k * 64 + i) = 2 + k * 64 + i by omega] at hce7
  have hcs := hat7.cells.setSlot hj nilS
  rw [show 2 + (k * 64 + i) = 2 + k * 64 + i by omega] at hcs
  have hat8 := hat7.setRow hj (v' := nilS) (l' := []) (w' := w7.setCell ⟨b, 2 + k * 64 + i, none⟩ (.slice none 0 0)) (hset.mono (fun q hq => by obtain rfl := List.mem_singleton.1 hq; exact .inl (by simp))) hcs (.inl ⟨rfl, rfl⟩) (by simp [nilS, Value.ownBlock])
  rw [svD_set now to k i sv hi hp, slD_set now to k i sl hi hp] at hat8
  have hown8 : ∀ q ∈ rv'.ownBlock, w.heap.size ≤ q := fun q hq => by
    rcases hown7 q hq with h1 | h1
    · exact h.own q h1
    · have := h.turn.size; omega
  obtain ⟨ra, rc, hrv, -, -⟩ := hrow7.form
  rw [hv] at hce hr7 hce7
  refine ⟨va, _, vc, rv', w7, hce, h.at_.blt, hr7, hat7.blt, hce7, hat7.cells.head.2.2.1 _, ra, R ++ sl (k * 64 + i), ?_, ⟨hrow7.kept hset (fun q hq hm => ?_), hown8, reached_step hi hp h.sq (hI.slots _ hj), hat8, ?_⟩⟩
  · rw [hrv]; rfl
  · obtain rfl := List.mem_singleton.1 hm
    have := hown8 q hq
    have := hw.blt
    omega
  · exact (h.turn.trans ht7 (fun q hq => .inr (h.own q (by simpa using hq)))).same hset
end Go.Proofs.YtcficgpknokpbaaDoor.Wh
