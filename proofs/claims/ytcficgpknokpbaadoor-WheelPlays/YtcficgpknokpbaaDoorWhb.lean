/- The wheel in memory; which slot a time lies in. -/
import Derived.Test.YtcficgpknokpbaaDoorWha
namespace Go.Proofs.YtcficgpknokpbaaDoor.Wh
open Go.RowKit Go.Maps
set_option maxRecDepth 100000
set_option linter.unusedSimpArgs false
set_option linter.unusedVariables false
attribute [local go_sem] Oper.semAt_some

theorem sizeW : (Tryd.prog.info? 28).map (·.size) = some 450 := by kernel_rfl
def turnN (k t : Nat) : Nat := t / 64 ^ (k + 1)
def placeN (k t : Nat) : Nat := t / 64 ^ k % 64
theorem placeN_lt (k t : Nat) : placeN k t < 64 := Nat.mod_lt _ (by omega)
theorem pow6 (k : Nat) : (64 : Nat) ^ k = 2 ^ (6 * k) := by rw [Nat.pow_mul]
theorem turn_any (k t : Nat) (hk : k ≤ 6) (ht : t ≤ 1099511627776) (w : World) : Calls Tryd.prog 23 #[.int .i64 k, .int .i64 t] w fun e w' => e = .returned (.int .i64 (turnN k t : Nat)) ∧ w' = w := by
  unfold turnN
  rw [pow6]
  go_enter Tryd.func23, Tryd.ntmps23
  go_wp2
  go_ret
  refine ⟨?_, rfl⟩
  refine congrArg Ending.returned ?_
  show Value.int IntKind.i64 _ = _
  congr 1
theorem place_any (k t : Nat) (hk : k ≤ 6) (ht : t ≤ 1099511627776) (w : World) : Calls Tryd.prog 24 #[.int .i64 k, .int .i64 t] w fun e w' => e = .returned (.int .i64 (placeN k t : Nat)) ∧ w' = w := by
  unfold placeN
  rw [pow6]
  go_enter Tryd.func24, Tryd.ntmps24
  go_wp2
  go_ret
  refine ⟨?_, rfl⟩
  refine congrArg Ending.returned ?_
  show Value.int IntKind.i64 _ = _
  congr 1

def kGo (now t : Nat) : Nat → Nat → Nat
  | 0, k => k
  | f + 1, k => if turnN k t = turnN k now then k else kGo now t f (k + 1)
/-- In which wheel a time lies. -/
def kOf (now t : Nat) : Nat := kGo now t 6 0
theorem kGo_eq {now t K : Nat} (h1 : ∀ k, k < K → turnN k t ≠ turnN k now) (h2 : turnN K t = turnN K now) : ∀ f k, k ≤ K → K ≤ k + f → kGo now t f k = K
  | 0, k, hk, hf => by unfold kGo; omega
  | f + 1, k, hk, hf => by
    unfold kGo
    by_cases e : k = K
    · subst e; rw [if_pos h2]
    · rw [if_neg (h1 k (by omega))]
      exact kGo_eq h1 h2 f (k + 1) (by omega) (by omega)
theorem kOf_eq {now t K : Nat} (h1 : ∀ k, k < K → turnN k t ≠ turnN k now) (h2 : turnN K t = turnN K now) (hK : K ≤ 6) : kOf now t = K := kGo_eq h1 h2 6 0 (Nat.zero_le _) (by omega)
theorem kGo_spec (now t : Nat) : ∀ f k, (∀ j, j < k → turnN j t ≠ turnN j now) → (∀ j, j < kGo now t f k → turnN j t ≠ turnN j now) ∧ kGo now t f k ≤ k + f ∧ (turnN (kGo now t f k) t = turnN (kGo now t f k) now ∨ kGo now t f k = k + f)
  | 0, k, h => by unfold kGo; exact ⟨h, Nat.le_refl _, .inr rfl⟩
  | f + 1, k, h => by
    unfold kGo
    by_cases e : turnN k t = turnN k now
    · rw [if_pos e]
      exact ⟨h, by omega, .inl e⟩
    · rw [if_neg e]
      obtain ⟨a, b, c⟩ := kGo_spec now t f (k + 1) (fun j hj => by
        by_cases e2 : j = k
        · subst e2; exact e
        · exact h j (by omega))
      exact ⟨a, by omega, by rcases c with c | c; exact .inl c; exact .inr (by omega)⟩
theorem turn6 {t : Nat} (ht : t ≤ 1099511627776) : turnN 6 t = 0 := by
  unfold turnN
  exact Nat.div_eq_of_lt (by omega)
theorem kOf_spec {now t : Nat} (hn : now ≤ 1099511627776) (ht : t ≤ 1099511627776) : (∀ j, j < kOf now t → turnN j t ≠ turnN j now) ∧ kOf now t ≤ 6 ∧ turnN (kOf now t) t = turnN (kOf now t) now := by
  obtain ⟨a, b, c⟩ := kGo_spec now t 6 0 (fun j hj => absurd hj (by omega))
  refine ⟨a, by show kGo now t 6 0 ≤ 6; omega, ?_⟩
  rcases c with c | c
  · exact c
  · unfold kOf
    rw [c, turn6 hn, turn6 ht]
/-- The slot of a time, of all of them. -/
def slotJ (now t : Nat) : Nat := 64 * kOf now (max t now) + placeN (kOf now (max t now)) (max t now)
theorem slotJ_lt {now t : Nat} (hn : now ≤ 1099511627776) (ht : t ≤ 1099511627776) : slotJ now t < 448 := by
  have h1 := (kOf_spec hn (t := max t now) (by omega)).2.1
  have h2 := placeN_lt (kOf now (max t now)) (max t now)
  unfold slotJ
  omega
theorem kOf_same (t : Nat) : kOf t t = 0 := kOf_eq (fun k hk => absurd hk (by omega)) rfl (by omega)
/-- Two times of one turn and one place are one. -/
theorem div_of {k a b : Nat} (h1 : turnN k a = turnN k b) (h2 : placeN k a = placeN k b) : a / 64 ^ k = b / 64 ^ k := by
  unfold turnN at h1
  unfold placeN at h2
  rw [Nat.pow_succ, ← Nat.div_div_eq_div_mul, ← Nat.div_div_eq_div_mul] at h1
  have e1 := Nat.div_add_mod (a / 64 ^ k) 64
  have e2 := Nat.div_add_mod (b / 64 ^ k) 64
  omega
theorem slot_now {now t : Nat} (hn : now ≤ 1099511627776) (ht : t ≤ 1099511627776) (h : slotJ now t = slotJ now now) : t ≤ now := by
  by_cases hle : t ≤ now
  · exact hle
  · exfalso
    have hm : max t now = t := by omega
    have hm2 : max now now = now := by omega
    unfold slotJ at h
    rw [hm, hm2, kOf_same] at h
    have h2 := placeN_lt (kOf now t) t
    have h3 := placeN_lt 0 now
    have hk : kOf now t = 0 := by omega
    rw [hk] at h
    have hs := (kOf_spec hn ht).2.2
    rw [hk] at hs
    have := div_of hs (by omega)
    simp at this
    omega
theorem slot_due {now t : Nat} (h : t ≤ now) : slotJ now t = slotJ now now := by
  unfold slotJ
  rw [show max t now = max now now by omega]
/-- The last slot of wheel k that is come to. -/
def lastN (now to k : Nat) : Nat := if turnN k to = turnN k now then placeN k to else 63
def visited (now to j : Nat) : Bool := decide (placeN (j / 64) now ≤ j % 64) && decide (j % 64 ≤ lastN now to (j / 64))
/-- What lies in a slot that is not come to stays there. -/
theorem slot_stays {now to t : Nat} (hn : now ≤ to) (hto : to ≤ 1099511627776) (ht : t ≤ 1099511627776) (hv : visited now to (slotJ now t) = false) : slotJ to t = slotJ now t := by
  have hn0 : now ≤ 1099511627776 := by omega
  obtain ⟨t', ht'⟩ : ∃ t', t' = max t now := ⟨_, rfl⟩
  obtain ⟨K, hK⟩ : ∃ K, K = kOf now t' := ⟨_, rfl⟩
  have hj : slotJ now t = 64 * K + placeN K t' := by unfold slotJ; rw [← ht', ← hK]
  have hp := placeN_lt K t'
  have hd : (64 * K + placeN K t') / 64 = K := by omega
  have hmd : (64 * K + placeN K t') % 64 = placeN K t' := by omega
  obtain ⟨s1, s2, s3⟩ := kOf_spec hn0 (t := t') (by omega)
  rw [← hK] at s1 s2 s3
  unfold visited at hv
  rw [hj, hd, hmd] at hv
  have hlow : placeN K now ≤ placeN K t' := by
    have h1 : now / 64 ^ K ≤ t' / 64 ^ K := Nat.div_le_div_right (by omega)
    unfold turnN at s3
    rw [Nat.pow_succ, ← Nat.div_div_eq_div_mul, ← Nat.div_div_eq_div_mul] at s3
    unfold placeN
    have e1 := Nat.div_add_mod (t' / 64 ^ K) 64
    have e2 := Nat.div_add_mod (now / 64 ^ K) 64
    omega
  have hgt : lastN now to K < placeN K t' := by
    simp only [hlow, decide_true, Bool.true_and, decide_eq_false_iff_not] at hv
    omega
  unfold lastN at hgt
  by_cases htn : turnN K to = turnN K now
  · rw [if_pos htn] at hgt
    have htt : turnN K t' = turnN K to := by rw [s3, htn]
    have hlt : to / 64 ^ K < t' / 64 ^ K := by
      have h1 := htt
      unfold turnN at h1
      rw [Nat.pow_succ, ← Nat.div_div_eq_div_mul, ← Nat.div_div_eq_div_mul] at h1
      unfold placeN at hgt
      have e1 := Nat.div_add_mod (t' / 64 ^ K) 64
      have e2 := Nat.div_add_mod (to / 64 ^ K) 64
      omega
    have hto' : to < t' := by
      rcases Nat.lt_or_ge to t' with h | h
      · exact h
      · exact absurd (Nat.div_le_div_right (c := 64 ^ K) h) (by omega)
    have htq : t' = t := by omega
    subst htq
    have hkt : kOf to t' = K := by
      refine kOf_eq (fun k hk e => ?_) htt s2
      have h2 : to / 64 ^ K = t' / 64 ^ K := by
        unfold turnN at e
        have h3 : K = (k + 1) + (K - (k + 1)) := by omega
        rw [h3, Nat.pow_add, ← Nat.div_div_eq_div_mul, ← Nat.div_div_eq_div_mul, e]
      omega
    rw [hj]
    unfold slotJ
    rw [show max t' to = t' by omega, hkt]
  · rw [if_neg htn] at hgt
    omega
end Go.Proofs.YtcficgpknokpbaaDoor.Wh
