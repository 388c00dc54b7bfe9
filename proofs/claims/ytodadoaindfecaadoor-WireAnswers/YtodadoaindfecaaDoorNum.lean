/- Numbers as bytes, seven bits each, the least ones first: what is written is read again; what is read was written. No program. -/
import Derived.WalkKit
namespace Go.Proofs.YtodadoaindfecaaDoor.Nu

/-- The bytes of a number. -/
def putF : Nat → Nat → List UInt8
  | 0, _ => []
  | f + 1, n => if n < 128 then [UInt8.ofNat n] else UInt8.ofNat (n % 128 + 128) :: putF f (n / 128)
def put (n : Nat) : List UInt8 := putF (n + 1) n
theorem putF_enough : ∀ f n, n < f → ∀ g, n < g → putF f n = putF g n
  | 0, _, h, _, _ => by omega
  | _ + 1, _, _, 0, h => by omega
  | f + 1, n, h, g + 1, k => by
    unfold putF
    split
    · rfl
    · rw [putF_enough f (n / 128) (by omega) g (by omega)]
theorem put_small {n : Nat} (h : n < 128) : put n = [UInt8.ofNat n] := by simp [put, putF, h]
theorem put_big {n : Nat} (h : 128 ≤ n) : put n = UInt8.ofNat (n % 128 + 128) :: put (n / 128) := by
  show putF (n + 1) n = _
  unfold putF
  rw [if_neg (by omega)]
  congr 1
  exact putF_enough _ _ (by omega) _ (by omega)
theorem put_pos (n : Nat) : 0 < (put n).length := by
  by_cases h : n < 128
  · simp [put_small h]
  · simp [put_big (by omega : 128 ≤ n)]
theorem put_len : ∀ (k n : Nat), n < 128 ^ (k + 1) → (put n).length ≤ k + 1
  | 0, n, h => by simp [put_small (show n < 128 by simpa using h)]
  | k + 1, n, h => by
    by_cases h1 : n < 128
    · simp [put_small h1]
    · rw [put_big (by omega)]
      have := put_len k (n / 128) (by rw [Nat.div_lt_iff_lt_mul (by omega)]; rw [Nat.pow_succ] at h; exact h)
      simp; omega
theorem put_len6 {n : Nat} (h : n ≤ 1099511627776) : (put n).length ≤ 6 := put_len 5 n (by omega)

/-- The number that bytes tell. -/
def val : List UInt8 → Nat
  | [] => 0
  | c :: r => c.toNat % 128 + 128 * val r
theorem val_snoc : ∀ (l : List UInt8) (c : UInt8), val (l ++ [c]) = val l + c.toNat % 128 * 128 ^ l.length
  | [], c => by simp [val]
  | d :: l, c => by
    simp only [List.cons_append, val, val_snoc l c, List.length_cons, Nat.pow_succ]
    rw [Nat.mul_add, Nat.add_assoc, Nat.mul_comm (128 ^ l.length) 128, ← Nat.mul_assoc (c.toNat % 128), Nat.mul_comm (c.toNat % 128) 128, Nat.mul_assoc]
theorem val_lt : ∀ (l : List UInt8), val l < 128 ^ l.length
  | [] => by simp [val]
  | c :: l => by
    have := val_lt l
    simp only [val, List.length_cons, Nat.pow_succ]
    omega
theorem val_mono (l r : List UInt8) : val l ≤ val (l ++ r) := by
  induction l with
  | nil => simp [val]
  | cons c l ih => simp only [List.cons_append, val]; omega
theorem val_put : ∀ (f n : Nat), n < f → val (put n) = n
  | 0, _, h => by omega
  | f + 1, n, h => by
    by_cases h1 : n < 128
    · rw [put_small h1]; simp [val, Nat.mod_eq_of_lt (show n < 256 by omega), Nat.mod_eq_of_lt h1]
    · rw [put_big (by omega)]
      simp only [val, val_put f (n / 128) (by omega)]
      rw [show (UInt8.ofNat (n % 128 + 128)).toNat = n % 128 + 128 by simp; omega]
      omega
theorem val_of_put (n : Nat) : val (put n) = n := val_put (n + 1) n (by omega)

/-- All bytes say that there are more. -/
def more (l : List UInt8) : Bool := l.all (fun c => decide (128 ≤ c.toNat))
theorem more_snoc (l : List UInt8) (c : UInt8) : more (l ++ [c]) = (more l && decide (128 ≤ c.toNat)) := by simp [more]

/-- Such bytes, and one that is the last, are a number's just when it is not 0, or is alone. -/
theorem put_val : ∀ (l : List UInt8) (c : UInt8), more l = true → c.toNat < 128 → (l = [] ∨ c.toNat ≠ 0) → put (val (l ++ [c])) = l ++ [c]
  | [], c, _, h, _ => by
    simp only [List.nil_append, val]
    rw [put_small (by omega)]
    congr 1
    apply UInt8.toNat.inj
    simp; omega
  | d :: l, c, hm, h, h0 => by
    simp only [more, List.all_cons, Bool.and_eq_true, decide_eq_true_eq] at hm
    have h0 : c.toNat ≠ 0 := by simpa using h0
    have hd := d.toNat_lt
    have hv : 0 < val (l ++ [c]) := by
      rw [val_snoc, Nat.mod_eq_of_lt h]
      have : 0 < c.toNat * 128 ^ l.length := Nat.mul_pos (by omega) (Nat.pow_pos (by omega))
      omega
    simp only [List.cons_append, val]
    rw [put_big (by omega), show (d.toNat % 128 + 128 * val (l ++ [c])) / 128 = val (l ++ [c]) by omega, put_val l c hm.2 h (.inr h0)]
    congr 1
    apply UInt8.toNat.inj
    simp; omega
/-- What a number's bytes are: ones that say that there are more, and a last one. -/
theorem put_form : ∀ (f n : Nat), n < f → ∃ l c, put n = l ++ [c] ∧ more l = true ∧ c.toNat < 128 ∧ (l = [] ∨ c.toNat ≠ 0)
  | 0, _, h => by omega
  | f + 1, n, h => by
    by_cases h1 : n < 128
    · exact ⟨[], UInt8.ofNat n, by rw [put_small h1]; rfl, rfl, by simp; omega, .inl rfl⟩
    · obtain ⟨l, c, e, hm, hc, h0⟩ := put_form f (n / 128) (by omega)
      refine ⟨UInt8.ofNat (n % 128 + 128) :: l, c, by rw [put_big (by omega), e]; rfl, ?_, hc, .inr ?_⟩
      · simp only [more, List.all_cons, Bool.and_eq_true, decide_eq_true_eq]
        exact ⟨by simp; omega, hm⟩
      · rcases h0 with rfl | h0
        · have := val_of_put (n / 128)
          rw [e] at this
          simp only [List.nil_append, val] at this
          omega
        · exact h0

theorem put_ne (n : Nat) (l : List UInt8) (c : UInt8) (h1 : l ≠ []) (h2 : c.toNat = 0) : put n ≠ l ++ [c] := by
  obtain ⟨l', c', e, -, -, h0⟩ := put_form (n + 1) n (by omega)
  rw [e]
  intro e2
  obtain ⟨e3, e4⟩ := List.append_inj' e2 rfl
  subst e3
  simp only [List.cons.injEq, and_true] at e4
  subst e4
  rcases h0 with h | h
  · exact h1 h
  · exact h h2

/-- What Get tells of bytes: k have been looked at. -/
def getF : Nat → List UInt8 → List UInt8 → Nat × Nat
  | 0, _, _ => (0, 0)
  | _, _, [] => (0, 0)
  | f + 1, l, c :: r => if 128 ≤ c.toNat then getF f (l ++ [c]) r
    else if 1099511627776 < val (l ++ [c]) ∨ (l ≠ [] ∧ c.toNat = 0) then (0, 0) else (val (l ++ [c]), l.length + 1)
def get (b : List UInt8) : Nat × Nat := getF 6 [] b

/-- Once it is above MaxTime it stays so. -/
theorem getF_above : ∀ (f : Nat) (l r : List UInt8), 1099511627776 < val l → getF f l r = (0, 0)
  | 0, _, _, _ => rfl
  | _ + 1, _, [], _ => rfl
  | f + 1, l, c :: r, h => by
    have := val_mono l [c]
    unfold getF
    split
    · exact getF_above f _ r (by omega)
    · rw [if_pos (.inl (by omega))]
theorem getF_none (f : Nat) (l : List UInt8) : getF f l [] = (0, 0) := by cases f <;> rfl
theorem getF_more {f : Nat} {l r : List UInt8} {c : UInt8} (h : 128 ≤ c.toNat) : getF (f + 1) l (c :: r) = getF f (l ++ [c]) r := by
  rw [getF, if_pos h]
theorem getF_last {f : Nat} {l r : List UInt8} {c : UInt8} (h : c.toNat < 128) : getF (f + 1) l (c :: r) = if 1099511627776 < val (l ++ [c]) ∨ (l ≠ [] ∧ c.toNat = 0) then (0, 0) else (val (l ++ [c]), l.length + 1) := by
  rw [getF, if_neg (by omega)]
theorem getF_put : ∀ (f : Nat) (p l : List UInt8) (c : UInt8) (r : List UInt8), more l = true → c.toNat < 128 → l.length < f → 
    getF f p (l ++ c :: r) = if 1099511627776 < val (p ++ l ++ [c]) ∨ (p ++ l ≠ [] ∧ c.toNat = 0) then (0, 0) else (val (p ++ l ++ [c]), p.length + l.length + 1)
  | 0, _, _, _, _, _, _, h => by omega
  | f + 1, p, [], c, r, _, hc, _ => by rw [List.nil_append, getF_last hc]; simp
  | f + 1, p, d :: l, c, r, hm, hc, hl => by
    simp only [more, List.all_cons, Bool.and_eq_true, decide_eq_true_eq] at hm
    rw [List.cons_append, getF_more hm.1, getF_put f _ l c r hm.2 hc (by simp at hl; omega)]
    have e : p ++ [d] ++ l = p ++ (d :: l) := by simp
    have e2 : (p ++ [d]).length + l.length + 1 = p.length + (d :: l).length + 1 := by simp; omega
    rw [e, e2]
/-- WHAT IS WRITTEN IS READ AGAIN. -/
theorem get_put {n : Nat} (h : n ≤ 1099511627776) (r : List UInt8) : get (put n ++ r) = (n, (put n).length) := by
  obtain ⟨l, c, e, hm, hc, h0⟩ := put_form (n + 1) n (by omega)
  have hl := put_len6 h
  have hv := val_of_put n
  rw [e] at hv hl
  rw [e, List.append_assoc, List.singleton_append]
  unfold get
  rw [getF_put 6 [] l c r hm hc (by simp at hl; omega), if_neg]
  · simp only [List.nil_append, hv]; simp
  · simp only [List.nil_append, hv]
    rintro (h1 | ⟨h1, h2⟩)
    · omega
    · rcases h0 with h0 | h0
      · exact h1 h0
      · exact h0 h2
/-- WHAT IS READ WAS WRITTEN. -/
theorem getF_some : ∀ (f : Nat) (p b : List UInt8) (n s : Nat), more p = true → getF f p b = (n, s) → s ≠ 0 →
    n ≤ 1099511627776 ∧ p.length ≤ s ∧ s ≤ p.length + b.length ∧ put n = p ++ b.take (s - p.length)
  | 0, _, _, _, _, _, h, hs => by simp [getF] at h; omega
  | _ + 1, _, [], _, _, _, h, hs => by simp [getF] at h; omega
  | f + 1, p, c :: b, n, s, hm, h, hs => by
    by_cases hc : 128 ≤ c.toNat
    · rw [getF_more hc] at h
      obtain ⟨h1, h2, h3, h4⟩ := getF_some f _ b n s (by rw [more_snoc, hm]; simpa using hc) h hs
      simp only [List.length_append, List.length_cons, List.length_nil] at h2 h3 h4
      refine ⟨h1, by omega, by simp; omega, ?_⟩
      rw [h4, List.append_assoc, show s - p.length = (s - (p.length + (0 + 1))) + 1 by omega, List.take_succ_cons]; rfl
    · have hc' : c.toNat < 128 := by omega
      rw [getF_last hc'] at h
      split at h
      · simp at h; omega
      · rename_i hn
        simp only [Prod.mk.injEq] at h
        obtain ⟨rfl, rfl⟩ := h
        refine ⟨by omega, by omega, by simp, ?_⟩
        rw [put_val p c hm hc' (by by_cases e : p = []; exact .inl e; exact .inr (fun e2 => hn (.inr ⟨e, e2⟩)))]
        rw [show p.length + 1 - p.length = 1 by omega]; rfl
theorem get_some {b : List UInt8} {n s : Nat} (h : get b = (n, s)) (hs : s ≠ 0) : n ≤ 1099511627776 ∧ s ≤ b.length ∧ put n = b.take s := by
  obtain ⟨h1, _, h3, h4⟩ := getF_some 6 [] b n s rfl h hs
  exact ⟨h1, by simpa using h3, by simpa using h4⟩
theorem get_size {b : List UInt8} : (get b).2 ≤ b.length ∧ (get b).1 ≤ 1099511627776 ∧ ((get b).2 = 0 → (get b).1 = 0) := by
  have aux : ∀ (f : Nat) (p b : List UInt8), (getF f p b).2 = 0 → (getF f p b).1 = 0 := by
    intro f
    induction f with
    | zero => intro p b _; rfl
    | succ f ih =>
      intro p b h
      cases b with
      | nil => rfl
      | cons c b =>
        by_cases hc : 128 ≤ c.toNat
        · rw [getF_more hc] at h ⊢; exact ih _ _ h
        · rw [getF_last (by omega)] at h ⊢
          split
          · rfl
          · rename_i hn; rw [if_neg hn] at h; simp at h
  by_cases hs : (get b).2 = 0
  · have := aux 6 [] b hs
    exact ⟨by omega, by show (get b).1 ≤ _; unfold get; omega, fun _ => this⟩
  · obtain ⟨h1, h2, _⟩ := get_some (b := b) (n := (get b).1) (s := (get b).2) rfl hs
    exact ⟨h2, h1, fun e => absurd e hs⟩
/-- No beginning of a number's bytes is one. -/
theorem get_short {n : Nat} {k : Nat} (hk : k < (put n).length) : get ((put n).take k) = (0, 0) := by
  obtain ⟨l, c, e, hm, hc, h0⟩ := put_form (n + 1) n (by omega)
  rw [e] at hk ⊢
  have hk' : k ≤ l.length := by simp at hk; omega
  rw [List.take_append_of_le_length hk']
  have : more (l.take k) = true := by
    simp only [more, List.all_eq_true] at hm ⊢
    intro x hx; exact hm x (List.mem_of_mem_take hx)
  have aux : ∀ (f : Nat) (p b : List UInt8), more b = true → getF f p b = (0, 0) := by
    intro f
    induction f with
    | zero => intro p b _; rfl
    | succ f ih =>
      intro p b h
      cases b with
      | nil => rfl
      | cons d b =>
        simp only [more, List.all_cons, Bool.and_eq_true, decide_eq_true_eq] at h
        rw [getF_more h.1]; exact ih _ _ h.2
  exact aux 6 [] _ this

end Go.Proofs.YtodadoaindfecaaDoor.Nu
