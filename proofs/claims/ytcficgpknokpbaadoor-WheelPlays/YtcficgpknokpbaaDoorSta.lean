/- Pairs in the order of their first numbers; like ones as they stood. No program. -/
import Derived.Test.YtcficgpknokpbaaDoorRow
namespace Go.Proofs.YtcficgpknokpbaaDoor.Wh
set_option linter.unusedSimpArgs false
set_option linter.unusedVariables false

abbrev Tm := Int × Int
def atL (t : Int) (l : List Tm) : List Tm := l.filter (fun x => x.1 == t)
/-- Like ones stand in the same order. -/
def Sq (l m : List Tm) : Prop := ∀ t, atL t l = atL t m
def Srt (l : List Tm) : Prop := l.Pairwise (fun x y => x.1 ≤ y.1)
/-- In order; like ones as they stood. -/
structure Stb (l m : List Tm) : Prop where
  srt : Srt m
  sq : Sq l m
theorem Sq.refl (l : List Tm) : Sq l l := fun _ => rfl
theorem Sq.symm {l m : List Tm} (h : Sq l m) : Sq m l := fun t => (h t).symm
theorem Sq.trans {l m n : List Tm} (h : Sq l m) (k : Sq m n) : Sq l n := fun t => (h t).trans (k t)
theorem atL_append (t : Int) (a b : List Tm) : atL t (a ++ b) = atL t a ++ atL t b := List.filter_append ..
theorem Sq.app {a b c d : List Tm} (h : Sq a b) (k : Sq c d) : Sq (a ++ c) (b ++ d) := fun t => by rw [atL_append, atL_append, h t, k t]
theorem Sq.swap {a b : List Tm} (h : ∀ x ∈ a, ∀ y ∈ b, x.1 ≠ y.1) : Sq (a ++ b) (b ++ a) := fun t => by
  rw [atL_append, atL_append]
  by_cases e : atL t a = []
  · rw [e]; simp
  · have : atL t b = [] := by
      unfold atL at *
      rw [List.filter_eq_nil_iff] at *
      intro y hy hyt
      apply e
      intro x hx hxt
      have h1 : x.1 = t := by simpa using hxt
      have h2 : y.1 = t := by simpa using hyt
      exact h x hx y hy (h1.trans h2.symm)
    rw [this]; simp
theorem Sq.perm {l m : List Tm} (h : Sq l m) : l.Perm m := by
  rw [List.perm_iff_count]
  intro a
  have h1 := h a.1
  unfold atL at h1
  have e : ∀ l : List Tm, List.count a (l.filter (fun x => x.1 == a.1)) = List.count a l := fun l => List.count_filter (by simp)
  rw [← e l, ← e m, h1]
theorem Sq.length {l m : List Tm} (h : Sq l m) : l.length = m.length := h.perm.length_eq
theorem Sq.nil {m : List Tm} (h : Sq [] m) : m = [] := List.eq_nil_of_length_eq_zero h.length.symm
theorem Stb.length {l m : List Tm} (h : Stb l m) : m.length = l.length := h.sq.length.symm
theorem Srt.stb {l : List Tm} (h : Srt l) : Stb l l := ⟨h, Sq.refl l⟩
theorem srt_append {a b : List Tm} : Srt (a ++ b) ↔ Srt a ∧ Srt b ∧ ∀ x ∈ a, ∀ y ∈ b, x.1 ≤ y.1 := List.pairwise_append
theorem Stb.mem {l m : List Tm} (h : Stb l m) (x : Tm) : x ∈ m ↔ x ∈ l := h.sq.perm.mem_iff.symm
/-- Two stable orders of one list are one. -/
theorem Stb.unique : ∀ {l m n : List Tm}, Stb l m → Stb l n → m = n
  | l, [], n, h, k => (Sq.nil (h.sq.symm.trans k.sq)).symm
  | l, x :: m, n, h, k => by
    have hq : Sq (x :: m) n := h.sq.symm.trans k.sq
    cases n with
    | nil => exact Sq.nil hq.symm
    | cons y n =>
      have hx : x ∈ y :: n := hq.perm.mem_iff.1 (by simp)
      have hy : y ∈ x :: m := hq.perm.mem_iff.2 (by simp)
      have h1 : y.1 ≤ x.1 := by
        rcases List.mem_cons.1 hx with e | e
        · rw [e]; exact Int.le_refl _
        · exact (List.pairwise_cons.1 k.srt).1 x e
      have h2 : x.1 ≤ y.1 := by
        rcases List.mem_cons.1 hy with e | e
        · rw [e]; exact Int.le_refl _
        · exact (List.pairwise_cons.1 h.srt).1 y e
      have he : x.1 = y.1 := by omega
      have ht := hq x.1
      unfold atL at ht
      rw [List.filter_cons_of_pos (by simp), List.filter_cons_of_pos (by simp [he])] at ht
      obtain ⟨rfl, -⟩ := List.cons.inj ht
      have hq2 : Sq m n := fun t => by
        have := hq t
        unfold atL at this ⊢
        by_cases e : x.1 = t
        · rw [List.filter_cons_of_pos (by simp [e]), List.filter_cons_of_pos (by simp [e])] at this
          exact (List.cons.inj this).2
        · rw [List.filter_cons_of_neg (by simp [e]), List.filter_cons_of_neg (by simp [e])] at this
          exact this
      rw [Stb.unique (l := m) ⟨(List.pairwise_cons.1 h.srt).2, Sq.refl m⟩ ⟨(List.pairwise_cons.1 k.srt).2, hq2⟩]

/-- Two rows in order, each parted, merged part by part. -/
theorem stb_merge {A1 A2 B1 B2 M1 M2 : List Tm} (hA : Srt (A1 ++ A2)) (hB : Srt (B1 ++ B2)) (h1 : ∀ x ∈ A1, ∀ y ∈ B2, x.1 ≤ y.1) (h2 : ∀ y ∈ B1, ∀ x ∈ A2, y.1 < x.1) (m1 : Stb (A1 ++ B1) M1) (m2 : Stb (A2 ++ B2) M2) : Stb (A1 ++ A2 ++ (B1 ++ B2)) (M1 ++ M2) := by
  have a3 := (srt_append.1 hA).2.2
  have b3 := (srt_append.1 hB).2.2
  refine ⟨srt_append.2 ⟨m1.srt, m2.srt, fun x hx y hy => ?_⟩, ?_⟩
  · rw [m1.mem] at hx
    rw [m2.mem] at hy
    rcases List.mem_append.1 hx with hx | hx <;> rcases List.mem_append.1 hy with hy | hy
    · exact a3 x hx y hy
    · exact h1 x hx y hy
    · exact Int.le_of_lt (h2 x hx y hy)
    · exact b3 x hx y hy
  · have hs : Sq (A2 ++ B1) (B1 ++ A2) := Sq.swap fun x hx y hy e => by have := h2 y hy x hx; omega
    have h3 : Sq (A1 ++ ((A2 ++ B1) ++ B2)) (A1 ++ ((B1 ++ A2) ++ B2)) := (Sq.refl _).app (hs.app (Sq.refl _))
    have h4 : Sq ((A1 ++ B1) ++ (A2 ++ B2)) (M1 ++ M2) := m1.sq.app m2.sq
    simp only [List.append_assoc] at h3 h4 ⊢
    exact h3.trans h4
/-- What stands ahead of a place in a row that is in order. -/
theorem srt_take {B : List Tm} (h : Srt B) {k : Nat} (hk : k ≤ B.length) {p : Int → Prop} (hp : ∀ x y : Int, x ≤ y → p y → p x) (hl : k = 0 ∨ ∃ h : k - 1 < B.length, p (B[k - 1]).1) : ∀ y ∈ B.take k, p y.1 := by
  intro y hy
  obtain ⟨i, hi, e⟩ := List.mem_iff_getElem.1 hy
  rw [List.length_take] at hi
  rw [List.getElem_take] at e
  rcases hl with rfl | ⟨hb, hv⟩
  · omega
  · rw [← e]
    refine hp _ _ ?_ hv
    by_cases e2 : i = k - 1
    · subst e2; exact Int.le_refl _
    · exact List.pairwise_iff_getElem.1 h i (k - 1) (by omega) hb (by omega)
theorem srt_drop {B : List Tm} (h : Srt B) {k : Nat} (hk : k ≤ B.length) {p : Int → Prop} (hp : ∀ x y : Int, x ≤ y → p x → p y) (hl : k = B.length ∨ ∃ h : k < B.length, p (B[k]).1) : ∀ y ∈ B.drop k, p y.1 := by
  intro y hy
  obtain ⟨i, hi, e⟩ := List.mem_iff_getElem.1 hy
  rw [List.length_drop] at hi
  rw [List.getElem_drop] at e
  rcases hl with rfl | ⟨hb, hv⟩
  · omega
  · rw [← e]
    refine hp _ _ ?_ hv
    by_cases e2 : i = 0
    · subst e2; exact Int.le_refl _
    · exact List.pairwise_iff_getElem.1 h k (k + i) hb (by omega) (by omega)
theorem srt_take' {B : List Tm} (h : Srt B) (k : Nat) : Srt (B.take k) := List.Pairwise.sublist (List.take_sublist k B) h
theorem srt_drop' {B : List Tm} (h : Srt B) (k : Nat) : Srt (B.drop k) := List.Pairwise.sublist (List.drop_sublist k B) h

/-- One put in its place. -/
theorem stb_insert {T L R : List Tm} {x : Tm} (h : Stb T (L ++ R)) (hR : ∀ z ∈ R, x.1 < z.1) (hL : ∀ z ∈ L, z.1 ≤ x.1) : Stb (T ++ [x]) (L ++ x :: R) := by
  obtain ⟨h1, h2, h3⟩ := srt_append.1 h.srt
  refine ⟨srt_append.2 ⟨h1, List.pairwise_cons.2 ⟨fun z hz => Int.le_of_lt (hR z hz), h2⟩, fun z hz y hy => ?_⟩, ?_⟩
  · rcases List.mem_cons.1 hy with rfl | hy
    · exact hL z hz
    · exact h3 z hz y hy
  · have h4 : Sq (T ++ [x]) ((L ++ R) ++ [x]) := h.sq.app (Sq.refl _)
    have h5 : Sq (R ++ [x]) ([x] ++ R) := Sq.swap fun a ha b hb e => by
      obtain rfl := List.mem_singleton.1 hb
      have := hR a ha
      omega
    have h6 := (Sq.refl L).app h5
    rw [List.append_assoc] at h4
    exact h4.trans h6
theorem srt_last {L : List Tm} {y : Tm} {v : Int} (h : Srt (L ++ [y])) (hy : y.1 ≤ v) : ∀ z ∈ L ++ [y], z.1 ≤ v := by
  intro z hz
  rcases List.mem_append.1 hz with hz | hz
  · have := (srt_append.1 h).2.2 z hz y (by simp)
    omega
  · obtain rfl := List.mem_singleton.1 hz
    exact hy
/-- Each block of n is in order. -/
def BS (n : Nat) (l : List Tm) : Prop := ∀ i j (_ : i ≤ j) (hj : j < l.length), i / n = j / n → (l[i]'(by omega)).1 ≤ (l[j]).1
theorem BS.nil (n : Nat) : BS n [] := fun i j _ hj => by simp at hj
theorem BS.append {n t : Nat} {D B : List Tm} (hn : 0 < n) (h : BS n D) (hD : D.length = n * t) (hB : Srt B) (hl : B.length ≤ n) : BS n (D ++ B) := by
  intro i j hij hj hd
  rw [List.length_append] at hj
  by_cases h1 : j < D.length
  · rw [List.getElem_append_left (by omega), List.getElem_append_left h1]
    exact h i j hij h1 hd
  · have hjd : j / n = t ∨ j / n = t + 1 ∨ t ≤ j / n := .inr (.inr (by rw [Nat.le_div_iff_mul_le hn, Nat.mul_comm]; omega))
    have h2 : ¬ i < D.length := by
      intro h2
      have : i / n < t := by rw [Nat.div_lt_iff_lt_mul hn, Nat.mul_comm]; omega
      have : t ≤ j / n := by rw [Nat.le_div_iff_mul_le hn, Nat.mul_comm]; omega
      omega
    rw [List.getElem_append_right (by omega), List.getElem_append_right (by omega)]
    by_cases e : i - D.length = j - D.length
    · have : i = j := by omega
      subst this
      exact Int.le_refl _
    · exact List.pairwise_iff_getElem.1 hB (i - D.length) (j - D.length) (by omega) (by omega) (by omega)
/-- A block. -/
theorem BS.block {n t k : Nat} {l : List Tm} (hn : 0 < n) (h : BS n l) (hk : k ≤ n) : Srt ((l.drop (n * t)).take k) := by
  unfold Srt
  rw [List.pairwise_iff_getElem]
  intro i j hi hj hij
  rw [List.length_take, List.length_drop] at hi hj
  simp only [List.getElem_take, List.getElem_drop]
  refine h (n * t + i) (n * t + j) (by omega) (by omega) ?_
  rw [Nat.mul_add_div hn, Nat.mul_add_div hn, Nat.div_eq_of_lt (by omega), Nat.div_eq_of_lt (by omega)]
theorem BS.all {n : Nat} {l : List Tm} (h : BS n l) (hl : l.length ≤ n) : Srt l := by
  unfold Srt
  rw [List.pairwise_iff_getElem]
  intro i j hi hj hij
  exact h i j (by omega) hj (by rw [Nat.div_eq_of_lt (by omega), Nat.div_eq_of_lt (by omega)])
end Go.Proofs.YtcficgpknokpbaaDoor.Wh
