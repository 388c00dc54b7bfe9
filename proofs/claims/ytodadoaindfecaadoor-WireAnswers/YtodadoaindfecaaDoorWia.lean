/- Frames as bytes: what is written. No program. -/
import Derived.Test.YtodadoaindfecaaDoorBat
namespace Go.Proofs.YtodadoaindfecaaDoor.Wi
open Go.Proofs.YtodadoaindfecaaDoor
set_option linter.unusedSimpArgs false
set_option linter.unusedVariables false

/-- What has been written, and what is wrong. -/
abbrev WS := List UInt8 × Int
def okN (n : Int) : Prop := 0 ≤ n ∧ n ≤ 1099511627776
instance (n : Int) : Decidable (okN n) := inferInstanceAs (Decidable (_ ∧ _))
def pN (s : WS) (n : Int) : WS := if okN n then (s.1 ++ Nu.put n.toNat, s.2) else (s.1 ++ Nu.put 0, 2)
def nums (s : WS) (l : List Int) : WS := l.foldl pN s
def tr (b : Bool) : Int := if b then 1 else 0
/-- A call of a writer: numbers, or a text. -/
inductive Cl where
  | ns (l : List Int)
  | tx (s : List UInt8) (most : Nat)
/-- The document's writer. -/
def rStep (s : WS) : Cl → WS
  | .ns l => nums s l
  | .tx t most => ((pN (if most < t.length then (s.1, 4) else s) t.length).1 ++ t, (pN (if most < t.length then (s.1, 4) else s) t.length).2)
def cut (s : WS) : WS := (s.1.take 10005, s.2)
/-- The program's. -/
def pStep (s : WS) : Cl → WS
  | .ns l => nums (cut s) l
  | .tx t most => if most < t.length then nums (cut (s.1, 4)) [0] else ((nums (cut s) [(t.length : Int)]).1 ++ t, (nums (cut s) [(t.length : Int)]).2)
theorem rStep_tx (s : WS) (t : List UInt8) (most : Nat) : rStep s (.tx t most) = ((pN (if most < t.length then (s.1, 4) else s) t.length).1 ++ t, (pN (if most < t.length then (s.1, 4) else s) t.length).2) := rfl
theorem pStep_tx (s : WS) (t : List UInt8) (most : Nat) : pStep s (.tx t most) = if most < t.length then nums (cut (s.1, 4)) [0] else ((nums (cut s) [(t.length : Int)]).1 ++ t, (nums (cut s) [(t.length : Int)]).2) := rfl
def rRun (s : WS) (l : List Cl) : WS := l.foldl rStep s
def pRun (s : WS) (l : List Cl) : WS := l.foldl pStep s
theorem rRun_app (s : WS) (a b : List Cl) : rRun s (a ++ b) = rRun (rRun s a) b := by simp [rRun]
theorem pRun_app (s : WS) (a b : List Cl) : pRun s (a ++ b) = pRun (pRun s a) b := by simp [pRun]
theorem rRun_cons (s : WS) (c : Cl) (b : List Cl) : rRun s (c :: b) = rRun (rStep s c) b := rfl
theorem pRun_cons (s : WS) (c : Cl) (b : List Cl) : pRun s (c :: b) = pRun (pStep s c) b := rfl
theorem nums_app (s : WS) (a b : List Int) : nums s (a ++ b) = nums (nums s a) b := by simp [nums]
theorem nums_cons (s : WS) (a : Int) (b : List Int) : nums s (a :: b) = nums (pN s a) b := rfl
/-- What was written whole, or more than any frame holds. -/
def Rl (p r : WS) : Prop := p.2 = r.2 ∧ (r.2 = 0 → p.1 = [0, 0, 0, 0] ++ r.1 ∨ (10005 ≤ p.1.length ∧ 10001 ≤ r.1.length))
theorem Rl.pN {p r : WS} (h : Rl p r) (n : Int) : Rl (pN p n) (pN r n) := by
  obtain ⟨h1, h2⟩ := h
  unfold Wi.pN
  by_cases e : okN n
  · rw [if_pos e, if_pos e]
    refine ⟨h1, fun h0 => ?_⟩
    rcases h2 h0 with h3 | ⟨h3, h4⟩
    · exact .inl (by rw [h3, List.append_assoc])
    · exact .inr ⟨by simp only [List.length_append]; omega, by simp only [List.length_append]; omega⟩
  · rw [if_neg e, if_neg e]
    exact ⟨rfl, fun h0 => by simp at h0⟩
theorem Rl.nums {p r : WS} (h : Rl p r) : ∀ l, Rl (nums p l) (nums r l)
  | [] => h
  | n :: l => by
    rw [nums_cons, nums_cons]
    exact (h.pN n).nums l
theorem Rl.cut {p r : WS} (h : Rl p r) : Rl (cut p) r := by
  obtain ⟨h1, h2⟩ := h
  refine ⟨h1, fun h0 => ?_⟩
  unfold Wi.cut
  rcases h2 h0 with h3 | ⟨h3, h4⟩
  · by_cases hl : r.1.length ≤ 10001
    · exact .inl (by simp only [h3]; rw [List.take_of_length_le]; simp; omega)
    · refine .inr ⟨?_, by omega⟩
      simp only [h3, List.length_take, List.length_append, List.length_cons, List.length_nil]
      omega
  · exact .inr ⟨by simp only [List.length_take]; omega, h4⟩
/-- Texts that a frame's length could tell. -/
def Cl.small : Cl → Prop
  | .ns _ => True
  | .tx t _ => t.length ≤ 1099511627776
theorem Rl.step {p r : WS} (h : Rl p r) {c : Cl} (hc : c.small) : Rl (pStep p c) (rStep r c) := by
  cases c with
  | ns l => exact h.cut.nums l
  | tx t most =>
    have hl : okN (t.length : Int) := ⟨by omega, by simp only [Cl.small] at hc; omega⟩
    rw [pStep_tx, rStep_tx]
    by_cases e : most < t.length
    · rw [if_pos e, if_pos e, nums_cons]
      refine ⟨?_, fun h0 => ?_⟩
      · unfold Wi.nums Wi.pN Wi.cut
        rw [if_pos hl, if_pos (show okN 0 by decide)]
        rfl
      · exfalso
        unfold Wi.pN at h0
        rw [if_pos hl] at h0
        simp at h0
    · rw [if_neg e, if_neg e]
      have hk := (h.cut.nums [(t.length : Int)])
      obtain ⟨k1, k2⟩ := hk
      refine ⟨k1, fun h0 => ?_⟩
      rcases k2 h0 with h3 | ⟨h3, h4⟩
      · exact .inl (by simp only [h3]; rw [List.append_assoc]; rfl)
      · refine .inr ⟨by simp only [List.length_append]; omega, ?_⟩
        simp only [List.length_append]
        have : (Wi.nums r [(t.length : Int)]).1.length = (Wi.pN r (t.length : Int)).1.length := rfl
        omega
theorem Rl.run {p r : WS} (h : Rl p r) : ∀ (l : List Cl), (∀ c ∈ l, c.small) → Rl (pRun p l) (rRun r l)
  | [], _ => h
  | c :: l, hl => by
    rw [pRun_cons, rRun_cons]
    exact (h.step (hl c (by simp))).run l (fun x hx => hl x (by simp [hx]))

/-! ### frames -/
def rF (s : WS) : List UInt8 × Int := if s.2 ≠ 0 then ([], s.2) else if 10000 < s.1.length then ([], 4) else (Bt.four s.1.length ++ s.1, 0)
def pF (s : WS) : List UInt8 × Int := if s.2 ≠ 0 then ([], s.2) else if 10004 < s.1.length then ([], 4) else (Bt.four (s.1.length - 4) ++ s.1.drop 4, 0)
theorem pF_rF {p r : WS} (h : Rl p r) : pF p = rF r := by
  obtain ⟨h1, h2⟩ := h
  unfold pF rF
  by_cases e : r.2 = 0
  · have hp : ¬ p.2 ≠ 0 := fun hn => hn (h1.trans e)
    have hr : ¬ r.2 ≠ 0 := fun hn => hn e
    rw [if_neg hp, if_neg hr]
    rcases h2 e with h3 | ⟨h3, h4⟩
    · have hl : p.1.length = r.1.length + 4 := by rw [h3]; simp
      by_cases hb : 10000 < r.1.length
      · rw [if_pos (by omega), if_pos hb]
      · rw [if_neg (by omega), if_neg hb, hl, h3]
        simp
    · rw [if_pos (by omega), if_pos (by omega)]
  · have hp : p.2 ≠ 0 := fun hn => e (h1.symm.trans hn)
    rw [if_pos hp, if_pos e, h1]
def encF (l : List Cl) : List UInt8 × Int := rF (rRun ([], 0) l)
theorem encF_p {l : List Cl} (h : ∀ c ∈ l, c.small) : pF (pRun ([0, 0, 0, 0], 0) l) = encF l :=
  pF_rF (Rl.run (p := ([0, 0, 0, 0], 0)) (r := ([], 0)) ⟨rfl, fun _ => .inl rfl⟩ l h)

/-! ### what is written where nothing is wrong -/
def okC : Cl → Prop
  | .ns l => ∀ n ∈ l, okN n
  | .tx t most => t.length ≤ most
def clB : Cl → List UInt8
  | .ns l => l.flatMap (fun n => Nu.put n.toNat)
  | .tx t _ => Bt.textB t
theorem pN_ok {s : WS} {n : Int} (h : (pN s n).2 = 0) : s.2 = 0 ∧ okN n ∧ (pN s n).1 = s.1 ++ Nu.put n.toNat := by
  unfold pN at h ⊢
  by_cases e : okN n
  · rw [if_pos e] at h ⊢
    exact ⟨h, e, rfl⟩
  · rw [if_neg e] at h
    simp at h
theorem ok_pN {s : WS} {n : Int} (h : okN n) : pN s n = (s.1 ++ Nu.put n.toNat, s.2) := by unfold pN; rw [if_pos h]
theorem nums_ok : ∀ {l : List Int} {s : WS}, (nums s l).2 = 0 → s.2 = 0 ∧ (∀ n ∈ l, okN n) ∧ (nums s l).1 = s.1 ++ l.flatMap (fun n => Nu.put n.toNat)
  | [], s, h => ⟨h, by simp, by simp [nums]⟩
  | n :: l, s, h => by
    rw [nums_cons] at h ⊢
    obtain ⟨h1, h2, h3⟩ := nums_ok h
    obtain ⟨k1, k2, k3⟩ := pN_ok h1
    refine ⟨k1, fun x hx => ?_, by rw [h3, k3]; simp [List.append_assoc]⟩
    rcases List.mem_cons.1 hx with rfl | hx
    · exact k2
    · exact h2 x hx
theorem ok_nums : ∀ {l : List Int} {s : WS}, (∀ n ∈ l, okN n) → nums s l = (s.1 ++ l.flatMap (fun n => Nu.put n.toNat), s.2)
  | [], s, _ => by simp [nums]
  | n :: l, s, h => by
    rw [nums_cons, ok_pN (h n (by simp)), ok_nums (fun x hx => h x (by simp [hx]))]
    simp [List.append_assoc]
theorem rStep_ok {s : WS} {c : Cl} (h : (rStep s c).2 = 0) (hs : 0 ≤ s.2) : s.2 = 0 ∧ okC c ∧ (rStep s c).1 = s.1 ++ clB c := by
  cases c with
  | ns l => exact nums_ok h
  | tx t most =>
    rw [rStep_tx] at h ⊢
    obtain ⟨h1, h2, h3⟩ := pN_ok h
    by_cases e : most < t.length
    · rw [if_pos e] at h1
      simp at h1
    · rw [if_neg e] at h1 h3 ⊢
      refine ⟨h1, by show t.length ≤ most; omega, ?_⟩
      rw [h3]
      simp [clB, Bt.textB, List.append_assoc]
theorem ok_rStep {s : WS} {c : Cl} (h : okC c) (hsm : c.small) : rStep s c = (s.1 ++ clB c, s.2) := by
  cases c with
  | ns l => exact ok_nums h
  | tx t most =>
    rw [rStep_tx]
    simp only [okC] at h
    rw [if_neg (show ¬ most < t.length by omega), ok_pN ⟨by omega, by simp only [Cl.small] at hsm; omega⟩]
    simp [clB, Bt.textB, List.append_assoc]
theorem pN_nn {s : WS} {n : Int} (h : 0 ≤ s.2) : 0 ≤ (pN s n).2 := by unfold pN; split <;> simp [h]
theorem nums_nn : ∀ {l : List Int} {s : WS}, 0 ≤ s.2 → 0 ≤ (nums s l).2
  | [], _, h => h
  | n :: l, s, h => by rw [nums_cons]; exact nums_nn (pN_nn h)
theorem rStep_nn {s : WS} {c : Cl} (h : 0 ≤ s.2) : 0 ≤ (rStep s c).2 := by
  cases c with
  | ns l => exact nums_nn h
  | tx t most =>
    rw [rStep_tx]
    split
    · exact pN_nn (by simp)
    · exact pN_nn h
theorem rRun_ok : ∀ {l : List Cl} {s : WS}, (rRun s l).2 = 0 → 0 ≤ s.2 → s.2 = 0 ∧ (∀ c ∈ l, okC c) ∧ (rRun s l).1 = s.1 ++ l.flatMap clB
  | [], s, h, _ => ⟨h, by simp, by simp [rRun]⟩
  | c :: l, s, h, hs => by
    rw [rRun_cons] at h ⊢
    obtain ⟨h1, h2, h3⟩ := rRun_ok h (rStep_nn hs)
    obtain ⟨k1, k2, k3⟩ := rStep_ok h1 hs
    refine ⟨k1, fun x hx => ?_, by rw [h3, k3]; simp [List.append_assoc]⟩
    rcases List.mem_cons.1 hx with rfl | hx
    · exact k2
    · exact h2 x hx
theorem ok_rRun : ∀ {l : List Cl} {s : WS}, (∀ c ∈ l, okC c) → (∀ c ∈ l, c.small) → rRun s l = (s.1 ++ l.flatMap clB, s.2)
  | [], s, _, _ => by simp [rRun]
  | c :: l, s, h, k => by
    rw [rRun_cons, ok_rStep (h c (by simp)) (k c (by simp)), ok_rRun (fun x hx => h x (by simp [hx])) (fun x hx => k x (by simp [hx]))]
    simp [List.append_assoc]
theorem encF_ok {l : List Cl} (h : (encF l).2 = 0) : (∀ c ∈ l, okC c) ∧ (l.flatMap clB).length ≤ 10000 ∧ (encF l).1 = Bt.four (l.flatMap clB).length ++ l.flatMap clB := by
  unfold encF rF at h ⊢
  by_cases e : (rRun ([], 0) l).2 = 0
  · rw [if_neg (by simpa using e)] at h ⊢
    obtain ⟨-, h2, h3⟩ := rRun_ok e (Int.le_refl 0)
    simp only [List.nil_append] at h3
    rw [h3] at h ⊢
    split at h
    · simp at h
    · rename_i hb
      rw [if_neg hb]
      exact ⟨h2, by omega, rfl⟩
  · rw [if_pos e] at h
    exact absurd h e
theorem ok_encF {l : List Cl} (h : ∀ c ∈ l, okC c) (hs : ∀ c ∈ l, c.small) (hl : (l.flatMap clB).length ≤ 10000) : encF l = (Bt.four (l.flatMap clB).length ++ l.flatMap clB, 0) := by
  unfold encF rF
  rw [ok_rRun h hs]
  simp only [List.nil_append]
  rw [if_neg (by simp), if_neg (by omega)]
theorem encF_err {l : List Cl} (h : (encF l).2 ≠ 0) : (encF l).1 = [] := by
  unfold encF rF at h ⊢
  split
  · rfl
  · rename_i e
    rw [if_neg e] at h
    split
    · rfl
    · rename_i e2
      rw [if_neg e2] at h
      simp at h
end Go.Proofs.YtodadoaindfecaaDoor.Wi
