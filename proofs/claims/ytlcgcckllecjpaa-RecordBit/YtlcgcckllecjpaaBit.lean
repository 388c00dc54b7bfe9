/- One bit that turned is seen: the check tells any byte that changed; no beginning of a batch's body is one. No program. -/
import Derived.Test.YtlcgcckllecjpaaBat
namespace Go.Proofs.Ytlcgcckllecjpaa.Cr
set_option linter.unusedSimpArgs false
set_option linter.unusedVariables false

theorem xr {a b c : Nat} (h : c ^^^ a = c ^^^ b) : a = b := by
  have := congrArg (c ^^^ ·) h
  simpa [← Nat.xor_assoc] using this
theorem xl {a b c : Nat} (h : a ^^^ c = b ^^^ c) : a = b := xr (c := c) (by rwa [Nat.xor_comm c, Nat.xor_comm c])
theorem top_step {s : Nat} (h : s < 4294967296) : (step s).testBit 31 = decide (s % 2 = 1) := by
  unfold step
  rw [Nat.testBit_xor]
  have h1 : (s / 2).testBit 31 = false := Nat.testBit_lt_two_pow (by omega)
  rw [h1]
  have : s % 2 = 0 ∨ s % 2 = 1 := by omega
  rcases this with e | e <;> rw [e] <;> decide
theorem step_inj {s t : Nat} (hs : s < 4294967296) (ht : t < 4294967296) (h : step s = step t) : s = t := by
  have h1 : s % 2 = t % 2 := by
    have := (top_step hs).symm.trans ((congrArg (fun x => Nat.testBit x 31) h).trans (top_step ht))
    have := decide_eq_decide.1 this
    omega
  have h2 : s / 2 = t / 2 := by
    unfold step at h
    rw [h1] at h
    exact xl h
  omega
theorem steps_inj {s t : Nat} (hs : s < 4294967296) (ht : t < 4294967296) : ∀ n, steps n s = steps n t → s = t
  | 0, h => h
  | n + 1, h => steps_inj hs ht n (step_inj (steps_lt hs n) (steps_lt ht n) h)
theorem byte_inj {s t : Nat} (hs : s < 4294967296) (ht : t < 4294967296) {c d : UInt8} (h : byte s c = byte t d) : s ^^^ c.toNat = t ^^^ d.toNat := steps_inj (xor_lt hs c) (xor_lt ht d) 8 h
theorem fold_inj (bs : List UInt8) : ∀ s t, s < 4294967296 → t < 4294967296 → bs.foldl byte s = bs.foldl byte t → s = t := by
  induction bs with
  | nil => intro s t _ _ h; exact h
  | cons c bs ih =>
    intro s t hs ht h
    have := byte_inj hs ht (ih _ _ (byte_lt hs c) (byte_lt ht c) h)
    exact xl this
theorem crc_byte (pre post : List UInt8) {c d : UInt8} (h : crc (pre ++ c :: post) = crc (pre ++ d :: post)) : c = d := by
  unfold crc at h
  rw [List.foldl_append, List.foldl_append, List.foldl_cons, List.foldl_cons] at h
  have h0 : pre.foldl byte 4294967295 < 4294967296 := fold_lt pre _ (by omega)
  have h1 := byte_inj h0 h0 (fold_inj post _ _ (byte_lt h0 c) (byte_lt h0 d) h)
  exact UInt8.toNat_inj.1 (xr h1)
theorem sum_byte (pre post : List UInt8) {c d : UInt8} (h : sum (pre ++ c :: post) = sum (pre ++ d :: post)) : c = d := by
  have h1 := crc_lt (pre ++ c :: post)
  have h2 := crc_lt (pre ++ d :: post)
  unfold sum at h
  exact crc_byte pre post (by omega)
theorem sum_lt (bs : List UInt8) : sum bs < 4294967296 := by unfold sum; omega
end Go.Proofs.Ytlcgcckllecjpaa.Cr
namespace Go.Proofs.Ytlcgcckllecjpaa.Bt
open Go.Proofs.Ytlcgcckllecjpaa
set_option linter.unusedSimpArgs false
set_option linter.unusedVariables false

theorem put_split {a b : Nat} (ha : a ≤ 1099511627776) (hb : b ≤ 1099511627776) {r s : List UInt8} (h : Nu.put a ++ r = Nu.put b ++ s) : a = b ∧ r = s := by
  have h1 := num_put ha r
  rw [h, num_put hb s] at h1
  simp only [Prod.mk.injEq] at h1
  exact ⟨h1.1.symm, h1.2.symm⟩
theorem recs_split {base : Int} (hB : 0 ≤ base) {hi : Int} (hT : hi ≤ 1099511627776) : ∀ (rs ss : List Rec) (lo lo' : Int), base ≤ lo → base ≤ lo' → recsErr rs lo hi = 0 → recsErr ss lo' hi = 0 → rs.length = ss.length →
    ∀ r s : List UInt8, recsB base rs ++ r = recsB base ss ++ s → r = s
  | [], [], _, _, _, _, _, _, _, r, s, h => by simpa [recsB] using h
  | [], _ :: _, _, _, _, _, _, _, hl, _, _, _ => by simp at hl
  | _ :: _, [], _, _, _, _, _, _, hl, _, _, _ => by simp at hl
  | x :: rs, y :: ss, lo, lo', hb, hb', h, h', hl, r, s, e => by
    have h1 : recErr x lo hi = 0 := by
      unfold recsErr at h
      split at h
      · assumption
      · exact h
    have h2 : recsErr rs (x.off + 1) hi = 0 := by
      unfold recsErr at h
      rwa [if_pos h1] at h
    have h1' : recErr y lo' hi = 0 := by
      unfold recsErr at h'
      split at h'
      · assumption
      · exact h'
    have h2' : recsErr ss (y.off + 1) hi = 0 := by
      unfold recsErr at h'
      rwa [if_pos h1'] at h'
    have hk := recErr_ok h1
    have hk' := recErr_ok h1'
    have ex : ∀ r, recsB base (x :: rs) ++ r = recB base x ++ (recsB base rs ++ r) := by intro r; simp [recsB]
    have ey : ∀ r, recsB base (y :: ss) ++ r = recB base y ++ (recsB base ss ++ r) := by intro r; simp [recsB]
    rw [ex, ey] at e
    have g := rec1_B h1 hb hB hT (recsB base rs ++ r)
    rw [e, rec1_B h1' hb' hB hT] at g
    simp only [Prod.mk.injEq] at g
    exact recs_split hB hT rs ss (x.off + 1) (y.off + 1) (by omega) (by omega) h2 h2' (by simpa using hl) r s g.2.symm
/-- No beginning of a batch's body is one. -/
theorem body_split {x y : Bat} (hx : chk x = 0) (hy : chk y = 0) {r s : List UInt8} (h : body x ++ r = body y ++ s) : r = s := by
  obtain ⟨h1, h2, h3, h4, h5, h6⟩ := chk_ok hx
  obtain ⟨k1, k2, k3, k4, k5, k6⟩ := chk_ok hy
  unfold body at h
  simp only [List.append_assoc] at h
  obtain ⟨e1, h⟩ := put_split (by omega) (by omega) h
  obtain ⟨e2, h⟩ := put_split (by omega) (by omega) h
  obtain ⟨e3, h⟩ := put_split (by omega) (by omega) h
  have e4 : y.base = x.base := by omega
  have e5 : y.fin = x.fin := by omega
  rw [e4] at h k6
  rw [e5] at k6
  exact recs_split h1 h2 x.recs y.recs x.base x.base (Int.le_refl _) (Int.le_refl _) h6 k6 e3 r s h
theorem four_inj {a b : Nat} (ha : a < 4294967296) (hb : b < 4294967296) (h : four a = four b) : a = b := by
  have h1 := fourV_four ha []
  rw [h, fourV_four hb] at h1
  exact h1.symm
theorem encErr_ok {x : Bat} (h : encErr x = 0) : chk x = 0 ∧ (body x).length + 8 ≤ 6000 := by
  unfold encErr at h
  split at h
  · rename_i hc
    split at h
    · omega
    · exact ⟨hc, by omega⟩
  · exact absurd h ‹_›
/-- A batch's bytes with one byte changed are no batch's. -/
theorem bit_seen {x y : Bat} (hx : encErr x = 0) (hy : encErr y = 0) (pre post : List UInt8) {c d : UInt8} (hcd : c ≠ d) (hb : encB x = pre ++ c :: post)
    (hn : fourV (pre ++ d :: post) ≤ (encB x).length) (h : encB y = (pre ++ d :: post).take (fourV (pre ++ d :: post))) : False := by
  obtain ⟨cx, lx⟩ := encErr_ok hx
  obtain ⟨cy, ly⟩ := encErr_ok hy
  have hlx := encB_len x
  have hly := encB_len y
  have hlen : (pre ++ d :: post).length = (encB x).length := by rw [hb]; simp
  generalize hb' : pre ++ d :: post = b' at *
  have hn2 : (encB y).length = fourV b' := by rw [h, List.length_take, Nat.min_eq_left (Nat.le_trans hn (Nat.le_of_eq hlen.symm))]
  have hfy : fourV b' = (body y).length + 8 := hn2.symm.trans hly
  have hyb : body y = (b'.take (fourV b')).drop 8 := by rw [← h, encB_drop]
  have hxb : body x = (encB x).drop 8 := (encB_drop x).symm
  have hx4 : (encB x).take 4 = four ((body x).length + 8) := by simp [encB, four]
  have hy4 : (encB y).take 4 = four ((body y).length + 8) := by simp [encB, four]
  have hx8 : ((encB x).drop 4).take 4 = four (Cr.sum (body x)) := by simp [encB, four]
  have hy8 : ((encB y).drop 4).take 4 = four (Cr.sum (body y)) := by simp [encB, four]
  have hfx : fourV (encB x) = (body x).length + 8 := by
    unfold encB; rw [List.append_assoc]; exact fourV_four (by omega) _
  by_cases h8 : 8 ≤ pre.length
  · -- behind the head
    have e4 : b'.take 8 = (encB x).take 8 := by
      rw [← hb', hb, List.take_append_of_le_length h8, List.take_append_of_le_length h8]
    have ef : fourV b' = fourV (encB x) := by
      have hv : ∀ l : List UInt8, fourV (l.take 8) = fourV l := by
        intro l
        unfold fourV
        simp [List.getD_eq_getElem?_getD, List.getElem?_take]
      rw [← hv b', e4, hv]
    have hyw : encB y = b' := by rw [h, List.take_of_length_le (by omega)]
    have es : four (Cr.sum (body x)) = four (Cr.sum (body y)) := by
      rw [← hx8, ← hy8, hyw]
      have : ∀ l : List UInt8, (l.drop 4).take 4 = (l.take 8).drop 4 := by intro l; rw [List.drop_take]
      rw [this, this, e4]
    have es' := four_inj (Cr.sum_lt _) (Cr.sum_lt _) es
    have hby : body y = pre.drop 8 ++ d :: post := by rw [← encB_drop, hyw, ← hb', List.drop_append_of_le_length h8]
    have hbx : body x = pre.drop 8 ++ c :: post := by rw [← encB_drop, hb, List.drop_append_of_le_length h8]
    rw [hbx, hby] at es'
    exact hcd (Cr.sum_byte _ _ es')
  · have hsame : b'.drop 8 = (encB x).drop 8 := by
      have hk : ∀ e : UInt8, (pre ++ e :: post).drop 8 = post.drop (7 - pre.length) := by
        intro e
        rw [List.drop_append, List.drop_eq_nil_of_le (by omega), List.nil_append, show 8 - pre.length = 7 - pre.length + 1 by omega, List.drop_succ_cons]
      rw [hb, ← hb', hk, hk]
    have hbody : body y ++ (body x).drop (body y).length = body x ++ [] := by
      have : body y = (body x).take (body y).length := by
        conv => lhs; rw [hyb, List.drop_take, hsame, ← hxb]
        congr 1; omega
      conv => lhs; lhs; rw [this]
      rw [List.take_append_drop, List.append_nil]
    have hnil := body_split cy cx hbody
    have hll : (body x).length ≤ (body y).length := List.drop_eq_nil_iff.1 hnil
    have hyw : encB y = b' := by rw [h, List.take_of_length_le (by omega)]
    have hll2 : (body y).length = (body x).length := by
      have := congrArg List.length hyw
      omega
    have hbe : body y = body x := by rw [← encB_drop, hyw, hsame, encB_drop]
    have : encB y = encB x := by unfold encB; rw [hbe]
    rw [hyw, ← hb', hb] at this
    have := List.append_cancel_left this
    simp at this
    exact hcd this.symm
end Go.Proofs.Ytlcgcckllecjpaa.Bt
