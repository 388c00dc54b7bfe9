/- Names of segments: what is written, and read again. No program. -/
import Derived.WalkKit
import Derived.Lib.AtoiAll
import Derived.Lib.ItoaNum
import Derived.Lib.TrimByte
import Derived.Lib.Strings
import Derived.Lib.ParseIntBTie
namespace Go.Proofs.YtlcgcckllecjpaaDoor.Sn
open Go.Lib
set_option linter.unusedSimpArgs false
set_option linter.unusedVariables false

/-- A number of 10 digits at least. -/
def pad (l : List UInt8) : List UInt8 := List.replicate (10 - l.length) 48 ++ l
/-- A segment's file. -/
def nameL (dir : List UInt8) (n : Nat) : List UInt8 := dir ++ [47] ++ pad (decDigits n) ++ [46, 108, 111, 103]
theorem dec_ne (n : Nat) : decDigits n ≠ [] := by
  rw [decDigits]; split <;> simp
theorem dec_step {n : Nat} (h : ¬ n < 10) : decDigits n = decDigits (n / 10) ++ [UInt8.ofNat (48 + n % 10)] := by rw [decDigits, dif_neg h]
theorem digit_nat {d : Nat} (h : d < 10) : (UInt8.ofNat (48 + d)).toNat = 48 + d := UInt8.toNat_ofNat_of_lt' (by show _ < 256; omega)
/-- What digits spell behind a number. -/
theorem parse_dec : ∀ (f n acc : Nat) (r : List UInt8), n < f → n < 10000000000000 → acc ≤ 10000 → parseUint10 (acc * 10 ^ (decDigits n).length + n) r = parseUint10 acc (decDigits n ++ r) ∨ 0 < acc
  | 0, n, _, _, h, _, _ => absurd h (Nat.not_lt_zero _)
  | f + 1, n, acc, r, h, hn, ha => by
    by_cases h0 : 0 < acc
    · exact .inr h0
    · left
      have : acc = 0 := by omega
      subst this
      by_cases h10 : n < 10
      · rw [decDigits, dif_pos h10]
        simp only [List.cons_append, List.nil_append, parseUint10, digit_nat h10]
        rw [if_pos (by omega), if_neg (by omega), if_neg (by omega)]
        congr 1
        simp
      · have hq : n / 10 < f := by omega
        have ih := (parse_dec f (n / 10) 0 (UInt8.ofNat (48 + n % 10) :: r) hq (by omega) (by omega)).resolve_right (by omega)
        rw [dec_step h10, List.append_assoc, List.singleton_append, ← ih]
        simp only [Nat.zero_mul, Nat.zero_add, parseUint10]
        rw [digit_nat (Nat.mod_lt _ (by omega)), if_pos (by omega), if_neg (by omega), if_neg (by omega)]
        congr 1
        omega
theorem parse_dec0 {n : Nat} (hn : n < 10000000000000) : parseUint10 0 (decDigits n) = .ok n := by
  have := (parse_dec (n + 1) n 0 [] (by omega) hn (by omega)).resolve_right (by omega)
  rw [List.append_nil] at this
  rw [← this]; simp [parseUint10]
theorem parse_zeros : ∀ (k : Nat) (l : List UInt8), parseUint10 0 (List.replicate k 48 ++ l) = parseUint10 0 l
  | 0, l => rfl
  | k + 1, l => by
    rw [List.replicate_succ, List.cons_append, parseUint10]
    rw [if_pos (by decide), if_neg (by decide), if_neg (by decide)]
    exact parse_zeros k l
theorem dec_digit : ∀ (f n : Nat), n < f → ∀ c ∈ decDigits n, 48 ≤ c.toNat ∧ c.toNat ≤ 57
  | 0, n, h, _, _ => absurd h (Nat.not_lt_zero _)
  | f + 1, n, h, c, hc => by
    by_cases h10 : n < 10
    · rw [decDigits, dif_pos h10] at hc
      simp only [List.mem_singleton] at hc
      subst hc
      rw [digit_nat h10]; omega
    · rw [dec_step h10] at hc
      rcases List.mem_append.1 hc with hc | hc
      · exact dec_digit f (n / 10) (by omega) c hc
      · simp only [List.mem_singleton] at hc
        subst hc
        rw [digit_nat (Nat.mod_lt _ (by omega))]; omega
theorem pad_ne (n : Nat) : pad (decDigits n) ≠ [] := by
  unfold pad; simp [dec_ne]
theorem pad_digit (n : Nat) : ∀ c ∈ pad (decDigits n), 48 ≤ c.toNat ∧ c.toNat ≤ 57 := by
  intro c hc
  unfold pad at hc
  rcases List.mem_append.1 hc with hc | hc
  · have := List.eq_of_mem_replicate hc
    subst this; decide
  · exact dec_digit (n + 1) n (by omega) c hc
theorem mag_ok {l : List UInt8} {n : Nat} (hne : l ≠ []) (hd : ∀ c ∈ l, 48 ≤ c.toNat ∧ c.toNat ≤ 57) (hp : parseUint10 0 l = .ok n) (hn : n < 10000000000000) : atoiAll l = .ok n := by
  cases l with
  | nil => exact absurd rfl hne
  | cons c r =>
    have hc := hd c (by simp)
    unfold atoiAll
    simp only
    rw [if_neg (by omega)]
    unfold parseMag
    rw [if_neg (by simp), hp]
    simp only
    rw [if_neg (by omega), if_neg (by omega), if_neg (by omega)]
theorem atoi_pad {n : Nat} (hn : n < 10000000000000) : atoiAll (pad (decDigits n)) = .ok n :=
  mag_ok (pad_ne n) (pad_digit n) (by unfold pad; rw [parse_zeros, parse_dec0 hn]) hn
theorem atoi_dec {n : Nat} (hn : n < 10000000000000) : atoiAll (decDigits n) = .ok n :=
  mag_ok (dec_ne n) (dec_digit (n + 1) n (by omega)) (parse_dec0 hn) hn
/-- The first digit of a number above 0 is none. -/
theorem dec_head : ∀ (f n : Nat), n < f → 0 < n → ∃ c r, decDigits n = c :: r ∧ c ≠ 48
  | 0, n, h, _ => absurd h (Nat.not_lt_zero _)
  | f + 1, n, h, h0 => by
    by_cases h10 : n < 10
    · refine ⟨_, [], by rw [decDigits, dif_pos h10], fun e => ?_⟩
      have := congrArg UInt8.toNat e
      rw [digit_nat h10] at this
      have h48 : (48 : UInt8).toNat = 48 := rfl
      omega
    · obtain ⟨c, r, e, hc⟩ := dec_head f (n / 10) (by omega) (by omega)
      exact ⟨c, r ++ [UInt8.ofNat (48 + n % 10)], by rw [dec_step h10, e]; rfl, hc⟩
theorem trimLeft_zeros : ∀ (k : Nat) (l : List UInt8), trimLeftB (List.replicate k 48 ++ l) 48 = trimLeftB l 48
  | 0, l => rfl
  | k + 1, l => by
    rw [List.replicate_succ, List.cons_append]
    unfold trimLeftB
    rw [List.dropWhile_cons_of_pos (by decide)]
    exact trimLeft_zeros k l
theorem trimLeft_pad (n : Nat) : trimLeftB (pad (decDigits n)) 48 = if n = 0 then [] else decDigits n := by
  unfold pad
  rw [trimLeft_zeros]
  by_cases h0 : n = 0
  · subst h0
    rw [if_pos rfl, decDigits, dif_pos (by omega)]
    decide
  · rw [if_neg h0]
    obtain ⟨c, r, e, hc⟩ := dec_head (n + 1) n (by omega) (by omega)
    rw [e]
    unfold trimLeftB
    rw [List.dropWhile_cons_of_neg (by simpa using hc)]
theorem dropWhile_all {p : UInt8 → Bool} : ∀ {l : List UInt8}, l.dropWhile p = [] ↔ ∀ c ∈ l, p c = true
  | [] => by simp
  | c :: r => by
    cases h : p c
    · rw [List.dropWhile_cons_of_neg (by simp [h])]
      simp [h]
    · rw [List.dropWhile_cons_of_pos h, dropWhile_all]
      simp [h]
theorem trim_nil (l : List UInt8) : trimB l 48 = [] ↔ ∀ c ∈ l, c = 48 := by
  unfold trimB trimLeftB trimRightB
  constructor
  · intro h
    have h1 := dropWhile_all.1 h
    intro c hc
    by_cases h48 : c = 48
    · exact h48
    · exfalso
      have : c ∈ (l.reverse.dropWhile (· == 48)) := by
        have hs := List.takeWhile_append_dropWhile (p := (· == (48 : UInt8))) (l := l.reverse)
        have hm : c ∈ l.reverse := by simpa using hc
        rw [← hs] at hm
        rcases List.mem_append.1 hm with hm | hm
        · exact absurd (by simpa using List.all_eq_true.1 (List.all_takeWhile (p := (· == (48 : UInt8))) (l := l.reverse)) c hm) h48
        · exact hm
      have := h1 c (by simpa using this)
      exact h48 (by simpa using this)
  · intro h
    rw [dropWhile_all]
    intro c hc
    have : c ∈ l := by
      have hm : c ∈ l.reverse.dropWhile (· == 48) := by simpa using hc
      have := (List.dropWhile_sublist (p := (· == (48 : UInt8))) (l := l.reverse)).subset hm
      simpa using this
    simpa using h c this
theorem trim_pad (n : Nat) : trimB (pad (decDigits n)) 48 = [] ↔ n = 0 := by
  rw [trim_nil]
  constructor
  · intro h
    by_cases h0 : n = 0
    · exact h0
    · exfalso
      obtain ⟨c, r, e, hc⟩ := dec_head (n + 1) n (by omega) (by omega)
      exact hc (h c (by unfold pad; rw [e]; simp))
  · rintro rfl c hc
    unfold pad at hc
    rcases List.mem_append.1 hc with hc | hc
    · exact List.eq_of_mem_replicate hc
    · rw [decDigits, dif_pos (by omega)] at hc
      simpa using hc
/-- What is left of a segment's file without its directory and its ending. -/
theorem rest_name (dir : List UInt8) (n : Nat) : trimSuffix (trimPrefix (nameL dir n) (dir ++ [47])) [46, 108, 111, 103] = pad (decDigits n) := by
  have h1 : trimPrefix (nameL dir n) (dir ++ [47]) = pad (decDigits n) ++ [46, 108, 111, 103] := by
    unfold trimPrefix nameL hasPrefix
    rw [List.append_assoc (dir ++ [47])]
    rw [if_pos (by simp)]
    simp
  rw [h1]
  unfold trimSuffix hasSuffix
  rw [if_pos (by simp)]
  simp
end Go.Proofs.YtlcgcckllecjpaaDoor.Sn
