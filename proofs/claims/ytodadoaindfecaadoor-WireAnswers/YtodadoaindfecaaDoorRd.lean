/- record's reader: number, text, record, batch. -/
import Derived.Test.YtodadoaindfecaaDoorBatA
import Derived.Test.YtodadoaindfecaaDoorGetP
import Derived.Test.YtodadoaindfecaaDoorLoose
namespace Go.Proofs.YtodadoaindfecaaDoor
open Go.RowKit Go.Maps
set_option maxRecDepth 100000
set_option linter.unusedSimpArgs false
set_option linter.unusedVariables false

theorem BytesAt.kept' {w w' : World} {v : Value} {bs : List UInt8} {S : List Nat} (h : BytesAt w v bs) (ht : Turn S w w') (hn : bs ≠ [] → ∀ k ∈ v.ownBlock, k ∉ S) : BytesAt w' v bs := by
  by_cases h0 : bs = []
  · subst h0
    obtain ⟨a, c, e, h1, h2, h3, h4⟩ := h
    exact ⟨a, c, e, h1, h2, h3, fun j hj => absurd hj (Nat.not_lt_zero _)⟩
  · exact h.kept ht (fun k hk _ => hn h0 k hk)
theorem BytesAt.lt {w : World} {v : Value} {bs : List UInt8} (h : BytesAt w v bs) (h0 : bs ≠ []) : ∀ k ∈ v.ownBlock, k < w.heap.size := by
  obtain ⟨a, c, rfl, h1, h2, h3, h4⟩ := h
  obtain ⟨p, rfl, hc⟩ := h4 0 (List.length_pos_iff.2 h0)
  intro k hk
  simp [Value.ownBlock] at hk
  subst hk
  have := World.block_lt_of_cell? w _ hc
  rwa [add_block] at this
theorem bytes_nil (w : World) : BytesAt w (.slice none 0 0) [] := ⟨none, 0, rfl, Nat.le_refl _, Nat.zero_le _, fun _ => rfl, fun j hj => absurd hj (Nat.not_lt_zero _)⟩
theorem advA_own {a : Option Addr} {n c l l' c' : Nat} : ∀ k ∈ (Value.slice (advA a n c) l c').ownBlock, k ∈ (Value.slice a l' c).ownBlock := by
  intro k hk
  unfold advA at hk
  split at hk
  · cases a with
    | none => simp [Value.ownBlock] at hk
    | some p => simpa [Value.ownBlock] using hk
  · cases a with
    | none => simp [Value.ownBlock] at hk
    | some p => simp [Value.ownBlock, add_block] at hk ⊢; exact hk

theorem num_len (l : List UInt8) : (Bt.num l).2.length ≤ l.length ∧ (Bt.num l).1 ≤ 1099511627776 := by
  unfold Bt.num
  have := Nu.get_size (b := l)
  split
  · simp
  · simp; omega
theorem text_len (l : List UInt8) : (Bt.text l).2.length ≤ l.length ∧ (Bt.text l).1.length ≤ l.length := by
  unfold Bt.text
  have := num_len l
  split
  · simp
  · simp; omega
/-! ### a record -/
def zeroRec : Array Value := #[.int .i64 0, .int .i64 0, .bool false, .string ⟨#[]⟩, .bool false, .string ⟨#[]⟩]
theorem and_one_ne (n : Nat) (h : n ≤ 1099511627776) : (bits .and .i64 (n : Int) 1 != 0) = decide (n % 2 = 1) := by
  have e : bits .and .i64 (n : Int) 1 = ((n % 2 : Nat) : Int) := by
    show IntKind.i64.wrap ((BitVec.ofInt 64 (n : Int) &&& BitVec.ofInt 64 ((1 : Nat) : Int)).toNat : Int) = _
    rw [BitVec.toNat_and, ofInt_u64 n (by omega), ofInt_u64 1 (by omega), Nat.and_one_is_mod, IntWalk.i64_left, IntWalk.wrap64_in _ (by omega)]
  rw [e]
  by_cases q : n % 2 = 1
  · simp [q]
  · have : n % 2 = 0 := by omega
    simp [this]
theorem nat_and_two (n : Nat) : n &&& 2 = n / 2 % 2 * 2 := by
  apply Nat.eq_of_testBit_eq
  intro i
  rw [Nat.testBit_and, show (2 : Nat) = 2 ^ 1 from rfl, Nat.testBit_two_pow, Nat.testBit_mul_two_pow]
  by_cases h1 : i = 1
  · subst h1
    simp [Nat.testBit_eq_decide_div_mod_eq]
  · have : ¬ 1 = i := fun e => h1 e.symm
    simp only [this, decide_false, Bool.and_false]
    rcases Nat.eq_zero_or_pos i with rfl | hi
    · simp
    · have h2 : (n / 2 ^ 1 % 2 ^ 1).testBit (i - 1) = false := Nat.testBit_lt_two_pow (Nat.lt_of_lt_of_le (Nat.mod_lt _ (by omega)) (Nat.pow_le_pow_right (by omega) (by omega)))
      simp [h2]
theorem and_two_ne (n : Nat) (h : n ≤ 1099511627776) : (bits .and .i64 (n : Int) 2 != 0) = decide (n / 2 % 2 = 1) := by
  have e : bits .and .i64 (n : Int) 2 = ((n / 2 % 2 * 2 : Nat) : Int) := by
    show IntKind.i64.wrap ((BitVec.ofInt 64 (n : Int) &&& BitVec.ofInt 64 ((2 : Nat) : Int)).toNat : Int) = _
    rw [BitVec.toNat_and, ofInt_u64 n (by omega), ofInt_u64 2 (by omega), nat_and_two, IntWalk.i64_left, IntWalk.wrap64_in _ (by omega)]
  rw [e]
  by_cases q : n / 2 % 2 = 1
  · simp [q]
  · have : n / 2 % 2 = 0 := by omega
    simp [this]
theorem load_box {w : World} {Y : Nat} {r : Bt.Rec} (h : w.heap[Y]? = some (.cells (recC r).toArray 133 (0, 0))) : (loadVar 133 ⟨Y, 0, none⟩).run Tryd.prog w = .ok (recV r) w := by
  refine load_rec fun i u hu => ?_
  rw [addr_add, cell_of h]
  simpa using hu
end Go.Proofs.YtodadoaindfecaaDoor
