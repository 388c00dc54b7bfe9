/- record's reader: number, text, record, batch. -/
import Derived.Test.YtlcgcckllecjpaaBatA
import Derived.Test.YtlcgcckllecjpaaGetP
import Derived.Test.YtlcgcckllecjpaaLoose
namespace Go.Proofs.Ytlcgcckllecjpaa
open Go.RowKit Go.Maps
set_option maxRecDepth 100000
set_option linter.unusedSimpArgs false
set_option linter.unusedVariables false

theorem BytesAt.kept' {w w' : World} {v : Value} {bs : List UInt8} {S : List Nat} (h : BytesAt w v bs) (ht : Turn S w w') (hn : bs ≠ [] → ∀ k ∈ v.ownBlock, k ∉ S) : BytesAt w' v bs := by
  by_cases h0 : bs = []
  · subst h0
    obtain ⟨a, c, e, h1, h2, h3, h4⟩ := h
    exact ⟨a, c, e, h1, h2, h3, fun j hj => absurd hj (Nat.not_lt_zero _)⟩
  · exact h.kept ht (fun k hk _ => hn h0 k hk)
theorem BytesAt.lt {w : World} {v : Value} {bs : List UInt8} (h : BytesAt w v bs) (h0 : bs ≠ []) : ∀ k ∈ v.ownBlock, k < w.heap.size := by
  obtain ⟨a, c, rfl, h1, h2, h3, h4⟩ := h
  obtain ⟨p, rfl, hc⟩ := h4 0 (List.length_pos_iff.2 h0)
  intro k hk
  simp [Value.ownBlock] at hk
  subst hk
  have := World.block_lt_of_cell? w _ hc
  rwa [add_block] at this
theorem bytes_nil (w : World) : BytesAt w (.slice none 0 0) [] := ⟨none, 0, rfl, Nat.le_refl _, Nat.zero_le _, fun _ => rfl, fun j hj => absurd hj (Nat.not_lt_zero _)⟩
theorem advA_own {a : Option Addr} {n c l l' c' : Nat} : ∀ k ∈ (Value.slice (advA a n c) l c').ownBlock, k ∈ (Value.slice a l' c).ownBlock := by
  intro k hk
  unfold advA at hk
  split at hk
  · cases a with
    | none => simp [Value.ownBlock] at hk
    | some p => simpa [Value.ownBlock] using hk
  · cases a with
    | none => simp [Value.ownBlock] at hk
    | some p => simp [Value.ownBlock, add_block] at hk ⊢; exact hk

/-- A reader in a box: what is left to read; the bytes lie below a bound. -/
def RdAt (w : World) (rb B : Nat) (l : List UInt8) : Prop :=
  ∃ sv, w.heap[rb]? = some (.cells #[sv] 82 (0, 0)) ∧ BytesAt w sv l ∧ (l ≠ [] → ∀ k ∈ sv.ownBlock, k < B)
theorem RdAt.kept {w w' : World} {rb B : Nat} {l : List UInt8} {S : List Nat} (h : RdAt w rb B l) (ht : Turn S w w') (hr : rb ∉ S) (hB : ∀ x ∈ S, B ≤ x) : RdAt w' rb B l := by
  obtain ⟨sv, h1, h2, h3⟩ := h
  exact ⟨sv, ht.heap h1 hr, h2.kept' ht (fun h0 k hk hm => by have := h3 h0 k hk; have := hB k hm; omega), h3⟩
theorem RdAt.still {w w' : World} {rb B : Nat} {l : List UInt8} (h : RdAt w rb B l) (ht : Turn [] w w') : RdAt w' rb B l := h.kept ht (by simp) (by simp)
theorem RdAt.set {w : World} {rb B : Nat} {l' : List UInt8} {sv sv' : Value} (h : w.heap[rb]? = some (.cells #[sv] 82 (0, 0))) (hB : B ≤ rb) (hb : BytesAt w sv' l') (hn : l' ≠ [] → ∀ k ∈ sv'.ownBlock, k < B) : RdAt (w.setCell ⟨rb, 0, none⟩ sv') rb B l' ∧ Turn [rb] w (w.setCell ⟨rb, 0, none⟩ sv') := by
  have ht : Turn [rb] w (w.setCell ⟨rb, 0, none⟩ sv') := (Turn.refl _ _).setCell (.inl (by simp)) _
  exact ⟨⟨sv', by simpa using heap_set h 0 sv', hb.kept' ht (fun h0 k hk => by have := hn h0 k hk; simp; omega), hn⟩, ht⟩

set_option maxHeartbeats 1000000 in
theorem number_any (w : World) (rb B : Nat) (l : List UInt8) (h : RdAt w rb B l) (hB : B ≤ rb) (hl : l.length ≤ 1000000) :
    Calls Try.prog 52 #[.pointer (some ⟨rb, 0, none⟩)] w fun e w' => e = .returned (.int .i64 (Bt.num l).1) ∧ RdAt w' rb B (Bt.num l).2 ∧ Turn [rb] w w' := by
  obtain ⟨sv, h1, h2, h3⟩ := h
  have H1 := hide h1
  have H2 := hide h2
  have H3 := hide h3
  obtain ⟨a, c, hsv, hlc, hcm, hc⟩ := h2.form
  subst hsv
  have c0 : w.cell? ⟨rb, 0, none⟩ = some (.slice a l.length c) := by simpa using cell_of h1 0
  have f0 : w.frozen? ⟨rb, 0, none⟩ = false := frozen_of h1 0
  have hgs := Nu.get_size (b := l)
  clear h1 h2 h3 hc
  by_cases h0 : (Nu.get l).2 = 0
  · have hn : Bt.num l = (0, []) := by unfold Bt.num; rw [if_pos h0]
    rw [hn]
    clear hn
    obtain ⟨n, s, hns⟩ : ∃ n s, Nu.get l = (n, s) := ⟨_, _, rfl⟩
    rw [hns] at h0 hgs
    simp only at h0 hgs
    subst h0
    have HNS := hide hns
    clear hns
    go_enter Try.func52, Try.ntmps52
    go_wp2_with fail
    refine (get_any _ _ l H2.out (by omega)).mono ?_
    rintro e w' ⟨rfl, rfl⟩
    rw [HNS.out]
    go_wp2
    go_ret
    exact ⟨rfl, RdAt.set H1.out hB (bytes_nil _) (by simp)⟩
  · have hn : Bt.num l = ((Nu.get l).1, l.drop (Nu.get l).2) := by unfold Bt.num; rw [if_neg h0]
    rw [hn]
    clear hn
    obtain ⟨n, s, hns⟩ : ∃ n s, Nu.get l = (n, s) := ⟨_, _, rfl⟩
    rw [hns] at h0 hgs ⊢
    simp only at h0 hgs ⊢
    have HNS := hide hns
    clear hns
    have hsl := fun w => @run_from a l.length c s (by omega) w
    go_enter Try.func52, Try.ntmps52
    go_wp2_with fail
    refine (get_any _ _ l H2.out (by omega)).mono ?_
    rintro e w' ⟨rfl, rfl⟩
    rw [HNS.out]
    go_wp2
    go_ret
    exact ⟨rfl, RdAt.set H1.out hB (by simpa using H2.out.drop (n := s) (by omega)) (fun h0 k hk => H3.out (fun e => h0 (by rw [e]; simp)) k (advA_own (l' := l.length) k hk))⟩

theorem num_len (l : List UInt8) : (Bt.num l).2.length ≤ l.length ∧ (Bt.num l).1 ≤ 1099511627776 := by
  unfold Bt.num
  have := Nu.get_size (b := l)
  split
  · simp
  · simp; omega
theorem text_len (l : List UInt8) : (Bt.text l).2.length ≤ l.length ∧ (Bt.text l).1.length ≤ l.length := by
  unfold Bt.text
  have := num_len l
  split
  · simp
  · simp; omega
set_option maxHeartbeats 1000000 in
theorem rtext_any (w : World) (rb B : Nat) (l : List UInt8) (h : RdAt w rb B l) (hB : B ≤ rb) (hl : l.length ≤ 1000000) :
    Calls Try.prog 61 #[.pointer (some ⟨rb, 0, none⟩)] w fun e w' => e = .returned (strV (Bt.text l).1) ∧ RdAt w' rb B (Bt.text l).2 ∧ Turn [rb] w w' := by
  have hnl := num_len l
  have HN := hide (number_any w rb B l h hB hl)
  have HT : Hid (Bt.text l = if (Bt.num l).2.length < (Bt.num l).1 then ([], []) else ((Bt.num l).2.take (Bt.num l).1, (Bt.num l).2.drop (Bt.num l).1)) := rfl
  clear h
  obtain ⟨n, r, hns⟩ : ∃ n r, Bt.num l = (n, r) := ⟨_, _, rfl⟩
  rw [hns] at HN HT hnl
  simp only at HN HT hnl
  clear hns
  by_cases hbig : r.length < n
  · have ht : Bt.text l = ([], []) := by rw [HT.out, if_pos hbig]
    rw [ht]
    clear ht
    go_enter Try.func61, Try.ntmps61
    go_wp2_with fail
    refine HN.out.mono ?_
    rintro e w1 ⟨rfl, ⟨sv, h1, h2, h3⟩, ht1⟩
    have H1 := hide h1
    have HT1 := hide ht1
    obtain ⟨a, c, hsv, hlc, hcm, hc⟩ := h2.form
    subst hsv
    have c0 : w1.cell? ⟨rb, 0, none⟩ = some (.slice a r.length c) := by simpa using cell_of h1 0
    have f0 : w1.frozen? ⟨rb, 0, none⟩ = false := frozen_of h1 0
    clear h1 h2 h3 ht1 hc
    go_wp2
    go_ret
    have hs := RdAt.set (l' := []) (sv' := .slice none 0 0) H1.out hB (bytes_nil _) (by simp)
    exact ⟨rfl, hs.1, HT1.out.same hs.2⟩
  · have ht : Bt.text l = (r.take n, r.drop n) := by rw [HT.out, if_neg hbig]
    rw [ht]
    clear ht
    go_enter Try.func61, Try.ntmps61
    go_wp2_with fail
    refine HN.out.mono ?_
    rintro e w1 ⟨rfl, ⟨sv, h1, h2, h3⟩, ht1⟩
    have H1 := hide h1
    have H2 := hide h2
    have H3 := hide h3
    have HT1 := hide ht1
    obtain ⟨a, c, hsv, hlc, hcm, hc⟩ := h2.form
    subst hsv
    have c0 : w1.cell? ⟨rb, 0, none⟩ = some (.slice a r.length c) := by simpa using cell_of h1 0
    have f0 : w1.frozen? ⟨rb, 0, none⟩ = false := frozen_of h1 0
    have hst := fun w => @run_to a r.length c n (by omega) w
    have hsf := fun w => @run_from a r.length c n (by omega) w
    have hcv := (H2.out.take (n := n) (by omega)).conv
    clear h1 h2 h3 ht1 hc
    go_wp2
    go_ret
    have hs := RdAt.set (l' := r.drop n) (sv' := .slice (advA a n c) (r.length - n) (c - n)) H1.out hB (H2.out.drop (n := n) (by omega)) (fun h0 k hk => H3.out (fun e => h0 (by rw [e]; simp)) k (advA_own (l' := r.length) k hk))
    exact ⟨rfl, hs.1, HT1.out.same hs.2⟩

/-! ### a record -/
def zeroRec : Array Value := #[.int .i64 0, .int .i64 0, .bool false, .string ⟨#[]⟩, .bool false, .string ⟨#[]⟩]
/-- Where the reading of a record stands: its own box, the box of what it answers, the reader. -/
structure St (w0 w : World) (rb B X Y : Nat) (cs : Array Value) (l : List UInt8) : Prop where
  x : w.heap[X]? = some (.cells cs 79 (0, 0))
  y : w.heap[Y]? = some (.cells zeroRec 79 (0, 0))
  rd : RdAt w rb B l
  turn : Turn [rb, X, Y] w0 w
theorem St.num {w0 w w' : World} {rb B X Y : Nat} {cs : Array Value} {l l' : List UInt8} (h : St w0 w rb B X Y cs l) (ht : Turn [rb] w w') (hrd : RdAt w' rb B l') (hx : X ≠ rb) (hy : Y ≠ rb) : St w0 w' rb B X Y cs l' :=
  ⟨ht.heap h.x (by simpa using hx), ht.heap h.y (by simpa using hy), hrd, h.turn.trans ht (fun k hk => .inl (by simp at hk ⊢; exact .inl hk))⟩
theorem St.set {w0 w : World} {rb B X Y : Nat} {cs : Array Value} {l : List UInt8} (h : St w0 w rb B X Y cs l) (i : Nat) (v : Value) (hx : X ≠ rb) (hxy : X ≠ Y) (hB : B ≤ X) : St w0 (w.setCell ⟨X, i, none⟩ v) rb B X Y (cs.setIfInBounds i v) l := by
  have ht : Turn [X] w (w.setCell ⟨X, i, none⟩ v) := (Turn.refl _ _).setCell (.inl (by simp)) _
  exact ⟨heap_set h.x i v, ht.heap h.y (by simpa using fun e => hxy e.symm), h.rd.kept ht (by simpa using fun e => hx e.symm) (by simpa using hB), h.turn.trans ht (fun k hk => .inl (by simp at hk ⊢; exact .inr (.inl hk)))⟩
theorem St.cells {w0 w : World} {rb B X Y : Nat} {c0 c1 c2 c3 c4 c5 : Value} {l : List UInt8} (h : St w0 w rb B X Y #[c0, c1, c2, c3, c4, c5] l) :
    (w.cell? ⟨X, 0, none⟩ = some c0 ∧ w.cell? ⟨X, 1, none⟩ = some c1 ∧ w.cell? ⟨X, 2, none⟩ = some c2 ∧ w.cell? ⟨X, 3, none⟩ = some c3 ∧ w.cell? ⟨X, 4, none⟩ = some c4 ∧ w.cell? ⟨X, 5, none⟩ = some c5) ∧
    (w.frozen? ⟨X, 0, none⟩ = false ∧ w.frozen? ⟨X, 1, none⟩ = false ∧ w.frozen? ⟨X, 2, none⟩ = false ∧ w.frozen? ⟨X, 3, none⟩ = false ∧ w.frozen? ⟨X, 4, none⟩ = false ∧ w.frozen? ⟨X, 5, none⟩ = false) :=
  ⟨⟨by simpa using cell_of h.x 0, by simpa using cell_of h.x 1, by simpa using cell_of h.x 2, by simpa using cell_of h.x 3, by simpa using cell_of h.x 4, by simpa using cell_of h.x 5⟩,
   frozen_of h.x 0, frozen_of h.x 1, frozen_of h.x 2, frozen_of h.x 3, frozen_of h.x 4, frozen_of h.x 5⟩
theorem St.ycells {w0 w : World} {rb B X Y : Nat} {cs : Array Value} {l : List UInt8} (h : St w0 w rb B X Y cs l) :
    (w.cell? ⟨Y, 0, none⟩ = some (.int .i64 0) ∧ w.cell? ⟨Y, 1, none⟩ = some (.int .i64 0) ∧ w.cell? ⟨Y, 2, none⟩ = some (.bool false) ∧ w.cell? ⟨Y, 3, none⟩ = some (.string ⟨#[]⟩) ∧ w.cell? ⟨Y, 4, none⟩ = some (.bool false) ∧ w.cell? ⟨Y, 5, none⟩ = some (.string ⟨#[]⟩)) ∧
    (w.frozen? ⟨Y, 0, none⟩ = false ∧ w.frozen? ⟨Y, 1, none⟩ = false ∧ w.frozen? ⟨Y, 2, none⟩ = false ∧ w.frozen? ⟨Y, 3, none⟩ = false ∧ w.frozen? ⟨Y, 4, none⟩ = false ∧ w.frozen? ⟨Y, 5, none⟩ = false) :=
  ⟨⟨by simpa [zeroRec] using cell_of h.y 0, by simpa [zeroRec] using cell_of h.y 1, by simpa [zeroRec] using cell_of h.y 2, by simpa [zeroRec] using cell_of h.y 3, by simpa [zeroRec] using cell_of h.y 4, by simpa [zeroRec] using cell_of h.y 5⟩,
   frozen_of h.y 0, frozen_of h.y 1, frozen_of h.y 2, frozen_of h.y 3, frozen_of h.y 4, frozen_of h.y 5⟩

theorem and_one_ne (n : Nat) (h : n ≤ 1099511627776) : (bits .and .i64 (n : Int) 1 != 0) = decide (n % 2 = 1) := by
  have e : bits .and .i64 (n : Int) 1 = ((n % 2 : Nat) : Int) := by
    show IntKind.i64.wrap ((BitVec.ofInt 64 (n : Int) &&& BitVec.ofInt 64 ((1 : Nat) : Int)).toNat : Int) = _
    rw [BitVec.toNat_and, ofInt_u64 n (by omega), ofInt_u64 1 (by omega), Nat.and_one_is_mod, IntWalk.i64_left, IntWalk.wrap64_in _ (by omega)]
  rw [e]
  by_cases q : n % 2 = 1
  · simp [q]
  · have : n % 2 = 0 := by omega
    simp [this]
theorem nat_and_two (n : Nat) : n &&& 2 = n / 2 % 2 * 2 := by
  apply Nat.eq_of_testBit_eq
  intro i
  rw [Nat.testBit_and, show (2 : Nat) = 2 ^ 1 from rfl, Nat.testBit_two_pow, Nat.testBit_mul_two_pow]
  by_cases h1 : i = 1
  · subst h1
    simp [Nat.testBit_eq_decide_div_mod_eq]
  · have : ¬ 1 = i := fun e => h1 e.symm
    simp only [this, decide_false, Bool.and_false]
    rcases Nat.eq_zero_or_pos i with rfl | hi
    · simp
    · have h2 : (n / 2 ^ 1 % 2 ^ 1).testBit (i - 1) = false := Nat.testBit_lt_two_pow (Nat.lt_of_lt_of_le (Nat.mod_lt _ (by omega)) (Nat.pow_le_pow_right (by omega) (by omega)))
      simp [h2]
theorem and_two_ne (n : Nat) (h : n ≤ 1099511627776) : (bits .and .i64 (n : Int) 2 != 0) = decide (n / 2 % 2 = 1) := by
  have e : bits .and .i64 (n : Int) 2 = ((n / 2 % 2 * 2 : Nat) : Int) := by
    show IntKind.i64.wrap ((BitVec.ofInt 64 (n : Int) &&& BitVec.ofInt 64 ((2 : Nat) : Int)).toNat : Int) = _
    rw [BitVec.toNat_and, ofInt_u64 n (by omega), ofInt_u64 2 (by omega), nat_and_two, IntWalk.i64_left, IntWalk.wrap64_in _ (by omega)]
  rw [e]
  by_cases q : n / 2 % 2 = 1
  · simp [q]
  · have : n / 2 % 2 = 0 := by omega
    simp [this]
theorem St.fin {w0 w : World} {rb B X Y : Nat} {cs : Array Value} {l : List UInt8} (h : St w0 w rb B X Y cs l) (hy : Y ≠ rb) (hB : B ≤ Y) (v0 v1 v2 v3 v4 v5 : Value) :
    RdAt ((((((w.setCell ⟨Y, 0, none⟩ v0).setCell ⟨Y, 1, none⟩ v1).setCell ⟨Y, 2, none⟩ v2).setCell ⟨Y, 3, none⟩ v3).setCell ⟨Y, 4, none⟩ v4).setCell ⟨Y, 5, none⟩ v5) rb B l ∧
    Turn [rb, X, Y] w0 ((((((w.setCell ⟨Y, 0, none⟩ v0).setCell ⟨Y, 1, none⟩ v1).setCell ⟨Y, 2, none⟩ v2).setCell ⟨Y, 3, none⟩ v3).setCell ⟨Y, 4, none⟩ v4).setCell ⟨Y, 5, none⟩ v5) := by
  have ht : Turn [Y] w ((((((w.setCell ⟨Y, 0, none⟩ v0).setCell ⟨Y, 1, none⟩ v1).setCell ⟨Y, 2, none⟩ v2).setCell ⟨Y, 3, none⟩ v3).setCell ⟨Y, 4, none⟩ v4).setCell ⟨Y, 5, none⟩ v5) :=
    ((((((Turn.refl _ _).setCell (.inl (by simp)) _).setCell (.inl (by simp)) _).setCell (.inl (by simp)) _).setCell (.inl (by simp)) _).setCell (.inl (by simp)) _).setCell (.inl (by simp)) _
  exact ⟨h.rd.kept ht (by simpa using fun e => hy e.symm) (by simpa using hB), h.turn.trans ht (fun k hk => .inl (by simp at hk ⊢; exact .inr (.inr hk)))⟩
theorem load_box {w : World} {Y : Nat} {r : Bt.Rec} (h : w.heap[Y]? = some (.cells (recC r).toArray 79 (0, 0))) : (loadVar 79 ⟨Y, 0, none⟩).run Try.prog w = .ok (recV r) w := by
  refine load_rec fun i u hu => ?_
  rw [addr_add, cell_of h]
  simpa using hu
theorem St.load {w0 w : World} {rb B X Y : Nat} {cs : Array Value} {l : List UInt8} (h : St w0 w rb B X Y cs l) (r : Bt.Rec) :
    (loadVar 79 ⟨Y, 0, none⟩).run Try.prog ((((((w.setCell ⟨Y, 0, none⟩ (.int .i64 r.off)).setCell ⟨Y, 1, none⟩ (.int .i64 r.time)).setCell ⟨Y, 2, none⟩ (.bool r.keyed)).setCell ⟨Y, 3, none⟩ (strV r.key)).setCell ⟨Y, 4, none⟩ (.bool r.gone)).setCell ⟨Y, 5, none⟩ (strV r.value))
      = .ok (recV r) ((((((w.setCell ⟨Y, 0, none⟩ (.int .i64 r.off)).setCell ⟨Y, 1, none⟩ (.int .i64 r.time)).setCell ⟨Y, 2, none⟩ (.bool r.keyed)).setCell ⟨Y, 3, none⟩ (strV r.key)).setCell ⟨Y, 4, none⟩ (.bool r.gone)).setCell ⟨Y, 5, none⟩ (strV r.value)) := by
  refine load_box ?_
  have := heap_set (heap_set (heap_set (heap_set (heap_set (heap_set h.y 0 (.int .i64 r.off)) 1 (.int .i64 r.time)) 2 (.bool r.keyed)) 3 (strV r.key)) 4 (.bool r.gone)) 5 (strV r.value)
  simpa [zeroRec, recC] using this
set_option maxHeartbeats 4000000 in
theorem record_any (w : World) (rb B : Nat) (l : List UInt8) (h : RdAt w rb B l) (hB : B ≤ rb) (hl : l.length ≤ 1000000) (base : Int) (hb0 : 0 ≤ base) (hb1 : base ≤ 1099511627776) :
    Calls Try.prog 53 #[.pointer (some ⟨rb, 0, none⟩), .int .i64 base] w fun e w' => e = .returned (recV (Bt.rec1 base l).1) ∧ RdAt w' rb B (Bt.rec1 base l).2 ∧ Turn [rb] w w' := by
  have hrb : rb < w.heap.size := by obtain ⟨sv, h1, -⟩ := h; exact lt_of_heap h1
  have h1 : St ((w.alloc (.cells zeroRec 79)).alloc (.cells zeroRec 79)) ((w.alloc (.cells zeroRec 79)).alloc (.cells zeroRec 79)) rb B (w.heap.size + 1) w.heap.size zeroRec l := by
    refine ⟨by simpa using heap_new (w.alloc (.cells zeroRec 79)) _, ?_, h.still (((Turn.refl [] w).alloc _).alloc _), Turn.refl _ _⟩
    exact ((Turn.refl [] (w.alloc (.cells zeroRec 79))).alloc _).heap (heap_new w _) (by simp)
  obtain ⟨n0, r0, e0⟩ : ∃ n r, Bt.num l = (n, r) := ⟨_, _, rfl⟩
  obtain ⟨n1, r1, e1⟩ : ∃ n r, Bt.num r0 = (n, r) := ⟨_, _, rfl⟩
  obtain ⟨n2, r2, e2⟩ : ∃ n r, Bt.num r1 = (n, r) := ⟨_, _, rfl⟩
  have g0 := num_len l
  have g1 := num_len r0
  have g2 := num_len r1
  rw [e0] at g0
  rw [e1] at g1
  rw [e2] at g2
  simp only at g0 g1 g2
  have E0 := hide e0
  have E1 := hide e1
  have E2 := hide e2
  obtain ⟨W0, hW0⟩ : ∃ W0, W0 = (w.alloc (.cells zeroRec 79)).alloc (.cells zeroRec 79) := ⟨_, rfl⟩
  rw [← hW0] at h1
  have htw : Turn [] w W0 := by rw [hW0]; exact ((Turn.refl [] w).alloc _).alloc _
  have HW0 := hide hW0
  have HTW := hide htw
  have H1 := hide h1
  have hx1 : w.heap.size + 1 ≠ rb := by omega
  have hy1 : w.heap.size ≠ rb := by omega
  have hxy : w.heap.size + 1 ≠ w.heap.size := by omega
  have hxB : B ≤ w.heap.size + 1 := by omega
  have hk1 : (bits .and .i64 (n2 : Int) 1 != 0) = decide (n2 % 2 = 1) := and_one_ne n2 g2.2
  have hk2 : (bits .and .i64 (n2 : Int) 2 != 0) = decide (n2 / 2 % 2 = 1) := and_two_ne n2 g2.2
  obtain ⟨kd, hkd⟩ : ∃ kd, decide (n2 % 2 = 1) = kd := ⟨_, rfl⟩
  obtain ⟨gd, hgd⟩ : ∃ gd, decide (n2 / 2 % 2 = 1) = gd := ⟨_, rfl⟩
  rw [hkd] at hk1
  rw [hgd] at hk2
  have HE : Hid (Bt.rec1 base l = (⟨base + n0, n1, kd, (if kd then (Bt.text r2).1 else []), gd, (if gd then [] else (Bt.text (if kd then (Bt.text r2).2 else r2)).1)⟩, if gd then (if kd then (Bt.text r2).2 else r2) else (Bt.text (if kd then (Bt.text r2).2 else r2)).2)) := by
    show _ = _
    unfold Bt.rec1
    simp only [e0, e1, e2, hkd, hgd]
    subst hkd; subst hgd
    by_cases q1 : n2 % 2 = 1 <;> by_cases q2 : n2 / 2 % 2 = 1 <;> simp [q1, q2]
  clear h h1 e0 e1 e2 hkd hgd hW0 htw
  go_enter Try.func53, Try.ntmps53
  go_wp2_with fail
  rw [show (w.alloc (.cells #[.int .i64 0, .int .i64 0, .bool false, .string ⟨#[]⟩, .bool false, .string ⟨#[]⟩] 79)).alloc (.cells #[.int .i64 0, .int .i64 0, .bool false, .string ⟨#[]⟩, .bool false, .string ⟨#[]⟩] 79) = W0 from HW0.out.symm]
  refine (number_any _ rb B l H1.out.rd hB hl).mono ?_
  rintro e w1 ⟨rfl, hr1, ht1⟩
  rw [E0.out] at hr1 ⊢
  have H2 := hide (H1.out.num ht1 hr1 hx1 hy1)
  clear hr1 ht1
  obtain ⟨⟨c0, c1, c2, c3, c4, c5⟩, ⟨f0, f1, f2, f3, f4, f5⟩⟩ := H2.out.cells
  go_wp2_with fail
  have H3 : Hid (St W0 (w1.setCell ⟨w.heap.size + 1, 0, none⟩ (.int .i64 (base + n0))) rb B (w.heap.size + 1) w.heap.size #[.int .i64 (base + n0), .int .i64 0, .bool false, .string ⟨#[]⟩, .bool false, .string ⟨#[]⟩] r0) := hide (by simpa [zeroRec] using H2.out.set 0 (.int .i64 (base + n0)) hx1 hxy hxB)
  refine (number_any _ rb B r0 H3.out.rd hB (by omega)).mono ?_
  rintro e w2 ⟨rfl, hr2, ht2⟩
  rw [E1.out] at hr2 ⊢
  have H4 := hide (H3.out.num ht2 hr2 hx1 hy1)
  clear hr2 ht2 c0 c1 c2 c3 c4 c5 f0 f1 f2 f3 f4 f5
  obtain ⟨⟨c0, c1, c2, c3, c4, c5⟩, ⟨f0, f1, f2, f3, f4, f5⟩⟩ := H4.out.cells
  go_wp2_with fail
  have H5 : Hid (St W0 (w2.setCell ⟨w.heap.size + 1, 1, none⟩ (.int .i64 n1)) rb B (w.heap.size + 1) w.heap.size #[.int .i64 (base + n0), .int .i64 n1, .bool false, .string ⟨#[]⟩, .bool false, .string ⟨#[]⟩] r1) := hide (by simpa [zeroRec] using H4.out.set 1 (.int .i64 n1) hx1 hxy hxB)
  refine (number_any _ rb B r1 H5.out.rd hB (by omega)).mono ?_
  rintro e w3 ⟨rfl, hr3, ht3⟩
  rw [E2.out] at hr3 ⊢
  have H6 := hide (H5.out.num ht3 hr3 hx1 hy1)
  clear hr3 ht3 c0 c1 c2 c3 c4 c5 f0 f1 f2 f3 f4 f5
  obtain ⟨⟨c0, c1, c2, c3, c4, c5⟩, ⟨f0, f1, f2, f3, f4, f5⟩⟩ := H6.out.cells
  have hcl := text_len r2
  cases kd <;> cases gd
  · have H7 : Hid (St W0 ((w3.setCell ⟨w.heap.size + 1, 2, none⟩ (.bool false)).setCell ⟨w.heap.size + 1, 4, none⟩ (.bool false)) rb B (w.heap.size + 1) w.heap.size #[.int .i64 (base + n0), .int .i64 n1, .bool false, .string ⟨#[]⟩, .bool false, .string ⟨#[]⟩] r2) := hide (by simpa [zeroRec] using (H6.out.set 2 (.bool false) hx1 hxy hxB).set 4 (.bool false) hx1 hxy hxB)
    go_wp2_with fail
    refine (rtext_any _ rb B (r2) H7.out.rd hB (by omega)).mono ?_
    rintro e w4 ⟨rfl, hr, ht⟩
    have H8 := hide (H7.out.num ht hr hx1 hy1)
    clear hr ht c0 c1 c2 c3 c4 c5 f0 f1 f2 f3 f4 f5
    obtain ⟨⟨c0, c1, c2, c3, c4, c5⟩, ⟨f0, f1, f2, f3, f4, f5⟩⟩ := H8.out.cells
    unfold strV
    have H9 : Hid (St W0 (w4.setCell ⟨w.heap.size + 1, 5, none⟩ (.string ⟨(Bt.text (r2)).1.toArray⟩)) rb B (w.heap.size + 1) w.heap.size #[.int .i64 (base + n0), .int .i64 n1, .bool false, .string ⟨#[]⟩, .bool false, .string ⟨(Bt.text (r2)).1.toArray⟩] (Bt.text (r2)).2) := hide (by simpa [zeroRec] using H8.out.set 5 (.string ⟨(Bt.text (r2)).1.toArray⟩) hx1 hxy hxB)
    obtain ⟨⟨d0, d1, d2, d3, d4, d5⟩, ⟨y0, y1, y2, y3, y4, y5⟩⟩ := H8.out.ycells
    go_wp2
    have hld := H9.out.load ⟨base + n0, n1, false, [], false, (Bt.text r2).1⟩
    simp only [strV] at hld
    refine bodyPost_ret (v := recV ⟨base + n0, n1, false, [], false, (Bt.text r2).1⟩) (by simp [results, Try.results53, asAddr, hld, Result.andThen, recV, strV]) rfl ?_
    have hf := H9.out.fin hy1 (by omega) (.int .i64 (base + n0)) (.int .i64 n1) (.bool false) (strV []) (.bool false) (strV (Bt.text r2).1)
    rw [HE.out]
    exact ⟨rfl, hf.1, (HTW.out.mono (by simp)).trans hf.2 (fun k hk => by simp at hk ⊢; omega)⟩
  · have H7 : Hid (St W0 ((w3.setCell ⟨w.heap.size + 1, 2, none⟩ (.bool false)).setCell ⟨w.heap.size + 1, 4, none⟩ (.bool true)) rb B (w.heap.size + 1) w.heap.size #[.int .i64 (base + n0), .int .i64 n1, .bool false, .string ⟨#[]⟩, .bool true, .string ⟨#[]⟩] r2) := hide (by simpa [zeroRec] using (H6.out.set 2 (.bool false) hx1 hxy hxB).set 4 (.bool true) hx1 hxy hxB)
    obtain ⟨⟨d0, d1, d2, d3, d4, d5⟩, ⟨y0, y1, y2, y3, y4, y5⟩⟩ := H6.out.ycells
    go_wp2
    have hld := H7.out.load ⟨base + n0, n1, false, [], true, []⟩
    simp only [strV] at hld
    refine bodyPost_ret (v := recV ⟨base + n0, n1, false, [], true, []⟩) (by simp [results, Try.results53, asAddr, hld, Result.andThen, recV, strV]) rfl ?_
    have hf := H7.out.fin hy1 (by omega) (.int .i64 (base + n0)) (.int .i64 n1) (.bool false) (strV []) (.bool true) (strV [])
    rw [HE.out]
    exact ⟨rfl, hf.1, (HTW.out.mono (by simp)).trans hf.2 (fun k hk => by simp at hk ⊢; omega)⟩
  · have H7 : Hid (St W0 ((w3.setCell ⟨w.heap.size + 1, 2, none⟩ (.bool true)).setCell ⟨w.heap.size + 1, 4, none⟩ (.bool false)) rb B (w.heap.size + 1) w.heap.size #[.int .i64 (base + n0), .int .i64 n1, .bool true, .string ⟨#[]⟩, .bool false, .string ⟨#[]⟩] r2) := hide (by simpa [zeroRec] using (H6.out.set 2 (.bool true) hx1 hxy hxB).set 4 (.bool false) hx1 hxy hxB)
    go_wp2_with fail
    refine (rtext_any _ rb B (r2) H7.out.rd hB (by omega)).mono ?_
    rintro e w4 ⟨rfl, hr, ht⟩
    have H8 := hide (H7.out.num ht hr hx1 hy1)
    clear hr ht c0 c1 c2 c3 c4 c5 f0 f1 f2 f3 f4 f5
    obtain ⟨⟨c0, c1, c2, c3, c4, c5⟩, ⟨f0, f1, f2, f3, f4, f5⟩⟩ := H8.out.cells
    unfold strV
    have H9 : Hid (St W0 (w4.setCell ⟨w.heap.size + 1, 3, none⟩ (.string ⟨(Bt.text (r2)).1.toArray⟩)) rb B (w.heap.size + 1) w.heap.size #[.int .i64 (base + n0), .int .i64 n1, .bool true, .string ⟨(Bt.text (r2)).1.toArray⟩, .bool false, .string ⟨#[]⟩] (Bt.text (r2)).2) := hide (by simpa [zeroRec] using H8.out.set 3 (.string ⟨(Bt.text (r2)).1.toArray⟩) hx1 hxy hxB)
    go_wp2_with fail
    refine (rtext_any _ rb B ((Bt.text (r2)).2) H9.out.rd hB (by omega)).mono ?_
    rintro e w5 ⟨rfl, hr, ht⟩
    have H10 := hide (H9.out.num ht hr hx1 hy1)
    clear hr ht c0 c1 c2 c3 c4 c5 f0 f1 f2 f3 f4 f5
    obtain ⟨⟨c0, c1, c2, c3, c4, c5⟩, ⟨f0, f1, f2, f3, f4, f5⟩⟩ := H10.out.cells
    unfold strV
    have H11 : Hid (St W0 (w5.setCell ⟨w.heap.size + 1, 5, none⟩ (.string ⟨(Bt.text ((Bt.text (r2)).2)).1.toArray⟩)) rb B (w.heap.size + 1) w.heap.size #[.int .i64 (base + n0), .int .i64 n1, .bool true, .string ⟨(Bt.text (r2)).1.toArray⟩, .bool false, .string ⟨(Bt.text ((Bt.text (r2)).2)).1.toArray⟩] (Bt.text ((Bt.text (r2)).2)).2) := hide (by simpa [zeroRec] using H10.out.set 5 (.string ⟨(Bt.text ((Bt.text (r2)).2)).1.toArray⟩) hx1 hxy hxB)
    obtain ⟨⟨d0, d1, d2, d3, d4, d5⟩, ⟨y0, y1, y2, y3, y4, y5⟩⟩ := H10.out.ycells
    go_wp2
    have hld := H11.out.load ⟨base + n0, n1, true, (Bt.text r2).1, false, (Bt.text (Bt.text r2).2).1⟩
    simp only [strV] at hld
    refine bodyPost_ret (v := recV ⟨base + n0, n1, true, (Bt.text r2).1, false, (Bt.text (Bt.text r2).2).1⟩) (by simp [results, Try.results53, asAddr, hld, Result.andThen, recV, strV]) rfl ?_
    have hf := H11.out.fin hy1 (by omega) (.int .i64 (base + n0)) (.int .i64 n1) (.bool true) (strV (Bt.text r2).1) (.bool false) (strV (Bt.text (Bt.text r2).2).1)
    rw [HE.out]
    exact ⟨rfl, hf.1, (HTW.out.mono (by simp)).trans hf.2 (fun k hk => by simp at hk ⊢; omega)⟩
  · have H7 : Hid (St W0 ((w3.setCell ⟨w.heap.size + 1, 2, none⟩ (.bool true)).setCell ⟨w.heap.size + 1, 4, none⟩ (.bool true)) rb B (w.heap.size + 1) w.heap.size #[.int .i64 (base + n0), .int .i64 n1, .bool true, .string ⟨#[]⟩, .bool true, .string ⟨#[]⟩] r2) := hide (by simpa [zeroRec] using (H6.out.set 2 (.bool true) hx1 hxy hxB).set 4 (.bool true) hx1 hxy hxB)
    go_wp2_with fail
    refine (rtext_any _ rb B (r2) H7.out.rd hB (by omega)).mono ?_
    rintro e w4 ⟨rfl, hr, ht⟩
    have H8 := hide (H7.out.num ht hr hx1 hy1)
    clear hr ht c0 c1 c2 c3 c4 c5 f0 f1 f2 f3 f4 f5
    obtain ⟨⟨c0, c1, c2, c3, c4, c5⟩, ⟨f0, f1, f2, f3, f4, f5⟩⟩ := H8.out.cells
    unfold strV
    have H9 : Hid (St W0 (w4.setCell ⟨w.heap.size + 1, 3, none⟩ (.string ⟨(Bt.text (r2)).1.toArray⟩)) rb B (w.heap.size + 1) w.heap.size #[.int .i64 (base + n0), .int .i64 n1, .bool true, .string ⟨(Bt.text (r2)).1.toArray⟩, .bool true, .string ⟨#[]⟩] (Bt.text (r2)).2) := hide (by simpa [zeroRec] using H8.out.set 3 (.string ⟨(Bt.text (r2)).1.toArray⟩) hx1 hxy hxB)
    obtain ⟨⟨d0, d1, d2, d3, d4, d5⟩, ⟨y0, y1, y2, y3, y4, y5⟩⟩ := H8.out.ycells
    go_wp2
    have hld := H9.out.load ⟨base + n0, n1, true, (Bt.text r2).1, true, []⟩
    simp only [strV] at hld
    refine bodyPost_ret (v := recV ⟨base + n0, n1, true, (Bt.text r2).1, true, []⟩) (by simp [results, Try.results53, asAddr, hld, Result.andThen, recV, strV]) rfl ?_
    have hf := H9.out.fin hy1 (by omega) (.int .i64 (base + n0)) (.int .i64 n1) (.bool true) (strV (Bt.text r2).1) (.bool true) (strV [])
    rw [HE.out]
    exact ⟨rfl, hf.1, (HTW.out.mono (by simp)).trans hf.2 (fun k hk => by simp at hk ⊢; omega)⟩
end Go.Proofs.Ytlcgcckllecjpaa
