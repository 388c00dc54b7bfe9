/- Rd, PutP, PutN, RdB, RdC, Fr, PutT, PutB, Err: texts merged. -/
import Derived.Test.YtjbpladooohpdaaGreatDoorM2
import Derived.Test.YtjbpladooohpdaaGreatDoorM1
import Derived.Laws.BitsAllLaws
import Derived.Deep.AppendSrc
import Derived.Test.YtjbpladooohpdaaGreatDoorRows
/- record's reader: number, text, record, batch. -/
namespace Go.Proofs.YtjbpladooohpdaaGreatDoor
open Go.RowKit Go.Maps
set_option maxRecDepth 100000
set_option linter.unusedSimpArgs false
set_option linter.unusedVariables false

theorem BytesAt.kept' {w w' : World} {v : Value} {bs : List UInt8} {S : List Nat} (h : BytesAt w v bs) (ht : Turn S w w') (hn : bs ≠ [] → ∀ k ∈ v.ownBlock, k ∉ S) : BytesAt w' v bs := by
  by_cases h0 : bs = []
  · subst h0
    obtain ⟨a, c, e, h1, h2, h3, h4⟩ := h
    exact ⟨a, c, e, h1, h2, h3, fun j hj => absurd hj (Nat.not_lt_zero _)⟩
  · exact h.kept ht (fun k hk _ => hn h0 k hk)
theorem BytesAt.lt {w : World} {v : Value} {bs : List UInt8} (h : BytesAt w v bs) (h0 : bs ≠ []) : ∀ k ∈ v.ownBlock, k < w.heap.size := by
  obtain ⟨a, c, rfl, h1, h2, h3, h4⟩ := h
  obtain ⟨p, rfl, hc⟩ := h4 0 (List.length_pos_iff.2 h0)
  intro k hk
  simp [Value.ownBlock] at hk
  subst hk
  have := World.block_lt_of_cell? w _ hc
  rwa [add_block] at this
theorem bytes_nil (w : World) : BytesAt w (.slice none 0 0) [] := ⟨none, 0, rfl, Nat.le_refl _, Nat.zero_le _, fun _ => rfl, fun j hj => absurd hj (Nat.not_lt_zero _)⟩
theorem advA_own {a : Option Addr} {n c l l' c' : Nat} : ∀ k ∈ (Value.slice (advA a n c) l c').ownBlock, k ∈ (Value.slice a l' c).ownBlock := by
  intro k hk
  unfold advA at hk
  split at hk
  · cases a with
    | none => simp [Value.ownBlock] at hk
    | some p => simpa [Value.ownBlock] using hk
  · cases a with
    | none => simp [Value.ownBlock] at hk
    | some p => simp [Value.ownBlock, add_block] at hk ⊢; exact hk

/-- A reader in a box: what is left to read; the bytes lie below a bound. -/
def RdAt (w : World) (rb B : Nat) (l : List UInt8) : Prop :=
  ∃ sv, w.heap[rb]? = some (.cells #[sv] 118 (0, 0)) ∧ BytesAt w sv l ∧ (l ≠ [] → ∀ k ∈ sv.ownBlock, k < B)
theorem RdAt.kept {w w' : World} {rb B : Nat} {l : List UInt8} {S : List Nat} (h : RdAt w rb B l) (ht : Turn S w w') (hr : rb ∉ S) (hB : ∀ x ∈ S, B ≤ x) : RdAt w' rb B l := by
  obtain ⟨sv, h1, h2, h3⟩ := h
  exact ⟨sv, ht.heap h1 hr, h2.kept' ht (fun h0 k hk hm => by have := h3 h0 k hk; have := hB k hm; omega), h3⟩
theorem RdAt.still {w w' : World} {rb B : Nat} {l : List UInt8} (h : RdAt w rb B l) (ht : Turn [] w w') : RdAt w' rb B l := h.kept ht (by simp) (by simp)
theorem RdAt.set {w : World} {rb B : Nat} {l' : List UInt8} {sv sv' : Value} (h : w.heap[rb]? = some (.cells #[sv] 118 (0, 0))) (hB : B ≤ rb) (hb : BytesAt w sv' l') (hn : l' ≠ [] → ∀ k ∈ sv'.ownBlock, k < B) : RdAt (w.setCell ⟨rb, 0, none⟩ sv') rb B l' ∧ Turn [rb] w (w.setCell ⟨rb, 0, none⟩ sv') := by
  have ht : Turn [rb] w (w.setCell ⟨rb, 0, none⟩ sv') := (Turn.refl _ _).setCell (.inl (by simp)) _
  exact ⟨⟨sv', by simpa using heap_set h 0 sv', hb.kept' ht (fun h0 k hk => by have := hn h0 k hk; simp; omega), hn⟩, ht⟩

set_option maxHeartbeats 1000000 in
theorem number_any (w : World) (rb B : Nat) (l : List UInt8) (h : RdAt w rb B l) (hB : B ≤ rb) (hl : l.length ≤ 1000000) :
    Calls Tryz.prog 90 #[.pointer (some ⟨rb, 0, none⟩)] w fun e w' => e = .returned (.int .i64 (Bt.num l).1) ∧ RdAt w' rb B (Bt.num l).2 ∧ Turn [rb] w w' := by
  obtain ⟨sv, h1, h2, h3⟩ := h
  have H1 := hide h1
  have H2 := hide h2
  have H3 := hide h3
  obtain ⟨a, c, hsv, hlc, hcm, hc⟩ := h2.form
  subst hsv
  have c0 : w.cell? ⟨rb, 0, none⟩ = some (.slice a l.length c) := by simpa using cell_of h1 0
  have f0 : w.frozen? ⟨rb, 0, none⟩ = false := frozen_of h1 0
  have hgs := Nu.get_size (b := l)
  clear h1 h2 h3 hc
  by_cases h0 : (Nu.get l).2 = 0
  · have hn : Bt.num l = (0, []) := by unfold Bt.num; rw [if_pos h0]
    rw [hn]
    clear hn
    obtain ⟨n, s, hns⟩ : ∃ n s, Nu.get l = (n, s) := ⟨_, _, rfl⟩
    rw [hns] at h0 hgs
    simp only at h0 hgs
    subst h0
    have HNS := hide hns
    clear hns
    go_enter Tryz.func90, Tryz.ntmps90
    go_wp2_with fail
    refine (get_any _ _ l H2.out (by omega)).mono ?_
    rintro e w' ⟨rfl, rfl⟩
    rw [HNS.out]
    go_wp2
    go_ret
    exact ⟨rfl, RdAt.set H1.out hB (bytes_nil _) (by simp)⟩
  · have hn : Bt.num l = ((Nu.get l).1, l.drop (Nu.get l).2) := by unfold Bt.num; rw [if_neg h0]
    rw [hn]
    clear hn
    obtain ⟨n, s, hns⟩ : ∃ n s, Nu.get l = (n, s) := ⟨_, _, rfl⟩
    rw [hns] at h0 hgs ⊢
    simp only at h0 hgs ⊢
    have HNS := hide hns
    clear hns
    have hsl := fun w => @run_from a l.length c s (by omega) w
    go_enter Tryz.func90, Tryz.ntmps90
    go_wp2_with fail
    refine (get_any _ _ l H2.out (by omega)).mono ?_
    rintro e w' ⟨rfl, rfl⟩
    rw [HNS.out]
    go_wp2
    go_ret
    exact ⟨rfl, RdAt.set H1.out hB (by simpa using H2.out.drop (n := s) (by omega)) (fun h0 k hk => H3.out (fun e => h0 (by rw [e]; simp)) k (advA_own (l' := l.length) k hk))⟩

theorem num_len (l : List UInt8) : (Bt.num l).2.length ≤ l.length ∧ (Bt.num l).1 ≤ 1099511627776 := by
  unfold Bt.num
  have := Nu.get_size (b := l)
  split
  · simp
  · simp; omega
theorem text_len (l : List UInt8) : (Bt.text l).2.length ≤ l.length ∧ (Bt.text l).1.length ≤ l.length := by
  unfold Bt.text
  have := num_len l
  split
  · simp
  · simp; omega
set_option maxHeartbeats 1000000 in
theorem rtext_any (w : World) (rb B : Nat) (l : List UInt8) (h : RdAt w rb B l) (hB : B ≤ rb) (hl : l.length ≤ 1000000) :
    Calls Tryz.prog 101 #[.pointer (some ⟨rb, 0, none⟩)] w fun e w' => e = .returned (strV (Bt.text l).1) ∧ RdAt w' rb B (Bt.text l).2 ∧ Turn [rb] w w' := by
  have hnl := num_len l
  have HN := hide (number_any w rb B l h hB hl)
  have HT : Hid (Bt.text l = if (Bt.num l).2.length < (Bt.num l).1 then ([], []) else ((Bt.num l).2.take (Bt.num l).1, (Bt.num l).2.drop (Bt.num l).1)) := rfl
  clear h
  obtain ⟨n, r, hns⟩ : ∃ n r, Bt.num l = (n, r) := ⟨_, _, rfl⟩
  rw [hns] at HN HT hnl
  simp only at HN HT hnl
  clear hns
  by_cases hbig : r.length < n
  · have ht : Bt.text l = ([], []) := by rw [HT.out, if_pos hbig]
    rw [ht]
    clear ht
    go_enter Tryz.func101, Tryz.ntmps101
    go_wp2_with fail
    refine HN.out.mono ?_
    rintro e w1 ⟨rfl, ⟨sv, h1, h2, h3⟩, ht1⟩
    have H1 := hide h1
    have HT1 := hide ht1
    obtain ⟨a, c, hsv, hlc, hcm, hc⟩ := h2.form
    subst hsv
    have c0 : w1.cell? ⟨rb, 0, none⟩ = some (.slice a r.length c) := by simpa using cell_of h1 0
    have f0 : w1.frozen? ⟨rb, 0, none⟩ = false := frozen_of h1 0
    clear h1 h2 h3 ht1 hc
    go_wp2
    go_ret
    have hs := RdAt.set (l' := []) (sv' := .slice none 0 0) H1.out hB (bytes_nil _) (by simp)
    exact ⟨rfl, hs.1, HT1.out.same hs.2⟩
  · have ht : Bt.text l = (r.take n, r.drop n) := by rw [HT.out, if_neg hbig]
    rw [ht]
    clear ht
    go_enter Tryz.func101, Tryz.ntmps101
    go_wp2_with fail
    refine HN.out.mono ?_
    rintro e w1 ⟨rfl, ⟨sv, h1, h2, h3⟩, ht1⟩
    have H1 := hide h1
    have H2 := hide h2
    have H3 := hide h3
    have HT1 := hide ht1
    obtain ⟨a, c, hsv, hlc, hcm, hc⟩ := h2.form
    subst hsv
    have c0 : w1.cell? ⟨rb, 0, none⟩ = some (.slice a r.length c) := by simpa using cell_of h1 0
    have f0 : w1.frozen? ⟨rb, 0, none⟩ = false := frozen_of h1 0
    have hst := fun w => @run_to a r.length c n (by omega) w
    have hsf := fun w => @run_from a r.length c n (by omega) w
    have hcv := (H2.out.take (n := n) (by omega)).conv
    clear h1 h2 h3 ht1 hc
    go_wp2
    go_ret
    have hs := RdAt.set (l' := r.drop n) (sv' := .slice (advA a n c) (r.length - n) (c - n)) H1.out hB (H2.out.drop (n := n) (by omega)) (fun h0 k hk => H3.out (fun e => h0 (by rw [e]; simp)) k (advA_own (l' := r.length) k hk))
    exact ⟨rfl, hs.1, HT1.out.same hs.2⟩

/-! ### a record -/
def zeroRec : Array Value := #[.int .i64 0, .int .i64 0, .bool false, .string ⟨#[]⟩, .bool false, .string ⟨#[]⟩]
/-- Where the reading of a record stands: its own box, the box of what it answers, the reader. -/
structure St (w0 w : World) (rb B X Y : Nat) (cs : Array Value) (l : List UInt8) : Prop where
  x : w.heap[X]? = some (.cells cs 53 (0, 0))
  y : w.heap[Y]? = some (.cells zeroRec 53 (0, 0))
  rd : RdAt w rb B l
  turn : Turn [rb, X, Y] w0 w
theorem St.num {w0 w w' : World} {rb B X Y : Nat} {cs : Array Value} {l l' : List UInt8} (h : St w0 w rb B X Y cs l) (ht : Turn [rb] w w') (hrd : RdAt w' rb B l') (hx : X ≠ rb) (hy : Y ≠ rb) : St w0 w' rb B X Y cs l' :=
  ⟨ht.heap h.x (by simpa using hx), ht.heap h.y (by simpa using hy), hrd, h.turn.trans ht (fun k hk => .inl (by simp at hk ⊢; exact .inl hk))⟩
theorem St.set {w0 w : World} {rb B X Y : Nat} {cs : Array Value} {l : List UInt8} (h : St w0 w rb B X Y cs l) (i : Nat) (v : Value) (hx : X ≠ rb) (hxy : X ≠ Y) (hB : B ≤ X) : St w0 (w.setCell ⟨X, i, none⟩ v) rb B X Y (cs.setIfInBounds i v) l := by
  have ht : Turn [X] w (w.setCell ⟨X, i, none⟩ v) := (Turn.refl _ _).setCell (.inl (by simp)) _
  exact ⟨heap_set h.x i v, ht.heap h.y (by simpa using fun e => hxy e.symm), h.rd.kept ht (by simpa using fun e => hx e.symm) (by simpa using hB), h.turn.trans ht (fun k hk => .inl (by simp at hk ⊢; exact .inr (.inl hk)))⟩
theorem St.cells {w0 w : World} {rb B X Y : Nat} {c0 c1 c2 c3 c4 c5 : Value} {l : List UInt8} (h : St w0 w rb B X Y #[c0, c1, c2, c3, c4, c5] l) :
    (w.cell? ⟨X, 0, none⟩ = some c0 ∧ w.cell? ⟨X, 1, none⟩ = some c1 ∧ w.cell? ⟨X, 2, none⟩ = some c2 ∧ w.cell? ⟨X, 3, none⟩ = some c3 ∧ w.cell? ⟨X, 4, none⟩ = some c4 ∧ w.cell? ⟨X, 5, none⟩ = some c5) ∧
    (w.frozen? ⟨X, 0, none⟩ = false ∧ w.frozen? ⟨X, 1, none⟩ = false ∧ w.frozen? ⟨X, 2, none⟩ = false ∧ w.frozen? ⟨X, 3, none⟩ = false ∧ w.frozen? ⟨X, 4, none⟩ = false ∧ w.frozen? ⟨X, 5, none⟩ = false) :=
  ⟨⟨by simpa using cell_of h.x 0, by simpa using cell_of h.x 1, by simpa using cell_of h.x 2, by simpa using cell_of h.x 3, by simpa using cell_of h.x 4, by simpa using cell_of h.x 5⟩,
   frozen_of h.x 0, frozen_of h.x 1, frozen_of h.x 2, frozen_of h.x 3, frozen_of h.x 4, frozen_of h.x 5⟩
theorem St.ycells {w0 w : World} {rb B X Y : Nat} {cs : Array Value} {l : List UInt8} (h : St w0 w rb B X Y cs l) :
    (w.cell? ⟨Y, 0, none⟩ = some (.int .i64 0) ∧ w.cell? ⟨Y, 1, none⟩ = some (.int .i64 0) ∧ w.cell? ⟨Y, 2, none⟩ = some (.bool false) ∧ w.cell? ⟨Y, 3, none⟩ = some (.string ⟨#[]⟩) ∧ w.cell? ⟨Y, 4, none⟩ = some (.bool false) ∧ w.cell? ⟨Y, 5, none⟩ = some (.string ⟨#[]⟩)) ∧
    (w.frozen? ⟨Y, 0, none⟩ = false ∧ w.frozen? ⟨Y, 1, none⟩ = false ∧ w.frozen? ⟨Y, 2, none⟩ = false ∧ w.frozen? ⟨Y, 3, none⟩ = false ∧ w.frozen? ⟨Y, 4, none⟩ = false ∧ w.frozen? ⟨Y, 5, none⟩ = false) :=
  ⟨⟨by simpa [zeroRec] using cell_of h.y 0, by simpa [zeroRec] using cell_of h.y 1, by simpa [zeroRec] using cell_of h.y 2, by simpa [zeroRec] using cell_of h.y 3, by simpa [zeroRec] using cell_of h.y 4, by simpa [zeroRec] using cell_of h.y 5⟩,
   frozen_of h.y 0, frozen_of h.y 1, frozen_of h.y 2, frozen_of h.y 3, frozen_of h.y 4, frozen_of h.y 5⟩

theorem and_one_ne (n : Nat) (h : n ≤ 1099511627776) : (bits .and .i64 (n : Int) 1 != 0) = decide (n % 2 = 1) := by
  have e : bits .and .i64 (n : Int) 1 = ((n % 2 : Nat) : Int) := by
    show IntKind.i64.wrap ((BitVec.ofInt 64 (n : Int) &&& BitVec.ofInt 64 ((1 : Nat) : Int)).toNat : Int) = _
    rw [BitVec.toNat_and, ofInt_u64 n (by omega), ofInt_u64 1 (by omega), Nat.and_one_is_mod, IntWalk.i64_left, IntWalk.wrap64_in _ (by omega)]
  rw [e]
  by_cases q : n % 2 = 1
  · simp [q]
  · have : n % 2 = 0 := by omega
    simp [this]
theorem nat_and_two (n : Nat) : n &&& 2 = n / 2 % 2 * 2 := by
  apply Nat.eq_of_testBit_eq
  intro i
  rw [Nat.testBit_and, show (2 : Nat) = 2 ^ 1 from rfl, Nat.testBit_two_pow, Nat.testBit_mul_two_pow]
  by_cases h1 : i = 1
  · subst h1
    simp [Nat.testBit_eq_decide_div_mod_eq]
  · have : ¬ 1 = i := fun e => h1 e.symm
    simp only [this, decide_false, Bool.and_false]
    rcases Nat.eq_zero_or_pos i with rfl | hi
    · simp
    · have h2 : (n / 2 ^ 1 % 2 ^ 1).testBit (i - 1) = false := Nat.testBit_lt_two_pow (Nat.lt_of_lt_of_le (Nat.mod_lt _ (by omega)) (Nat.pow_le_pow_right (by omega) (by omega)))
      simp [h2]
theorem and_two_ne (n : Nat) (h : n ≤ 1099511627776) : (bits .and .i64 (n : Int) 2 != 0) = decide (n / 2 % 2 = 1) := by
  have e : bits .and .i64 (n : Int) 2 = ((n / 2 % 2 * 2 : Nat) : Int) := by
    show IntKind.i64.wrap ((BitVec.ofInt 64 (n : Int) &&& BitVec.ofInt 64 ((2 : Nat) : Int)).toNat : Int) = _
    rw [BitVec.toNat_and, ofInt_u64 n (by omega), ofInt_u64 2 (by omega), nat_and_two, IntWalk.i64_left, IntWalk.wrap64_in _ (by omega)]
  rw [e]
  by_cases q : n / 2 % 2 = 1
  · simp [q]
  · have : n / 2 % 2 = 0 := by omega
    simp [this]
theorem St.fin {w0 w : World} {rb B X Y : Nat} {cs : Array Value} {l : List UInt8} (h : St w0 w rb B X Y cs l) (hy : Y ≠ rb) (hB : B ≤ Y) (v0 v1 v2 v3 v4 v5 : Value) :
    RdAt ((((((w.setCell ⟨Y, 0, none⟩ v0).setCell ⟨Y, 1, none⟩ v1).setCell ⟨Y, 2, none⟩ v2).setCell ⟨Y, 3, none⟩ v3).setCell ⟨Y, 4, none⟩ v4).setCell ⟨Y, 5, none⟩ v5) rb B l ∧
    Turn [rb, X, Y] w0 ((((((w.setCell ⟨Y, 0, none⟩ v0).setCell ⟨Y, 1, none⟩ v1).setCell ⟨Y, 2, none⟩ v2).setCell ⟨Y, 3, none⟩ v3).setCell ⟨Y, 4, none⟩ v4).setCell ⟨Y, 5, none⟩ v5) := by
  have ht : Turn [Y] w ((((((w.setCell ⟨Y, 0, none⟩ v0).setCell ⟨Y, 1, none⟩ v1).setCell ⟨Y, 2, none⟩ v2).setCell ⟨Y, 3, none⟩ v3).setCell ⟨Y, 4, none⟩ v4).setCell ⟨Y, 5, none⟩ v5) :=
    ((((((Turn.refl _ _).setCell (.inl (by simp)) _).setCell (.inl (by simp)) _).setCell (.inl (by simp)) _).setCell (.inl (by simp)) _).setCell (.inl (by simp)) _).setCell (.inl (by simp)) _
  exact ⟨h.rd.kept ht (by simpa using fun e => hy e.symm) (by simpa using hB), h.turn.trans ht (fun k hk => .inl (by simp at hk ⊢; exact .inr (.inr hk)))⟩
theorem load_box {w : World} {Y : Nat} {r : Bt.Rec} (h : w.heap[Y]? = some (.cells (recC r).toArray 53 (0, 0))) : (loadVar 53 ⟨Y, 0, none⟩).run Tryz.prog w = .ok (recV r) w := by
  refine load_rec fun i u hu => ?_
  rw [addr_add, cell_of h]
  simpa using hu
theorem St.load {w0 w : World} {rb B X Y : Nat} {cs : Array Value} {l : List UInt8} (h : St w0 w rb B X Y cs l) (r : Bt.Rec) :
    (loadVar 53 ⟨Y, 0, none⟩).run Tryz.prog ((((((w.setCell ⟨Y, 0, none⟩ (.int .i64 r.off)).setCell ⟨Y, 1, none⟩ (.int .i64 r.time)).setCell ⟨Y, 2, none⟩ (.bool r.keyed)).setCell ⟨Y, 3, none⟩ (strV r.key)).setCell ⟨Y, 4, none⟩ (.bool r.gone)).setCell ⟨Y, 5, none⟩ (strV r.value))
      = .ok (recV r) ((((((w.setCell ⟨Y, 0, none⟩ (.int .i64 r.off)).setCell ⟨Y, 1, none⟩ (.int .i64 r.time)).setCell ⟨Y, 2, none⟩ (.bool r.keyed)).setCell ⟨Y, 3, none⟩ (strV r.key)).setCell ⟨Y, 4, none⟩ (.bool r.gone)).setCell ⟨Y, 5, none⟩ (strV r.value)) := by
  refine load_box ?_
  have := heap_set (heap_set (heap_set (heap_set (heap_set (heap_set h.y 0 (.int .i64 r.off)) 1 (.int .i64 r.time)) 2 (.bool r.keyed)) 3 (strV r.key)) 4 (.bool r.gone)) 5 (strV r.value)
  simpa [zeroRec, recC] using this
set_option maxHeartbeats 4000000 in
theorem record_any (w : World) (rb B : Nat) (l : List UInt8) (h : RdAt w rb B l) (hB : B ≤ rb) (hl : l.length ≤ 1000000) (base : Int) (hb0 : 0 ≤ base) (hb1 : base ≤ 1099511627776) :
    Calls Tryz.prog 91 #[.pointer (some ⟨rb, 0, none⟩), .int .i64 base] w fun e w' => e = .returned (recV (Bt.rec1 base l).1) ∧ RdAt w' rb B (Bt.rec1 base l).2 ∧ Turn [rb] w w' := by
  have hrb : rb < w.heap.size := by obtain ⟨sv, h1, -⟩ := h; exact lt_of_heap h1
  have h1 : St ((w.alloc (.cells zeroRec 53)).alloc (.cells zeroRec 53)) ((w.alloc (.cells zeroRec 53)).alloc (.cells zeroRec 53)) rb B (w.heap.size + 1) w.heap.size zeroRec l := by
    refine ⟨by simpa using heap_new (w.alloc (.cells zeroRec 53)) _, ?_, h.still (((Turn.refl [] w).alloc _).alloc _), Turn.refl _ _⟩
    exact ((Turn.refl [] (w.alloc (.cells zeroRec 53))).alloc _).heap (heap_new w _) (by simp)
  obtain ⟨n0, r0, e0⟩ : ∃ n r, Bt.num l = (n, r) := ⟨_, _, rfl⟩
  obtain ⟨n1, r1, e1⟩ : ∃ n r, Bt.num r0 = (n, r) := ⟨_, _, rfl⟩
  obtain ⟨n2, r2, e2⟩ : ∃ n r, Bt.num r1 = (n, r) := ⟨_, _, rfl⟩
  have g0 := num_len l
  have g1 := num_len r0
  have g2 := num_len r1
  rw [e0] at g0
  rw [e1] at g1
  rw [e2] at g2
  simp only at g0 g1 g2
  have E0 := hide e0
  have E1 := hide e1
  have E2 := hide e2
  obtain ⟨W0, hW0⟩ : ∃ W0, W0 = (w.alloc (.cells zeroRec 53)).alloc (.cells zeroRec 53) := ⟨_, rfl⟩
  rw [← hW0] at h1
  have htw : Turn [] w W0 := by rw [hW0]; exact ((Turn.refl [] w).alloc _).alloc _
  have HW0 := hide hW0
  have HTW := hide htw
  have H1 := hide h1
  have hx1 : w.heap.size + 1 ≠ rb := by omega
  have hy1 : w.heap.size ≠ rb := by omega
  have hxy : w.heap.size + 1 ≠ w.heap.size := by omega
  have hxB : B ≤ w.heap.size + 1 := by omega
  have hk1 : (bits .and .i64 (n2 : Int) 1 != 0) = decide (n2 % 2 = 1) := and_one_ne n2 g2.2
  have hk2 : (bits .and .i64 (n2 : Int) 2 != 0) = decide (n2 / 2 % 2 = 1) := and_two_ne n2 g2.2
  obtain ⟨kd, hkd⟩ : ∃ kd, decide (n2 % 2 = 1) = kd := ⟨_, rfl⟩
  obtain ⟨gd, hgd⟩ : ∃ gd, decide (n2 / 2 % 2 = 1) = gd := ⟨_, rfl⟩
  rw [hkd] at hk1
  rw [hgd] at hk2
  have HE : Hid (Bt.rec1 base l = (⟨base + n0, n1, kd, (if kd then (Bt.text r2).1 else []), gd, (if gd then [] else (Bt.text (if kd then (Bt.text r2).2 else r2)).1)⟩, if gd then (if kd then (Bt.text r2).2 else r2) else (Bt.text (if kd then (Bt.text r2).2 else r2)).2)) := by
    show _ = _
    unfold Bt.rec1
    simp only [e0, e1, e2, hkd, hgd]
    subst hkd; subst hgd
    by_cases q1 : n2 % 2 = 1 <;> by_cases q2 : n2 / 2 % 2 = 1 <;> simp [q1, q2]
  clear h h1 e0 e1 e2 hkd hgd hW0 htw
  go_enter Tryz.func91, Tryz.ntmps91
  go_wp2_with fail
  rw [show (w.alloc (.cells #[.int .i64 0, .int .i64 0, .bool false, .string ⟨#[]⟩, .bool false, .string ⟨#[]⟩] 53)).alloc (.cells #[.int .i64 0, .int .i64 0, .bool false, .string ⟨#[]⟩, .bool false, .string ⟨#[]⟩] 53) = W0 from HW0.out.symm]
  refine (number_any _ rb B l H1.out.rd hB hl).mono ?_
  rintro e w1 ⟨rfl, hr1, ht1⟩
  rw [E0.out] at hr1 ⊢
  have H2 := hide (H1.out.num ht1 hr1 hx1 hy1)
  clear hr1 ht1
  obtain ⟨⟨c0, c1, c2, c3, c4, c5⟩, ⟨f0, f1, f2, f3, f4, f5⟩⟩ := H2.out.cells
  go_wp2_with fail
  have H3 : Hid (St W0 (w1.setCell ⟨w.heap.size + 1, 0, none⟩ (.int .i64 (base + n0))) rb B (w.heap.size + 1) w.heap.size #[.int .i64 (base + n0), .int .i64 0, .bool false, .string ⟨#[]⟩, .bool false, .string ⟨#[]⟩] r0) := hide (by simpa [zeroRec] using H2.out.set 0 (.int .i64 (base + n0)) hx1 hxy hxB)
  refine (number_any _ rb B r0 H3.out.rd hB (by omega)).mono ?_
  rintro e w2 ⟨rfl, hr2, ht2⟩
  rw [E1.out] at hr2 ⊢
  have H4 := hide (H3.out.num ht2 hr2 hx1 hy1)
  clear hr2 ht2 c0 c1 c2 c3 c4 c5 f0 f1 f2 f3 f4 f5
  obtain ⟨⟨c0, c1, c2, c3, c4, c5⟩, ⟨f0, f1, f2, f3, f4, f5⟩⟩ := H4.out.cells
  go_wp2_with fail
  have H5 : Hid (St W0 (w2.setCell ⟨w.heap.size + 1, 1, none⟩ (.int .i64 n1)) rb B (w.heap.size + 1) w.heap.size #[.int .i64 (base + n0), .int .i64 n1, .bool false, .string ⟨#[]⟩, .bool false, .string ⟨#[]⟩] r1) := hide (by simpa [zeroRec] using H4.out.set 1 (.int .i64 n1) hx1 hxy hxB)
  refine (number_any _ rb B r1 H5.out.rd hB (by omega)).mono ?_
  rintro e w3 ⟨rfl, hr3, ht3⟩
  rw [E2.out] at hr3 ⊢
  have H6 := hide (H5.out.num ht3 hr3 hx1 hy1)
  clear hr3 ht3 c0 c1 c2 c3 c4 c5 f0 f1 f2 f3 f4 f5
  obtain ⟨⟨c0, c1, c2, c3, c4, c5⟩, ⟨f0, f1, f2, f3, f4, f5⟩⟩ := H6.out.cells
  have hcl := text_len r2
  cases kd <;> cases gd
  · have H7 : Hid (St W0 ((w3.setCell ⟨w.heap.size + 1, 2, none⟩ (.bool false)).setCell ⟨w.heap.size + 1, 4, none⟩ (.bool false)) rb B (w.heap.size + 1) w.heap.size #[.int .i64 (base + n0), .int .i64 n1, .bool false, .string ⟨#[]⟩, .bool false, .string ⟨#[]⟩] r2) := hide (by simpa [zeroRec] using (H6.out.set 2 (.bool false) hx1 hxy hxB).set 4 (.bool false) hx1 hxy hxB)
    go_wp2_with fail
    refine (rtext_any _ rb B (r2) H7.out.rd hB (by omega)).mono ?_
    rintro e w4 ⟨rfl, hr, ht⟩
    have H8 := hide (H7.out.num ht hr hx1 hy1)
    clear hr ht c0 c1 c2 c3 c4 c5 f0 f1 f2 f3 f4 f5
    obtain ⟨⟨c0, c1, c2, c3, c4, c5⟩, ⟨f0, f1, f2, f3, f4, f5⟩⟩ := H8.out.cells
    unfold strV
    have H9 : Hid (St W0 (w4.setCell ⟨w.heap.size + 1, 5, none⟩ (.string ⟨(Bt.text (r2)).1.toArray⟩)) rb B (w.heap.size + 1) w.heap.size #[.int .i64 (base + n0), .int .i64 n1, .bool false, .string ⟨#[]⟩, .bool false, .string ⟨(Bt.text (r2)).1.toArray⟩] (Bt.text (r2)).2) := hide (by simpa [zeroRec] using H8.out.set 5 (.string ⟨(Bt.text (r2)).1.toArray⟩) hx1 hxy hxB)
    obtain ⟨⟨d0, d1, d2, d3, d4, d5⟩, ⟨y0, y1, y2, y3, y4, y5⟩⟩ := H8.out.ycells
    go_wp2
    have hld := H9.out.load ⟨base + n0, n1, false, [], false, (Bt.text r2).1⟩
    simp only [strV] at hld
    refine bodyPost_ret (v := recV ⟨base + n0, n1, false, [], false, (Bt.text r2).1⟩) (by simp [results, Tryz.results91, asAddr, hld, Result.andThen, recV, strV]) rfl ?_
    have hf := H9.out.fin hy1 (by omega) (.int .i64 (base + n0)) (.int .i64 n1) (.bool false) (strV []) (.bool false) (strV (Bt.text r2).1)
    rw [HE.out]
    exact ⟨rfl, hf.1, (HTW.out.mono (by simp)).trans hf.2 (fun k hk => by simp at hk ⊢; omega)⟩
  · have H7 : Hid (St W0 ((w3.setCell ⟨w.heap.size + 1, 2, none⟩ (.bool false)).setCell ⟨w.heap.size + 1, 4, none⟩ (.bool true)) rb B (w.heap.size + 1) w.heap.size #[.int .i64 (base + n0), .int .i64 n1, .bool false, .string ⟨#[]⟩, .bool true, .string ⟨#[]⟩] r2) := hide (by simpa [zeroRec] using (H6.out.set 2 (.bool false) hx1 hxy hxB).set 4 (.bool true) hx1 hxy hxB)
    obtain ⟨⟨d0, d1, d2, d3, d4, d5⟩, ⟨y0, y1, y2, y3, y4, y5⟩⟩ := H6.out.ycells
    go_wp2
    have hld := H7.out.load ⟨base + n0, n1, false, [], true, []⟩
    simp only [strV] at hld
    refine bodyPost_ret (v := recV ⟨base + n0, n1, false, [], true, []⟩) (by simp [results, Tryz.results91, asAddr, hld, Result.andThen, recV, strV]) rfl ?_
    have hf := H7.out.fin hy1 (by omega) (.int .i64 (base + n0)) (.int .i64 n1) (.bool false) (strV []) (.bool true) (strV [])
    rw [HE.out]
    exact ⟨rfl, hf.1, (HTW.out.mono (by simp)).trans hf.2 (fun k hk => by simp at hk ⊢; omega)⟩
  · have H7 : Hid (St W0 ((w3.setCell ⟨w.heap.size + 1, 2, none⟩ (.bool true)).setCell ⟨w.heap.size + 1, 4, none⟩ (.bool false)) rb B (w.heap.size + 1) w.heap.size #[.int .i64 (base + n0), .int .i64 n1, .bool true, .string ⟨#[]⟩, .bool false, .string ⟨#[]⟩] r2) := hide (by simpa [zeroRec] using (H6.out.set 2 (.bool true) hx1 hxy hxB).set 4 (.bool false) hx1 hxy hxB)
    go_wp2_with fail
    refine (rtext_any _ rb B (r2) H7.out.rd hB (by omega)).mono ?_
    rintro e w4 ⟨rfl, hr, ht⟩
    have H8 := hide (H7.out.num ht hr hx1 hy1)
    clear hr ht c0 c1 c2 c3 c4 c5 f0 f1 f2 f3 f4 f5
    obtain ⟨⟨c0, c1, c2, c3, c4, c5⟩, ⟨f0, f1, f2, f3, f4, f5⟩⟩ := H8.out.cells
    unfold strV
    have H9 : Hid (St W0 (w4.setCell ⟨w.heap.size + 1, 3, none⟩ (.string ⟨(Bt.text (r2)).1.toArray⟩)) rb B (w.heap.size + 1) w.heap.size #[.int .i64 (base + n0), .int .i64 n1, .bool true, .string ⟨(Bt.text (r2)).1.toArray⟩, .bool false, .string ⟨#[]⟩] (Bt.text (r2)).2) := hide (by simpa [zeroRec] using H8.out.set 3 (.string ⟨(Bt.text (r2)).1.toArray⟩) hx1 hxy hxB)
    go_wp2_with fail
    refine (rtext_any _ rb B ((Bt.text (r2)).2) H9.out.rd hB (by omega)).mono ?_
    rintro e w5 ⟨rfl, hr, ht⟩
    have H10 := hide (H9.out.num ht hr hx1 hy1)
    clear hr ht c0 c1 c2 c3 c4 c5 f0 f1 f2 f3 f4 f5
    obtain ⟨⟨c0, c1, c2, c3, c4, c5⟩, ⟨f0, f1, f2, f3, f4, f5⟩⟩ := H10.out.cells
    unfold strV
    have H11 : Hid (St W0 (w5.setCell ⟨w.heap.size + 1, 5, none⟩ (.string ⟨(Bt.text ((Bt.text (r2)).2)).1.toArray⟩)) rb B (w.heap.size + 1) w.heap.size #[.int .i64 (base + n0), .int .i64 n1, .bool true, .string ⟨(Bt.text (r2)).1.toArray⟩, .bool false, .string ⟨(Bt.text ((Bt.text (r2)).2)).1.toArray⟩] (Bt.text ((Bt.text (r2)).2)).2) := hide (by simpa [zeroRec] using H10.out.set 5 (.string ⟨(Bt.text ((Bt.text (r2)).2)).1.toArray⟩) hx1 hxy hxB)
    obtain ⟨⟨d0, d1, d2, d3, d4, d5⟩, ⟨y0, y1, y2, y3, y4, y5⟩⟩ := H10.out.ycells
    go_wp2
    have hld := H11.out.load ⟨base + n0, n1, true, (Bt.text r2).1, false, (Bt.text (Bt.text r2).2).1⟩
    simp only [strV] at hld
    refine bodyPost_ret (v := recV ⟨base + n0, n1, true, (Bt.text r2).1, false, (Bt.text (Bt.text r2).2).1⟩) (by simp [results, Tryz.results91, asAddr, hld, Result.andThen, recV, strV]) rfl ?_
    have hf := H11.out.fin hy1 (by omega) (.int .i64 (base + n0)) (.int .i64 n1) (.bool true) (strV (Bt.text r2).1) (.bool false) (strV (Bt.text (Bt.text r2).2).1)
    rw [HE.out]
    exact ⟨rfl, hf.1, (HTW.out.mono (by simp)).trans hf.2 (fun k hk => by simp at hk ⊢; omega)⟩
  · have H7 : Hid (St W0 ((w3.setCell ⟨w.heap.size + 1, 2, none⟩ (.bool true)).setCell ⟨w.heap.size + 1, 4, none⟩ (.bool true)) rb B (w.heap.size + 1) w.heap.size #[.int .i64 (base + n0), .int .i64 n1, .bool true, .string ⟨#[]⟩, .bool true, .string ⟨#[]⟩] r2) := hide (by simpa [zeroRec] using (H6.out.set 2 (.bool true) hx1 hxy hxB).set 4 (.bool true) hx1 hxy hxB)
    go_wp2_with fail
    refine (rtext_any _ rb B (r2) H7.out.rd hB (by omega)).mono ?_
    rintro e w4 ⟨rfl, hr, ht⟩
    have H8 := hide (H7.out.num ht hr hx1 hy1)
    clear hr ht c0 c1 c2 c3 c4 c5 f0 f1 f2 f3 f4 f5
    obtain ⟨⟨c0, c1, c2, c3, c4, c5⟩, ⟨f0, f1, f2, f3, f4, f5⟩⟩ := H8.out.cells
    unfold strV
    have H9 : Hid (St W0 (w4.setCell ⟨w.heap.size + 1, 3, none⟩ (.string ⟨(Bt.text (r2)).1.toArray⟩)) rb B (w.heap.size + 1) w.heap.size #[.int .i64 (base + n0), .int .i64 n1, .bool true, .string ⟨(Bt.text (r2)).1.toArray⟩, .bool true, .string ⟨#[]⟩] (Bt.text (r2)).2) := hide (by simpa [zeroRec] using H8.out.set 3 (.string ⟨(Bt.text (r2)).1.toArray⟩) hx1 hxy hxB)
    obtain ⟨⟨d0, d1, d2, d3, d4, d5⟩, ⟨y0, y1, y2, y3, y4, y5⟩⟩ := H8.out.ycells
    go_wp2
    have hld := H9.out.load ⟨base + n0, n1, true, (Bt.text r2).1, true, []⟩
    simp only [strV] at hld
    refine bodyPost_ret (v := recV ⟨base + n0, n1, true, (Bt.text r2).1, true, []⟩) (by simp [results, Tryz.results91, asAddr, hld, Result.andThen, recV, strV]) rfl ?_
    have hf := H9.out.fin hy1 (by omega) (.int .i64 (base + n0)) (.int .i64 n1) (.bool true) (strV (Bt.text r2).1) (.bool true) (strV [])
    rw [HE.out]
    exact ⟨rfl, hf.1, (HTW.out.mono (by simp)).trans hf.2 (fun k hk => by simp at hk ⊢; omega)⟩
end Go.Proofs.YtjbpladooohpdaaGreatDoor

/- record.Put: a number's bytes behind a row. -/
namespace Go.Proofs.YtjbpladooohpdaaGreatDoor
open Go.RowKit Go.Maps
set_option maxRecDepth 100000
set_option linter.unusedSimpArgs false
set_option linter.unusedVariables false

theorem Tryz.infoB : (Tryz.prog.info? 5).map (fun i => (i.zero, i.size, i.bytes)) = some (some (.int .u8 0), 1, 1) := by kernel_rfl
theorem infoB_parts : ∃ i, Tryz.prog.info? 5 = some i ∧ i.zero = some (.int .u8 0) ∧ i.size = 1 ∧ i.bytes = 1 := by
  have h := Tryz.infoB
  cases hi : Tryz.prog.info? 5 with
  | none => rw [hi] at h; cases h
  | some i =>
    rw [hi] at h
    simp only [Option.map_some, Option.some.injEq, Prod.mk.injEq] at h
    exact ⟨i, rfl, h.1, h.2.1, h.2.2⟩
/-- A new row of bytes. -/
theorem fresh_row (w : World) (bs : List UInt8) (b : Nat) (cs : Array Value) (hb : w.heap[b]? = some (.cells cs 5 (0, 0))) (hc : cs = (bs.map encB).toArray) (c : Nat) : SliceAt w (.slice (some ⟨b, 0, none⟩) bs.length c) (bs.map encB) := by
  refine .inr ⟨⟨b, 0, none⟩, c, by simp, fun j u hu => ?_⟩
  rw [addr_add, cell_of hb, hc]
  simpa using hu

theorem put_byte (m : Nat) : bits .or .u8 ((m : Int) % 256) 128 = ((UInt8.ofNat (m % 128 + 128)).toNat : Int) := by
  have h := u8_or_nat (m % 256) 128 (by omega) (by omega)
  have e : ((m % 256 : Nat) : Int) = (m : Int) % 256 := by omega
  rw [e] at h
  have h' : bits .or .u8 ((m : Int) % 256) 128 = ((m % 256 ||| 128 : Nat) : Int) := h
  rw [h']
  have : ∀ i : Fin 256, i.val ||| 128 = i.val % 128 + 128 := by decide
  have := this ⟨m % 256, by omega⟩
  simp only at this
  rw [this]
  simp; omega

set_option maxHeartbeats 1000000 in
theorem put_any (w : World) (base : Nat) (v : Value) (bs : List UInt8) (hrow : RowAt w 5 base v bs) (hbase : base ≤ w.heap.size) (n : Nat) (hn : n ≤ 1099511627776) (hl : bs.length ≤ 549755813888) :
    Calls Tryz.prog 64 #[v, .int .i64 n] w fun e w' => ∃ v', e = .returned v' ∧ RowAt w' 5 base v' (bs ++ Nu.put n) ∧ Turn v.ownBlock.toList w w' ∧ (∀ k ∈ v'.ownBlock, k ∈ v.ownBlock ∨ w.heap.size ≤ k) := by
  obtain ⟨i0, hi, hz, hz1, hz2⟩ := infoB_parts
  have HR : Hid (RowAt w 5 base v bs) := hrow
  clear hrow
  go_enter Tryz.func64, Tryz.ntmps64
  go_wp2
  go_loopw [0, 5] (fun s u wr => ∃ (m : Nat) (pre : List UInt8), m ≤ n ∧ u = .int .u64 m ∧ pre ++ Nu.put m = Nu.put n ∧ RowAt wr 5 base s (bs ++ pre) ∧ Turn v.ownBlock.toList w wr ∧ (∀ k ∈ s.ownBlock, k ∈ v.ownBlock ∨ w.heap.size ≤ k)) (fun _ u _ => (intOf u).toNat)
  case atStart => exact ⟨n, [], Nat.le_refl _, rfl, rfl, by simpa using HR.out, Turn.refl _ _, fun k hk => .inl hk⟩
  case round =>
    obtain ⟨m, pre, hm, rfl, hpre, hrow, ht, hown⟩ := hrel
    have HP : Hid (pre ++ Nu.put m = Nu.put n) := hpre
    have HR2 : Hid (RowAt wr 5 base _ (bs ++ pre)) := hrow
    have HO : Hid (∀ k ∈ _, k ∈ v.ownBlock ∨ w.heap.size ≤ k) := hown
    clear hpre hrow hown
    have hpl : pre.length ≤ 6 := by
      have h1 := Nu.put_len6 hn
      rw [← HP.out] at h1
      simp at h1; omega
    have hlen : (bs ++ pre).length ≤ 1099511627775 := by simp; omega
    by_cases hbig : 128 ≤ m
    · have hbyte := put_byte m
      have HB : Hid (bits .or .u8 ((m : Int) % 256) 128 = ((UInt8.ofNat (m % 128 + 128)).toNat : Int)) := hbyte
      clear hbyte
      go_wp2_with (at_builtin; go_must (refine wpList_append_row _ rfl _ _ 23 rfl 5 base i0 Tryz.underlying23 hi hz hz1 hz2 _ (.slice (some ⟨wr.heap.size, 0, none⟩) 1 1) (bs ++ pre) [UInt8.ofNat (m % 128 + 128)] rfl rfl (HR2.out.kept ((Turn.refl [] wr).alloc _) (by simp)) (fresh_row _ [UInt8.ofNat (m % 128 + 128)] wr.heap.size _ (heap_new wr _) (by rw [HB.out]; rfl) 1) (by simp at hlen ⊢; omega) (by have := ht.size; simp; omega) ?_; intro v3 w3 hrow3 ht3 hown3; have HR3 : Hid (RowAt w3 5 base v3 (bs ++ pre ++ [UInt8.ofNat (m % 128 + 128)])) := hrow3; clear hrow3))
      refine ⟨⟨m / 128, pre ++ [UInt8.ofNat (m % 128 + 128)], by omega, by go_num, ?_, by have := HR3.out; rwa [List.append_assoc] at this, ?_, ?_⟩, ?_⟩
      · rw [← HP.out, Nu.put_big hbig]; simp
      · exact (ht.trans (T := []) ((Turn.refl [] _).alloc _) (by simp)).trans ht3 (fun k hk => by
          rcases HO.out k (by simp only [Option.mem_toList] at hk; exact hk) with h1 | h1
          · exact .inl (by simpa using h1)
          · exact .inr h1)
      · intro k hk
        rcases hown3 k hk with h1 | h1
        · exact HO.out k h1
        · have := ht.size; simp at h1; exact .inr (by omega)
      · simp only [intOf]; omega
    · have HB : Hid (((m : Nat) : Int) = ((UInt8.ofNat m).toNat : Int)) := by show _ = _; simp; omega
      go_wp2_with (at_builtin; go_must (refine wpList_append_row _ rfl _ _ 23 rfl 5 base i0 Tryz.underlying23 hi hz hz1 hz2 _ (.slice (some ⟨wr.heap.size, 0, none⟩) 1 1) (bs ++ pre) [UInt8.ofNat m] rfl rfl (HR2.out.kept ((Turn.refl [] wr).alloc _) (by simp)) (fresh_row _ [UInt8.ofNat m] wr.heap.size _ (heap_new wr _) (by rw [HB.out]; rfl) 1) (by simp at hlen ⊢; omega) (by have := ht.size; simp; omega) ?_; intro v3 w3 hrow3 ht3 hown3; have HR3 : Hid (RowAt w3 5 base v3 (bs ++ pre ++ [UInt8.ofNat m])) := hrow3; clear hrow3))
      go_ret
      refine ⟨v3, rfl, ?_, ?_, ?_⟩
      · have := HR3.out
        rw [← HP.out, Nu.put_small (by omega)]; rwa [List.append_assoc] at this
      · exact (ht.trans (T := []) ((Turn.refl [] _).alloc _) (by simp)).trans ht3 (fun k hk => by
          rcases HO.out k (by simp only [Option.mem_toList] at hk; exact hk) with h1 | h1
          · exact .inl (by simpa using h1)
          · exact .inr h1)
      · intro k hk
        rcases hown3 k hk with h1 | h1
        · exact HO.out k h1
        · have := ht.size; simp at h1; exact .inr (by omega)
end Go.Proofs.YtjbpladooohpdaaGreatDoor

/- record.Put behind a row that is full: nothing that was there turns. -/
namespace Go.Proofs.YtjbpladooohpdaaGreatDoor
open Go.RowKit Go.Maps
set_option maxRecDepth 100000
set_option linter.unusedSimpArgs false
set_option linter.unusedVariables false

/-- A row that is full, or one that has been made since. -/
def Fresh (w0 w : World) (v : Value) (bs : List UInt8) : Prop :=
  Turn [] w0 w ∧ ((∃ p, v = .slice (some p) bs.length bs.length ∧ SliceAt w v (bs.map encB)) ∨ RowAt w 5 w0.heap.size v bs)
theorem Fresh.bytes {w0 w : World} {v : Value} {bs : List UInt8} (h : Fresh w0 w v bs) : SliceAt w v (bs.map encB) := by
  rcases h.2 with ⟨p, _, h⟩ | h
  · exact h
  · exact h.cells
theorem run_append_fresh {P : Program} (t ty : Nat) (i : TypeInfo) (ht : P.underlying t = some (.slice 5)) (hi : P.info? 5 = some i) (hz : i.zero = some (.int .u8 0)) (hsize : i.size = 1) (hby : i.bytes = 1)
    (w0 w : World) (v x : Value) (bs cs : List UInt8) (hf : Fresh w0 w v bs) (hx : SliceAt w x (cs.map encB)) (h0 : cs ≠ []) (hlen : bs.length + cs.length ≤ 1099511627776) :
    ∃ v' w', (Builtin.append_ #[t, t] ty #[v, x]).run P w = .ok v' w' ∧ RowAt w' 5 w0.heap.size v' (bs ++ cs) ∧ Turn [] w0 w' := by
  obtain ⟨ht0, hr⟩ := hf
  have hs0 := ht0.size
  rcases hr with ⟨p, rfl, hsl⟩ | hr
  · have hp : 0 < cs.length := List.length_pos_iff.2 h0
    rcases hx with ⟨_, hcs⟩ | ⟨a, c, rfl, hnews⟩
    · simp at hcs; exact absurd hcs h0
    rcases hsl with ⟨h1, _⟩ | ⟨p', c', h1, hc⟩
    · cases h1
    simp only [Value.slice.injEq, Option.some.injEq] at h1
    obtain ⟨rfl, _, rfl⟩ := h1
    have hmax : maxLen = 9223372036854775807 := by simp [maxLen]
    have hl : (cs.map encB).length = cs.length * i.size := by simp [hsize]
    simp only [List.length_map] at hnews ⊢
    have hr := run_append_grow (P := P) w t ty 5 i _ ht hi hz p bs.length bs.length (bs.map encB) (by simp [hsize]) hc a cs.length c (cs.map encB) hl hnews (by omega) (by omega) (growslice_fits (by omega) (by rw [hby]; omega))
    have hge := grownCap_ge w (bs.length + cs.length) bs.length 5
    have hcm := grownCap_le_maxLen w (bs.length + cs.length) bs.length 5 (by rw [hmax]; omega)
    refine ⟨_, _, hr, .inr ⟨w.heap.size, _, _, by simp, by omega, heap_new w.drew _, by simpa using hge, ?_, hcm, ?_⟩, (ht0.drew).alloc _⟩
    · simp only [Array.size_append, List.size_toArray, List.length_map, size_zeroCells, Value.cells]
      simp; omega
    · simp only [Array.toList_append]
      rw [List.take_append_of_le_length (by simp)]
      rw [List.take_of_length_le (by simp)]
      simp
  · obtain ⟨v', w', h1, h2, h3, h4⟩ := run_append_row (P := P) w t ty 5 w0.heap.size i ht hi hz hsize hby v x bs cs hr hx hlen hs0
    refine ⟨v', w', h1, h2, ht0.trans h3 (fun k hk => .inr ?_)⟩
    exact (hr.lt k (by simpa using hk)).1
theorem wpList_append_fresh {P : Program} {ops : Array Oper} {rest : List Oper} {o : Oper} {a : Act} {Q : Exit → Act → World → Prop} {w : World} (hgd : o.guard = none) (s x : Operand) (t : TypeId)
    (ho : o.op = .call { callee := .builtin .append, args := #[s, x], argTypes := #[t, t] })
    (i : TypeInfo) (ht : P.underlying t = some (.slice 5)) (hi : P.info? 5 = some i) (hz : i.zero = some (.int .u8 0)) (hsize : i.size = 1) (hby : i.bytes = 1)
    (w0 : World) (v xv : Value) (bs cs : List UInt8) (hs : a.eval s = v) (hxe : a.eval x = xv) (hf : Fresh w0 w v bs) (hx : SliceAt w xv (cs.map encB)) (h0 : cs ≠ []) (hlen : bs.length + cs.length ≤ 1099511627776)
    (h : ∀ v' w', RowAt w' 5 w0.heap.size v' (bs ++ cs) → Turn [] w0 w' → wpList P ops Q rest (a.put o.dst v') w') : wpList P ops Q (o :: rest) a w := by
  refine wpList_plain hgd fun _ hK => ?_
  obtain ⟨v', w', hr, h2, h3⟩ := run_append_fresh (P := P) t o.type i ht hi hz hsize hby w0 w v xv bs cs hf hx h0 hlen
  unfold Oper.wp execOp
  simp only [ho, resolve, invoke, builtin, Sem.run_bind, Sem.run_pure, Result.andThen_ok, List.map_toArray, List.map_cons, List.map_nil, hs, hxe, hr]
  exact hK _ _ (h v' w' h2 h3)
/-- An append whose run is told. -/
theorem oper_append {P : Program} {o : Oper} {a : Act} {K : Act → World → Prop} {Q : Exit → Act → World → Prop} {w w' : World} {s x : Operand} {t tx : TypeId} {v xv v' : Value}
    (ho : o.op = .call { callee := .builtin .append, args := #[s, x], argTypes := #[t, tx] }) (hs : a.eval s = v) (hx : a.eval x = xv) (hr : (Builtin.append_ #[t, tx] o.type #[v, xv]).run P w = .ok v' w') (h : K (a.put o.dst v') w') : o.wp P a w K Q := by
  unfold Oper.wp execOp
  simp only [ho, resolve, invoke, builtin, Sem.run_bind, Sem.run_pure, Result.andThen_ok, List.map_toArray, List.map_cons, List.map_nil, hs, hx, hr]
  exact h
theorem wpList_append_told {P : Program} {ops : Array Oper} {rest : List Oper} {o : Oper} {a : Act} {Q : Exit → Act → World → Prop} {w w' : World} (hgd : o.guard = none) {s x : Operand} {t tx : TypeId} {v xv v' : Value}
    (ho : o.op = .call { callee := .builtin .append, args := #[s, x], argTypes := #[t, tx] }) (hs : a.eval s = v) (hx : a.eval x = xv) (hr : (Builtin.append_ #[t, tx] o.type #[v, xv]).run P w = .ok v' w') (h : wpList P ops Q rest (a.put o.dst v') w') : wpList P ops Q (o :: rest) a w :=
  wpList_plain hgd fun _ hK => oper_append ho hs hx hr (hK _ _ h)
theorem Fresh.alloc {w0 w : World} {v : Value} {bs : List UInt8} (h : Fresh w0 w v bs) (o : Obj) : Fresh w0 (w.alloc o) v bs := by
  have ht : Turn [] w (w.alloc o) := (Turn.refl _ _).alloc _
  refine ⟨h.1.same ht, ?_⟩
  rcases h.2 with ⟨p, e, h⟩ | h
  · exact .inl ⟨p, e, h.kept ht (by simp)⟩
  · exact .inr (h.kept ht (by simp))

set_option maxHeartbeats 1000000 in
theorem put_new (w : World) (p : Addr) (bs : List UInt8) (hv : SliceAt w (.slice (some p) bs.length bs.length) (bs.map encB)) (n : Nat) (hn : n ≤ 1099511627776) (hl : bs.length ≤ 549755813888) :
    Calls Tryz.prog 64 #[.slice (some p) bs.length bs.length, .int .i64 n] w fun e w' => ∃ v', e = .returned v' ∧ RowAt w' 5 w.heap.size v' (bs ++ Nu.put n) ∧ Turn [] w w' := by
  obtain ⟨i0, hi, hz, hz1, hz2⟩ := infoB_parts
  have HR : Hid (Fresh w w (.slice (some p) bs.length bs.length) bs) := ⟨Turn.refl _ _, .inl ⟨p, rfl, hv⟩⟩
  clear hv
  go_enter Tryz.func64, Tryz.ntmps64
  go_wp2
  go_loopw [0, 5] (fun s u wr => ∃ (m : Nat) (pre : List UInt8), m ≤ n ∧ u = .int .u64 m ∧ pre ++ Nu.put m = Nu.put n ∧ Fresh w wr s (bs ++ pre)) (fun _ u _ => (intOf u).toNat)
  case atStart => exact ⟨n, [], Nat.le_refl _, rfl, rfl, by simpa using HR.out⟩
  case round =>
    obtain ⟨m, pre, hm, rfl, hpre, hrow⟩ := hrel
    have HP : Hid (pre ++ Nu.put m = Nu.put n) := hpre
    have HR2 : Hid (Fresh w wr _ (bs ++ pre)) := hrow
    clear hpre hrow
    have hpl : pre.length ≤ 6 := by
      have h1 := Nu.put_len6 hn
      rw [← HP.out] at h1
      simp at h1; omega
    have hlen : (bs ++ pre).length ≤ 1099511627775 := by simp; omega
    by_cases hbig : 128 ≤ m
    · have hbyte := put_byte m
      have HB : Hid (bits .or .u8 ((m : Int) % 256) 128 = ((UInt8.ofNat (m % 128 + 128)).toNat : Int)) := hbyte
      clear hbyte
      go_wp2_with (at_builtin; go_must (refine wpList_append_fresh rfl _ _ 23 rfl i0 Tryz.underlying23 hi hz hz1 hz2 w _ (.slice (some ⟨wr.heap.size, 0, none⟩) 1 1) (bs ++ pre) [UInt8.ofNat (m % 128 + 128)] rfl rfl (HR2.out.alloc _) (fresh_row _ [UInt8.ofNat (m % 128 + 128)] wr.heap.size _ (heap_new wr _) (by rw [HB.out]; rfl) 1) (by simp) (by simp at hlen ⊢; omega) ?_; intro v3 w3 hrow3 ht3; have HR3 : Hid (Fresh w w3 v3 (bs ++ pre ++ [UInt8.ofNat (m % 128 + 128)])) := ⟨ht3, .inr hrow3⟩; clear hrow3 ht3))
      refine ⟨⟨m / 128, pre ++ [UInt8.ofNat (m % 128 + 128)], by omega, by go_num, ?_, by have := HR3.out; rwa [List.append_assoc] at this⟩, ?_⟩
      · rw [← HP.out, Nu.put_big hbig]; simp
      · simp only [intOf]; omega
    · have HB : Hid (((m : Nat) : Int) = ((UInt8.ofNat m).toNat : Int)) := by show _ = _; simp; omega
      go_wp2_with (at_builtin; go_must (refine wpList_append_fresh rfl _ _ 23 rfl i0 Tryz.underlying23 hi hz hz1 hz2 w _ (.slice (some ⟨wr.heap.size, 0, none⟩) 1 1) (bs ++ pre) [UInt8.ofNat m] rfl rfl (HR2.out.alloc _) (fresh_row _ [UInt8.ofNat m] wr.heap.size _ (heap_new wr _) (by rw [HB.out]; rfl) 1) (by simp) (by simp at hlen ⊢; omega) ?_; intro v3 w3 hrow3 ht3; have HR3 : Hid (RowAt w3 5 w.heap.size v3 (bs ++ pre ++ [UInt8.ofNat m])) := hrow3; have HT3 := hide ht3; clear hrow3 ht3))
      go_ret
      refine ⟨v3, rfl, ?_, HT3.out⟩
      have := HR3.out
      rw [← HP.out, Nu.put_small (by omega)]; rwa [List.append_assoc] at this
end Go.Proofs.YtjbpladooohpdaaGreatDoor

/- record's reader: a whole batch. -/
namespace Go.Proofs.YtjbpladooohpdaaGreatDoor
open Go.RowKit Go.Maps
set_option maxRecDepth 100000
set_option linter.unusedSimpArgs false
set_option linter.unusedVariables false

/-- A slice of records with a block of its own; behind its capacity the block may go on. -/
def RecRow (w : World) (base : Nat) (sv : Value) (rs : List Bt.Rec) : Prop :=
  (sv = .slice none 0 0 ∧ rs = []) ∨
  ∃ g cap cur, sv = .slice (some ⟨g, 0, none⟩) rs.length cap ∧ base ≤ g ∧ w.heap[g]? = some (.cells cur 53 (0, 0)) ∧ rs.length ≤ cap ∧ cap * 6 ≤ cur.size ∧ cap ≤ maxLen ∧ cur.toList.take (rs.length * 6) = rs.flatMap recC
theorem recC_len (r : Bt.Rec) : (recC r).length = 6 := rfl
theorem flat_len : ∀ (rs : List Bt.Rec), (rs.flatMap recC).length = rs.length * 6
  | [] => rfl
  | r :: rs => by rw [List.flatMap_cons, List.length_append, flat_len rs, recC_len, List.length_cons]; omega
theorem RecRow.kept {w w' : World} {base : Nat} {sv : Value} {rs : List Bt.Rec} {S : List Nat} (h : RecRow w base sv rs) (ht : Turn S w w') (hn : ∀ k ∈ sv.ownBlock, k ∉ S) : RecRow w' base sv rs := by
  rcases h with h | ⟨g, cap, cur, rfl, hb, hg, r⟩
  · exact .inl h
  · exact .inr ⟨g, cap, cur, rfl, hb, ht.heap hg (hn g (by simp [Value.ownBlock])), r⟩
theorem RecRow.lt {w : World} {base : Nat} {sv : Value} {rs : List Bt.Rec} (h : RecRow w base sv rs) : ∀ k ∈ sv.ownBlock, base ≤ k ∧ k < w.heap.size := by
  intro k hk
  rcases h with ⟨rfl, _⟩ | ⟨g, cap, cur, rfl, hb, hg, r⟩
  · simp [Value.ownBlock] at hk
  · simp [Value.ownBlock] at hk; subst hk; exact ⟨hb, lt_of_heap hg⟩
theorem RecRow.some_slice {w : World} {base : Nat} {sv : Value} {rs : List Bt.Rec} (h : RecRow w base sv rs) : ∃ a n c, sv = .slice a n c := by
  rcases h with ⟨rfl, _⟩ | ⟨g, cap, cur, rfl, r⟩
  · exact ⟨_, _, _, rfl⟩
  · exact ⟨_, _, _, rfl⟩
theorem flat_at : ∀ (rs : List Bt.Rec) (j i : Nat) (h : j < rs.length) (u : Value), (recC rs[j])[i]? = some u → (rs.flatMap recC)[j * 6 + i]? = some u
  | [], _, _, h, _, _ => by simp at h
  | r :: rs, 0, i, h, u, hu => by
    have hi : i < 6 := by have := (List.getElem?_eq_some_iff.1 hu).1; simpa [recC] using this
    rw [List.flatMap_cons, Nat.zero_mul, Nat.zero_add, List.getElem?_append_left (by rw [recC_len]; exact hi)]
    simpa using hu
  | r :: rs, j + 1, i, h, u, hu => by
    rw [List.flatMap_cons, List.getElem?_append_right (by rw [recC_len]; omega), recC_len, show (j + 1) * 6 + i - 6 = j * 6 + i by omega]
    exact flat_at rs j i (by simpa using h) u (by simpa using hu)
theorem RecRow.recs {w : World} {base : Nat} {sv : Value} {rs : List Bt.Rec} (h : RecRow w base sv rs) (ok : ∀ r ∈ rs, RecOk r) : RecsAt w sv rs := by
  rcases h with ⟨rfl, rfl⟩ | ⟨g, cap, cur, rfl, hb, hg, h1, h2, h3, h4⟩
  · exact ⟨none, 0, rfl, Nat.le_refl _, Nat.zero_le _, fun _ => rfl, fun j hj => absurd hj (Nat.not_lt_zero _)⟩
  · refine ⟨_, cap, rfl, h1, h3, by simp, fun j hj => ⟨ok _ (List.getElem_mem _), _, rfl, fun i u hu => ?_⟩⟩
    have hi : i < 6 := by have := (List.getElem?_eq_some_iff.1 hu).1; simpa [recC] using this
    rw [add_add, addr_add, cell_of hg]
    have h5 := flat_at rs j i hj u hu
    rw [← h4, List.getElem?_take_of_lt (by omega)] at h5
    simpa using h5

theorem Tryz.infoR : (Tryz.prog.info? 53).map (fun i => (i.zero.map (fun z => z.cells.size), i.size, i.bytes)) = some (some 6, 6, 64) := by kernel_rfl
theorem infoR_parts : ∃ i z, Tryz.prog.info? 53 = some i ∧ i.zero = some z ∧ z.cells.size = 6 ∧ i.size = 6 ∧ i.bytes = 64 := by
  have h := Tryz.infoR
  cases hi : Tryz.prog.info? 53 with
  | none => rw [hi] at h; cases h
  | some i =>
    rw [hi] at h
    simp only [Option.map_some, Option.some.injEq, Prod.mk.injEq, Option.map_eq_some_iff] at h
    obtain ⟨⟨z, hz, hz2⟩, h2, h3⟩ := h
    exact ⟨i, z, rfl, hz, hz2, h2, h3⟩
theorem run_append_rec (w : World) (base : Nat) (v : Value) (rs : List Bt.Rec) (r : Bt.Rec) (k : Nat) (hrow : RecRow w base v rs) (hk : w.heap[k]? = some (.cells (recC r).toArray 53 (0, 0))) (hlen : rs.length ≤ 1000000) (hbase : base ≤ w.heap.size) :
    ∃ v' w', (Builtin.append_ #[35, 35] 35 #[v, .slice (some ⟨k, 0, none⟩) 1 1]).run Tryz.prog w = .ok v' w' ∧ RecRow w' base v' (rs ++ [r]) ∧ Turn v.ownBlock.toList w w' ∧ (∀ j ∈ v'.ownBlock, j ∈ v.ownBlock ∨ w.heap.size ≤ j) := by
  obtain ⟨i, z, hi, hz, hzs, hsize, hby⟩ := infoR_parts
  have hmax : maxLen = 9223372036854775807 := by simp [maxLen]
  have hl : (recC r).length = 1 * i.size := by rw [hsize]; rfl
  have hnews : ∀ j u, (recC r)[j]? = some u → w.cell? ((⟨k, 0, none⟩ : Addr).add j) = some u := fun j u hu => by
    rw [addr_add, cell_of hk]; simpa using hu
  have hone : ∀ u ∈ recC r, u.oneCell' = true := by
    intro u hu
    simp only [recC, strV, List.mem_cons, List.not_mem_nil, or_false] at hu
    rcases hu with rfl | rfl | rfl | rfl | rfl | rfl <;> rfl
  rcases hrow with ⟨rfl, rfl⟩ | ⟨g, cap, cur, rfl, hb, hg, h1, h2, h3, h4⟩
  · have hr := run_append_nil (P := Tryz.prog) w 35 35 53 i z Tryz.underlying35 hi hz ⟨k, 0, none⟩ 1 1 (recC r) hl hnews (by omega) (by omega) (by rw [hby]; omega)
    have hge := grownCap_ge w 1 0 53
    have hcm := grownCap_le_maxLen w 1 0 53 (by rw [hmax]; omega)
    refine ⟨_, _, hr, .inr ⟨w.heap.size, _, _, by simp, hbase, heap_new w.drew _, by simpa using hge, ?_, hcm, ?_⟩, ((Turn.refl _ _).drew).alloc _, by simp [Value.ownBlock]⟩
    · simp only [Array.size_append, List.size_toArray, size_zeroCells, hzs, recC_len]
      omega
    · simp [recC]
  · have hfl : (rs.flatMap recC ++ recC r).length = (rs.length + 1) * 6 := by rw [List.length_append, flat_len, recC_len]; omega
    by_cases hroom : rs.length + 1 ≤ cap
    · have hr := run_append_room (P := Tryz.prog) w 35 35 53 i Tryz.underlying35 hi g rs.length cap cur hg ⟨k, 0, none⟩ 1 1 (recC r) hl hnews hone hroom (by rw [hsize, recC_len]; omega)
      rw [hsize] at hr
      refine ⟨_, _, hr, .inr ⟨g, cap, _, by simp, hb, setRow_heap w g cur _ 53 _ hg, by simpa using hroom, ?_, h3, ?_⟩, ⟨rfl, rfl, rfl, by simp, fun k _ hk => setRow_other w g k _ (fun e => hk (by simp [Value.ownBlock, e]))⟩, by simp [Value.ownBlock]⟩
      · simp [recC_len]; omega
      · simp only [h4, List.append_assoc]
        rw [← List.append_assoc, List.take_append_of_le_length (by rw [hfl]; simp), List.take_of_length_le (by rw [hfl]; simp)]
        simp
    · have holds : ∀ j u, (rs.flatMap recC)[j]? = some u → w.cell? ((⟨g, 0, none⟩ : Addr).add j) = some u := by
        intro j u hu
        rw [addr_add, cell_of hg]
        have hj : j < rs.length * 6 := by have := (List.getElem?_eq_some_iff.1 hu).1; rwa [flat_len] at this
        rw [← h4, List.getElem?_take_of_lt hj] at hu
        simpa using hu
      have hr := run_append_grow (P := Tryz.prog) w 35 35 53 i z Tryz.underlying35 hi hz ⟨g, 0, none⟩ rs.length cap (rs.flatMap recC) (by rw [flat_len, hsize]) holds ⟨k, 0, none⟩ 1 1 (recC r) hl hnews (by omega) (by omega) (growslice_fits (by omega) (by rw [hby]; omega))
      have hge := grownCap_ge w (rs.length + 1) cap 53
      have hcm := grownCap_le_maxLen w (rs.length + 1) cap 53 (by rw [hmax]; omega)
      refine ⟨_, _, hr, .inr ⟨w.heap.size, _, _, by simp, hbase, heap_new w.drew _, by simpa using hge, ?_, hcm, ?_⟩, ((Turn.refl _ _).drew).alloc _, by simp [Value.ownBlock]⟩
      · simp only [Array.size_append, List.size_toArray, size_zeroCells, hzs, recC_len, flat_len]
        omega
      · simp only [Array.toList_append]
        rw [List.take_append_of_le_length (by show (rs ++ [r]).length * 6 ≤ (rs.flatMap recC ++ recC r).length; rw [hfl]; simp), List.take_of_length_le (by show (rs.flatMap recC ++ recC r).length ≤ (rs ++ [r]).length * 6; rw [hfl]; simp)]
        simp
end Go.Proofs.YtjbpladooohpdaaGreatDoor

/- record's reader: batch, carried out. -/
namespace Go.Proofs.YtjbpladooohpdaaGreatDoor
open Go.RowKit Go.Maps
set_option maxRecDepth 100000
set_option linter.unusedSimpArgs false
set_option linter.unusedVariables false

theorem rec1_len (base : Int) (l : List UInt8) : (Bt.rec1 base l).2.length ≤ l.length ∧ (l ≠ [] → (Bt.rec1 base l).2.length < l.length) := by
  have a0 := num_len l
  have a1 := num_len (Bt.num l).2
  have a2 := num_len (Bt.num (Bt.num l).2).2
  have a3 := text_len (Bt.num (Bt.num (Bt.num l).2).2).2
  have a4 := text_len (Bt.text (Bt.num (Bt.num (Bt.num l).2).2).2).2
  have hlt : l ≠ [] → (Bt.num l).2.length < l.length := by
    intro h
    have hp := List.length_pos_iff.2 h
    unfold Bt.num
    have := Nu.get_size (b := l)
    split
    · simpa using hp
    · simp; omega
  have hm : (Bt.rec1 base l).2.length ≤ (Bt.num (Bt.num (Bt.num l).2).2).2.length := by
    unfold Bt.rec1
    simp only
    split <;> split <;> (try dsimp only) <;> omega
  exact ⟨by omega, fun h => by have := hlt h; omega⟩
theorem rec1_ok (base : Int) (l : List UInt8) (h0 : 0 ≤ base) (h1 : base ≤ 1099511627776) (hl : l.length ≤ 1000000) : RecOk (Bt.rec1 base l).1 := by
  have a0 := num_len l
  have a1 := num_len (Bt.num l).2
  have a2 := num_len (Bt.num (Bt.num l).2).2
  have a3 := text_len (Bt.num (Bt.num (Bt.num l).2).2).2
  have a4 := text_len (Bt.text (Bt.num (Bt.num (Bt.num l).2).2).2).2
  unfold Bt.rec1
  simp only
  refine ⟨by simp only; omega, by simp only; omega, by simp only; omega, by simp only; omega, ?_, ?_⟩
  · simp only
    split
    · omega
    · simp
  · simp only
    split
    · simp
    · split <;> (try dsimp only) <;> omega
theorem recs1_ok (base : Int) (h0 : 0 ≤ base) (h1 : base ≤ 1099511627776) : ∀ (n : Nat) (l : List UInt8), l.length ≤ 1000000 → ∀ r ∈ Bt.recs1 base n l, RecOk r
  | 0, _, _, r, hr => by simp [Bt.recs1] at hr
  | n + 1, l, hl, r, hr => by
    unfold Bt.recs1 at hr
    split at hr
    · simp at hr
    · rcases List.mem_cons.1 hr with rfl | hr
      · exact rec1_ok base l h0 h1 hl
      · exact recs1_ok base h0 h1 n _ (by have := rec1_len base l; omega) r hr

/-- Where the reading of a batch stands. -/
structure BSt (w0 w : World) (rb B X : Nat) (b f : Int) (sv : Value) (rs : List Bt.Rec) (l : List UInt8) : Prop where
  hx : w0.heap.size < X
  x : w.heap[X]? = some (.cells #[.int .i64 b, .int .i64 f, sv] 37 (0, 0))
  y : w.heap[w0.heap.size]? = some (.cells #[.int .i64 0, .int .i64 0, .slice none 0 0] 37 (0, 0))
  row : RecRow w (X + 1) sv rs
  rd : RdAt w rb B l
  turn : Turn [rb] w0 w
theorem BSt.sz {w0 w : World} {rb B X : Nat} {b f : Int} {sv : Value} {rs : List Bt.Rec} {l : List UInt8} (h : BSt w0 w rb B X b f sv rs l) : w0.heap.size < w.heap.size ∧ X < w.heap.size := ⟨Nat.lt_trans h.hx (lt_of_heap h.x), lt_of_heap h.x⟩
theorem BSt.num {w0 w w' : World} {rb B X : Nat} {b f : Int} {sv : Value} {rs : List Bt.Rec} {l l' : List UInt8} (h : BSt w0 w rb B X b f sv rs l) (ht : Turn [rb] w w') (hrd : RdAt w' rb B l') (hrb : rb < w0.heap.size) : BSt w0 w' rb B X b f sv rs l' :=
  ⟨h.hx, ht.heap h.x (by have := h.hx; simp; omega), ht.heap h.y (by simp; omega), h.row.kept ht (fun k hk => by have := (h.row.lt k hk).1; have := h.hx; simp; omega), hrd, h.turn.same ht⟩
theorem BSt.still {w0 w w' : World} {rb B X : Nat} {b f : Int} {sv : Value} {rs : List Bt.Rec} {l : List UInt8} (h : BSt w0 w rb B X b f sv rs l) (ht : Turn [] w w') : BSt w0 w' rb B X b f sv rs l :=
  ⟨h.hx, ht.heap h.x (by simp), ht.heap h.y (by simp), h.row.kept ht (by simp), h.rd.still ht, h.turn.trans ht (by simp)⟩
theorem BSt.cells {w0 w : World} {rb B X : Nat} {b f : Int} {sv : Value} {rs : List Bt.Rec} {l : List UInt8} (h : BSt w0 w rb B X b f sv rs l) :
    (w.cell? ⟨X, 0, none⟩ = some (.int .i64 b) ∧ w.cell? ⟨X, 1, none⟩ = some (.int .i64 f) ∧ w.cell? ⟨X, 2, none⟩ = some sv) ∧
    (w.frozen? ⟨X, 0, none⟩ = false ∧ w.frozen? ⟨X, 1, none⟩ = false ∧ w.frozen? ⟨X, 2, none⟩ = false) ∧
    (w.cell? ⟨w0.heap.size, 0, none⟩ = some (.int .i64 0) ∧ w.cell? ⟨w0.heap.size, 1, none⟩ = some (.int .i64 0) ∧ w.cell? ⟨w0.heap.size, 2, none⟩ = some (.slice none 0 0)) ∧
    (w.frozen? ⟨w0.heap.size, 0, none⟩ = false ∧ w.frozen? ⟨w0.heap.size, 1, none⟩ = false ∧ w.frozen? ⟨w0.heap.size, 2, none⟩ = false) :=
  ⟨⟨by simpa using cell_of h.x 0, by simpa using cell_of h.x 1, by simpa using cell_of h.x 2⟩, ⟨frozen_of h.x 0, frozen_of h.x 1, frozen_of h.x 2⟩,
   ⟨by simpa using cell_of h.y 0, by simpa using cell_of h.y 1, by simpa using cell_of h.y 2⟩, frozen_of h.y 0, frozen_of h.y 1, frozen_of h.y 2⟩
/-- The end of the batch is told. -/
theorem BSt.setF {w0 w : World} {rb B X : Nat} {b f : Int} {sv : Value} {rs : List Bt.Rec} {l : List UInt8} (h : BSt w0 w rb B X b f sv rs l) (f' : Int) (hrb : rb < w0.heap.size) (hB : B ≤ rb) : BSt w0 (w.setCell ⟨X, 1, none⟩ (.int .i64 f')) rb B X b f' sv rs l := by
  have ht : Turn [X] w (w.setCell ⟨X, 1, none⟩ (.int .i64 f')) := (Turn.refl _ _).setCell (.inl (by simp)) _
  have hx := h.hx
  exact ⟨hx, by simpa using heap_set h.x 1 (.int .i64 f'), ht.heap h.y (by simp; omega), h.row.kept ht (fun k hk => by have := (h.row.lt k hk).1; simp; omega), h.rd.kept ht (by simp; omega) (by simp; omega), h.turn.trans ht (fun k hk => .inr (by simp at hk; omega))⟩

/-- A grown row of records, stored. -/
theorem BSt.setR {w0 w w2 : World} {rb B X : Nat} {b f : Int} {sv s2 : Value} {rs r2 : List Bt.Rec} {l : List UInt8} (h : BSt w0 w rb B X b f sv rs l) (hrb : rb < w0.heap.size) (hB : B ≤ rb) (h1 : RecRow w2 (X + 1) s2 r2) (h2 : Turn sv.ownBlock.toList w w2) : BSt w0 (w2.setCell ⟨X, 2, none⟩ s2) rb B X b f s2 r2 l := by
  have hx := h.hx
  have ht : Turn [X] w2 (w2.setCell ⟨X, 2, none⟩ s2) := (Turn.refl _ _).setCell (.inl (by simp)) _
  have own : ∀ k ∈ sv.ownBlock.toList, X + 1 ≤ k := fun k hk => (h.row.lt k (by simpa using hk)).1
  have hx2 : w2.heap[X]? = some (.cells #[.int .i64 b, .int .i64 f, sv] 37 (0, 0)) := h2.heap h.x (fun hm => by have := own X hm; omega)
  have hy2 := h2.heap h.y (fun hm => by have := own _ hm; omega)
  refine ⟨hx, by simpa using heap_set hx2 2 s2, ht.heap hy2 (by simp; omega), h1.kept ht (fun k hk => by have := (h1.lt k hk).1; simp; omega), (h.rd.kept h2 (fun hm => by have := own _ hm; omega) (fun k hk => by have := own k hk; omega)).kept ht (by simp; omega) (by simp; omega), ?_⟩
  exact (h.turn.trans h2 (fun k hk => .inr (by have := own k hk; omega))).trans ht (fun k hk => .inr (by simp at hk; omega))

theorem size53 (w : World) : (sizeOf 37).run Tryz.prog w = .ok 3 w := by kernel_rfl
theorem agg53 (w : World) : (isAgg 37).run Tryz.prog w = .ok true w := by kernel_rfl
theorem load_bat {w : World} {Y : Nat} {a b c : Value} (h : w.heap[Y]? = some (.cells #[a, b, c] 37 (0, 0))) : (loadVar 37 ⟨Y, 0, none⟩).run Tryz.prog w = .ok (.agg #[a, b, c]) w := by
  have c0 : w.cell? ⟨Y, 0, none⟩ = some a := by simpa using cell_of h 0
  have c1 : w.cell? ⟨Y, 1, none⟩ = some b := by simpa using cell_of h 1
  have c2 : w.cell? ⟨Y, 2, none⟩ = some c := by simpa using cell_of h 2
  simp [loadVar, agg53, size53, Result.andThen, loadCells, loadCellsFrom, addr_add, c0, c1, c2]
/-- What is answered, stored. -/
theorem BSt.fin {w0 w : World} {rb B X : Nat} {b f : Int} {sv : Value} {rs : List Bt.Rec} {l : List UInt8} (h : BSt w0 w rb B X b f sv rs l) (hrb : rb < w0.heap.size) :
    (loadVar 37 ⟨w0.heap.size, 0, none⟩).run Tryz.prog (((w.setCell ⟨w0.heap.size, 0, none⟩ (.int .i64 b)).setCell ⟨w0.heap.size, 1, none⟩ (.int .i64 f)).setCell ⟨w0.heap.size, 2, none⟩ sv) = .ok (.agg #[.int .i64 b, .int .i64 f, sv]) (((w.setCell ⟨w0.heap.size, 0, none⟩ (.int .i64 b)).setCell ⟨w0.heap.size, 1, none⟩ (.int .i64 f)).setCell ⟨w0.heap.size, 2, none⟩ sv) ∧
    RecRow (((w.setCell ⟨w0.heap.size, 0, none⟩ (.int .i64 b)).setCell ⟨w0.heap.size, 1, none⟩ (.int .i64 f)).setCell ⟨w0.heap.size, 2, none⟩ sv) (w0.heap.size + 1) sv rs ∧ Turn [rb] w0 (((w.setCell ⟨w0.heap.size, 0, none⟩ (.int .i64 b)).setCell ⟨w0.heap.size, 1, none⟩ (.int .i64 f)).setCell ⟨w0.heap.size, 2, none⟩ sv) := by
  have hx := h.hx
  have hy := heap_set (heap_set (heap_set h.y 0 (.int .i64 b)) 1 (.int .i64 f)) 2 sv
  have ht : Turn [w0.heap.size] w (((w.setCell ⟨w0.heap.size, 0, none⟩ (.int .i64 b)).setCell ⟨w0.heap.size, 1, none⟩ (.int .i64 f)).setCell ⟨w0.heap.size, 2, none⟩ sv) :=
    (((Turn.refl _ _).setCell (.inl (by simp)) _).setCell (.inl (by simp)) _).setCell (.inl (by simp)) _
  refine ⟨load_bat (by simpa using hy), ?_, h.turn.trans ht (fun k hk => .inr (by simp at hk; omega))⟩
  rcases h.row.kept ht (fun k hk => by have := (h.row.lt k hk).1; simp; omega) with h | ⟨g, cap, cur, e, hb, r⟩
  · exact .inl h
  · exact .inr ⟨g, cap, cur, e, by omega, r⟩
set_option maxHeartbeats 4000000 in
theorem batch_any (w : World) (rb B : Nat) (l : List UInt8) (h : RdAt w rb B l) (hB : B ≤ rb) (hl : l.length ≤ 1000000) :
    Calls Tryz.prog 73 #[.pointer (some ⟨rb, 0, none⟩)] w fun e w' => ∃ sv, e = .returned (.agg #[.int .i64 (Bt.bat1 l).base, .int .i64 (Bt.bat1 l).fin, sv]) ∧ RecRow w' (w.heap.size + 1) sv (Bt.bat1 l).recs ∧ Turn [rb] w w' := by
  have hrb : rb < w.heap.size := by obtain ⟨sv, h1, -⟩ := h; exact lt_of_heap h1
  obtain ⟨n0, r0, e0⟩ : ∃ n r, Bt.num l = (n, r) := ⟨_, _, rfl⟩
  obtain ⟨n1, r1, e1⟩ : ∃ n r, Bt.num r0 = (n, r) := ⟨_, _, rfl⟩
  obtain ⟨n2, r2, e2⟩ : ∃ n r, Bt.num r1 = (n, r) := ⟨_, _, rfl⟩
  have g0 := num_len l
  have g1 := num_len r0
  have g2 := num_len r1
  rw [e0] at g0
  rw [e1] at g1
  rw [e2] at g2
  simp only at g0 g1 g2
  have hb : Bt.bat1 l = ⟨n0, (n0 : Int) + n1, Bt.recs1 n0 n2 r2⟩ := by
    unfold Bt.bat1
    simp only [e0, e1, e2]
  rw [hb]
  have E0 := hide e0
  have E1 := hide e1
  have E2 := hide e2
  have H := hide h
  clear h hb e0 e1 e2
  go_enter Tryz.func73, Tryz.ntmps73
  go_wp2_with fail
  refine (number_any _ rb B l (H.out.still ((Turn.refl [] w).alloc _)) hB hl).mono ?_
  rintro e w1 ⟨rfl, hr1, ht1⟩
  rw [E0.out] at hr1 ⊢
  have hsz1 : w.heap.size < w1.heap.size := by have := ht1.size; simp at this; omega
  have hb1 : BSt w (w1.alloc (.cells #[.int .i64 (n0 : Int), .int .i64 0, .slice none 0 0] 37)) rb B w1.heap.size (n0 : Int) 0 (.slice none 0 0) [] r0 := by
    refine ⟨hsz1, heap_new w1 _, ?_, .inl ⟨rfl, rfl⟩, hr1.still ((Turn.refl [] w1).alloc _), ?_⟩
    · exact ((Turn.refl [] w1).alloc _).heap (ht1.heap (heap_new w _) (by simp; omega)) (by simp)
    · exact (((Turn.refl [] w).alloc _).mono (by simp) |>.trans ht1 (fun k hk => .inl hk)).trans (T := []) ((Turn.refl [] w1).alloc _) (by simp)
  obtain ⟨X, hX⟩ : ∃ X, X = w1.heap.size := ⟨_, rfl⟩
  have hX1 : X < (w1.alloc (.cells #[.int .i64 (n0 : Int), .int .i64 0, .slice none 0 0] 37)).heap.size := by simp; omega
  rw [← hX] at hb1 hsz1
  have HX := hide hX
  have HB1 := hide hb1
  clear hb1 ht1 hr1 hX
  go_wp2
  rw [← HX.out]
  refine wp_region_loud 5 (Turn [rb]) (Turn []) (fun k w => match k with | 0 => (fun w => RdAt w rb B r0) w | _ => (fun w => RdAt w rb B r1) w) [3] (by kernel_rfl) (by kernel_rfl) (by kernel_rfl) (by kernel_rfl) (by kernel_rfl) (by kernel_rfl) (Nat.le_of_ble_eq_true rfl) (by decide) rfl (Turn.refl _) (fun _ _ _ h k => h.same k) (fun _ _ h => h.mono (by simp)) ?_ ?_ ?_
  · intro k a b hk hR
    match k, hk with
    | 0, hk =>
      have hk := (show (fun w => RdAt w rb B r0) a from hk)
      dsimp only at hk
      show (fun w => RdAt w rb B r0) b
      dsimp only
      exact hk.still hR
    | _ + 1, hk =>
      have hk := (show (fun w => RdAt w rb B r1) a from hk)
      dsimp only at hk
      show (fun w => RdAt w rb B r1) b
      dsimp only
      exact hk.still hR
  · show (fun w => RdAt w rb B r0) _
    dsimp only
    exact HB1.out.rd.still ((Turn.refl [] _).drew)
  apply Lo.runx 1 rfl rfl [] (by kernel_rfl) (Turn.refl _)
  apply Exists.intro; apply And.intro
  · intro u w1 hR hF
    clear hF
    refine ⟨rfl, fun a ha K hK => ?_⟩
    have e3 := ha 3
    conv at e3 => rhs; whnf
    clear ha
    go_simp
    refine hK _ ?_; rfl
  apply Lo.runx 2 rfl rfl [0] (by kernel_rfl) (Turn.refl _)
  apply Exists.intro; apply And.intro
  · intro u w1 hR hF
    obtain ⟨h0, -⟩ := hF
    refine ⟨rfl, fun a ha K hK => ?_⟩
    have e8 := (ha 8).trans h0
    clear ha h0
    have hbw := ((HB1.out.still ((Turn.refl [] _).drew)).x)
    have c0 := cell_of (hR.heap hbw (by simp; omega)) 0
    simp at c0
    go_simp
    refine hK _ ?_; rfl
  apply Lo.runx 3 rfl rfl [] (by kernel_rfl) (Turn.refl _)
  apply Exists.intro; apply And.intro
  · intro u w1 hR hF
    clear hF
    refine ⟨rfl, fun a ha K hK => ?_⟩
    have e0 := ha 0
    conv at e0 => rhs; whnf
    clear ha
    go_simp
    refine hK _ ?_; rfl
  refine Lo.noisy 4 rfl 0 rfl [2] (fun x w' => x = .int .i64 n1) (by kernel_rfl) (fun x w w' h hR => ?_) (.inr (fun x w w' h hR => by exact h)) (fun u w1 hR hS hF => ?_) ?_
  · exact h
  · obtain ⟨h2, -⟩ := hF
    have hS := (show (fun w => RdAt w rb B r0) w1 from hS)
    dsimp only at hS
    refine ⟨rfl, fun a ha K hK => ?_⟩
    have e10 := (ha 10).trans h2
    clear ha h2
    go_simp
    refine (number_any _ rb B r0 hS hB (by omega)).mono ?_
    rintro e w2 ⟨rfl, hr2, ht2⟩
    rw [E1.out] at hr2 ⊢
    exact hK _ _ rfl ht2 hr2
  refine Lo.runv 5 rfl rfl [1, 3] (.int .i64 ((n0 : Int) + n1)) (by kernel_rfl) (fun u w1 hR hF => ?_) (Turn.refl _) ?_
  · obtain ⟨h1, h3, -⟩ := hF
    refine ⟨rfl, fun a ha K hK => ?_⟩
    have e9 := (ha 9).trans h1
    have e11 : a.tmps.getD 11 undef = u 3 := ha 11
    have h3 := (show (fun x w' => x = .int .i64 n1) (u 3) w1 from h3)
    dsimp only at h3
    clear ha h1
    go_simp
    refine hK _ ?_
    rw [IntWalk.i64_left, IntWalk.wrap64_in _ (by omega)]
  refine Lo.done [4] (fun u w1 hRd hSd hF => ?_)
  have hSd := (show (fun w => RdAt w rb B r1) w1 from hSd)
  dsimp only at hSd
  obtain ⟨f4, -⟩ := hF
  have d4 : u 4 = _ := f4
  clear f4
  simp only [List.take_succ_cons, List.take_zero, List.drop_succ_cons, List.drop_zero, putFrom, Act.put, List.setIfInBounds_toArray, List.set_cons_succ, List.set_cons_zero, Nat.zero_add, Nat.reduceAdd, d4]
  have HB2 := hide ((HB1.out.still (Turn.refl [] _).drew).num hRd hSd hrb)
  clear hRd hSd d4
  obtain ⟨⟨c0, c1, c2⟩, ⟨f0, f1, f2⟩, -, -⟩ := HB2.out.cells
  go_wp2_with fail
  have HB3 := hide (HB2.out.setF ((n0 : Int) + n1) hrb hB)
  refine (number_any _ rb B r1 HB3.out.rd hB (by omega)).mono ?_
  rintro e w2 ⟨rfl, hr2, ht2⟩
  rw [E2.out] at hr2 ⊢
  have HB4 := hide (HB3.out.num ht2 hr2 hrb)
  clear hr2 ht2 c0 c1 c2 f0 f1 f2
  go_wp2
  go_loopw [4] (fun n wr => ∃ (c : Nat) (sv : Value) (rs : List Bt.Rec) (l' : List UInt8), n = .int .i64 c ∧ c ≤ 1099511627776 ∧ BSt w wr rb B X n0 ((n0 : Int) + n1) sv rs l' ∧ Bt.recs1 n0 n2 r2 = rs ++ Bt.recs1 n0 c l' ∧ rs.length + l'.length ≤ l.length) (fun n _ => (intOf n).toNat)
  case atStart => exact ⟨n2, _, [], r2, rfl, g2.2, HB4.out, rfl, by simp; omega⟩
  case round =>
    obtain ⟨c, sv, rs, l', rfl, hc40, hbs, hrecs, hlen⟩ := hrel
    have HBS := hide hbs
    have HRC := hide hrecs
    obtain ⟨rv, hrh, hrby, -⟩ := hbs.rd
    obtain ⟨ra, rc, hrv, hlc, -, -⟩ := hrby.form
    subst hrv
    have cr : wr.cell? ⟨rb, 0, none⟩ = some (.slice ra l'.length rc) := by simpa using cell_of hrh 0
    obtain ⟨z1, z2⟩ := hbs.sz
    obtain ⟨⟨c0, c1, c2⟩, ⟨f0, f1, f2⟩, ⟨y0, y1, y2⟩, ⟨q0, q1, q2⟩⟩ := hbs.cells
    clear hbs hrecs hrh hrby
    by_cases hc0 : c = 0
    · subst hc0
      have HEND : Hid (Bt.recs1 n0 n2 r2 = rs) := by show _ = _; rw [HRC.out]; simp [Bt.recs1]
      obtain ⟨sa, sn, sc, hsv⟩ := HBS.out.row.some_slice
      subst hsv
      go_wp2
      have hfin := HBS.out.fin hrb
      have hld := hfin.1
      refine bodyPost_ret (v := .agg #[.int .i64 n0, .int .i64 ((n0 : Int) + n1), .slice sa sn sc]) (by simp [results, Tryz.results73, asAddr, hld, Result.andThen]) rfl ?_
      refine ⟨_, rfl, ?_, hfin.2.2⟩
      rw [HEND.out]
      exact hfin.2.1
    by_cases hl0 : l' = []
    · subst hl0
      have HEND : Hid (Bt.recs1 n0 n2 r2 = rs) := by
        show _ = _
        rw [HRC.out]
        cases c <;> simp [Bt.recs1]
      obtain ⟨sa, sn, sc, hsv⟩ := HBS.out.row.some_slice
      subst hsv
      go_wp2
      have hfin := HBS.out.fin hrb
      have hld := hfin.1
      refine bodyPost_ret (v := .agg #[.int .i64 n0, .int .i64 ((n0 : Int) + n1), .slice sa sn sc]) (by simp [results, Tryz.results73, asAddr, hld, Result.andThen]) rfl ?_
      refine ⟨_, rfl, ?_, hfin.2.2⟩
      rw [HEND.out]
      exact hfin.2.1
    · obtain ⟨c', rfl⟩ : ∃ c', c = c' + 1 := ⟨c - 1, by omega⟩
      have hlp : 0 < l'.length := List.length_pos_iff.2 hl0
      have hr1l := rec1_len n0 l'
      have HR1 : Hid (Bt.recs1 n0 n2 r2 = (rs ++ [(Bt.rec1 n0 l').1]) ++ Bt.recs1 n0 c' (Bt.rec1 n0 l').2) := by
        show _ = _
        rw [HRC.out, Bt.recs1, if_neg hl0]; simp
      have hr2l := hr1l.2 hl0
      clear hl0 hr1l
      obtain ⟨r, hr⟩ : ∃ r, r = (Bt.rec1 n0 l').1 := ⟨_, rfl⟩
      obtain ⟨l2, hl2⟩ : ∃ l2, l2 = (Bt.rec1 n0 l').2 := ⟨_, rfl⟩
      rw [← hr, ← hl2] at HR1
      rw [← hl2] at hr2l
      have HRL : Hid (Bt.rec1 n0 l' = (r, l2)) := by show _ = _; rw [hr, hl2]
      clear hr hl2
      go_wp2
      refine wp_region_loud 7 (Turn [rb]) (Turn []) (fun k w => match k with | 0 => (fun w => RdAt w rb B l') w | _ => (fun w => RdAt w rb B l2) w) [5] (by kernel_rfl) (by kernel_rfl) (by kernel_rfl) (by kernel_rfl) (by kernel_rfl) (by kernel_rfl) (Nat.le_of_ble_eq_true rfl) (by decide) rfl (Turn.refl _) (fun _ _ _ h k => h.same k) (fun _ _ h => h.mono (by simp)) ?_ ?_ ?_
      · intro k a b hk hR
        match k, hk with
        | 0, hk =>
          have hk := (show (fun w => RdAt w rb B l') a from hk)
          dsimp only at hk
          show (fun w => RdAt w rb B l') b
          dsimp only
          exact hk.still hR
        | _ + 1, hk =>
          have hk := (show (fun w => RdAt w rb B l2) a from hk)
          dsimp only at hk
          show (fun w => RdAt w rb B l2) b
          dsimp only
          exact hk.still hR
      · show (fun w => RdAt w rb B l') _
        dsimp only
        exact HBS.out.rd.still ((Turn.refl [] _).drew)
      apply Lo.runx 1 rfl rfl [] (by kernel_rfl) (Turn.refl _)
      apply Exists.intro; apply And.intro
      · intro u w1 hR hF
        clear hF
        refine ⟨rfl, fun a ha K hK => ?_⟩
        have e3 := ha 3
        conv at e3 => rhs; whnf
        clear ha
        go_simp
        refine hK _ ?_; rfl
      apply Lo.runx 2 rfl rfl [0] (by kernel_rfl) (Turn.refl _)
      apply Exists.intro; apply And.intro
      · intro u w1 hR hF
        obtain ⟨h0, -⟩ := hF
        refine ⟨rfl, fun a ha K hK => ?_⟩
        have e28 := (ha 28).trans h0
        clear ha h0
        have c2 := cell_of (hR.heap (HBS.out.still (Turn.refl [] _).drew).x (by simp; omega)) 2
        simp at c2
        go_simp
        refine hK _ ?_; rfl
      apply Lo.runx 3 rfl rfl [] (by kernel_rfl) (Turn.refl _)
      apply Exists.intro; apply And.intro
      · intro u w1 hR hF
        clear hF
        refine ⟨rfl, fun a ha K hK => ?_⟩
        have e0 := ha 0
        conv at e0 => rhs; whnf
        clear ha
        go_simp
        refine hK _ ?_; rfl
      apply Lo.runx 4 rfl rfl [] (by kernel_rfl) (Turn.refl _)
      apply Exists.intro; apply And.intro
      · intro u w1 hR hF
        clear hF
        refine ⟨rfl, fun a ha K hK => ?_⟩
        have e3 := ha 3
        conv at e3 => rhs; whnf
        clear ha
        go_simp
        refine hK _ ?_; rfl
      apply Lo.runx 5 rfl rfl [3] (by kernel_rfl) (Turn.refl _)
      apply Exists.intro; apply And.intro
      · intro u w1 hR hF
        obtain ⟨h3, -⟩ := hF
        refine ⟨rfl, fun a ha K hK => ?_⟩
        have e31 := (ha 31).trans h3
        clear ha h3
        have c0 := cell_of (hR.heap (HBS.out.still (Turn.refl [] _).drew).x (by simp; omega)) 0
        simp at c0
        go_simp
        refine hK _ ?_; rfl
      refine Lo.noisy 6 rfl 0 rfl [2, 4] (fun x w' => x = recV r) (by kernel_rfl) (fun x w w' h hR => ?_) (.inr (fun x w w' h hR => by exact h)) (fun u w1 hR hS hF => ?_) ?_
      · exact h
      · obtain ⟨h2, h4, -⟩ := hF
        have hS := (show (fun w => RdAt w rb B l') w1 from hS)
        dsimp only at hS
        refine ⟨rfl, fun a ha K hK => ?_⟩
        have e30 := (ha 30).trans h2
        have e32 := (ha 32).trans h4
        clear ha h2 h4
        go_simp
        refine (record_any _ rb B l' hS hB (by omega) n0 (by omega) (by omega)).mono ?_
        rintro e w2 ⟨rfl, hr2, ht2⟩
        rw [HRL.out] at hr2 ⊢
        exact hK _ _ rfl ht2 hr2
      refine Lo.run 7 rfl rfl [5] (fun x w' => ∃ k, x = .slice (some ⟨k, 0, none⟩) 1 1 ∧ w'.heap[k]? = some (.cells (recC r).toArray 53 (0, 0)) ∧ wr.heap.size ≤ k) (by kernel_rfl) (fun x w w' h hR => ?_) (fun _ _ h => h.mono (by simp)) (fun u w1 hR hF => ?_) ?_
      · obtain ⟨k, h1, h2, h3⟩ := h; exact ⟨k, h1, hR.heap h2 (by simp; omega), h3⟩
      · obtain ⟨h5, -⟩ := hF
        refine ⟨rfl, fun a ha K hK => ?_⟩
        have e33 : a.tmps.getD 33 undef = u 5 := ha 33
        have h5 := (show (fun x w' => x = recV r) (u 5) w1 from h5)
        dsimp only at h5
        clear ha
        have e33' : a.tmps[33]?.getD undef = .agg #[.int .i64 r.off, .int .i64 r.time, .bool r.keyed, strV r.key, .bool r.gone, strV r.value] := by rw [← Array.getD_eq_getD_getElem?, e33]; exact h5
        go_simp
        have hs6 := ((Turn.refl [] wr).drew.mono (T := [rb]) (by simp)).same hR |>.size
        exact hK _ _ ⟨w1.heap.size, rfl, heap_new w1 _, hs6⟩ ((Turn.refl [] _).alloc _)
      refine Lo.done [1, 6] (fun u w1 hRd hSd hF => ?_)
      have hSd := (show (fun w => RdAt w rb B l2) w1 from hSd)
      dsimp only at hSd
      obtain ⟨f1, f6, -⟩ := hF
      have d1 : u 1 = _ := f1
      have d6 := (show (fun x w' => ∃ k, x = .slice (some ⟨k, 0, none⟩) 1 1 ∧ w'.heap[k]? = some (.cells (recC r).toArray 53 (0, 0)) ∧ wr.heap.size ≤ k) (u 6) w1 from f6)
      dsimp only at d6
      clear f1 f6
      simp only [List.take_succ_cons, List.take_zero, List.drop_succ_cons, List.drop_zero, putFrom, Act.put, List.setIfInBounds_toArray, List.set_cons_succ, List.set_cons_zero, Nat.zero_add, Nat.reduceAdd, d1]
      have hb5 := (HBS.out.still (Turn.refl [] _).drew).num hRd hSd hrb
      have HB5 := hide hb5
      obtain ⟨k, hk1, hk2, hk3⟩ := d6
      rw [hk1]
      obtain ⟨v7, w7, hr7, hrow7, ht7, hown7⟩ := run_append_rec w1 (X + 1) sv rs r k hb5.row hk2 (by omega) (by have := hb5.sz; omega)
      obtain ⟨a7, n7, p7, hv7⟩ := hrow7.some_slice
      subst hv7
      have hx7 := ht7.heap hb5.x (fun hm => by have := (hb5.row.lt X (by simpa using hm)).1; omega)
      have c7 : w7.cell? ⟨X, 2, none⟩ = some sv := by simpa using cell_of hx7 2
      have f7 : w7.frozen? ⟨X, 2, none⟩ = false := frozen_of hx7 2
      have HROW7 := hide hrow7
      have HT7 := hide ht7
      have HR7 := hide hr7
      clear hb5 hk1 hk2 hk3 d1 hRd hSd hr7 hrow7 ht7 hown7 hx7 c0 c1 c2 f0 f1 f2 y0 y1 y2 q0 q1 q2 cr
      go_wp2_with (at_builtin; go_must (refine wpList_append_told rfl rfl rfl rfl HR7.out ?_))
      refine ⟨⟨c', _, rs ++ [r], l2, by go_num, by omega, HB5.out.setR hrb hB HROW7.out HT7.out, HR1.out, by simp; omega⟩, ?_⟩
      simp only [intOf]; omega
end Go.Proofs.YtjbpladooohpdaaGreatDoor

/- record.four: the number at the beginning of bytes. -/
namespace Go.Proofs.YtjbpladooohpdaaGreatDoor
open Go.RowKit Go.Maps
set_option maxRecDepth 100000
set_option linter.unusedSimpArgs false
set_option linter.unusedVariables false

theorem or_add (a b k : Nat) (hb : b < 2 ^ k) (ha : a % 2 ^ k = 0) (h : a + b < 9223372036854775808) : bits .or .i64 (a : Int) (b : Int) = ((a + b : Nat) : Int) := by
  have hj : a ||| b = a + b := nat_join k a b ha hb
  rw [i64_or_nat _ _ (by omega) (by omega) (by rw [hj]; exact h), hj]
/-- The first four bytes. -/
theorem BytesAt.four {w : World} {v : Value} {bs : List UInt8} (h : BytesAt w v bs) (h4 : 4 ≤ bs.length) : ∃ p c, v = .slice (some p) bs.length c ∧ bs.length ≤ c ∧ c ≤ maxLen ∧
    w.cell? p = some (.int .u8 (bs.getD 0 0).toNat) ∧ w.cell? ⟨p.block, p.off + 1, none⟩ = some (.int .u8 (bs.getD 1 0).toNat) ∧ w.cell? ⟨p.block, p.off + 2, none⟩ = some (.int .u8 (bs.getD 2 0).toNat) ∧ w.cell? ⟨p.block, p.off + 3, none⟩ = some (.int .u8 (bs.getD 3 0).toNat) := by
  obtain ⟨a, c, rfl, h1, h2, -, hc⟩ := h
  obtain ⟨p, rfl, g0⟩ := hc 0 (by omega)
  refine ⟨p, c, rfl, h1, h2, ?_, ?_, ?_, ?_⟩
  · rw [add_zero] at g0; simpa [encB, List.getD, show 0 < bs.length by omega] using g0
  · obtain ⟨q, hq, g⟩ := hc 1 (by omega); cases hq
    rw [show (⟨p.block, p.off + 1, none⟩ : Addr) = p.add 1 from rfl, g]; simp [encB, List.getD, show 1 < bs.length by omega]
  · obtain ⟨q, hq, g⟩ := hc 2 (by omega); cases hq
    rw [show (⟨p.block, p.off + 2, none⟩ : Addr) = p.add 2 from rfl, g]; simp [encB, List.getD, show 2 < bs.length by omega]
  · obtain ⟨q, hq, g⟩ := hc 3 (by omega); cases hq
    rw [show (⟨p.block, p.off + 3, none⟩ : Addr) = p.add 3 from rfl, g]; simp [encB, List.getD, show 3 < bs.length by omega]

set_option maxHeartbeats 2000000 in
theorem four_any (w : World) (v : Value) (bs : List UInt8) (hx : BytesAt w v bs) (h4 : 4 ≤ bs.length) :
    Calls Tryz.prog 72 #[v] w fun e w' => e = .returned (.int .i64 (Bt.fourV bs : Nat)) ∧ w' = w.drew := by
  obtain ⟨p, c, rfl, hlc, hcm, c0, c1, c2, c3⟩ := hx.four h4
  obtain ⟨b0, e0⟩ : ∃ b : Nat, (bs.getD 0 0).toNat = b := ⟨_, rfl⟩
  obtain ⟨b1, e1⟩ : ∃ b : Nat, (bs.getD 1 0).toNat = b := ⟨_, rfl⟩
  obtain ⟨b2, e2⟩ : ∃ b : Nat, (bs.getD 2 0).toNat = b := ⟨_, rfl⟩
  obtain ⟨b3, e3⟩ : ∃ b : Nat, (bs.getD 3 0).toNat = b := ⟨_, rfl⟩
  have l0 : b0 < 256 := by rw [← e0]; exact UInt8.toNat_lt _
  have l1 : b1 < 256 := by rw [← e1]; exact UInt8.toNat_lt _
  have l2 : b2 < 256 := by rw [← e2]; exact UInt8.toNat_lt _
  have l3 : b3 < 256 := by rw [← e3]; exact UInt8.toNat_lt _
  have hv : Bt.fourV bs = b0 * 16777216 + b1 * 65536 + b2 * 256 + b3 := by unfold Bt.fourV; rw [e0, e1, e2, e3]
  rw [e0] at c0
  rw [e1] at c1
  rw [e2] at c2
  rw [e3] at c3
  rw [hv]
  have i0 : 0 < bs.length := by omega
  have i1 : (1 : Int) < (bs.length : Int) := by omega
  have i2 : (2 : Int) < (bs.length : Int) := by omega
  have i3 : (3 : Int) < (bs.length : Int) := by omega
  clear hx hv e0 e1 e2 e3
  go_enter Tryz.func72, Tryz.ntmps72
  go_wp2
  refine wp_region_loose (fun a b => a = b) (by kernel_rfl) (by kernel_rfl) (by kernel_rfl) (by kernel_rfl) rfl (fun _ => rfl) (fun _ _ _ h k => h.trans k) ?_
  apply Lo.runx 1 rfl rfl [] (by kernel_rfl) (fun _ => rfl)
  apply Exists.intro; apply And.intro
  · intro u w1 hR hF
    clear hF
    subst hR
    refine ⟨rfl, fun a ha K hK => ?_⟩
    have e0 := ha 0
    conv at e0 => rhs; whnf
    clear ha
    go_simp
    refine hK _ ?_; rfl
  apply Lo.runx 2 rfl rfl [0] (by kernel_rfl) (fun _ => rfl)
  apply Exists.intro; apply And.intro
  · intro u w1 hR hF
    obtain ⟨h0, -⟩ := hF
    subst hR
    refine ⟨rfl, fun a ha K hK => ?_⟩
    have e3 := (ha 3).trans h0
    clear ha h0
    go_simp
    refine hK _ ?_; rfl
  apply Lo.runx 3 rfl rfl [1] (by kernel_rfl) (fun _ => rfl)
  apply Exists.intro; apply And.intro
  · intro u w1 hR hF
    obtain ⟨h1, -⟩ := hF
    subst hR
    refine ⟨rfl, fun a ha K hK => ?_⟩
    have e4 := (ha 4).trans h1
    clear ha h1
    go_simp
    refine hK _ ?_; rfl
  apply Lo.runx 4 rfl rfl [2] (by kernel_rfl) (fun _ => rfl)
  apply Exists.intro; apply And.intro
  · intro u w1 hR hF
    obtain ⟨h2, -⟩ := hF
    subst hR
    refine ⟨rfl, fun a ha K hK => ?_⟩
    have e5 := (ha 5).trans h2
    clear ha h2
    go_simp
    refine hK _ ?_; rfl
  refine Lo.runv 5 rfl rfl [3] (.int .i64 ((b0 * 16777216 : Nat) : Int)) (by kernel_rfl) (fun u w1 hR hF => ?_) (fun _ => rfl) ?_
  · obtain ⟨h3, -⟩ := hF
    subst hR
    refine ⟨rfl, fun a ha K hK => ?_⟩
    have e6 := (ha 6).trans h3
    clear ha h3
    go_simp
    refine hK _ ?_
    rw [IntWalk.i64_left, IntWalk.i64_left, IntWalk.wrap64_in (b0 : Int) (by omega), IntWalk.wrap64_in _ (by omega)]; simp
  apply Lo.runx 6 rfl rfl [] (by kernel_rfl) (fun _ => rfl)
  apply Exists.intro; apply And.intro
  · intro u w1 hR hF
    clear hF
    subst hR
    refine ⟨rfl, fun a ha K hK => ?_⟩
    have e0 := ha 0
    conv at e0 => rhs; whnf
    clear ha
    go_simp
    refine hK _ ?_; rfl
  apply Lo.runx 7 rfl rfl [5] (by kernel_rfl) (fun _ => rfl)
  apply Exists.intro; apply And.intro
  · intro u w1 hR hF
    obtain ⟨h5, -⟩ := hF
    subst hR
    refine ⟨rfl, fun a ha K hK => ?_⟩
    have e8 := (ha 8).trans h5
    clear ha h5
    go_simp
    refine hK _ ?_; rfl
  apply Lo.runx 8 rfl rfl [6] (by kernel_rfl) (fun _ => rfl)
  apply Exists.intro; apply And.intro
  · intro u w1 hR hF
    obtain ⟨h6, -⟩ := hF
    subst hR
    refine ⟨rfl, fun a ha K hK => ?_⟩
    have e9 := (ha 9).trans h6
    clear ha h6
    go_simp
    refine hK _ ?_; rfl
  apply Lo.runx 9 rfl rfl [7] (by kernel_rfl) (fun _ => rfl)
  apply Exists.intro; apply And.intro
  · intro u w1 hR hF
    obtain ⟨h7, -⟩ := hF
    subst hR
    refine ⟨rfl, fun a ha K hK => ?_⟩
    have e10 := (ha 10).trans h7
    clear ha h7
    go_simp
    refine hK _ ?_; rfl
  refine Lo.runv 10 rfl rfl [8] (.int .i64 ((b1 * 65536 : Nat) : Int)) (by kernel_rfl) (fun u w1 hR hF => ?_) (fun _ => rfl) ?_
  · obtain ⟨h8, -⟩ := hF
    subst hR
    refine ⟨rfl, fun a ha K hK => ?_⟩
    have e11 := (ha 11).trans h8
    clear ha h8
    go_simp
    refine hK _ ?_
    rw [IntWalk.i64_left, IntWalk.i64_left, IntWalk.wrap64_in (b1 : Int) (by omega), IntWalk.wrap64_in _ (by omega)]; simp
  refine Lo.runv 11 rfl rfl [4, 9] (.int .i64 ((b0 * 16777216 + b1 * 65536 : Nat) : Int)) (by kernel_rfl) (fun u w1 hR hF => ?_) (fun _ => rfl) ?_
  · obtain ⟨h4, h9, -⟩ := hF
    subst hR
    refine ⟨rfl, fun a ha K hK => ?_⟩
    have e7 := (ha 7).trans h4
    have e12 := (ha 12).trans h9
    clear ha h4 h9
    go_simp
    refine hK _ ?_
    have hor := or_add (b0 * 16777216) (b1 * 65536) 24 (by omega) (by omega) (by omega)
    try rw [IntWalk.i64_left (n := (b3 : Int)), IntWalk.wrap64_in (b3 : Int) (by omega)]
    simpa using hor
  apply Lo.runx 12 rfl rfl [] (by kernel_rfl) (fun _ => rfl)
  apply Exists.intro; apply And.intro
  · intro u w1 hR hF
    clear hF
    subst hR
    refine ⟨rfl, fun a ha K hK => ?_⟩
    have e0 := ha 0
    conv at e0 => rhs; whnf
    clear ha
    go_simp
    refine hK _ ?_; rfl
  apply Lo.runx 13 rfl rfl [11] (by kernel_rfl) (fun _ => rfl)
  apply Exists.intro; apply And.intro
  · intro u w1 hR hF
    obtain ⟨h11, -⟩ := hF
    subst hR
    refine ⟨rfl, fun a ha K hK => ?_⟩
    have e14 := (ha 14).trans h11
    clear ha h11
    go_simp
    refine hK _ ?_; rfl
  apply Lo.runx 14 rfl rfl [12] (by kernel_rfl) (fun _ => rfl)
  apply Exists.intro; apply And.intro
  · intro u w1 hR hF
    obtain ⟨h12, -⟩ := hF
    subst hR
    refine ⟨rfl, fun a ha K hK => ?_⟩
    have e15 := (ha 15).trans h12
    clear ha h12
    go_simp
    refine hK _ ?_; rfl
  apply Lo.runx 15 rfl rfl [13] (by kernel_rfl) (fun _ => rfl)
  apply Exists.intro; apply And.intro
  · intro u w1 hR hF
    obtain ⟨h13, -⟩ := hF
    subst hR
    refine ⟨rfl, fun a ha K hK => ?_⟩
    have e16 := (ha 16).trans h13
    clear ha h13
    go_simp
    refine hK _ ?_; rfl
  refine Lo.runv 16 rfl rfl [14] (.int .i64 ((b2 * 256 : Nat) : Int)) (by kernel_rfl) (fun u w1 hR hF => ?_) (fun _ => rfl) ?_
  · obtain ⟨h14, -⟩ := hF
    subst hR
    refine ⟨rfl, fun a ha K hK => ?_⟩
    have e17 := (ha 17).trans h14
    clear ha h14
    go_simp
    refine hK _ ?_
    rw [IntWalk.i64_left, IntWalk.i64_left, IntWalk.wrap64_in (b2 : Int) (by omega), IntWalk.wrap64_in _ (by omega)]; simp
  refine Lo.runv 17 rfl rfl [10, 15] (.int .i64 ((b0 * 16777216 + b1 * 65536 + b2 * 256 : Nat) : Int)) (by kernel_rfl) (fun u w1 hR hF => ?_) (fun _ => rfl) ?_
  · obtain ⟨h10, h15, -⟩ := hF
    subst hR
    refine ⟨rfl, fun a ha K hK => ?_⟩
    have e13 := (ha 13).trans h10
    have e18 := (ha 18).trans h15
    clear ha h10 h15
    go_simp
    refine hK _ ?_
    have hor := or_add (b0 * 16777216 + b1 * 65536) (b2 * 256) 16 (by omega) (by omega) (by omega)
    try rw [IntWalk.i64_left (n := (b3 : Int)), IntWalk.wrap64_in (b3 : Int) (by omega)]
    simpa using hor
  apply Lo.runx 18 rfl rfl [] (by kernel_rfl) (fun _ => rfl)
  apply Exists.intro; apply And.intro
  · intro u w1 hR hF
    clear hF
    subst hR
    refine ⟨rfl, fun a ha K hK => ?_⟩
    have e0 := ha 0
    conv at e0 => rhs; whnf
    clear ha
    go_simp
    refine hK _ ?_; rfl
  apply Lo.runx 19 rfl rfl [17] (by kernel_rfl) (fun _ => rfl)
  apply Exists.intro; apply And.intro
  · intro u w1 hR hF
    obtain ⟨h17, -⟩ := hF
    subst hR
    refine ⟨rfl, fun a ha K hK => ?_⟩
    have e20 := (ha 20).trans h17
    clear ha h17
    go_simp
    refine hK _ ?_; rfl
  apply Lo.runx 20 rfl rfl [18] (by kernel_rfl) (fun _ => rfl)
  apply Exists.intro; apply And.intro
  · intro u w1 hR hF
    obtain ⟨h18, -⟩ := hF
    subst hR
    refine ⟨rfl, fun a ha K hK => ?_⟩
    have e21 := (ha 21).trans h18
    clear ha h18
    go_simp
    refine hK _ ?_; rfl
  apply Lo.runx 21 rfl rfl [19] (by kernel_rfl) (fun _ => rfl)
  apply Exists.intro; apply And.intro
  · intro u w1 hR hF
    obtain ⟨h19, -⟩ := hF
    subst hR
    refine ⟨rfl, fun a ha K hK => ?_⟩
    have e22 := (ha 22).trans h19
    clear ha h19
    go_simp
    refine hK _ ?_; rfl
  refine Lo.runv 22 rfl rfl [16, 20] (.int .i64 ((b0 * 16777216 + b1 * 65536 + b2 * 256 + b3 : Nat) : Int)) (by kernel_rfl) (fun u w1 hR hF => ?_) (fun _ => rfl) ?_
  · obtain ⟨h16, h20, -⟩ := hF
    subst hR
    refine ⟨rfl, fun a ha K hK => ?_⟩
    have e19 := (ha 19).trans h16
    have e23 := (ha 23).trans h20
    clear ha h16 h20
    go_simp
    refine hK _ ?_
    have hor := or_add (b0 * 16777216 + b1 * 65536 + b2 * 256) b3 8 (by omega) (by omega) (by omega)
    try rw [IntWalk.i64_left (n := (b3 : Int)), IntWalk.wrap64_in (b3 : Int) (by omega)]
    simpa using hor
  apply Lo.runx 23 rfl rfl [21] (by kernel_rfl) (fun _ => rfl)
  apply Exists.intro; apply And.intro
  · intro u w1 hR hF
    obtain ⟨h21, -⟩ := hF
    subst hR
    refine ⟨rfl, fun a ha K hK => ?_⟩
    have e24 := (ha 24).trans h21
    clear ha h21
    go_simp
    refine hK _ ?_; rfl
  refine Lo.done [22] (fun u w1 hRd hSd hF => ?_)
  clear hSd
  obtain ⟨f22, -⟩ := hF
  subst hRd
  have d22 : u 22 = _ := f22
  clear f22
  simp only [putFrom, Act.put, List.setIfInBounds_toArray, List.set_cons_succ, List.set_cons_zero, Nat.zero_add, Nat.reduceAdd, d22]
  clear d22
  go_wp2
  go_ret
  exact ⟨rfl, rfl⟩
end Go.Proofs.YtjbpladooohpdaaGreatDoor

/- A text's bytes appended onto a row; record.putText, marks, putRecord. -/
namespace Go.Proofs.YtjbpladooohpdaaGreatDoor
open Go.RowKit Go.Maps
set_option maxRecDepth 100000
set_option linter.unusedSimpArgs false
set_option linter.unusedVariables false

section
variable {P : Program} (w : World)
theorem cells_str (s : List UInt8) : byteCells ⟨s.toArray⟩ = s.map encB := rfl
theorem run_append_room_str (t tx ty e : TypeId) (i : TypeInfo) (ht : P.underlying t = some (.slice e)) (hx : P.underlying tx = some .string) (hi : P.info? e = some i) (hz1 : i.size = 1)
    (g sLen sCap : Nat) (cur : Array Value) (hg : w.heap[g]? = some (.cells cur e (0, 0))) (s : ByteArray) (hroom : sLen + s.size ≤ sCap) (hfit : sLen + s.size ≤ cur.size) :
    (Builtin.append_ #[t, tx] ty #[.slice (some ⟨g, 0, none⟩) sLen sCap, .string s]).run P w =
      .ok (.slice (some ⟨g, 0, none⟩) (sLen + s.size) sCap) (w.setRow g (cur.toList.take sLen ++ byteCells s ++ cur.toList.drop (sLen + s.size)).toArray) := by
  have hf := firstCells_string (P := P) s w
  have hst := run_storeCells_at P g sLen e (byteCells s) 0 cur w hg (by rw [byteCells_length]; exact hfit) (fun u hu => by
    obtain ⟨_, _, rfl⟩ := List.mem_map.1 hu
    rfl)
  simp only [Nat.add_zero, byteCells_length] at hst
  simp [Builtin.append_, run_underlying ht, run_underlying hx, sizeOf, typeInfo, hi, hz1, Builtin.lenOf, hroom, hf, Addr.add_lit, hst]

/-- APPEND of a text's bytes onto a row. -/
theorem run_append_row_str (t tx ty e base : Nat) (i : TypeInfo) (ht : P.underlying t = some (.slice e)) (hx : P.underlying tx = some .string) (hi : P.info? e = some i) (hz : i.zero = some (.int .u8 0)) (hsize : i.size = 1) (hby : i.bytes = 1)
    (v : Value) (bs cs : List UInt8) (hrow : RowAt w e base v bs) (hlen : bs.length + cs.length ≤ 1099511627776) (hbase : base ≤ w.heap.size) :
    ∃ v' w', (Builtin.append_ #[t, tx] ty #[v, .string ⟨cs.toArray⟩]).run P w = .ok v' w' ∧ RowAt w' e base v' (bs ++ cs) ∧ Turn v.ownBlock.toList w w' ∧ (∀ k ∈ v'.ownBlock, k ∈ v.ownBlock ∨ w.heap.size ≤ k) := by
  have hmax : maxLen = 9223372036854775807 := by simp [maxLen]
  have hsz : (ByteArray.mk cs.toArray).size = cs.length := by simp [ByteArray.size]
  have hsrc : Src P i.size tx (.string ⟨cs.toArray⟩) cs.length (cs.map encB) w := by
    have := Src.ofString (P := P) w hx ⟨cs.toArray⟩
    rw [hsz, cells_str] at this
    rw [hsize]; exact this
  have new : ∀ old : Nat, old < bs.length + cs.length → RowAt (w.drew.alloc (.cells ((bs.map encB ++ cs.map encB).toArray ++ Builtin.zeroCells (Value.cells (.int .u8 0)) (grownCap w (bs.length + cs.length) old e - (bs.length + cs.length))) e)) e base
      (.slice (some ⟨w.heap.size, 0, none⟩) (bs.length + cs.length) (grownCap w (bs.length + cs.length) old e)) (bs ++ cs) ∧
      Turn v.ownBlock.toList w (w.drew.alloc (.cells ((bs.map encB ++ cs.map encB).toArray ++ Builtin.zeroCells (Value.cells (.int .u8 0)) (grownCap w (bs.length + cs.length) old e - (bs.length + cs.length))) e)) := by
    intro old ho
    have hge := grownCap_ge w (bs.length + cs.length) old e
    have hcm := grownCap_le_maxLen w (bs.length + cs.length) old e (by rw [hmax]; omega)
    refine ⟨.inr ⟨w.heap.size, _, _, by simp, hbase, heap_new w.drew _, by simpa using hge, ?_, hcm, ?_⟩, ((Turn.refl _ _).drew).alloc _⟩
    · simp only [Array.size_append, List.size_toArray, List.length_map, List.length_append, size_zeroCells, Value.cells]
      simp; omega
    · simp only [Array.toList_append]
      rw [List.take_append_of_le_length (by simp)]
      rw [List.take_of_length_le (by simp)]
      simp
  rcases hrow with ⟨rfl, rfl⟩ | ⟨g, cap, cur, rfl, hb, hg, h1, h2, h3, h4⟩
  · by_cases h0 : cs.length = 0
    · have : cs = [] := List.eq_nil_of_length_eq_zero h0
      subst this
      have e0 : (ByteArray.mk #[]) = ByteArray.empty := rfl
      exact ⟨.slice none 0 0, w, by simp [Builtin.append_, run_underlying ht, run_underlying hx, sizeOf, typeInfo, hi, Builtin.lenOf, Builtin.firstCells, storeCells, e0], .inl ⟨rfl, rfl⟩, Turn.refl _ _, by simp [Value.ownBlock]⟩
    · have hr := run_append_grow_src (P := P) w t tx ty e i _ ht hi hz none 0 0 [] (run_firstCells_none w.drew i.size 0 0 0) _ cs.length (cs.map encB) hsrc (by omega) (by simp at hlen; omega) (growslice_fits (by omega) (by rw [hby]; simp at hlen; omega))
      have hn := new 0 (by simp; omega)
      simp only [List.length_nil, Nat.zero_add, List.map_nil, List.nil_append] at hn hr
      exact ⟨_, _, hr, by simpa using hn.1, by simpa using hn.2, by simp [Value.ownBlock]⟩
  · by_cases hroom : bs.length + cs.length ≤ cap
    · have hr := run_append_room_str (P := P) w t tx ty e i ht hx hi hsize g bs.length cap cur hg ⟨cs.toArray⟩ (by rw [hsz]; exact hroom) (by rw [hsz]; omega)
      rw [hsz, cells_str] at hr
      refine ⟨_, _, hr, .inr ⟨g, cap, _, by simp, hb, setRow_heap w g cur _ e _ hg, by simpa using hroom, ?_, h3, ?_⟩, ⟨rfl, rfl, rfl, by simp, fun k _ hk => setRow_other w g k _ (fun e => hk (by simp [Value.ownBlock, e]))⟩, by simp [Value.ownBlock]⟩
      · simp; omega
      · simp only [h4, List.append_assoc]
        rw [← List.append_assoc, List.take_append_of_le_length (by simp), List.take_of_length_le (by simp)]
        simp
    · have holds : ∀ j u, (bs.map encB)[j]? = some u → w.drew.cell? ((⟨g, 0, none⟩ : Addr).add j) = some u := by
        intro j u hu
        rw [addr_add]
        show w.cell? ⟨g, j, none⟩ = some u
        rw [cell_of hg]
        rw [← h4, List.getElem?_take] at hu
        split at hu
        · simpa using hu
        · cases hu
      have hr := run_append_grow_src (P := P) w t tx ty e i _ ht hi hz (some ⟨g, 0, none⟩) bs.length cap (bs.map encB) (run_firstCells_some w.drew i.size bs.length ⟨g, 0, none⟩ bs.length cap (bs.map encB) (by simp [hsize]) holds) _ cs.length (cs.map encB) hsrc (by omega) (by omega) (growslice_fits (by omega) (by rw [hby]; omega))
      have hn := new cap (by omega)
      exact ⟨_, _, hr, hn.1, hn.2, by simp [Value.ownBlock]⟩
end
theorem wpList_append_str {P : Program} {ops : Array Oper} {rest : List Oper} {o : Oper} {a : Act} {Q : Exit → Act → World → Prop} {w : World} (hgd : o.guard = none) (s x : Operand) (t tx : TypeId)
    (ho : o.op = .call { callee := .builtin .append, args := #[s, x], argTypes := #[t, tx] })
    (e base : Nat) (i : TypeInfo) (ht : P.underlying t = some (.slice e)) (hx : P.underlying tx = some .string) (hi : P.info? e = some i) (hz : i.zero = some (.int .u8 0)) (hsize : i.size = 1) (hby : i.bytes = 1)
    (v : Value) (bs cs : List UInt8) (hs : a.eval s = v) (hxe : a.eval x = .string ⟨cs.toArray⟩) (hrow : RowAt w e base v bs) (hlen : bs.length + cs.length ≤ 1099511627776) (hbase : base ≤ w.heap.size)
    (h : ∀ v' w', RowAt w' e base v' (bs ++ cs) → Turn v.ownBlock.toList w w' → (∀ k ∈ v'.ownBlock, k ∈ v.ownBlock ∨ w.heap.size ≤ k) → wpList P ops Q rest (a.put o.dst v') w') : wpList P ops Q (o :: rest) a w := by
  refine wpList_plain hgd fun _ hK => ?_
  obtain ⟨v', w', hr, h2, h3, h4⟩ := run_append_row_str (P := P) w t tx o.type e base i ht hx hi hz hsize hby v bs cs hrow hlen hbase
  unfold Oper.wp execOp
  simp only [ho, resolve, invoke, builtin, Sem.run_bind, Sem.run_pure, Result.andThen_ok, List.map_toArray, List.map_cons, List.map_nil, hs, hxe, hr]
  exact hK _ _ (h v' w' h2 h3 h4)

/-- What a call that grows a row leaves. -/
def Grew (w w' : World) (base : Nat) (v v' : Value) (bs : List UInt8) : Prop :=
  RowAt w' 5 base v' bs ∧ Turn v.ownBlock.toList w w' ∧ (∀ k ∈ v'.ownBlock, k ∈ v.ownBlock ∨ w.heap.size ≤ k)
theorem Grew.trans {w w1 w2 : World} {base : Nat} {v v1 v2 : Value} {b1 b2 : List UInt8} (h : Grew w w1 base v v1 b1) (k : Grew w1 w2 base v1 v2 b2) : Grew w w2 base v v2 b2 := by
  obtain ⟨h1, h2, h3⟩ := h
  obtain ⟨k1, k2, k3⟩ := k
  refine ⟨k1, h2.trans k2 (fun x hx => ?_), fun x hx => ?_⟩
  · rcases h3 x (by simpa using hx) with h | h
    · exact .inl (by simpa using h)
    · exact .inr h
  · rcases k3 x hx with h | h
    · exact h3 x h
    · have := h2.size; exact .inr (by omega)
theorem Grew.pre {w w1 w2 : World} {base : Nat} {v v2 : Value} {b : List UInt8} (h : Turn [] w w1) (k : Grew w1 w2 base v v2 b) : Grew w w2 base v v2 b := by
  obtain ⟨k1, k2, k3⟩ := k
  refine ⟨k1, h.mono (by simp) |>.trans k2 (fun x hx => .inl hx), fun x hx => ?_⟩
  rcases k3 x hx with h' | h'
  · exact .inl h'
  · have := h.size; exact .inr (by omega)

theorem putText_any (w : World) (base : Nat) (v : Value) (bs : List UInt8) (hrow : RowAt w 5 base v bs) (hbase : base ≤ w.heap.size) (s : List UInt8) (hs : s.length ≤ 600) (hl : bs.length ≤ 1000000) :
    Calls Tryz.prog 83 #[v, .string ⟨s.toArray⟩] w fun e w' => ∃ v', e = .returned v' ∧ Grew w w' base v v' (bs ++ Bt.textB s) := by
  obtain ⟨i0, hi, hz, hz1, hz2⟩ := infoB_parts
  have HR : Hid (RowAt w 5 base v bs) := hrow
  clear hrow
  have hp := Nu.put_len6 (show s.length ≤ 1099511627776 by omega)
  go_enter Tryz.func83, Tryz.ntmps83
  go_wp2_with fail
  refine (put_any _ base v bs HR.out hbase s.length (by omega) (by omega)).mono ?_
  rintro e w1 ⟨v1, rfl, hr1, ht1, ho1⟩
  have hs1 := ht1.size
  have HR1 := hide hr1
  have HT1 := hide ht1
  have HO1 := hide ho1
  clear hr1 ht1 ho1
  go_wp2_with (at_builtin; go_must (refine wpList_append_str rfl _ _ 23 9 rfl 5 base i0 Tryz.underlying23 Tryz.underlying9 hi hz hz1 hz2 v1 (bs ++ Nu.put s.length) s rfl rfl HR1.out (by simp; omega) (by omega) ?_; intro v2 w2 hr2 ht2 ho2; have HG : Hid (Grew w w2 base v v2 (bs ++ Nu.put s.length ++ s)) := Grew.trans ⟨HR1.out, HT1.out, HO1.out⟩ ⟨hr2, ht2, ho2⟩; clear hr2 ht2 ho2))
  go_ret
  refine ⟨v2, rfl, ?_⟩
  have := HG.out
  rwa [List.append_assoc] at this

theorem marks_any (w : World) (r : Bt.Rec) :
    Calls Tryz.prog 82 #[recV r] w fun e w' => e = .returned (.int .i64 (Bt.mark r : Nat)) ∧ Turn [] w w' := by
  obtain ⟨off, time, keyed, key, gone, value⟩ := r
  simp only [recV, strV]
  have b1 : bits .or .i64 1 2 = 3 := by kernel_rfl
  have b2 : bits .or .i64 0 2 = 2 := by kernel_rfl
  have b3 : bits .or .i64 0 1 = 1 := by kernel_rfl
  cases keyed <;> cases gone
  all_goals
    go_enter Tryz.func82, Tryz.ntmps82
    go_wp2
    go_ret
    exact ⟨rfl, (Turn.refl _ _).alloc _⟩
end Go.Proofs.YtjbpladooohpdaaGreatDoor

/- record.putRecord, putBody. -/
namespace Go.Proofs.YtjbpladooohpdaaGreatDoor
open Go.RowKit Go.Maps
set_option maxRecDepth 100000
set_option linter.unusedSimpArgs false
set_option linter.unusedVariables false

theorem Grew.box {W w : World} {base : Nat} {v v' : Value} {b : List UInt8} (h : Grew W w base v v' b) {k : Nat} {cs : Array Value} {t : TypeId} (hk : W.heap[k]? = some (.cells cs t (0, 0))) (hn : ∀ x ∈ v.ownBlock, x ≠ k) : w.heap[k]? = some (.cells cs t (0, 0)) :=
  h.2.1.heap hk (fun hm => hn k (by simpa using hm) rfl)
theorem Grew.still {W w w2 : World} {base : Nat} {v v' : Value} {b : List UInt8} (h : Grew W w base v v' b) (k : Turn [] w w2) : Grew W w2 base v v' b :=
  ⟨h.1.kept k (by simp), h.2.1.trans k (by simp), h.2.2⟩
theorem Grew.refl {W : World} {base : Nat} {v : Value} {b : List UInt8} (h : RowAt W 5 base v b) : Grew W W base v v b := ⟨h, Turn.refl _ _, fun k hk => .inl hk⟩
/-- A record's cells in a box of the call's own. -/
theorem box_cells {w : World} {k : Nat} {r : Bt.Rec} (h : w.heap[k]? = some (.cells #[.int .i64 r.off, .int .i64 r.time, .bool r.keyed, .string ⟨r.key.toArray⟩, .bool r.gone, .string ⟨r.value.toArray⟩] 53 (0, 0))) :
    w.cell? ⟨k, 0, none⟩ = some (.int .i64 r.off) ∧ w.cell? ⟨k, 1, none⟩ = some (.int .i64 r.time) ∧ w.cell? ⟨k, 2, none⟩ = some (.bool r.keyed) ∧ w.cell? ⟨k, 3, none⟩ = some (.string ⟨r.key.toArray⟩) ∧ w.cell? ⟨k, 4, none⟩ = some (.bool r.gone) ∧ w.cell? ⟨k, 5, none⟩ = some (.string ⟨r.value.toArray⟩) :=
  ⟨by simpa using cell_of h 0, by simpa using cell_of h 1, by simpa using cell_of h 2, by simpa using cell_of h 3, by simpa using cell_of h 4, by simpa using cell_of h 5⟩
theorem put_len_le {n : Nat} (h : n ≤ 1099511627776) : (Nu.put n).length ≤ 6 := Nu.put_len6 h
theorem textB_len {s : List UInt8} (h : s.length ≤ 600) : (Bt.textB s).length ≤ s.length + 6 := by
  unfold Bt.textB
  have := Nu.put_len6 (show s.length ≤ 1099511627776 by omega)
  simp; omega
theorem mark_le (r : Bt.Rec) : Bt.mark r ≤ 3 := by unfold Bt.mark; split <;> split <;> omega
/-- What a record asks that is written. -/
structure RecFit (r : Bt.Rec) (b : Int) : Prop where
  lo : b ≤ r.off
  hi : r.off - b ≤ 1099511627776
  b0 : 0 ≤ b
  bT : b ≤ 1099511627776
  t0 : 0 ≤ r.time
  tT : r.time ≤ 1099511627776
  key : r.key.length ≤ 60
  value : r.value.length ≤ 500
theorem recB_len {r : Bt.Rec} {b : Int} (h : RecFit r b) : (Bt.recB b r).length ≤ 600 := by
  obtain ⟨h1, h2, h3, h4, h5, h6, h7, h8⟩ := h
  have a1 := Nu.put_len6 (show (r.off - b).toNat ≤ 1099511627776 by omega)
  have a2 := Nu.put_len6 (show r.time.toNat ≤ 1099511627776 by omega)
  have a3 := Nu.put_len6 (show Bt.mark r ≤ 1099511627776 by have := mark_le r; omega)
  have a4 := textB_len (show r.key.length ≤ 600 by omega)
  have a5 := textB_len (show r.value.length ≤ 600 by omega)
  unfold Bt.recB
  simp only [List.length_append]
  split <;> split <;> simp <;> omega

set_option maxHeartbeats 2000000 in
theorem putRecord_any (w : World) (base : Nat) (v : Value) (bs : List UInt8) (hrow : RowAt w 5 base v bs) (hbase : base ≤ w.heap.size) (r : Bt.Rec) (b : Int) (hfit : RecFit r b) (hl : bs.length ≤ 900000) :
    Calls Tryz.prog 65 #[v, recV r, .int .i64 b] w fun e w' => ∃ v', e = .returned v' ∧ Grew w w' base v v' (bs ++ Bt.recB b r) := by
  have HF := hide hfit
  obtain ⟨h1, h2, h3, h4, h5, h6, h7, h8⟩ := hfit
  have hlt : ∀ x ∈ v.ownBlock, x ≠ w.heap.size := fun x hx => by have := (hrow.lt x hx).2; omega
  have HLT := hide hlt
  clear hlt
  obtain ⟨n0, hsub⟩ : ∃ n0 : Nat, r.off - b = n0 := ⟨(r.off - b).toNat, by omega⟩
  obtain ⟨n1, htime⟩ : ∃ n1 : Nat, r.time = n1 := ⟨r.time.toNat, by omega⟩
  have HB : Hid (Bt.recB b r = Nu.put n0 ++ Nu.put n1 ++ Nu.put (Bt.mark r) ++ (if r.keyed then Bt.textB r.key else []) ++ (if r.gone then [] else Bt.textB r.value)) := by
    show _ = _
    unfold Bt.recB
    rw [hsub, htime]; simp
  have HG0 : Hid (Grew (w.alloc (.cells #[.int .i64 r.off, .int .i64 r.time, .bool r.keyed, .string ⟨r.key.toArray⟩, .bool r.gone, .string ⟨r.value.toArray⟩] 53)) (w.alloc (.cells #[.int .i64 r.off, .int .i64 r.time, .bool r.keyed, .string ⟨r.key.toArray⟩, .bool r.gone, .string ⟨r.value.toArray⟩] 53)) base v v bs) :=
    Grew.refl (hrow.kept ((Turn.refl [] w).alloc _) (by simp))
  have box : ∀ wi vi bi, Grew (w.alloc (.cells #[.int .i64 r.off, .int .i64 r.time, .bool r.keyed, .string ⟨r.key.toArray⟩, .bool r.gone, .string ⟨r.value.toArray⟩] 53)) wi base v vi bi → w.heap.size < wi.heap.size ∧
      (wi.cell? ⟨w.heap.size, 0, none⟩ = some (.int .i64 r.off) ∧ wi.cell? ⟨w.heap.size, 1, none⟩ = some (.int .i64 r.time) ∧ wi.cell? ⟨w.heap.size, 2, none⟩ = some (.bool r.keyed) ∧ wi.cell? ⟨w.heap.size, 3, none⟩ = some (.string ⟨r.key.toArray⟩) ∧ wi.cell? ⟨w.heap.size, 4, none⟩ = some (.bool r.gone) ∧ wi.cell? ⟨w.heap.size, 5, none⟩ = some (.string ⟨r.value.toArray⟩)) :=
    fun wi vi bi hg => ⟨by have := hg.2.1.size; simp at this; omega, box_cells (hg.box (heap_new w _) HLT.out)⟩
  have BOX := hide box
  clear box hrow
  have l0 := Nu.put_len6 (show n0 ≤ 1099511627776 by omega)
  have l1 := Nu.put_len6 (show n1 ≤ 1099511627776 by omega)
  have l2 := Nu.put_len6 (show Bt.mark r ≤ 1099511627776 by have := mark_le r; omega)
  have l3 := textB_len (show r.key.length ≤ 600 by omega)
  have l4 := mark_le r
  have o1 : -9223372036854775808 ≤ r.off := by omega
  have o2 : r.off ≤ 9223372036854775807 := by omega
  simp only [recV, strV]
  have hn1 : n1 ≤ 1099511627776 := by omega
  have HTM := hide htime
  clear htime
  go_enter Tryz.func65, Tryz.ntmps65
  go_wp2_with fail
  refine (put_any _ base v bs HG0.out.1 (by simp; omega) n0 (by omega) (by omega)).mono ?_
  rintro e w1 ⟨v1, rfl, hr1, ht1, ho1⟩
  have HG1 := hide (HG0.out.trans ⟨hr1, ht1, ho1⟩)
  clear hr1 ht1 ho1
  obtain ⟨z1, c0, c1, c2, c3, c4, c5⟩ := BOX.out _ _ _ HG1.out
  go_wp2_with fail
  rw [HTM.out]
  refine (put_any _ base v1 _ HG1.out.1 (by omega) n1 (by omega) (by simp; omega)).mono ?_
  rintro e w2 ⟨v2, rfl, hr2, ht2, ho2⟩
  have HG2 := hide (HG1.out.trans ⟨hr2, ht2, ho2⟩)
  clear hr2 ht2 ho2 c0 c1 c2 c3 c4 c5 z1
  obtain ⟨z1, c0, c1, c2, c3, c4, c5⟩ := BOX.out _ _ _ HG2.out
  go_wp2_with fail
  refine (marks_any _ r).mono ?_
  rintro e w3 ⟨rfl, ht3⟩
  have HG3 := hide (HG2.out.still ht3)
  clear ht3 c0 c1 c2 c3 c4 c5 z1
  obtain ⟨z1, c0, c1, c2, c3, c4, c5⟩ := BOX.out _ _ _ HG3.out
  go_wp2_with fail
  refine (put_any _ base v2 _ HG3.out.1 (by omega) (Bt.mark r) (by omega) (by simp; omega)).mono ?_
  rintro e w4 ⟨v4, rfl, hr4, ht4, ho4⟩
  have HG4 := hide (HG3.out.trans ⟨hr4, ht4, ho4⟩)
  clear hr4 ht4 ho4 c0 c1 c2 c3 c4 c5 z1
  obtain ⟨z1, c0, c1, c2, c3, c4, c5⟩ := BOX.out _ _ _ HG4.out
  have fin : ∀ wi vi bi, Grew (w.alloc (.cells #[.int .i64 r.off, .int .i64 r.time, .bool r.keyed, .string ⟨r.key.toArray⟩, .bool r.gone, .string ⟨r.value.toArray⟩] 53)) wi base v vi bi → bi = bs ++ Bt.recB b r → Grew w wi base v vi (bs ++ Bt.recB b r) :=
    fun wi vi bi h e => e ▸ Grew.pre ((Turn.refl [] w).alloc _) h
  have FIN := hide fin
  clear fin
  obtain ⟨kd, hkd⟩ : ∃ kd, r.keyed = kd := ⟨_, rfl⟩
  obtain ⟨gn, hgn⟩ : ∃ gn, r.gone = gn := ⟨_, rfl⟩
  rw [hkd] at c2
  rw [hgn] at c4
  have HB2 : Hid (Bt.recB b r = Nu.put n0 ++ Nu.put n1 ++ Nu.put (Bt.mark r) ++ (if kd then Bt.textB r.key else []) ++ (if gn then [] else Bt.textB r.value)) := by
    show _ = _
    rw [HB.out, hkd, hgn]
  have HKD := hide hkd
  have HGN := hide hgn
  clear hkd hgn HB
  cases kd with
  | true =>
    go_wp2_with fail
    refine (putText_any _ base v4 _ HG4.out.1 (by omega) r.key (by omega) (by simp; omega)).mono ?_
    rintro e w5 ⟨v5, rfl, hg5⟩
    have HG5 := hide (HG4.out.trans hg5)
    clear hg5 c0 c1 c2 c3 c4 c5 z1
    obtain ⟨z1, c0, c1, c2, c3, c4, c5⟩ := BOX.out _ _ _ HG5.out
    rw [HGN.out] at c4
    cases gn with
    | true =>
      go_wp2
      go_ret
      exact ⟨_, rfl, FIN.out _ _ _ HG5.out (by rw [HB2.out]; simp)⟩
    | false =>
      go_wp2_with fail
      refine (putText_any _ base v5 _ HG5.out.1 (by omega) r.value (by omega) (by simp; omega)).mono ?_
      rintro e w6 ⟨v6, rfl, hg6⟩
      have HG6 := hide (HG5.out.trans hg6)
      clear hg6 c0 c1 c2 c3 c4 c5 z1
      go_wp2
      go_ret
      exact ⟨_, rfl, FIN.out _ _ _ HG6.out (by rw [HB2.out]; simp)⟩
  | false =>
    cases gn with
    | true =>
      go_wp2
      go_ret
      exact ⟨_, rfl, FIN.out _ _ _ HG4.out (by rw [HB2.out]; simp)⟩
    | false =>
      go_wp2_with fail
      refine (putText_any _ base v4 _ HG4.out.1 (by omega) r.value (by omega) (by simp; omega)).mono ?_
      rintro e w6 ⟨v6, rfl, hg6⟩
      have HG6 := hide (HG4.out.trans hg6)
      clear hg6 c0 c1 c2 c3 c4 c5 z1
      go_wp2
      go_ret
      exact ⟨_, rfl, FIN.out _ _ _ HG6.out (by rw [HB2.out]; simp)⟩

/-! ### the whole body -/
theorem recs_fit {hi base : Int} : ∀ (rs : List Bt.Rec) (lo : Int), base ≤ lo → Bt.recsErr rs lo hi = 0 → ∀ r ∈ rs, base ≤ r.off ∧ r.off < hi ∧ r.key.length ≤ 60 ∧ r.value.length ≤ 500 ∧ 0 ≤ r.time ∧ r.time ≤ 1099511627776
  | [], _, _, _, r, hr => by simp at hr
  | x :: rs, lo, hb, h, r, hr => by
    have h1 : Bt.recErr x lo hi = 0 := by
      unfold Bt.recsErr at h
      split at h
      · assumption
      · exact h
    have h2 : Bt.recsErr rs (x.off + 1) hi = 0 := by
      unfold Bt.recsErr at h
      rwa [if_pos h1] at h
    have hk := Bt.recErr_ok h1
    rcases List.mem_cons.1 hr with rfl | hr
    · exact ⟨by omega, hk.2.1, hk.2.2.2.2.1, hk.2.2.2.2.2.1, hk.2.2.2.2.2.2.1, hk.2.2.2.2.2.2.2⟩
    · exact recs_fit rs (x.off + 1) (by omega) h2 r hr
theorem bat_fit {x : Bt.Bat} (h : Bt.chk x = 0) : ∀ r ∈ x.recs, RecFit r x.base := by
  intro r hr
  obtain ⟨h1, h2, h3, h4, h5, h6⟩ := Bt.chk_ok h
  obtain ⟨a, b, c, d, e, f⟩ := recs_fit x.recs x.base (Int.le_refl _) h6 r hr
  exact ⟨a, by omega, h1, by omega, e, f, c, d⟩
theorem recsB_take {b : Int} {rs : List Bt.Rec} {k : Nat} (hk : k < rs.length) : Bt.recsB b (rs.take (k + 1)) = Bt.recsB b (rs.take k) ++ Bt.recB b rs[k] := by
  unfold Bt.recsB
  rw [List.take_succ_eq_append_getElem hk]
  simp only [List.flatMap_append, List.flatMap_cons, List.flatMap_nil, List.append_nil]
theorem recsB_len {b : Int} : ∀ (rs : List Bt.Rec), (∀ r ∈ rs, RecFit r b) → (Bt.recsB b rs).length ≤ 600 * rs.length
  | [], _ => by simp [Bt.recsB]
  | r :: rs, h => by
    have h1 := recB_len (h r (by simp))
    have h2 := recsB_len rs (fun x hx => h x (by simp [hx]))
    simp only [Bt.recsB, List.flatMap_cons, List.length_append, List.length_cons] at h2 ⊢
    omega

set_option maxHeartbeats 2000000 in
theorem putBody_any (w : World) (base : Nat) (v sv : Value) (bs : List UInt8) (hrow : RowAt w 5 base v bs) (hbase : base ≤ w.heap.size) (x : Bt.Bat) (hx : RecsAt w sv x.recs) (hd : x.recs ≠ [] → ∀ k ∈ sv.ownBlock, k ∉ v.ownBlock) (hc : Bt.chk x = 0) (hl : bs.length ≤ 100) :
    Calls Tryz.prog 43 #[v, .agg #[.int .i64 x.base, .int .i64 x.fin, sv]] w fun e w' => ∃ v', e = .returned v' ∧ Grew w w' base v v' (bs ++ Bt.body x) := by
  have hfit := bat_fit hc
  obtain ⟨h1, h2, h3, h4, h5, h6⟩ := Bt.chk_ok hc
  obtain ⟨xb, xf, recs⟩ := x
  simp only at h1 h2 h3 h4 h5 h6 hx hfit hd ⊢
  obtain ⟨a, c, rfl, hlc, hcm, hn0, hp⟩ := hx.form
  have hmx : maxLen = 9223372036854775807 := by simp [maxLen]
  rw [hmx] at hcm
  have HFIT := hide hfit
  have HX := hide hx
  have HD := hide hd
  have hlt : ∀ x ∈ v.ownBlock, x ≠ w.heap.size := fun x hx => by have := (hrow.lt x hx).2; omega
  have HLT := hide hlt
  obtain ⟨n0, hnb⟩ : ∃ n0 : Nat, xb = n0 := ⟨xb.toNat, by omega⟩
  subst hnb
  obtain ⟨n1, hsub⟩ : ∃ n1 : Nat, xf - (n0 : Int) = n1 := ⟨(xf - n0).toNat, by omega⟩
  have HB : Hid (Bt.body ⟨(n0 : Int), xf, recs⟩ = Nu.put n0 ++ Nu.put n1 ++ Nu.put recs.length ++ Bt.recsB n0 recs) := by
    show _ = _
    unfold Bt.body
    simp only [hsub]; simp
  have HG0 : Hid (Grew (w.alloc (.cells #[.int .i64 (n0 : Int), .int .i64 xf, .slice a recs.length c] 37)) (w.alloc (.cells #[.int .i64 (n0 : Int), .int .i64 xf, .slice a recs.length c] 37)) base v v bs) :=
    Grew.refl (hrow.kept ((Turn.refl [] w).alloc _) (by simp))
  have box : ∀ wi vi bi, Grew (w.alloc (.cells #[.int .i64 (n0 : Int), .int .i64 xf, .slice a recs.length c] 37)) wi base v vi bi → w.heap.size < wi.heap.size ∧
      wi.cell? ⟨w.heap.size, 0, none⟩ = some (.int .i64 (n0 : Int)) ∧ wi.cell? ⟨w.heap.size, 1, none⟩ = some (.int .i64 xf) ∧ wi.cell? ⟨w.heap.size, 2, none⟩ = some (.slice a recs.length c) := by
    intro wi vi bi hg
    have hb := hg.box (heap_new w _) HLT.out
    exact ⟨by have := hg.2.1.size; simp at this; omega, by simpa using cell_of hb 0, by simpa using cell_of hb 1, by simpa using cell_of hb 2⟩
  have BOX := hide box
  have recsAt : ∀ wi vi bi, Grew (w.alloc (.cells #[.int .i64 (n0 : Int), .int .i64 xf, .slice a recs.length c] 37)) wi base v vi bi → RecsAt wi (.slice a recs.length c) recs := by
    intro wi vi bi hg
    exact (HX.out.still ((Turn.refl [] w).alloc _)).kept' hg.2.1 (fun h0 k hk hm => HD.out h0 k hk (by simpa using hm))
  have RECS := hide recsAt
  clear box hrow hx hd hlt hfit recsAt hn0
  have l0 := Nu.put_len6 (show n0 ≤ 1099511627776 by omega)
  have l1 := Nu.put_len6 (show n1 ≤ 1099511627776 by omega)
  have l2 := Nu.put_len6 (show recs.length ≤ 1099511627776 by omega)
  go_enter Tryz.func43, Tryz.ntmps43
  go_wp2_with fail
  refine (put_any _ base v bs HG0.out.1 (by simp; omega) n0 (by omega) (by omega)).mono ?_
  rintro e w1 ⟨v1, rfl, hr1, ht1, ho1⟩
  have HG1 := hide (HG0.out.trans ⟨hr1, ht1, ho1⟩)
  clear hr1 ht1 ho1
  obtain ⟨z1, c0, c1, c2⟩ := BOX.out _ _ _ HG1.out
  go_wp2_with fail
  refine (put_any _ base v1 _ HG1.out.1 (by omega) n1 (by omega) (by simp; omega)).mono ?_
  rintro e w2 ⟨v2, rfl, hr2, ht2, ho2⟩
  have HG2 := hide (HG1.out.trans ⟨hr2, ht2, ho2⟩)
  clear hr2 ht2 ho2 c0 c1 c2 z1
  obtain ⟨z1, c0, c1, c2⟩ := BOX.out _ _ _ HG2.out
  go_wp2_with fail
  refine (put_any _ base v2 _ HG2.out.1 (by omega) recs.length (by omega) (by simp; omega)).mono ?_
  rintro e w3 ⟨v3, rfl, hr3, ht3, ho3⟩
  have HG3 := hide (HG2.out.trans ⟨hr3, ht3, ho3⟩)
  clear hr3 ht3 ho3 c0 c1 c2 z1
  obtain ⟨z1, c0, c1, c2⟩ := BOX.out _ _ _ HG3.out
  go_wp2
  go_loopw [0, 26] (fun s i wr => ∃ k : Nat, k ≤ recs.length ∧ i = .int .i64 k ∧ Grew (w.alloc (.cells #[.int .i64 (n0 : Int), .int .i64 xf, .slice a recs.length c] 37)) wr base v s (bs ++ Nu.put n0 ++ Nu.put n1 ++ Nu.put recs.length ++ Bt.recsB n0 (recs.take k))) (fun _ i _ => recs.length - (intOf i).toNat)
  case atStart => exact ⟨0, Nat.zero_le _, rfl, by simpa [Bt.recsB] using HG3.out⟩
  case round =>
    obtain ⟨k, hk, rfl, hg⟩ := hrel
    have HG := hide hg
    clear hg c0 c1 c2 z1
    obtain ⟨z1, c0, c1, c2⟩ := BOX.out _ _ _ HG.out
    by_cases hlt : k < recs.length
    · obtain ⟨p, rfl⟩ := hp k hlt
      obtain ⟨g0, g1, g2, g3, g4, g5⟩ := (RECS.out _ _ _ HG.out).six hlt
      have hf := HFIT.out recs[k] (List.getElem_mem _)
      have HF := hide hf
      have HS := hide (recsB_take (b := (n0 : Int)) hlt)
      have hln := recsB_len (b := (n0 : Int)) (recs.take k) (fun r hr => HFIT.out r (List.mem_of_mem_take hr))
      have hln2 : (recs.take k).length ≤ k := List.length_take_le _ _
      clear hp hf
      obtain ⟨r, hr⟩ : ∃ r, r = recs[k] := ⟨_, rfl⟩
      rw [← hr] at g0 g1 g2 g3 g4 g5 HS HF
      clear hr
      go_wp2_with fail
      refine (putRecord_any _ base _ _ (HG.out.1.kept ((Turn.refl [] _).alloc _) (by simp)) (by simp; omega) r n0 HF.out (by simp only [List.length_append]; omega)).mono ?_
      rintro e w4 ⟨v4, rfl, hg4⟩
      have HG4 := hide (HG.out.trans (Grew.pre ((Turn.refl [] _).alloc _) hg4))
      clear hg4 c0 c1 c2 z1 g0 g1 g2 g3 g4 g5
      obtain ⟨z1, c0, c1, c2⟩ := BOX.out _ _ _ HG4.out
      go_wp2
      refine ⟨⟨k + 1, by omega, by go_num, ?_⟩, ?_⟩
      · rw [HS.out, ← List.append_assoc]; exact HG4.out
      · simp only [intOf]; omega
    · have hlast : recs.take k = recs := List.take_of_length_le (by omega)
      have HL := hide hlast
      clear hlast
      go_wp2
      go_ret
      refine ⟨_, rfl, Grew.pre ((Turn.refl [] w).alloc (.cells #[.int .i64 (n0 : Int), .int .i64 xf, .slice a recs.length c] 37)) ?_⟩
      have := HG.out
      rw [HL.out] at this
      rw [HB.out]
      simpa [List.append_assoc] using this
end Go.Proofs.YtjbpladooohpdaaGreatDoor

/- An error's value. No program. -/
namespace Go.Proofs.YtjbpladooohpdaaGreatDoor.As
def errN (n : Int) : Value := if n = 0 then .nilIface else .iface 55 (.int .i64 n)
end Go.Proofs.YtjbpladooohpdaaGreatDoor.As
