/- The document's Put. -/
import Derived.Test.YtodadoaindfecaaDoorPutP
namespace Go.Proofs.YtodadoaindfecaaDoor
open Go.RowKit Go.Maps
set_option maxRecDepth 100000
set_option linter.unusedSimpArgs false
set_option linter.unusedVariables false

/-- A new row of bytes is a row. -/
theorem new_row (w : World) (bs : List UInt8) (b : Nat) (cs : Array Value) (hb : w.heap[b]? = some (.cells cs 5 (0, 0))) (hc : cs = (bs.map encB).toArray) (base : Nat) (h : base ≤ b) (hl : bs.length ≤ maxLen) : RowAt w 5 base (.slice (some ⟨b, 0, none⟩) bs.length bs.length) bs := by
  refine .inr ⟨b, bs.length, cs, rfl, h, hb, Nat.le_refl _, by rw [hc]; simp, hl, ?_⟩
  rw [hc]; simp [List.take_of_length_le]

set_option maxHeartbeats 1000000 in
theorem refPut_any : ∀ (f n : Nat), n < f → n ≤ 1099511627776 → ∀ w : World,
    Calls Tryd.prog 67 #[.int .i64 n] w fun e w' => ∃ v', e = .returned v' ∧ RowAt w' 5 w.heap.size v' (Nu.put n) ∧ Turn [] w w'
  | 0, _, h, _, _ => by omega
  | f + 1, n, h, hn, w => by
    obtain ⟨i0, hi, hz, hz1, hz2⟩ := infoB_parts
    by_cases hs : n < 128
    · have HB : Hid ((n : Int) = ((UInt8.ofNat n).toNat : Int)) := by show _ = _; simp; omega
      have HP : Hid (Nu.put n = [UInt8.ofNat n]) := Nu.put_small hs
      go_enter Tryd.func67, Tryd.ntmps67
      go_wp2
      go_ret
      refine ⟨_, rfl, ?_, (Turn.refl _ _).alloc _⟩
      rw [HP.out]
      exact new_row _ [UInt8.ofNat n] w.heap.size _ (heap_new w _) (by rw [HB.out]; rfl) _ (Nat.le_refl _) (by simp [maxLen])
    · have IH : Hid (∀ w : World, Calls Tryd.prog 67 #[.int .i64 (n / 128 : Nat)] w fun e w' => ∃ v', e = .returned v' ∧ RowAt w' 5 w.heap.size v' (Nu.put (n / 128)) ∧ Turn [] w w') := refPut_any f (n / 128) (by omega) (by omega)
      have HB : Hid ((n : Int) % 128 + 128 = ((UInt8.ofNat (n % 128 + 128)).toNat : Int)) := by show _ = _; simp; omega
      have HP : Hid (Nu.put n = [UInt8.ofNat (n % 128 + 128)] ++ Nu.put (n / 128)) := Nu.put_big (by omega)
      have HL := Nu.put_len6 (show n / 128 ≤ 1099511627776 by omega)
      go_enter Tryd.func67, Tryd.ntmps67
      go_wp2_with fail
      rw [show (n : Int) / 128 = ((n / 128 : Nat) : Int) by omega]
      refine (IH.out _).mono ?_
      rintro e w2 ⟨v2, rfl, hr2, ht2⟩
      have hw2 := ht2.size
      simp only [World.size_alloc] at hw2
      have h1 : RowAt w2 5 w.heap.size (.slice (some ⟨w.heap.size, 0, none⟩) [UInt8.ofNat (n % 128 + 128)].length [UInt8.ofNat (n % 128 + 128)].length) [UInt8.ofNat (n % 128 + 128)] :=
        (new_row _ [UInt8.ofNat (n % 128 + 128)] w.heap.size _ (heap_new w _) (by rw [HB.out]; rfl) _ (Nat.le_refl _) (by simp [maxLen])).kept ht2 (by simp)
      have H1 : Hid (RowAt w2 5 w.heap.size (.slice (some ⟨w.heap.size, 0, none⟩) 1 1) [UInt8.ofNat (n % 128 + 128)]) := h1
      have H2 : Hid (SliceAt w2 v2 ((Nu.put (n / 128)).map encB)) := hr2.cells
      clear h1 hr2
      go_wp2_with (at_builtin; go_must (refine wpList_append_row _ rfl _ _ 49 rfl 5 w.heap.size i0 Tryd.underlying49 hi hz hz1 hz2 (.slice (some ⟨w.heap.size, 0, none⟩) 1 1) v2 [UInt8.ofNat (n % 128 + 128)] (Nu.put (n / 128)) rfl rfl H1.out H2.out (by simp; omega) (by omega) ?_; intro v3 w3 hrow3 ht3 hown3))
      go_ret
      refine ⟨v3, rfl, by rw [HP.out]; exact hrow3, ?_⟩
      exact (((Turn.refl [] w).alloc _).trans ht2 (by simp)).trans ht3 (fun k hk => by simp [Value.ownBlock] at hk; exact .inr (by omega))
end Go.Proofs.YtodadoaindfecaaDoor
