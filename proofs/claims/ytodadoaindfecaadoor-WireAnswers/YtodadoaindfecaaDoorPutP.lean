/- record.Put: a number's bytes behind a row. -/
import Derived.Test.YtodadoaindfecaaDoorArgs
import Derived.Test.YtodadoaindfecaaDoorNum
import Derived.Laws.BitsAllLaws
namespace Go.Proofs.YtodadoaindfecaaDoor
open Go.RowKit Go.Maps
set_option maxRecDepth 100000
set_option linter.unusedSimpArgs false
set_option linter.unusedVariables false

theorem Tryd.infoB : (Tryd.prog.info? 5).map (fun i => (i.zero, i.size, i.bytes)) = some (some (.int .u8 0), 1, 1) := by kernel_rfl
theorem infoB_parts : ∃ i, Tryd.prog.info? 5 = some i ∧ i.zero = some (.int .u8 0) ∧ i.size = 1 ∧ i.bytes = 1 := by
  have h := Tryd.infoB
  cases hi : Tryd.prog.info? 5 with
  | none => rw [hi] at h; cases h
  | some i =>
    rw [hi] at h
    simp only [Option.map_some, Option.some.injEq, Prod.mk.injEq] at h
    exact ⟨i, rfl, h.1, h.2.1, h.2.2⟩
/-- A new row of bytes. -/
theorem fresh_row (w : World) (bs : List UInt8) (b : Nat) (cs : Array Value) (hb : w.heap[b]? = some (.cells cs 5 (0, 0))) (hc : cs = (bs.map encB).toArray) (c : Nat) : SliceAt w (.slice (some ⟨b, 0, none⟩) bs.length c) (bs.map encB) := by
  refine .inr ⟨⟨b, 0, none⟩, c, by simp, fun j u hu => ?_⟩
  rw [addr_add, cell_of hb, hc]
  simpa using hu

theorem put_byte (m : Nat) : bits .or .u8 ((m : Int) % 256) 128 = ((UInt8.ofNat (m % 128 + 128)).toNat : Int) := by
  have h := u8_or_nat (m % 256) 128 (by omega) (by omega)
  have e : ((m % 256 : Nat) : Int) = (m : Int) % 256 := by omega
  rw [e] at h
  have h' : bits .or .u8 ((m : Int) % 256) 128 = ((m % 256 ||| 128 : Nat) : Int) := h
  rw [h']
  have : ∀ i : Fin 256, i.val ||| 128 = i.val % 128 + 128 := by decide
  have := this ⟨m % 256, by omega⟩
  simp only at this
  rw [this]
  simp; omega

set_option maxHeartbeats 1000000 in
theorem put_any (w : World) (base : Nat) (v : Value) (bs : List UInt8) (hrow : RowAt w 5 base v bs) (hbase : base ≤ w.heap.size) (n : Nat) (hn : n ≤ 1099511627776) (hl : bs.length ≤ 549755813888) :
    Calls Tryd.prog 88 #[v, .int .i64 n] w fun e w' => ∃ v', e = .returned v' ∧ RowAt w' 5 base v' (bs ++ Nu.put n) ∧ Turn v.ownBlock.toList w w' ∧ (∀ k ∈ v'.ownBlock, k ∈ v.ownBlock ∨ w.heap.size ≤ k) := by
  obtain ⟨i0, hi, hz, hz1, hz2⟩ := infoB_parts
  have HR : Hid (RowAt w 5 base v bs) := hrow
  clear hrow
  go_enter Tryd.func88, Tryd.ntmps88
  go_wp2
  go_loopw [0, 5] (fun s u wr => ∃ (m : Nat) (pre : List UInt8), m ≤ n ∧ u = .int .u64 m ∧ pre ++ Nu.put m = Nu.put n ∧ RowAt wr 5 base s (bs ++ pre) ∧ Turn v.ownBlock.toList w wr ∧ (∀ k ∈ s.ownBlock, k ∈ v.ownBlock ∨ w.heap.size ≤ k)) (fun _ u _ => (intOf u).toNat)
  case atStart => exact ⟨n, [], Nat.le_refl _, rfl, rfl, by simpa using HR.out, Turn.refl _ _, fun k hk => .inl hk⟩
  case round =>
    obtain ⟨m, pre, hm, rfl, hpre, hrow, ht, hown⟩ := hrel
    have HP : Hid (pre ++ Nu.put m = Nu.put n) := hpre
    have HR2 : Hid (RowAt wr 5 base _ (bs ++ pre)) := hrow
    have HO : Hid (∀ k ∈ _, k ∈ v.ownBlock ∨ w.heap.size ≤ k) := hown
    clear hpre hrow hown
    have hpl : pre.length ≤ 6 := by
      have h1 := Nu.put_len6 hn
      rw [← HP.out] at h1
      simp at h1; omega
    have hlen : (bs ++ pre).length ≤ 1099511627775 := by simp; omega
    by_cases hbig : 128 ≤ m
    · have hbyte := put_byte m
      have HB : Hid (bits .or .u8 ((m : Int) % 256) 128 = ((UInt8.ofNat (m % 128 + 128)).toNat : Int)) := hbyte
      clear hbyte
      go_wp2_with (at_builtin; go_must (refine wpList_append_row _ rfl _ _ 49 rfl 5 base i0 Tryd.underlying49 hi hz hz1 hz2 _ (.slice (some ⟨wr.heap.size, 0, none⟩) 1 1) (bs ++ pre) [UInt8.ofNat (m % 128 + 128)] rfl rfl (HR2.out.kept ((Turn.refl [] wr).alloc _) (by simp)) (fresh_row _ [UInt8.ofNat (m % 128 + 128)] wr.heap.size _ (heap_new wr _) (by rw [HB.out]; rfl) 1) (by simp at hlen ⊢; omega) (by have := ht.size; simp; omega) ?_; intro v3 w3 hrow3 ht3 hown3; have HR3 : Hid (RowAt w3 5 base v3 (bs ++ pre ++ [UInt8.ofNat (m % 128 + 128)])) := hrow3; clear hrow3))
      refine ⟨⟨m / 128, pre ++ [UInt8.ofNat (m % 128 + 128)], by omega, by go_num, ?_, by have := HR3.out; rwa [List.append_assoc] at this, ?_, ?_⟩, ?_⟩
      · rw [← HP.out, Nu.put_big hbig]; simp
      · exact (ht.trans (T := []) ((Turn.refl [] _).alloc _) (by simp)).trans ht3 (fun k hk => by
          rcases HO.out k (by simp only [Option.mem_toList] at hk; exact hk) with h1 | h1
          · exact .inl (by simpa using h1)
          · exact .inr h1)
      · intro k hk
        rcases hown3 k hk with h1 | h1
        · exact HO.out k h1
        · have := ht.size; simp at h1; exact .inr (by omega)
      · simp only [intOf]; omega
    · have HB : Hid (((m : Nat) : Int) = ((UInt8.ofNat m).toNat : Int)) := by show _ = _; simp; omega
      go_wp2_with (at_builtin; go_must (refine wpList_append_row _ rfl _ _ 49 rfl 5 base i0 Tryd.underlying49 hi hz hz1 hz2 _ (.slice (some ⟨wr.heap.size, 0, none⟩) 1 1) (bs ++ pre) [UInt8.ofNat m] rfl rfl (HR2.out.kept ((Turn.refl [] wr).alloc _) (by simp)) (fresh_row _ [UInt8.ofNat m] wr.heap.size _ (heap_new wr _) (by rw [HB.out]; rfl) 1) (by simp at hlen ⊢; omega) (by have := ht.size; simp; omega) ?_; intro v3 w3 hrow3 ht3 hown3; have HR3 : Hid (RowAt w3 5 base v3 (bs ++ pre ++ [UInt8.ofNat m])) := hrow3; clear hrow3))
      go_ret
      refine ⟨v3, rfl, ?_, ?_, ?_⟩
      · have := HR3.out
        rw [← HP.out, Nu.put_small (by omega)]; rwa [List.append_assoc] at this
      · exact (ht.trans (T := []) ((Turn.refl [] _).alloc _) (by simp)).trans ht3 (fun k hk => by
          rcases HO.out k (by simp only [Option.mem_toList] at hk; exact hk) with h1 | h1
          · exact .inl (by simpa using h1)
          · exact .inr h1)
      · intro k hk
        rcases hown3 k hk with h1 | h1
        · exact HO.out k h1
        · have := ht.size; simp at h1; exact .inr (by omega)
end Go.Proofs.YtodadoaindfecaaDoor
