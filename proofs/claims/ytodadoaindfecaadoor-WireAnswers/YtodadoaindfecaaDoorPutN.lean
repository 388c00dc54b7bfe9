/- record.Put behind a row that is full: nothing that was there turns. -/
import Derived.Test.YtodadoaindfecaaDoorPutP
import Derived.Test.YtodadoaindfecaaDoorSl
namespace Go.Proofs.YtodadoaindfecaaDoor
open Go.RowKit Go.Maps
set_option maxRecDepth 100000
set_option linter.unusedSimpArgs false
set_option linter.unusedVariables false

/-- A row that is full, or one that has been made since. -/
def Fresh (w0 w : World) (v : Value) (bs : List UInt8) : Prop :=
  Turn [] w0 w ∧ ((∃ p, v = .slice (some p) bs.length bs.length ∧ SliceAt w v (bs.map encB)) ∨ RowAt w 5 w0.heap.size v bs)
theorem Fresh.bytes {w0 w : World} {v : Value} {bs : List UInt8} (h : Fresh w0 w v bs) : SliceAt w v (bs.map encB) := by
  rcases h.2 with ⟨p, _, h⟩ | h
  · exact h
  · exact h.cells
theorem run_append_fresh {P : Program} (t ty : Nat) (i : TypeInfo) (ht : P.underlying t = some (.slice 5)) (hi : P.info? 5 = some i) (hz : i.zero = some (.int .u8 0)) (hsize : i.size = 1) (hby : i.bytes = 1)
    (w0 w : World) (v x : Value) (bs cs : List UInt8) (hf : Fresh w0 w v bs) (hx : SliceAt w x (cs.map encB)) (h0 : cs ≠ []) (hlen : bs.length + cs.length ≤ 1099511627776) :
    ∃ v' w', (Builtin.append_ #[t, t] ty #[v, x]).run P w = .ok v' w' ∧ RowAt w' 5 w0.heap.size v' (bs ++ cs) ∧ Turn [] w0 w' := by
  obtain ⟨ht0, hr⟩ := hf
  have hs0 := ht0.size
  rcases hr with ⟨p, rfl, hsl⟩ | hr
  · have hp : 0 < cs.length := List.length_pos_iff.2 h0
    rcases hx with ⟨_, hcs⟩ | ⟨a, c, rfl, hnews⟩
    · simp at hcs; exact absurd hcs h0
    rcases hsl with ⟨h1, _⟩ | ⟨p', c', h1, hc⟩
    · cases h1
    simp only [Value.slice.injEq, Option.some.injEq] at h1
    obtain ⟨rfl, _, rfl⟩ := h1
    have hmax : maxLen = 9223372036854775807 := by simp [maxLen]
    have hl : (cs.map encB).length = cs.length * i.size := by simp [hsize]
    simp only [List.length_map] at hnews ⊢
    have hr := run_append_grow (P := P) w t ty 5 i _ ht hi hz p bs.length bs.length (bs.map encB) (by simp [hsize]) hc a cs.length c (cs.map encB) hl hnews (by omega) (by omega) (growslice_fits (by omega) (by rw [hby]; omega))
    have hge := grownCap_ge w (bs.length + cs.length) bs.length 5
    have hcm := grownCap_le_maxLen w (bs.length + cs.length) bs.length 5 (by rw [hmax]; omega)
    refine ⟨_, _, hr, .inr ⟨w.heap.size, _, _, by simp, by omega, heap_new w.drew _, by simpa using hge, ?_, hcm, ?_⟩, (ht0.drew).alloc _⟩
    · simp only [Array.size_append, List.size_toArray, List.length_map, size_zeroCells, Value.cells]
      simp; omega
    · simp only [Array.toList_append]
      rw [List.take_append_of_le_length (by simp)]
      rw [List.take_of_length_le (by simp)]
      simp
  · obtain ⟨v', w', h1, h2, h3, h4⟩ := run_append_row (P := P) w t ty 5 w0.heap.size i ht hi hz hsize hby v x bs cs hr hx hlen hs0
    refine ⟨v', w', h1, h2, ht0.trans h3 (fun k hk => .inr ?_)⟩
    exact (hr.lt k (by simpa using hk)).1
theorem wpList_append_fresh {P : Program} {ops : Array Oper} {rest : List Oper} {o : Oper} {a : Act} {Q : Exit → Act → World → Prop} {w : World} (hgd : o.guard = none) (s x : Operand) (t : TypeId)
    (ho : o.op = .call { callee := .builtin .append, args := #[s, x], argTypes := #[t, t] })
    (i : TypeInfo) (ht : P.underlying t = some (.slice 5)) (hi : P.info? 5 = some i) (hz : i.zero = some (.int .u8 0)) (hsize : i.size = 1) (hby : i.bytes = 1)
    (w0 : World) (v xv : Value) (bs cs : List UInt8) (hs : a.eval s = v) (hxe : a.eval x = xv) (hf : Fresh w0 w v bs) (hx : SliceAt w xv (cs.map encB)) (h0 : cs ≠ []) (hlen : bs.length + cs.length ≤ 1099511627776)
    (h : ∀ v' w', RowAt w' 5 w0.heap.size v' (bs ++ cs) → Turn [] w0 w' → wpList P ops Q rest (a.put o.dst v') w') : wpList P ops Q (o :: rest) a w := by
  refine wpList_plain hgd fun _ hK => ?_
  obtain ⟨v', w', hr, h2, h3⟩ := run_append_fresh (P := P) t o.type i ht hi hz hsize hby w0 w v xv bs cs hf hx h0 hlen
  unfold Oper.wp execOp
  simp only [ho, resolve, invoke, builtin, Sem.run_bind, Sem.run_pure, Result.andThen_ok, List.map_toArray, List.map_cons, List.map_nil, hs, hxe, hr]
  exact hK _ _ (h v' w' h2 h3)
/-- An append whose run is told. -/
theorem oper_append {P : Program} {o : Oper} {a : Act} {K : Act → World → Prop} {Q : Exit → Act → World → Prop} {w w' : World} {s x : Operand} {t tx : TypeId} {v xv v' : Value}
    (ho : o.op = .call { callee := .builtin .append, args := #[s, x], argTypes := #[t, tx] }) (hs : a.eval s = v) (hx : a.eval x = xv) (hr : (Builtin.append_ #[t, tx] o.type #[v, xv]).run P w = .ok v' w') (h : K (a.put o.dst v') w') : o.wp P a w K Q := by
  unfold Oper.wp execOp
  simp only [ho, resolve, invoke, builtin, Sem.run_bind, Sem.run_pure, Result.andThen_ok, List.map_toArray, List.map_cons, List.map_nil, hs, hx, hr]
  exact h
theorem wpList_append_told {P : Program} {ops : Array Oper} {rest : List Oper} {o : Oper} {a : Act} {Q : Exit → Act → World → Prop} {w w' : World} (hgd : o.guard = none) {s x : Operand} {t tx : TypeId} {v xv v' : Value}
    (ho : o.op = .call { callee := .builtin .append, args := #[s, x], argTypes := #[t, tx] }) (hs : a.eval s = v) (hx : a.eval x = xv) (hr : (Builtin.append_ #[t, tx] o.type #[v, xv]).run P w = .ok v' w') (h : wpList P ops Q rest (a.put o.dst v') w') : wpList P ops Q (o :: rest) a w :=
  wpList_plain hgd fun _ hK => oper_append ho hs hx hr (hK _ _ h)
theorem Fresh.alloc {w0 w : World} {v : Value} {bs : List UInt8} (h : Fresh w0 w v bs) (o : Obj) : Fresh w0 (w.alloc o) v bs := by
  have ht : Turn [] w (w.alloc o) := (Turn.refl _ _).alloc _
  refine ⟨h.1.same ht, ?_⟩
  rcases h.2 with ⟨p, e, h⟩ | h
  · exact .inl ⟨p, e, h.kept ht (by simp)⟩
  · exact .inr (h.kept ht (by simp))

set_option maxHeartbeats 1000000 in
theorem put_new (w : World) (p : Addr) (bs : List UInt8) (hv : SliceAt w (.slice (some p) bs.length bs.length) (bs.map encB)) (n : Nat) (hn : n ≤ 1099511627776) (hl : bs.length ≤ 549755813888) :
    Calls Tryd.prog 88 #[.slice (some p) bs.length bs.length, .int .i64 n] w fun e w' => ∃ v', e = .returned v' ∧ RowAt w' 5 w.heap.size v' (bs ++ Nu.put n) ∧ Turn [] w w' := by
  obtain ⟨i0, hi, hz, hz1, hz2⟩ := infoB_parts
  have HR : Hid (Fresh w w (.slice (some p) bs.length bs.length) bs) := ⟨Turn.refl _ _, .inl ⟨p, rfl, hv⟩⟩
  clear hv
  go_enter Tryd.func88, Tryd.ntmps88
  go_wp2
  go_loopw [0, 5] (fun s u wr => ∃ (m : Nat) (pre : List UInt8), m ≤ n ∧ u = .int .u64 m ∧ pre ++ Nu.put m = Nu.put n ∧ Fresh w wr s (bs ++ pre)) (fun _ u _ => (intOf u).toNat)
  case atStart => exact ⟨n, [], Nat.le_refl _, rfl, rfl, by simpa using HR.out⟩
  case round =>
    obtain ⟨m, pre, hm, rfl, hpre, hrow⟩ := hrel
    have HP : Hid (pre ++ Nu.put m = Nu.put n) := hpre
    have HR2 : Hid (Fresh w wr _ (bs ++ pre)) := hrow
    clear hpre hrow
    have hpl : pre.length ≤ 6 := by
      have h1 := Nu.put_len6 hn
      rw [← HP.out] at h1
      simp at h1; omega
    have hlen : (bs ++ pre).length ≤ 1099511627775 := by simp; omega
    by_cases hbig : 128 ≤ m
    · have hbyte := put_byte m
      have HB : Hid (bits .or .u8 ((m : Int) % 256) 128 = ((UInt8.ofNat (m % 128 + 128)).toNat : Int)) := hbyte
      clear hbyte
      go_wp2_with (at_builtin; go_must (refine wpList_append_fresh rfl _ _ 49 rfl i0 Tryd.underlying49 hi hz hz1 hz2 w _ (.slice (some ⟨wr.heap.size, 0, none⟩) 1 1) (bs ++ pre) [UInt8.ofNat (m % 128 + 128)] rfl rfl (HR2.out.alloc _) (fresh_row _ [UInt8.ofNat (m % 128 + 128)] wr.heap.size _ (heap_new wr _) (by rw [HB.out]; rfl) 1) (by simp) (by simp at hlen ⊢; omega) ?_; intro v3 w3 hrow3 ht3; have HR3 : Hid (Fresh w w3 v3 (bs ++ pre ++ [UInt8.ofNat (m % 128 + 128)])) := ⟨ht3, .inr hrow3⟩; clear hrow3 ht3))
      refine ⟨⟨m / 128, pre ++ [UInt8.ofNat (m % 128 + 128)], by omega, by go_num, ?_, by have := HR3.out; rwa [List.append_assoc] at this⟩, ?_⟩
      · rw [← HP.out, Nu.put_big hbig]; simp
      · simp only [intOf]; omega
    · have HB : Hid (((m : Nat) : Int) = ((UInt8.ofNat m).toNat : Int)) := by show _ = _; simp; omega
      go_wp2_with (at_builtin; go_must (refine wpList_append_fresh rfl _ _ 49 rfl i0 Tryd.underlying49 hi hz hz1 hz2 w _ (.slice (some ⟨wr.heap.size, 0, none⟩) 1 1) (bs ++ pre) [UInt8.ofNat m] rfl rfl (HR2.out.alloc _) (fresh_row _ [UInt8.ofNat m] wr.heap.size _ (heap_new wr _) (by rw [HB.out]; rfl) 1) (by simp) (by simp at hlen ⊢; omega) ?_; intro v3 w3 hrow3 ht3; have HR3 : Hid (RowAt w3 5 w.heap.size v3 (bs ++ pre ++ [UInt8.ofNat m])) := hrow3; have HT3 := hide ht3; clear hrow3 ht3))
      go_ret
      refine ⟨v3, rfl, ?_, HT3.out⟩
      have := HR3.out
      rw [← HP.out, Nu.put_small (by omega)]; rwa [List.append_assoc] at this
end Go.Proofs.YtodadoaindfecaaDoor
