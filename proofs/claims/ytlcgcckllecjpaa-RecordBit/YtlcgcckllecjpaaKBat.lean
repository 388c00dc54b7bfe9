/- conveyorkeep's batch and pick. -/
import Derived.Test.YtlcgcckllecjpaaDecP
namespace Go.Proofs.Ytlcgcckllecjpaa
open Go.RowKit Go.Maps
set_option maxRecDepth 100000
set_option linter.unusedSimpArgs false
set_option linter.unusedVariables false

theorem pickN_any (x : Int) (n : Nat) (hn : 0 < n) (hn2 : n ≤ 1099511627776) (w : World) : Calls Try.prog 15 #[.int .i64 x, .int .i64 n] w fun e w' => (∃ p : Nat, p < n ∧ e = .returned (.int .i64 p)) ∧ w = w' := by
  have hw : IntKind.u64.wrap (n : Int) = (n : Int) := by simp [IntKind.wrap, IntKind.bits, IntKind.signed]; omega
  have h0 : 0 ≤ IntKind.u64.wrap x := by simp [IntKind.wrap, IntKind.bits, IntKind.signed]; omega
  have hz : ¬ ((n : Int) = 0) := by omega
  go_enter Try.func15, Try.ntmps15
  go_wp2
  go_ret
  obtain ⟨m, hm⟩ := Int.eq_ofNat_of_zero_le h0
  refine ⟨⟨m % n, Nat.mod_lt _ hn, ?_⟩, rfl⟩
  rw [hm]
  refine congrArg (fun z => Ending.returned (.int .i64 z)) ?_
  have hlt := Nat.mod_lt m hn
  have : (m : Int) % n = ((m % n : Nat) : Int) := by omega
  rw [this]
  unfold wrap64; omega

/-- The records that batch makes. -/
def renum (b : Int) (rs : List Bt.Rec) : List Bt.Rec := rs.zipIdx.map fun p => { p.1 with off := b + p.2 }
theorem renum_snoc (b : Int) (rs : List Bt.Rec) {k : Nat} (hk : k < rs.length) : renum b (rs.take (k + 1)) = renum b (rs.take k) ++ [{ rs[k] with off := b + k }] := by
  have : rs.take (k + 1) = rs.take k ++ [rs[k]] := by simp
  unfold renum
  rw [this, List.zipIdx_append, List.map_append]
  simp [Nat.min_eq_left (Nat.le_of_lt hk)]
theorem renum_len (b : Int) (rs : List Bt.Rec) : (renum b rs).length = rs.length := by simp [renum]
theorem renum_ok (b : Int) (rs : List Bt.Rec) (h : ∀ r ∈ rs, RecOk r) (hb : 0 ≤ b) (hb2 : b ≤ 1099511627776) (hl : rs.length ≤ 1000000) : ∀ r ∈ renum b rs, RecOk r := by
  intro r hr
  unfold renum at hr
  obtain ⟨⟨q, i⟩, hq, rfl⟩ := List.mem_map.1 hr
  obtain ⟨h1, h2⟩ := List.mem_zipIdx' hq
  obtain ⟨o1, o2, t1, t2, k1, v1⟩ := h q (List.mem_iff_getElem.2 ⟨i, h1, h2.symm⟩)
  exact ⟨by simp only; omega, by simp only; omega, t1, t2, k1, v1⟩
def batOf (b : Int) (rs : List Bt.Rec) : Bt.Bat := ⟨b, b + rs.length, renum b rs⟩

/-- Where batch's loop stands. -/
structure KSt0 (w0 w : World) (X : Nat) (b f : Int) (sv : Value) (rs : List Bt.Rec) : Prop where
  hx : X = w0.heap.size + 1
  x : w.heap[X]? = some (.cells #[.int .i64 b, .int .i64 f, sv] 47 (0, 0))
  y : w.heap[w0.heap.size]? = some (.cells #[.int .i64 0, .int .i64 0, .slice none 0 0] 47 (0, 0))
  row : RecRow w (X + 1) sv rs
  turn : Turn [] w0 w
theorem KSt0.still {w0 w w' : World} {X : Nat} {b f : Int} {sv : Value} {rs : List Bt.Rec} (h : KSt0 w0 w X b f sv rs) (ht : Turn [] w w') : KSt0 w0 w' X b f sv rs :=
  ⟨h.hx, ht.heap h.x (by simp), ht.heap h.y (by simp), h.row.kept ht (by simp), h.turn.same ht⟩
theorem KSt0.setR {w0 w w2 : World} {X : Nat} {b f : Int} {sv s2 : Value} {rs r2 : List Bt.Rec} (h : KSt0 w0 w X b f sv rs) (h1 : RecRow w2 (X + 1) s2 r2) (h2 : Turn sv.ownBlock.toList w w2) : KSt0 w0 (w2.setCell ⟨X, 2, none⟩ s2) X b f s2 r2 := by
  have hx := h.hx
  have ht : Turn [X] w2 (w2.setCell ⟨X, 2, none⟩ s2) := (Turn.refl _ _).setCell (.inl (by simp)) _
  have own : ∀ k ∈ sv.ownBlock.toList, X + 1 ≤ k := fun k hk => (h.row.lt k (by simpa using hk)).1
  have hx2 : w2.heap[X]? = some (.cells #[.int .i64 b, .int .i64 f, sv] 47 (0, 0)) := h2.heap h.x (fun hm => by have := own X hm; omega)
  have hy2 := h2.heap h.y (fun hm => by have := own _ hm; omega)
  refine ⟨hx, by simpa using heap_set hx2 2 s2, ht.heap hy2 (by simp; omega), h1.kept ht (fun k hk => by have := (h1.lt k hk).1; simp; omega), ?_⟩
  exact (h.turn.trans h2 (fun k hk => .inr (by have := own k hk; omega))).trans ht (fun k hk => .inr (by simp at hk; omega))
theorem KSt0.cells {w0 w : World} {X : Nat} {b f : Int} {sv : Value} {rs : List Bt.Rec} (h : KSt0 w0 w X b f sv rs) :
    (w.cell? ⟨X, 0, none⟩ = some (.int .i64 b) ∧ w.cell? ⟨X, 1, none⟩ = some (.int .i64 f) ∧ w.cell? ⟨X, 2, none⟩ = some sv) ∧
    (w.frozen? ⟨X, 0, none⟩ = false ∧ w.frozen? ⟨X, 1, none⟩ = false ∧ w.frozen? ⟨X, 2, none⟩ = false) ∧
    (w.cell? ⟨w0.heap.size, 0, none⟩ = some (.int .i64 0) ∧ w.cell? ⟨w0.heap.size, 1, none⟩ = some (.int .i64 0) ∧ w.cell? ⟨w0.heap.size, 2, none⟩ = some (.slice none 0 0)) ∧
    (w.frozen? ⟨w0.heap.size, 0, none⟩ = false ∧ w.frozen? ⟨w0.heap.size, 1, none⟩ = false ∧ w.frozen? ⟨w0.heap.size, 2, none⟩ = false) ∧ X < w.heap.size ∧ w0.heap.size < w.heap.size :=
  ⟨⟨by simpa using cell_of h.x 0, by simpa using cell_of h.x 1, by simpa using cell_of h.x 2⟩, ⟨frozen_of h.x 0, frozen_of h.x 1, frozen_of h.x 2⟩,
   ⟨by simpa using cell_of h.y 0, by simpa using cell_of h.y 1, by simpa using cell_of h.y 2⟩, ⟨frozen_of h.y 0, frozen_of h.y 1, frozen_of h.y 2⟩, lt_of_heap h.x, lt_of_heap h.y⟩
/-- What is answered, stored. -/
theorem KSt0.fin {w0 w : World} {X : Nat} {b f : Int} {sv : Value} {rs : List Bt.Rec} (h : KSt0 w0 w X b f sv rs) :
    (loadVar 47 ⟨w0.heap.size, 0, none⟩).run Try.prog (((w.setCell ⟨w0.heap.size, 0, none⟩ (.int .i64 b)).setCell ⟨w0.heap.size, 1, none⟩ (.int .i64 f)).setCell ⟨w0.heap.size, 2, none⟩ sv) = .ok (.agg #[.int .i64 b, .int .i64 f, sv]) (((w.setCell ⟨w0.heap.size, 0, none⟩ (.int .i64 b)).setCell ⟨w0.heap.size, 1, none⟩ (.int .i64 f)).setCell ⟨w0.heap.size, 2, none⟩ sv) ∧
    RecRow (((w.setCell ⟨w0.heap.size, 0, none⟩ (.int .i64 b)).setCell ⟨w0.heap.size, 1, none⟩ (.int .i64 f)).setCell ⟨w0.heap.size, 2, none⟩ sv) (w0.heap.size + 2) sv rs ∧ Turn [] w0 (((w.setCell ⟨w0.heap.size, 0, none⟩ (.int .i64 b)).setCell ⟨w0.heap.size, 1, none⟩ (.int .i64 f)).setCell ⟨w0.heap.size, 2, none⟩ sv) := by
  have hx := h.hx
  have hy := heap_set (heap_set (heap_set h.y 0 (.int .i64 b)) 1 (.int .i64 f)) 2 sv
  have ht : Turn [w0.heap.size] w (((w.setCell ⟨w0.heap.size, 0, none⟩ (.int .i64 b)).setCell ⟨w0.heap.size, 1, none⟩ (.int .i64 f)).setCell ⟨w0.heap.size, 2, none⟩ sv) :=
    (((Turn.refl _ _).setCell (.inl (by simp)) _).setCell (.inl (by simp)) _).setCell (.inl (by simp)) _
  refine ⟨load_bat (by simpa using hy), ?_, h.turn.trans ht (fun k hk => .inr (by simp at hk; omega))⟩
  rcases h.row.kept ht (fun k hk => by have := (h.row.lt k hk).1; simp; omega) with h | ⟨g, cap, cur, e, hb, r⟩
  · exact .inl h
  · exact .inr ⟨g, cap, cur, e, by omega, r⟩

set_option maxHeartbeats 4000000 in
theorem kbatch_any (w : World) (b : Int) (v : Value) (rs : List Bt.Rec) (h : RecsAt w v rs) (hb : 0 ≤ b) (hb2 : b ≤ 1099511627776) (hl : rs.length ≤ 1000000) :
    Calls Try.prog 25 #[.int .i64 b, v] w fun e w' => ∃ sv, e = .returned (.agg #[.int .i64 b, .int .i64 (b + rs.length), sv]) ∧ RecRow w' (w.heap.size + 2) sv (renum b rs) ∧ Turn [] w w' := by
  obtain ⟨a, c, rfl, hlc, hcm, hn0, hp⟩ := h.form
  have hmx : maxLen = 9223372036854775807 := by simp [maxLen]
  rw [hmx] at hcm
  have HR : Hid (RecsAt w (.slice a rs.length c) rs) := h
  clear h hn0
  go_enter Try.func25, Try.ntmps25
  go_wp2
  have hy1 := heap_new w (.cells #[.int .i64 0, .int .i64 0, .slice none 0 0] 47)
  have hst : KSt0 w ((w.alloc (.cells #[.int .i64 0, .int .i64 0, .slice none 0 0] 47)).alloc (.cells #[.int .i64 b, .int .i64 (b + rs.length), .slice none 0 0] 47)) (w.heap.size + 1) b (b + rs.length) (.slice none 0 0) (renum b (rs.take 0)) := by
    refine ⟨rfl, ?_, ((Turn.refl [] _).alloc _).heap hy1 (by simp), .inl ⟨rfl, by simp [renum]⟩, ((Turn.refl [] w).alloc _).alloc _⟩
    have := heap_new (w.alloc (.cells #[.int .i64 0, .int .i64 0, .slice none 0 0] 47)) (.cells #[.int .i64 b, .int .i64 (b + rs.length), .slice none 0 0] 47)
    rwa [World.size_alloc] at this
  clear hy1
  obtain ⟨X, hX⟩ : ∃ X, X = w.heap.size + 1 := ⟨_, rfl⟩
  rw [← hX] at hst ⊢
  have HST := hide hst
  have HX := hide hX
  clear hst hX
  go_loopw [6] (fun i wr => ∃ (k : Nat) (sv : Value), k ≤ rs.length ∧ i = .int .i64 k ∧ KSt0 w wr X b (b + rs.length) sv (renum b (rs.take k))) (fun i _ => rs.length - (intOf i).toNat)
  case atStart => exact ⟨0, _, Nat.zero_le _, rfl, HST.out⟩
  case round =>
    obtain ⟨k, sv, hk, rfl, hs⟩ := hrel
    have HS := hide hs
    obtain ⟨⟨c0, c1, c2⟩, ⟨f0, f1, f2⟩, ⟨y0, y1, y2⟩, ⟨q0, q1, q2⟩, z1, z2⟩ := hs.cells
    clear hs
    by_cases hlt : k < rs.length
    · obtain ⟨p, rfl⟩ := hp k hlt
      obtain ⟨g0, g1, g2, g3, g4, g5⟩ := (HR.out.still HS.out.turn).six hlt
      obtain ⟨r, hr⟩ : ∃ r, r = rs[k] := ⟨_, rfl⟩
      have HRN := hide (renum_snoc b rs hlt)
      rw [← hr] at g0 g1 g2 g3 g4 g5 HRN
      clear hr
      have hw7 : Turn [] wr ((wr.alloc (.cells #[.int .i64 (b + k), .int .i64 r.time, .bool r.keyed, .string ⟨r.key.toArray⟩, .bool r.gone, .string ⟨r.value.toArray⟩] 79)).alloc (.cells #[.int .i64 (b + k), .int .i64 r.time, .bool r.keyed, .string ⟨r.key.toArray⟩, .bool r.gone, .string ⟨r.value.toArray⟩] 79)) := ((Turn.refl [] wr).alloc _).alloc _
      have hk7 : ((wr.alloc (.cells #[.int .i64 (b + k), .int .i64 r.time, .bool r.keyed, .string ⟨r.key.toArray⟩, .bool r.gone, .string ⟨r.value.toArray⟩] 79)).alloc (.cells #[.int .i64 (b + k), .int .i64 r.time, .bool r.keyed, .string ⟨r.key.toArray⟩, .bool r.gone, .string ⟨r.value.toArray⟩] 79)).heap[wr.heap.size + 1]? = some (.cells (recC ⟨b + k, r.time, r.keyed, r.key, r.gone, r.value⟩).toArray 79 (0, 0)) := by
        have := heap_new (wr.alloc (.cells #[.int .i64 (b + k), .int .i64 r.time, .bool r.keyed, .string ⟨r.key.toArray⟩, .bool r.gone, .string ⟨r.value.toArray⟩] 79)) (.cells #[.int .i64 (b + k), .int .i64 r.time, .bool r.keyed, .string ⟨r.key.toArray⟩, .bool r.gone, .string ⟨r.value.toArray⟩] 79)
        rwa [World.size_alloc] at this
      obtain ⟨v7, w7, hr7, hrow7, ht7, -⟩ := run_append_rec _ (X + 1) sv (renum b (rs.take k)) ⟨b + k, r.time, r.keyed, r.key, r.gone, r.value⟩ (wr.heap.size + 1) ((HS.out.still hw7).row) hk7 (by rw [renum_len, List.length_take]; omega) (by simp; omega)
      have HS7 := hide (HS.out.still hw7)
      obtain ⟨a7, n7, p7, hv7⟩ := hrow7.some_slice
      subst hv7
      have hx7 := ht7.heap HS7.out.x (fun hm => by have := (HS7.out.row.lt X (by simpa using hm)).1; omega)
      have c7 : w7.cell? ⟨X, 2, none⟩ = some sv := by simpa using cell_of hx7 2
      have f7 : w7.frozen? ⟨X, 2, none⟩ = false := frozen_of hx7 2
      have HROW7 := hide hrow7
      have HT7 := hide ht7
      have HR7 := hide hr7
      clear hw7 hk7 hr7 hrow7 ht7 hx7
      go_wp2_with (at_builtin; go_must (refine wpList_append_told rfl rfl rfl rfl HR7.out ?_))
      all_goals refine ⟨⟨k + 1, _, by omega, by go_num, by rw [HRN.out]; exact HS7.out.setR HROW7.out HT7.out⟩, ?_⟩
      all_goals (simp only [intOf]; omega)
    · obtain rfl : k = rs.length := by omega
      rw [List.take_length] at HS
      obtain ⟨sa, sn, sc, hsv⟩ := HS.out.row.some_slice
      subst hsv
      go_wp2
      have hfin := HS.out.fin
      have hld := hfin.1
      refine bodyPost_ret (v := .agg #[.int .i64 b, .int .i64 (b + rs.length), .slice sa sn sc]) (by simp [results, Try.results25, asAddr, hld, Result.andThen]) rfl ?_
      exact ⟨_, rfl, hfin.2.1, hfin.2.2⟩
end Go.Proofs.Ytlcgcckllecjpaa
