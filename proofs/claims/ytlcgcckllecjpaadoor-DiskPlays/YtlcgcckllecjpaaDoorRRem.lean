/- The document's disk: remove; append of a file. -/
import Derived.Test.YtlcgcckllecjpaaDoorRList
namespace Go.Proofs.YtlcgcckllecjpaaDoor.Dk
open Go.RowKit Go.Maps
set_option maxRecDepth 100000
set_option linter.unusedSimpArgs false
set_option linter.unusedVariables false

theorem Tryd.infoF : (Tryd.prog.info? 88).map (fun i => (i.zero.map (fun z => z.cells.size), i.size, i.bytes)) = some (some 3, 3, 48) := by kernel_rfl
theorem infoF_parts : ∃ i z, Tryd.prog.info? 88 = some i ∧ i.zero = some z ∧ z.cells.size = 3 ∧ i.size = 3 ∧ i.bytes ≤ 1000 := by
  have h := Tryd.infoF
  cases hi : Tryd.prog.info? 88 with
  | none => rw [hi] at h; cases h
  | some i =>
    rw [hi] at h
    simp only [Option.map_some, Option.some.injEq, Prod.mk.injEq, Option.map_eq_some_iff] at h
    obtain ⟨⟨z, hz, hz2⟩, h2, h3⟩ := h
    exact ⟨i, z, rfl, hz, hz2, h2, by omega⟩
theorem app_file (w : World) (base : Nat) (v : Value) (xs : List RM) (x : RM) (k : Nat) (hrow : GRow 88 3 fileC w base v xs) (hk : w.heap[k]? = some (.cells (fileC x).toArray 88 (0, 0))) (hlen : xs.length ≤ 1000000) (hbase : base ≤ w.heap.size) :
    ∃ v' w', (Builtin.append_ #[31, 31] 31 #[v, .slice (some ⟨k, 0, none⟩) 1 1]).run Tryd.prog w = .ok v' w' ∧ GRow 88 3 fileC w' base v' (xs ++ [x]) ∧ Turn v.ownBlock.toList w w' ∧ (∀ j ∈ v'.ownBlock, j ∈ v.ownBlock ∨ w.heap.size ≤ j) := by
  obtain ⟨i, z, hi, hz, hzs, hs, hb⟩ := infoF_parts
  exact run_append_g (P := Tryd.prog) 31 31 Tryd.underlying31 i z hi hz hzs hs hb fileC_len (by intro x u hu; simp [fileC, RM.sl] at hu; rcases hu with rfl | rfl | rfl <;> rfl) w base v xs x k hrow hk hlen hbase

def outR (ms : List RM) (nm : List UInt8) : List RM := ms.filter (fun m => !(m.abs.name == nm))
set_option maxHeartbeats 4000000 in
theorem refRemove_any {w : World} {r : Nat} {sv : Value} {ms : List RM} {room : Nat} {left : Int} (h : RefAt w r sv ms room left) (hl : ms.length ≤ 1000000) (nm : List UInt8) :
    Calls Tryd.prog 52 #[.pointer (some ⟨r, 0, none⟩), .string ⟨nm.toArray⟩] w fun e w' => e = .returned (.tuple #[]) ∧ ∃ sv', RefAt w' r sv' (outR ms nm) room left ∧ Turn [r] w w' ∧ ∀ k ∈ sv'.ownBlock, w.heap.size ≤ k := by
  obtain ⟨a, c, rfl, hlc, hcm⟩ := h.form
  have hmx : maxLen = 9223372036854775807 := by simp [maxLen]
  rw [hmx] at hcm
  have H := hide h
  obtain ⟨c0, -, -⟩ := h.c
  clear h
  go_enter Tryd.func52, Tryd.ntmps52
  go_wp2
  go_loopw [4, 12] (fun out i wr => ∃ k : Nat, k ≤ ms.length ∧ i = .int .i64 k ∧ GRow 88 3 fileC wr w.heap.size out (outR (ms.take k) nm) ∧ Turn [] w wr) (fun _ i _ => ms.length - (intOf i).toNat)
  case atStart => exact ⟨0, Nat.zero_le _, rfl, .inl ⟨rfl, by simp [outR]⟩, Turn.refl _ _⟩
  case round =>
    obtain ⟨k, hk, rfl, hrow, ht⟩ := hrel
    have HT := hide ht
    have HROW := hide hrow
    obtain ⟨oa, oc, hv, hoc, -⟩ := hrow.form
    subst hv
    clear ht hrow
    have hfl : (outR (ms.take k) nm).length ≤ ms.length := Nat.le_trans (List.length_filter_le _ _) (by simp; omega)
    obtain ⟨G, hG⟩ : ∃ G, G = outR (ms.take k) nm := ⟨_, rfl⟩
    rw [← hG] at HROW hoc hfl ⊢
    have HGG := hide hG
    clear hG
    by_cases hlt : k < ms.length
    · obtain ⟨p, rfl, g0, g1, g2, q, d, hq, -, -⟩ := (H.out.still HT.out).three hlt
      have hsnoc : outR (ms.take (k + 1)) nm = G ++ if ms[k].abs.name == nm then [] else [ms[k]] := by
        rw [HGG.out, show ms.take (k + 1) = ms.take k ++ [ms[k]] by simp]
        unfold outR
        rw [List.filter_append]
        cases hb : ms[k].abs.name == nm <;> simp [List.filter_cons, hb]
      obtain ⟨m, hm⟩ : ∃ m, m = ms[k] := ⟨_, rfl⟩
      rw [← hm] at hsnoc
      have HS := hide hsnoc
      clear hsnoc hq
      rw [← hm] at g0 g2
      have g1' : wr.cell? ⟨(p.add (k * 3)).block, (p.add (k * 3)).off + 1, none⟩ = some (.slice m.a m.abs.bytes.length m.c) := by rw [g1, ← hm]; rfl
      clear g1 hm
      have hsz := HT.out.size
      rcases Bool.eq_false_or_eq_true (m.abs.name == nm) with hb | hb
      · have HB := hide hb
        rw [hb] at HS
        simp only [if_true, List.append_nil] at HS
        have he : m.abs.name = nm := by simpa using hb
        rw [he] at g0
        clear hb he
        go_wp2
        refine ⟨⟨k + 1, by omega, by go_num, by rw [HS.out]; exact HROW.out.still ((Turn.refl [] wr).alloc _), HT.out.alloc _⟩, ?_⟩
        simp only [intOf]; omega
      · have HB := hide hb
        rw [hb] at HS
        simp only [Bool.false_eq_true, if_false] at HS
        have hfc : fileC m = [.string ⟨m.abs.name.toArray⟩, .slice m.a m.abs.bytes.length m.c, .int .i64 m.abs.safe] := rfl
        obtain ⟨v7, w7, hr7, hrow7, ht7, hown7⟩ := app_file ((wr.alloc (.cells #[.string ⟨m.abs.name.toArray⟩, .slice m.a m.abs.bytes.length m.c, .int .i64 m.abs.safe] 88)).alloc (.cells #[.string ⟨m.abs.name.toArray⟩, .slice m.a m.abs.bytes.length m.c, .int .i64 m.abs.safe] 88)) w.heap.size (.slice oa G.length oc) G m (wr.heap.size + 1)
          (HROW.out.kept (((Turn.refl [] wr).alloc _).alloc _) (by simp)) (by rw [hfc]; have := heap_new (wr.alloc (.cells #[.string ⟨m.abs.name.toArray⟩, .slice m.a m.abs.bytes.length m.c, .int .i64 m.abs.safe] 88)) (.cells #[.string ⟨m.abs.name.toArray⟩, .slice m.a m.abs.bytes.length m.c, .int .i64 m.abs.safe] 88); rwa [World.size_alloc] at this) (by omega) (by simp; omega)
        have ht7' := HT.out.trans ((((Turn.refl [] wr).alloc (.cells #[.string ⟨m.abs.name.toArray⟩, .slice m.a m.abs.bytes.length m.c, .int .i64 m.abs.safe] 88)).alloc (.cells #[.string ⟨m.abs.name.toArray⟩, .slice m.a m.abs.bytes.length m.c, .int .i64 m.abs.safe] 88)).mono (T := (Value.slice oa G.length oc).ownBlock.toList) (by simp) |>.same ht7) (fun k hk => .inr (HROW.out.lt k (by simpa using hk)).1)
        have HR7 := hide hr7
        have HROW7 := hide hrow7
        have HT7 := hide ht7'
        clear hr7 hrow7 ht7 hown7 ht7' hfc
        go_wp2_with (at_builtin; go_must (refine wpList_append_told rfl rfl rfl rfl HR7.out ?_))
        refine ⟨⟨k + 1, by omega, by go_num, by rw [HS.out]; exact HROW7.out, HT7.out⟩, ?_⟩
        simp only [intOf]; omega
    · obtain rfl : k = ms.length := by omega
      rw [List.take_length] at HGG
      obtain ⟨c0', -, -⟩ := (H.out.still HT.out).c
      obtain ⟨f0, -, -⟩ := (H.out.still HT.out).f
      go_wp2
      go_end0
      have hlow := fun k hk => (HROW.out.lt k hk).1
      have hself := (H.out.lt r (foot_r _ _ _))
      refine ⟨rfl, _, ?_, HT.out.mono (T := [r]) (by simp) |>.setCell (.inl (by simp)) _, hlow⟩
      rw [← HGG.out]
      refine (H.out.still HT.out).setRow (HROW.out.base_le (Nat.zero_le _)) (fun hr => by have := hlow r hr; omega) (fun m hm => ?_)
      have hm' : m ∈ ms := by rw [HGG.out] at hm; exact (List.mem_filter.1 hm).1
      have he := (H.out.still HT.out).each m hm'
      exact ⟨he.1, fun k hk => ⟨(he.2 k hk).1, (he.2 k hk).2.1, fun hk2 => by have := hlow k hk2; have := (H.out.each m hm').2 k hk; omega⟩⟩
end Go.Proofs.YtlcgcckllecjpaaDoor.Dk
