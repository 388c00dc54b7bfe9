/- The document's disk: Crash. -/
import Derived.Test.YtlcgcckllecjpaaDoorRAbs
import Derived.Test.YtlcgcckllecjpaaDoorLoose
namespace Go.Proofs.YtlcgcckllecjpaaDoor.Dk
open Go.RowKit Go.Maps Go.Sort
set_option maxRecDepth 100000
set_option linter.unusedSimpArgs false
set_option linter.unusedVariables false

section
variable {w w' : World} {r : Nat} {sv : Value} {ms : List RM} {A A' : DA} {room : Nat} {left : Int}
/-- Both cells of a file that tell its bytes, set. -/
theorem setBoth {w3 : World} {p : Addr} {l c k : Nat} {u1 u2 : Value} {m' : RM} (h3 : RefAt w3 r (.slice (some p) l c) ms room left) (hk : k < ms.length) (he : fileC m' = [.string ⟨ms[k].abs.name.toArray⟩, u1, u2])
    (hb : BytesAt w3 m'.sl m'.abs.bytes) (hown : ∀ j ∈ m'.sl.ownBlock, j ∈ ms[k].sl.ownBlock) :
    RefAt ((w3.setCell ⟨(p.add (k * 3)).block, (p.add (k * 3)).off + 1, none⟩ u1).setCell ⟨(p.add (k * 3)).block, (p.add (k * 3)).off + 2, none⟩ u2) r (.slice (some p) l c) (ms.set k m') room left ∧
    Turn (RFoot r (.slice (some p) l c) ms) w3 ((w3.setCell ⟨(p.add (k * 3)).block, (p.add (k * 3)).off + 1, none⟩ u1).setCell ⟨(p.add (k * 3)).block, (p.add (k * 3)).off + 2, none⟩ u2) ∧ ∀ j ∈ RFoot r (.slice (some p) l c) (ms.set k m'), j ∈ RFoot r (.slice (some p) l c) ms := by
  have hmk := List.getElem_mem hk
  have hp : p.block ∈ RFoot r (.slice (some p) l c) ms := foot_sv (by simp [Value.ownBlock])
  simp only [fileC, List.cons.injEq, Value.string.injEq, ByteArray.mk.injEq, and_true] at he
  obtain ⟨hnm, hu1, hu2⟩ := he
  have hnm : m'.abs.name = ms[k].abs.name := by simpa using hnm
  have hap : ∀ j ∈ m'.sl.ownBlock, j < w3.heap.size ∧ j ≠ r ∧ j ≠ p.block := fun j hj => by
    have := (h3.each _ hmk).2 j (hown j hj)
    exact ⟨this.1, this.2.1, fun e => this.2.2 (by simp [Value.ownBlock, e])⟩
  have s1 := h3.setFile (i := 1) (u := u1) (m' := ⟨⟨ms[k].abs.name, m'.abs.bytes, ms[k].abs.safe⟩, m'.a, m'.c⟩) hk (by omega) (by rw [← hu1]; rfl) hb hap
  have hk1 : k < (ms.set k ⟨⟨ms[k].abs.name, m'.abs.bytes, ms[k].abs.safe⟩, m'.a, m'.c⟩).length := by simpa using hk
  have hblk : (⟨(p.add (k * 3)).block, (p.add (k * 3)).off + 1, none⟩ : Addr).block = p.block := add_block _ _
  have hblk2 : (⟨(p.add (k * 3)).block, (p.add (k * 3)).off + 2, none⟩ : Addr).block = p.block := add_block _ _
  have ht1 : Turn [p.block] w3 (w3.setCell ⟨(p.add (k * 3)).block, (p.add (k * 3)).off + 1, none⟩ u1) := (Turn.refl _ _).setCell (.inl (by rw [hblk]; simp)) _
  have s2 := s1.setFile (i := 2) (u := u2) (m' := m') hk1 (by omega) (by rw [← hu2]; simp [fileC, RM.sl, hnm]) (hb.kept ht1 (fun j hj _ => by simpa using (hap j hj).2.2)) (fun j hj => ⟨Nat.lt_of_lt_of_le (hap j hj).1 ht1.size, (hap j hj).2⟩)
  rw [List.set_set] at s2
  refine ⟨s2, (ht1.mono (fun x hx => .inl (by simp at hx; subst hx; exact hp))).setCell (.inl (by rw [hblk2]; exact hp)) _, ?_⟩
  intro j hj
  simp only [RFoot, List.mem_cons, List.mem_append, List.mem_flatMap] at hj ⊢
  rcases hj with rfl | hj | ⟨m, hm, hj⟩
  · exact .inl rfl
  · exact .inr (.inl hj)
  · rcases List.mem_or_eq_of_mem_set hm with hm | rfl
    · exact .inr (.inr ⟨m, hm, hj⟩)
    · exact .inr (.inr ⟨_, hmk, by simpa using hown j (by simpa using hj)⟩)

/-- Where the crash's loop stands. -/
structure CrI (w wr : World) (r : Nat) (sv : Value) (ms : List RM) (A : DA) (fs : List UInt8) (v0 : Value) (k : Nat) (ms' : List RM) : Prop where
  mem : RefAt wr r sv ms' A.room (leftOf A)
  files : (crashTo A fs ((sortedN A).take k)).files = ms'.map (·.abs)
  turn : Turn (RFoot r sv ms) w wr
  foot : ∀ j ∈ RFoot r sv ms', j ∈ RFoot r sv ms
  names : ms'.map (·.abs.name) = ms.map (·.abs.name)
  bound : ∀ m ∈ ms', m.abs.bytes.length ≤ 1048576 ∧ m.abs.safe ≤ m.abs.bytes.length
  row : GRow 9 1 encS wr w.heap.size v0 (sortedN A)
end
theorem preL_nil : preL ([] : List UInt8) = fun _ => true := by funext x; simp [preL]

set_option maxHeartbeats 8000000 in
theorem refCrash_any {w : World} {r : Nat} {sv : Value} {ms : List RM} {A : DA} (h : Ref w r sv ms A) (hg : Good A) (bv : Value) (fs : List UInt8) (HB : Hid (∀ Z, Turn (RFoot r sv ms) w Z → BytesAt Z bv fs)) (hfl : fs.length ≤ 1000000000) :
    Calls Tryd.prog 20 #[.pointer (some ⟨r, 0, none⟩), bv] w fun e w' => e = .returned (.tuple #[]) ∧ RDid w w' r sv ms (A.crash fs) := by
  obtain ⟨sa, sc, rfl, hslc, hscm⟩ := h.mem.form
  have hmx : maxLen = 9223372036854775807 := by simp [maxLen]
  rw [hmx] at hscm
  have H := hide h
  have HGD := hide hg
  have hl200 := h.len hg
  have hlist := refList_any h.mem (by omega) (fun m hm => by have := h.short hg m hm; omega) [] (by simp)
  rw [preL_nil, List.filter_eq_self.2 (fun _ _ => rfl)] at hlist
  have hsn : (namesR ms).mergeSort leB = sortedN A := by unfold sortedN namesR; rw [h.files, List.map_map]; rfl
  rw [hsn] at hlist
  have HLIST := hide hlist
  obtain ⟨ab, cb, rfl, hb1, hb2, -⟩ := (HB.out w (Turn.refl _ _)).form
  have hnl : (sortedN A).length = ms.length := by rw [← hsn]; simp [namesR]
  clear h hg hlist hsn
  go_enter Tryd.func20, Tryd.ntmps20
  go_wp2_with fail
  refine HLIST.out.mono ?_
  rintro e w1 ⟨v0, rfl, hrow, ht1⟩
  obtain ⟨na, nc, rfl, hnc, hncm⟩ := hrow.form
  have hst : CrI w w1 r (.slice sa ms.length sc) ms A fs (.slice na (sortedN A).length nc) 0 ms := by
    refine ⟨(H.out.still ht1).mem, ?_, ht1.mono (by simp), fun j hj => hj, rfl, fun m hm => ⟨H.out.one HGD.out m hm, HGD.out.safe _ (by rw [H.out.files]; exact List.mem_map.2 ⟨m, hm, rfl⟩)⟩, hrow⟩
    rw [List.take_zero]; exact H.out.files
  have HST := hide hst
  clear hst hrow ht1 HLIST
  go_wp2
  go_loopw [11] (fun i wr => ∃ (k : Nat) (ms' : List RM), k ≤ (sortedN A).length ∧ i = .int .i64 k ∧ CrI w wr r (.slice sa ms.length sc) ms A fs (.slice na (sortedN A).length nc) k ms') (fun i _ => (sortedN A).length - (intOf i).toNat)
  case atStart => exact ⟨0, ms, Nat.zero_le _, rfl, HST.out⟩
  case round =>
    obtain ⟨k, ms', hk, rfl, hcr⟩ := hrel
    have HCR := hide hcr
    obtain ⟨c0, c1, c2⟩ := hcr.mem.c
    obtain ⟨f0, f1, f2⟩ := hcr.mem.f
    clear hcr
    by_cases hlt : k < (sortedN A).length
    · obtain ⟨ng, ncap, hne, hns, -⟩ := HCR.out.row.at encS_len hlt
      simp only [Value.slice.injEq] at hne
      obtain ⟨rfl, -, rfl⟩ := hne
      have hnx := hns 0 (by omega)
      rw [Nat.add_zero, Nat.mul_one] at hnx
      obtain ⟨s, hs⟩ : ∃ s, s = (sortedN A)[k] := ⟨_, rfl⟩
      have hn0 : wr.cell? ⟨ng, k, none⟩ = some (.string ⟨s.toArray⟩) := by rw [hnx, hs]; rfl
      have hms' : ms'.length = ms.length := by have := congrArg List.length HCR.out.names; simpa using this
      have hmem : s ∈ ms'.map (·.abs.name) := by
        rw [HCR.out.names, hs]
        have := (List.mergeSort_perm (A.files.map (·.name)) leB).mem_iff.1 (List.getElem_mem hlt)
        rw [H.out.files, List.map_map] at this
        exact this
      have hat : ∀ Z, Turn [] wr Z → _ := fun Z hZ => at_any (HCR.out.mem.still hZ) (by omega) s
      unfold idxI at hat
      obtain ⟨jx, hjx⟩ : ∃ jx, idxM ms' s = some jx := by
        cases hi : idxM ms' s with
        | some j => exact ⟨j, rfl⟩
        | none =>
          exfalso
          have := idx_none hi
          unfold findR at this
          rw [List.find?_eq_none] at this
          obtain ⟨m, hm, e⟩ := List.mem_map.1 hmem
          exact this m hm (by simpa using e)
      obtain ⟨hj, -, hjn⟩ := idx_some hjx
      rw [hjx] at hat
      have HAT := hide hat
      have HS := hide hs
      have HMS' := hide hms'
      have hjlt : jx < ms.length := by omega
      clear hat hs hjx hmem hns hnx
      have hjm := HCR.out.bound _ (List.getElem_mem hj)
      have hthree : ∀ Z, Turn [] wr Z → Z.cell? ⟨r, 0, none⟩ = some (.slice sa ms.length sc) ∧ ∃ p, sa = some p ∧ Z.cell? ⟨(p.add (jx * 3)).block, (p.add (jx * 3)).off + 1, none⟩ = some (.slice ms'[jx].a ms'[jx].abs.bytes.length ms'[jx].c) ∧ Z.cell? ⟨(p.add (jx * 3)).block, (p.add (jx * 3)).off + 2, none⟩ = some (.int .i64 ms'[jx].abs.safe) ∧
          ms'[jx].abs.bytes.length ≤ ms'[jx].c ∧ (∀ i, Z.frozen? ⟨(p.add (jx * 3)).block, (p.add (jx * 3)).off + i, none⟩ = false) := by
        intro Z hZ
        have hm := HCR.out.mem.still hZ
        obtain ⟨p, rfl, g0, g1, g2, q, d, hq, hqd, hdm⟩ := hm.three hj
        simp only [RM.sl, Value.slice.injEq] at hq
        obtain ⟨rfl, -, rfl⟩ := hq
        exact ⟨hm.c.1, p, rfl, g1, g2, hqd, fun i => hm.frz hj i⟩
      obtain ⟨-, p, rfl, -, -, hmc, -⟩ := hthree wr (Turn.refl _ _)
      have HTHREE := hide hthree
      obtain ⟨m, hm⟩ : ∃ m, m = ms'[jx] := ⟨_, rfl⟩
      rw [← hm] at HTHREE hmc hjm
      have HM := hide hm
      have HJN := hide hjn
      clear hthree hm hjn c1 c2 f0 f1 f2
      go_wp2
      refine wp_region_loose (Turn []) (by kernel_rfl) (by kernel_rfl) (by kernel_rfl) (by kernel_rfl) rfl (Turn.refl _) (fun _ _ _ h k => h.same k) ?_
      apply Lo.runx 1 rfl rfl [] (by kernel_rfl) (Turn.refl _)
      apply Exists.intro; apply And.intro
      · intro u w1 hR hF
        clear hF
        refine ⟨rfl, fun a ha K hK => ?_⟩
        have e0 := ha 0
        conv at e0 => rhs; whnf
        clear ha
        go_simp
        refine hK _ ?_; rfl
      apply Lo.runx 2 rfl rfl [0] (by kernel_rfl) (Turn.refl _)
      apply Exists.intro; apply And.intro
      · intro u w1 hR hF
        obtain ⟨h0, -⟩ := hF
        refine ⟨rfl, fun a ha K hK => ?_⟩
        have e16 := (ha 16).trans h0
        clear ha h0
        go_simp
        refine hK _ ?_; rfl
      apply Lo.runx 3 rfl rfl [1] (by kernel_rfl) (Turn.refl _)
      apply Exists.intro; apply And.intro
      · intro u w1 hR hF
        obtain ⟨h1, -⟩ := hF
        refine ⟨rfl, fun a ha K hK => ?_⟩
        have e17 := (ha 17).trans h1
        clear ha h1
        go_simp
        refine hK _ ?_; rfl
      apply Lo.runx 4 rfl rfl [2] (by kernel_rfl) (Turn.refl _)
      apply Exists.intro; apply And.intro
      · intro u w1 hR hF
        obtain ⟨h2, -⟩ := hF
        refine ⟨rfl, fun a ha K hK => ?_⟩
        have e18 := (ha 18).trans h2
        clear ha h2
        obtain ⟨c0, -⟩ := HTHREE.out w1 (((Turn.refl [] _).drew).same hR)
        go_simp
        refine hK _ ?_; rfl
      apply Lo.runx 5 rfl rfl [] (by kernel_rfl) (Turn.refl _)
      apply Exists.intro; apply And.intro
      · intro u w1 hR hF
        clear hF
        refine ⟨rfl, fun a ha K hK => ?_⟩
        have e0 := ha 0
        conv at e0 => rhs; whnf
        clear ha
        go_simp
        refine hK _ ?_; rfl
      apply Lo.runx 6 rfl rfl [] (by kernel_rfl) (Turn.refl _)
      apply Exists.intro; apply And.intro
      · intro u w1 hR hF
        clear hF
        refine ⟨rfl, fun a ha K hK => ?_⟩
        have e5 := ha 5
        conv at e5 => rhs; whnf
        clear ha
        go_simp
        refine hK _ ?_; rfl
      refine Lo.run 7 rfl rfl [4, 5] (fun x w' => x = .int .i64 (jx : Nat)) (by kernel_rfl) (fun x w w' h hR => ?_) (fun _ _ h => h) (fun u w1 hR hF => ?_) ?_
      · exact h
      · obtain ⟨h4, h5, -⟩ := hF
        refine ⟨rfl, fun a ha K hK => ?_⟩
        have e20 := (ha 20).trans h4
        have e21 := (ha 21).trans h5
        clear ha h4 h5
        go_simp
        refine (HAT.out w1 (((Turn.refl [] _).drew).same hR)).mono ?_
        rintro e w5 ⟨rfl, ht5⟩
        exact hK _ _ rfl ht5
      apply Lo.runx 8 rfl rfl [3, 6] (by kernel_rfl) (Turn.refl _)
      apply Exists.intro; apply And.intro
      · intro u w1 hR hF
        obtain ⟨h3, h6, -⟩ := hF
        refine ⟨rfl, fun a ha K hK => ?_⟩
        have e19 := (ha 19).trans h3
        have e22 : a.tmps.getD 22 undef = u 6 := ha 22
        have h6 := (show (fun x w' => x = .int .i64 (jx : Nat)) (u 6) w1 from h6)
        dsimp only at h6
        clear ha h3
        rw [h6] at e22
        go_simp
        refine hK _ ?_; rfl
      apply Lo.runx 9 rfl rfl [7] (by kernel_rfl) (Turn.refl _)
      apply Exists.intro; apply And.intro
      · intro u w1 hR hF
        obtain ⟨h7, -⟩ := hF
        refine ⟨rfl, fun a ha K hK => ?_⟩
        have e23 := (ha 23).trans h7
        clear ha h7
        go_simp
        refine hK _ ?_; rfl
      refine Lo.done [8] (fun u w1 hRd hSd hF => ?_)
      clear hSd
      obtain ⟨f8, -⟩ := hF
      have d8 : u 8 = _ := f8
      clear f8
      simp only [putFrom, Act.put, List.setIfInBounds_toArray, List.set_cons_succ, List.set_cons_zero, Nat.zero_add, Nat.reduceAdd, d8]

      obtain ⟨wz, hwz⟩ : ∃ wz, wz = w1 := ⟨_, rfl⟩
      rw [← hwz] at hRd ⊢
      have HTZ : Hid (Turn [] wr wz) := ((Turn.refl [] _).drew).same hRd
      clear hwz hRd d8
      obtain ⟨N, hN⟩ : ∃ N, N = min (m.abs.safe + fateN fs k) m.abs.bytes.length := ⟨_, rfl⟩
      have hNl : N ≤ m.abs.bytes.length := by rw [hN]; exact Nat.min_le_right _ _
      have hlenN : (m.abs.bytes.take N).length = N := by rw [List.length_take]; exact Nat.min_eq_left hNl
      have HN := hide hN
      have HLN := hide hlenN
      have HEND : Hid (∀ W5, W5 = (wz.setCell ⟨(p.add (jx * 3)).block, (p.add (jx * 3)).off + 1, none⟩ (.slice m.a N N)).setCell ⟨(p.add (jx * 3)).block, (p.add (jx * 3)).off + 2, none⟩ (.int .i64 N) → ∃ ms2, CrI w W5 r (.slice (some p) ms.length sc) ms A fs (.slice (some ⟨ng, 0, none⟩) (sortedN A).length nc) (k + 1) ms2) := by
        rintro W5 rfl
        have hmz := HCR.out.mem.still HTZ.out
        have hby := (hmz.each _ (List.getElem_mem hj)).1
        rw [← HM.out] at hby
        have hbz : BytesAt wz (.slice m.a N N) (m.abs.bytes.take N) := by
          obtain ⟨x1, x2, x3, x4, x5, x6, x7⟩ := hby
          simp only [RM.sl, Value.slice.injEq] at x3
          obtain ⟨rfl, -, rfl⟩ := x3
          refine ⟨m.a, N, by rw [HLN.out], by rw [HLN.out]; exact Nat.le_refl _, by omega, fun hn => ?_, fun j hj => ?_⟩
          · have := x6 hn; omega
          · rw [HLN.out] at hj
            obtain ⟨pp, hpp, hc⟩ := x7 j (by omega)
            exact ⟨pp, hpp, by rw [hc]; simp⟩
        obtain ⟨t1, t2, t3⟩ := setBoth (u1 := .slice m.a N N) (u2 := .int .i64 N) (m' := ⟨⟨m.abs.name, m.abs.bytes.take N, N⟩, m.a, N⟩) hmz hj (by rw [← HM.out]; simp [fileC, RM.sl, HLN.out]) (by simpa [RM.sl, HLN.out] using hbz) (fun j hj => by rw [← HM.out]; exact own_eq _ _ _ _ _ ▸ hj)
        have hnod : (ms'.map (·.abs.name)).Nodup := by rw [HCR.out.names]; exact H.out.names HGD.out
        have htk : (sortedN A).take (k + 1) = (sortedN A).take k ++ [s] := by rw [HS.out]; simp
        have htl : ((sortedN A).take k).length = k := by rw [List.length_take]; exact Nat.min_eq_left hk
        refine ⟨_, t1, ?_, (HCR.out.turn.trans HTZ.out (by simp)).trans t2 (fun x hx => .inl (HCR.out.foot x hx)), fun j hj => HCR.out.foot j (t3 j hj), ?_, fun q hq => ?_, ?_⟩
        · rw [htk, crashTo_snoc, htl]
          have := set_files (A := crashTo A fs ((sortedN A).take k)) HCR.out.files hj hnod ⟨⟨m.abs.name, m.abs.bytes.take N, N⟩, m.a, N⟩ (crash1 fs k) (by rw [← HM.out]; unfold crash1; rw [← HN.out])
          rw [HJN.out] at this
          exact this
        · rw [List.map_set, HCR.out.names.symm]
          apply List.ext_getElem (by simp)
          intro i h1 h2
          by_cases hij : i = jx
          · subst hij; simp [HM.out]
          · rw [List.getElem_set_ne (Ne.symm hij)]
        · rcases List.mem_or_eq_of_mem_set hq with hq | rfl
          · exact HCR.out.bound q hq
          · simp only [HLN.out]; exact ⟨by omega, Nat.le_refl _⟩
        · refine (HCR.out.row.still HTZ.out).kept t2 (fun x hx hm => ?_)
          have h1 := (HCR.out.row.lt x hx).1
          have h2 := H.out.mem.lt x (HCR.out.foot x hm)
          omega
      obtain ⟨c0, p', hp', g1, g2, -, fz⟩ := HTHREE.out wz HTZ.out
      cases hp'
      have fz1 := fz 1
      have fz2 := fz 2
      clear fz
      have hk2 : k ≤ 200 := by omega
      by_cases hf0 : fs.length = 0
      · have hz : ¬ ((0 : Int) < fs.length) := by omega
        have hmin : min (m.abs.safe : Int) (m.abs.bytes.length : Int) = (N : Int) := by
          have : fateN fs k = 0 := by simp [fateN, hf0]
          rw [hN, this]; omega
        clear hN hlenN
        go_wp2
        obtain ⟨ms2, h2⟩ := HEND.out _ rfl
        refine ⟨⟨k + 1, ms2, by omega, by go_num, h2⟩, ?_⟩
        simp only [intOf]; omega
      · have hz : (0 : Int) < fs.length := by omega
        have hlt2 : k % fs.length < fs.length := Nat.mod_lt _ (Nat.pos_of_ne_zero hf0)
        have hbf := HB.out wz (HCR.out.turn.trans HTZ.out (by simp))
        obtain ⟨fa, fc, hfe, -, -, hfcell⟩ := hbf.form
        simp only [Value.slice.injEq] at hfe
        obtain ⟨rfl, -, rfl⟩ := hfe
        obtain ⟨fp, rfl, hcell⟩ := hfcell (k % fs.length) hlt2
        obtain ⟨fb, hfb⟩ : ∃ fb, fb = fs[k % fs.length] := ⟨_, rfl⟩
        rw [← hfb] at hcell
        have hfn : fateN fs k = fb.toNat := by rw [hfb]; simp [fateN, hf0, List.getD, List.getElem?_eq_getElem hlt2]
        have hb8 := fb.toNat_lt
        have hmin : min ((m.abs.safe : Int) + fb.toNat) (m.abs.bytes.length : Int) = (N : Int) := by
          rw [hN, hfn]; omega
        clear hN hlenN hfn hfb hfcell hbf
        go_wp2
        obtain ⟨ms2, h2⟩ := HEND.out _ rfl
        refine ⟨⟨k + 1, ms2, by omega, by go_num, h2⟩, ?_⟩
        simp only [intOf]; omega
    · obtain rfl : k = (sortedN A).length := by omega
      obtain ⟨e1, e2, e3⟩ := crashTo_room A fs (sortedN A)
      go_wp2
      go_end0
      have hfi := HCR.out.files
      rw [List.take_length] at hfi
      refine ⟨rfl, _, ms', ⟨?_, hfi⟩, HCR.out.turn.setCell (.inl (foot_r _ _ _)) _, fun j hj => .inl (HCR.out.foot j hj)⟩
      show RefAt _ r _ ms' (crashTo A fs (sortedN A)).room (-1)
      rw [e1]
      exact HCR.out.mem.setLeft (-1)
end Go.Proofs.YtlcgcckllecjpaaDoor.Dk
