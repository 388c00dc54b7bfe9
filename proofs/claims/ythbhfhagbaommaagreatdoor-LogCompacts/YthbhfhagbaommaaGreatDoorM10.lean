/- Lgy, Lgx2, Lgv, Lgu, Same, One, Lgq, Cpq, Cpr, OpA, OpC, Lgk: texts merged. -/
import Derived.Test.YthbhfhagbaommaaGreatDoorM9
import Derived.Test.YthbhfhagbaommaaGreatDoorM8
import Derived.Lib.SliceRun
import Derived.Test.YthbhfhagbaommaaGreatDoorM3
import Derived.Test.YthbhfhagbaommaaGreatDoorM5
import Derived.Test.YthbhfhagbaommaaGreatDoorM2
/- The closure of Retain; slices.Delete of a log's first segment; drop; Retain. -/
namespace Go.Proofs.YthbhfhagbaommaaGreatDoor.Lg
open Go.RowKit Go.Maps
set_option maxRecDepth 100000
set_option linter.unusedSimpArgs false
set_option linter.unusedVariables false
attribute [local go_sem] Oper.semAt_some
open Dk (DA DiskAt Parts Did errR errV)
open Sg (SegAt sfoot pls Both Came nextOf flat Chain)

/-- What the boxes of Retain's closure hold. -/
structure RBox (w : World) (lb B0 B1 B2 B3 : Nat) (now age bytes : Int) : Prop where
  b0 : w.heap[B0]? = some (.cells #[.pointer (some ⟨lb, 0, none⟩)] 30 (0, 0))
  b1 : w.heap[B1]? = some (.cells #[.int .i64 now] 3 (0, 0))
  b2 : w.heap[B2]? = some (.cells #[.int .i64 age] 3 (0, 0))
  b3 : w.heap[B3]? = some (.cells #[.int .i64 bytes] 3 (0, 0))
/-- Blocks of other types lie apart from a log. -/
theorem LogAt.apartOf {w : World} {base d lb : Nat} {F : List Nat} {A : DA} {gv : Value} {dir : ByteArray} {v : LV} {ms : List SM} (h : LogAt w base d F A lb gv dir v ms) {k : Nat} {cs : Array Value} {T : TypeId} {fr : Nat × Nat} (e : w.heap[k]? = some (.cells cs T fr))
    (h1 : T ≠ 65) (h2 : T ≠ 68) (h3 : T ≠ 96) (h4 : T ≠ 120) (h5 : T ≠ 59) (h6 : T ≠ 114) (h7 : T ≠ 5) : k ∉ lfoot F lb gv ms := by
  intro hm
  rcases mem_lfoot.1 hm with rfl | hm | ⟨x, hx, hm⟩ | hm
  · exact ne_of_type h.box e (fun q => h1 q.symm) rfl
  · obtain ⟨cs', e'⟩ := h.row.kind k hm
    exact ne_of_type e' e (fun q => h2 q.symm) rfl
  · obtain ⟨cs', T', e', hT⟩ := seg_kind (h.segs x hx) k hm
    rcases hT with rfl | rfl
    · exact ne_of_type e' e (fun q => h3 q.symm) rfl
    · exact ne_of_type e' e (fun q => h4 q.symm) rfl
  · rcases disk_kind h.disk hm e with q | q | q
    · exact h5 q
    · exact h6 q
    · exact h7 q
theorem RBox.kept {w w' : World} {base d lb B0 B1 B2 B3 : Nat} {F : List Nat} {A : DA} {gv : Value} {dir : ByteArray} {v : LV} {ms : List SM} {now age bytes : Int} (hb : RBox w lb B0 B1 B2 B3 now age bytes) (h : LogAt w base d F A lb gv dir v ms) (ht : Turn (lfoot F lb gv ms) w w') : RBox w' lb B0 B1 B2 B3 now age bytes :=
  ⟨ht.heap hb.b0 (h.apartOf hb.b0 (by decide) (by decide) (by decide) (by decide) (by decide) (by decide) (by decide)),
   ht.heap hb.b1 (h.apartOf hb.b1 (by decide) (by decide) (by decide) (by decide) (by decide) (by decide) (by decide)),
   ht.heap hb.b2 (h.apartOf hb.b2 (by decide) (by decide) (by decide) (by decide) (by decide) (by decide) (by decide)),
   ht.heap hb.b3 (h.apartOf hb.b3 (by decide) (by decide) (by decide) (by decide) (by decide) (by decide) (by decide))⟩
theorem RBox.still {w w' : World} {lb B0 B1 B2 B3 : Nat} {now age bytes : Int} (hb : RBox w lb B0 B1 B2 B3 now age bytes) (ht : Turn [] w w') : RBox w' lb B0 B1 B2 B3 now age bytes :=
  ⟨ht.heap hb.b0 (by simp), ht.heap hb.b1 (by simp), ht.heap hb.b2 (by simp), ht.heap hb.b3 (by simp)⟩
theorem RBox.cells {w : World} {lb B0 B1 B2 B3 : Nat} {now age bytes : Int} (hb : RBox w lb B0 B1 B2 B3 now age bytes) : w.cell? ⟨B0, 0, none⟩ = some (.pointer (some ⟨lb, 0, none⟩)) ∧ w.cell? ⟨B1, 0, none⟩ = some (.int .i64 now) ∧ w.cell? ⟨B2, 0, none⟩ = some (.int .i64 age) ∧ w.cell? ⟨B3, 0, none⟩ = some (.int .i64 bytes) :=
  ⟨by rw [cell_of hb.b0]; rfl, by rw [cell_of hb.b1]; rfl, by rw [cell_of hb.b2]; rfl, by rw [cell_of hb.b3]; rfl⟩

set_option maxHeartbeats 4000000 in
theorem goes_any (w : World) (base d : Nat) (F : List Nat) (A : DA) (lb : Nat) (gv : Value) (dir : ByteArray) (v : LV) (ms : List SM) (h : LogAt w base d F A lb gv dir v ms) (hok : OkS A dir (ms.map SM.abs)) (B0 B1 B2 B3 : Nat) (now age bytes : Int) (hb : RBox w lb B0 B1 B2 B3 now age bytes) (m : SM) (hm : m ∈ ms) (x : Value) :
    Calls Tryz.prog 60 #[.pointer (some ⟨m.sb, 0, none⟩), x, .pointer (some ⟨B2, 0, none⟩), .pointer (some ⟨B1, 0, none⟩), .pointer (some ⟨B3, 0, none⟩), .pointer (some ⟨B0, 0, none⟩)] w fun e w' => ∃ b, e = .returned (.bool b) ∧ Turn [] w w' := by
  have habs : m.abs ∈ ms.map SM.abs := List.mem_map_of_mem hm
  have hfs : (flat m.xs).length ≤ 1048576 := flat_short h.disk hok habs
  have hfl := Sg.flat_len m.xs
  have hlt0 := fun (Z : World) (hZ : Turn [] w Z) => Sg.latest_any Z base d m.sb m.sv _ m.n _ ((h.segs m hm).still hZ) (by rw [Sg.pls_len]; omega)
  obtain ⟨L, hL⟩ : ∃ L, L = Sg.latestP (pls 0 (-1) m.xs) := ⟨_, rfl⟩
  rw [← hL] at hlt0
  have hsz0 := fun (Z : World) (hZ : Turn [] w Z) => Sg.size_any Z base d m.sb m.sv _ m.n _ ((h.segs m hm).still hZ) (by rw [Sg.pls_len]; omega) (by rw [Sg.sizeP_pls]; omega)
  obtain ⟨S, hS⟩ : ∃ S, S = Sg.sizeP (pls 0 (-1) m.xs) := ⟨_, rfl⟩
  rw [← hS] at hsz0
  have hall0 := fun (Z : World) (hZ : Turn [] w Z) => Size_any Z base d F A lb gv dir v ms (h.still hZ) hok
  have hc0 := fun (Z : World) (hZ : Turn [] w Z) => (hb.still hZ).cells
  obtain ⟨N, hN⟩ : ∃ N, N = sizeL ms := ⟨_, rfl⟩
  rw [← hN] at hall0
  have HLT := hide hlt0
  have HSZ := hide hsz0
  have HALL := hide hall0
  have HC := hide hc0
  have z0 := lt_of_heap hb.b0
  have z1 := lt_of_heap hb.b1
  have z2 := lt_of_heap hb.b2
  have z3 := lt_of_heap hb.b3
  clear hN habs hfs hfl hlt0 hL hsz0 hS hall0 hc0 hb hok h hm
  by_cases ha : 0 ≤ age
  · go_enter Tryz.func60, Tryz.ntmps60
    go_wp2
    refine wp_region_loose (Turn []) (by kernel_rfl) (by kernel_rfl) (by kernel_rfl) (by kernel_rfl) rfl (Turn.refl _) (fun _ _ _ h k => h.same k) ?_
    apply Lo.runx 1 rfl rfl [] (by kernel_rfl) (Turn.refl _)
    apply Exists.intro; apply And.intro
    · intro u w1 hR hF
      clear hF
      refine ⟨rfl, fun a ha K hK => ?_⟩
      have e2 := ha 2
      conv at e2 => rhs; whnf
      clear ha
      obtain ⟨k0, k1, k2, k3⟩ := HC.out w1 (((Turn.refl [] _).drew).same hR)
      go_simp
      refine hK _ ?_; rfl
    refine Lo.runv 2 rfl rfl [0] (.bool (true)) (by kernel_rfl) (fun u w1 hR hF => ?_) (Turn.refl _) ?_
    · obtain ⟨h0, -⟩ := hF
      refine ⟨rfl, fun a ha K hK => ?_⟩
      have e10 := (ha 10).trans h0
      clear ha h0
      go_simp
      refine hK _ ?_
      simp [ha]
    apply Lo.runx 3 rfl rfl [1] (by kernel_rfl) (Turn.refl _)
    apply Exists.intro; apply And.intro
    · intro u w1 hR hF
      obtain ⟨h1, -⟩ := hF
      refine ⟨rfl, fun a ha K hK => ?_⟩
      have e11 := (ha 11).trans h1
      clear ha h1
      go_simp
      refine hK _ ?_; rfl
    apply Lo.runx 4 rfl rfl [2] (by kernel_rfl) (Turn.refl _)
    apply Exists.intro; apply And.intro
    · intro u w1 hR hF
      obtain ⟨h2, -⟩ := hF
      refine ⟨.inl ⟨true, h2, rfl⟩, fun a ha K hK => ?_⟩
      have e0 := ha 0
      conv at e0 => rhs; whnf
      clear ha h2
      go_simp
      refine hK _ ?_; rfl
    refine Lo.run 5 rfl rfl [2, 3] (fun y w' => y = .int .i64 L) (by kernel_rfl) (fun x w w' h hR => ?_) (fun _ _ h => h) (fun u w1 hR hF => ?_) ?_
    · exact h
    · obtain ⟨h2, h3, -⟩ := hF
      refine ⟨.inl ⟨true, h2, rfl⟩, fun a ha K hK => ?_⟩
      have e13 := (ha 13).trans h3
      clear ha h2 h3
      go_simp
      refine (HLT.out w1 (((Turn.refl [] _).drew).same hR)).mono ?_
      rintro e w5 ⟨rfl, ht5⟩
      exact hK _ _ rfl ht5
    apply Lo.runx 6 rfl rfl [2] (by kernel_rfl) (Turn.refl _)
    apply Exists.intro; apply And.intro
    · intro u w1 hR hF
      obtain ⟨h2, -⟩ := hF
      refine ⟨.inl ⟨true, h2, rfl⟩, fun a ha K hK => ?_⟩
      have e3 := ha 3
      conv at e3 => rhs; whnf
      clear ha h2
      obtain ⟨k0, k1, k2, k3⟩ := HC.out w1 (((Turn.refl [] _).drew).same hR)
      go_simp
      refine hK _ ?_; rfl
    apply Lo.runx 7 rfl rfl [2] (by kernel_rfl) (Turn.refl _)
    apply Exists.intro; apply And.intro
    · intro u w1 hR hF
      obtain ⟨h2, -⟩ := hF
      refine ⟨.inl ⟨true, h2, rfl⟩, fun a ha K hK => ?_⟩
      have e2 := ha 2
      conv at e2 => rhs; whnf
      clear ha h2
      obtain ⟨k0, k1, k2, k3⟩ := HC.out w1 (((Turn.refl [] _).drew).same hR)
      go_simp
      refine hK _ ?_; rfl
    apply Lo.runx 8 rfl rfl [2, 5, 6] (by kernel_rfl) (Turn.refl _)
    apply Exists.intro; apply And.intro
    · intro u w1 hR hF
      obtain ⟨h2, h5, h6, -⟩ := hF
      refine ⟨.inl ⟨true, h2, rfl⟩, fun a ha K hK => ?_⟩
      have e15 := (ha 15).trans h5
      have e16 := (ha 16).trans h6
      clear ha h2 h5 h6
      go_simp
      refine hK _ ?_; rfl
    apply Lo.runx 9 rfl rfl [2, 4, 7] (by kernel_rfl) (Turn.refl _)
    apply Exists.intro; apply And.intro
    · intro u w1 hR hF
      obtain ⟨h2, h4, h7, -⟩ := hF
      refine ⟨.inl ⟨true, h2, rfl⟩, fun a ha K hK => ?_⟩
      have e14 : a.tmps.getD 14 undef = u 4 := ha 14
      have e17 := (ha 17).trans h7
      have h4 := (show (fun y w' => y = .int .i64 L) (u 4) w1 from h4)
      dsimp only at h4
      clear ha h2 h7
      go_simp
      refine hK _ ?_; rfl
    apply Lo.runx 10 rfl rfl [2, 8] (by kernel_rfl) (Turn.refl _)
    apply Exists.intro; apply And.intro
    · intro u w1 hR hF
      obtain ⟨h2, h8, -⟩ := hF
      refine ⟨rfl, fun a ha K hK => ?_⟩
      have e12 := (ha 12).trans h2
      have e18 := (ha 18).trans h8
      clear ha h2 h8
      go_simp
      refine hK _ ?_; rfl
    apply Lo.runx 11 rfl rfl [9] (by kernel_rfl) (Turn.refl _)
    apply Exists.intro; apply And.intro
    · intro u w1 hR hF
      obtain ⟨h9, -⟩ := hF
      refine ⟨rfl, fun a ha K hK => ?_⟩
      have e19 := (ha 19).trans h9
      clear ha h9
      go_simp
      refine hK _ ?_; rfl
    refine Lo.done [10] (fun u w1 hRd hSd hF => ?_)
    clear hSd
    obtain ⟨f10, -⟩ := hF
    have d10 : u 10 = _ := f10
    clear f10
    simp only [putFrom, Act.put, List.setIfInBounds_toArray, List.set_cons_succ, List.set_cons_zero, Nat.zero_add, Nat.reduceAdd, d10]
    have HT1 := hide (((Turn.refl [] w).drew).same hRd)
    obtain ⟨wa, rfl⟩ : ∃ wa, wa = w1 := ⟨_, rfl⟩
    clear d10 hRd
    obtain ⟨old, hold⟩ : ∃ old : Bool, old = decide (L < IntKind.i64.wrap (now - age)) := ⟨_, rfl⟩
    rw [← hold]
    clear hold
    cases old
    · by_cases hby : 0 ≤ bytes
      · go_wp2
        refine wp_region_loose (Turn []) (by kernel_rfl) (by kernel_rfl) (by kernel_rfl) (by kernel_rfl) rfl (Turn.refl _) (fun _ _ _ h k => h.same k) ?_
        apply Lo.runx 1 rfl rfl [] (by kernel_rfl) (Turn.refl _)
        apply Exists.intro; apply And.intro
        · intro u w1 hR hF
          clear hF
          refine ⟨rfl, fun a ha K hK => ?_⟩
          have e9 := ha 9
          conv at e9 => rhs; whnf
          clear ha
          go_simp
          refine hK _ ?_; rfl
        apply Lo.runx 2 rfl rfl [0] (by kernel_rfl) (Turn.refl _)
        apply Exists.intro; apply And.intro
        · intro u w1 hR hF
          obtain ⟨h0, -⟩ := hF
          refine ⟨rfl, fun a ha K hK => ?_⟩
          have e20 := (ha 20).trans h0
          clear ha h0
          go_simp
          refine hK _ ?_; rfl
        apply Lo.runx 3 rfl rfl [1] (by kernel_rfl) (Turn.refl _)
        apply Exists.intro; apply And.intro
        · intro u w1 hR hF
          obtain ⟨h1, -⟩ := hF
          refine ⟨.inl ⟨false, h1, rfl⟩, fun a ha K hK => ?_⟩
          have e4 := ha 4
          conv at e4 => rhs; whnf
          clear ha h1
          obtain ⟨k0, k1, k2, k3⟩ := HC.out w1 (HT1.out.same (((Turn.refl [] _).drew).same hR))
          go_simp
          refine hK _ ?_; rfl
        refine Lo.runv 4 rfl rfl [1, 2] (.bool (true)) (by kernel_rfl) (fun u w1 hR hF => ?_) (Turn.refl _) ?_
        · obtain ⟨h1, h2, -⟩ := hF
          refine ⟨.inl ⟨false, h1, rfl⟩, fun a ha K hK => ?_⟩
          have e22 := (ha 22).trans h2
          clear ha h1 h2
          go_simp
          refine hK _ ?_
          simp [hby]
        apply Lo.runx 5 rfl rfl [1, 3] (by kernel_rfl) (Turn.refl _)
        apply Exists.intro; apply And.intro
        · intro u w1 hR hF
          obtain ⟨h1, h3, -⟩ := hF
          refine ⟨.inl ⟨false, h1, rfl⟩, fun a ha K hK => ?_⟩
          have e23 := (ha 23).trans h3
          clear ha h1 h3
          go_simp
          refine hK _ ?_; rfl
        apply Lo.runx 6 rfl rfl [4] (by kernel_rfl) (Turn.refl _)
        apply Exists.intro; apply And.intro
        · intro u w1 hR hF
          obtain ⟨h4, -⟩ := hF
          refine ⟨.inl ⟨true, h4, rfl⟩, fun a ha K hK => ?_⟩
          have e5 := ha 5
          conv at e5 => rhs; whnf
          clear ha h4
          obtain ⟨k0, k1, k2, k3⟩ := HC.out w1 (HT1.out.same (((Turn.refl [] _).drew).same hR))
          go_simp
          refine hK _ ?_; rfl
        refine Lo.run 7 rfl rfl [4, 5] (fun y w' => y = .int .i64 (N : Int)) (by kernel_rfl) (fun x w w' h hR => ?_) (fun _ _ h => h) (fun u w1 hR hF => ?_) ?_
        · exact h
        · obtain ⟨h4, h5, -⟩ := hF
          refine ⟨.inl ⟨true, h4, rfl⟩, fun a ha K hK => ?_⟩
          have e25 := (ha 25).trans h5
          clear ha h4 h5
          go_simp
          refine (HALL.out w1 (HT1.out.same (((Turn.refl [] _).drew).same hR))).mono ?_
          rintro e w5 ⟨rfl, -, ht5⟩
          exact hK _ _ rfl ht5
        apply Lo.runx 8 rfl rfl [4] (by kernel_rfl) (Turn.refl _)
        apply Exists.intro; apply And.intro
        · intro u w1 hR hF
          obtain ⟨h4, -⟩ := hF
          refine ⟨.inl ⟨true, h4, rfl⟩, fun a ha K hK => ?_⟩
          have e0 := ha 0
          conv at e0 => rhs; whnf
          clear ha h4
          go_simp
          refine hK _ ?_; rfl
        refine Lo.run 9 rfl rfl [4, 7] (fun y w' => y = .int .i64 (S : Int)) (by kernel_rfl) (fun x w w' h hR => ?_) (fun _ _ h => h) (fun u w1 hR hF => ?_) ?_
        · exact h
        · obtain ⟨h4, h7, -⟩ := hF
          refine ⟨.inl ⟨true, h4, rfl⟩, fun a ha K hK => ?_⟩
          have e27 := (ha 27).trans h7
          clear ha h4 h7
          go_simp
          refine (HSZ.out w1 (HT1.out.same (((Turn.refl [] _).drew).same hR))).mono ?_
          rintro e w5 ⟨rfl, ht5⟩
          exact hK _ _ rfl ht5
        apply Lo.runx 10 rfl rfl [4, 6, 8] (by kernel_rfl) (Turn.refl _)
        apply Exists.intro; apply And.intro
        · intro u w1 hR hF
          obtain ⟨h4, h6, h8, -⟩ := hF
          refine ⟨.inl ⟨true, h4, rfl⟩, fun a ha K hK => ?_⟩
          have e26 : a.tmps.getD 26 undef = u 6 := ha 26
          have e28 : a.tmps.getD 28 undef = u 8 := ha 28
          have h6 := (show (fun y w' => y = .int .i64 (N : Int)) (u 6) w1 from h6)
          dsimp only at h6
          have h8 := (show (fun y w' => y = .int .i64 (S : Int)) (u 8) w1 from h8)
          dsimp only at h8
          clear ha h4
          go_simp
          refine hK _ ?_; rfl
        apply Lo.runx 11 rfl rfl [4] (by kernel_rfl) (Turn.refl _)
        apply Exists.intro; apply And.intro
        · intro u w1 hR hF
          obtain ⟨h4, -⟩ := hF
          refine ⟨.inl ⟨true, h4, rfl⟩, fun a ha K hK => ?_⟩
          have e4 := ha 4
          conv at e4 => rhs; whnf
          clear ha h4
          obtain ⟨k0, k1, k2, k3⟩ := HC.out w1 (HT1.out.same (((Turn.refl [] _).drew).same hR))
          go_simp
          refine hK _ ?_; rfl
        apply Lo.runx 12 rfl rfl [4, 9, 10] (by kernel_rfl) (Turn.refl _)
        apply Exists.intro; apply And.intro
        · intro u w1 hR hF
          obtain ⟨h4, h9, h10, -⟩ := hF
          refine ⟨.inl ⟨true, h4, rfl⟩, fun a ha K hK => ?_⟩
          have e29 := (ha 29).trans h9
          have e30 := (ha 30).trans h10
          clear ha h4 h9 h10
          go_simp
          refine hK _ ?_; rfl
        apply Lo.runx 13 rfl rfl [1, 4, 11] (by kernel_rfl) (Turn.refl _)
        apply Exists.intro; apply And.intro
        · intro u w1 hR hF
          obtain ⟨h1, h4, h11, -⟩ := hF
          refine ⟨.inl ⟨false, h1, rfl⟩, fun a ha K hK => ?_⟩
          have e24 := (ha 24).trans h4
          have e31 := (ha 31).trans h11
          clear ha h1 h4 h11
          go_simp
          refine hK _ ?_; rfl
        apply Lo.runx 14 rfl rfl [1, 12] (by kernel_rfl) (Turn.refl _)
        apply Exists.intro; apply And.intro
        · intro u w1 hR hF
          obtain ⟨h1, h12, -⟩ := hF
          refine ⟨rfl, fun a ha K hK => ?_⟩
          have e21 := (ha 21).trans h1
          have e32 := (ha 32).trans h12
          clear ha h1 h12
          go_simp
          refine hK _ ?_; rfl
        apply Lo.runx 15 rfl rfl [13] (by kernel_rfl) (Turn.refl _)
        apply Exists.intro; apply And.intro
        · intro u w1 hR hF
          obtain ⟨h13, -⟩ := hF
          refine ⟨rfl, fun a ha K hK => ?_⟩
          have e33 := (ha 33).trans h13
          clear ha h13
          go_simp
          refine hK _ ?_; rfl
        refine Lo.done [14] (fun u w1 hRd hSd hF => ?_)
        clear hSd
        obtain ⟨f14, -⟩ := hF
        have d14 : u 14 = _ := f14
        clear f14
        simp only [putFrom, Act.put, List.setIfInBounds_toArray, List.set_cons_succ, List.set_cons_zero, Nat.zero_add, Nat.reduceAdd, d14]
        have HT2 := hide (HT1.out.same (((Turn.refl [] _).drew).same hRd))
        clear d14 hRd
        go_wp2
        go_ret
        exact ⟨_, rfl, HT2.out⟩
      · go_wp2
        refine wp_region_loose (Turn []) (by kernel_rfl) (by kernel_rfl) (by kernel_rfl) (by kernel_rfl) rfl (Turn.refl _) (fun _ _ _ h k => h.same k) ?_
        apply Lo.runx 1 rfl rfl [] (by kernel_rfl) (Turn.refl _)
        apply Exists.intro; apply And.intro
        · intro u w1 hR hF
          clear hF
          refine ⟨rfl, fun a ha K hK => ?_⟩
          have e9 := ha 9
          conv at e9 => rhs; whnf
          clear ha
          go_simp
          refine hK _ ?_; rfl
        apply Lo.runx 2 rfl rfl [0] (by kernel_rfl) (Turn.refl _)
        apply Exists.intro; apply And.intro
        · intro u w1 hR hF
          obtain ⟨h0, -⟩ := hF
          refine ⟨rfl, fun a ha K hK => ?_⟩
          have e20 := (ha 20).trans h0
          clear ha h0
          go_simp
          refine hK _ ?_; rfl
        apply Lo.runx 3 rfl rfl [1] (by kernel_rfl) (Turn.refl _)
        apply Exists.intro; apply And.intro
        · intro u w1 hR hF
          obtain ⟨h1, -⟩ := hF
          refine ⟨.inl ⟨false, h1, rfl⟩, fun a ha K hK => ?_⟩
          have e4 := ha 4
          conv at e4 => rhs; whnf
          clear ha h1
          obtain ⟨k0, k1, k2, k3⟩ := HC.out w1 (HT1.out.same (((Turn.refl [] _).drew).same hR))
          go_simp
          refine hK _ ?_; rfl
        refine Lo.runv 4 rfl rfl [1, 2] (.bool (false)) (by kernel_rfl) (fun u w1 hR hF => ?_) (Turn.refl _) ?_
        · obtain ⟨h1, h2, -⟩ := hF
          refine ⟨.inl ⟨false, h1, rfl⟩, fun a ha K hK => ?_⟩
          have e22 := (ha 22).trans h2
          clear ha h1 h2
          go_simp
          refine hK _ ?_
          simp; omega
        apply Lo.runx 5 rfl rfl [1, 3] (by kernel_rfl) (Turn.refl _)
        apply Exists.intro; apply And.intro
        · intro u w1 hR hF
          obtain ⟨h1, h3, -⟩ := hF
          refine ⟨.inl ⟨false, h1, rfl⟩, fun a ha K hK => ?_⟩
          have e23 := (ha 23).trans h3
          clear ha h1 h3
          go_simp
          refine hK _ ?_; rfl
        refine Lo.pass 6 rfl rfl [4] (by kernel_rfl) (Turn.refl _) (fun u w1 hR hF => ?_) ?_
        · exact .inl ⟨false, hF.1, rfl⟩
        refine Lo.pass 7 rfl rfl [4] (by kernel_rfl) (Turn.refl _) (fun u w1 hR hF => ?_) ?_
        · exact .inl ⟨false, hF.1, rfl⟩
        refine Lo.pass 8 rfl rfl [4] (by kernel_rfl) (Turn.refl _) (fun u w1 hR hF => ?_) ?_
        · exact .inl ⟨false, hF.1, rfl⟩
        refine Lo.pass 9 rfl rfl [4] (by kernel_rfl) (Turn.refl _) (fun u w1 hR hF => ?_) ?_
        · exact .inl ⟨false, hF.1, rfl⟩
        refine Lo.pass 10 rfl rfl [4] (by kernel_rfl) (Turn.refl _) (fun u w1 hR hF => ?_) ?_
        · exact .inl ⟨false, hF.1, rfl⟩
        refine Lo.pass 11 rfl rfl [4] (by kernel_rfl) (Turn.refl _) (fun u w1 hR hF => ?_) ?_
        · exact .inl ⟨false, hF.1, rfl⟩
        refine Lo.pass 12 rfl rfl [4] (by kernel_rfl) (Turn.refl _) (fun u w1 hR hF => ?_) ?_
        · exact .inl ⟨false, hF.1, rfl⟩
        apply Lo.runx 13 rfl rfl [1, 4, 11] (by kernel_rfl) (Turn.refl _)
        apply Exists.intro; apply And.intro
        · intro u w1 hR hF
          obtain ⟨h1, h4, h11, -⟩ := hF
          refine ⟨.inl ⟨false, h1, rfl⟩, fun a ha K hK => ?_⟩
          have e24 := (ha 24).trans h4
          have e31 := (ha 31).trans h11
          clear ha h1 h4 h11
          go_simp
          refine hK _ ?_; rfl
        apply Lo.runx 14 rfl rfl [1, 12] (by kernel_rfl) (Turn.refl _)
        apply Exists.intro; apply And.intro
        · intro u w1 hR hF
          obtain ⟨h1, h12, -⟩ := hF
          refine ⟨rfl, fun a ha K hK => ?_⟩
          have e21 := (ha 21).trans h1
          have e32 := (ha 32).trans h12
          clear ha h1 h12
          go_simp
          refine hK _ ?_; rfl
        apply Lo.runx 15 rfl rfl [13] (by kernel_rfl) (Turn.refl _)
        apply Exists.intro; apply And.intro
        · intro u w1 hR hF
          obtain ⟨h13, -⟩ := hF
          refine ⟨rfl, fun a ha K hK => ?_⟩
          have e33 := (ha 33).trans h13
          clear ha h13
          go_simp
          refine hK _ ?_; rfl
        refine Lo.done [14] (fun u w1 hRd hSd hF => ?_)
        clear hSd
        obtain ⟨f14, -⟩ := hF
        have d14 : u 14 = _ := f14
        clear f14
        simp only [putFrom, Act.put, List.setIfInBounds_toArray, List.set_cons_succ, List.set_cons_zero, Nat.zero_add, Nat.reduceAdd, d14]
        have HT2 := hide (HT1.out.same (((Turn.refl [] _).drew).same hRd))
        clear d14 hRd
        go_wp2
        go_ret
        exact ⟨_, rfl, HT2.out⟩
    · go_wp2
      refine wp_region_loose (Turn []) (by kernel_rfl) (by kernel_rfl) (by kernel_rfl) (by kernel_rfl) rfl (Turn.refl _) (fun _ _ _ h k => h.same k) ?_
      apply Lo.runx 1 rfl rfl [] (by kernel_rfl) (Turn.refl _)
      apply Exists.intro; apply And.intro
      · intro u w1 hR hF
        clear hF
        refine ⟨rfl, fun a ha K hK => ?_⟩
        have e9 := ha 9
        conv at e9 => rhs; whnf
        clear ha
        go_simp
        refine hK _ ?_; rfl
      apply Lo.runx 2 rfl rfl [0] (by kernel_rfl) (Turn.refl _)
      apply Exists.intro; apply And.intro
      · intro u w1 hR hF
        obtain ⟨h0, -⟩ := hF
        refine ⟨rfl, fun a ha K hK => ?_⟩
        have e20 := (ha 20).trans h0
        clear ha h0
        go_simp
        refine hK _ ?_; rfl
      refine Lo.pass 3 rfl rfl [1] (by kernel_rfl) (Turn.refl _) (fun u w1 hR hF => ?_) ?_
      · exact .inl ⟨true, hF.1, rfl⟩
      refine Lo.pass 4 rfl rfl [1] (by kernel_rfl) (Turn.refl _) (fun u w1 hR hF => ?_) ?_
      · exact .inl ⟨true, hF.1, rfl⟩
      refine Lo.pass 5 rfl rfl [1] (by kernel_rfl) (Turn.refl _) (fun u w1 hR hF => ?_) ?_
      · exact .inl ⟨true, hF.1, rfl⟩
      refine Lo.pass 6 rfl rfl [4] (by kernel_rfl) (Turn.refl _) (fun u w1 hR hF => ?_) ?_
      · exact .inr ⟨hF.1, rfl⟩
      refine Lo.pass 7 rfl rfl [4] (by kernel_rfl) (Turn.refl _) (fun u w1 hR hF => ?_) ?_
      · exact .inr ⟨hF.1, rfl⟩
      refine Lo.pass 8 rfl rfl [4] (by kernel_rfl) (Turn.refl _) (fun u w1 hR hF => ?_) ?_
      · exact .inr ⟨hF.1, rfl⟩
      refine Lo.pass 9 rfl rfl [4] (by kernel_rfl) (Turn.refl _) (fun u w1 hR hF => ?_) ?_
      · exact .inr ⟨hF.1, rfl⟩
      refine Lo.pass 10 rfl rfl [4] (by kernel_rfl) (Turn.refl _) (fun u w1 hR hF => ?_) ?_
      · exact .inr ⟨hF.1, rfl⟩
      refine Lo.pass 11 rfl rfl [4] (by kernel_rfl) (Turn.refl _) (fun u w1 hR hF => ?_) ?_
      · exact .inr ⟨hF.1, rfl⟩
      refine Lo.pass 12 rfl rfl [4] (by kernel_rfl) (Turn.refl _) (fun u w1 hR hF => ?_) ?_
      · exact .inr ⟨hF.1, rfl⟩
      refine Lo.pass 13 rfl rfl [1] (by kernel_rfl) (Turn.refl _) (fun u w1 hR hF => ?_) ?_
      · exact .inl ⟨true, hF.1, rfl⟩
      apply Lo.runx 14 rfl rfl [1, 12] (by kernel_rfl) (Turn.refl _)
      apply Exists.intro; apply And.intro
      · intro u w1 hR hF
        obtain ⟨h1, h12, -⟩ := hF
        refine ⟨rfl, fun a ha K hK => ?_⟩
        have e21 := (ha 21).trans h1
        have e32 := (ha 32).trans h12
        clear ha h1 h12
        go_simp
        refine hK _ ?_; rfl
      apply Lo.runx 15 rfl rfl [13] (by kernel_rfl) (Turn.refl _)
      apply Exists.intro; apply And.intro
      · intro u w1 hR hF
        obtain ⟨h13, -⟩ := hF
        refine ⟨rfl, fun a ha K hK => ?_⟩
        have e33 := (ha 33).trans h13
        clear ha h13
        go_simp
        refine hK _ ?_; rfl
      refine Lo.done [14] (fun u w1 hRd hSd hF => ?_)
      clear hSd
      obtain ⟨f14, -⟩ := hF
      have d14 : u 14 = _ := f14
      clear f14
      simp only [putFrom, Act.put, List.setIfInBounds_toArray, List.set_cons_succ, List.set_cons_zero, Nat.zero_add, Nat.reduceAdd, d14]
      have HT2 := hide (HT1.out.same (((Turn.refl [] _).drew).same hRd))
      clear d14 hRd
      go_wp2
      go_ret
      exact ⟨_, rfl, HT2.out⟩
  · go_enter Tryz.func60, Tryz.ntmps60
    go_wp2
    refine wp_region_loose (Turn []) (by kernel_rfl) (by kernel_rfl) (by kernel_rfl) (by kernel_rfl) rfl (Turn.refl _) (fun _ _ _ h k => h.same k) ?_
    apply Lo.runx 1 rfl rfl [] (by kernel_rfl) (Turn.refl _)
    apply Exists.intro; apply And.intro
    · intro u w1 hR hF
      clear hF
      refine ⟨rfl, fun a ha K hK => ?_⟩
      have e2 := ha 2
      conv at e2 => rhs; whnf
      clear ha
      obtain ⟨k0, k1, k2, k3⟩ := HC.out w1 (((Turn.refl [] _).drew).same hR)
      go_simp
      refine hK _ ?_; rfl
    refine Lo.runv 2 rfl rfl [0] (.bool (false)) (by kernel_rfl) (fun u w1 hR hF => ?_) (Turn.refl _) ?_
    · obtain ⟨h0, -⟩ := hF
      refine ⟨rfl, fun a ha K hK => ?_⟩
      have e10 := (ha 10).trans h0
      clear ha h0
      go_simp
      refine hK _ ?_
      simp; omega
    apply Lo.runx 3 rfl rfl [1] (by kernel_rfl) (Turn.refl _)
    apply Exists.intro; apply And.intro
    · intro u w1 hR hF
      obtain ⟨h1, -⟩ := hF
      refine ⟨rfl, fun a ha K hK => ?_⟩
      have e11 := (ha 11).trans h1
      clear ha h1
      go_simp
      refine hK _ ?_; rfl
    refine Lo.pass 4 rfl rfl [2] (by kernel_rfl) (Turn.refl _) (fun u w1 hR hF => ?_) ?_
    · exact .inl ⟨false, hF.1, rfl⟩
    refine Lo.pass 5 rfl rfl [2] (by kernel_rfl) (Turn.refl _) (fun u w1 hR hF => ?_) ?_
    · exact .inl ⟨false, hF.1, rfl⟩
    refine Lo.pass 6 rfl rfl [2] (by kernel_rfl) (Turn.refl _) (fun u w1 hR hF => ?_) ?_
    · exact .inl ⟨false, hF.1, rfl⟩
    refine Lo.pass 7 rfl rfl [2] (by kernel_rfl) (Turn.refl _) (fun u w1 hR hF => ?_) ?_
    · exact .inl ⟨false, hF.1, rfl⟩
    refine Lo.pass 8 rfl rfl [2] (by kernel_rfl) (Turn.refl _) (fun u w1 hR hF => ?_) ?_
    · exact .inl ⟨false, hF.1, rfl⟩
    refine Lo.pass 9 rfl rfl [2] (by kernel_rfl) (Turn.refl _) (fun u w1 hR hF => ?_) ?_
    · exact .inl ⟨false, hF.1, rfl⟩
    apply Lo.runx 10 rfl rfl [2, 8] (by kernel_rfl) (Turn.refl _)
    apply Exists.intro; apply And.intro
    · intro u w1 hR hF
      obtain ⟨h2, h8, -⟩ := hF
      refine ⟨rfl, fun a ha K hK => ?_⟩
      have e12 := (ha 12).trans h2
      have e18 := (ha 18).trans h8
      clear ha h2 h8
      go_simp
      refine hK _ ?_; rfl
    apply Lo.runx 11 rfl rfl [9] (by kernel_rfl) (Turn.refl _)
    apply Exists.intro; apply And.intro
    · intro u w1 hR hF
      obtain ⟨h9, -⟩ := hF
      refine ⟨rfl, fun a ha K hK => ?_⟩
      have e19 := (ha 19).trans h9
      clear ha h9
      go_simp
      refine hK _ ?_; rfl
    refine Lo.done [10] (fun u w1 hRd hSd hF => ?_)
    clear hSd
    obtain ⟨f10, -⟩ := hF
    have d10 : u 10 = _ := f10
    clear f10
    simp only [putFrom, Act.put, List.setIfInBounds_toArray, List.set_cons_succ, List.set_cons_zero, Nat.zero_add, Nat.reduceAdd, d10]
    have HT1 := hide (((Turn.refl [] w).drew).same hRd)
    obtain ⟨wa, rfl⟩ : ∃ wa, wa = w1 := ⟨_, rfl⟩
    clear d10 hRd
    by_cases hby : 0 ≤ bytes
    · go_wp2
      refine wp_region_loose (Turn []) (by kernel_rfl) (by kernel_rfl) (by kernel_rfl) (by kernel_rfl) rfl (Turn.refl _) (fun _ _ _ h k => h.same k) ?_
      apply Lo.runx 1 rfl rfl [] (by kernel_rfl) (Turn.refl _)
      apply Exists.intro; apply And.intro
      · intro u w1 hR hF
        clear hF
        refine ⟨rfl, fun a ha K hK => ?_⟩
        have e9 := ha 9
        conv at e9 => rhs; whnf
        clear ha
        go_simp
        refine hK _ ?_; rfl
      apply Lo.runx 2 rfl rfl [0] (by kernel_rfl) (Turn.refl _)
      apply Exists.intro; apply And.intro
      · intro u w1 hR hF
        obtain ⟨h0, -⟩ := hF
        refine ⟨rfl, fun a ha K hK => ?_⟩
        have e20 := (ha 20).trans h0
        clear ha h0
        go_simp
        refine hK _ ?_; rfl
      apply Lo.runx 3 rfl rfl [1] (by kernel_rfl) (Turn.refl _)
      apply Exists.intro; apply And.intro
      · intro u w1 hR hF
        obtain ⟨h1, -⟩ := hF
        refine ⟨.inl ⟨false, h1, rfl⟩, fun a ha K hK => ?_⟩
        have e4 := ha 4
        conv at e4 => rhs; whnf
        clear ha h1
        obtain ⟨k0, k1, k2, k3⟩ := HC.out w1 (HT1.out.same (((Turn.refl [] _).drew).same hR))
        go_simp
        refine hK _ ?_; rfl
      refine Lo.runv 4 rfl rfl [1, 2] (.bool (true)) (by kernel_rfl) (fun u w1 hR hF => ?_) (Turn.refl _) ?_
      · obtain ⟨h1, h2, -⟩ := hF
        refine ⟨.inl ⟨false, h1, rfl⟩, fun a ha K hK => ?_⟩
        have e22 := (ha 22).trans h2
        clear ha h1 h2
        go_simp
        refine hK _ ?_
        simp [hby]
      apply Lo.runx 5 rfl rfl [1, 3] (by kernel_rfl) (Turn.refl _)
      apply Exists.intro; apply And.intro
      · intro u w1 hR hF
        obtain ⟨h1, h3, -⟩ := hF
        refine ⟨.inl ⟨false, h1, rfl⟩, fun a ha K hK => ?_⟩
        have e23 := (ha 23).trans h3
        clear ha h1 h3
        go_simp
        refine hK _ ?_; rfl
      apply Lo.runx 6 rfl rfl [4] (by kernel_rfl) (Turn.refl _)
      apply Exists.intro; apply And.intro
      · intro u w1 hR hF
        obtain ⟨h4, -⟩ := hF
        refine ⟨.inl ⟨true, h4, rfl⟩, fun a ha K hK => ?_⟩
        have e5 := ha 5
        conv at e5 => rhs; whnf
        clear ha h4
        obtain ⟨k0, k1, k2, k3⟩ := HC.out w1 (HT1.out.same (((Turn.refl [] _).drew).same hR))
        go_simp
        refine hK _ ?_; rfl
      refine Lo.run 7 rfl rfl [4, 5] (fun y w' => y = .int .i64 (N : Int)) (by kernel_rfl) (fun x w w' h hR => ?_) (fun _ _ h => h) (fun u w1 hR hF => ?_) ?_
      · exact h
      · obtain ⟨h4, h5, -⟩ := hF
        refine ⟨.inl ⟨true, h4, rfl⟩, fun a ha K hK => ?_⟩
        have e25 := (ha 25).trans h5
        clear ha h4 h5
        go_simp
        refine (HALL.out w1 (HT1.out.same (((Turn.refl [] _).drew).same hR))).mono ?_
        rintro e w5 ⟨rfl, -, ht5⟩
        exact hK _ _ rfl ht5
      apply Lo.runx 8 rfl rfl [4] (by kernel_rfl) (Turn.refl _)
      apply Exists.intro; apply And.intro
      · intro u w1 hR hF
        obtain ⟨h4, -⟩ := hF
        refine ⟨.inl ⟨true, h4, rfl⟩, fun a ha K hK => ?_⟩
        have e0 := ha 0
        conv at e0 => rhs; whnf
        clear ha h4
        go_simp
        refine hK _ ?_; rfl
      refine Lo.run 9 rfl rfl [4, 7] (fun y w' => y = .int .i64 (S : Int)) (by kernel_rfl) (fun x w w' h hR => ?_) (fun _ _ h => h) (fun u w1 hR hF => ?_) ?_
      · exact h
      · obtain ⟨h4, h7, -⟩ := hF
        refine ⟨.inl ⟨true, h4, rfl⟩, fun a ha K hK => ?_⟩
        have e27 := (ha 27).trans h7
        clear ha h4 h7
        go_simp
        refine (HSZ.out w1 (HT1.out.same (((Turn.refl [] _).drew).same hR))).mono ?_
        rintro e w5 ⟨rfl, ht5⟩
        exact hK _ _ rfl ht5
      apply Lo.runx 10 rfl rfl [4, 6, 8] (by kernel_rfl) (Turn.refl _)
      apply Exists.intro; apply And.intro
      · intro u w1 hR hF
        obtain ⟨h4, h6, h8, -⟩ := hF
        refine ⟨.inl ⟨true, h4, rfl⟩, fun a ha K hK => ?_⟩
        have e26 : a.tmps.getD 26 undef = u 6 := ha 26
        have e28 : a.tmps.getD 28 undef = u 8 := ha 28
        have h6 := (show (fun y w' => y = .int .i64 (N : Int)) (u 6) w1 from h6)
        dsimp only at h6
        have h8 := (show (fun y w' => y = .int .i64 (S : Int)) (u 8) w1 from h8)
        dsimp only at h8
        clear ha h4
        go_simp
        refine hK _ ?_; rfl
      apply Lo.runx 11 rfl rfl [4] (by kernel_rfl) (Turn.refl _)
      apply Exists.intro; apply And.intro
      · intro u w1 hR hF
        obtain ⟨h4, -⟩ := hF
        refine ⟨.inl ⟨true, h4, rfl⟩, fun a ha K hK => ?_⟩
        have e4 := ha 4
        conv at e4 => rhs; whnf
        clear ha h4
        obtain ⟨k0, k1, k2, k3⟩ := HC.out w1 (HT1.out.same (((Turn.refl [] _).drew).same hR))
        go_simp
        refine hK _ ?_; rfl
      apply Lo.runx 12 rfl rfl [4, 9, 10] (by kernel_rfl) (Turn.refl _)
      apply Exists.intro; apply And.intro
      · intro u w1 hR hF
        obtain ⟨h4, h9, h10, -⟩ := hF
        refine ⟨.inl ⟨true, h4, rfl⟩, fun a ha K hK => ?_⟩
        have e29 := (ha 29).trans h9
        have e30 := (ha 30).trans h10
        clear ha h4 h9 h10
        go_simp
        refine hK _ ?_; rfl
      apply Lo.runx 13 rfl rfl [1, 4, 11] (by kernel_rfl) (Turn.refl _)
      apply Exists.intro; apply And.intro
      · intro u w1 hR hF
        obtain ⟨h1, h4, h11, -⟩ := hF
        refine ⟨.inl ⟨false, h1, rfl⟩, fun a ha K hK => ?_⟩
        have e24 := (ha 24).trans h4
        have e31 := (ha 31).trans h11
        clear ha h1 h4 h11
        go_simp
        refine hK _ ?_; rfl
      apply Lo.runx 14 rfl rfl [1, 12] (by kernel_rfl) (Turn.refl _)
      apply Exists.intro; apply And.intro
      · intro u w1 hR hF
        obtain ⟨h1, h12, -⟩ := hF
        refine ⟨rfl, fun a ha K hK => ?_⟩
        have e21 := (ha 21).trans h1
        have e32 := (ha 32).trans h12
        clear ha h1 h12
        go_simp
        refine hK _ ?_; rfl
      apply Lo.runx 15 rfl rfl [13] (by kernel_rfl) (Turn.refl _)
      apply Exists.intro; apply And.intro
      · intro u w1 hR hF
        obtain ⟨h13, -⟩ := hF
        refine ⟨rfl, fun a ha K hK => ?_⟩
        have e33 := (ha 33).trans h13
        clear ha h13
        go_simp
        refine hK _ ?_; rfl
      refine Lo.done [14] (fun u w1 hRd hSd hF => ?_)
      clear hSd
      obtain ⟨f14, -⟩ := hF
      have d14 : u 14 = _ := f14
      clear f14
      simp only [putFrom, Act.put, List.setIfInBounds_toArray, List.set_cons_succ, List.set_cons_zero, Nat.zero_add, Nat.reduceAdd, d14]
      have HT2 := hide (HT1.out.same (((Turn.refl [] _).drew).same hRd))
      clear d14 hRd
      go_wp2
      go_ret
      exact ⟨_, rfl, HT2.out⟩
    · go_wp2
      refine wp_region_loose (Turn []) (by kernel_rfl) (by kernel_rfl) (by kernel_rfl) (by kernel_rfl) rfl (Turn.refl _) (fun _ _ _ h k => h.same k) ?_
      apply Lo.runx 1 rfl rfl [] (by kernel_rfl) (Turn.refl _)
      apply Exists.intro; apply And.intro
      · intro u w1 hR hF
        clear hF
        refine ⟨rfl, fun a ha K hK => ?_⟩
        have e9 := ha 9
        conv at e9 => rhs; whnf
        clear ha
        go_simp
        refine hK _ ?_; rfl
      apply Lo.runx 2 rfl rfl [0] (by kernel_rfl) (Turn.refl _)
      apply Exists.intro; apply And.intro
      · intro u w1 hR hF
        obtain ⟨h0, -⟩ := hF
        refine ⟨rfl, fun a ha K hK => ?_⟩
        have e20 := (ha 20).trans h0
        clear ha h0
        go_simp
        refine hK _ ?_; rfl
      apply Lo.runx 3 rfl rfl [1] (by kernel_rfl) (Turn.refl _)
      apply Exists.intro; apply And.intro
      · intro u w1 hR hF
        obtain ⟨h1, -⟩ := hF
        refine ⟨.inl ⟨false, h1, rfl⟩, fun a ha K hK => ?_⟩
        have e4 := ha 4
        conv at e4 => rhs; whnf
        clear ha h1
        obtain ⟨k0, k1, k2, k3⟩ := HC.out w1 (HT1.out.same (((Turn.refl [] _).drew).same hR))
        go_simp
        refine hK _ ?_; rfl
      refine Lo.runv 4 rfl rfl [1, 2] (.bool (false)) (by kernel_rfl) (fun u w1 hR hF => ?_) (Turn.refl _) ?_
      · obtain ⟨h1, h2, -⟩ := hF
        refine ⟨.inl ⟨false, h1, rfl⟩, fun a ha K hK => ?_⟩
        have e22 := (ha 22).trans h2
        clear ha h1 h2
        go_simp
        refine hK _ ?_
        simp; omega
      apply Lo.runx 5 rfl rfl [1, 3] (by kernel_rfl) (Turn.refl _)
      apply Exists.intro; apply And.intro
      · intro u w1 hR hF
        obtain ⟨h1, h3, -⟩ := hF
        refine ⟨.inl ⟨false, h1, rfl⟩, fun a ha K hK => ?_⟩
        have e23 := (ha 23).trans h3
        clear ha h1 h3
        go_simp
        refine hK _ ?_; rfl
      refine Lo.pass 6 rfl rfl [4] (by kernel_rfl) (Turn.refl _) (fun u w1 hR hF => ?_) ?_
      · exact .inl ⟨false, hF.1, rfl⟩
      refine Lo.pass 7 rfl rfl [4] (by kernel_rfl) (Turn.refl _) (fun u w1 hR hF => ?_) ?_
      · exact .inl ⟨false, hF.1, rfl⟩
      refine Lo.pass 8 rfl rfl [4] (by kernel_rfl) (Turn.refl _) (fun u w1 hR hF => ?_) ?_
      · exact .inl ⟨false, hF.1, rfl⟩
      refine Lo.pass 9 rfl rfl [4] (by kernel_rfl) (Turn.refl _) (fun u w1 hR hF => ?_) ?_
      · exact .inl ⟨false, hF.1, rfl⟩
      refine Lo.pass 10 rfl rfl [4] (by kernel_rfl) (Turn.refl _) (fun u w1 hR hF => ?_) ?_
      · exact .inl ⟨false, hF.1, rfl⟩
      refine Lo.pass 11 rfl rfl [4] (by kernel_rfl) (Turn.refl _) (fun u w1 hR hF => ?_) ?_
      · exact .inl ⟨false, hF.1, rfl⟩
      refine Lo.pass 12 rfl rfl [4] (by kernel_rfl) (Turn.refl _) (fun u w1 hR hF => ?_) ?_
      · exact .inl ⟨false, hF.1, rfl⟩
      apply Lo.runx 13 rfl rfl [1, 4, 11] (by kernel_rfl) (Turn.refl _)
      apply Exists.intro; apply And.intro
      · intro u w1 hR hF
        obtain ⟨h1, h4, h11, -⟩ := hF
        refine ⟨.inl ⟨false, h1, rfl⟩, fun a ha K hK => ?_⟩
        have e24 := (ha 24).trans h4
        have e31 := (ha 31).trans h11
        clear ha h1 h4 h11
        go_simp
        refine hK _ ?_; rfl
      apply Lo.runx 14 rfl rfl [1, 12] (by kernel_rfl) (Turn.refl _)
      apply Exists.intro; apply And.intro
      · intro u w1 hR hF
        obtain ⟨h1, h12, -⟩ := hF
        refine ⟨rfl, fun a ha K hK => ?_⟩
        have e21 := (ha 21).trans h1
        have e32 := (ha 32).trans h12
        clear ha h1 h12
        go_simp
        refine hK _ ?_; rfl
      apply Lo.runx 15 rfl rfl [13] (by kernel_rfl) (Turn.refl _)
      apply Exists.intro; apply And.intro
      · intro u w1 hR hF
        obtain ⟨h13, -⟩ := hF
        refine ⟨rfl, fun a ha K hK => ?_⟩
        have e33 := (ha 33).trans h13
        clear ha h13
        go_simp
        refine hK _ ?_; rfl
      refine Lo.done [14] (fun u w1 hRd hSd hF => ?_)
      clear hSd
      obtain ⟨f14, -⟩ := hF
      have d14 : u 14 = _ := f14
      clear f14
      simp only [putFrom, Act.put, List.setIfInBounds_toArray, List.set_cons_succ, List.set_cons_zero, Nat.zero_add, Nat.reduceAdd, d14]
      have HT2 := hide (HT1.out.same (((Turn.refl [] _).drew).same hRd))
      clear d14 hRd
      go_wp2
      go_ret
      exact ⟨_, rfl, HT2.out⟩

theorem infoSeg : (Tryz.prog.info? 68).map (fun i => (i.zero, i.size, i.bytes)) = some (some (.pointer none), 1, 8) := by kernel_rfl
theorem infoSeg_parts : ∃ i, Tryz.prog.info? 68 = some i ∧ i.zero = some (.pointer none) ∧ i.size = 1 ∧ i.bytes ≤ 1000 := by
  obtain ⟨i, hi, e⟩ := Option.map_eq_some_iff.1 infoSeg
  simp only [Prod.mk.injEq] at e
  exact ⟨i, hi, e.1, e.2.1, by omega⟩
theorem GRow.beyond {α : Type} {T : TypeId} {n : Nat} {enc : α → List Value} {w : World} {base g l c : Nat} {xs : List α} (h : GRow T n enc w base (.slice (some ⟨g, 0, none⟩) l c) xs) {o : Nat} (ho : xs.length * n ≤ o) (u : Value) : GRow T n enc (w.setCell ⟨g, o, none⟩ u) base (.slice (some ⟨g, 0, none⟩) l c) xs := by
  rcases h with ⟨e, -⟩ | ⟨g', cap, cur, e, hb, hg, h1, h2, h3, h4⟩
  · simp at e
  · simp only [Value.slice.injEq, Option.some.injEq, Addr.mk.injEq] at e
    obtain ⟨⟨rfl, -, -⟩, rfl, rfl⟩ := e
    refine .inr ⟨g, c, _, rfl, hb, heap_set hg _ u, h1, by rw [Array.size_setIfInBounds]; exact h2, h3, ?_⟩
    rw [Array.toList_setIfInBounds, List.take_set_of_le ho, h4]
/-- APPEND of many, where there is room. -/
theorem run_append_fit {α : Type} {T : TypeId} {n : Nat} {enc : α → List Value} {P : Program} (t ty : TypeId) (ht : P.underlying t = some (.slice T)) (i : TypeInfo) (hi : P.info? T = some i) (hsize : i.size = n) (hn : ∀ x, (enc x).length = n) (hone : ∀ x, ∀ u ∈ enc x, u.oneCell' = true)
    (w : World) (base g cap : Nat) (a : Addr) (c : Nat) (xs ys : List α) (hrow : GRow T n enc w base (.slice (some ⟨g, 0, none⟩) xs.length cap) xs) (hx : ∀ j u, (ys.flatMap enc)[j]? = some u → w.cell? (a.add j) = some u) (hroom : xs.length + ys.length ≤ cap) :
    ∃ w', (Builtin.append_ #[t, t] ty #[.slice (some ⟨g, 0, none⟩) xs.length cap, .slice (some a) ys.length c]).run P w = .ok (.slice (some ⟨g, 0, none⟩) (xs.length + ys.length) cap) w' ∧ GRow T n enc w' base (.slice (some ⟨g, 0, none⟩) (xs.length + ys.length) cap) (xs ++ ys) ∧ Turn [g] w w' := by
  have hones : ∀ u ∈ ys.flatMap enc, u.oneCell' = true := fun u hu => by
    obtain ⟨x, -, hx⟩ := List.mem_flatMap.1 hu
    exact hone x u hx
  have hl : (ys.flatMap enc).length = ys.length * i.size := by rw [gflat_len hn, hsize]
  rcases hrow with ⟨e, -⟩ | ⟨g', cap', cur, e, hb, hg, h1, h2, h3, h4⟩
  · simp at e
  · simp only [Value.slice.injEq, Option.some.injEq, Addr.mk.injEq, true_and] at e
    obtain ⟨⟨rfl, -⟩, rfl⟩ := e
    have hfit : (xs.length + ys.length) * n ≤ cur.size := Nat.le_trans (Nat.mul_le_mul_right _ hroom) h2
    have hr := run_append_room (P := P) w t ty T i ht hi g xs.length cap cur hg a ys.length c (ys.flatMap enc) hl hx hones hroom (by rw [hsize, gflat_len hn]; rw [Nat.add_mul] at hfit; omega)
    rw [hsize] at hr
    have hfl : (xs.flatMap enc ++ ys.flatMap enc).length = (xs ++ ys).length * n := by rw [List.length_append, gflat_len hn, gflat_len hn, List.length_append, Nat.add_mul]
    refine ⟨_, hr, .inr ⟨g, cap, _, by simp, hb, setRow_heap w g cur _ T _ hg, by simpa using hroom, ?_, h3, ?_⟩, ⟨rfl, rfl, rfl, by simp, fun k _ hk => setRow_other w g k _ (fun e => hk (by simp [e]))⟩⟩
    · simp [gflat_len hn]
      rw [Nat.add_mul] at hfit
      have hcs : xs.length * n ≤ cur.size := by omega
      rw [Nat.min_eq_left hcs]
      omega
    · simp only [h4, List.append_assoc]
      rw [← List.append_assoc, List.take_append_of_le_length (by rw [hfl]; exact Nat.le_refl _), List.take_of_length_le (by rw [hfl]; exact Nat.le_refl _)]
      simp
theorem zeroSeg (w : World) : (zeroValue 68).run Tryz.prog w = .ok (.pointer none) w := by kernel_rfl
/-- The first segment goes out of the row. -/
theorem delete_first (w : World) (base g cap : Nat) (m0 : SM) (ms : List SM) (hrow : GRow 68 1 smC w base (.slice (some ⟨g, 0, none⟩) (m0 :: ms).length cap) (m0 :: ms)) (h0 : 0 < ms.length) (hl : ms.length ≤ 100000) :
    Calls Tryz.prog 92 #[.slice (some ⟨g, 0, none⟩) (m0 :: ms).length cap, .int .i64 0, .int .i64 1] w fun e w' => e = .returned (.slice (some ⟨g, 0, none⟩) ms.length cap) ∧ GRow 68 1 smC w' base (.slice (some ⟨g, 0, none⟩) ms.length cap) ms ∧ Turn [g] w w' := by
  have hmx : maxLen = 9223372036854775807 := by simp [maxLen]
  obtain ⟨a', c', e', hlc, hcm⟩ := hrow.form
  simp only [Value.slice.injEq, true_and] at e'
  obtain ⟨-, rfl⟩ := e'
  rw [hmx] at hcm
  rw [List.length_cons] at hlc ⊢
  have HROW := hide hrow
  clear hrow
  go_enter Tryz.func92, Tryz.ntmps92
  go_wp2
  refine wp_region_tail 6 (Turn []) (by kernel_rfl) (by kernel_rfl) (by kernel_rfl) (by kernel_rfl) (by kernel_rfl) (Nat.le_of_ble_eq_true rfl) rfl (Turn.refl _) (fun _ _ _ h k => h.same k) ?_
  apply Lo.runx 1 rfl rfl [] (by kernel_rfl) (Turn.refl _)
  apply Exists.intro; apply And.intro
  · intro u w1 hR hF
    clear hF
    refine ⟨rfl, fun a ha K hK => ?_⟩
    have e0 := ha 0
    conv at e0 => rhs; whnf
    clear ha
    go_simp
    refine hK _ ?_; rfl
  apply Lo.runx 2 rfl rfl [] (by kernel_rfl) (Turn.refl _)
  apply Exists.intro; apply And.intro
  · intro u w1 hR hF
    clear hF
    refine ⟨rfl, fun a ha K hK => ?_⟩
    have e1 := ha 1
    conv at e1 => rhs; whnf
    clear ha
    go_simp
    refine hK _ ?_; rfl
  apply Lo.runx 3 rfl rfl [0, 1] (by kernel_rfl) (Turn.refl _)
  apply Exists.intro; apply And.intro
  · intro u w1 hR hF
    obtain ⟨h0, h1, -⟩ := hF
    refine ⟨rfl, fun a ha K hK => ?_⟩
    have e20 := (ha 20).trans h0
    have e21 := (ha 21).trans h1
    clear ha h0 h1
    go_simp
    refine hK _ ?_; rfl
  apply Lo.runx 4 rfl rfl [] (by kernel_rfl) (Turn.refl _)
  apply Exists.intro; apply And.intro
  · intro u w1 hR hF
    clear hF
    refine ⟨rfl, fun a ha K hK => ?_⟩
    have e0 := ha 0
    conv at e0 => rhs; whnf
    clear ha
    go_simp
    refine hK _ ?_; rfl
  apply Lo.runx 5 rfl rfl [] (by kernel_rfl) (Turn.refl _)
  apply Exists.intro; apply And.intro
  · intro u w1 hR hF
    clear hF
    refine ⟨rfl, fun a ha K hK => ?_⟩
    have e2 := ha 2
    conv at e2 => rhs; whnf
    clear ha
    go_simp
    refine hK _ ?_; rfl
  refine Lo.runv 6 rfl rfl [3, 4] (.slice (some ⟨g, 1, none⟩) ms.length (cap - 1)) (by kernel_rfl) (fun u w1 hR hF => ?_) (Turn.refl _) ?_
  · obtain ⟨h3, h4, -⟩ := hF
    refine ⟨rfl, fun a ha K hK => ?_⟩
    have e23 := (ha 23).trans h3
    have e24 := (ha 24).trans h4
    clear ha h3 h4
    have h1 : (1 : Int) ≤ (ms.length : Int) + 1 := by omega
    have h2 : ¬ cap = 1 := by omega
    go_simp
    refine hK _ ?_
    rfl
  refine Lo.done [2, 5] (fun u w1 hRd hSd hF => ?_)
  clear hSd
  obtain ⟨f2, f5, -⟩ := hF
  have d2 : u 2 = _ := f2
  have d5 : u 5 = _ := f5
  clear f2 f5
  simp only [List.take_succ_cons, List.take_zero, List.drop_succ_cons, List.drop_zero, putFrom, Act.put, List.setIfInBounds_toArray, List.set_cons_succ, List.set_cons_zero, Nat.zero_add, Nat.reduceAdd, d2, d5]
  have ht1 := ((Turn.refl [] w).drew).same hRd
  have hrow1 := HROW.out.still ht1
  obtain ⟨i, hi, hz, hs, hby⟩ := infoSeg_parts
  have hrow0 : GRow 68 1 smC w1 base (.slice (some ⟨g, 0, none⟩) ([] : List SM).length cap) [] := by
    rcases hrow1 with ⟨e, -⟩ | ⟨g', cap', cur, e, hb, hg, h1, h2, h3, h4⟩
    · simp at e
    · simp only [Value.slice.injEq, Option.some.injEq, Addr.mk.injEq, true_and] at e
      obtain ⟨⟨rfl, -⟩, rfl⟩ := e
      exact .inr ⟨g, cap, cur, rfl, hb, hg, Nat.zero_le _, h2, h3, by simp⟩
  have hsrc : ∀ j u, (ms.flatMap smC)[j]? = some u → w1.cell? ((⟨g, 1, none⟩ : Addr).add j) = some u := fun j u hu => by
    have hj : j < ms.length := by have := (List.getElem?_eq_some_iff.1 hu).1; rw [gflat_len smC_len] at this; omega
    obtain ⟨g', cap', e, hc, -⟩ := hrow1.at smC_len (j := j + 1) (by simpa using hj)
    simp only [Value.slice.injEq, Option.some.injEq, Addr.mk.injEq, true_and] at e
    obtain ⟨⟨rfl, -⟩, rfl⟩ := e
    have h5 := hc 0 (by omega)
    have h6 := gflat_at smC_len ms j 0 hj (by omega)
    simp only [Nat.mul_one, Nat.add_zero] at h5 h6
    rw [hu] at h6
    rw [Addr.add_lit, show 1 + j = j + 1 by omega, h5, List.getElem_cons_succ]
    exact h6.symm
  obtain ⟨w7, hr7, hrow7, ht7⟩ := run_append_fit (P := Tryz.prog) 63 63 Tryz.underlying63 i hi hs smC_len (fun x u hu => by simp [smC] at hu; subst hu; rfl) w1 base g cap ⟨g, 1, none⟩ (cap - 1) [] ms hrow0 hsrc (by simp; omega)
  simp only [List.length_nil, Nat.zero_add, List.nil_append] at hr7 hrow7
  have hcl : ∀ ty, (Builtin.clear_ #[63] ty #[.slice (some ⟨g, ms.length, none⟩) 1 (cap - ms.length)]).run Tryz.prog w7 = .ok (.tuple #[]) (w7.setCell ⟨g, ms.length, none⟩ (.pointer none)) := by
    intro ty
    have hin : (w7.cell? ⟨g, ms.length, none⟩).isSome = true ∧ w7.frozen? ⟨g, ms.length, none⟩ = false := by
      rcases hrow7 with ⟨e, -⟩ | ⟨g', cap', cur, e, hb, hg, h1, h2, h3, h4⟩
      · simp at e
      · simp only [Value.slice.injEq, Option.some.injEq, Addr.mk.injEq, true_and] at e
        obtain ⟨⟨rfl, -⟩, rfl⟩ := e
        refine ⟨?_, frozen_of hg _⟩
        rw [cell_of hg, Array.getElem?_eq_getElem (by omega)]
        rfl
    exact Lib.run_clear_slice w7 63 68 ty (.pointer none) Tryz.underlying63 (fun w => zeroSeg w) rfl rfl g ms.length 1 (cap - ms.length) (by omega) (fun j hj => by cases j with | zero => exact hin.1 | succ j => omega) (fun j hj => by cases j with | zero => exact hin.2 | succ j => omega)
  have hcn : ¬ cap = ms.length := by omega
  have hln : (ms.length : Int) ≤ (ms.length : Int) + 1 := by omega
  have HR7 := hide hr7
  have HROW7 := hide hrow7
  have HT7 := hide ((ht1.mono (T := [g]) (by simp)).same ht7)
  have hrow8 := GRow.beyond HROW7.out (o := ms.length) (by omega) (.pointer none)
  have HROW8 := hide hrow8
  have HT8 := hide (HT7.out.setCell (p := ⟨g, ms.length, none⟩) (.inl (by simp)) (.pointer none))
  clear d2 d5 hRd ht1 hrow1 hrow0 hsrc hr7 hrow7 ht7 hi hz hs hby hrow8
  go_wp2_with (at_builtin; go_must (refine wpList_append_told rfl rfl rfl rfl HR7.out ?_))
  go_ret
  exact ⟨rfl, HROW8.out, HT8.out⟩
end Go.Proofs.YthbhfhagbaommaaGreatDoor.Lg

/- drop, with Retain's closure; Retain. -/
namespace Go.Proofs.YthbhfhagbaommaaGreatDoor.Lg
open Go.RowKit Go.Maps
set_option maxRecDepth 100000
set_option linter.unusedSimpArgs false
set_option linter.unusedVariables false
attribute [local go_sem] Oper.semAt_some
open Dk (DA DiskAt Parts Did errR errV)
open Sg (SegAt sfoot pls Both Came nextOf flat Chain)

/-- The first segment has gone out of the row, and the box is told. -/
theorem LogAt.tail {w w3 : World} {base d lb g n cap : Nat} {F : List Nat} {A : DA} {dir : ByteArray} {v : LV} {m0 : SM} {ms : List SM} (h : LogAt w base d F A lb (.slice (some ⟨g, 0, none⟩) n cap) dir v (m0 :: ms)) (ht : Turn [g] w w3)
    (hr : GRow 68 1 smC w3 base (.slice (some ⟨g, 0, none⟩) ms.length cap) ms) : LogAt (w3.setCell ⟨lb, 3, none⟩ (.slice (some ⟨g, 0, none⟩) ms.length cap)) base d F A lb (.slice (some ⟨g, 0, none⟩) ms.length cap) dir v ms := by
  have hgo : g ∈ (Value.slice (some ⟨g, 0, none⟩) n cap).ownBlock := by simp [Value.ownBlock]
  have hlg : lb ≠ g := fun e => h.lb_gv (by rw [e]; exact hgo)
  have ht2 : Turn [lb] w3 (w3.setCell ⟨lb, 3, none⟩ (.slice (some ⟨g, 0, none⟩) ms.length cap)) := (Turn.refl _ _).setCell (.inl (by simp)) _
  have hap := h.apart
  rw [List.pairwise_cons] at hap
  refine ⟨(h.disk.kept ht (fun k hk hm => ?_)).kept ht2 (fun k hk hm => ?_), ?_, hr.kept ht2 (fun k hk hm => ?_), h.low, fun m hm => ((h.segs m (by simp [hm])).kept ht (fun k hk hm' => ?_)).kept ht2 (fun k hk hm' => ?_), hap.2⟩
  · obtain rfl := List.mem_singleton.1 hm
    exact h.gv_F _ hgo hk
  · obtain rfl := List.mem_singleton.1 hm
    exact h.lb_F hk
  · rw [heap_set (ht.heap h.box (by simpa using hlg))]
    rfl
  · obtain rfl := List.mem_singleton.1 hm
    simp [Value.ownBlock] at hk
    exact hlg hk.symm
  · obtain rfl := List.mem_singleton.1 hm'
    exact h.gv_seg (m := m) (by simp [hm]) _ hgo hk
  · obtain rfl := List.mem_singleton.1 hm'
    exact h.lb_seg (m := m) (by simp [hm]) hk

/-- Where the log begins, of what is left. -/
def stI (ss0 : List (Nat × List Bt.Bat)) (mm : Nat × List Bt.Bat) (i : Nat) : Nat := if i = 0 then 0 else headK (ss0.drop i) mm
/-- Where drop's loop stands. -/
def DSt (w wr : World) (base d lb : Nat) (dir : ByteArray) (G : List Nat) (room nn : Nat) (ss0 : List (Nat × List Bt.Bat)) (mm : Nat × List Bt.Bat) (mo : Int) (dn : Bool) (i : Nat) : Prop :=
  ∃ F gv v ms A, LogAt wr base d F A lb gv dir v ms ∧ ms.map SM.abs = ss0.drop i ++ [mm] ∧ GInv A room dir (stI ss0 mm i) nn (ss0.drop i) mm ∧ (v.start = stI ss0 mm i ∧ v.most = mo ∧ v.down = dn) ∧ Turn G w wr ∧ ∀ k ∈ lfoot F lb gv ms, k ∈ G ∨ w.heap.size ≤ k
theorem DSt.still {w wr w' : World} {base d lb : Nat} {dir : ByteArray} {G : List Nat} {room nn : Nat} {ss0 : List (Nat × List Bt.Bat)} {mm : Nat × List Bt.Bat} {mo : Int} {dn : Bool} {i : Nat} (h : DSt w wr base d lb dir G room nn ss0 mm mo dn i) (ht : Turn [] wr w') : DSt w w' base d lb dir G room nn ss0 mm mo dn i := by
  obtain ⟨F, gv, v, ms, A, h1, h2, h3, h4, h5, h6⟩ := h
  exact ⟨F, gv, v, ms, A, h1.still ht, h2, h3, h4, h5.same (ht.mono (by simp)), h6⟩
theorem headK_of {m1 : SM} {r : List SM} {ss : List (Nat × List Bt.Bat)} {mm : Nat × List Bt.Bat} (h : (m1 :: r).map SM.abs = ss ++ [mm]) : m1.n = headK ss mm := by
  cases ss with
  | nil =>
    rw [List.map_cons, List.nil_append] at h
    exact congrArg Prod.fst (List.cons.inj h).1
  | cons q t =>
    rw [List.map_cons, List.cons_append] at h
    exact congrArg Prod.fst (List.cons.inj h).1
set_option maxHeartbeats 4000000 in
theorem drop_any (w : World) (base d lb : Nat) (dir : ByteArray) (G : List Nat) (room nn : Nat) (ss0 : List (Nat × List Bt.Bat)) (mm : Nat × List Bt.Bat) (mo : Int) (dn : Bool) (h : DSt w w base d lb dir G room nn ss0 mm mo dn 0) (hl : ss0.length ≤ 900) (hdir : dir.size ≤ 1000)
    (B0 B1 B2 B3 : Nat) (now age bytes : Int) (hb : RBox w lb B0 B1 B2 B3 now age bytes) :
    Calls Tryz.prog 58 #[.pointer (some ⟨lb, 0, none⟩), .func (.func 60) #[] #[.pointer (some ⟨B2, 0, none⟩), .pointer (some ⟨B1, 0, none⟩), .pointer (some ⟨B3, 0, none⟩), .pointer (some ⟨B0, 0, none⟩)]] w fun e w' => ∃ i : Nat, i ≤ ss0.length ∧ e = .returned (.tuple #[.int .i64 i, .nilIface]) ∧ DSt w w' base d lb dir G room nn ss0 mm mo dn i := by
  have H := hide h
  have HB := hide hb
  clear h hb
  go_enter Tryz.func58, Tryz.ntmps58
  go_wp2
  go_loopw [6] (fun iv wr => ∃ i : Nat, i ≤ ss0.length ∧ iv = .int .i64 i ∧ DSt w wr base d lb dir G room nn ss0 mm mo dn i ∧ RBox wr lb B0 B1 B2 B3 now age bytes) (fun iv _ => ss0.length + 1 - (intOf iv).toNat)
  case atStart => exact ⟨0, Nat.zero_le _, rfl, H.out, HB.out⟩
  case round =>
    obtain ⟨i, hi, rfl, hds, hbx⟩ := hrel
    have HDS := hide hds
    have HBX := hide hbx
    obtain ⟨F, gv, v, ms, A, hlog, hms, hgi, ⟨hv1, hv2, hv3⟩, htw, hft⟩ := hds
    clear hbx
    obtain ⟨g0, cap, hgv, hglc, hgcm⟩ := hlog.row.form
    have hmx : maxLen = 9223372036854775807 := by simp [maxLen]
    rw [hmx] at hgcm
    have hlen : ms.length = ss0.length - i + 1 := by
      have := congrArg List.length hms
      simpa using this
    by_cases hlt : i < ss0.length
    · have hdr := List.drop_eq_getElem_cons hlt
      obtain ⟨p, hp⟩ : ∃ p, p = ss0[i] := ⟨_, rfl⟩
      rw [← hp] at hdr
      rw [hdr, List.cons_append] at hms
      obtain ⟨m0, msr, hms0, hm0, hmsr⟩ := List.map_eq_cons_iff.1 hms
      have hne : ∃ m1 r, msr = m1 :: r := by
        cases msr with
        | nil => simp at hmsr
        | cons m1 r => exact ⟨m1, r, rfl⟩
      obtain ⟨m1, r, rfl⟩ := hne
      subst hms0
      obtain ⟨g, cap', e, hc0, -⟩ := hlog.row.at smC_len (j := 0) (by simp)
      obtain ⟨g', cap'', e', hc1, -⟩ := hlog.row.at smC_len (j := 1) (by simp)
      subst hgv
      simp only [Value.slice.injEq, true_and] at e e'
      obtain ⟨rfl, rfl⟩ := e
      simp only [Option.some.injEq, Addr.mk.injEq, and_true] at e'
      obtain ⟨rfl, rfl⟩ := e'
      have k0 : wr.cell? ⟨g, 0, none⟩ = some (.pointer (some ⟨m0.sb, 0, none⟩)) := by simpa [smC] using hc0 0 (by omega)
      have k1 : wr.cell? ⟨g, 1, none⟩ = some (.pointer (some ⟨m1.sb, 0, none⟩)) := by simpa [smC] using hc1 0 (by omega)
      have hcells : ∀ Z, Turn [] wr Z → Z.cell? ⟨lb, 3, none⟩ = some (.slice (some ⟨g, 0, none⟩) (r.length + 1 + 1) cap) ∧ lb < Z.heap.size ∧ Z.cell? ⟨g, 0, none⟩ = some (.pointer (some ⟨m0.sb, 0, none⟩)) ∧ Z.cell? ⟨g, 1, none⟩ = some (.pointer (some ⟨m1.sb, 0, none⟩)) := fun Z hZ =>
        ⟨(hlog.still hZ).c3, lt_of_heap (hlog.still hZ).box, (World.cell?_of_block (w := wr) (hZ.block _ (World.block_lt_of_cell? _ _ k0) (by simp))).trans k0, (World.cell?_of_block (w := wr) (hZ.block _ (World.block_lt_of_cell? _ _ k1) (by simp))).trans k1⟩
      have hok : OkS A dir ((m0 :: m1 :: r).map SM.abs) := by
        rw [hms, ← List.cons_append, ← hdr]
        exact hgi.ok (by simp; omega)
      have hgo := fun (Z : World) (hZ : Turn [] wr Z) => goes_any Z base d F A lb _ dir v _ (hlog.still hZ) hok B0 B1 B2 B3 now age bytes (HBX.out.still hZ) m0 (by simp) (.pointer (some ⟨m1.sb, 0, none⟩))
      have HC := hide hcells
      have HGO := hide hgo
      have HLOG := hide hlog
      have HGI := hide hgi
      have HTW := hide htw
      have HFT := hide hft
      have HDR := hide hdr
      have HM0 := hide hm0
      have HMSR := hide hmsr
      have HV1 := hide hv1
      have HV2 := hide hv2
      have HV3 := hide hv3
      clear hlog hms hgi htw hft hc0 hc1 hcells hok hgo hdr hm0 hmsr hv1 hv2 hv3 hp k0 k1
      rw [List.length_cons, List.length_cons] at hlen hglc
      have HLEN := hide hlen
      clear hlen
      go_wp2
      refine wp_region_loose (Turn []) (by kernel_rfl) (by kernel_rfl) (by kernel_rfl) (by kernel_rfl) rfl (Turn.refl _) (fun _ _ _ h k => h.same k) ?_
      apply Lo.runx 1 rfl rfl [] (by kernel_rfl) (Turn.refl _)
      apply Exists.intro; apply And.intro
      · intro u w1 hR hF
        clear hF
        refine ⟨rfl, fun a ha K hK => ?_⟩
        have e0 := ha 0
        conv at e0 => rhs; whnf
        clear ha
        go_simp
        refine hK _ ?_; rfl
      apply Lo.runx 2 rfl rfl [0] (by kernel_rfl) (Turn.refl _)
      apply Exists.intro; apply And.intro
      · intro u w1 hR hF
        obtain ⟨h0, -⟩ := hF
        refine ⟨rfl, fun a ha K hK => ?_⟩
        have e8 := (ha 8).trans h0
        clear ha h0
        go_simp
        refine hK _ ?_; rfl
      apply Lo.runx 3 rfl rfl [1] (by kernel_rfl) (Turn.refl _)
      apply Exists.intro; apply And.intro
      · intro u w1 hR hF
        obtain ⟨h1, -⟩ := hF
        refine ⟨rfl, fun a ha K hK => ?_⟩
        have e9 := (ha 9).trans h1
        clear ha h1
        go_simp
        refine hK _ ?_; rfl
      apply Lo.runx 4 rfl rfl [2] (by kernel_rfl) (Turn.refl _)
      apply Exists.intro; apply And.intro
      · intro u w1 hR hF
        obtain ⟨h2, -⟩ := hF
        refine ⟨rfl, fun a ha K hK => ?_⟩
        have e10 := (ha 10).trans h2
        clear ha h2
        obtain ⟨c3, z3, k0, k1⟩ := HC.out w1 (((Turn.refl [] _).drew).same hR)
        go_simp
        refine hK _ ?_; rfl
      apply Lo.runx 5 rfl rfl [3] (by kernel_rfl) (Turn.refl _)
      apply Exists.intro; apply And.intro
      · intro u w1 hR hF
        obtain ⟨h3, -⟩ := hF
        refine ⟨rfl, fun a ha K hK => ?_⟩
        have e11 := (ha 11).trans h3
        clear ha h3
        go_simp
        refine hK _ ?_; rfl
      refine Lo.runv 6 rfl rfl [4] (.bool (true)) (by kernel_rfl) (fun u w1 hR hF => ?_) (Turn.refl _) ?_
      · obtain ⟨h4, -⟩ := hF
        refine ⟨rfl, fun a ha K hK => ?_⟩
        have e12 := (ha 12).trans h4
        clear ha h4
        go_simp
        refine hK _ ?_
        simp; omega
      apply Lo.runx 7 rfl rfl [5] (by kernel_rfl) (Turn.refl _)
      apply Exists.intro; apply And.intro
      · intro u w1 hR hF
        obtain ⟨h5, -⟩ := hF
        refine ⟨rfl, fun a ha K hK => ?_⟩
        have e13 := (ha 13).trans h5
        clear ha h5
        go_simp
        refine hK _ ?_; rfl
      apply Lo.runx 8 rfl rfl [6] (by kernel_rfl) (Turn.refl _)
      apply Exists.intro; apply And.intro
      · intro u w1 hR hF
        obtain ⟨h6, -⟩ := hF
        refine ⟨.inl ⟨true, h6, rfl⟩, fun a ha K hK => ?_⟩
        have e1 := ha 1
        conv at e1 => rhs; whnf
        clear ha h6
        go_simp
        refine hK _ ?_; rfl
      apply Lo.runx 9 rfl rfl [6] (by kernel_rfl) (Turn.refl _)
      apply Exists.intro; apply And.intro
      · intro u w1 hR hF
        obtain ⟨h6, -⟩ := hF
        refine ⟨.inl ⟨true, h6, rfl⟩, fun a ha K hK => ?_⟩
        have e0 := ha 0
        conv at e0 => rhs; whnf
        clear ha h6
        go_simp
        refine hK _ ?_; rfl
      apply Lo.runx 10 rfl rfl [6, 8] (by kernel_rfl) (Turn.refl _)
      apply Exists.intro; apply And.intro
      · intro u w1 hR hF
        obtain ⟨h6, h8, -⟩ := hF
        refine ⟨.inl ⟨true, h6, rfl⟩, fun a ha K hK => ?_⟩
        have e16 := (ha 16).trans h8
        clear ha h6 h8
        go_simp
        refine hK _ ?_; rfl
      apply Lo.runx 11 rfl rfl [6, 9] (by kernel_rfl) (Turn.refl _)
      apply Exists.intro; apply And.intro
      · intro u w1 hR hF
        obtain ⟨h6, h9, -⟩ := hF
        refine ⟨.inl ⟨true, h6, rfl⟩, fun a ha K hK => ?_⟩
        have e17 := (ha 17).trans h9
        clear ha h6 h9
        go_simp
        refine hK _ ?_; rfl
      apply Lo.runx 12 rfl rfl [6, 10] (by kernel_rfl) (Turn.refl _)
      apply Exists.intro; apply And.intro
      · intro u w1 hR hF
        obtain ⟨h6, h10, -⟩ := hF
        refine ⟨.inl ⟨true, h6, rfl⟩, fun a ha K hK => ?_⟩
        have e18 := (ha 18).trans h10
        clear ha h6 h10
        obtain ⟨c3, z3, k0, k1⟩ := HC.out w1 (((Turn.refl [] _).drew).same hR)
        go_simp
        refine hK _ ?_; rfl
      apply Lo.runx 13 rfl rfl [6, 11] (by kernel_rfl) (Turn.refl _)
      apply Exists.intro; apply And.intro
      · intro u w1 hR hF
        obtain ⟨h6, h11, -⟩ := hF
        refine ⟨.inl ⟨true, h6, rfl⟩, fun a ha K hK => ?_⟩
        have e19 := (ha 19).trans h11
        clear ha h6 h11
        have h12 : (0 : Int) < (r.length : Int) + 1 + 1 := by omega
        go_simp
        refine hK _ ?_; rfl
      apply Lo.runx 14 rfl rfl [6, 12] (by kernel_rfl) (Turn.refl _)
      apply Exists.intro; apply And.intro
      · intro u w1 hR hF
        obtain ⟨h6, h12, -⟩ := hF
        refine ⟨.inl ⟨true, h6, rfl⟩, fun a ha K hK => ?_⟩
        have e20 := (ha 20).trans h12
        clear ha h6 h12
        obtain ⟨c3, z3, k0, k1⟩ := HC.out w1 (((Turn.refl [] _).drew).same hR)
        go_simp
        refine hK _ ?_; rfl
      apply Lo.runx 15 rfl rfl [6] (by kernel_rfl) (Turn.refl _)
      apply Exists.intro; apply And.intro
      · intro u w1 hR hF
        obtain ⟨h6, -⟩ := hF
        refine ⟨.inl ⟨true, h6, rfl⟩, fun a ha K hK => ?_⟩
        have e0 := ha 0
        conv at e0 => rhs; whnf
        clear ha h6
        go_simp
        refine hK _ ?_; rfl
      apply Lo.runx 16 rfl rfl [6, 14] (by kernel_rfl) (Turn.refl _)
      apply Exists.intro; apply And.intro
      · intro u w1 hR hF
        obtain ⟨h6, h14, -⟩ := hF
        refine ⟨.inl ⟨true, h6, rfl⟩, fun a ha K hK => ?_⟩
        have e22 := (ha 22).trans h14
        clear ha h6 h14
        go_simp
        refine hK _ ?_; rfl
      apply Lo.runx 17 rfl rfl [6, 15] (by kernel_rfl) (Turn.refl _)
      apply Exists.intro; apply And.intro
      · intro u w1 hR hF
        obtain ⟨h6, h15, -⟩ := hF
        refine ⟨.inl ⟨true, h6, rfl⟩, fun a ha K hK => ?_⟩
        have e23 := (ha 23).trans h15
        clear ha h6 h15
        go_simp
        refine hK _ ?_; rfl
      apply Lo.runx 18 rfl rfl [6, 16] (by kernel_rfl) (Turn.refl _)
      apply Exists.intro; apply And.intro
      · intro u w1 hR hF
        obtain ⟨h6, h16, -⟩ := hF
        refine ⟨.inl ⟨true, h6, rfl⟩, fun a ha K hK => ?_⟩
        have e24 := (ha 24).trans h16
        clear ha h6 h16
        obtain ⟨c3, z3, k0, k1⟩ := HC.out w1 (((Turn.refl [] _).drew).same hR)
        go_simp
        refine hK _ ?_; rfl
      apply Lo.runx 19 rfl rfl [6, 17] (by kernel_rfl) (Turn.refl _)
      apply Exists.intro; apply And.intro
      · intro u w1 hR hF
        obtain ⟨h6, h17, -⟩ := hF
        refine ⟨.inl ⟨true, h6, rfl⟩, fun a ha K hK => ?_⟩
        have e25 := (ha 25).trans h17
        clear ha h6 h17
        have h18 : (1 : Int) < (r.length : Int) + 1 + 1 := by omega
        go_simp
        refine hK _ ?_; rfl
      apply Lo.runx 20 rfl rfl [6, 18] (by kernel_rfl) (Turn.refl _)
      apply Exists.intro; apply And.intro
      · intro u w1 hR hF
        obtain ⟨h6, h18, -⟩ := hF
        refine ⟨.inl ⟨true, h6, rfl⟩, fun a ha K hK => ?_⟩
        have e26 := (ha 26).trans h18
        clear ha h6 h18
        obtain ⟨c3, z3, k0, k1⟩ := HC.out w1 (((Turn.refl [] _).drew).same hR)
        go_simp
        refine hK _ ?_; rfl
      refine Lo.run 21 rfl rfl [6, 7, 13, 19] (fun y w' => ∃ b : Bool, y = .bool b) (by kernel_rfl) (fun x w w' h hR => ?_) (fun _ _ h => h) (fun u w1 hR hF => ?_) ?_
      · exact h
      · obtain ⟨h6, h7, h13, h19, -⟩ := hF
        refine ⟨.inl ⟨true, h6, rfl⟩, fun a ha K hK => ?_⟩
        have e15 := (ha 15).trans h7
        have e21 := (ha 21).trans h13
        have e27 := (ha 27).trans h19
        clear ha h6 h7 h13 h19
        go_simp
        refine (HGO.out w1 (((Turn.refl [] _).drew).same hR)).mono ?_
        rintro e w5 ⟨b, rfl, ht5⟩
        exact hK _ _ ⟨b, rfl⟩ ht5
      refine Lo.run 22 rfl rfl [6, 20] (fun y w' => ∃ b : Bool, y = .bool b) (by kernel_rfl) (fun x w w' h hR => ?_) (fun _ _ h => h) (fun u w1 hR hF => ?_) ?_
      · exact h
      · obtain ⟨h6, h20, -⟩ := hF
        refine ⟨rfl, fun a ha K hK => ?_⟩
        have e14 := (ha 14).trans h6
        have e28 : a.tmps.getD 28 undef = u 20 := ha 28
        have h20 := (show (fun y w' => ∃ b : Bool, y = .bool b) (u 20) w1 from h20)
        dsimp only at h20
        clear ha h6
        obtain ⟨b, hb⟩ := h20
        rw [hb] at e28
        go_simp
        exact hK _ _ ⟨b, rfl⟩ (Turn.refl _ _)
      refine Lo.done [21] (fun u w1 hRd hSd hF => ?_)
      clear hSd
      obtain ⟨f21, -⟩ := hF
      have d21 := (show (fun y w' => ∃ b : Bool, y = .bool b) (u 21) w1 from f21)
      dsimp only at d21
      clear f21
      simp only [putFrom, Act.put, List.setIfInBounds_toArray, List.set_cons_succ, List.set_cons_zero, Nat.zero_add, Nat.reduceAdd]
      obtain ⟨b, hb21⟩ := d21
      have HT1 := hide (((Turn.refl [] wr).drew).same hRd)
      obtain ⟨wa, rfl⟩ : ∃ wa, wa = w1 := ⟨_, rfl⟩
      rw [hb21]
      clear hb21 hRd
      cases b
      · go_wp2
        go_ret2
        exact ⟨i, hi, rfl, HDS.out.still HT1.out⟩
      · obtain ⟨c3, z3, k0, k1⟩ := HC.out wa HT1.out
        have h12 : (0 : Int) < (r.length : Int) + 1 + 1 := by omega
        have hgi' : GInv A room dir (stI ss0 mm i) nn (p :: ss0.drop (i + 1)) mm := by rw [← HDR.out]; exact HGI.out
        obtain ⟨hr1, hg2, hlt2⟩ := hgi'.tail
        have hmn : m0.n = p.1 := congrArg Prod.fst HM0.out
        have hrm := Sg.remove_any wa base d F A m0.sb m0.sv (Sn.nameB dir m0.n) m0.n _ ((HLOG.out.still HT1.out).both (m := m0) (by simp)) (Sg.nameB_len (by rw [hmn]; exact hgi'.disk.base p (by simp)) hdir)
        rw [hmn, show (A.remove (Sn.nameB dir p.1).data.toList).1 = 0 from hr1, show errR 0 = .nilIface from rfl] at hrm
        have HRM := hide hrm
        have HG2 := hide hg2
        have HLT2 := hide hlt2
        clear hgi' hr1 hg2 hlt2 hmn hrm
        go_wp2_with fail
        refine HRM.out.mono ?_
        rintro e w2 ⟨rfl, hd2⟩
        obtain ⟨F2, gv2, ms2, hl2, hm2, ht2, hf2⟩ := (HLOG.out.still HT1.out).did hd2
        rw [List.map_cons, List.map_cons] at hm2
        obtain ⟨m0', ms2', rfl, hm0', hms2'⟩ := List.map_eq_cons_iff.1 hm2
        obtain ⟨m1', r', rfl, hm1', hr'⟩ := List.map_eq_cons_iff.1 hms2'
        have hrl : r'.length = r.length := by simpa using congrArg List.length hr'
        obtain ⟨g2, cap2, e2, hc2, -⟩ := hl2.row.at smC_len (j := 0) (by simp)
        subst e2
        obtain ⟨a2, c2', e3, hlc2, hcm2⟩ := hl2.row.form
        simp only [Value.slice.injEq, true_and] at e3
        obtain ⟨-, rfl⟩ := e3
        rw [hmx] at hcm2
        have hdel := delete_first w2 base g2 cap2 m0' (m1' :: r') hl2.row (by simp) (by have := HLEN.out; simp; omega)
        have hlb2 := lt_of_heap hl2.box
        have c32 := hl2.c3
        have hBX2 := (HBX.out.still HT1.out).kept (HLOG.out.still HT1.out) ht2
        have HDEL := hide hdel
        have HL2 := hide hl2
        have HT2 := hide (HTW.out.trans ((HT1.out.mono (T := lfoot F lb (.slice (some ⟨g, 0, none⟩) (r.length + 1 + 1) cap) (m0 :: m1 :: r)) (by simp)).same ht2) (fun k hk => HFT.out k hk))
        have HF2 : Hid (∀ k ∈ lfoot F2 lb (.slice (some ⟨g2, 0, none⟩) (m0' :: m1' :: r').length cap2) (m0' :: m1' :: r'), k ∈ G ∨ w.heap.size ≤ k) := fun k hk => by
          rcases hf2 k hk with h | h
          · exact HFT.out k h
          · exact .inr (Nat.le_trans HTW.out.size (Nat.le_trans HT1.out.size h))
        have HBX2 := hide hBX2
        have HM0' := hide hm0'
        have HM1' := hide hm1'
        have HR' := hide hr'
        have HRL := hide hrl
        clear hd2 hl2 hm2 ht2 hf2 hm0' hms2' hm1' hr' hrl hc2 hdel hBX2 HRM
        simp only [List.length_cons] at HDEL c32
        go_wp2_with fail
        refine HDEL.out.mono ?_
        rintro e w3 ⟨rfl, hrow3, ht3⟩
        have hbox3 := ht3.heap HL2.out.box (fun hm => by
          obtain h := List.mem_singleton.1 hm
          exact HL2.out.lb_gv (by rw [h]; simp [Value.ownBlock]))
        have c33 : w3.cell? ⟨lb, 3, none⟩ = some (.slice (some ⟨g2, 0, none⟩) (r'.length + 1 + 1) cap2) := by rw [cell_of hbox3]; rfl
        have f33 := frozen_of hbox3 3
        have z33 := lt_of_heap hbox3
        have hl4 := HL2.out.tail ht3 (by simpa using hrow3)
        obtain ⟨w4, hw4⟩ : ∃ w4, w4 = w3.setCell ⟨lb, 3, none⟩ (.slice (some ⟨g2, 0, none⟩) (r'.length + 1) cap2) := ⟨_, rfl⟩
        have ht24 : Turn [lb, g2] w2 w4 := by rw [hw4]; exact (ht3.mono (by simp)).setCell (.inl (by simp)) _
        have hin2 : ∀ k ∈ [lb, g2], k ∈ lfoot F2 lb (.slice (some ⟨g2, 0, none⟩) (m0' :: m1' :: r').length cap2) (m0' :: m1' :: r') := fun k hk => by
          simp only [List.mem_cons, List.mem_nil_iff, or_false] at hk
          rcases hk with rfl | rfl
          · exact mem_lfoot.2 (.inl rfl)
          · exact mem_lfoot.2 (.inr (.inl (by simp [Value.ownBlock])))
        have hBX4 := HBX2.out.kept HL2.out (ht24.mono (fun k hk => .inl (hin2 k hk)))
        simp only [List.length_cons] at hl4
        rw [← hw4] at hl4
        have HL4 := hide hl4
        have HT4 := hide (HT2.out.trans ht24 (fun k hk => HF2.out k (hin2 k hk)))
        have HBX4 := hide hBX4
        have HW4 := hide hw4
        have HF4 : Hid (∀ k ∈ lfoot F2 lb (.slice (some ⟨g2, 0, none⟩) (r'.length + 1) cap2) (m1' :: r'), k ∈ G ∨ w.heap.size ≤ k) := fun k hk => by
          refine HF2.out k ?_
          rcases mem_lfoot.1 hk with h | h | ⟨x, hx, h⟩ | h
          · exact mem_lfoot.2 (.inl h)
          · exact mem_lfoot.2 (.inr (.inl (by simpa [Value.ownBlock] using h)))
          · exact mem_lfoot.2 (.inr (.inr (.inl ⟨x, by simp [hx], h⟩)))
          · exact mem_lfoot.2 (.inr (.inr (.inr h)))
        clear hl4 ht24 hin2 hBX4 hw4 hrow3 ht3 hbox3 HDEL
        go_wp2
        rw [← HW4.out]
        have hn1 : m1'.n = headK (ss0.drop (i + 1)) mm := by
          have h1 : m1'.n = m1.n := congrArg Prod.fst HM1'.out
          rw [h1]
          exact headK_of HMSR.out
        have hst : stI ss0 mm i ≤ m1'.n := by
          rw [hn1]
          have h2 := HLT2.out
          unfold stI
          split
          · exact Nat.zero_le _
          · rw [HDR.out]
            exact Nat.le_of_lt h2
        obtain ⟨N1, hN1⟩ : ∃ N1, N1 = m1'.n := ⟨_, rfl⟩
        obtain ⟨S1, hS1⟩ : ∃ S1, S1 = stI ss0 mm i := ⟨_, rfl⟩
        rw [← hN1, ← hS1] at hst
        have hcells4 : ∀ Z, Turn [] w4 Z → Z.cell? ⟨lb, 3, none⟩ = some (.slice (some ⟨g2, 0, none⟩) (r'.length + 1) cap2) ∧ lb < Z.heap.size ∧ Z.cell? ⟨lb, 4, none⟩ = some (.int .i64 (S1 : Int)) ∧ Z.cell? ⟨g2, 0, none⟩ = some (.pointer (some ⟨m1'.sb, 0, none⟩)) ∧ Z.frozen? ⟨lb, 4, none⟩ = false := fun Z hZ => by
          have hlz := HL4.out.still hZ
          obtain ⟨g', cap', e, hc, -⟩ := hlz.row.at smC_len (j := 0) (by simp)
          simp only [Value.slice.injEq, Option.some.injEq, Addr.mk.injEq, and_true] at e
          obtain ⟨rfl, -, -⟩ := e
          exact ⟨hlz.c3, lt_of_heap hlz.box, by rw [hlz.c4, HV1.out, hS1], by simpa [smC] using hc 0 (by omega), hlz.fr 4⟩
        have hbase4 := fun (Z : World) (hZ : Turn [] w4 Z) => Sg.baseOf_any Z base d m1'.sb m1'.sv _ m1'.n _ ((HL4.out.still hZ).segs m1' (by simp))
        rw [← hN1] at hbase4
        have HC4 := hide hcells4
        have HBA4 := hide hbase4
        have HN1 := hide (hN1.trans hn1)
        have hmax : max (S1 : Int) (N1 : Int) = N1 := by omega
        clear hn1 hN1 hS1 hcells4 hbase4 c3 z3 k0 k1 h12 c32 c33 f33 z33 hlb2
        refine wp_region_tail 15 (Turn []) (by kernel_rfl) (by kernel_rfl) (by kernel_rfl) (by kernel_rfl) (by kernel_rfl) (Nat.le_of_ble_eq_true rfl) rfl (Turn.refl _) (fun _ _ _ h k => h.same k) ?_
        apply Lo.runx 1 rfl rfl [] (by kernel_rfl) (Turn.refl _)
        apply Exists.intro; apply And.intro
        · intro u w1 hR hF
          clear hF
          refine ⟨rfl, fun a ha K hK => ?_⟩
          have e0 := ha 0
          conv at e0 => rhs; whnf
          clear ha
          go_simp
          refine hK _ ?_; rfl
        apply Lo.runx 2 rfl rfl [] (by kernel_rfl) (Turn.refl _)
        apply Exists.intro; apply And.intro
        · intro u w1 hR hF
          clear hF
          refine ⟨rfl, fun a ha K hK => ?_⟩
          have e0 := ha 0
          conv at e0 => rhs; whnf
          clear ha
          go_simp
          refine hK _ ?_; rfl
        apply Lo.runx 3 rfl rfl [1] (by kernel_rfl) (Turn.refl _)
        apply Exists.intro; apply And.intro
        · intro u w1 hR hF
          obtain ⟨h1, -⟩ := hF
          refine ⟨rfl, fun a ha K hK => ?_⟩
          have e51 := (ha 51).trans h1
          clear ha h1
          go_simp
          refine hK _ ?_; rfl
        apply Lo.runx 4 rfl rfl [2] (by kernel_rfl) (Turn.refl _)
        apply Exists.intro; apply And.intro
        · intro u w1 hR hF
          obtain ⟨h2, -⟩ := hF
          refine ⟨rfl, fun a ha K hK => ?_⟩
          have e52 := (ha 52).trans h2
          clear ha h2
          go_simp
          refine hK _ ?_; rfl
        apply Lo.runx 5 rfl rfl [3] (by kernel_rfl) (Turn.refl _)
        apply Exists.intro; apply And.intro
        · intro u w1 hR hF
          obtain ⟨h3, -⟩ := hF
          refine ⟨rfl, fun a ha K hK => ?_⟩
          have e53 := (ha 53).trans h3
          clear ha h3
          obtain ⟨c3, z3, c4, k0, -⟩ := HC4.out w1 (((Turn.refl [] _).drew).same hR)
          go_simp
          refine hK _ ?_; rfl
        apply Lo.runx 6 rfl rfl [] (by kernel_rfl) (Turn.refl _)
        apply Exists.intro; apply And.intro
        · intro u w1 hR hF
          clear hF
          refine ⟨rfl, fun a ha K hK => ?_⟩
          have e0 := ha 0
          conv at e0 => rhs; whnf
          clear ha
          go_simp
          refine hK _ ?_; rfl
        apply Lo.runx 7 rfl rfl [5] (by kernel_rfl) (Turn.refl _)
        apply Exists.intro; apply And.intro
        · intro u w1 hR hF
          obtain ⟨h5, -⟩ := hF
          refine ⟨rfl, fun a ha K hK => ?_⟩
          have e55 := (ha 55).trans h5
          clear ha h5
          go_simp
          refine hK _ ?_; rfl
        apply Lo.runx 8 rfl rfl [6] (by kernel_rfl) (Turn.refl _)
        apply Exists.intro; apply And.intro
        · intro u w1 hR hF
          obtain ⟨h6, -⟩ := hF
          refine ⟨rfl, fun a ha K hK => ?_⟩
          have e56 := (ha 56).trans h6
          clear ha h6
          go_simp
          refine hK _ ?_; rfl
        apply Lo.runx 9 rfl rfl [7] (by kernel_rfl) (Turn.refl _)
        apply Exists.intro; apply And.intro
        · intro u w1 hR hF
          obtain ⟨h7, -⟩ := hF
          refine ⟨rfl, fun a ha K hK => ?_⟩
          have e57 := (ha 57).trans h7
          clear ha h7
          obtain ⟨c3, z3, c4, k0, -⟩ := HC4.out w1 (((Turn.refl [] _).drew).same hR)
          go_simp
          refine hK _ ?_; rfl
        apply Lo.runx 10 rfl rfl [8] (by kernel_rfl) (Turn.refl _)
        apply Exists.intro; apply And.intro
        · intro u w1 hR hF
          obtain ⟨h8, -⟩ := hF
          refine ⟨rfl, fun a ha K hK => ?_⟩
          have e58 := (ha 58).trans h8
          clear ha h8
          have h12 : (0 : Int) < (r'.length : Int) + 1 := by omega
          go_simp
          refine hK _ ?_; rfl
        apply Lo.runx 11 rfl rfl [9] (by kernel_rfl) (Turn.refl _)
        apply Exists.intro; apply And.intro
        · intro u w1 hR hF
          obtain ⟨h9, -⟩ := hF
          refine ⟨rfl, fun a ha K hK => ?_⟩
          have e59 := (ha 59).trans h9
          clear ha h9
          obtain ⟨c3, z3, c4, k0, -⟩ := HC4.out w1 (((Turn.refl [] _).drew).same hR)
          go_simp
          refine hK _ ?_; rfl
        refine Lo.run 12 rfl rfl [10] (fun y w' => y = .int .i64 (N1 : Int)) (by kernel_rfl) (fun x w w' h hR => ?_) (fun _ _ h => h) (fun u w1 hR hF => ?_) ?_
        · exact h
        · obtain ⟨h10, -⟩ := hF
          refine ⟨rfl, fun a ha K hK => ?_⟩
          have e60 := (ha 60).trans h10
          clear ha h10
          go_simp
          refine (HBA4.out w1 (((Turn.refl [] _).drew).same hR)).mono ?_
          rintro e w5 ⟨rfl, rfl⟩
          exact hK _ _ rfl (Turn.refl _ _)
        refine Lo.runv 13 rfl rfl [4, 11] (.int .i64 (N1 : Int)) (by kernel_rfl) (fun u w1 hR hF => ?_) (Turn.refl _) ?_
        · obtain ⟨h4, h11, -⟩ := hF
          refine ⟨rfl, fun a ha K hK => ?_⟩
          have e54 := (ha 54).trans h4
          have e61 : a.tmps.getD 61 undef = u 11 := ha 61
          have h11 := (show (fun y w' => y = .int .i64 (N1 : Int)) (u 11) w1 from h11)
          dsimp only at h11
          clear ha h4
          go_simp
          refine hK _ ?_
          first | rfl | (simp only [hmax]; done) | (rw [hmax])
        apply Lo.runx 14 rfl rfl [0] (by kernel_rfl) (Turn.refl _)
        apply Exists.intro; apply And.intro
        · intro u w1 hR hF
          obtain ⟨h0, -⟩ := hF
          refine ⟨rfl, fun a ha K hK => ?_⟩
          have e50 := (ha 50).trans h0
          clear ha h0
          go_simp
          refine hK _ ?_; rfl
        apply Lo.runx 15 rfl rfl [13] (by kernel_rfl) (Turn.refl _)
        apply Exists.intro; apply And.intro
        · intro u w1 hR hF
          obtain ⟨h13, -⟩ := hF
          refine ⟨rfl, fun a ha K hK => ?_⟩
          have e63 := (ha 63).trans h13
          clear ha h13
          go_simp
          refine hK _ ?_; rfl
        refine Lo.done [12, 14] (fun u w1 hRd hSd hF => ?_)
        clear hSd
        obtain ⟨f12, f14, -⟩ := hF
        have d12 : u 12 = _ := f12
        have d14 : u 14 = _ := f14
        clear f12 f14
        simp only [List.take_succ_cons, List.take_zero, List.drop_succ_cons, List.drop_zero, putFrom, Act.put, List.setIfInBounds_toArray, List.set_cons_succ, List.set_cons_zero, Nat.zero_add, Nat.reduceAdd, d12, d14]
        have HT5 := hide (((Turn.refl [] w4).drew).same hRd)
        obtain ⟨wb, rfl⟩ : ∃ wb, wb = w1 := ⟨_, rfl⟩
        clear d12 d14 hRd
        obtain ⟨c3, z3, c4, k0, f4⟩ := HC4.out wb HT5.out
        have hl6 := (HL4.out.still HT5.out).setBox (i := 4) (u := .int .i64 (N1 : Int)) (v' := { v with start := (N1 : Int) }) rfl
        have ht6 : Turn (lfoot F2 lb (.slice (some ⟨g2, 0, none⟩) (r'.length + 1) cap2) (m1' :: r')) wb (wb.setCell ⟨lb, 4, none⟩ (.int .i64 (N1 : Int))) := Turn.setCell (p := ⟨lb, 4, none⟩) (Turn.refl _ wb) (.inl (by show lb ∈ _; exact mem_lfoot.2 (.inl rfl))) _
        have hds6 : DSt w (wb.setCell ⟨lb, 4, none⟩ (.int .i64 (N1 : Int))) base d lb dir G room nn ss0 mm mo dn (i + 1) := by
          have hs1 : stI ss0 mm (i + 1) = N1 := by
            rw [HN1.out]
            unfold stI
            rw [if_neg (by omega)]
          refine ⟨F2, _, _, m1' :: r', _, hl6, ?_, ?_, ⟨?_, HV2.out, HV3.out⟩, (HT4.out.same (HT5.out.mono (by simp))).trans ht6 (fun k hk => HF4.out k hk), HF4.out⟩
          · rw [List.map_cons, HM1'.out, HR'.out]
            exact HMSR.out
          · rw [hs1, HN1.out]
            exact HG2.out
          · rw [hs1]
        have HDS6 := hide hds6
        have HBX6 := hide ((HBX4.out.still HT5.out).kept (HL4.out.still HT5.out) ht6)
        clear hl6 ht6 hds6
        go_wp2
        all_goals refine ⟨⟨i + 1, by omega, by go_num, HDS6.out, HBX6.out⟩, ?_⟩
        all_goals (simp only [intOf]; omega)
    · obtain rfl : i = ss0.length := by omega
      rw [List.drop_length, List.nil_append] at hms
      obtain ⟨m0, msr, rfl, hm0, hmsr⟩ := List.map_eq_cons_iff.1 hms
      obtain rfl := List.map_eq_nil_iff.1 hmsr
      subst hgv
      have hcells : ∀ Z, Turn [] wr Z → Z.cell? ⟨lb, 3, none⟩ = some (.slice g0 1 cap) ∧ lb < Z.heap.size := fun Z hZ => ⟨(hlog.still hZ).c3, lt_of_heap (hlog.still hZ).box⟩
      have HC := hide hcells
      clear hcells hlog hms hgi htw hft hv1 hv2 hv3 hm0 hmsr hlen
      go_wp2
      refine wp_region_loose (Turn []) (by kernel_rfl) (by kernel_rfl) (by kernel_rfl) (by kernel_rfl) rfl (Turn.refl _) (fun _ _ _ h k => h.same k) ?_
      apply Lo.runx 1 rfl rfl [] (by kernel_rfl) (Turn.refl _)
      apply Exists.intro; apply And.intro
      · intro u w1 hR hF
        clear hF
        refine ⟨rfl, fun a ha K hK => ?_⟩
        have e0 := ha 0
        conv at e0 => rhs; whnf
        clear ha
        go_simp
        refine hK _ ?_; rfl
      apply Lo.runx 2 rfl rfl [0] (by kernel_rfl) (Turn.refl _)
      apply Exists.intro; apply And.intro
      · intro u w1 hR hF
        obtain ⟨h0, -⟩ := hF
        refine ⟨rfl, fun a ha K hK => ?_⟩
        have e8 := (ha 8).trans h0
        clear ha h0
        go_simp
        refine hK _ ?_; rfl
      apply Lo.runx 3 rfl rfl [1] (by kernel_rfl) (Turn.refl _)
      apply Exists.intro; apply And.intro
      · intro u w1 hR hF
        obtain ⟨h1, -⟩ := hF
        refine ⟨rfl, fun a ha K hK => ?_⟩
        have e9 := (ha 9).trans h1
        clear ha h1
        go_simp
        refine hK _ ?_; rfl
      apply Lo.runx 4 rfl rfl [2] (by kernel_rfl) (Turn.refl _)
      apply Exists.intro; apply And.intro
      · intro u w1 hR hF
        obtain ⟨h2, -⟩ := hF
        refine ⟨rfl, fun a ha K hK => ?_⟩
        have e10 := (ha 10).trans h2
        clear ha h2
        obtain ⟨c3, z3⟩ := HC.out w1 (((Turn.refl [] _).drew).same hR)
        go_simp
        refine hK _ ?_; rfl
      apply Lo.runx 5 rfl rfl [3] (by kernel_rfl) (Turn.refl _)
      apply Exists.intro; apply And.intro
      · intro u w1 hR hF
        obtain ⟨h3, -⟩ := hF
        refine ⟨rfl, fun a ha K hK => ?_⟩
        have e11 := (ha 11).trans h3
        clear ha h3
        go_simp
        refine hK _ ?_; rfl
      refine Lo.runv 6 rfl rfl [4] (.bool (false)) (by kernel_rfl) (fun u w1 hR hF => ?_) (Turn.refl _) ?_
      · obtain ⟨h4, -⟩ := hF
        refine ⟨rfl, fun a ha K hK => ?_⟩
        have e12 := (ha 12).trans h4
        clear ha h4
        go_simp
        refine hK _ ?_
        simp
      apply Lo.runx 7 rfl rfl [5] (by kernel_rfl) (Turn.refl _)
      apply Exists.intro; apply And.intro
      · intro u w1 hR hF
        obtain ⟨h5, -⟩ := hF
        refine ⟨rfl, fun a ha K hK => ?_⟩
        have e13 := (ha 13).trans h5
        clear ha h5
        go_simp
        refine hK _ ?_; rfl
      refine Lo.pass 8 rfl rfl [6] (by kernel_rfl) (Turn.refl _) (fun u w1 hR hF => ?_) ?_
      · exact .inl ⟨false, hF.1, rfl⟩
      refine Lo.pass 9 rfl rfl [6] (by kernel_rfl) (Turn.refl _) (fun u w1 hR hF => ?_) ?_
      · exact .inl ⟨false, hF.1, rfl⟩
      refine Lo.pass 10 rfl rfl [6] (by kernel_rfl) (Turn.refl _) (fun u w1 hR hF => ?_) ?_
      · exact .inl ⟨false, hF.1, rfl⟩
      refine Lo.pass 11 rfl rfl [6] (by kernel_rfl) (Turn.refl _) (fun u w1 hR hF => ?_) ?_
      · exact .inl ⟨false, hF.1, rfl⟩
      refine Lo.pass 12 rfl rfl [6] (by kernel_rfl) (Turn.refl _) (fun u w1 hR hF => ?_) ?_
      · exact .inl ⟨false, hF.1, rfl⟩
      refine Lo.pass 13 rfl rfl [6] (by kernel_rfl) (Turn.refl _) (fun u w1 hR hF => ?_) ?_
      · exact .inl ⟨false, hF.1, rfl⟩
      refine Lo.pass 14 rfl rfl [6] (by kernel_rfl) (Turn.refl _) (fun u w1 hR hF => ?_) ?_
      · exact .inl ⟨false, hF.1, rfl⟩
      refine Lo.pass 15 rfl rfl [6] (by kernel_rfl) (Turn.refl _) (fun u w1 hR hF => ?_) ?_
      · exact .inl ⟨false, hF.1, rfl⟩
      refine Lo.pass 16 rfl rfl [6] (by kernel_rfl) (Turn.refl _) (fun u w1 hR hF => ?_) ?_
      · exact .inl ⟨false, hF.1, rfl⟩
      refine Lo.pass 17 rfl rfl [6] (by kernel_rfl) (Turn.refl _) (fun u w1 hR hF => ?_) ?_
      · exact .inl ⟨false, hF.1, rfl⟩
      refine Lo.pass 18 rfl rfl [6] (by kernel_rfl) (Turn.refl _) (fun u w1 hR hF => ?_) ?_
      · exact .inl ⟨false, hF.1, rfl⟩
      refine Lo.pass 19 rfl rfl [6] (by kernel_rfl) (Turn.refl _) (fun u w1 hR hF => ?_) ?_
      · exact .inl ⟨false, hF.1, rfl⟩
      refine Lo.pass 20 rfl rfl [6] (by kernel_rfl) (Turn.refl _) (fun u w1 hR hF => ?_) ?_
      · exact .inl ⟨false, hF.1, rfl⟩
      refine Lo.pass 21 rfl rfl [6] (by kernel_rfl) (Turn.refl _) (fun u w1 hR hF => ?_) ?_
      · exact .inl ⟨false, hF.1, rfl⟩
      apply Lo.runx 22 rfl rfl [6, 20] (by kernel_rfl) (Turn.refl _)
      apply Exists.intro; apply And.intro
      · intro u w1 hR hF
        obtain ⟨h6, h20, -⟩ := hF
        refine ⟨rfl, fun a ha K hK => ?_⟩
        have e14 := (ha 14).trans h6
        have e28 := (ha 28).trans h20
        clear ha h6 h20
        go_simp
        refine hK _ ?_; rfl
      refine Lo.done [21] (fun u w1 hRd hSd hF => ?_)
      clear hSd
      obtain ⟨f21, -⟩ := hF
      have d21 : u 21 = _ := f21
      clear f21
      simp only [putFrom, Act.put, List.setIfInBounds_toArray, List.set_cons_succ, List.set_cons_zero, Nat.zero_add, Nat.reduceAdd, d21]
      have HT1 := hide (((Turn.refl [] wr).drew).same hRd)
      clear d21 hRd
      go_wp2
      go_ret2
      exact ⟨ss0.length, Nat.le_refl _, rfl, HDS.out.still HT1.out⟩
set_option maxHeartbeats 2000000 in
theorem Retain_any (w : World) (base d lb : Nat) (dir : ByteArray) (G : List Nat) (room nn : Nat) (ss0 : List (Nat × List Bt.Bat)) (mm : Nat × List Bt.Bat) (mo : Int) (h : DSt w w base d lb dir G room nn ss0 mm mo false 0) (hl : ss0.length ≤ 900) (hdir : dir.size ≤ 1000) (now age bytes : Int) :
    Calls Tryz.prog 33 #[.pointer (some ⟨lb, 0, none⟩), .int .i64 now, .int .i64 age, .int .i64 bytes] w fun e w' => ∃ i : Nat, i ≤ ss0.length ∧ e = .returned (.tuple #[.int .i64 i, .nilIface]) ∧ DSt w w' base d lb dir G room nn ss0 mm mo false i := by
  obtain ⟨w1, hw1⟩ : ∃ w1, w1 = w.alloc (.cells #[.pointer (some ⟨lb, 0, none⟩)] 30) := ⟨_, rfl⟩
  obtain ⟨w2, hw2⟩ : ∃ w2, w2 = w1.alloc (.cells #[.int .i64 now] 3) := ⟨_, rfl⟩
  obtain ⟨w3, hw3⟩ : ∃ w3, w3 = w2.alloc (.cells #[.int .i64 age] 3) := ⟨_, rfl⟩
  obtain ⟨w4, hw4⟩ : ∃ w4, w4 = w3.alloc (.cells #[.int .i64 bytes] 3) := ⟨_, rfl⟩
  have t1 : Turn [] w w1 := by rw [hw1]; exact (Turn.refl _ _).alloc _
  have t2 : Turn [] w1 w2 := by rw [hw2]; exact (Turn.refl _ _).alloc _
  have t3 : Turn [] w2 w3 := by rw [hw3]; exact (Turn.refl _ _).alloc _
  have t4 : Turn [] w3 w4 := by rw [hw4]; exact (Turn.refl _ _).alloc _
  have s1 : w1.heap.size = w.heap.size + 1 := by rw [hw1]; simp
  have s2 : w2.heap.size = w.heap.size + 1 + 1 := by rw [hw2]; simp [s1]
  have s3 : w3.heap.size = w.heap.size + 1 + 1 + 1 := by rw [hw3]; simp [s2]
  have b0 := ((t2.same t3).same t4).heap (show w1.heap[w.heap.size]? = _ by rw [hw1]; exact heap_new w _) (by simp)
  have b1 := (t3.same t4).heap (show w2.heap[w.heap.size + 1]? = _ by rw [hw2, ← s1]; exact heap_new w1 _) (by simp)
  have b2 := t4.heap (show w3.heap[w.heap.size + 1 + 1]? = _ by rw [hw3, ← s2]; exact heap_new w2 _) (by simp)
  have b3 : w4.heap[w.heap.size + 1 + 1 + 1]? = some (.cells #[.int .i64 bytes] 3 (0, 0)) := by rw [hw4, ← s3]; exact heap_new w3 _
  have ht4 : Turn [] w w4 := ((t1.same t2).same t3).same t4
  have hbx : RBox w4 lb w.heap.size (w.heap.size + 1) (w.heap.size + 1 + 1) (w.heap.size + 1 + 1 + 1) now age bytes := ⟨b0, b1, b2, b3⟩
  obtain ⟨F, gv, v, ms, A, hlog, hms, hgi, ⟨hv1, hv2, hv3⟩, htw, hft⟩ := h
  have hl4 := hlog.still ht4
  have c6 := hl4.c6
  have z6 := lt_of_heap hl4.box
  rw [hv3] at c6
  have hd4 : DSt w4 w4 base d lb dir G room nn ss0 mm mo false 0 := ⟨F, gv, v, ms, A, hl4, hms, hgi, ⟨hv1, hv2, hv3⟩, Turn.refl _ _, fun k hk => by
    rcases hft k hk with h | h
    · exact .inl h
    · have := (hlog.lt k hk).2
      omega⟩
  have hdr := drop_any w4 base d lb dir G room nn ss0 mm mo false hd4 hl hdir _ _ _ _ now age bytes hbx
  have HDR := hide hdr
  have HT4 := hide ht4
  clear t1 t2 t3 t4 s1 s2 s3 b0 b1 b2 b3 ht4 hbx hlog hms hgi hv1 hv2 hv3 htw hft hl4 hd4 hdr
  rw [hw4, hw3, hw2, hw1] at c6 z6
  have HW : Hid (w4 = (((w.alloc (.cells #[.pointer (some ⟨lb, 0, none⟩)] 30)).alloc (.cells #[.int .i64 now] 3)).alloc (.cells #[.int .i64 age] 3)).alloc (.cells #[.int .i64 bytes] 3)) := by show _ = _; rw [hw4, hw3, hw2, hw1]
  clear hw1 hw2 hw3 hw4
  go_enter Tryz.func33, Tryz.ntmps33
  go_wp2_with fail
  rw [← HW.out]
  refine HDR.out.mono ?_
  rintro e w5 ⟨i, hi, rfl, F5, gv5, v5, ms5, A5, h1, h2, h3, h4, h5, h6⟩
  have HD5 : Hid (DSt w w5 base d lb dir G room nn ss0 mm mo false i) := ⟨F5, gv5, v5, ms5, A5, h1, h2, h3, h4, (HT4.out.mono (T := G) (by simp)).same h5, fun k hk => (h6 k hk).imp_right (Nat.le_trans HT4.out.size)⟩
  clear h1 h2 h3 h4 h5 h6
  go_wp2
  go_ret2
  exact ⟨i, hi, rfl, HD5.out⟩
end Go.Proofs.YthbhfhagbaommaaGreatDoor.Lg

/- conveyorkeep.logged: a fact: two records. -/
namespace Go.Proofs.YthbhfhagbaommaaGreatDoor.Lg
open Go.RowKit Go.Maps
set_option maxRecDepth 100000
set_option linter.unusedSimpArgs false
set_option linter.unusedVariables false
attribute [local go_sem] Oper.semAt_some
open Dk (DA DiskAt Parts Did errR errV)
open Sg (SegAt sfoot pls Both Came nextOf flat Chain)

def rA : Bt.Rec := ⟨0, 0, false, [], false, [97]⟩
def rB : Bt.Rec := ⟨0, 0, false, [], false, [98]⟩
theorem ab_err : Bt.encErr (batOf 0 [rA, rB]) = 0 := by kernel_rfl
theorem ab_len : (Bt.encB (batOf 0 [rA, rB])).length ≤ 100 := by decide +kernel
set_option maxHeartbeats 8000000 in
theorem logged_any (W : World) (hv : Sn.VarT W) (hg : As.ErrT W) : Calls Tryz.prog 7 #[] W fun e w' => e = .returned (.bool true) ∧ Turn [] W w' := by
  have HV := hide hv
  have HG := hide hg
  clear hv hg
  go_enter Tryz.func7, Tryz.ntmps7
  go_wp2_with fail
  refine (Dk.new_ok 10000 (by omega) W W.heap.size (Nat.le_refl _)).mono ?_
  rintro e w1 ⟨rfl, hd1, ht1⟩
  have HD1 := hide hd1
  have HT1 := hide ht1
  clear hd1 ht1
  obtain ⟨h1, h2, h3'⟩ := GInv.first 10000 0 (by omega)
  have hop := open_fresh w1 W.heap.size W.heap.size [W.heap.size] (DA.empty 10000) HD1.out dirP (by decide) 300 0 (by omega) (by omega) (by omega) h1 h2 (fun Z hZ => (HV.out.below ((HT1.out.trans hZ (fun k hk => .inr (by simp at hk; omega))).nil)).tab) (fun Z lb _ hL => find_none Z _ _ _ _ lb _ _ _ _ hL (by decide) (names_empty _ _))
  have HOP := hide hop
  have HGI := hide h3'
  clear h1 h2 h3' hop
  go_wp2_with fail
  refine HOP.out.mono ?_
  rintro e w4 ⟨lb, F4, gv4, m4, rfl, hl4, hm4, ht4, hf4⟩
  have HL4 := hide hl4
  have HM4 := hide hm4
  have HT4 := hide (HT1.out.trans ht4 (fun k hk => .inr (by simp at hk; omega)))
  clear hl4 hm4 ht4 hf4 HOP
  go_wp2_with fail
  obtain ⟨w5, hw5⟩ : ∃ w5, w5 = w4.alloc (.cells #[.int .i64 0, .int .i64 0, .bool false, .string ⟨#[]⟩, .bool false, .string ⟨#[97]⟩, .int .i64 0, .int .i64 0, .bool false, .string ⟨#[]⟩, .bool false, .string ⟨#[98]⟩] 42) := ⟨_, rfl⟩
  rw [← hw5]
  have hal : Turn [] w4 w5 := by rw [hw5]; exact (Turn.refl [] w4).alloc _
  have hrr : RecsAt w5 (.slice (some ⟨w4.heap.size, 0, none⟩) 2 2) [rA, rB] := RecRow.recs (base := 0) (.inr ⟨_, 2, _, rfl, Nat.zero_le _, by rw [hw5]; exact heap_new w4 _, by simp, by simp, by simp [maxLen], by simp [recC, rA, rB]; exact ⟨rfl, rfl, rfl, rfl⟩⟩) (fun r hr => by
    simp only [List.mem_cons, List.mem_nil_iff, or_false] at hr
    rcases hr with rfl | rfl <;> exact ⟨by decide, by decide, by decide, by decide, by decide, by decide⟩)
  have hm4 := HM4.out
  have hmn : m4.n = 0 := congrArg Prod.fst hm4
  have hmx : m4.xs = [] := congrArg Prod.snd hm4
  have HT5 := hide (HT4.out.same hal)
  have hadd := Add_any w5 W.heap.size W.heap.size F4 _ lb gv4 dirP _ [] m4 (HL4.out.still hal) (by simp) (by rw [hmn]; omega) (by decide) (by rw [hmx]; simp [flat]) (by simp) rfl 0 (by omega) (by rw [hmn, hmx]; rfl)
    (fun Z hZ => by
      have hT := HT5.out.trans hZ (fun k hk => .inr ((HL4.out.still hal).lt k hk).1)
      exact ⟨(HV.out.below hT.nil).tab, HG.out.below hT.nil⟩) _ [rA, rB] hrr (by simp)
  obtain ⟨A', v', ss0', m', e1, e2, e3, e4, g', b', l'⟩ := HGI.out.add (by omega) [rA, rB] ab_err (nameP_ok 0 (by omega)) (by simp) (by have : (Bt.encB (batOf ((0 : Nat) : Int) [rA, rB])).length ≤ 100 := ab_len; simp only [batsL, flat, List.nil_append, List.flatMap_cons, List.flatMap_nil, List.length_nil]; omega) ⟨((300 : Nat) : Int), ((0 : Nat) : Int), ((0 : Nat) : Int), false⟩
  rw [List.map_nil, hm4, e1] at hadd
  have HADD := hide hadd
  have HG2 := hide g'
  have HB2 := hide b'
  have HE2 := hide e2
  have HLL := hide l'
  have HL5 := hide (HL4.out.still hal)
  clear hw5 hal hrr hm4 hmn hmx hadd e1 e2 e3 e4 g' b' l' HL4 HM4 HGI
  refine HADD.out.mono ?_
  rintro e w6 ⟨rfl, hd6⟩
  rw [show errR 0 = .nilIface from rfl, show offS 0 0 = 0 from rfl]
  obtain ⟨F6, gv6, ms6, hl6, hm6, ht6, hf6⟩ := hd6
  obtain ⟨ms60, m6, rfl, hm60, hm6a⟩ := split_last hm6
  have hab : (ms60 ++ [m6]).map SM.abs = ss0' ++ [m'] := by rw [List.map_append, List.map_singleton, hm60, hm6a]
  have hln := congrArg List.length hm60
  rw [List.length_map] at hln
  have hl0 : ss0'.length ≤ 1 := HLL.out
  have hbl : batsL (ss0' ++ [m']) = [batOf 0 [rA, rB]] := HB2.out
  have hnx : nextOf m6.n m6.xs = 2 := by
    have := HG2.out.next
    rw [← hm6a] at this
    exact this
  have hfl : (flat m6.xs).length ≤ 1048576 := by
    have hp : m6.abs ∈ ss0' ++ [m'] := by rw [hm6a]; simp
    exact flat_short hl6.disk (HG2.out.ok (by simp; omega)) hp
  have hfl2 := Sg.flat_len m6.xs
  have hrd := Read_any w6 W.heap.size W.heap.size F6 A' lb gv6 dirP v' ms60 m6 hl6 (by decide) (by rw [hab]; exact HG2.out.ok (by simp; omega)) 1 99 (by omega) (by rw [HE2.out]; decide) (by rw [hnx]; omega)
  rw [hab, hbl] at hrd
  have hend := fun (Z : World) (hZ : Turn [] w6 Z) => end_any Z W.heap.size W.heap.size F6 A' lb gv6 dirP v' ms60 m6 (hl6.still hZ) (by omega) (by omega)
  rw [hnx] at hend
  have HRD := hide hrd
  have HEND := hide hend
  have HT6 := hide (HT5.out.trans ht6 (fun k hk => .inr ((HL5.out.lt k hk).1)))
  clear hab hln hl0 hbl hnx hfl hfl2 hrd hend hl6 hm60 hm6a ht6 hf6 HADD HG2 HB2 HE2 HLL
  go_wp2_with fail
  refine HRD.out.mono ?_
  rintro e w7 ⟨ov, q, rfl, hov, hemp, ht7⟩
  have hs : sinceL 1 ([batOf 0 [rA, rB]].take q) = [⟨1, 0, false, [], false, [98]⟩] := by
    cases q with
    | zero => exact absurd (hemp rfl) (by decide)
    | succ q =>
      rw [List.take_of_length_le (by simp)]
      rfl
  rw [hs] at hov
  obtain ⟨g, cap, e, hc, -⟩ := hov.at recC_len (j := 0) (by simp)
  subst e
  have k0 : w7.cell? ⟨g, 0, none⟩ = some (.int .i64 1) := hc 0 (by omega)
  have k5 : w7.cell? ⟨g, 5, none⟩ = some (.string ⟨#[98]⟩) := hc 5 (by omega)
  have HT7 := hide ht7
  clear hov hemp hs hc ht7 HRD
  go_wp2_with fail
  refine (HEND.out w7 HT7.out).mono ?_
  rintro e w8 ⟨rfl, ht8⟩
  have k0' : w8.cell? ⟨g, 0, none⟩ = some (.int .i64 1) := (World.cell?_of_block (w := w7) (ht8.block _ (World.block_lt_of_cell? _ _ k0) (by simp))).trans k0
  have k5' : w8.cell? ⟨g, 5, none⟩ = some (.string ⟨#[98]⟩) := (World.cell?_of_block (w := w7) (ht8.block _ (World.block_lt_of_cell? _ _ k5) (by simp))).trans k5
  have HT8 := hide (HT6.out.same (HT7.out.same ht8))
  clear ht8 k0 k5
  go_wp2
  go_ret
  exact ⟨rfl, HT8.out⟩
end Go.Proofs.YthbhfhagbaommaaGreatDoor.Lg

/- Where the first loop of the laws LogRetains and LogCompacts stands: a log that grows. -/
namespace Go.Proofs.YthbhfhagbaommaaGreatDoor.Lg
open Go.RowKit Go.Maps
set_option maxRecDepth 100000
set_option linter.unusedSimpArgs false
set_option linter.unusedVariables false
open Dk (DA DiskAt Parts Did errR errV)
open Sg (SegAt sfoot pls Both Came nextOf flat Chain)

/-- A log that begins at 0, of so many records. -/
structure LSt (W wr : World) (lb mo i nn : Nat) : Prop where
  log : ∃ F gv v ms0 m A ss0 mm, LogAt wr W.heap.size W.heap.size F A lb gv dirP v (ms0 ++ [m]) ∧ (ms0.map SM.abs = ss0 ∧ m.abs = mm) ∧ GInv A 1048576 dirP 0 nn ss0 mm ∧ (v.start = 0 ∧ v.most = mo ∧ v.down = false) ∧ ss0.length ≤ i ∧ (flat (batsL (ss0 ++ [mm]))).length ≤ 6000 * i ∧ headK ss0 mm = 0
  len : nn ≤ 60 * i
  turn : Turn [] W wr
theorem LSt.more {W wr : World} {lb mo i nn : Nat} (h : LSt W wr lb mo i nn) : LSt W wr lb mo (i + 1) nn := by
  obtain ⟨⟨F, gv, v, ms0, m, A, ss0, mm, a, b, c, e, f, g, k⟩, l, t⟩ := h
  exact ⟨⟨F, gv, v, ms0, m, A, ss0, mm, a, b, c, e, by omega, by omega, k⟩, by omega, t⟩
theorem LSt.add {W wr : World} {lb mo i nn : Nat} (h : LSt W wr lb mo i nn) (hi : i < 20) (hmo : mo ≤ 1048576) (hv : Sn.VarT W) (hg : As.ErrT W) (vr : Value) (rs : List Bt.Rec) (hr : RecsAt wr vr rs) (hl : rs.length ≤ 60) :
    Calls Tryz.prog 9 #[.pointer (some ⟨lb, 0, none⟩), vr] wr fun e w' => ∃ x c nn', e = .returned (.tuple #[x, c]) ∧ LSt W w' lb mo (i + 1) nn' := by
  have hmore := h
  obtain ⟨⟨F, gv, v, ms0, m, A, ss0, mm, hlog, ⟨hss, hmm⟩, hgi, ⟨hv1, hv2, hv3⟩, hsl, hflt, hhk⟩, hlen, htw⟩ := h
  have hln := congrArg List.length hss
  rw [List.length_map] at hln
  have hfl : (flat m.xs).length ≤ 1048576 := by
    have hp : m.abs ∈ ss0 ++ [mm] := by rw [hmm]; simp
    exact flat_short hlog.disk (hgi.ok (by simp; omega)) hp
  have hnx : nextOf m.n m.xs = (nn : Int) := by
    have := hgi.next
    rw [← hmm] at this
    exact this
  have hmn : m.n ≤ 1099511627776 := hgi.disk.base m.abs (by rw [hmm]; simp)
  have hadd := Add_any wr W.heap.size W.heap.size F A lb gv dirP v ms0 m hlog (by omega) hmn (by decide) hfl (by rw [hv2]; omega) hv3 nn (by omega) hnx
    (fun Z hZ => by
      have hT := htw.trans hZ (fun k hk => .inr (hlog.lt k hk).1)
      exact ⟨(hv.below hT.nil).tab, hg.below hT.nil⟩) vr rs hr (by omega)
  rw [hss, hmm] at hadd
  refine hadd.mono ?_
  rintro e w5 ⟨rfl, hd5⟩
  by_cases hx : Bt.encErr (batOf (nn : Int) rs) = 0
  · have hby := (Bt.encErr_ok hx).2
    have hbl := Bt.encB_len (batOf (nn : Int) rs)
    obtain ⟨A', v', ss0', m', e1, e2, e3, e4, g', b', l', k'⟩ := hgi.addK (by omega) rs hx (nameP_ok _ (by omega)) (by simp; omega) (by omega) v
    rw [e1] at hd5
    simp only at hd5
    obtain ⟨F5, gv5, ms5, hl5, hm5, ht5, hf5⟩ := hd5
    obtain ⟨ms50, m5, rfl, hm50, hm5a⟩ := split_last hm5
    refine ⟨_, _, nn + rs.length, rfl, ⟨F5, gv5, v', ms50, m5, A', ss0', m', hl5, ⟨hm50, hm5a⟩, g', ⟨e2.trans hv1, e3.trans hv2, e4.trans hv3⟩, by omega, ?_, k'.trans hhk⟩, by omega, htw.trans ht5 (fun k hk => .inr (hlog.lt k hk).1)⟩
    rw [b', Sg.flat_append, Sg.flat_one, List.length_append]
    omega
  · rw [add_none rs hx v] at hd5
    simp only at hd5
    obtain ⟨F5, gv5, ms5, hl5, hm5, ht5, hf5⟩ := hd5
    obtain ⟨ms50, m5, rfl, hm50, hm5a⟩ := split_last hm5
    exact ⟨_, _, nn, rfl, ⟨F5, gv5, v, ms50, m5, A, ss0, mm, hl5, ⟨hm50, hm5a⟩, hgi, ⟨hv1, hv2, hv3⟩, by omega, by omega, hhk⟩, by omega, htw.trans ht5 (fun k hk => .inr (hlog.lt k hk).1)⟩
end Go.Proofs.YthbhfhagbaommaaGreatDoor.Lg

/- plain.Same of equal records: true. -/
namespace Go.Proofs.YthbhfhagbaommaaGreatDoor
open Go.RowKit Go.Maps
set_option maxRecDepth 100000
set_option linter.unusedSimpArgs false
set_option linter.unusedVariables false

end Go.Proofs.YthbhfhagbaommaaGreatDoor

/- A disk of one file: what its operations come to. -/
namespace Go.Proofs.YthbhfhagbaommaaGreatDoor.Sg
set_option linter.unusedSimpArgs false
set_option linter.unusedVariables false
open Go.RowKit
open Dk (DA)

structure One (A : DA) (room : Nat) (nm bs : List UInt8) : Prop where
  lim : A.limited = false
  room : A.room = room
  one : ∃ sf, A.files = [⟨nm, bs, sf⟩]
theorem One.fails {A : DA} {room : Nat} {nm bs : List UInt8} (h : One A room nm bs) : A.fails = false := by unfold DA.fails; rw [h.lim]; rfl
theorem One.tick {A : DA} {room : Nat} {nm bs : List UInt8} (h : One A room nm bs) : A.tick = A := by unfold DA.tick; rw [h.lim]; rfl
theorem One.file {A : DA} {room : Nat} {nm bs : List UInt8} (h : One A room nm bs) : ∃ f, A.file nm = some f ∧ f.bytes = bs := by
  obtain ⟨sf, e⟩ := h.one
  exact ⟨⟨nm, bs, sf⟩, by unfold DA.file; rw [e]; simp, rfl⟩
theorem One.has {A : DA} {room : Nat} {nm bs : List UInt8} (h : One A room nm bs) : A.has nm = true := by
  obtain ⟨f, e, -⟩ := h.file
  rw [Dk.has_file, e]; rfl
theorem One.used {A : DA} {room : Nat} {nm bs : List UInt8} (h : One A room nm bs) : Dk.usedL A.files = bs.length := by
  obtain ⟨sf, e⟩ := h.one
  rw [e]; simp [Dk.usedL]
theorem One.upd {A : DA} {room : Nat} {nm bs : List UInt8} (h : One A room nm bs) (g : Dk.FA → Dk.FA) (hg : ∀ f, (g f).name = f.name) (bs' : List UInt8) (hb : ∀ sf, (g ⟨nm, bs, sf⟩).bytes = bs') : One (A.upd nm g) room nm bs' := by
  obtain ⟨sf, e⟩ := h.one
  refine ⟨h.lim, h.room, (g ⟨nm, bs, sf⟩).safe, ?_⟩
  unfold DA.upd Dk.setF
  rw [e]
  have h1 := hg ⟨nm, bs, sf⟩
  have h2 := hb sf
  simp only [List.map_cons, List.map_nil, beq_self_eq_true, if_true]
  generalize g ⟨nm, bs, sf⟩ = y at *
  cases y
  simp_all
theorem One.add {A : DA} {room : Nat} {nm bs : List UInt8} (h : One A room nm bs) (b : List UInt8) (hr : bs.length + b.length ≤ room) : (A.add nm b).1 = 0 ∧ One (A.add nm b).2 room nm (bs ++ b) := by
  have e : A.add nm b = (0, A.tick.upd nm (fun f => { f with bytes := f.bytes ++ b })) := by
    unfold DA.add
    rw [h.fails, h.has, h.used, h.room, if_neg (by simp), if_neg (by simp), if_neg (by omega)]
  rw [e, h.tick]
  exact ⟨rfl, h.upd (fun f => { f with bytes := f.bytes ++ b }) (fun _ => rfl) (bs ++ b) (fun _ => rfl)⟩
theorem One.cut {A : DA} {room : Nat} {nm bs : List UInt8} (h : One A room nm bs) (n : Nat) (hn : n ≤ bs.length) : (A.cut nm n).1 = 0 ∧ One (A.cut nm n).2 room nm (bs.take n) := by
  obtain ⟨f, hf, hb⟩ := h.file
  have e : A.cut nm n = (0, A.tick.upd nm (Dk.cut1 n)) := by
    unfold DA.cut
    rw [h.fails, hf, if_neg (by simp)]
    simp only
    rw [if_neg (by rw [hb]; omega)]
    simp
  rw [e, h.tick]
  exact ⟨rfl, h.upd (Dk.cut1 n) (fun _ => rfl) (bs.take n) (fun _ => rfl)⟩
theorem One.size {A : DA} {room : Nat} {nm bs : List UInt8} (h : One A room nm bs) : A.sizeOf nm = bs.length := by
  obtain ⟨f, hf, hb⟩ := h.file
  rw [sizeOf_some hf, hb]
theorem make_one (r : Nat) (s : ByteArray) (hs : Dk.nameB s = true) : ((Dk.DA.empty r).make s).1 = 0 ∧ One ((Dk.DA.empty r).make s).2 r s.data.toList [] := by
  have e : (Dk.DA.empty r).make s = (0, { (Dk.DA.empty r).tick with files := (Dk.DA.empty r).files ++ [⟨s.data.toList, [], 0⟩] }) := by
    unfold DA.make
    rw [hs]
    rfl
  rw [e]
  exact ⟨rfl, rfl, rfl, 0, rfl⟩
/-- The directory of the laws. -/
def dirS : ByteArray := ⟨#[115]⟩
theorem nameS_ok (n : Nat) (hn : n ≤ 1099511627776) : Dk.nameB (Sn.nameB dirS n) = true := by
  have hd : ∀ c ∈ Sn.pad (Lib.decDigits n), Dk.nb8 c = true := by
    intro c hc
    have h := Sn.pad_digit n c hc
    unfold Dk.nb8 Dk.nb
    rw [decide_eq_true_eq]
    omega
  have hl := Sn.dec_short hn
  have hsz : (Sn.nameB dirS n).size = (Sn.nameL [115] n).length := by rw [Lib.size_eq]; rfl
  have hlen : (Sn.nameL [115] n).length ≤ 40 ∧ 1 ≤ (Sn.nameL [115] n).length := by
    unfold Sn.nameL Sn.pad
    simp
    omega
  unfold Dk.nameB
  rw [hsz]
  have ha : Dk.allB Dk.nb8 (Sn.nameB dirS n) = true := by
    unfold Dk.allB
    show (Sn.nameL [115] n).all Dk.nb8 = true
    rw [List.all_eq_true]
    intro c hc
    unfold Sn.nameL at hc
    simp only [List.mem_append, List.mem_cons, List.mem_nil_iff, or_false] at hc
    rcases hc with ((rfl | rfl) | hc) | hc
    · decide
    · decide
    · exact hd c hc
    · rcases hc with rfl | rfl | rfl | rfl <;> decide
  rw [ha]
  simp [hlen]
end Go.Proofs.YthbhfhagbaommaaGreatDoor.Sg

/- What the laws ask of a log that has been retained: all, End, Start, Segments; lists of ints held against each other. -/
namespace Go.Proofs.YthbhfhagbaommaaGreatDoor.Lg
open Go.RowKit Go.Maps
set_option maxRecDepth 100000
set_option linter.unusedSimpArgs false
set_option linter.unusedVariables false
attribute [local go_sem] Oper.semAt_some
open Dk (DA DiskAt Parts Did errR errV)
open Sg (SegAt sfoot pls Both Came nextOf flat Chain)

theorem sorted_len : ∀ (L : List Bt.Rec) (a b : Int), L.Pairwise (fun p q => p.off < q.off) → (∀ r ∈ L, a ≤ r.off ∧ r.off < b) → L = [] ∨ (L.length : Int) ≤ b - a
  | [], _, _, _, _ => .inl rfl
  | r :: L, a, b, hp, hb => by
    rw [List.pairwise_cons] at hp
    have h1 := hb r (by simp)
    rcases sorted_len L (r.off + 1) b hp.2 (fun q hq => ⟨by have := hp.1 q hq; omega, (hb q (by simp [hq])).2⟩) with rfl | h
    · right; simp; omega
    · right; simp; omega
theorem recsErr_rec : ∀ {rs : List Bt.Rec} {lo hi : Int}, Bt.recsErr rs lo hi = 0 → ∀ r ∈ rs, ∃ lo, Bt.recErr r lo hi = 0
  | q :: rs, lo, hi, h, r, hr => by
    unfold Bt.recsErr at h
    split at h
    · rename_i h0
      rcases List.mem_cons.1 hr with rfl | hr
      · exact ⟨_, h0⟩
      · exact recsErr_rec h r hr
    · rename_i h0
      exact absurd h h0
theorem bat_recOk {x : Bt.Bat} (h : Bt.encErr x = 0) : ∀ r ∈ x.recs, RecOk r := by
  intro r hr
  have hc := Bt.chk_ok (Bt.encErr_ok h).1
  have hm := bat_mem h r hr
  obtain ⟨lo, he⟩ := recsErr_rec hc.2.2.2.2.2 r hr
  unfold Bt.recErr at he
  split at he
  · omega
  · split at he
    · omega
    · split at he
      · omega
      · exact ⟨by omega, by omega, by omega, by omega, by omega, by omega⟩
section
variable {A : DA} {room : Nat} {dir : ByteArray} {st n : Nat} {ss0 : List (Nat × List Bt.Bat)} {m : Nat × List Bt.Bat}
theorem GInv.recOk (h : GInv A room dir st n ss0 m) : ∀ r ∈ recsL (batsL (ss0 ++ [m])), RecOk r := by
  intro r hr
  obtain ⟨x, hx, hr⟩ := List.mem_flatMap.1 hr
  exact bat_recOk (Sg.Chain.mem h.chain x hx) r hr
theorem GInv.few (h : GInv A room dir st n ss0 m) : (recsL (batsL (ss0 ++ [m]))).length ≤ n := by
  have h1 := recs_sorted h.chain
  have h2 := recs_ge h.chain
  rcases sorted_len _ (st : Int) (n : Int) h1 (fun r hr => ⟨h2 r hr, by
    obtain ⟨x, hx, hr⟩ := List.mem_flatMap.1 hr
    have h3 := (bat_mem (Sg.Chain.mem h.chain x hx) r hr).2
    have h4 := h.fins x hx
    omega⟩) with h | h
  · rw [h]; simp
  · omega
end
section
variable {w wr : World} {base d lb : Nat} {G : List Nat} {nn : Nat} {ss0 : List (Nat × List Bt.Bat)} {mm : Nat × List Bt.Bat} {mo : Int} {dn : Bool} {i : Nat}
/-- All of a log, read piece by piece. -/
theorem all_log (h : DSt w wr base d lb dirP G 1048576 nn ss0 mm mo dn i) (hl : ss0.length ≤ 900) (hn : nn ≤ 4000) (pp : Int) (hp : -9223372036854775808 ≤ pp ∧ pp ≤ 9223372036854775807) :
    Calls Tryz.prog 10 #[.pointer (some ⟨lb, 0, none⟩), .int .i64 pp] wr fun e w' => ∃ ov, e = .returned (.tuple #[ov, .bool true]) ∧ GRow 42 6 recC w' wr.heap.size ov (recsL (batsL (ss0.drop i ++ [mm]))) ∧ Turn [] wr w' := by
  obtain ⟨F, gv, v, ms, A, hlog, hms, hgi, ⟨hv1, hv2, hv3⟩, htw, hft⟩ := h
  obtain ⟨ms0, m, rfl, hm0, hma⟩ := split_last hms
  have hab : (ms0 ++ [m]).map SM.abs = ss0.drop i ++ [mm] := hms
  have hnx : nextOf m.n m.xs = (nn : Int) := by
    have := hgi.next
    rw [← hma] at this
    exact this
  have hge := recs_ge hgi.chain
  have hsi : sinceL v.start (batsL (ss0.drop i ++ [mm])) = recsL (batsL (ss0.drop i ++ [mm])) := by
    rw [hv1, sinceL_recs]
    exact fromL_all hge
  have hfew := hgi.few
  have hal := all_any wr base d F A lb gv dirP v ms0 m hlog (by decide) (by rw [hab]; exact hgi.ok (by simp; omega)) pp hp (stI ss0 mm i : Int) (by rw [hab]; exact hgi.chain) (by rw [hab, hnx]; exact hgi.fins) (by rw [hnx, hv1]; have := hgi.st; omega) (by rw [hv1]; omega) (by rw [hnx]; omega) (by rw [hab, hsi]; omega)
  rw [hab, hsi] at hal
  exact hal
theorem end_log (h : DSt w wr base d lb dirP G 1048576 nn ss0 mm mo dn i) (hl : ss0.length ≤ 900) :
    Calls Tryz.prog 18 #[.pointer (some ⟨lb, 0, none⟩)] wr fun e w' => e = .returned (.int .i64 (nn : Int)) ∧ Turn [] wr w' := by
  obtain ⟨F, gv, v, ms, A, hlog, hms, hgi, ⟨hv1, hv2, hv3⟩, htw, hft⟩ := h
  obtain ⟨ms0, m, rfl, hm0, hma⟩ := split_last hms
  have hnx : nextOf m.n m.xs = (nn : Int) := by
    have := hgi.next
    rw [← hma] at this
    exact this
  have hln := congrArg List.length hm0
  rw [List.length_map] at hln
  have hfl : (flat m.xs).length ≤ 1048576 := by
    have hp : m.abs ∈ ss0.drop i ++ [mm] := by rw [hma]; simp
    exact flat_short hlog.disk (hgi.ok (by simp; omega)) hp
  have hfl2 := Sg.flat_len m.xs
  have he := end_any wr base d F A lb gv dirP v ms0 m hlog (by rw [hln]; simp; omega) (by omega)
  rw [hnx] at he
  exact he
theorem start_log (h : DSt w wr base d lb dirP G 1048576 nn ss0 mm mo dn i) :
    Calls Tryz.prog 26 #[.pointer (some ⟨lb, 0, none⟩)] wr fun e w' => e = .returned (.int .i64 (stI ss0 mm i : Int)) ∧ wr = w' := by
  obtain ⟨F, gv, v, ms, A, hlog, hms, hgi, ⟨hv1, hv2, hv3⟩, htw, hft⟩ := h
  have hs := start_any wr base d F A lb gv dirP v _ hlog
  rw [hv1] at hs
  exact hs
theorem segs_log (h : DSt w wr base d lb dirP G 1048576 nn ss0 mm mo dn i) (hl : ss0.length ≤ 900) :
    Calls Tryz.prog 63 #[.pointer (some ⟨lb, 0, none⟩)] wr fun e w' => ∃ ov, e = .returned ov ∧ GRow 3 1 inC w' wr.heap.size ov ((ss0.drop i ++ [mm]).map (·.1)) ∧ Turn [] wr w' := by
  obtain ⟨F, gv, v, ms, A, hlog, hms, hgi, ⟨hv1, hv2, hv3⟩, htw, hft⟩ := h
  have hln := congrArg List.length hms
  have hs := Segments_any wr base d F A lb gv dirP v ms hlog (by simp at hln; omega)
  have e : ms.map (·.n) = (ss0.drop i ++ [mm]).map (·.1) := by
    rw [← hms, List.map_map]
    rfl
  rw [e] at hs
  exact hs
end
/-- A slice of ints, wherever it lies. -/
def IntsAt (w : World) (v : Value) (xs : List Nat) : Prop := ∃ a c, v = .slice a xs.length c ∧ xs.length ≤ c ∧ c ≤ maxLen ∧ ∀ j (h : j < xs.length), ∃ p, a = some p ∧ w.cell? (p.add j) = some (.int .i64 (xs[j] : Int))
theorem IntsAt.still {w w' : World} {v : Value} {xs : List Nat} (h : IntsAt w v xs) (ht : Turn [] w w') : IntsAt w' v xs := by
  obtain ⟨a, c, e, h1, h2, h3⟩ := h
  refine ⟨a, c, e, h1, h2, fun j hj => ?_⟩
  obtain ⟨p, hp, hc⟩ := h3 j hj
  exact ⟨p, hp, (World.cell?_of_block (w := w) (ht.block _ (World.block_lt_of_cell? _ _ hc) (by simp))).trans hc⟩
theorem _root_.Go.Proofs.YthbhfhagbaommaaGreatDoor.GRow.ints {w : World} {base : Nat} {v : Value} {xs : List Nat} (h : GRow 3 1 inC w base v xs) : IntsAt w v xs := by
  obtain ⟨a, c, rfl, h1, h2⟩ := h.form
  refine ⟨a, c, rfl, h1, h2, fun j hj => ?_⟩
  obtain ⟨g, cap, e, hc, -⟩ := h.at inC_len hj
  simp only [Value.slice.injEq, true_and] at e
  obtain ⟨rfl, rfl⟩ := e
  refine ⟨_, rfl, ?_⟩
  have := hc 0 (by omega)
  simp only [Nat.mul_one, Nat.add_zero] at this
  rw [addr_add, this]
  simp [inC]
/-- The end of a slice of ints. -/
theorem IntsAt.drop {w : World} {p : Addr} {c : Nat} {xs : List Nat} {l : Nat} (h : IntsAt w (.slice (some p) l c) xs) {k : Nat} (hk : k < xs.length) : IntsAt w (.slice (some (p.add k)) (xs.length - k) (c - k)) (xs.drop k) := by
  obtain ⟨a, c', e, h1, h2, h3⟩ := h
  simp only [Value.slice.injEq] at e
  obtain ⟨rfl, -, rfl⟩ := e
  refine ⟨_, _, by rw [List.length_drop], by rw [List.length_drop]; omega, by omega, fun j hj => ?_⟩
  rw [List.length_drop] at hj
  obtain ⟨q, hq, hc⟩ := h3 (k + j) (by omega)
  obtain rfl := Option.some.inj hq
  exact ⟨_, rfl, by rw [add_add, hc]; simp⟩
end Go.Proofs.YthbhfhagbaommaaGreatDoor.Lg

/- A log of the law LogCompacts: what all and Compact come to. -/
namespace Go.Proofs.YthbhfhagbaommaaGreatDoor.Lg
open Go.RowKit Go.Maps
set_option maxRecDepth 100000
set_option linter.unusedSimpArgs false
set_option linter.unusedVariables false
open Dk (DA DiskAt Parts Did errR errV)
open Sg (SegAt sfoot pls Both Came nextOf flat Chain)

theorem PInv.recOk {A : DA} {room : Nat} {dir : ByteArray} {st n : Nat} {ss0 : List (Nat × List Bt.Bat)} {m : Nat × List Bt.Bat} (h : PInv A room dir st n ss0 m) : ∀ r ∈ recsL (batsL (ss0 ++ [m])), RecOk r := by
  intro r hr
  obtain ⟨x, hx, hr⟩ := List.mem_flatMap.1 hr
  exact bat_recOk (Sg.Chain.mem h.chain x hx) r hr
theorem PInv.few {A : DA} {room : Nat} {dir : ByteArray} {st n : Nat} {ss0 : List (Nat × List Bt.Bat)} {m : Nat × List Bt.Bat} (h : PInv A room dir st n ss0 m) : (recsL (batsL (ss0 ++ [m]))).length ≤ n := by
  have h1 := recs_sorted h.chain
  have h2 := recs_ge h.chain
  rcases sorted_len _ (st : Int) (n : Int) h1 (fun r hr => ⟨h2 r hr, by
    obtain ⟨x, hx, hr⟩ := List.mem_flatMap.1 hr
    have h3 := (bat_mem (Sg.Chain.mem h.chain x hx) r hr).2
    have h4 := h.fins x hx
    omega⟩) with h | h
  · rw [h]; simp
  · omega
/-- Where a log of that law stands. -/
def CSt (w wr : World) (base d lb : Nat) (G : List Nat) (nn : Nat) (ss0 : List (Nat × List Bt.Bat)) (mm : Nat × List Bt.Bat) : Prop :=
  ∃ F gv v ms A, LogAt wr base d F A lb gv dirP v ms ∧ ms.map SM.abs = ss0 ++ [mm] ∧ PInv A 1048576 dirP 0 nn ss0 mm ∧ (v.start = 0 ∧ v.down = false) ∧ (ss0.length ≤ 20 ∧ (flat (batsL (ss0 ++ [mm]))).length ≤ 120000) ∧ Turn G w wr ∧ ∀ k ∈ lfoot F lb gv ms, k ∈ G ∨ w.heap.size ≤ k
section
variable {W w wr w' : World} {base d lb : Nat} {G : List Nat} {nn mo i : Nat} {ss0 : List (Nat × List Bt.Bat)} {mm : Nat × List Bt.Bat}
theorem CSt.still (h : CSt w wr base d lb G nn ss0 mm) (ht : Turn [] wr w') : CSt w w' base d lb G nn ss0 mm := by
  obtain ⟨F, gv, v, ms, A, h1, h2, h3, h4, h5, h6, h7⟩ := h
  exact ⟨F, gv, v, ms, A, h1.still ht, h2, h3, h4, h5, h6.same (ht.mono (by simp)), h7⟩
theorem CSt.turn (h : CSt w wr base d lb G nn ss0 mm) : Turn G w wr := by
  obtain ⟨F, gv, v, ms, A, h1, h2, h3, h4, h5, h6, h7⟩ := h
  exact h6
theorem CSt.fresh (h : CSt w wr base d lb G nn ss0 mm) : ∃ G', CSt wr wr base d lb G' nn ss0 mm ∧ (∀ k ∈ G', base ≤ k) ∧
    ∀ k cs T fr, wr.heap[k]? = some (.cells cs T fr) → (T = 42 ∨ T = 3) → k ∉ G' := by
  obtain ⟨F, gv, v, ms, A, h1, h2, h3, h4, h5, h6, h7⟩ := h
  refine ⟨lfoot F lb gv ms, ⟨F, gv, v, ms, A, h1, h2, h3, h4, h5, Turn.refl _ _, fun k hk => .inl hk⟩, fun k hk => (h1.lt k hk).1, fun k cs T fr e hT => ?_⟩
  rcases hT with rfl | rfl <;> exact h1.apartOf e (by decide) (by decide) (by decide) (by decide) (by decide) (by decide) (by decide)
theorem CSt.recOk (h : CSt w wr base d lb G nn ss0 mm) : ∀ r ∈ recsL (batsL (ss0 ++ [mm])), RecOk r := by
  obtain ⟨F, gv, v, ms, A, h1, h2, h3, h4, h5, h6, h7⟩ := h
  exact h3.recOk
theorem CSt.inv (h : CSt w wr base d lb G nn ss0 mm) : ∃ A, PInv A 1048576 dirP 0 nn ss0 mm := by
  obtain ⟨F, gv, v, ms, A, h1, h2, h3, h4, h5, h6, h7⟩ := h
  exact ⟨A, h3⟩
theorem LSt.cst (h : LSt W wr lb mo i nn) (hi : i ≤ 20) : ∃ ss0 mm G, CSt wr wr W.heap.size W.heap.size lb G nn ss0 mm ∧ nn ≤ 1200 ∧ ∀ k ∈ G, W.heap.size ≤ k := by
  obtain ⟨⟨F, gv, v, ms0, m, A, ss0, mm, hlog, ⟨hss, hmm⟩, hgi, ⟨hv1, hv2, hv3⟩, hsl, hflt, hhk⟩, hlen, htw⟩ := h
  exact ⟨ss0, mm, lfoot F lb gv (ms0 ++ [m]), ⟨F, gv, v, ms0 ++ [m], A, hlog, by rw [List.map_append, List.map_singleton, hss, hmm], hgi.p, ⟨hv1, hv3⟩, ⟨by omega, by omega⟩, Turn.refl _ _, fun k hk => .inl hk⟩, by omega, fun k hk => (hlog.lt k hk).1⟩
theorem all_c (h : CSt w wr base d lb G nn ss0 mm) (hn : nn ≤ 4000) (pp : Int) (hp : -9223372036854775808 ≤ pp ∧ pp ≤ 9223372036854775807) :
    Calls Tryz.prog 10 #[.pointer (some ⟨lb, 0, none⟩), .int .i64 pp] wr fun e w' => ∃ ov, e = .returned (.tuple #[ov, .bool true]) ∧ GRow 42 6 recC w' wr.heap.size ov (recsL (batsL (ss0 ++ [mm]))) ∧ Turn [] wr w' := by
  obtain ⟨F, gv, v, ms, A, hlog, hms, hgi, ⟨hv1, hv3⟩, ⟨hl1, hl2⟩, htw, hft⟩ := h
  obtain ⟨ms0, m, rfl, hm0, hma⟩ := split_last hms
  have hab : (ms0 ++ [m]).map SM.abs = ss0 ++ [mm] := hms
  have hnx : nextOf m.n m.xs = (nn : Int) := by
    have := hgi.next
    rw [← hma] at this
    exact this
  have hge := recs_ge hgi.chain
  have hsi : sinceL v.start (batsL (ss0 ++ [mm])) = recsL (batsL (ss0 ++ [mm])) := by
    rw [hv1, sinceL_recs]
    exact fromL_all hge
  have hfew := hgi.few
  have hal := all_any wr base d F A lb gv dirP v ms0 m hlog (by decide) (by rw [hab]; exact hgi.ok (by simp; omega)) pp hp ((0 : Nat) : Int) (by rw [hab]; exact hgi.chain) (by rw [hab, hnx]; exact hgi.fins) (by rw [hnx, hv1]; omega) (by rw [hv1]; omega) (by rw [hnx]; omega) (by rw [hab, hsi]; omega)
  rw [hab, hsi] at hal
  exact hal
theorem compact_c (h : CSt w wr base d lb G nn ss0 mm) (hW : Turn [] W wr) (hb : W.heap.size ≤ base) (hg : As.ErrT W) (now age : Nat) (hn : now ≤ 1000) (ha : age ≤ 1000) (f : List UInt8 → Int) (hf : f = lastF (recsL (batsL (ss0 ++ [mm])))) :
    Calls Tryz.prog 11 #[.pointer (some ⟨lb, 0, none⟩), .int .i64 (now : Int), .int .i64 (age : Int)] wr fun e w' => e = .returned (.tuple #[.int .i64 ((goneB f now age (batsL ss0) : Nat) : Int), .nilIface]) ∧
      CSt w w' base d lb G nn (ss0.map (fun p => (p.1, p.2.map (stayB f now age)))) mm := by
  obtain ⟨F, gv, v, ms, A, hlog, hms, hgi, ⟨hv1, hv3⟩, ⟨hl1, hl2⟩, htw, hft⟩ := h
  obtain ⟨ms0, m, rfl, hm0, hma⟩ := split_last hms
  obtain ⟨A', v', e1, e2, e3, e4, e5⟩ := hgi.compact (hi := 120000) (fun n hn => ⟨besideP_ok n hn, nameP_ok n hn⟩) (by simp; omega) hl2 (by omega) v now age f hf
  have hnd : (((ms0 ++ [m]).map SM.abs).map (·.1)).Nodup := by rw [hms]; exact hgi.disk.nd
  have hc := Compact_any wr base d F A lb gv dirP v ms0 m hlog (by decide) (by rw [hms]; exact hgi.ok (by simp; omega)) hnd hv3 (fun Z hZ => hg.below (hW.trans hZ (fun k hk => .inr (Nat.le_trans hb (hlog.lt k hk).1))).nil) now age (by omega) (by omega) (by omega) (by omega) ss0 mm hm0 hma
  rw [e1] at hc
  simp only at hc
  refine hc.mono ?_
  rintro e w' ⟨rfl, F', gv', ms', k1, k2, k3, k4⟩
  refine ⟨rfl, F', gv', v', ms', A', k1, k2, e4, ⟨e2.trans hv1, e3.trans hv3⟩, ⟨by simpa using hl1, e5⟩, htw.trans k3 hft, fun k hk => ?_⟩
  rcases k4 k hk with h | h
  · exact hft k h
  · exact .inr (Nat.le_trans htw.size h)
end
end Go.Proofs.YthbhfhagbaommaaGreatDoor.Lg

/- conveyorkeep.latest. -/
namespace Go.Proofs.YthbhfhagbaommaaGreatDoor.Lg
open Go.RowKit Go.Maps
set_option maxRecDepth 100000
set_option linter.unusedSimpArgs false
set_option linter.unusedVariables false
attribute [local go_sem] Oper.semAt_some

set_option maxHeartbeats 4000000 in
theorem keepLatest_any (w : World) (base : Nat) (a : Option Addr) (c : Nat) (rs : List Bt.Rec) (h : GRow 42 6 recC w base (.slice a rs.length c) rs) (ok : ∀ r ∈ rs, RecOk r) (hl : rs.length ≤ 1000000) :
    Calls Tryz.prog 12 #[.slice a rs.length c] w fun e w' => ∃ mb n, e = .returned (.map (some mb)) ∧ IMap w' mb n (lastF rs) ∧ w.heap.size ≤ mb ∧ Turn [] w w' := by
  have hmx : maxLen = 9223372036854775807 := by simp [maxLen]
  obtain ⟨a', c', e', hlc, hcm⟩ := h.form
  simp only [Value.slice.injEq, true_and] at e'
  obtain ⟨rfl, rfl⟩ := e'
  rw [hmx] at hcm
  have H := hide h
  have HOK := hide ok
  have hmm := @run_makeMap Tryz.prog
  clear h ok
  go_enter Tryz.func12, Tryz.ntmps12
  go_wp2
  go_loopw [4] (fun kv wr => ∃ k n : Nat, k ≤ rs.length ∧ kv = .int .i64 k ∧ n ≤ k ∧ w.heap.size < wr.heap.size ∧ IMap wr w.heap.size n (lastF (rs.take k)) ∧ Turn [] w wr) (fun kv _ => rs.length - (intOf kv).toNat)
  case atStart => exact ⟨0, 0, Nat.zero_le _, rfl, Nat.zero_le _, by rw [World.size_alloc]; omega, IMap.made w, (Turn.refl [] w).alloc _⟩
  case round =>
    obtain ⟨k, n, hk, rfl, hn, hgt, him, htw⟩ := hrel
    have HIM := hide him
    have HTW := hide htw
    clear him htw hmm
    by_cases hlt : k < rs.length
    · have hrow := H.out.still HTW.out
      obtain ⟨g, cap, e, hc, -⟩ := hrow.at recC_len (j := k) hlt
      simp only [Value.slice.injEq, true_and] at e
      obtain ⟨rfl, rfl⟩ := e
      have hrk := HOK.out rs[k] (List.getElem_mem _)
      have hls : lastF (rs.take (k + 1)) = if rs[k].keyed then (fun x => if x = rs[k].key then rs[k].off else lastF (rs.take k) x) else lastF (rs.take k) := latF_snoc (fun _ => 0) rs hlt
      obtain ⟨r, hr⟩ : ∃ r, r = rs[k] := ⟨_, rfl⟩
      rw [← hr] at hc hls hrk
      have hcs : ∀ Z, Turn [] wr Z → Z.cell? ⟨g, k * 6, none⟩ = some (.int .i64 r.off) ∧ Z.cell? ⟨g, k * 6 + 2, none⟩ = some (.bool r.keyed) ∧ Z.cell? ⟨g, k * 6 + 3, none⟩ = some (.string ⟨r.key.toArray⟩) := by
        intro Z hZ
        have hrz := hrow.still hZ
        obtain ⟨g', cap', e, hc', -⟩ := hrz.at recC_len (j := k) hlt
        simp only [Value.slice.injEq, Option.some.injEq, Addr.mk.injEq, and_true] at e
        obtain ⟨rfl, -⟩ := e
        rw [← hr] at hc'
        exact ⟨hc' 0 (by omega), hc' 2 (by omega), hc' 3 (by omega)⟩
      obtain ⟨g0, g22, g3⟩ := hcs wr (Turn.refl _ _)
      have HCS := hide hcs
      have HLS := hide hls
      have hks : (⟨r.key.toArray⟩ : ByteArray).size ≤ maxLen := by rw [hmx]; show r.key.toArray.size ≤ _; simpa using hrk.key
      have hki : (k : Int) < (rs.length : Int) := by omega
      have HKS := hide hks
      have HRK := hide hrk
      clear hrow hc hls hrk hr hks hcs
      cases hkd : r.keyed
      · rw [hkd] at g22 HLS HCS
        clear hkd HKS
        go_wp2
        all_goals refine ⟨⟨k + 1, n, by omega, by go_num, by omega, hgt, ?_, HTW.out⟩, ?_⟩
        all_goals first | (simp only [intOf]; omega) | (rw [HLS.out, if_neg Bool.false_ne_true]; exact HIM.out)
      · rw [hkd] at g22 HLS HCS
        clear hkd
        go_wp2
        refine wp_region_tail 11 (Turn []) (by kernel_rfl) (by kernel_rfl) (by kernel_rfl) (by kernel_rfl) (by kernel_rfl) (Nat.le_of_ble_eq_true rfl) rfl (Turn.refl _) (fun _ _ _ h k => h.same k) ?_
        apply Lo.runx 1 rfl rfl [] (by kernel_rfl) (Turn.refl _)
        apply Exists.intro; apply And.intro
        · intro u w1 hR hF
          clear hF
          refine ⟨rfl, fun a ha K hK => ?_⟩
          have e3 := ha 3
          conv at e3 => rhs; whnf
          clear ha
          go_simp
          refine hK _ ?_; rfl
        apply Lo.runx 2 rfl rfl [] (by kernel_rfl) (Turn.refl _)
        apply Exists.intro; apply And.intro
        · intro u w1 hR hF
          clear hF
          refine ⟨rfl, fun a ha K hK => ?_⟩
          have e0 := ha 0
          conv at e0 => rhs; whnf
          clear ha
          go_simp
          refine hK _ ?_; rfl
        apply Lo.runx 3 rfl rfl [] (by kernel_rfl) (Turn.refl _)
        apply Exists.intro; apply And.intro
        · intro u w1 hR hF
          clear hF
          refine ⟨rfl, fun a ha K hK => ?_⟩
          have e4 := ha 4
          conv at e4 => rhs; whnf
          clear ha
          go_simp
          refine hK _ ?_; rfl
        apply Lo.runx 4 rfl rfl [1, 2] (by kernel_rfl) (Turn.refl _)
        apply Exists.intro; apply And.intro
        · intro u w1 hR hF
          obtain ⟨h1, h2, -⟩ := hF
          refine ⟨rfl, fun a ha K hK => ?_⟩
          have e18 := (ha 18).trans h1
          have e19 := (ha 19).trans h2
          clear ha h1 h2
          go_simp
          refine hK _ ?_; rfl
        apply Lo.runx 5 rfl rfl [3] (by kernel_rfl) (Turn.refl _)
        apply Exists.intro; apply And.intro
        · intro u w1 hR hF
          obtain ⟨h3, -⟩ := hF
          refine ⟨rfl, fun a ha K hK => ?_⟩
          have e20 := (ha 20).trans h3
          clear ha h3
          go_simp
          refine hK _ ?_; rfl
        apply Lo.runx 6 rfl rfl [4] (by kernel_rfl) (Turn.refl _)
        apply Exists.intro; apply And.intro
        · intro u w1 hR hF
          obtain ⟨h4, -⟩ := hF
          refine ⟨rfl, fun a ha K hK => ?_⟩
          have e21 := (ha 21).trans h4
          clear ha h4
          have q3 := (HCS.out w1 (((Turn.refl [] _).drew).same hR)).2.2
          go_simp
          refine hK _ ?_; rfl
        apply Lo.runx 7 rfl rfl [] (by kernel_rfl) (Turn.refl _)
        apply Exists.intro; apply And.intro
        · intro u w1 hR hF
          clear hF
          refine ⟨rfl, fun a ha K hK => ?_⟩
          have e0 := ha 0
          conv at e0 => rhs; whnf
          clear ha
          go_simp
          refine hK _ ?_; rfl
        apply Lo.runx 8 rfl rfl [] (by kernel_rfl) (Turn.refl _)
        apply Exists.intro; apply And.intro
        · intro u w1 hR hF
          clear hF
          refine ⟨rfl, fun a ha K hK => ?_⟩
          have e4 := ha 4
          conv at e4 => rhs; whnf
          clear ha
          go_simp
          refine hK _ ?_; rfl
        apply Lo.runx 9 rfl rfl [6, 7] (by kernel_rfl) (Turn.refl _)
        apply Exists.intro; apply And.intro
        · intro u w1 hR hF
          obtain ⟨h6, h7, -⟩ := hF
          refine ⟨rfl, fun a ha K hK => ?_⟩
          have e23 := (ha 23).trans h6
          have e24 := (ha 24).trans h7
          clear ha h6 h7
          go_simp
          refine hK _ ?_; rfl
        apply Lo.runx 10 rfl rfl [8] (by kernel_rfl) (Turn.refl _)
        apply Exists.intro; apply And.intro
        · intro u w1 hR hF
          obtain ⟨h8, -⟩ := hF
          refine ⟨rfl, fun a ha K hK => ?_⟩
          have e25 := (ha 25).trans h8
          clear ha h8
          go_simp
          refine hK _ ?_; rfl
        apply Lo.runx 11 rfl rfl [9] (by kernel_rfl) (Turn.refl _)
        apply Exists.intro; apply And.intro
        · intro u w1 hR hF
          obtain ⟨h9, -⟩ := hF
          refine ⟨rfl, fun a ha K hK => ?_⟩
          have e26 := (ha 26).trans h9
          clear ha h9
          have q0 := (HCS.out w1 (((Turn.refl [] _).drew).same hR)).1
          go_simp
          refine hK _ ?_; rfl
        refine Lo.done [0, 5, 10] (fun u w1 hRd hSd hF => ?_)
        clear hSd
        obtain ⟨f0, f5, f10, -⟩ := hF
        have d0 : u 0 = _ := f0
        have d5 : u 5 = _ := f5
        have d10 : u 10 = _ := f10
        clear f0 f5 f10
        simp only [List.take_succ_cons, List.take_zero, List.drop_succ_cons, List.drop_zero, putFrom, Act.put, List.setIfInBounds_toArray, List.set_cons_succ, List.set_cons_zero, Nat.zero_add, Nat.reduceAdd, d0, d5, d10]
        have htw1 : Turn [] wr w1 := ((Turn.refl [] wr).drew).same hRd
        obtain ⟨w7, hr7, him7, ht7⟩ := (HIM.out.still htw1).put (by rw [hmx]; omega) HKS.out (v := r.off) (by have := HRK.out.off1; have := HRK.out.off2; simp [Lit.wf, IntKind.min, IntKind.max, IntKind.signed, IntKind.bits]; omega)
        rw [show (⟨r.key.toArray⟩ : ByteArray).data.toList = r.key from by simp] at him7
        have HIM7 := hide him7
        have HT7 := hide ht7
        have HTW1 := hide (HTW.out.same htw1)
        have hsz7 := Nat.le_trans htw1.size ht7.size
        clear him7 ht7 htw1 hRd
        go_wp2
        all_goals refine ⟨⟨k + 1, n + 1, by omega, by go_num, by omega, by omega, ?_, HTW1.out.trans HT7.out (fun x hx => .inr (by simp at hx; omega))⟩, ?_⟩
        all_goals first | (simp only [intOf]; omega) | (rw [HLS.out, if_pos (by trivial)]; exact HIM7.out)
    · obtain rfl : k = rs.length := by omega
      rw [List.take_length] at HIM
      go_wp2
      go_ret
      exact ⟨_, n, rfl, HIM.out, Nat.le_refl _, HTW.out⟩
end Go.Proofs.YthbhfhagbaommaaGreatDoor.Lg

/- Integers and lists of records that came in (of a law). -/
namespace Go.Proofs.YthbhfhagbaommaaGreatDoor
open Go.RowKit Go.Maps
set_option maxRecDepth 100000
set_option linter.unusedSimpArgs false
set_option linter.unusedVariables false
variable {H : Type} {enc : TypeId × Value → H} {base : Nat} {spare : Nat → Bool} {held : Bool}
theorem open_int {w : World} {r : Reach} {b0 : Nat} {v : Value} {d : DataW H} {ps : List MemPlace} (hv : Value.okWide Tryz.prog w r b0 3 v) (h : DataW.Trod enc Tryz.prog w base spare held 3 v d ps) : ∃ z : Int, v = .int .i64 z ∧ -9223372036854775808 ≤ z ∧ z ≤ 9223372036854775807 := by
  obtain ⟨z, rfl⟩ := WideShapes.okWide_int Tryz.underlying3 hv
  obtain ⟨n, h⟩ := h
  simp only [Value.cells] at h
  obtain ⟨m, e, -, hw⟩ := DataW.trod_int Tryz.underlying3 h
  simp only [List.cons.injEq, and_true, Value.int.injEq, true_and] at e
  subst e
  exact ⟨_, rfl, wf_i64 hw⟩
theorem open_rows {w : World} {r : Reach} {b0 : Nat} {v : Value} {d : DataW H} {ps : List MemPlace} (hv : Value.okWide Tryz.prog w r b0 33 v) (h : DataW.Trod enc Tryz.prog w base spare held 33 v d ps) : ∃ rs, RecsAt w v rs := by
  obtain ⟨a', len', cap', rfl⟩ := WideShapes.okWide_slice Tryz.underlying33 hv
  obtain ⟨n, h⟩ := h
  simp only [Value.cells] at h
  exact open_recs h
end Go.Proofs.YthbhfhagbaommaaGreatDoor

/- Lists of lists of records that came in (of a law). -/
namespace Go.Proofs.YthbhfhagbaommaaGreatDoor
open Go.RowKit Go.Maps
set_option maxRecDepth 100000
set_option linter.unusedSimpArgs false
set_option linter.unusedVariables false
/-- Lists of records that came in. -/
structure RecssAt (W : World) (v : Value) (rss : List (List Bt.Rec)) : Prop where
  form : ∃ a c, v = .slice a rss.length c ∧ rss.length ≤ c ∧ c ≤ maxLen
  at_ : ∀ Z, Turn [] W Z → ∀ j (h : j < rss.length), ∃ p c sj, v = .slice (some p) rss.length c ∧ Z.cell? (p.add j) = some sj ∧ RecsAt Z sj rss[j]
theorem cells_rs : Tryz.prog.cellsOf 33 = 1 := by kernel_rfl
variable {H : Type} {enc : TypeId × Value → H} {base : Nat} {spare : Nat → Bool} {held : Bool}
theorem open_rowss {w : World} {r : Reach} {b0 : Nat} {v : Value} {d : DataW H} {ps : List MemPlace} (hv : Value.okWide Tryz.prog w r b0 22 v) (h : DataW.Trod enc Tryz.prog w base spare held 22 v d ps) : ∃ rss, RecssAt w v rss := by
  obtain ⟨a', len', cap', rfl⟩ := WideShapes.okWide_slice Tryz.underlying22 hv
  obtain ⟨n, h⟩ := h
  simp only [Value.cells] at h
  rcases Deep.open_slice Tryz.underlying22 h with ⟨hcs, -⟩ | ⟨a, len, cap, m, k, D, Pl, hcs, -, h1, h2, h3, -, h4⟩
  · simp only [List.cons.injEq, and_true] at hcs
    rw [hcs]
    exact ⟨[], ⟨none, 0, rfl, Nat.le_refl _, Nat.zero_le _⟩, fun Z _ j hj => absurd hj (Nat.not_lt_zero _)⟩
  · simp only [List.cons.injEq, and_true] at hcs
    rw [hcs]
    have hlm : len ≤ m := by rw [h3]; split <;> omega
    rw [cells_rs] at h4
    have hr : ∀ i, i < len → ∃ rs, ∃ sj, w.cell? (a.add i) = some sj ∧ RecsAt w sj rs := by
      intro i hi
      obtain ⟨cs', g1, g2⟩ := h4 i (by omega)
      obtain ⟨-, -, g3⟩ := World.cells?_some g1
      have hone : ∃ sj, cs' = [sj] := by
        rcases Deep.open_slice Tryz.underlying33 g2 with ⟨e, -⟩ | ⟨a2, len2, cap2, m2, k2, D2, P2, e, -⟩
        · exact ⟨_, e⟩
        · exact ⟨_, e⟩
      obtain ⟨sj, rfl⟩ := hone
      obtain ⟨rs, hrs⟩ := open_recs g2
      have := g3 0 (by omega)
      rw [add_add, Nat.mul_one, Nat.add_zero] at this
      exact ⟨rs, sj, this, hrs⟩
    let rss : List (List Bt.Rec) := (List.range len).attach.map fun i => (hr i.1 (List.mem_range.1 i.2)).choose
    have hl : rss.length = len := by simp [rss]
    refine ⟨rss, ⟨some a, cap, by rw [hl], by rw [hl]; exact h1, h2⟩, fun Z hZ j hj => ?_⟩
    have hj' : j < len := by omega
    have e : rss[j] = (hr j hj').choose := by simp [rss]
    obtain ⟨sj, h5, h6⟩ := (hr j hj').choose_spec
    refine ⟨a, cap, sj, by rw [hl], ?_, ?_⟩
    · rw [World.cell?_of_block (w := w) (hZ.block _ (World.block_lt_of_cell? _ _ h5) (by simp)), h5]
    · rw [e]
      exact h6.still hZ
end Go.Proofs.YthbhfhagbaommaaGreatDoor

/- conveyorkeep.LogRetains, walked. -/
namespace Go.Proofs.YthbhfhagbaommaaGreatDoor.Lg
open Go.RowKit Go.Maps
set_option maxRecDepth 100000
set_option linter.unusedSimpArgs false
set_option linter.unusedVariables false
attribute [local go_sem] Oper.semAt_some
open Dk (DA DiskAt Parts Did errR errV)
open Sg (SegAt sfoot pls Both Came nextOf flat Chain)

section
variable {W w wr : World} {base d lb : Nat} {G : List Nat} {nn : Nat} {ss0 : List (Nat × List Bt.Bat)} {mm : Nat × List Bt.Bat} {mo : Int} {dn : Bool} {i : Nat}
theorem DSt.turn (h : DSt w wr base d lb dirP G 1048576 nn ss0 mm mo dn i) : Turn G w wr := by
  obtain ⟨F, gv, v, ms, A, h1, h2, h3, h4, h5, h6⟩ := h
  exact h5
/-- Told anew from here on. -/
theorem DSt.fresh (h : DSt w wr base d lb dirP G 1048576 nn ss0 mm mo dn i) : ∃ G', DSt wr wr base d lb dirP G' 1048576 nn ss0 mm mo dn i ∧ (∀ k ∈ G', base ≤ k) ∧
    ∀ k cs T fr, wr.heap[k]? = some (.cells cs T fr) → (T = 42 ∨ T = 3) → k ∉ G' := by
  obtain ⟨F, gv, v, ms, A, h1, h2, h3, h4, h5, h6⟩ := h
  refine ⟨lfoot F lb gv ms, ⟨F, gv, v, ms, A, h1, h2, h3, h4, Turn.refl _ _, fun k hk => .inl hk⟩, fun k hk => (h1.lt k hk).1, fun k cs T fr e hT => ?_⟩
  rcases hT with rfl | rfl <;> exact h1.apartOf e (by decide) (by decide) (by decide) (by decide) (by decide) (by decide) (by decide)
theorem LSt.dst {mo : Nat} (h : LSt W wr lb mo i nn) (hi : i ≤ 20) : ∃ ss0 mm G, DSt wr wr W.heap.size W.heap.size lb dirP G 1048576 nn ss0 mm (mo : Int) false 0 ∧ ss0.length ≤ 20 ∧ nn ≤ 1200 ∧ headK ss0 mm = 0 ∧ ∀ k ∈ G, W.heap.size ≤ k := by
  obtain ⟨⟨F, gv, v, ms0, m, A, ss0, mm, hlog, ⟨hss, hmm⟩, hgi, ⟨hv1, hv2, hv3⟩, hsl, hflt, hhk⟩, hlen, htw⟩ := h
  refine ⟨ss0, mm, lfoot F lb gv (ms0 ++ [m]), ⟨F, gv, v, ms0 ++ [m], A, hlog, ?_, ?_, ⟨?_, hv2, hv3⟩, Turn.refl _ _, fun k hk => .inl hk⟩, by omega, by omega, hhk, fun k hk => (hlog.lt k hk).1⟩
  · rw [List.map_append, List.map_singleton, hss, hmm, List.drop_zero]
  · rw [List.drop_zero]
    exact hgi
  · rw [hv1]
    rfl
end
theorem DSt.recOk {w wr : World} {base d lb : Nat} {G : List Nat} {nn : Nat} {ss0 : List (Nat × List Bt.Bat)} {mm : Nat × List Bt.Bat} {mo : Int} {dn : Bool} {i : Nat} (h : DSt w wr base d lb dirP G 1048576 nn ss0 mm mo dn i) : ∀ r ∈ recsL (batsL (ss0.drop i ++ [mm])), RecOk r := by
  obtain ⟨F, gv, v, ms, A, h1, h2, h3, h4, h5, h6⟩ := h
  exact h3.recOk
/-- The end of a slice of records. -/
theorem RecsAt.drop {w : World} {a : Option Addr} {c l : Nat} {rs : List Bt.Rec} (h : RecsAt w (.slice a l c) rs) {k : Nat} (hk : k ≤ rs.length) : RecsAt w (.slice (a.map (fun x => x.add (k * 6))) (rs.length - k) (c - k)) (rs.drop k) := by
  obtain ⟨a', c', e, h1, h2, h3, h4⟩ := h
  simp only [Value.slice.injEq] at e
  obtain ⟨rfl, -, rfl⟩ := e
  refine ⟨_, _, by rw [List.length_drop], by rw [List.length_drop]; omega, by omega, fun hn => ?_, fun j hj => ?_⟩
  · have := h3 (by simpa using hn)
    omega
  · rw [List.length_drop] at hj
    obtain ⟨h5, p, hp, hc⟩ := h4 (k + j) (by omega)
    subst hp
    have e : (rs.drop k)[j]'(by rw [List.length_drop]; exact hj) = rs[k + j] := by simp
    rw [e]
    refine ⟨h5, _, rfl, fun i u hu => ?_⟩
    rw [← hc i u hu, add_add, add_add, add_add]
    congr 2
    omega
end Go.Proofs.YthbhfhagbaommaaGreatDoor.Lg
