/- Lgb, As, Bare, Lgr, Lgx, Lga, Lgd, Lgh, Lgi, Lgj, Keep, IterShelf, Iter: texts merged. -/
import Derived.Test.YtmdmdbobbepogaaGreatDoorM6
import Derived.Test.YtmdmdbobbepogaaGreatDoorProg
import Derived.WalkKit
import Derived.LaidEql
import Derived.Stop.Asserts
import Derived.RowKitTokens
import Derived.Test.YtmdmdbobbepogaaGreatDoorM3
import Derived.Below
import Derived.WalkLawsBesides
import Derived.Test.YtmdmdbobbepogaaGreatDoorM2
import Derived.Test.YtmdmdbobbepogaaGreatDoorM4
import Derived.Shelf.SlIter.Nil
import Derived.Shelf.SortM.Plain
import Derived.Shelf.SortM.SortNone
import Derived.Ground.GgzProg
import Derived.Ground.SlgmProg
/- A new segment behind all others: begin, roll. -/
namespace Go.Proofs.YtmdmdbobbepogaaGreatDoor.Lg
open Go.RowKit Go.Maps
set_option maxRecDepth 100000
set_option linter.unusedSimpArgs false
set_option linter.unusedVariables false
attribute [local go_sem] Oper.semAt_some
open Dk (DA DiskAt Parts Did errR errV)
open Sg (SegAt sfoot pls Both Came nextOf flat)

theorem Tryz.infoSp : (Tryz.prog.info? 73).map (fun i => (i.zero, i.size, i.bytes)) = some (some (.pointer none), 1, 8) := by kernel_rfl
theorem app_sm (w : World) (base : Nat) (v : Value) (xs : List SM) (x : SM) (k : Nat) (hrow : GRow 73 1 smC w base v xs) (hk : w.heap[k]? = some (.cells (smC x).toArray 73 (0, 0))) (hlen : xs.length ≤ 1000000) (hbase : base ≤ w.heap.size) :
    ∃ v' w', (Builtin.append_ #[68, 68] 68 #[v, .slice (some ⟨k, 0, none⟩) 1 1]).run Tryz.prog w = .ok v' w' ∧ GRow 73 1 smC w' base v' (xs ++ [x]) ∧ Turn v.ownBlock.toList w w' ∧ (∀ j ∈ v'.ownBlock, j ∈ v.ownBlock ∨ w.heap.size ≤ j) := by
  obtain ⟨i, hi, e⟩ := Option.map_eq_some_iff.1 Tryz.infoSp
  simp only [Prod.mk.injEq] at e
  exact run_append_g (P := Tryz.prog) 68 68 Tryz.underlying68 i _ hi e.1 (by rfl) e.2.1 (by omega) smC_len (fun x u hu => by simp [smC] at hu; subst hu; rfl) w base v xs x k hrow hk hlen hbase
section
variable {w w' w1 : World} {base d lb : Nat} {F G : List Nat} {A A' : DA} {gv gv' : Value} {dir : ByteArray} {v v' : LV} {ms ms0 ms1 : List SM} {m : SM}
/-- A segment has come behind all others. -/
theorem LogAt.grow (h : LogAt w base d F A lb gv dir v ms) (ht : Turn gv.ownBlock.toList w w') (hrow : GRow 73 1 smC w' base gv' (ms ++ [m])) (hseg : SegAt w base d m.sb m.sv (Sn.nameB dir m.n) m.n (pls 0 (-1) m.xs)) (hap : ∀ x ∈ ms, ∀ k ∈ x.foot, k ∉ m.foot) :
    LogAt (w'.setCell ⟨lb, 3, none⟩ gv') base d F A lb gv' dir v (ms ++ [m]) := by
  have hb' := ht.heap h.box (by simpa using h.lb_gv)
  have ht2 : Turn [lb] w' (w'.setCell ⟨lb, 3, none⟩ gv') := (Turn.refl _ _).setCell (.inl (by simp)) _
  have hgs : ∀ k ∈ gv.ownBlock, k ∉ m.foot := fun k hk hs => by
    obtain ⟨cs, e⟩ := h.row.kind k hk
    obtain ⟨cs', T, e', hT⟩ := seg_kind hseg k hs
    rcases hT with rfl | rfl <;> exact ne_of_type e e' (by decide) rfl
  have hls : lb ∉ m.foot := fun hs => by
    obtain ⟨cs', T, e', hT⟩ := seg_kind hseg lb hs
    rcases hT with rfl | rfl <;> exact ne_of_type h.box e' (by decide) rfl
  refine ⟨(h.disk.kept ht (fun k hk hm => h.gv_F k (by simpa using hm) hk)).kept ht2 (fun k hk hm => by obtain rfl := List.mem_singleton.1 hm; exact h.lb_F hk), ?_, hrow.kept ht2 (fun k hk hm => ?_), h.low, fun x hx => ?_, ?_⟩
  · rw [heap_set hb']; rfl
  · obtain rfl := List.mem_singleton.1 hm
    obtain ⟨cs, e⟩ := hrow.kind k hk
    exact ne_of_type hb' e (by decide) rfl
  · rcases List.mem_append.1 hx with hx | hx
    · exact ((h.segs x hx).kept ht (fun k hk hm => h.gv_seg hx k (by simpa using hm) hk)).kept ht2 (fun k hk hm => by obtain rfl := List.mem_singleton.1 hm; exact h.lb_seg hx hk)
    · obtain rfl := List.mem_singleton.1 hx
      exact (hseg.kept ht (fun k hk hm => hgs k (by simpa using hm) hk)).kept ht2 (fun k hk hm => by obtain rfl := List.mem_singleton.1 hm; exact hls hk)
  · rw [List.pairwise_append]
    exact ⟨h.apart, List.pairwise_singleton _ _, fun x hx y hy => by obtain rfl := List.mem_singleton.1 hy; exact hap x hx⟩
end

/-- begin, of what a log is. -/
def beginS (A : DA) (dir : ByteArray) (n : Nat) (ss : List (Nat × List Bt.Bat)) : Int × DA × List (Nat × List Bt.Bat) :=
  ((A.make (Sn.nameB dir n)).1, (A.make (Sn.nameB dir n)).2, if (A.make (Sn.nameB dir n)).1 = 0 then ss ++ [(n, [])] else ss)
theorem _root_.Go.Proofs.YtmdmdbobbepogaaGreatDoor.Dk.Did.turn {w w' : World} {base d : Nat} {F : List Nat} {A' : DA} (h : Did w w' base d F A') : Turn F w w' := by
  obtain ⟨F', -, h2, -⟩ := h; exact h2
theorem did_first {w w1 w' : World} {base d : Nat} {F : List Nat} {A' : DA} (ht : Turn F w w1) (h : Did w1 w' base d F A') : Did w w' base d F A' := by
  obtain ⟨F', hd, ht2, hf⟩ := h
  exact ⟨F', hd, ht.same ht2, fun k hk => (hf k hk).imp_right (Nat.le_trans ht.size)⟩
theorem did_after {w w1 w' : World} {base d : Nat} {F : List Nat} {A' : DA} (h : Did w w1 base d F A') (ht : Turn [] w1 w') : Did w w' base d F A' := by
  obtain ⟨F', hd, ht2, hf⟩ := h
  exact ⟨F', hd.kept ht (by simp), ht2.same (ht.mono (by simp)), hf⟩
theorem fresh_turn {w w' : World} {base d sb : Nat} {F : List Nat} {A' : DA} {file : ByteArray} {b0 : Int} (h : Sg.Fresh1 w w' base d F A' sb file b0) : Turn F w w' := by
  obtain ⟨F', -, h2, -⟩ := h; exact h2
theorem fresh_first {w w1 w' : World} {base d sb : Nat} {F : List Nat} {A' : DA} {file : ByteArray} {b0 : Int} (ht : Turn F w w1) (h : Sg.Fresh1 w1 w' base d F A' sb file b0) : Sg.Fresh1 w w' base d F A' sb file b0 := by
  obtain ⟨F', hb, ht2, hf, hs⟩ := h
  exact ⟨F', hb, ht.same ht2, fun k hk => (hf k hk).imp_right (Nat.le_trans ht.size), Nat.le_trans ht.size hs⟩
theorem fresh_after {w w1 w' : World} {base d sb : Nat} {F : List Nat} {A' : DA} {file : ByteArray} {b0 : Int} (h : Sg.Fresh1 w w1 base d F A' sb file b0) (ht : Turn [] w1 w') : Sg.Fresh1 w w' base d F A' sb file b0 := by
  obtain ⟨F', hb, ht2, hf, hs⟩ := h
  exact ⟨F', hb.still ht, ht2.same (ht.mono (by simp)), hf, hs⟩
set_option maxHeartbeats 4000000 in
theorem begin_any (w : World) (base d : Nat) (F : List Nat) (A : DA) (lb : Nat) (gv : Value) (dir : ByteArray) (v : LV) (ms : List SM) (h : LogAt w base d F A lb gv dir v ms) (hl : ms.length ≤ 1000000) (hdir : dir.size ≤ 1000) (n : Nat) (hn : n ≤ 1099511627776) (hv : Sn.TabT w) :
    Calls Tryz.prog 27 #[.pointer (some ⟨lb, 0, none⟩), .int .i64 n] w fun e w' => e = .returned (errR (beginS A dir n (ms.map SM.abs)).1) ∧
      LDid w w' base d (lfoot F lb gv ms) (beginS A dir n (ms.map SM.abs)).2.1 lb dir v (beginS A dir n (ms.map SM.abs)).2.2 := by
  obtain ⟨ga, gc, hgv, hglc, hgcm⟩ := h.row.form
  subst hgv
  have H := hide h
  have HV := hide hv
  have hlb := lt_of_heap h.box
  obtain ⟨c, hc⟩ : ∃ c, c = (A.make (Sn.nameB dir n)).1 := ⟨_, rfl⟩
  obtain ⟨A2, hA2⟩ : ∃ A2, (A.make (Sn.nameB dir n)).2 = A2 := ⟨_, rfl⟩
  have HC := hide hc
  have HA2 := hide hA2
  clear h hv hA2
  by_cases hne : c ≠ 0
  · have hr : errR (A.make (Sn.nameB dir n)).1 = .iface 62 (.int .i64 c) := by rw [← hc]; unfold errR; rw [if_neg hne]; rfl
    have HR := hide hr
    have HNE := hide hne
    clear hr hne hc
    go_enter Tryz.func27, Tryz.ntmps27
    go_wp2
    refine wp_region_loud 14 (Turn F) (Turn []) (fun k w => match k with | 0 => (fun w' => DiskAt w' base d F A ∧ Sn.TabT w') w | _ => (fun w' => Sn.TabT w' ∨ True) w) [9] (by kernel_rfl) (by kernel_rfl) (by kernel_rfl) (by kernel_rfl) (by kernel_rfl) (by kernel_rfl) (Nat.le_of_ble_eq_true rfl) (by decide) rfl (Turn.refl _) (fun _ _ _ h k => h.same k) (fun _ _ h => h.mono (by simp)) ?_ ?_ ?_
    · intro k a b hk hR
      match k, hk with
      | 0, hk =>
        have hk := (show (fun w' => DiskAt w' base d F A ∧ Sn.TabT w') a from hk)
        dsimp only at hk
        show (fun w' => DiskAt w' base d F A ∧ Sn.TabT w') b
        dsimp only
        first | exact ⟨hk.1.kept hR (by simp), hk.2.below hR.nil⟩ | exact .inr trivial
      | _ + 1, hk =>
        have hk := (show (fun w' => Sn.TabT w' ∨ True) a from hk)
        dsimp only at hk
        show (fun w' => Sn.TabT w' ∨ True) b
        dsimp only
        first | exact ⟨hk.1.kept hR (by simp), hk.2.below hR.nil⟩ | exact .inr trivial
    · show (fun w' => DiskAt w' base d F A ∧ Sn.TabT w') _
      dsimp only
      exact ⟨H.out.disk.kept ((Turn.refl [] w).drew) (by simp), HV.out.below ((Turn.refl [] w).drew).nil⟩
    apply Lo.runx 1 rfl rfl [] (by kernel_rfl) (Turn.refl _)
    apply Exists.intro; apply And.intro
    · intro u w1 hR hF
      clear hF
      refine ⟨rfl, fun a ha K hK => ?_⟩
      have e0 := ha 0
      conv at e0 => rhs; whnf
      clear ha
      go_simp
      refine hK _ ?_; rfl
    apply Lo.runx 2 rfl rfl [0] (by kernel_rfl) (Turn.refl _)
    apply Exists.intro; apply And.intro
    · intro u w1 hR hF
      obtain ⟨h0, -⟩ := hF
      refine ⟨rfl, fun a ha K hK => ?_⟩
      have e8 := (ha 8).trans h0
      clear ha h0
      go_simp
      refine hK _ ?_; rfl
    apply Lo.runx 3 rfl rfl [1] (by kernel_rfl) (Turn.refl _)
    apply Exists.intro; apply And.intro
    · intro u w1 hR hF
      obtain ⟨h1, -⟩ := hF
      refine ⟨rfl, fun a ha K hK => ?_⟩
      have e9 := (ha 9).trans h1
      clear ha h1
      go_simp
      refine hK _ ?_; rfl
    apply Lo.runx 4 rfl rfl [2] (by kernel_rfl) (Turn.refl _)
    apply Exists.intro; apply And.intro
    · intro u w1 hR hF
      obtain ⟨h2, -⟩ := hF
      refine ⟨rfl, fun a ha K hK => ?_⟩
      have e10 := (ha 10).trans h2
      clear ha h2
      have hb := (((Turn.refl [] w).drew.mono (T := F) (by simp)).same hR).heap H.out.box H.out.lb_F
      have c0 : w1.cell? ⟨lb, 0, none⟩ = some (.pointer (some ⟨d, 0, none⟩)) := by rw [cell_of hb]; rfl
      have z1 := lt_of_heap hb
      go_simp
      refine hK _ ?_; rfl
    apply Lo.runx 5 rfl rfl [] (by kernel_rfl) (Turn.refl _)
    apply Exists.intro; apply And.intro
    · intro u w1 hR hF
      clear hF
      refine ⟨rfl, fun a ha K hK => ?_⟩
      have e0 := ha 0
      conv at e0 => rhs; whnf
      clear ha
      go_simp
      refine hK _ ?_; rfl
    apply Lo.runx 6 rfl rfl [4] (by kernel_rfl) (Turn.refl _)
    apply Exists.intro; apply And.intro
    · intro u w1 hR hF
      obtain ⟨h4, -⟩ := hF
      refine ⟨rfl, fun a ha K hK => ?_⟩
      have e12 := (ha 12).trans h4
      clear ha h4
      go_simp
      refine hK _ ?_; rfl
    apply Lo.runx 7 rfl rfl [5] (by kernel_rfl) (Turn.refl _)
    apply Exists.intro; apply And.intro
    · intro u w1 hR hF
      obtain ⟨h5, -⟩ := hF
      refine ⟨rfl, fun a ha K hK => ?_⟩
      have e13 := (ha 13).trans h5
      clear ha h5
      go_simp
      refine hK _ ?_; rfl
    apply Lo.runx 8 rfl rfl [6] (by kernel_rfl) (Turn.refl _)
    apply Exists.intro; apply And.intro
    · intro u w1 hR hF
      obtain ⟨h6, -⟩ := hF
      refine ⟨rfl, fun a ha K hK => ?_⟩
      have e14 := (ha 14).trans h6
      clear ha h6
      have hb := (((Turn.refl [] w).drew.mono (T := F) (by simp)).same hR).heap H.out.box H.out.lb_F
      have c0 : w1.cell? ⟨lb, 1, none⟩ = some (.string dir) := by rw [cell_of hb]; rfl
      have z1 := lt_of_heap hb
      go_simp
      refine hK _ ?_; rfl
    apply Lo.runx 9 rfl rfl [] (by kernel_rfl) (Turn.refl _)
    apply Exists.intro; apply And.intro
    · intro u w1 hR hF
      clear hF
      refine ⟨rfl, fun a ha K hK => ?_⟩
      have e1 := ha 1
      conv at e1 => rhs; whnf
      clear ha
      go_simp
      refine hK _ ?_; rfl
    refine Lo.noisy 10 rfl 0 rfl [3, 7, 8] (fun x w' => x = .tuple #[.pointer none, .iface 62 (.int .i64 c)] ∧ Did w w' base d F A2) (by kernel_rfl) (fun x w w' h hR => ?_) (.inl (by kernel_rfl)) (fun u w1 hR hS hF => ?_) ?_
    · exact ⟨h.1, did_after h.2 hR⟩
    · obtain ⟨h3, h7, h8, -⟩ := hF
      have hS := (show (fun w' => DiskAt w' base d F A ∧ Sn.TabT w') w1 from hS)
      dsimp only at hS
      refine ⟨rfl, fun a ha K hK => ?_⟩
      have e11 := (ha 11).trans h3
      have e15 := (ha 15).trans h7
      have e16 := (ha 16).trans h8
      clear ha h3 h7 h8
      go_simp
      have hr0 := ((Turn.refl [] w).drew.mono (T := F) (by simp)).same hR
      refine (Sg.make_any w1 base d F A hS.1 dir hdir n hn hS.2).mono ?_
      rintro e w2 (⟨hne, rfl, hd⟩ | ⟨he, -⟩)
      · rw [HR.out]
        rw [HA2.out] at hd
        exact hK _ _ ⟨rfl, did_first hr0 hd⟩ hd.turn (.inr trivial)
      · exact absurd (HC.out.trans he) HNE.out
    refine Lo.late 11 rfl rfl [9] (fun x w' => x = .tuple #[.pointer none, .iface 62 (.int .i64 c)] ∧ Did w w' base d F A2) (by kernel_rfl) (fun x w w' h hR => ?_) (by kernel_rfl) (fun u w1 hR hF => ?_) ?_
    · exact ⟨h.1, did_after h.2 hR⟩
    · obtain ⟨h9, -⟩ := hF
      refine ⟨rfl, fun a ha K hK => ?_⟩
      have e17 : a.tmps.getD 17 undef = u 9 := ha 17
      have h9 := (show (fun x w' => x = .tuple #[.pointer none, .iface 62 (.int .i64 c)] ∧ Did w w' base d F A2) (u 9) w1 from h9)
      dsimp only at h9
      clear ha
      obtain ⟨e9, h9d⟩ := h9
      rw [e9] at e17
      go_simp
      exact hK _ _ ⟨rfl, h9d⟩ (Turn.refl _ _)
    refine Lo.late 12 rfl rfl [10] (fun x w' => x = .pointer none ∧ Did w w' base d F A2) (by kernel_rfl) (fun x w w' h hR => ?_) (by kernel_rfl) (fun u w1 hR hF => ?_) ?_
    · exact ⟨h.1, did_after h.2 hR⟩
    · obtain ⟨h10, -⟩ := hF
      refine ⟨rfl, fun a ha K hK => ?_⟩
      have e7 : a.tmps.getD 7 undef = u 10 := ha 7
      have h10 := (show (fun x w' => x = .tuple #[.pointer none, .iface 62 (.int .i64 c)] ∧ Did w w' base d F A2) (u 10) w1 from h10)
      dsimp only at h10
      clear ha
      obtain ⟨e9, h9d⟩ := h10
      rw [e9] at e7
      go_simp
      exact hK _ _ ⟨rfl, h9d⟩ (Turn.refl _ _)
    refine Lo.runv 13 rfl rfl [10] (.iface 62 (.int .i64 c)) (by kernel_rfl) (fun u w1 hR hF => ?_) (Turn.refl _) ?_
    · obtain ⟨h10, -⟩ := hF
      refine ⟨rfl, fun a ha K hK => ?_⟩
      have e7 : a.tmps.getD 7 undef = u 10 := ha 7
      have h10 := (show (fun x w' => x = .tuple #[.pointer none, .iface 62 (.int .i64 c)] ∧ Did w w' base d F A2) (u 10) w1 from h10)
      dsimp only at h10
      clear ha
      obtain ⟨e9, -⟩ := h10
      rw [e9] at e7
      go_simp
      refine hK _ ?_
      rfl
    refine Lo.late 14 rfl rfl [11] (fun x w' => x = .pointer none ∧ Did w w' base d F A2) (by kernel_rfl) (fun x w w' h hR => ?_) (by kernel_rfl) (fun u w1 hR hF => ?_) ?_
    · exact ⟨h.1, did_after h.2 hR⟩
    · obtain ⟨h11, -⟩ := hF
      refine ⟨rfl, fun a ha K hK => ?_⟩
      have e18 : a.tmps.getD 18 undef = u 11 := ha 18
      have h11 := (show (fun x w' => x = .pointer none ∧ Did w w' base d F A2) (u 11) w1 from h11)
      dsimp only at h11
      clear ha
      go_simp
      exact hK _ _ ⟨rfl, h11.2⟩ (Turn.refl _ _)
    refine Lo.done [12, 13] (fun u w1 hRd hSd hF => ?_)
    have hSd := (show (fun w' => Sn.TabT w' ∨ True) w1 from hSd)
    dsimp only at hSd
    obtain ⟨f12, f13, -⟩ := hF
    have d12 : u 12 = _ := f12
    have d13 := (show (fun x w' => x = .pointer none ∧ Did w w' base d F A2) (u 13) w1 from f13)
    dsimp only at d13
    clear f12 f13
    simp only [List.take_succ_cons, List.take_zero, List.drop_succ_cons, List.drop_zero, putFrom, Act.put, List.setIfInBounds_toArray, List.set_cons_succ, List.set_cons_zero, Nat.zero_add, Nat.reduceAdd, d12]
    obtain ⟨e13, hd13⟩ := d13
    rw [e13]
    have HD := hide (H.out.did hd13)
    clear d12 e13 hd13 hRd hSd
    go_wp2
    go_ret
    unfold beginS
    simp only
    rw [HR.out, HA2.out, if_neg (by rw [← HC.out]; exact HNE.out)]
    exact ⟨rfl, HD.out⟩
  · have hne0 : c = 0 := Classical.not_not.1 hne
    have HNE := hide hne0
    clear hne hne0 hc
    go_enter Tryz.func27, Tryz.ntmps27
    go_wp2
    refine wp_region_loud 14 (Turn F) (Turn []) (fun k w => match k with | 0 => (fun w' => DiskAt w' base d F A ∧ Sn.TabT w') w | _ => (fun w' => Sn.TabT w' ∨ True) w) [9] (by kernel_rfl) (by kernel_rfl) (by kernel_rfl) (by kernel_rfl) (by kernel_rfl) (by kernel_rfl) (Nat.le_of_ble_eq_true rfl) (by decide) rfl (Turn.refl _) (fun _ _ _ h k => h.same k) (fun _ _ h => h.mono (by simp)) ?_ ?_ ?_
    · intro k a b hk hR
      match k, hk with
      | 0, hk =>
        have hk := (show (fun w' => DiskAt w' base d F A ∧ Sn.TabT w') a from hk)
        dsimp only at hk
        show (fun w' => DiskAt w' base d F A ∧ Sn.TabT w') b
        dsimp only
        first | exact ⟨hk.1.kept hR (by simp), hk.2.below hR.nil⟩ | exact .inr trivial
      | _ + 1, hk =>
        have hk := (show (fun w' => Sn.TabT w' ∨ True) a from hk)
        dsimp only at hk
        show (fun w' => Sn.TabT w' ∨ True) b
        dsimp only
        first | exact ⟨hk.1.kept hR (by simp), hk.2.below hR.nil⟩ | exact .inr trivial
    · show (fun w' => DiskAt w' base d F A ∧ Sn.TabT w') _
      dsimp only
      exact ⟨H.out.disk.kept ((Turn.refl [] w).drew) (by simp), HV.out.below ((Turn.refl [] w).drew).nil⟩
    apply Lo.runx 1 rfl rfl [] (by kernel_rfl) (Turn.refl _)
    apply Exists.intro; apply And.intro
    · intro u w1 hR hF
      clear hF
      refine ⟨rfl, fun a ha K hK => ?_⟩
      have e0 := ha 0
      conv at e0 => rhs; whnf
      clear ha
      go_simp
      refine hK _ ?_; rfl
    apply Lo.runx 2 rfl rfl [0] (by kernel_rfl) (Turn.refl _)
    apply Exists.intro; apply And.intro
    · intro u w1 hR hF
      obtain ⟨h0, -⟩ := hF
      refine ⟨rfl, fun a ha K hK => ?_⟩
      have e8 := (ha 8).trans h0
      clear ha h0
      go_simp
      refine hK _ ?_; rfl
    apply Lo.runx 3 rfl rfl [1] (by kernel_rfl) (Turn.refl _)
    apply Exists.intro; apply And.intro
    · intro u w1 hR hF
      obtain ⟨h1, -⟩ := hF
      refine ⟨rfl, fun a ha K hK => ?_⟩
      have e9 := (ha 9).trans h1
      clear ha h1
      go_simp
      refine hK _ ?_; rfl
    apply Lo.runx 4 rfl rfl [2] (by kernel_rfl) (Turn.refl _)
    apply Exists.intro; apply And.intro
    · intro u w1 hR hF
      obtain ⟨h2, -⟩ := hF
      refine ⟨rfl, fun a ha K hK => ?_⟩
      have e10 := (ha 10).trans h2
      clear ha h2
      have hb := (((Turn.refl [] w).drew.mono (T := F) (by simp)).same hR).heap H.out.box H.out.lb_F
      have c0 : w1.cell? ⟨lb, 0, none⟩ = some (.pointer (some ⟨d, 0, none⟩)) := by rw [cell_of hb]; rfl
      have z1 := lt_of_heap hb
      go_simp
      refine hK _ ?_; rfl
    apply Lo.runx 5 rfl rfl [] (by kernel_rfl) (Turn.refl _)
    apply Exists.intro; apply And.intro
    · intro u w1 hR hF
      clear hF
      refine ⟨rfl, fun a ha K hK => ?_⟩
      have e0 := ha 0
      conv at e0 => rhs; whnf
      clear ha
      go_simp
      refine hK _ ?_; rfl
    apply Lo.runx 6 rfl rfl [4] (by kernel_rfl) (Turn.refl _)
    apply Exists.intro; apply And.intro
    · intro u w1 hR hF
      obtain ⟨h4, -⟩ := hF
      refine ⟨rfl, fun a ha K hK => ?_⟩
      have e12 := (ha 12).trans h4
      clear ha h4
      go_simp
      refine hK _ ?_; rfl
    apply Lo.runx 7 rfl rfl [5] (by kernel_rfl) (Turn.refl _)
    apply Exists.intro; apply And.intro
    · intro u w1 hR hF
      obtain ⟨h5, -⟩ := hF
      refine ⟨rfl, fun a ha K hK => ?_⟩
      have e13 := (ha 13).trans h5
      clear ha h5
      go_simp
      refine hK _ ?_; rfl
    apply Lo.runx 8 rfl rfl [6] (by kernel_rfl) (Turn.refl _)
    apply Exists.intro; apply And.intro
    · intro u w1 hR hF
      obtain ⟨h6, -⟩ := hF
      refine ⟨rfl, fun a ha K hK => ?_⟩
      have e14 := (ha 14).trans h6
      clear ha h6
      have hb := (((Turn.refl [] w).drew.mono (T := F) (by simp)).same hR).heap H.out.box H.out.lb_F
      have c0 : w1.cell? ⟨lb, 1, none⟩ = some (.string dir) := by rw [cell_of hb]; rfl
      have z1 := lt_of_heap hb
      go_simp
      refine hK _ ?_; rfl
    apply Lo.runx 9 rfl rfl [] (by kernel_rfl) (Turn.refl _)
    apply Exists.intro; apply And.intro
    · intro u w1 hR hF
      clear hF
      refine ⟨rfl, fun a ha K hK => ?_⟩
      have e1 := ha 1
      conv at e1 => rhs; whnf
      clear ha
      go_simp
      refine hK _ ?_; rfl
    refine Lo.noisy 10 rfl 0 rfl [3, 7, 8] (fun x w' => ∃ sb, x = .tuple #[.pointer (some ⟨sb, 0, none⟩), .nilIface] ∧ Sg.Fresh1 w w' base d F A2 sb (Sn.nameB dir n) n) (by kernel_rfl) (fun x w w' h hR => ?_) (.inl (by kernel_rfl)) (fun u w1 hR hS hF => ?_) ?_
    · obtain ⟨sb, e, h⟩ := h; exact ⟨sb, e, fresh_after h hR⟩
    · obtain ⟨h3, h7, h8, -⟩ := hF
      have hS := (show (fun w' => DiskAt w' base d F A ∧ Sn.TabT w') w1 from hS)
      dsimp only at hS
      refine ⟨rfl, fun a ha K hK => ?_⟩
      have e11 := (ha 11).trans h3
      have e15 := (ha 15).trans h7
      have e16 := (ha 16).trans h8
      clear ha h3 h7 h8
      go_simp
      have hr0 := ((Turn.refl [] w).drew.mono (T := F) (by simp)).same hR
      refine (Sg.make_any w1 base d F A hS.1 dir hdir n hn hS.2).mono ?_
      rintro e w2 (⟨hne, -⟩ | ⟨he, sb, rfl, hfr⟩)
      · exact absurd (HC.out.symm.trans HNE.out) hne
      · rw [HA2.out] at hfr
        exact hK _ _ ⟨sb, rfl, fresh_first hr0 hfr⟩ (fresh_turn hfr) (.inr trivial)
    refine Lo.late 11 rfl rfl [9] (fun x w' => ∃ sb, x = .tuple #[.pointer (some ⟨sb, 0, none⟩), .nilIface] ∧ Sg.Fresh1 w w' base d F A2 sb (Sn.nameB dir n) n) (by kernel_rfl) (fun x w w' h hR => ?_) (by kernel_rfl) (fun u w1 hR hF => ?_) ?_
    · obtain ⟨sb, e, h⟩ := h; exact ⟨sb, e, fresh_after h hR⟩
    · obtain ⟨h9, -⟩ := hF
      refine ⟨rfl, fun a ha K hK => ?_⟩
      have e17 : a.tmps.getD 17 undef = u 9 := ha 17
      have h9 := (show (fun x w' => ∃ sb, x = .tuple #[.pointer (some ⟨sb, 0, none⟩), .nilIface] ∧ Sg.Fresh1 w w' base d F A2 sb (Sn.nameB dir n) n) (u 9) w1 from h9)
      dsimp only at h9
      clear ha
      obtain ⟨sb, e9, h9d⟩ := h9
      rw [e9] at e17
      go_simp
      exact hK _ _ ⟨sb, rfl, h9d⟩ (Turn.refl _ _)
    refine Lo.late 12 rfl rfl [10] (fun x w' => ∃ sb, x = .pointer (some ⟨sb, 0, none⟩) ∧ Sg.Fresh1 w w' base d F A2 sb (Sn.nameB dir n) n) (by kernel_rfl) (fun x w w' h hR => ?_) (by kernel_rfl) (fun u w1 hR hF => ?_) ?_
    · obtain ⟨sb, e, h⟩ := h; exact ⟨sb, e, fresh_after h hR⟩
    · obtain ⟨h10, -⟩ := hF
      refine ⟨rfl, fun a ha K hK => ?_⟩
      have e7 : a.tmps.getD 7 undef = u 10 := ha 7
      have h10 := (show (fun x w' => ∃ sb, x = .tuple #[.pointer (some ⟨sb, 0, none⟩), .nilIface] ∧ Sg.Fresh1 w w' base d F A2 sb (Sn.nameB dir n) n) (u 10) w1 from h10)
      dsimp only at h10
      clear ha
      obtain ⟨sb, e9, h9d⟩ := h10
      rw [e9] at e7
      go_simp
      exact hK _ _ ⟨sb, rfl, h9d⟩ (Turn.refl _ _)
    refine Lo.runv 13 rfl rfl [10] (.nilIface) (by kernel_rfl) (fun u w1 hR hF => ?_) (Turn.refl _) ?_
    · obtain ⟨h10, -⟩ := hF
      refine ⟨rfl, fun a ha K hK => ?_⟩
      have e7 : a.tmps.getD 7 undef = u 10 := ha 7
      have h10 := (show (fun x w' => ∃ sb, x = .tuple #[.pointer (some ⟨sb, 0, none⟩), .nilIface] ∧ Sg.Fresh1 w w' base d F A2 sb (Sn.nameB dir n) n) (u 10) w1 from h10)
      dsimp only at h10
      clear ha
      obtain ⟨sb, e9, h9d⟩ := h10
      rw [e9] at e7
      go_simp
      refine hK _ ?_
      rfl
    refine Lo.late 14 rfl rfl [11] (fun x w' => ∃ sb, x = .pointer (some ⟨sb, 0, none⟩) ∧ Sg.Fresh1 w w' base d F A2 sb (Sn.nameB dir n) n) (by kernel_rfl) (fun x w w' h hR => ?_) (by kernel_rfl) (fun u w1 hR hF => ?_) ?_
    · obtain ⟨sb, e, h⟩ := h; exact ⟨sb, e, fresh_after h hR⟩
    · obtain ⟨h11, -⟩ := hF
      refine ⟨rfl, fun a ha K hK => ?_⟩
      have e18 : a.tmps.getD 18 undef = u 11 := ha 18
      have h11 := (show (fun x w' => ∃ sb, x = .pointer (some ⟨sb, 0, none⟩) ∧ Sg.Fresh1 w w' base d F A2 sb (Sn.nameB dir n) n) (u 11) w1 from h11)
      dsimp only at h11
      clear ha
      go_simp
      exact hK _ _ h11 (Turn.refl _ _)
    refine Lo.done [12, 13] (fun u w1 hRd hSd hF => ?_)
    have hSd := (show (fun w' => Sn.TabT w' ∨ True) w1 from hSd)
    dsimp only at hSd
    obtain ⟨f12, f13, -⟩ := hF
    have d12 : u 12 = _ := f12
    have d13 := (show (fun x w' => ∃ sb, x = .pointer (some ⟨sb, 0, none⟩) ∧ Sg.Fresh1 w w' base d F A2 sb (Sn.nameB dir n) n) (u 13) w1 from f13)
    dsimp only at d13
    clear f12 f13
    simp only [List.take_succ_cons, List.take_zero, List.drop_succ_cons, List.drop_zero, putFrom, Act.put, List.setIfInBounds_toArray, List.set_cons_succ, List.set_cons_zero, Nat.zero_add, Nat.reduceAdd, d12]
    obtain ⟨sb, e13, F2, hb2, ht2, hf2, hs2⟩ := d13
    rw [e13]
    clear d12 e13 hRd hSd
    have hs0 : LogAt w1 base d F2 A2 lb (.slice ga ms.length gc) dir v ms := ⟨hb2.disk, ht2.heap H.out.box H.out.lb_F, H.out.row.kept ht2 H.out.gv_F, H.out.low, fun m hm => (H.out.segs m hm).kept ht2 (seg_F H.out.disk (H.out.segs m hm)), H.out.apart⟩
    have hap : ∀ x ∈ ms, ∀ k ∈ x.foot, k ∉ sfoot sb (.slice none 0 0) := fun x hx k hk hm => by
      simp only [sfoot, Value.ownBlock, List.mem_cons, Option.mem_toList] at hm
      rcases hm with rfl | hm
      · have := ((H.out.segs x hx).lt k hk).2; omega
      · simp at hm
    have HF2 := hide hf2
    have HS2 := hide hs2
    have HT02 := hide ht2
    have c3 := hs0.c3
    have z2 := lt_of_heap hs0.box
    have h23 : Turn [] w1 (w1.alloc (.cells #[.pointer (some ⟨sb, 0, none⟩)] 73)) := (Turn.refl [] w1).alloc _
    obtain ⟨v7, w7, hr7, hrow7, ht7, hown7⟩ := app_sm (w1.alloc (.cells #[.pointer (some ⟨sb, 0, none⟩)] 73)) base (.slice ga ms.length gc) ms ⟨sb, .slice none 0 0, n, []⟩ w1.heap.size (hs0.row.still h23) (heap_new w1 _) hl (by have := (hs0.lt _ (mem_lfoot.2 (.inl rfl))).1; have := h23.size; omega)
    obtain ⟨va7, vc7, hv7, -, -⟩ := hrow7.form
    subst hv7
    have hgr := (hs0.still h23).grow (m := ⟨sb, .slice none 0 0, n, []⟩) ht7 hrow7 ((hb2.still h23).seg) hap
    have hfr := (hs0.still h23).fr 3
    have hbx7 := ht7.heap (hs0.still h23).box (by simpa using (hs0.still h23).lb_gv)
    have fr7 := frozen_of hbx7 3
    have c37 : w7.cell? ⟨lb, 3, none⟩ = some (.slice ga ms.length gc) := by rw [cell_of hbx7]; rfl
    have z7 := lt_of_heap hbx7
    have hlen7 : (ms ++ [(⟨sb, .slice none 0 0, n, []⟩ : SM)]).length = ms.length + 1 := by rw [List.length_append, List.length_singleton]
    rw [hlen7] at hgr hr7 hrow7 hown7
    clear hlen7
    have HR7 := hide hr7
    have HGR := hide hgr
    have HT7 := hide ht7
    have HOWN7 := hide hown7
    have H23 := hide h23
    clear hb2 hf2 hs2 ht2 hs0 hap h23 hr7 hrow7 ht7 hown7 hgr hbx7 hfr
    go_wp2_with (at_builtin; go_must (refine wpList_append_told rfl rfl rfl rfl HR7.out ?_))
    go_ret
    unfold beginS
    simp only
    rw [← HC.out, HA2.out, HNE.out, if_pos rfl]
    refine ⟨rfl, F2, _, _, HGR.out, by simp [SM.abs], ?_, fun k hk => ?_⟩
    · have h1 : Turn (lfoot F lb (.slice ga ms.length gc) ms) w w1 := HT02.out.mono (fun k hk => .inl (mem_lfoot.2 (.inr (.inr (.inr hk)))))
      have h2 := (h1.same (H23.out.mono (by simp))).same (HT7.out.mono (T := lfoot F lb (.slice ga ms.length gc) ms) (fun k hk => .inl (mem_lfoot.2 (.inr (.inl (by simpa using hk))))))
      exact h2.setCell (.inl (mem_lfoot.2 (.inl rfl))) _
    · have hw1 := HT02.out.size
      rcases mem_lfoot.1 hk with h1 | h1 | ⟨x, hx, h1⟩ | h1
      · exact .inl (mem_lfoot.2 (.inl h1))
      · rcases HOWN7.out k h1 with h2 | h2
        · exact .inl (mem_lfoot.2 (.inr (.inl h2)))
        · exact .inr (by have := H23.out.size; omega)
      · rcases List.mem_append.1 hx with hx | hx
        · exact .inl (mem_lfoot.2 (.inr (.inr (.inl ⟨x, hx, h1⟩))))
        · obtain rfl := List.mem_singleton.1 hx
          simp only [SM.foot, sfoot, Value.ownBlock, List.mem_cons, Option.mem_toList] at h1
          rcases h1 with rfl | h1
          · exact .inr (by have := HS2.out; omega)
          · simp at h1
      · rcases HF2.out k h1 with h2 | h2
        · exact .inl (mem_lfoot.2 (.inr (.inr (.inr h2))))
        · exact .inr h2
end Go.Proofs.YtmdmdbobbepogaaGreatDoor.Lg

/- errors.As at an Errno target, api.Tell, plain.Bare: what they answer of a bare Errno and of nil. -/
namespace Go.Proofs.YtmdmdbobbepogaaGreatDoor.As
open Go.RowKit Go.Extern.Stop Go.Stop Go.Extern
set_option linter.unusedSimpArgs false
set_option linter.unusedVariables false

/-! ### what the model's entries answer at these types -/
theorem valueOfP (t : Addr) (w : World) : (ReflectliteValue.unpack (.iface 126 (.pointer (some t)))).run Tryz.prog w
    = .ok (.agg #[.pointer (some ⟨7, 126, none⟩), .pointer (some ⟨w.heap.size, 0, none⟩), .int .u64 150]) (w.alloc (.cells #[.pointer (some t)] 126)) := by kernel_rfl
theorem typeP (a : Addr) (w : World) : (ReflectliteValue.methodAny (ReflectliteValue.valueError "reflectlite.Value.Type" 0) (fun t _ _ _ => ReflectliteType.toType t) #[.agg #[.pointer (some ⟨7, 126, none⟩), .pointer (some a), .int .u64 150]]).run Tryz.prog w
    = .ok (.iface 180 (.agg #[.pointer (some ⟨7, 126, none⟩)])) w := by kernel_rfl
theorem kindP (w : World) : ((ReflectliteType.abiMethod fun t => (fun a : Nat => Value.int IntKind.u8 (a : Int)) <$> Rtype.kind t) #[.pointer (some ⟨7, 126, none⟩)]).run Tryz.prog w = .ok (.int .u8 22) w := by kernel_rfl
theorem kindE (w : World) : ((ReflectliteType.abiMethod fun t => (fun a : Nat => Value.int IntKind.u8 (a : Int)) <$> Rtype.kind t) #[.pointer (some ⟨7, 62, none⟩)]).run Tryz.prog w = .ok (.int .u8 2) w := by kernel_rfl
theorem rlm (z : Sem Value) (f : TypeId → Addr → Nat → Nat → Sem Value) (v : Value) :
    ReflectliteValue.method z f #[v] = (do match ← ReflectliteValue.parts v with | none => z | some (t, a, fl) => f t a fl (fl % 32)) := rfl
theorem partsP (a : Addr) (w : World) : (ReflectliteValue.parts (.agg #[.pointer (some ⟨7, 126, none⟩), .pointer (some a), .int .u64 150])).run Tryz.prog w = .ok (some (126, a, 150)) w := by kernel_rfl
theorem isNilP (a p : Addr) (W : World) (ha : W.cell? a = some (.pointer (some p))) :
    (ReflectliteValue.method (ReflectliteValue.valueError "reflectlite.Value.IsNil" 0) ReflectliteValue.isNil #[.agg #[.pointer (some ⟨7, 126, none⟩), .pointer (some a), .int .u64 150]]).run Tryz.prog W = .ok (.bool false) W := by
  rw [rlm]
  simp only [Sem.run_bind, partsP, Result.andThen]
  simp [ReflectliteValue.isNil, loadVar, isAgg, underlying, Tryz.underlying126, ha, Result.andThen]
theorem elemP (w : World) : (ReflectliteType.method ReflectliteType.elem #[.agg #[.pointer (some ⟨7, 126, none⟩)]]).run Tryz.prog w = .ok (.iface 180 (.agg #[.pointer (some ⟨7, 62, none⟩)])) w := by kernel_rfl
theorem implementsE (w : World) : (ReflectliteType.relation "Implements" ReflectliteType.implements_ #[.agg #[.pointer (some ⟨7, 62, none⟩)], .iface 180 (.agg #[.pointer (some ⟨7, 25, none⟩)])]).run Tryz.prog w = .ok (.bool true) w := by kernel_rfl
theorem typeOfE (v : Value) (w : World) : (ReflectliteType.typeOf #[.iface 62 v]).run Tryz.prog w = .ok (.iface 180 (.agg #[.pointer (some ⟨7, 62, none⟩)])) w := by kernel_rfl
theorem assignableE (w : World) : (ReflectliteType.relation "AssignableTo" ReflectliteType.assignableTo #[.agg #[.pointer (some ⟨7, 62, none⟩)], .iface 180 (.agg #[.pointer (some ⟨7, 62, none⟩)])]).run Tryz.prog w = .ok (.bool true) w := by kernel_rfl
theorem valueOfE (n : Int) (w : World) : (ReflectliteValue.unpack (.iface 62 (.int .i64 n))).run Tryz.prog w
    = .ok (.agg #[.pointer (some ⟨7, 62, none⟩), .pointer (some ⟨w.heap.size, 0, none⟩), .int .u64 130]) (w.alloc (.cells #[.int .i64 n] 62)) := by kernel_rfl
theorem elemOfP (w : World) : (Rtype.elem? 126).run Tryz.prog w = .ok (some 62) w := by kernel_rfl
theorem mkE (p : Addr) (w : World) : (ReflectliteValue.mk 62 p ReflectliteValue.flagAddr).run Tryz.prog w = .ok (.agg #[.pointer (some ⟨7, 62, none⟩), .pointer (some p), .int .u64 386]) w := by kernel_rfl
theorem elemV (a p : Addr) (W : World) (ha : W.cell? a = some (.pointer (some p))) :
    (ReflectliteValue.method (ReflectliteValue.valueError "reflectlite.Value.Elem" 0) ReflectliteValue.elem #[.agg #[.pointer (some ⟨7, 126, none⟩), .pointer (some a), .int .u64 150]]).run Tryz.prog W
      = .ok (.agg #[.pointer (some ⟨7, 62, none⟩), .pointer (some p), .int .u64 386]) W := by
  rw [rlm]
  simp only [Sem.run_bind, partsP, Result.andThen]
  simp [ReflectliteValue.elem, loadVar, isAgg, underlying, Tryz.underlying126, ha, Result.andThen, elemOfP, mkE]
theorem partsA (a : Addr) (w : World) : (ReflectliteValue.parts (.agg #[.pointer (some ⟨7, 62, none⟩), .pointer (some a), .int .u64 386])).run Tryz.prog w = .ok (some (62, a, 386)) w := by kernel_rfl
theorem partsE (a : Addr) (w : World) : (ReflectliteValue.parts (.agg #[.pointer (some ⟨7, 62, none⟩), .pointer (some a), .int .u64 130])).run Tryz.prog w = .ok (some (62, a, 130)) w := by kernel_rfl
theorem directE (w : World) : (Rtype.directlyAssignable 62 62).run Tryz.prog w = .ok true w := by kernel_rfl
theorem sizeE (w : World) : (sizeOf 62).run Tryz.prog w = .ok 1 w := by kernel_rfl
theorem rls (v x : Value) : ∃ (f1 : Sem Value) (f2 : Sem Value) (g : TypeId → Nat → TypeId → Value → Addr → Sem Value), ReflectliteValue.set #[v, x] = (do
    let (some (dst, a, fl), some (src, b, _)) := (← ReflectliteValue.parts v, ← ReflectliteValue.parts x) | f1
    if fl / ReflectliteValue.flagAddr % 2 == 0 then f2
    else
      let val ← loadVar src b
      if ← Rtype.directlyAssignable dst src then do
        storeVar dst a val
        pure (.tuple #[])
      else g dst fl src val a) := ⟨_, _, _, rfl⟩
theorem setE (ta b : Addr) (n : Int) (old : Value) (W : World) (hb : W.cell? b = some (.int .i64 n)) (ht : W.cell? ta = some old) (hf : W.frozen? ta = false) :
    (ReflectliteValue.set #[.agg #[.pointer (some ⟨7, 62, none⟩), .pointer (some ta), .int .u64 386], .agg #[.pointer (some ⟨7, 62, none⟩), .pointer (some b), .int .u64 130]]).run Tryz.prog W
      = .ok (.tuple #[]) (W.setCell ta (.int .i64 n)) := by
  obtain ⟨f1, f2, g, hs⟩ := rls (.agg #[.pointer (some ⟨7, 62, none⟩), .pointer (some ta), .int .u64 386]) (.agg #[.pointer (some ⟨7, 62, none⟩), .pointer (some b), .int .u64 130])
  rw [hs]
  simp only [Sem.run_bind, partsA, partsE, Result.andThen]
  simp [ReflectliteValue.flagAddr, loadVar, isAgg, underlying, Tryz.underlying62, hb, Result.andThen, directE, storeVar, Value.cells, storeCells, Addr.add]
  rw [run_store Tryz.prog W ta _ _ (by rfl)]
  simp [ht, hf]
theorem methodKind (h : Value) (w : World) : (Go.method 401 180 (.agg #[h]) "Kind").run Tryz.prog w = .ok (232, h) w := by kernel_rfl
theorem methodElem (h : Value) (w : World) : (Go.method 401 180 (.agg #[h]) "Elem").run Tryz.prog w = .ok (242, .agg #[h]) w := by kernel_rfl
theorem methodImplements (h : Value) (w : World) : (Go.method 401 180 (.agg #[h]) "Implements").run Tryz.prog w = .ok (243, .agg #[h]) w := by kernel_rfl
theorem methodAssignableTo (h : Value) (w : World) : (Go.method 401 180 (.agg #[h]) "AssignableTo").run Tryz.prog w = .ok (240, .agg #[h]) w := by kernel_rfl

theorem as_nil (t : Value) (w : World) :
    Calls Tryz.prog 74 #[.nilIface, t] w fun e w' => e = .returned (.bool false) ∧ w' = w := by
  go_enter Tryz.func74, Tryz.ntmps74
  go_wp2
  go_ret
  exact ⟨rfl, rfl⟩

set_option maxRecDepth 100000 in
set_option maxHeartbeats 4000000 in
theorem as_hit (n : Int) (t : Addr) (old : Value) (w : World) (hg : w.cell? ⟨0, 0, none⟩ = some (.iface 180 (.agg #[.pointer (some ⟨7, 25, none⟩)]))) (ht0 : w.cell? t = some old) (hf0 : w.frozen? t = false) :
    Calls Tryz.prog 74 #[.iface 62 (.int .i64 n), .iface 126 (.pointer (some t))] w fun ev w' => ev = .returned (.bool true) ∧ w' = ((((w.alloc (.cells #[.pointer (some t)] 126)).alloc (.cells #[.pointer (some ⟨7, 126, none⟩), .pointer (some ⟨w.heap.size, 0, none⟩), .int .u64 150] 153)).alloc (.cells #[.pointer (some ⟨7, 126, none⟩), .pointer (some ⟨w.heap.size, 0, none⟩), .int .u64 150] 153)).alloc (.cells #[.int .i64 n] 62)).setCell t (.int .i64 n) := by
  have h6 := @run_callFunc_extern Tryz.prog 102 _ (fun args => ReflectliteValue.unpack (args.getD 0 (.tuple #[]))) Tryz.func102 (by kernel_rfl) (by kernel_rfl) (by kernel_rfl) (by kernel_rfl)
  have h7 := @run_callFunc_extern Tryz.prog 103 _ (ReflectliteValue.methodAny (ReflectliteValue.valueError "reflectlite.Value.Type" 0) (fun t _ _ _ => ReflectliteType.toType t)) Tryz.func103 (by kernel_rfl) (by kernel_rfl) (by kernel_rfl) (by kernel_rfl)
  have h8 := @run_callFunc_extern Tryz.prog 104 _ (ReflectliteValue.method (ReflectliteValue.valueError "reflectlite.Value.IsNil" 0) ReflectliteValue.isNil) Tryz.func104 (by kernel_rfl) (by kernel_rfl) (by kernel_rfl) (by kernel_rfl)
  have h27 := @run_callFunc_extern Tryz.prog 232 _ (ReflectliteType.abiMethod fun t => do pure (.int .u8 (← Rtype.kind t))) Tryz.func232 (by kernel_rfl) (by kernel_rfl) (by kernel_rfl) (by kernel_rfl)
  have h37 := @run_callFunc_extern Tryz.prog 242 _ (ReflectliteType.method ReflectliteType.elem) Tryz.func242 (by kernel_rfl) (by kernel_rfl) (by kernel_rfl) (by kernel_rfl)
  have h38 := @run_callFunc_extern Tryz.prog 243 _ (ReflectliteType.relation "Implements" ReflectliteType.implements_) Tryz.func243 (by kernel_rfl) (by kernel_rfl) (by kernel_rfl) (by kernel_rfl)
  have h10 := @run_callFunc_extern Tryz.prog 132 _ ReflectliteType.typeOf Tryz.func132 (by kernel_rfl) (by kernel_rfl) (by kernel_rfl) (by kernel_rfl)
  have h35 := @run_callFunc_extern Tryz.prog 240 _ (ReflectliteType.relation "AssignableTo" ReflectliteType.assignableTo) Tryz.func240 (by kernel_rfl) (by kernel_rfl) (by kernel_rfl) (by kernel_rfl)
  have h11 := @run_callFunc_extern Tryz.prog 133 _ (ReflectliteValue.method (ReflectliteValue.valueError "reflectlite.Value.Elem" 0) ReflectliteValue.elem) Tryz.func133 (by kernel_rfl) (by kernel_rfl) (by kernel_rfl) (by kernel_rfl)
  have h12 := @run_callFunc_extern Tryz.prog 134 _ ReflectliteValue.set Tryz.func134 (by kernel_rfl) (by kernel_rfl) (by kernel_rfl) (by kernel_rfl)
  have tO := typeOfE
  have mA := methodAssignableTo
  have aE := assignableE
  have vE := valueOfE
  have f6 := valueOfP
  have f7 := typeP
  have mK := methodKind
  have mE := methodElem
  have mI := methodImplements
  have kP := kindP
  have kE := kindE
  have eP := elemP
  have iE := implementsE
  have n8 := isNilP ⟨w.heap.size, 0, none⟩ t ((w.alloc (.cells #[.pointer (some t)] 126)).alloc (.cells #[.pointer (some ⟨7, 126, none⟩), .pointer (some ⟨w.heap.size, 0, none⟩), .int .u64 150] 153)) (by simp)
  have hlt : 0 < w.heap.size := by
    rcases Nat.lt_or_ge 0 w.heap.size with h | h
    · exact h
    · simp [World.cell?, Array.getElem?_eq_none h] at hg
  have hg2 : ((w.alloc (.cells #[.pointer (some t)] 126)).alloc (.cells #[.pointer (some ⟨7, 126, none⟩), .pointer (some ⟨w.heap.size, 0, none⟩), .int .u64 150] 153)).cell? ⟨0, 0, none⟩ = some (.iface 180 (.agg #[.pointer (some ⟨7, 25, none⟩)])) := by
    rw [World.cell?_alloc_lt _ _ ⟨0, 0, none⟩ (by rw [World.size_alloc]; show 0 < _; omega), World.cell?_alloc_lt _ _ ⟨0, 0, none⟩ hlt]; exact hg
  have htl : t.block < w.heap.size := by
    rcases Nat.lt_or_ge t.block w.heap.size with h | h
    · exact h
    · simp [World.cell?, Array.getElem?_eq_none h] at ht0
  have el := elemV ⟨w.heap.size, 0, none⟩ t (((w.alloc (.cells #[.pointer (some t)] 126)).alloc (.cells #[.pointer (some ⟨7, 126, none⟩), .pointer (some ⟨w.heap.size, 0, none⟩), .int .u64 150] 153)).alloc (.cells #[.pointer (some ⟨7, 126, none⟩), .pointer (some ⟨w.heap.size, 0, none⟩), .int .u64 150] 153)) (by rw [World.cell?_alloc_lt _ _ ⟨w.heap.size, 0, none⟩ (by simp; omega)]; simp)
  have st := setE t ⟨w.heap.size + 1 + 1 + 1, 0, none⟩ n old ((((w.alloc (.cells #[.pointer (some t)] 126)).alloc (.cells #[.pointer (some ⟨7, 126, none⟩), .pointer (some ⟨w.heap.size, 0, none⟩), .int .u64 150] 153)).alloc (.cells #[.pointer (some ⟨7, 126, none⟩), .pointer (some ⟨w.heap.size, 0, none⟩), .int .u64 150] 153)).alloc (.cells #[.int .i64 n] 62))
    (by rw [World.cell?_alloc_at _ _ _ _ (by simp)]; rfl)
    (by rw [World.cell?_alloc_lt _ _ t (by simp; omega), World.cell?_alloc_lt _ _ t (by simp; omega), World.cell?_alloc_lt _ _ t (by simp; omega), World.cell?_alloc_lt _ _ t htl]; exact ht0)
    (by rw [World.frozen?_alloc_old _ _ t (by simp; omega), World.frozen?_alloc_old _ _ t (by simp; omega), World.frozen?_alloc_old _ _ t (by simp; omega), World.frozen?_alloc_old _ _ t (Nat.ne_of_lt htl)]; exact hf0)
  go_enter Tryz.func74, Tryz.ntmps74
  go_wp2
  refine wp_loop_rounds 1 ?_
  rw [rounds_succ]
  go_wp2
  go_ret
  exact ⟨rfl, rfl⟩
end Go.Proofs.YtmdmdbobbepogaaGreatDoor.As

/- api.Tell, plain.Bare, the law's bare: of nil, and of a bare Errno. -/
namespace Go.Proofs.YtmdmdbobbepogaaGreatDoor.As
open Go.RowKit Go.Extern.Stop Go.Stop Go.Extern
set_option maxRecDepth 100000
set_option linter.unusedSimpArgs false
set_option linter.unusedVariables false

/-- errors.errorType lies as its own initialiser laid it. -/
def ErrT (w : World) : Prop := w.cell? ⟨0, 0, none⟩ = some (.iface 180 (.agg #[.pointer (some ⟨7, 25, none⟩)]))
theorem ErrT.lt {w : World} (h : ErrT w) : 0 < w.heap.size := by
  rcases Nat.lt_or_ge 0 w.heap.size with h1 | h1
  · exact h1
  · simp [ErrT, World.cell?, Array.getElem?_eq_none h1] at h
theorem ErrT.below {w w' : World} (h : ErrT w) (hb : Below w.heap.size w w') : ErrT w' := by
  have hl := h.lt
  unfold ErrT at *
  rw [hb.cell (p := ⟨0, 0, none⟩) hl]; exact h

theorem tell_nil (w : World) : Calls Tryz.prog 50 #[.nilIface] w fun e w' => e = .returned (.int .i64 0) ∧ w = w' := by
  go_enter Tryz.func50, Tryz.ntmps50
  go_wp2
  go_ret
  exact ⟨rfl, rfl⟩

set_option maxHeartbeats 1000000 in
theorem tell_errno (n : Int) (w : World) (hg : ErrT w) : Calls Tryz.prog 50 #[.iface 62 (.int .i64 n)] w fun e w' => e = .returned (.int .i64 n) ∧ Below w.heap.size w w' := by
  have HG : Hid (ErrT w) := hg
  have hlt := hg.lt
  clear hg
  go_enter Tryz.func50, Tryz.ntmps50
  go_wp2_with fail
  refine (as_hit n ⟨w.heap.size, 0, none⟩ (.int .i64 0) _ (HG.out.below ((Below.refl _ w).alloc (Nat.le_refl _) _)) (by simp) (by simp)).mono ?_
  rintro e w' ⟨rfl, rfl⟩
  go_wp2
  go_ret
  exact ⟨rfl, (((((Below.refl _ w).alloc (Nat.le_refl _) _).alloc (by simp) _).alloc (by simp; omega) _).alloc (by simp; omega) _).alloc (by simp; omega) _⟩

theorem notUnwrap (n : Int) (w : World) : (Instr.typeAssert (.iface 62 (.int .i64 n)) 25 188 true).run Tryz.prog w = .ok (.tuple #[.nilIface, .bool false]) w := run_typeAssert_lacksB Tryz.underlying188 (by kernel_rfl) (by kernel_rfl) _ 25 w
end Go.Proofs.YtmdmdbobbepogaaGreatDoor.As

/- roll: all is safe, and a new segment begins at the end; Flush; noting. -/
namespace Go.Proofs.YtmdmdbobbepogaaGreatDoor.Lg
open Go.RowKit Go.Maps
set_option maxRecDepth 100000
set_option linter.unusedSimpArgs false
set_option linter.unusedVariables false
attribute [local go_sem] Oper.semAt_some
open Dk (DA DiskAt Parts Did errR errV)
open Sg (SegAt sfoot pls Both Came nextOf flat)

/-- roll, of what a log is whose last segment is m, and whose end is n. -/
def rollS (A : DA) (dir : ByteArray) (v : LV) (n : Nat) (m : Nat × List Bt.Bat) (ss : List (Nat × List Bt.Bat)) : Int × DA × LV × List (Nat × List Bt.Bat) :=
  if (A.sync (Sn.nameB dir m.1).data.toList).1 = 0 then
    ((beginS (A.sync (Sn.nameB dir m.1).data.toList).2 dir n ss).1, (beginS (A.sync (Sn.nameB dir m.1).data.toList).2 dir n ss).2.1, { v with safe := (n : Int) }, (beginS (A.sync (Sn.nameB dir m.1).data.toList).2 dir n ss).2.2)
  else ((A.sync (Sn.nameB dir m.1).data.toList).1, (A.sync (Sn.nameB dir m.1).data.toList).2, v, ss)
theorem LDid.turn {w w' : World} {base d : Nat} {G : List Nat} {A' : DA} {lb : Nat} {dir : ByteArray} {v' : LV} {ss' : List (Nat × List Bt.Bat)} (h : LDid w w' base d G A' lb dir v' ss') : Turn G w w' := by
  obtain ⟨F', gv', ms', hl, hm, ht2, hf⟩ := h; exact ht2
/-- One behind the other. -/
theorem LDid.then {w w1 w' : World} {base d lb : Nat} {F : List Nat} {G : List Nat} {A' : DA} {gv : Value} {dir : ByteArray} {v' : LV} {ms : List SM} {ss' : List (Nat × List Bt.Bat)} (h : LDid w1 w' base d (lfoot F lb gv ms) A' lb dir v' ss') (ht : Turn G w w1) (hf : ∀ k ∈ lfoot F lb gv ms, k ∈ G ∨ w.heap.size ≤ k) : LDid w w' base d G A' lb dir v' ss' := by
  obtain ⟨F', gv', ms', hl, hm, ht2, hf2⟩ := h
  refine ⟨F', gv', ms', hl, hm, ht.trans ht2 hf, fun k hk => ?_⟩
  rcases hf2 k hk with h | h
  · exact hf k h
  · exact .inr (Nat.le_trans ht.size h)
set_option maxHeartbeats 2000000 in
theorem roll_any (w : World) (base d : Nat) (F : List Nat) (A : DA) (lb : Nat) (gv : Value) (dir : ByteArray) (v : LV) (ms0 : List SM) (m : SM) (h : LogAt w base d F A lb gv dir v (ms0 ++ [m])) (hl : ms0.length ≤ 900000) (hx : m.xs.length ≤ 1000000) (hmn : m.n ≤ 1099511627776) (hdir : dir.size ≤ 1000) (n : Nat) (hn : n ≤ 1099511627776) (hnx : nextOf m.n m.xs = n) (hv : ∀ Z, Turn (lfoot F lb gv (ms0 ++ [m])) w Z → Sn.TabT Z) :
    Calls Tryz.prog 61 #[.pointer (some ⟨lb, 0, none⟩)] w fun e w' => e = .returned (errR (rollS A dir v n m.abs ((ms0 ++ [m]).map SM.abs)).1) ∧
      LDid w w' base d (lfoot F lb gv (ms0 ++ [m])) (rollS A dir v n m.abs ((ms0 ++ [m]).map SM.abs)).2.1 lb dir (rollS A dir v n m.abs ((ms0 ++ [m]).map SM.abs)).2.2.1 (rollS A dir v n m.abs ((ms0 ++ [m]).map SM.abs)).2.2.2 := by
  have H := hide h
  have HV := hide hv
  have hsy := sync_any w base d F A lb gv dir v ms0 m h (by omega) hx (Sg.nameB_len hmn hdir)
  rw [hnx] at hsy
  have HNX := hide hnx
  clear h hnx hv
  obtain ⟨c, hc⟩ : ∃ c, c = (A.sync (Sn.nameB dir m.n).data.toList).1 := ⟨_, rfl⟩
  obtain ⟨A2, hA2⟩ : ∃ A2, A2 = (A.sync (Sn.nameB dir m.n).data.toList).2 := ⟨_, rfl⟩
  rw [← hc, ← hA2] at hsy
  have HC := hide hc
  have HA := hide hA2
  clear hc hA2
  go_enter Tryz.func61, Tryz.ntmps61
  go_wp2_with fail
  refine hsy.mono ?_
  rintro e w2 ⟨rfl, hd2⟩
  by_cases hc0 : c = 0
  · have hr0 : errR c = .nilIface := by rw [hc0]; rfl
    have hs : safeIf c v (n : Int) = { v with safe := (n : Int) } := by unfold safeIf; rw [if_pos hc0]
    rw [hs] at hd2
    rw [hr0]
    obtain ⟨F2, gv2, ms2, hl2, hm2, ht2, hf2⟩ := hd2
    rw [List.map_append, List.map_singleton] at hm2
    obtain ⟨ms20, m2, rfl, hm20, hm2a⟩ := split_last hm2
    have hlen : ms20.length = ms0.length := by rw [← List.length_map (f := SM.abs), hm20, List.length_map]
    have e1 : m2.n = m.n := congrArg Prod.fst hm2a
    have e2 : m2.xs = m.xs := congrArg Prod.snd hm2a
    have hen := end_any w2 base d F2 A2 lb gv2 dir _ ms20 m2 hl2 (by omega) (by rw [e2]; exact hx)
    rw [e1, e2, HNX.out] at hen
    have HC0 := hide hc0
    have HEN := hide hen
    have HL2 := hide hl2
    have HM2 := hide hm2
    have HT2 := hide ht2
    have HF2 := hide hf2
    have HLEN := hide hlen
    clear hc0 hr0 hs hl2 hm2 ht2 hf2 hen hm20 hm2a hlen e1 e2 hsy
    go_wp2_with fail
    refine HEN.out.mono ?_
    rintro e w3 ⟨rfl, ht3⟩
    have hb := begin_any w3 base d F2 A2 lb gv2 dir _ (ms20 ++ [m2]) (HL2.out.still ht3) (by rw [List.length_append, List.length_singleton, HLEN.out]; omega) hdir n hn (HV.out w3 (HT2.out.same (ht3.mono (by simp))))
    rw [show (ms20 ++ [m2]).map SM.abs = (ms0 ++ [m]).map SM.abs by rw [List.map_append, List.map_append, List.map_singleton, List.map_singleton, ← HM2.out, List.map_append, List.map_singleton]] at hb
    have HB := hide hb
    have HT3 := hide ht3
    clear hb ht3 HEN
    go_wp2_with fail
    refine HB.out.mono ?_
    rintro e w4 ⟨rfl, hd4⟩
    obtain ⟨r, hr⟩ : ∃ r, r = errR (beginS A2 dir n ((ms0 ++ [m]).map SM.abs)).1 := ⟨_, rfl⟩
    rw [← hr]
    have HR := hide hr
    have HD := hide (hd4.then (HT2.out.same (HT3.out.mono (by simp))) HF2.out)
    clear hr hd4 HB
    go_wp2
    go_ret
    unfold rollS SM.abs
    simp only
    rw [← HC.out, ← HA.out, if_pos HC0.out]
    simp only
    exact ⟨by rw [HR.out]; rfl, HD.out⟩
  · have hr0 : errR c = .iface 62 (.int .i64 c) := by unfold errR; rw [if_neg hc0]; rfl
    have hs : safeIf c v (n : Int) = v := by unfold safeIf; rw [if_neg hc0]
    rw [hs] at hd2
    rw [hr0]
    have HC0 := hide hc0
    have HR0 := hide hr0
    have HD := hide hd2
    clear hc0 hr0 hs hd2 hsy
    go_wp2
    go_ret
    unfold rollS SM.abs
    simp only
    rw [← HC.out, ← HA.out, if_neg HC0.out]
    simp only
    exact ⟨by rw [HR0.out]; rfl, HD.out⟩
end Go.Proofs.YtmdmdbobbepogaaGreatDoor.Lg

/- plog.batch: records that stand from an offset on, whatever they tell of their own. -/
namespace Go.Proofs.YtmdmdbobbepogaaGreatDoor
open Go.RowKit Go.Maps
set_option maxRecDepth 100000
set_option linter.unusedSimpArgs false
set_option linter.unusedVariables false
attribute [local go_sem] Oper.semAt_some

/-- The first k are numbered. -/
def mix (b : Int) (rs : List Bt.Rec) (k : Nat) : List Bt.Rec := renum b (rs.take k) ++ rs.drop k
theorem mix_zero (b : Int) (rs : List Bt.Rec) : mix b rs 0 = rs := by simp [mix, renum]
theorem mix_all (b : Int) (rs : List Bt.Rec) : mix b rs rs.length = renum b rs := by simp [mix]
theorem mix_len (b : Int) (rs : List Bt.Rec) {k : Nat} (hk : k ≤ rs.length) : (mix b rs k).length = rs.length := by
  unfold mix
  rw [List.length_append, renum_len, List.length_take, List.length_drop]; omega
theorem mix_at (b : Int) (rs : List Bt.Rec) {k : Nat} (hk : k < rs.length) : (mix b rs k)[k]'(by rw [mix_len b rs (by omega)]; exact hk) = rs[k] := by
  have hl : (renum b (rs.take k)).length = k := by rw [renum_len, List.length_take]; omega
  have h : (mix b rs k)[k]? = some rs[k] := by
    unfold mix
    rw [List.getElem?_append_right (by omega), hl, Nat.sub_self, List.getElem?_drop, Nat.add_zero, List.getElem?_eq_getElem hk]
  rw [List.getElem?_eq_getElem (by rw [mix_len b rs (by omega)]; exact hk)] at h
  exact Option.some.inj h
theorem mix_set (b : Int) (rs : List Bt.Rec) {k : Nat} (hk : k < rs.length) : (mix b rs k).set k { rs[k] with off := b + k } = mix b rs (k + 1) := by
  have hl : (renum b (rs.take k)).length = k := by rw [renum_len, List.length_take]; omega
  unfold mix
  rw [List.set_append_right _ _ (by omega), hl, Nat.sub_self, List.drop_eq_getElem_cons hk, List.set_cons_zero, renum_snoc b rs hk, List.append_assoc, List.singleton_append]
set_option maxHeartbeats 4000000 in
theorem lbatch_any (w : World) (b : Int) (v : Value) (rs : List Bt.Rec) (h : RecsAt w v rs) (hb : 0 ≤ b) (hb2 : b ≤ 1099511627776) (hl : rs.length ≤ 1000000) :
    Calls Tryz.prog 30 #[.int .i64 b, v] w fun e w' => ∃ sv, e = .returned (.agg #[.int .i64 b, .int .i64 (b + rs.length), sv]) ∧ GRow 37 6 recC w' w.heap.size sv (renum b rs) ∧ Turn [] w w' := by
  have H := hide h
  clear h
  go_enter Tryz.func30, Tryz.ntmps30
  go_wp2_with fail
  obtain ⟨w0, hw0⟩ : ∃ w0, w0 = w.alloc (.cells #[.int .i64 0, .int .i64 0, .slice none 0 0] 76) := ⟨_, rfl⟩
  have ht0 : Turn [] w w0 := by rw [hw0]; exact (Turn.refl [] w).alloc _
  have hX0 : w0.heap[w.heap.size]? = some (.cells #[.int .i64 0, .int .i64 0, .slice none 0 0] 76 (0, 0)) := by rw [hw0]; exact heap_new w _
  have hs0 : w0.heap.size = w.heap.size + 1 := by rw [hw0, World.size_alloc]
  rw [← hw0]
  refine (clone_rec w0 v rs (H.out.still ht0) hl).mono ?_
  rintro e w1 ⟨sv, rfl, hrow, ht1⟩
  obtain ⟨sa, sc, rfl, hslc, hscm⟩ := hrow.form
  have hX1 := ht1.heap hX0 (by simp)
  have hst : GRow 37 6 recC w1 (w.heap.size + 1) (.slice sa rs.length sc) (mix b rs 0) ∧ w1.heap[w.heap.size]? = some (.cells #[.int .i64 0, .int .i64 0, .slice none 0 0] 76 (0, 0)) ∧ Turn [] w w1 := by
    rw [mix_zero, ← hs0]
    exact ⟨hrow, hX1, ht0.same ht1⟩
  have hmx : maxLen = 9223372036854775807 := by simp [maxLen]
  rw [hmx] at hscm
  have HST := hide hst
  clear hw0 ht0 hX0 hs0 hrow ht1 hX1 hst
  go_wp2
  go_loopw [10] (fun kv wr => ∃ k : Nat, k ≤ rs.length ∧ kv = .int .i64 k ∧ GRow 37 6 recC wr (w.heap.size + 1) (.slice sa rs.length sc) (mix b rs k) ∧ wr.heap[w.heap.size]? = some (.cells #[.int .i64 0, .int .i64 0, .slice none 0 0] 76 (0, 0)) ∧ Turn [] w wr) (fun kv _ => rs.length - (intOf kv).toNat)
  case atStart => exact ⟨0, Nat.zero_le _, rfl, HST.out⟩
  case round =>
    obtain ⟨k, hk, rfl, hrow, hX, htw⟩ := hrel
    have HROW := hide hrow
    have HX := hide hX
    have HTW := hide htw
    clear hrow hX htw
    by_cases hlt : k < rs.length
    · obtain ⟨g, cap, e, hc, hfz⟩ := HROW.out.at recC_len (j := k) (by rw [mix_len b rs hk]; exact hlt)
      rw [mix_len b rs hk] at e
      simp only [Value.slice.injEq, true_and] at e
      obtain ⟨rfl, rfl⟩ := e
      have c0 : wr.cell? ⟨g, k * 6, none⟩ = some (.int .i64 (rs[k]).off) := by
        have := hc 0 (by omega)
        rw [mix_at b rs hlt] at this
        simpa [recC] using this
      have f0 := hfz (k * 6)
      have hg := HROW.out.lt g (by simp [Value.ownBlock])
      have z1 := hg.2
      have hset := HROW.out.set recC_len (j := k) (i := 0) (by rw [mix_len b rs hk]; exact hlt) (by omega) (u := .int .i64 (b + k)) (x' := { rs[k] with off := b + k }) (by rw [mix_at b rs hlt]; rfl)
      rw [mix_set b rs hlt, Nat.add_zero] at hset
      have hts : Turn [g] wr (wr.setCell ⟨g, k * 6, none⟩ (.int .i64 (b + k))) := (Turn.refl _ _).setCell (.inl (by simp)) _
      have hX2 := hts.heap HX.out (by simp; omega)
      have ht2 := HTW.out.trans hts (fun j hj => .inr (by simp at hj; omega))
      have HSET := hide hset
      have HX2 := hide hX2
      have HT2 := hide ht2
      clear hset hts hX2 ht2 hc hfz hg
      go_wp2
      all_goals refine ⟨⟨k + 1, by omega, by go_num, HSET.out, HX2.out, HT2.out⟩, ?_⟩
      all_goals (simp only [intOf]; omega)
    · obtain rfl : k = rs.length := by omega
      have y0 : wr.cell? ⟨w.heap.size, 0, none⟩ = some (.int .i64 0) := by simpa using cell_of HX.out 0
      have y1 : wr.cell? ⟨w.heap.size, 1, none⟩ = some (.int .i64 0) := by simpa using cell_of HX.out 1
      have y2 : wr.cell? ⟨w.heap.size, 2, none⟩ = some (.slice none 0 0) := by simpa using cell_of HX.out 2
      have q0 : wr.frozen? ⟨w.heap.size, 0, none⟩ = false := frozen_of HX.out 0
      have q1 : wr.frozen? ⟨w.heap.size, 1, none⟩ = false := frozen_of HX.out 1
      have q2 : wr.frozen? ⟨w.heap.size, 2, none⟩ = false := frozen_of HX.out 2
      have z1 := lt_of_heap HX.out
      go_wp2
      have hy := heap_set (heap_set (heap_set HX.out 0 (.int .i64 b)) 1 (.int .i64 (b + rs.length))) 2 (.slice sa rs.length sc)
      have ht : Turn [w.heap.size] wr (((wr.setCell ⟨w.heap.size, 0, none⟩ (.int .i64 b)).setCell ⟨w.heap.size, 1, none⟩ (.int .i64 (b + rs.length))).setCell ⟨w.heap.size, 2, none⟩ (.slice sa rs.length sc)) :=
        (((Turn.refl _ _).setCell (.inl (by simp)) _).setCell (.inl (by simp)) _).setCell (.inl (by simp)) _
      have hld := load_bat (by simpa using hy)
      refine bodyPost_ret (v := .agg #[.int .i64 b, .int .i64 (b + rs.length), .slice sa rs.length sc]) (by simp [results, Tryz.results30, asAddr, hld, Result.andThen]) rfl ⟨_, rfl, ?_, HTW.out.trans ht (fun k hk => .inr (by simp at hk; omega))⟩
      rw [← mix_all]
      exact (HROW.out.kept ht (fun k hk hm => by have := (HROW.out.lt k hk).1; simp at hm; omega)).base_le (by omega)
end Go.Proofs.YtmdmdbobbepogaaGreatDoor

/- (*plog.Log).add: a batch behind all others, in the last segment or in a new one. -/
namespace Go.Proofs.YtmdmdbobbepogaaGreatDoor.Lg
open Go.RowKit Go.Maps
set_option maxRecDepth 100000
set_option linter.unusedSimpArgs false
set_option linter.unusedVariables false
attribute [local go_sem] Oper.semAt_some
open Dk (DA DiskAt Parts Did errR errV)
open Sg (SegAt sfoot pls Both Came nextOf flat)

/-- A batch put into the last segment. -/
def putS (A : DA) (dir : ByteArray) (v : LV) (ss0 : List (Nat × List Bt.Bat)) (m : Nat × List Bt.Bat) (x : Bt.Bat) : Int × DA × LV × List (Nat × List Bt.Bat) :=
  ((A.add (Sn.nameB dir m.1).data.toList (Bt.encB x)).1, (A.add (Sn.nameB dir m.1).data.toList (Bt.encB x)).2, v, ss0 ++ [(m.1, if (A.add (Sn.nameB dir m.1).data.toList (Bt.encB x)).1 = 0 then m.2 ++ [x] else m.2)])
/-- add, of what a log is. -/
def addS (A : DA) (dir : ByteArray) (v : LV) (n : Nat) (ss0 : List (Nat × List Bt.Bat)) (m : Nat × List Bt.Bat) (x : Bt.Bat) : Int × DA × LV × List (Nat × List Bt.Bat) :=
  if Bt.encErr x ≠ 0 then (Bt.encErr x, A, v, ss0 ++ [m])
  else if 0 < (flat m.2).length ∧ v.most < ((flat m.2).length + (Bt.encB x).length : Nat) then
    (if (rollS A dir v n m (ss0 ++ [m])).1 ≠ 0 then rollS A dir v n m (ss0 ++ [m])
     else putS (rollS A dir v n m (ss0 ++ [m])).2.1 dir (rollS A dir v n m (ss0 ++ [m])).2.2.1 (ss0 ++ [m]) (n, []) x)
  else putS A dir v ss0 m x

theorem rollS_ok {A : DA} {dir : ByteArray} {v : LV} {n : Nat} {m : Nat × List Bt.Bat} {ss : List (Nat × List Bt.Bat)} (h : (rollS A dir v n m ss).1 = 0) : (rollS A dir v n m ss).2.2.2 = ss ++ [(n, [])] := by
  unfold rollS at h ⊢
  split at h
  · rename_i h0
    rw [if_pos h0]
    unfold beginS at h ⊢
    simp only at h ⊢
    rw [if_pos h]
  · rename_i h0
    exact absurd h h0

/-- The last segment's Add. -/
theorem seg_add (w : World) (base d : Nat) (F : List Nat) (A : DA) (lb : Nat) (gv : Value) (dir : ByteArray) (v : LV) (ms0 : List SM) (m : SM) (h : LogAt w base d F A lb gv dir v (ms0 ++ [m])) (hmn : m.n ≤ 1099511627776) (hdir : dir.size ≤ 1000) (hfl : (flat m.xs).length ≤ 1048576)
    (va : Value) (x : Bt.Bat) (hx : BatAt w (.agg #[.int .i64 x.base, .int .i64 x.fin, va]) x) (hxe : Bt.encErr x = 0) (hxb : nextOf m.n m.xs ≤ x.base) (hxs : ∀ k ∈ va.ownBlock, k < w.heap.size → k ∉ lfoot F lb gv (ms0 ++ [m])) :
    Calls Tryz.prog 62 #[.pointer (some ⟨m.sb, 0, none⟩), .agg #[.int .i64 x.base, .int .i64 x.fin, va]] w fun e w' => e = .returned (errR (putS A dir v (ms0.map SM.abs) m.abs x).1) ∧
      LDid w w' base d (lfoot F lb gv (ms0 ++ [m])) (putS A dir v (ms0.map SM.abs) m.abs x).2.1 lb dir v (putS A dir v (ms0.map SM.abs) m.abs x).2.2.2 := by
  have hlen := Sg.flat_len m.xs
  refine (Sg.add_any w base d F A m.sb m.sv (Sn.nameB dir m.n) m.n _ (h.both (by simp)) (Sg.nameB_len hmn hdir) (by rw [Sg.pls_len]; omega) (by rw [Sg.sizeP_pls]; omega) va x hx (fun k hk hlt => ⟨fun hm => hxs k hk hlt (mem_lfoot.2 (.inr (.inr (.inr hm)))), fun hm => hxs k hk hlt (mem_lfoot.2 (.inr (.inr (.inl ⟨m, by simp, hm⟩))))⟩)).mono ?_
  rintro e w' (⟨h1, -, -⟩ | ⟨-, h1, -, -⟩ | ⟨-, -, rfl, hc⟩)
  · exact absurd hxe h1
  · rw [Sg.nextP_pls] at h1; omega
  · refine ⟨rfl, ?_⟩
    unfold putS SM.abs
    simp only
    unfold Sg.psIf at hc
    rw [Sg.plOf_pls] at hc
    have hm0 : ms0.map (fun m => (m.n, m.xs)) = ms0.map SM.abs := rfl
    split
    · rename_i h0
      rw [if_pos h0] at hc
      exact h.came hc
    · rename_i h0
      rw [if_neg h0] at hc
      exact h.came hc
set_option maxHeartbeats 4000000 in
theorem ladd_any (w : World) (base d : Nat) (F : List Nat) (A : DA) (lb : Nat) (gv : Value) (dir : ByteArray) (v : LV) (ms0 : List SM) (m : SM) (h : LogAt w base d F A lb gv dir v (ms0 ++ [m])) (hl : ms0.length ≤ 900000) (hmn : m.n ≤ 1099511627776) (hdir : dir.size ≤ 1000) (hfl : (flat m.xs).length ≤ 1048576) (hmo : v.most ≤ 1048576 ∧ 0 ≤ v.most)
    (n : Nat) (hn : n ≤ 1099511627776) (hnx : nextOf m.n m.xs = n) (hv : ∀ Z, Turn (lfoot F lb gv (ms0 ++ [m])) w Z → Sn.TabT Z)
    (va : Option Addr) (vn vc : Nat) (x : Bt.Bat) (hx : BatAt w (.agg #[.int .i64 x.base, .int .i64 x.fin, .slice va vn vc]) x) (hxb : x.base = n) (hxs : ∀ k ∈ (Value.slice va vn vc).ownBlock, k < w.heap.size ∧ k ∉ lfoot F lb gv (ms0 ++ [m])) :
    Calls Tryz.prog 31 #[.pointer (some ⟨lb, 0, none⟩), .agg #[.int .i64 x.base, .int .i64 x.fin, .slice va vn vc]] w fun e w' => e = .returned (errR (addS A dir v n (ms0.map SM.abs) m.abs x).1) ∧
      LDid w w' base d (lfoot F lb gv (ms0 ++ [m])) (addS A dir v n (ms0.map SM.abs) m.abs x).2.1 lb dir (addS A dir v n (ms0.map SM.abs) m.abs x).2.2.1 (addS A dir v n (ms0.map SM.abs) m.abs x).2.2.2 := by
  have hlen := Sg.flat_len m.xs
  have H := hide h
  have HV := hide hv
  have HXS := hide hxs
  have HNX := hide hnx
  have HXB := hide hxb
  have HBX := hide hx
  have hlb := lt_of_heap h.box
  obtain ⟨sv0, hsv0, hr, b1, b2, f1, f2⟩ := hx
  simp only [Value.agg.injEq, Array.mk.injEq, List.cons.injEq, Value.int.injEq, true_and, and_true] at hsv0
  subst hsv0
  have HREC := hide hr
  obtain ⟨z, hz⟩ : ∃ z, z = (flat m.xs).length := ⟨_, rfl⟩
  have hzl : z ≤ 1048576 := by omega
  have HZ := hide hz
  clear h hnx hv hxs hxb hr hz
  go_enter Tryz.func31, Tryz.ntmps31
  go_wp2_with fail
  obtain ⟨w0, hw0⟩ : ∃ w0, w0 = w.alloc (.cells #[.int .i64 x.base, .int .i64 x.fin, .slice va vn vc] 76) := ⟨_, rfl⟩
  have ht0 : Turn [] w w0 := by rw [hw0]; exact (Turn.refl [] w).alloc _
  have hX0 : w0.heap[w.heap.size]? = some (.cells #[.int .i64 x.base, .int .i64 x.fin, .slice va vn vc] 76 (0, 0)) := by rw [hw0]; exact heap_new w _
  have hs0 : w0.heap.size = w.heap.size + 1 := by rw [hw0, World.size_alloc]
  rw [← hw0]
  refine (enc_any w0 _ x ⟨_, rfl, HREC.out.still ht0, b1, b2, f1, f2⟩).mono ?_
  rintro e wa ⟨vb, rfl, hta, hrowa⟩
  have HTA := hide (ht0.same hta)
  have HXA := hide (hta.heap hX0 (by simp))
  have HROWA := hide hrowa
  have HRECA := hide (HREC.out.still (ht0.same hta))
  clear hw0 ht0 hX0 hs0 hta hrowa
  by_cases he : Bt.encErr x = 0
  · have hee : As.errN (Bt.encErr x) = .nilIface := by rw [he]; rfl
    rw [hee]
    have hrow := HROWA.out
    unfold encR at hrow
    rw [if_pos he] at hrow
    obtain ⟨ba, bc, hvb, hblc, hbcm⟩ := hrow.form
    subst hvb
    have hel : (Bt.encB x).length ≤ 6000 := by have := (Bt.encErr_ok he).2; rw [Bt.encB_len]; exact this
    have HXE := hide he
    clear he hee hrow HROWA hblc hbcm
    go_wp2_with fail
    refine (last_any _ base d F A lb gv dir v ms0 m (H.out.still HTA.out) (by omega)).mono ?_
    rintro e wb ⟨rfl, htb⟩
    have HTB := hide (HTA.out.same htb)
    have HXb := hide (htb.heap HXA.out (by simp))
    have HRECB := hide (HRECA.out.still htb)
    clear htb
    go_wp2_with fail
    refine (Sg.size_any _ base d m.sb m.sv _ m.n _ ((H.out.segs m (by simp)).still HTB.out) (by rw [Sg.pls_len]; omega) (by rw [Sg.sizeP_pls]; omega)).mono ?_
    rintro e wc ⟨rfl, htc⟩
    rw [Sg.sizeP_pls, ← HZ.out]
    have HTC := hide (HTB.out.same htc)
    have HXC := hide (htc.heap HXb.out (by simp))
    have HRECC := hide (HRECB.out.still htc)
    have HLC := hide (H.out.still (HTB.out.same htc))
    have c2 := HLC.out.c2
    have hlc := lt_of_heap HLC.out.box
    clear htc
    by_cases hz0 : 0 < (z : Int)
    · by_cases hgt : v.most < (z : Int) + (Bt.encB x).length
      · go_wp2_with fail
        have hro := roll_any wc base d F A lb gv dir v ms0 m HLC.out hl (by omega) hmn hdir n hn HNX.out (fun Z hZ => HV.out Z ((HTC.out.mono (T := lfoot F lb gv (ms0 ++ [m])) (by simp)).same hZ))
        obtain ⟨ss, hss⟩ : ∃ ss, ss = (ms0 ++ [m]).map SM.abs := ⟨_, rfl⟩
        rw [← hss] at hro
        have hss' : ss = ms0.map SM.abs ++ [m.abs] := by rw [hss, List.map_append, List.map_singleton]
        have HSS := hide hss'
        have HRO := hide hro
        have hlt : ∀ k ∈ lfoot F lb gv (ms0 ++ [m]), k < w.heap.size := fun k hk => (H.out.lt k hk).2
        have HLT := hide hlt
        clear hro hss hss' hlt
        go_wp2_with fail
        refine HRO.out.mono ?_
        rintro e wd ⟨rfl, hd⟩
        obtain ⟨c, hc⟩ : ∃ c, c = (rollS A dir v n m.abs ss).1 := ⟨_, rfl⟩
        rw [← hc]
        have HC := hide hc
        by_cases hc0 : c = 0
        · have hr0 : errR c = .nilIface := by rw [hc0]; rfl
          rw [hr0]
          have hok := rollS_ok (A := A) (dir := dir) (v := v) (n := n) (m := m.abs) (ss := ss) (by rw [← hc]; exact hc0)
          obtain ⟨A2, hA2⟩ : ∃ A2, A2 = (rollS A dir v n m.abs ss).2.1 := ⟨_, rfl⟩
          obtain ⟨v2, hv2⟩ : ∃ v2, v2 = (rollS A dir v n m.abs ss).2.2.1 := ⟨_, rfl⟩
          rw [hok, ← hA2, ← hv2] at hd
          obtain ⟨F2, gv2, ms2, hl2, hm2, ht2, hf2⟩ := hd
          obtain ⟨ms20, m2, rfl, hm20, hm2a⟩ := split_last hm2
          have hmn2 : m2.n = n := congrArg Prod.fst hm2a
          have hmx2 : m2.xs = [] := congrArg Prod.snd hm2a
          have hlen2 : ms20.length = ms0.length + 1 := by
            rw [← List.length_map (f := SM.abs), hm20, HSS.out, List.length_append, List.length_map, List.length_singleton]
          have hXd := ht2.heap HXC.out (fun hm => by have := HLT.out _ hm; omega)
          have hRd := HRECC.out.kept ht2 (fun k hk _ => (HXS.out k hk).2)
          have HA2 := hide hA2
          have HV2 := hide hv2
          have HC0 := hide hc0
          have HL2 := hide hl2
          have HMS2 := hide hm20
          have HM2N := hide hmn2
          have HM2X := hide hmx2
          have HTD := hide ht2
          have HF2 := hide hf2
          have HXD := hide hXd
          have HRECD := hide hRd
          clear hc hc0 hr0 hok hA2 hv2 hl2 hm2 hm20 hm2a hmn2 hmx2 ht2 hf2 hXd hRd HRO c2 hlc
          go_wp2_with fail
          refine wp_region_tail 3 (Turn []) (by kernel_rfl) (by kernel_rfl) (by kernel_rfl) (by kernel_rfl) (by kernel_rfl) (Nat.le_of_ble_eq_true rfl) rfl (Turn.refl _) (fun _ _ _ h k => h.same k) ?_
          apply Lo.runx 1 rfl rfl [] (by kernel_rfl) (Turn.refl _)
          apply Exists.intro; apply And.intro
          · intro u w1 hR hF
            clear hF
            refine ⟨rfl, fun a ha K hK => ?_⟩
            have e0 := ha 0
            conv at e0 => rhs; whnf
            clear ha
            go_simp
            refine hK _ ?_; rfl
          refine Lo.run 2 rfl rfl [0] (fun y _ => y = .pointer (some ⟨m2.sb, 0, none⟩)) (by kernel_rfl) (fun x w w' h hR => ?_) (fun _ _ h => h) (fun u w1 hR hF => ?_) ?_
          · exact h
          · obtain ⟨h0, -⟩ := hF
            refine ⟨rfl, fun a ha K hK => ?_⟩
            have e38 := (ha 38).trans h0
            clear ha h0
            go_simp
            refine (last_any _ base d F2 A2 lb gv2 dir v2 ms20 m2 (HL2.out.still (((Turn.refl [] _).drew).same hR)) (by omega)).mono ?_
            rintro e w8 ⟨rfl, ht8⟩
            exact hK _ _ rfl ht8
          refine Lo.runv 3 rfl rfl [] (.agg #[.int .i64 x.base, .int .i64 x.fin, .slice va vn vc]) (by kernel_rfl) (fun u w1 hR hF => ?_) (Turn.refl _) ?_
          · clear hF
            refine ⟨rfl, fun a ha K hK => ?_⟩
            have e3 := ha 3
            conv at e3 => rhs; whnf
            clear ha
            have hb := (((Turn.refl [] _).drew).same hR).heap HXD.out (by simp)
            have k0 : w1.cell? ⟨w.heap.size, 0, none⟩ = some (.int .i64 x.base) := by rw [cell_of hb]; rfl
            have k1 : w1.cell? ⟨w.heap.size, 1, none⟩ = some (.int .i64 x.fin) := by rw [cell_of hb]; rfl
            have k2 : w1.cell? ⟨w.heap.size, 2, none⟩ = some (.slice va vn vc) := by rw [cell_of hb]; rfl
            have z1 := lt_of_heap hb
            go_simp
            refine hK _ ?_
            rfl
          refine Lo.done [1, 2] (fun u w1 hRd hSd hF => ?_)
          clear hSd
          obtain ⟨f1, f2, -⟩ := hF
          have d1 := (show (fun y _ => y = .pointer (some ⟨m2.sb, 0, none⟩)) (u 1) w1 from f1)
          dsimp only at d1
          have d2 : u 2 = _ := f2
          clear f1 f2
          simp only [List.take_succ_cons, List.take_zero, List.drop_succ_cons, List.drop_zero, putFrom, Act.put, List.setIfInBounds_toArray, List.set_cons_succ, List.set_cons_zero, Nat.zero_add, Nat.reduceAdd, d2]
          rw [d1]
          have HTd := hide (((Turn.refl [] wd).drew).same hRd)
          clear d1 d2 hRd
          go_wp2_with fail
          refine (seg_add _ base d F2 A2 lb gv2 dir v2 ms20 m2 (HL2.out.still HTd.out) (by rw [HM2N.out]; exact hn) hdir (by rw [HM2X.out]; simp [flat]) (.slice va vn vc) x ⟨_, rfl, HRECD.out.still HTd.out, b1, b2, f1, f2⟩ HXE.out (by rw [HM2N.out, HM2X.out, HXB.out]; exact Int.le_refl _) (fun k hk hlt hm => by
            rcases HF2.out k hm with h | h
            · exact (HXS.out k hk).2 h
            · have := (HXS.out k hk).1; have := HTC.out.size; omega)).mono ?_
          rintro e w9 ⟨rfl, hd⟩
          obtain ⟨r, hr⟩ : ∃ r, r = errR (putS A2 dir v2 (ms20.map SM.abs) m2.abs x).1 := ⟨_, rfl⟩
          rw [← hr]
          have HR := hide hr
          have HD := hide hd
          clear hr hd
          go_wp2
          go_ret
          unfold addS
          rw [if_neg (by rw [HXE.out]; simp), if_pos (by simp only [SM.abs]; rw [← HZ.out]; constructor <;> omega), ← HSS.out, if_neg (by rw [← HC.out, HC0.out]; simp)]
          have hm2' : m2.abs = (n, []) := by unfold SM.abs; rw [HM2N.out, HM2X.out]
          rw [← HA2.out, ← HV2.out, ← HMS2.out, ← hm2']
          rw [← HR.out]
          exact ⟨rfl, (HD.out.before HTd.out).then ((HTC.out.mono (T := lfoot F lb gv (ms0 ++ [m])) (by simp)).same HTD.out) (fun k hk => (HF2.out k hk).imp_right (fun h => by have := HTC.out.size; omega))⟩
        · have hr0 : errR c = .iface 62 (.int .i64 c) := by unfold errR; rw [if_neg hc0]; rfl
          rw [hr0]
          have HC0 := hide hc0
          have HR0 := hide hr0
          have HD := hide hd
          clear hc hc0 hr0 hd HRO
          go_wp2
          go_ret
          unfold addS
          rw [if_neg (by rw [HXE.out]; simp), if_pos (by simp only [SM.abs]; rw [← HZ.out]; constructor <;> omega), ← HSS.out, if_pos (by rw [← HC.out]; exact HC0.out), ← HC.out, HR0.out]
          exact ⟨rfl, HD.out.before HTC.out⟩
      · go_wp2_with fail
        refine wp_region_tail 3 (Turn []) (by kernel_rfl) (by kernel_rfl) (by kernel_rfl) (by kernel_rfl) (by kernel_rfl) (Nat.le_of_ble_eq_true rfl) rfl (Turn.refl _) (fun _ _ _ h k => h.same k) ?_
        apply Lo.runx 1 rfl rfl [] (by kernel_rfl) (Turn.refl _)
        apply Exists.intro; apply And.intro
        · intro u w1 hR hF
          clear hF
          refine ⟨rfl, fun a ha K hK => ?_⟩
          have e0 := ha 0
          conv at e0 => rhs; whnf
          clear ha
          go_simp
          refine hK _ ?_; rfl
        refine Lo.run 2 rfl rfl [0] (fun y _ => y = .pointer (some ⟨m.sb, 0, none⟩)) (by kernel_rfl) (fun x w w' h hR => ?_) (fun _ _ h => h) (fun u w1 hR hF => ?_) ?_
        · exact h
        · obtain ⟨h0, -⟩ := hF
          refine ⟨rfl, fun a ha K hK => ?_⟩
          have e38 := (ha 38).trans h0
          clear ha h0
          go_simp
          refine (last_any _ base d F A lb gv dir v ms0 m (HLC.out.still (((Turn.refl [] _).drew).same hR)) (by omega)).mono ?_
          rintro e w8 ⟨rfl, ht8⟩
          exact hK _ _ rfl ht8
        refine Lo.runv 3 rfl rfl [] (.agg #[.int .i64 x.base, .int .i64 x.fin, .slice va vn vc]) (by kernel_rfl) (fun u w1 hR hF => ?_) (Turn.refl _) ?_
        · clear hF
          refine ⟨rfl, fun a ha K hK => ?_⟩
          have e3 := ha 3
          conv at e3 => rhs; whnf
          clear ha
          have hb := (((Turn.refl [] _).drew).same hR).heap HXC.out (by simp)
          have k0 : w1.cell? ⟨w.heap.size, 0, none⟩ = some (.int .i64 x.base) := by rw [cell_of hb]; rfl
          have k1 : w1.cell? ⟨w.heap.size, 1, none⟩ = some (.int .i64 x.fin) := by rw [cell_of hb]; rfl
          have k2 : w1.cell? ⟨w.heap.size, 2, none⟩ = some (.slice va vn vc) := by rw [cell_of hb]; rfl
          have z1 := lt_of_heap hb
          go_simp
          refine hK _ ?_
          rfl
        refine Lo.done [1, 2] (fun u w1 hRd hSd hF => ?_)
        clear hSd
        obtain ⟨f1, f2, -⟩ := hF
        have d1 := (show (fun y _ => y = .pointer (some ⟨m.sb, 0, none⟩)) (u 1) w1 from f1)
        dsimp only at d1
        have d2 : u 2 = _ := f2
        clear f1 f2
        simp only [List.take_succ_cons, List.take_zero, List.drop_succ_cons, List.drop_zero, putFrom, Act.put, List.setIfInBounds_toArray, List.set_cons_succ, List.set_cons_zero, Nat.zero_add, Nat.reduceAdd, d2]
        rw [d1]
        have HTd := hide (((Turn.refl [] wc).drew).same hRd)
        clear d1 d2 hRd
        go_wp2_with fail
        refine (seg_add _ base d F A lb gv dir v ms0 m (HLC.out.still HTd.out) hmn hdir hfl (.slice va vn vc) x ⟨_, rfl, HRECC.out.still HTd.out, b1, b2, f1, f2⟩ HXE.out (by rw [HNX.out, HXB.out]; exact Int.le_refl _) (fun k hk hlt hm => (HXS.out k hk).2 hm)).mono ?_
        rintro e w9 ⟨rfl, hd⟩
        obtain ⟨r, hr⟩ : ∃ r, r = errR (putS A dir v (ms0.map SM.abs) m.abs x).1 := ⟨_, rfl⟩
        rw [← hr]
        have HR := hide hr
        have HD := hide hd
        clear hr hd
        go_wp2
        go_ret
        unfold addS
        rw [if_neg (by rw [HXE.out]; simp), if_neg (by simp only [SM.abs]; rw [← HZ.out]; omega)]
        rw [← HR.out]
        exact ⟨rfl, HD.out.before (HTC.out.same HTd.out)⟩
    · have hz00 : z = 0 := by omega
      go_wp2_with fail
      refine wp_region_tail 3 (Turn []) (by kernel_rfl) (by kernel_rfl) (by kernel_rfl) (by kernel_rfl) (by kernel_rfl) (Nat.le_of_ble_eq_true rfl) rfl (Turn.refl _) (fun _ _ _ h k => h.same k) ?_
      apply Lo.runx 1 rfl rfl [] (by kernel_rfl) (Turn.refl _)
      apply Exists.intro; apply And.intro
      · intro u w1 hR hF
        clear hF
        refine ⟨rfl, fun a ha K hK => ?_⟩
        have e0 := ha 0
        conv at e0 => rhs; whnf
        clear ha
        go_simp
        refine hK _ ?_; rfl
      refine Lo.run 2 rfl rfl [0] (fun y _ => y = .pointer (some ⟨m.sb, 0, none⟩)) (by kernel_rfl) (fun x w w' h hR => ?_) (fun _ _ h => h) (fun u w1 hR hF => ?_) ?_
      · exact h
      · obtain ⟨h0, -⟩ := hF
        refine ⟨rfl, fun a ha K hK => ?_⟩
        have e38 := (ha 38).trans h0
        clear ha h0
        go_simp
        refine (last_any _ base d F A lb gv dir v ms0 m (HLC.out.still (((Turn.refl [] _).drew).same hR)) (by omega)).mono ?_
        rintro e w8 ⟨rfl, ht8⟩
        exact hK _ _ rfl ht8
      refine Lo.runv 3 rfl rfl [] (.agg #[.int .i64 x.base, .int .i64 x.fin, .slice va vn vc]) (by kernel_rfl) (fun u w1 hR hF => ?_) (Turn.refl _) ?_
      · clear hF
        refine ⟨rfl, fun a ha K hK => ?_⟩
        have e3 := ha 3
        conv at e3 => rhs; whnf
        clear ha
        have hb := (((Turn.refl [] _).drew).same hR).heap HXC.out (by simp)
        have k0 : w1.cell? ⟨w.heap.size, 0, none⟩ = some (.int .i64 x.base) := by rw [cell_of hb]; rfl
        have k1 : w1.cell? ⟨w.heap.size, 1, none⟩ = some (.int .i64 x.fin) := by rw [cell_of hb]; rfl
        have k2 : w1.cell? ⟨w.heap.size, 2, none⟩ = some (.slice va vn vc) := by rw [cell_of hb]; rfl
        have z1 := lt_of_heap hb
        go_simp
        refine hK _ ?_
        rfl
      refine Lo.done [1, 2] (fun u w1 hRd hSd hF => ?_)
      clear hSd
      obtain ⟨f1, f2, -⟩ := hF
      have d1 := (show (fun y _ => y = .pointer (some ⟨m.sb, 0, none⟩)) (u 1) w1 from f1)
      dsimp only at d1
      have d2 : u 2 = _ := f2
      clear f1 f2
      simp only [List.take_succ_cons, List.take_zero, List.drop_succ_cons, List.drop_zero, putFrom, Act.put, List.setIfInBounds_toArray, List.set_cons_succ, List.set_cons_zero, Nat.zero_add, Nat.reduceAdd, d2]
      rw [d1]
      have HTd := hide (((Turn.refl [] wc).drew).same hRd)
      clear d1 d2 hRd
      go_wp2_with fail
      refine (seg_add _ base d F A lb gv dir v ms0 m (HLC.out.still HTd.out) hmn hdir hfl (.slice va vn vc) x ⟨_, rfl, HRECC.out.still HTd.out, b1, b2, f1, f2⟩ HXE.out (by rw [HNX.out, HXB.out]; exact Int.le_refl _) (fun k hk hlt hm => (HXS.out k hk).2 hm)).mono ?_
      rintro e w9 ⟨rfl, hd⟩
      obtain ⟨r, hr⟩ : ∃ r, r = errR (putS A dir v (ms0.map SM.abs) m.abs x).1 := ⟨_, rfl⟩
      rw [← hr]
      have HR := hide hr
      have HD := hide hd
      clear hr hd
      go_wp2
      go_ret
      unfold addS
      rw [if_neg (by rw [HXE.out]; simp), if_neg (by simp only [SM.abs]; rw [← HZ.out]; omega)]
      rw [← HR.out]
      exact ⟨rfl, HD.out.before (HTC.out.same HTd.out)⟩
  · have hne : As.errN (Bt.encErr x) = .iface 62 (.int .i64 (Bt.encErr x)) := by unfold As.errN; rw [if_neg he]
    rw [hne]
    have HE := hide he
    clear he hne
    go_wp2
    go_ret
    unfold addS
    rw [if_pos HE.out]
    exact ⟨by unfold errR; rw [if_neg HE.out]; rfl, by have := H.out.quiet HTA.out; rw [List.map_append] at this; exact this⟩
end Go.Proofs.YtmdmdbobbepogaaGreatDoor.Lg

/- noting; (*plog.Log).Add. -/
namespace Go.Proofs.YtmdmdbobbepogaaGreatDoor.Lg
open Go.RowKit Go.Maps
set_option maxRecDepth 100000
set_option linter.unusedSimpArgs false
set_option linter.unusedVariables false
attribute [local go_sem] Oper.semAt_some
open Dk (DA DiskAt Parts Did errR errV)
open Sg (SegAt sfoot pls Both Came nextOf flat)

/-- From an ErrDevice on the log is down. -/
def noteV (c : Int) (v : LV) : LV := if c = 14 then { v with down := true } else v
set_option maxHeartbeats 1000000 in
theorem noting_any (w : World) (base d : Nat) (F : List Nat) (A : DA) (lb : Nat) (gv : Value) (dir : ByteArray) (v : LV) (ms : List SM) (h : LogAt w base d F A lb gv dir v ms) (c : Int) (hg : As.ErrT w) :
    Calls Tryz.prog 32 #[.pointer (some ⟨lb, 0, none⟩), .iface 62 (.int .i64 c)] w fun e w' => e = .returned (.iface 62 (.int .i64 c)) ∧ LDid w w' base d (lfoot F lb gv ms) A lb dir (noteV c v) (ms.map SM.abs) := by
  have H := hide h
  have HG := hide hg
  clear h hg
  by_cases hc : c = 14
  · subst hc
    go_enter Tryz.func32, Tryz.ntmps32
    go_wp2_with fail
    refine (As.tell_errno 14 w HG.out).mono ?_
    rintro e w1 ⟨rfl, hb⟩
    have HT := hide (Turn.of_below hb [])
    have hl1 := H.out.still (Turn.of_below hb [])
    have c6 := hl1.c6
    have f6 := hl1.fr 6
    have hlb := lt_of_heap hl1.box
    have HL1 := hide hl1
    clear hb hl1
    go_wp2
    go_ret
    have e : noteV 14 v = { v with down := true } := by unfold noteV; rw [if_pos rfl]
    rw [e]
    refine ⟨rfl, F, gv, ms, HL1.out.setBox (i := 6) (u := .bool true) (v' := { v with down := true }) rfl, rfl, ?_, fun _ hk => .inl hk⟩
    exact (HT.out.mono (T := lfoot F lb gv ms) (by simp)).setCell (.inl (mem_lfoot.2 (.inl rfl))) _
  · have HC := hide hc
    have hcb : (c == 14) = false := by rw [beq_eq_false_iff_ne]; exact hc
    go_enter Tryz.func32, Tryz.ntmps32
    go_wp2_with fail
    refine (As.tell_errno c w HG.out).mono ?_
    rintro e w1 ⟨rfl, hb⟩
    have HT := hide (Turn.of_below hb [])
    clear hb
    go_wp2
    go_ret
    have e : noteV c v = v := by unfold noteV; rw [if_neg HC.out]
    rw [e]
    exact ⟨rfl, H.out.quiet HT.out⟩

set_option maxHeartbeats 2000000 in
theorem Add_down (w : World) (base d : Nat) (F : List Nat) (A : DA) (lb : Nat) (gv : Value) (dir : ByteArray) (v : LV) (ms : List SM) (h : LogAt w base d F A lb gv dir v ms) (hd : v.down = true) (vr : Value) :
    Calls Tryz.prog 11 #[.pointer (some ⟨lb, 0, none⟩), vr] w fun e w' => e = .returned (.tuple #[.int .i64 0, errV 6]) ∧ w = w' := by
  have c6 := h.c6
  rw [hd] at c6
  have hlb := lt_of_heap h.box
  clear h hd
  go_enter Tryz.func11, Tryz.ntmps11
  go_wp2
  go_ret2
  exact ⟨rfl, rfl⟩
/-- The offset that Add tells. -/
def offS (c : Int) (n : Nat) : Int := if c = 0 then (n : Int) else 0
/-- Add, of what a log is. -/
def AddS (A : DA) (dir : ByteArray) (v : LV) (n : Nat) (ss0 : List (Nat × List Bt.Bat)) (m : Nat × List Bt.Bat) (rs : List Bt.Rec) : Int × DA × LV × List (Nat × List Bt.Bat) :=
  ((addS A dir v n ss0 m (batOf n rs)).1, (addS A dir v n ss0 m (batOf n rs)).2.1, noteV (addS A dir v n ss0 m (batOf n rs)).1 (addS A dir v n ss0 m (batOf n rs)).2.2.1, (addS A dir v n ss0 m (batOf n rs)).2.2.2)
set_option maxHeartbeats 4000000 in
theorem Add_any (w : World) (base d : Nat) (F : List Nat) (A : DA) (lb : Nat) (gv : Value) (dir : ByteArray) (v : LV) (ms0 : List SM) (m : SM) (h : LogAt w base d F A lb gv dir v (ms0 ++ [m])) (hl : ms0.length ≤ 900000) (hmn : m.n ≤ 1099511627776) (hdir : dir.size ≤ 1000) (hfl : (flat m.xs).length ≤ 1048576) (hmo : v.most ≤ 1048576 ∧ 0 ≤ v.most) (hdn : v.down = false)
    (n : Nat) (hn : n ≤ 1099511627776) (hnx : nextOf m.n m.xs = n) (hv : ∀ Z, Turn (lfoot F lb gv (ms0 ++ [m])) w Z → Sn.TabT Z ∧ As.ErrT Z)
    (vr : Value) (rs : List Bt.Rec) (hr : RecsAt w vr rs) (hrl : rs.length ≤ 1000000) :
    Calls Tryz.prog 11 #[.pointer (some ⟨lb, 0, none⟩), vr] w fun e w' =>
      e = .returned (.tuple #[.int .i64 (offS (AddS A dir v n (ms0.map SM.abs) m.abs rs).1 n), errR (AddS A dir v n (ms0.map SM.abs) m.abs rs).1]) ∧
      LDid w w' base d (lfoot F lb gv (ms0 ++ [m])) (AddS A dir v n (ms0.map SM.abs) m.abs rs).2.1 lb dir (AddS A dir v n (ms0.map SM.abs) m.abs rs).2.2.1 (AddS A dir v n (ms0.map SM.abs) m.abs rs).2.2.2 := by
  have hlen := Sg.flat_len m.xs
  have H := hide h
  have HV := hide hv
  have HNX := hide hnx
  have HREC := hide hr
  have c6 := h.c6
  rw [hdn] at c6
  have hlb := lt_of_heap h.box
  have HLT : Hid (∀ k ∈ lfoot F lb gv (ms0 ++ [m]), k < w.heap.size) := fun k hk => (h.lt k hk).2
  clear h hv hnx hr hdn
  go_enter Tryz.func11, Tryz.ntmps11
  go_wp2_with fail
  refine (end_any w base d F A lb gv dir v ms0 m H.out (by omega) (by omega)).mono ?_
  rintro e w1 ⟨rfl, ht1⟩
  rw [HNX.out]
  have HT1 := hide ht1
  clear ht1 c6 hlb
  go_wp2_with fail
  refine (lbatch_any _ (n : Int) vr rs (HREC.out.still HT1.out) (by omega) (by omega) hrl).mono ?_
  rintro e w2 ⟨sv, rfl, hrow, ht2⟩
  obtain ⟨sa, sc, hsv, -, -⟩ := hrow.form
  rw [renum_len] at hsv
  subst hsv
  have HT2 := hide (HT1.out.same ht2)
  have HROW := hide hrow
  have hw1 := HT1.out.size
  clear hrow ht2
  obtain ⟨w3, hw3⟩ : ∃ w3, w3 = w2.alloc (.cells #[.int .i64 (n : Int), .int .i64 ((n : Int) + rs.length), .slice sa rs.length sc] 76) := ⟨_, rfl⟩
  have ht3 : Turn [] w2 w3 := by rw [hw3]; exact (Turn.refl [] w2).alloc _
  have hX3 : w3.heap[w2.heap.size]? = some (.cells #[.int .i64 (n : Int), .int .i64 ((n : Int) + rs.length), .slice sa rs.length sc] 76 (0, 0)) := by rw [hw3]; exact heap_new w2 _
  have hok : ∀ r ∈ renum (n : Int) rs, RecOk r := renum_ok (n : Int) rs (fun r hr => by obtain ⟨j, hj, rfl⟩ := List.mem_iff_getElem.1 hr; exact HREC.out.ok hj) (by omega) (by omega) hrl
  have hrec3 : RecsAt w3 (.slice sa rs.length sc) (renum (n : Int) rs) := RecRow.recs (base := w1.heap.size) (HROW.out.still ht3) hok
  have hown : ∀ k ∈ (Value.slice sa rs.length sc).ownBlock, w1.heap.size ≤ k ∧ k < w3.heap.size := fun k hk => ⟨(HROW.out.lt k hk).1, by have := (HROW.out.lt k hk).2; have := ht3.size; omega⟩
  have hw2 := HT2.out.size
  have hla := ladd_any w3 base d F A lb gv dir v ms0 m (H.out.still (HT2.out.same ht3)) hl hmn hdir hfl hmo n hn HNX.out (fun Z hZ => (HV.out Z (((HT2.out.same ht3).mono (T := lfoot F lb gv (ms0 ++ [m])) (by simp)).same hZ)).1)
    sa rs.length sc (batOf n rs) ⟨_, rfl, hrec3, by show _ ≤ (n : Int); omega, by show (n : Int) ≤ _; omega, by show _ ≤ (n : Int) + _; omega, by show (n : Int) + _ ≤ _; omega⟩ rfl (fun k hk => ⟨(hown k hk).2, fun hm => by have := (hown k hk).1; have := HLT.out k hm; omega⟩)
  have HT3 := hide (HT2.out.same ht3)
  have HX3 := hide hX3
  have HLA := hide hla
  clear ht3 hX3 hok hrec3 hown hla
  go_wp2_with fail
  rw [← hw3]
  clear hw3
  obtain ⟨c, hc⟩ : ∃ c, c = (addS A dir v n (ms0.map SM.abs) m.abs (batOf n rs)).1 := ⟨_, rfl⟩
  refine HLA.out.mono ?_
  rintro e w4 ⟨rfl, hd⟩
  rw [← hc]
  obtain ⟨F4, gv4, ms4, hl4, hm4, ht4, hf4⟩ := hd.before HT3.out
  have hX4 := hd.turn.heap HX3.out (fun hm => by have := HLT.out _ hm; omega)
  have HC := hide hc
  have HL4 := hide hl4
  have HM4 := hide hm4
  have HT4 := hide ht4
  have HF4 := hide hf4
  have HX4 := hide hX4
  by_cases hc0 : c = 0
  · have hr0 : errR c = .nilIface := by rw [hc0]; rfl
    rw [hr0]
    have k0 : w4.cell? ⟨w2.heap.size, 0, none⟩ = some (.int .i64 (n : Int)) := by rw [cell_of hX4]; rfl
    have z4 := lt_of_heap hX4
    have HC0 := hide hc0
    clear hc hc0 hr0 hl4 hm4 ht4 hf4 hX4 hd HLA
    go_wp2
    go_ret2
    unfold AddS
    simp only
    have ho : offS c n = (n : Int) := by unfold offS; rw [if_pos HC0.out]
    rw [← HC.out, ho, HC0.out]
    refine ⟨rfl, F4, gv4, ms4, ?_, HM4.out, HT4.out, HF4.out⟩
    unfold noteV
    rw [if_neg (by omega)]
    exact HL4.out
  · have hr0 : errR c = .iface 62 (.int .i64 c) := by unfold errR; rw [if_neg hc0]; rfl
    rw [hr0]
    have hno := noting_any w4 base d F4 _ lb gv4 dir _ ms4 hl4 c (HV.out w4 ht4).2
    have HNO := hide hno
    have HC0 := hide hc0
    have HR0 := hide hr0
    clear hc hc0 hr0 hl4 hm4 ht4 hf4 hX4 hd HLA hno
    go_wp2_with fail
    refine HNO.out.mono ?_
    rintro e w5 ⟨rfl, hd5⟩
    rw [HM4.out] at hd5
    have HD5 := hide (hd5.then HT4.out HF4.out)
    clear hd5 HNO
    go_wp2
    go_ret2
    unfold AddS
    simp only
    have ho : offS c n = 0 := by unfold offS; rw [if_neg HC0.out]
    rw [← HC.out, ho, HR0.out]
    exact ⟨rfl, HD5.out⟩
end Go.Proofs.YtmdmdbobbepogaaGreatDoor.Lg

/- A disk that has a log's files alone: what its operations come to. -/
namespace Go.Proofs.YtmdmdbobbepogaaGreatDoor.Lg
open Go.RowKit Go.Maps
set_option linter.unusedSimpArgs false
set_option linter.unusedVariables false
open Dk (DA FA usedL)
open Sg (Chain flat nextOf)

def nmL (dir : ByteArray) (n : Nat) : List UInt8 := (Sn.nameB dir n).data.toList
theorem nmL_inj {dir : ByteArray} {n m : Nat} (hn : n ≤ 1099511627776) (hm : m ≤ 1099511627776) (h : nmL dir n = nmL dir m) : n = m :=
  Sn.name_inj (d := dir.data.toList) hn hm h
structure LogDisk (A : DA) (room : Nat) (dir : ByteArray) (ss : List (Nat × List Bt.Bat)) : Prop where
  lim : A.limited = false
  room : A.room = room
  files : A.files.map (fun f => (f.name, f.bytes)) = ss.map (fun p => (nmL dir p.1, flat p.2))
  base : ∀ p ∈ ss, p.1 ≤ 1099511627776
  nd : (ss.map (·.1)).Nodup
theorem flat_batsL : ∀ ss : List (Nat × List Bt.Bat), (flat (batsL ss)).length = (ss.map (fun p => (flat p.2).length)).sum
  | [] => by simp [batsL, flat]
  | p :: r => by
    have h := flat_batsL r
    unfold batsL at h ⊢
    rw [List.flatMap_cons, Sg.flat_append, List.length_append, h, List.map_cons, List.sum_cons]
theorem key_eq {ss : List (Nat × List Bt.Bat)} (h : (ss.map (·.1)).Nodup) {p q : Nat × List Bt.Bat} (hp : p ∈ ss) (hq : q ∈ ss) (e : p.1 = q.1) : p = q := by
  induction ss with
  | nil => simp at hp
  | cons a r ih =>
    rw [List.map_cons, List.nodup_cons] at h
    rcases List.mem_cons.1 hp with rfl | hpr
    · rcases List.mem_cons.1 hq with rfl | hq
      · rfl
      · exact absurd (show p.1 ∈ r.map (·.1) from List.mem_map.2 ⟨q, hq, e.symm⟩) h.1
    · rcases List.mem_cons.1 hq with rfl | hq
      · exact absurd (show q.1 ∈ r.map (·.1) from List.mem_map.2 ⟨p, hpr, e⟩) h.1
      · exact ih h.2 hpr hq
section
variable {A : DA} {room : Nat} {dir : ByteArray} {ss ss0 : List (Nat × List Bt.Bat)} {p m : Nat × List Bt.Bat}
theorem LogDisk.fails (h : LogDisk A room dir ss) : A.fails = false := by unfold DA.fails; rw [h.lim]; rfl
theorem LogDisk.tick (h : LogDisk A room dir ss) : A.tick = A := by unfold DA.tick; rw [h.lim]; rfl
theorem LogDisk.find (h : LogDisk A room dir ss) (nm : List UInt8) : (A.file nm).map (fun f => (f.name, f.bytes)) = (ss.find? (fun p => nmL dir p.1 == nm)).map (fun p => (nmL dir p.1, flat p.2)) := by
  have h1 : (A.files.map (fun f => (f.name, f.bytes))).find? (fun q => q.1 == nm) = (A.file nm).map (fun f => (f.name, f.bytes)) := by
    rw [List.find?_map]; rfl
  have h2 : (ss.map (fun p => (nmL dir p.1, flat p.2))).find? (fun q => q.1 == nm) = (ss.find? (fun p => nmL dir p.1 == nm)).map (fun p => (nmL dir p.1, flat p.2)) := by
    rw [List.find?_map]; rfl
  rw [← h1, h.files, h2]
theorem LogDisk.find_mem (h : LogDisk A room dir ss) (hp : p ∈ ss) : ss.find? (fun q => nmL dir q.1 == nmL dir p.1) = some p := by
  cases hf : ss.find? (fun q => nmL dir q.1 == nmL dir p.1) with
  | none =>
    have := List.find?_eq_none.1 hf p hp
    simp at this
  | some q =>
    have h1 := List.find?_some hf
    have h2 := List.mem_of_find?_eq_some hf
    rw [beq_iff_eq] at h1
    rw [key_eq h.nd h2 hp (nmL_inj (h.base q h2) (h.base p hp) h1)]
theorem LogDisk.file (h : LogDisk A room dir ss) (hp : p ∈ ss) : ∃ f, A.file (nmL dir p.1) = some f ∧ f.bytes = flat p.2 := by
  have h1 := h.find (nmL dir p.1)
  rw [h.find_mem hp] at h1
  simp only [Option.map_some] at h1
  obtain ⟨f, hf, e⟩ := Option.map_eq_some_iff.1 h1
  exact ⟨f, hf, congrArg Prod.snd e⟩
theorem LogDisk.has (h : LogDisk A room dir ss) (hp : p ∈ ss) : A.has (nmL dir p.1) = true := by
  obtain ⟨f, hf, -⟩ := h.file hp
  rw [Dk.has_file, hf]; rfl
theorem LogDisk.hasn (h : LogDisk A room dir ss) {n : Nat} (hn : n ≤ 1099511627776) (hno : n ∉ ss.map (·.1)) : A.has (nmL dir n) = false := by
  have h1 := h.find (nmL dir n)
  have h2 : ss.find? (fun p => nmL dir p.1 == nmL dir n) = none := by
    rw [List.find?_eq_none]
    intro q hq
    simp only [beq_iff_eq]
    intro e
    exact hno (List.mem_map.2 ⟨q, hq, nmL_inj (h.base q hq) hn e⟩)
  rw [h2] at h1
  rw [Dk.has_file]
  cases hf : A.file (nmL dir n) with
  | none => rfl
  | some f => rw [hf] at h1; simp at h1
theorem LogDisk.len (h : LogDisk A room dir ss) : A.files.length = ss.length := by
  have := congrArg List.length h.files
  simpa using this
theorem LogDisk.used (h : LogDisk A room dir ss) : usedL A.files = (flat (batsL ss)).length := by
  rw [flat_batsL]
  have := congrArg (fun l : List (List UInt8 × List UInt8) => (l.map (fun q => q.2.length)).sum) h.files
  simpa [usedL, Function.comp_def] using this
theorem LogDisk.make (h : LogDisk A room dir ss) {n : Nat} (hn : n ≤ 1099511627776) (hno : n ∉ ss.map (·.1)) (hok : Dk.nameB (Sn.nameB dir n) = true) (hl : ss.length < 200) : (A.make (Sn.nameB dir n)).1 = 0 ∧ LogDisk (A.make (Sn.nameB dir n)).2 room dir (ss ++ [(n, [])]) := by
  have e : A.make (Sn.nameB dir n) = (0, { A.tick with files := A.files ++ [⟨(Sn.nameB dir n).data.toList, [], 0⟩] }) := by
    unfold DA.make
    rw [h.fails, hok, show A.has (Sn.nameB dir n).data.toList = false from h.hasn hn hno, h.len, if_neg (by simp), if_neg (by simp), if_neg (by simp), if_neg (by omega)]
  rw [e, h.tick]
  refine ⟨rfl, h.lim, h.room, ?_, fun q hq => ?_, ?_⟩
  · simp only [List.map_append, h.files, List.map_cons, List.map_nil]
    rfl
  · rcases List.mem_append.1 hq with hq | hq
    · exact h.base q hq
    · obtain rfl := List.mem_singleton.1 hq
      exact hn
  · rw [List.map_append, List.nodup_append]
    refine ⟨h.nd, by simp, fun a ha b hb => ?_⟩
    simp only [List.map_cons, List.map_nil, List.mem_singleton] at hb
    subst hb
    rintro rfl
    exact hno ha
theorem LogDisk.upd (h : LogDisk A room dir (ss0 ++ [m])) (g : FA → FA) (hg : ∀ f, (g f).name = f.name) (xs' : List Bt.Bat) (hb : ∀ f : FA, f.bytes = flat m.2 → (g f).bytes = flat xs') : LogDisk (A.upd (nmL dir m.1) g) room dir (ss0 ++ [(m.1, xs')]) := by
  refine ⟨h.lim, h.room, ?_, fun q hq => ?_, by have := h.nd; rw [List.map_append] at this ⊢; exact this⟩
  · have hfs := h.files
    have hm0 : ∀ q ∈ ss0, q.1 ≠ m.1 := fun q hq e => by
      have := h.nd
      rw [List.map_append, List.nodup_append] at this
      exact this.2.2 q.1 (List.mem_map.2 ⟨q, hq, rfl⟩) m.1 (by simp) e
    rw [List.map_append, List.map_singleton] at hfs
    obtain ⟨f0, f1, hf, h0, h1⟩ := List.map_eq_append_iff.1 hfs
    obtain ⟨f, f2, rfl, h2, h3⟩ := List.map_eq_cons_iff.1 h1
    obtain rfl := List.map_eq_nil_iff.1 h3
    unfold DA.upd Dk.setF
    rw [hf]
    have hfn : f.name = nmL dir m.1 := congrArg Prod.fst h2
    have hfb : f.bytes = flat m.2 := congrArg Prod.snd h2
    have hpre : f0.map (fun f => if f.name == nmL dir m.1 then g f else f) = f0 := by
      have : f0.map (fun f => if f.name == nmL dir m.1 then g f else f) = f0.map id := by
        apply List.map_congr_left
        intro x hx
        have hx2 : (x.name, x.bytes) ∈ ss0.map (fun p => (nmL dir p.1, flat p.2)) := by rw [← h0]; exact List.mem_map.2 ⟨x, hx, rfl⟩
        obtain ⟨q, hq, e⟩ := List.mem_map.1 hx2
        have e1 : nmL dir q.1 = x.name := congrArg Prod.fst e
        have : (x.name == nmL dir m.1) = false := by
          rw [beq_eq_false_iff_ne, ← e1]
          intro he
          exact hm0 q hq (nmL_inj (h.base q (by simp [hq])) (h.base m (by simp)) he)
        rw [this]; rfl
      rw [this, List.map_id]
    simp only [List.map_append, List.map_cons, List.map_nil]
    rw [hpre, h0, hfn]
    simp only [beq_self_eq_true, if_true]
    rw [hg f, hb f hfb, hfn]
  · rcases List.mem_append.1 hq with hq | hq
    · exact h.base q (by simp [hq])
    · obtain rfl := List.mem_singleton.1 hq
      exact h.base m (by simp)
theorem LogDisk.sync (h : LogDisk A room dir (ss0 ++ [m])) : (A.sync (nmL dir m.1)).1 = 0 ∧ LogDisk (A.sync (nmL dir m.1)).2 room dir (ss0 ++ [m]) := by
  have e : A.sync (nmL dir m.1) = (0, A.tick.upd (nmL dir m.1) (fun f => { f with safe := f.bytes.length })) := by
    unfold DA.sync
    rw [h.fails, h.has (p := m) (by simp), if_neg (by simp), if_neg (by simp)]
  rw [e, h.tick]
  exact ⟨rfl, h.upd (fun f => { f with safe := f.bytes.length }) (fun _ => rfl) m.2 (fun f hf => hf)⟩
theorem LogDisk.add (h : LogDisk A room dir (ss0 ++ [m])) (x : Bt.Bat) (hr : (flat (batsL (ss0 ++ [m]))).length + (Bt.encB x).length ≤ room) : (A.add (nmL dir m.1) (Bt.encB x)).1 = 0 ∧ LogDisk (A.add (nmL dir m.1) (Bt.encB x)).2 room dir (ss0 ++ [(m.1, m.2 ++ [x])]) := by
  have e : A.add (nmL dir m.1) (Bt.encB x) = (0, A.tick.upd (nmL dir m.1) (fun f => { f with bytes := f.bytes ++ Bt.encB x })) := by
    unfold DA.add
    rw [h.fails, h.has (p := m) (by simp), h.used, h.room, if_neg (by simp), if_neg (by simp), if_neg (by omega)]
  rw [e, h.tick]
  exact ⟨rfl, h.upd (fun f => { f with bytes := f.bytes ++ Bt.encB x }) (fun _ => rfl) (m.2 ++ [x]) (fun f hf => by rw [Sg.flat_append, Sg.flat_one, ← hf])⟩
end
end Go.Proofs.YtmdmdbobbepogaaGreatDoor.Lg

/- What Add makes of a log on a disk that does not fail and has room. -/
namespace Go.Proofs.YtmdmdbobbepogaaGreatDoor.Lg
open Go.RowKit Go.Maps
set_option linter.unusedSimpArgs false
set_option linter.unusedVariables false
open Dk (DA FA usedL)
open Sg (Chain flat nextOf)

structure GInv (A : DA) (room : Nat) (dir : ByteArray) (st n : Nat) (ss0 : List (Nat × List Bt.Bat)) (m : Nat × List Bt.Bat) : Prop where
  disk : LogDisk A room dir (ss0 ++ [m])
  chains : ∀ p ∈ ss0 ++ [m], Chain p.1 p.2
  chain : Chain st (batsL (ss0 ++ [m]))
  next : nextOf m.1 m.2 = n
  fins : ∀ x ∈ batsL (ss0 ++ [m]), x.fin ≤ n
  keys : ∀ p ∈ ss0, p.1 < m.1
  le : m.1 ≤ n
  st : st ≤ n
  srt : ((ss0 ++ [m]).map (·.1)).Pairwise (· < ·)
theorem nextOf_le : ∀ {xs : List Bt.Bat} {b n : Int}, b ≤ n → (∀ x ∈ xs, x.fin ≤ n) → nextOf b xs ≤ n
  | [], b, n, h, _ => by simpa [nextOf] using h
  | x :: r, b, n, h, hf => by
    rw [Sg.nextOf_cons]
    exact nextOf_le (hf x (by simp)) (fun y hy => hf y (by simp [hy]))
theorem batsL_snoc (ss0 : List (Nat × List Bt.Bat)) (m : Nat × List Bt.Bat) : batsL (ss0 ++ [m]) = batsL ss0 ++ m.2 := by
  unfold batsL
  rw [List.flatMap_append]
  simp
theorem GInv.ok {A : DA} {room : Nat} {dir : ByteArray} {st n : Nat} {ss0 : List (Nat × List Bt.Bat)} {m : Nat × List Bt.Bat} (h : GInv A room dir st n ss0 m) (hl : (ss0 ++ [m]).length ≤ 1000) : OkS A dir (ss0 ++ [m]) :=
  ⟨h.disk.base, fun p hp => h.disk.file hp, h.chains, hl⟩
section
variable {A : DA} {room : Nat} {dir : ByteArray} {st n : Nat} {ss0 : List (Nat × List Bt.Bat)} {m : Nat × List Bt.Bat} {v : LV} {x : Bt.Bat}
/-- A batch put into the last segment. -/
theorem GInv.put (h : GInv A room dir st n ss0 m) (hx : Bt.encErr x = 0) (hb : x.base = n) {n' : Nat} (hf : x.fin = n') (hr : (flat (batsL (ss0 ++ [m]))).length + (Bt.encB x).length ≤ room) (v : LV) :
    ∃ A', putS A dir v ss0 m x = (0, A', v, ss0 ++ [(m.1, m.2 ++ [x])]) ∧ GInv A' room dir st n' ss0 (m.1, m.2 ++ [x]) ∧ batsL (ss0 ++ [(m.1, m.2 ++ [x])]) = batsL (ss0 ++ [m]) ++ [x] := by
  obtain ⟨h1, h2⟩ := h.disk.add x hr
  have hlt := bat_lt hx
  have hnn : n < n' := by omega
  have hbl : batsL (ss0 ++ [(m.1, m.2 ++ [x])]) = batsL (ss0 ++ [m]) ++ [x] := by rw [batsL_snoc, batsL_snoc, List.append_assoc]
  refine ⟨_, ?_, ⟨h2, fun p hp => ?_, ?_, ?_, fun y hy => ?_, h.keys, by have := h.le; simp only; omega, by have := h.st; omega, by have := h.srt; rw [List.map_append] at this ⊢; exact this⟩, hbl⟩
  · unfold putS
    rw [show A.add (Sn.nameB dir m.1).data.toList (Bt.encB x) = A.add (nmL dir m.1) (Bt.encB x) from rfl, h1, if_pos rfl]
  · rcases List.mem_append.1 hp with hp | hp
    · exact h.chains p (by simp [hp])
    · obtain rfl := List.mem_singleton.1 hp
      exact Sg.chain_snoc (h.chains m (by simp)) hx (by rw [h.next, hb]; exact Int.le_refl _)
  · rw [hbl]
    exact Sg.chain_snoc h.chain hx (by rw [hb]; exact nextOf_le (by have := h.st; omega) h.fins)
  · simp only
    rw [Sg.nextOf_snoc, hf]
  · rw [hbl] at hy
    rcases List.mem_append.1 hy with hy | hy
    · have := h.fins y hy; omega
    · obtain rfl := List.mem_singleton.1 hy
      omega
/-- A new segment at the end. -/
theorem GInv.roll (h : GInv A room dir st n ss0 m) (hn : n ≤ 1099511627776) (hz : 0 < (flat m.2).length) (hok : Dk.nameB (Sn.nameB dir n) = true) (hl : (ss0 ++ [m]).length < 200) (v : LV) :
    ∃ A', rollS A dir v n m (ss0 ++ [m]) = (0, A', { v with safe := (n : Int) }, ss0 ++ [m] ++ [(n, [])]) ∧ GInv A' room dir st n (ss0 ++ [m]) (n, []) ∧ batsL (ss0 ++ [m] ++ [(n, [])]) = batsL (ss0 ++ [m]) := by
  obtain ⟨h1, h2⟩ := h.disk.sync
  have hmn : m.1 < n := by
    cases hm2 : m.2 with
    | nil => rw [hm2] at hz; simp [flat] at hz
    | cons y r =>
      have hc := h.chains m (by simp)
      rw [hm2] at hc
      have h3 := Sg.chain_fin hc y (by simp)
      have h4 := h.fins y (by rw [batsL_snoc, hm2]; simp)
      omega
  have hno : n ∉ (ss0 ++ [m]).map (·.1) := by
    intro hc
    obtain ⟨p, hp, e⟩ := List.mem_map.1 hc
    rcases List.mem_append.1 hp with hp | hp
    · have := h.keys p hp; omega
    · obtain rfl := List.mem_singleton.1 hp
      omega
  obtain ⟨h3, h4⟩ := h2.make hn hno hok hl
  have hbl : batsL (ss0 ++ [m] ++ [(n, [])]) = batsL (ss0 ++ [m]) := by rw [batsL_snoc, List.append_nil]
  refine ⟨_, ?_, ⟨h4, fun p hp => ?_, ?_, by simp [nextOf], ?_, fun p hp => ?_, Nat.le_refl _, h.st, ?_⟩, hbl⟩
  · unfold rollS beginS
    rw [show A.sync (Sn.nameB dir m.1).data.toList = A.sync (nmL dir m.1) from rfl, if_pos h1, h3, if_pos rfl]
  · rcases List.mem_append.1 hp with hp | hp
    · exact h.chains p hp
    · obtain rfl := List.mem_singleton.1 hp
      trivial
  · rw [hbl]; exact h.chain
  · rw [hbl]; exact h.fins
  · simp only
    rcases List.mem_append.1 hp with hp | hp
    · have := h.keys p hp; omega
    · obtain rfl := List.mem_singleton.1 hp
      exact hmn
  · rw [List.map_append, List.pairwise_append]
    refine ⟨h.srt, by simp, fun a ha b hb => ?_⟩
    obtain rfl : b = n := by simpa using hb
    obtain ⟨p, hp, rfl⟩ := List.mem_map.1 ha
    rcases List.mem_append.1 hp with hp | hp
    · have := h.keys p hp; omega
    · obtain rfl := List.mem_singleton.1 hp
      exact hmn
theorem encErr_few (x : Bt.Bat) : Bt.encErr x ≠ 14 := by
  have hrec : ∀ (rs : List Bt.Rec) (lo hi : Int), Bt.recsErr rs lo hi ≤ 4 := by
    intro rs
    induction rs with
    | nil => intro lo hi; simp [Bt.recsErr]
    | cons r rs ih =>
      intro lo hi
      unfold Bt.recsErr
      split
      · exact ih _ _
      · unfold Bt.recErr
        split
        · omega
        · split
          · omega
          · split <;> omega
  have hc : Bt.chk x ≤ 4 := by
    unfold Bt.chk
    split
    · omega
    · split
      · omega
      · split
        · omega
        · exact hrec _ _ _
  unfold Bt.encErr
  split
  · split <;> omega
  · omega
/-- Add, where the batch has bytes. -/
theorem GInv.add (h : GInv A room dir st n ss0 m) (hn : n ≤ 1099511627776) (rs : List Bt.Rec) (hx : Bt.encErr (batOf n rs) = 0) (hok : Dk.nameB (Sn.nameB dir n) = true) (hl : (ss0 ++ [m]).length < 200) (hr : (flat (batsL (ss0 ++ [m]))).length + (Bt.encB (batOf n rs)).length ≤ room) (v : LV) :
    ∃ A' v' ss0' m', AddS A dir v n ss0 m rs = (0, A', v', ss0' ++ [m']) ∧ v'.start = v.start ∧ v'.most = v.most ∧ v'.down = v.down ∧ GInv A' room dir st (n + rs.length) ss0' m' ∧ batsL (ss0' ++ [m']) = batsL (ss0 ++ [m]) ++ [batOf n rs] ∧ ss0'.length ≤ ss0.length + 1 := by
  unfold AddS addS
  rw [if_neg (by rw [hx]; simp)]
  have hno : ∀ w : LV, noteV 0 w = w := fun w => by unfold noteV; rw [if_neg (by omega)]
  by_cases hc : 0 < (flat m.2).length ∧ v.most < ((flat m.2).length + (Bt.encB (batOf n rs)).length : Nat)
  · rw [if_pos hc]
    obtain ⟨A1, e1, g1, b1⟩ := h.roll hn hc.1 hok hl v
    rw [e1, if_neg (fun hc2 => hc2 rfl)]
    obtain ⟨A2, e2, g2, b2⟩ := g1.put (x := batOf n rs) hx rfl (n' := n + rs.length) (by show ((n : Int) + rs.length) = _; omega) (by rw [b1]; exact hr) { v with safe := (n : Int) }
    simp only
    rw [e2]
    exact ⟨A2, { v with safe := (n : Int) }, _, _, by rw [hno], rfl, rfl, rfl, g2, by rw [b2, b1], by simp⟩
  · rw [if_neg hc]
    obtain ⟨A2, e2, g2, b2⟩ := h.put (x := batOf n rs) hx rfl (n' := n + rs.length) (by show ((n : Int) + rs.length) = _; omega) hr v
    rw [e2]
    exact ⟨A2, v, _, _, by rw [hno], rfl, rfl, rfl, g2, b2, by omega⟩
/-- Add, where it has none. -/
theorem add_none (rs : List Bt.Rec) (hx : Bt.encErr (batOf n rs) ≠ 0) (v : LV) : AddS A dir v n ss0 m rs = (Bt.encErr (batOf n rs), A, v, ss0 ++ [m]) := by
  unfold AddS addS
  rw [if_pos hx]
  simp only
  unfold noteV
  rw [if_neg (encErr_few _)]
end
end Go.Proofs.YtmdmdbobbepogaaGreatDoor.Lg

/- plog.Open where there is no segment yet (what find does of it is told). -/
namespace Go.Proofs.YtmdmdbobbepogaaGreatDoor.Lg
open Go.RowKit Go.Maps
set_option maxRecDepth 100000
set_option linter.unusedSimpArgs false
set_option linter.unusedVariables false
attribute [local go_sem] Oper.semAt_some
open Dk (DA DiskAt Parts Did errR errV)
open Sg (SegAt sfoot pls Both Came nextOf flat)

set_option maxHeartbeats 4000000 in
theorem open_fresh (w : World) (base d : Nat) (F : List Nat) (A : DA) (hd : DiskAt w base d F A) (dir : ByteArray) (hdir : dir.size ≤ 1000) (mo st : Nat) (hm1 : 100 ≤ mo) (hm2 : mo ≤ 1048576) (hs : st ≤ 1099511627776)
    (hmk : (A.make (Sn.nameB dir st)).1 = 0) (hsy : ((A.make (Sn.nameB dir st)).2.sync (Sn.nameB dir st).data.toList).1 = 0)
    (hv : ∀ Z, Turn F w Z → Sn.TabT Z)
    (hfind : ∀ Z lb, Turn [] w Z → LogAt Z base d F A lb (.slice none 0 0) dir ⟨mo, 0, 0, false⟩ [] → Calls Tryz.prog 26 #[.pointer (some ⟨lb, 0, none⟩)] Z fun e w' => e = .returned .nilIface ∧ Turn [] Z w') :
    Calls Tryz.prog 9 #[.pointer (some ⟨d, 0, none⟩), .string dir, .int .i64 (mo : Int), .int .i64 (st : Int)] w fun e w' => ∃ lb F' gv m, e = .returned (.tuple #[.pointer (some ⟨lb, 0, none⟩), .nilIface]) ∧
      LogAt w' base d F' ((A.make (Sn.nameB dir st)).2.sync (Sn.nameB dir st).data.toList).2 lb gv dir ⟨mo, st, st, false⟩ [m] ∧ m.abs = (st, []) ∧ Turn F w w' ∧ ∀ k ∈ lfoot F' lb gv [m], k ∈ F ∨ w.heap.size ≤ k := by
  have HD := hide hd
  have HV := hide hv
  have HF := hide hfind
  have HMK := hide hmk
  have HSY := hide hsy
  have hbw := Sg.base_le hd
  clear hd hv hfind hmk hsy
  go_enter Tryz.func9, Tryz.ntmps9
  go_wp2_with fail
  obtain ⟨w0, hw0⟩ : ∃ w0, w0 = w.alloc (.cells (boxC d dir (.slice none 0 0) ⟨mo, 0, 0, false⟩) 70) := ⟨_, rfl⟩
  have ht0 : Turn [] w w0 := by rw [hw0]; exact (Turn.refl [] w).alloc _
  have hl0 : LogAt w0 base d F A w.heap.size (.slice none 0 0) dir ⟨mo, 0, 0, false⟩ [] :=
    ⟨HD.out.kept ht0 (by simp), by rw [hw0]; exact heap_new w _, .inl ⟨rfl, rfl⟩, hbw, by simp, List.Pairwise.nil⟩
  unfold boxC at hw0
  simp only at hw0
  rw [← hw0]
  refine (HF.out w0 w.heap.size ht0 hl0).mono ?_
  rintro e w1 ⟨rfl, ht1⟩
  have hl1 := hl0.still ht1
  have c3 := hl1.c3
  have hlb := lt_of_heap hl1.box
  have HL1 := hide hl1
  have HT1 := hide (ht0.same ht1)
  clear hw0 ht0 hl0 ht1 hl1
  go_wp2_with fail
  refine (begin_any w1 base d F A w.heap.size _ dir _ [] HL1.out (by simp) hdir st hs (HV.out w1 (HT1.out.mono (by simp)))).mono ?_
  rintro e w2 ⟨rfl, hd2⟩
  unfold beginS at hd2 ⊢
  simp only [List.map_nil, List.nil_append] at hd2 ⊢
  rw [HMK.out, if_pos rfl] at hd2
  rw [HMK.out, show errR 0 = .nilIface from rfl]
  obtain ⟨A2, hA2⟩ : ∃ A2, A2 = (A.make (Sn.nameB dir st)).2 := ⟨_, rfl⟩
  rw [← hA2] at hd2 HSY
  have HAE := hide hA2
  obtain ⟨F2, gv2, ms2, hl2, hm2, ht2, hf2⟩ := hd2
  obtain ⟨ms20, m2, rfl, hm20, hm2a⟩ := split_last (r := []) (by simpa using hm2)
  obtain rfl := List.map_eq_nil_iff.1 hm20
  rw [List.nil_append] at hl2 hf2
  have hmn : m2.n = st := congrArg Prod.fst hm2a
  have hmx : m2.xs = [] := congrArg Prod.snd hm2a
  have hsy := sync_any w2 base d F2 A2 w.heap.size gv2 dir _ [] m2 hl2 (by simp) (by rw [hmx]; simp) (by rw [hmn]; exact Sg.nameB_len hs hdir)
  rw [hmn, hmx, HSY.out] at hsy
  have HS := hide hsy
  have HT2 := hide ((HT1.out.mono (T := F) (by simp)).trans ht2 (fun k hk => by
    rcases mem_lfoot.1 hk with rfl | hk | ⟨x, hx, -⟩ | hk
    · exact .inr (Nat.le_refl _)
    · simp [Value.ownBlock] at hk
    · simp at hx
    · exact .inl hk))
  have hlf : ∀ k ∈ lfoot F2 w.heap.size gv2 [m2], k ∈ F ∨ w.heap.size ≤ k := fun k hk => by
    rcases hf2 k hk with h | h
    · rcases mem_lfoot.1 h with rfl | h | ⟨x, hx, -⟩ | h
      · exact .inr (Nat.le_refl _)
      · simp [Value.ownBlock] at h
      · simp at hx
      · exact .inl h
    · exact .inr (Nat.le_trans HT1.out.size h)
  have HLF := hide hlf
  have HM2 : Hid (m2.abs = (st, [])) := hm2a
  clear c3 hlb hA2 hl2 hm2 ht2 hf2 hm2a hm20 hmn hmx hsy hlf
  go_wp2_with fail
  refine HS.out.mono ?_
  rintro e w3 ⟨rfl, hd3⟩
  rw [show errR 0 = .nilIface from rfl]
  obtain ⟨F3, gv3, ms3, hl3, hm3, ht3, hf3⟩ := hd3
  obtain ⟨ms30, m3, rfl, hm30, hm3a⟩ := split_last (r := []) (by simpa using hm3)
  obtain rfl := List.map_eq_nil_iff.1 hm30
  rw [List.nil_append] at hl3 hf3
  have hm3' : m3.abs = (st, []) := hm3a.trans HM2.out
  have hmn : m3.n = st := congrArg Prod.fst hm3'
  have hmx : m3.xs = [] := congrArg Prod.snd hm3'
  have hv3 : safeIf 0 (⟨mo, 0, 0, false⟩ : LV) (nextOf st []) = ⟨mo, 0, st, false⟩ := rfl
  rw [hv3] at hl3
  obtain ⟨g, cap, hgv, hc, -⟩ := hl3.row.at smC_len (j := 0) (by simp)
  rw [List.length_singleton] at hgv
  subst hgv
  have c3 := hl3.c3
  have hlb := lt_of_heap hl3.box
  have c0 : w3.cell? ⟨g, 0, none⟩ = some (.pointer (some ⟨m3.sb, 0, none⟩)) := hc 0 (by omega)
  have hba := Sg.baseOf_any w3 base d m3.sb m3.sv _ m3.n _ (hl3.segs m3 (by simp))
  have hen := end_any w3 base d F3 _ w.heap.size _ dir _ [] m3 hl3 (by simp) (by rw [hmx]; simp)
  rw [hmn] at hba
  rw [hmn, hmx, show nextOf (st : Int) [] = (st : Int) from rfl] at hen
  have HM3 := hide hm3'
  have HL3 := hide hl3
  have HBA := hide hba
  have HEN := hide hen
  have HT3 := hide (HT2.out.trans ht3 HLF.out)
  have HF3 : Hid (∀ k ∈ lfoot F3 w.heap.size (.slice (some ⟨g, 0, none⟩) 1 cap) [m3], k ∈ F ∨ w.heap.size ≤ k) := fun k hk => by
    rcases hf3 k hk with h | h
    · exact HLF.out k h
    · exact .inr (Nat.le_trans HT2.out.size h)
  clear hm3a hm3 hm30 hm3' hmn hmx hv3 hl3 hc hba hen ht3 hf3 HS
  go_wp2_with fail
  refine HBA.out.mono ?_
  rintro e w4 ⟨rfl, rfl⟩
  go_wp2_with fail
  refine HEN.out.mono ?_
  rintro e w4 ⟨rfl, ht4⟩
  have hl4 := HL3.out.still ht4
  have hlb4 := lt_of_heap hl4.box
  have c44 := hl4.c4
  have f4 := hl4.fr 4
  have HL4 := hide hl4
  have HT4 := hide (HT3.out.same (ht4.mono (by simp)))
  clear ht4 hl4 HBA HEN c3 c0 hlb
  go_wp2
  go_ret2
  rw [← HAE.out]
  refine ⟨_, F3, _, m3, rfl, ?_, HM3.out, HT4.out.setCell (.inr (Nat.le_refl _)) _, HF3.out⟩
  exact HL4.out.setBox (i := 4) (u := .int .i64 (st : Int)) (v' := ⟨mo, st, st, false⟩) rfl
end Go.Proofs.YtmdmdbobbepogaaGreatDoor.Lg

/- keep, fate: what a crash does with one file. -/
namespace Go.Proofs.YtmdmdbobbepogaaGreatDoor.Dk
open Go.RowKit Go.Maps
set_option linter.unusedSimpArgs false
set_option linter.unusedVariables false

/-- What a crash's fates tell of the k-th file. -/
def fateN (fs : List UInt8) (k : Nat) : Nat := if fs.length = 0 then 0 else (fs.getD (k % fs.length) 0).toNat

set_option maxRecDepth 100000 in
set_option maxHeartbeats 1000000 in
theorem fate_any (w : World) (v : Value) (fs : List UInt8) (hx : SliceAt w v (fs.map encB)) (k : Nat) (hk : k ≤ 1048576) (hl : fs.length ≤ 9223372036854775807) :
    Calls Tryz.prog 73 #[v, .int .i64 k] w fun e w' => e = .returned (.int .i64 (fateN fs k)) ∧ w = w' := by
  rcases hx with ⟨rfl, hb⟩ | ⟨a, c, rfl, hc⟩
  · have hb' : fs = [] := by simpa using hb
    subst hb'
    go_enter Tryz.func73, Tryz.ntmps73
    go_wp2
    go_ret
    exact ⟨rfl, rfl⟩
  · simp only [List.length_map]
    by_cases h0 : fs.length = 0
    · have HE : Hid (fateN fs k = 0) := by show _ = _; simp [fateN, h0]
      have hz : ((fs.length : Int) == 0) = true := by simp [h0]
      clear hc h0
      go_enter Tryz.func73, Tryz.ntmps73
      go_wp2
      go_ret
      exact ⟨ret_int (by rw [HE.out]; rfl), rfl⟩
    · have hlt : k % fs.length < fs.length := Nat.mod_lt _ (Nat.pos_of_ne_zero h0)
      have HE : Hid (fateN fs k = (fs.getD (k % fs.length) 0).toNat) := by show _ = _; simp [fateN, h0]
      have hz : ((fs.length : Int) == 0) = false := by rw [beq_eq_false_iff_ne]; omega
      have hcell := hc (k % fs.length) (encB (fs.getD (k % fs.length) 0)) (by simp [List.getElem?_eq_getElem hlt, List.getD])
      unfold encB at hcell
      have hb8 : (fs.getD (k % fs.length) 0).toNat < 256 := (fs.getD (k % fs.length) 0).toNat_lt
      clear hc
      have hpos : (0 : Int) < (fs.length : Int) := by omega
      go_enter Tryz.func73, Tryz.ntmps73
      go_wp2
      go_ret
      exact ⟨ret_int (by rw [HE.out]; have := UInt8.toNat_lt fs[k % fs.length]; simp [List.getD, List.getElem?_eq_getElem hlt]; exact IntWalk.wrap64_in _ (by omega)), rfl⟩

end Go.Proofs.YtmdmdbobbepogaaGreatDoor.Dk

/- The library at this program, in plain words (made by the guide's lay-plain). -/
namespace Go.Proofs
open Go.Shelf
def Tryz.keys99_ren : Go.Shelf.Ren := ⟨fun | 7 => 99 | 10 => 130 | n => n, fun | 23 => 63 | 26 => 9 | 3 => 121 | 28 => 119 | 0 => 0 | 27 => 118 | 33 => 145 | 4 => 4 | n => n, fun | n => n⟩
theorem Tryz.keys99 : Go.Proofs.SlLaysZ.n7 Tryz.prog Tryz.keys99_ren := {
  mixed := by kernel_rfl
  f7 := ⟨Tryz.f99.name, by decide, Tryz.func99.trans (congrArg some (by kernel_rfl))⟩
  f10 := ⟨Tryz.f130.name, by decide, Tryz.func130.trans (congrArg some (by kernel_rfl))⟩
  t0 := Tryz.underlying0
  a0 := Tryz.isAgg0
  z0 := Tryz.sizeOf0
  v0 := Tryz.zeroValue0
  t4 := Tryz.underlying4
  a4 := Tryz.isAgg4
  z4 := Tryz.sizeOf4
  v4 := Tryz.zeroValue4
  t23 := Tryz.underlying63
  a23 := Tryz.isAgg63
  z23 := Tryz.sizeOf63
  v23 := Tryz.zeroValue63
  t26 := Tryz.underlying9
  a26 := Tryz.isAgg9
  z26 := Tryz.sizeOf9
  v26 := Tryz.zeroValue9
  t27 := Tryz.underlying118
  a27 := Tryz.isAgg118
  z27 := Tryz.sizeOf118
  v27 := Tryz.zeroValue118
  t28 := Tryz.underlying119
  a28 := Tryz.isAgg119
  z28 := Tryz.sizeOf119
  v28 := Tryz.zeroValue119
  t33 := Tryz.underlying145
  a33 := Tryz.isAgg145
  z33 := Tryz.sizeOf145
  v33 := Tryz.zeroValue145 }
def Tryz.sorted98_ren : Go.Shelf.Ren := ⟨fun | 6 => 98 | 8 => 109 | 9 => 129 | 11 => 138 | 13 => 111 | 12 => 166 | 23 => 148 | 24 => 149 | 14 => 185 | 15 => 186 | 16 => 187 | 17 => 188 | 18 => 189 | 19 => 190 | 20 => 191 | 21 => 192 | 22 => 193 | 25 => 205 | 26 => 171 | 27 => 172 | 28 => 206 | 29 => 207 | 30 => 208 | 31 => 215 | n => n, fun | 26 => 9 | 28 => 119 | 24 => 93 | 0 => 0 | 3 => 3 | 37 => 74 | 48 => 176 | 50 => 206 | 4 => 4 | 40 => 198 | 39 => 197 | 45 => 202 | 5 => 5 | 9 => 9 | 51 => 227 | 55 => 231 | 57 => 252 | 58 => 253 | 33 => 145 | n => n, fun | n => n⟩
theorem Tryz.sorted98 : Go.Proofs.SlLaysZ.n6 Tryz.prog Tryz.sorted98_ren := {
  mixed := by kernel_rfl
  f6 := ⟨Tryz.f98.name, by decide, Tryz.func98.trans (congrArg some (by kernel_rfl))⟩
  f8 := ⟨Tryz.f109.name, by decide, Tryz.func109.trans (congrArg some (by kernel_rfl))⟩
  f11 := ⟨Tryz.f138.name, by decide, Tryz.func138.trans (congrArg some (by kernel_rfl))⟩
  t0 := Tryz.underlying0
  a0 := Tryz.isAgg0
  z0 := Tryz.sizeOf0
  v0 := Tryz.zeroValue0
  t24 := Tryz.underlying93
  a24 := Tryz.isAgg93
  z24 := Tryz.sizeOf93
  v24 := Tryz.zeroValue93
  t26 := Tryz.underlying9
  a26 := Tryz.isAgg9
  z26 := Tryz.sizeOf9
  v26 := Tryz.zeroValue9
  t28 := Tryz.underlying119
  a28 := Tryz.isAgg119
  z28 := Tryz.sizeOf119
  v28 := Tryz.zeroValue119
  i26 := by kernel_rfl }
def Tryz.sort129_ren : Go.Shelf.Ren := ⟨fun | 6 => 129 | 8 => 111 | 9 => 166 | 19 => 148 | 20 => 149 | 21 => 185 | 22 => 186 | 23 => 187 | 24 => 188 | 25 => 189 | 26 => 190 | 27 => 191 | 28 => 192 | 29 => 193 | 36 => 205 | 31 => 171 | 32 => 172 | 37 => 206 | 38 => 207 | 39 => 208 | 41 => 215 | n => n, fun | 27 => 93 | 29 => 9 | 3 => 3 | 32 => 74 | 26 => 93 | 0 => 0 | 44 => 176 | 46 => 206 | 4 => 4 | 36 => 198 | 35 => 197 | 41 => 202 | 5 => 5 | 9 => 9 | 53 => 227 | 57 => 231 | 63 => 252 | 64 => 253 | n => n, fun | n => n⟩
theorem Tryz.sort129 : Go.Proofs.SlLaysM.n6 Tryz.prog Tryz.sort129_ren := {
  mixed := by kernel_rfl
  f6 := ⟨Tryz.f129.name, by decide, Tryz.func129.trans (congrArg some (by kernel_rfl))⟩
  f8 := Tryz.func111.trans (congrArg some (by kernel_rfl))
  f9 := ⟨Tryz.f166.name, by decide, Tryz.func166.trans (congrArg some (by kernel_rfl))⟩
  f19 := Tryz.func148.trans (congrArg some (by kernel_rfl))
  f20 := Tryz.func149.trans (congrArg some (by kernel_rfl))
  f21 := ⟨Tryz.f185.name, by decide, Tryz.func185.trans (congrArg some (by kernel_rfl))⟩
  f22 := ⟨Tryz.f186.name, by decide, Tryz.func186.trans (congrArg some (by kernel_rfl))⟩
  f23 := ⟨Tryz.f187.name, by decide, Tryz.func187.trans (congrArg some (by kernel_rfl))⟩
  f24 := ⟨Tryz.f188.name, by decide, Tryz.func188.trans (congrArg some (by kernel_rfl))⟩
  f25 := ⟨Tryz.f189.name, by decide, Tryz.func189.trans (congrArg some (by kernel_rfl))⟩
  f26 := ⟨Tryz.f190.name, by decide, Tryz.func190.trans (congrArg some (by kernel_rfl))⟩
  f27 := ⟨Tryz.f191.name, by decide, Tryz.func191.trans (congrArg some (by kernel_rfl))⟩
  f28 := ⟨Tryz.f192.name, by decide, Tryz.func192.trans (congrArg some (by kernel_rfl))⟩
  f29 := ⟨Tryz.f193.name, by decide, Tryz.func193.trans (congrArg some (by kernel_rfl))⟩
  f31 := Tryz.func171.trans (congrArg some (by kernel_rfl))
  f32 := Tryz.func172.trans (congrArg some (by kernel_rfl))
  f36 := ⟨Tryz.f205.name, by decide, Tryz.func205.trans (congrArg some (by kernel_rfl))⟩
  f37 := ⟨Tryz.f206.name, by decide, Tryz.func206.trans (congrArg some (by kernel_rfl))⟩
  f38 := ⟨Tryz.f207.name, by decide, Tryz.func207.trans (congrArg some (by kernel_rfl))⟩
  f39 := ⟨Tryz.f208.name, by decide, Tryz.func208.trans (congrArg some (by kernel_rfl))⟩
  f41 := ⟨Tryz.f215.name, by decide, Tryz.func215.trans (congrArg some (by kernel_rfl))⟩
  t0 := Tryz.underlying0
  a0 := Tryz.isAgg0
  z0 := Tryz.sizeOf0
  v0 := Tryz.zeroValue0
  t3 := Tryz.underlying3
  a3 := Tryz.isAgg3
  z3 := Tryz.sizeOf3
  v3 := Tryz.zeroValue3
  t4 := Tryz.underlying4
  a4 := Tryz.isAgg4
  z4 := Tryz.sizeOf4
  v4 := Tryz.zeroValue4
  t5 := Tryz.underlying5
  a5 := Tryz.isAgg5
  z5 := Tryz.sizeOf5
  v5 := Tryz.zeroValue5
  t9 := Tryz.underlying9
  a9 := Tryz.isAgg9
  z9 := Tryz.sizeOf9
  v9 := Tryz.zeroValue9
  t26 := Tryz.underlying93
  a26 := Tryz.isAgg93
  z26 := Tryz.sizeOf93
  v26 := Tryz.zeroValue93
  t27 := Tryz.underlying93
  a27 := Tryz.isAgg93
  z27 := Tryz.sizeOf93
  v27 := Tryz.zeroValue93
  t29 := Tryz.underlying9
  a29 := Tryz.isAgg9
  z29 := Tryz.sizeOf9
  v29 := Tryz.zeroValue9
  t32 := Tryz.underlying74
  a32 := Tryz.isAgg74
  z32 := Tryz.sizeOf74
  v32 := Tryz.zeroValue74
  t35 := Tryz.underlying197
  a35 := Tryz.isAgg197
  z35 := Tryz.sizeOf197
  v35 := Tryz.zeroValue197
  t36 := Tryz.underlying198
  a36 := Tryz.isAgg198
  z36 := Tryz.sizeOf198
  v36 := Tryz.zeroValue198
  t41 := Tryz.underlying202
  a41 := Tryz.isAgg202
  z41 := Tryz.sizeOf202
  v41 := Tryz.zeroValue202
  t44 := Tryz.underlying176
  a44 := Tryz.isAgg176
  z44 := Tryz.sizeOf176
  v44 := Tryz.zeroValue176
  t46 := Tryz.underlying206
  a46 := Tryz.isAgg206
  z46 := Tryz.sizeOf206
  v46 := Tryz.zeroValue206
  t53 := Tryz.underlying227
  a53 := Tryz.isAgg227
  z53 := Tryz.sizeOf227
  v53 := Tryz.zeroValue227
  t57 := Tryz.underlying231
  a57 := Tryz.isAgg231
  z57 := Tryz.sizeOf231
  v57 := Tryz.zeroValue231
  t63 := Tryz.underlying252
  a63 := Tryz.isAgg252
  z63 := Tryz.sizeOf252
  v63 := Tryz.zeroValue252
  t64 := Tryz.underlying253
  a64 := Tryz.isAgg253
  z64 := Tryz.sizeOf253
  v64 := Tryz.zeroValue253 }
end Go.Proofs

/- The library's contracts on the sorted keys of a map, at this program. -/
namespace Go.Proofs
open Go.RowKit Go.Maps Go.Sort Go.Shelf


theorem Tryz.sorts98 (m : Nat) : AnyZ.SortsIn Tryz.prog Tryz.sorted98_ren Fence.wide m :=
  ⟨fun blk off cap ss W hH hblk hsz => callsIn_wide.2 (AnyM.slices_Sort_string Tryz.sort129 blk off cap ss W hH hblk hsz),
   fun p cap W => callsIn_wide.2 (AnyM.slices_Sort_string_none Tryz.sort129 p cap W)⟩

theorem Tryz.maps_Keys_99 (mb : Option Nat) (W : World) : CallsIn Fence.wide 5 Tryz.prog 99 #[.map mb] W fun e w' => e = .returned (.func (.func 130) #[] #[.pointer (some ⟨W.heap.size, 0, none⟩)]) ∧ w' = W.alloc (.cells #[.map mb] 63) :=
  AnyZ.keys_in Tryz.keys99 Fence.wide 5 trivial rfl mb W

set_option maxHeartbeats 1000000 in
theorem Tryz.slices_Sorted_keys_98_99 {H : Type} (b nn : Nat) (D0 : DataW H) (R : Value → Option (DataW H × List MemPlace)) (w : World) (hown : w.ownsMap Tryz.prog 9 R b nn D0) (hmax : Maps.size D0 ≤ maxLen) (hbytes : Maps.size D0 * 16 ≤ 140737488355328) :
    CallsIn Fence.wide 5 Tryz.prog 98 #[.func (.func 130) #[] #[.pointer (some ⟨w.heap.size, 0, none⟩)]] (w.alloc (.cells #[.map (some b)] 63)) fun e w' => ∃ (v : Value) (ss : List (List UInt8)), e = .returned v ∧ ss.Perm (strKeys D0) ∧
      w'.ownsRow (w.alloc (.cells #[.map (some b)] 63)).heap.size 9 1 v ss.length ((ss.mergeSort (fun x y => decide (x ≤ y))).map encStr) ∧ (v = .slice none 0 0 ↔ ss = []) ∧ Below (w.alloc (.cells #[.map (some b)] 63)).heap.size (w.alloc (.cells #[.map (some b)] 63)) w' := by
  have hbl := hown.lt
  have hseq : SeqGives Fence.wide 2 Tryz.prog 130 #[.pointer (some ⟨w.heap.size, 0, none⟩)] encStr (fun ss => ss.Perm (strKeys D0)) (Maps.size D0) (w.alloc (.cells #[.map (some b)] 63)) :=
    AnyZ.keys_gives (ρ := Tryz.keys99_ren) { Tryz.keys99 with } Fence.wide _ trivial rfl (by omega) w.heap.size b nn D0 _ (by simp) (by simp) (by
      obtain ⟨es, clock, hb, Ft, hs, hD⟩ := hown
      exact ⟨es, clock, (Below.heap_alloc _ _ b hbl).trans hb, Ft, hs, hD⟩)
  exact AnyZ.sorted_in Tryz.sorted98 Fence.wide 5 trivial trivial trivial trivial rfl (by omega) (Tryz.sorts98 _) (enters_of Tryz.func129 (by kernel_rfl) rfl) 130 #[.pointer (some ⟨w.heap.size, 0, none⟩)] trivial (enters_of Tryz.func130 (by kernel_rfl) rfl) _ _ hmax hbytes _ hseq

set_option maxHeartbeats 1000000 in
theorem Tryz.slices_Sorted_keys_nil_98_99 (w : World) :
    CallsIn Fence.wide 5 Tryz.prog 98 #[.func (.func 130) #[] #[.pointer (some ⟨w.heap.size, 0, none⟩)]] (w.alloc (.cells #[.map none] 63)) fun e w' => ∃ (v : Value) (ss : List (List UInt8)), e = .returned v ∧ ss = [] ∧
      w'.ownsRow (w.alloc (.cells #[.map none] 63)).heap.size 9 1 v ss.length ((ss.mergeSort (fun x y => decide (x ≤ y))).map encStr) ∧ (v = .slice none 0 0 ↔ ss = []) ∧ Below (w.alloc (.cells #[.map none] 63)).heap.size (w.alloc (.cells #[.map none] 63)) w' := by
  have hseq : SeqGives Fence.wide 2 Tryz.prog 130 #[.pointer (some ⟨w.heap.size, 0, none⟩)] encStr (fun ss : List (List UInt8) => ss = []) 0 (w.alloc (.cells #[.map none] 63)) :=
    AnyZ.keys_gives_nil (ρ := Tryz.keys99_ren) { Tryz.keys99 with } Fence.wide _ trivial rfl w.heap.size _ (by simp) (by simp)
  exact AnyZ.sorted_in Tryz.sorted98 Fence.wide 5 trivial trivial trivial trivial rfl (by omega) (Tryz.sorts98 _) (enters_of Tryz.func129 (by kernel_rfl) rfl) 130 #[.pointer (some ⟨w.heap.size, 0, none⟩)] trivial (enters_of Tryz.func130 (by kernel_rfl) rfl) _ 0 (Nat.zero_le _) (by omega) _ hseq



end Go.Proofs
