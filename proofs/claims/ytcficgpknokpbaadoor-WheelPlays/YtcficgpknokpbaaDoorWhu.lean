/- conveyorlaw.WheelPlays, walked. -/
import Derived.Test.YtcficgpknokpbaaDoorWht
import Derived.Test.YtcficgpknokpbaaDoorWhw
namespace Go.Proofs.YtcficgpknokpbaaDoor.Wh
open Go.RowKit Go.Maps Go.Shelf
set_option maxRecDepth 100000
set_option linter.unusedSimpArgs false
set_option linter.unusedVariables false
attribute [local go_sem] Oper.semAt_some

theorem oper_appendW {P : Program} {o : Oper} {a : Act} {K : Act → World → Prop} {Q : Exit → Act → World → Prop} {w w' : World} {s x : Operand} {t tx : TypeId} {v xv v' : Value}
    (ho : o.op = .call { callee := .builtin .append, args := #[s, x], argTypes := #[t, tx] }) (hs : a.eval s = v) (hx : a.eval x = xv) (hr : (Builtin.append_ #[t, tx] o.type #[v, xv]).run P w = .ok v' w') (h : K (a.put o.dst v') w') : o.wp P a w K Q := by
  unfold Oper.wp execOp
  simp only [ho, resolve, invoke, builtin, Sem.run_bind, Sem.run_pure, Result.andThen_ok, List.map_toArray, List.map_cons, List.map_nil, hs, hx, hr]
  exact h
theorem wf_bd {n : Int} (h1 : -9223372036854775808 ≤ n) (h2 : n ≤ 9223372036854775807) : (Lit.int .i64 n).wf = true := by
  simp [Lit.wf, IntKind.min, IntKind.max, IntKind.signed, IntKind.bits]
  omega
def lenV : Value → Nat
  | .slice _ n _ => n
  | _ => 0
/-- Where a round of the law stands. -/
def PlW (W : World) (i : Nat) (av nv : Value) (w : World) : Prop :=
  ∃ (now : Nat) (F : List Nat) (all : List Tm), nv = .int .i64 (now : Int) ∧ now ≤ 1099511627776 ∧ all.length ≤ i ∧ WheelAt w W.heap.size W.heap.size F now all ∧ LR w W.heap.size av all ∧ Turn [] W w
theorem PlW.still {W w w' : World} {i : Nat} {av nv : Value} (h : PlW W i av nv w) (ht : Turn [] w w') : PlW W i av nv w' := by
  obtain ⟨now, F, all, h1, h2, h3, h4, h5, h6⟩ := h
  exact ⟨now, F, all, h1, h2, h3, h4.still ht, h5.still ht, h6.same ht⟩
theorem PlW.next {W w : World} {i : Nat} {av nv : Value} (h : PlW W i av nv w) : PlW W (i + 1) av nv w := by
  obtain ⟨now, F, all, h1, h2, h3, h4, h5, h6⟩ := h
  exact ⟨now, F, all, h1, h2, by omega, h4, h5, h6⟩
theorem PlW.turned {W w w' : World} {i now now' : Nat} {F F' : List Nat} {all all' : List Tm} {av' : Value} (hw : WheelAt w W.heap.size W.heap.size F now all) (ht0 : Turn [] W w) (ht : Turn F w w') (h1 : now' ≤ 1099511627776) (h2 : all'.length ≤ i) (h3 : WheelAt w' W.heap.size W.heap.size F' now' all') (h4 : LR w' W.heap.size av' all') : PlW W i av' (.int .i64 (now' : Int)) w' :=
  ⟨now', F', all', rfl, h1, h2, h3, h4, ht0.trans ht (fun q hq => .inr (hw.lt q hq).1)⟩
set_option maxHeartbeats 8000000 in
theorem plays_any (W : World) (v0 : Value) (ds : List TnV) (h0 : TnsAt W v0 ds) (hg : As.ErrT W) : Calls Tryd.prog 3 #[v0] W fun e w' => e = .returned (.bool true) ∧ Below W.heap.size W w' := by
  have HA0 := hide h0
  have HG := hide hg
  obtain ⟨a, c, rfl, hlc, hcm, -⟩ := h0
  have hmx : maxLen = 9223372036854775807 := by simp [maxLen]
  rw [hmx] at hcm
  clear hg hmx
  by_cases hn : 150 < ds.length
  · have hn1 : 150 < (ds.length : Int) := by omega
    go_enter Tryd.func3, Tryd.ntmps3
    go_wp2
    go_ret
    exact ⟨rfl, Below.refl _ _⟩
  have hn1 : ¬ 150 < (ds.length : Int) := by omega
  have hz := zeroW
  have hw0 := new_wheel W W.heap.size (Nat.le_refl _)
  have HW0 := hide hw0
  clear hw0
  go_enter Tryd.func3, Tryd.ntmps3
  go_wp2
  go_loopw [4, 5, 6] (fun av nv iv wr => ∃ i : Nat, i ≤ ds.length ∧ iv = .int .i64 (i : Int) ∧ PlW W i av nv wr) (fun _ _ iv _ => ds.length - (intOf iv).toNat)
  case atStart => exact ⟨0, Nat.zero_le _, rfl, 0, _, [], rfl, by omega, by simp, HW0.out, .inl ⟨rfl, rfl⟩, (Turn.refl _ _).alloc _⟩
  case round =>
    obtain ⟨i, hi, rfl, now, F, all, rfl, hnow, hlen, hwh, hrow, htw⟩ := hrel
    have HWH := hide hwh
    have HROW := hide hrow
    have HTW := hide htw
    obtain ⟨la, lc, rfl, hl1, hl2⟩ := hrow.form
    clear hwh hrow htw
    by_cases hlt : i < ds.length
    · have hlt1 : (i : Int) < ds.length := by omega
      obtain ⟨p, rfl, hok, hp0, hp1, hp2⟩ := (HA0.out.kept HTW.out (by simp)).three hlt
      obtain ⟨x, hx⟩ : ∃ x, x = ds[i] := ⟨_, rfl⟩
      rw [← hx] at hok hp0 hp1 hp2
      have HOK := hide hok
      clear hx hok
      obtain ⟨wo, rfl⟩ : ∃ wo, wo = wr := ⟨_, rfl⟩
      obtain ⟨wb, hwb⟩ : ∃ wb, wb = wo.alloc (.cells #[.int .i64 x.what, .int .i64 x.a, .int .i64 x.id] 31) := ⟨_, rfl⟩
      have hal : Turn [] wo wb := by rw [hwb]; exact (Turn.refl [] wo).alloc _
      have hbox : wb.heap[wo.heap.size]? = some (.cells #[.int .i64 x.what, .int .i64 x.a, .int .i64 x.id] 31 (0, 0)) := by rw [hwb]; exact heap_new wo _
      have HAL := hide hal
      have HWB := hide hwb
      have HBX := hide hbox
      clear hal hwb hbox
      go_wp2
      rw [show wo.alloc (.cells #[.int .i64 x.what, .int .i64 x.a, .int .i64 x.id] 31) = wb from HWB.out.symm]
      go_loopw [8, 9] (fun kv jv wq => ∃ j : Nat, j ≤ all.length ∧ jv = .int .i64 (j : Int) ∧ kv = .int .i64 (lastK all x.id j) ∧ Turn [] wb wq) (fun _ jv _ => all.length - (intOf jv).toNat)
      case atStart => exact ⟨0, Nat.zero_le _, rfl, rfl, Turn.refl _ _⟩
      case round =>
        obtain ⟨j, hj, rfl, rfl, htq⟩ := hrel
        have HTQ := hide htq
        clear htq hp0 hp1 hp2
        by_cases hjl : j < all.length
        · have hjl1 : (j : Int) < all.length := by omega
          obtain ⟨y, hy⟩ : ∃ y, y = all[j] := ⟨_, rfl⟩
          obtain ⟨g, cap, eg, kg, -⟩ := HROW.out.at tmC_len hjl
          simp only [Value.slice.injEq, true_and] at eg
          obtain ⟨rfl, rfl⟩ := eg
          have hce : ∀ Z, Turn [] wb Z → Z.cell? ⟨g, j * 2 + 1, none⟩ = some (.int .i64 y.2) ∧ Z.cell? ⟨wo.heap.size, 2, none⟩ = some (.int .i64 x.id) ∧ wo.heap.size < Z.heap.size := fun Z hZ => by
            obtain ⟨g', cap', e, q1, -⟩ := ((HROW.out.still HAL.out).still hZ).at tmC_len hjl
            simp only [Value.slice.injEq, Option.some.injEq, Addr.mk.injEq, true_and] at e
            obtain ⟨⟨rfl, -⟩, -⟩ := e
            have r1 := q1 1 (by omega)
            rw [← hy] at r1
            have hb := hZ.heap HBX.out (by simp)
            exact ⟨by simpa [tmC] using r1, by rw [cell_of hb]; rfl, lt_of_heap hb⟩
          have hnx : lastK all x.id (j + 1) = if y.2 = x.id then (j : Int) else lastK all x.id j := by
            show (if (all.getD j (0, 0)).2 = x.id then (j : Int) else lastK all x.id j) = _
            rw [List.getD_eq_getElem?_getD, List.getElem?_eq_getElem hjl, Option.getD_some, ← hy]
          have HNX := hide hnx
          have HC := hide hce
          obtain ⟨kv, hkv⟩ : ∃ kv, kv = lastK all x.id j := ⟨_, rfl⟩
          rw [← hkv] at HNX ⊢
          clear hce hnx hkv kg hy
          by_cases e : y.2 = x.id
          · have eb : (y.2 == x.id) = true := by simpa using e
            have hne := HNX.out
            rw [if_pos e] at hne
            have HNE := hide hne
            clear hne e
            go_wp2
            refine wp_region_loose (Turn []) (by kernel_rfl) (by kernel_rfl) (by kernel_rfl) (by kernel_rfl) rfl (Turn.refl _) (fun _ _ _ h k => h.same k) ?_
            apply Lo.runx 1 rfl rfl [] (by kernel_rfl) (Turn.refl _)
            apply Exists.intro; apply And.intro
            · intro u w1 hR hF
              clear hF
              refine ⟨rfl, fun a ha K hK => ?_⟩
              have e4 := ha 4
              conv at e4 => rhs; whnf
              clear ha
              go_simp
              refine hK _ ?_; rfl
            apply Lo.runx 2 rfl rfl [] (by kernel_rfl) (Turn.refl _)
            apply Exists.intro; apply And.intro
            · intro u w1 hR hF
              clear hF
              refine ⟨rfl, fun a ha K hK => ?_⟩
              have e9 := ha 9
              conv at e9 => rhs; whnf
              clear ha
              go_simp
              refine hK _ ?_; rfl
            apply Lo.runx 3 rfl rfl [0, 1] (by kernel_rfl) (Turn.refl _)
            apply Exists.intro; apply And.intro
            · intro u w1 hR hF
              obtain ⟨h0, h1, -⟩ := hF
              refine ⟨rfl, fun a ha K hK => ?_⟩
              have e35 := (ha 35).trans h0
              have e36 := (ha 36).trans h1
              clear ha h0 h1
              go_simp
              refine hK _ ?_; rfl
            apply Lo.runx 4 rfl rfl [2] (by kernel_rfl) (Turn.refl _)
            apply Exists.intro; apply And.intro
            · intro u w1 hR hF
              obtain ⟨h2, -⟩ := hF
              refine ⟨rfl, fun a ha K hK => ?_⟩
              have e37 := (ha 37).trans h2
              clear ha h2
              go_simp
              refine hK _ ?_; rfl
            apply Lo.runx 5 rfl rfl [3] (by kernel_rfl) (Turn.refl _)
            apply Exists.intro; apply And.intro
            · intro u w1 hR hF
              obtain ⟨h3, -⟩ := hF
              refine ⟨rfl, fun a ha K hK => ?_⟩
              have e38 := (ha 38).trans h3
              clear ha h3
              obtain ⟨q1, q2, q3⟩ := HC.out w1 (HTQ.out.same (((Turn.refl [] _).drew).same hR))
              go_simp
              refine hK _ ?_; rfl
            apply Lo.runx 6 rfl rfl [] (by kernel_rfl) (Turn.refl _)
            apply Exists.intro; apply And.intro
            · intro u w1 hR hF
              clear hF
              refine ⟨rfl, fun a ha K hK => ?_⟩
              have e7 := ha 7
              conv at e7 => rhs; whnf
              clear ha
              obtain ⟨q1, q2, q3⟩ := HC.out w1 (HTQ.out.same (((Turn.refl [] _).drew).same hR))
              go_simp
              refine hK _ ?_; rfl
            apply Lo.runx 7 rfl rfl [5] (by kernel_rfl) (Turn.refl _)
            apply Exists.intro; apply And.intro
            · intro u w1 hR hF
              obtain ⟨h5, -⟩ := hF
              refine ⟨rfl, fun a ha K hK => ?_⟩
              have e40 := (ha 40).trans h5
              clear ha h5
              obtain ⟨q1, q2, q3⟩ := HC.out w1 (HTQ.out.same (((Turn.refl [] _).drew).same hR))
              go_simp
              refine hK _ ?_; rfl
            refine Lo.runv 8 rfl rfl [4, 6] (.bool (true)) (by kernel_rfl) (fun u w1 hR hF => ?_) (Turn.refl _) ?_
            · obtain ⟨h4, h6, -⟩ := hF
              refine ⟨rfl, fun a ha K hK => ?_⟩
              have e39 := (ha 39).trans h4
              have e41 := (ha 41).trans h6
              clear ha h4 h6
              go_simp
              refine hK _ ?_
              rfl
            refine Lo.done [7] (fun u w1 hRd hSd hF => ?_)
            clear hSd
            obtain ⟨f7, -⟩ := hF
            have d7 : u 7 = _ := f7
            clear f7
            simp only [putFrom, Act.put, List.setIfInBounds_toArray, List.set_cons_succ, List.set_cons_zero, Nat.zero_add, Nat.reduceAdd, d7]
            have HT2 := hide (HTQ.out.same (((Turn.refl [] _).drew).same hRd))
            clear d7 hRd
            go_wp2
            go_roundw
            case rel => exact ⟨j + 1, by omega, by go_num, by rw [HNE.out], HT2.out⟩
            case measure => simp only [intOf]; omega
          · have eb : (y.2 == x.id) = false := by simpa using e
            have hne := HNX.out
            rw [if_neg e] at hne
            have HNE := hide hne
            clear hne e
            go_wp2
            refine wp_region_loose (Turn []) (by kernel_rfl) (by kernel_rfl) (by kernel_rfl) (by kernel_rfl) rfl (Turn.refl _) (fun _ _ _ h k => h.same k) ?_
            apply Lo.runx 1 rfl rfl [] (by kernel_rfl) (Turn.refl _)
            apply Exists.intro; apply And.intro
            · intro u w1 hR hF
              clear hF
              refine ⟨rfl, fun a ha K hK => ?_⟩
              have e4 := ha 4
              conv at e4 => rhs; whnf
              clear ha
              go_simp
              refine hK _ ?_; rfl
            apply Lo.runx 2 rfl rfl [] (by kernel_rfl) (Turn.refl _)
            apply Exists.intro; apply And.intro
            · intro u w1 hR hF
              clear hF
              refine ⟨rfl, fun a ha K hK => ?_⟩
              have e9 := ha 9
              conv at e9 => rhs; whnf
              clear ha
              go_simp
              refine hK _ ?_; rfl
            apply Lo.runx 3 rfl rfl [0, 1] (by kernel_rfl) (Turn.refl _)
            apply Exists.intro; apply And.intro
            · intro u w1 hR hF
              obtain ⟨h0, h1, -⟩ := hF
              refine ⟨rfl, fun a ha K hK => ?_⟩
              have e35 := (ha 35).trans h0
              have e36 := (ha 36).trans h1
              clear ha h0 h1
              go_simp
              refine hK _ ?_; rfl
            apply Lo.runx 4 rfl rfl [2] (by kernel_rfl) (Turn.refl _)
            apply Exists.intro; apply And.intro
            · intro u w1 hR hF
              obtain ⟨h2, -⟩ := hF
              refine ⟨rfl, fun a ha K hK => ?_⟩
              have e37 := (ha 37).trans h2
              clear ha h2
              go_simp
              refine hK _ ?_; rfl
            apply Lo.runx 5 rfl rfl [3] (by kernel_rfl) (Turn.refl _)
            apply Exists.intro; apply And.intro
            · intro u w1 hR hF
              obtain ⟨h3, -⟩ := hF
              refine ⟨rfl, fun a ha K hK => ?_⟩
              have e38 := (ha 38).trans h3
              clear ha h3
              obtain ⟨q1, q2, q3⟩ := HC.out w1 (HTQ.out.same (((Turn.refl [] _).drew).same hR))
              go_simp
              refine hK _ ?_; rfl
            apply Lo.runx 6 rfl rfl [] (by kernel_rfl) (Turn.refl _)
            apply Exists.intro; apply And.intro
            · intro u w1 hR hF
              clear hF
              refine ⟨rfl, fun a ha K hK => ?_⟩
              have e7 := ha 7
              conv at e7 => rhs; whnf
              clear ha
              obtain ⟨q1, q2, q3⟩ := HC.out w1 (HTQ.out.same (((Turn.refl [] _).drew).same hR))
              go_simp
              refine hK _ ?_; rfl
            apply Lo.runx 7 rfl rfl [5] (by kernel_rfl) (Turn.refl _)
            apply Exists.intro; apply And.intro
            · intro u w1 hR hF
              obtain ⟨h5, -⟩ := hF
              refine ⟨rfl, fun a ha K hK => ?_⟩
              have e40 := (ha 40).trans h5
              clear ha h5
              obtain ⟨q1, q2, q3⟩ := HC.out w1 (HTQ.out.same (((Turn.refl [] _).drew).same hR))
              go_simp
              refine hK _ ?_; rfl
            refine Lo.runv 8 rfl rfl [4, 6] (.bool (false)) (by kernel_rfl) (fun u w1 hR hF => ?_) (Turn.refl _) ?_
            · obtain ⟨h4, h6, -⟩ := hF
              refine ⟨rfl, fun a ha K hK => ?_⟩
              have e39 := (ha 39).trans h4
              have e41 := (ha 41).trans h6
              clear ha h4 h6
              go_simp
              refine hK _ ?_
              rfl
            refine Lo.done [7] (fun u w1 hRd hSd hF => ?_)
            clear hSd
            obtain ⟨f7, -⟩ := hF
            have d7 : u 7 = _ := f7
            clear f7
            simp only [putFrom, Act.put, List.setIfInBounds_toArray, List.set_cons_succ, List.set_cons_zero, Nat.zero_add, Nat.reduceAdd, d7]
            have HT2 := hide (HTQ.out.same (((Turn.refl [] _).drew).same hRd))
            clear d7 hRd
            go_wp2
            go_roundw
            case rel => exact ⟨j + 1, by omega, by go_num, by rw [HNE.out], HT2.out⟩
            case measure => simp only [intOf]; omega
        · obtain rfl : j = all.length := by omega
          have hjl1 : ¬ (all.length : Int) < all.length := by omega
          have hce : ∀ Z, Turn [] wb Z → Z.cell? ⟨wo.heap.size, 0, none⟩ = some (.int .i64 x.what) ∧ Z.cell? ⟨wo.heap.size, 1, none⟩ = some (.int .i64 x.a) ∧ Z.cell? ⟨wo.heap.size, 2, none⟩ = some (.int .i64 x.id) ∧ wo.heap.size < Z.heap.size := fun Z hZ => by
            have hb := hZ.heap HBX.out (by simp)
            exact ⟨by rw [cell_of hb]; rfl, by rw [cell_of hb]; rfl, by rw [cell_of hb]; rfl, lt_of_heap hb⟩
          have HC := hide hce
          obtain ⟨c0, c1, c2, cz⟩ := hce wr HTQ.out
          obtain ⟨kv, hkv⟩ : ∃ kv, kv = lastK all x.id all.length := ⟨_, rfl⟩
          have hsp := lastK_spec all x.id all.length (Nat.le_refl _)
          rw [← hkv] at hsp ⊢
          have HSP := hide hsp
          clear hce hkv hsp
          have hok := HOK.out
          have hid : (Lit.int .i64 x.id).wf = true := wf_bd hok.id1 hok.id2
          have HID := hide hid
          have hpl : PlW W (i + 1) (.slice la all.length lc) (.int .i64 (now : Int)) wr := ⟨now, F, all, rfl, hnow, by omega, (HWH.out.still HAL.out).still HTQ.out, (HROW.out.still HAL.out).still HTQ.out, (HTW.out.same HAL.out).same HTQ.out⟩
          have HPL := hide hpl
          have hwh : WheelAt wr W.heap.size W.heap.size F now all := (HWH.out.still HAL.out).still HTQ.out
          have HW1 := hide hwh
          have HR1 := hide ((HROW.out.still HAL.out).still HTQ.out)
          have HT1 := hide ((HTW.out.same HAL.out).same HTQ.out)
          have HB1 := hide (HG.out.below HT1.out.nil)
          have hcs : ∀ (S : List Nat) Z, Turn S wr Z → (∀ q ∈ S, q ∈ F ∨ q ∈ (Value.slice la all.length lc).ownBlock ∨ wr.heap.size ≤ q) → Z.cell? ⟨wo.heap.size, 0, none⟩ = some (.int .i64 x.what) ∧ Z.cell? ⟨wo.heap.size, 1, none⟩ = some (.int .i64 x.a) ∧ Z.cell? ⟨wo.heap.size, 2, none⟩ = some (.int .i64 x.id) ∧ wo.heap.size < Z.heap.size := fun S Z hZ hS => by
            have hb := HTQ.out.heap HBX.out (by simp)
            have hlt := lt_of_heap hb
            have hb2 := hZ.heap hb (fun hm => by
              rcases hS _ hm with h | h | h
              · exact absurd (HWH.out.lt _ h).2 (by omega)
              · exact absurd (HROW.out.lt _ h).2 (by omega)
              · omega)
            exact ⟨by rw [cell_of hb2]; rfl, by rw [cell_of hb2]; rfl, by rw [cell_of hb2]; rfl, lt_of_heap hb2⟩
          have HCS := hide hcs
          clear hcs
          have hl0 : all.length < 10000 := by omega
          have HLT := hide hl0
          clear hok hid hpl hwh HAL HTQ HWB HBX HWH HROW HTW hl0
          obtain ⟨wi, rfl⟩ : ∃ wi, wi = wr := ⟨_, rfl⟩
          go_upto_block 4 with fail
          go_cut [4, 5] from 19 to 186 (fun av nv wx => PlW W (i + 1) av nv wx)
          case first =>
            by_cases q0 : x.what = 0
            · as_aux_lemma =>
                have b0 : (x.what == 0) = true := by simpa using q0
                clear q0
                by_cases hin : 0 ≤ x.a ∧ x.a ≤ 1099511627776
                · have hd : decide (0 ≤ x.a ∧ x.a ≤ 1099511627776) = true := decide_eq_true hin
                  have HD := hide hd
                  obtain ⟨t, ht⟩ : ∃ t : Nat, x.a = (t : Int) := ⟨x.a.toNat, by omega⟩
                  have ht2 : t ≤ 1099511627776 := by omega
                  clear hd hin
                  rcases HSP.out with ⟨hk, hno⟩ | ⟨k, hk, hkl, hkid⟩
                  · have hnone := lastK_none hno
                    have HNO := hide hnone
                    subst hk
                    clear hno hnone HSP
                    obtain ⟨wA, hwA⟩ : ∃ wA, wA = wi.alloc (.cells #[.int .i64 x.a, .int .i64 x.id] 33) := ⟨_, rfl⟩
                    have hTA : Turn [] wi wA := by rw [hwA]; exact (Turn.refl [] wi).alloc _
                    have hsz := HT1.out.size
                    have hszA := hTA.size
                    obtain ⟨v7, w7, hr7, hrow7, ht7, hown7⟩ := app_l wA W.heap.size (.slice la all.length lc) all (x.a, x.id) wi.heap.size (HR1.out.still hTA) (by rw [hwA]; exact heap_new wi _) (by have := HLT.out; omega) (by omega)
                    obtain ⟨a7, c7, hv7, -, -⟩ := hrow7.form
                    rw [List.length_append, List.length_singleton] at hv7
                    subst hv7
                    have hap := HW1.out.apartL HR1.out (by decide) (by decide)
                    have hW7 : WheelAt w7 W.heap.size W.heap.size F now all := (HW1.out.still hTA).kept ht7 (fun q hq hm => hap q (by simpa using hm) hq)
                    have hT7 : Turn (Value.slice la all.length lc).ownBlock.toList wi w7 := (hTA.mono (by simp)).same ht7
                    have hT7' : Turn [] W w7 := HT1.out.trans hT7 (fun q hq => .inr (HR1.out.lt q (by simpa using hq)).1)
                    obtain ⟨k0, k1, k2, kz⟩ := HCS.out _ w7 hT7 (fun q hq => .inr (.inl (by simpa using hq)))
                    have hadd := add_any w7 W.heap.size W.heap.size now F all hW7 HLT.out t ht2 x.id HID.out HNO.out
                    rw [← ht] at hadd
                    have HAD := hide hadd
                    have HR7 := hide hr7
                    rw [hwA] at HR7
                    have HROW7 := hide hrow7
                    have HW7 := hide hW7
                    have HT7 := hide hT7'
                    clear hwA hTA hszA hr7 hrow7 ht7 hown7 hap hW7 hT7 hT7' hadd ht ht2
                    go_wp2_with fail
                    refine (withinL_any _ x.a).mono ?_
                    rintro e w1 ⟨rfl, rfl⟩
                    rw [HD.out]
                    clear hsz
                    go_wp2_with (at_builtin; go_must (refine wpList_appT rfl rfl rfl rfl HR7.out ?_))
                    refine HAD.out.mono ?_
                    rintro e w2 ⟨rfl, F8, hw8, ht8, hf8⟩
                    have hb8 : As.ErrT w2 := HG.out.below ((HT7.out.trans ht8 (fun q hq => .inr (HW7.out.lt q hq).1)).nil)
                    have hbare := As.bare_any 0 0 w2 hb8
                    have e2 : As.errN 0 = .nilIface := by simp [As.errN]
                    rw [e2] at hbare
                    have HBA := hide hbare
                    have HP8 := hide (PlW.turned (i := i + 1) (now' := now) (all' := all ++ [(x.a, x.id)]) HW7.out HT7.out ht8 hnow (by rw [List.length_append]; have := HLT.out; simp; omega) hw8 (HROW7.out.kept ht8 (HW7.out.apartL HROW7.out (by decide) (by decide))))
                    clear hb8 hbare e2 hw8 ht8 hf8
                    go_wp2_with fail
                    refine HBA.out.mono ?_
                    rintro e w3 ⟨rfl, hb⟩
                    have HP3 := hide (HP8.out.still (Turn.of_below hb []))
                    clear hb
                    go_wp2
                    go_meet
                    case rel => exact HP3.out
                  · have hfs := (lastK_some HW1.out.nd hkl hkid).1
                    have hadd := add_twice wi W.heap.size W.heap.size now F all HW1.out t ht2 x.id HID.out _ hfs
                    rw [← ht] at hadd
                    have HAD := hide hadd
                    have hbare := As.bare_any 9 9 wi HB1.out
                    have e2 : As.errN 9 = .iface 34 (.int .i64 9) := by simp [As.errN]
                    rw [e2] at hbare
                    have HBA := hide hbare
                    have hk0 : (k : Int) ≥ 0 := by omega
                    subst hk
                    clear hadd hbare e2 hfs hkl hkid HSP ht ht2
                    go_wp2_with fail
                    refine (withinL_any _ x.a).mono ?_
                    rintro e w1 ⟨rfl, rfl⟩
                    rw [HD.out]
                    go_wp2_with fail
                    refine HAD.out.mono ?_
                    rintro e w2 ⟨rfl, rfl⟩
                    go_wp2_with fail
                    refine HBA.out.mono ?_
                    rintro e w3 ⟨rfl, hb⟩
                    have HP3 := hide (HPL.out.still (Turn.of_below hb []))
                    clear hb
                    go_wp2
                    go_meet
                    case rel => exact HP3.out
                · have hd : decide (0 ≤ x.a ∧ x.a ≤ 1099511627776) = false := decide_eq_false hin
                  have hadd := add_range wi W.heap.size x.a x.id (by omega)
                  have HAD := hide hadd
                  have hbare := As.bare_any 2 2 wi HB1.out
                  have e2 : As.errN 2 = .iface 34 (.int .i64 2) := by simp [As.errN]
                  rw [e2] at hbare
                  have HBA := hide hbare
                  have HD := hide hd
                  clear hadd hbare e2 hd hin
                  go_wp2_with fail
                  refine (withinL_any _ x.a).mono ?_
                  rintro e w1 ⟨rfl, rfl⟩
                  rw [HD.out]
                  go_wp2_with fail
                  refine HAD.out.mono ?_
                  rintro e w2 ⟨rfl, rfl⟩
                  go_wp2_with fail
                  refine HBA.out.mono ?_
                  rintro e w3 ⟨rfl, hb⟩
                  have HP3 := hide (HPL.out.still (Turn.of_below hb []))
                  clear hb
                  go_wp2
                  go_meet
                  case rel => exact HP3.out
            by_cases q1 : x.what = 1
            · as_aux_lemma =>
                have b0 : (x.what == 0) = false := by simp; omega
                have b1 : (x.what == 1) = true := by simpa using q1
                clear q0 q1
                rcases HSP.out with ⟨hk, hno⟩ | ⟨k, hk, hkl, hkid⟩
                · have hnone := lastK_none hno
                  have hcan := cancel_none wi W.heap.size W.heap.size now F all HW1.out x.id HID.out hnone
                  have HCA := hide hcan
                  clear hcan hnone hno HSP
                  subst hk
                  go_wp2_with fail
                  refine HCA.out.mono ?_
                  rintro e w1 ⟨rfl, ht⟩
                  have HP3 := hide (HPL.out.still ht)
                  clear ht
                  go_wp2
                  go_meet
                  case rel => exact HP3.out
                · have hsome := lastK_some HW1.out.nd hkl hkid
                  have hcan := cancel_some wi W.heap.size W.heap.size now F all HW1.out x.id HID.out _ hsome.1
                  rw [hsome.2] at hcan
                  have HCA := hide hcan
                  have hk0 : (k : Int) ≥ 0 := by omega
                  have hkc : k ≤ lc := by omega
                  have hkb1 : 0 ≤ (k : Int) + 1 := by omega
                  have hkb2 : (k : Int) + 1 ≤ all.length := by omega
                  subst hk
                  clear hcan hsome hkid HSP
                  obtain ⟨g, cap, eg, -, -⟩ := HR1.out.at tmC_len hkl
                  simp only [Value.slice.injEq, true_and] at eg
                  obtain ⟨rfl, rfl⟩ := eg
                  go_wp2_with fail
                  refine HCA.out.mono ?_
                  rintro e w2 ⟨rfl, F8, hw8, ht8, hf8⟩
                  have hr8 := HR1.out.kept ht8 (HW1.out.apartL HR1.out (by decide) (by decide))
                  have HW8 := hide hw8
                  have HT8 := hide ht8
                  have HR8 := hide hr8
                  clear hw8 ht8 hr8 hf8
                  obtain ⟨w9, rfl⟩ : ∃ w9, w9 = w2 := ⟨_, rfl⟩
                  go_wp2
                  refine wp_region_loud 9 (Turn [w9.heap.size]) (fun a b => a = b) (fun k w => match k with | 0 => (fun w => w.heap.size = w9.heap.size ∧ LR w W.heap.size (.slice (some ⟨g, 0, none⟩) all.length lc) all) w | 1 => (fun w => LR w w9.heap.size (.slice (some ⟨w9.heap.size, 0, none⟩) 0 0) [] ∧ LR w W.heap.size (.slice (some ⟨g, 0, none⟩) all.length lc) all) w | _ => (fun w => LR w W.heap.size (.slice (some ⟨g, 0, none⟩) all.length lc) all) w) [0, 4] (by kernel_rfl) (by kernel_rfl) (by kernel_rfl) (by kernel_rfl) (by kernel_rfl) (by kernel_rfl) (Nat.le_of_ble_eq_true rfl) (by decide) rfl (fun _ => rfl) (fun _ _ _ h k => h.same k) (fun _ _ h => h ▸ Turn.refl _ _) ?_ ?_ ?_
                  · intro k a b hk hR
                    match k, hk with
                    | 0, hk =>
                      have hk := (show (fun w => w.heap.size = w9.heap.size ∧ LR w W.heap.size (.slice (some ⟨g, 0, none⟩) all.length lc) all) a from hk)
                      dsimp only at hk
                      show (fun w => w.heap.size = w9.heap.size ∧ LR w W.heap.size (.slice (some ⟨g, 0, none⟩) all.length lc) all) b
                      dsimp only
                      exact hR ▸ hk
                    | 1, hk =>
                      have hk := (show (fun w => LR w w9.heap.size (.slice (some ⟨w9.heap.size, 0, none⟩) 0 0) [] ∧ LR w W.heap.size (.slice (some ⟨g, 0, none⟩) all.length lc) all) a from hk)
                      dsimp only at hk
                      show (fun w => LR w w9.heap.size (.slice (some ⟨w9.heap.size, 0, none⟩) 0 0) [] ∧ LR w W.heap.size (.slice (some ⟨g, 0, none⟩) all.length lc) all) b
                      dsimp only
                      exact hR ▸ hk
                    | _ + 2, hk =>
                      have hk := (show (fun w => LR w W.heap.size (.slice (some ⟨g, 0, none⟩) all.length lc) all) a from hk)
                      dsimp only at hk
                      show (fun w => LR w W.heap.size (.slice (some ⟨g, 0, none⟩) all.length lc) all) b
                      dsimp only
                      exact hR ▸ hk
                  · show (fun w => w.heap.size = w9.heap.size ∧ LR w W.heap.size (.slice (some ⟨g, 0, none⟩) all.length lc) all) _
                    dsimp only
                    exact ⟨by simp, HR8.out.still ((Turn.refl [] _).drew)⟩
                  refine Lo.noisy 1 rfl 0 rfl [] (fun y _ => y = .slice (some ⟨w9.heap.size, 0, none⟩) 0 0) (by kernel_rfl) (fun x w w' h hR => ?_) (.inr (fun x w w' h hR => by exact h)) (fun u w1 hR hS hF => ?_) ?_
                  · exact h
                  · clear hF
                    have hS := (show (fun w => w.heap.size = w9.heap.size ∧ LR w W.heap.size (.slice (some ⟨g, 0, none⟩) all.length lc) all) w1 from hS)
                    dsimp only at hS
                    refine ⟨rfl, fun a ha K hK => ?_⟩
                    clear ha
                    go_simp
                    exact hK _ _ rfl ((Turn.refl _ _).alloc _) ⟨.inr ⟨w9.heap.size, 0, _, rfl, Nat.le_refl _, by rw [← hS.1]; exact heap_new w1 _, Nat.le_refl _, Nat.zero_le _, Nat.zero_le _, rfl⟩, hS.2.still ((Turn.refl [] _).alloc _)⟩
                  apply Lo.runx 2 rfl rfl [] (by kernel_rfl) (fun _ => rfl)
                  apply Exists.intro; apply And.intro
                  · intro u w1 hR hF
                    clear hF
                    refine ⟨rfl, fun a ha K hK => ?_⟩
                    have e4 := ha 4
                    conv at e4 => rhs; whnf
                    clear ha
                    go_simp
                    refine hK _ ?_; rfl
                  apply Lo.runx 3 rfl rfl [] (by kernel_rfl) (fun _ => rfl)
                  apply Exists.intro; apply And.intro
                  · intro u w1 hR hF
                    clear hF
                    refine ⟨rfl, fun a ha K hK => ?_⟩
                    have e8 := ha 8
                    conv at e8 => rhs; whnf
                    clear ha
                    go_simp
                    refine hK _ ?_; rfl
                  refine Lo.runv 4 rfl rfl [1, 2] (.slice (some ⟨g, 0, none⟩) k lc) (by kernel_rfl) (fun u w1 hR hF => ?_) (fun _ => rfl) ?_
                  · obtain ⟨h1, h2, -⟩ := hF
                    refine ⟨rfl, fun a ha K hK => ?_⟩
                    have e83 := (ha 83).trans h1
                    have e84 := (ha 84).trans h2
                    clear ha h1 h2
                    go_simp
                    refine hK _ ?_
                    rfl
                  refine Lo.noisy 5 rfl 1 rfl [0, 3] (fun y w' => LR w' w9.heap.size y (all.take k)) (by kernel_rfl) (fun x w w' h hR => ?_) (.inl (by kernel_rfl)) (fun u w1 hR hS hF => ?_) ?_
                  · exact hR ▸ h
                  · obtain ⟨h0, h3, -⟩ := hF
                    have hS := (show (fun w => LR w w9.heap.size (.slice (some ⟨w9.heap.size, 0, none⟩) 0 0) [] ∧ LR w W.heap.size (.slice (some ⟨g, 0, none⟩) all.length lc) all) w1 from hS)
                    dsimp only at hS
                    refine ⟨rfl, fun a ha K hK => ?_⟩
                    have e82 : a.tmps.getD 82 undef = u 0 := ha 82
                    have e85 := (ha 85).trans h3
                    have h0 := (show (fun y _ => y = .slice (some ⟨w9.heap.size, 0, none⟩) 0 0) (u 0) w1 from h0)
                    dsimp only at h0
                    clear ha h3
                    rw [h0] at e82
                    obtain ⟨v7, w7, hr7, hrow7, ht7, hown7⟩ := app_ls w1 w9.heap.size (.slice (some ⟨w9.heap.size, 0, none⟩) 0 0) (.slice (some ⟨g, 0, none⟩) k lc) [] (all.take k) hS.1 (by have := LR.part hS.2 (i := 0) (m := k) (by omega) lc; simpa using this) (by have := HLT.out; simp; omega) (by have := hR.size; simpa using this)
                    exact oper_appendW rfl e82 e85 hr7 (hK _ _ (by simpa using hrow7) (ht7.mono (by simp [Value.ownBlock])) (hS.2.kept ht7 (fun q hq hm => by have h1 := (HR8.out.lt q hq).2; simp [Value.ownBlock] at hm; omega)))
                  apply Lo.runx 6 rfl rfl [] (by kernel_rfl) (fun _ => rfl)
                  apply Exists.intro; apply And.intro
                  · intro u w1 hR hF
                    clear hF
                    refine ⟨rfl, fun a ha K hK => ?_⟩
                    have e4 := ha 4
                    conv at e4 => rhs; whnf
                    clear ha
                    go_simp
                    refine hK _ ?_; rfl
                  apply Lo.runx 7 rfl rfl [] (by kernel_rfl) (fun _ => rfl)
                  apply Exists.intro; apply And.intro
                  · intro u w1 hR hF
                    clear hF
                    refine ⟨rfl, fun a ha K hK => ?_⟩
                    have e8 := ha 8
                    conv at e8 => rhs; whnf
                    clear ha
                    go_simp
                    refine hK _ ?_; rfl
                  refine Lo.runv 8 rfl rfl [6] (.int .i64 ((k + 1 : Nat) : Int)) (by kernel_rfl) (fun u w1 hR hF => ?_) (fun _ => rfl) ?_
                  · obtain ⟨h6, -⟩ := hF
                    refine ⟨rfl, fun a ha K hK => ?_⟩
                    have e88 := (ha 88).trans h6
                    clear ha h6
                    go_simp
                    refine hK _ ?_
                    exact wr64 (by omega) (by have := HLT.out; omega)
                  refine Lo.runv 9 rfl rfl [5, 7] (.slice (if lc = k + 1 then some ⟨g, 0, none⟩ else some ⟨g, (k + 1) * 2, none⟩) (all.length - (k + 1)) (lc - (k + 1))) (by kernel_rfl) (fun u w1 hR hF => ?_) (fun _ => rfl) ?_
                  · obtain ⟨h5, h7, -⟩ := hF
                    refine ⟨rfl, fun a ha K hK => ?_⟩
                    have e87 := (ha 87).trans h5
                    have e89 := (ha 89).trans h7
                    clear ha h5 h7
                    go_simp
                    refine hK _ ?_
                    rfl
                  refine Lo.done [4, 8] (fun u w1 hRd hSd hF => ?_)
                  have hSd := (show (fun w => LR w W.heap.size (.slice (some ⟨g, 0, none⟩) all.length lc) all) w1 from hSd)
                  dsimp only at hSd
                  obtain ⟨f4, f8, -⟩ := hF
                  have d4 := (show (fun y w' => LR w' w9.heap.size y (all.take k)) (u 4) w1 from f4)
                  dsimp only at d4
                  have d8 : u 8 = _ := f8
                  clear f4 f8
                  simp only [List.take_succ_cons, List.take_zero, List.drop_succ_cons, List.drop_zero, putFrom, Act.put, List.setIfInBounds_toArray, List.set_cons_succ, List.set_cons_zero, Nat.zero_add, Nat.reduceAdd, d8]
                  have hsrc : GSrc tmC w1 (.slice (if lc = k + 1 then some ⟨g, 0, none⟩ else some ⟨g, (k + 1) * 2, none⟩) (all.length - (k + 1)) (lc - (k + 1))) (all.drop (k + 1)) := by
                    by_cases e : lc = k + 1
                    · rw [if_pos e, show all.length - (k + 1) = 0 by omega, List.drop_eq_nil_of_le (by omega)]
                      have := LR.part hSd (i := 0) (m := 0) (by omega) (lc - (k + 1))
                      simpa using this
                    · rw [if_neg e]
                      have := LR.part hSd (i := k + 1) (m := all.length - (k + 1)) (by omega) (lc - (k + 1))
                      rwa [List.take_of_length_le (by rw [List.length_drop]; exact Nat.le_refl _)] at this
                  have hsz9 := hRd.size
                  obtain ⟨v7, w7, hr7, hrow7, ht7, hown7⟩ := app_ls w1 w9.heap.size (u 4) _ (all.take k) (all.drop (k + 1)) d4 hsrc (by have := HLT.out; rw [List.length_take, List.length_drop]; omega) (by simpa using hsz9)
                  have hTa : Turn [] w9 w1 := ((Turn.refl [] w9).drew).trans hRd (fun q hq => .inr (by obtain rfl := List.mem_singleton.1 hq; exact Nat.le_refl _))
                  have hT7 : Turn [] w9 w7 := hTa.trans ht7 (fun q hq => .inr (d4.lt q (by simpa using hq)).1)
                  have hwz : W.heap.size ≤ w9.heap.size := by have h1 := HT1.out.size; have h2 := HT8.out.size; omega
                  have hfin : PlW W (i + 1) v7 (.int .i64 (now : Int)) w7 := PlW.turned HW1.out HT1.out (HT8.out.same (hT7.mono (by simp))) hnow (by rw [List.length_append, List.length_take, List.length_drop]; omega) (HW8.out.still hT7) (hrow7.base_le hwz)
                  have HR7 := hide hr7
                  have HFIN := hide hfin
                  clear hr7 hrow7 ht7 hown7 hTa hT7 hfin hsrc hsz9 hSd hRd d4
                  go_wp2_with (at_builtin; go_must (refine wpList_appT rfl rfl rfl rfl HR7.out ?_))
                  all_goals (go_meet; exact HFIN.out)
            by_cases q2 : x.what = 2
            · have b0 : (x.what == 0) = false := by simp; omega
              have b1 : (x.what == 1) = false := by simp; omega
              have b2 : (x.what == 2) = true := by simpa using q2
              have e2 : As.errN 2 = .iface 34 (.int .i64 2) := by simp [As.errN]
              have E2 := hide e2
              clear q0 q1 q2 e2
              by_cases h1 : x.a < (now : Int)
              · have hadd := adv_range wi W.heap.size W.heap.size now F all HW1.out x.a (.inl h1)
                have HAD := hide hadd
                clear hadd
                go_wp2_with fail
                refine HAD.out.mono ?_
                rintro e w2 ⟨rfl, ht⟩
                obtain ⟨k0, k1, k2, kz⟩ := HCS.out _ w2 ht (by simp)
                have hbare := As.bare_any 2 2 w2 (HG.out.below ((HT1.out.same ht).nil))
                rw [E2.out] at hbare
                have HBA := hide hbare
                have HP2 := hide (HPL.out.still ht)
                clear ht hbare
                go_wp2_with fail
                refine HBA.out.mono ?_
                rintro e w3 ⟨rfl, hb⟩
                have HP3 := hide (HP2.out.still (Turn.of_below hb []))
                clear hb
                go_wp2
                go_meet
                case rel => exact HP3.out
              by_cases h2 : 1099511627776 < x.a
              · have hadd := adv_range wi W.heap.size W.heap.size now F all HW1.out x.a (.inr h2)
                have HAD := hide hadd
                clear hadd
                go_wp2_with fail
                refine HAD.out.mono ?_
                rintro e w2 ⟨rfl, ht⟩
                obtain ⟨k0, k1, k2, kz⟩ := HCS.out _ w2 ht (by simp)
                have hbare := As.bare_any 2 2 w2 (HG.out.below ((HT1.out.same ht).nil))
                rw [E2.out] at hbare
                have HBA := hide hbare
                have HP2 := hide (HPL.out.still ht)
                clear ht hbare
                go_wp2_with fail
                refine HBA.out.mono ?_
                rintro e w3 ⟨rfl, hb⟩
                have HP3 := hide (HP2.out.still (Turn.of_below hb []))
                clear hb
                go_wp2
                go_meet
                case rel => exact HP3.out
              · as_aux_lemma =>
                  obtain ⟨t, ht⟩ : ∃ t : Nat, x.a = (t : Int) := ⟨x.a.toNat, by omega⟩
                  have hnt : now ≤ t := by omega
                  have ht2 : t ≤ 1099511627776 := by omega
                  have hadv := adv_any wi W.heap.size W.heap.size now F all HW1.out t hnt ht2
                  conv at hadv => arg 3; rw [← ht]
                  have HAD := hide hadv
                  have hd1 : decide (x.a < (now : Int)) = false := decide_eq_false h1
                  have hd2 : decide (x.a > 1099511627776) = false := decide_eq_false h2
                  have HT := hide ht
                  have HT2 := hide ht2
                  clear hadv ht hnt ht2
                  go_wp2_with fail
                  refine HAD.out.mono ?_
                  rintro e w2 ⟨ia, ic, D, F3, rfl, hst, hir, hw3, ht3, hf3⟩
                  obtain ⟨k0, k1, k2, kz⟩ := HCS.out _ w2 ht3 (fun q hq => .inl hq)
                  have hr3 := HR1.out.kept ht3 (HW1.out.apartL HR1.out (by decide) (by decide))
                  have hTW : Turn [] W w2 := HT1.out.trans ht3 (fun q hq => .inr (HW1.out.lt q hq).1)
                  have HST := hide hst
                  have HIR := hide hir
                  have HW3 := hide hw3
                  have HR3 := hide hr3
                  have HTW := hide hTW
                  have HSZ := hide ht3.size
                  clear hst hir hw3 ht3 hf3 hr3 hTW
                  obtain ⟨w3, rfl⟩ : ∃ w3, w3 = w2 := ⟨_, rfl⟩
                  go_wp2
                  go_loopw [4, 13] (fun av gv wq => ∃ (T l : List Tm) (v : Value), v = gv ∧ Sel all t T l ∧ T.length + l.length ≤ all.length ∧ LR wq W.heap.size av l ∧ IR wq w3.heap.size gv (T.map (·.2)) ∧ Turn [] w3 wq) (fun av _ _ => lenV av)
                  case atStart => exact ⟨[], all, _, rfl, Sel.start all t, by simp, HR3.out, .inl ⟨rfl, rfl⟩, Turn.refl _ _⟩
                  case round =>
                    obtain ⟨T, l, gv, rfl, hsel, hTl, hlr, hir2, htq⟩ := hrel
                    have HSEL := hide hsel
                    have HTL := hide hTl
                    have HLR := hide hlr
                    have HIR2 := hide hir2
                    have HTQ := hide htq
                    obtain ⟨la3, lc3, rfl, hm1, hm2⟩ := hlr.form
                    have hl3 : l.length ≤ 10000 := by have := HLT.out; omega
                    clear hsel hTl hlr hir2 htq
                    obtain ⟨wq, rfl⟩ : ∃ wq, wq = wr := ⟨_, rfl⟩
                    go_wp2
                    go_loopw [14, 15] (fun bv jv w4 => ∃ j : Nat, j ≤ l.length ∧ jv = .int .i64 (j : Int) ∧ bv = .int .i64 (bestK l t j) ∧ Turn [] wq w4) (fun _ jv _ => l.length - (intOf jv).toNat)
                    case atStart => exact ⟨0, Nat.zero_le _, rfl, rfl, Turn.refl _ _⟩
                    case round =>
                      obtain ⟨j, hj, rfl, rfl, ht4⟩ := hrel
                      have HT4 := hide ht4
                      clear ht4
                      by_cases hjl : j < l.length
                      · have hjl1 : (j : Int) < l.length := by omega
                        obtain ⟨y, hy⟩ : ∃ y, y = l[j] := ⟨_, rfl⟩
                        obtain ⟨g, cap, eg, kg, -⟩ := HLR.out.at tmC_len hjl
                        simp only [Value.slice.injEq, true_and] at eg
                        obtain ⟨rfl, rfl⟩ := eg
                        have hat : ∀ (i : Nat) (hi : i < l.length) Z, Turn [] wq Z → Z.cell? ⟨g, i * 2, none⟩ = some (.int .i64 (l[i]).1) := fun i hi Z hZ => by
                          obtain ⟨g', cap', e, q1, -⟩ := (HLR.out.still hZ).at tmC_len hi
                          simp only [Value.slice.injEq, Option.some.injEq, Addr.mk.injEq, true_and] at e
                          obtain ⟨⟨rfl, -⟩, -⟩ := e
                          have r1 := q1 0 (by omega)
                          simpa [tmC] using r1
                        have hce := hat j hjl
                        rw [← hy] at hce
                        have hg : l.getD j (0, 0) = y := by rw [List.getD_eq_getElem?_getD, List.getElem?_eq_getElem hjl, Option.getD_some, hy]
                        have hnx : bestK l t (j + 1) = if y.1 ≤ (t : Int) ∧ (bestK l t j < 0 ∨ y.1 < (l.getD (bestK l t j).toNat (0, 0)).1) then (j : Int) else bestK l t j := by
                          show (if (l.getD j (0, 0)).1 ≤ (t : Int) ∧ (bestK l t j < 0 ∨ (l.getD j (0, 0)).1 < (l.getD (bestK l t j).toNat (0, 0)).1) then (j : Int) else bestK l t j) = _
                          rw [hg]
                        have hsp := bestK_spec l t j
                        have HC := hide hce
                        have HAT := hide hat
                        obtain ⟨bv, hbv⟩ : ∃ bv, bv = bestK l t j := ⟨_, rfl⟩
                        rw [← hbv] at hnx hsp ⊢
                        clear hce hat hbv kg hy hg
                        by_cases e1 : y.1 ≤ (t : Int)
                        · have hd3 : decide (y.1 ≤ x.a) = true := by rw [HT.out]; exact decide_eq_true e1
                          rcases hsp with ⟨hk, -⟩ | ⟨k, hk, hkj, -, -, -⟩
                          · subst hk
                            have hnx2 : bestK l t (j + 1) = (j : Int) := by rw [hnx, if_pos ⟨e1, .inl (by omega)⟩]
                            have HNX := hide hnx2
                            clear hnx hnx2 e1
                            go_wp2
                            refine wp_region_loose (Turn []) (by kernel_rfl) (by kernel_rfl) (by kernel_rfl) (by kernel_rfl) rfl (Turn.refl _) (fun _ _ _ h k => h.same k) ?_
                            apply Lo.runx 1 rfl rfl [] (by kernel_rfl) (Turn.refl _)
                            apply Exists.intro; apply And.intro
                            · intro u w1 hR hF
                              clear hF
                              refine ⟨rfl, fun a ha K hK => ?_⟩
                              have e4 := ha 4
                              conv at e4 => rhs; whnf
                              clear ha
                              go_simp
                              refine hK _ ?_; rfl
                            apply Lo.runx 2 rfl rfl [] (by kernel_rfl) (Turn.refl _)
                            apply Exists.intro; apply And.intro
                            · intro u w1 hR hF
                              clear hF
                              refine ⟨rfl, fun a ha K hK => ?_⟩
                              have e15 := ha 15
                              conv at e15 => rhs; whnf
                              clear ha
                              go_simp
                              refine hK _ ?_; rfl
                            apply Lo.runx 3 rfl rfl [0, 1] (by kernel_rfl) (Turn.refl _)
                            apply Exists.intro; apply And.intro
                            · intro u w1 hR hF
                              obtain ⟨h0, h1, -⟩ := hF
                              refine ⟨rfl, fun a ha K hK => ?_⟩
                              have e125 := (ha 125).trans h0
                              have e126 := (ha 126).trans h1
                              clear ha h0 h1
                              go_simp
                              refine hK _ ?_; rfl
                            apply Lo.runx 4 rfl rfl [2] (by kernel_rfl) (Turn.refl _)
                            apply Exists.intro; apply And.intro
                            · intro u w1 hR hF
                              obtain ⟨h2, -⟩ := hF
                              refine ⟨rfl, fun a ha K hK => ?_⟩
                              have e127 := (ha 127).trans h2
                              clear ha h2
                              go_simp
                              refine hK _ ?_; rfl
                            apply Lo.runx 5 rfl rfl [3] (by kernel_rfl) (Turn.refl _)
                            apply Exists.intro; apply And.intro
                            · intro u w1 hR hF
                              obtain ⟨h3, -⟩ := hF
                              refine ⟨rfl, fun a ha K hK => ?_⟩
                              have e128 := (ha 128).trans h3
                              clear ha h3
                              have q1 := HC.out w1 (HT4.out.same (((Turn.refl [] _).drew).same hR))
                              go_simp
                              refine hK _ ?_; rfl
                            apply Lo.runx 6 rfl rfl [] (by kernel_rfl) (Turn.refl _)
                            apply Exists.intro; apply And.intro
                            · intro u w1 hR hF
                              clear hF
                              refine ⟨rfl, fun a ha K hK => ?_⟩
                              have e5 := ha 5
                              conv at e5 => rhs; whnf
                              clear ha
                              go_simp
                              refine hK _ ?_; rfl
                            apply Lo.runx 7 rfl rfl [4, 5] (by kernel_rfl) (Turn.refl _)
                            apply Exists.intro; apply And.intro
                            · intro u w1 hR hF
                              obtain ⟨h4, h5, -⟩ := hF
                              refine ⟨rfl, fun a ha K hK => ?_⟩
                              have e129 := (ha 129).trans h4
                              have e130 := (ha 130).trans h5
                              clear ha h4 h5
                              go_simp
                              refine hK _ ?_; rfl
                            apply Lo.runx 8 rfl rfl [6] (by kernel_rfl) (Turn.refl _)
                            apply Exists.intro; apply And.intro
                            · intro u w1 hR hF
                              obtain ⟨h6, -⟩ := hF
                              refine ⟨rfl, fun a ha K hK => ?_⟩
                              have e131 := (ha 131).trans h6
                              clear ha h6
                              go_simp
                              refine hK _ ?_; rfl
                            apply Lo.runx 9 rfl rfl [7] (by kernel_rfl) (Turn.refl _)
                            apply Exists.intro; apply And.intro
                            · intro u w1 hR hF
                              obtain ⟨h7, -⟩ := hF
                              refine ⟨.inl ⟨true, h7, rfl⟩, fun a ha K hK => ?_⟩
                              have e14 := ha 14
                              conv at e14 => rhs; whnf
                              clear ha h7
                              go_simp
                              refine hK _ ?_; rfl
                            apply Lo.runx 10 rfl rfl [7, 8] (by kernel_rfl) (Turn.refl _)
                            apply Exists.intro; apply And.intro
                            · intro u w1 hR hF
                              obtain ⟨h7, h8, -⟩ := hF
                              refine ⟨.inl ⟨true, h7, rfl⟩, fun a ha K hK => ?_⟩
                              have e133 := (ha 133).trans h8
                              clear ha h7 h8
                              go_simp
                              refine hK _ ?_; rfl
                            apply Lo.runx 11 rfl rfl [7, 9] (by kernel_rfl) (Turn.refl _)
                            apply Exists.intro; apply And.intro
                            · intro u w1 hR hF
                              obtain ⟨h7, h9, -⟩ := hF
                              refine ⟨.inl ⟨true, h7, rfl⟩, fun a ha K hK => ?_⟩
                              have e134 := (ha 134).trans h9
                              clear ha h7 h9
                              go_simp
                              refine hK _ ?_; rfl
                            refine Lo.pass 12 rfl rfl [10] (by kernel_rfl) (Turn.refl _) (fun u w1 hR hF => ?_) ?_
                            · exact .inl ⟨true, hF.1, rfl⟩
                            refine Lo.pass 13 rfl rfl [10] (by kernel_rfl) (Turn.refl _) (fun u w1 hR hF => ?_) ?_
                            · exact .inl ⟨true, hF.1, rfl⟩
                            refine Lo.pass 14 rfl rfl [10] (by kernel_rfl) (Turn.refl _) (fun u w1 hR hF => ?_) ?_
                            · exact .inl ⟨true, hF.1, rfl⟩
                            refine Lo.pass 15 rfl rfl [10] (by kernel_rfl) (Turn.refl _) (fun u w1 hR hF => ?_) ?_
                            · exact .inl ⟨true, hF.1, rfl⟩
                            refine Lo.pass 16 rfl rfl [10] (by kernel_rfl) (Turn.refl _) (fun u w1 hR hF => ?_) ?_
                            · exact .inl ⟨true, hF.1, rfl⟩
                            refine Lo.pass 17 rfl rfl [10] (by kernel_rfl) (Turn.refl _) (fun u w1 hR hF => ?_) ?_
                            · exact .inl ⟨true, hF.1, rfl⟩
                            refine Lo.pass 18 rfl rfl [10] (by kernel_rfl) (Turn.refl _) (fun u w1 hR hF => ?_) ?_
                            · exact .inl ⟨true, hF.1, rfl⟩
                            refine Lo.pass 19 rfl rfl [10] (by kernel_rfl) (Turn.refl _) (fun u w1 hR hF => ?_) ?_
                            · exact .inl ⟨true, hF.1, rfl⟩
                            refine Lo.pass 20 rfl rfl [10] (by kernel_rfl) (Turn.refl _) (fun u w1 hR hF => ?_) ?_
                            · exact .inl ⟨true, hF.1, rfl⟩
                            refine Lo.pass 21 rfl rfl [10] (by kernel_rfl) (Turn.refl _) (fun u w1 hR hF => ?_) ?_
                            · exact .inl ⟨true, hF.1, rfl⟩
                            refine Lo.pass 22 rfl rfl [10] (by kernel_rfl) (Turn.refl _) (fun u w1 hR hF => ?_) ?_
                            · exact .inl ⟨true, hF.1, rfl⟩
                            apply Lo.runx 23 rfl rfl [7, 10, 21] (by kernel_rfl) (Turn.refl _)
                            apply Exists.intro; apply And.intro
                            · intro u w1 hR hF
                              obtain ⟨h7, h10, h21, -⟩ := hF
                              refine ⟨.inl ⟨true, h7, rfl⟩, fun a ha K hK => ?_⟩
                              have e135 := (ha 135).trans h10
                              have e146 := (ha 146).trans h21
                              clear ha h7 h10 h21
                              go_simp
                              refine hK _ ?_; rfl
                            refine Lo.runv 24 rfl rfl [7, 22] (.bool true) (by kernel_rfl) (fun u w1 hR hF => ?_) (Turn.refl _) ?_
                            · obtain ⟨h7, h22, -⟩ := hF
                              refine ⟨rfl, fun a ha K hK => ?_⟩
                              have e132 := (ha 132).trans h7
                              have e147 := (ha 147).trans h22
                              clear ha h7 h22
                              go_simp
                              refine hK _ ?_
                              rfl
                            refine Lo.done [23] (fun u w1 hRd hSd hF => ?_)
                            clear hSd
                            obtain ⟨f23, -⟩ := hF
                            have d23 : u 23 = _ := f23
                            clear f23
                            simp only [putFrom, Act.put, List.setIfInBounds_toArray, List.set_cons_succ, List.set_cons_zero, Nat.zero_add, Nat.reduceAdd, d23]
                            have HT5 := hide (HT4.out.same (((Turn.refl [] _).drew).same hRd))
                            clear d23 hRd
                            go_wp2
                            go_roundw
                            case rel => exact ⟨j + 1, by omega, by go_num, by rw [HNX.out], HT5.out⟩
                            case measure => simp only [intOf]; omega
                          · subst hk
                            have hkl : k < l.length := by omega
                            obtain ⟨z, hz⟩ : ∃ z, z = l[k] := ⟨_, rfl⟩
                            have hc2 := HAT.out k hkl
                            have hg2 : l.getD k (0, 0) = z := by rw [List.getD_eq_getElem?_getD, List.getElem?_eq_getElem hkl, Option.getD_some, hz]
                            rw [← hz] at hc2
                            rw [Int.toNat_natCast, hg2] at hnx
                            have HC2 := hide hc2
                            have hk0 : ¬ (k : Int) < 0 := by omega
                            have hdk : decide ((k : Int) < 0) = false := decide_eq_false hk0
                            have hkl1 : (k : Int) < l.length := by omega
                            clear hc2 hz hg2
                            by_cases e2 : y.1 < z.1
                            · have hd4 : decide (y.1 < z.1) = true := decide_eq_true e2
                              have hnx2 : bestK l t (j + 1) = (j : Int) := by rw [hnx, if_pos ⟨e1, .inr e2⟩]
                              have HNX := hide hnx2
                              clear hnx hnx2 e1 e2 hk0
                              go_wp2
                              refine wp_region_loose (Turn []) (by kernel_rfl) (by kernel_rfl) (by kernel_rfl) (by kernel_rfl) rfl (Turn.refl _) (fun _ _ _ h k => h.same k) ?_
                              apply Lo.runx 1 rfl rfl [] (by kernel_rfl) (Turn.refl _)
                              apply Exists.intro; apply And.intro
                              · intro u w1 hR hF
                                clear hF
                                refine ⟨rfl, fun a ha K hK => ?_⟩
                                have e4 := ha 4
                                conv at e4 => rhs; whnf
                                clear ha
                                go_simp
                                refine hK _ ?_; rfl
                              apply Lo.runx 2 rfl rfl [] (by kernel_rfl) (Turn.refl _)
                              apply Exists.intro; apply And.intro
                              · intro u w1 hR hF
                                clear hF
                                refine ⟨rfl, fun a ha K hK => ?_⟩
                                have e15 := ha 15
                                conv at e15 => rhs; whnf
                                clear ha
                                go_simp
                                refine hK _ ?_; rfl
                              apply Lo.runx 3 rfl rfl [0, 1] (by kernel_rfl) (Turn.refl _)
                              apply Exists.intro; apply And.intro
                              · intro u w1 hR hF
                                obtain ⟨h0, h1, -⟩ := hF
                                refine ⟨rfl, fun a ha K hK => ?_⟩
                                have e125 := (ha 125).trans h0
                                have e126 := (ha 126).trans h1
                                clear ha h0 h1
                                go_simp
                                refine hK _ ?_; rfl
                              apply Lo.runx 4 rfl rfl [2] (by kernel_rfl) (Turn.refl _)
                              apply Exists.intro; apply And.intro
                              · intro u w1 hR hF
                                obtain ⟨h2, -⟩ := hF
                                refine ⟨rfl, fun a ha K hK => ?_⟩
                                have e127 := (ha 127).trans h2
                                clear ha h2
                                go_simp
                                refine hK _ ?_; rfl
                              apply Lo.runx 5 rfl rfl [3] (by kernel_rfl) (Turn.refl _)
                              apply Exists.intro; apply And.intro
                              · intro u w1 hR hF
                                obtain ⟨h3, -⟩ := hF
                                refine ⟨rfl, fun a ha K hK => ?_⟩
                                have e128 := (ha 128).trans h3
                                clear ha h3
                                have q1 := HC.out w1 (HT4.out.same (((Turn.refl [] _).drew).same hR))
                                go_simp
                                refine hK _ ?_; rfl
                              apply Lo.runx 6 rfl rfl [] (by kernel_rfl) (Turn.refl _)
                              apply Exists.intro; apply And.intro
                              · intro u w1 hR hF
                                clear hF
                                refine ⟨rfl, fun a ha K hK => ?_⟩
                                have e5 := ha 5
                                conv at e5 => rhs; whnf
                                clear ha
                                go_simp
                                refine hK _ ?_; rfl
                              apply Lo.runx 7 rfl rfl [4, 5] (by kernel_rfl) (Turn.refl _)
                              apply Exists.intro; apply And.intro
                              · intro u w1 hR hF
                                obtain ⟨h4, h5, -⟩ := hF
                                refine ⟨rfl, fun a ha K hK => ?_⟩
                                have e129 := (ha 129).trans h4
                                have e130 := (ha 130).trans h5
                                clear ha h4 h5
                                go_simp
                                refine hK _ ?_; rfl
                              apply Lo.runx 8 rfl rfl [6] (by kernel_rfl) (Turn.refl _)
                              apply Exists.intro; apply And.intro
                              · intro u w1 hR hF
                                obtain ⟨h6, -⟩ := hF
                                refine ⟨rfl, fun a ha K hK => ?_⟩
                                have e131 := (ha 131).trans h6
                                clear ha h6
                                go_simp
                                refine hK _ ?_; rfl
                              apply Lo.runx 9 rfl rfl [7] (by kernel_rfl) (Turn.refl _)
                              apply Exists.intro; apply And.intro
                              · intro u w1 hR hF
                                obtain ⟨h7, -⟩ := hF
                                refine ⟨.inl ⟨true, h7, rfl⟩, fun a ha K hK => ?_⟩
                                have e14 := ha 14
                                conv at e14 => rhs; whnf
                                clear ha h7
                                go_simp
                                refine hK _ ?_; rfl
                              apply Lo.runx 10 rfl rfl [7, 8] (by kernel_rfl) (Turn.refl _)
                              apply Exists.intro; apply And.intro
                              · intro u w1 hR hF
                                obtain ⟨h7, h8, -⟩ := hF
                                refine ⟨.inl ⟨true, h7, rfl⟩, fun a ha K hK => ?_⟩
                                have e133 := (ha 133).trans h8
                                clear ha h7 h8
                                go_simp
                                refine hK _ ?_; rfl
                              apply Lo.runx 11 rfl rfl [7, 9] (by kernel_rfl) (Turn.refl _)
                              apply Exists.intro; apply And.intro
                              · intro u w1 hR hF
                                obtain ⟨h7, h9, -⟩ := hF
                                refine ⟨.inl ⟨true, h7, rfl⟩, fun a ha K hK => ?_⟩
                                have e134 := (ha 134).trans h9
                                clear ha h7 h9
                                go_simp
                                refine hK _ ?_; rfl
                              apply Lo.runx 12 rfl rfl [10] (by kernel_rfl) (Turn.refl _)
                              apply Exists.intro; apply And.intro
                              · intro u w1 hR hF
                                obtain ⟨h10, -⟩ := hF
                                refine ⟨.inl ⟨false, h10, rfl⟩, fun a ha K hK => ?_⟩
                                have e4 := ha 4
                                conv at e4 => rhs; whnf
                                clear ha h10
                                go_simp
                                refine hK _ ?_; rfl
                              apply Lo.runx 13 rfl rfl [10] (by kernel_rfl) (Turn.refl _)
                              apply Exists.intro; apply And.intro
                              · intro u w1 hR hF
                                obtain ⟨h10, -⟩ := hF
                                refine ⟨.inl ⟨false, h10, rfl⟩, fun a ha K hK => ?_⟩
                                have e15 := ha 15
                                conv at e15 => rhs; whnf
                                clear ha h10
                                go_simp
                                refine hK _ ?_; rfl
                              apply Lo.runx 14 rfl rfl [10, 11, 12] (by kernel_rfl) (Turn.refl _)
                              apply Exists.intro; apply And.intro
                              · intro u w1 hR hF
                                obtain ⟨h10, h11, h12, -⟩ := hF
                                refine ⟨.inl ⟨false, h10, rfl⟩, fun a ha K hK => ?_⟩
                                have e136 := (ha 136).trans h11
                                have e137 := (ha 137).trans h12
                                clear ha h10 h11 h12
                                go_simp
                                refine hK _ ?_; rfl
                              apply Lo.runx 15 rfl rfl [10, 13] (by kernel_rfl) (Turn.refl _)
                              apply Exists.intro; apply And.intro
                              · intro u w1 hR hF
                                obtain ⟨h10, h13, -⟩ := hF
                                refine ⟨.inl ⟨false, h10, rfl⟩, fun a ha K hK => ?_⟩
                                have e138 := (ha 138).trans h13
                                clear ha h10 h13
                                go_simp
                                refine hK _ ?_; rfl
                              apply Lo.runx 16 rfl rfl [10, 14] (by kernel_rfl) (Turn.refl _)
                              apply Exists.intro; apply And.intro
                              · intro u w1 hR hF
                                obtain ⟨h10, h14, -⟩ := hF
                                refine ⟨.inl ⟨false, h10, rfl⟩, fun a ha K hK => ?_⟩
                                have e139 := (ha 139).trans h14
                                clear ha h10 h14
                                have q1 := HC.out w1 (HT4.out.same (((Turn.refl [] _).drew).same hR))
                                go_simp
                                refine hK _ ?_; rfl
                              apply Lo.runx 17 rfl rfl [10] (by kernel_rfl) (Turn.refl _)
                              apply Exists.intro; apply And.intro
                              · intro u w1 hR hF
                                obtain ⟨h10, -⟩ := hF
                                refine ⟨.inl ⟨false, h10, rfl⟩, fun a ha K hK => ?_⟩
                                have e4 := ha 4
                                conv at e4 => rhs; whnf
                                clear ha h10
                                go_simp
                                refine hK _ ?_; rfl
                              apply Lo.runx 18 rfl rfl [10] (by kernel_rfl) (Turn.refl _)
                              apply Exists.intro; apply And.intro
                              · intro u w1 hR hF
                                obtain ⟨h10, -⟩ := hF
                                refine ⟨.inl ⟨false, h10, rfl⟩, fun a ha K hK => ?_⟩
                                have e14 := ha 14
                                conv at e14 => rhs; whnf
                                clear ha h10
                                go_simp
                                refine hK _ ?_; rfl
                              apply Lo.runx 19 rfl rfl [10, 16, 17] (by kernel_rfl) (Turn.refl _)
                              apply Exists.intro; apply And.intro
                              · intro u w1 hR hF
                                obtain ⟨h10, h16, h17, -⟩ := hF
                                refine ⟨.inl ⟨false, h10, rfl⟩, fun a ha K hK => ?_⟩
                                have e141 := (ha 141).trans h16
                                have e142 := (ha 142).trans h17
                                clear ha h10 h16 h17
                                go_simp
                                refine hK _ ?_; rfl
                              apply Lo.runx 20 rfl rfl [10, 18] (by kernel_rfl) (Turn.refl _)
                              apply Exists.intro; apply And.intro
                              · intro u w1 hR hF
                                obtain ⟨h10, h18, -⟩ := hF
                                refine ⟨.inl ⟨false, h10, rfl⟩, fun a ha K hK => ?_⟩
                                have e143 := (ha 143).trans h18
                                clear ha h10 h18
                                go_simp
                                refine hK _ ?_; rfl
                              apply Lo.runx 21 rfl rfl [10, 19] (by kernel_rfl) (Turn.refl _)
                              apply Exists.intro; apply And.intro
                              · intro u w1 hR hF
                                obtain ⟨h10, h19, -⟩ := hF
                                refine ⟨.inl ⟨false, h10, rfl⟩, fun a ha K hK => ?_⟩
                                have e144 := (ha 144).trans h19
                                clear ha h10 h19
                                have q2 := HC2.out w1 (HT4.out.same (((Turn.refl [] _).drew).same hR))
                                go_simp
                                refine hK _ ?_; rfl
                              apply Lo.runx 22 rfl rfl [10, 15, 20] (by kernel_rfl) (Turn.refl _)
                              apply Exists.intro; apply And.intro
                              · intro u w1 hR hF
                                obtain ⟨h10, h15, h20, -⟩ := hF
                                refine ⟨.inl ⟨false, h10, rfl⟩, fun a ha K hK => ?_⟩
                                have e140 := (ha 140).trans h15
                                have e145 := (ha 145).trans h20
                                clear ha h10 h15 h20
                                go_simp
                                refine hK _ ?_; rfl
                              apply Lo.runx 23 rfl rfl [7, 10, 21] (by kernel_rfl) (Turn.refl _)
                              apply Exists.intro; apply And.intro
                              · intro u w1 hR hF
                                obtain ⟨h7, h10, h21, -⟩ := hF
                                refine ⟨.inl ⟨true, h7, rfl⟩, fun a ha K hK => ?_⟩
                                have e135 := (ha 135).trans h10
                                have e146 := (ha 146).trans h21
                                clear ha h7 h10 h21
                                go_simp
                                refine hK _ ?_; rfl
                              refine Lo.runv 24 rfl rfl [7, 22] (.bool true) (by kernel_rfl) (fun u w1 hR hF => ?_) (Turn.refl _) ?_
                              · obtain ⟨h7, h22, -⟩ := hF
                                refine ⟨rfl, fun a ha K hK => ?_⟩
                                have e132 := (ha 132).trans h7
                                have e147 := (ha 147).trans h22
                                clear ha h7 h22
                                go_simp
                                refine hK _ ?_
                                rfl
                              refine Lo.done [23] (fun u w1 hRd hSd hF => ?_)
                              clear hSd
                              obtain ⟨f23, -⟩ := hF
                              have d23 : u 23 = _ := f23
                              clear f23
                              simp only [putFrom, Act.put, List.setIfInBounds_toArray, List.set_cons_succ, List.set_cons_zero, Nat.zero_add, Nat.reduceAdd, d23]
                              have HT5 := hide (HT4.out.same (((Turn.refl [] _).drew).same hRd))
                              clear d23 hRd
                              go_wp2
                              go_roundw
                              case rel => exact ⟨j + 1, by omega, by go_num, by rw [HNX.out], HT5.out⟩
                              case measure => simp only [intOf]; omega
                            · have hd4 : decide (y.1 < z.1) = false := decide_eq_false e2
                              have hnx2 : bestK l t (j + 1) = (k : Int) := by rw [hnx, if_neg (fun h => by rcases h.2 with h | h <;> omega)]
                              have HNX := hide hnx2
                              clear hnx hnx2 e1 e2 hk0
                              go_wp2
                              refine wp_region_loose (Turn []) (by kernel_rfl) (by kernel_rfl) (by kernel_rfl) (by kernel_rfl) rfl (Turn.refl _) (fun _ _ _ h k => h.same k) ?_
                              apply Lo.runx 1 rfl rfl [] (by kernel_rfl) (Turn.refl _)
                              apply Exists.intro; apply And.intro
                              · intro u w1 hR hF
                                clear hF
                                refine ⟨rfl, fun a ha K hK => ?_⟩
                                have e4 := ha 4
                                conv at e4 => rhs; whnf
                                clear ha
                                go_simp
                                refine hK _ ?_; rfl
                              apply Lo.runx 2 rfl rfl [] (by kernel_rfl) (Turn.refl _)
                              apply Exists.intro; apply And.intro
                              · intro u w1 hR hF
                                clear hF
                                refine ⟨rfl, fun a ha K hK => ?_⟩
                                have e15 := ha 15
                                conv at e15 => rhs; whnf
                                clear ha
                                go_simp
                                refine hK _ ?_; rfl
                              apply Lo.runx 3 rfl rfl [0, 1] (by kernel_rfl) (Turn.refl _)
                              apply Exists.intro; apply And.intro
                              · intro u w1 hR hF
                                obtain ⟨h0, h1, -⟩ := hF
                                refine ⟨rfl, fun a ha K hK => ?_⟩
                                have e125 := (ha 125).trans h0
                                have e126 := (ha 126).trans h1
                                clear ha h0 h1
                                go_simp
                                refine hK _ ?_; rfl
                              apply Lo.runx 4 rfl rfl [2] (by kernel_rfl) (Turn.refl _)
                              apply Exists.intro; apply And.intro
                              · intro u w1 hR hF
                                obtain ⟨h2, -⟩ := hF
                                refine ⟨rfl, fun a ha K hK => ?_⟩
                                have e127 := (ha 127).trans h2
                                clear ha h2
                                go_simp
                                refine hK _ ?_; rfl
                              apply Lo.runx 5 rfl rfl [3] (by kernel_rfl) (Turn.refl _)
                              apply Exists.intro; apply And.intro
                              · intro u w1 hR hF
                                obtain ⟨h3, -⟩ := hF
                                refine ⟨rfl, fun a ha K hK => ?_⟩
                                have e128 := (ha 128).trans h3
                                clear ha h3
                                have q1 := HC.out w1 (HT4.out.same (((Turn.refl [] _).drew).same hR))
                                go_simp
                                refine hK _ ?_; rfl
                              apply Lo.runx 6 rfl rfl [] (by kernel_rfl) (Turn.refl _)
                              apply Exists.intro; apply And.intro
                              · intro u w1 hR hF
                                clear hF
                                refine ⟨rfl, fun a ha K hK => ?_⟩
                                have e5 := ha 5
                                conv at e5 => rhs; whnf
                                clear ha
                                go_simp
                                refine hK _ ?_; rfl
                              apply Lo.runx 7 rfl rfl [4, 5] (by kernel_rfl) (Turn.refl _)
                              apply Exists.intro; apply And.intro
                              · intro u w1 hR hF
                                obtain ⟨h4, h5, -⟩ := hF
                                refine ⟨rfl, fun a ha K hK => ?_⟩
                                have e129 := (ha 129).trans h4
                                have e130 := (ha 130).trans h5
                                clear ha h4 h5
                                go_simp
                                refine hK _ ?_; rfl
                              apply Lo.runx 8 rfl rfl [6] (by kernel_rfl) (Turn.refl _)
                              apply Exists.intro; apply And.intro
                              · intro u w1 hR hF
                                obtain ⟨h6, -⟩ := hF
                                refine ⟨rfl, fun a ha K hK => ?_⟩
                                have e131 := (ha 131).trans h6
                                clear ha h6
                                go_simp
                                refine hK _ ?_; rfl
                              apply Lo.runx 9 rfl rfl [7] (by kernel_rfl) (Turn.refl _)
                              apply Exists.intro; apply And.intro
                              · intro u w1 hR hF
                                obtain ⟨h7, -⟩ := hF
                                refine ⟨.inl ⟨true, h7, rfl⟩, fun a ha K hK => ?_⟩
                                have e14 := ha 14
                                conv at e14 => rhs; whnf
                                clear ha h7
                                go_simp
                                refine hK _ ?_; rfl
                              apply Lo.runx 10 rfl rfl [7, 8] (by kernel_rfl) (Turn.refl _)
                              apply Exists.intro; apply And.intro
                              · intro u w1 hR hF
                                obtain ⟨h7, h8, -⟩ := hF
                                refine ⟨.inl ⟨true, h7, rfl⟩, fun a ha K hK => ?_⟩
                                have e133 := (ha 133).trans h8
                                clear ha h7 h8
                                go_simp
                                refine hK _ ?_; rfl
                              apply Lo.runx 11 rfl rfl [7, 9] (by kernel_rfl) (Turn.refl _)
                              apply Exists.intro; apply And.intro
                              · intro u w1 hR hF
                                obtain ⟨h7, h9, -⟩ := hF
                                refine ⟨.inl ⟨true, h7, rfl⟩, fun a ha K hK => ?_⟩
                                have e134 := (ha 134).trans h9
                                clear ha h7 h9
                                go_simp
                                refine hK _ ?_; rfl
                              apply Lo.runx 12 rfl rfl [10] (by kernel_rfl) (Turn.refl _)
                              apply Exists.intro; apply And.intro
                              · intro u w1 hR hF
                                obtain ⟨h10, -⟩ := hF
                                refine ⟨.inl ⟨false, h10, rfl⟩, fun a ha K hK => ?_⟩
                                have e4 := ha 4
                                conv at e4 => rhs; whnf
                                clear ha h10
                                go_simp
                                refine hK _ ?_; rfl
                              apply Lo.runx 13 rfl rfl [10] (by kernel_rfl) (Turn.refl _)
                              apply Exists.intro; apply And.intro
                              · intro u w1 hR hF
                                obtain ⟨h10, -⟩ := hF
                                refine ⟨.inl ⟨false, h10, rfl⟩, fun a ha K hK => ?_⟩
                                have e15 := ha 15
                                conv at e15 => rhs; whnf
                                clear ha h10
                                go_simp
                                refine hK _ ?_; rfl
                              apply Lo.runx 14 rfl rfl [10, 11, 12] (by kernel_rfl) (Turn.refl _)
                              apply Exists.intro; apply And.intro
                              · intro u w1 hR hF
                                obtain ⟨h10, h11, h12, -⟩ := hF
                                refine ⟨.inl ⟨false, h10, rfl⟩, fun a ha K hK => ?_⟩
                                have e136 := (ha 136).trans h11
                                have e137 := (ha 137).trans h12
                                clear ha h10 h11 h12
                                go_simp
                                refine hK _ ?_; rfl
                              apply Lo.runx 15 rfl rfl [10, 13] (by kernel_rfl) (Turn.refl _)
                              apply Exists.intro; apply And.intro
                              · intro u w1 hR hF
                                obtain ⟨h10, h13, -⟩ := hF
                                refine ⟨.inl ⟨false, h10, rfl⟩, fun a ha K hK => ?_⟩
                                have e138 := (ha 138).trans h13
                                clear ha h10 h13
                                go_simp
                                refine hK _ ?_; rfl
                              apply Lo.runx 16 rfl rfl [10, 14] (by kernel_rfl) (Turn.refl _)
                              apply Exists.intro; apply And.intro
                              · intro u w1 hR hF
                                obtain ⟨h10, h14, -⟩ := hF
                                refine ⟨.inl ⟨false, h10, rfl⟩, fun a ha K hK => ?_⟩
                                have e139 := (ha 139).trans h14
                                clear ha h10 h14
                                have q1 := HC.out w1 (HT4.out.same (((Turn.refl [] _).drew).same hR))
                                go_simp
                                refine hK _ ?_; rfl
                              apply Lo.runx 17 rfl rfl [10] (by kernel_rfl) (Turn.refl _)
                              apply Exists.intro; apply And.intro
                              · intro u w1 hR hF
                                obtain ⟨h10, -⟩ := hF
                                refine ⟨.inl ⟨false, h10, rfl⟩, fun a ha K hK => ?_⟩
                                have e4 := ha 4
                                conv at e4 => rhs; whnf
                                clear ha h10
                                go_simp
                                refine hK _ ?_; rfl
                              apply Lo.runx 18 rfl rfl [10] (by kernel_rfl) (Turn.refl _)
                              apply Exists.intro; apply And.intro
                              · intro u w1 hR hF
                                obtain ⟨h10, -⟩ := hF
                                refine ⟨.inl ⟨false, h10, rfl⟩, fun a ha K hK => ?_⟩
                                have e14 := ha 14
                                conv at e14 => rhs; whnf
                                clear ha h10
                                go_simp
                                refine hK _ ?_; rfl
                              apply Lo.runx 19 rfl rfl [10, 16, 17] (by kernel_rfl) (Turn.refl _)
                              apply Exists.intro; apply And.intro
                              · intro u w1 hR hF
                                obtain ⟨h10, h16, h17, -⟩ := hF
                                refine ⟨.inl ⟨false, h10, rfl⟩, fun a ha K hK => ?_⟩
                                have e141 := (ha 141).trans h16
                                have e142 := (ha 142).trans h17
                                clear ha h10 h16 h17
                                go_simp
                                refine hK _ ?_; rfl
                              apply Lo.runx 20 rfl rfl [10, 18] (by kernel_rfl) (Turn.refl _)
                              apply Exists.intro; apply And.intro
                              · intro u w1 hR hF
                                obtain ⟨h10, h18, -⟩ := hF
                                refine ⟨.inl ⟨false, h10, rfl⟩, fun a ha K hK => ?_⟩
                                have e143 := (ha 143).trans h18
                                clear ha h10 h18
                                go_simp
                                refine hK _ ?_; rfl
                              apply Lo.runx 21 rfl rfl [10, 19] (by kernel_rfl) (Turn.refl _)
                              apply Exists.intro; apply And.intro
                              · intro u w1 hR hF
                                obtain ⟨h10, h19, -⟩ := hF
                                refine ⟨.inl ⟨false, h10, rfl⟩, fun a ha K hK => ?_⟩
                                have e144 := (ha 144).trans h19
                                clear ha h10 h19
                                have q2 := HC2.out w1 (HT4.out.same (((Turn.refl [] _).drew).same hR))
                                go_simp
                                refine hK _ ?_; rfl
                              apply Lo.runx 22 rfl rfl [10, 15, 20] (by kernel_rfl) (Turn.refl _)
                              apply Exists.intro; apply And.intro
                              · intro u w1 hR hF
                                obtain ⟨h10, h15, h20, -⟩ := hF
                                refine ⟨.inl ⟨false, h10, rfl⟩, fun a ha K hK => ?_⟩
                                have e140 := (ha 140).trans h15
                                have e145 := (ha 145).trans h20
                                clear ha h10 h15 h20
                                go_simp
                                refine hK _ ?_; rfl
                              apply Lo.runx 23 rfl rfl [7, 10, 21] (by kernel_rfl) (Turn.refl _)
                              apply Exists.intro; apply And.intro
                              · intro u w1 hR hF
                                obtain ⟨h7, h10, h21, -⟩ := hF
                                refine ⟨.inl ⟨true, h7, rfl⟩, fun a ha K hK => ?_⟩
                                have e135 := (ha 135).trans h10
                                have e146 := (ha 146).trans h21
                                clear ha h7 h10 h21
                                go_simp
                                refine hK _ ?_; rfl
                              refine Lo.runv 24 rfl rfl [7, 22] (.bool false) (by kernel_rfl) (fun u w1 hR hF => ?_) (Turn.refl _) ?_
                              · obtain ⟨h7, h22, -⟩ := hF
                                refine ⟨rfl, fun a ha K hK => ?_⟩
                                have e132 := (ha 132).trans h7
                                have e147 := (ha 147).trans h22
                                clear ha h7 h22
                                go_simp
                                refine hK _ ?_
                                rfl
                              refine Lo.done [23] (fun u w1 hRd hSd hF => ?_)
                              clear hSd
                              obtain ⟨f23, -⟩ := hF
                              have d23 : u 23 = _ := f23
                              clear f23
                              simp only [putFrom, Act.put, List.setIfInBounds_toArray, List.set_cons_succ, List.set_cons_zero, Nat.zero_add, Nat.reduceAdd, d23]
                              have HT5 := hide (HT4.out.same (((Turn.refl [] _).drew).same hRd))
                              clear d23 hRd
                              go_wp2
                              go_roundw
                              case rel => exact ⟨j + 1, by omega, by go_num, by rw [HNX.out], HT5.out⟩
                              case measure => simp only [intOf]; omega
                        · have hd3 : decide (y.1 ≤ x.a) = false := by rw [HT.out]; exact decide_eq_false e1
                          have hnx2 : bestK l t (j + 1) = bv := by rw [hnx, if_neg (fun h => e1 h.1)]
                          have HNX := hide hnx2
                          clear hnx hnx2 e1 hsp
                          go_wp2
                          refine wp_region_loose (Turn []) (by kernel_rfl) (by kernel_rfl) (by kernel_rfl) (by kernel_rfl) rfl (Turn.refl _) (fun _ _ _ h k => h.same k) ?_
                          apply Lo.runx 1 rfl rfl [] (by kernel_rfl) (Turn.refl _)
                          apply Exists.intro; apply And.intro
                          · intro u w1 hR hF
                            clear hF
                            refine ⟨rfl, fun a ha K hK => ?_⟩
                            have e4 := ha 4
                            conv at e4 => rhs; whnf
                            clear ha
                            go_simp
                            refine hK _ ?_; rfl
                          apply Lo.runx 2 rfl rfl [] (by kernel_rfl) (Turn.refl _)
                          apply Exists.intro; apply And.intro
                          · intro u w1 hR hF
                            clear hF
                            refine ⟨rfl, fun a ha K hK => ?_⟩
                            have e15 := ha 15
                            conv at e15 => rhs; whnf
                            clear ha
                            go_simp
                            refine hK _ ?_; rfl
                          apply Lo.runx 3 rfl rfl [0, 1] (by kernel_rfl) (Turn.refl _)
                          apply Exists.intro; apply And.intro
                          · intro u w1 hR hF
                            obtain ⟨h0, h1, -⟩ := hF
                            refine ⟨rfl, fun a ha K hK => ?_⟩
                            have e125 := (ha 125).trans h0
                            have e126 := (ha 126).trans h1
                            clear ha h0 h1
                            go_simp
                            refine hK _ ?_; rfl
                          apply Lo.runx 4 rfl rfl [2] (by kernel_rfl) (Turn.refl _)
                          apply Exists.intro; apply And.intro
                          · intro u w1 hR hF
                            obtain ⟨h2, -⟩ := hF
                            refine ⟨rfl, fun a ha K hK => ?_⟩
                            have e127 := (ha 127).trans h2
                            clear ha h2
                            go_simp
                            refine hK _ ?_; rfl
                          apply Lo.runx 5 rfl rfl [3] (by kernel_rfl) (Turn.refl _)
                          apply Exists.intro; apply And.intro
                          · intro u w1 hR hF
                            obtain ⟨h3, -⟩ := hF
                            refine ⟨rfl, fun a ha K hK => ?_⟩
                            have e128 := (ha 128).trans h3
                            clear ha h3
                            have q1 := HC.out w1 (HT4.out.same (((Turn.refl [] _).drew).same hR))
                            go_simp
                            refine hK _ ?_; rfl
                          apply Lo.runx 6 rfl rfl [] (by kernel_rfl) (Turn.refl _)
                          apply Exists.intro; apply And.intro
                          · intro u w1 hR hF
                            clear hF
                            refine ⟨rfl, fun a ha K hK => ?_⟩
                            have e5 := ha 5
                            conv at e5 => rhs; whnf
                            clear ha
                            go_simp
                            refine hK _ ?_; rfl
                          apply Lo.runx 7 rfl rfl [4, 5] (by kernel_rfl) (Turn.refl _)
                          apply Exists.intro; apply And.intro
                          · intro u w1 hR hF
                            obtain ⟨h4, h5, -⟩ := hF
                            refine ⟨rfl, fun a ha K hK => ?_⟩
                            have e129 := (ha 129).trans h4
                            have e130 := (ha 130).trans h5
                            clear ha h4 h5
                            go_simp
                            refine hK _ ?_; rfl
                          apply Lo.runx 8 rfl rfl [6] (by kernel_rfl) (Turn.refl _)
                          apply Exists.intro; apply And.intro
                          · intro u w1 hR hF
                            obtain ⟨h6, -⟩ := hF
                            refine ⟨rfl, fun a ha K hK => ?_⟩
                            have e131 := (ha 131).trans h6
                            clear ha h6
                            go_simp
                            refine hK _ ?_; rfl
                          refine Lo.pass 9 rfl rfl [7] (by kernel_rfl) (Turn.refl _) (fun u w1 hR hF => ?_) ?_
                          · exact .inl ⟨false, hF.1, rfl⟩
                          refine Lo.pass 10 rfl rfl [7] (by kernel_rfl) (Turn.refl _) (fun u w1 hR hF => ?_) ?_
                          · exact .inl ⟨false, hF.1, rfl⟩
                          refine Lo.pass 11 rfl rfl [7] (by kernel_rfl) (Turn.refl _) (fun u w1 hR hF => ?_) ?_
                          · exact .inl ⟨false, hF.1, rfl⟩
                          refine Lo.pass 12 rfl rfl [10] (by kernel_rfl) (Turn.refl _) (fun u w1 hR hF => ?_) ?_
                          · exact .inr ⟨hF.1, rfl⟩
                          refine Lo.pass 13 rfl rfl [10] (by kernel_rfl) (Turn.refl _) (fun u w1 hR hF => ?_) ?_
                          · exact .inr ⟨hF.1, rfl⟩
                          refine Lo.pass 14 rfl rfl [10] (by kernel_rfl) (Turn.refl _) (fun u w1 hR hF => ?_) ?_
                          · exact .inr ⟨hF.1, rfl⟩
                          refine Lo.pass 15 rfl rfl [10] (by kernel_rfl) (Turn.refl _) (fun u w1 hR hF => ?_) ?_
                          · exact .inr ⟨hF.1, rfl⟩
                          refine Lo.pass 16 rfl rfl [10] (by kernel_rfl) (Turn.refl _) (fun u w1 hR hF => ?_) ?_
                          · exact .inr ⟨hF.1, rfl⟩
                          refine Lo.pass 17 rfl rfl [10] (by kernel_rfl) (Turn.refl _) (fun u w1 hR hF => ?_) ?_
                          · exact .inr ⟨hF.1, rfl⟩
                          refine Lo.pass 18 rfl rfl [10] (by kernel_rfl) (Turn.refl _) (fun u w1 hR hF => ?_) ?_
                          · exact .inr ⟨hF.1, rfl⟩
                          refine Lo.pass 19 rfl rfl [10] (by kernel_rfl) (Turn.refl _) (fun u w1 hR hF => ?_) ?_
                          · exact .inr ⟨hF.1, rfl⟩
                          refine Lo.pass 20 rfl rfl [10] (by kernel_rfl) (Turn.refl _) (fun u w1 hR hF => ?_) ?_
                          · exact .inr ⟨hF.1, rfl⟩
                          refine Lo.pass 21 rfl rfl [10] (by kernel_rfl) (Turn.refl _) (fun u w1 hR hF => ?_) ?_
                          · exact .inr ⟨hF.1, rfl⟩
                          refine Lo.pass 22 rfl rfl [10] (by kernel_rfl) (Turn.refl _) (fun u w1 hR hF => ?_) ?_
                          · exact .inr ⟨hF.1, rfl⟩
                          refine Lo.pass 23 rfl rfl [7] (by kernel_rfl) (Turn.refl _) (fun u w1 hR hF => ?_) ?_
                          · exact .inl ⟨false, hF.1, rfl⟩
                          refine Lo.runv 24 rfl rfl [7, 22] (.bool false) (by kernel_rfl) (fun u w1 hR hF => ?_) (Turn.refl _) ?_
                          · obtain ⟨h7, h22, -⟩ := hF
                            refine ⟨rfl, fun a ha K hK => ?_⟩
                            have e132 := (ha 132).trans h7
                            have e147 := (ha 147).trans h22
                            clear ha h7 h22
                            go_simp
                            refine hK _ ?_
                            rfl
                          refine Lo.done [23] (fun u w1 hRd hSd hF => ?_)
                          clear hSd
                          obtain ⟨f23, -⟩ := hF
                          have d23 : u 23 = _ := f23
                          clear f23
                          simp only [putFrom, Act.put, List.setIfInBounds_toArray, List.set_cons_succ, List.set_cons_zero, Nat.zero_add, Nat.reduceAdd, d23]
                          have HT5 := hide (HT4.out.same (((Turn.refl [] _).drew).same hRd))
                          clear d23 hRd
                          go_wp2
                          go_roundw
                          case rel => exact ⟨j + 1, by omega, by go_num, by rw [HNX.out], HT5.out⟩
                          case measure => simp only [intOf]; omega
                      · obtain rfl : j = l.length := by omega
                        have hjl1 : ¬ (l.length : Int) < l.length := by omega
                        have hsp := bestK_spec l t l.length
                        obtain ⟨bv, hbv⟩ : ∃ bv, bv = bestK l t l.length := ⟨_, rfl⟩
                        rw [← hbv] at hsp ⊢
                        clear hbv
                        rcases hsp with ⟨hk, hno⟩ | ⟨k, hk, hkl, hk3, hk4, hk5⟩
                        · subst hk
                          have hdone := HSEL.out.done hno
                          have hTD : T = D := Stb.unique hdone.1 HST.out
                          subst hTD
                          obtain ⟨za, zc, rfl, -, -⟩ := HIR2.out.form
                          have HD2 := hide hdone.2
                          have HLL : Hid (l.length ≤ i + 1) := by show _ ≤ _; have := HTL.out; omega
                          have HDL : Hid ((T.map (·.2)).length ≤ 1000000) := by show _ ≤ _; have := HTL.out; have := HLT.out; rw [List.length_map]; omega
                          clear hdone hno
                          go_wp2_with fail
                          refine (sameIntsL_any _ _ _ ia _ ic za _ zc (T.map (·.2)) (by simpa only [List.length_map] using HIR.out.still (HTQ.out.same HT4.out)) (by simpa only [List.length_map] using HIR2.out.still HT4.out) HDL.out).mono ?_
                          rintro e w5 ⟨rfl, ht5⟩
                          have hfin : PlW W (i + 1) (.slice la3 l.length lc3) (.int .i64 x.a) w5 := by
                            refine ⟨t, F3, l, by rw [HT.out], HT2.out, HLL.out, ?_, (HLR.out.still HT4.out).still ht5, ((HTW.out.same HTQ.out).same HT4.out).same ht5⟩
                            have := ((HW3.out.still HTQ.out).still HT4.out).still ht5
                            rw [HD2.out]
                            exact this
                          have HFIN := hide hfin
                          clear hfin ht5
                          go_wp2
                          go_meet
                          case rel => exact HFIN.out
                        · subst hk
                          have hk0 : ¬ (k : Int) < 0 := by omega
                          have hkl1 : (k : Int) < l.length := by omega
                          have hstep := HSEL.out.step hkl hk3 hk4 hk5
                          obtain ⟨z, hz⟩ : ∃ z, z = l[k] := ⟨_, rfl⟩
                          obtain ⟨g, cap, eg, kg, -⟩ := (HLR.out.still HT4.out).at tmC_len hkl
                          simp only [Value.slice.injEq, true_and] at eg
                          obtain ⟨rfl, rfl⟩ := eg
                          have q1 : wr.cell? ⟨g, k * 2 + 1, none⟩ = some (.int .i64 z.2) := by
                            have := kg 1 (by omega)
                            rw [← hz] at this
                            simpa [tmC] using this
                          rw [← hz] at hstep
                          have HSTEP := hide hstep
                          have hkc : k ≤ lc3 := by omega
                          have hkb1 : 0 ≤ (k : Int) + 1 := by omega
                          have hkb2 : (k : Int) + 1 ≤ l.length := by omega
                          clear kg hk3 hk4 hk5 hz hstep
                          obtain ⟨wA, hwA⟩ : ∃ wA, wA = wr.alloc (.cells #[.int .i64 z.2] 3) := ⟨_, rfl⟩
                          have hTA : Turn [] wq wA := by rw [hwA]; exact HT4.out.alloc _
                          have hszA := (HTQ.out.same hTA).size
                          obtain ⟨v7, w9, hr7, hrow7, ht7, hown7⟩ := app_z wA w3.heap.size gv (T.map (·.2)) z.2 wr.heap.size (HIR2.out.still hTA) (by rw [hwA]; exact heap_new wr _) (by have := HTL.out; have := HLT.out; rw [List.length_map]; omega) hszA
                          have hl9 : LR w9 W.heap.size (.slice (some ⟨g, 0, none⟩) l.length lc3) l := (HLR.out.still hTA).kept ht7 (fun q hq hm => (HLR.out.still hTA).apart (HIR2.out.still hTA) (by decide) q hq (by simpa using hm))
                          have ht9 : Turn [] w3 w9 := (HTQ.out.same hTA).trans ht7 (fun q hq => .inr (HIR2.out.lt q (by simpa using hq)).1)
                          rw [hwA] at hr7
                          have HR7 := hide hr7
                          have HI7 := hide hrow7
                          have HL9 := hide hl9
                          have HT9 := hide ht9
                          clear hwA hTA hszA hr7 hrow7 ht7 hown7 hl9 ht9
                          go_wp2_with (at_builtin; go_must (refine wpList_appT rfl rfl rfl rfl HR7.out ?_))
                          refine wp_region_loud 9 (Turn [w9.heap.size]) (fun a b => a = b) (fun k w => match k with | 0 => (fun w => w.heap.size = w9.heap.size ∧ LR w W.heap.size (.slice (some ⟨g, 0, none⟩) l.length lc3) l) w | 1 => (fun w => LR w w9.heap.size (.slice (some ⟨w9.heap.size, 0, none⟩) 0 0) [] ∧ LR w W.heap.size (.slice (some ⟨g, 0, none⟩) l.length lc3) l) w | _ => (fun w => LR w W.heap.size (.slice (some ⟨g, 0, none⟩) l.length lc3) l) w) [0, 4] (by kernel_rfl) (by kernel_rfl) (by kernel_rfl) (by kernel_rfl) (by kernel_rfl) (by kernel_rfl) (Nat.le_of_ble_eq_true rfl) (by decide) rfl (fun _ => rfl) (fun _ _ _ h k => h.same k) (fun _ _ h => h ▸ Turn.refl _ _) ?_ ?_ ?_
                          · intro k a b hk hR
                            match k, hk with
                            | 0, hk =>
                              have hk := (show (fun w => w.heap.size = w9.heap.size ∧ LR w W.heap.size (.slice (some ⟨g, 0, none⟩) l.length lc3) l) a from hk)
                              dsimp only at hk
                              show (fun w => w.heap.size = w9.heap.size ∧ LR w W.heap.size (.slice (some ⟨g, 0, none⟩) l.length lc3) l) b
                              dsimp only
                              exact hR ▸ hk
                            | 1, hk =>
                              have hk := (show (fun w => LR w w9.heap.size (.slice (some ⟨w9.heap.size, 0, none⟩) 0 0) [] ∧ LR w W.heap.size (.slice (some ⟨g, 0, none⟩) l.length lc3) l) a from hk)
                              dsimp only at hk
                              show (fun w => LR w w9.heap.size (.slice (some ⟨w9.heap.size, 0, none⟩) 0 0) [] ∧ LR w W.heap.size (.slice (some ⟨g, 0, none⟩) l.length lc3) l) b
                              dsimp only
                              exact hR ▸ hk
                            | _ + 2, hk =>
                              have hk := (show (fun w => LR w W.heap.size (.slice (some ⟨g, 0, none⟩) l.length lc3) l) a from hk)
                              dsimp only at hk
                              show (fun w => LR w W.heap.size (.slice (some ⟨g, 0, none⟩) l.length lc3) l) b
                              dsimp only
                              exact hR ▸ hk
                          · show (fun w => w.heap.size = w9.heap.size ∧ LR w W.heap.size (.slice (some ⟨g, 0, none⟩) l.length lc3) l) _
                            dsimp only
                            exact ⟨by simp, HL9.out.still ((Turn.refl [] _).drew)⟩
                          refine Lo.noisy 1 rfl 0 rfl [] (fun y _ => y = .slice (some ⟨w9.heap.size, 0, none⟩) 0 0) (by kernel_rfl) (fun x w w' h hR => ?_) (.inr (fun x w w' h hR => by exact h)) (fun u w1 hR hS hF => ?_) ?_
                          · exact h
                          · clear hF
                            have hS := (show (fun w => w.heap.size = w9.heap.size ∧ LR w W.heap.size (.slice (some ⟨g, 0, none⟩) l.length lc3) l) w1 from hS)
                            dsimp only at hS
                            refine ⟨rfl, fun a ha K hK => ?_⟩
                            clear ha
                            go_simp
                            exact hK _ _ rfl ((Turn.refl _ _).alloc _) ⟨.inr ⟨w9.heap.size, 0, _, rfl, Nat.le_refl _, by rw [← hS.1]; exact heap_new w1 _, Nat.le_refl _, Nat.zero_le _, Nat.zero_le _, rfl⟩, hS.2.still ((Turn.refl [] _).alloc _)⟩
                          apply Lo.runx 2 rfl rfl [] (by kernel_rfl) (fun _ => rfl)
                          apply Exists.intro; apply And.intro
                          · intro u w1 hR hF
                            clear hF
                            refine ⟨rfl, fun a ha K hK => ?_⟩
                            have e4 := ha 4
                            conv at e4 => rhs; whnf
                            clear ha
                            go_simp
                            refine hK _ ?_; rfl
                          apply Lo.runx 3 rfl rfl [] (by kernel_rfl) (fun _ => rfl)
                          apply Exists.intro; apply And.intro
                          · intro u w1 hR hF
                            clear hF
                            refine ⟨rfl, fun a ha K hK => ?_⟩
                            have e14 := ha 14
                            conv at e14 => rhs; whnf
                            clear ha
                            go_simp
                            refine hK _ ?_; rfl
                          refine Lo.runv 4 rfl rfl [1, 2] (.slice (some ⟨g, 0, none⟩) k lc3) (by kernel_rfl) (fun u w1 hR hF => ?_) (fun _ => rfl) ?_
                          · obtain ⟨h1, h2, -⟩ := hF
                            refine ⟨rfl, fun a ha K hK => ?_⟩
                            have e161 := (ha 161).trans h1
                            have e162 := (ha 162).trans h2
                            clear ha h1 h2
                            go_simp
                            refine hK _ ?_
                            rfl
                          refine Lo.noisy 5 rfl 1 rfl [0, 3] (fun y w' => LR w' w9.heap.size y (l.take k)) (by kernel_rfl) (fun x w w' h hR => ?_) (.inl (by kernel_rfl)) (fun u w1 hR hS hF => ?_) ?_
                          · exact hR ▸ h
                          · obtain ⟨h0, h3, -⟩ := hF
                            have hS := (show (fun w => LR w w9.heap.size (.slice (some ⟨w9.heap.size, 0, none⟩) 0 0) [] ∧ LR w W.heap.size (.slice (some ⟨g, 0, none⟩) l.length lc3) l) w1 from hS)
                            dsimp only at hS
                            refine ⟨rfl, fun a ha K hK => ?_⟩
                            have e160 : a.tmps.getD 160 undef = u 0 := ha 160
                            have e163 := (ha 163).trans h3
                            have h0 := (show (fun y _ => y = .slice (some ⟨w9.heap.size, 0, none⟩) 0 0) (u 0) w1 from h0)
                            dsimp only at h0
                            clear ha h3
                            rw [h0] at e160
                            obtain ⟨v7, w7, hr7, hrow7, ht7, hown7⟩ := app_ls w1 w9.heap.size (.slice (some ⟨w9.heap.size, 0, none⟩) 0 0) (.slice (some ⟨g, 0, none⟩) k lc3) [] (l.take k) hS.1 (by have := LR.part hS.2 (i := 0) (m := k) (by omega) lc3; simpa using this) (by have := HLT.out; have := HTL.out; simp; omega) (by have := hR.size; simpa using this)
                            exact oper_appendW rfl e160 e163 hr7 (hK _ _ (by simpa using hrow7) (ht7.mono (by simp [Value.ownBlock])) (hS.2.kept ht7 (fun q hq hm => by have h1 := (HL9.out.lt q hq).2; simp [Value.ownBlock] at hm; omega)))
                          apply Lo.runx 6 rfl rfl [] (by kernel_rfl) (fun _ => rfl)
                          apply Exists.intro; apply And.intro
                          · intro u w1 hR hF
                            clear hF
                            refine ⟨rfl, fun a ha K hK => ?_⟩
                            have e4 := ha 4
                            conv at e4 => rhs; whnf
                            clear ha
                            go_simp
                            refine hK _ ?_; rfl
                          apply Lo.runx 7 rfl rfl [] (by kernel_rfl) (fun _ => rfl)
                          apply Exists.intro; apply And.intro
                          · intro u w1 hR hF
                            clear hF
                            refine ⟨rfl, fun a ha K hK => ?_⟩
                            have e14 := ha 14
                            conv at e14 => rhs; whnf
                            clear ha
                            go_simp
                            refine hK _ ?_; rfl
                          refine Lo.runv 8 rfl rfl [6] (.int .i64 ((k + 1 : Nat) : Int)) (by kernel_rfl) (fun u w1 hR hF => ?_) (fun _ => rfl) ?_
                          · obtain ⟨h6, -⟩ := hF
                            refine ⟨rfl, fun a ha K hK => ?_⟩
                            have e166 := (ha 166).trans h6
                            clear ha h6
                            go_simp
                            refine hK _ ?_
                            exact wr64 (by omega) (by have := HLT.out; have := HTL.out; omega)
                          refine Lo.runv 9 rfl rfl [5, 7] (.slice (if lc3 = k + 1 then some ⟨g, 0, none⟩ else some ⟨g, (k + 1) * 2, none⟩) (l.length - (k + 1)) (lc3 - (k + 1))) (by kernel_rfl) (fun u w1 hR hF => ?_) (fun _ => rfl) ?_
                          · obtain ⟨h5, h7, -⟩ := hF
                            refine ⟨rfl, fun a ha K hK => ?_⟩
                            have e165 := (ha 165).trans h5
                            have e167 := (ha 167).trans h7
                            clear ha h5 h7
                            go_simp
                            refine hK _ ?_
                            rfl
                          refine Lo.done [4, 8] (fun u w1 hRd hSd hF => ?_)
                          have hSd := (show (fun w => LR w W.heap.size (.slice (some ⟨g, 0, none⟩) l.length lc3) l) w1 from hSd)
                          dsimp only at hSd
                          obtain ⟨f4, f8, -⟩ := hF
                          have d4 := (show (fun y w' => LR w' w9.heap.size y (l.take k)) (u 4) w1 from f4)
                          dsimp only at d4
                          have d8 : u 8 = _ := f8
                          clear f4 f8
                          simp only [List.take_succ_cons, List.take_zero, List.drop_succ_cons, List.drop_zero, putFrom, Act.put, List.setIfInBounds_toArray, List.set_cons_succ, List.set_cons_zero, Nat.zero_add, Nat.reduceAdd, d8]
                          have hsrc : GSrc tmC w1 (.slice (if lc3 = k + 1 then some ⟨g, 0, none⟩ else some ⟨g, (k + 1) * 2, none⟩) (l.length - (k + 1)) (lc3 - (k + 1))) (l.drop (k + 1)) := by
                            by_cases e : lc3 = k + 1
                            · rw [if_pos e, show l.length - (k + 1) = 0 by omega, List.drop_eq_nil_of_le (by omega)]
                              have := LR.part hSd (i := 0) (m := 0) (by omega) (lc3 - (k + 1))
                              simpa using this
                            · rw [if_neg e]
                              have := LR.part hSd (i := k + 1) (m := l.length - (k + 1)) (by omega) (lc3 - (k + 1))
                              rwa [List.take_of_length_le (by rw [List.length_drop]; exact Nat.le_refl _)] at this
                          have hsz9 := hRd.size
                          obtain ⟨v8, w8, hr8, hrow8, ht8, hown8⟩ := app_ls w1 w9.heap.size (u 4) _ (l.take k) (l.drop (k + 1)) d4 hsrc (by have := HLT.out; have := HTL.out; rw [List.length_take, List.length_drop]; omega) (by simpa using hsz9)
                          have hTa : Turn [] w9 w1 := ((Turn.refl [] w9).drew).trans hRd (fun q hq => .inr (by obtain rfl := List.mem_singleton.1 hq; exact Nat.le_refl _))
                          have hT8 : Turn [] w9 w8 := hTa.trans ht8 (fun q hq => .inr (d4.lt q (by simpa using hq)).1)
                          have hwz : W.heap.size ≤ w9.heap.size := by have h1 := HTW.out.size; have h2 := HT9.out.size; omega
                          have hrow9 := hrow8.base_le hwz
                          obtain ⟨a8, c8, hv8, -, -⟩ := hrow8.form
                          subst hv8
                          have HR8 := hide hr8
                          have HROW9 := hide hrow9
                          have HT8 := hide hT8
                          clear hr8 hrow8 ht8 hown8 hTa hT8 hsrc hsz9 hSd hRd d4 hrow9
                          go_wp2_with (at_builtin; go_must (refine wpList_appT rfl rfl rfl rfl HR8.out ?_))
                          go_roundw
                          case rel =>
                            refine ⟨T ++ [z], l.take k ++ l.drop (k + 1), _, rfl, HSTEP.out, ?_, by simpa only [List.length_append, List.length_take, List.length_drop] using HROW9.out, by rw [List.map_append]; exact HI7.out.still HT8.out, HT9.out.same HT8.out⟩
                            have := HTL.out
                            simp only [List.length_append, List.length_take, List.length_drop, List.length_cons, List.length_nil]
                            omega
                          case measure =>
                            simp only [lenV, List.length_append, List.length_take, List.length_drop]
                            omega
            · have b0 : (x.what == 0) = false := by simp; omega
              have b1 : (x.what == 1) = false := by simp; omega
              have b2 : (x.what == 2) = false := by simp; omega
              clear q0 q1 q2
              go_wp2
              go_meet
              case rel => exact HPL.out
          case rest =>
            obtain ⟨now2, F2, all2, rfl, hnow2, hlen2, hwh2, hrow2, htw2⟩ := hcut
            obtain ⟨la2, lc2, rfl, hm1, hm2⟩ := hrow2.form
            have HP2 := hide (show PlW W (i + 1) (.slice la2 all2.length lc2) (.int .i64 (now2 : Int)) wc from ⟨now2, F2, all2, rfl, hnow2, hlen2, hwh2, hrow2, htw2⟩)
            have HNOW := hide (now_any wc _ _ _ _ _ hwh2)
            have HMANY := hide (many_any wc _ _ _ _ _ hwh2)
            clear hwh2 hrow2 htw2
            go_wp2_with fail
            refine HNOW.out.mono ?_
            rintro e w1 ⟨rfl, rfl⟩
            go_wp2_with fail
            refine HMANY.out.mono ?_
            rintro e w2 ⟨rfl, rfl⟩
            go_wp2
            go_roundw
            case rel =>
              first
                | exact ⟨i + 1, by omega, by go_num, HP2.out⟩
                | (repeat apply Exists.intro
                   exact ⟨⟨i + 1, by omega, by go_num, HP2.out⟩, rfl⟩)
            case measure => simp only [intOf]; omega
    · obtain rfl : i = ds.length := by omega
      have hlt1 : ¬ (ds.length : Int) < ds.length := by omega
      go_wp2
      go_ret
      exact ⟨by simp, HTW.out.nil⟩
end Go.Proofs.YtcficgpknokpbaaDoor.Wh
