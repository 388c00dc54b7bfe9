/- Sgf, NShelf, NameM, SnV, SnB, Clone, Sgo, Sgs, Sgb: texts merged. -/
import Derived.Test.YtmdmdbobbepogaaGreatDoorM4
import Derived.Shelf.Strings.Builder1
import Derived.Shelf.Strings.Builder2
import Derived.Shelf.Small.Bits
import Derived.Shelf.Strings.BuilderF
import Derived.Shelf.Strconv.Atoi
import Derived.Shelf.Strconv.Itoa0
import Derived.Shelf.Strconv.Itoa1
import Derived.Shelf.LaysM
import Derived.Shelf.Strconv.Itoa2
import Derived.Shelf.Strconv.Itoa3
import Derived.Shelf.Strconv.AtoiErrFast
import Derived.Shelf.Strconv.ParseIntEmpty
import Derived.Shelf.Strconv.AtoiFail
import Derived.Shelf.Strconv.Clone
import Derived.Shelf.Strconv.SyntaxError
import Derived.Shelf.LaysC
import Derived.Shelf.Strconv.ToError
import Derived.Shelf.Strconv.Lower
import Derived.Shelf.Strconv.ParseUint10
import Derived.Shelf.Strconv.ParseUint10Empty
import Derived.Shelf.Strconv.ParseUint10Any
import Derived.Shelf.Strconv.ParseInt10
import Derived.Shelf.Strconv.AtoiLong
import Derived.Shelf.Strconv.AtoiInnerAll
import Derived.Shelf.Strconv.RangeError
import Derived.Shelf.Strconv.ToErrorRange
import Derived.Shelf.Strconv.AtoiAll
import Derived.Shelf.Strconv.ErrVarAll
import Derived.Shelf.Strconv.ParseUintEmpty
import Derived.Shelf.Strconv.ParseUint10b64
import Derived.Shelf.Strconv.ParseUint10b32
import Derived.Shelf.Strconv.ParseUint10b16
import Derived.Shelf.Strconv.ParseUint10b8
import Derived.Shelf.Strconv.ParseUint10At
import Derived.Shelf.Strconv.ParseInt10At64
import Derived.Shelf.Strconv.ParseInt10At32
import Derived.Shelf.Strconv.ParseInt10At16
import Derived.Shelf.Strconv.ParseInt10At8
import Derived.Shelf.Strconv.ParseInt10All
import Derived.Shelf.Strings.Prefix
import Derived.Shelf.Bits.Mul64
import Derived.Shelf.Strings.Repeat
import Derived.Ground.Names2Prog
import Derived.Shelf.Slices.SearchI
import Derived.Ground.SlgmProg
import Derived.Shelf.SortM.Plain
import Derived.Shelf.SortM.SortNone
import Derived.Test.YtmdmdbobbepogaaGreatDoorProg
import Derived.WalkKit
import Derived.Lib.AtoiAll
import Derived.Lib.ItoaNum
import Derived.Lib.TrimByte
import Derived.Lib.Strings
import Derived.Lib.ParseIntBTie
import Derived.Test.YtmdmdbobbepogaaGreatDoorM1
import Derived.Lib.ItoaLen
import Derived.Lib.ItoaMem
import Derived.Lib.Repeat
import Derived.LoopIn
/- (*segment.Segment).find: the batches at the beginning of bytes. -/
namespace Go.Proofs.YtmdmdbobbepogaaGreatDoor.Sg
open Go.RowKit Go.Maps
set_option maxRecDepth 100000
set_option linter.unusedSimpArgs false
set_option linter.unusedVariables false
attribute [local go_sem] Oper.semAt_some

def lenOfV : Value → Nat
  | .slice _ n _ => n
  | _ => 0
/-- Where find's loop stands. -/
structure FSt (w wr : World) (base d sb : Nat) (sv : Value) (file : ByteArray) (b0 : Int) (pre : List Bt.Bat) (l : List UInt8) (dn : List Bt.Bat) (sv' : Value) (l' : List UInt8) (bv : Value) : Prop where
  scan : ∀ xs, Scan (nextOf b0 (pre ++ dn)) l' xs → Scan (nextOf b0 pre) l (dn ++ xs)
  bytes : BytesAt wr bv l'
  own : ∀ k ∈ bv.ownBlock, k < w.heap.size → k ∉ sfoot sb sv
  own2 : ∀ k ∈ bv.ownBlock, k < wr.heap.size → k ∉ sfoot sb sv'
  seg : SegAt wr base d sb sv' file b0 (pls 0 (-1) (pre ++ dn))
  turn : Turn (sfoot sb sv) w wr
  foot : ∀ k ∈ sfoot sb sv', k ∈ sfoot sb sv ∨ w.heap.size ≤ k
  len : l'.length + (flat dn).length ≤ l.length
theorem advA_block {a : Option Addr} {n c m e : Nat} : ∀ k ∈ (Value.slice (advA a n c) m e).ownBlock, ∃ q r, k ∈ (Value.slice a q r).ownBlock := by
  intro k hk
  refine ⟨0, 0, ?_⟩
  cases a with
  | none => unfold advA at hk; split at hk <;> simp [Value.ownBlock] at hk
  | some p =>
    unfold advA at hk
    split at hk
    · simpa [Value.ownBlock] using hk
    · simp [Value.ownBlock, add_block] at hk ⊢; exact hk
theorem own_slice {a : Option Addr} {n m c e k : Nat} (h : k ∈ (Value.slice a n c).ownBlock) : k ∈ (Value.slice a m e).ownBlock := by
  cases a <;> simp [Value.ownBlock] at h ⊢; exact h

set_option maxHeartbeats 8000000 in
theorem find_any (w : World) (base d sb : Nat) (sv : Value) (file : ByteArray) (b0 : Int) (pre : List Bt.Bat) (h : SegAt w base d sb sv file b0 (pls 0 (-1) pre)) (bv : Value) (l : List UInt8) (hb : BytesAt w bv l)
    (ho : ∀ k ∈ bv.ownBlock, k < w.heap.size → k ∉ sfoot sb sv) (hl : (flat pre).length + l.length ≤ 2000000) :
    Calls Tryz.prog 120 #[.pointer (some ⟨sb, 0, none⟩), bv] w fun e w' => e = .returned (.tuple #[]) ∧
      ∃ xs sv', Scan (nextOf b0 pre) l xs ∧ SegAt w' base d sb sv' file b0 (pls 0 (-1) (pre ++ xs)) ∧ Turn (sfoot sb sv) w w' ∧ ∀ k ∈ sfoot sb sv', k ∈ sfoot sb sv ∨ w.heap.size ≤ k := by
  have HST : Hid (FSt w w base d sb sv file b0 pre l [] sv l bv) := ⟨fun xs h => by simpa using h, hb, ho, ho, by simpa using h, Turn.refl _ _, fun k hk => .inl hk, by simp [flat]⟩
  have hmx : maxLen = 9223372036854775807 := by simp [maxLen]
  clear h hb ho
  go_enter Tryz.func120, Tryz.ntmps120
  go_wp2
  go_loopw [1] (fun bv wr => ∃ dn sv' l', FSt w wr base d sb sv file b0 pre l dn sv' l' bv) (fun bv _ => lenOfV bv)
  case atStart => exact ⟨[], sv, l, HST.out⟩
  case round =>
    obtain ⟨dn, sv', l', hst⟩ := hrel
    obtain ⟨ba, bc, rfl, hlc, hcm, -⟩ := hst.bytes.form
    rw [hmx] at hcm
    have HS := hide hst
    have hll := hst.len
    have hfl := flat_len (pre ++ dn)
    have hfa : (flat (pre ++ dn)).length = (flat pre).length + (flat dn).length := by rw [flat_append, List.length_append]
    clear hst HST
    go_wp2_with fail
    refine (dec_any wr _ l' HS.out.bytes (by omega)).mono ?_
    rintro e wa ⟨rv, rfl, hrec, ht1⟩
    obtain ⟨ra, rc, hrv, hrlc, hrcm, -⟩ := hrec.form
    obtain ⟨x, hx⟩ : ∃ x, x = (dec l').1 := ⟨_, rfl⟩
    obtain ⟨sz, hsz⟩ : ∃ sz, sz = (dec l').2.1 := ⟨_, rfl⟩
    obtain ⟨er, her⟩ : ∃ er, er = (dec l').2.2 := ⟨_, rfl⟩
    have HX := hide hx
    have HSZ := hide hsz
    have HER := hide her
    rw [← hx] at hrec hrv
    subst hrv
    rw [← hx, ← hsz, ← her]
    have HREC := hide hrec
    have HT1 := hide ht1
    clear hx hsz her hrec ht1 hrlc hrcm
    obtain ⟨nx, hnx⟩ : ∃ nx, nx = nextP b0 (pls 0 (-1) (pre ++ dn)) := ⟨_, rfl⟩
    have HNX := hide hnx
    clear hnx
    by_cases he : er = 0
    · have hen : As.errN er = .nilIface := by rw [he]; rfl
      rw [hen]
      have HE := hide he
      clear hen he
      obtain ⟨hok1, hok2, hok3⟩ := dec_ok (b := l') (by rw [← HER.out, HE.out])
      rw [← HX.out] at hok1 hok2 hok3
      rw [← HSZ.out] at hok2 hok3
      have hepos := encB_pos x
      have hsl : sz ≤ l'.length := by
        have := congrArg List.length hok3
        rw [List.length_append] at this
        omega
      have hbase := (Bt.chk_ok (Bt.encErr_ok hok1).1)
      have HOK1 := hide hok1
      have HOK2 := hide hok2
      have HOK3 := hide hok3
      clear hok1 hok2 hok3
      go_wp2
      obtain ⟨w2, hw2⟩ : ∃ w2, w2 = wa.alloc (.cells #[.int .i64 x.base, .int .i64 x.fin, .slice ra x.recs.length rc] 76) := ⟨_, rfl⟩
      rw [← hw2]
      have hB2 : w2.heap[wa.heap.size]? = some (.cells #[.int .i64 x.base, .int .i64 x.fin, .slice ra x.recs.length rc] 76 (0, 0)) := by rw [hw2]; exact heap_new wa _
      have HT2 : Hid (Turn [] wr w2) := by show Turn _ _ _; rw [hw2]; exact HT1.out.alloc _
      have HT12 : Hid (Turn [] wa w2) := by show Turn _ _ _; rw [hw2]; exact (Turn.refl [] wa).alloc _
      have HB2 := hide hB2
      clear hw2 hB2
      refine wp_region_loose (Turn []) (by kernel_rfl) (by kernel_rfl) (by kernel_rfl) (by kernel_rfl) rfl (Turn.refl _) (fun _ _ _ h k => h.same k) ?_
      apply Lo.runx 1 rfl rfl [] (by kernel_rfl) (Turn.refl _)
      apply Exists.intro; apply And.intro
      · intro u w1 hR hF
        clear hF
        refine ⟨rfl, fun a ha K hK => ?_⟩
        have e6 := ha 6
        conv at e6 => rhs; whnf
        clear ha
        go_simp
        refine hK _ ?_; rfl
      apply Lo.runx 2 rfl rfl [0] (by kernel_rfl) (Turn.refl _)
      apply Exists.intro; apply And.intro
      · intro u w1 hR hF
        obtain ⟨h0, -⟩ := hF
        refine ⟨rfl, fun a ha K hK => ?_⟩
        have e13 := (ha 13).trans h0
        clear ha h0
        go_simp
        refine hK _ ?_; rfl
      apply Lo.runx 3 rfl rfl [1] (by kernel_rfl) (Turn.refl _)
      apply Exists.intro; apply And.intro
      · intro u w1 hR hF
        obtain ⟨h1, -⟩ := hF
        refine ⟨rfl, fun a ha K hK => ?_⟩
        have e14 := (ha 14).trans h1
        clear ha h1
        go_simp
        refine hK _ ?_; rfl
      apply Lo.runx 4 rfl rfl [2] (by kernel_rfl) (Turn.refl _)
      apply Exists.intro; apply And.intro
      · intro u w1 hR hF
        obtain ⟨h2, -⟩ := hF
        refine ⟨.inl ⟨false, h2, rfl⟩, fun a ha K hK => ?_⟩
        have e4 := ha 4
        conv at e4 => rhs; whnf
        clear ha h2
        go_simp
        refine hK _ ?_; rfl
      apply Lo.runx 5 rfl rfl [2, 3] (by kernel_rfl) (Turn.refl _)
      apply Exists.intro; apply And.intro
      · intro u w1 hR hF
        obtain ⟨h2, h3, -⟩ := hF
        refine ⟨.inl ⟨false, h2, rfl⟩, fun a ha K hK => ?_⟩
        have e16 := (ha 16).trans h3
        clear ha h2 h3
        have hB := (((Turn.refl [] _).drew).same hR).heap HB2.out (by simp)
        have c0 : w1.cell? ⟨wa.heap.size, 0, none⟩ = some (.int .i64 x.base) := by rw [cell_of hB]; rfl
        have z1 := lt_of_heap hB
        go_simp
        refine hK _ ?_; rfl
      apply Lo.runx 6 rfl rfl [2] (by kernel_rfl) (Turn.refl _)
      apply Exists.intro; apply And.intro
      · intro u w1 hR hF
        obtain ⟨h2, -⟩ := hF
        refine ⟨.inl ⟨false, h2, rfl⟩, fun a ha K hK => ?_⟩
        have e0 := ha 0
        conv at e0 => rhs; whnf
        clear ha h2
        go_simp
        refine hK _ ?_; rfl
      refine Lo.run 7 rfl rfl [2, 5] (fun y _ => y = .int .i64 nx) (by kernel_rfl) (fun x w w' h hR => ?_) (fun _ _ h => h) (fun u w1 hR hF => ?_) ?_
      · exact h
      · obtain ⟨h2, h5, -⟩ := hF
        refine ⟨.inl ⟨false, h2, rfl⟩, fun a ha K hK => ?_⟩
        have e18 := (ha 18).trans h5
        clear ha h2 h5
        go_simp
        refine (next_any _ base d sb sv' file b0 _ (HS.out.seg.still (HT2.out.same (((Turn.refl [] _).drew).same hR))) (by rw [pls_len]; omega)).mono ?_
        rintro e w3 ⟨rfl, ht3⟩
        exact hK _ _ (by rw [HNX.out]) ht3
      refine Lo.runv 8 rfl rfl [2, 4, 6] (.bool (decide (x.base < nx))) (by kernel_rfl) (fun u w1 hR hF => ?_) (Turn.refl _) ?_
      · obtain ⟨h2, h4, h6, -⟩ := hF
        refine ⟨.inl ⟨false, h2, rfl⟩, fun a ha K hK => ?_⟩
        have e17 := (ha 17).trans h4
        have e19 : a.tmps.getD 19 undef = u 6 := ha 19
        have h6 := (show (fun y _ => y = .int .i64 nx) (u 6) w1 from h6)
        dsimp only at h6
        clear ha h2 h4
        rw [h6] at e19
        go_simp
        refine hK _ ?_
        rfl
      refine Lo.runv 9 rfl rfl [2, 7] (.bool (decide (x.base < nx))) (by kernel_rfl) (fun u w1 hR hF => ?_) (Turn.refl _) ?_
      · obtain ⟨h2, h7, -⟩ := hF
        refine ⟨rfl, fun a ha K hK => ?_⟩
        have e15 := (ha 15).trans h2
        have e20 := (ha 20).trans h7
        clear ha h2 h7
        go_simp
        refine hK _ ?_
        rfl
      refine Lo.done [8] (fun u w1 hRd hSd hF => ?_)
      clear hSd
      obtain ⟨f8, -⟩ := hF
      have d8 : u 8 = _ := f8
      clear f8
      simp only [putFrom, Act.put, List.setIfInBounds_toArray, List.set_cons_succ, List.set_cons_zero, Nat.zero_add, Nat.reduceAdd, d8]
      have HT3 := hide (((Turn.refl [] w2).drew).same hRd)
      have HB3 := hide ((((Turn.refl [] w2).drew).same hRd).heap HB2.out (by simp))
      clear d8 hRd
      by_cases hlt : x.base < nx
      · have HLT := hide hlt
        go_wp2
        refine bodyPost_ret (v := .tuple #[]) (by simp [results, Tryz.results120]) rfl ?_
        have htw : Turn [] wr w1 := HT2.out.same HT3.out
        refine ⟨rfl, dn ++ [], sv', HS.out.scan [] (.stop ?_), ?_, HS.out.turn.trans htw (by simp), HS.out.foot⟩
        · rintro ⟨-, h2⟩
          rw [← HX.out, ← nextP_pls, ← HNX.out] at h2
          have := HLT.out
          omega
        · rw [List.append_nil]; exact HS.out.seg.still htw
      · have HLT := hide hlt
        go_wp2
        refine wp_region_tail 5 (Turn []) (by kernel_rfl) (by kernel_rfl) (by kernel_rfl) (by kernel_rfl) (by kernel_rfl) (Nat.le_of_ble_eq_true rfl) rfl (Turn.refl _) (fun _ _ _ h k => h.same k) ?_
        apply Lo.runx 1 rfl rfl [] (by kernel_rfl) (Turn.refl _)
        apply Exists.intro; apply And.intro
        · intro u w1 hR hF
          clear hF
          refine ⟨rfl, fun a ha K hK => ?_⟩
          have e0 := ha 0
          conv at e0 => rhs; whnf
          clear ha
          go_simp
          refine hK _ ?_; rfl
        apply Lo.runx 2 rfl rfl [] (by kernel_rfl) (Turn.refl _)
        apply Exists.intro; apply And.intro
        · intro u w1 hR hF
          clear hF
          refine ⟨rfl, fun a ha K hK => ?_⟩
          have e4 := ha 4
          conv at e4 => rhs; whnf
          clear ha
          have hB := (((Turn.refl [] _).drew).same hR).heap HB3.out (by simp)
          have c0 : w1.cell? ⟨wa.heap.size, 0, none⟩ = some (.int .i64 x.base) := by rw [cell_of hB]; rfl
          have c1 : w1.cell? ⟨wa.heap.size, 1, none⟩ = some (.int .i64 x.fin) := by rw [cell_of hB]; rfl
          have c2 : w1.cell? ⟨wa.heap.size, 2, none⟩ = some (.slice ra x.recs.length rc) := by rw [cell_of hB]; rfl
          have z1 := lt_of_heap hB
          go_simp
          refine hK _ ?_; rfl
        apply Lo.runx 3 rfl rfl [] (by kernel_rfl) (Turn.refl _)
        apply Exists.intro; apply And.intro
        · intro u w1 hR hF
          clear hF
          refine ⟨rfl, fun a ha K hK => ?_⟩
          have e1 := ha 1
          conv at e1 => rhs; whnf
          clear ha
          go_simp
          refine hK _ ?_; rfl
        apply Lo.runx 4 rfl rfl [] (by kernel_rfl) (Turn.refl _)
        apply Exists.intro; apply And.intro
        · intro u w1 hR hF
          clear hF
          refine ⟨rfl, fun a ha K hK => ?_⟩
          have e5 := ha 5
          conv at e5 => rhs; whnf
          clear ha
          go_simp
          refine hK _ ?_; rfl
        refine Lo.runv 5 rfl rfl [2, 3] (.slice ba sz bc) (by kernel_rfl) (fun u w1 hR hF => ?_) (Turn.refl _) ?_
        · obtain ⟨h2, h3, -⟩ := hF
          refine ⟨rfl, fun a ha K hK => ?_⟩
          have e24 := (ha 24).trans h2
          have e25 := (ha 25).trans h3
          clear ha h2 h3
          have hrt : ∀ w, (Instr.slice 57 (.slice ba l'.length bc) none (some (.int .i64 (sz : Int))) none).run Tryz.prog w = .ok (.slice ba sz bc) w := fun w => @run_to ba l'.length bc sz (by omega) w
          go_simp
          refine hK _ ?_
          rfl
        refine Lo.done [0, 1, 4] (fun u w1 hRd hSd hF => ?_)
        clear hSd
        obtain ⟨f0, f1, f4, -⟩ := hF
        have d0 : u 0 = _ := f0
        have d1 : u 1 = _ := f1
        have d4 : u 4 = _ := f4
        clear f0 f1 f4
        simp only [List.take_succ_cons, List.take_zero, List.drop_succ_cons, List.drop_zero, putFrom, Act.put, List.setIfInBounds_toArray, List.set_cons_succ, List.set_cons_zero, Nat.zero_add, Nat.reduceAdd, d0, d1, d4]
        have htw : Turn [] wr w1 := HT2.out.same (HT3.out.same (((Turn.refl [] _).drew).same hRd))
        have htaw : Turn [] wa w1 := HT12.out.same (HT3.out.same (((Turn.refl [] _).drew).same hRd))
        have HTW := hide htw
        have HREC1 := hide (HREC.out.still htaw)
        clear d0 d1 d4 hRd htw htaw
        have hlne : l' ≠ [] := fun e => by have e2 := HOK2.out; rw [e] at hsl; simp at hsl; omega
        have hownl := HS.out.bytes.lt hlne
        have htk : l'.take sz = Bt.encB x := by
          have := HOK3.out
          have e2 := HOK2.out
          conv => lhs; rw [this, e2]
          simp
        have HTK := hide htk
        have HOL := hide hownl
        have HNE := hide hlne
        clear htk hownl hlne
        have hby1 : ∀ Z, Turn (sfoot sb sv') w1 Z → BytesAt Z (.slice ba sz bc) (Bt.encB x) := fun Z hZ => by
          have h1 := (HS.out.bytes.still HTW.out).kept hZ (fun k hk _ => HS.out.own2 k hk (HOL.out k hk))
          have h2 := BytesAt.take (n := sz) h1 hsl
          rw [HTK.out] at h2
          exact h2
        have hln : (pls 0 (-1) (pre ++ dn)).length ≤ 999999 := by rw [pls_len]; omega
        have hlz : sizeP (pls 0 (-1) (pre ++ dn)) ≤ 1099511627776 := by rw [sizeP_pls]; omega
        have hle : (Bt.encB x).length ≤ 1099511627776 := by rw [← HOK2.out]; omega
        have hn := note_any w1 base d sb sv' file b0 _ (HS.out.seg.still HTW.out) hln hlz (.slice ba sz bc) (Bt.encB x) hby1 hle x.base x.fin _ x.recs HREC1.out
        have HN := hide hn
        clear hby1 hln hlz hle hn
        go_wp2_with fail
        refine HN.out.mono ?_
        rintro e w5 ⟨rfl, sv5, hseg5, ht5, hg5⟩
        have HSEG5 := hide hseg5
        have HT5 := hide ht5
        have HG5 := hide hg5
        have hrf : ∀ w, (Instr.slice 57 (.slice ba l'.length bc) (some (.int .i64 (sz : Int))) none none).run Tryz.prog w = .ok (.slice (advA ba sz bc) (l'.length - sz) (bc - sz)) w := fun w => run_from ba l'.length bc sz hsl w
        clear hseg5 ht5 hg5
        go_wp2
        all_goals refine ⟨⟨dn ++ [x], sv5, l'.drop sz, ?_⟩, ?_⟩
        · have htw5 : Turn (sfoot sb sv') wr w5 := (HTW.out.mono (by simp)).trans HT5.out (fun k hk => .inl hk)
          have hown' : ∀ k ∈ (Value.slice (advA ba sz bc) (l'.length - sz) (bc - sz)).ownBlock, k ∈ (Value.slice ba l'.length bc).ownBlock := fun k hk => by
            obtain ⟨q, r, h⟩ := advA_block k hk
            exact own_slice h
          have hby := (HS.out.bytes.still HTW.out).kept HT5.out (fun k hk _ => HS.out.own2 k hk (HOL.out k hk))
          have hby2 := BytesAt.drop (n := sz) hby hsl
          have hap : pls 0 (-1) (pre ++ dn) ++ [plOf (pls 0 (-1) (pre ++ dn)) x] = pls 0 (-1) (pre ++ (dn ++ [x])) := by rw [plOf_pls, List.append_assoc]
          refine ⟨fun xs hs => ?_, hby2, fun k hk hlt => HS.out.own k (hown' k hk) hlt, fun k hk hlt hm => ?_, by rw [← hap]; exact HSEG5.out, HS.out.turn.trans htw5 (fun k hk => ?_), fun k hk => ?_, ?_⟩
          · have h1 := HS.out.scan (x :: xs) ?_
            · simpa using h1
            · have h2 := Scan.step (nx := nextOf b0 (pre ++ dn)) (b := l') (xs := xs) (by rw [← HER.out, HE.out]) (by rw [← HX.out, ← nextP_pls, ← HNX.out]; exact HLT.out) (by rw [← HX.out, ← HSZ.out]; rw [← List.append_assoc, nextOf_snoc] at hs; exact hs)
              rw [← HX.out] at h2
              exact h2
          · have hk1 := hown' k hk
            have hk2 := HOL.out k hk1
            rcases HG5.out k hm with h | h
            · exact HS.out.own2 k hk1 hk2 h
            · have := HTW.out.size; omega
          · exact (HS.out.foot k hk)
          · rcases HG5.out k hk with h | h
            · exact HS.out.foot k h
            · exact .inr (Nat.le_trans (HS.out.turn.trans (HTW.out.mono (by simp)) (fun k hk => .inl hk)).size h)
          · rw [flat_append, List.length_append, flat_one, List.length_drop, ← HOK2.out]; omega
        · show (l'.length - sz) < l'.length
          have := HOK2.out
          omega
    · have hen : As.errN er = .iface 62 (.int .i64 er) := by unfold As.errN; rw [if_neg he]
      rw [hen]
      have HE := hide he
      clear hen he
      go_wp2
      refine wp_region_loose (Turn []) (by kernel_rfl) (by kernel_rfl) (by kernel_rfl) (by kernel_rfl) rfl (Turn.refl _) (fun _ _ _ h k => h.same k) ?_
      apply Lo.runx 1 rfl rfl [] (by kernel_rfl) (Turn.refl _)
      apply Exists.intro; apply And.intro
      · intro u w1 hR hF
        clear hF
        refine ⟨rfl, fun a ha K hK => ?_⟩
        have e6 := ha 6
        conv at e6 => rhs; whnf
        clear ha
        go_simp
        refine hK _ ?_; rfl
      apply Lo.runx 2 rfl rfl [0] (by kernel_rfl) (Turn.refl _)
      apply Exists.intro; apply And.intro
      · intro u w1 hR hF
        obtain ⟨h0, -⟩ := hF
        refine ⟨rfl, fun a ha K hK => ?_⟩
        have e13 := (ha 13).trans h0
        clear ha h0
        go_simp
        refine hK _ ?_; rfl
      apply Lo.runx 3 rfl rfl [1] (by kernel_rfl) (Turn.refl _)
      apply Exists.intro; apply And.intro
      · intro u w1 hR hF
        obtain ⟨h1, -⟩ := hF
        refine ⟨rfl, fun a ha K hK => ?_⟩
        have e14 := (ha 14).trans h1
        clear ha h1
        go_simp
        refine hK _ ?_; rfl
      refine Lo.pass 4 rfl rfl [2] (by kernel_rfl) (Turn.refl _) (fun u w1 hR hF => ?_) ?_
      · exact .inl ⟨true, hF.1, rfl⟩
      refine Lo.pass 5 rfl rfl [2] (by kernel_rfl) (Turn.refl _) (fun u w1 hR hF => ?_) ?_
      · exact .inl ⟨true, hF.1, rfl⟩
      refine Lo.pass 6 rfl rfl [2] (by kernel_rfl) (Turn.refl _) (fun u w1 hR hF => ?_) ?_
      · exact .inl ⟨true, hF.1, rfl⟩
      refine Lo.pass 7 rfl rfl [2] (by kernel_rfl) (Turn.refl _) (fun u w1 hR hF => ?_) ?_
      · exact .inl ⟨true, hF.1, rfl⟩
      refine Lo.pass 8 rfl rfl [2] (by kernel_rfl) (Turn.refl _) (fun u w1 hR hF => ?_) ?_
      · exact .inl ⟨true, hF.1, rfl⟩
      apply Lo.runx 9 rfl rfl [2, 7] (by kernel_rfl) (Turn.refl _)
      apply Exists.intro; apply And.intro
      · intro u w1 hR hF
        obtain ⟨h2, h7, -⟩ := hF
        refine ⟨rfl, fun a ha K hK => ?_⟩
        have e15 := (ha 15).trans h2
        have e20 := (ha 20).trans h7
        clear ha h2 h7
        go_simp
        refine hK _ ?_; rfl
      refine Lo.done [8] (fun u w1 hRd hSd hF => ?_)
      clear hSd
      obtain ⟨f8, -⟩ := hF
      have d8 : u 8 = _ := f8
      clear f8
      simp only [putFrom, Act.put, List.setIfInBounds_toArray, List.set_cons_succ, List.set_cons_zero, Nat.zero_add, Nat.reduceAdd, d8]
      clear d8
      go_wp2
      refine bodyPost_ret (v := .tuple #[]) (by simp [results, Tryz.results120]) rfl ?_
      have htw : Turn [] wr w1 := (HT1.out.alloc _).drew.same hRd
      refine ⟨rfl, dn ++ [], sv', HS.out.scan [] (.stop ?_), ?_, HS.out.turn.trans htw (by simp), HS.out.foot⟩
      · rintro ⟨h2, -⟩
        rw [← HER.out] at h2
        exact HE.out h2
      · rw [List.append_nil]; exact HS.out.seg.still htw
end Go.Proofs.YtmdmdbobbepogaaGreatDoor.Sg

/- The library at this program, in plain words (made by the guide's lay-plain). -/
namespace Go.Proofs
open Go.Shelf
def Tryz.laysM171_ren : Go.Shelf.Ren := ⟨fun | 171 => 112 | 243 => 150 | 246 => 176 | 283 => 197 | 284 => 198 | 285 => 199 | 286 => 200 | 129 => 149 | 317 => 211 | 318 => 212 | 319 => 213 | 320 => 214 | 337 => 216 | 338 => 217 | n => n, fun | 3 => 3 | 9 => 9 | 2 => 2 | 4 => 4 | 171 => 255 | 0 => 0 | 53 => 206 | 37 => 57 | 5 => 5 | 173 => 257 | 212 => 270 | 51 => 176 | 20 => 20 | 213 => 271 | 46 => 74 | 232 => 273 | 233 => 274 | n => n, fun | 17 => 3 | 18 => 5 | 19 => 6 | n => n⟩
theorem Tryz.laysM171 : Go.Proofs.LaysM.n171 Tryz.prog Tryz.laysM171_ren := {
  mixed := by kernel_rfl
  f129 := Tryz.func149.trans (congrArg some (by kernel_rfl))
  f171 := Tryz.func112.trans (congrArg some (by kernel_rfl))
  f243 := Tryz.func150.trans (congrArg some (by kernel_rfl))
  f246 := Tryz.func176.trans (congrArg some (by kernel_rfl))
  f283 := Tryz.func197.trans (congrArg some (by kernel_rfl))
  f284 := Tryz.func198.trans (congrArg some (by kernel_rfl))
  f285 := Tryz.func199.trans (congrArg some (by kernel_rfl))
  f286 := Tryz.func200.trans (congrArg some (by kernel_rfl))
  f317 := Tryz.func211.trans (congrArg some (by kernel_rfl))
  f318 := Tryz.func212.trans (congrArg some (by kernel_rfl))
  f319 := Tryz.func213.trans (congrArg some (by kernel_rfl))
  f320 := Tryz.func214.trans (congrArg some (by kernel_rfl))
  f337 := Tryz.func216.trans (congrArg some (by kernel_rfl))
  f338 := Tryz.func217.trans (congrArg some (by kernel_rfl))
  t0 := Tryz.underlying0
  a0 := Tryz.isAgg0
  z0 := Tryz.sizeOf0
  v0 := Tryz.zeroValue0
  t2 := Tryz.underlying2
  a2 := Tryz.isAgg2
  z2 := Tryz.sizeOf2
  v2 := Tryz.zeroValue2
  t3 := Tryz.underlying3
  a3 := Tryz.isAgg3
  z3 := Tryz.sizeOf3
  v3 := Tryz.zeroValue3
  t4 := Tryz.underlying4
  a4 := Tryz.isAgg4
  z4 := Tryz.sizeOf4
  v4 := Tryz.zeroValue4
  t5 := Tryz.underlying5
  a5 := Tryz.isAgg5
  z5 := Tryz.sizeOf5
  v5 := Tryz.zeroValue5
  t9 := Tryz.underlying9
  a9 := Tryz.isAgg9
  z9 := Tryz.sizeOf9
  v9 := Tryz.zeroValue9
  t20 := Tryz.underlying20
  a20 := Tryz.isAgg20
  z20 := Tryz.sizeOf20
  v20 := Tryz.zeroValue20
  t37 := Tryz.underlying57
  a37 := Tryz.isAgg57
  z37 := Tryz.sizeOf57
  v37 := Tryz.zeroValue57
  t46 := Tryz.underlying74
  a46 := Tryz.isAgg74
  z46 := Tryz.sizeOf74
  v46 := Tryz.zeroValue74
  t51 := Tryz.underlying176
  a51 := Tryz.isAgg176
  z51 := Tryz.sizeOf176
  v51 := Tryz.zeroValue176
  t53 := Tryz.underlying206
  a53 := Tryz.isAgg206
  z53 := Tryz.sizeOf206
  v53 := Tryz.zeroValue206
  t171 := Tryz.underlying255
  a171 := Tryz.isAgg255
  z171 := Tryz.sizeOf255
  v171 := Tryz.zeroValue255
  t173 := Tryz.underlying257
  a173 := Tryz.isAgg257
  z173 := Tryz.sizeOf257
  v173 := Tryz.zeroValue257
  t212 := Tryz.underlying270
  a212 := Tryz.isAgg270
  z212 := Tryz.sizeOf270
  v212 := Tryz.zeroValue270
  t213 := Tryz.underlying271
  a213 := Tryz.isAgg271
  z213 := Tryz.sizeOf271
  t232 := Tryz.underlying273
  a232 := Tryz.isAgg273
  z232 := Tryz.sizeOf273
  v232 := Tryz.zeroValue273
  t233 := Tryz.underlying274
  a233 := Tryz.isAgg274
  z233 := Tryz.sizeOf274
  v233 := Tryz.zeroValue274
  g17 := by kernel_rfl
  g18 := by kernel_rfl
  g19 := by kernel_rfl
  i0 := by kernel_rfl
  i2 := by kernel_rfl
  i3 := by kernel_rfl
  i4 := by kernel_rfl
  i5 := by kernel_rfl
  i9 := by kernel_rfl
  i20 := by kernel_rfl
  i37 := by kernel_rfl
  i46 := by kernel_rfl
  i51 := by kernel_rfl
  i53 := by kernel_rfl
  i171 := by kernel_rfl
  i173 := by kernel_rfl
  i212 := by kernel_rfl
  i232 := by kernel_rfl
  i233 := by kernel_rfl
  m17 := by kernel_rfl
  m18 := by kernel_rfl
  m19 := by kernel_rfl }
open Go.RowKit Go.Sort Go.Lib in
theorem Tryz.strconv_Itoa (n : Int) (h0 : -9223372036854775808 ≤ n) (h1 : n ≤ 9223372036854775807) (w : World) (htab : Lib.TabIs Tryz.prog w "internal/strconv.uint64pow10" .u64 Lib.pow10Tab) :
    Calls Tryz.prog 112 #[.int .i64 n] w fun e w' => e = .returned (.string ⟨(Lib.itoa n).toArray⟩) ∧ ∃ k os, w' = grow (w.drewN k) os := Any.strconv_Itoa Tryz.laysM171 n h0 h1 w htab
def Tryz.laysC172_ren : Go.Shelf.Ren := ⟨fun | 172 => 81 | 244 => 116 | 245 => 117 | 247 => 157 | 279 => 158 | 280 => 159 | 281 => 160 | 282 => 161 | 287 => 181 | 316 => 182 | 171 => 112 | 205 => 183 | 321 => 203 | 322 => 204 | 243 => 150 | 246 => 176 | 283 => 197 | 284 => 198 | 285 => 199 | 286 => 200 | 129 => 149 | 317 => 211 | 318 => 212 | 319 => 213 | 320 => 214 | 337 => 216 | 338 => 217 | n => n, fun | 9 => 9 | 3 => 3 | 75 => 25 | 76 => 34 | 4 => 4 | 5 => 5 | 167 => 213 | 37 => 57 | 0 => 0 | 85 => 214 | 2 => 2 | 168 => 216 | 53 => 206 | 175 => 239 | 46 => 74 | 210 => 243 | 127 => 238 | 145 => 264 | 143 => 262 | 21 => 21 | 171 => 255 | 173 => 257 | 212 => 270 | 51 => 176 | 20 => 20 | 213 => 271 | 232 => 273 | 233 => 274 | 80 => 212 | n => n, fun | 15 => 1 | 16 => 2 | 17 => 3 | 18 => 5 | 19 => 6 | n => n⟩
theorem Tryz.laysC172 : Go.Proofs.LaysC.n172 Tryz.prog Tryz.laysC172_ren := {
  mixed := by kernel_rfl
  f129 := Tryz.func149.trans (congrArg some (by kernel_rfl))
  f171 := Tryz.func112.trans (congrArg some (by kernel_rfl))
  f172 := Tryz.func81.trans (congrArg some (by kernel_rfl))
  f205 := Tryz.func183.trans (congrArg some (by kernel_rfl))
  f243 := Tryz.func150.trans (congrArg some (by kernel_rfl))
  f244 := Tryz.func116.trans (congrArg some (by kernel_rfl))
  f245 := Tryz.func117.trans (congrArg some (by kernel_rfl))
  f246 := Tryz.func176.trans (congrArg some (by kernel_rfl))
  f247 := Tryz.func157.trans (congrArg some (by kernel_rfl))
  f279 := Tryz.func158.trans (congrArg some (by kernel_rfl))
  f280 := Tryz.func159.trans (congrArg some (by kernel_rfl))
  f281 := Tryz.func160.trans (congrArg some (by kernel_rfl))
  f282 := Tryz.func161.trans (congrArg some (by kernel_rfl))
  f283 := Tryz.func197.trans (congrArg some (by kernel_rfl))
  f284 := Tryz.func198.trans (congrArg some (by kernel_rfl))
  f285 := Tryz.func199.trans (congrArg some (by kernel_rfl))
  f286 := Tryz.func200.trans (congrArg some (by kernel_rfl))
  f287 := Tryz.func181.trans (congrArg some (by kernel_rfl))
  f316 := Tryz.func182.trans (congrArg some (by kernel_rfl))
  f317 := Tryz.func211.trans (congrArg some (by kernel_rfl))
  f318 := Tryz.func212.trans (congrArg some (by kernel_rfl))
  f319 := Tryz.func213.trans (congrArg some (by kernel_rfl))
  f320 := Tryz.func214.trans (congrArg some (by kernel_rfl))
  f321 := Tryz.func203.trans (congrArg some (by kernel_rfl))
  f322 := Tryz.func204.trans (congrArg some (by kernel_rfl))
  f337 := Tryz.func216.trans (congrArg some (by kernel_rfl))
  f338 := Tryz.func217.trans (congrArg some (by kernel_rfl))
  t0 := Tryz.underlying0
  a0 := Tryz.isAgg0
  z0 := Tryz.sizeOf0
  v0 := Tryz.zeroValue0
  t2 := Tryz.underlying2
  a2 := Tryz.isAgg2
  z2 := Tryz.sizeOf2
  v2 := Tryz.zeroValue2
  t3 := Tryz.underlying3
  a3 := Tryz.isAgg3
  z3 := Tryz.sizeOf3
  v3 := Tryz.zeroValue3
  t4 := Tryz.underlying4
  a4 := Tryz.isAgg4
  z4 := Tryz.sizeOf4
  v4 := Tryz.zeroValue4
  t5 := Tryz.underlying5
  a5 := Tryz.isAgg5
  z5 := Tryz.sizeOf5
  v5 := Tryz.zeroValue5
  t9 := Tryz.underlying9
  a9 := Tryz.isAgg9
  z9 := Tryz.sizeOf9
  v9 := Tryz.zeroValue9
  t20 := Tryz.underlying20
  a20 := Tryz.isAgg20
  z20 := Tryz.sizeOf20
  v20 := Tryz.zeroValue20
  t21 := Tryz.underlying21
  a21 := Tryz.isAgg21
  z21 := Tryz.sizeOf21
  v21 := Tryz.zeroValue21
  t37 := Tryz.underlying57
  a37 := Tryz.isAgg57
  z37 := Tryz.sizeOf57
  v37 := Tryz.zeroValue57
  t46 := Tryz.underlying74
  a46 := Tryz.isAgg74
  z46 := Tryz.sizeOf74
  v46 := Tryz.zeroValue74
  t51 := Tryz.underlying176
  a51 := Tryz.isAgg176
  z51 := Tryz.sizeOf176
  v51 := Tryz.zeroValue176
  t53 := Tryz.underlying206
  a53 := Tryz.isAgg206
  z53 := Tryz.sizeOf206
  v53 := Tryz.zeroValue206
  t75 := Tryz.underlying25
  a75 := Tryz.isAgg25
  z75 := Tryz.sizeOf25
  v75 := Tryz.zeroValue25
  t76 := Tryz.underlying34
  a76 := Tryz.isAgg34
  z76 := Tryz.sizeOf34
  v76 := Tryz.zeroValue34
  t85 := Tryz.underlying214
  a85 := Tryz.isAgg214
  z85 := Tryz.sizeOf214
  v85 := Tryz.zeroValue214
  t127 := Tryz.underlying238
  a127 := Tryz.isAgg238
  z127 := Tryz.sizeOf238
  v127 := Tryz.zeroValue238
  t143 := Tryz.underlying262
  a143 := Tryz.isAgg262
  z143 := Tryz.sizeOf262
  v143 := Tryz.zeroValue262
  t145 := Tryz.underlying264
  a145 := Tryz.isAgg264
  z145 := Tryz.sizeOf264
  v145 := Tryz.zeroValue264
  t167 := Tryz.underlying213
  a167 := Tryz.isAgg213
  z167 := Tryz.sizeOf213
  v167 := Tryz.zeroValue213
  t168 := Tryz.underlying216
  a168 := Tryz.isAgg216
  z168 := Tryz.sizeOf216
  v168 := Tryz.zeroValue216
  t171 := Tryz.underlying255
  a171 := Tryz.isAgg255
  z171 := Tryz.sizeOf255
  v171 := Tryz.zeroValue255
  t173 := Tryz.underlying257
  a173 := Tryz.isAgg257
  z173 := Tryz.sizeOf257
  v173 := Tryz.zeroValue257
  t175 := Tryz.underlying239
  a175 := Tryz.isAgg239
  z175 := Tryz.sizeOf239
  v175 := Tryz.zeroValue239
  t210 := Tryz.underlying243
  a210 := Tryz.isAgg243
  z210 := Tryz.sizeOf243
  v210 := Tryz.zeroValue243
  t212 := Tryz.underlying270
  a212 := Tryz.isAgg270
  z212 := Tryz.sizeOf270
  v212 := Tryz.zeroValue270
  t213 := Tryz.underlying271
  a213 := Tryz.isAgg271
  z213 := Tryz.sizeOf271
  t232 := Tryz.underlying273
  a232 := Tryz.isAgg273
  z232 := Tryz.sizeOf273
  v232 := Tryz.zeroValue273
  t233 := Tryz.underlying274
  a233 := Tryz.isAgg274
  z233 := Tryz.sizeOf274
  v233 := Tryz.zeroValue274
  g15 := by kernel_rfl
  g16 := by kernel_rfl
  g17 := by kernel_rfl
  g18 := by kernel_rfl
  g19 := by kernel_rfl
  t80 := Tryz.underlying212
  a80 := Tryz.isAgg212
  z80 := Tryz.sizeOf212
  v80 := Tryz.zeroValue212
  i0 := by kernel_rfl
  i2 := by kernel_rfl
  i3 := by kernel_rfl
  i4 := by kernel_rfl
  i5 := by kernel_rfl
  i9 := by kernel_rfl
  i20 := by kernel_rfl
  i21 := by kernel_rfl
  i37 := by kernel_rfl
  i46 := by kernel_rfl
  i51 := by kernel_rfl
  i53 := by kernel_rfl
  i75 := by kernel_rfl
  i76 := by kernel_rfl
  i80 := by kernel_rfl
  i85 := by kernel_rfl
  i127 := by kernel_rfl
  i143 := by kernel_rfl
  i145 := by kernel_rfl
  i167 := by kernel_rfl
  i168 := by kernel_rfl
  i171 := by kernel_rfl
  i173 := by kernel_rfl
  i175 := by kernel_rfl
  i210 := by kernel_rfl
  i212 := by kernel_rfl
  i232 := by kernel_rfl
  i233 := by kernel_rfl
  m15 := by kernel_rfl
  m16 := by kernel_rfl
  m17 := by kernel_rfl
  m18 := by kernel_rfl
  m19 := by kernel_rfl
  c0 := by kernel_rfl
  c2 := by kernel_rfl
  c3 := by kernel_rfl
  c4 := by kernel_rfl
  c5 := by kernel_rfl
  c9 := by kernel_rfl
  c20 := by kernel_rfl
  c21 := by kernel_rfl
  c37 := by kernel_rfl
  c46 := by kernel_rfl
  c51 := by kernel_rfl
  c53 := by kernel_rfl
  c75 := by kernel_rfl
  c76 := by kernel_rfl
  c80 := by kernel_rfl
  c85 := by kernel_rfl
  c127 := by kernel_rfl
  c143 := by kernel_rfl
  c145 := by kernel_rfl
  c167 := by kernel_rfl
  c168 := by kernel_rfl
  c171 := by kernel_rfl
  c173 := by kernel_rfl
  c175 := by kernel_rfl
  c210 := by kernel_rfl
  c212 := by kernel_rfl
  c213 := by kernel_rfl
  c232 := by kernel_rfl
  c233 := by kernel_rfl }
open Go.RowKit in
theorem Tryz.strconv_Atoi_ok (s : ByteArray) (hmax : s.size ≤ 9223372036854775806) (v : Int) (h : Lib.atoiAll s.data.toList = .ok v) (w : World) :
    Calls Tryz.prog 81 #[.string s] w fun e w' => e = .returned (.tuple #[.int .i64 v, .nilIface]) ∧ (w' = w ∨ ∃ t, w' = Lib.bytesWorld w 5 t) := Any.strconv_Atoi_ok Tryz.laysC172 s hmax v h w
open Go.RowKit in
theorem Tryz.strconv_Atoi_syntax_var (s : ByteArray) (hlim : s.size ≤ 281474976710656) (h : Lib.atoiAll s.data.toList = .«syntax») (tp : TypeId) (p : Value) (w : World) (hvar : w.var? Tryz.prog "strconv.ErrSyntax" = some #[.iface tp p]) :
    Calls Tryz.prog 81 #[.string s] w fun e w' => ∃ N, e = .returned (.tuple #[.int .i64 0, .iface 216 (.pointer (some ⟨N, 0, none⟩))]) ∧ w.heap.size ≤ N ∧ w'.heap[N]? = some (.cells #[.string ⟨#[65, 116, 111, 105]⟩, .string s, .iface tp p] 243 (0, 0)) ∧ Below w.heap.size w w' := Any.strconv_Atoi_syntax_var Tryz.laysC172 s hlim h tp p w hvar
open Go.RowKit in
theorem Tryz.strconv_Atoi_range_var (s : ByteArray) (hlim : s.size ≤ 281474976710656) (h : Lib.atoiAll s.data.toList = .range) (tp : TypeId) (p : Value) (w : World) (hvar : w.var? Tryz.prog "strconv.ErrRange" = some #[.iface tp p]) :
    Calls Tryz.prog 81 #[.string s] w fun e w' => ∃ N, e = .returned (.tuple #[.int .i64 (Lib.atoiSat s.data.toList), .iface 216 (.pointer (some ⟨N, 0, none⟩))]) ∧ w.heap.size ≤ N ∧ w'.heap[N]? = some (.cells #[.string ⟨#[65, 116, 111, 105]⟩, .string s, .iface tp p] 243 (0, 0)) ∧ Below w.heap.size w w' := Any.strconv_Atoi_range_var Tryz.laysC172 s hlim h tp p w hvar
def Tryz.lays101_ren : Go.Shelf.Ren := ⟨fun | 101 => 80 | 208 => 115 | 206 => 131 | n => n, fun | 9 => 9 | 4 => 4 | 3 => 3 | n => n, fun | n => n⟩
theorem Tryz.lays101 : Go.Proofs.Lays.n101 Tryz.prog Tryz.lays101_ren := {
  mixed := by kernel_rfl
  f101 := Tryz.func80.trans (congrArg some (by kernel_rfl))
  f206 := Tryz.func131.trans (congrArg some (by kernel_rfl))
  f208 := Tryz.func115.trans (congrArg some (by kernel_rfl))
  t3 := Tryz.underlying3
  a3 := Tryz.isAgg3
  z3 := Tryz.sizeOf3
  v3 := Tryz.zeroValue3
  t4 := Tryz.underlying4
  a4 := Tryz.isAgg4
  z4 := Tryz.sizeOf4
  v4 := Tryz.zeroValue4
  t9 := Tryz.underlying9
  a9 := Tryz.isAgg9
  z9 := Tryz.sizeOf9
  v9 := Tryz.zeroValue9 }
open Go.RowKit Go.Lib in
theorem Tryz.strings_TrimPrefix (s p : ByteArray) (w : World) :
    Calls Tryz.prog 80 #[.string s, .string p] w fun e w' => e = .returned (.string ⟨(Lib.trimPrefix s.data.toList p.data.toList).toArray⟩) ∧ w' = w := Any.strings_TrimPrefix Tryz.lays101 s p w
def Tryz.lays102_ren : Go.Shelf.Ren := ⟨fun | 102 => 79 | 209 => 114 | 207 => 156 | n => n, fun | 9 => 9 | 4 => 4 | 3 => 3 | n => n, fun | n => n⟩
theorem Tryz.lays102 : Go.Proofs.Lays.n102 Tryz.prog Tryz.lays102_ren := {
  mixed := by kernel_rfl
  f102 := Tryz.func79.trans (congrArg some (by kernel_rfl))
  f207 := Tryz.func156.trans (congrArg some (by kernel_rfl))
  f209 := Tryz.func114.trans (congrArg some (by kernel_rfl))
  t3 := Tryz.underlying3
  a3 := Tryz.isAgg3
  z3 := Tryz.sizeOf3
  v3 := Tryz.zeroValue3
  t4 := Tryz.underlying4
  a4 := Tryz.isAgg4
  z4 := Tryz.sizeOf4
  v4 := Tryz.zeroValue4
  t9 := Tryz.underlying9
  a9 := Tryz.isAgg9
  z9 := Tryz.sizeOf9
  v9 := Tryz.zeroValue9 }
open Go.RowKit Go.Lib in
theorem Tryz.strings_TrimSuffix (s p : ByteArray) (w : World) (hs : s.size ≤ 9223372036854775807) :
    Calls Tryz.prog 79 #[.string s, .string p] w fun e w' => e = .returned (.string ⟨(Lib.trimSuffix s.data.toList p.data.toList).toArray⟩) ∧ w' = w := Any.strings_TrimSuffix Tryz.lays102 s p w hs
def Tryz.lays105_ren : Go.Shelf.Ren := ⟨fun | 105 => 113 | 212 => 151 | 99 => 101 | 165 => 152 | 166 => 153 | 170 => 154 | 169 => 155 | 263 => 177 | 264 => 178 | 206 => 131 | 240 => 179 | 241 => 180 | 276 => 201 | 277 => 202 | n => n, fun | 9 => 9 | 3 => 3 | 4 => 4 | 20 => 20 | 0 => 0 | 46 => 74 | 109 => 207 | 5 => 5 | 72 => 211 | 76 => 34 | 51 => 176 | 146 => 234 | 53 => 206 | 148 => 236 | 70 => 209 | 37 => 57 | 75 => 25 | 127 => 238 | 164 => 150 | 80 => 212 | n => n, fun | n => n⟩
theorem Tryz.lays105 : Go.Proofs.Lays.n105 Tryz.prog Tryz.lays105_ren := {
  mixed := by kernel_rfl
  f99 := Tryz.func101.trans (congrArg some (by kernel_rfl))
  f105 := Tryz.func113.trans (congrArg some (by kernel_rfl))
  f165 := Tryz.func152.trans (congrArg some (by kernel_rfl))
  f166 := Tryz.func153.trans (congrArg some (by kernel_rfl))
  f169 := Tryz.func155.trans (congrArg some (by kernel_rfl))
  f170 := Tryz.func154.trans (congrArg some (by kernel_rfl))
  f206 := Tryz.func131.trans (congrArg some (by kernel_rfl))
  f212 := Tryz.func151.trans (congrArg some (by kernel_rfl))
  f240 := Tryz.func179.trans (congrArg some (by kernel_rfl))
  f241 := Tryz.func180.trans (congrArg some (by kernel_rfl))
  f263 := Tryz.func177.trans (congrArg some (by kernel_rfl))
  f264 := Tryz.func178.trans (congrArg some (by kernel_rfl))
  f276 := Tryz.func201.trans (congrArg some (by kernel_rfl))
  f277 := Tryz.func202.trans (congrArg some (by kernel_rfl))
  t0 := Tryz.underlying0
  a0 := Tryz.isAgg0
  z0 := Tryz.sizeOf0
  v0 := Tryz.zeroValue0
  t3 := Tryz.underlying3
  a3 := Tryz.isAgg3
  z3 := Tryz.sizeOf3
  v3 := Tryz.zeroValue3
  t4 := Tryz.underlying4
  a4 := Tryz.isAgg4
  z4 := Tryz.sizeOf4
  v4 := Tryz.zeroValue4
  t5 := Tryz.underlying5
  a5 := Tryz.isAgg5
  z5 := Tryz.sizeOf5
  v5 := Tryz.zeroValue5
  t9 := Tryz.underlying9
  a9 := Tryz.isAgg9
  z9 := Tryz.sizeOf9
  v9 := Tryz.zeroValue9
  t20 := Tryz.underlying20
  a20 := Tryz.isAgg20
  z20 := Tryz.sizeOf20
  v20 := Tryz.zeroValue20
  t37 := Tryz.underlying57
  a37 := Tryz.isAgg57
  z37 := Tryz.sizeOf57
  v37 := Tryz.zeroValue57
  t46 := Tryz.underlying74
  a46 := Tryz.isAgg74
  z46 := Tryz.sizeOf74
  v46 := Tryz.zeroValue74
  t51 := Tryz.underlying176
  a51 := Tryz.isAgg176
  z51 := Tryz.sizeOf176
  v51 := Tryz.zeroValue176
  t53 := Tryz.underlying206
  a53 := Tryz.isAgg206
  z53 := Tryz.sizeOf206
  v53 := Tryz.zeroValue206
  t70 := Tryz.underlying209
  a70 := Tryz.isAgg209
  z70 := Tryz.sizeOf209
  v70 := Tryz.zeroValue209
  t72 := Tryz.underlying211
  a72 := Tryz.isAgg211
  z72 := Tryz.sizeOf211
  v72 := Tryz.zeroValue211
  t75 := Tryz.underlying25
  a75 := Tryz.isAgg25
  z75 := Tryz.sizeOf25
  v75 := Tryz.zeroValue25
  t76 := Tryz.underlying34
  a76 := Tryz.isAgg34
  z76 := Tryz.sizeOf34
  v76 := Tryz.zeroValue34
  t109 := Tryz.underlying207
  a109 := Tryz.isAgg207
  z109 := Tryz.sizeOf207
  v109 := Tryz.zeroValue207
  t127 := Tryz.underlying238
  a127 := Tryz.isAgg238
  z127 := Tryz.sizeOf238
  v127 := Tryz.zeroValue238
  t146 := Tryz.underlying234
  a146 := Tryz.isAgg234
  z146 := Tryz.sizeOf234
  v146 := Tryz.zeroValue234
  t148 := Tryz.underlying236
  a148 := Tryz.isAgg236
  z148 := Tryz.sizeOf236
  v148 := Tryz.zeroValue236
  t164 := Tryz.underlying150
  a164 := Tryz.isAgg150
  z164 := Tryz.sizeOf150
  v164 := Tryz.zeroValue150 }
theorem Tryz.Builder_Extra_105 : Builder.Extra Tryz.prog Tryz.lays105_ren := {
  sizeBuilder := by kernel_rfl
  liesBuilder := by kernel_rfl
  t5 := Tryz.underlying5
  a5 := Tryz.isAgg5
  z5 := Tryz.sizeOf5
  v5 := Tryz.zeroValue5
  infoByte := by kernel_rfl
  cellsByte := by kernel_rfl
  sizeByte := by kernel_rfl
  neB5 := by decide }
open Go.RowKit Go.Lib in
theorem Tryz.strings_Repeat (s : ByteArray) (c : Nat) (w : World) (hc : c ≤ 9223372036854775807) (hlen : s.size * c ≤ 140737488355328) :
    Calls Tryz.prog 113 #[.string s, .int .i64 c] w fun e w' => e = .returned (.string ⟨(Lib.repeatL s.data.toList c).toArray⟩) ∧ Below w.heap.size w w' := Any.strings_Repeat Tryz.lays105 Tryz.Builder_Extra_105 s c w hc hlen
end Go.Proofs

/- Names of segments: what is written, and read again. No program. -/
namespace Go.Proofs.YtmdmdbobbepogaaGreatDoor.Sn
open Go.Lib
set_option linter.unusedSimpArgs false
set_option linter.unusedVariables false

/-- A number of 10 digits at least. -/
def pad (l : List UInt8) : List UInt8 := List.replicate (10 - l.length) 48 ++ l
/-- A segment's file. -/
def nameL (dir : List UInt8) (n : Nat) : List UInt8 := dir ++ [47] ++ pad (decDigits n) ++ [46, 108, 111, 103]
theorem dec_ne (n : Nat) : decDigits n ≠ [] := by
  rw [decDigits]; split <;> simp
theorem dec_step {n : Nat} (h : ¬ n < 10) : decDigits n = decDigits (n / 10) ++ [UInt8.ofNat (48 + n % 10)] := by rw [decDigits, dif_neg h]
theorem digit_nat {d : Nat} (h : d < 10) : (UInt8.ofNat (48 + d)).toNat = 48 + d := UInt8.toNat_ofNat_of_lt' (by show _ < 256; omega)
/-- What digits spell behind a number. -/
theorem parse_dec : ∀ (f n acc : Nat) (r : List UInt8), n < f → n < 10000000000000 → acc ≤ 10000 → parseUint10 (acc * 10 ^ (decDigits n).length + n) r = parseUint10 acc (decDigits n ++ r) ∨ 0 < acc
  | 0, n, _, _, h, _, _ => absurd h (Nat.not_lt_zero _)
  | f + 1, n, acc, r, h, hn, ha => by
    by_cases h0 : 0 < acc
    · exact .inr h0
    · left
      have : acc = 0 := by omega
      subst this
      by_cases h10 : n < 10
      · rw [decDigits, dif_pos h10]
        simp only [List.cons_append, List.nil_append, parseUint10, digit_nat h10]
        rw [if_pos (by omega), if_neg (by omega), if_neg (by omega)]
        congr 1
        simp
      · have hq : n / 10 < f := by omega
        have ih := (parse_dec f (n / 10) 0 (UInt8.ofNat (48 + n % 10) :: r) hq (by omega) (by omega)).resolve_right (by omega)
        rw [dec_step h10, List.append_assoc, List.singleton_append, ← ih]
        simp only [Nat.zero_mul, Nat.zero_add, parseUint10]
        rw [digit_nat (Nat.mod_lt _ (by omega)), if_pos (by omega), if_neg (by omega), if_neg (by omega)]
        congr 1
        omega
theorem parse_dec0 {n : Nat} (hn : n < 10000000000000) : parseUint10 0 (decDigits n) = .ok n := by
  have := (parse_dec (n + 1) n 0 [] (by omega) hn (by omega)).resolve_right (by omega)
  rw [List.append_nil] at this
  rw [← this]; simp [parseUint10]
theorem parse_zeros : ∀ (k : Nat) (l : List UInt8), parseUint10 0 (List.replicate k 48 ++ l) = parseUint10 0 l
  | 0, l => rfl
  | k + 1, l => by
    rw [List.replicate_succ, List.cons_append, parseUint10]
    rw [if_pos (by decide), if_neg (by decide), if_neg (by decide)]
    exact parse_zeros k l
theorem dec_digit : ∀ (f n : Nat), n < f → ∀ c ∈ decDigits n, 48 ≤ c.toNat ∧ c.toNat ≤ 57
  | 0, n, h, _, _ => absurd h (Nat.not_lt_zero _)
  | f + 1, n, h, c, hc => by
    by_cases h10 : n < 10
    · rw [decDigits, dif_pos h10] at hc
      simp only [List.mem_singleton] at hc
      subst hc
      rw [digit_nat h10]; omega
    · rw [dec_step h10] at hc
      rcases List.mem_append.1 hc with hc | hc
      · exact dec_digit f (n / 10) (by omega) c hc
      · simp only [List.mem_singleton] at hc
        subst hc
        rw [digit_nat (Nat.mod_lt _ (by omega))]; omega
theorem pad_ne (n : Nat) : pad (decDigits n) ≠ [] := by
  unfold pad; simp [dec_ne]
theorem pad_digit (n : Nat) : ∀ c ∈ pad (decDigits n), 48 ≤ c.toNat ∧ c.toNat ≤ 57 := by
  intro c hc
  unfold pad at hc
  rcases List.mem_append.1 hc with hc | hc
  · have := List.eq_of_mem_replicate hc
    subst this; decide
  · exact dec_digit (n + 1) n (by omega) c hc
theorem mag_ok {l : List UInt8} {n : Nat} (hne : l ≠ []) (hd : ∀ c ∈ l, 48 ≤ c.toNat ∧ c.toNat ≤ 57) (hp : parseUint10 0 l = .ok n) (hn : n < 10000000000000) : atoiAll l = .ok n := by
  cases l with
  | nil => exact absurd rfl hne
  | cons c r =>
    have hc := hd c (by simp)
    unfold atoiAll
    simp only
    rw [if_neg (by omega)]
    unfold parseMag
    rw [if_neg (by simp), hp]
    simp only
    rw [if_neg (by omega), if_neg (by omega), if_neg (by omega)]
theorem atoi_pad {n : Nat} (hn : n < 10000000000000) : atoiAll (pad (decDigits n)) = .ok n :=
  mag_ok (pad_ne n) (pad_digit n) (by unfold pad; rw [parse_zeros, parse_dec0 hn]) hn
theorem atoi_dec {n : Nat} (hn : n < 10000000000000) : atoiAll (decDigits n) = .ok n :=
  mag_ok (dec_ne n) (dec_digit (n + 1) n (by omega)) (parse_dec0 hn) hn
/-- The first digit of a number above 0 is none. -/
theorem dec_head : ∀ (f n : Nat), n < f → 0 < n → ∃ c r, decDigits n = c :: r ∧ c ≠ 48
  | 0, n, h, _ => absurd h (Nat.not_lt_zero _)
  | f + 1, n, h, h0 => by
    by_cases h10 : n < 10
    · refine ⟨_, [], by rw [decDigits, dif_pos h10], fun e => ?_⟩
      have := congrArg UInt8.toNat e
      rw [digit_nat h10] at this
      have h48 : (48 : UInt8).toNat = 48 := rfl
      omega
    · obtain ⟨c, r, e, hc⟩ := dec_head f (n / 10) (by omega) (by omega)
      exact ⟨c, r ++ [UInt8.ofNat (48 + n % 10)], by rw [dec_step h10, e]; rfl, hc⟩
theorem trimLeft_zeros : ∀ (k : Nat) (l : List UInt8), trimLeftB (List.replicate k 48 ++ l) 48 = trimLeftB l 48
  | 0, l => rfl
  | k + 1, l => by
    rw [List.replicate_succ, List.cons_append]
    unfold trimLeftB
    rw [List.dropWhile_cons_of_pos (by decide)]
    exact trimLeft_zeros k l
theorem trimLeft_pad (n : Nat) : trimLeftB (pad (decDigits n)) 48 = if n = 0 then [] else decDigits n := by
  unfold pad
  rw [trimLeft_zeros]
  by_cases h0 : n = 0
  · subst h0
    rw [if_pos rfl, decDigits, dif_pos (by omega)]
    decide
  · rw [if_neg h0]
    obtain ⟨c, r, e, hc⟩ := dec_head (n + 1) n (by omega) (by omega)
    rw [e]
    unfold trimLeftB
    rw [List.dropWhile_cons_of_neg (by simpa using hc)]
theorem dropWhile_all {p : UInt8 → Bool} : ∀ {l : List UInt8}, l.dropWhile p = [] ↔ ∀ c ∈ l, p c = true
  | [] => by simp
  | c :: r => by
    cases h : p c
    · rw [List.dropWhile_cons_of_neg (by simp [h])]
      simp [h]
    · rw [List.dropWhile_cons_of_pos h, dropWhile_all]
      simp [h]
theorem trim_nil (l : List UInt8) : trimB l 48 = [] ↔ ∀ c ∈ l, c = 48 := by
  unfold trimB trimLeftB trimRightB
  constructor
  · intro h
    have h1 := dropWhile_all.1 h
    intro c hc
    by_cases h48 : c = 48
    · exact h48
    · exfalso
      have : c ∈ (l.reverse.dropWhile (· == 48)) := by
        have hs := List.takeWhile_append_dropWhile (p := (· == (48 : UInt8))) (l := l.reverse)
        have hm : c ∈ l.reverse := by simpa using hc
        rw [← hs] at hm
        rcases List.mem_append.1 hm with hm | hm
        · exact absurd (by simpa using List.all_eq_true.1 (List.all_takeWhile (p := (· == (48 : UInt8))) (l := l.reverse)) c hm) h48
        · exact hm
      have := h1 c (by simpa using this)
      exact h48 (by simpa using this)
  · intro h
    rw [dropWhile_all]
    intro c hc
    have : c ∈ l := by
      have hm : c ∈ l.reverse.dropWhile (· == 48) := by simpa using hc
      have := (List.dropWhile_sublist (p := (· == (48 : UInt8))) (l := l.reverse)).subset hm
      simpa using this
    simpa using h c this
theorem trim_pad (n : Nat) : trimB (pad (decDigits n)) 48 = [] ↔ n = 0 := by
  rw [trim_nil]
  constructor
  · intro h
    by_cases h0 : n = 0
    · exact h0
    · exfalso
      obtain ⟨c, r, e, hc⟩ := dec_head (n + 1) n (by omega) (by omega)
      exact hc (h c (by unfold pad; rw [e]; simp))
  · rintro rfl c hc
    unfold pad at hc
    rcases List.mem_append.1 hc with hc | hc
    · exact List.eq_of_mem_replicate hc
    · rw [decDigits, dif_pos (by omega)] at hc
      simpa using hc
/-- What is left of a segment's file without its directory and its ending. -/
theorem rest_name (dir : List UInt8) (n : Nat) : trimSuffix (trimPrefix (nameL dir n) (dir ++ [47])) [46, 108, 111, 103] = pad (decDigits n) := by
  have h1 : trimPrefix (nameL dir n) (dir ++ [47]) = pad (decDigits n) ++ [46, 108, 111, 103] := by
    unfold trimPrefix nameL hasPrefix
    rw [List.append_assoc (dir ++ [47])]
    rw [if_pos (by simp)]
    simp
  rw [h1]
  unfold trimSuffix hasSuffix
  rw [if_pos (by simp)]
  simp
end Go.Proofs.YtmdmdbobbepogaaGreatDoor.Sn

/- Names of segments: the library's variables that are read; segment.Name, conveyorref.Told of one number, conveyorref.SegName. -/
namespace Go.Proofs.YtmdmdbobbepogaaGreatDoor.Sn
open Go.Lib Go.RowKit
set_option linter.unusedSimpArgs false
set_option linter.unusedVariables false
attribute [local go_sem] Oper.semAt_some

/-- The powers of ten lie as the library's own text lays them. -/
def TabT (w : World) : Prop := TabIs Tryz.prog w "internal/strconv.uint64pow10" .u64 pow10Tab
/-- The library's variables lie as its own text lays them. -/
structure VarT (w : World) : Prop where
  tab : TabT w
  syn : ∃ tp p, w.var? Tryz.prog "strconv.ErrSyntax" = some #[.iface tp p]
  rng : ∃ tp p, w.var? Tryz.prog "strconv.ErrRange" = some #[.iface tp p]

theorem var_below {w w' : World} {n : String} {cs : Array Value} (hb : Below w.heap.size w w') (h : w.var? Tryz.prog n = some cs) : w'.var? Tryz.prog n = some cs := by
  unfold World.var? at h ⊢
  cases hg : Tryz.prog.globalNamed n with
  | none => rw [hg] at h; cases h
  | some g =>
    rw [hg] at h
    simp only [Option.bind_some] at h ⊢
    by_cases hl : g < w.heap.size
    · rw [hb.block g hl]; exact h
    · rw [Array.getElem?_eq_none (by omega)] at h; cases h
theorem TabT.below {w w' : World} (h : TabT w) (hb : Below w.heap.size w w') : TabT w' := var_below hb h
theorem VarT.below {w w' : World} (h : VarT w) (hb : Below w.heap.size w w') : VarT w' :=
  ⟨var_below hb h.tab, h.syn.imp fun tp ⟨p, e⟩ => ⟨p, var_below hb e⟩, h.rng.imp fun tp ⟨p, e⟩ => ⟨p, var_below hb e⟩⟩
theorem below_grow (w : World) (k : Nat) (os : Array Obj) : Below w.heap.size w (Go.Sort.grow (w.drewN k) os) :=
  ⟨rfl, rfl, rfl, by simp [Go.Sort.grow], fun i hi => by simp [Go.Sort.grow, Array.getElem?_append_left hi]⟩
theorem below_bytes (w : World) (e : TypeId) (s : ByteArray) : Below w.heap.size w (bytesWorld w e s) :=
  ⟨rfl, rfl, rfl, by rw [bytesWorld_size]; omega, fun j hj => bytesWorld_at_old w e s j hj⟩
theorem below_step {a b c : World} (h : Below a.heap.size a b) (k : Below b.heap.size b c) : Below a.heap.size a c := h.trans (k.mono h.size)

theorem itoa_any (n : Nat) (hn : n ≤ 1099511627776) (w : World) (hv : TabT w) :
    Calls Tryz.prog 112 #[.int .i64 (n : Int)] w fun e w' => ∃ S : ByteArray, e = .returned (.string S) ∧ S.data.toList = decDigits n ∧ Below w.heap.size w w' := by
  refine (Tryz.strconv_Itoa (n : Int) (by omega) (by omega) w hv).mono ?_
  rintro e w' ⟨rfl, k, os, rfl⟩
  exact ⟨_, rfl, by simp [itoa_nonneg], below_grow w k os⟩
theorem rep_zero : ∀ c, repeatL [48] c = List.replicate c 48
  | 0 => rfl
  | c + 1 => by rw [repeatL, rep_zero c]; rfl
theorem dec_short {n : Nat} (hn : n ≤ 1099511627776) : (decDigits n).length ≤ 21 := by
  have := itoa_length_le (n : Int) (by omega) (by omega)
  rwa [itoa_nonneg] at this

theorem rep_any (c : Nat) (hc : c ≤ 10) (w : World) :
    Calls Tryz.prog 113 #[.string ⟨#[48]⟩, .int .i64 (c : Int)] w fun e w' => ∃ R : ByteArray, e = .returned (.string R) ∧ R.data.toList = List.replicate c 48 ∧ Below w.heap.size w w' := by
  refine (Tryz.strings_Repeat ⟨#[48]⟩ c w (by omega) (by show 1 * c ≤ _; omega)).mono ?_
  rintro e w' ⟨rfl, hb⟩
  exact ⟨_, rfl, by simp [rep_zero], hb⟩
/-- A segment's file, as a text. -/
def nameB (dir : ByteArray) (n : Nat) : ByteArray := ⟨(nameL dir.data.toList n).toArray⟩

theorem nameB_of {dir S R : ByteArray} (n : Nat) (hS : S.data.toList = decDigits n) (hR : R.data.toList = List.replicate (10 - S.size) 48) : dir ++ ⟨#[47]⟩ ++ R ++ S ++ ⟨#[46, 108, 111, 103]⟩ = nameB dir n := by
  apply ByteArray.ext
  apply Array.toList_inj.1
  unfold nameB nameL pad
  have hz : S.size = (decDigits n).length := by rw [size_eq, hS]
  simp [ByteArray.data_append, hS, hR, hz]

set_option maxHeartbeats 1000000 in
theorem name_any (dir : ByteArray) (n : Nat) (hn : n ≤ 1099511627776) (hd : dir.size ≤ 1000) (w : World) (hv : TabT w) :
    Calls Tryz.prog 78 #[.string dir, .int .i64 (n : Int)] w fun e w' => e = .returned (.string (nameB dir n)) ∧ Below w.heap.size w w' := by
  have HV := hide hv
  clear hv
  go_enter Tryz.func78, Tryz.ntmps78
  go_wp2_with fail
  refine (itoa_any n hn _ HV.out).mono ?_
  rintro e w1 ⟨S, rfl, hS, hb1⟩
  have hsz : S.size ≤ 21 := by rw [size_eq, hS]; exact dec_short hn
  have hmax : max (10 - (S.size : Int)) 0 = ((10 - S.size : Nat) : Int) := by omega
  go_wp2_with fail
  clear hmax
  refine (rep_any (10 - S.size) (by omega) _).mono ?_
  rintro e w2 ⟨R, rfl, hR, hb2⟩
  have HE : Hid (dir ++ ⟨#[47]⟩ ++ R ++ S ++ ⟨#[46, 108, 111, 103]⟩ = nameB dir n) := nameB_of n hS hR
  have hRs : R.size ≤ 10 := by rw [size_eq, hR]; simp
  clear hS hR
  go_wp2_with fail
  go_ret
  exact ⟨by rw [← HE.out]; rfl, below_step hb1 hb2⟩

theorem oper_append1 {P : Program} {o : Oper} {a : Act} {K : Act → World → Prop} {Q : Exit → Act → World → Prop} {w w' : World} {s x : Operand} {t tx : TypeId} {v xv v' : Value}
    (ho : o.op = .call { callee := .builtin .append, args := #[s, x], argTypes := #[t, tx] }) (hs : a.eval s = v) (hx : a.eval x = xv) (hr : (Builtin.append_ #[t, tx] o.type #[v, xv]).run P w = .ok v' w') (h : K (a.put o.dst v') w') : o.wp P a w K Q := by
  unfold Oper.wp execOp
  simp only [ho, resolve, invoke, builtin, Sem.run_bind, Sem.run_pure, Result.andThen_ok, List.map_toArray, List.map_cons, List.map_nil, hs, hx, hr]
  exact h
theorem wpList_append1 {P : Program} {ops : Array Oper} {rest : List Oper} {o : Oper} {a : Act} {Q : Exit → Act → World → Prop} {w w' : World} (hgd : o.guard = none) {s x : Operand} {t tx : TypeId} {v xv v' : Value}
    (ho : o.op = .call { callee := .builtin .append, args := #[s, x], argTypes := #[t, tx] }) (hs : a.eval s = v) (hx : a.eval x = xv) (hr : (Builtin.append_ #[t, tx] o.type #[v, xv]).run P w = .ok v' w') (h : wpList P ops Q rest (a.put o.dst v') w') : wpList P ops Q (o :: rest) a w :=
  wpList_plain hgd fun _ hK => oper_append1 ho hs hx hr (hK _ _ h)
theorem Tryz.infoSt : (Tryz.prog.info? 9).map (fun i => (i.zero, i.size, i.bytes)) = some (some (.string ⟨#[]⟩), 1, 16) := by kernel_rfl
theorem info_parts1 {P : Program} {t : TypeId} {z : Value} {s b : Nat} (h : (P.info? t).map (fun i => (i.zero, i.size, i.bytes)) = some (some z, s, b)) : ∃ i, P.info? t = some i ∧ i.zero = some z ∧ i.size = s ∧ i.bytes = b := by
  obtain ⟨i, hi, e⟩ := Option.map_eq_some_iff.1 h
  simp only [Prod.mk.injEq] at e
  exact ⟨i, hi, e.1, e.2.1, e.2.2⟩

end Go.Proofs.YtmdmdbobbepogaaGreatDoor.Sn

/- Names of segments: segment.Base and conveyorref.SegBase answer alike. -/
namespace Go.Proofs.YtmdmdbobbepogaaGreatDoor.Sn
open Go.Lib Go.RowKit
set_option linter.unusedSimpArgs false
set_option linter.unusedVariables false
attribute [local go_sem] Oper.semAt_some
set_option maxRecDepth 100000

theorem name_inj {d : List UInt8} {n m : Nat} (hn : n ≤ 1099511627776) (hm : m ≤ 1099511627776) (h : nameL d n = nameL d m) : n = m := by
  have h1 := rest_name d n
  rw [h, rest_name d m] at h1
  have a := atoi_pad (n := n) (by omega)
  have b := atoi_pad (n := m) (by omega)
  rw [h1] at b
  rw [a] at b
  have : (n : Int) = m := by simpa using b
  omega
open Classical in
/-- The offset in a file's name. -/
noncomputable def baseS (d l : List UInt8) : Int := if h : ∃ n : Nat, n ≤ 1099511627776 ∧ l = nameL d n then (h.choose : Int) else -1
theorem baseS_yes {d : List UInt8} {n : Nat} (hn : n ≤ 1099511627776) : baseS d (nameL d n) = n := by
  have h : ∃ m : Nat, m ≤ 1099511627776 ∧ nameL d n = nameL d m := ⟨n, hn, rfl⟩
  unfold baseS
  rw [dif_pos h, name_inj h.choose_spec.1 hn h.choose_spec.2.symm]
theorem baseS_no {d l : List UInt8} (h : ¬ ∃ n : Nat, n ≤ 1099511627776 ∧ l = nameL d n) : baseS d l = -1 := by
  unfold baseS
  rw [dif_neg h]

/-- What is left of a name without its directory and its ending. -/
def restL (d l : List UInt8) : List UInt8 := trimSuffix (trimPrefix l (d ++ [47])) [46, 108, 111, 103]
theorem restL_len (d l : List UInt8) : (restL d l).length ≤ l.length := by
  unfold restL trimSuffix trimPrefix
  repeat' split
  all_goals simp
  all_goals omega

theorem offset_any (z : Int) (w : World) :
    Calls Tryz.prog 82 #[.int .i64 z] w fun e w' => e = .returned (.bool (decide (0 ≤ z ∧ z ≤ 1099511627776))) ∧ w' = w := by
  by_cases h : 0 ≤ z ∧ z ≤ 1099511627776
  · have HD : Hid (decide (0 ≤ z ∧ z ≤ 1099511627776) = true) := decide_eq_true h
    obtain ⟨h1, h2⟩ := h
    go_enter Tryz.func82, Tryz.ntmps82
    go_wp2
    go_ret
    exact ⟨ret_bool HD.out.symm, rfl⟩
  · have HD : Hid (decide (0 ≤ z ∧ z ≤ 1099511627776) = false) := decide_eq_false h
    by_cases h1 : 0 ≤ z
    · have h2 : ¬ z ≤ 1099511627776 := fun e => h ⟨h1, e⟩
      clear h
      go_enter Tryz.func82, Tryz.ntmps82
      go_wp2
      go_ret
      exact ⟨ret_bool (by rw [eq_comm, Bool.eq_false_iff]; simp; omega), rfl⟩
    · clear h
      go_enter Tryz.func82, Tryz.ntmps82
      go_wp2
      go_ret
      exact ⟨ret_bool (by rw [eq_comm, Bool.eq_false_iff]; simp; omega), rfl⟩

theorem pre_any (name dir : ByteArray) (w : World) :
    Calls Tryz.prog 80 #[.string name, .string (dir ++ (⟨#[47]⟩ : ByteArray))] w fun e w' => ∃ P : ByteArray, e = .returned (.string P) ∧ P.data.toList = trimPrefix name.data.toList (dir.data.toList ++ [47]) ∧ w = w' := by
  have h := Tryz.strings_TrimPrefix name (dir ++ (⟨#[47]⟩ : ByteArray)) w
  refine h.mono ?_
  rintro e w' ⟨rfl, rfl⟩
  exact ⟨⟨(trimPrefix name.data.toList (dir ++ (⟨#[47]⟩ : ByteArray)).data.toList).toArray⟩, rfl, by rw [ByteArray.data_append]; simp, rfl⟩
theorem suf_any (P : ByteArray) (w : World) (hP : P.size ≤ 1000) :
    Calls Tryz.prog 79 #[.string P, .string ⟨#[46, 108, 111, 103]⟩] w fun e w' => ∃ R : ByteArray, e = .returned (.string R) ∧ R.data.toList = trimSuffix P.data.toList [46, 108, 111, 103] ∧ w = w' := by
  have h9 : P.size ≤ 9223372036854775807 := Nat.le_trans hP (by decide)
  have h := Tryz.strings_TrimSuffix P ⟨#[46, 108, 111, 103]⟩ w h9
  refine h.mono ?_
  rintro e w' ⟨rfl, rfl⟩
  exact ⟨⟨(trimSuffix P.data.toList [46, 108, 111, 103]).toArray⟩, rfl, rfl, rfl⟩
theorem pre_len (l p : List UInt8) : (trimPrefix l p).length ≤ l.length := by
  unfold trimPrefix; split <;> simp
theorem below_same {w w' : World} {e : TypeId} (h : w' = w ∨ ∃ t, w' = bytesWorld w e t) : Below w.heap.size w w' := by
  rcases h with rfl | ⟨t, rfl⟩
  · exact Below.refl _ _
  · exact below_bytes _ _ _
theorem atoi_bounds {l : List UInt8} {v : Int} (h : atoiAll l = .ok v) : -9223372036854775808 ≤ v ∧ v ≤ 9223372036854775807 := by
  rw [← parseIntB_64] at h
  have := parseIntB_bounds h
  omega
theorem atoi_any (R : ByteArray) (hR : R.size ≤ 1000) (w : World) (hv : VarT w) :
    Calls Tryz.prog 81 #[.string R] w fun e w' => (∃ v er, e = .returned (.tuple #[.int .i64 v, er]) ∧ ((er = .nilIface ∧ atoiAll R.data.toList = .ok v) ∨ ((∀ u, atoiAll R.data.toList ≠ .ok u) ∧ ∃ N, er = .iface 216 (.pointer (some ⟨N, 0, none⟩))))) ∧ Below w.heap.size w w' := by
  obtain ⟨tp, p, h1⟩ := hv.syn
  obtain ⟨tq, q, h2⟩ := hv.rng
  cases hA : atoiAll R.data.toList with
  | ok v =>
    refine (Tryz.strconv_Atoi_ok R (by omega) v hA w).mono ?_
    rintro e w' ⟨rfl, h⟩
    exact ⟨⟨_, _, rfl, .inl ⟨rfl, rfl⟩⟩, below_same h⟩
  | «syntax» =>
    refine (Tryz.strconv_Atoi_syntax_var R (by omega) hA tp p w h1).mono ?_
    rintro e w' ⟨N, rfl, _, _, hb⟩
    exact ⟨⟨_, _, rfl, .inr ⟨fun u e => (by cases e), N, rfl⟩⟩, hb⟩
  | range =>
    refine (Tryz.strconv_Atoi_range_var R (by omega) hA tq q w h2).mono ?_
    rintro e w' ⟨N, rfl, _, _, hb⟩
    exact ⟨⟨_, _, rfl, .inr ⟨fun u e => (by cases e), N, rfl⟩⟩, hb⟩

theorem name_ne {dir name : ByteArray} (h : ¬ ∃ n : Nat, n ≤ 1099511627776 ∧ name.data.toList = nameL dir.data.toList n) {n : Nat} (hn : n ≤ 1099511627776) : ((nameB dir n).toList == name.toList) = false := by
  rw [beq_eq_false_iff_ne]
  intro e
  refine h ⟨n, hn, ?_⟩
  rw [toList_data, toList_data] at e
  rw [← e]; simp [nameB]
theorem name_eq {dir name : ByteArray} {n : Nat} (h : name.data.toList = nameL dir.data.toList n) : ((nameB dir n).toList == name.toList) = true := by
  rw [beq_iff_eq, toList_data, toList_data, h]; simp [nameB]

set_option maxHeartbeats 1000000 in
theorem base_no (dir name : ByteArray) (hd : dir.size ≤ 1000) (hl : name.size ≤ 1000) (w : World) (hv : VarT w) (hno : ¬ ∃ n : Nat, n ≤ 1099511627776 ∧ name.data.toList = nameL dir.data.toList n) :
    Calls Tryz.prog 53 #[.string dir, .string name] w fun e w' => e = .returned (.int .i64 (-1)) ∧ Below w.heap.size w w' := by
  have HV := hide hv
  have HN := hide hno
  clear hv hno
  go_enter Tryz.func53, Tryz.ntmps53
  go_wp2_with fail
  refine (pre_any name dir _).mono ?_
  rintro e w' ⟨P, rfl, hP, rfl⟩
  have hPs : P.size ≤ 1000 := by rw [size_eq, hP]; have := pre_len name.data.toList (dir.data.toList ++ [47]); rw [size_eq] at hl; omega
  go_wp2_with fail
  refine (suf_any P _ hPs).mono ?_
  rintro e w' ⟨R, rfl, hR, rfl⟩
  rw [hP] at hR
  have hRl : R.data.toList = restL dir.data.toList name.data.toList := hR
  have hRs : R.size ≤ 1000 := by rw [size_eq, hRl]; have := restL_len dir.data.toList name.data.toList; rw [size_eq] at hl; omega
  clear hP hR hRl
  go_wp2_with fail
  refine (atoi_any R hRs _ HV.out).mono ?_
  rintro e w1 ⟨⟨v, er, rfl, hor⟩, hb1⟩
  have HB1 := hide hb1
  clear hb1
  rcases hor with ⟨rfl, hat⟩ | ⟨hat, N, rfl⟩
  · have hat2 := atoi_bounds hat
    clear hat
    obtain ⟨v1, v2⟩ := hat2
    by_cases h : 0 ≤ v ∧ v ≤ 1099511627776
    · have hdc : decide (0 ≤ v ∧ v ≤ 1099511627776) = true := by simp [h]
      go_wp2_with (go_at_call 82; refine (offset_any _ _).mono ?_; rintro e w' ⟨rfl, rfl⟩)
      obtain ⟨n, rfl⟩ := Int.eq_ofNat_of_zero_le h.1
      refine (name_any dir n (by omega) hd _ (HV.out.below HB1.out).tab).mono ?_
      rintro e w2 ⟨rfl, hb2⟩
      have hne := name_ne HN.out (show n ≤ 1099511627776 by omega)
      go_wp2_with fail
      go_ret
      exact ⟨rfl, below_step HB1.out hb2⟩
    · have hdc : decide (0 ≤ v ∧ v ≤ 1099511627776) = false := by simp [h]
      go_wp2_with (go_at_call 82; refine (offset_any _ _).mono ?_; rintro e w' ⟨rfl, rfl⟩)
      go_ret
      exact ⟨rfl, HB1.out⟩
  · clear hat
    go_wp2
    go_ret
    exact ⟨rfl, HB1.out⟩

set_option maxHeartbeats 1000000 in
theorem base_yes (dir name : ByteArray) (hd : dir.size ≤ 1000) (hl : name.size ≤ 1000) (w : World) (hv : VarT w) (n : Nat) (hn : n ≤ 1099511627776) (hna : name.data.toList = nameL dir.data.toList n) :
    Calls Tryz.prog 53 #[.string dir, .string name] w fun e w' => e = .returned (.int .i64 n) ∧ Below w.heap.size w w' := by
  have HV := hide hv
  have HN := hide hna
  clear hv hna
  go_enter Tryz.func53, Tryz.ntmps53
  go_wp2_with fail
  refine (pre_any name dir _).mono ?_
  rintro e w' ⟨P, rfl, hP, rfl⟩
  have hPs : P.size ≤ 1000 := by rw [size_eq, hP]; have := pre_len name.data.toList (dir.data.toList ++ [47]); rw [size_eq] at hl; omega
  go_wp2_with fail
  refine (suf_any P _ hPs).mono ?_
  rintro e w' ⟨R, rfl, hR, rfl⟩
  rw [hP] at hR
  have hRl : R.data.toList = restL dir.data.toList name.data.toList := hR
  have hRs : R.size ≤ 1000 := by rw [size_eq, hRl]; have := restL_len dir.data.toList name.data.toList; rw [size_eq] at hl; omega
  rw [HN.out] at hR
  rw [rest_name] at hR
  have hat : atoiAll R.data.toList = .ok (n : Int) := by rw [hR]; exact atoi_pad (by omega)
  have HA := hide hat
  clear hP hR hRl hat
  go_wp2_with fail
  refine (atoi_any R hRs _ HV.out).mono ?_
  rintro e w1 ⟨⟨v, er, rfl, hor⟩, hb1⟩
  have HB1 := hide hb1
  clear hb1
  rcases hor with ⟨rfl, hat⟩ | ⟨hat, N, rfl⟩
  · obtain rfl : v = (n : Int) := by rw [HA.out] at hat; simpa using hat.symm
    clear hat
    have hdc : decide (0 ≤ (n : Int) ∧ (n : Int) ≤ 1099511627776) = true := decide_eq_true ⟨by omega, by omega⟩
    go_wp2_with (go_at_call 82; refine (offset_any _ _).mono ?_; rintro e w' ⟨rfl, rfl⟩)
    refine (name_any dir n (by omega) hd _ (HV.out.below HB1.out).tab).mono ?_
    rintro e w2 ⟨rfl, hb2⟩
    have hne := name_eq HN.out
    go_wp2_with fail
    go_ret
    exact ⟨rfl, below_step HB1.out hb2⟩
  · exact absurd HA.out (hat _)
end Go.Proofs.YtmdmdbobbepogaaGreatDoor.Sn

/- slices.Clone of bytes; Read. -/
namespace Go.Proofs.YtmdmdbobbepogaaGreatDoor.Dk
open Go.RowKit Go.Maps
set_option linter.unusedSimpArgs false

section
variable {w w' : World} {base d : Nat} {F : List Nat} {A A' : DA} {mref : Option Nat} {ms : List FileM}

set_option maxRecDepth 100000 in
set_option maxHeartbeats 1000000 in
theorem clone_any (w : World) (v : Value) (bs : List UInt8) (hx : SliceAt w v (bs.map encB)) (hbs : bs.length ≤ 1099511627776) :
    Calls Tryz.prog 162 #[v] w fun e w' => ∃ v', e = .returned v' ∧ RowAt w' 5 w.heap.size v' bs ∧ Turn [] w w' := by
  obtain ⟨i0, hi, hz, hz1, hz2⟩ := info_parts Tryz.infoB
  have hq : ∀ (w : World) (a : Option Addr) (n c : Nat), (binOp .eql 57 (.slice a n c) (.slice none 0 0)).run Tryz.prog w = .ok (.bool a.isNone) w := fun w a n c => Go.Lib.run_eql_slice_nil w _ _ a n c 0 0 Tryz.underlying57
  rcases hx with ⟨rfl, hb⟩ | ⟨a, c, rfl, hc⟩
  · have hb' : bs = [] := by simpa using hb
    subst hb'
    go_enter Tryz.func162, Tryz.ntmps162
    go_wp2
    go_ret
    exact ⟨_, rfl, .inl ⟨rfl, rfl⟩, Turn.refl _ _⟩
  · simp only [List.length_map]
    have HX : Hid (SliceAt w (.slice (some a) bs.length c) (bs.map encB)) := .inr ⟨a, c, by simp, hc⟩
    clear hc
    go_enter Tryz.func162, Tryz.ntmps162
    go_wp2_with (at_builtin; go_must (refine wpList_append_row _ rfl _ _ 57 rfl 5 w.heap.size i0 Tryz.underlying57 hi hz hz1 hz2 (.slice (some ⟨w.heap.size, 0, none⟩) 0 0) (.slice (some a) bs.length c) [] bs rfl rfl (.inr ⟨w.heap.size, 0, #[], rfl, Nat.le_refl _, heap_new w _, by simp, by simp, by simp, by simp⟩) (HX.out.kept ((Turn.refl [] w).alloc _) (by simp)) (by simp; omega) (by simp) ?_; intro v3 w3 hrow3 ht4 hown3; rw [List.nil_append] at hrow3))
    go_ret
    exact ⟨_, rfl, hrow3, ((Turn.refl [] w).alloc (.cells #[] 5)).trans ht4 (by simp [Value.ownBlock])⟩

/-- What Read tells. -/
def readL (bs : List UInt8) (off most : Int) : List UInt8 := if off < 0 ∨ (bs.length : Int) ≤ off ∨ most ≤ 0 then [] else (bs.drop off.toNat).take most.toNat
def DA.bytesOf (A : DA) (nm : List UInt8) : List UInt8 := match A.files.find? (fun f => f.name == nm) with
  | some f => f.bytes
  | none => []
theorem bytesOf_eq (h : Parts w base d F A mref ms) (nm : List UInt8) : A.bytesOf nm = match findM ms nm with
  | some m => m.abs.bytes
  | none => [] := by
  unfold DA.bytesOf findM
  rw [h.files, List.find?_map]
  simp only [Function.comp_def]
  cases List.find? (fun m => m.abs.name == nm) ms <;> rfl

theorem RowAt.zero {w : World} {e base : Nat} : RowAt w e base (.slice none 0 0) [] := .inl ⟨rfl, rfl⟩

set_option maxRecDepth 100000 in
set_option maxHeartbeats 1000000 in
theorem read_none (h : Parts w base d F A mref ms) (s : ByteArray) (hs : s.size ≤ maxLen) (off most : Int) (hn : findM ms s.data.toList = none) :
    Calls Tryz.prog 121 #[.pointer (some ⟨d, 0, none⟩), .string s, .int .i64 off, .int .i64 most] w fun e w' => e = .returned (.slice none 0 0) ∧ w = w' := by
  have c1 := h.c1
  have hlook := h.map.look hs
  rw [hn] at hlook
  simp only [ptrOf] at hlook
  clear hn h
  go_enter Tryz.func121, Tryz.ntmps121
  go_wp2
  go_ret
  exact ⟨rfl, rfl⟩

set_option maxRecDepth 100000 in
set_option maxHeartbeats 1000000 in
theorem read_some (h : Parts w base d F A mref ms) (s : ByteArray) (hs : s.size ≤ maxLen) (off most : Int) (m : FileM) (hn : findM ms s.data.toList = some m) (hm : -9223372036854775808 ≤ most ∧ most ≤ 9223372036854775807) :
    Calls Tryz.prog 121 #[.pointer (some ⟨d, 0, none⟩), .string s, .int .i64 off, .int .i64 most] w fun e w' => ∃ v, e = .returned v ∧ RowAt w' 5 w.heap.size v (readL m.abs.bytes off most) ∧ Turn [] w w' := by
  have c1 := h.c1
  have hlook := h.map.look hs
  rw [hn] at hlook
  simp only [ptrOf] at hlook
  have hfa := h.each m (findM_mem hn).1
  obtain ⟨sa, sc, hsl, hsl1, hsl2⟩ := hfa.2.form
  have cf : w.cell? ⟨m.blk, 0, none⟩ = some (.slice sa m.abs.bytes.length sc) := by rw [cell_of hfa.1, hsl]; rfl
  have hlen : m.abs.bytes.length ≤ 1048576 := by
    have h1 := h.good.used
    have h2 := h.good.room
    rw [h.files] at h1
    obtain ⟨pre, post, e, _⟩ := split_at hn
    rw [e, List.map_append, List.map_cons, usedL_split] at h1
    omega
  by_cases hz : off < 0 ∨ (m.abs.bytes.length : Int) ≤ off ∨ most ≤ 0
  · have HE : Hid (readL m.abs.bytes off most = []) := by show _ = _; simp [readL, hz]
    have HF : Hid (off < 0 ∨ (m.abs.bytes.length : Int) ≤ off ∨ most ≤ 0) := hz
    clear hn h hfa hsl hz
    by_cases h1 : off < 0
    · go_enter Tryz.func121, Tryz.ntmps121
      go_wp2
      go_ret
      exact ⟨_, rfl, by rw [HE.out]; exact RowAt.zero, Turn.refl _ _⟩
    · by_cases h2 : (m.abs.bytes.length : Int) ≤ off
      · go_enter Tryz.func121, Tryz.ntmps121
        go_wp2
        go_ret
        exact ⟨_, rfl, by rw [HE.out]; exact RowAt.zero, Turn.refl _ _⟩
      · have h3 : most ≤ 0 := by have := HF.out; omega
        go_enter Tryz.func121, Tryz.ntmps121
        go_wp2
        go_ret
        exact ⟨_, rfl, by rw [HE.out]; exact RowAt.zero, Turn.refl _ _⟩
  · have HE : Hid (readL m.abs.bytes off most = (m.abs.bytes.drop off.toNat).take most.toNat) := by show _ = _; simp only [readL, hz, if_false]
    have h1 : ¬ off < 0 := by omega
    have h2 : ¬ (m.abs.bytes.length : Int) ≤ off := by omega
    have h3 : ¬ most ≤ 0 := by omega
    obtain ⟨n, rfl⟩ := Int.eq_ofNat_of_zero_le (show 0 ≤ off by omega)
    obtain ⟨k, rfl⟩ := Int.eq_ofNat_of_zero_le (show 0 ≤ most by omega)
    have hR := hfa.2
    rcases hR with ⟨_, hb0⟩ | ⟨g, cap, cur, hsl', hbg, hg, hc1, hc2, hc3, htk⟩
    · rw [hb0] at h2; simp at h2
    clear cf hsl1 hsl2
    have cf : w.cell? ⟨m.blk, 0, none⟩ = some (.slice (some ⟨g, 0, none⟩) m.abs.bytes.length cap) := by rw [cell_of hfa.1, hsl']; rfl
    have hn1 : n < m.abs.bytes.length := by omega
    have hk1 : 0 < k := by omega
    have hs1 : ∀ w, (Instr.slice 57 (.slice (some ⟨g, 0, none⟩) m.abs.bytes.length cap) (some (.int .i64 (n : Int))) none none).run Tryz.prog w = .ok (.slice (some ⟨g, n, none⟩) (m.abs.bytes.length - n) (cap - n)) w := by
      intro w
      have hsz : (sizeOf 5).run Tryz.prog w = .ok 1 w := by kernel_rfl
      have hne : ¬ cap = n := by omega
      simp [Instr.slice, run_underlying Tryz.underlying57, Instr.sliceBounds, run_sliceBound, hsz, Result.andThen, (by omega : n ≤ m.abs.bytes.length), hne, addr_add]
    have hs2 : ∀ (j : Nat) w, j ≤ cap - n → (Instr.slice 57 (.slice (some ⟨g, n, none⟩) (m.abs.bytes.length - n) (cap - n)) none (some (.int .i64 (j : Int))) none).run Tryz.prog w = .ok (.slice (some ⟨g, n, none⟩) j (cap - n)) w := by
      intro j w hj
      have hsz : (sizeOf 5).run Tryz.prog w = .ok 1 w := by kernel_rfl
      simp [Instr.slice, run_underlying Tryz.underlying57, Instr.sliceBounds, run_sliceBound, hsz, Result.andThen, hj, Addr.add]
    have HE2 : Hid (∀ j : Nat, j ≤ m.abs.bytes.length - n → SliceAt w (.slice (some ⟨g, n, none⟩) j (cap - n)) (((m.abs.bytes.drop n).take j).map encB)) := by
      intro j hj
      refine .inr ⟨⟨g, n, none⟩, cap - n, by simp; omega, fun i u hu => ?_⟩
      have ha : (⟨g, n, none⟩ : Addr).add i = ⟨g, n + i, none⟩ := by unfold Addr.add; split <;> simp_all
      rw [ha, cell_of hg]
      have hi : i < j := by
        have := (List.getElem?_eq_some_iff.1 hu).1
        simp at this; omega
      have hq : (m.abs.bytes.map encB)[n + i]? = some u := by
        rw [List.map_take, List.map_drop, List.getElem?_take_of_lt hi, List.getElem?_drop] at hu
        exact hu
      rw [← htk, List.getElem?_take_of_lt (by omega)] at hq
      simpa using hq
    clear hn h hfa hsl hz hsl' hg htk h1 h3
    have hwr : IntKind.i64.wrap ((m.abs.bytes.length : Int) - (n : Int)) = (m.abs.bytes.length : Int) - (n : Int) := by
      rw [IntWalk.i64_left, IntWalk.wrap64_in _ (by omega)]
    by_cases hkk : (k : Int) ≤ m.abs.bytes.length - n
    · have hj := fun w => hs2 k w (by omega)
      have hmin : ∀ ts t w, (Builtin.min_ ts t #[.int .i64 (k : Int), .int .i64 ((m.abs.bytes.length : Int) - (n : Int))]).run Tryz.prog w = .ok (.int .i64 (k : Int)) w := by
        intro ts t w
        have : ¬ ((m.abs.bytes.length : Int) - (n : Int) < (k : Int)) := by omega
        simp [Builtin.min_, Builtin.min2, this]
      have hcl := fun W (hW : Turn [] w W) => clone_any W (.slice (some ⟨g, n, none⟩) k (cap - n)) ((m.abs.bytes.drop n).take k) ((HE2.out k (by omega)).kept hW (by simp)) (by simp; omega)
      have HC : Hid (∀ W, Turn [] w W → Calls Tryz.prog 162 #[.slice (some ⟨g, n, none⟩) k (cap - n)] W fun e w' => ∃ v', e = .returned v' ∧ RowAt w' 5 W.heap.size v' ((m.abs.bytes.drop n).take k) ∧ Turn [] W w') := hcl
      clear hs2 hcl
      go_enter Tryz.func121, Tryz.ntmps121
      go_wp2
      go_region_with (go_at_call 162; refine (HC.out _ (by repeat (first | exact Turn.refl _ _ | refine Turn.drew ?_))).mono ?_; rintro e w2 ⟨v, rfl, hrow, ht2⟩)
      all_goals
        go_wp2
        go_ret
        exact ⟨v, rfl, by rw [HE.out]; simpa using hrow, ((Turn.refl [] w).drew).same ht2⟩
    · have hj := fun w => hs2 (m.abs.bytes.length - n) w (by omega)
      rw [show ((m.abs.bytes.length - n : Nat) : Int) = (m.abs.bytes.length : Int) - (n : Int) by omega] at hj
      have hmin : ∀ ts t w, (Builtin.min_ ts t #[.int .i64 (k : Int), .int .i64 ((m.abs.bytes.length : Int) - (n : Int))]).run Tryz.prog w = .ok (.int .i64 ((m.abs.bytes.length : Int) - (n : Int))) w := by
        intro ts t w
        have : ((m.abs.bytes.length : Int) - (n : Int) < (k : Int)) := by omega
        simp [Builtin.min_, Builtin.min2, this]
      have hcl := fun W (hW : Turn [] w W) => clone_any W (.slice (some ⟨g, n, none⟩) (m.abs.bytes.length - n) (cap - n)) ((m.abs.bytes.drop n).take (m.abs.bytes.length - n)) ((HE2.out (m.abs.bytes.length - n) (by omega)).kept hW (by simp)) (by simp; omega)
      have HC : Hid (∀ W, Turn [] w W → Calls Tryz.prog 162 #[.slice (some ⟨g, n, none⟩) (m.abs.bytes.length - n) (cap - n)] W fun e w' => ∃ v', e = .returned v' ∧ RowAt w' 5 W.heap.size v' ((m.abs.bytes.drop n).take (m.abs.bytes.length - n)) ∧ Turn [] W w') := hcl
      have HT : Hid ((m.abs.bytes.drop n).take k = (m.abs.bytes.drop n).take (m.abs.bytes.length - n)) := by
        show _ = _
        rw [List.take_of_length_le (by simp; omega), List.take_of_length_le (by simp)]
      clear hs2 hcl
      go_enter Tryz.func121, Tryz.ntmps121
      go_wp2
      go_region_with (go_at_call 162; refine (HC.out _ (by repeat (first | exact Turn.refl _ _ | refine Turn.drew ?_))).mono ?_; rintro e w2 ⟨v, rfl, hrow, ht2⟩)
      all_goals
        go_wp2
        go_ret
        refine ⟨v, rfl, ?_, ((Turn.refl [] w).drew).same ht2⟩
        rw [HE.out]
        simp only [Int.toNat_natCast]
        rw [HT.out]
        exact hrow
end

end Go.Proofs.YtmdmdbobbepogaaGreatDoor.Dk

/- segment.Make, segment.Open. -/
namespace Go.Proofs.YtmdmdbobbepogaaGreatDoor.Sg
open Go.RowKit Go.Maps
set_option maxRecDepth 100000
set_option linter.unusedSimpArgs false
set_option linter.unusedVariables false
attribute [local go_sem] Oper.semAt_some
open Dk (DA DiskAt Parts Did errR errV)

theorem base_le {w : World} {base d : Nat} {F : List Nat} {A : DA} (h : DiskAt w base d F A) : base ≤ w.heap.size := by
  obtain ⟨mref, ms, h⟩ := h
  have h1 := h.low d h.mem_self
  have h2 := h.lt d h.mem_self
  omega
theorem nameB_len {dir : ByteArray} {n : Nat} (hn : n ≤ 1099511627776) (hd : dir.size ≤ 1000) : (Sn.nameB dir n).size ≤ maxLen := by
  have := Sn.dec_short hn
  have hm : maxLen = 9223372036854775807 := by simp [maxLen]
  rw [hm]
  rw [Lib.size_eq] at hd ⊢
  simp [Sn.nameB, Sn.nameL, Sn.pad]
  simp at hd
  omega
theorem offset_yes (n : Nat) (hn : n ≤ 1099511627776) (w : World) : Calls Tryz.prog 82 #[.int .i64 n] w fun e w' => e = .returned (.bool true) ∧ w = w' := by
  refine (Sn.offset_any n w).mono ?_
  rintro e w' ⟨rfl, rfl⟩
  exact ⟨by rw [decide_eq_true (p := 0 ≤ (n : Int) ∧ (n : Int) ≤ 1099511627776) ⟨by omega, by omega⟩], rfl⟩
/-- A new segment, and its file. -/
def Fresh1 (w w' : World) (base d : Nat) (F : List Nat) (A' : DA) (sb : Nat) (file : ByteArray) (b0 : Int) : Prop :=
  ∃ F', Both w' base d F' A' sb (.slice none 0 0) file b0 [] ∧ Turn F w w' ∧ (∀ k ∈ F', k ∈ F ∨ w.heap.size ≤ k) ∧ w.heap.size ≤ sb

set_option maxHeartbeats 2000000 in
theorem empty_any (w : World) (base d : Nat) (F : List Nat) (A : DA) (h : DiskAt w base d F A) (file : ByteArray) (hf : file.size ≤ maxLen) (b0 : Int) :
    Calls Tryz.prog 85 #[.pointer (some ⟨d, 0, none⟩), .string file, .int .i64 b0] w fun e w' =>
      ((A.make file).1 ≠ 0 ∧ e = .returned (.tuple #[.pointer none, errR (A.make file).1]) ∧ Did w w' base d F (A.make file).2) ∨
      ((A.make file).1 = 0 ∧ ∃ sb, e = .returned (.tuple #[.pointer (some ⟨sb, 0, none⟩), .nilIface]) ∧ Fresh1 w w' base d F (A.make file).2 sb file b0) := by
  have H := hide h
  have HB := hide (base_le h)
  obtain ⟨mref, ms, hp⟩ := h
  go_enter Tryz.func85, Tryz.ntmps85
  go_wp2_with fail
  refine (Dk.make_any hp file hf).mono ?_
  rintro e w1 ⟨rfl, hd1⟩
  obtain ⟨c, hc⟩ : ∃ c, c = (A.make file).1 := ⟨_, rfl⟩
  have HC := hide hc
  have HD := hide hd1
  rw [← hc]
  clear hc hd1 hp
  by_cases h0 : c = 0
  · have hr : errR c = .nilIface := by rw [h0]; rfl
    rw [hr]
    have H0 := hide h0
    clear hr h0
    go_wp2
    go_ret2
    obtain ⟨F', hd, ht, hf'⟩ := HD.out
    have ht2 : Turn [] w1 (w1.alloc (.cells #[.pointer (some ⟨d, 0, none⟩), .string file, .int .i64 b0, .slice none 0 0] 103)) := (Turn.refl [] w1).alloc _
    refine .inr ⟨HC.out.symm.trans H0.out, _, rfl, F', ⟨hd.kept ht2 (by simp), ⟨heap_new w1 _, .inl ⟨rfl, rfl⟩, Nat.le_trans HB.out ht.size⟩, fun k hk hm => ?_⟩, ht.trans ht2 (by simp), hf', ht.size⟩
    simp [sfoot, Value.ownBlock] at hk
    have := hd.lt k hm
    omega
  · have hr : errR c = .iface 62 (.int .i64 c) := by unfold errR; rw [if_neg h0]; rfl
    rw [hr]
    have HR := hide hr
    have H0 := hide h0
    clear hr h0
    go_wp2
    go_ret2
    refine .inl ⟨fun e => H0.out (HC.out.trans e), ?_, HD.out⟩
    rw [← HC.out, HR.out]; rfl
set_option maxHeartbeats 2000000 in
theorem make_any (w : World) (base d : Nat) (F : List Nat) (A : DA) (h : DiskAt w base d F A) (dir : ByteArray) (hd : dir.size ≤ 1000) (n : Nat) (hn : n ≤ 1099511627776) (hv : Sn.TabT w) :
    Calls Tryz.prog 57 #[.pointer (some ⟨d, 0, none⟩), .string dir, .int .i64 n] w fun e w' =>
      ((A.make (Sn.nameB dir n)).1 ≠ 0 ∧ e = .returned (.tuple #[.pointer none, errR (A.make (Sn.nameB dir n)).1]) ∧ Did w w' base d F (A.make (Sn.nameB dir n)).2) ∨
      ((A.make (Sn.nameB dir n)).1 = 0 ∧ ∃ sb, e = .returned (.tuple #[.pointer (some ⟨sb, 0, none⟩), .nilIface]) ∧ Fresh1 w w' base d F (A.make (Sn.nameB dir n)).2 sb (Sn.nameB dir n) n) := by
  have H := hide h
  have HV := hide hv
  clear h hv
  go_enter Tryz.func57, Tryz.ntmps57
  go_wp2_with (go_at_call 82; refine (offset_yes n hn _).mono ?_; rintro e w' ⟨rfl, rfl⟩)
  refine (Sn.name_any dir n hn hd _ HV.out).mono ?_
  rintro e w1 ⟨rfl, hb1⟩
  have ht1 : Turn [] _ w1 := Turn.of_below hb1 []
  have HT1 := hide ht1
  clear hb1 ht1
  obtain ⟨file, hfile⟩ : ∃ f, f = Sn.nameB dir n := ⟨_, rfl⟩
  have HFI := hide hfile
  rw [← hfile]
  clear hfile
  go_wp2_with fail
  refine (empty_any w1 base d F A (H.out.kept HT1.out (by simp)) file (by rw [HFI.out]; exact nameB_len hn hd) n).mono ?_
  rintro e w2 (⟨h1, rfl, hdid⟩ | ⟨h1, sb, rfl, hfr⟩)
  · have HD := hide hdid
    have H1 := hide h1
    clear hdid h1
    go_wp2
    go_ret2
    rw [← HFI.out]
    obtain ⟨F', hd2, ht2, hf2⟩ := HD.out
    exact .inl ⟨H1.out, rfl, F', hd2, (HT1.out.mono (by simp)).same ht2, fun k hk => (hf2 k hk).imp_right (Nat.le_trans HT1.out.size)⟩
  · have HD := hide hfr
    have H1 := hide h1
    clear hfr h1
    go_wp2
    go_ret2
    rw [← HFI.out]
    obtain ⟨F', hb, ht2, hf2, hs⟩ := HD.out
    exact .inr ⟨H1.out, sb, rfl, F', hb, (HT1.out.mono (by simp)).same ht2, fun k hk => (hf2 k hk).imp_right (Nat.le_trans HT1.out.size), Nat.le_trans HT1.out.size hs⟩

theorem sizeOf_some {A : DA} {nm : List UInt8} {f : Dk.FA} (h : A.file nm = some f) : A.sizeOf nm = f.bytes.length := by unfold DA.sizeOf; rw [h]
theorem sizeOf_none {A : DA} {nm : List UInt8} (h : A.file nm = none) : A.sizeOf nm = -1 := by unfold DA.sizeOf; rw [h]
theorem readL_all (bs : List UInt8) : Dk.readL bs 0 bs.length = bs := by
  unfold Dk.readL
  by_cases h : bs.length = 0
  · rw [if_pos (.inr (.inl (by omega)))]; exact (List.eq_nil_of_length_eq_zero h).symm
  · rw [if_neg (by omega)]; simp
theorem read_file {w : World} {base d : Nat} {F : List Nat} {A : DA} (h : DiskAt w base d F A) (s : ByteArray) (hs : s.size ≤ maxLen) {f : Dk.FA} (hf : A.file s.data.toList = some f) (off most : Int) (hm : -9223372036854775808 ≤ most ∧ most ≤ 9223372036854775807) :
    Calls Tryz.prog 121 #[.pointer (some ⟨d, 0, none⟩), .string s, .int .i64 off, .int .i64 most] w fun e w' => ∃ v, e = .returned v ∧ RowAt w' 5 w.heap.size v (Dk.readL f.bytes off most) ∧ Turn [] w w' := by
  obtain ⟨mref, ms, hp⟩ := h
  have e := Dk.file_find hp s.data.toList
  rw [hf] at e
  obtain ⟨m, hm1, hm2⟩ := Option.map_eq_some_iff.1 e.symm
  have := Dk.read_some hp s hs off most m hm1 hm
  rw [hm2] at this
  exact this
theorem disk_size {w : World} {base d : Nat} {F : List Nat} {A : DA} (h : DiskAt w base d F A) (s : ByteArray) (hs : s.size ≤ maxLen) :
    Calls Tryz.prog 119 #[.pointer (some ⟨d, 0, none⟩), .string s] w fun e w' => e = .returned (.int .i64 (A.sizeOf s.data.toList)) ∧ w = w' := by
  obtain ⟨mref, ms, hp⟩ := h
  exact Dk.size_any hp s hs
theorem le_sum : ∀ {l : List Nat} {x : Nat}, x ∈ l → x ≤ l.sum
  | a :: r, x, h => by
    rcases List.mem_cons.1 h with rfl | h
    · simp
    · have := le_sum h; simp; omega
theorem file_short {w : World} {base d : Nat} {F : List Nat} {A : DA} (h : DiskAt w base d F A) {nm : List UInt8} {f : Dk.FA} (hf : A.file nm = some f) : f.bytes.length ≤ 1048576 := by
  have hg := h.good
  have hm : f ∈ A.files := List.mem_of_find?_eq_some hf
  have h1 : f.bytes.length ≤ Dk.usedL A.files := by
    unfold Dk.usedL
    exact le_sum (List.mem_map_of_mem (f := fun f : Dk.FA => f.bytes.length) hm)
  have := hg.used
  have := hg.room
  omega

set_option maxHeartbeats 2000000 in
theorem open_none (w : World) (base d : Nat) (F : List Nat) (A : DA) (h : DiskAt w base d F A) (dir : ByteArray) (hd : dir.size ≤ 1000) (n : Nat) (hn : n ≤ 1099511627776) (hv : Sn.TabT w) (hf : A.file (Sn.nameB dir n).data.toList = none) :
    Calls Tryz.prog 84 #[.pointer (some ⟨d, 0, none⟩), .string dir, .int .i64 n] w fun e w' => e = .returned (.tuple #[.pointer none, .int .i64 0, errV 7]) ∧ Turn [] w w' := by
  have H := hide h
  have HV := hide hv
  have HF := hide hf
  clear h hv hf
  go_enter Tryz.func84, Tryz.ntmps84
  go_wp2_with fail
  refine (Sn.name_any dir n hn hd _ HV.out).mono ?_
  rintro e w1 ⟨rfl, hb1⟩
  have HT1 := hide (Turn.of_below hb1 [])
  clear hb1
  go_wp2_with fail
  refine (disk_size (H.out.kept HT1.out (by simp)) _ (nameB_len hn hd)).mono ?_
  rintro e w' ⟨rfl, rfl⟩
  rw [sizeOf_none HF.out]
  go_wp2_with (go_at_call 82; refine (offset_yes n hn _).mono ?_; rintro e w' ⟨rfl, rfl⟩)
  refine bodyPost_ret (v := .tuple #[.pointer none, .int .i64 0, errV 7]) (by simp [results, Tryz.results84, errV]) rfl ⟨rfl, HT1.out⟩

/-- What Open has come to: a segment of the batches at the file's beginning; what is behind them is cut off. -/
def Opened (w w' : World) (base d : Nat) (F : List Nat) (A : DA) (file : ByteArray) (b0 : Int) (f : Dk.FA) (xs : List Bt.Bat) (e : Ending) : Prop :=
  (f.bytes.length = (flat xs).length ∧ ∃ sb sv, e = .returned (.tuple #[.pointer (some ⟨sb, 0, none⟩), .int .i64 0, .nilIface]) ∧ Both w' base d F A sb sv file b0 (pls 0 (-1) xs) ∧ Turn [] w w' ∧ ∀ k ∈ sfoot sb sv, w.heap.size ≤ k) ∨
  ((flat xs).length < f.bytes.length ∧ (A.cut file.data.toList (flat xs).length).1 ≠ 0 ∧ e = .returned (.tuple #[.pointer none, .int .i64 0, errR (A.cut file.data.toList (flat xs).length).1]) ∧ Did w w' base d F (A.cut file.data.toList (flat xs).length).2) ∨
  ((flat xs).length < f.bytes.length ∧ (A.cut file.data.toList (flat xs).length).1 = 0 ∧ ∃ F' sb sv, e = .returned (.tuple #[.pointer (some ⟨sb, 0, none⟩), .int .i64 ((f.bytes.length - (flat xs).length : Nat) : Int), .nilIface]) ∧
    Both w' base d F' (A.cut file.data.toList (flat xs).length).2 sb sv file b0 (pls 0 (-1) xs) ∧ Turn F w w' ∧ (∀ k ∈ F', k ∈ F ∨ w.heap.size ≤ k) ∧ ∀ k ∈ sfoot sb sv, w.heap.size ≤ k)
set_option maxHeartbeats 4000000 in
theorem open_some (w : World) (base d : Nat) (F : List Nat) (A : DA) (h : DiskAt w base d F A) (dir : ByteArray) (hd : dir.size ≤ 1000) (n : Nat) (hn : n ≤ 1099511627776) (hv : Sn.TabT w) (f : Dk.FA) (hf : A.file (Sn.nameB dir n).data.toList = some f) :
    Calls Tryz.prog 84 #[.pointer (some ⟨d, 0, none⟩), .string dir, .int .i64 n] w fun e w' => ∃ xs, Scan n f.bytes xs ∧ Opened w w' base d F A (Sn.nameB dir n) n f xs e := by
  have H := hide h
  have HV := hide hv
  have HF := hide hf
  have hfs := file_short h hf
  clear h hv hf
  obtain ⟨file, hfile⟩ : ∃ f, f = Sn.nameB dir n := ⟨_, rfl⟩
  have HFI := hide hfile
  rw [← hfile]
  have HFL : Hid (file.size ≤ maxLen) := by show _ ≤ _; rw [hfile]; exact nameB_len hn hd
  rw [← hfile] at HF
  clear hfile
  go_enter Tryz.func84, Tryz.ntmps84
  go_wp2_with fail
  refine (Sn.name_any dir n hn hd _ HV.out).mono ?_
  rintro e w1 ⟨rfl, hb1⟩
  have HT1 := hide (Turn.of_below hb1 [])
  rw [← HFI.out]
  clear hb1
  go_wp2_with fail
  refine (disk_size (H.out.kept HT1.out (by simp)) _ HFL.out).mono ?_
  rintro e w' ⟨rfl, rfl⟩
  rw [sizeOf_some HF.out]
  go_wp2_with (go_at_call 82; refine (offset_yes n hn _).mono ?_; rintro e w' ⟨rfl, rfl⟩)
  have hsg : SegAt (w1.alloc (.cells #[.pointer (some ⟨d, 0, none⟩), .string file, .int .i64 n, .slice none 0 0] 103)) base d w1.heap.size (.slice none 0 0) file n (pls 0 (-1) []) :=
    ⟨heap_new w1 _, .inl ⟨rfl, rfl⟩, base_le (H.out.kept HT1.out (by simp))⟩
  have hta : Turn [] w (w1.alloc (.cells #[.pointer (some ⟨d, 0, none⟩), .string file, .int .i64 n, .slice none 0 0] 103)) := HT1.out.alloc _
  refine (read_file (H.out.kept hta (by simp)) file HFL.out HF.out 0 f.bytes.length (by omega)).mono ?_
  rintro e w2 ⟨v, rfl, hrow, ht2⟩
  rw [readL_all] at hrow
  have HROW := hide hrow
  have HSG := hide (hsg.still ht2)
  have HT2 := hide (hta.same ht2)
  obtain ⟨sb, hsb⟩ : ∃ sb, sb = w1.heap.size := ⟨_, rfl⟩
  have HSB : Hid (w.heap.size ≤ sb) := by show _ ≤ _; rw [hsb]; exact HT1.out.size
  have HOWN : Hid (∀ k ∈ v.ownBlock, k < w2.heap.size → k ∉ sfoot sb (.slice none 0 0)) := fun k hk _ hm => by
    have := (HROW.out.lt k hk).1
    simp [sfoot, Value.ownBlock] at hm this
    omega
  rw [← hsb] at HSG
  rw [← hsb]
  clear hsg hta hrow ht2 hsb
  go_wp2_with fail
  refine (find_any w2 base d sb _ file n [] HSG.out v f.bytes HROW.out.bytes HOWN.out (by simp [flat]; omega)).mono ?_
  rintro e w3 ⟨rfl, xs, sv, hscan, hseg, ht3, hft⟩
  have hsc : Scan n f.bytes xs := hscan
  obtain ⟨hch, hwh⟩ := hsc.whole
  have hfl := flat_len xs
  have hlf : (flat xs).length ≤ f.bytes.length := by have := congrArg List.length hwh; rw [List.length_append] at this; omega
  have htw : Turn [] w w3 := HT2.out.trans ht3 (fun k hk => .inr (by simp [sfoot, Value.ownBlock] at hk; have := HSB.out; omega))
  have hfoot : ∀ k ∈ sfoot sb sv, w.heap.size ≤ k := fun k hk => by
    rcases hft k hk with h | h
    · simp [sfoot, Value.ownBlock] at h; have := HSB.out; omega
    · exact Nat.le_trans HT2.out.size h
  have hboth : Both w3 base d F A sb sv file n (pls 0 (-1) xs) := ⟨H.out.kept htw (by simp), hseg, fun k hk hm => by have := hfoot k hk; have := H.out.lt k hm; omega⟩
  have HBO := hide hboth
  have HSC := hide hsc
  have HTW := hide htw
  have HFT := hide hfoot
  clear hscan hseg ht3 hft hsc hch hwh htw hfoot hboth
  by_cases hls : f.bytes.length = (flat xs).length
  · go_wp2_with fail
    refine (size_any w3 base d sb sv file n _ HBO.out.seg (by rw [pls_len]; omega) (by rw [sizeP_pls]; omega)).mono ?_
    rintro e w4 ⟨rfl, ht4⟩
    rw [sizeP_pls]
    have HT4 := hide ht4
    have HLS := hide hls
    clear ht4 hls
    have h0 : ((f.bytes.length : Int) - ((flat xs).length : Int)) = 0 := by have := HLS.out; omega
    go_wp2
    refine bodyPost_ret (v := .tuple #[.pointer (some ⟨sb, 0, none⟩), .int .i64 0, .nilIface]) (by simp [results, Tryz.results84]) rfl ⟨xs, HSC.out, .inl ⟨HLS.out, sb, sv, rfl, HBO.out.still HT4.out, HTW.out.same HT4.out, HFT.out⟩⟩
  · have hlt : (flat xs).length < f.bytes.length := by omega
    have HLT := hide hlt
    have h0 : ¬ ((f.bytes.length : Int) - ((flat xs).length : Int)) = 0 := by omega
    clear hls hlt
    go_wp2_with fail
    refine (size_any w3 base d sb sv file n _ HBO.out.seg (by rw [pls_len]; omega) (by rw [sizeP_pls]; omega)).mono ?_
    rintro e w4 ⟨rfl, ht4⟩
    rw [sizeP_pls]
    have HB4 := hide (HBO.out.still ht4)
    have HT4 := hide (HTW.out.same ht4)
    clear ht4
    go_wp2_with fail
    refine (size_any w4 base d sb sv file n _ HB4.out.seg (by rw [pls_len]; omega) (by rw [sizeP_pls]; omega)).mono ?_
    rintro e w5 ⟨rfl, ht5⟩
    rw [sizeP_pls]
    have HB5 := hide (HB4.out.still ht5)
    have HT5 := hide (HT4.out.same ht5)
    clear ht5
    obtain ⟨mref, ms, hp⟩ := HB5.out.disk
    go_wp2_with fail
    refine (Dk.cut_any hp file HFL.out (flat xs).length).mono ?_
    rintro e w6 ⟨rfl, F', hd6, ht6, hf6⟩
    obtain ⟨c, hc⟩ : ∃ c, c = (A.cut file.data.toList (flat xs).length).1 := ⟨_, rfl⟩
    have HC := hide hc
    rw [← hc]
    have HD6 := hide hd6
    have HT6 := hide ht6
    have HF6 := hide hf6
    clear hc hd6 ht6 hf6 hp
    by_cases hc0 : c = 0
    · have hr : errR c = .nilIface := by rw [hc0]; rfl
      rw [hr]
      have HC0 := hide hc0
      clear hr hc0
      go_wp2
      refine bodyPost_ret (v := .tuple #[.pointer (some ⟨sb, 0, none⟩), .int .i64 ((f.bytes.length - (flat xs).length : Nat) : Int), .nilIface]) ?_ rfl ⟨xs, HSC.out, .inr (.inr ⟨HLT.out, HC.out.symm.trans HC0.out, F', sb, sv, rfl, ⟨HD6.out, HB5.out.seg.kept HT6.out HB5.out.sep, fun k hk hm => ?_⟩, (HT5.out.mono (by simp)).same HT6.out, fun k hk => (HF6.out k hk).imp_right (Nat.le_trans HT5.out.size), HFT.out⟩)⟩
      · have e : ((f.bytes.length - (flat xs).length : Nat) : Int) = (f.bytes.length : Int) - ((flat xs).length : Int) := by omega
        simp [results, Tryz.results84, e]
      · rcases HF6.out k hm with h | h
        · exact HB5.out.sep k hk h
        · have := (HB5.out.seg.lt k hk).2; omega
    · have hr : errR c = .iface 62 (.int .i64 c) := by unfold errR; rw [if_neg hc0]; rfl
      rw [hr]
      have HR := hide hr
      have HC0 := hide hc0
      clear hr hc0
      go_wp2
      refine bodyPost_ret (v := .tuple #[.pointer none, .int .i64 0, errR c]) (by rw [HR.out]; simp [results, Tryz.results84]) rfl ⟨xs, HSC.out, .inr (.inl ⟨HLT.out, fun e => HC0.out (HC.out.trans e), by rw [← HC.out], F', HD6.out, (HT5.out.mono (by simp)).same HT6.out, fun k hk => (HF6.out k hk).imp_right (Nat.le_trans HT5.out.size)⟩)⟩
end Go.Proofs.YtmdmdbobbepogaaGreatDoor.Sg

/- sort.Search over a segment's places; (*segment.Segment).first. -/
namespace Go.Proofs.YtmdmdbobbepogaaGreatDoor.Sg
open Go.RowKit Go.Maps
set_option maxRecDepth 100000
set_option linter.unusedSimpArgs false
set_option linter.unusedVariables false
attribute [local go_sem] Oper.semAt_some

/-- Where the places begin that are so. -/
def Least (n : Nat) (f : Nat → Bool) (m : Nat) : Prop := m ≤ n ∧ (∀ i, i < m → f i = false) ∧ ∀ i, m ≤ i → i < n → f i = true

set_option maxHeartbeats 4000000 in
theorem search_any (w : World) (p1 p2 : Nat) (n : Nat) (hn : n ≤ 1000000) (f : Nat → Bool) (hm : ∀ i j, i ≤ j → f i = true → f j = true)
    (hc : ∀ wr, Turn [] w wr → ∀ k, k < n → Calls Tryz.prog 136 #[.int .i64 (k : Int), .pointer (some ⟨p1, 0, none⟩), .pointer (some ⟨p2, 0, none⟩)] wr fun e w' => e = .returned (.bool (f k)) ∧ Turn [] wr w') :
    Calls Tryz.prog 135 #[.int .i64 (n : Int), .func (.func 136) #[] #[.pointer (some ⟨p1, 0, none⟩), .pointer (some ⟨p2, 0, none⟩)]] w fun e w' => (∃ m : Nat, e = .returned (.int .i64 m) ∧ Least n f m) ∧ Turn [] w w' := by
  have HC := hide hc
  have HM := hide hm
  clear hc hm
  go_enter Tryz.func135, Tryz.ntmps135
  go_wp2
  go_loopw [5, 6] (fun a b wr => ∃ i j : Nat, i ≤ j ∧ j ≤ n ∧ a = .int .i64 i ∧ b = .int .i64 j ∧ (∀ x, x < i → f x = false) ∧ (∀ x, j ≤ x → x < n → f x = true) ∧ Turn [] w wr) (fun a b _ => (intOf b).toNat - (intOf a).toNat)
  case atStart => exact ⟨0, n, Nat.zero_le _, Nat.le_refl _, rfl, rfl, fun x h => absurd h (Nat.not_lt_zero _), fun x h1 h2 => absurd h2 (by omega), Turn.refl _ _⟩
  case round =>
    obtain ⟨i, j, hij, hjn, rfl, rfl, h1, h2, ht⟩ := hrel
    have H1 := hide h1
    have H2 := hide h2
    have HT := hide ht
    clear h1 h2 ht
    by_cases hlt : i < j
    · obtain ⟨m, hm⟩ : ∃ m, m = (i + j) / 2 := ⟨_, rfl⟩
      have hcast : ((i : Int) + (j : Int)) / 2 = (m : Int) := by omega
      have hm1 : i ≤ m ∧ m < j := by omega
      clear hm
      go_wp2_with fail
      refine (HC.out wr HT.out m (by omega)).mono ?_
      rintro e w1 ⟨rfl, ht1⟩
      have HT1 := hide (HT.out.same ht1)
      clear ht1
      cases hfm : f m with
      | true =>
        have HF := hide hfm
        clear hfm
        go_wp2
        all_goals refine ⟨⟨i, m, hm1.1, by omega, rfl, rfl, H1.out, fun x hx _ => HM.out m x hx HF.out, HT1.out⟩, ?_⟩
        all_goals (simp only [intOf]; omega)
      | false =>
        have HF := hide hfm
        clear hfm
        go_wp2
        all_goals refine ⟨⟨m + 1, j, by omega, hjn, by go_num, rfl, fun x hx => ?_, H2.out, HT1.out⟩, ?_⟩
        · cases hx' : f x with
          | false => rfl
          | true => have := HM.out x m (by omega) hx'; rw [HF.out] at this; cases this
        · simp only [intOf]; omega
    · go_wp2
      go_ret
      obtain rfl : i = j := by omega
      exact ⟨⟨i, rfl, hjn, H1.out, H2.out⟩, HT.out⟩

set_option maxHeartbeats 2000000 in
theorem first1_any (w : World) (base d sb : Nat) (sv : Value) (file : ByteArray) (b0 : Int) (ps : List Pl) (h : SegAt w base d sb sv file b0 ps) (hl : ps.length ≤ 1000000) (p1 p2 g fb : Nat) (hg : ∀ args w, (callFunc g args).run Tryz.prog w = .ok (.enter g args) w)
    (h1 : w.heap[p1]? = some (.cells #[.func (.func g) #[] #[.pointer (some ⟨fb, 0, none⟩)]] 163 (0, 0))) (h2 : w.heap[p2]? = some (.cells #[.pointer (some ⟨sb, 0, none⟩)] 73 (0, 0)))
    (k : Nat) (hk : k < ps.length) (b : Bool) (hq : ∀ Z, Turn [] w Z → Calls Tryz.prog g #[plV ps[k], .pointer (some ⟨fb, 0, none⟩)] Z fun e w' => e = .returned (.bool b) ∧ Turn [] Z w') :
    Calls Tryz.prog 136 #[.int .i64 (k : Int), .pointer (some ⟨p1, 0, none⟩), .pointer (some ⟨p2, 0, none⟩)] w fun e w' => e = .returned (.bool b) ∧ Turn [] w w' := by
  obtain ⟨ga, cap, hsv, -⟩ := grow_pl h.row hk
  subst hsv
  have HS := hide h
  have H1 := hide h1
  have H2 := hide h2
  have HQ := hide hq
  obtain ⟨p, hp⟩ : ∃ p, p = ps[k] := ⟨_, rfl⟩
  rw [← hp] at HQ
  have HP := hide hp
  clear h h1 h2 hq hp
  go_enter Tryz.func136, Tryz.ntmps136
  go_wp2
  refine wp_region_tail 8 (Turn []) (by kernel_rfl) (by kernel_rfl) (by kernel_rfl) (by kernel_rfl) (by kernel_rfl) (Nat.le_of_ble_eq_true rfl) rfl (Turn.refl _) (fun _ _ _ h k => h.same k) ?_
  apply Lo.runx 1 rfl rfl [] (by kernel_rfl) (Turn.refl _)
  apply Exists.intro; apply And.intro
  · intro u w1 hR hF
    clear hF
    refine ⟨rfl, fun a ha K hK => ?_⟩
    have e1 := ha 1
    conv at e1 => rhs; whnf
    clear ha
    have hb := (((Turn.refl [] w).drew).same hR).heap H1.out (by simp)
    have c0 : w1.cell? ⟨p1, 0, none⟩ = some (.func (.func g) #[] #[.pointer (some ⟨fb, 0, none⟩)]) := by rw [cell_of hb]; rfl
    have z1 := lt_of_heap hb
    go_simp
    refine hK _ ?_; rfl
  apply Lo.runx 2 rfl rfl [] (by kernel_rfl) (Turn.refl _)
  apply Exists.intro; apply And.intro
  · intro u w1 hR hF
    clear hF
    refine ⟨rfl, fun a ha K hK => ?_⟩
    have e2 := ha 2
    conv at e2 => rhs; whnf
    clear ha
    have hb := (((Turn.refl [] w).drew).same hR).heap H2.out (by simp)
    have c0 : w1.cell? ⟨p2, 0, none⟩ = some (.pointer (some ⟨sb, 0, none⟩)) := by rw [cell_of hb]; rfl
    have z1 := lt_of_heap hb
    go_simp
    refine hK _ ?_; rfl
  apply Lo.runx 3 rfl rfl [1] (by kernel_rfl) (Turn.refl _)
  apply Exists.intro; apply And.intro
  · intro u w1 hR hF
    obtain ⟨h1, -⟩ := hF
    refine ⟨rfl, fun a ha K hK => ?_⟩
    have e6 := (ha 6).trans h1
    clear ha h1
    go_simp
    refine hK _ ?_; rfl
  apply Lo.runx 4 rfl rfl [2] (by kernel_rfl) (Turn.refl _)
  apply Exists.intro; apply And.intro
  · intro u w1 hR hF
    obtain ⟨h2, -⟩ := hF
    refine ⟨rfl, fun a ha K hK => ?_⟩
    have e7 := (ha 7).trans h2
    clear ha h2
    go_simp
    refine hK _ ?_; rfl
  apply Lo.runx 5 rfl rfl [3] (by kernel_rfl) (Turn.refl _)
  apply Exists.intro; apply And.intro
  · intro u w1 hR hF
    obtain ⟨h3, -⟩ := hF
    refine ⟨rfl, fun a ha K hK => ?_⟩
    have e8 := (ha 8).trans h3
    clear ha h3
    have hs := HS.out.still (((Turn.refl [] w).drew).same hR)
    have c3 := hs.c3
    have z1 := lt_of_heap hs.box
    go_simp
    refine hK _ ?_; rfl
  apply Lo.runx 6 rfl rfl [] (by kernel_rfl) (Turn.refl _)
  apply Exists.intro; apply And.intro
  · intro u w1 hR hF
    clear hF
    refine ⟨rfl, fun a ha K hK => ?_⟩
    have e0 := ha 0
    conv at e0 => rhs; whnf
    clear ha
    go_simp
    refine hK _ ?_; rfl
  refine Lo.runv 7 rfl rfl [4, 5] (.pointer (some ⟨ga, k * 5, none⟩)) (by kernel_rfl) (fun u w1 hR hF => ?_) (Turn.refl _) ?_
  · obtain ⟨h4, h5, -⟩ := hF
    refine ⟨rfl, fun a ha K hK => ?_⟩
    have e9 := (ha 9).trans h4
    have e10 := (ha 10).trans h5
    clear ha h4 h5
    have h10 : (k : Int) < ps.length := by omega
    go_simp
    refine hK _ ?_
    rfl
  refine Lo.runv 8 rfl rfl [6] (plV p) (by kernel_rfl) (fun u w1 hR hF => ?_) (Turn.refl _) ?_
  · obtain ⟨h6, -⟩ := hF
    refine ⟨rfl, fun a ha K hK => ?_⟩
    have e11 := (ha 11).trans h6
    clear ha h6
    have hc : ∀ i, i < 5 → w1.cell? ⟨ga, k * 5 + i, none⟩ = (plC p)[i]? := by
      obtain ⟨g', cap', e, hc, _⟩ := (HS.out.still (((Turn.refl [] w).drew).same hR)).row.at plC_len hk
      simp at e
      obtain ⟨rfl, rfl⟩ := e
      rw [HP.out]; exact hc
    have k0 : w1.cell? ⟨ga, k * 5, none⟩ = some (.int .i64 p.at) := hc 0 (by omega)
    have k1 : w1.cell? ⟨ga, k * 5 + 1, none⟩ = some (.int .i64 p.size) := hc 1 (by omega)
    have k2 : w1.cell? ⟨ga, k * 5 + 2, none⟩ = some (.int .i64 p.sum) := hc 2 (by omega)
    have k3 : w1.cell? ⟨ga, k * 5 + 3, none⟩ = some (.int .i64 p.fin) := hc 3 (by omega)
    have k4 : w1.cell? ⟨ga, k * 5 + 4, none⟩ = some (.int .i64 p.latest) := hc 4 (by omega)
    clear hc
    go_simp
    refine hK _ ?_
    rfl
  refine Lo.done [0, 7] (fun u w1 hRd hSd hF => ?_)
  clear hSd
  obtain ⟨f0, f7, -⟩ := hF
  have d0 : u 0 = _ := f0
  have d7 : u 7 = _ := f7
  clear f0 f7
  simp only [List.take_succ_cons, List.take_zero, List.drop_succ_cons, List.drop_zero, putFrom, Act.put, List.setIfInBounds_toArray, List.set_cons_succ, List.set_cons_zero, Nat.zero_add, Nat.reduceAdd, d0, d7]
  have HT1 := hide (((Turn.refl [] w).drew).same hRd)
  clear d0 d7 hRd
  go_wp2_with fail
  refine (HQ.out _ HT1.out).mono ?_
  rintro e w2 ⟨rfl, ht2⟩
  have HT2 := hide (HT1.out.same ht2)
  clear ht2
  go_wp2
  go_ret
  exact ⟨rfl, HT2.out⟩
set_option maxHeartbeats 2000000 in
theorem first_any (w : World) (base d sb : Nat) (sv : Value) (file : ByteArray) (b0 : Int) (ps : List Pl) (h : SegAt w base d sb sv file b0 ps) (hl : ps.length ≤ 1000000) (g fb : Nat) (hg : ∀ args w, (callFunc g args).run Tryz.prog w = .ok (.enter g args) w) (f : Nat → Bool) (hm : ∀ i j, i ≤ j → f i = true → f j = true)
    (hq : ∀ Z, Turn [] w Z → ∀ (k : Nat) (hk : k < ps.length), Calls Tryz.prog g #[plV ps[k], .pointer (some ⟨fb, 0, none⟩)] Z fun e w' => e = .returned (.bool (f k)) ∧ Turn [] Z w') :
    Calls Tryz.prog 106 #[.pointer (some ⟨sb, 0, none⟩), .func (.func g) #[] #[.pointer (some ⟨fb, 0, none⟩)]] w fun e w' => (∃ m : Nat, e = .returned (.int .i64 m) ∧ Least ps.length f m) ∧ Turn [] w w' := by
  obtain ⟨xa, xc, hsv, hxl, hxm⟩ := h.row.form
  subst hsv
  have HS := hide h
  have HQ := hide hq
  have HM := hide hm
  have c3 := h.c3
  have hsb := lt_of_heap h.box
  clear h hq hm
  have hmf : ∀ (fn : Fn) (first cap : Array Value) (w : World), (Instr.makeFunc fn first cap).run Tryz.prog w = .ok (.func fn first cap) w := fun _ _ _ _ => rfl
  go_enter Tryz.func106, Tryz.ntmps106
  go_wp2_with fail
  have hw2 : Turn [] w ((w.alloc (.cells #[.pointer (some ⟨sb, 0, none⟩)] 73)).alloc (.cells #[.func (.func g) #[] #[.pointer (some ⟨fb, 0, none⟩)]] 163)) := ((Turn.refl [] w).alloc _).alloc _
  have b1 := heap_new (w.alloc (.cells #[.pointer (some ⟨sb, 0, none⟩)] 73)) (.cells #[.func (.func g) #[] #[.pointer (some ⟨fb, 0, none⟩)]] 163)
  have b2 := ((Turn.refl [] _).alloc (.cells #[.func (.func g) #[] #[.pointer (some ⟨fb, 0, none⟩)]] 163)).heap (heap_new w (.cells #[.pointer (some ⟨sb, 0, none⟩)] 73)) (by simp)
  rw [World.size_alloc] at b1
  refine (search_any _ (w.heap.size + 1) w.heap.size ps.length hl f HM.out (fun wr ht k hk => ?_)).mono ?_
  · exact first1_any wr base d sb _ file b0 ps (HS.out.still (hw2.same ht)) hl (w.heap.size + 1) w.heap.size g fb hg (ht.heap b1 (by simp)) (ht.heap b2 (by simp)) k hk (f k) (fun Z hZ => HQ.out Z (hw2.same (ht.same hZ)) k hk)
  rintro e w3 ⟨⟨m, rfl, hmm⟩, ht3⟩
  have HT3 := hide (hw2.same ht3)
  have HMM := hide hmm
  clear ht3 hmm hw2 b1 b2
  go_wp2
  go_ret
  exact ⟨⟨m, rfl, HMM.out⟩, HT3.out⟩
end Go.Proofs.YtmdmdbobbepogaaGreatDoor.Sg

/- (*segment.Segment).batch: the batch of a place; Read's closure. -/
namespace Go.Proofs.YtmdmdbobbepogaaGreatDoor.Sg
open Go.RowKit Go.Maps
set_option maxRecDepth 100000
set_option linter.unusedSimpArgs false
set_option linter.unusedVariables false
attribute [local go_sem] Oper.semAt_some
open Dk (DA DiskAt Parts Did errR errV)

theorem read1_any (w : World) (p : Pl) (fb : Nat) (from' : Int) (hb : w.heap[fb]? = some (.cells #[.int .i64 from'] 3 (0, 0))) :
    Calls Tryz.prog 107 #[plV p, .pointer (some ⟨fb, 0, none⟩)] w fun e w' => e = .returned (.bool (decide (from' < p.fin))) ∧ Turn [] w w' := by
  have c0 : w.cell? ⟨fb, 0, none⟩ = some (.int .i64 from') := by rw [cell_of hb]; rfl
  have hl := lt_of_heap hb
  rw [show plV p = .agg #[.int .i64 p.at, .int .i64 p.size, .int .i64 p.sum, .int .i64 p.fin, .int .i64 p.latest] from rfl]
  clear hb
  go_enter Tryz.func107, Tryz.ntmps107
  go_wp2
  go_ret
  exact ⟨rfl, (Turn.refl [] w).alloc _⟩
theorem enter_of {P : Program} {f : FuncId} {fn : Func} (hf : P.funcs[f]? = some fn) (hname : (fn.name == "runtime.NumGoroutine") = false) (hb : fn.body.isSome = true) (args : Array Value) (w : World) : (callFunc f args).run P w = .ok (.enter f args) w := by
  have h1 : fn.name ≠ "runtime.NumGoroutine" := by simpa using hname
  obtain ⟨c, hc⟩ := Option.isSome_iff_exists.1 hb
  simp [callFunc, hf, h1, hc]
theorem enter_read1 (args : Array Value) (w : World) : (callFunc 107 args).run Tryz.prog w = .ok (.enter 107 args) w :=
  enter_of Tryz.func107 (by kernel_rfl) (by kernel_rfl) args w

theorem _root_.Go.Proofs.YtmdmdbobbepogaaGreatDoor.RecsAt.not_small {w : World} {v : Value} {rs : List Bt.Rec} (h : RecsAt w v rs) (h0 : rs ≠ []) {k : Nat} {cs : Array Value} {t : TypeId} {fr : Nat × Nat} (hk : w.heap[k]? = some (.cells cs t fr)) (hs : cs.size ≤ 5) : k ∉ v.ownBlock := by
  obtain ⟨a, c, rfl, h1, h2, h3, h4⟩ := h
  obtain ⟨-, p, rfl, hc⟩ := h4 0 (List.length_pos_iff.2 h0)
  intro hm
  simp [Value.ownBlock] at hm
  subst hm
  have h5 := hc 5 _ rfl
  have h6 : ∃ u, cs[p.off + 5]? = some u := ⟨_, by simpa [Addr.add, World.cell?, hk] using h5⟩
  obtain ⟨u, h6⟩ := h6
  obtain ⟨h7, -⟩ := Array.getElem?_eq_some_iff.1 h6
  omega

set_option maxHeartbeats 4000000 in
theorem batch_any1 (w : World) (base d : Nat) (F : List Nat) (A : DA) (sb : Nat) (sv : Value) (file : ByteArray) (b0 : Int) (ps : List Pl) (h : Both w base d F A sb sv file b0 ps) (hfs : file.size ≤ maxLen) (f : Dk.FA) (hf : A.file file.data.toList = some f)
    (p : Pl) (x : Bt.Bat) (hx : Bt.encErr x = 0) (hrd : Dk.readL f.bytes p.at p.size = Bt.encB x) (hsm : p.sum = Cr.sum (Bt.encB x)) (hps : p.size ≤ 1099511627776) :
    Calls Tryz.prog 108 #[.pointer (some ⟨sb, 0, none⟩), plV p] w fun e w' => ∃ rv, e = .returned (.tuple #[.agg #[.int .i64 x.base, .int .i64 x.fin, rv], .nilIface]) ∧ RecsAt w' rv x.recs ∧ Turn [] w w' ∧ (x.recs ≠ [] → ∀ k ∈ rv.ownBlock, w.heap.size ≤ k) := by
  have HB := hide h
  have HF := hide hf
  have HX := hide hx
  have HRD := hide hrd
  have HSM := hide hsm
  have hen : (Bt.encB x).length ≤ 6000 := by have := (Bt.encErr_ok hx).2; rw [Bt.encB_len]; exact this
  have hsb := lt_of_heap h.seg.box
  rw [show plV p = .agg #[.int .i64 p.at, .int .i64 p.size, .int .i64 p.sum, .int .i64 p.fin, .int .i64 p.latest] from rfl]
  clear h hf hx hrd hsm
  go_enter Tryz.func108, Tryz.ntmps108
  go_wp2
  obtain ⟨w0, hw0⟩ : ∃ w0, w0 = (w.alloc (.cells #[.int .i64 p.at, .int .i64 p.size, .int .i64 p.sum, .int .i64 p.fin, .int .i64 p.latest] 108)).alloc (.cells #[.int .i64 0, .int .i64 0, .slice none 0 0] 76) := ⟨_, rfl⟩
  rw [← hw0]
  have hP : w0.heap[w.heap.size]? = some (.cells #[.int .i64 p.at, .int .i64 p.size, .int .i64 p.sum, .int .i64 p.fin, .int .i64 p.latest] 108 (0, 0)) := by
    rw [hw0]; exact ((Turn.refl [] _).alloc _).heap (heap_new w _) (by simp)
  have hR0 : w0.heap[w.heap.size + 1]? = some (.cells #[.int .i64 0, .int .i64 0, .slice none 0 0] 76 (0, 0)) := by
    rw [hw0]
    have := heap_new (w.alloc (.cells #[.int .i64 p.at, .int .i64 p.size, .int .i64 p.sum, .int .i64 p.fin, .int .i64 p.latest] 108)) (.cells #[.int .i64 0, .int .i64 0, .slice none 0 0] 76)
    rwa [World.size_alloc] at this
  have HT0 : Hid (Turn [] w w0) := by show Turn _ _ _; rw [hw0]; exact ((Turn.refl [] w).alloc _).alloc _
  have HP := hide hP
  have HR0 := hide hR0
  clear hw0 hP hR0
  refine wp_region_tail 12 (Turn []) (by kernel_rfl) (by kernel_rfl) (by kernel_rfl) (by kernel_rfl) (by kernel_rfl) (Nat.le_of_ble_eq_true rfl) rfl (Turn.refl _) (fun _ _ _ h k => h.same k) ?_
  apply Lo.runx 1 rfl rfl [] (by kernel_rfl) (Turn.refl _)
  apply Exists.intro; apply And.intro
  · intro u w1 hR hF
    clear hF
    refine ⟨rfl, fun a ha K hK => ?_⟩
    have e0 := ha 0
    conv at e0 => rhs; whnf
    clear ha
    go_simp
    refine hK _ ?_; rfl
  apply Lo.runx 2 rfl rfl [0] (by kernel_rfl) (Turn.refl _)
  apply Exists.intro; apply And.intro
  · intro u w1 hR hF
    obtain ⟨h0, -⟩ := hF
    refine ⟨rfl, fun a ha K hK => ?_⟩
    have e10 := (ha 10).trans h0
    clear ha h0
    go_simp
    refine hK _ ?_; rfl
  apply Lo.runx 3 rfl rfl [1] (by kernel_rfl) (Turn.refl _)
  apply Exists.intro; apply And.intro
  · intro u w1 hR hF
    obtain ⟨h1, -⟩ := hF
    refine ⟨rfl, fun a ha K hK => ?_⟩
    have e11 := (ha 11).trans h1
    clear ha h1
    go_simp
    refine hK _ ?_; rfl
  apply Lo.runx 4 rfl rfl [2] (by kernel_rfl) (Turn.refl _)
  apply Exists.intro; apply And.intro
  · intro u w1 hR hF
    obtain ⟨h2, -⟩ := hF
    refine ⟨rfl, fun a ha K hK => ?_⟩
    have e12 := (ha 12).trans h2
    clear ha h2
    have hS := HB.out.seg.still (HT0.out.same (((Turn.refl [] _).drew).same hR))
    have c0 := hS.c0
    have z1 := lt_of_heap hS.box
    go_simp
    refine hK _ ?_; rfl
  apply Lo.runx 5 rfl rfl [] (by kernel_rfl) (Turn.refl _)
  apply Exists.intro; apply And.intro
  · intro u w1 hR hF
    clear hF
    refine ⟨rfl, fun a ha K hK => ?_⟩
    have e0 := ha 0
    conv at e0 => rhs; whnf
    clear ha
    go_simp
    refine hK _ ?_; rfl
  apply Lo.runx 6 rfl rfl [4] (by kernel_rfl) (Turn.refl _)
  apply Exists.intro; apply And.intro
  · intro u w1 hR hF
    obtain ⟨h4, -⟩ := hF
    refine ⟨rfl, fun a ha K hK => ?_⟩
    have e14 := (ha 14).trans h4
    clear ha h4
    go_simp
    refine hK _ ?_; rfl
  apply Lo.runx 7 rfl rfl [5] (by kernel_rfl) (Turn.refl _)
  apply Exists.intro; apply And.intro
  · intro u w1 hR hF
    obtain ⟨h5, -⟩ := hF
    refine ⟨rfl, fun a ha K hK => ?_⟩
    have e15 := (ha 15).trans h5
    clear ha h5
    go_simp
    refine hK _ ?_; rfl
  apply Lo.runx 8 rfl rfl [6] (by kernel_rfl) (Turn.refl _)
  apply Exists.intro; apply And.intro
  · intro u w1 hR hF
    obtain ⟨h6, -⟩ := hF
    refine ⟨rfl, fun a ha K hK => ?_⟩
    have e16 := (ha 16).trans h6
    clear ha h6
    have hS := HB.out.seg.still (HT0.out.same (((Turn.refl [] _).drew).same hR))
    have c1 := hS.c1
    have z1 := lt_of_heap hS.box
    go_simp
    refine hK _ ?_; rfl
  apply Lo.runx 9 rfl rfl [] (by kernel_rfl) (Turn.refl _)
  apply Exists.intro; apply And.intro
  · intro u w1 hR hF
    clear hF
    refine ⟨rfl, fun a ha K hK => ?_⟩
    have e3 := ha 3
    conv at e3 => rhs; whnf
    clear ha
    go_simp
    refine hK _ ?_; rfl
  apply Lo.runx 10 rfl rfl [8] (by kernel_rfl) (Turn.refl _)
  apply Exists.intro; apply And.intro
  · intro u w1 hR hF
    obtain ⟨h8, -⟩ := hF
    refine ⟨rfl, fun a ha K hK => ?_⟩
    have e18 := (ha 18).trans h8
    clear ha h8
    have hb := (((Turn.refl [] _).drew).same hR).heap HP.out (by simp)
    have c0 : w1.cell? ⟨w.heap.size, 0, none⟩ = some (.int .i64 p.at) := by rw [cell_of hb]; rfl
    have z1 := lt_of_heap hb
    go_simp
    refine hK _ ?_; rfl
  apply Lo.runx 11 rfl rfl [] (by kernel_rfl) (Turn.refl _)
  apply Exists.intro; apply And.intro
  · intro u w1 hR hF
    clear hF
    refine ⟨rfl, fun a ha K hK => ?_⟩
    have e3 := ha 3
    conv at e3 => rhs; whnf
    clear ha
    go_simp
    refine hK _ ?_; rfl
  apply Lo.runx 12 rfl rfl [10] (by kernel_rfl) (Turn.refl _)
  apply Exists.intro; apply And.intro
  · intro u w1 hR hF
    obtain ⟨h10, -⟩ := hF
    refine ⟨rfl, fun a ha K hK => ?_⟩
    have e20 := (ha 20).trans h10
    clear ha h10
    have hb := (((Turn.refl [] _).drew).same hR).heap HP.out (by simp)
    have c0 : w1.cell? ⟨w.heap.size, 1, none⟩ = some (.int .i64 p.size) := by rw [cell_of hb]; rfl
    have z1 := lt_of_heap hb
    go_simp
    refine hK _ ?_; rfl
  refine Lo.done [3, 7, 9, 11] (fun u w1 hRd hSd hF => ?_)
  clear hSd
  obtain ⟨f3, f7, f9, f11, -⟩ := hF
  have d3 : u 3 = _ := f3
  have d7 : u 7 = _ := f7
  have d9 : u 9 = _ := f9
  have d11 : u 11 = _ := f11
  clear f3 f7 f9 f11
  simp only [List.take_succ_cons, List.take_zero, List.drop_succ_cons, List.drop_zero, putFrom, Act.put, List.setIfInBounds_toArray, List.set_cons_succ, List.set_cons_zero, Nat.zero_add, Nat.reduceAdd, d3, d7, d9, d11]
  have HT1 := hide (HT0.out.same (((Turn.refl [] _).drew).same hRd))
  have HP1 := hide ((((Turn.refl [] _).drew).same hRd).heap HP.out (by simp))
  have HR1 := hide ((((Turn.refl [] _).drew).same hRd).heap HR0.out (by simp))
  clear d3 d7 d9 d11 hRd
  go_wp2_with fail
  refine (read_file (HB.out.disk.kept HT1.out (by simp)) file hfs HF.out p.at p.size (by omega)).mono ?_
  rintro e w2 ⟨v, rfl, hrow, ht2⟩
  rw [HRD.out] at hrow
  obtain ⟨ba, bc, hbv, hblc, hbcm⟩ := hrow.form
  subst hbv
  have HROW := hide hrow
  have HT2 := hide (HT1.out.same ht2)
  have HP2 := hide (ht2.heap HP1.out (by simp))
  have HR2 := hide (ht2.heap HR1.out (by simp))
  clear hrow ht2 hblc hbcm
  have hdec := dec_fresh w2 _ (Bt.encB x) HROW.out.bytes (by omega)
  have hde := dec_enc HX.out []
  rw [List.append_nil] at hde
  rw [hde] at hdec
  have HDEC := hide hdec
  clear hdec hde
  go_wp2_with fail
  refine HDEC.out.mono ?_
  rintro e w3 ⟨rv, rfl, hrec, ht3, hfr⟩
  obtain ⟨ra, rc, hrv, -⟩ := hrec.form
  subst hrv
  have HFR := hide hfr
  clear hfr
  have hen0 : As.errN 0 = .nilIface := rfl
  rw [hen0]
  have HREC := hide hrec
  have HT3 := hide (HT2.out.same ht3)
  have HP3 := hide (ht3.heap HP2.out (by simp))
  have HR3 := hide (ht3.heap HR2.out (by simp))
  have HROW3 := hide (HROW.out.kept ht3 (by simp))
  clear HDEC hrec ht3 hen0
  go_wp2
  obtain ⟨w4, hw4⟩ : ∃ w4, w4 = w3.alloc (.cells #[.int .i64 x.base, .int .i64 x.fin, .slice ra x.recs.length rc] 76) := ⟨_, rfl⟩
  rw [← hw4]
  have h34 : Turn [] w3 w4 := by rw [hw4]; exact (Turn.refl [] w3).alloc _
  have HX4 : Hid (w4.heap[w3.heap.size]? = some (.cells #[.int .i64 x.base, .int .i64 x.fin, .slice ra x.recs.length rc] 76 (0, 0))) := by show _ = _; rw [hw4]; exact heap_new w3 _
  have HREC4 := hide (HREC.out.still h34)
  have HT4 := hide (HT3.out.same h34)
  have HP4 := hide (h34.heap HP3.out (by simp))
  have HR4 := hide (h34.heap HR3.out (by simp))
  have HROW4 := hide (HROW3.out.kept h34 (by simp))
  clear h34 hw4
  refine wp_region_loose (Turn []) (by kernel_rfl) (by kernel_rfl) (by kernel_rfl) (by kernel_rfl) rfl (Turn.refl _) (fun _ _ _ h k => h.same k) ?_
  apply Lo.runx 1 rfl rfl [] (by kernel_rfl) (Turn.refl _)
  apply Exists.intro; apply And.intro
  · intro u w1 hR hF
    clear hF
    refine ⟨rfl, fun a ha K hK => ?_⟩
    have e9 := ha 9
    conv at e9 => rhs; whnf
    clear ha
    go_simp
    refine hK _ ?_; rfl
  apply Lo.runx 2 rfl rfl [0] (by kernel_rfl) (Turn.refl _)
  apply Exists.intro; apply And.intro
  · intro u w1 hR hF
    obtain ⟨h0, -⟩ := hF
    refine ⟨rfl, fun a ha K hK => ?_⟩
    have e29 := (ha 29).trans h0
    clear ha h0
    go_simp
    refine hK _ ?_; rfl
  apply Lo.runx 3 rfl rfl [1] (by kernel_rfl) (Turn.refl _)
  apply Exists.intro; apply And.intro
  · intro u w1 hR hF
    obtain ⟨h1, -⟩ := hF
    refine ⟨rfl, fun a ha K hK => ?_⟩
    have e30 := (ha 30).trans h1
    clear ha h1
    go_simp
    refine hK _ ?_; rfl
  apply Lo.runx 4 rfl rfl [2] (by kernel_rfl) (Turn.refl _)
  apply Exists.intro; apply And.intro
  · intro u w1 hR hF
    obtain ⟨h2, -⟩ := hF
    refine ⟨.inl ⟨false, h2, rfl⟩, fun a ha K hK => ?_⟩
    have e6 := ha 6
    conv at e6 => rhs; whnf
    clear ha h2
    go_simp
    refine hK _ ?_; rfl
  refine Lo.run 5 rfl rfl [2, 3] (fun y _ => y = .int .i64 (Cr.sum (Bt.encB x) : Nat)) (by kernel_rfl) (fun x w w' h hR => ?_) (fun _ _ h => h) (fun u w1 hR hF => ?_) ?_
  · exact h
  · obtain ⟨h2, h3, -⟩ := hF
    refine ⟨.inl ⟨false, h2, rfl⟩, fun a ha K hK => ?_⟩
    have e32 := (ha 32).trans h3
    clear ha h2 h3
    go_simp
    refine (sum_any _ _ (Bt.encB x) (HROW4.out.kept (((Turn.refl [] _).drew).same hR) (by simp)).cells (by omega)).mono ?_
    rintro e w5 ⟨rfl, rfl⟩
    exact hK _ _ rfl (Turn.refl _ _)
  apply Lo.runx 6 rfl rfl [2] (by kernel_rfl) (Turn.refl _)
  apply Exists.intro; apply And.intro
  · intro u w1 hR hF
    obtain ⟨h2, -⟩ := hF
    refine ⟨.inl ⟨false, h2, rfl⟩, fun a ha K hK => ?_⟩
    have e3 := ha 3
    conv at e3 => rhs; whnf
    clear ha h2
    go_simp
    refine hK _ ?_; rfl
  apply Lo.runx 7 rfl rfl [2, 5] (by kernel_rfl) (Turn.refl _)
  apply Exists.intro; apply And.intro
  · intro u w1 hR hF
    obtain ⟨h2, h5, -⟩ := hF
    refine ⟨.inl ⟨false, h2, rfl⟩, fun a ha K hK => ?_⟩
    have e34 := (ha 34).trans h5
    clear ha h2 h5
    have hb := (((Turn.refl [] _).drew).same hR).heap HP4.out (by simp)
    have c0 : w1.cell? ⟨w.heap.size, 2, none⟩ = some (.int .i64 p.sum) := by rw [cell_of hb]; rfl
    have z1 := lt_of_heap hb
    go_simp
    refine hK _ ?_; rfl
  refine Lo.runv 8 rfl rfl [2, 4, 6] (.bool false) (by kernel_rfl) (fun u w1 hR hF => ?_) (Turn.refl _) ?_
  · obtain ⟨h2, h4, h6, -⟩ := hF
    refine ⟨.inl ⟨false, h2, rfl⟩, fun a ha K hK => ?_⟩
    have e33 : a.tmps.getD 33 undef = u 4 := ha 33
    have e35 := (ha 35).trans h6
    have h4 := (show (fun y _ => y = .int .i64 (Cr.sum (Bt.encB x) : Nat)) (u 4) w1 from h4)
    dsimp only at h4
    clear ha h2 h6
    rw [h4] at e33
    have hsm : (p.sum : Int) = (Cr.sum (Bt.encB x) : Nat) := by rw [HSM.out]
    go_simp
    refine hK _ ?_
    rfl
  refine Lo.runv 9 rfl rfl [2, 7] (.bool false) (by kernel_rfl) (fun u w1 hR hF => ?_) (Turn.refl _) ?_
  · obtain ⟨h2, h7, -⟩ := hF
    refine ⟨rfl, fun a ha K hK => ?_⟩
    have e31 := (ha 31).trans h2
    have e36 := (ha 36).trans h7
    clear ha h2 h7
    go_simp
    refine hK _ ?_
    rfl
  refine Lo.done [8] (fun u w1 hRd hSd hF => ?_)
  clear hSd
  obtain ⟨f8, -⟩ := hF
  have d8 : u 8 = _ := f8
  clear f8
  simp only [putFrom, Act.put, List.setIfInBounds_toArray, List.set_cons_succ, List.set_cons_zero, Nat.zero_add, Nat.reduceAdd, d8]
  have HT5 := hide (HT4.out.same (((Turn.refl [] _).drew).same hRd))
  have HX5 := hide ((((Turn.refl [] _).drew).same hRd).heap HX4.out (by simp))
  have HR5 := hide ((((Turn.refl [] _).drew).same hRd).heap HR4.out (by simp))
  have HREC5 := hide (HREC4.out.still (((Turn.refl [] _).drew).same hRd))
  clear d8 hRd
  have y0 : w1.cell? ⟨w.heap.size + 1, 0, none⟩ = some (.int .i64 0) := by simpa using cell_of HR5.out 0
  have y1 : w1.cell? ⟨w.heap.size + 1, 1, none⟩ = some (.int .i64 0) := by simpa using cell_of HR5.out 1
  have y2 : w1.cell? ⟨w.heap.size + 1, 2, none⟩ = some (.slice none 0 0) := by simpa using cell_of HR5.out 2
  have q0 : w1.frozen? ⟨w.heap.size + 1, 0, none⟩ = false := frozen_of HR5.out 0
  have q1 : w1.frozen? ⟨w.heap.size + 1, 1, none⟩ = false := frozen_of HR5.out 1
  have q2 : w1.frozen? ⟨w.heap.size + 1, 2, none⟩ = false := frozen_of HR5.out 2
  have k0 : w1.cell? ⟨w3.heap.size, 0, none⟩ = some (.int .i64 x.base) := by simpa using cell_of HX5.out 0
  have k1 : w1.cell? ⟨w3.heap.size, 1, none⟩ = some (.int .i64 x.fin) := by simpa using cell_of HX5.out 1
  have k2 : w1.cell? ⟨w3.heap.size, 2, none⟩ = some (.slice ra x.recs.length rc) := by simpa using cell_of HX5.out 2
  have z3 := lt_of_heap HX5.out
  have z4 := lt_of_heap HR5.out
  go_wp2
  have hy := heap_set (heap_set (heap_set HR5.out 0 (.int .i64 x.base)) 1 (.int .i64 x.fin)) 2 (.slice ra x.recs.length rc)
  have hld := load_bat (by simpa using hy)
  have ht : Turn [w.heap.size + 1] w1 (((w1.setCell ⟨w.heap.size + 1, 0, none⟩ (.int .i64 x.base)).setCell ⟨w.heap.size + 1, 1, none⟩ (.int .i64 x.fin)).setCell ⟨w.heap.size + 1, 2, none⟩ (.slice ra x.recs.length rc)) :=
    (((Turn.refl _ _).setCell (.inl (by simp)) _).setCell (.inl (by simp)) _).setCell (.inl (by simp)) _
  refine bodyPost_ret (v := .tuple #[.agg #[.int .i64 x.base, .int .i64 x.fin, .slice ra x.recs.length rc], .nilIface]) (by simp [results, Tryz.results108, asAddr, hld, Result.andThen]) rfl ⟨_, rfl, ?_, HT5.out.trans ht (fun k hk => .inr (by simp at hk; omega)), fun h0 k hk => Nat.le_trans HT2.out.size (HFR.out h0 k hk)⟩
  exact HREC5.out.kept' ht (fun h0 k hk hm => by
    simp only [List.mem_singleton] at hm
    subst hm
    exact HREC5.out.not_small h0 HR5.out (by simp) hk)
end Go.Proofs.YtmdmdbobbepogaaGreatDoor.Sg
