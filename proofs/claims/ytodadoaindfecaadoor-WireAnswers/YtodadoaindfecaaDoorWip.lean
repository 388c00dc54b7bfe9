/- The document's maker: records. -/
import Derived.Test.YtodadoaindfecaaDoorWio
import Derived.Test.YtodadoaindfecaaDoorWih
import Derived.Test.YtodadoaindfecaaDoorPutB
import Derived.Test.YtodadoaindfecaaDoorWii
import Derived.Deep.CutBlock
import Derived.Deep.DeepCutAuto
namespace Go.Proofs.YtodadoaindfecaaDoor.Wi
open Go.RowKit Go.Maps
set_option maxRecDepth 100000
set_option linter.unusedSimpArgs false
set_option linter.unusedVariables false

def clLen : Cl → Nat
  | .ns l => 6 * l.length
  | .tx t _ => 6 + t.length
theorem rStep_len (s : WS) (c : Cl) : (rStep s c).1.length ≤ s.1.length + clLen c := by
  cases c with
  | ns l => exact nums_len s l
  | tx t m =>
    rw [rStep_tx]
    have h1 := pN_len (s.1, 4) t.length
    have h2 := pN_len s t.length
    simp only [List.length_append, clLen]
    split
    · simp only at h1 ⊢; omega
    · omega
theorem rRun_len (s : WS) : ∀ l : List Cl, (rRun s l).1.length ≤ s.1.length + (l.map clLen).sum
  | [] => by simp [rRun]
  | c :: l => by
    have h1 := rStep_len s c
    have h2 := rRun_len (rStep s c) l
    rw [rRun_cons, List.map_cons, List.sum_cons]
    omega
/-- Texts of a size that is read. -/
structure RecSm (r : Bt.Rec) : Prop where
  key : r.key.length ≤ 1048576
  value : r.value.length ≤ 1048576
theorem recCl_len {r : Bt.Rec} (h : RecSm r) : ((recCl r).map clLen).sum ≤ 2100000 := by
  obtain ⟨off, time, keyed, key, gone, value⟩ := r
  have h1 := h.key
  have h2 := h.value
  simp only at h1 h2
  cases keyed <;> cases gone <;> simp [recCl, clLen] <;> omega
theorem plCl_len {r : Bt.Rec} (h : RecSm r) : ((plCl r).map clLen).sum ≤ 2200000 := by
  have := recCl_len h
  simp only [plCl, List.map_cons, List.sum_cons, clLen, List.length_cons, List.length_nil]
  omega
theorem flat_len {α : Type} {f : α → List Cl} {ok : α → Prop} (h : ∀ r, ok r → ((f r).map clLen).sum ≤ 2200000) : ∀ l : List α, (∀ r ∈ l, ok r) → ((l.flatMap f).map clLen).sum ≤ 2200000 * l.length
  | [], _ => by simp
  | r :: l, hl => by
    have h1 := h r (hl r (by simp))
    have h2 := flat_len h l (fun x hx => hl x (by simp [hx]))
    simp only [List.flatMap_cons, List.map_append, List.sum_append, List.length_cons]
    omega
theorem rRun_snoc {α : Type} (f : α → List Cl) (s : WS) {l : List α} {j : Nat} (hj : j < l.length) : rRun s ((l.take (j + 1)).flatMap f) = rRun (rRun s ((l.take j).flatMap f)) (f l[j]) := by
  rw [List.take_succ_eq_append_getElem hj, List.flatMap_append, rRun_app]
  simp

set_option maxHeartbeats 8000000 in
theorem mrecsF_any (w : World) (wb base : Nat) (s0 : Value) (b0 : WS) (h : MkAt mT eI w wb base s0 b0) (hbase : base ≤ w.heap.size) (hwb : base ≤ wb) (rs : List Bt.Rec) (a : Option Addr) (c : Nat) (hrec : RecsAt w (.slice a rs.length c) rs) (hrb : rs ≠ [] → ∀ k ∈ (Value.slice a rs.length c).ownBlock, k < base) (hsm : ∀ r ∈ rs, RecSm r) (hlr : rs.length ≤ 10000) (hl0 : b0.1.length ≤ 2000000) :
    Calls Tryd.prog 43 #[.pointer (some ⟨wb, 0, none⟩), .slice a rs.length c, .bool false] w fun e w' => e = .returned (.tuple #[]) ∧ ∃ sv', MkTo mT eI w w' wb base s0 sv' (rRun b0 (.ns [(rs.length : Int)] :: rs.flatMap recCl)) := by
  obtain ⟨a', c', ea, hlc, hcm, hn0, hp⟩ := hrec.form
  simp only [Value.slice.injEq, true_and] at ea
  obtain ⟨rfl, rfl⟩ := ea
  have hmx : maxLen = 9223372036854775807 := by simp [maxLen]
  rw [hmx] at hcm
  have hlt := h.lt
  have recsAt : ∀ wi si bi, MkTo mT eI w wi wb base s0 si bi → RecsAt wi (.slice a rs.length c) rs := fun wi si bi hg =>
    hrec.kept' hg.2.1 (fun h0 k hk hm => by
      have h1 := hrb h0 k hk
      rcases List.mem_cons.1 hm with rfl | hm
      · omega
      · have := (hlt.2 k (by simpa using hm)).1; omega)
  have RECS := hide recsAt
  have HM := hide h
  have HSM := hide hsm
  clear h hrec recsAt hrb hsm hn0 hlt
  go_enter Tryd.func43, Tryd.ntmps43
  go_wp2_with fail
  refine (mnum_new _ wb base s0 b0 HM.out hbase [(rs.length : Int)] (by rfl) (by rfl) (by rfl) (by simp) (by omega)).mono ?_
  rintro e wz ⟨rfl, sz, hto⟩
  have HTZ := hide hto
  clear hto
  have hlz : (nums b0 [(rs.length : Int)]).1.length ≤ b0.1.length + 6 := nums_len b0 [(rs.length : Int)]
  obtain ⟨bz, hbz⟩ : ∃ b, b = nums b0 [(rs.length : Int)] := ⟨_, rfl⟩
  rw [← hbz] at HTZ hlz
  have HBZ := hide hbz
  clear hbz
  go_wp2
  go_loopw [15] (fun iv wr => ∃ (j : Nat) (sr : Value), j ≤ rs.length ∧ iv = .int .i64 (j : Int) ∧ MkTo mT eI w wr wb base s0 sr (rRun bz ((rs.take j).flatMap recCl))) (fun iv _ => rs.length - (intOf iv).toNat)
  case atStart => exact ⟨0, _, Nat.zero_le _, rfl, HTZ.out⟩
  case round =>
    obtain ⟨j, sr, hj, rfl, hr⟩ := hrel
    have hszr := hr.2.1.size
    have hrl := rRun_len bz ((rs.take j).flatMap recCl)
    have hrl2 := flat_len (f := recCl) (fun r h => Nat.le_trans (recCl_len h) (by omega)) (rs.take j) (fun r hr => HSM.out r (List.mem_of_mem_take hr))
    have hrl3 : (rs.take j).length ≤ j := List.length_take_le _ _
    by_cases hlt : j < rs.length
    · have hlt1 : (j : Int) < rs.length := by omega
      obtain ⟨p, rfl⟩ := hp j hlt
      obtain ⟨g0, g1, g2, g3, g4, g5⟩ := (RECS.out _ _ _ hr).six hlt
      have hsn := rRun_snoc recCl bz hlt
      have hrs := HSM.out rs[j] (List.getElem_mem _)
      obtain ⟨r, hrr⟩ : ∃ r, r = rs[j] := ⟨_, rfl⟩
      rw [← hrr] at g0 g1 g2 g3 g4 g5 hsn hrs
      obtain ⟨b0', ht⟩ : ∃ t, t = rRun bz ((rs.take j).flatMap recCl) := ⟨_, rfl⟩
      rw [← ht] at hsn hr hrl
      have hl0' : b0'.1.length ≤ 30000000000 := by omega
      have HR := hide hr
      have HSN := hide hsn
      clear hrr ht hr hsn hrl hrl2 hrl3
      obtain ⟨roff, rtime, keyed, key, gone, value⟩ := r
      have hkl := hrs.key
      have hvl := hrs.value
      simp only at g0 g1 g2 g3 g4 g5 hkl hvl
      clear hrs
      obtain ⟨wa, hwa⟩ : ∃ wa, wa = wr.alloc (.cells #[.int .i64 roff, .int .i64 rtime, .bool keyed, .string ⟨key.toArray⟩, .bool gone, .string ⟨value.toArray⟩] 133) := ⟨_, rfl⟩
      have hta : Turn [] wr wa := by rw [hwa]; exact (Turn.refl [] wr).alloc _
      have hbx : wa.heap[wr.heap.size]? = some (.cells #[.int .i64 roff, .int .i64 rtime, .bool keyed, .string ⟨key.toArray⟩, .bool gone, .string ⟨value.toArray⟩] 133 (0, 0)) := by rw [hwa]; exact heap_new wr _
      have hla := HR.out.1.lt
      have box2 : ∀ wi si bi, MkTo mT eI wa wi wb base sr si bi → wr.heap.size < wi.heap.size ∧ wi.cell? ⟨wr.heap.size, 0, none⟩ = some (.int .i64 roff) ∧ wi.cell? ⟨wr.heap.size, 1, none⟩ = some (.int .i64 rtime) ∧ wi.cell? ⟨wr.heap.size, 2, none⟩ = some (.bool keyed) ∧ wi.cell? ⟨wr.heap.size, 3, none⟩ = some (.string ⟨key.toArray⟩) ∧ wi.cell? ⟨wr.heap.size, 4, none⟩ = some (.bool gone) ∧ wi.cell? ⟨wr.heap.size, 5, none⟩ = some (.string ⟨value.toArray⟩) := fun wi si bi h2 => by
        have hb := h2.box hbx (by omega) (fun x hx => by have := (hla.2 x hx).2; omega)
        exact ⟨lt_of_heap hb, box_cells (r := ⟨roff, rtime, keyed, key, gone, value⟩) hb⟩
      have BOX2 := hide box2
      have HT0 := hide (HR.out.1.still hta).self
      have HTA := hide hta
      have HWA := hide hwa
      have hsa := hta.size
      obtain ⟨s0', hs0'⟩ : ∃ s, s = sr := ⟨_, rfl⟩
      clear box2 hbx hla hwa hta
      go_upto_region 4 with fail
      rw [show wr.alloc (.cells #[.int .i64 roff, .int .i64 rtime, .bool keyed, .string ⟨key.toArray⟩, .bool gone, .string ⟨value.toArray⟩] 133) = wa from HWA.out.symm]
      clear g0 g1 g2 g3 g4 g5
      obtain ⟨y0, y1, y2, y3, y4, y5, y6⟩ := BOX2.out _ _ _ HT0.out
      cases keyed with
      | true =>
        cases gone with
        | true =>
          go_wp2_with fail
          refine (mnum_new _ wb base sr b0' HT0.out.1 (by omega) [rtime] (by rfl) (by rfl) (by rfl) (by simp) (by omega)).mono ?_
          rintro e wz1 ⟨rfl, s1, hto⟩
          have HT1 := hide (HT0.out.trans hto)
          clear hto
          have hl1 := (show (nums b0' [rtime]).1.length ≤ b0'.1.length + 6 from nums_len b0' [rtime])
          obtain ⟨b1, hb⟩ : ∃ b, b = nums b0' [rtime] := ⟨_, rfl⟩
          rw [← hb] at HT1 hl1
          have HB1 := hide hb
          clear hb
          have hsz1 := HT1.out.2.1.size
          clear y0 y1 y2 y3 y4 y5 y6
          obtain ⟨y0, y1, y2, y3, y4, y5, y6⟩ := BOX2.out _ _ _ HT1.out
          go_wp2_with fail
          refine (mtru_any _ wb base s1 b1 HT1.out.1 (by omega) true (by omega)).mono ?_
          rintro e wz2 ⟨rfl, s2, hto⟩
          have HT2 := hide (HT1.out.trans hto)
          clear hto
          have hl2 := (show (nums b1 [tr true]).1.length ≤ b1.1.length + 6 from nums_len b1 [tr true])
          obtain ⟨b2, hb⟩ : ∃ b, b = nums b1 [tr true] := ⟨_, rfl⟩
          rw [← hb] at HT2 hl2
          have HB2 := hide hb
          clear hb
          have hsz2 := HT2.out.2.1.size
          clear y0 y1 y2 y3 y4 y5 y6
          obtain ⟨y0, y1, y2, y3, y4, y5, y6⟩ := BOX2.out _ _ _ HT2.out
          go_wp2_with fail
          refine (mtext_any _ wb base s2 b2 HT2.out.1 (by omega) key 60 (by omega) hkl (by omega)).mono ?_
          rintro e wz3 ⟨rfl, s3, hto⟩
          have HT3 := hide (HT2.out.trans hto)
          clear hto
          have hl3 := rStep_len b2 (.tx key 60)
          obtain ⟨b3, hb⟩ : ∃ b, b = rStep b2 (.tx key 60) := ⟨_, rfl⟩
          rw [← hb] at HT3 hl3
          have HB3 := hide hb
          clear hb
          have hsz3 := HT3.out.2.1.size
          clear y0 y1 y2 y3 y4 y5 y6
          obtain ⟨y0, y1, y2, y3, y4, y5, y6⟩ := BOX2.out _ _ _ HT3.out
          simp only [clLen] at hl3
          go_wp2_with fail
          refine (mtru_any _ wb base s3 b3 HT3.out.1 (by omega) true (by omega)).mono ?_
          rintro e wz4 ⟨rfl, s4, hto⟩
          have HT4 := hide (HT3.out.trans hto)
          clear hto
          have hl4 := (show (nums b3 [tr true]).1.length ≤ b3.1.length + 6 from nums_len b3 [tr true])
          obtain ⟨b4, hb⟩ : ∃ b, b = nums b3 [tr true] := ⟨_, rfl⟩
          rw [← hb] at HT4 hl4
          have HB4 := hide hb
          clear hb
          have hsz4 := HT4.out.2.1.size
          clear y0 y1 y2 y3 y4 y5 y6
          obtain ⟨y0, y1, y2, y3, y4, y5, y6⟩ := BOX2.out _ _ _ HT4.out
          have HT := hide (HR.out.trans (MkTo.pre HTA.out HT4.out))
          clear HT4
          go_wp2
          refine ⟨⟨j + 1, _, by omega, by go_num, by rw [HSN.out, show rRun b0' (recCl ⟨roff, rtime, true, key, true, value⟩) = b4 by rw [HB4.out, HB3.out, HB2.out, HB1.out]; rfl]; exact HT.out⟩, ?_⟩
          simp only [intOf]; omega
        | false =>
          go_wp2_with fail
          refine (mnum_new _ wb base sr b0' HT0.out.1 (by omega) [rtime] (by rfl) (by rfl) (by rfl) (by simp) (by omega)).mono ?_
          rintro e wz1 ⟨rfl, s1, hto⟩
          have HT1 := hide (HT0.out.trans hto)
          clear hto
          have hl1 := (show (nums b0' [rtime]).1.length ≤ b0'.1.length + 6 from nums_len b0' [rtime])
          obtain ⟨b1, hb⟩ : ∃ b, b = nums b0' [rtime] := ⟨_, rfl⟩
          rw [← hb] at HT1 hl1
          have HB1 := hide hb
          clear hb
          have hsz1 := HT1.out.2.1.size
          clear y0 y1 y2 y3 y4 y5 y6
          obtain ⟨y0, y1, y2, y3, y4, y5, y6⟩ := BOX2.out _ _ _ HT1.out
          go_wp2_with fail
          refine (mtru_any _ wb base s1 b1 HT1.out.1 (by omega) true (by omega)).mono ?_
          rintro e wz2 ⟨rfl, s2, hto⟩
          have HT2 := hide (HT1.out.trans hto)
          clear hto
          have hl2 := (show (nums b1 [tr true]).1.length ≤ b1.1.length + 6 from nums_len b1 [tr true])
          obtain ⟨b2, hb⟩ : ∃ b, b = nums b1 [tr true] := ⟨_, rfl⟩
          rw [← hb] at HT2 hl2
          have HB2 := hide hb
          clear hb
          have hsz2 := HT2.out.2.1.size
          clear y0 y1 y2 y3 y4 y5 y6
          obtain ⟨y0, y1, y2, y3, y4, y5, y6⟩ := BOX2.out _ _ _ HT2.out
          go_wp2_with fail
          refine (mtext_any _ wb base s2 b2 HT2.out.1 (by omega) key 60 (by omega) hkl (by omega)).mono ?_
          rintro e wz3 ⟨rfl, s3, hto⟩
          have HT3 := hide (HT2.out.trans hto)
          clear hto
          have hl3 := rStep_len b2 (.tx key 60)
          obtain ⟨b3, hb⟩ : ∃ b, b = rStep b2 (.tx key 60) := ⟨_, rfl⟩
          rw [← hb] at HT3 hl3
          have HB3 := hide hb
          clear hb
          have hsz3 := HT3.out.2.1.size
          clear y0 y1 y2 y3 y4 y5 y6
          obtain ⟨y0, y1, y2, y3, y4, y5, y6⟩ := BOX2.out _ _ _ HT3.out
          simp only [clLen] at hl3
          go_wp2_with fail
          refine (mtru_any _ wb base s3 b3 HT3.out.1 (by omega) false (by omega)).mono ?_
          rintro e wz4 ⟨rfl, s4, hto⟩
          have HT4 := hide (HT3.out.trans hto)
          clear hto
          have hl4 := (show (nums b3 [tr false]).1.length ≤ b3.1.length + 6 from nums_len b3 [tr false])
          obtain ⟨b4, hb⟩ : ∃ b, b = nums b3 [tr false] := ⟨_, rfl⟩
          rw [← hb] at HT4 hl4
          have HB4 := hide hb
          clear hb
          have hsz4 := HT4.out.2.1.size
          clear y0 y1 y2 y3 y4 y5 y6
          obtain ⟨y0, y1, y2, y3, y4, y5, y6⟩ := BOX2.out _ _ _ HT4.out
          go_wp2_with fail
          refine (mtext_any _ wb base s4 b4 HT4.out.1 (by omega) value 500 (by omega) hvl (by omega)).mono ?_
          rintro e wz5 ⟨rfl, s5, hto⟩
          have HT5 := hide (HT4.out.trans hto)
          clear hto
          have hl5 := rStep_len b4 (.tx value 500)
          obtain ⟨b5, hb⟩ : ∃ b, b = rStep b4 (.tx value 500) := ⟨_, rfl⟩
          rw [← hb] at HT5 hl5
          have HB5 := hide hb
          clear hb
          have hsz5 := HT5.out.2.1.size
          clear y0 y1 y2 y3 y4 y5 y6
          obtain ⟨y0, y1, y2, y3, y4, y5, y6⟩ := BOX2.out _ _ _ HT5.out
          simp only [clLen] at hl5
          have HT := hide (HR.out.trans (MkTo.pre HTA.out HT5.out))
          clear HT5
          go_wp2
          refine ⟨⟨j + 1, _, by omega, by go_num, by rw [HSN.out, show rRun b0' (recCl ⟨roff, rtime, true, key, false, value⟩) = b5 by rw [HB5.out, HB4.out, HB3.out, HB2.out, HB1.out]; rfl]; exact HT.out⟩, ?_⟩
          simp only [intOf]; omega
      | false =>
        cases gone with
        | true =>
          go_wp2_with fail
          refine (mnum_new _ wb base sr b0' HT0.out.1 (by omega) [rtime] (by rfl) (by rfl) (by rfl) (by simp) (by omega)).mono ?_
          rintro e wz1 ⟨rfl, s1, hto⟩
          have HT1 := hide (HT0.out.trans hto)
          clear hto
          have hl1 := (show (nums b0' [rtime]).1.length ≤ b0'.1.length + 6 from nums_len b0' [rtime])
          obtain ⟨b1, hb⟩ : ∃ b, b = nums b0' [rtime] := ⟨_, rfl⟩
          rw [← hb] at HT1 hl1
          have HB1 := hide hb
          clear hb
          have hsz1 := HT1.out.2.1.size
          clear y0 y1 y2 y3 y4 y5 y6
          obtain ⟨y0, y1, y2, y3, y4, y5, y6⟩ := BOX2.out _ _ _ HT1.out
          go_wp2_with fail
          refine (mtru_any _ wb base s1 b1 HT1.out.1 (by omega) false (by omega)).mono ?_
          rintro e wz2 ⟨rfl, s2, hto⟩
          have HT2 := hide (HT1.out.trans hto)
          clear hto
          have hl2 := (show (nums b1 [tr false]).1.length ≤ b1.1.length + 6 from nums_len b1 [tr false])
          obtain ⟨b2, hb⟩ : ∃ b, b = nums b1 [tr false] := ⟨_, rfl⟩
          rw [← hb] at HT2 hl2
          have HB2 := hide hb
          clear hb
          have hsz2 := HT2.out.2.1.size
          clear y0 y1 y2 y3 y4 y5 y6
          obtain ⟨y0, y1, y2, y3, y4, y5, y6⟩ := BOX2.out _ _ _ HT2.out
          go_wp2_with fail
          refine (mtru_any _ wb base s2 b2 HT2.out.1 (by omega) true (by omega)).mono ?_
          rintro e wz3 ⟨rfl, s3, hto⟩
          have HT3 := hide (HT2.out.trans hto)
          clear hto
          have hl3 := (show (nums b2 [tr true]).1.length ≤ b2.1.length + 6 from nums_len b2 [tr true])
          obtain ⟨b3, hb⟩ : ∃ b, b = nums b2 [tr true] := ⟨_, rfl⟩
          rw [← hb] at HT3 hl3
          have HB3 := hide hb
          clear hb
          have hsz3 := HT3.out.2.1.size
          clear y0 y1 y2 y3 y4 y5 y6
          obtain ⟨y0, y1, y2, y3, y4, y5, y6⟩ := BOX2.out _ _ _ HT3.out
          have HT := hide (HR.out.trans (MkTo.pre HTA.out HT3.out))
          clear HT3
          go_wp2
          refine ⟨⟨j + 1, _, by omega, by go_num, by rw [HSN.out, show rRun b0' (recCl ⟨roff, rtime, false, key, true, value⟩) = b3 by rw [HB3.out, HB2.out, HB1.out]; rfl]; exact HT.out⟩, ?_⟩
          simp only [intOf]; omega
        | false =>
          go_wp2_with fail
          refine (mnum_new _ wb base sr b0' HT0.out.1 (by omega) [rtime] (by rfl) (by rfl) (by rfl) (by simp) (by omega)).mono ?_
          rintro e wz1 ⟨rfl, s1, hto⟩
          have HT1 := hide (HT0.out.trans hto)
          clear hto
          have hl1 := (show (nums b0' [rtime]).1.length ≤ b0'.1.length + 6 from nums_len b0' [rtime])
          obtain ⟨b1, hb⟩ : ∃ b, b = nums b0' [rtime] := ⟨_, rfl⟩
          rw [← hb] at HT1 hl1
          have HB1 := hide hb
          clear hb
          have hsz1 := HT1.out.2.1.size
          clear y0 y1 y2 y3 y4 y5 y6
          obtain ⟨y0, y1, y2, y3, y4, y5, y6⟩ := BOX2.out _ _ _ HT1.out
          go_wp2_with fail
          refine (mtru_any _ wb base s1 b1 HT1.out.1 (by omega) false (by omega)).mono ?_
          rintro e wz2 ⟨rfl, s2, hto⟩
          have HT2 := hide (HT1.out.trans hto)
          clear hto
          have hl2 := (show (nums b1 [tr false]).1.length ≤ b1.1.length + 6 from nums_len b1 [tr false])
          obtain ⟨b2, hb⟩ : ∃ b, b = nums b1 [tr false] := ⟨_, rfl⟩
          rw [← hb] at HT2 hl2
          have HB2 := hide hb
          clear hb
          have hsz2 := HT2.out.2.1.size
          clear y0 y1 y2 y3 y4 y5 y6
          obtain ⟨y0, y1, y2, y3, y4, y5, y6⟩ := BOX2.out _ _ _ HT2.out
          go_wp2_with fail
          refine (mtru_any _ wb base s2 b2 HT2.out.1 (by omega) false (by omega)).mono ?_
          rintro e wz3 ⟨rfl, s3, hto⟩
          have HT3 := hide (HT2.out.trans hto)
          clear hto
          have hl3 := (show (nums b2 [tr false]).1.length ≤ b2.1.length + 6 from nums_len b2 [tr false])
          obtain ⟨b3, hb⟩ : ∃ b, b = nums b2 [tr false] := ⟨_, rfl⟩
          rw [← hb] at HT3 hl3
          have HB3 := hide hb
          clear hb
          have hsz3 := HT3.out.2.1.size
          clear y0 y1 y2 y3 y4 y5 y6
          obtain ⟨y0, y1, y2, y3, y4, y5, y6⟩ := BOX2.out _ _ _ HT3.out
          go_wp2_with fail
          refine (mtext_any _ wb base s3 b3 HT3.out.1 (by omega) value 500 (by omega) hvl (by omega)).mono ?_
          rintro e wz4 ⟨rfl, s4, hto⟩
          have HT4 := hide (HT3.out.trans hto)
          clear hto
          have hl4 := rStep_len b3 (.tx value 500)
          obtain ⟨b4, hb⟩ : ∃ b, b = rStep b3 (.tx value 500) := ⟨_, rfl⟩
          rw [← hb] at HT4 hl4
          have HB4 := hide hb
          clear hb
          have hsz4 := HT4.out.2.1.size
          clear y0 y1 y2 y3 y4 y5 y6
          obtain ⟨y0, y1, y2, y3, y4, y5, y6⟩ := BOX2.out _ _ _ HT4.out
          simp only [clLen] at hl4
          have HT := hide (HR.out.trans (MkTo.pre HTA.out HT4.out))
          clear HT4
          go_wp2
          refine ⟨⟨j + 1, _, by omega, by go_num, by rw [HSN.out, show rRun b0' (recCl ⟨roff, rtime, false, key, false, value⟩) = b4 by rw [HB4.out, HB3.out, HB2.out, HB1.out]; rfl]; exact HT.out⟩, ?_⟩
          simp only [intOf]; omega
    · obtain rfl : j = rs.length := by omega
      have hlt1 : ¬ (rs.length : Int) < rs.length := by omega
      rw [List.take_of_length_le (Nat.le_refl _)] at hr
      have HR := hide hr
      clear hr hrl hrl2
      go_wp2
      go_end0
      refine ⟨rfl, sr, ?_⟩
      rw [rRun_cons]
      have := HR.out
      rw [HBZ.out] at this
      exact this

set_option maxHeartbeats 8000000 in
theorem mrecsT_any (w : World) (wb base : Nat) (s0 : Value) (b0 : WS) (h : MkAt mT eI w wb base s0 b0) (hbase : base ≤ w.heap.size) (hwb : base ≤ wb) (rs : List Bt.Rec) (a : Option Addr) (c : Nat) (hrec : RecsAt w (.slice a rs.length c) rs) (hrb : rs ≠ [] → ∀ k ∈ (Value.slice a rs.length c).ownBlock, k < base) (hsm : ∀ r ∈ rs, RecSm r) (hlr : rs.length ≤ 10000) (hl0 : b0.1.length ≤ 2000000) :
    Calls Tryd.prog 43 #[.pointer (some ⟨wb, 0, none⟩), .slice a rs.length c, .bool true] w fun e w' => e = .returned (.tuple #[]) ∧ ∃ sv', MkTo mT eI w w' wb base s0 sv' (rRun b0 (.ns [(rs.length : Int)] :: rs.flatMap plCl)) := by
  obtain ⟨a', c', ea, hlc, hcm, hn0, hp⟩ := hrec.form
  simp only [Value.slice.injEq, true_and] at ea
  obtain ⟨rfl, rfl⟩ := ea
  have hmx : maxLen = 9223372036854775807 := by simp [maxLen]
  rw [hmx] at hcm
  have hlt := h.lt
  have recsAt : ∀ wi si bi, MkTo mT eI w wi wb base s0 si bi → RecsAt wi (.slice a rs.length c) rs := fun wi si bi hg =>
    hrec.kept' hg.2.1 (fun h0 k hk hm => by
      have h1 := hrb h0 k hk
      rcases List.mem_cons.1 hm with rfl | hm
      · omega
      · have := (hlt.2 k (by simpa using hm)).1; omega)
  have RECS := hide recsAt
  have HM := hide h
  have HSM := hide hsm
  clear h hrec recsAt hrb hsm hn0 hlt
  go_enter Tryd.func43, Tryd.ntmps43
  go_wp2_with fail
  refine (mnum_new _ wb base s0 b0 HM.out hbase [(rs.length : Int)] (by rfl) (by rfl) (by rfl) (by simp) (by omega)).mono ?_
  rintro e wz ⟨rfl, sz, hto⟩
  have HTZ := hide hto
  clear hto
  have hlz : (nums b0 [(rs.length : Int)]).1.length ≤ b0.1.length + 6 := nums_len b0 [(rs.length : Int)]
  obtain ⟨bz, hbz⟩ : ∃ b, b = nums b0 [(rs.length : Int)] := ⟨_, rfl⟩
  rw [← hbz] at HTZ hlz
  have HBZ := hide hbz
  clear hbz
  go_wp2
  go_loopw [15] (fun iv wr => ∃ (j : Nat) (sr : Value), j ≤ rs.length ∧ iv = .int .i64 (j : Int) ∧ MkTo mT eI w wr wb base s0 sr (rRun bz ((rs.take j).flatMap plCl))) (fun iv _ => rs.length - (intOf iv).toNat)
  case atStart => exact ⟨0, _, Nat.zero_le _, rfl, HTZ.out⟩
  case round =>
    obtain ⟨j, sr, hj, rfl, hr⟩ := hrel
    have hszr := hr.2.1.size
    have hrl := rRun_len bz ((rs.take j).flatMap plCl)
    have hrl2 := flat_len (f := plCl) (fun r h => plCl_len h) (rs.take j) (fun r hr => HSM.out r (List.mem_of_mem_take hr))
    have hrl3 : (rs.take j).length ≤ j := List.length_take_le _ _
    by_cases hlt : j < rs.length
    · have hlt1 : (j : Int) < rs.length := by omega
      obtain ⟨p, rfl⟩ := hp j hlt
      obtain ⟨g0, g1, g2, g3, g4, g5⟩ := (RECS.out _ _ _ hr).six hlt
      have hsn := rRun_snoc plCl bz hlt
      have hrs := HSM.out rs[j] (List.getElem_mem _)
      obtain ⟨r, hrr⟩ : ∃ r, r = rs[j] := ⟨_, rfl⟩
      rw [← hrr] at g0 g1 g2 g3 g4 g5 hsn hrs
      obtain ⟨b0', ht⟩ : ∃ t, t = rRun bz ((rs.take j).flatMap plCl) := ⟨_, rfl⟩
      rw [← ht] at hsn hr hrl
      have hl0' : b0'.1.length ≤ 30000000000 := by omega
      have HR := hide hr
      have HSN := hide hsn
      clear hrr ht hr hsn hrl hrl2 hrl3
      obtain ⟨roff, rtime, keyed, key, gone, value⟩ := r
      have hkl := hrs.key
      have hvl := hrs.value
      simp only at g0 g1 g2 g3 g4 g5 hkl hvl
      clear hrs
      obtain ⟨wa, hwa⟩ : ∃ wa, wa = wr.alloc (.cells #[.int .i64 roff, .int .i64 rtime, .bool keyed, .string ⟨key.toArray⟩, .bool gone, .string ⟨value.toArray⟩] 133) := ⟨_, rfl⟩
      have hta : Turn [] wr wa := by rw [hwa]; exact (Turn.refl [] wr).alloc _
      have hbx : wa.heap[wr.heap.size]? = some (.cells #[.int .i64 roff, .int .i64 rtime, .bool keyed, .string ⟨key.toArray⟩, .bool gone, .string ⟨value.toArray⟩] 133 (0, 0)) := by rw [hwa]; exact heap_new wr _
      have hla := HR.out.1.lt
      have box2 : ∀ wi si bi, MkTo mT eI wa wi wb base sr si bi → wr.heap.size < wi.heap.size ∧ wi.cell? ⟨wr.heap.size, 0, none⟩ = some (.int .i64 roff) ∧ wi.cell? ⟨wr.heap.size, 1, none⟩ = some (.int .i64 rtime) ∧ wi.cell? ⟨wr.heap.size, 2, none⟩ = some (.bool keyed) ∧ wi.cell? ⟨wr.heap.size, 3, none⟩ = some (.string ⟨key.toArray⟩) ∧ wi.cell? ⟨wr.heap.size, 4, none⟩ = some (.bool gone) ∧ wi.cell? ⟨wr.heap.size, 5, none⟩ = some (.string ⟨value.toArray⟩) := fun wi si bi h2 => by
        have hb := h2.box hbx (by omega) (fun x hx => by have := (hla.2 x hx).2; omega)
        exact ⟨lt_of_heap hb, box_cells (r := ⟨roff, rtime, keyed, key, gone, value⟩) hb⟩
      have BOX2 := hide box2
      have HT0 := hide (HR.out.1.still hta).self
      have HTA := hide hta
      have HWA := hide hwa
      have hsa := hta.size
      obtain ⟨s0', hs0'⟩ : ∃ s, s = sr := ⟨_, rfl⟩
      clear box2 hbx hla hwa hta
      go_upto_region 4 with fail
      rw [show wr.alloc (.cells #[.int .i64 roff, .int .i64 rtime, .bool keyed, .string ⟨key.toArray⟩, .bool gone, .string ⟨value.toArray⟩] 133) = wa from HWA.out.symm]
      clear g0 g1 g2 g3 g4 g5
      obtain ⟨y0, y1, y2, y3, y4, y5, y6⟩ := BOX2.out _ _ _ HT0.out
      cases keyed with
      | true =>
        cases gone with
        | true =>
          go_wp2_with fail
          refine (mnum_new _ wb base sr b0' HT0.out.1 (by omega) [roff] (by rfl) (by rfl) (by rfl) (by simp) (by omega)).mono ?_
          rintro e wz1 ⟨rfl, s1, hto⟩
          have HT1 := hide (HT0.out.trans hto)
          clear hto
          have hl1 := (show (nums b0' [roff]).1.length ≤ b0'.1.length + 6 from nums_len b0' [roff])
          obtain ⟨b1, hb⟩ : ∃ b, b = nums b0' [roff] := ⟨_, rfl⟩
          rw [← hb] at HT1 hl1
          have HB1 := hide hb
          clear hb
          have hsz1 := HT1.out.2.1.size
          clear y0 y1 y2 y3 y4 y5 y6
          obtain ⟨y0, y1, y2, y3, y4, y5, y6⟩ := BOX2.out _ _ _ HT1.out
          go_wp2_with fail
          refine (mnum_new _ wb base s1 b1 HT1.out.1 (by omega) [rtime] (by rfl) (by rfl) (by rfl) (by simp) (by omega)).mono ?_
          rintro e wz2 ⟨rfl, s2, hto⟩
          have HT2 := hide (HT1.out.trans hto)
          clear hto
          have hl2 := (show (nums b1 [rtime]).1.length ≤ b1.1.length + 6 from nums_len b1 [rtime])
          obtain ⟨b2, hb⟩ : ∃ b, b = nums b1 [rtime] := ⟨_, rfl⟩
          rw [← hb] at HT2 hl2
          have HB2 := hide hb
          clear hb
          have hsz2 := HT2.out.2.1.size
          clear y0 y1 y2 y3 y4 y5 y6
          obtain ⟨y0, y1, y2, y3, y4, y5, y6⟩ := BOX2.out _ _ _ HT2.out
          go_wp2_with fail
          refine (mtru_any _ wb base s2 b2 HT2.out.1 (by omega) true (by omega)).mono ?_
          rintro e wz3 ⟨rfl, s3, hto⟩
          have HT3 := hide (HT2.out.trans hto)
          clear hto
          have hl3 := (show (nums b2 [tr true]).1.length ≤ b2.1.length + 6 from nums_len b2 [tr true])
          obtain ⟨b3, hb⟩ : ∃ b, b = nums b2 [tr true] := ⟨_, rfl⟩
          rw [← hb] at HT3 hl3
          have HB3 := hide hb
          clear hb
          have hsz3 := HT3.out.2.1.size
          clear y0 y1 y2 y3 y4 y5 y6
          obtain ⟨y0, y1, y2, y3, y4, y5, y6⟩ := BOX2.out _ _ _ HT3.out
          go_wp2_with fail
          refine (mtext_any _ wb base s3 b3 HT3.out.1 (by omega) key 60 (by omega) hkl (by omega)).mono ?_
          rintro e wz4 ⟨rfl, s4, hto⟩
          have HT4 := hide (HT3.out.trans hto)
          clear hto
          have hl4 := rStep_len b3 (.tx key 60)
          obtain ⟨b4, hb⟩ : ∃ b, b = rStep b3 (.tx key 60) := ⟨_, rfl⟩
          rw [← hb] at HT4 hl4
          have HB4 := hide hb
          clear hb
          have hsz4 := HT4.out.2.1.size
          clear y0 y1 y2 y3 y4 y5 y6
          obtain ⟨y0, y1, y2, y3, y4, y5, y6⟩ := BOX2.out _ _ _ HT4.out
          simp only [clLen] at hl4
          go_wp2_with fail
          refine (mtru_any _ wb base s4 b4 HT4.out.1 (by omega) true (by omega)).mono ?_
          rintro e wz5 ⟨rfl, s5, hto⟩
          have HT5 := hide (HT4.out.trans hto)
          clear hto
          have hl5 := (show (nums b4 [tr true]).1.length ≤ b4.1.length + 6 from nums_len b4 [tr true])
          obtain ⟨b5, hb⟩ : ∃ b, b = nums b4 [tr true] := ⟨_, rfl⟩
          rw [← hb] at HT5 hl5
          have HB5 := hide hb
          clear hb
          have hsz5 := HT5.out.2.1.size
          clear y0 y1 y2 y3 y4 y5 y6
          obtain ⟨y0, y1, y2, y3, y4, y5, y6⟩ := BOX2.out _ _ _ HT5.out
          have HT := hide (HR.out.trans (MkTo.pre HTA.out HT5.out))
          clear HT5
          go_wp2
          refine ⟨⟨j + 1, _, by omega, by go_num, by rw [HSN.out, show rRun b0' (plCl ⟨roff, rtime, true, key, true, value⟩) = b5 by rw [HB5.out, HB4.out, HB3.out, HB2.out, HB1.out]; rfl]; exact HT.out⟩, ?_⟩
          simp only [intOf]; omega
        | false =>
          go_wp2_with fail
          refine (mnum_new _ wb base sr b0' HT0.out.1 (by omega) [roff] (by rfl) (by rfl) (by rfl) (by simp) (by omega)).mono ?_
          rintro e wz1 ⟨rfl, s1, hto⟩
          have HT1 := hide (HT0.out.trans hto)
          clear hto
          have hl1 := (show (nums b0' [roff]).1.length ≤ b0'.1.length + 6 from nums_len b0' [roff])
          obtain ⟨b1, hb⟩ : ∃ b, b = nums b0' [roff] := ⟨_, rfl⟩
          rw [← hb] at HT1 hl1
          have HB1 := hide hb
          clear hb
          have hsz1 := HT1.out.2.1.size
          clear y0 y1 y2 y3 y4 y5 y6
          obtain ⟨y0, y1, y2, y3, y4, y5, y6⟩ := BOX2.out _ _ _ HT1.out
          go_wp2_with fail
          refine (mnum_new _ wb base s1 b1 HT1.out.1 (by omega) [rtime] (by rfl) (by rfl) (by rfl) (by simp) (by omega)).mono ?_
          rintro e wz2 ⟨rfl, s2, hto⟩
          have HT2 := hide (HT1.out.trans hto)
          clear hto
          have hl2 := (show (nums b1 [rtime]).1.length ≤ b1.1.length + 6 from nums_len b1 [rtime])
          obtain ⟨b2, hb⟩ : ∃ b, b = nums b1 [rtime] := ⟨_, rfl⟩
          rw [← hb] at HT2 hl2
          have HB2 := hide hb
          clear hb
          have hsz2 := HT2.out.2.1.size
          clear y0 y1 y2 y3 y4 y5 y6
          obtain ⟨y0, y1, y2, y3, y4, y5, y6⟩ := BOX2.out _ _ _ HT2.out
          go_wp2_with fail
          refine (mtru_any _ wb base s2 b2 HT2.out.1 (by omega) true (by omega)).mono ?_
          rintro e wz3 ⟨rfl, s3, hto⟩
          have HT3 := hide (HT2.out.trans hto)
          clear hto
          have hl3 := (show (nums b2 [tr true]).1.length ≤ b2.1.length + 6 from nums_len b2 [tr true])
          obtain ⟨b3, hb⟩ : ∃ b, b = nums b2 [tr true] := ⟨_, rfl⟩
          rw [← hb] at HT3 hl3
          have HB3 := hide hb
          clear hb
          have hsz3 := HT3.out.2.1.size
          clear y0 y1 y2 y3 y4 y5 y6
          obtain ⟨y0, y1, y2, y3, y4, y5, y6⟩ := BOX2.out _ _ _ HT3.out
          go_wp2_with fail
          refine (mtext_any _ wb base s3 b3 HT3.out.1 (by omega) key 60 (by omega) hkl (by omega)).mono ?_
          rintro e wz4 ⟨rfl, s4, hto⟩
          have HT4 := hide (HT3.out.trans hto)
          clear hto
          have hl4 := rStep_len b3 (.tx key 60)
          obtain ⟨b4, hb⟩ : ∃ b, b = rStep b3 (.tx key 60) := ⟨_, rfl⟩
          rw [← hb] at HT4 hl4
          have HB4 := hide hb
          clear hb
          have hsz4 := HT4.out.2.1.size
          clear y0 y1 y2 y3 y4 y5 y6
          obtain ⟨y0, y1, y2, y3, y4, y5, y6⟩ := BOX2.out _ _ _ HT4.out
          simp only [clLen] at hl4
          go_wp2_with fail
          refine (mtru_any _ wb base s4 b4 HT4.out.1 (by omega) false (by omega)).mono ?_
          rintro e wz5 ⟨rfl, s5, hto⟩
          have HT5 := hide (HT4.out.trans hto)
          clear hto
          have hl5 := (show (nums b4 [tr false]).1.length ≤ b4.1.length + 6 from nums_len b4 [tr false])
          obtain ⟨b5, hb⟩ : ∃ b, b = nums b4 [tr false] := ⟨_, rfl⟩
          rw [← hb] at HT5 hl5
          have HB5 := hide hb
          clear hb
          have hsz5 := HT5.out.2.1.size
          clear y0 y1 y2 y3 y4 y5 y6
          obtain ⟨y0, y1, y2, y3, y4, y5, y6⟩ := BOX2.out _ _ _ HT5.out
          go_wp2_with fail
          refine (mtext_any _ wb base s5 b5 HT5.out.1 (by omega) value 500 (by omega) hvl (by omega)).mono ?_
          rintro e wz6 ⟨rfl, s6, hto⟩
          have HT6 := hide (HT5.out.trans hto)
          clear hto
          have hl6 := rStep_len b5 (.tx value 500)
          obtain ⟨b6, hb⟩ : ∃ b, b = rStep b5 (.tx value 500) := ⟨_, rfl⟩
          rw [← hb] at HT6 hl6
          have HB6 := hide hb
          clear hb
          have hsz6 := HT6.out.2.1.size
          clear y0 y1 y2 y3 y4 y5 y6
          obtain ⟨y0, y1, y2, y3, y4, y5, y6⟩ := BOX2.out _ _ _ HT6.out
          simp only [clLen] at hl6
          have HT := hide (HR.out.trans (MkTo.pre HTA.out HT6.out))
          clear HT6
          go_wp2
          refine ⟨⟨j + 1, _, by omega, by go_num, by rw [HSN.out, show rRun b0' (plCl ⟨roff, rtime, true, key, false, value⟩) = b6 by rw [HB6.out, HB5.out, HB4.out, HB3.out, HB2.out, HB1.out]; rfl]; exact HT.out⟩, ?_⟩
          simp only [intOf]; omega
      | false =>
        cases gone with
        | true =>
          go_wp2_with fail
          refine (mnum_new _ wb base sr b0' HT0.out.1 (by omega) [roff] (by rfl) (by rfl) (by rfl) (by simp) (by omega)).mono ?_
          rintro e wz1 ⟨rfl, s1, hto⟩
          have HT1 := hide (HT0.out.trans hto)
          clear hto
          have hl1 := (show (nums b0' [roff]).1.length ≤ b0'.1.length + 6 from nums_len b0' [roff])
          obtain ⟨b1, hb⟩ : ∃ b, b = nums b0' [roff] := ⟨_, rfl⟩
          rw [← hb] at HT1 hl1
          have HB1 := hide hb
          clear hb
          have hsz1 := HT1.out.2.1.size
          clear y0 y1 y2 y3 y4 y5 y6
          obtain ⟨y0, y1, y2, y3, y4, y5, y6⟩ := BOX2.out _ _ _ HT1.out
          go_wp2_with fail
          refine (mnum_new _ wb base s1 b1 HT1.out.1 (by omega) [rtime] (by rfl) (by rfl) (by rfl) (by simp) (by omega)).mono ?_
          rintro e wz2 ⟨rfl, s2, hto⟩
          have HT2 := hide (HT1.out.trans hto)
          clear hto
          have hl2 := (show (nums b1 [rtime]).1.length ≤ b1.1.length + 6 from nums_len b1 [rtime])
          obtain ⟨b2, hb⟩ : ∃ b, b = nums b1 [rtime] := ⟨_, rfl⟩
          rw [← hb] at HT2 hl2
          have HB2 := hide hb
          clear hb
          have hsz2 := HT2.out.2.1.size
          clear y0 y1 y2 y3 y4 y5 y6
          obtain ⟨y0, y1, y2, y3, y4, y5, y6⟩ := BOX2.out _ _ _ HT2.out
          go_wp2_with fail
          refine (mtru_any _ wb base s2 b2 HT2.out.1 (by omega) false (by omega)).mono ?_
          rintro e wz3 ⟨rfl, s3, hto⟩
          have HT3 := hide (HT2.out.trans hto)
          clear hto
          have hl3 := (show (nums b2 [tr false]).1.length ≤ b2.1.length + 6 from nums_len b2 [tr false])
          obtain ⟨b3, hb⟩ : ∃ b, b = nums b2 [tr false] := ⟨_, rfl⟩
          rw [← hb] at HT3 hl3
          have HB3 := hide hb
          clear hb
          have hsz3 := HT3.out.2.1.size
          clear y0 y1 y2 y3 y4 y5 y6
          obtain ⟨y0, y1, y2, y3, y4, y5, y6⟩ := BOX2.out _ _ _ HT3.out
          go_wp2_with fail
          refine (mtru_any _ wb base s3 b3 HT3.out.1 (by omega) true (by omega)).mono ?_
          rintro e wz4 ⟨rfl, s4, hto⟩
          have HT4 := hide (HT3.out.trans hto)
          clear hto
          have hl4 := (show (nums b3 [tr true]).1.length ≤ b3.1.length + 6 from nums_len b3 [tr true])
          obtain ⟨b4, hb⟩ : ∃ b, b = nums b3 [tr true] := ⟨_, rfl⟩
          rw [← hb] at HT4 hl4
          have HB4 := hide hb
          clear hb
          have hsz4 := HT4.out.2.1.size
          clear y0 y1 y2 y3 y4 y5 y6
          obtain ⟨y0, y1, y2, y3, y4, y5, y6⟩ := BOX2.out _ _ _ HT4.out
          have HT := hide (HR.out.trans (MkTo.pre HTA.out HT4.out))
          clear HT4
          go_wp2
          refine ⟨⟨j + 1, _, by omega, by go_num, by rw [HSN.out, show rRun b0' (plCl ⟨roff, rtime, false, key, true, value⟩) = b4 by rw [HB4.out, HB3.out, HB2.out, HB1.out]; rfl]; exact HT.out⟩, ?_⟩
          simp only [intOf]; omega
        | false =>
          go_wp2_with fail
          refine (mnum_new _ wb base sr b0' HT0.out.1 (by omega) [roff] (by rfl) (by rfl) (by rfl) (by simp) (by omega)).mono ?_
          rintro e wz1 ⟨rfl, s1, hto⟩
          have HT1 := hide (HT0.out.trans hto)
          clear hto
          have hl1 := (show (nums b0' [roff]).1.length ≤ b0'.1.length + 6 from nums_len b0' [roff])
          obtain ⟨b1, hb⟩ : ∃ b, b = nums b0' [roff] := ⟨_, rfl⟩
          rw [← hb] at HT1 hl1
          have HB1 := hide hb
          clear hb
          have hsz1 := HT1.out.2.1.size
          clear y0 y1 y2 y3 y4 y5 y6
          obtain ⟨y0, y1, y2, y3, y4, y5, y6⟩ := BOX2.out _ _ _ HT1.out
          go_wp2_with fail
          refine (mnum_new _ wb base s1 b1 HT1.out.1 (by omega) [rtime] (by rfl) (by rfl) (by rfl) (by simp) (by omega)).mono ?_
          rintro e wz2 ⟨rfl, s2, hto⟩
          have HT2 := hide (HT1.out.trans hto)
          clear hto
          have hl2 := (show (nums b1 [rtime]).1.length ≤ b1.1.length + 6 from nums_len b1 [rtime])
          obtain ⟨b2, hb⟩ : ∃ b, b = nums b1 [rtime] := ⟨_, rfl⟩
          rw [← hb] at HT2 hl2
          have HB2 := hide hb
          clear hb
          have hsz2 := HT2.out.2.1.size
          clear y0 y1 y2 y3 y4 y5 y6
          obtain ⟨y0, y1, y2, y3, y4, y5, y6⟩ := BOX2.out _ _ _ HT2.out
          go_wp2_with fail
          refine (mtru_any _ wb base s2 b2 HT2.out.1 (by omega) false (by omega)).mono ?_
          rintro e wz3 ⟨rfl, s3, hto⟩
          have HT3 := hide (HT2.out.trans hto)
          clear hto
          have hl3 := (show (nums b2 [tr false]).1.length ≤ b2.1.length + 6 from nums_len b2 [tr false])
          obtain ⟨b3, hb⟩ : ∃ b, b = nums b2 [tr false] := ⟨_, rfl⟩
          rw [← hb] at HT3 hl3
          have HB3 := hide hb
          clear hb
          have hsz3 := HT3.out.2.1.size
          clear y0 y1 y2 y3 y4 y5 y6
          obtain ⟨y0, y1, y2, y3, y4, y5, y6⟩ := BOX2.out _ _ _ HT3.out
          go_wp2_with fail
          refine (mtru_any _ wb base s3 b3 HT3.out.1 (by omega) false (by omega)).mono ?_
          rintro e wz4 ⟨rfl, s4, hto⟩
          have HT4 := hide (HT3.out.trans hto)
          clear hto
          have hl4 := (show (nums b3 [tr false]).1.length ≤ b3.1.length + 6 from nums_len b3 [tr false])
          obtain ⟨b4, hb⟩ : ∃ b, b = nums b3 [tr false] := ⟨_, rfl⟩
          rw [← hb] at HT4 hl4
          have HB4 := hide hb
          clear hb
          have hsz4 := HT4.out.2.1.size
          clear y0 y1 y2 y3 y4 y5 y6
          obtain ⟨y0, y1, y2, y3, y4, y5, y6⟩ := BOX2.out _ _ _ HT4.out
          go_wp2_with fail
          refine (mtext_any _ wb base s4 b4 HT4.out.1 (by omega) value 500 (by omega) hvl (by omega)).mono ?_
          rintro e wz5 ⟨rfl, s5, hto⟩
          have HT5 := hide (HT4.out.trans hto)
          clear hto
          have hl5 := rStep_len b4 (.tx value 500)
          obtain ⟨b5, hb⟩ : ∃ b, b = rStep b4 (.tx value 500) := ⟨_, rfl⟩
          rw [← hb] at HT5 hl5
          have HB5 := hide hb
          clear hb
          have hsz5 := HT5.out.2.1.size
          clear y0 y1 y2 y3 y4 y5 y6
          obtain ⟨y0, y1, y2, y3, y4, y5, y6⟩ := BOX2.out _ _ _ HT5.out
          simp only [clLen] at hl5
          have HT := hide (HR.out.trans (MkTo.pre HTA.out HT5.out))
          clear HT5
          go_wp2
          refine ⟨⟨j + 1, _, by omega, by go_num, by rw [HSN.out, show rRun b0' (plCl ⟨roff, rtime, false, key, false, value⟩) = b5 by rw [HB5.out, HB4.out, HB3.out, HB2.out, HB1.out]; rfl]; exact HT.out⟩, ?_⟩
          simp only [intOf]; omega
    · obtain rfl : j = rs.length := by omega
      have hlt1 : ¬ (rs.length : Int) < rs.length := by omega
      rw [List.take_of_length_le (Nat.le_refl _)] at hr
      have HR := hide hr
      clear hr hrl hrl2
      go_wp2
      go_end0
      refine ⟨rfl, sr, ?_⟩
      rw [rRun_cons]
      have := HR.out
      rw [HBZ.out] at this
      exact this
end Go.Proofs.YtodadoaindfecaaDoor.Wi
