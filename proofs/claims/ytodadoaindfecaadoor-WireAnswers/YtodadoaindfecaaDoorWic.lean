/- Requests and answers, read: what is told by a frame. No program. -/
import Derived.Test.YtodadoaindfecaaDoorWib
namespace Go.Proofs.YtodadoaindfecaaDoor.Wi
open Go.Proofs.YtodadoaindfecaaDoor
set_option linter.unusedSimpArgs false
set_option linter.unusedVariables false

def mkQ (kind corr : Int) (topic : List UInt8) : Req := ⟨kind, corr, topic, 0, 0, 0, 0, 0, 0, 0, false, false, []⟩
def mkA (kind corr err : Int) : Ans := ⟨kind, corr, err, 0, 0, 0, false, [], []⟩
def zQ : Req := mkQ 0 0 []
def zA : Ans := mkA 0 0 0
/-- The program's reading, behind the topic. -/
def tailP (z : Req) (l : List UInt8) : Req :=
  let a := Bt.num l
  let b := Bt.num a.2
  let c := Bt.num b.2
  let d := Bt.num c.2
  let e := Bt.num d.2
  if z.kind = 1 then { z with part := a.1, sure := decide (b.1 = 1), recs := (listP recP c.1 c.2).1 }
  else if z.kind = 2 then { z with part := a.1, offset := b.1, most := c.1, least := d.1, wait := e.1 }
  else if z.kind = 3 then { z with part := a.1, time := b.1 }
  else if z.kind = 4 then { z with part := a.1, offset := b.1 }
  else if z.kind = 5 then { z with parts := a.1, compact := decide (b.1 = 1) } else z
def reqP (l : List UInt8) : Req :=
  let a := Bt.num l
  let b := Bt.num a.2
  let t := if (a.1 : Int) = 7 then ([], b.2) else Bt.text b.2
  tailP (mkQ a.1 b.1 t.1) t.2
/-- The document's. -/
def tailR (z : Req) (t : TS) : Req × Bool :=
  let a := Bt.numR t
  let b := Bt.numR a.2
  let bb := truR a.2
  let c := Bt.numR b.2
  let cc := Bt.numR bb.2
  let d := Bt.numR c.2
  let e := Bt.numR d.2
  if z.kind = 1 then ({ z with part := a.1, sure := bb.1, recs := (listR (recR false) cc.1 cc.2).1 }, (listR (recR false) cc.1 cc.2).2.2)
  else if z.kind = 2 then ({ z with part := a.1, offset := b.1, most := c.1, least := d.1, wait := e.1 }, e.2.2)
  else if z.kind = 3 then ({ z with part := a.1, time := b.1 }, b.2.2)
  else if z.kind = 4 then ({ z with part := a.1, offset := b.1 }, b.2.2)
  else if z.kind = 5 then ({ z with parts := a.1, compact := bb.1 }, bb.2.2) else (z, t.2)
def reqR (l : List UInt8) : Req × Bool :=
  let a := Bt.numR (l, false)
  let b := Bt.numR a.2
  let t := if (a.1 : Int) = 7 then ([], b.2) else Bt.textR 40 b.2
  tailR (mkQ a.1 b.1 t.1) t.2
def atailP (z : Ans) (l : List UInt8) : Ans :=
  let a := Bt.num l
  let b := Bt.num a.2
  let c := Bt.num b.2
  if z.kind = 1 then { z with offset := a.1 }
  else if z.kind = 2 then { z with start := a.1, fin := b.1, recs := (listP plP c.1 c.2).1 }
  else if z.kind = 3 then (if a.1 = 1 then { z with found := true, offset := b.1 } else z)
  else if z.kind = 4 then { z with start := a.1 }
  else if z.kind = 7 then { z with topics := (listP tpP a.1 a.2).1 } else z
def ansP (l : List UInt8) : Ans :=
  let a := Bt.num l
  let b := Bt.num a.2
  let c := Bt.num b.2
  if (c.1 : Int) = 0 then atailP (mkA a.1 b.1 c.1) c.2 else mkA a.1 b.1 c.1
def atailR (z : Ans) (t : TS) : Ans × Bool :=
  let a := Bt.numR t
  let aa := truR t
  let b := Bt.numR a.2
  let bb := Bt.numR aa.2
  let c := Bt.numR b.2
  if z.kind = 1 then ({ z with offset := a.1 }, a.2.2)
  else if z.kind = 2 then ({ z with start := a.1, fin := b.1, recs := (listR (recR true) c.1 c.2).1 }, (listR (recR true) c.1 c.2).2.2)
  else if z.kind = 3 then (if aa.1 then ({ z with found := true, offset := bb.1 }, bb.2.2) else (z, aa.2.2))
  else if z.kind = 4 then ({ z with start := a.1 }, a.2.2)
  else if z.kind = 7 then ({ z with topics := (listR tpR a.1 a.2).1 }, (listR tpR a.1 a.2).2.2) else (z, t.2)
def ansR (l : List UInt8) : Ans × Bool :=
  let a := Bt.numR (l, false)
  let b := Bt.numR a.2
  let c := Bt.numR b.2
  if (c.1 : Int) = 0 then atailR (mkA a.1 b.1 c.1) c.2 else (mkA a.1 b.1 c.1, c.2.2)

/-! ### what is told of a request, of an answer -/
def canQ (x : Req) : Req :=
  let z := mkQ x.kind x.corr (if x.kind = 7 then [] else x.topic)
  if x.kind = 1 then { z with part := x.part, sure := x.sure, recs := x.recs.map canR }
  else if x.kind = 2 then { z with part := x.part, offset := x.offset, most := x.most, least := x.least, wait := x.wait }
  else if x.kind = 3 then { z with part := x.part, time := x.time }
  else if x.kind = 4 then { z with part := x.part, offset := x.offset }
  else if x.kind = 5 then { z with parts := x.parts, compact := x.compact } else z
def canA (x : Ans) : Ans :=
  let z := mkA x.kind x.corr x.err
  if x.err = 0 then
    (if x.kind = 1 then { z with offset := x.offset }
    else if x.kind = 2 then { z with start := x.start, fin := x.fin, recs := x.recs.map canP }
    else if x.kind = 3 then (if x.found then { z with found := true, offset := x.offset } else z)
    else if x.kind = 4 then { z with start := x.start }
    else if x.kind = 7 then { z with topics := x.topics } else z)
  else z

theorem flat2 {α : Type} (f : α → List Cl) (W : α → List UInt8) (h : ∀ x, (f x).flatMap clB = W x) : ∀ xs : List α, (xs.flatMap f).flatMap clB = xs.flatMap W
  | [] => rfl
  | x :: xs => by rw [List.flatMap_cons, List.flatMap_append, h x, flat2 f W h xs, List.flatMap_cons]
theorem ns_B (l : List Int) : clB (.ns l) = l.flatMap (fun n => Nu.put n.toNat) := rfl
theorem tx_B (t : List UInt8) (m : Nat) : clB (.tx t m) = Bt.textB t := rfl
theorem ns_ok {l : List Int} {L : List Cl} (h : ∀ c ∈ L, okC c) (hm : Cl.ns l ∈ L) : ∀ n ∈ l, okN n := h _ hm
theorem tx_ok {t : List UInt8} {m : Nat} {L : List Cl} (h : ∀ c ∈ L, okC c) (hm : Cl.tx t m ∈ L) : t.length ≤ m := h _ hm
theorem okN_len {n : Nat} (h : okN (n : Int)) : okN ((n : Nat) : Int) := h
theorem fits_recs {rs : List Bt.Rec} {L : List Cl} (h : ∀ c ∈ L, okC c) (hs : ∀ c ∈ rs.flatMap recCl, c ∈ L) : ∀ r ∈ rs, RecFits r :=
  fun r hr => recFits_of fun c hc => h c (hs c (List.mem_flatMap.2 ⟨r, hr, hc⟩))
theorem fits_pls {rs : List Bt.Rec} {L : List Cl} (h : ∀ c ∈ L, okC c) (hs : ∀ c ∈ rs.flatMap plCl, c ∈ L) : ∀ r ∈ rs, RecFits r ∧ okN r.off :=
  fun r hr => ⟨recFits_of fun c hc => h c (hs c (List.mem_flatMap.2 ⟨r, hr, List.mem_cons_of_mem _ hc⟩)), h _ (hs _ (List.mem_flatMap.2 ⟨r, hr, List.mem_cons_self⟩)) r.off (by simp)⟩
theorem fits_tps {ts : List Tp} {L : List Cl} (h : ∀ c ∈ L, okC c) (hs : ∀ c ∈ ts.flatMap tpCl, c ∈ L) : ∀ t ∈ ts, t.name.length ≤ 40 ∧ okN t.parts :=
  fun t ht => ⟨h _ (hs _ (List.mem_flatMap.2 ⟨t, ht, (by simp [tpCl] : Cl.tx t.name 40 ∈ tpCl t)⟩)), h _ (hs _ (List.mem_flatMap.2 ⟨t, ht, (by simp [tpCl] : Cl.ns [t.parts, tr t.compact] ∈ tpCl t)⟩)) t.parts (by simp)⟩

/-- A request's bytes tell it. -/
theorem tail_B {x : Req} (h : ∀ c ∈ reqTail x, okC c) (z : Req) (hz : z.kind = x.kind) :
    tailP z ((reqTail x).flatMap clB) = (if x.kind = 1 then { z with part := x.part, sure := x.sure, recs := x.recs.map canR }
      else if x.kind = 2 then { z with part := x.part, offset := x.offset, most := x.most, least := x.least, wait := x.wait }
      else if x.kind = 3 then { z with part := x.part, time := x.time }
      else if x.kind = 4 then { z with part := x.part, offset := x.offset }
      else if x.kind = 5 then { z with parts := x.parts, compact := x.compact } else z) ∧
    tailR z ((reqTail x).flatMap clB, false) = (tailP z ((reqTail x).flatMap clB), false) := by
  unfold reqTail at h ⊢
  unfold tailP tailR
  rw [hz]
  by_cases e1 : x.kind = 1
  · simp only [if_pos e1] at h ⊢
    have k := h (.ns [x.part, tr x.sure, x.recs.length]) (by simp)
    have kp : okN x.part := k _ (by simp)
    have kl : okN (x.recs.length : Int) := k _ (by simp)
    have kr := fits_recs h (rs := x.recs) (fun c hc => List.mem_cons_of_mem _ hc)
    rw [List.flatMap_cons, ns_B, flat2 recCl recW recCl_B]
    simp only [List.flatMap_cons, List.flatMap_nil, List.append_nil, List.append_assoc]
    have hp := listP_B (one := recP) (fun x h l => recP_B h l) recW_ne x.recs kr []
    have hr := listR_B (one := recR false) (fun x h l => recR_B h l) x.recs kr []
    rw [List.append_nil] at hp hr
    simp only [num_ok kp, num_ok (okN_tr _), Bt.num_put (show x.recs.length ≤ 1099511627776 by have := kl.2; omega), numR_ok kp, truR_ok, Bt.numR_put (show x.recs.length ≤ 1099511627776 by have := kl.2; omega), tr_one, toNat_ok kp, Int.toNat_natCast, hp, hr]
    exact ⟨trivial, trivial⟩
  · by_cases e2 : x.kind = 2
    · simp only [if_neg e1, if_pos e2] at h ⊢
      have k := h (.ns [x.part, x.offset, x.most, x.least, x.wait]) (by simp)
      have k1 : okN x.part := k _ (by simp)
      have k2 : okN x.offset := k _ (by simp)
      have k3 : okN x.most := k _ (by simp)
      have k4 : okN x.least := k _ (by simp)
      have k5 : okN x.wait := k _ (by simp)
      rw [List.flatMap_cons, ns_B]
      simp only [List.flatMap_cons, List.flatMap_nil, List.append_assoc]
      simp only [num_ok k1, num_ok k2, num_ok k3, num_ok k4, num_ok k5, numR_ok k1, numR_ok k2, numR_ok k3, numR_ok k4, numR_ok k5, toNat_ok k1, toNat_ok k2, toNat_ok k3, toNat_ok k4, toNat_ok k5]
      exact ⟨trivial, trivial⟩
    · by_cases e3 : x.kind = 3
      · simp only [if_neg e1, if_neg e2, if_pos e3] at h ⊢
        have k := h (.ns [x.part, x.time]) (by simp)
        have k1 : okN x.part := k _ (by simp)
        have k2 : okN x.time := k _ (by simp)
        rw [List.flatMap_cons, ns_B]
        simp only [List.flatMap_cons, List.flatMap_nil, List.append_assoc]
        simp only [num_ok k1, num_ok k2, numR_ok k1, numR_ok k2, toNat_ok k1, toNat_ok k2]
        exact ⟨trivial, trivial⟩
      · by_cases e4 : x.kind = 4
        · simp only [if_neg e1, if_neg e2, if_neg e3, if_pos e4] at h ⊢
          have k := h (.ns [x.part, x.offset]) (by simp)
          have k1 : okN x.part := k _ (by simp)
          have k2 : okN x.offset := k _ (by simp)
          rw [List.flatMap_cons, ns_B]
          simp only [List.flatMap_cons, List.flatMap_nil, List.append_assoc]
          simp only [num_ok k1, num_ok k2, numR_ok k1, numR_ok k2, toNat_ok k1, toNat_ok k2]
          exact ⟨trivial, trivial⟩
        · by_cases e5 : x.kind = 5
          · simp only [if_neg e1, if_neg e2, if_neg e3, if_neg e4, if_pos e5] at h ⊢
            have k := h (.ns [x.parts, tr x.compact]) (by simp)
            have k1 : okN x.parts := k _ (by simp)
            rw [List.flatMap_cons, ns_B]
            simp only [List.flatMap_cons, List.flatMap_nil, List.append_assoc]
            simp only [num_ok k1, num_ok (okN_tr _), numR_ok k1, truR_ok, tr_one, toNat_ok k1]
            exact ⟨trivial, trivial⟩
          · simp only [if_neg e1, if_neg e2, if_neg e3, if_neg e4, if_neg e5]
            exact ⟨trivial, trivial⟩
theorem reqP_B {x : Req} (h : ∀ c ∈ reqCl x, okC c) : reqP ((reqCl x).flatMap clB) = canQ x ∧ reqR ((reqCl x).flatMap clB) = (canQ x, false) := by
  have k := h (.ns [x.kind, x.corr]) (by simp [reqCl])
  have k1 : okN x.kind := k _ (by simp)
  have k2 : okN x.corr := k _ (by simp)
  have kt : ∀ c ∈ reqTail x, okC c := fun c hc => h c (by simp [reqCl, hc])
  unfold reqCl reqP reqR canQ
  rw [List.flatMap_cons, ns_B, List.flatMap_append]
  simp only [List.flatMap_cons, List.flatMap_nil, List.append_nil, List.append_assoc]
  simp only [num_ok k1, num_ok k2, numR_ok k1, numR_ok k2, toNat_ok k1, toNat_ok k2]
  by_cases e : x.kind = 7
  · simp only [if_pos e, List.flatMap_nil, List.nil_append]
    obtain ⟨h1, h2⟩ := tail_B kt (mkQ x.kind x.corr []) rfl
    rw [h2, h1]
    exact ⟨rfl, rfl⟩
  · have kn : x.topic.length ≤ 40 := h (.tx x.topic 40) (by simp [reqCl, e])
    simp only [if_neg e, List.flatMap_cons, List.flatMap_nil, List.append_nil, tx_B]
    rw [Bt.text_put (by omega), Bt.textR_put (by omega) kn]
    obtain ⟨h1, h2⟩ := tail_B kt (mkQ x.kind x.corr x.topic) rfl
    simp only
    rw [h2, h1]
    exact ⟨rfl, rfl⟩
theorem recCl_can (r : Bt.Rec) : recCl (canR r) = recCl r := by
  obtain ⟨off, time, keyed, key, gone, value⟩ := r
  cases keyed <;> cases gone <;> rfl
theorem plCl_can (r : Bt.Rec) : plCl (canP r) = plCl r := by
  obtain ⟨off, time, keyed, key, gone, value⟩ := r
  cases keyed <;> cases gone <;> rfl
theorem flat_can {f : Bt.Rec → List Cl} {c : Bt.Rec → Bt.Rec} (h : ∀ r, f (c r) = f r) : ∀ rs : List Bt.Rec, (rs.map c).flatMap f = rs.flatMap f
  | [] => rfl
  | r :: rs => by rw [List.map_cons, List.flatMap_cons, List.flatMap_cons, h r, flat_can h rs]
theorem canQ_kind (x : Req) : (canQ x).kind = x.kind := by
  unfold canQ mkQ
  simp only
  split <;> (try split) <;> (try split) <;> (try split) <;> (try split) <;> rfl
theorem reqCl_can (x : Req) : reqCl (canQ x) = reqCl x := by
  unfold reqCl reqTail
  rw [canQ_kind]
  unfold canQ mkQ
  simp only
  by_cases e1 : x.kind = 1
  · simp only [e1, if_true, if_false, show ¬ (1 : Int) = 7 by decide, List.length_map, flat_can recCl_can]
  · by_cases e2 : x.kind = 2
    · simp only [e2, if_true, if_false, show ¬ (2 : Int) = 7 by decide, show ¬ (2 : Int) = 1 by decide]
    · by_cases e3 : x.kind = 3
      · simp only [e3, if_true, if_false, show ¬ (3 : Int) = 7 by decide, show ¬ (3 : Int) = 1 by decide, show ¬ (3 : Int) = 2 by decide]
      · by_cases e4 : x.kind = 4
        · simp only [e4, if_true, if_false, show ¬ (4 : Int) = 7 by decide, show ¬ (4 : Int) = 1 by decide, show ¬ (4 : Int) = 2 by decide, show ¬ (4 : Int) = 3 by decide]
        · by_cases e5 : x.kind = 5
          · simp only [e5, if_true, if_false, show ¬ (5 : Int) = 7 by decide, show ¬ (5 : Int) = 1 by decide, show ¬ (5 : Int) = 2 by decide, show ¬ (5 : Int) = 3 by decide, show ¬ (5 : Int) = 4 by decide]
          · by_cases e7 : x.kind = 7
            · simp [e7]
            · simp only [e1, e2, e3, e4, e5, e7, if_false]
end Go.Proofs.YtodadoaindfecaaDoor.Wi
