/- record.setFour, record.Encode. -/
import Derived.Test.YtodadoaindfecaaDoorPutB
import Derived.Test.YtodadoaindfecaaDoorChkP
import Derived.Test.YtodadoaindfecaaDoorSumP
import Derived.Test.YtodadoaindfecaaDoorLoose
namespace Go.Proofs.YtodadoaindfecaaDoor
open Go.RowKit Go.Maps
set_option maxRecDepth 100000
set_option linter.unusedSimpArgs false
set_option linter.unusedVariables false

/-- Four cells told anew. -/
def set4 (cur : Array Value) (o n : Nat) : Array Value :=
  (((cur.setIfInBounds o (.int .u8 (n / 16777216 % 256 : Nat))).setIfInBounds (o + 1) (.int .u8 (n / 65536 % 256 : Nat))).setIfInBounds (o + 2) (.int .u8 (n / 256 % 256 : Nat))).setIfInBounds (o + 3) (.int .u8 (n % 256 : Nat))
theorem four_enc {n : Nat} : (Bt.four n).map encB = [.int .u8 (n / 16777216 % 256 : Nat), .int .u8 (n / 65536 % 256 : Nat), .int .u8 (n / 256 % 256 : Nat), .int .u8 (n % 256 : Nat)] := by
  simp only [Bt.four, List.map_cons, List.map_nil, encB]
  have a0 : (UInt8.ofNat (n / 16777216 % 256)).toNat = n / 16777216 % 256 := by simp
  have a1 : (UInt8.ofNat (n / 65536 % 256)).toNat = n / 65536 % 256 := by simp
  have a2 : (UInt8.ofNat (n / 256 % 256)).toNat = n / 256 % 256 := by simp
  have a3 : (UInt8.ofNat (n % 256)).toNat = n % 256 := by simp
  rw [a0, a1, a2, a3]
theorem set4_size (cur : Array Value) (o n : Nat) : (set4 cur o n).size = cur.size := by simp [set4]
theorem set4_0 {cur : Array Value} {n L : Nat} {a b c d : UInt8} {post : List UInt8} (hL : L = post.length + 4) (h : cur.toList.take L = (a :: b :: c :: d :: post).map encB) : (set4 cur 0 n).toList.take L = (Bt.four n ++ post).map encB := by
  rw [List.map_append, four_enc]
  have e := List.take_append_drop L cur.toList
  rw [h] at e
  unfold set4
  simp only [Array.toList_setIfInBounds]
  rw [← e]
  simp only [List.map_cons, List.cons_append, List.set_cons_zero, List.set_cons_succ, Nat.zero_add]
  subst hL
  simp
theorem set4_4 {cur : Array Value} {n L : Nat} {p q r s a b c d : UInt8} {post : List UInt8} (hL : L = post.length + 8) (h : cur.toList.take L = (p :: q :: r :: s :: a :: b :: c :: d :: post).map encB) : (set4 cur 4 n).toList.take L = (p :: q :: r :: s :: (Bt.four n ++ post)).map encB := by
  rw [List.map_cons, List.map_cons, List.map_cons, List.map_cons, List.map_append, four_enc]
  have e := List.take_append_drop L cur.toList
  rw [h] at e
  unfold set4
  simp only [Array.toList_setIfInBounds]
  rw [← e]
  simp only [List.map_cons, List.cons_append, List.set_cons_zero, List.set_cons_succ, Nat.zero_add]
  subst hL
  simp

theorem mk8 (w : World) : (Instr.makeSlice 49 (.int .i64 8) (.int .i64 8)).run Tryd.prog w = .ok (.slice (some ⟨w.heap.size, 0, none⟩) 8 8) (w.alloc (.cells #[.int .u8 0, .int .u8 0, .int .u8 0, .int .u8 0, .int .u8 0, .int .u8 0, .int .u8 0, .int .u8 0] 5)) := by kernel_rfl

theorem body_len {x : Bt.Bat} (h : Bt.chk x = 0) : (Bt.body x).length ≤ 30018 := by
  have hf := bat_fit h
  obtain ⟨h1, h2, h3, h4, h5, h6⟩ := Bt.chk_ok h
  have a0 := Nu.put_len6 (show x.base.toNat ≤ 1099511627776 by omega)
  have a1 := Nu.put_len6 (show (x.fin - x.base).toNat ≤ 1099511627776 by omega)
  have a2 := Nu.put_len6 (show x.recs.length ≤ 1099511627776 by omega)
  have a3 := recsB_len x.recs hf
  unfold Bt.body
  simp only [List.length_append]
  omega
theorem body_pos (x : Bt.Bat) : 3 ≤ (Bt.body x).length := by
  have a0 := Nu.put_pos x.base.toNat
  have a1 := Nu.put_pos (x.fin - x.base).toNat
  have a2 := Nu.put_pos x.recs.length
  unfold Bt.body
  simp only [List.length_append]
  omega
/-- The end of a row's bytes. -/
theorem row_drop {w : World} {g : Nat} {cur : Array Value} {t : TypeId} {bs : List UInt8} (hg : w.heap[g]? = some (.cells cur t (0, 0))) (ht : cur.toList.take bs.length = bs.map encB) (o c : Nat) : SliceAt w (.slice (some ⟨g, o, none⟩) (bs.length - o) c) ((bs.drop o).map encB) := by
  refine .inr ⟨⟨g, o, none⟩, c, by simp, fun j u hu => ?_⟩
  have e : (⟨g, o, none⟩ : Addr).add j = ⟨g, o + j, none⟩ := by
    rw [← addr_add g o, add_add, addr_add]
  rw [e, cell_of hg]
  have hj : o + j < bs.length := by
    have := (List.getElem?_eq_some_iff.1 hu).1
    simp at this; omega
  have h1 : (bs.map encB)[o + j]? = some u := by
    rw [← hu]; simp
  rw [← ht, List.getElem?_take_of_lt hj] at h1
  simpa using h1
/-- What Encode answers: the bytes, or none. -/
def encR (x : Bt.Bat) : List UInt8 := if Bt.encErr x = 0 then Bt.encB x else []
end Go.Proofs.YtodadoaindfecaaDoor
