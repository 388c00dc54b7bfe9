/- Slices of bytes that come in; their cells; bytes as a text. -/
import Derived.Test.YtcficgpknokpbaaDoorProg
import Derived.Test.YtcficgpknokpbaaDoorTurn
import Derived.WalkKit
import Derived.WalkLawsBesides
namespace Go.Proofs.YtcficgpknokpbaaDoor
open Go.RowKit Go.Maps
set_option linter.unusedSimpArgs false
set_option linter.unusedVariables false

theorem hide {p : Prop} (h : p) : Hid p := h
theorem take_snoc (bs : List UInt8) (k : Nat) (h : k < bs.length) : bs.take (k + 1) = bs.take k ++ [bs[k]] := List.take_succ_eq_append_getElem h
/-- A slice that is told by its values, whether or not it is nil. -/
theorem SliceAt.form {w : World} {v : Value} {xs : List Value} (h : SliceAt w v xs) : ∃ a c, v = .slice a xs.length c ∧ ∀ j u, xs[j]? = some u → ∃ p, a = some p ∧ w.cell? (p.add j) = some u := by
  rcases h with ⟨rfl, rfl⟩ | ⟨a, c, rfl, hc⟩
  · exact ⟨none, 0, rfl, by simp⟩
  · exact ⟨some a, c, rfl, fun j u hu => ⟨a, rfl, hc j u hu⟩⟩
theorem enc_at (bs : List UInt8) (k : Nat) (h : k < bs.length) : (bs.map encB)[k]? = some (.int .u8 bs[k].toNat) := by
  simp [List.getElem?_eq_getElem h, encB]

/-- A row of bytes that came in. -/
theorem argB {w : World} {a : Option Addr} {len cap : Nat} {zs : List Int}
    (h : (a = none ∧ len = 0 ∧ cap = 0 ∧ zs = []) ∨ ∃ x, a = some x ∧ len ≤ cap ∧ cap ≤ maxLen ∧ zs.length = cap ∧ (∀ i, i < zs.length → w.cell? (x.add i) = some (.int .u8 (zs.getD i 0))) ∧ ∀ n ∈ zs, (Lit.int .u8 n).wf = true) :
    ∃ bs : List UInt8, len = bs.length ∧ bs.length ≤ maxLen ∧ ∀ Z, Turn [] w Z → SliceAt Z (.slice a len cap) (bs.map encB) := by
  rcases h with ⟨rfl, rfl, rfl, rfl⟩ | ⟨x, rfl, h1, h2, h3, h4, h5⟩
  · exact ⟨[], rfl, by simp, fun Z _ => .inl ⟨rfl, rfl⟩⟩
  · have hlen : ((zs.take len).map (fun z => UInt8.ofNat z.toNat)).length = len := by simp; omega
    refine ⟨(zs.take len).map (fun z => UInt8.ofNat z.toNat), hlen.symm, by rw [hlen]; omega, fun Z hZ => SliceAt.kept (S := []) (.inr ⟨x, cap, by rw [List.length_map, hlen], fun j u hu => ?_⟩) hZ (by simp)⟩
    have hj : j < len := by have := (List.getElem?_eq_some_iff.1 hu).1; simp at this; omega
    have hjz : j < zs.length := by omega
    rw [h4 j hjz]
    have hw := h5 (zs[j]) (List.getElem_mem _)
    have hb : 0 ≤ zs[j] ∧ zs[j] < 256 := by
      simp only [Lit.wf, IntKind.min, IntKind.max, IntKind.signed, IntKind.bits, Bool.and_eq_true, decide_eq_true_eq] at hw
      have h1 := hw.1
      have h2 := hw.2
      simp at h1 h2
      exact ⟨h1, by omega⟩
    have hu2 : u = encB (UInt8.ofNat (zs[j]).toNat) := by
      simp [List.getElem?_take_of_lt hj, List.getElem?_eq_getElem hjz] at hu
      exact hu.symm
    rw [hu2]
    unfold encB
    have : ((UInt8.ofNat (zs[j]).toNat).toNat : Int) = zs[j] := by
      rw [UInt8.toNat_ofNat_of_lt' (by show (zs[j]).toNat < 256; omega)]; omega
    rw [this]
    simp [List.getD, List.getElem?_eq_getElem hjz]

end Go.Proofs.YtcficgpknokpbaaDoor
