/- sameTexts: two lists of texts. -/
import Derived.Test.YtlcgcckllecjpaaDoorRows
import Derived.Test.YtlcgcckllecjpaaDoorTurn
import Derived.WalkKit
import Derived.WalkLawsBesides
import Derived.Lib.Bytealg
import Derived.Deep.QuietTactic
import Derived.BigQuiet
namespace Go.Proofs.YtlcgcckllecjpaaDoor
open Go.RowKit Go.Maps
set_option maxRecDepth 100000
set_option linter.unusedSimpArgs false
set_option linter.unusedVariables false

def encL (x : List UInt8) : Value := .string ⟨x.toArray⟩
theorem sameTexts_any (w : World) (a b : Option Addr) (ca cb : Nat) (L M : List (List UInt8)) (hL : L.length ≤ 1048576) (hM : M.length ≤ 1048576)
    (ha : ∀ p, a = some p → ∀ j x, L[j]? = some x → w.cell? (p.add j) = some (encL x)) (hb : ∀ p, b = some p → ∀ j x, M[j]? = some x → w.cell? (p.add j) = some (encL x)) (hna : a = none → L = []) (hnb : b = none → M = []) :
    Calls Tryd.prog 25 #[.slice a L.length ca, .slice b M.length cb] w fun e w' => e = .returned (.bool (L == M)) ∧ Turn [] w w' := by
  by_cases hl : L.length = M.length
  · have HE : Hid (L.length = M.length) := hl
    rw [← hl]
    clear hl
    go_enter Tryd.func25, Tryd.ntmps25
    go_wp2
    go_loopw [5] (fun i wr => ∃ k n : Nat, k ≤ L.length ∧ i = .int .i64 k ∧ L.take k = M.take k ∧ wr = w.drewN n) (fun i _ => L.length - (intOf i).toNat)
    case atStart => exact ⟨0, 0, Nat.zero_le _, rfl, rfl, rfl⟩
    case round =>
      obtain ⟨k, n0, hk, rfl, hpre, hw⟩ := hrel
      have HW : Hid (wr = w.drewN n0) := hw
      clear hw
      have HP : Hid (L.take k = M.take k) := hpre
      clear hpre
      by_cases hlt : k < L.length
      · have hltM : k < M.length := by have := HE.out; omega
        cases a with
        | none => rw [hna rfl] at hlt; simp at hlt
        | some pa =>
          cases b with
          | none => rw [hnb rfl] at hltM; simp at hltM
          | some pb =>
            have ca : wr.cell? (pa.add k) = some (encL L[k]) := by rw [HW.out]; exact ha pa rfl k L[k] (List.getElem?_eq_getElem hlt)
            have cb : wr.cell? (pb.add k) = some (encL M[k]) := by rw [HW.out]; exact hb pb rfl k M[k] (List.getElem?_eq_getElem hltM)
            unfold encL at ca cb
            have HS1 : Hid (L.take (k + 1) = L.take k ++ [L[k]]) := List.take_succ_eq_append_getElem hlt
            have HS2 : Hid (M.take (k + 1) = M.take k ++ [M[k]]) := List.take_succ_eq_append_getElem hltM
            clear ha hb hna hnb
            by_cases hx : L[k] = M[k]
            · rw [← hx] at cb
              have HX : Hid (L[k] = M[k]) := hx
              clear hx
              go_wp2
              go_quiet (fail)
              go_wp2
              go_roundw
              case rel =>
                exact ⟨k + 1, n0 + nq, by omega, by go_num, by rw [HS1.out, HS2.out, HP.out, HX.out], by rw [HW.out]; simp [World.drewN]; omega⟩
              case measure => simp [intOf]; omega
            · have hne : ({ data := L[k].toArray } : ByteArray) ≠ { data := M[k].toArray } := by
                intro e
                exact hx (by have := congrArg (fun b : ByteArray => b.data.toList) e; simpa using this)
              have HV : Hid ((L == M) = false) := by
                show _ = _
                rw [beq_eq_false_iff_ne]
                intro e
                subst e
                exact hx rfl
              have hne' : (!L[k] == M[k]) = true := by simpa using hx
              clear hx
              go_wp2
              go_quiet (fail)
              go_wp2
              go_ret
              refine ⟨?_, by rw [HW.out]; exact ((Turn.refl [] w).drewN n0).drewN nq⟩
              rw [HV.out]
              exact congrArg (fun b => Ending.returned (.bool b)) (by simp)
      · go_wp2
        go_ret
        obtain rfl : k = L.length := by omega
        have := HP.out
        rw [List.take_of_length_le (Nat.le_refl _), HE.out, List.take_of_length_le (Nat.le_refl _)] at this
        exact ⟨by simp [this], by rw [HW.out]; exact (Turn.refl [] w).drewN _⟩
  · have hli : ((L.length : Int) == (M.length : Int)) = false := by rw [beq_eq_false_iff_ne]; omega
    have HV : Hid ((L == M) = false) := by show _ = _; rw [beq_eq_false_iff_ne]; intro e; exact hl (by rw [e])
    clear ha hb hna hnb
    go_enter Tryd.func25, Tryd.ntmps25
    go_wp2
    go_ret
    exact ⟨by rw [HV.out]; rfl, Turn.refl _ _⟩
end Go.Proofs.YtlcgcckllecjpaaDoor
