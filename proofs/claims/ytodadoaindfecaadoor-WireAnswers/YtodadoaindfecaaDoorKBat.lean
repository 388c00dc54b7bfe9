/- conveyorkeep's batch and pick. -/
import Derived.Test.YtodadoaindfecaaDoorDecP
namespace Go.Proofs.YtodadoaindfecaaDoor
open Go.RowKit Go.Maps
set_option maxRecDepth 100000
set_option linter.unusedSimpArgs false
set_option linter.unusedVariables false

theorem pickN_any (x : Int) (n : Nat) (hn : 0 < n) (hn2 : n ≤ 1099511627776) (w : World) : Calls Tryd.prog 29 #[.int .i64 x, .int .i64 n] w fun e w' => (∃ p : Nat, p < n ∧ e = .returned (.int .i64 p)) ∧ w = w' := by
  have hw : IntKind.u64.wrap (n : Int) = (n : Int) := by simp [IntKind.wrap, IntKind.bits, IntKind.signed]; omega
  have h0 : 0 ≤ IntKind.u64.wrap x := by simp [IntKind.wrap, IntKind.bits, IntKind.signed]; omega
  have hz : ¬ ((n : Int) = 0) := by omega
  go_enter Tryd.func29, Tryd.ntmps29
  go_wp2
  go_ret
  obtain ⟨m, hm⟩ := Int.eq_ofNat_of_zero_le h0
  refine ⟨⟨m % n, Nat.mod_lt _ hn, ?_⟩, rfl⟩
  rw [hm]
  refine congrArg (fun z => Ending.returned (.int .i64 z)) ?_
  have hlt := Nat.mod_lt m hn
  have : (m : Int) % n = ((m % n : Nat) : Int) := by omega
  rw [this]
  unfold wrap64; omega

/-- The records that batch makes. -/
def renum (b : Int) (rs : List Bt.Rec) : List Bt.Rec := rs.zipIdx.map fun p => { p.1 with off := b + p.2 }
theorem renum_snoc (b : Int) (rs : List Bt.Rec) {k : Nat} (hk : k < rs.length) : renum b (rs.take (k + 1)) = renum b (rs.take k) ++ [{ rs[k] with off := b + k }] := by
  have : rs.take (k + 1) = rs.take k ++ [rs[k]] := by simp
  unfold renum
  rw [this, List.zipIdx_append, List.map_append]
  simp [Nat.min_eq_left (Nat.le_of_lt hk)]
theorem renum_len (b : Int) (rs : List Bt.Rec) : (renum b rs).length = rs.length := by simp [renum]
theorem renum_ok (b : Int) (rs : List Bt.Rec) (h : ∀ r ∈ rs, RecOk r) (hb : 0 ≤ b) (hb2 : b ≤ 1099511627776) (hl : rs.length ≤ 1000000) : ∀ r ∈ renum b rs, RecOk r := by
  intro r hr
  unfold renum at hr
  obtain ⟨⟨q, i⟩, hq, rfl⟩ := List.mem_map.1 hr
  obtain ⟨h1, h2⟩ := List.mem_zipIdx' hq
  obtain ⟨o1, o2, t1, t2, k1, v1⟩ := h q (List.mem_iff_getElem.2 ⟨i, h1, h2.symm⟩)
  exact ⟨by simp only; omega, by simp only; omega, t1, t2, k1, v1⟩
def batOf (b : Int) (rs : List Bt.Rec) : Bt.Bat := ⟨b, b + rs.length, renum b rs⟩

end Go.Proofs.YtodadoaindfecaaDoor
