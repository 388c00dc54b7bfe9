/- keep, fate: what a crash does with one file. -/
import Derived.Test.YtlcgcckllecjpaaDoorAdd
namespace Go.Proofs.YtlcgcckllecjpaaDoor.Dk
open Go.RowKit Go.Maps
set_option linter.unusedSimpArgs false
set_option linter.unusedVariables false

section
variable {w w' : World} {base d : Nat} {F : List Nat} {A A' : DA} {mref : Option Nat} {ms : List FileM}

theorem run_min2 (ts : Array TypeId) (t : TypeId) (x y : Int) (w : World) : (Builtin.min_ ts t #[.int .i64 x, .int .i64 y]).run Tryd.prog w = .ok (.int .i64 (if y < x then y else x)) w := by
  simp [Builtin.min_, Builtin.min2]

/-- The slice behind keep. -/
def cutSl (sl : Value) (n : Nat) : Value := match sl with
  | .slice a _ _ => .slice a n n
  | v => v
theorem RowAt.cut {w : World} {e base : Nat} {sl : Value} {bs : List UInt8} {n : Nat} (h : RowAt w e base sl bs) (hn : n ≤ bs.length) : RowAt w e base (cutSl sl n) (bs.take n) := by
  rcases h with ⟨rfl, rfl⟩ | ⟨g, cap, cur, rfl, hb, hg, h1, h2, h3, h4⟩
  · have : n = 0 := by simpa using hn
    subst this
    exact .inl ⟨rfl, rfl⟩
  · refine .inr ⟨g, n, cur, by simp [cutSl]; omega, hb, hg, by simp; omega, by omega, by omega, ?_⟩
    rw [show (bs.take n).length = n by simp; omega]
    rw [List.map_take, ← h4, List.take_take]
    congr 1; omega
theorem cutSl_own (sl : Value) (n : Nat) : ∀ k ∈ (cutSl sl n).ownBlock, k ∈ sl.ownBlock := by
  intro k hk
  unfold cutSl at hk
  split at hk
  · rename_i a _ _
    cases a <;> simp [Value.ownBlock] at hk ⊢
    exact hk
  · exact hk

set_option maxRecDepth 100000 in
set_option maxHeartbeats 1000000 in
theorem keep_any {m : FileM} (h : FileAt w base m) (hnb : m.blk ∉ m.sl.ownBlock) (n : Nat) (hn : n ≤ m.abs.bytes.length) (hbig : m.abs.bytes.length ≤ 1048576) (hsafe : m.abs.safe ≤ m.abs.bytes.length) :
    Calls Tryd.prog 49 #[.pointer (some ⟨m.blk, 0, none⟩), .int .i64 n] w fun e w' => e = .returned (.tuple #[]) ∧ FileAt w' base ⟨{ m.abs with bytes := m.abs.bytes.take n, safe := min m.abs.safe n }, m.blk, cutSl m.sl n⟩ ∧ Turn [m.blk] w w' := by
  obtain ⟨sa, sc, hsl, hsl1, hsl2⟩ := h.2.form
  have cf : w.cell? ⟨m.blk, 0, none⟩ = some (.slice sa m.abs.bytes.length sc) := by rw [cell_of h.1, hsl]; rfl
  have cg : w.cell? ⟨m.blk, 1, none⟩ = some (.int .i64 m.abs.safe) := by rw [cell_of h.1]; rfl
  have f0 : w.frozen? ⟨m.blk, 0, none⟩ = false := frozen_of h.1 0
  have f1 : w.frozen? ⟨m.blk, 1, none⟩ = false := frozen_of h.1 1
  have H : Hid (FileAt w base m) := h
  have HS : Hid (m.sl = .slice sa m.abs.bytes.length sc) := hsl
  have HNB : Hid (m.blk ∉ m.sl.ownBlock) := hnb
  have hs3 : ∀ w, (Instr.slice 35 (.slice sa m.abs.bytes.length sc) none (some (.int .i64 (n : Int))) (some (.int .i64 (n : Int)))).run Tryd.prog w = .ok (.slice sa n n) w := by
    intro w
    have hsz : (sizeOf 5).run Tryd.prog w = .ok 1 w := by kernel_rfl
    simp [Instr.slice, run_underlying Tryd.underlying35, Instr.sliceBounds, run_sliceBound, hsz, Result.andThen, (by omega : n ≤ sc), Addr.add]
  have hmin := run_min2
  clear h hsl hnb
  have HC : Hid (cutSl m.sl n = .slice sa n n) := by show _ = _; rw [HS.out]; rfl
  have HR : Hid (RowAt w 5 base (.slice sa n n) (m.abs.bytes.take n)) := by have := RowAt.cut H.out.2 hn; rw [HC.out] at this; exact this
  have hfin : ∀ q : Nat, q = min m.abs.safe n → FileAt ((w.setCell ⟨m.blk, 0, none⟩ (.slice sa n n)).setCell ⟨m.blk, 1, none⟩ (.int .i64 (q : Int))) base ⟨{ m.abs with bytes := m.abs.bytes.take n, safe := min m.abs.safe n }, m.blk, cutSl m.sl n⟩ := by
    intro q hq
    refine ⟨?_, ?_⟩
    · rw [heap_set (heap_set H.out.1 0 _) 1, HC.out, hq]; simp
    · show RowAt _ _ _ (cutSl m.sl n) (m.abs.bytes.take n)
      rw [HC.out]
      refine HR.out.kept (S := [m.blk]) (((Turn.refl _ _).setCell (by simp) _).setCell (by simp) _) ?_
      intro k hk e
      simp only [List.mem_singleton] at e
      subst e
      exact HNB.out (cutSl_own m.sl n _ (by rw [HC.out]; exact hk))
  have HFin : Hid (∀ q : Nat, q = min m.abs.safe n → FileAt ((w.setCell ⟨m.blk, 0, none⟩ (.slice sa n n)).setCell ⟨m.blk, 1, none⟩ (.int .i64 (q : Int))) base ⟨{ m.abs with bytes := m.abs.bytes.take n, safe := min m.abs.safe n }, m.blk, cutSl m.sl n⟩) := hfin
  clear hfin
  by_cases hsn : (n : Int) < (m.abs.safe : Int)
  all_goals
    go_enter Tryd.func49, Tryd.ntmps49
    go_wp2
    go_end0
    exact ⟨rfl, HFin.out _ (by omega), ((Turn.refl _ _).setCell (by simp) _).setCell (by simp) _⟩

/-- What a crash's fates tell of the k-th file. -/
def fateN (fs : List UInt8) (k : Nat) : Nat := if fs.length = 0 then 0 else (fs.getD (k % fs.length) 0).toNat

set_option maxRecDepth 100000 in
set_option maxHeartbeats 1000000 in
theorem fate_any (w : World) (v : Value) (fs : List UInt8) (hx : SliceAt w v (fs.map encB)) (k : Nat) (hk : k ≤ 1048576) (hl : fs.length ≤ 9223372036854775807) :
    Calls Tryd.prog 54 #[v, .int .i64 k] w fun e w' => e = .returned (.int .i64 (fateN fs k)) ∧ w = w' := by
  rcases hx with ⟨rfl, hb⟩ | ⟨a, c, rfl, hc⟩
  · have hb' : fs = [] := by simpa using hb
    subst hb'
    go_enter Tryd.func54, Tryd.ntmps54
    go_wp2
    go_ret
    exact ⟨rfl, rfl⟩
  · simp only [List.length_map]
    by_cases h0 : fs.length = 0
    · have HE : Hid (fateN fs k = 0) := by show _ = _; simp [fateN, h0]
      have hz : ((fs.length : Int) == 0) = true := by simp [h0]
      clear hc h0
      go_enter Tryd.func54, Tryd.ntmps54
      go_wp2
      go_ret
      exact ⟨ret_int (by rw [HE.out]; rfl), rfl⟩
    · have hlt : k % fs.length < fs.length := Nat.mod_lt _ (Nat.pos_of_ne_zero h0)
      have HE : Hid (fateN fs k = (fs.getD (k % fs.length) 0).toNat) := by show _ = _; simp [fateN, h0]
      have hz : ((fs.length : Int) == 0) = false := by rw [beq_eq_false_iff_ne]; omega
      have hcell := hc (k % fs.length) (encB (fs.getD (k % fs.length) 0)) (by simp [List.getElem?_eq_getElem hlt, List.getD])
      unfold encB at hcell
      have hb8 : (fs.getD (k % fs.length) 0).toNat < 256 := (fs.getD (k % fs.length) 0).toNat_lt
      clear hc
      have hpos : (0 : Int) < (fs.length : Int) := by omega
      go_enter Tryd.func54, Tryd.ntmps54
      go_wp2
      go_ret
      exact ⟨ret_int (by rw [HE.out]; have := UInt8.toNat_lt fs[k % fs.length]; simp [List.getD, List.getElem?_eq_getElem hlt]; exact IntWalk.wrap64_in _ (by omega)), rfl⟩
end

end Go.Proofs.YtlcgcckllecjpaaDoor.Dk
