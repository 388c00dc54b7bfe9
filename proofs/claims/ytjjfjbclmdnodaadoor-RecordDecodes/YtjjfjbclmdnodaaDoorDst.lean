/- The document's Decode: where its reading stands. -/
import Derived.Test.YtjjfjbclmdnodaaDoorTk
import Derived.Test.YtjjfjbclmdnodaaDoorFr
namespace Go.Proofs.YtjjfjbclmdnodaaDoor
open Go.RowKit Go.Maps
set_option maxRecDepth 100000
set_option linter.unusedSimpArgs false
set_option linter.unusedVariables false

/-- The taker at tb, the batch at X. -/
structure DSt (w0 w : World) (tb X : Nat) (b f : Int) (sv : Value) (rs : List Bt.Rec) (t : List UInt8 × Bool) : Prop where
  htb : tb < w0.heap.size
  hx : w0.heap.size ≤ X
  x : w.heap[X]? = some (.cells #[.int .i64 b, .int .i64 f, sv] 53 (0, 0))
  row : RecRow w (X + 1) sv rs
  rd : TkAt w tb tb t
  turn : Turn [tb] w0 w
section
variable {w0 w w' : World} {tb X : Nat} {b f : Int} {sv : Value} {rs : List Bt.Rec} {t t' : List UInt8 × Bool}
theorem DSt.sz (h : DSt w0 w tb X b f sv rs t) : tb < X ∧ X < w.heap.size := ⟨Nat.lt_of_lt_of_le h.htb h.hx, lt_of_heap h.x⟩
theorem DSt.num (h : DSt w0 w tb X b f sv rs t) (ht : Turn [tb] w w') (hrd : TkAt w' tb tb t') : DSt w0 w' tb X b f sv rs t' :=
  ⟨h.htb, h.hx, ht.heap h.x (by have := h.sz; simp; omega), h.row.kept ht (fun k hk => by have := (h.row.lt k hk).1; have := h.sz; simp; omega), hrd, h.turn.same ht⟩
theorem DSt.still (h : DSt w0 w tb X b f sv rs t) (ht : Turn [] w w') : DSt w0 w' tb X b f sv rs t :=
  ⟨h.htb, h.hx, ht.heap h.x (by simp), h.row.kept ht (by simp), h.rd.still ht, h.turn.trans ht (by simp)⟩
theorem DSt.cells (h : DSt w0 w tb X b f sv rs t) :
    (w.cell? ⟨X, 0, none⟩ = some (.int .i64 b) ∧ w.cell? ⟨X, 1, none⟩ = some (.int .i64 f) ∧ w.cell? ⟨X, 2, none⟩ = some sv) ∧
    (w.frozen? ⟨X, 0, none⟩ = false ∧ w.frozen? ⟨X, 1, none⟩ = false ∧ w.frozen? ⟨X, 2, none⟩ = false) :=
  ⟨⟨by simpa using cell_of h.x 0, by simpa using cell_of h.x 1, by simpa using cell_of h.x 2⟩, frozen_of h.x 0, frozen_of h.x 1, frozen_of h.x 2⟩
theorem TkAt.cells (h : TkAt w tb tb t) : w.cell? ⟨tb, 1, none⟩ = some (.bool t.2) ∧ w.frozen? ⟨tb, 1, none⟩ = false := by
  obtain ⟨sv, h1, -⟩ := h
  exact ⟨by simpa using cell_of h1 1, frozen_of h1 1⟩
theorem DSt.setF (h : DSt w0 w tb X b f sv rs t) (f' : Int) : DSt w0 (w.setCell ⟨X, 1, none⟩ (.int .i64 f')) tb X b f' sv rs t := by
  have ht : Turn [X] w (w.setCell ⟨X, 1, none⟩ (.int .i64 f')) := (Turn.refl _ _).setCell (.inl (by simp)) _
  have hx := h.hx
  have hz := h.sz
  exact ⟨h.htb, hx, by simpa using heap_set h.x 1 (.int .i64 f'), h.row.kept ht (fun k hk => by have := (h.row.lt k hk).1; simp; omega), h.rd.kept ht (by simp; omega) (by simp; omega), h.turn.trans ht (fun k hk => .inr (by simp at hk; omega))⟩
theorem DSt.setR {w2 : World} {s2 : Value} {r2 : List Bt.Rec} (h : DSt w0 w tb X b f sv rs t) (h1 : RecRow w2 (X + 1) s2 r2) (h2 : Turn sv.ownBlock.toList w w2) : DSt w0 (w2.setCell ⟨X, 2, none⟩ s2) tb X b f s2 r2 t := by
  have hx := h.hx
  have hz := h.sz
  have ht : Turn [X] w2 (w2.setCell ⟨X, 2, none⟩ s2) := (Turn.refl _ _).setCell (.inl (by simp)) _
  have own : ∀ k ∈ sv.ownBlock.toList, X + 1 ≤ k := fun k hk => (h.row.lt k (by simpa using hk)).1
  have hx2 : w2.heap[X]? = some (.cells #[.int .i64 b, .int .i64 f, sv] 53 (0, 0)) := h2.heap h.x (fun hm => by have := own X hm; omega)
  refine ⟨h.htb, hx, by simpa using heap_set hx2 2 s2, h1.kept ht (fun k hk => by have := (h1.lt k hk).1; simp; omega), (h.rd.kept h2 (fun hm => by have := own _ hm; omega) (fun k hk => by have := own k hk; omega)).kept ht (by simp; omega) (by simp; omega), ?_⟩
  exact (h.turn.trans h2 (fun k hk => .inr (by have := own k hk; omega))).trans ht (fun k hk => .inr (by simp at hk; omega))
end
theorem len_step {rs : List Bt.Rec} {r : Bt.Rec} {t t' : List UInt8 × Bool} {n : Nat} (h : rs.length + t.1.length ≤ n) (k : t'.1.length ≤ t.1.length ∧ (t'.2 = true ∨ t'.1.length < t.1.length)) : (rs ++ [r]).length + t'.1.length ≤ n + (if t'.2 then 1 else 0) := by
  rw [List.length_append]
  obtain ⟨k1, k2⟩ := k
  simp only [List.length_cons, List.length_nil]
  rcases k2 with k2 | k2
  · rw [if_pos k2]; omega
  · split <;> omega
/-- And a record that is being read, at K. -/
structure KSt (w0 w : World) (tb X : Nat) (b f : Int) (sv : Value) (rs : List Bt.Rec) (t : List UInt8 × Bool) (K : Nat) (r : Bt.Rec) : Prop where
  d : DSt w0 w tb X b f sv rs t
  hk : X < K
  own : ∀ k ∈ sv.ownBlock, k ≠ K
  k : w.heap[K]? = some (.cells (recC r).toArray 98 (0, 0))
section
variable {w0 w w' : World} {tb X K : Nat} {b f : Int} {sv : Value} {rs : List Bt.Rec} {t t' : List UInt8 × Bool} {r : Bt.Rec}
theorem KSt.num (h : KSt w0 w tb X b f sv rs t K r) (ht : Turn [tb] w w') (hrd : TkAt w' tb tb t') : KSt w0 w' tb X b f sv rs t' K r :=
  ⟨h.d.num ht hrd, h.hk, h.own, ht.heap h.k (by have := h.d.sz; have := h.hk; simp; omega)⟩
theorem KSt.still (h : KSt w0 w tb X b f sv rs t K r) (ht : Turn [] w w') : KSt w0 w' tb X b f sv rs t K r := ⟨h.d.still ht, h.hk, h.own, ht.heap h.k (by simp)⟩
theorem KSt.set (h : KSt w0 w tb X b f sv rs t K r) (i : Nat) (v : Value) (r' : Bt.Rec) (hr : (recC r').toArray = (recC r).toArray.setIfInBounds i v) : KSt w0 (w.setCell ⟨K, i, none⟩ v) tb X b f sv rs t K r' := by
  have ht : Turn [K] w (w.setCell ⟨K, i, none⟩ v) := (Turn.refl _ _).setCell (.inl (by simp)) _
  have hx := h.d.hx
  have hz := h.d.sz
  have hK := h.hk
  have hn : K ∉ [tb] := by simp; omega
  refine ⟨⟨h.d.htb, hx, ht.heap h.d.x (by simp; omega), h.d.row.kept ht (fun k hk => by have := h.own k hk; simpa using this), h.d.rd.kept ht (by simp; omega) (by simp; omega), h.d.turn.trans ht (fun k hk => .inr (by simp at hk; omega))⟩, hK, h.own, ?_⟩
  rw [hr]
  exact heap_set h.k i v
theorem KSt.bad (h : KSt w0 w tb X b f sv rs t K r) (x : Bool) : KSt w0 (w.setCell ⟨tb, 1, none⟩ (.bool x)) tb X b f sv rs (t.1, x) K r := by
  have ht : Turn [tb] w (w.setCell ⟨tb, 1, none⟩ (.bool x)) := (Turn.refl _ _).setCell (.inl (by simp)) _
  refine h.num ht ?_
  obtain ⟨sv, h1, h2, h3⟩ := h.d.rd
  exact ⟨sv, by simpa using heap_set h1 1 (.bool x), h2.kept' ht (fun h0 k hk hm => by have := h3 h0 k hk; simp at hm; omega), h3⟩
theorem KSt.cells (h : KSt w0 w tb X b f sv rs t K r) :
    (w.cell? ⟨K, 0, none⟩ = some (.int .i64 r.off) ∧ w.cell? ⟨K, 1, none⟩ = some (.int .i64 r.time) ∧ w.cell? ⟨K, 2, none⟩ = some (.bool r.keyed) ∧ w.cell? ⟨K, 3, none⟩ = some (strV r.key) ∧ w.cell? ⟨K, 4, none⟩ = some (.bool r.gone) ∧ w.cell? ⟨K, 5, none⟩ = some (strV r.value)) ∧
    (w.frozen? ⟨K, 0, none⟩ = false ∧ w.frozen? ⟨K, 1, none⟩ = false ∧ w.frozen? ⟨K, 2, none⟩ = false ∧ w.frozen? ⟨K, 3, none⟩ = false ∧ w.frozen? ⟨K, 4, none⟩ = false ∧ w.frozen? ⟨K, 5, none⟩ = false) :=
  ⟨⟨by simpa [recC] using cell_of h.k 0, by simpa [recC] using cell_of h.k 1, by simpa [recC] using cell_of h.k 2, by simpa [recC] using cell_of h.k 3, by simpa [recC] using cell_of h.k 4, by simpa [recC] using cell_of h.k 5⟩, frozen_of h.k 0, frozen_of h.k 1, frozen_of h.k 2, frozen_of h.k 3, frozen_of h.k 4, frozen_of h.k 5⟩
theorem KSt.load (h : KSt w0 w tb X b f sv rs t K r) : (loadVar 98 ⟨K, 0, none⟩).run Tryd.prog w = .ok (recV r) w :=
  load_rec (fun i u hu => by rw [addr_add, cell_of h.k]; simpa using hu)
theorem KSt.append (h : KSt w0 w tb X b f sv rs t K r) (hlen : rs.length ≤ 1000000) : ∃ a7 n7 p7 w7, (Builtin.append_ #[51, 51] 51 #[sv, .slice (some ⟨w.heap.size, 0, none⟩) 1 1]).run Tryd.prog (w.alloc (.cells (recC r).toArray 98)) = .ok (.slice a7 n7 p7) w7 ∧
    w7.cell? ⟨X, 2, none⟩ = some sv ∧ w7.frozen? ⟨X, 2, none⟩ = false ∧ DSt w0 (w7.setCell ⟨X, 2, none⟩ (.slice a7 n7 p7)) tb X b f (.slice a7 n7 p7) (rs ++ [r]) t := by
  have hd := h.d.still ((Turn.refl [] w).alloc (.cells (recC r).toArray 98))
  obtain ⟨v7, w7, hr7, hrow7, ht7, hown7⟩ := run_append_rec _ (X + 1) sv rs r w.heap.size hd.row (heap_new w _) hlen (by have := hd.sz; omega)
  obtain ⟨a7, n7, p7, hv7⟩ := hrow7.some_slice
  subst hv7
  have hx7 := ht7.heap hd.x (fun hm => by have := (hd.row.lt X (by simpa using hm)).1; omega)
  exact ⟨a7, n7, p7, w7, hr7, by simpa using cell_of hx7 2, frozen_of hx7 2, hd.setR hrow7 ht7⟩
end
end Go.Proofs.YtjjfjbclmdnodaaDoor
