/- The disk in memory: its struct, its map from names to files, each file's struct, each file's bytes. And what it means: names, bytes, how many are safe. -/
import Derived.Test.YtlcgcckllecjpaaDoorRows
import Derived.Test.YtlcgcckllecjpaaDoorTurn
import Derived.Sort.KeysCollected
namespace Go.Proofs.YtlcgcckllecjpaaDoor.Dk
open Go.RowKit Go.Maps
set_option maxRecDepth 100000

/-- A file: its name, its bytes, how many are safe. -/
structure FA where
  name : List UInt8
  bytes : List UInt8
  safe : Nat
/-- A disk: how many bytes it may have, its files, and how many operations more are done. -/
structure DA where
  room : Nat
  files : List FA
  limited : Bool
  left : Int
/-- A file in memory: the block of its struct, its slice. -/
structure FileM where
  abs : FA
  blk : Nat
  sl : Value
def FileM.foot (m : FileM) : List Nat := m.blk :: m.sl.ownBlock.toList

def ptrOf : Option FileM → Value
  | some m => .pointer (some ⟨m.blk, 0, none⟩)
  | none => .pointer none
/-- How an element of the map reads: the number of its block. -/
def ptrR (v : Value) : Option (DataW Unit × List MemPlace) :=
  match v with
  | .pointer (some ⟨b, 0, none⟩) => some (.lit (.int .i64 b), [])
  | .pointer none => some (.nil, [])
  | _ => none
theorem ptrR_inv {v : Value} {b : Nat} {ps : List MemPlace} (h : ptrR v = some (.lit (.int .i64 (b : Int)), ps)) : v = .pointer (some ⟨b, 0, none⟩) := by
  unfold ptrR at h
  split at h
  · simp at h; obtain ⟨e, _⟩ := h; rw [Int.ofNat_inj.1 e]
  · simp at h
  · cases h
theorem ptrR_nil {v : Value} {ps : List MemPlace} (h : ptrR v = some (.nil, ps)) : v = .pointer none := by
  unfold ptrR at h
  split at h
  · simp at h
  · rfl
  · cases h

def findM (ms : List FileM) (nm : List UInt8) : Option FileM := ms.find? (fun m => m.abs.name == nm)
def blkD (o : Option FileM) (z : DataW Unit) : DataW Unit := match o with
  | some m => .lit (.int .i64 m.blk)
  | none => z

theorem law : Keyed Tryd.prog 9 := string_keyed Tryd.underlying9
theorem zeroP (w : World) : (zeroValue 82).run Tryd.prog w = .ok (.pointer none) w := by kernel_rfl

/-- The map reads as these files' blocks. -/
def Reads (D : DataW Unit) (ms : List FileM) : Prop := size D = ms.length ∧ ∀ nm z, D.atKey (.string nm) z = blkD (findM ms nm) z
def MapAt (w : World) (mref : Option Nat) (ms : List FileM) : Prop :=
  match mref with
  | none => ms = []
  | some mb => ∃ D : DataW Unit, w.ownsMap Tryd.prog 9 ptrR mb ms.length D ∧ Reads D ms

theorem ownsMap_turn {w w' : World} {P : Program} {k : TypeId} {R : Value → Option (DataW Unit × List MemPlace)} {b n : Nat} {D : DataW Unit} {S : List Nat} (h : w.ownsMap P k R b n D) (ht : Turn S w w') (hn : b ∉ S) : w'.ownsMap P k R b n D := by
  obtain ⟨es, clock, hb, r⟩ := h
  exact ⟨es, clock, ht.heap hb hn, r⟩
theorem ownsMap_tight {w : World} {P : Program} {k : TypeId} {R : Value → Option (DataW Unit × List MemPlace)} {b n : Nat} {D : DataW Unit} (h : w.ownsMap P k R b n D) : w.ownsMap P k R b (size D) D := by
  obtain ⟨es, clock, hb, F, hs, rfl⟩ := h
  exact ⟨es, clock, hb, F, by simp [size, length_sorted], rfl⟩
theorem MapAt.kept {w w' : World} {mref : Option Nat} {ms : List FileM} {S : List Nat} (h : MapAt w mref ms) (ht : Turn S w w') (hn : ∀ k ∈ mref, k ∉ S) : MapAt w' mref ms := by
  cases mref with
  | none => exact h
  | some mb => obtain ⟨D, h1, h2⟩ := h; exact ⟨D, ownsMap_turn h1 ht (hn mb rfl), h2⟩
theorem MapAt.lt {w : World} {mref : Option Nat} {ms : List FileM} (h : MapAt w mref ms) : ∀ k ∈ mref, k < w.heap.size := by
  intro k hk
  cases mref with
  | none => simp at hk
  | some mb => obtain ⟨D, h1, _⟩ := h; simp at hk; subst hk; exact h1.lt

theorem keyS {s : ByteArray} (hs : s.size ≤ maxLen) : keyOf Tryd.prog 9 (.string s) = some (.string s.data.toList) := Go.WideMaps.keyOf_string_mk Tryd.underlying9 hs

/-- m[name] -/
theorem MapAt.look {w : World} {mref : Option Nat} {ms : List FileM} (h : MapAt w mref ms) {s : ByteArray} (hs : s.size ≤ maxLen) :
    (Instr.lookup 75 (.map mref) (.string s) false).run Tryd.prog w = .ok (ptrOf (findM ms s.data.toList)) w := by
  cases mref with
  | none =>
    have h' : ms = [] := h
    subst h'
    exact Maps.look_nil false law Tryd.underlying75 (zeroP w) (keyS hs)
  | some mb =>
    obtain ⟨D, h1, h2, h3⟩ := h
    obtain ⟨v, ps, hrun, hv⟩ := h1.lookup law Tryd.underlying75 (zeroP w) (zd := .nil) (zp := []) rfl (keyS hs)
    rw [hrun]
    rw [h3] at hv
    congr 1
    cases hf : findM ms s.data.toList with
    | none => rw [hf] at hv; exact ptrR_nil hv
    | some m => rw [hf] at hv; exact ptrR_inv hv
/-- len(m) -/
theorem MapAt.len {w : World} {mref : Option Nat} {ms : List FileM} (h : MapAt w mref ms) (ty : TypeId) :
    (Builtin.len_ #[75] ty #[.map mref]).run Tryd.prog w = .ok (.int .i64 ms.length) w := by
  cases mref with
  | none =>
    have h' : ms = [] := h
    subst h'
    exact Maps.len_nil Tryd.underlying75 ty
  | some mb =>
    obtain ⟨D, h1, h2, h3⟩ := h
    rw [h1.len Tryd.underlying75 ty, h2]

theorem isKey (nm : List UInt8) : WideAt.IsKeyLit (.string nm) := trivial
theorem lit_ne {a b : List UInt8} (h : a ≠ b) : (Lit.string a) ≠ Lit.string b := by simpa using h
theorem has_of_reads {D : DataW Unit} {ms : List FileM} (h : Reads D ms) (nm : List UInt8) : has D (.string nm) = (findM ms nm).isSome := by
  cases hf : findM ms nm with
  | none => exact has_false_of_atKey (fun z => by rw [h.2, hf]; rfl)
  | some m => exact has_true_of_atKey (y := .lit (.int .i64 m.blk)) (fun z => by rw [h.2, hf]; rfl)

def dropM (ms : List FileM) (nm : List UInt8) : List FileM := ms.filter (fun m => !(m.abs.name == nm))
theorem findM_drop_same (ms : List FileM) (nm : List UInt8) : findM (dropM ms nm) nm = none := by
  unfold findM dropM
  rw [List.find?_eq_none]
  intro m hm
  have := (List.mem_filter.1 hm).2
  simpa using this
theorem findM_drop_other (ms : List FileM) {nm k : List UInt8} (h : k ≠ nm) : findM (dropM ms nm) k = findM ms k := by
  unfold findM dropM
  apply find_filter_keep
  intro m hm
  have : m.abs.name = k := by simpa using hm
  rw [this]; simpa using h
theorem drop_length (ms : List FileM) (nm : List UInt8) (hn : (ms.map (·.abs.name)).Nodup) : (dropM ms nm).length + (if (findM ms nm).isSome then 1 else 0) = ms.length := by
  induction ms with
  | nil => rfl
  | cons m r ih =>
    simp only [List.map_cons, List.nodup_cons] at hn
    have ih := ih hn.2
    unfold dropM findM at *
    by_cases hm : m.abs.name = nm
    · have hr : r.find? (fun m => m.abs.name == nm) = none := by
        rw [List.find?_eq_none]
        intro x hx
        have : x.abs.name ≠ m.abs.name := fun e => hn.1 (by rw [← e]; exact List.mem_map.2 ⟨x, hx, rfl⟩)
        simpa [← hm] using this
      rw [hr] at ih
      simp [hm] at ih ⊢
      exact ih
    · have hm' : (m.abs.name == nm) = false := by simpa using hm
      simp only [List.filter_cons, hm', List.find?_cons, Bool.not_false, if_true, List.length_cons]
      omega
theorem findM_append (ms : List FileM) (m : FileM) (k : List UInt8) : findM (ms ++ [m]) k = (findM ms k).or (if m.abs.name == k then some m else none) := by
  unfold findM
  rw [List.find?_append]
  congr 1
  simp [List.find?_cons]
  split <;> simp_all

theorem Reads.put {D : DataW Unit} {ms : List FileM} (h : Reads D ms) (hn : (ms.map (·.abs.name)).Nodup) (hT : Tidy D) (m : FileM) : Reads (D.put (.string m.abs.name) (.lit (.int .i64 m.blk))) (dropM ms m.abs.name ++ [m]) := by
  refine ⟨?_, fun nm z => ?_⟩
  · rw [size_put hT, has_of_reads h, h.1]
    have := drop_length ms m.abs.name hn
    rw [List.length_append, List.length_singleton]
    split at this <;> rename_i hc <;> simp [hc] <;> omega
  · rw [findM_append]
    by_cases e : nm = m.abs.name
    · subst e
      rw [atKey_put_same hT.isMap (isKey _), findM_drop_same]
      simp [blkD]
    · rw [atKey_put_other (lit_ne e), h.2, findM_drop_other _ e]
      have : (m.abs.name == nm) = false := by simpa using fun e' => e e'.symm
      simp [this]
theorem Reads.del {D : DataW Unit} {ms : List FileM} (h : Reads D ms) (hn : (ms.map (·.abs.name)).Nodup) (hT : Tidy D) (nm : List UInt8) : Reads (D.del (.string nm)) (dropM ms nm) := by
  refine ⟨?_, fun k z => ?_⟩
  · have h1 := size_del (k := .string nm) hT
    rw [has_of_reads h, h.1] at h1
    have := drop_length ms nm hn
    omega
  · by_cases e : k = nm
    · subst e; rw [atKey_del_same, findM_drop_same]; rfl
    · rw [atKey_del_other (lit_ne e), h.2, findM_drop_other _ e]
/-- Only blocks count: files may be told otherwise, as long as names and blocks are the same. -/
theorem Reads.congr {D : DataW Unit} {ms ms' : List FileM} (h : Reads D ms) (e : ms.map (fun m => (m.abs.name, m.blk)) = ms'.map (fun m => (m.abs.name, m.blk))) : Reads D ms' := by
  have hl : ms.length = ms'.length := by simpa using congrArg List.length e
  refine ⟨h.1.trans hl, fun nm z => ?_⟩
  rw [h.2]
  clear h hl
  induction ms generalizing ms' with
  | nil => cases ms' with
    | nil => rfl
    | cons => simp at e
  | cons m r ih => cases ms' with
    | nil => simp at e
    | cons m' r' =>
      simp only [List.map_cons, List.cons.injEq, Prod.mk.injEq] at e
      unfold findM at *
      simp only [List.find?_cons]
      rw [e.1.1]
      cases m'.abs.name == nm
      · exact ih e.2
      · simp [blkD, e.1.2]
theorem MapAt.congr {w : World} {mref : Option Nat} {ms ms' : List FileM} (h : MapAt w mref ms) (e : ms.map (fun m => (m.abs.name, m.blk)) = ms'.map (fun m => (m.abs.name, m.blk))) : MapAt w mref ms' := by
  have hl : ms.length = ms'.length := by simpa using congrArg List.length e
  cases mref with
  | none =>
    have h' : ms = [] := h
    subst h'
    exact List.eq_nil_of_length_eq_zero hl.symm
  | some mb => obtain ⟨D, h1, h2⟩ := h; exact ⟨D, hl ▸ h1, h2.congr e⟩

end Go.Proofs.YtlcgcckllecjpaaDoor.Dk
