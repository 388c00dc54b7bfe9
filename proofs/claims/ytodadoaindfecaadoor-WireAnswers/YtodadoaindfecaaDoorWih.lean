/- Requests, topics and answers in memory. -/
import Derived.Test.YtodadoaindfecaaDoorWib
import Derived.Test.YtodadoaindfecaaDoorBatA
namespace Go.Proofs.YtodadoaindfecaaDoor.Wi
open Go.RowKit Go.Maps
set_option maxRecDepth 100000
set_option linter.unusedSimpArgs false
set_option linter.unusedVariables false

def reqC (x : Req) (rv : Value) : Array Value := #[.int .i64 x.kind, .int .i64 x.corr, strV x.topic, .int .i64 x.part, .int .i64 x.offset, .int .i64 x.most, .int .i64 x.least, .int .i64 x.wait, .int .i64 x.time, .int .i64 x.parts, .bool x.sure, .bool x.compact, rv]
def inI (n : Int) : Prop := -9223372036854775808 ≤ n ∧ n ≤ 9223372036854775807
structure ReqOk (x : Req) : Prop where
  kind : inI x.kind
  corr : inI x.corr
  part : inI x.part
  offset : inI x.offset
  most : inI x.most
  least : inI x.least
  wait : inI x.wait
  time : inI x.time
  parts : inI x.parts
  topic : x.topic.length ≤ 9223372036854775807
/-- A request's value. -/
def ReqAt (w : World) (v : Value) (x : Req) : Prop := ∃ rv, v = .agg (reqC x rv) ∧ RecsAt w rv x.recs ∧ ReqOk x

def tpC (t : Tp) : List Value := [strV t.name, .int .i64 t.parts, .bool t.compact]
structure TpOk (t : Tp) : Prop where
  parts : inI t.parts
  name : t.name.length ≤ 9223372036854775807
/-- A slice of topics. -/
def TopsAt (w : World) (v : Value) (ts : List Tp) : Prop :=
  ∃ a c, v = .slice a ts.length c ∧ ts.length ≤ c ∧ c ≤ maxLen ∧ (a = none → c = 0) ∧ (∀ j (h : j < ts.length), TpOk ts[j] ∧ ∃ p, a = some p ∧ ∀ i u, (tpC ts[j])[i]? = some u → w.cell? ((p.add (j * 3)).add i) = some u)
theorem TopsAt.kept {w w' : World} {v : Value} {ts : List Tp} {S : List Nat} (h : TopsAt w v ts) (ht : Turn S w w') (hn : ∀ k ∈ v.ownBlock, k < w.heap.size → k ∉ S) : TopsAt w' v ts := by
  obtain ⟨a, c, rfl, h1, h2, h3, h4⟩ := h
  refine ⟨a, c, rfl, h1, h2, h3, fun j hj => ?_⟩
  obtain ⟨h5, p, rfl, hc⟩ := h4 j hj
  refine ⟨h5, p, rfl, fun i u hu => ?_⟩
  have hlt := World.block_lt_of_cell? w _ (hc i u hu)
  rw [World.cell?_of_block (w := w) (ht.block _ hlt (by rw [add_block, add_block] at hlt ⊢; exact hn _ (by simp [Value.ownBlock]) hlt)), hc i u hu]
theorem TopsAt.kept' {w w' : World} {v : Value} {ts : List Tp} {S : List Nat} (h : TopsAt w v ts) (ht : Turn S w w') (hn : ts ≠ [] → ∀ k ∈ v.ownBlock, k ∉ S) : TopsAt w' v ts := by
  by_cases h0 : ts = []
  · subst h0
    obtain ⟨a, c, e, h1, h2, h3, h4⟩ := h
    exact ⟨a, c, e, h1, h2, h3, fun j hj => absurd hj (Nat.not_lt_zero _)⟩
  · exact h.kept ht (fun k hk _ => hn h0 k hk)
theorem TopsAt.lt {w : World} {v : Value} {ts : List Tp} (h : TopsAt w v ts) (h0 : ts ≠ []) : ∀ k ∈ v.ownBlock, k < w.heap.size := by
  obtain ⟨a, c, rfl, h1, h2, h3, h4⟩ := h
  have hl : 0 < ts.length := List.length_pos_iff.2 h0
  obtain ⟨-, p, rfl, hc⟩ := h4 0 hl
  intro k hk
  simp [Value.ownBlock] at hk
  subst hk
  have := World.block_lt_of_cell? w _ (hc 0 _ rfl)
  rwa [add_block, add_block] at this
theorem TopsAt.still {w w' : World} {v : Value} {ts : List Tp} (h : TopsAt w v ts) (ht : Turn [] w w') : TopsAt w' v ts := h.kept ht (by simp)
theorem TopsAt.form {w : World} {v : Value} {ts : List Tp} (h : TopsAt w v ts) : ∃ a c, v = .slice a ts.length c ∧ ts.length ≤ c ∧ c ≤ maxLen ∧ (a = none → c = 0) ∧ ∀ j (hj : j < ts.length), ∃ p, a = some p := by
  obtain ⟨a, c, rfl, h1, h2, h3, h4⟩ := h
  exact ⟨a, c, rfl, h1, h2, h3, fun j hj => ⟨_, (h4 j hj).2.choose_spec.1⟩⟩
theorem TopsAt.ok {w : World} {v : Value} {ts : List Tp} (h : TopsAt w v ts) {j : Nat} (hj : j < ts.length) : TpOk ts[j] := by
  obtain ⟨a, c, rfl, h1, h2, h3, h4⟩ := h
  exact (h4 j hj).1
theorem TopsAt.three {w : World} {p : Addr} {c : Nat} {ts : List Tp} (h : TopsAt w (.slice (some p) ts.length c) ts) {j : Nat} (hj : j < ts.length) :
    w.cell? (p.add (j * 3)) = some (.string ⟨ts[j].name.toArray⟩) ∧ w.cell? ⟨(p.add (j * 3)).block, (p.add (j * 3)).off + 1, none⟩ = some (.int .i64 ts[j].parts) ∧ w.cell? ⟨(p.add (j * 3)).block, (p.add (j * 3)).off + 2, none⟩ = some (.bool ts[j].compact) := by
  obtain ⟨a, c', e, h1, h2, h3, h4⟩ := h
  simp only [Value.slice.injEq] at e
  obtain ⟨rfl, -, rfl⟩ := e
  obtain ⟨-, q, hq, hc⟩ := h4 j hj
  cases hq
  refine ⟨?_, hc 1 _ rfl, hc 2 _ rfl⟩
  have := hc 0 _ rfl
  rwa [add_zero] at this

def ansC (x : Ans) (rv tv : Value) : Array Value := #[.int .i64 x.kind, .int .i64 x.corr, .int .i64 x.err, .int .i64 x.offset, .int .i64 x.start, .int .i64 x.fin, .bool x.found, rv, tv]
structure AnsOk (x : Ans) : Prop where
  kind : inI x.kind
  corr : inI x.corr
  err : inI x.err
  offset : inI x.offset
  start : inI x.start
  fin : inI x.fin
/-- An answer's value. -/
def AnsAt (w : World) (v : Value) (x : Ans) : Prop := ∃ rv tv, v = .agg (ansC x rv tv) ∧ RecsAt w rv x.recs ∧ TopsAt w tv x.topics ∧ AnsOk x
end Go.Proofs.YtodadoaindfecaaDoor.Wi
