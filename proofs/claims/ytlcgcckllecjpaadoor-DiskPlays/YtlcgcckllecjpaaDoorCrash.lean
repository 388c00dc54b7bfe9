/- Crash: what it leaves of each file. -/
import Derived.Test.YtlcgcckllecjpaaDoorNames
import Derived.Test.YtlcgcckllecjpaaDoorRound
namespace Go.Proofs.YtlcgcckllecjpaaDoor.Dk
open Go.RowKit Go.Maps Go.Shelf Go.Sort
set_option linter.unusedSimpArgs false
set_option linter.unusedVariables false
attribute [local go_sem] Oper.semAt_some

/-- What a crash leaves of a file. -/
def crash1 (fs : List UInt8) (k : Nat) (f : FA) : FA := { f with bytes := f.bytes.take (min (f.safe + fateN fs k) f.bytes.length), safe := min (f.safe + fateN fs k) f.bytes.length }
def crashTo (A : DA) (fs : List UInt8) (pre : List (List UInt8)) : DA := pre.zipIdx.foldl (fun B p => B.upd p.1 (crash1 fs p.2)) A
def DA.crash (A : DA) (fs : List UInt8) : DA := { crashTo A fs (sortedN A) with limited := false }
theorem crashTo_snoc (A : DA) (fs : List UInt8) (pre : List (List UInt8)) (x : List UInt8) : crashTo A fs (pre ++ [x]) = (crashTo A fs pre).upd x (crash1 fs pre.length) := by
  simp [crashTo, List.zipIdx_append, List.foldl_append]
theorem setF_names (l : List FA) (nm : List UInt8) (g : FA → FA) (hg : ∀ f, (g f).name = f.name) : (setF l nm g).map (·.name) = l.map (·.name) := by
  unfold setF; rw [List.map_map]
  apply List.map_congr_left
  intro f _; simp only [Function.comp_def]; split
  · exact hg f
  · rfl
theorem crash1_name (fs : List UInt8) (k : Nat) (f : FA) : (crash1 fs k f).name = f.name := rfl
theorem snoc_ind {α : Type} {p : List α → Prop} (h0 : p []) (hs : ∀ l x, p l → p (l ++ [x])) : ∀ l, p l := by
  have : ∀ l : List α, p l.reverse := by
    intro l
    induction l with
    | nil => exact h0
    | cons x l ih => rw [List.reverse_cons]; exact hs _ _ ih
  intro l
  have := this l.reverse
  rwa [List.reverse_reverse] at this
theorem crashTo_names (A : DA) (fs : List UInt8) : ∀ pre : List (List UInt8), (crashTo A fs pre).files.map (·.name) = A.files.map (·.name) := by
  refine snoc_ind rfl ?_
  intro pre x ih
  rw [crashTo_snoc]; show ((setF _ _ _).map (·.name)) = _; rw [setF_names _ _ _ (crash1_name fs _), ih]
theorem crashTo_room (A : DA) (fs : List UInt8) : ∀ pre : List (List UInt8), (crashTo A fs pre).room = A.room ∧ (crashTo A fs pre).limited = A.limited ∧ (crashTo A fs pre).left = A.left := by
  refine snoc_ind ⟨rfl, rfl, rfl⟩ ?_
  intro pre x ih
  rw [crashTo_snoc]; exact ih
theorem usedL_le {l : List FA} {nm : List UInt8} {g : FA → FA} (h : ∀ f ∈ l, (g f).bytes.length ≤ f.bytes.length) : usedL (setF l nm g) ≤ usedL l := by
  unfold usedL setF
  induction l with
  | nil => exact Nat.le_refl _
  | cons a r ih =>
    have ih := ih (fun f hf => h f (by simp [hf]))
    have h1 := h a (by simp)
    simp only [List.map_cons, List.sum_cons]
    split <;> omega

theorem keepsFrom_of_turn {B : Nat} {S : List Nat} {W W' : World} (h : Turn S W W') (hs : ∀ k ∈ S, k < B) : KeepsFrom B W W' :=
  ⟨h.size, fun k o hB hk _ => h.heap hk (fun e => by have := hs k e; omega)⟩

section
variable {w w' : World} {base d : Nat} {F : List Nat} {A A' : DA} {mref : Option Nat} {ms : List FileM}

theorem find_name (h : Parts w base d F A mref ms) {x : List UInt8} (hx : x ∈ A.files.map (·.name)) : ∃ m, findM ms x = some m := by
  rw [h.files, List.map_map] at hx
  obtain ⟨m, hm, e⟩ := List.mem_map.1 hx
  have : (findM ms x).isSome := by unfold findM; rw [List.find?_isSome]; exact ⟨m, hm, by simpa using e⟩
  exact Option.isSome_iff_exists.1 this

/-- How the world stands between two rounds. -/
def CrashI (w : World) (base d : Nat) (F : List Nat) (A : DA) (mref : Option Nat) (v : Value) (fs : List UInt8) (pre : List (NameIn A)) (W : World) : Prop :=
  (∃ F' ms', Parts W base d F' (crashTo A fs (pre.map (·.1))) mref ms' ∧ ∀ k ∈ F', k ∈ F) ∧ Turn F w W ∧
  W.heap[w.heap.size]? = some (.cells #[.pointer (some ⟨d, 0, none⟩)] 23 (0, 0)) ∧ W.heap[w.heap.size + 1]? = some (.cells #[v] 35 (0, 0)) ∧ W.heap[w.heap.size + 1 + 1]? = some (.cells #[.int .i64 pre.length] 3 (0, 0))

set_option maxRecDepth 100000 in
set_option maxHeartbeats 2000000 in
theorem crash_any (h : Parts w base d F A mref ms) (v : Value) (fs : List UInt8) (hxk : ∀ Z, Turn F w Z → SliceAt Z v (fs.map encB)) (hfl : fs.length ≤ 9223372036854775807) :
    Calls Tryd.prog 19 #[.pointer (some ⟨d, 0, none⟩), v] w fun e w' => e = .returned (.tuple #[]) ∧ Did w w' base d F (A.crash fs) := by
  have hdF := h.mem_self
  have hdlt := h.lt d hdF
  have hx := hxk w (Turn.refl _ _)
  have hvf : ∃ xa xc, v = .slice xa fs.length xc := by
    rcases hx with ⟨rfl, hb⟩ | ⟨a, c, rfl, _⟩
    · have : fs = [] := by simpa using hb
      subst this; exact ⟨_, _, rfl⟩
    · exact ⟨some a, c, by simp⟩
  obtain ⟨xa, xc, rfl⟩ := hvf
  refine (callsIn_wide (n := 7)).1 ?_
  have H : Hid (Parts w base d F A mref ms) := h
  have HX : Hid (SliceAt w (.slice xa fs.length xc) (fs.map encB)) := hx
  have HXK : Hid (∀ Z, Turn F w Z → SliceAt Z (.slice xa fs.length xc) (fs.map encB)) := hxk
  clear h hx hxk
  have f1 : Fence.wide.fn 53 := trivial
  refine callsIn_of_wp_marks Tryd.func19 rfl trivial ?_ rfl
  simp only [Tryd.ntmps19, List.size_toArray, List.length_cons, List.length_nil, Nat.reduceAdd, Nat.reduceSub, Array.replicate_succ, Array.replicate_zero, List.push_toArray, List.append_toArray, List.nil_append, List.cons_append]
  gi_wp2_with (gi_at_call 53; refine (callsIn_wide.2 (callsIn_wide.1 (names_in d _ _))).mono ?_; rintro e w' ⟨rfl, rfl⟩)
  obtain ⟨W3, hW3⟩ : ∃ W3, (((w.alloc (.cells #[.pointer (some ⟨d, 0, none⟩)] 23)).alloc (.cells #[.slice xa fs.length xc] 35)).alloc (.cells #[.int .i64 0] 3)) = W3 := ⟨_, rfl⟩
  have hs3 : W3.heap.size = w.heap.size + 3 := by rw [← hW3]; simp
  have hb3 : Below w.heap.size w W3 := by
    rw [← hW3]
    exact (((Below.refl _ w).alloc (Nat.le_refl _) _).alloc (by simp) _).alloc (by simp; omega) _
  have hd3 : W3.heap[w.heap.size]? = some (.cells #[.pointer (some ⟨d, 0, none⟩)] 23 (0, 0)) := by
    rw [← hW3, Below.heap_alloc _ _ _ (by simp; omega), Below.heap_alloc _ _ _ (by simp)]; exact heap_new w _
  have hf3 : W3.heap[w.heap.size + 1]? = some (.cells #[.slice xa fs.length xc] 35 (0, 0)) := by
    rw [← hW3, Below.heap_alloc _ _ _ (by simp)]
    have := heap_new (w.alloc (.cells #[.pointer (some ⟨d, 0, none⟩)] 23)) (.cells #[.slice xa fs.length xc] 35)
    rwa [World.size_alloc] at this
  have hk3 : W3.heap[w.heap.size + 1 + 1]? = some (.cells #[.int .i64 0] 3 (0, 0)) := by
    rw [← hW3]
    have := heap_new ((w.alloc (.cells #[.pointer (some ⟨d, 0, none⟩)] 23)).alloc (.cells #[.slice xa fs.length xc] 35)) (.cells #[.int .i64 0] 3)
    rwa [World.size_alloc, World.size_alloc] at this
  simp only [hW3]
  obtain ⟨W5, hW5⟩ : ∃ W5, (W3.alloc (.cells #[.pointer (some ⟨d, 0, none⟩)] 23)).alloc (.cells #[.string { data := #[] }] 9) = W5 := ⟨_, rfl⟩
  have hs5 : W5.heap.size = w.heap.size + 5 := by rw [← hW5]; simp [hs3]
  have hb5 : Turn [] W3 W5 := by rw [← hW5]; exact ((Turn.refl [] W3).alloc _).alloc _
  have hB1 : W5.heap[w.heap.size + 1 + 1 + 1]? = some (.cells #[.pointer (some ⟨d, 0, none⟩)] 23 (0, 0)) := by
    rw [← hW5, Below.heap_alloc _ _ _ (by simp [hs3])]
    have := heap_new W3 (.cells #[.pointer (some ⟨d, 0, none⟩)] 23)
    rwa [hs3] at this
  have hB2 : W5.heap[w.heap.size + 1 + 1 + 1 + 1]? = some (.cells #[.string { data := #[] }] 9 (0, 0)) := by
    rw [← hW5]
    have := heap_new (W3.alloc (.cells #[.pointer (some ⟨d, 0, none⟩)] 23)) (.cells #[.string { data := #[] }] 9)
    rwa [World.size_alloc, hs3] at this
  have hFlt := H.out.lt
  have htw5 : Turn [] w W5 := (Turn.of_below hb3 []).same hb5
  have hP5 : Parts W5 base d F A mref ms := H.out.kept htw5 (by simp)
  have hI5 : CrashI w base d F A mref (.slice xa fs.length xc) fs [] W5 :=
    ⟨⟨F, ms, hP5, fun _ hk => hk⟩, htw5.mono (by simp), hb5.heap hd3 (by simp), hb5.heap hf3 (by simp), hb5.heap hk3 (by simp)⟩
  have hseq := iter_stops hP5 { data := #[] } (by simp [maxLen, ByteArray.size]) (w.heap.size + 1 + 1 + 1) (w.heap.size + 1 + 1 + 1 + 1) hB1 hB2 (F ++ [w.heap.size + 1 + 1])
    (by intro k hk; rcases List.mem_append.1 hk with hk | hk; · have := hFlt k hk; omega
        · simp only [List.mem_singleton] at hk; omega)
    (by intro hk; rcases List.mem_append.1 hk with hk | hk; · have := hFlt _ hk; omega
        · simp only [List.mem_singleton] at hk; omega)
  rw [hW5]
  have HSeq : Hid (SeqStopsK Fence.wide 6 Tryd.prog 87 #[.pointer (some ⟨w.heap.size + 1 + 1 + 1, 0, none⟩), .pointer (some ⟨w.heap.size + 1 + 1 + 1 + 1, 0, none⟩)] (fun x : NameIn A => #[encStr x.1]) (KpT (F ++ [w.heap.size + 1 + 1]))
      (fun xs => xs = namesAt A ({ data := #[] } : ByteArray).data.toList) (fun pre => pre <+: namesAt A ({ data := #[] } : ByteArray).data.toList) (namesAt A ({ data := #[] } : ByteArray).data.toList).length W5) := hseq
  have HI5 : Hid (CrashI w base d F A mref (.slice xa fs.length xc) fs [] W5) := hI5
  clear hd3 hf3 hk3 hB1 hB2 htw5 hP5 hI5 hseq hb5 hb3 hW5 hW3 f1
  refine wpIn_rangeFunc_ownG rfl (by omega) (gf := 87) (lb := #[.pointer (some ⟨w.heap.size + 1 + 1 + 1, 0, none⟩), .pointer (some ⟨w.heap.size + 1 + 1 + 1 + 1, 0, none⟩)]) rfl trivial (enters_of Tryd.func87 (by kernel_rfl) rfl)
    HSeq.out (fun h k => kpT_t h k) (fun W l o o' h1 h2 h3 h4 => kpT_b (w := W5) W l o o' h1 h2 h3 h4) (Below.refl _ _) (fun _ => rfl)
    (CrashI w base d F A mref (.slice xa fs.length xc) fs) (fun _ _ _ => False) ?own (fun _ _ _ _ _ hs _ _ => hs) HI5.out
    (fun x => { tmps := #[.pointer (some ⟨d, 0, none⟩), .slice xa fs.length xc, .pointer (some ⟨w.heap.size, 0, none⟩), .pointer (some ⟨w.heap.size + 1, 0, none⟩), .pointer (some ⟨w.heap.size + 1 + 1, 0, none⟩), encStr x.1, undef, .pointer (some ⟨d, 0, none⟩), .bool false, .pointer (some ⟨d, 0, none⟩),
      .func (.func 87) #[] #[.pointer (some ⟨w.heap.size + 1 + 1 + 1, 0, none⟩), .pointer (some ⟨w.heap.size + 1 + 1 + 1 + 1, 0, none⟩)], encStr x.1, undef, undef, undef, undef, undef, undef, undef, undef, undef, undef, undef, undef, undef, undef, undef, undef, undef, undef, undef, undef, undef, undef, undef, undef, undef, undef, undef, undef, undef, undef, undef, undef, undef, undef, undef], defers := [] }) ?assign ?body ?done ?stop
  case own =>
    rintro pre X Y row ⟨⟨F', ms', hP, hF'⟩, ht, hd, hf, hk⟩ hg hr
    have t : Turn row.toList X Y := (Turn.refl _ _).grown hg (by intro k hk; exact .inl (by simp [hk]))
    have hrow : ∀ k ∈ row.toList, w.heap.size + 5 ≤ k := by
      intro k hk
      simp only [Option.mem_toList] at hk
      have := (hr k hk).1
      omega
    refine ⟨⟨F', ms', hP.kept t (fun k hk e => ?_), hF'⟩, ht.trans t (fun k hk => .inr (by have := hrow k hk; omega)), t.heap hd (fun e => ?_), t.heap hf (fun e => ?_), t.heap hk (fun e => ?_)⟩
    · have := hrow k e; have := hFlt k (hF' k hk); omega
    · have := hrow _ e; omega
    · have := hrow _ e; omega
    · have := hrow _ e; omega
  case assign =>
    intro l x W K hK
    gi_wp2
    exact hK
  case body =>
    rintro l pre x W ⟨⟨F', ms', hP, hF'⟩, ht, hd, hf, hk⟩ hlen
    have hmx : (Tryd.prog).follows .mixedOrders = true := by kernel_rfl
    have hxn : x.1 ∈ (crashTo A fs (pre.map (·.1))).files.map (·.name) := by
      rw [crashTo_names]
      have := x.2
      unfold sortedN at this
      rwa [List.mem_mergeSort] at this
    obtain ⟨m, hm⟩ := find_name hP hxn
    obtain ⟨pr, po, rfl, hnm⟩ := split_at hm
    have hfa := hP.each m (by simp)
    obtain ⟨sa, sc, hsl, hsl1, hsl2⟩ := hfa.2.form
    have hxl : x.1.length ≤ maxLen := by have := sortedN_short H.out.good x.1 x.2; simp only [maxLen]; omega
    have hlook := hP.map.look (s := ⟨x.1.toArray⟩) (by rw [encStr_size]; exact hxl)
    rw [show (⟨x.1.toArray⟩ : ByteArray).data.toList = x.1 by simp, hm] at hlook
    simp only [ptrOf] at hlook
    have c1 := hP.c1
    have cd : W.cell? ⟨w.heap.size, 0, none⟩ = some (.pointer (some ⟨d, 0, none⟩)) := by rw [cell_of hd]; rfl
    have cv : W.cell? ⟨w.heap.size + 1, 0, none⟩ = some (.slice xa fs.length xc) := by rw [cell_of hf]; rfl
    have ck : W.cell? ⟨w.heap.size + 1 + 1, 0, none⟩ = some (.int .i64 pre.length) := by rw [cell_of hk]; rfl
    have cf : W.cell? ⟨m.blk, 0, none⟩ = some (.slice sa m.abs.bytes.length sc) := by rw [cell_of hfa.1, hsl]; rfl
    have cg : W.cell? ⟨m.blk, 1, none⟩ = some (.int .i64 m.abs.safe) := by rw [cell_of hfa.1]; rfl
    have hgood := hP.good
    have hfilm : m.abs ∈ (crashTo A fs (pre.map (·.1))).files := by rw [hP.files]; simp
    have hsafe := hgood.safe m.abs hfilm
    have hbytes : m.abs.bytes.length ≤ 1048576 := by
      have h1 := hgood.used
      have h2 := hgood.room
      rw [hP.files, List.map_append, List.map_cons, usedL_split] at h1
      omega
    have hplen : pre.length ≤ 200 := by
      have h1 : (namesAt A ({ data := #[] } : ByteArray).data.toList).length ≤ 200 := by
        have h2 : (namesAt A ({ data := #[] } : ByteArray).data.toList).length ≤ (sortedN A).attach.length := List.length_filter_le _ _
        have h3 := H.out.good.count
        rw [List.length_attach, sortedN_len] at h2
        omega
      omega
    have hfate := fun Z (hZ : Turn F w Z) => fate_any Z (.slice xa fs.length xc) fs (HXK.out Z hZ) pre.length (by omega) (by omega)
    have hfn : fateN fs pre.length ≤ 255 := by
      unfold fateN; split
      · omega
      · have := UInt8.toNat_lt (fs.getD (pre.length % fs.length) 0); omega
    obtain ⟨n, hn⟩ : ∃ n, n = min (m.abs.safe + fateN fs pre.length) m.abs.bytes.length := ⟨_, rfl⟩
    have hnle : n ≤ m.abs.bytes.length := by omega
    have hwr : IntKind.i64.wrap ((m.abs.safe : Int) + (fateN fs pre.length : Int)) = (m.abs.safe : Int) + (fateN fs pre.length : Int) := by
      rw [IntWalk.i64_left, IntWalk.wrap64_in _ (by omega)]
    have hmin : ∀ ts t w, (Builtin.min_ ts t #[.int .i64 ((m.abs.safe : Int) + (fateN fs pre.length : Int)), .int .i64 (m.abs.bytes.length : Int)]).run Tryd.prog w = .ok (.int .i64 (n : Int)) w := by
      intro ts t w
      rw [run_min2]
      congr 2
      split <;> omega
    have hnb : m.blk ∉ m.sl.ownBlock := by
      have hnd := hP.nodup
      rw [hP.foot] at hnd
      simp only [List.flatMap_append, List.flatMap_cons, List.nodup_cons, List.nodup_append, FileM.foot] at hnd
      intro e
      exact hnd.2.2.1.2.1.1.1 (by simpa using e)
    have hkeep := fun Z (hZ : Turn [] W Z) => keep_any (hfa.kept hZ (by simp)) hnb n hnle hbytes hsafe
    have hlt1 : m.blk < w.heap.size := hFlt _ (hF' _ (hP.mem_file (m := m) (by simp) (by simp [FileM.foot])))
    have HFate : Hid (∀ Z, Turn F w Z → Calls Tryd.prog 54 #[.slice xa fs.length xc, .int .i64 pre.length] Z fun e w' => e = .returned (.int .i64 (fateN fs pre.length)) ∧ Z = w') := hfate
    have HKeep : Hid (∀ Z, Turn [] W Z → Calls Tryd.prog 49 #[.pointer (some ⟨m.blk, 0, none⟩), .int .i64 n] Z fun e w' => e = .returned (.tuple #[]) ∧ FileAt w' base ⟨{ m.abs with bytes := m.abs.bytes.take n, safe := min m.abs.safe n }, m.blk, cutSl m.sl n⟩ ∧ Turn [m.blk] Z w') := hkeep
    have HP : Hid (Parts W base d F' (crashTo A fs (pre.map (·.1))) mref (pr ++ m :: po)) := hP
    have HT : Hid (Turn F w W) := ht
    have HN : Hid (n = min (m.abs.safe + fateN fs pre.length) m.abs.bytes.length) := hn
    have HNM : Hid (m.abs.name = x.1) := hnm
    have HNB : Hid (m.blk ∉ m.sl.ownBlock) := hnb
    have HC : Hid (cutSl m.sl n = .slice sa n n) := by show _ = _; rw [hsl]; rfl
    have HLT : Hid (m.blk < w.heap.size) := hlt1
    have hwk : IntKind.i64.wrap ((pre.length : Int) + 1) = (pre.length : Int) + 1 := by rw [IntWalk.i64_left, IntWalk.wrap64_in _ (by omega)]
    have g1 : Fence.wide.fn 54 := trivial
    have g2 : Fence.wide.fn 49 := trivial
    unfold encStr
    have HD : Hid (W.heap[w.heap.size]? = _) := hd
    have HFv : Hid (W.heap[w.heap.size + 1]? = _) := hf
    have HK : Hid (W.heap[w.heap.size + 1 + 1]? = _) := hk
    clear hP ht hfa hsl hm hn hnm hfate hkeep hgood hfilm hxn hd hf hk hnb hlen
    gi_wp2
    refine wpIn_round_quiet_last (m := 15) rfl rfl hmx (by kernel_rfl) (by kernel_rfl) ?_
    simp only [List.take_succ_cons, List.take_zero]
    repeat (any_goals (first | go_big_quiet_step ((go_at_call 54; exact Calls.quiet_of_same ((HFate.out _ (by exact HT.out.drewN _)).mono (fun e w' ⟨he, hw'⟩ => ⟨he, hw'.symm⟩)))) | quiet_step (fail)))
    refine wpQuiet_nil ?_
    intro _ hw'
    obtain ⟨nq, hw''⟩ := hw'
    subst hw''
    gi_wp2_with fail
    refine (CallsIn.inRound l (callsIn_wide.2 (HKeep.out _ (by exact (Turn.refl [] W).drewN _)))).mono ?_
    rintro e W2 ⟨rfl, hfa2, ht2⟩
    have HA2 : Hid (FileAt W2 base ⟨{ m.abs with bytes := m.abs.bytes.take n, safe := min m.abs.safe n }, m.blk, cutSl m.sl n⟩) := hfa2
    have HT2 : Hid (Turn [m.blk] (W.drewN nq) W2) := ht2
    have b1 : W2.cell? ⟨m.blk, 0, none⟩ = some (.slice sa n n) := by rw [cell_of hfa2.1, HC.out]; rfl
    have b2 : W2.frozen? ⟨m.blk, 1, none⟩ = false := frozen_of hfa2.1 1
    have hkk : W2.heap[w.heap.size + 1 + 1]? = some (.cells #[.int .i64 pre.length] 3 (0, 0)) := by
      refine ht2.heap (by simpa using HK.out) ?_
      have := HLT.out
      simp; omega
    have b3 : W2.cell? ⟨w.heap.size + 1 + 1, 0, none⟩ = some (.int .i64 pre.length) := by rw [cell_of hkk]; rfl
    have b5 : W2.cell? ⟨m.blk, 1, none⟩ = some (.int .i64 (min m.abs.safe n : Nat)) := by rw [cell_of hfa2.1]; rfl
    have n1 : (w.heap.size + 1 + 1 == m.blk) = false := by have := HLT.out; rw [beq_eq_false_iff_ne]; omega
    have n2 : ¬ (w.heap.size + 1 + 1 = m.blk) := by have := HLT.out; omega
    have n3 : ¬ (m.blk = w.heap.size + 1 + 1) := by have := HLT.out; omega
    have b4 : W2.frozen? ⟨w.heap.size + 1 + 1, 0, none⟩ = false := frozen_of hkk 0
    have HKK : Hid (W2.heap[w.heap.size + 1 + 1]? = some (.cells #[.int .i64 pre.length] 3 (0, 0))) := hkk
    clear hfa2 ht2 hkk
    gi_wp2
    have t1 : Turn [m.blk] W (W2.setCell ⟨m.blk, 1, none⟩ (.int .i64 n)) := (((Turn.refl [m.blk] W).drewN nq).same HT2.out).setCell (by simp) _
    have t2 : Turn [w.heap.size + 1 + 1] (W2.setCell ⟨m.blk, 1, none⟩ (.int .i64 n)) ((W2.setCell ⟨m.blk, 1, none⟩ (.int .i64 n)).setCell ⟨w.heap.size + 1 + 1, 0, none⟩ (.int .i64 (pre.length + 1))) := (Turn.refl _ _).setCell (by simp) _
    have hnew : FileAt (W2.setCell ⟨m.blk, 1, none⟩ (.int .i64 n)) base ⟨crash1 fs pre.length m.abs, m.blk, cutSl m.sl n⟩ := by
      have e1 : crash1 fs pre.length m.abs = { m.abs with bytes := m.abs.bytes.take n, safe := n } := by unfold crash1; rw [← HN.out]
      rw [e1]
      refine ⟨by rw [heap_set HA2.out.1 1]; simp, ?_⟩
      exact HA2.out.2.kept (S := [m.blk]) ((Turn.refl _ _).setCell (by simp) _) (by
        intro k hk e
        simp only [List.mem_singleton] at e
        subst e
        exact HNB.out (cutSl_own m.sl n _ hk))
    have hgood : Good ((crashTo A fs (pre.map (·.1))).upd m.abs.name (crash1 fs pre.length)) := HP.out.good.upd (fun _ _ => rfl) (fun f _ _ => by simp only [crash1, List.length_take]; omega) (Nat.le_trans (usedL_le (fun f _ => by simp only [crash1, List.length_take]; omega)) HP.out.good.used)
    obtain ⟨F'', hP2, hsub, _⟩ := HP.out.setFile (m' := ⟨crash1 fs pre.length m.abs, m.blk, cutSl m.sl n⟩) rfl rfl (t1.mono (by intro k hk; simp only [List.mem_singleton] at hk; subst hk; exact .inl (by simp [FileM.foot]))) hnew (fun k hk => .inl (cutSl_own m.sl n k hk)) (A' := (crashTo A fs (pre.map (·.1))).upd m.abs.name (crash1 fs pre.length)) rfl rfl rfl (upd_at HP.out _) hgood
    have hF2 : ∀ k ∈ F'', k ∈ F := by
      intro k hk
      rcases hsub k hk with h1 | h1
      · exact hF' k h1
      · exact hF' k (HP.out.mem_file (m := m) (by simp) (by simp only [FileM.foot, List.mem_cons, Option.mem_toList]; exact .inr (cutSl_own m.sl n k h1)))
    have hmF : m.blk ∈ F := hF' _ (HP.out.mem_file (m := m) (by simp) (by simp [FileM.foot]))
    have hall : Turn (m.blk :: [w.heap.size + 1 + 1]) W ((W2.setCell ⟨m.blk, 1, none⟩ (.int .i64 n)).setCell ⟨w.heap.size + 1 + 1, 0, none⟩ (.int .i64 (pre.length + 1))) := (t1.mono (by intro k hk; exact .inl (by simp at hk; simp [hk]))).trans t2 (by intro k hk; exact .inl (by simp at hk; simp [hk]))
    refine ⟨keepsFrom_of_turn hall ?_, KpT.of_turn hall ?_, ⟨F'', pr ++ ⟨crash1 fs pre.length m.abs, m.blk, cutSl m.sl n⟩ :: po, ?_, hF2⟩, HT.out.trans hall ?_, hall.heap HD.out ?_, hall.heap HFv.out ?_, ?_⟩
    · intro k hk
      have := HLT.out
      simp only [List.mem_cons, List.not_mem_nil, or_false] at hk
      rcases hk with rfl | rfl <;> omega
    · intro k hk
      simp only [List.mem_cons, List.not_mem_nil, or_false] at hk
      rcases hk with rfl | rfl
      · exact .inl (by simp [hmF])
      · exact .inl (by simp)
    · have e2 : crashTo A fs ((pre ++ [x]).map (·.1)) = (crashTo A fs (pre.map (·.1))).upd m.abs.name (crash1 fs pre.length) := by
        rw [List.map_append, List.map_cons, List.map_nil, crashTo_snoc, HNM.out, List.length_map]
      rw [e2]
      exact hP2.kept t2 (by intro k hk e; have := hFlt k (hF2 k hk); simp only [List.mem_singleton] at e; omega)
    · intro k hk
      simp only [List.mem_cons, List.not_mem_nil, or_false] at hk
      rcases hk with rfl | rfl
      · exact .inl hmF
      · exact .inr (by omega)
    · intro e
      have := HLT.out
      simp only [List.mem_cons, List.not_mem_nil, or_false] at e
      omega
    · intro e
      have := HLT.out
      simp only [List.mem_cons, List.not_mem_nil, or_false] at e
      omega
    · rw [heap_set (show (W2.setCell ⟨m.blk, 1, none⟩ (.int .i64 n)).heap[w.heap.size + 1 + 1]? = some (.cells #[.int .i64 pre.length] 3 (0, 0)) from ((Turn.refl [m.blk] W2).setCell (by simp) _).heap HKK.out (by simp; exact n2)) 0]
      simp
  case done =>
    rintro D xs W hD rfl ⟨⟨F', ms', hP, hF'⟩, ht, hd, hf, hk⟩ hK
    have cd : W.cell? ⟨w.heap.size, 0, none⟩ = some (.pointer (some ⟨d, 0, none⟩)) := by rw [cell_of hd]; rfl
    have c2 := hP.c2
    have ff : W.frozen? ⟨d, 2, none⟩ = false := frozen_of hP.self 2
    have HP : Hid (Parts W base d F' (crashTo A fs ((namesAt A ({ data := #[] } : ByteArray).data.toList).map (·.1))) mref ms') := hP
    have HT : Hid (Turn F w W) := ht
    have HK : Hid (W.heap[D]? = some (.deferred (some []))) := hK
    clear hP ht hd hf hk hK
    gi_wp2
    have hne : D ≠ d := by omega
    have hK' : (W.setCell ⟨d, 2, none⟩ (.bool false)).heap[D]? = some (.deferred (some [])) := ((Turn.refl [d] W).setCell (by simp) _).heap HK.out (by simpa using hne)
    have ht1 : Turn [d] W ((W.setCell ⟨d, 2, none⟩ (.bool false)).putObj D (.deferred none)) ∨ True := .inr trivial
    refine ⟨by simp, .inl ⟨_, _, rfl, run_takeDeferred hK', ?_⟩⟩
    have eN : (namesAt A ([] : List UInt8)).map (·.1) = sortedN A := by
      rw [namesAt_val]; unfold namesOf; rw [List.filter_eq_self]; intro a _; simp [preL]
    have hP := HP.out
    simp only [show ({ data := #[] } : ByteArray).data.toList = [] from rfl, eN] at hP
    have hPs : Parts (W.setCell ⟨d, 2, none⟩ (.bool false)) base d F' (A.crash fs) mref ms' := by
      refine hP.setSelf ((Turn.refl _ _).setCell (by simp) _) ?_ rfl ?_
      · rw [heap_set hP.self 2]; simp [DA.crash]
      · have hg := hP.good
        exact { room := hg.room, used := hg.used, count := hg.count, names := hg.names, short := hg.short, safe := hg.safe, left := by intro h; simp [DA.crash] at h }
    have tS : Turn F w (W.setCell ⟨d, 2, none⟩ (.bool false)) := HT.out.setCell (.inl hdF) _
    have tD : Turn [D] (W.setCell ⟨d, 2, none⟩ (.bool false)) ((W.setCell ⟨d, 2, none⟩ (.bool false)).putObj D (.deferred none)) := by
      refine ⟨rfl, rfl, rfl, by simp, fun k _ hn => ?_⟩
      exact World.putObj_heap_other (by simpa using hn)
    have hfin : Did w ((W.setCell ⟨d, 2, none⟩ (.bool false)).putObj D (.deferred none)) base d F (A.crash fs) := by
      refine ⟨F', ⟨_, _, hPs.kept tD ?_⟩, tS.trans tD ?_, fun k hk => .inl (hF' k hk)⟩
      · intro k hk e
        have := hFlt k (hF' k hk)
        simp only [List.mem_singleton] at e
        omega
      · intro k hk
        simp only [List.mem_singleton] at hk
        exact .inr (by omega)
    clear ht1
    refine ⟨.tuple #[], ?_, rfl, hfin⟩
    simp [results, Tryd.f19, go_sem]
  case stop =>
    rintro D c pre W hD _ h _
    exact h.elim
end

end Go.Proofs.YtlcgcckllecjpaaDoor.Dk
