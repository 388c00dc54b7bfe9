/- Names of segments: the library's variables that are read; segment.Name, conveyorref.Told of one number, conveyorref.SegName. -/
import Derived.Test.YtlcgcckllecjpaaDoorNShelf
import Derived.Test.YtlcgcckllecjpaaDoorNameM
import Derived.Test.YtlcgcckllecjpaaDoorTurn
import Derived.Test.YtlcgcckllecjpaaDoorArgs
import Derived.Lib.ItoaLen
import Derived.Lib.ItoaMem
import Derived.Lib.Repeat
import Derived.LoopIn
namespace Go.Proofs.YtlcgcckllecjpaaDoor.Sn
open Go.Lib Go.RowKit
set_option linter.unusedSimpArgs false
set_option linter.unusedVariables false
attribute [local go_sem] Oper.semAt_some

/-- The library's variables lie as its own text lays them. -/
structure VarT (w : World) : Prop where
  tab : TabIs Tryd.prog w "internal/strconv.uint64pow10" .u64 pow10Tab
  syn : ∃ tp p, w.var? Tryd.prog "strconv.ErrSyntax" = some #[.iface tp p]
  rng : ∃ tp p, w.var? Tryd.prog "strconv.ErrRange" = some #[.iface tp p]

theorem var_below {w w' : World} {n : String} {cs : Array Value} (hb : Below w.heap.size w w') (h : w.var? Tryd.prog n = some cs) : w'.var? Tryd.prog n = some cs := by
  unfold World.var? at h ⊢
  cases hg : Tryd.prog.globalNamed n with
  | none => rw [hg] at h; cases h
  | some g =>
    rw [hg] at h
    simp only [Option.bind_some] at h ⊢
    by_cases hl : g < w.heap.size
    · rw [hb.block g hl]; exact h
    · rw [Array.getElem?_eq_none (by omega)] at h; cases h
theorem VarT.below {w w' : World} (h : VarT w) (hb : Below w.heap.size w w') : VarT w' :=
  ⟨var_below hb h.tab, h.syn.imp fun tp ⟨p, e⟩ => ⟨p, var_below hb e⟩, h.rng.imp fun tp ⟨p, e⟩ => ⟨p, var_below hb e⟩⟩
theorem below_grow (w : World) (k : Nat) (os : Array Obj) : Below w.heap.size w (Go.Sort.grow (w.drewN k) os) :=
  ⟨rfl, rfl, rfl, by simp [Go.Sort.grow], fun i hi => by simp [Go.Sort.grow, Array.getElem?_append_left hi]⟩
theorem below_bytes (w : World) (e : TypeId) (s : ByteArray) : Below w.heap.size w (bytesWorld w e s) :=
  ⟨rfl, rfl, rfl, by rw [bytesWorld_size]; omega, fun j hj => bytesWorld_at_old w e s j hj⟩
theorem below_step {a b c : World} (h : Below a.heap.size a b) (k : Below b.heap.size b c) : Below a.heap.size a c := h.trans (k.mono h.size)

theorem itoa_any (n : Nat) (hn : n ≤ 1099511627776) (w : World) (hv : VarT w) :
    Calls Tryd.prog 75 #[.int .i64 (n : Int)] w fun e w' => ∃ S : ByteArray, e = .returned (.string S) ∧ S.data.toList = decDigits n ∧ Below w.heap.size w w' := by
  refine (Tryd.strconv_Itoa (n : Int) (by omega) (by omega) w hv.tab).mono ?_
  rintro e w' ⟨rfl, k, os, rfl⟩
  exact ⟨_, rfl, by simp [itoa_nonneg], below_grow w k os⟩
theorem rep_zero : ∀ c, repeatL [48] c = List.replicate c 48
  | 0 => rfl
  | c + 1 => by rw [repeatL, rep_zero c]; rfl
theorem dec_short {n : Nat} (hn : n ≤ 1099511627776) : (decDigits n).length ≤ 21 := by
  have := itoa_length_le (n : Int) (by omega) (by omega)
  rwa [itoa_nonneg] at this

theorem rep_any (c : Nat) (hc : c ≤ 10) (w : World) :
    Calls Tryd.prog 76 #[.string ⟨#[48]⟩, .int .i64 (c : Int)] w fun e w' => ∃ R : ByteArray, e = .returned (.string R) ∧ R.data.toList = List.replicate c 48 ∧ Below w.heap.size w w' := by
  refine (Tryd.strings_Repeat ⟨#[48]⟩ c w (by omega) (by show 1 * c ≤ _; omega)).mono ?_
  rintro e w' ⟨rfl, hb⟩
  exact ⟨_, rfl, by simp [rep_zero], hb⟩
/-- A segment's file, as a text. -/
def nameB (dir : ByteArray) (n : Nat) : ByteArray := ⟨(nameL dir.data.toList n).toArray⟩

theorem nameB_of {dir S R : ByteArray} (n : Nat) (hS : S.data.toList = decDigits n) (hR : R.data.toList = List.replicate (10 - S.size) 48) : dir ++ ⟨#[47]⟩ ++ R ++ S ++ ⟨#[46, 108, 111, 103]⟩ = nameB dir n := by
  apply ByteArray.ext
  apply Array.toList_inj.1
  unfold nameB nameL pad
  have hz : S.size = (decDigits n).length := by rw [size_eq, hS]
  simp [ByteArray.data_append, hS, hR, hz]

set_option maxHeartbeats 1000000 in
theorem name_any (dir : ByteArray) (n : Nat) (hn : n ≤ 1099511627776) (hd : dir.size ≤ 1000) (w : World) (hv : VarT w) :
    Calls Tryd.prog 41 #[.string dir, .int .i64 (n : Int)] w fun e w' => e = .returned (.string (nameB dir n)) ∧ Below w.heap.size w w' := by
  have HV := hide hv
  clear hv
  go_enter Tryd.func41, Tryd.ntmps41
  go_wp2_with fail
  refine (itoa_any n hn _ HV.out).mono ?_
  rintro e w1 ⟨S, rfl, hS, hb1⟩
  have hsz : S.size ≤ 21 := by rw [size_eq, hS]; exact dec_short hn
  have hmax : max (10 - (S.size : Int)) 0 = ((10 - S.size : Nat) : Int) := by omega
  go_wp2_with fail
  clear hmax
  refine (rep_any (10 - S.size) (by omega) _).mono ?_
  rintro e w2 ⟨R, rfl, hR, hb2⟩
  have HE : Hid (dir ++ ⟨#[47]⟩ ++ R ++ S ++ ⟨#[46, 108, 111, 103]⟩ = nameB dir n) := nameB_of n hS hR
  have hRs : R.size ≤ 10 := by rw [size_eq, hR]; simp
  clear hS hR
  go_wp2_with fail
  go_ret
  exact ⟨by rw [← HE.out]; rfl, below_step hb1 hb2⟩

theorem oper_append1 {P : Program} {o : Oper} {a : Act} {K : Act → World → Prop} {Q : Exit → Act → World → Prop} {w w' : World} {s x : Operand} {t tx : TypeId} {v xv v' : Value}
    (ho : o.op = .call { callee := .builtin .append, args := #[s, x], argTypes := #[t, tx] }) (hs : a.eval s = v) (hx : a.eval x = xv) (hr : (Builtin.append_ #[t, tx] o.type #[v, xv]).run P w = .ok v' w') (h : K (a.put o.dst v') w') : o.wp P a w K Q := by
  unfold Oper.wp execOp
  simp only [ho, resolve, invoke, builtin, Sem.run_bind, Sem.run_pure, Result.andThen_ok, List.map_toArray, List.map_cons, List.map_nil, hs, hx, hr]
  exact h
theorem wpList_append1 {P : Program} {ops : Array Oper} {rest : List Oper} {o : Oper} {a : Act} {Q : Exit → Act → World → Prop} {w w' : World} (hgd : o.guard = none) {s x : Operand} {t tx : TypeId} {v xv v' : Value}
    (ho : o.op = .call { callee := .builtin .append, args := #[s, x], argTypes := #[t, tx] }) (hs : a.eval s = v) (hx : a.eval x = xv) (hr : (Builtin.append_ #[t, tx] o.type #[v, xv]).run P w = .ok v' w') (h : wpList P ops Q rest (a.put o.dst v') w') : wpList P ops Q (o :: rest) a w :=
  wpList_plain hgd fun _ hK => oper_append1 ho hs hx hr (hK _ _ h)
theorem Tryd.infoSt : (Tryd.prog.info? 9).map (fun i => (i.zero, i.size, i.bytes)) = some (some (.string ⟨#[]⟩), 1, 16) := by kernel_rfl
theorem info_parts1 {P : Program} {t : TypeId} {z : Value} {s b : Nat} (h : (P.info? t).map (fun i => (i.zero, i.size, i.bytes)) = some (some z, s, b)) : ∃ i, P.info? t = some i ∧ i.zero = some z ∧ i.size = s ∧ i.bytes = b := by
  obtain ⟨i, hi, e⟩ := Option.map_eq_some_iff.1 h
  simp only [Prod.mk.injEq] at e
  exact ⟨i, hi, e.1, e.2.1, e.2.2⟩

theorem join_one (S : ByteArray) (bk c : Nat) (w : World) (hc : w.cell? ⟨bk, 0, none⟩ = some (.string S)) (hb : bk < w.heap.size) (h1 : 1 ≤ c) (hs : S.size ≤ 100) :
    Calls Tryd.prog 108 #[.slice (some ⟨bk, 0, none⟩) 1 c, .string ⟨#[32]⟩] w fun e w' => e = .returned (.string S) ∧ Below w.heap.size w w' := by
  have hj : Lib.join ([S].map (·.data.toList)) (⟨#[32]⟩ : ByteArray).data.toList = S.data.toList := by simp [Lib.join]
  refine (Tryd.strings_Join bk 0 c [S] ⟨#[32]⟩ w (fun j x hx => ?_) hb (by simp) h1 (by rw [hj, ← size_eq]; omega)).mono ?_
  · cases j with
    | zero => simp at hx; subst hx; exact hc
    | succ j => simp at hx
  · rintro e w' ⟨rfl, h⟩
    exact ⟨by rw [hj], h⟩

set_option maxHeartbeats 1000000 in
theorem told_any (n : Nat) (hn : n ≤ 1099511627776) (b : Nat) (w : World) (hb : w.cell? ⟨b, 0, none⟩ = some (.int .i64 (n : Int))) (hv : VarT w) :
    Calls Tryd.prog 77 #[.slice (some ⟨b, 0, none⟩) 1 1] w fun e w' => ∃ S : ByteArray, e = .returned (.string S) ∧ S.data.toList = decDigits n ∧ Below w.heap.size w w' := by
  have HV := hide hv
  clear hv
  go_enter Tryd.func77, Tryd.ntmps77
  go_wp2
  refine wp_loop_rounds 2 ?_
  rw [rounds_succ]
  go_wp2_with fail
  refine (itoa_any n hn _ HV.out).mono ?_
  rintro e w1 ⟨S, rfl, hS, hb1⟩
  have HS := hide hS
  have HB1 := hide hb1
  clear hS hb1 hb
  obtain ⟨i, hi, hz, hs, hby⟩ := info_parts1 Tryd.infoSt
  have hr := run_append_nil (P := Tryd.prog) (w1.alloc (.cells #[.string S] 9)) 34 34 9 i _ Tryd.underlying34 hi hz ⟨w1.heap.size, 0, none⟩ 1 1 [.string S] (by simp [hs]) (fun j v hj => by
    cases j with
    | zero => simp at hj; subst hj; rw [addr_add, cell_of (heap_new w1 _)]; rfl
    | succ j => simp at hj) (by omega) (by omega) (by rw [hby]; omega)
  have HR := hide hr
  clear hr hz hi hs hby
  go_wp2_with (at_builtin; go_must (refine wpList_append1 rfl rfl rfl rfl HR.out ?_; clear HR))
  rw [rounds_succ]
  go_wp2_with fail
  refine (join_one S _ _ _ ?_ (by simp) (grownCap_ge _ _ _ _) (by rw [size_eq, HS.out]; have := dec_short hn; omega)).mono ?_
  · have h2 := heap_new (w1.alloc (.cells #[.string S] 9)) (.cells (#[.string S] ++ Builtin.zeroCells #[.string ⟨#[]⟩] (grownCap (w1.alloc (.cells #[.string S] 9)) 1 0 9 - 1)) 9)
    simp only [World.size_alloc] at h2
    have h3 := cell_of h2 0
    rw [show ((w1.alloc (.cells #[.string S] 9)).alloc (.cells (#[.string S] ++ Builtin.zeroCells #[.string ⟨#[]⟩] (grownCap (w1.alloc (.cells #[.string S] 9)) 1 0 9 - 1)) 9)).drew.cell? ⟨w1.heap.size + 1, 0, none⟩ = ((w1.alloc (.cells #[.string S] 9)).alloc (.cells (#[.string S] ++ Builtin.zeroCells #[.string ⟨#[]⟩] (grownCap (w1.alloc (.cells #[.string S] 9)) 1 0 9 - 1)) 9)).cell? ⟨w1.heap.size + 1, 0, none⟩ from rfl, h3]
    rw [Array.getElem?_append_left (by simp)]
    rfl
  rintro e w2 ⟨rfl, hb2⟩
  go_wp2_with fail
  go_ret
  refine ⟨S, rfl, HS.out, below_step HB1.out (below_step ((((Below.refl _ w1).alloc (Nat.le_refl _) _).alloc (by simp) _).drew) hb2)⟩

set_option maxHeartbeats 1000000 in
theorem segName_any (dir : ByteArray) (n : Nat) (hn : n ≤ 1099511627776) (hd : dir.size ≤ 1000) (w : World) (hv : VarT w) :
    Calls Tryd.prog 42 #[.string dir, .int .i64 (n : Int)] w fun e w' => e = .returned (.string (nameB dir n)) ∧ Below w.heap.size w w' := by
  have HV := hide hv
  clear hv
  go_enter Tryd.func42, Tryd.ntmps42
  go_wp2_with fail
  refine (told_any n hn _ _ (cell_of (heap_new w _) 0) (HV.out.below ((Below.refl _ w).alloc (Nat.le_refl _) _))).mono ?_
  rintro e w1 ⟨S, rfl, hS, hb1⟩
  have HS := hide hS
  have HB1 := hide (below_step ((Below.refl _ w).alloc (Nat.le_refl _) _) hb1)
  have hs1 := dec_short hn
  clear hS hb1
  go_wp2_with fail
  go_loop [5] (fun t => ∃ T : ByteArray, t = .string T ∧ ∃ k : Nat, T.data.toList = List.replicate k 48 ++ decDigits n ∧ (k = 0 ∨ T.size ≤ 10)) (fun t => match t with | .string T => 10 - T.size | _ => 0)
  case atStart => exact ⟨S, rfl, 0, by simpa using HS.out, .inl rfl⟩
  case round =>
    obtain ⟨T, rfl, k, hT, hk⟩ := hrel
    have HT := hide hT
    have HK := hide hk
    have hts : T.size = k + (decDigits n).length := by rw [size_eq, hT]; simp
    have hub : T.size ≤ 21 := by rcases hk with rfl | h <;> omega
    clear hT hk
    by_cases hlt : T.size < 10
    · go_wp2_with fail
      go_round
      case rel =>
        refine ⟨_, rfl, k + 1, ?_, .inr ?_⟩
        · simp [ByteArray.data_append, HT.out, List.replicate_succ]
        · rw [ByteArray.size_append]; show 1 + T.size ≤ 10; omega
      case measure =>
        show 10 - ((⟨#[48]⟩ : ByteArray) ++ T).size < 10 - T.size
        rw [ByteArray.size_append]
        show 10 - (1 + T.size) < 10 - T.size
        omega
    · have hk2 : k = 10 - (decDigits n).length := by rcases HK.out with rfl | h <;> omega
      have HE : Hid (dir ++ ⟨#[47]⟩ ++ T ++ ⟨#[46, 108, 111, 103]⟩ = nameB dir n) := by
        apply ByteArray.ext
        apply Array.toList_inj.1
        unfold nameB nameL pad
        simp [ByteArray.data_append, HT.out, hk2]
      go_wp2_with fail
      go_ret
      exact ⟨by rw [← HE.out]; rfl, HB1.out⟩
end Go.Proofs.YtlcgcckllecjpaaDoor.Sn
