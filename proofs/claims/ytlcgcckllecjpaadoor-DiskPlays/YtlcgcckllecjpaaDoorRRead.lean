/- The document's disk: Size, Read. -/
import Derived.Test.YtlcgcckllecjpaaDoorRDisk
import Derived.Test.YtlcgcckllecjpaaDoorClone
import Derived.Test.YtlcgcckllecjpaaDoorAppB
import Derived.Test.YtlcgcckllecjpaaDoorPutN
namespace Go.Proofs.YtlcgcckllecjpaaDoor.Dk
open Go.RowKit Go.Maps
set_option maxRecDepth 100000
set_option linter.unusedSimpArgs false
set_option linter.unusedVariables false

def findR (ms : List RM) (nm : List UInt8) : Option RM := ms.find? (fun m => m.abs.name == nm)
theorem idx_some {ms : List RM} {nm : List UInt8} {k : Nat} (h : idxM ms nm = some k) : ∃ hk : k < ms.length, findR ms nm = some ms[k] ∧ ms[k].abs.name = nm := by
  unfold idxM at h
  obtain ⟨hk, h1, h2⟩ := List.findIdx?_eq_some_iff_getElem.1 h
  refine ⟨hk, ?_, by simpa using h1⟩
  unfold findR
  rw [List.find?_eq_some_iff_getElem]
  exact ⟨h1, k, hk, rfl, fun j hj => by simpa using h2 j hj⟩
theorem idx_none {ms : List RM} {nm : List UInt8} (h : idxM ms nm = none) : findR ms nm = none := by
  unfold idxM at h
  rw [List.findIdx?_eq_none_iff] at h
  unfold findR
  rw [List.find?_eq_none]
  intro x hx
  simpa using h x hx
def sizeR (o : Option RM) : Int := match o with
  | some m => m.abs.bytes.length
  | none => -1
def bytesR (o : Option RM) : List UInt8 := match o with
  | some m => m.abs.bytes
  | none => []

set_option maxHeartbeats 1000000 in
theorem refSize_any {w : World} {r : Nat} {sv : Value} {ms : List RM} {room : Nat} {left : Int} (h : RefAt w r sv ms room left) (hl : ms.length ≤ 1000000) (nm : List UInt8) :
    Calls Tryd.prog 24 #[.pointer (some ⟨r, 0, none⟩), .string ⟨nm.toArray⟩] w fun e w' => e = .returned (.int .i64 (sizeR (findR ms nm))) ∧ Turn [] w w' := by
  obtain ⟨a, c, rfl, hlc, hcm⟩ := h.form
  have hmx : maxLen = 9223372036854775807 := by simp [maxLen]
  rw [hmx] at hcm
  have H := hide h
  clear h
  have HAT := hide (at_any H.out hl nm)
  unfold idxI at HAT
  rcases hi : idxM ms nm with _ | k
  · rw [idx_none hi]
    rw [hi] at HAT
    clear hi
    go_enter Tryd.func24, Tryd.ntmps24
    go_wp2_with fail
    refine HAT.out.mono ?_
    rintro e w1 ⟨rfl, ht⟩
    have HT := hide ht
    clear ht
    go_wp2
    go_ret
    exact ⟨rfl, HT.out⟩
  · obtain ⟨hk, hf, -⟩ := idx_some hi
    rw [hf]
    rw [hi] at HAT
    clear hi hf
    go_enter Tryd.func24, Tryd.ntmps24
    go_wp2_with fail
    refine HAT.out.mono ?_
    rintro e w1 ⟨rfl, ht⟩
    have HT := hide ht
    obtain ⟨c0, -, -⟩ := (H.out.still ht).c
    obtain ⟨p, rfl, g0, g1, g2, q, d, hq, -, -⟩ := (H.out.still ht).three hk
    rw [hq] at g1
    clear ht hq
    go_wp2
    go_ret
    exact ⟨rfl, HT.out⟩

/-- What a reading from a place on has found behind some rounds. -/
def gotN (bs : List UInt8) (i0 n : Nat) : List UInt8 := (bs.drop i0).take n
theorem gotN_succ {bs : List UInt8} {i0 n : Nat} (h : i0 + n < bs.length) : gotN bs i0 (n + 1) = gotN bs i0 n ++ [bs[i0 + n]] := by
  unfold gotN
  rw [List.take_succ_eq_append_getElem (by simp; omega)]
  simp
theorem gotN_len {bs : List UInt8} {i0 n : Nat} (h : i0 + n ≤ bs.length) : (gotN bs i0 n).length = n := by
  unfold gotN; simp; omega
theorem readL_got {bs : List UInt8} {off n : Nat} {most : Int} (h1 : n = 0 ∨ off + n ≤ bs.length) (h2 : (n : Int) ≤ max most 0) (h3 : bs.length ≤ off + n ∨ most ≤ n) : readL bs off most = gotN bs off n := by
  unfold readL gotN
  split
  · rename_i h
    rcases h with h | h | h
    · omega
    · have : n = 0 := by omega
      subst this; simp
    · have : n = 0 := by omega
      subst this; simp
  · rename_i h
    rw [Int.toNat_natCast]
    by_cases hm : most ≤ n
    · have : most.toNat = n := by omega
      rw [this]
    · have hl : bs.length ≤ off + n := by omega
      rw [List.take_of_length_le (by simp; omega), List.take_of_length_le (by simp; omega)]

set_option maxHeartbeats 4000000 in
theorem refRead_any {w : World} {r : Nat} {sv : Value} {ms : List RM} {room : Nat} {left : Int} (h : RefAt w r sv ms room left) (hl : ms.length ≤ 1000000) (hu : ∀ m ∈ ms, m.abs.bytes.length ≤ 1048576) (nm : List UInt8) (off most : Int) (ho : off ≤ 9223372036854775807) :
    Calls Tryd.prog 29 #[.pointer (some ⟨r, 0, none⟩), .string ⟨nm.toArray⟩, .int .i64 off, .int .i64 most] w fun e w' => ∃ v, e = .returned v ∧ BytesAt w' v (readL (bytesR (findR ms nm)) off most) ∧ Turn [] w w' := by
  obtain ⟨a, c, rfl, hlc, hcm⟩ := h.form
  have hmx : maxLen = 9223372036854775807 := by simp [maxLen]
  rw [hmx] at hcm
  have H := hide h
  clear h
  have nil0 : ∀ Z, BytesAt Z (.slice none 0 0) [] := fun Z => ⟨none, 0, rfl, Nat.le_refl _, Nat.zero_le _, fun _ => rfl, fun j hj => absurd hj (Nat.not_lt_zero _)⟩
  have NIL := hide nil0
  clear nil0
  have HAT := hide (at_any H.out hl nm)
  unfold idxI at HAT
  rcases hi : idxM ms nm with _ | k
  · rw [idx_none hi]
    rw [hi] at HAT
    clear hi
    go_enter Tryd.func29, Tryd.ntmps29
    go_wp2_with fail
    refine HAT.out.mono ?_
    rintro e w1 ⟨rfl, ht⟩
    have HT := hide ht
    clear ht
    go_wp2
    go_ret
    refine ⟨_, rfl, ?_, HT.out⟩
    have : readL (bytesR none) off most = [] := by unfold readL; split <;> simp [bytesR]
    rw [this]
    exact NIL.out _
  · obtain ⟨hk, hf, -⟩ := idx_some hi
    rw [hf]
    rw [hi] at HAT
    clear hi hf
    have hmk := hu _ (List.getElem_mem hk)
    clear hu
    by_cases ho0 : off < 0
    · go_enter Tryd.func29, Tryd.ntmps29
      go_wp2_with fail
      refine HAT.out.mono ?_
      rintro e w1 ⟨rfl, ht⟩
      have HT := hide ht
      clear ht
      go_wp2
      go_ret
      refine ⟨_, rfl, ?_, HT.out⟩
      rw [show readL (bytesR (some ms[k])) off most = [] by unfold readL; rw [if_pos (.inl ho0)]]
      exact NIL.out _
    · obtain ⟨o, rfl⟩ := Int.eq_ofNat_of_zero_le (show 0 ≤ off by omega)
      obtain ⟨bs, hbs⟩ : ∃ bs, bs = ms[k].abs.bytes := ⟨_, rfl⟩
      rw [show bytesR (some ms[k]) = bs from hbs.symm]
      rw [← hbs] at hmk
      have HBS := hide hbs
      clear hbs
      go_enter Tryd.func29, Tryd.ntmps29
      go_wp2_with fail
      refine HAT.out.mono ?_
      rintro e w1 ⟨rfl, ht⟩
      have HT := hide ht
      clear ht
      go_wp2
      go_loopw [9, 11] (fun out i wr => ∃ n : Nat, i = .int .i64 ((o + n : Nat) : Int) ∧ (n = 0 ∨ o + n ≤ bs.length) ∧ (n : Int) ≤ max most 0 ∧ RowAt wr 5 w.heap.size out (gotN bs o n) ∧ Turn [] w wr) (fun _ i _ => bs.length - (intOf i).toNat)
      case atStart => exact ⟨0, by simp, .inl rfl, by omega, .inl ⟨rfl, by simp [gotN]⟩, HT.out⟩
      case round =>
        obtain ⟨n, rfl, hn1, hn2, hrow, ht⟩ := hrel
        have HTR := hide ht
        have HROW := hide hrow
        obtain ⟨c0, -, -⟩ := (H.out.still ht).c
        obtain ⟨p, rfl, g0, g1, g2, q, d, hq, -, -⟩ := (H.out.still ht).three hk
        have hby := ((H.out.still ht).each _ (List.getElem_mem hk)).1
        rw [hq] at g1 hby
        clear g0 g2
        rw [← HBS.out] at g1 hby
        obtain ⟨oa, oc, hv, hoc, -⟩ := hrow.form
        subst hv
        clear ht hrow hq
        have hgl : (gotN bs o n).length = n := by
          rcases hn1 with rfl | h
          · simp [gotN]
          · exact gotN_len h
        rw [hgl] at HROW hoc ⊢
        by_cases hlt : o + n < bs.length
        · by_cases hm : (n : Int) < most
          · obtain ⟨q', d', e1, -, -, hcells⟩ := hby.form
            obtain ⟨p', hp', hcell⟩ := hcells (o + n) hlt
            obtain ⟨b, hb⟩ : ∃ b, b = bs[o + n] := ⟨_, rfl⟩
            rw [← hb] at hcell
            simp only [Value.slice.injEq] at e1
            obtain ⟨rfl, -, rfl⟩ := e1
            subst hp'
            have hsz := HTR.out.size
            obtain ⟨v7, w7, hr7, hrow7, ht7, hown7⟩ := app_bytes (wr.alloc (.cells #[.int .u8 b.toNat] 5)) w.heap.size (.slice oa n oc) (.slice (some ⟨wr.heap.size, 0, none⟩) 1 1) (gotN bs o n) [b] (HROW.out.kept ((Turn.refl [] wr).alloc _) (by simp)) (one_byte wr b) (by rw [hgl]; simp; omega) (by simp; omega)
            have HS := hide (gotN_succ hlt)
            rw [← hb] at HS
            have HR7 := hide hr7
            have HROW7 := hide hrow7
            have ht7' := HTR.out.trans (((Turn.refl [] wr).alloc (.cells #[.int .u8 b.toNat] 5)).mono (T := (Value.slice oa n oc).ownBlock.toList) (by simp) |>.same ht7) (fun k hk => .inr (HROW.out.lt k (by simpa using hk)).1)
            have HT7 := hide ht7'
            clear hby hcells hb hr7 hrow7 ht7 hown7 hgl ht7' hsz
            go_wp2_with (at_builtin; go_must (refine wpList_append_told rfl rfl rfl rfl HR7.out ?_))
            refine ⟨⟨n + 1, by go_num, .inr (by omega), by omega, by rw [HS.out]; exact HROW7.out, HT7.out⟩, ?_⟩
            simp only [intOf]; omega
          · clear hby
            go_wp2
            go_ret
            refine ⟨_, rfl, ?_, HTR.out⟩
            rw [readL_got hn1 hn2 (.inr (by omega))]
            have := HROW.out.bytes
            exact this
        · clear hby
          go_wp2
          go_ret
          refine ⟨_, rfl, ?_, HTR.out⟩
          rw [readL_got hn1 hn2 (.inl (by omega))]
          have := HROW.out.bytes
          exact this
end Go.Proofs.YtlcgcckllecjpaaDoor.Dk
