/- What a batch's bytes tell is that batch again, whatever stands behind them; of a beginning of them, that it is too short; bytes of which one changed are none. -/
import Derived.Test.YtlcgcckllecjpaaDecP
import Derived.Test.YtlcgcckllecjpaaBit
namespace Go.Proofs.Ytlcgcckllecjpaa
set_option maxRecDepth 100000
set_option linter.unusedSimpArgs false
set_option linter.unusedVariables false

theorem fourV_enc {x : Bt.Bat} (h : Bt.encErr x = 0) (more : List UInt8) : Bt.fourV (Bt.encB x ++ more) = (Bt.encB x).length := by
  obtain ⟨hc, hl⟩ := Bt.encErr_ok h
  have hlx := Bt.encB_len x
  rw [hlx]
  unfold Bt.encB
  rw [List.append_assoc, List.append_assoc]
  exact Bt.fourV_four (by omega) _
theorem dec_enc {x : Bt.Bat} (h : Bt.encErr x = 0) (more : List UInt8) : dec (Bt.encB x ++ more) = (x, (Bt.encB x).length, 0) := by
  obtain ⟨hc, hl⟩ := Bt.encErr_ok h
  have hlx := Bt.encB_len x
  have hb := body_pos x
  have hf := fourV_enc h more
  have ht : (Bt.encB x ++ more).take (Bt.encB x).length = Bt.encB x := by simp
  have hm : midB (Bt.encB x ++ more) = Bt.body x := by unfold midB; rw [hf, ht, Bt.encB_drop]
  unfold dec
  rw [hm, Bt.bat1_body hc, hf, List.length_append]
  generalize (Bt.encB x).length = L at *
  rw [if_neg (by omega), if_neg (by omega), if_neg (by omega), if_pos ⟨h, by rw [hf, ht]⟩]
theorem dec_short {x : Bt.Bat} (h : Bt.encErr x = 0) {k : Nat} (hk : k < (Bt.encB x).length) : dec ((Bt.encB x).take k) = (noBat, 0, 12) := by
  obtain ⟨hc, hl⟩ := Bt.encErr_ok h
  have hlx := Bt.encB_len x
  have hb := body_pos x
  have hf := fourV_enc h []
  rw [List.append_nil] at hf
  have hkl : ((Bt.encB x).take k).length = k := by rw [List.length_take]; exact Nat.min_eq_left (Nat.le_of_lt hk)
  unfold dec
  rw [hkl]
  by_cases h8 : k < 8
  · rw [if_pos h8]
  · have hf' : Bt.fourV ((Bt.encB x).take k) = (Bt.encB x).length := by
      rw [← hf]
      unfold Bt.fourV
      simp only [List.getD_eq_getElem?_getD, List.getElem?_take]
      rw [if_pos (by omega), if_pos (by omega), if_pos (by omega), if_pos (by omega)]
    rw [hf']
    generalize (Bt.encB x).length = L at *
    rw [if_neg h8, if_neg (by omega), if_pos hk]
theorem dec_bit {x : Bt.Bat} (h : Bt.encErr x = 0) (pre post : List UInt8) {c d : UInt8} (hcd : c ≠ d) (hb : Bt.encB x = pre ++ c :: post) : (dec (pre ++ d :: post)).2.2 ≠ 0 := by
  intro h0
  have hlen : (pre ++ d :: post).length = (Bt.encB x).length := by rw [hb]; simp
  unfold dec at h0
  split at h0
  · simp at h0
  split at h0
  · simp at h0
  split at h0
  · simp at h0
  rename_i h1
  split at h0
  · rename_i h2
    exact Bt.bit_seen h h2.1 pre post hcd hb (by rw [← hlen]; exact Nat.le_of_not_lt h1) h2.2
  · simp at h0
end Go.Proofs.Ytlcgcckllecjpaa
