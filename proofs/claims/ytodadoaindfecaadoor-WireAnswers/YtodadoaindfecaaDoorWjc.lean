/- conveyorkeep.framed; a fresh struct that is laid whole. -/
import Derived.Test.YtodadoaindfecaaDoorWjb
import Derived.Test.YtodadoaindfecaaDoorAppB
import Derived.Lib.Strings
namespace Go.Proofs.YtodadoaindfecaaDoor.Wi
open Go.RowKit Go.Maps
set_option maxRecDepth 100000
set_option linter.unusedSimpArgs false
set_option linter.unusedVariables false

def x0 : Req := ⟨3, 3, [97], 1, 0, 0, 0, 0, 300, 0, false, false, []⟩
theorem x0_ask : (askM x0).2 = 0 := by kernel_rfl
theorem x0_can : canQ x0 = x0 := by rfl
theorem x0_len : (askM x0).1.length = 11 := by kernel_rfl
theorem x0_small : askP x0 = askM x0 := askP_small (reqCl_small (by decide) (fun r hr => absurd hr (by simp [x0])))
theorem fresh_row {T : TypeId} (w : World) (zs cs : List Value) : (w.alloc (.cells zs.toArray T)).heap[w.heap.size]? = some (.cells zs.toArray T (0, 0)) ∧
    ∀ Z, Turn [] ((w.alloc (.cells zs.toArray T)).setRow w.heap.size cs.toArray) Z → Z.heap[w.heap.size]? = some (.cells cs.toArray T (0, 0)) ∧ Turn [] w Z := by
  have h := heap_new w (.cells zs.toArray T)
  have hf := fin_row cs h ((Turn.refl [] w).alloc _) (Nat.le_refl _)
  exact ⟨h, fun Z hZ => ⟨hZ.heap hf.1 (by simp), hf.2.1.same hZ⟩⟩
theorem askM_len {x : Req} (h : (askM x).2 = 0) : 5 ≤ (askM x).1.length ∧ (askM x).1.length ≤ 10004 := by
  have hk : ¬ (x.kind < 1 ∨ 7 < x.kind) := fun hk => by unfold askM at h; rw [if_pos hk] at h; simp at h
  have he : askM x = encF (reqCl x) := by unfold askM; rw [if_neg hk]
  rw [he] at h ⊢
  obtain ⟨w1, -⟩ := whole_enc h (reqCl_ne (encF_ok h).1) []
  have := whole_ok w1
  omega
theorem tellM_len {x : Ans} (h : (tellM x).2 = 0) : 5 ≤ (tellM x).1.length ∧ (tellM x).1.length ≤ 10004 := by
  have hk : ¬ (x.kind < 1 ∨ 7 < x.kind ∨ x.err < 0 ∨ 15 < x.err) := fun hk => by unfold tellM at h; rw [if_pos hk] at h; simp at h
  have he : tellM x = encF (ansCl x) := by unfold tellM; rw [if_neg hk]
  rw [he] at h ⊢
  obtain ⟨w1, -⟩ := whole_enc h (ansCl_ne (encF_ok h).1) []
  have := whole_ok w1
  omega
theorem askP_can {x : Req} (h : (askM x).2 = 0) : askP (canQ x) = askM x := by
  have hk : ¬ (x.kind < 1 ∨ 7 < x.kind) := fun hk => by unfold askM at h; rw [if_pos hk] at h; simp at h
  have he : askM x = encF (reqCl x) := by unfold askM; rw [if_neg hk]
  rw [← askM_can x]
  refine askP_small ?_
  rw [reqCl_can]
  rw [he] at h
  exact small_of (encF_ok h).1 (reqCl_sz x)
theorem tellP_can {x : Ans} (h : (tellM x).2 = 0) : tellP (canA x) = tellM x := by
  have hk : ¬ (x.kind < 1 ∨ 7 < x.kind ∨ x.err < 0 ∨ 15 < x.err) := fun hk => by unfold tellM at h; rw [if_pos hk] at h; simp at h
  have he : tellM x = encF (ansCl x) := by unfold tellM; rw [if_neg hk]
  rw [← tellM_can x]
  refine tellP_small ?_
  rw [ansCl_can]
  rw [he] at h
  exact small_of (encF_ok h).1 (ansCl_sz x)

set_option maxHeartbeats 4000000 in
theorem framed_any (w : World) : Calls Tryd.prog 28 #[] w fun e w' => e = .returned (.bool true) ∧ Turn [] w w' := by
  obtain ⟨X, hX⟩ : ∃ X, X = x0 := ⟨_, rfl⟩
  have HX := hide hX
  have HL := hide x0_len
  go_enter Tryd.func28, Tryd.ntmps28
  go_wp2_with fail
  refine (ask_any w x0 (.slice none 0 0) (RecRow.nil _ 0) (by decide)).mono ?_
  rintro e w1 ⟨v1, rfl, hr1, ht1⟩
  rw [x0_small] at hr1 ⊢
  rw [x0_ask]
  simp only [As.errN, if_true]
  obtain ⟨a1, c1, rfl, hl1, -, -⟩ := hr1.bytes.form
  have hd := asked_ask x0_ask []
  rw [List.append_nil, x0_can] at hd
  have hasked := asked_any w1 _ (askM x0).1 hr1.bytes (by rw [x0_len]; decide)
  rw [hd] at hasked
  rw [x0_len] at hasked ⊢
  have HA := hide hasked
  have HT1 := hide ht1
  clear hd hasked hr1 ht1
  go_wp2_with fail
  refine HA.out.mono ?_
  rintro e w2 ⟨rv, rfl, hrec, ht2⟩
  obtain ⟨ra, rc, rfl, -⟩ := hrec.form
  simp only [As.errN, if_true, reqC, x0, strV]
  have HT2 := hide (HT1.out.same ht2)
  have hfr := fresh_row (T := 48) w2 [.int .i64 0, .int .i64 0, .string ⟨#[]⟩, .int .i64 0, .int .i64 0, .int .i64 0, .int .i64 0, .int .i64 0, .int .i64 0, .int .i64 0, .bool false, .bool false, .slice none 0 0] [.int .i64 3, .int .i64 3, .string ⟨[97].toArray⟩, .int .i64 1, .int .i64 0, .int .i64 0, .int .i64 0, .int .i64 0, .int .i64 300, .int .i64 0, .bool false, .bool false, .slice ra 0 rc]
  have HFR := hide hfr
  clear hfr hrec ht2
  obtain ⟨wx, hwx⟩ : ∃ wx, wx = (w2.alloc (.cells #[.int .i64 0, .int .i64 0, .string ⟨#[]⟩, .int .i64 0, .int .i64 0, .int .i64 0, .int .i64 0, .int .i64 0, .int .i64 0, .int .i64 0, .bool false, .bool false, .slice none 0 0] 48)).setRow w2.heap.size #[.int .i64 3, .int .i64 3, .string ⟨[97].toArray⟩, .int .i64 1, .int .i64 0, .int .i64 0, .int .i64 0, .int .i64 0, .int .i64 300, .int .i64 0, .bool false, .bool false, .slice ra 0 rc] := ⟨_, rfl⟩
  have HWX := hide hwx
  obtain ⟨hb, htx⟩ := HFR.out.2 wx (by rw [hwx]; exact Turn.refl _ _)
  have z0 := lt_of_heap hb
  have c0 : wx.cell? ⟨w2.heap.size, 0, none⟩ = some (.int .i64 3) := by simpa using cell_of hb 0
  have c1' : wx.cell? ⟨w2.heap.size, 1, none⟩ = some (.int .i64 3) := by simpa using cell_of hb 1
  have c2 : wx.cell? ⟨w2.heap.size, 2, none⟩ = some (.string ⟨#[97]⟩) := by simpa using cell_of hb 2
  have c3 : wx.cell? ⟨w2.heap.size, 3, none⟩ = some (.int .i64 1) := by simpa using cell_of hb 3
  have c8 : wx.cell? ⟨w2.heap.size, 8, none⟩ = some (.int .i64 300) := by simpa using cell_of hb 8
  have HTX := hide (HT2.out.same htx)
  clear hb htx hwx
  go_upto_region 3 with (refine wpList_store_row rfl _ _ _ rfl w2.heap.size #[.int .i64 3, .int .i64 3, .string ⟨[97].toArray⟩, .int .i64 1, .int .i64 0, .int .i64 0, .int .i64 0, .int .i64 0, .int .i64 300, .int .i64 0, .bool false, .bool false, .slice ra 0 rc] rfl rfl _ _ HFR.out.1 (by kernel_rfl) rfl (by kernel_rfl) ?_)
  rw [show (w2.alloc (.cells #[.int .i64 0, .int .i64 0, .string ⟨#[]⟩, .int .i64 0, .int .i64 0, .int .i64 0, .int .i64 0, .int .i64 0, .int .i64 0, .int .i64 0, .bool false, .bool false, .slice none 0 0] 48)).setRow w2.heap.size #[.int .i64 3, .int .i64 3, .string ⟨[97].toArray⟩, .int .i64 1, .int .i64 0, .int .i64 0, .int .i64 0, .int .i64 0, .int .i64 300, .int .i64 0, .bool false, .bool false, .slice ra 0 rc] = wx from HWX.out.symm]
  go_wp2
  go_ret
  exact ⟨rfl, HTX.out⟩
end Go.Proofs.YtodadoaindfecaaDoor.Wi
