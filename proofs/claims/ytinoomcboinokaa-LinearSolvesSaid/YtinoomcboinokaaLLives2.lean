/- cayleylaw05: lives. -/
import Derived.Test.YtinoomcboinokaaLLives
namespace Go.Proofs.Ytinoomcboinokaa
open Go Go.RowKit Num

theorem grid_on {w w' : World} {S : Nat → Prop} {v : Value} {m : Nat} {n : Nat → Nat} {f : Nat → Nat → Int} (h : Grid w S v m n f) (hS : ∀ b, S b → b < w.heap.size) (hb : Below w.heap.size w w') : Grid w' (· < w'.heap.size) v m n f := (h.below hS hb).more fun _ h => Nat.lt_of_lt_of_le (hS _ h) hb.size
theorem ex_chkM : chkM 5 3 (fun _ => 2) exK = 0 := chkM_full (p := 5) mod5 (by omega) (by omega) (by omega) (by omega) (fun i hi j hj => by unfold exK; split <;> split <;> first | omega | (split <;> omega))
theorem below_drewN' {B : Nat} {W W1 : World} (h : Below B W W1) (k : Nat) : Below B W (W1.drewN k) := ⟨h.os, h.tape, h.output, h.size, h.block⟩
set_option maxRecDepth 100000 in
set_option maxHeartbeats 2000000 in
theorem lives_any (w : World) : Calls Try.prog 4 #[] w (Ret w (.bool true)) := by
  have hmod : modB 5 = true := mod5
  have hB0 : chkB 3 5 (chkL 3 (fun _ => 3) 3) = 0 := chkB_ok hmod (by omega) (by omega) (by omega) (fun _ _ => rfl)
  have hI0 : chkI 3 5 3 (fun _ => 3) 3 = 0 := chkI_ok hmod (by omega) (by omega) (by omega) (fun _ _ => rfl) rfl
  go_enter Try.func4, Try.ntmps4
  go_wp2_with fail
  refine (rows_any _).mono ?_
  rintro e w1 ⟨A1, c1, rfl, hg1, hb1⟩
  have HG1 := Lib.hid (hg1.more (S' := (· < w1.heap.size)) fun _ h => h.2)
  have HB1 := Lib.hid hb1
  clear hg1 hb1
  go_wp2_with fail
  refine (Basis_any 5 3 (.slice A1 3 c1) 3 (fun _ => 3) exF w1 (by omega) HG1.out).mono ?_
  rintro e w2 ⟨-, h2⟩
  obtain ⟨v, rfl, hgv, hb2⟩ := h2 hB0
  change Grid w2 _ v (pivL 3 (elimR 5 3 (invI 5) (rowsL 3 exF 3))).length _ (basF 3 (elimR 5 3 (invI 5) (rowsL 3 exF 3))) at hgv
  rw [ex_len] at hgv
  obtain ⟨Av, cv, rfl, -⟩ := hgv.form
  have HGV := Lib.hid (hgv.more (S' := (· < w2.heap.size)) fun _ h => h.2)
  have HB2 := Lib.hid (HB1.out.trans (hb2.mono HB1.out.size))
  clear hgv hb2 h2
  go_wp2_with fail
  refine (rows_any _).mono ?_
  rintro e w3 ⟨A3, c3, rfl, hg3, hb3⟩
  have HG3 := Lib.hid (hg3.more (S' := (· < w3.heap.size)) fun _ h => h.2)
  have HB3 := Lib.hid (HB2.out.trans (hb3.mono HB2.out.size))
  have HGV3 := Lib.hid (grid_on HGV.out (fun _ h => h) hb3)
  have hr3 := row_new (W := w3) rfl 3 #[.int .i64 3, .int .i64 1, .int .i64 4]
  have hbb3 := (Below.refl w3.heap.size w3).alloc (Nat.le_refl _) (.cells #[.int .i64 3, .int .i64 1, .int .i64 4] 3)
  have HB3a := Lib.hid hbb3
  have HV3 := Lib.hid (row3_vec (fun b => b < (w3.alloc (.cells #[.int .i64 3, .int .i64 1, .int .i64 4] 3)).heap.size) (f := exV) hr3 hr3.lt rfl rfl rfl)
  clear hg3 hb3 hr3 hbb3
  go_wp2_with fail
  refine (In_any 5 3 (.slice A3 3 c3) _ 3 3 (fun _ => 3) exF exV _ (by omega) (by omega) (grid_on HG3.out (fun _ h => h) HB3a.out) HV3.out).mono ?_
  rintro e w4 h4
  rw [hI0, if_pos rfl] at h4
  obtain ⟨rfl, hb4⟩ := h4
  rw [show inB 5 (3 : Int).toNat (elimL 5 (3 : Int).toNat 3 exF) exV = true from ex_in]
  have HB4 := Lib.hid (HB3.out.trans ((HB3a.out.trans (hb4.mono HB3a.out.size)).mono HB3.out.size))
  have HGV4 := Lib.hid (grid_on HGV3.out (fun _ h => h) (HB3a.out.trans (hb4.mono HB3a.out.size)))
  clear hb4
  obtain ⟨wk, hwk⟩ : ∃ wk, (((w4.alloc (.cells #[.int .i64 1, .int .i64 2] 3)).alloc (.cells #[.int .i64 2, .int .i64 4] 3)).alloc (.cells #[.int .i64 0, .int .i64 1] 3)).alloc (.cells #[.slice (some ⟨w4.heap.size, 0, none⟩) 2 2, .slice (some ⟨w4.heap.size + 1, 0, none⟩) 2 2, .slice (some ⟨w4.heap.size + 1 + 1, 0, none⟩) 2 2] 22) = wk := ⟨_, rfl⟩
  have HWK := Lib.hid hwk
  have HBK := Lib.hid (show Below w4.heap.size w4 wk from by rw [← hwk]; exact (((((Below.refl w4.heap.size w4).alloc (Nat.le_refl _) _).alloc (by simp) _).alloc (by simp <;> omega) _).alloc (by simp <;> omega) _))
  have HGK := Lib.hid (show Grid wk (· < wk.heap.size) (.slice (some ⟨w4.heap.size + 1 + 1 + 1, 0, none⟩) 3 3) 3 (fun _ => 2) exK from by
    rw [← hwk]
    exact list3_grid (row_new (by simp) _ _) (by simp <;> omega) (row2_vec _ (((row_new rfl _ _).alloc _).alloc _ |>.alloc _) (by simp <;> omega) rfl rfl) (row2_vec _ (((row_new (by simp) _ _).alloc _).alloc _) (by simp <;> omega) rfl rfl) (row2_vec _ ((row_new (by simp) _ _).alloc _) (by simp <;> omega) rfl rfl))
  clear hwk
  go_wp2_with fail
  rw [HWK.out]
  refine (five_any _ _ _ _).mono ?_
  rintro e w5 ⟨rfl, hb5⟩
  have HB5 := Lib.hid (HB4.out.trans ((HBK.out.trans (hb5.mono HBK.out.size)).mono HB4.out.size))
  have HGV5 := Lib.hid (grid_on HGV4.out (fun _ h => h) (HBK.out.trans (hb5.mono HBK.out.size)))
  have HGK5 := Lib.hid (grid_on HGK.out (fun _ h => h) hb5)
  clear hb5
  go_wp2_with fail
  refine (Kernel_any 5 _ 3 (fun _ => 2) exK w5 (by omega) (fun _ _ => by omega) HGK5.out).mono ?_
  rintro e w6 ⟨-, h6⟩
  obtain ⟨vk, rfl, hgk, hb6⟩ := h6 ex_chkM
  change Grid w6 _ vk (kerL 2 3 (elimR 5 (2 + 3) (invI 5) (rowsL (2 + 3) (markF 2 exK) 3))).length _ (fun i x => rowAt (elimR 5 (2 + 3) (invI 5) (rowsL (2 + 3) (markF 2 exK) 3)) ((kerL 2 3 (elimR 5 (2 + 3) (invI 5) (rowsL (2 + 3) (markF 2 exK) 3))).getD i 0) (2 + x)) at hgk
  rw [ex_ker] at hgk
  obtain ⟨Ak, ck, rfl, -⟩ := hgk.form
  have HGK6 := Lib.hid (hgk.more (S' := (· < w6.heap.size)) fun _ h => h.2)
  have HB6 := Lib.hid (HB5.out.trans (hb6.mono HB5.out.size))
  have HGV6 := Lib.hid (grid_on HGV5.out (fun _ h => h) hb6)
  clear hgk hb6 h6
  obtain ⟨wi, hwi⟩ : ∃ wi, ((w6.alloc (.cells #[.int .i64 1, .int .i64 2, .int .i64 0] 3)).alloc (.cells #[.int .i64 0, .int .i64 0, .int .i64 1] 3)).alloc (.cells #[.slice (some ⟨w6.heap.size, 0, none⟩) 3 3, .slice (some ⟨w6.heap.size + 1, 0, none⟩) 3 3] 22) = wi := ⟨_, rfl⟩
  have HWI := Lib.hid hwi
  have HBI := Lib.hid (show Below w6.heap.size w6 wi from by rw [← hwi]; exact ((((Below.refl w6.heap.size w6).alloc (Nat.le_refl _) _).alloc (by simp) _).alloc (by simp <;> omega) _))
  have HGI := Lib.hid (show Grid wi (· < wi.heap.size) (.slice (some ⟨w6.heap.size + 1 + 1, 0, none⟩) 2 2) 2 (fun _ => 3) (M3 1 2 0 0 0 1 0 0 0) from by
    rw [← hwi]
    exact list2_grid (row_new (by simp) _ _) (by simp <;> omega) (row3_vec _ ((row_new rfl _ _).alloc _ |>.alloc _) (by simp <;> omega) rfl rfl rfl) (row3_vec _ ((row_new (by simp) _ _).alloc _) (by simp <;> omega) rfl rfl rfl))
  clear hwi
  go_wp2_with fail
  rw [HWI.out]
  refine (is_any (.slice Av 2 cv) _ 2 (fun _ => 3) (basF 3 (elimR 5 3 (invI 5) (rowsL 3 exF 3))) (M3 1 2 0 0 0 1 0 0 0) wi _ _ (by omega) (fun _ _ => by omega) (grid_on HGV6.out (fun _ h => h) HBI.out) HGI.out).mono ?_
  rintro e w7 ⟨rfl, k7, hw7⟩
  rw [ex_basis]
  have HB7 := Lib.hid (show Below w.heap.size w w7 from by rw [hw7]; exact below_drewN' (HB6.out.trans (HBI.out.mono HB6.out.size)) k7)
  have HB67 := Lib.hid (show Below w6.heap.size w6 w7 from by rw [hw7]; exact below_drewN' HBI.out k7)
  clear hw7
  obtain ⟨wj, hwj⟩ : ∃ wj, (w7.alloc (.cells #[.int .i64 1, .int .i64 2, .int .i64 0] 3)).alloc (.cells #[.slice (some ⟨w7.heap.size, 0, none⟩) 3 3] 22) = wj := ⟨_, rfl⟩
  have HWJ := Lib.hid hwj
  have HBJ := Lib.hid (show Below w7.heap.size w7 wj from by rw [← hwj]; exact (((Below.refl w7.heap.size w7).alloc (Nat.le_refl _) _).alloc (by simp) _))
  have HGJ := Lib.hid (show Grid wj (· < wj.heap.size) (.slice (some ⟨w7.heap.size + 1, 0, none⟩) 1 1) 1 (fun _ => 3) (M3 1 2 0 0 0 0 0 0 0) from by
    rw [← hwj]
    exact list1_grid (row_new (by simp) _ _) (by simp <;> omega) (row3_vec _ ((row_new rfl _ _).alloc _) (by simp <;> omega) rfl rfl rfl))
  clear hwj
  go_wp2_with fail
  rw [HWJ.out]
  refine (is_any (.slice Ak 1 ck) _ 1 (fun _ => 3) _ (M3 1 2 0 0 0 0 0 0 0) wj _ _ (by omega) (fun _ _ => by omega) (grid_on HGK6.out (fun _ h => h) (HB67.out.trans (HBJ.out.mono HB67.out.size))) HGJ.out).mono ?_
  rintro e w8 ⟨rfl, k8, hw8⟩
  rw [ex_ker2]
  have HB8 := Lib.hid (show Below w.heap.size w w8 from by rw [hw8]; exact below_drewN' (HB7.out.trans (HBJ.out.mono HB7.out.size)) k8)
  clear hw8
  go_wp2
  go_ret
  exact ⟨rfl, HB8.out⟩
end Go.Proofs.Ytinoomcboinokaa
