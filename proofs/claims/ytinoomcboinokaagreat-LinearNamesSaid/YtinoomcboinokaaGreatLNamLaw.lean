/- cayleylaw05.LinearNames. -/
import Derived.Test.YtinoomcboinokaaGreatLNamM
namespace Go.Proofs.YtinoomcboinokaaGreat
open Go Go.RowKit Num

set_option maxRecDepth 100000 in
set_option maxHeartbeats 20000000 in
theorem linearNames_main (w : World) : Calls Tryz.prog 4 #[] w (Ret w (.bool true)) := by
  have hmod : modB ((5 : Nat) : Int) = true := mod5
  have hB3 : ∀ m, m ≤ 200 → chkB 3 5 (chkL m (fun _ => 3) 3) = 0 := fun m hm => chkB_ok hmod (by omega) (by omega) hm (fun _ _ => rfl)
  have hI0 : chkI 3 5 3 (fun _ => 3) 3 = 0 := chkI_ok hmod (by omega) (by omega) (by omega) (fun _ _ => rfl) rfl
  obtain ⟨j0, hj0, hy0, hy1, hy2⟩ := info_parts infoSl
  go_enter Tryz.func4, Tryz.ntmps4
  go_wp2_with fail
  refine (lives_any _).mono ?_
  rintro e w0 ⟨rfl, hb0⟩
  have HB_0 := Lib.hid hb0
  clear hb0
  go_wp2_with fail
  refine (rows_any _).mono ?_
  rintro e wc1 ⟨Ar1, cr1, rfl, hg1, hb1⟩
  have HB_1 := Lib.hid (HB_0.out.trans ((hb1).mono HB_0.out.size))
  clear HB_0
  have HGrows_1 := Lib.hid (hg1.more (S' := (· < wc1.heap.size)) fun _ h => h.2)
  clear hg1 hb1
  go_wp2_with fail
  refine (Rank_any 5 3 (.slice Ar1 3 cr1) 3 (fun _ => 3) exF wc1 (by omega) HGrows_1.out).mono ?_
  rintro e wc2 ⟨y2, rfl, -, hy2, hb2⟩
  rw [hB3 3 (by omega)]
  have hy := hy2 (hB3 3 (by omega))
  change y2 = (pivL 3 (elimR 5 3 (invI 5) (rowsL 3 exF 3))).length at hy
  rw [ex_len] at hy
  subst hy
  clear hy2
  have HB_2 := Lib.hid (HB_1.out.trans ((hb2).mono HB_1.out.size))
  clear HB_1 HGrows_1
  clear hb2
  go_wp2_with fail
  refine (rows_any _).mono ?_
  rintro e wc3 ⟨Ar3, cr3, rfl, hg3, hb3⟩
  have HB_3 := Lib.hid (HB_2.out.trans ((hb3).mono HB_2.out.size))
  clear HB_2
  have HGrows_3 := Lib.hid (hg3.more (S' := (· < wc3.heap.size)) fun _ h => h.2)
  clear hg3 hb3
  obtain ⟨wb4, hwk⟩ : ∃ wb4, (wc3.alloc (.cells #[.int .i64 0, .int .i64 1, .int .i64 0] 3)) = wb4 := ⟨_, rfl⟩
  have HW4 := Lib.hid hwk
  have hbk : Below wc3.heap.size wc3 wb4 := by rw [← hwk]; exact (Below.refl wc3.heap.size wc3).alloc (Nat.le_refl _) _
  have hr0 : Row wb4 (wc3.heap.size) 3 (#[.int .i64 0, .int .i64 1, .int .i64 0]) := by rw [← hwk]; exact row_new rfl _ _
  have HB_4 := Lib.hid (HB_3.out.trans ((hbk).mono HB_3.out.size))
  have HGrows_4 := Lib.hid (grid_on HGrows_3.out (fun _ h => h) (hbk))
  clear HB_3 HGrows_3
  have HV010_4 := Lib.hid (show Vec wb4 (· < wb4.heap.size) (.slice (some ⟨wc3.heap.size, 0, none⟩) 3 3) 3 (V3 0 1 0) from row3_vec _ hr0 hr0.lt rfl rfl rfl )
  clear hwk hbk hr0
  go_wp2_with fail
  rw [HW4.out]
  refine (In_any 5 3 (.slice Ar3 3 cr3) (.slice (some ⟨wc3.heap.size, 0, none⟩) 3 3) 3 3 (fun _ => 3) exF (V3 0 1 0) wb4 (by omega) (by omega) HGrows_4.out HV010_4.out).mono ?_
  rintro e wc5 h5
  rw [hI0, if_pos rfl] at h5
  obtain ⟨rfl, hb5⟩ := h5
  rw [show inB 5 (3 : Int).toNat (elimL 5 (3 : Int).toNat 3 exF) (V3 0 1 0) = false from nm_in]
  have HB_5 := Lib.hid (HB_4.out.trans ((hb5).mono HB_4.out.size))
  clear HB_4 HGrows_4 HV010_4
  clear hb5
  go_wp2_with fail
  refine (Basis_any 5 3 (.slice none 0 0) 0 (fun _ => 3) exF wc5 (by omega) ⟨none, 0, rfl, Nat.le_refl _, fun h => absurd h (by omega)⟩).mono ?_
  rintro e wc6 ⟨-, h6⟩
  obtain ⟨vn6, rfl, hgn6, hb6⟩ := h6 (hB3 0 (by omega))
  change Grid wc6 _ vn6 (pivL 3 (elimR 5 3 (invI 5) (rowsL 3 exF 0))).length _ (basF 3 (elimR 5 3 (invI 5) (rowsL 3 exF 0))) at hgn6
  rw [nm_none] at hgn6
  obtain ⟨An6, cn6, rfl, -⟩ := hgn6.form
  have HB_6 := Lib.hid (HB_5.out.trans ((hb6).mono HB_5.out.size))
  clear HB_5
  have HGn_6 := Lib.hid (hgn6.more (S' := (· < wc6.heap.size)) fun _ h => h.2)
  clear hgn6 hb6 h6
  go_wp2_with fail
  refine (is_any (.slice An6 0 cn6) (.slice none 0 0) 0 (fun _ => 3) (basF 3 (elimR 5 3 (invI 5) (rowsL 3 exF 0))) (basF 3 (elimR 5 3 (invI 5) (rowsL 3 exF 0))) wc6 _ (fun _ => True) (by omega) (fun _ _ => by omega) HGn_6.out ⟨none, 0, rfl, Nat.le_refl _, fun h => absurd h (by omega)⟩).mono ?_
  rintro e wc7 ⟨rfl, kk, hkk⟩
  have hbk7 : Below wc6.heap.size wc6 wc7 := by rw [hkk]; exact below_drewN' (Below.refl _ _) kk
  clear hkk
  rw [gridB_none]
  have HB_7 := Lib.hid (HB_6.out.trans ((hbk7).mono HB_6.out.size))
  clear HB_6 HGn_6
  clear hbk7
  obtain ⟨wb8, hwk⟩ : ∃ wb8, (((((wc7.alloc (.cells #[.int .i64 1, .int .i64 0, .int .i64 0] 3)).alloc (.cells #[.int .i64 0, .int .i64 1, .int .i64 0] 3)).alloc (.cells #[.int .i64 0, .int .i64 0, .int .i64 1] 3)).alloc (.cells #[.slice (some ⟨wc7.heap.size, 0, none⟩) 3 3] 22)).alloc (.cells #[.slice (some ⟨wc7.heap.size + 1, 0, none⟩) 3 3] 22)) = wb8 := ⟨_, rfl⟩
  have HW8 := Lib.hid hwk
  have hbk : Below wc7.heap.size wc7 wb8 := by rw [← hwk]; exact (((((Below.refl wc7.heap.size wc7).alloc (Nat.le_refl _) _).alloc (by simp <;> omega) _).alloc (by simp <;> omega) _).alloc (by simp <;> omega) _).alloc (by simp <;> omega) _
  have hr0 : Row wb8 (wc7.heap.size) 3 (#[.int .i64 1, .int .i64 0, .int .i64 0]) := by rw [← hwk]; exact ((((row_new rfl _ _).alloc _).alloc _).alloc _).alloc _
  have hr1 : Row wb8 (wc7.heap.size + 1) 3 (#[.int .i64 0, .int .i64 1, .int .i64 0]) := by rw [← hwk]; exact (((row_new (by simp) _ _).alloc _).alloc _).alloc _
  have hr2 : Row wb8 (wc7.heap.size + 1 + 1) 3 (#[.int .i64 0, .int .i64 0, .int .i64 1]) := by rw [← hwk]; exact ((row_new (by simp) _ _).alloc _).alloc _
  have hr3 : Row wb8 (wc7.heap.size + 1 + 1 + 1) 22 (#[.slice (some ⟨wc7.heap.size, 0, none⟩) 3 3]) := by rw [← hwk]; exact (row_new (by simp) _ _).alloc _
  have hr4 : Row wb8 (wc7.heap.size + 1 + 1 + 1 + 1) 22 (#[.slice (some ⟨wc7.heap.size + 1, 0, none⟩) 3 3]) := by rw [← hwk]; exact row_new (by simp) _ _
  have HB_8 := Lib.hid (HB_7.out.trans ((hbk).mono HB_7.out.size))
  clear HB_7
  have HVx_8 := Lib.hid (show Vec wb8 (· < wb8.heap.size) (.slice (some ⟨wc7.heap.size, 0, none⟩) 3 3) 3 (V3 1 0 0) from row3_vec _ hr0 hr0.lt rfl rfl rfl )
  have HVy_8 := Lib.hid (show Vec wb8 (· < wb8.heap.size) (.slice (some ⟨wc7.heap.size + 1, 0, none⟩) 3 3) 3 (V3 0 1 0) from row3_vec _ hr1 hr1.lt rfl rfl rfl )
  have HVz_8 := Lib.hid (show Vec wb8 (· < wb8.heap.size) (.slice (some ⟨wc7.heap.size + 1 + 1, 0, none⟩) 3 3) 3 (V3 0 0 1) from row3_vec _ hr2 hr2.lt rfl rfl rfl )
  have HGx_8 := Lib.hid (show Grid wb8 (· < wb8.heap.size) (.slice (some ⟨wc7.heap.size + 1 + 1 + 1, 0, none⟩) 1 1) 1 (fun _ => 3) (R1 1 0 0) from list1_grid hr3 hr3.lt (row3_vec _ hr0 hr0.lt rfl rfl rfl ))
  have HGy_8 := Lib.hid (show Grid wb8 (· < wb8.heap.size) (.slice (some ⟨wc7.heap.size + 1 + 1 + 1 + 1, 0, none⟩) 1 1) 1 (fun _ => 3) (R1 0 1 0) from list1_grid hr4 hr4.lt (row3_vec _ hr1 hr1.lt rfl rfl rfl ))
  clear hwk hbk hr0 hr1 hr2 hr3 hr4
  go_wp2_with fail
  rw [HW8.out]
  refine (Sum_ok 5 3 1 1 (.slice (some ⟨wc7.heap.size + 1 + 1 + 1, 0, none⟩) 1 1) (.slice (some ⟨wc7.heap.size + 1 + 1 + 1 + 1, 0, none⟩) 1 1) (R1 1 0 0) (R1 0 1 0) wb8 hmod (by omega) (by omega) (by omega) (by omega) HGx_8.out HGy_8.out).mono ?_
  rintro e wc9 ⟨vs9, rfl, hgs9, hb9⟩
  change Grid wc9 _ vs9 (pivL 3 (elimR 5 3 (invI 5) (rowsL 3 (catR 1 (R1 1 0 0) (R1 0 1 0)) (1 + 1)))).length _ (basF 3 (elimR 5 3 (invI 5) (rowsL 3 (catR 1 (R1 1 0 0) (R1 0 1 0)) (1 + 1)))) at hgs9
  rw [nm_sum] at hgs9
  obtain ⟨As9, cs9, rfl, -⟩ := hgs9.form
  have HB_9 := Lib.hid (HB_8.out.trans ((hb9).mono HB_8.out.size))
  have HVx_9 := Lib.hid (vec_on2 HVx_8.out (hb9))
  have HVy_9 := Lib.hid (vec_on2 HVy_8.out (hb9))
  have HVz_9 := Lib.hid (vec_on2 HVz_8.out (hb9))
  clear HB_8 HVx_8 HVy_8 HVz_8 HGx_8 HGy_8
  have HGs_9 := Lib.hid (hgs9.more (S' := (· < wc9.heap.size)) fun _ h => h.2)
  clear hgs9 hb9
  obtain ⟨wb10, hwk⟩ : ∃ wb10, ((wc9.alloc (.cells #[.slice (some ⟨wc7.heap.size, 0, none⟩) 3 3, .slice (some ⟨wc7.heap.size + 1, 0, none⟩) 3 3] 22)).alloc (.cells #[.slice (some ⟨wc7.heap.size + 1, 0, none⟩) 3 3, .slice (some ⟨wc7.heap.size + 1 + 1, 0, none⟩) 3 3] 22)) = wb10 := ⟨_, rfl⟩
  have HW10 := Lib.hid hwk
  have hbk : Below wc9.heap.size wc9 wb10 := by rw [← hwk]; exact ((Below.refl wc9.heap.size wc9).alloc (Nat.le_refl _) _).alloc (by simp <;> omega) _
  have hr0 : Row wb10 (wc9.heap.size) 22 (#[.slice (some ⟨wc7.heap.size, 0, none⟩) 3 3, .slice (some ⟨wc7.heap.size + 1, 0, none⟩) 3 3]) := by rw [← hwk]; exact (row_new rfl _ _).alloc _
  have hr1 : Row wb10 (wc9.heap.size + 1) 22 (#[.slice (some ⟨wc7.heap.size + 1, 0, none⟩) 3 3, .slice (some ⟨wc7.heap.size + 1 + 1, 0, none⟩) 3 3]) := by rw [← hwk]; exact row_new (by simp) _ _
  have HB_10 := Lib.hid (HB_9.out.trans ((hbk).mono HB_9.out.size))
  have HVx_10 := Lib.hid (vec_on2 HVx_9.out (hbk))
  have HVy_10 := Lib.hid (vec_on2 HVy_9.out (hbk))
  have HVz_10 := Lib.hid (vec_on2 HVz_9.out (hbk))
  have HGs_10 := Lib.hid (grid_on HGs_9.out (fun _ h => h) (hbk))
  clear HB_9 HVx_9 HVy_9 HVz_9 HGs_9
  have HGxy_10 := Lib.hid (show Grid wb10 (· < wb10.heap.size) (.slice (some ⟨wc9.heap.size, 0, none⟩) 2 2) 2 (fun _ => 3) (R2 1 0 0 0 1 0) from list2_grid hr0 hr0.lt (HVx_10.out.congr fun j _ => rfl) (HVy_10.out.congr fun j _ => rfl))
  have HGyz_10 := Lib.hid (show Grid wb10 (· < wb10.heap.size) (.slice (some ⟨wc9.heap.size + 1, 0, none⟩) 2 2) 2 (fun _ => 3) (R2 0 1 0 0 0 1) from list2_grid hr1 hr1.lt (HVy_10.out.congr fun j _ => rfl) (HVz_10.out.congr fun j _ => rfl))
  clear hwk hbk hr0 hr1
  go_wp2_with fail
  rw [HW10.out]
  refine (Meet_ok 5 3 2 2 (.slice (some ⟨wc9.heap.size, 0, none⟩) 2 2) (.slice (some ⟨wc9.heap.size + 1, 0, none⟩) 2 2) (R2 1 0 0 0 1 0) (R2 0 1 0 0 0 1) wb10 hmod (by omega) (by omega) (by omega) (by omega) HGxy_10.out HGyz_10.out).mono ?_
  rintro e wc11 ⟨vs11, rfl, hgs11, hb11⟩
  change Grid wc11 _ vs11 (pivL 3 (afterR 3 (elimR 5 (3 + 3) (invI 5) (rowsL (3 + 3) (wideR 2 3 (R2 1 0 0 0 1 0) (R2 0 1 0 0 0 1)) (2 + 2))))).length _ (basF 3 (afterR 3 (elimR 5 (3 + 3) (invI 5) (rowsL (3 + 3) (wideR 2 3 (R2 1 0 0 0 1 0) (R2 0 1 0 0 0 1)) (2 + 2))))) at hgs11
  rw [nm_meet] at hgs11
  obtain ⟨As11, cs11, rfl, -⟩ := hgs11.form
  have HB_11 := Lib.hid (HB_10.out.trans ((hb11).mono HB_10.out.size))
  have HVx_11 := Lib.hid (vec_on2 HVx_10.out (hb11))
  have HVy_11 := Lib.hid (vec_on2 HVy_10.out (hb11))
  have HGs_11 := Lib.hid (grid_on HGs_10.out (fun _ h => h) (hb11))
  clear HB_10 HVx_10 HVy_10 HVz_10 HGs_10 HGxy_10 HGyz_10
  have HGm_11 := Lib.hid (hgs11.more (S' := (· < wc11.heap.size)) fun _ h => h.2)
  clear hgs11 hb11
  obtain ⟨wb12, hwk⟩ : ∃ wb12, ((wc11.alloc (.cells #[.slice (some ⟨wc7.heap.size, 0, none⟩) 3 3] 22)).alloc (.cells #[.slice (some ⟨wc7.heap.size + 1, 0, none⟩) 3 3] 22)) = wb12 := ⟨_, rfl⟩
  have HW12 := Lib.hid hwk
  have hbk : Below wc11.heap.size wc11 wb12 := by rw [← hwk]; exact ((Below.refl wc11.heap.size wc11).alloc (Nat.le_refl _) _).alloc (by simp <;> omega) _
  have hr0 : Row wb12 (wc11.heap.size) 22 (#[.slice (some ⟨wc7.heap.size, 0, none⟩) 3 3]) := by rw [← hwk]; exact (row_new rfl _ _).alloc _
  have hr1 : Row wb12 (wc11.heap.size + 1) 22 (#[.slice (some ⟨wc7.heap.size + 1, 0, none⟩) 3 3]) := by rw [← hwk]; exact row_new (by simp) _ _
  have HB_12 := Lib.hid (HB_11.out.trans ((hbk).mono HB_11.out.size))
  have HVx_12 := Lib.hid (vec_on2 HVx_11.out (hbk))
  have HVy_12 := Lib.hid (vec_on2 HVy_11.out (hbk))
  have HGs_12 := Lib.hid (grid_on HGs_11.out (fun _ h => h) (hbk))
  have HGm_12 := Lib.hid (grid_on HGm_11.out (fun _ h => h) (hbk))
  clear HB_11 HVx_11 HVy_11 HGs_11 HGm_11
  have HGx_12 := Lib.hid (show Grid wb12 (· < wb12.heap.size) (.slice (some ⟨wc11.heap.size, 0, none⟩) 1 1) 1 (fun _ => 3) (R1 1 0 0) from list1_grid hr0 hr0.lt (HVx_12.out.congr fun j _ => rfl))
  have HGy_12 := Lib.hid (show Grid wb12 (· < wb12.heap.size) (.slice (some ⟨wc11.heap.size + 1, 0, none⟩) 1 1) 1 (fun _ => 3) (R1 0 1 0) from list1_grid hr1 hr1.lt (HVy_12.out.congr fun j _ => rfl))
  clear hwk hbk hr0 hr1
  go_wp2_with fail
  rw [HW12.out]
  refine (Meet_ok 5 3 1 1 (.slice (some ⟨wc11.heap.size, 0, none⟩) 1 1) (.slice (some ⟨wc11.heap.size + 1, 0, none⟩) 1 1) (R1 1 0 0) (R1 0 1 0) wb12 hmod (by omega) (by omega) (by omega) (by omega) HGx_12.out HGy_12.out).mono ?_
  rintro e wc13 ⟨vs13, rfl, hgs13, hb13⟩
  change Grid wc13 _ vs13 (pivL 3 (afterR 3 (elimR 5 (3 + 3) (invI 5) (rowsL (3 + 3) (wideR 1 3 (R1 1 0 0) (R1 0 1 0)) (1 + 1))))).length _ (basF 3 (afterR 3 (elimR 5 (3 + 3) (invI 5) (rowsL (3 + 3) (wideR 1 3 (R1 1 0 0) (R1 0 1 0)) (1 + 1))))) at hgs13
  rw [nm_apart] at hgs13
  obtain ⟨As13, cs13, rfl, -⟩ := hgs13.form
  have HB_13 := Lib.hid (HB_12.out.trans ((hb13).mono HB_12.out.size))
  have HVx_13 := Lib.hid (vec_on2 HVx_12.out (hb13))
  have HVy_13 := Lib.hid (vec_on2 HVy_12.out (hb13))
  have HGs_13 := Lib.hid (grid_on HGs_12.out (fun _ h => h) (hb13))
  have HGm_13 := Lib.hid (grid_on HGm_12.out (fun _ h => h) (hb13))
  clear HB_12 HVx_12 HVy_12 HGs_12 HGm_12 HGx_12 HGy_12
  have HGo_13 := Lib.hid (hgs13.more (S' := (· < wc13.heap.size)) fun _ h => h.2)
  clear hgs13 hb13
  obtain ⟨wb14, hwk⟩ : ∃ wb14, (wc13.alloc (.cells #[.slice (some ⟨wc7.heap.size, 0, none⟩) 3 3, .slice (some ⟨wc7.heap.size + 1, 0, none⟩) 3 3] 22)) = wb14 := ⟨_, rfl⟩
  have HW14 := Lib.hid hwk
  have hbk : Below wc13.heap.size wc13 wb14 := by rw [← hwk]; exact (Below.refl wc13.heap.size wc13).alloc (Nat.le_refl _) _
  have hr0 : Row wb14 (wc13.heap.size) 22 (#[.slice (some ⟨wc7.heap.size, 0, none⟩) 3 3, .slice (some ⟨wc7.heap.size + 1, 0, none⟩) 3 3]) := by rw [← hwk]; exact row_new rfl _ _
  have HB_14 := Lib.hid (HB_13.out.trans ((hbk).mono HB_13.out.size))
  have HVx_14 := Lib.hid (vec_on2 HVx_13.out (hbk))
  have HVy_14 := Lib.hid (vec_on2 HVy_13.out (hbk))
  have HGs_14 := Lib.hid (grid_on HGs_13.out (fun _ h => h) (hbk))
  have HGm_14 := Lib.hid (grid_on HGm_13.out (fun _ h => h) (hbk))
  have HGo_14 := Lib.hid (grid_on HGo_13.out (fun _ h => h) (hbk))
  clear HB_13 HVx_13 HVy_13 HGs_13 HGm_13 HGo_13
  have HGxy_14 := Lib.hid (show Grid wb14 (· < wb14.heap.size) (.slice (some ⟨wc13.heap.size, 0, none⟩) 2 2) 2 (fun _ => 3) (R2 1 0 0 0 1 0) from list2_grid hr0 hr0.lt (HVx_14.out.congr fun j _ => rfl) (HVy_14.out.congr fun j _ => rfl))
  clear hwk hbk hr0
  go_wp2_with fail
  rw [HW14.out]
  refine (is_any (.slice As9 2 cs9) (.slice (some ⟨wc13.heap.size, 0, none⟩) 2 2) 2 (fun _ => 3) (basF 3 (elimR 5 3 (invI 5) (rowsL 3 (catR 1 (R1 1 0 0) (R1 0 1 0)) (1 + 1)))) (R2 1 0 0 0 1 0) wb14 _ _ (by omega) (fun _ _ => by omega) HGs_14.out HGxy_14.out).mono ?_
  rintro e wc15 ⟨rfl, kk, hkk⟩
  have hbk15 : Below wb14.heap.size wb14 wc15 := by rw [hkk]; exact below_drewN' (Below.refl _ _) kk
  clear hkk
  rw [nm_sum2]
  have HB_15 := Lib.hid (HB_14.out.trans ((hbk15).mono HB_14.out.size))
  have HVy_15 := Lib.hid (vec_on2 HVy_14.out (hbk15))
  have HGm_15 := Lib.hid (grid_on HGm_14.out (fun _ h => h) (hbk15))
  have HGo_15 := Lib.hid (grid_on HGo_14.out (fun _ h => h) (hbk15))
  clear HB_14 HVx_14 HVy_14 HGs_14 HGm_14 HGo_14 HGxy_14
  clear hbk15
  obtain ⟨wb16, hwk⟩ : ∃ wb16, (wc15.alloc (.cells #[.slice (some ⟨wc7.heap.size + 1, 0, none⟩) 3 3] 22)) = wb16 := ⟨_, rfl⟩
  have HW16 := Lib.hid hwk
  have hbk : Below wc15.heap.size wc15 wb16 := by rw [← hwk]; exact (Below.refl wc15.heap.size wc15).alloc (Nat.le_refl _) _
  have hr0 : Row wb16 (wc15.heap.size) 22 (#[.slice (some ⟨wc7.heap.size + 1, 0, none⟩) 3 3]) := by rw [← hwk]; exact row_new rfl _ _
  have HB_16 := Lib.hid (HB_15.out.trans ((hbk).mono HB_15.out.size))
  have HVy_16 := Lib.hid (vec_on2 HVy_15.out (hbk))
  have HGm_16 := Lib.hid (grid_on HGm_15.out (fun _ h => h) (hbk))
  have HGo_16 := Lib.hid (grid_on HGo_15.out (fun _ h => h) (hbk))
  clear HB_15 HVy_15 HGm_15 HGo_15
  have HGy_16 := Lib.hid (show Grid wb16 (· < wb16.heap.size) (.slice (some ⟨wc15.heap.size, 0, none⟩) 1 1) 1 (fun _ => 3) (R1 0 1 0) from list1_grid hr0 hr0.lt (HVy_16.out.congr fun j _ => rfl))
  clear hwk hbk hr0
  go_wp2_with fail
  rw [HW16.out]
  refine (is_any (.slice As11 1 cs11) (.slice (some ⟨wc15.heap.size, 0, none⟩) 1 1) 1 (fun _ => 3) (basF 3 (afterR 3 (elimR 5 (3 + 3) (invI 5) (rowsL (3 + 3) (wideR 2 3 (R2 1 0 0 0 1 0) (R2 0 1 0 0 0 1)) (2 + 2))))) (R1 0 1 0) wb16 _ _ (by omega) (fun _ _ => by omega) HGm_16.out HGy_16.out).mono ?_
  rintro e wc17 ⟨rfl, kk, hkk⟩
  have hbk17 : Below wb16.heap.size wb16 wc17 := by rw [hkk]; exact below_drewN' (Below.refl _ _) kk
  clear hkk
  rw [nm_meet2]
  have HB_17 := Lib.hid (HB_16.out.trans ((hbk17).mono HB_16.out.size))
  have HGo_17 := Lib.hid (grid_on HGo_16.out (fun _ h => h) (hbk17))
  clear HB_16 HVy_16 HGm_16 HGo_16 HGy_16
  clear hbk17
  go_wp2_with fail
  refine (is_any (.slice As13 0 cs13) (.slice none 0 0) 0 (fun _ => 3) (basF 3 (afterR 3 (elimR 5 (3 + 3) (invI 5) (rowsL (3 + 3) (wideR 1 3 (R1 1 0 0) (R1 0 1 0)) (1 + 1))))) (basF 3 (afterR 3 (elimR 5 (3 + 3) (invI 5) (rowsL (3 + 3) (wideR 1 3 (R1 1 0 0) (R1 0 1 0)) (1 + 1))))) wc17 _ (fun _ => True) (by omega) (fun _ _ => by omega) HGo_17.out ⟨none, 0, rfl, Nat.le_refl _, fun h => absurd h (by omega)⟩).mono ?_
  rintro e wc18 ⟨rfl, kk, hkk⟩
  have hbk18 : Below wc17.heap.size wc17 wc18 := by rw [hkk]; exact below_drewN' (Below.refl _ _) kk
  clear hkk
  rw [gridB_none]
  have HB_18 := Lib.hid (HB_17.out.trans ((hbk18).mono HB_17.out.size))
  clear HB_17 HGo_17
  clear hbk18
  obtain ⟨wb19, hwk⟩ : ∃ wb19, ((((wc18.alloc (.cells #[.int .i64 1, .int .i64 2] 3)).alloc (.cells #[.int .i64 2, .int .i64 4] 3)).alloc (.cells #[.int .i64 0, .int .i64 1] 3)).alloc (.cells #[.slice (some ⟨wc18.heap.size, 0, none⟩) 2 2, .slice (some ⟨wc18.heap.size + 1, 0, none⟩) 2 2, .slice (some ⟨wc18.heap.size + 1 + 1, 0, none⟩) 2 2] 22)) = wb19 := ⟨_, rfl⟩
  have HW19 := Lib.hid hwk
  have hbk : Below wc18.heap.size wc18 wb19 := by rw [← hwk]; exact ((((Below.refl wc18.heap.size wc18).alloc (Nat.le_refl _) _).alloc (by simp <;> omega) _).alloc (by simp <;> omega) _).alloc (by simp <;> omega) _
  have hr0 : Row wb19 (wc18.heap.size) 3 (#[.int .i64 1, .int .i64 2]) := by rw [← hwk]; exact (((row_new rfl _ _).alloc _).alloc _).alloc _
  have hr1 : Row wb19 (wc18.heap.size + 1) 3 (#[.int .i64 2, .int .i64 4]) := by rw [← hwk]; exact ((row_new (by simp) _ _).alloc _).alloc _
  have hr2 : Row wb19 (wc18.heap.size + 1 + 1) 3 (#[.int .i64 0, .int .i64 1]) := by rw [← hwk]; exact (row_new (by simp) _ _).alloc _
  have hr3 : Row wb19 (wc18.heap.size + 1 + 1 + 1) 22 (#[.slice (some ⟨wc18.heap.size, 0, none⟩) 2 2, .slice (some ⟨wc18.heap.size + 1, 0, none⟩) 2 2, .slice (some ⟨wc18.heap.size + 1 + 1, 0, none⟩) 2 2]) := by rw [← hwk]; exact row_new (by simp) _ _
  have HB_19 := Lib.hid (HB_18.out.trans ((hbk).mono HB_18.out.size))
  clear HB_18
  have HGk_19 := Lib.hid (show Grid wb19 (· < wb19.heap.size) (.slice (some ⟨wc18.heap.size + 1 + 1 + 1, 0, none⟩) 3 3) 3 (fun _ => 2) (exK) from list3_grid hr3 hr3.lt (row2_vec _ hr0 hr0.lt rfl rfl ) (row2_vec _ hr1 hr1.lt rfl rfl ) (row2_vec _ hr2 hr2.lt rfl rfl ))
  clear hwk hbk hr0 hr1 hr2 hr3
  go_wp2_with fail
  rw [HW19.out]
  refine (five_any _ _ _ _).mono ?_
  rintro e wc20 ⟨rfl, hb20⟩
  have HB_20 := Lib.hid (HB_19.out.trans ((hb20).mono HB_19.out.size))
  have HGk_20 := Lib.hid (grid_on HGk_19.out (fun _ h => h) (hb20))
  clear HB_19 HGk_19
  clear hb20
  obtain ⟨wb21, hwk⟩ : ∃ wb21, (wc20.alloc (.cells #[.int .i64 3, .int .i64 0] 3)) = wb21 := ⟨_, rfl⟩
  have HW21 := Lib.hid hwk
  have hbk : Below wc20.heap.size wc20 wb21 := by rw [← hwk]; exact (Below.refl wc20.heap.size wc20).alloc (Nat.le_refl _) _
  have hr0 : Row wb21 (wc20.heap.size) 3 (#[.int .i64 3, .int .i64 0]) := by rw [← hwk]; exact row_new rfl _ _
  have HB_21 := Lib.hid (HB_20.out.trans ((hbk).mono HB_20.out.size))
  have HGk_21 := Lib.hid (grid_on HGk_20.out (fun _ h => h) (hbk))
  clear HB_20 HGk_20
  have HVb_21 := Lib.hid (show Vec wb21 (· < wb21.heap.size) (.slice (some ⟨wc20.heap.size, 0, none⟩) 2 2) 2 (V3 3 0 0) from row2_vec _ hr0 hr0.lt rfl rfl )
  clear hwk hbk hr0
  go_wp2_with fail
  rw [HW21.out]
  refine (Solve_ok 5 (.slice (some ⟨wc18.heap.size + 1 + 1 + 1, 0, none⟩) 3 3) (.slice (some ⟨wc20.heap.size, 0, none⟩) 2 2) 3 2 exK (V3 3 0 0) wb21 ex_chkM HGk_21.out HVb_21.out).mono ?_
  rintro e wc22 h22
  obtain ⟨vv22, rfl, hv22, hb22⟩ := h22.1 nm_sol
  obtain ⟨Av22, cv22, rfl, -⟩ := hv22.form
  have HB_22 := Lib.hid (HB_21.out.trans ((hb22).mono HB_21.out.size))
  clear HB_21 HGk_21 HVb_21
  have HVsol_22 := Lib.hid (hv22.more (S' := (· < wc22.heap.size)) fun _ h => h.2)
  clear hv22 hb22 h22
  obtain ⟨wb23, hwk⟩ : ∃ wb23, ((wc22.alloc (.cells #[.int .i64 1, .int .i64 2] 3)).alloc (.cells #[.slice (some ⟨wc22.heap.size, 0, none⟩) 2 2] 22)) = wb23 := ⟨_, rfl⟩
  have HW23 := Lib.hid hwk
  have hbk : Below wc22.heap.size wc22 wb23 := by rw [← hwk]; exact ((Below.refl wc22.heap.size wc22).alloc (Nat.le_refl _) _).alloc (by simp <;> omega) _
  have hr0 : Row wb23 (wc22.heap.size) 3 (#[.int .i64 1, .int .i64 2]) := by rw [← hwk]; exact (row_new rfl _ _).alloc _
  have hr1 : Row wb23 (wc22.heap.size + 1) 22 (#[.slice (some ⟨wc22.heap.size, 0, none⟩) 2 2]) := by rw [← hwk]; exact row_new (by simp) _ _
  have HB_23 := Lib.hid (HB_22.out.trans ((hbk).mono HB_22.out.size))
  have HVsol_23 := Lib.hid (vec_on2 HVsol_22.out (hbk))
  clear HB_22 HVsol_22
  have HGf_23 := Lib.hid (show Grid wb23 (· < wb23.heap.size) (.slice (some ⟨wc22.heap.size + 1, 0, none⟩) 1 1) 1 (fun _ => 2) (R1 1 2 0) from list1_grid hr1 hr1.lt (row2_vec _ hr0 hr0.lt rfl rfl ))
  clear hwk hbk hr0 hr1
  go_wp2_with fail
  rw [HW23.out]
  refine (five_any _ _ _ _).mono ?_
  rintro e wc24 ⟨rfl, hb24⟩
  have HB_24 := Lib.hid (HB_23.out.trans ((hb24).mono HB_23.out.size))
  have HVsol_24 := Lib.hid (vec_on2 HVsol_23.out (hb24))
  have HGf_24 := Lib.hid (grid_on HGf_23.out (fun _ h => h) (hb24))
  clear HB_23 HVsol_23 HGf_23
  clear hb24
  obtain ⟨wb25, hwk⟩ : ∃ wb25, (wc24.alloc (.cells #[.int .i64 1, .int .i64 3] 3)) = wb25 := ⟨_, rfl⟩
  have HW25 := Lib.hid hwk
  have hbk : Below wc24.heap.size wc24 wb25 := by rw [← hwk]; exact (Below.refl wc24.heap.size wc24).alloc (Nat.le_refl _) _
  have hr0 : Row wb25 (wc24.heap.size) 3 (#[.int .i64 1, .int .i64 3]) := by rw [← hwk]; exact row_new rfl _ _
  have HB_25 := Lib.hid (HB_24.out.trans ((hbk).mono HB_24.out.size))
  have HVsol_25 := Lib.hid (vec_on2 HVsol_24.out (hbk))
  have HGf_25 := Lib.hid (grid_on HGf_24.out (fun _ h => h) (hbk))
  clear HB_24 HVsol_24 HGf_24
  have HVc_25 := Lib.hid (show Vec wb25 (· < wb25.heap.size) (.slice (some ⟨wc24.heap.size, 0, none⟩) 2 2) 2 (V3 1 3 0) from row2_vec _ hr0 hr0.lt rfl rfl )
  clear hwk hbk hr0
  go_wp2_with fail
  rw [HW25.out]
  refine (Solve_ok 5 (.slice (some ⟨wc22.heap.size + 1, 0, none⟩) 1 1) (.slice (some ⟨wc24.heap.size, 0, none⟩) 2 2) 1 2 (R1 1 2 0) (V3 1 3 0) wb25 nm_c12 HGf_25.out HVc_25.out).mono ?_
  rintro e wc26 h26
  obtain ⟨rfl, hb26⟩ := h26.2 nm_nosol
  have HB_26 := Lib.hid (HB_25.out.trans ((hb26).mono HB_25.out.size))
  have HVsol_26 := Lib.hid (vec_on2 HVsol_25.out (hb26))
  clear HB_25 HVsol_25 HGf_25 HVc_25
  clear hb26 h26
  obtain ⟨wb27, hwk⟩ : ∃ wb27, (((wc26.alloc (.cells #[.int .i64 2, .int .i64 0] 3)).alloc (.cells #[.int .i64 0, .int .i64 3] 3)).alloc (.cells #[.slice (some ⟨wc26.heap.size, 0, none⟩) 2 2, .slice (some ⟨wc26.heap.size + 1, 0, none⟩) 2 2] 22)) = wb27 := ⟨_, rfl⟩
  have HW27 := Lib.hid hwk
  have hbk : Below wc26.heap.size wc26 wb27 := by rw [← hwk]; exact (((Below.refl wc26.heap.size wc26).alloc (Nat.le_refl _) _).alloc (by simp <;> omega) _).alloc (by simp <;> omega) _
  have hr0 : Row wb27 (wc26.heap.size) 3 (#[.int .i64 2, .int .i64 0]) := by rw [← hwk]; exact ((row_new rfl _ _).alloc _).alloc _
  have hr1 : Row wb27 (wc26.heap.size + 1) 3 (#[.int .i64 0, .int .i64 3]) := by rw [← hwk]; exact (row_new (by simp) _ _).alloc _
  have hr2 : Row wb27 (wc26.heap.size + 1 + 1) 22 (#[.slice (some ⟨wc26.heap.size, 0, none⟩) 2 2, .slice (some ⟨wc26.heap.size + 1, 0, none⟩) 2 2]) := by rw [← hwk]; exact row_new (by simp) _ _
  have HB_27 := Lib.hid (HB_26.out.trans ((hbk).mono HB_26.out.size))
  have HVsol_27 := Lib.hid (vec_on2 HVsol_26.out (hbk))
  clear HB_26 HVsol_26
  have HGd_27 := Lib.hid (show Grid wb27 (· < wb27.heap.size) (.slice (some ⟨wc26.heap.size + 1 + 1, 0, none⟩) 2 2) 2 (fun _ => 2) (R2 2 0 0 0 3 0) from list2_grid hr2 hr2.lt (row2_vec _ hr0 hr0.lt rfl rfl ) (row2_vec _ hr1 hr1.lt rfl rfl ))
  clear hwk hbk hr0 hr1 hr2
  go_wp2_with fail
  rw [HW27.out]
  refine (five_any _ _ _ _).mono ?_
  rintro e wc28 ⟨rfl, hb28⟩
  have HB_28 := Lib.hid (HB_27.out.trans ((hb28).mono HB_27.out.size))
  have HVsol_28 := Lib.hid (vec_on2 HVsol_27.out (hb28))
  have HGd_28 := Lib.hid (grid_on HGd_27.out (fun _ h => h) (hb28))
  clear HB_27 HVsol_27 HGd_27
  clear hb28
  go_wp2_with fail
  refine (Eigen_ok 5 2 (.slice (some ⟨wc26.heap.size + 1 + 1, 0, none⟩) 2 2) 2 (R2 2 0 0 0 3 0) wc28 HGd_28.out nm_c22).mono ?_
  rintro e wc29 ⟨vk29, rfl, hg29, hb29⟩
  rw [nm_eig] at hg29
  obtain ⟨Ak29, ck29, rfl, -⟩ := hg29.form
  have HB_29 := Lib.hid (HB_28.out.trans ((hb29).mono HB_28.out.size))
  have HVsol_29 := Lib.hid (vec_on2 HVsol_28.out (hb29))
  clear HB_28 HVsol_28 HGd_28
  have HGa_29 := Lib.hid (hg29.more (S' := (· < wc29.heap.size)) fun _ h => h.2)
  clear hg29 hb29
  obtain ⟨wb30, hwk⟩ : ∃ wb30, (((wc29.alloc (.cells #[.int .i64 2, .int .i64 0] 3)).alloc (.cells #[.int .i64 0, .int .i64 3] 3)).alloc (.cells #[.slice (some ⟨wc29.heap.size, 0, none⟩) 2 2, .slice (some ⟨wc29.heap.size + 1, 0, none⟩) 2 2] 22)) = wb30 := ⟨_, rfl⟩
  have HW30 := Lib.hid hwk
  have hbk : Below wc29.heap.size wc29 wb30 := by rw [← hwk]; exact (((Below.refl wc29.heap.size wc29).alloc (Nat.le_refl _) _).alloc (by simp <;> omega) _).alloc (by simp <;> omega) _
  have hr0 : Row wb30 (wc29.heap.size) 3 (#[.int .i64 2, .int .i64 0]) := by rw [← hwk]; exact ((row_new rfl _ _).alloc _).alloc _
  have hr1 : Row wb30 (wc29.heap.size + 1) 3 (#[.int .i64 0, .int .i64 3]) := by rw [← hwk]; exact (row_new (by simp) _ _).alloc _
  have hr2 : Row wb30 (wc29.heap.size + 1 + 1) 22 (#[.slice (some ⟨wc29.heap.size, 0, none⟩) 2 2, .slice (some ⟨wc29.heap.size + 1, 0, none⟩) 2 2]) := by rw [← hwk]; exact row_new (by simp) _ _
  have HB_30 := Lib.hid (HB_29.out.trans ((hbk).mono HB_29.out.size))
  have HVsol_30 := Lib.hid (vec_on2 HVsol_29.out (hbk))
  have HGa_30 := Lib.hid (grid_on HGa_29.out (fun _ h => h) (hbk))
  clear HB_29 HVsol_29 HGa_29
  have HGd_30 := Lib.hid (show Grid wb30 (· < wb30.heap.size) (.slice (some ⟨wc29.heap.size + 1 + 1, 0, none⟩) 2 2) 2 (fun _ => 2) (R2 2 0 0 0 3 0) from list2_grid hr2 hr2.lt (row2_vec _ hr0 hr0.lt rfl rfl ) (row2_vec _ hr1 hr1.lt rfl rfl ))
  clear hwk hbk hr0 hr1 hr2
  go_wp2_with fail
  rw [HW30.out]
  refine (five_any _ _ _ _).mono ?_
  rintro e wc31 ⟨rfl, hb31⟩
  have HB_31 := Lib.hid (HB_30.out.trans ((hb31).mono HB_30.out.size))
  have HVsol_31 := Lib.hid (vec_on2 HVsol_30.out (hb31))
  have HGa_31 := Lib.hid (grid_on HGa_30.out (fun _ h => h) (hb31))
  have HGd_31 := Lib.hid (grid_on HGd_30.out (fun _ h => h) (hb31))
  clear HB_30 HVsol_30 HGa_30 HGd_30
  clear hb31
  go_wp2_with fail
  refine (Values_ok 5 (.slice (some ⟨wc29.heap.size + 1 + 1, 0, none⟩) 2 2) 2 (R2 2 0 0 0 3 0) wc31 HGd_31.out nm_c22).mono ?_
  rintro e wc32 ⟨vv32, rfl, hv32, hb32⟩
  rw [show pickL (isVal 5 2 (R2 2 0 0 0 3 0)) (5 : Int).toNat = [2, 3] from nm_vals] at hv32
  change Vec wc32 _ vv32 2 _ at hv32
  obtain ⟨Av32, cv32, rfl, -⟩ := hv32.form
  have HB_32 := Lib.hid (HB_31.out.trans ((hb32).mono HB_31.out.size))
  have HVsol_32 := Lib.hid (vec_on2 HVsol_31.out (hb32))
  have HGa_32 := Lib.hid (grid_on HGa_31.out (fun _ h => h) (hb32))
  clear HB_31 HVsol_31 HGa_31 HGd_31
  have HVGd_32 := Lib.hid (hv32.more (S' := (· < wc32.heap.size)) fun _ h => h.2)
  clear hv32 hb32
  obtain ⟨wb33, hwk⟩ : ∃ wb33, (((wc32.alloc (.cells #[.int .i64 0, .int .i64 1] 3)).alloc (.cells #[.int .i64 2, .int .i64 0] 3)).alloc (.cells #[.slice (some ⟨wc32.heap.size, 0, none⟩) 2 2, .slice (some ⟨wc32.heap.size + 1, 0, none⟩) 2 2] 22)) = wb33 := ⟨_, rfl⟩
  have HW33 := Lib.hid hwk
  have hbk : Below wc32.heap.size wc32 wb33 := by rw [← hwk]; exact (((Below.refl wc32.heap.size wc32).alloc (Nat.le_refl _) _).alloc (by simp <;> omega) _).alloc (by simp <;> omega) _
  have hr0 : Row wb33 (wc32.heap.size) 3 (#[.int .i64 0, .int .i64 1]) := by rw [← hwk]; exact ((row_new rfl _ _).alloc _).alloc _
  have hr1 : Row wb33 (wc32.heap.size + 1) 3 (#[.int .i64 2, .int .i64 0]) := by rw [← hwk]; exact (row_new (by simp) _ _).alloc _
  have hr2 : Row wb33 (wc32.heap.size + 1 + 1) 22 (#[.slice (some ⟨wc32.heap.size, 0, none⟩) 2 2, .slice (some ⟨wc32.heap.size + 1, 0, none⟩) 2 2]) := by rw [← hwk]; exact row_new (by simp) _ _
  have HB_33 := Lib.hid (HB_32.out.trans ((hbk).mono HB_32.out.size))
  have HVsol_33 := Lib.hid (vec_on2 HVsol_32.out (hbk))
  have HGa_33 := Lib.hid (grid_on HGa_32.out (fun _ h => h) (hbk))
  have HVGd_33 := Lib.hid (vec_on2 HVGd_32.out (hbk))
  clear HB_32 HVsol_32 HGa_32 HVGd_32
  have HGe_33 := Lib.hid (show Grid wb33 (· < wb33.heap.size) (.slice (some ⟨wc32.heap.size + 1 + 1, 0, none⟩) 2 2) 2 (fun _ => 2) (R2 0 1 0 2 0 0) from list2_grid hr2 hr2.lt (row2_vec _ hr0 hr0.lt rfl rfl ) (row2_vec _ hr1 hr1.lt rfl rfl ))
  clear hwk hbk hr0 hr1 hr2
  go_wp2_with fail
  rw [HW33.out]
  refine (five_any _ _ _ _).mono ?_
  rintro e wc34 ⟨rfl, hb34⟩
  have HB_34 := Lib.hid (HB_33.out.trans ((hb34).mono HB_33.out.size))
  have HVsol_34 := Lib.hid (vec_on2 HVsol_33.out (hb34))
  have HGa_34 := Lib.hid (grid_on HGa_33.out (fun _ h => h) (hb34))
  have HVGd_34 := Lib.hid (vec_on2 HVGd_33.out (hb34))
  have HGe_34 := Lib.hid (grid_on HGe_33.out (fun _ h => h) (hb34))
  clear HB_33 HVsol_33 HGa_33 HVGd_33 HGe_33
  clear hb34
  go_wp2_with fail
  refine (Values_ok 5 (.slice (some ⟨wc32.heap.size + 1 + 1, 0, none⟩) 2 2) 2 (R2 0 1 0 2 0 0) wc34 HGe_34.out nm_c22b).mono ?_
  rintro e wc35 ⟨vv35, rfl, hv35, hb35⟩
  rw [show pickL (isVal 5 2 (R2 0 1 0 2 0 0)) (5 : Int).toNat = [] from nm_novals] at hv35
  change Vec wc35 _ vv35 0 _ at hv35
  obtain ⟨Av35, cv35, rfl, -⟩ := hv35.form
  have HB_35 := Lib.hid (HB_34.out.trans ((hb35).mono HB_34.out.size))
  have HVsol_35 := Lib.hid (vec_on2 HVsol_34.out (hb35))
  have HGa_35 := Lib.hid (grid_on HGa_34.out (fun _ h => h) (hb35))
  have HVGd_35 := Lib.hid (vec_on2 HVGd_34.out (hb35))
  clear HB_34 HVsol_34 HGa_34 HVGd_34 HGe_34
  have HVGe_35 := Lib.hid (hv35.more (S' := (· < wc35.heap.size)) fun _ h => h.2)
  clear hv35 hb35
  obtain ⟨wb36, hwk⟩ : ∃ wb36, (wc35.alloc (.cells #[.int .i64 3, .int .i64 0, .int .i64 4] 3)) = wb36 := ⟨_, rfl⟩
  have HW36 := Lib.hid hwk
  have hbk : Below wc35.heap.size wc35 wb36 := by rw [← hwk]; exact (Below.refl wc35.heap.size wc35).alloc (Nat.le_refl _) _
  have hr0 : Row wb36 (wc35.heap.size) 3 (#[.int .i64 3, .int .i64 0, .int .i64 4]) := by rw [← hwk]; exact row_new rfl _ _
  have HB_36 := Lib.hid (HB_35.out.trans ((hbk).mono HB_35.out.size))
  have HVsol_36 := Lib.hid (vec_on2 HVsol_35.out (hbk))
  have HGa_36 := Lib.hid (grid_on HGa_35.out (fun _ h => h) (hbk))
  have HVGd_36 := Lib.hid (vec_on2 HVGd_35.out (hbk))
  have HVGe_36 := Lib.hid (vec_on2 HVGe_35.out (hbk))
  clear HB_35 HVsol_35 HGa_35 HVGd_35 HVGe_35
  have HV304_36 := Lib.hid (show Vec wb36 (· < wb36.heap.size) (.slice (some ⟨wc35.heap.size, 0, none⟩) 3 3) 3 (V3 3 0 4) from row3_vec _ hr0 hr0.lt rfl rfl rfl )
  clear hwk hbk hr0
  go_wp2_with fail
  rw [HW36.out]
  refine (row_same (.slice Av22 3 cv22) (.slice (some ⟨wc35.heap.size, 0, none⟩) 3 3) 3 (solV 5 2 (solR 5 3 2 exK (V3 3 0 0))) (V3 3 0 4) wb36 _ _ (by omega) HVsol_36.out HV304_36.out).mono ?_
  rintro e wc37 ⟨rfl, kk, hkk⟩
  have hbk37 : Below wb36.heap.size wb36 wc37 := by rw [hkk]; exact below_drewN' (Below.refl _ _) kk
  clear hkk
  rw [nm_sol2]
  have HB_37 := Lib.hid (HB_36.out.trans ((hbk37).mono HB_36.out.size))
  have HGa_37 := Lib.hid (grid_on HGa_36.out (fun _ h => h) (hbk37))
  have HVGd_37 := Lib.hid (vec_on2 HVGd_36.out (hbk37))
  have HVGe_37 := Lib.hid (vec_on2 HVGe_36.out (hbk37))
  clear HB_36 HVsol_36 HGa_36 HVGd_36 HVGe_36 HV304_36
  clear hbk37
  obtain ⟨wb38, hwk⟩ : ∃ wb38, ((wc37.alloc (.cells #[.int .i64 1, .int .i64 0] 3)).alloc (.cells #[.slice (some ⟨wc37.heap.size, 0, none⟩) 2 2] 22)) = wb38 := ⟨_, rfl⟩
  have HW38 := Lib.hid hwk
  have hbk : Below wc37.heap.size wc37 wb38 := by rw [← hwk]; exact ((Below.refl wc37.heap.size wc37).alloc (Nat.le_refl _) _).alloc (by simp <;> omega) _
  have hr0 : Row wb38 (wc37.heap.size) 3 (#[.int .i64 1, .int .i64 0]) := by rw [← hwk]; exact (row_new rfl _ _).alloc _
  have hr1 : Row wb38 (wc37.heap.size + 1) 22 (#[.slice (some ⟨wc37.heap.size, 0, none⟩) 2 2]) := by rw [← hwk]; exact row_new (by simp) _ _
  have HB_38 := Lib.hid (HB_37.out.trans ((hbk).mono HB_37.out.size))
  have HGa_38 := Lib.hid (grid_on HGa_37.out (fun _ h => h) (hbk))
  have HVGd_38 := Lib.hid (vec_on2 HVGd_37.out (hbk))
  have HVGe_38 := Lib.hid (vec_on2 HVGe_37.out (hbk))
  clear HB_37 HGa_37 HVGd_37 HVGe_37
  have HG10_38 := Lib.hid (show Grid wb38 (· < wb38.heap.size) (.slice (some ⟨wc37.heap.size + 1, 0, none⟩) 1 1) 1 (fun _ => 2) (R1 1 0 0) from list1_grid hr1 hr1.lt (row2_vec _ hr0 hr0.lt rfl rfl ))
  clear hwk hbk hr0 hr1
  go_wp2_with fail
  rw [HW38.out]
  refine (is_any (.slice Ak29 1 ck29) (.slice (some ⟨wc37.heap.size + 1, 0, none⟩) 1 1) 1 (fun _ => 2) (fun i x => rowAt (kerR 5 2 2 (eigF 5 2 (R2 2 0 0 0 3 0))) ((kerL 2 2 (kerR 5 2 2 (eigF 5 2 (R2 2 0 0 0 3 0)))).getD i 0) (2 + x)) (R1 1 0 0) wb38 _ _ (by omega) (fun _ _ => by omega) HGa_38.out HG10_38.out).mono ?_
  rintro e wc39 ⟨rfl, kk, hkk⟩
  have hbk39 : Below wb38.heap.size wb38 wc39 := by rw [hkk]; exact below_drewN' (Below.refl _ _) kk
  clear hkk
  rw [nm_eig2]
  have HB_39 := Lib.hid (HB_38.out.trans ((hbk39).mono HB_38.out.size))
  have HVGd_39 := Lib.hid (vec_on2 HVGd_38.out (hbk39))
  clear HB_38 HGa_38 HVGd_38 HVGe_38 HG10_38
  clear hbk39
  obtain ⟨wb40, hwk⟩ : ∃ wb40, (wc39.alloc (.cells #[.int .i64 2, .int .i64 3] 3)) = wb40 := ⟨_, rfl⟩
  have HW40 := Lib.hid hwk
  have hbk : Below wc39.heap.size wc39 wb40 := by rw [← hwk]; exact (Below.refl wc39.heap.size wc39).alloc (Nat.le_refl _) _
  have hr0 : Row wb40 (wc39.heap.size) 3 (#[.int .i64 2, .int .i64 3]) := by rw [← hwk]; exact row_new rfl _ _
  have HB_40 := Lib.hid (HB_39.out.trans ((hbk).mono HB_39.out.size))
  have HVGd_40 := Lib.hid (vec_on2 HVGd_39.out (hbk))
  clear HB_39 HVGd_39
  have HV23_40 := Lib.hid (show Vec wb40 (· < wb40.heap.size) (.slice (some ⟨wc39.heap.size, 0, none⟩) 2 2) 2 (V3 2 3 0) from row2_vec _ hr0 hr0.lt rfl rfl )
  clear hwk hbk hr0
  go_wp2_with fail
  rw [HW40.out]
  refine (row_same (.slice Av32 2 cv32) (.slice (some ⟨wc39.heap.size, 0, none⟩) 2 2) 2 (fun j => ([2, 3] : List Int).getD j 0) (V3 2 3 0) wb40 _ _ (by omega) HVGd_40.out HV23_40.out).mono ?_
  rintro e wc41 ⟨rfl, kk, hkk⟩
  have hbk41 : Below wb40.heap.size wb40 wc41 := by rw [hkk]; exact below_drewN' (Below.refl _ _) kk
  clear hkk
  rw [nm_pair]
  have HB_41 := Lib.hid (HB_40.out.trans ((hbk41).mono HB_40.out.size))
  clear HB_40 HVGd_40 HV23_40
  clear hbk41
  go_wp2_with fail
  refine (Basis_any 6 3 (.slice none 0 0) 0 (fun _ => 0) (fun _ _ => 0) wc41 (by omega) ⟨none, 0, rfl, Nat.le_refl _, fun h => absurd h (by omega)⟩).mono ?_
  rintro e wc42 ⟨h1, -⟩
  obtain ⟨rfl, hb42⟩ := h1 (by rw [nm_b6]; decide)
  rw [nm_b6]
  clear h1
  have HB_42 := Lib.hid (HB_41.out.trans ((hb42).mono HB_41.out.size))
  clear HB_41
  clear hb42
  go_wp2_with fail
  refine (Basis_any 5 0 (.slice none 0 0) 0 (fun _ => 0) (fun _ _ => 0) wc42 (by omega) ⟨none, 0, rfl, Nat.le_refl _, fun h => absurd h (by omega)⟩).mono ?_
  rintro e wc43 ⟨h1, -⟩
  obtain ⟨rfl, hb43⟩ := h1 (by rw [nm_b0]; decide)
  rw [nm_b0]
  clear h1
  have HB_43 := Lib.hid (HB_42.out.trans ((hb43).mono HB_42.out.size))
  clear HB_42
  clear hb43
  obtain ⟨wb44, hwk⟩ : ∃ wb44, ((wc43.alloc (.cells #[.int .i64 1, .int .i64 2] 3)).alloc (.cells #[.slice (some ⟨wc43.heap.size, 0, none⟩) 2 2] 22)) = wb44 := ⟨_, rfl⟩
  have HW44 := Lib.hid hwk
  have hbk : Below wc43.heap.size wc43 wb44 := by rw [← hwk]; exact ((Below.refl wc43.heap.size wc43).alloc (Nat.le_refl _) _).alloc (by simp <;> omega) _
  have hr0 : Row wb44 (wc43.heap.size) 3 (#[.int .i64 1, .int .i64 2]) := by rw [← hwk]; exact (row_new rfl _ _).alloc _
  have hr1 : Row wb44 (wc43.heap.size + 1) 22 (#[.slice (some ⟨wc43.heap.size, 0, none⟩) 2 2]) := by rw [← hwk]; exact row_new (by simp) _ _
  have HB_44 := Lib.hid (HB_43.out.trans ((hbk).mono HB_43.out.size))
  clear HB_43
  have HGw_44 := Lib.hid (show Grid wb44 (· < wb44.heap.size) (.slice (some ⟨wc43.heap.size + 1, 0, none⟩) 1 1) 1 (fun _ => 2) (R1 1 2 0) from list1_grid hr1 hr1.lt (row2_vec _ hr0 hr0.lt rfl rfl ))
  clear hwk hbk hr0 hr1
  go_wp2_with fail
  rw [HW44.out]
  refine (Basis_any 5 3 (.slice (some ⟨wc43.heap.size + 1, 0, none⟩) 1 1) 1 (fun _ => 2) (R1 1 2 0) wb44 (by omega) HGw_44.out).mono ?_
  rintro e wc45 ⟨h1, -⟩
  obtain ⟨rfl, hb45⟩ := h1 (by rw [nm_b2]; decide)
  rw [nm_b2]
  clear h1
  have HB_45 := Lib.hid (HB_44.out.trans ((hb45).mono HB_44.out.size))
  clear HB_44 HGw_44
  clear hb45
  go_wp2_with fail
  refine (Basis_any 5 65 (.slice none 0 0) 0 (fun _ => 0) (fun _ _ => 0) wc45 (by omega) ⟨none, 0, rfl, Nat.le_refl _, fun h => absurd h (by omega)⟩).mono ?_
  rintro e wc46 ⟨h1, -⟩
  obtain ⟨rfl, hb46⟩ := h1 (by rw [nm_b65]; decide)
  rw [nm_b65]
  clear h1
  have HB_46 := Lib.hid (HB_45.out.trans ((hb46).mono HB_45.out.size))
  clear HB_45
  clear hb46
  go_wp2_with fail
  have HZ0 := Lib.hid (show ZrI wc46 0 (.slice none 0 0) (fun _ => 0) (fun _ => 0) wc46 from ⟨World.ownsRow_nil _ _ _ _, fun i h => absurd h (by omega), Below.refl _ _⟩)
  go_loopw [37, 38] (fun v i wr => ∃ k g, i = .int .i64 (k : Nat) ∧ k ≤ 200 ∧ Hid (ZrI wc46 k v g (fun _ => 0) wr)) (fun _ i _ => 200 - (intOf i).toNat)
  case atStart => exact ⟨0, _, rfl, Nat.zero_le _, HZ0⟩
  case round =>
    obtain ⟨k, g, rfl, hk, HZ⟩ := hrel
    clear HZ0
    obtain ⟨Av, cv, hv⟩ := owned_form HZ.out.own
    subst hv
    have hsz := HZ.out.b.size
    by_cases hlt : k < 200
    · have d2 : (k : Int) < 200 := by omega
      have hov := (HZ.out.own.alloc (.cells #[.int .i64 0] 3)).alloc (.cells #[.slice (some ⟨wr.heap.size, 0, none⟩) 1 1] 22)
      go_wp2_with (at_builtin; refine wpList_append_own _ rfl (.tmp 233) (.tmp 235) 25 rfl wc46.heap.size 22 j0 (.slice none 0 0) 1 24 Tryz.underlying25 hj0 hy0 hy1 hy2 rfl (by decide) _ _ _ rfl hov ⟨wr.heap.size + 1, 0, none⟩ 1 1 [.slice (some ⟨wr.heap.size, 0, none⟩) 1 1] rfl rfl (fun j u hj => by have := cell_one_new (wr.alloc (.cells #[.int .i64 0] 3)) (.slice (some ⟨wr.heap.size, 0, none⟩) 1 1) 22 j u hj; simpa using this) (by simp [Value.oneCell']) (by unfold maxLen; omega) (by omega) (by simp; omega) ?_; intro v1 w9 hown hgrow _; obtain ⟨g3, c3, rfl⟩ := ownsRow_succ hown; have HNX := Lib.hid ((HZ.out.next 0 hown hgrow)); clear hown hgrow)
      go_wp2
      go_roundw
      case rel => exact ⟨k + 1, _, by go_num, by omega, by simpa using HNX⟩
      case measure => simp [intOf]; omega
    · obtain rfl : k = 200 := by omega
      go_wp2_with fail
      refine (Basis_any 5 1 (.slice Av 200 cv) 200 (fun _ => 1) (fun _ _ => 0) wr (by omega) HZ.out.grid).mono ?_
      rintro e wt ⟨-, ht⟩
      obtain ⟨vt, rfl, hgt, hbt⟩ := ht (chkB_ok hmod (by omega) (by omega) (by omega) (fun _ _ => rfl))
      change Grid wt _ vt (pivL 1 (elimR 5 1 (invI 5) (rowsL 1 (fun _ _ => 0) 200))).length _ (basF 1 (elimR 5 1 (invI 5) (rowsL 1 (fun _ _ => 0) 200))) at hgt
      rw [nm_zlen] at hgt
      obtain ⟨At, ct, rfl, -⟩ := hgt.form
      have HZ2 := Lib.hid (HZ.out.on hbt)
      clear hgt hbt ht HZ
      have hsz2 := HZ2.out.b.size
      have hov := (HZ2.out.own.alloc (.cells #[.int .i64 1] 3)).alloc (.cells #[.slice (some ⟨wt.heap.size, 0, none⟩) 1 1] 22)
      go_wp2_with (at_builtin; refine wpList_append_own _ rfl (.tmp 243) (.tmp 245) 25 rfl wc46.heap.size 22 j0 (.slice none 0 0) 1 24 Tryz.underlying25 hj0 hy0 hy1 hy2 rfl (by decide) _ _ _ rfl hov ⟨wt.heap.size + 1, 0, none⟩ 1 1 [.slice (some ⟨wt.heap.size, 0, none⟩) 1 1] rfl rfl (fun j u hj => by have := cell_one_new (wt.alloc (.cells #[.int .i64 1] 3)) (.slice (some ⟨wt.heap.size, 0, none⟩) 1 1) 22 j u hj; simpa using this) (by simp [Value.oneCell']) (by unfold maxLen; omega) (by omega) (by simp; omega) ?_; intro v1 w9 hown hgrow _; obtain ⟨g3, c3, rfl⟩ := ownsRow_succ hown; have HNX := Lib.hid ((HZ2.out.next 1 hown hgrow)); clear hown hgrow hov HZ2)
      go_wp2_with fail
      refine (Basis_any 5 1 (.slice (some ⟨g3, 0, none⟩) 201 c3) 201 (fun _ => 1) _ w9 (by omega) HNX.out.grid).mono ?_
      rintro e wu ⟨hu, -⟩
      obtain ⟨rfl, hbu⟩ := hu (by rw [nm_b201]; decide)
      rw [nm_b201]
      have HB_47 := Lib.hid ((HB_46.out.trans (HNX.out.b.mono HB_46.out.size)).trans ((hbu).mono (HB_46.out.trans (HNX.out.b.mono HB_46.out.size)).size))
      clear hbu hu HNX HB_46 hsz hsz2 hlt hk
      obtain ⟨wb48, hwk⟩ : ∃ wb48, ((wu.alloc (.cells #[.int .i64 2, .int .i64 0] 3)).alloc (.cells #[.slice (some ⟨wu.heap.size, 0, none⟩) 2 2] 22)) = wb48 := ⟨_, rfl⟩
      have HW48 := Lib.hid hwk
      have hbk : Below wu.heap.size wu wb48 := by rw [← hwk]; exact ((Below.refl wu.heap.size wu).alloc (Nat.le_refl _) _).alloc (by simp <;> omega) _
      have hr0 : Row wb48 (wu.heap.size) 3 (#[.int .i64 2, .int .i64 0]) := by rw [← hwk]; exact (row_new rfl _ _).alloc _
      have hr1 : Row wb48 (wu.heap.size + 1) 22 (#[.slice (some ⟨wu.heap.size, 0, none⟩) 2 2]) := by rw [← hwk]; exact row_new (by simp) _ _
      have HB_48 := Lib.hid (HB_47.out.trans ((hbk).mono HB_47.out.size))
      clear HB_47
      have HGz_48 := Lib.hid (show Grid wb48 (· < wb48.heap.size) (.slice (some ⟨wu.heap.size + 1, 0, none⟩) 1 1) 1 (fun _ => 2) (R1 2 0 0) from list1_grid hr1 hr1.lt (row2_vec _ hr0 hr0.lt rfl rfl ))
      clear hwk hbk hr0 hr1
      go_wp2_with fail
      rw [HW48.out]
      refine (five_any _ _ _ _).mono ?_
      rintro e wc49 ⟨rfl, hb49⟩
      have HB_49 := Lib.hid (HB_48.out.trans ((hb49).mono HB_48.out.size))
      have HGz_49 := Lib.hid (grid_on HGz_48.out (fun _ h => h) (hb49))
      clear HB_48 HGz_48
      clear hb49
      go_wp2_with fail
      refine (Eigen_bad 5 2 (.slice (some ⟨wu.heap.size + 1, 0, none⟩) 1 1) 1 2 (R1 2 0 0) wc49 HGz_49.out nm_c12b (by omega)).mono ?_
      rintro e wc50 ⟨rfl, hb50⟩
      have HB_50 := Lib.hid (HB_49.out.trans ((hb50).mono HB_49.out.size))
      clear HB_49 HGz_49
      clear hb50
      go_wp2_with fail
      refine (is_any (.slice At 0 ct) (.slice none 0 0) 0 (fun _ => 1) (fun _ _ => 0) (fun _ _ => 0) wc50 (fun _ => True) (fun _ => True) (by omega) (fun _ _ => by omega) ⟨_, ct, rfl, Nat.zero_le _, fun h => absurd h (by omega)⟩ ⟨none, 0, rfl, Nat.le_refl _, fun h => absurd h (by omega)⟩).mono ?_
      rintro e wc51 ⟨rfl, kk, hkk⟩
      have hbk51 : Below wc50.heap.size wc50 wc51 := by rw [hkk]; exact below_drewN' (Below.refl _ _) kk
      clear hkk
      rw [gridB_none]
      have HB_51 := Lib.hid (HB_50.out.trans ((hbk51).mono HB_50.out.size))
      clear HB_50
      clear hbk51
      have HF := Lib.hid (show Ret w (.bool true) (.returned (.bool true)) wc51 from ⟨rfl, HB_51.out⟩)
      go_wp2
      go_ret
      exact HF.out
end Go.Proofs.YtinoomcboinokaaGreat
