/- The examples that each statement of this stage calls first. -/
import Derived.Test.YtokiejichnnmnaaMLives
namespace Go.Proofs.Ytokiejichnnmnaa
open Go Go.RowKit Num

theorem sz_below {B : Nat} {W W' : World} (h : Below B W W') : W.heap.size ≤ W'.heap.size := h.size
theorem Grid.old {W W' : World} {v : Value} {m : Nat} {n : Nat → Nat} {f : Nat → Nat → Int} {w : World} (h : Grid W (New w W) v m n f) (hb : Below W.heap.size W W') : Grid W' (· < W'.heap.size) v m n f := (h.new_lt).on hb

set_option maxRecDepth 100000 in
set_option maxHeartbeats 4000000 in
theorem lives_any (w : World) : Calls Try.prog 44 #[] w fun e w' => e = .returned (.bool true) ∧ Below w.heap.size w w' := by
  have hO1 := of2 w 1 2 3 4
  have HO2 := fun W => Lib.hid (of2 W 0 1 1 0)
  go_enter Try.func44, Try.ntmps44
  go_wp2_with fail
  generalize ((w.alloc (.cells #[.int .i64 1, .int .i64 2] 3)).alloc (.cells #[.int .i64 3, .int .i64 4] 3)).alloc (.cells #[.slice (some ⟨w.heap.size, 0, none⟩) 2 2, .slice (some ⟨w.heap.size + 1, 0, none⟩) 2 2] 28) = w1 at hO1 ⊢
  obtain ⟨hg1, hb1, hz1⟩ := hO1
  have HG1 := Lib.hid hg1
  have HB1 := Lib.hid hb1
  clear hg1 hb1
  refine (of_any _ _ _ _).mono ?_
  rintro e w2 ⟨rfl, hb2⟩
  have HG2 := Lib.hid (HG1.out.old hb2)
  have HB2 := Lib.hid (HB1.out.trans (hb2.mono HB1.out.size))
  have hz2 := HB2.out.size
  have hO2 := (HO2 w2).out
  clear hb2
  go_wp2_with fail
  generalize ((w2.alloc (.cells #[.int .i64 0, .int .i64 1] 3)).alloc (.cells #[.int .i64 1, .int .i64 0] 3)).alloc (.cells #[.slice (some ⟨w2.heap.size, 0, none⟩) 2 2, .slice (some ⟨w2.heap.size + 1, 0, none⟩) 2 2] 28) = w3 at hO2 ⊢
  obtain ⟨hg3, hb3, hz3⟩ := hO2
  have HG3 := Lib.hid hg3
  have HG4 := Lib.hid (HG2.out.on hb3)
  have HB3 := Lib.hid (HB2.out.trans (hb3.mono HB2.out.size))
  clear hg3 hb3
  refine (of_any _ _ _ _).mono ?_
  rintro e w4 ⟨rfl, hb4⟩
  have HGa := Lib.hid (HG4.out.on hb4)
  have HGb := Lib.hid (HG3.out.old hb4)
  have HB4 := Lib.hid (HB3.out.trans (hb4.mono HB3.out.size))
  clear hb4
  clear HG1 HB1 HG2 HB2 HG3 HG4 HB3
  generalize w.heap.size + 1 + 1 = ga at HGa ⊢
  generalize w2.heap.size + 1 + 1 = gb at HGb ⊢
  clear hz2 hz3 hz1 HO2
  go_wp2_with fail
  obtain ⟨w5, hw5⟩ : ∃ w5, (w4.alloc (.cells #[.int .i64 5, .slice (some ⟨ga, 0, none⟩) 2 2] 61)).alloc (.cells #[.int .i64 5, .slice (some ⟨gb, 0, none⟩) 2 2] 61) = w5 := ⟨_, rfl⟩
  have hb5 : Below w4.heap.size w4 w5 := by rw [← hw5]; exact ((Below.refl w4.heap.size w4).alloc (Nat.le_refl _) _).alloc (by simp) _
  have HT1 := Lib.hid (show Row w5 w4.heap.size 61 #[.int .i64 5, .slice (some ⟨ga, 0, none⟩) 2 2] by rw [← hw5]; exact (row_new rfl _ _).alloc _)
  have HGa5 := Lib.hid (HGa.out.on hb5)
  have HGb5 := Lib.hid (HGb.out.on hb5)
  have HB5 := Lib.hid (HB4.out.trans (hb5.mono HB4.out.size))
  rw [hw5]
  clear hw5 hb5 HGa HGb HB4
  generalize w4.heap.size = t1 at HT1 ⊢
  refine (Mul_any (.slice (some ⟨ga, 0, none⟩) 2 2) (.slice (some ⟨gb, 0, none⟩) 2 2) 2 2 (fun _ => 2) (fun _ => 2) (M2 1 2 3 4) (M2 0 1 1 0) 5 5 w5 (by omega) (fun _ _ => by omega) (by omega) (fun _ _ => by omega) HGa5.out HGb5.out 0 (chkP_0 liv_c1 liv_c2 rfl).symm).mono ?_
  rintro e w6 h
  obtain ⟨r6, rfl, hg6, hb6⟩ := h.2.2 rfl rfl
  obtain ⟨A6, c6, rfl, -⟩ := hg6.form
  have HG6 := Lib.hid hg6.new_lt
  have HT6 := Lib.hid (HT1.out.below hb6 HT1.out.lt)
  have HA6 := Lib.hid (HGa5.out.on hb6)
  have HB6 := Lib.hid (HB5.out.trans (hb6.mono HB5.out.size))
  have c0 := (HT6.out.alloc (.cells #[.int .i64 5, .slice A6 2 c6] 61)).cell (i := 0) rfl
  have c1 := (HT6.out.alloc (.cells #[.int .i64 5, .slice A6 2 c6] 61)).cell (i := 1) rfl
  clear h hg6 hb6 HT1 HGa5 HGb5 HB5
  go_wp2_with fail
  obtain ⟨w7, hw7⟩ : ∃ w7, w6.alloc (.cells #[.int .i64 5, .slice A6 2 c6] 61) = w7 := ⟨_, rfl⟩
  have hb7 : Below w6.heap.size w6 w7 := by rw [← hw7]; exact (Below.refl w6.heap.size w6).alloc (Nat.le_refl _) _
  have HT7 := Lib.hid (HT6.out.below hb7 HT6.out.lt)
  have HU7 := Lib.hid (show Row w7 w6.heap.size 61 #[.int .i64 5, .slice A6 2 c6] by rw [← hw7]; exact row_new rfl _ _)
  have HA7 := Lib.hid (HA6.out.on hb7)
  have HG7 := Lib.hid (HG6.out.on hb7)
  have HB7 := Lib.hid (HB6.out.trans (hb7.mono HB6.out.size))
  rw [hw7]
  clear hw7 hb7 HT6 HA6 HG6 HB6 c0 c1
  generalize w6.heap.size = t3 at HU7 ⊢
  refine (Det_any (.slice (some ⟨ga, 0, none⟩) 2 2) 2 (fun _ => 2) (M2 1 2 3 4) 5 w7 (by omega) (fun _ _ => by omega) HA7.out 0 (chkS_0 liv_c1 rfl).symm).mono ?_
  rintro e w8 ⟨rfl, hb8⟩
  rw [if_pos rfl, liv_d]
  have HT8 := Lib.hid (HT7.out.below hb8 HT7.out.lt)
  have HU8 := Lib.hid (HU7.out.below hb8 HU7.out.lt)
  have HA8 := Lib.hid (HA7.out.on hb8)
  have HG8 := Lib.hid (HG7.out.on hb8)
  have HB8 := Lib.hid (HB7.out.trans (hb8.mono HB7.out.size))
  have c0 := HT8.out.cell (i := 0) rfl
  have c1 := HT8.out.cell (i := 1) rfl
  clear hb8 HT7 HU7 HA7 HG7 HB7
  go_wp2_with fail
  refine (Inv_go (.slice (some ⟨ga, 0, none⟩) 2 2) 2 (M2 1 2 3 4) 5 w8 (by omega) (by omega) (modB_true mod5).2.2 (by omega) (by omega) HA8.out (M2_in (by omega)) (fun W h => (checkSquare_any _ 2 (fun _ => 2) (M2 1 2 3 4) 5 W (by omega) (fun _ _ => by omega) h).mono fun e w' h => by rw [chkS_0 liv_c1 rfl] at h; exact h)).mono ?_
  rintro e w9 h
  obtain ⟨r9, rfl, hg9, hb9⟩ := h.2 liv_d2
  obtain ⟨A9, c9, rfl, -⟩ := hg9.form
  have HT9 := Lib.hid (HT8.out.below hb9 HT8.out.lt)
  have HU9 := Lib.hid (HU8.out.below hb9 HU8.out.lt)
  have HA9 := Lib.hid (HA8.out.on hb9)
  have HG9 := Lib.hid (HG8.out.on hb9)
  have HI9 := Lib.hid hg9.new_lt
  have HB9 := Lib.hid (HB8.out.trans (hb9.mono HB8.out.size))
  have d0 := (HT9.out.alloc (.cells #[.int .i64 5, .slice A9 2 c9] 61)).cell (i := 0) rfl
  have d1 := (HT9.out.alloc (.cells #[.int .i64 5, .slice A9 2 c9] 61)).cell (i := 1) rfl
  clear h hg9 hb9 HT8 HU8 HA8 HG8 HB8 c0 c1
  go_wp2_with fail
  obtain ⟨wA, hwA⟩ : ∃ wA, w9.alloc (.cells #[.int .i64 5, .slice A9 2 c9] 61) = wA := ⟨_, rfl⟩
  have hbA : Below w9.heap.size w9 wA := by rw [← hwA]; exact (Below.refl w9.heap.size w9).alloc (Nat.le_refl _) _
  have HUA := Lib.hid (HU9.out.below hbA HU9.out.lt)
  have HVA := Lib.hid (show Row wA w9.heap.size 61 #[.int .i64 5, .slice A9 2 c9] by rw [← hwA]; exact row_new rfl _ _)
  have HAA := Lib.hid (HA9.out.on hbA)
  have HGA := Lib.hid (HG9.out.on hbA)
  have HIA := Lib.hid (HI9.out.on hbA)
  have HBA := Lib.hid (HB9.out.trans (hbA.mono HB9.out.size))
  rw [hwA]
  clear hwA hbA HT9 HU9 HA9 HG9 HI9 HB9 d0 d1
  generalize w9.heap.size = t7 at HVA ⊢
  refine (Order_any (.slice (some ⟨ga, 0, none⟩) 2 2) 2 (fun _ => 2) (M2 1 2 3 4) 5 wA (by omega) (fun _ _ => by omega) HAA.out 0 (chkS_0 liv_c1 rfl).symm).mono ?_
  rintro e wB h
  obtain ⟨rfl, hbB⟩ := h
  rw [liv_o]
  have HUB := Lib.hid (HUA.out.below hbB HUA.out.lt)
  have HVB := Lib.hid (HVA.out.below hbB HVA.out.lt)
  have HGB := Lib.hid (HGA.out.on hbB)
  have HIB := Lib.hid (HIA.out.on hbB)
  have HBB := Lib.hid (HBA.out.trans (hbB.mono HBA.out.size))
  clear hbB HUA HVA HAA HGA HIA HBA
  go_wp2_with fail
  have HSB := Lib.hid (fun (W : World) (hb : Below wB.heap.size wB W) => (show (Below wB.heap.size wB W ∧ W.cell? ⟨t3, 0, none⟩ = some (.int .i64 5) ∧ W.cell? ⟨t3, 1, none⟩ = some (.slice A6 2 c6) ∧ W.cell? ⟨t7, 0, none⟩ = some (.int .i64 5) ∧ W.cell? ⟨t7, 1, none⟩ = some (.slice A9 2 c9)) from ⟨hb, (HUB.out.below hb HUB.out.lt).cell rfl, (HUB.out.below hb HUB.out.lt).cell rfl, (HVB.out.below hb HVB.out.lt).cell rfl, (HVB.out.below hb HVB.out.lt).cell rfl⟩))
  have HS0 := Lib.hid (show (Below wB.heap.size wB wB.drew ∧ wB.drew.cell? ⟨t3, 0, none⟩ = some (.int .i64 5) ∧ wB.drew.cell? ⟨t3, 1, none⟩ = some (.slice A6 2 c6) ∧ wB.drew.cell? ⟨t7, 0, none⟩ = some (.int .i64 5) ∧ wB.drew.cell? ⟨t7, 1, none⟩ = some (.slice A9 2 c9)) from HSB.out _ (below_drew (Below.refl _ _)))
  have HSA := Lib.hid (fun (W : World) (o : Obj) (h : (Below wB.heap.size wB W ∧ W.cell? ⟨t3, 0, none⟩ = some (.int .i64 5) ∧ W.cell? ⟨t3, 1, none⟩ = some (.slice A6 2 c6) ∧ W.cell? ⟨t7, 0, none⟩ = some (.int .i64 5) ∧ W.cell? ⟨t7, 1, none⟩ = some (.slice A9 2 c9))) => (show (Below wB.heap.size wB (W.alloc o) ∧ (W.alloc o).cell? ⟨t3, 0, none⟩ = some (.int .i64 5) ∧ (W.alloc o).cell? ⟨t3, 1, none⟩ = some (.slice A6 2 c6) ∧ (W.alloc o).cell? ⟨t7, 0, none⟩ = some (.int .i64 5) ∧ (W.alloc o).cell? ⟨t7, 1, none⟩ = some (.slice A9 2 c9)) from HSB.out _ (h.1.alloc h.1.size o)))
  have HSX := Lib.hid (fun (W : World) (o : Obj) (h : (Below wB.heap.size wB W.drew ∧ W.drew.cell? ⟨t3, 0, none⟩ = some (.int .i64 5) ∧ W.drew.cell? ⟨t3, 1, none⟩ = some (.slice A6 2 c6) ∧ W.drew.cell? ⟨t7, 0, none⟩ = some (.int .i64 5) ∧ W.drew.cell? ⟨t7, 1, none⟩ = some (.slice A9 2 c9))) => (show (Below wB.heap.size wB (W.alloc o).drew ∧ (W.alloc o).drew.cell? ⟨t3, 0, none⟩ = some (.int .i64 5) ∧ (W.alloc o).drew.cell? ⟨t3, 1, none⟩ = some (.slice A6 2 c6) ∧ (W.alloc o).drew.cell? ⟨t7, 0, none⟩ = some (.int .i64 5) ∧ (W.alloc o).drew.cell? ⟨t7, 1, none⟩ = some (.slice A9 2 c9)) from HSB.out _ (show Below wB.heap.size wB (W.alloc o).drew from h.1.alloc h.1.size o)))
  have HSC := Lib.hid (fun (W W' : World) (h : (Below wB.heap.size wB W ∧ W.cell? ⟨t3, 0, none⟩ = some (.int .i64 5) ∧ W.cell? ⟨t3, 1, none⟩ = some (.slice A6 2 c6) ∧ W.cell? ⟨t7, 0, none⟩ = some (.int .i64 5) ∧ W.cell? ⟨t7, 1, none⟩ = some (.slice A9 2 c9))) (hb : Below W.heap.size W W') => (show (Below wB.heap.size wB W' ∧ W'.cell? ⟨t3, 0, none⟩ = some (.int .i64 5) ∧ W'.cell? ⟨t3, 1, none⟩ = some (.slice A6 2 c6) ∧ W'.cell? ⟨t7, 0, none⟩ = some (.int .i64 5) ∧ W'.cell? ⟨t7, 1, none⟩ = some (.slice A9 2 c9)) ∧ Grid W' (· < W'.heap.size) (.slice A6 2 c6) 2 (fun _ => 2) (mulF 5 2 (M2 1 2 3 4) (M2 0 1 1 0)) ∧ Grid W' (· < W'.heap.size) (.slice A9 2 c9) 2 (fun _ => 2) (invF 5 2 (M2 1 2 3 4)) from
    ⟨HSB.out _ (h.1.trans (hb.mono h.1.size)), HGB.out.on (h.1.trans (hb.mono h.1.size)), HIB.out.on (h.1.trans (hb.mono h.1.size))⟩))
  have HIS1 := Lib.hid (fun (W : World) (u : Value) (h1 : Grid W (· < W.heap.size) (.slice A6 2 c6) 2 (fun _ => 2) (mulF 5 2 (M2 1 2 3 4) (M2 0 1 1 0))) (h2 : Grid W (· < W.heap.size) u 2 (fun _ => 2) (M2 2 1 4 3)) => (show Calls Try.prog 50 #[.agg #[.int .i64 5, .slice A6 2 c6], .int .i64 0, .agg #[.int .i64 5, u]] W (fun e w' => e = .returned (.bool true) ∧ Below W.heap.size W w') from by
    have := is_any _ _ 5 2 (fun _ => 2) _ _ W (by omega) (fun _ _ => by omega) h1 h2; rw [liv_m] at this; exact this))
  have HIS2 := Lib.hid (fun (W : World) (u : Value) (h1 : Grid W (· < W.heap.size) (.slice A9 2 c9) 2 (fun _ => 2) (invF 5 2 (M2 1 2 3 4))) (h2 : Grid W (· < W.heap.size) u 2 (fun _ => 2) (M2 3 1 4 2)) => (show Calls Try.prog 50 #[.agg #[.int .i64 5, .slice A9 2 c9], .int .i64 0, .agg #[.int .i64 5, u]] W (fun e w' => e = .returned (.bool true) ∧ Below W.heap.size W w') from by
    have := is_any _ _ 5 2 (fun _ => 2) _ _ W (by omega) (fun _ _ => by omega) h1 h2; rw [liv_i] at this; exact this))
  have HA1 := Lib.hid (fun (W' : World) (h : Below (((wB.alloc (.cells #[.int .i64 2, .int .i64 1] 3)).alloc (.cells #[.int .i64 4, .int .i64 3] 3)).alloc (.cells #[.slice (some ⟨wB.heap.size, 0, none⟩) 2 2, .slice (some ⟨wB.heap.size + 1, 0, none⟩) 2 2] 28)).drew.heap.size (((wB.alloc (.cells #[.int .i64 2, .int .i64 1] 3)).alloc (.cells #[.int .i64 4, .int .i64 3] 3)).alloc (.cells #[.slice (some ⟨wB.heap.size, 0, none⟩) 2 2, .slice (some ⟨wB.heap.size + 1, 0, none⟩) 2 2] 28)).drew W') => (show Grid W' (· < W'.heap.size) (.slice (some ⟨wB.heap.size + 1 + 1, 0, none⟩) 2 2) 2 (fun _ => 2) (M2 2 1 4 3) from (of2 wB 2 1 4 3).1.old ⟨h.os, h.tape, h.output, h.size, h.block⟩))
  have HA2 := Lib.hid (fun (W' : World) (h : Below (((wB.alloc (.cells #[.int .i64 4, .int .i64 3] 3)).alloc (.cells #[.int .i64 2, .int .i64 1] 3)).alloc (.cells #[.slice (some ⟨wB.heap.size + 1, 0, none⟩) 2 2, .slice (some ⟨wB.heap.size, 0, none⟩) 2 2] 28)).drew.heap.size (((wB.alloc (.cells #[.int .i64 4, .int .i64 3] 3)).alloc (.cells #[.int .i64 2, .int .i64 1] 3)).alloc (.cells #[.slice (some ⟨wB.heap.size + 1, 0, none⟩) 2 2, .slice (some ⟨wB.heap.size, 0, none⟩) 2 2] 28)).drew W') => (show Grid W' (· < W'.heap.size) (.slice (some ⟨wB.heap.size + 1 + 1, 0, none⟩) 2 2) 2 (fun _ => 2) (M2 2 1 4 3) from (of2r wB 2 1 4 3).1.old ⟨h.os, h.tape, h.output, h.size, h.block⟩))
  have HA3 := Lib.hid (fun (X : World) (W' : World) (h : Below (((X.alloc (.cells #[.int .i64 3, .int .i64 1] 3)).alloc (.cells #[.int .i64 4, .int .i64 2] 3)).alloc (.cells #[.slice (some ⟨X.heap.size, 0, none⟩) 2 2, .slice (some ⟨X.heap.size + 1, 0, none⟩) 2 2] 28)).heap.size (((X.alloc (.cells #[.int .i64 3, .int .i64 1] 3)).alloc (.cells #[.int .i64 4, .int .i64 2] 3)).alloc (.cells #[.slice (some ⟨X.heap.size, 0, none⟩) 2 2, .slice (some ⟨X.heap.size + 1, 0, none⟩) 2 2] 28)) W') => (show Grid W' (· < W'.heap.size) (.slice (some ⟨X.heap.size + 1 + 1, 0, none⟩) 2 2) 2 (fun _ => 2) (M2 3 1 4 2) from (of2 X 3 1 4 2).1.old h))
  have HA4 := Lib.hid (fun (X : World) (W' : World) (h : Below (((X.alloc (.cells #[.int .i64 4, .int .i64 2] 3)).alloc (.cells #[.int .i64 3, .int .i64 1] 3)).alloc (.cells #[.slice (some ⟨X.heap.size + 1, 0, none⟩) 2 2, .slice (some ⟨X.heap.size, 0, none⟩) 2 2] 28)).heap.size (((X.alloc (.cells #[.int .i64 4, .int .i64 2] 3)).alloc (.cells #[.int .i64 3, .int .i64 1] 3)).alloc (.cells #[.slice (some ⟨X.heap.size + 1, 0, none⟩) 2 2, .slice (some ⟨X.heap.size, 0, none⟩) 2 2] 28)) W') => (show Grid W' (· < W'.heap.size) (.slice (some ⟨X.heap.size + 1 + 1, 0, none⟩) 2 2) 2 (fun _ => 2) (M2 3 1 4 2) from (of2r X 3 1 4 2).1.old h))
  clear HUB HVB HGB HIB
  go_region_held3 (fun W => Below wB.heap.size wB W ∧ W.cell? ⟨t3, 0, none⟩ = some (.int .i64 5) ∧ W.cell? ⟨t3, 1, none⟩ = some (.slice A6 2 c6) ∧ W.cell? ⟨t7, 0, none⟩ = some (.int .i64 5) ∧ W.cell? ⟨t7, 1, none⟩ = some (.slice A9 2 c9))
    ((first | assumption | (with_reducible exact HS0.out) | (with_reducible exact HSX.out _ _ (by assumption)) | (with_reducible exact HSX.out _ _ HS0.out) | (with_reducible exact HSX.out _ _ (HSX.out _ _ HS0.out)) | (with_reducible exact HSX.out _ _ (HSX.out _ _ (HSX.out _ _ HS0.out))) | (with_reducible exact HSA.out _ _ (by assumption)) | (with_reducible exact HSA.out _ _ (HSA.out _ _ (by assumption)))))
    ((first
      | (go_at_call 45; (with_reducible refine (of_any _ _ _ _).mono ?_); rintro e w' ⟨rfl, hb⟩; (first | (with_reducible have hG := HA1.out _ hb) | (with_reducible have hG := HA2.out _ hb) | (with_reducible have hG := HA3.out _ _ hb) | (with_reducible have hG := HA4.out _ _ hb)); (with_reducible have hC := HSC.out _ _ (by assumption) hb); obtain ⟨hS, hC1, hC2⟩ := hC)
      | (go_at_call 50; (first | (with_reducible refine (HIS1.out _ _ (by assumption) (by assumption)).mono ?_) | (with_reducible refine (HIS2.out _ _ (by assumption) (by assumption)).mono ?_)); rintro e w' ⟨rfl, hb⟩; (with_reducible have hC := HSC.out _ _ (by assumption) hb); obtain ⟨hS, hC1, hC2⟩ := hC)))
  all_goals
    have HZ := Lib.hid (HBB.out.trans (hS.1.mono HBB.out.size))
    clear hS hC1 hC2 hb
    go_wp2_with fail
    go_ret
    exact ⟨rfl, HZ.out⟩
end Go.Proofs.Ytokiejichnnmnaa
