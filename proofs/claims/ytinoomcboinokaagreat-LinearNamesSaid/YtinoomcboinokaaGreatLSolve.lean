/- linear.Solve, for what passes. -/
import Derived.Test.YtinoomcboinokaaGreatLKernel
import Derived.Test.YtinoomcboinokaaGreatLIn
import Derived.BigQuiet
namespace Go.Proofs.YtinoomcboinokaaGreat
open Go Go.RowKit Num

/-- What is left of a right side. -/
noncomputable def solR (p : Int) (m n : Nat) (f : Nat → Nat → Int) (b : Nat → Int) : Nat → Int := redK p (elimR p n (invI p) (rowsL (n + m) (markF n f) m)) (catF n b fun _ => 0) n
/-- The solution. -/
def solV (p : Int) (n : Nat) (rest : Nat → Int) (i : Nat) : Int := (0 + (p - 1) * rest (n + i)) % p
def SolP (p : Int) (m n : Nat) (rest : Nat → Int) (w : World) (e : Ending) (w' : World) : Prop :=
  (firstNZ rest n = none → ∃ v, e = .returned (.tuple #[v, .int .i64 0]) ∧ Vec w' (New w w') v m (solV p n rest) ∧ Below w.heap.size w w') ∧ (firstNZ rest n ≠ none → e = .returned (.tuple #[.slice none 0 0, .int .i64 18]) ∧ Below w.heap.size w w')
theorem isZero_of {rest : Nat → Int} {n : Nat} {b : Bool} (hb : (!(firstNZ rest n).isSome) = b) : (b = true ↔ firstNZ rest n = none) := by
  subst hb
  cases firstNZ rest n <;> simp

set_option maxRecDepth 100000 in
set_option maxHeartbeats 800000 in
theorem Solve_ok (p : Int) (rows bv : Value) (m n : Nat) (f : Nat → Nat → Int) (y : Nat → Int) (w : World) (hx : chkM p m (fun _ => n) f = 0) (hg : Grid w (· < w.heap.size) rows m (fun _ => n) f) (hv : Vec w (· < w.heap.size) bv n y) :
    Calls Tryz.prog 21 #[.agg #[.int .i64 p, rows], bv] w (SolP p m n (solR p m n f y) w) := by
  obtain ⟨hmod, hm0, hm1, hn0, hn1, hrow⟩ := chkM_zero hx
  obtain ⟨hp0, hp1, hp6⟩ := modB_true hmod
  obtain ⟨Av, cv, rfl, hcv⟩ := hv.form
  obtain ⟨b, o, c, RA, RC, rfl, hc', hb, hgc⟩ := hg.at_ hm0
  have hrow0 := (hgc 0 hm0).1
  have hbx := row_new (W := w) rfl 31 #[.int .i64 p, .slice (some ⟨b, o, none⟩) m c]
  have hB0 := (Below.refl w.heap.size w).alloc (Nat.le_refl _) (.cells #[.int .i64 p, .slice (some ⟨b, o, none⟩) m c] 31)
  have HC := Lib.hid (Check_any (.slice (some ⟨b, o, none⟩) m c) m (fun _ => n) f p (w.alloc (.cells #[.int .i64 p, .slice (some ⟨b, o, none⟩) m c] 31)) (by omega) (fun _ _ => by omega) ((hg.below (fun _ h => h) hB0).more fun b h => by simp; omega))
  rw [hx] at HC
  have HGK := Lib.hid (fun (W : World) (hb : Below w.heap.size w W) => (hg.below (fun _ h => h) hb).more (S' := (· < W.heap.size)) fun _ h => Nat.lt_of_lt_of_le h hb.size)
  have HVK := Lib.hid (fun (W : World) (hb : Below w.heap.size w W) => (hv.below (fun _ h => h) hb).more (S' := (· < W.heap.size)) fun _ h => Nat.lt_of_lt_of_le h hb.size)
  have HB := Lib.hid hB0
  have HBX := Lib.hid hbx
  have HP6 := Lib.hid hp6
  have d0 : (w.alloc (.cells #[.int .i64 p, .slice (some ⟨b, o, none⟩) m c] 31)).cell? ⟨w.heap.size, 0, none⟩ = some (.int .i64 p) := hbx.cell rfl
  have d1 : (w.alloc (.cells #[.int .i64 p, .slice (some ⟨b, o, none⟩) m c] 31)).cell? ⟨w.heap.size, 1, none⟩ = some (.slice (some ⟨b, o, none⟩) m c) := hbx.cell rfl
  have HE := Lib.hid (fun (e : Ending) (w' : World) (h : SolP p m n (solR p m n f y) w e w') => h)
  generalize hPP : SolP p m n (solR p m n f y) w = PP at HE ⊢
  have HPP := Lib.hid hPP
  generalize RA 0 = A0 at hrow0
  generalize RC 0 = c0 at hrow0
  have hne : ((n : Int) != (n : Int)) = false := by simp
  clear hg hv hgc hrow hbx hB0 hp6 hPP hmod hx HE
  go_enter Tryz.func21, Tryz.ntmps21
  go_wp2_with fail
  refine HC.out.mono ?_
  rintro e w1 ⟨rfl, hb1⟩
  have HB1 := Lib.hid (HB.out.trans (hb1.mono HB.out.size))
  have hbx1 := Row.below HBX.out hb1 HBX.out.lt
  have HBX1 := Lib.hid hbx1
  have e0 : w1.cell? ⟨w.heap.size, 0, none⟩ = some (.int .i64 p) := hbx1.cell rfl
  have e1 : w1.cell? ⟨w.heap.size, 1, none⟩ = some (.slice (some ⟨b, o, none⟩) m c) := hbx1.cell rfl
  have e2 : w1.cell? ⟨b, o, none⟩ = some (.slice A0 n c0) := by have := (HB1.out.cell (p := ⟨b, o + 0, none⟩) hb).trans hrow0; rwa [Nat.add_zero] at this
  clear hb1 hbx1 hrow0 d0 d1
  have hwr : IntKind.i64.wrap ((n : Int) + (m : Int)) = ((n + m : Nat) : Int) := by rw [← Int.natCast_add]; exact IntWalk.i64_in _ ⟨by omega, by omega⟩
  go_wp2_with fail
  refine wp_region_held_drew (S := (fun W1 => W1.cell? ⟨w.heap.size, 0, none⟩ = some (.int .i64 p) ∧ W1.cell? ⟨w.heap.size, 1, none⟩ = some (.slice (some ⟨b, o, none⟩) m c))) (by kernel_rfl) ⟨e0, e1⟩ (fun hHeld => ?_)
  have HBe := Lib.hid (show Below w.heap.size w w1.drew from ⟨HB1.out.os, HB1.out.tape, HB1.out.output, HB1.out.size, HB1.out.block⟩)
  have HXe := Lib.hid (show Row w1.drew w.heap.size 31 #[.int .i64 p, .slice (some ⟨b, o, none⟩) m c] from HBX1.out)
  clear HB1 HBX1 e0 e1 e2
  generalize w1.drew = w3 at HBe HXe hHeld ⊢
  refine takeH (i := 0) (v := (.pointer (some ⟨w.heap.size, 0, none⟩))) rfl rfl (by kernel_rfl) (by kernel_rfl) (by kernel_rfl) (fun _ _ _ h => h) (by rfl) (fun W hW => by (obtain ⟨h1, h2⟩ := hW); go_simp) (by assumption) ?_
  simp only [List.setIfInBounds_toArray, List.set_cons_zero, List.set_cons_succ]
  refine takeH (i := 1) (v := (.int .i64 p)) rfl rfl (by kernel_rfl) (by kernel_rfl) (by kernel_rfl) (fun _ _ _ h => h) (by rfl) (fun W hW => by (obtain ⟨h1, h2⟩ := hW); go_simp) (by assumption) ?_
  simp only [List.setIfInBounds_toArray, List.set_cons_zero, List.set_cons_succ]
  refine takeH (i := 2) (v := (.int .i64 n)) rfl rfl (by kernel_rfl) (by kernel_rfl) (by kernel_rfl) (fun _ _ _ h => h) (by rfl) (fun W hW => by (obtain ⟨h1, h2⟩ := hW); go_simp) (by assumption) ?_
  simp only [List.setIfInBounds_toArray, List.set_cons_zero, List.set_cons_succ]
  refine takeH (i := 3) (v := (.agg #[.int .i64 p, .slice (some ⟨b, o, none⟩) m c])) rfl rfl (by kernel_rfl) (by kernel_rfl) (by kernel_rfl) (fun _ _ _ h => h) (by rfl) (fun W hW => by (obtain ⟨h1, h2⟩ := hW); go_simp) (by assumption) ?_
  simp only [List.setIfInBounds_toArray, List.set_cons_zero, List.set_cons_succ]
  refine wpAnyH_ready (rs := [4]) (by kernel_rfl) (by simp) ?_
  refine (AllReadyH.cons rfl (fun K hK => ?_) AllReadyH.nil)
  go_simp
  refine (marked_any p (.slice (some ⟨b, o, none⟩) m c) m n f w3 hm0 (by omega) hn0 (by omega) (HGK.out w3 HBe.out)).mono ?_
  rintro e w4 ⟨v, rfl, hgv, hb4⟩
  obtain ⟨A4, c4, rfl, -⟩ := hgv.form
  have HB4 := Lib.hid (HBe.out.trans (hb4.mono HBe.out.size))
  have hw4 := (Row.below HXe.out hb4 HXe.out.lt)
  have g0 : w4.cell? ⟨w.heap.size, 0, none⟩ = some (.int .i64 p) := hw4.cell rfl
  have g1 : w4.cell? ⟨w.heap.size, 1, none⟩ = some (.slice (some ⟨b, o, none⟩) m c) := hw4.cell rfl
  have HX4 := Lib.hid hw4
  have HGV := Lib.hid (hgv.more (S' := (· < w4.heap.size)) fun _ h => h.2)
  clear hgv hb4 hw4
  dsimp only
  refine hK.out _ _ ⟨g0, g1⟩ (fun hHeld => ?_)
  clear hK K
  try simp only [Act.put, List.setIfInBounds_toArray, List.set_cons_zero, List.set_cons_succ]
  refine wpAnyH_ready (rs := [5]) (by kernel_rfl) (by simp) ?_
  refine (AllReadyH.cons rfl (fun K hK => ?_) AllReadyH.nil)
  go_simp
  refine (eliminate_any p n (n + m) m (markF n f) (.slice A4 m c4) w4 HP6.out hp0 (by omega) (by omega) (by omega) (by omega) (by omega) HGV.out).mono ?_
  rintro e w5 ⟨eb, mb, g, c5, rfl, heb, hgn, hel, hb5⟩
  have HB5 := Lib.hid (HB4.out.trans (hb5.mono HB4.out.size))
  have hw5 := (Row.below HX4.out hb5 HX4.out.lt)
  have k0 : w5.cell? ⟨w.heap.size, 0, none⟩ = some (.int .i64 p) := hw5.cell rfl
  have k1 : w5.cell? ⟨w.heap.size, 1, none⟩ = some (.slice (some ⟨b, o, none⟩) m c) := hw5.cell rfl
  have HEL := Lib.hid hel
  clear hgn hel hb5 hw5 hHeld
  dsimp only
  refine hK.out _ _ ⟨k0, k1⟩ (fun hHeld => ?_)
  clear hK K
  try simp only [Act.put, List.setIfInBounds_toArray, List.set_cons_zero, List.set_cons_succ]
  refine takeH (i := 6) (v := (.pointer (some ⟨eb, 0, none⟩))) rfl rfl (by kernel_rfl) (by kernel_rfl) (by kernel_rfl) (fun _ _ _ h => h) (by rfl) (fun W hW => by (skip); go_simp) (by assumption) ?_
  simp only [List.setIfInBounds_toArray, List.set_cons_zero, List.set_cons_succ]
  refine wpAnyH_done (by kernel_rfl) ?_ _
  clear hHeld k0 k1
  go_wp2_with fail
  refine (longer_any (.slice Av n cv) n m y w5 hn0 hm0 (by omega) (by omega) (HVK.out w5 HB5.out)).mono ?_
  rintro e w6 ⟨A6, c6, rfl, hc6, hg6, hb6⟩
  obtain ⟨g6, rfl, hg60, hr6⟩ := hg6 (by omega)
  have HB6 := Lib.hid (HB5.out.trans (hb6.mono HB5.out.size))
  have HEL6 := Lib.hid (HEL.out.below hb6)
  have HV6 := Lib.hid (hr6.vec hc6 (· < w6.heap.size) hr6.lt)
  clear hg6 hr6 hb6 HEL
  go_wp2_with fail
  refine (reduce_any p n (n + m) m eb mb _ g c5 (catF n y fun _ => 0) (.slice (some ⟨g6, 0, none⟩) (n + m) c6) w6 HP6.out hp0 (by omega) (by omega) (by omega) (by omega) (by omega) (elimR_ech (by omega) (invF HP6.out hp0) n _) HEL6.out HV6.out).mono ?_
  rintro e w7 ⟨A7, c7, rfl, hc7, hg7, hb7⟩
  obtain ⟨g7, rfl, hg70, hr7⟩ := hg7 (by omega)
  change RowI w7 g7 (n + m) (solR p m n f y) at hr7
  have hlow : InP p (n + m) (solR p m n f y) := fun j _ => redK_low (by omega) _ _ _ _
  generalize solR p m n f y = rest at hr7 HPP hlow
  have HB7 := Lib.hid (HB6.out.trans (hb7.mono HB6.out.size))
  have HEL7 := Lib.hid (HEL6.out.below hb7)
  have hmod7 := HEL7.out.mod
  obtain ⟨A8, hcut8, hV8⟩ := cut_pre (hr7.vec hc7 (fun _ => True) trivial) (k := n) (by omega)
  obtain ⟨A9, hcut9, hV9⟩ := cut_suf (hr7.vec hc7 (· < w7.heap.size) hr7.lt) (k := n) (by omega)
  rw [show n + m - n = m by omega] at hcut9 hV9
  have HV8 := Lib.hid hV8
  have HV9 := Lib.hid hV9
  have HLOW := Lib.hid hlow
  clear hg7 hr7 hb7 HEL6 HV6 hV8 hV9 hlow
  go_wp2_with fail
  refine (isZero_any _ n rest (fun _ => True) w7 (by omega) HV8.out).mono ?_
  rintro e w8 ⟨rfl, rfl⟩
  obtain ⟨bz, hbz⟩ : ∃ bz, (!(firstNZ rest n).isSome) = bz := ⟨_, rfl⟩
  rw [hbz]
  have hiff := isZero_of hbz
  have hmk := make_ints m (by omega) w8
  cases bz with
  | false =>
    have hnn : firstNZ rest n ≠ none := fun e => by have := hiff.2 e; cases this
    have HEE := Lib.hid (show PP (.returned (.tuple #[.slice none 0 0, .int .i64 18])) w8 from by rw [← HPP.out]; exact ⟨fun h => absurd h hnn, fun _ => ⟨rfl, HB7.out⟩⟩)
    clear hbz hiff hnn HV8 HV9 HPP
    go_wp2
    exact HEE.out
  | true =>
    have hnn : firstNZ rest n = none := hiff.1 rfl
    have HEE := Lib.hid (fun (v : Value) (w' : World) (h1 : Vec w' (New w w') v m (solV p n rest)) (h2 : Below w.heap.size w w') => (show PP (.returned (.tuple #[v, .int .i64 0])) w' from by rw [← HPP.out]; exact ⟨fun _ => ⟨v, rfl, h1, h2⟩, fun h => absurd hnn h⟩))
    clear hbz hiff hnn HV8 HPP
    have HR9 := Lib.hid (show RowI (w8.alloc (.cells (CTab m fun _ => .int .i64 0) 3)) w8.heap.size m (fun _ => 0) from ⟨_, row_new rfl _ _, by rw [CTab_size]; exact Nat.le_refl _, fun j hj => CTab_get m _ j hj⟩)
    have hb9 := (Below.refl w8.heap.size w8).alloc (Nat.le_refl _) (.cells (CTab m fun _ => .int .i64 0) 3)
    have HV10 := Lib.hid (HV9.out.below (fun _ h => h) hb9)
    have HB9 := Lib.hid (HB7.out.trans (hb9.mono HB7.out.size))
    have hmod9 := (HEL7.out.below hb9).mod
    have hs8 := HB7.out.size
    have heb8 := HEL7.out.lt.1
    clear hmod7 HB7 HEL7 HV9 hb9 hcut8
    go_wp2_with fail
    generalize w8.alloc (.cells (CTab m fun _ => .int .i64 0) 3) = w9 at HR9 HV10 HB9 hmod9 ⊢
    generalize w8.heap.size = g9 at HR9 HV10 hs8 heb8 ⊢
    refine wp_region_held_drew (S := (fun W1 => W1.cell? ⟨eb, 0, none⟩ = some (.int .i64 p))) (by kernel_rfl) hmod9 (fun hHeld => ?_)
    have HR10 := Lib.hid (show RowI w9.drew g9 m (fun _ => 0) from HR9.out)
    have HV11 := Lib.hid (show Vec w9.drew (· < g9) (.slice A9 m (c7 - n)) m (fun j => rest (n + j)) from HV10.out.keep (fun _ h => h) (fun _ _ => rfl) (fun _ _ => rfl))
    have HBd := Lib.hid (show Below w.heap.size w w9.drew from ⟨HB9.out.os, HB9.out.tape, HB9.out.output, HB9.out.size, HB9.out.block⟩)
    clear HR9 HV10 HB9 hmod9
    generalize w9.drew = w10 at hHeld HR10 HV11 HBd ⊢
    refine takeH (i := 0) (v := (.pointer (some ⟨eb, 0, none⟩))) rfl rfl (by kernel_rfl) (by kernel_rfl) (by kernel_rfl) (fun _ _ _ h => h) (by rfl) (fun W hW => by (skip); go_simp) (by assumption) ?_
    simp only [List.setIfInBounds_toArray, List.set_cons_zero, List.set_cons_succ]
    refine takeH (i := 1) (v := (.pointer (some ⟨eb, 0, none⟩))) rfl rfl (by kernel_rfl) (by kernel_rfl) (by kernel_rfl) (fun _ _ _ h => h) (by rfl) (fun W hW => by (skip); go_simp) (by assumption) ?_
    simp only [List.setIfInBounds_toArray, List.set_cons_zero, List.set_cons_succ]
    refine takeH (i := 2) (v := (.pointer (some ⟨eb, 0, none⟩))) rfl rfl (by kernel_rfl) (by kernel_rfl) (by kernel_rfl) (fun _ _ _ h => h) (by rfl) (fun W hW => by (skip); go_simp) (by assumption) ?_
    simp only [List.setIfInBounds_toArray, List.set_cons_zero, List.set_cons_succ]
    refine takeH (i := 3) (v := (.int .i64 p)) rfl rfl (by kernel_rfl) (by kernel_rfl) (by kernel_rfl) (fun _ _ _ h => h) (by rfl) (fun W hW => by (skip); go_simp) (by assumption) ?_
    simp only [List.setIfInBounds_toArray, List.set_cons_zero, List.set_cons_succ]
    refine takeH (i := 4) (v := (.slice (some ⟨g9, 0, none⟩) m m)) rfl rfl (by kernel_rfl) (by kernel_rfl) (by kernel_rfl) (fun _ _ _ h => h) (by rfl) (fun W hW => by (skip); go_simp) (by assumption) ?_
    simp only [List.setIfInBounds_toArray, List.set_cons_zero, List.set_cons_succ]
    refine takeH (i := 5) (v := (.slice (some ⟨g7, 0, none⟩) (n + m) c7)) rfl rfl (by kernel_rfl) (by kernel_rfl) (by kernel_rfl) (fun _ _ _ h => h) (by rfl) (fun W hW => by (skip); go_simp) (by assumption) ?_
    simp only [List.setIfInBounds_toArray, List.set_cons_zero, List.set_cons_succ]
    refine takeH (i := 6) (v := (.int .i64 n)) rfl rfl (by kernel_rfl) (by kernel_rfl) (by kernel_rfl) (fun _ _ _ h => h) (by rfl) (fun W hW => by (skip); go_simp) (by assumption) ?_
    simp only [List.setIfInBounds_toArray, List.set_cons_zero, List.set_cons_succ]
    refine takeH (i := 7) (v := (.slice A9 m (c7 - n))) rfl rfl (by kernel_rfl) (by kernel_rfl) (by kernel_rfl) (fun _ _ _ h => h) (by rfl) (fun W hW => by (skip); go_simp) (by assumption) ?_
    simp only [List.setIfInBounds_toArray, List.set_cons_zero, List.set_cons_succ]
    refine wpAnyH_ready (rs := [8]) (by kernel_rfl) (by simp) ?_
    refine (AllReadyH.cons rfl (fun K hK => ?_) AllReadyH.nil)
    go_simp
    refine (subtract_any p 1 g9 m m (fun _ => 0) (fun j => rest (n + j)) (.slice A9 m (c7 - n)) (· < g9) w10 (by omega) hp0 (by omega) ⟨by omega, by omega⟩ HR10.out (fun _ _ => ⟨Int.le_refl 0, show (0 : Int) < p by omega⟩) HV11.out (fun j hj => HLOW.out (n + j) (by omega)) (Nat.lt_irrefl _)).mono ?_
    rintro e w11 ⟨rfl, hr, ht⟩
    have hr' : RowI w11 g9 m (solV p n rest) := hr.congr fun j _ => by unfold subF solV; rw [if_neg (by decide)]
    have hB11 : Below w.heap.size w w11 := ⟨ht.os.trans HBd.out.os, ht.tape.trans HBd.out.tape, ht.output.trans HBd.out.output, Nat.le_trans HBd.out.size ht.size, fun b hb => (ht.block b (Nat.lt_of_lt_of_le hb HBd.out.size) (fun (e : b = g9) => by omega)).trans (HBd.out.block b hb)⟩
    have HEE2 := Lib.hid (HEE.out (.slice (some ⟨g9, 0, none⟩) m m) w11 (hr'.vec (Nat.le_refl m) _ ⟨by omega, hr'.lt⟩) hB11)
    have hHeld2 : w11.cell? ⟨eb, 0, none⟩ = some (.int .i64 p) := ht.cell hHeld (fun (e : eb = g9) => by omega)
    clear hr hr' ht hB11 HEE hHeld
    dsimp only
    refine hK.out _ _ hHeld2 (fun hHeld => ?_)
    clear hK K
    try simp only [Act.put, List.setIfInBounds_toArray, List.set_cons_zero, List.set_cons_succ]
    refine wpAnyH_done (by kernel_rfl) ?_ _
    clear hHeld hHeld2
    go_wp2
    exact HEE2.out
end Go.Proofs.YtinoomcboinokaaGreat
