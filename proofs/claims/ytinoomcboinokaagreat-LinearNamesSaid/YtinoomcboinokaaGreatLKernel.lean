/- linear.Kernel. -/
import Derived.Test.YtinoomcboinokaaGreatLMarked
import Derived.Test.YtinoomcboinokaaGreatMCheck
import Derived.BigQuiet
namespace Go.Proofs.YtinoomcboinokaaGreat
open Go Go.RowKit Num

/-- What Kernel gives for a matrix that passes: the rows of the kernel. -/
noncomputable def kerR (p : Int) (m n : Nat) (f : Nat → Nat → Int) : Nat → Option (Nat → Int) := elimR p (n + m) (invI p) (rowsL (n + m) (markF n f) m)
def kerL (n m : Nat) (R : Nat → Option (Nat → Int)) : List Nat := (pivL (n + m) R).filter fun j => decide (n ≤ j)
def OkK (m n : Nat) (R : Nat → Option (Nat → Int)) (w : World) (e : Ending) (w' : World) : Prop := ∃ v, e = .returned (.tuple #[v, .int .i64 0]) ∧ Grid w' (New w w') v (kerL n m R).length (fun _ => m) (fun i x => rowAt R ((kerL n m R).getD i 0) (n + x)) ∧ Below w.heap.size w w'
def KerP (x p : Int) (m n : Nat) (f : Nat → Nat → Int) (w : World) (e : Ending) (w' : World) : Prop := (x ≠ 0 → BadB x w e w') ∧ (x = 0 → OkK m n (kerR p m n f) w e w')

set_option maxRecDepth 100000 in
set_option maxHeartbeats 2000000 in
theorem Kernel_any (p : Int) (rows : Value) (m : Nat) (nn : Nat → Nat) (f : Nat → Nat → Int) (w : World) (hm : m ≤ 1000000) (hn : ∀ i, i < m → nn i ≤ 1000000) (hg : Grid w (· < w.heap.size) rows m nn f) :
    Calls Tryz.prog 23 #[.agg #[.int .i64 p, rows]] w (KerP (chkM p m nn f) p m (nn 0) f w) := by
  obtain ⟨A, c, rfl, hc⟩ := hg.form
  have hbx := row_new (W := w) rfl 31 #[.int .i64 p, .slice A m c]
  have hB0 := (Below.refl w.heap.size w).alloc (Nat.le_refl _) (.cells #[.int .i64 p, .slice A m c] 31)
  have hz0 : (w.alloc (.cells #[.int .i64 p, .slice A m c] 31)).heap.size = w.heap.size + 1 := by simp
  have HC := Lib.hid (Check_any (.slice A m c) m nn f p (w.alloc (.cells #[.int .i64 p, .slice A m c] 31)) hm hn ((hg.below (fun _ h => h) hB0).more fun b h => by simp; omega))
  have HG := Lib.hid hg
  have HB := Lib.hid hB0
  have HBX := Lib.hid hbx
  have d0 : (w.alloc (.cells #[.int .i64 p, .slice A m c] 31)).cell? ⟨w.heap.size, 0, none⟩ = some (.int .i64 p) := hbx.cell rfl
  have d1 : (w.alloc (.cells #[.int .i64 p, .slice A m c] 31)).cell? ⟨w.heap.size, 1, none⟩ = some (.slice A m c) := hbx.cell rfl
  clear hg hbx hB0
  by_cases hx : chkM p m nn f = 0
  · obtain ⟨hmod, hm0, hm1, hn0, hn1, hrow⟩ := chkM_zero hx
    obtain ⟨hp0, hp1, hp6⟩ := modB_true hmod
    obtain ⟨n, hnn⟩ : ∃ n, nn 0 = n := ⟨_, rfl⟩
    rw [hnn] at hn0 hn1 ⊢
    obtain ⟨b, o, c', RA, RC, he, hc', hb, hgc⟩ := (HG.out.keep (n' := fun _ => n) (fun _ h => h) (fun _ _ => rfl) (fun i hi => by rw [(hrow i hi).1, hnn]) (fun _ _ _ _ => rfl)).at_ hm0
    injection he with he1 _ he3
    subst he1; subst he3
    have hrow0 := (hgc 0 hm0).1
    have hgk : ∀ W, Below w.heap.size w W → Grid W (· < W.heap.size) (.slice (some ⟨b, o, none⟩) m c) m (fun _ => n) f := fun W hb => (HG.out.below (fun _ h => h) hb).keep (fun _ h => Nat.lt_of_lt_of_le h hb.size) (fun _ _ => rfl) (fun i hi => by rw [(hrow i hi).1, hnn]) (fun _ _ _ _ => rfl)
    have HGK := Lib.hid hgk
    have HE := Lib.hid (fun (e : Ending) (w' : World) (h : OkK m n (kerR p m n f) w e w') => (show KerP 0 p m n f w e w' from ⟨fun h => absurd rfl h, fun _ => h⟩))
    rw [hx] at HC ⊢
    generalize KerP 0 p m n f w = PP at HE ⊢
    generalize RA 0 = A0 at hrow0
    generalize RC 0 = c0 at hrow0
    have hm01 : (0 : Int) < (m : Int) := by omega
    have hm00 : ¬ m = 0 := by omega
    clear hgk hgc hrow hx hnn HG
    go_enter Tryz.func23, Tryz.ntmps23
    go_wp2_with fail
    refine HC.out.mono ?_
    rintro e w1 ⟨rfl, hb1⟩
    have HB1 := Lib.hid (HB.out.trans (hb1.mono HB.out.size))
    have hbx1 := Row.below HBX.out hb1 HBX.out.lt
    have HBX1 := Lib.hid hbx1
    have e0 : w1.cell? ⟨w.heap.size, 0, none⟩ = some (.int .i64 p) := hbx1.cell rfl
    have e1 : w1.cell? ⟨w.heap.size, 1, none⟩ = some (.slice (some ⟨b, o, none⟩) m c) := hbx1.cell rfl
    have e2 : w1.cell? ⟨b, o, none⟩ = some (.slice A0 n c0) := by have := (HB1.out.cell (p := ⟨b, o + 0, none⟩) hb).trans hrow0; rwa [Nat.add_zero] at this
    clear hb1 hbx1 hrow0 d0 d1
    go_wp2_with fail
    refine wp_region_held_drew (S := (fun W1 => W1.cell? ⟨w.heap.size, 1, none⟩ = some (.slice (some ⟨b, o, none⟩) m c) ∧ W1.cell? ⟨b, o, none⟩ = some (.slice A0 n c0))) (by kernel_rfl) ⟨e1, e2⟩ (fun hHeld => ?_)
    refine takeH (i := 0) (v := (.pointer (some ⟨w.heap.size, 1, none⟩))) rfl rfl (by kernel_rfl) (by kernel_rfl) (by kernel_rfl) (fun _ _ _ h => h) (by rfl) (fun W hW => by (obtain ⟨h1, h2⟩ := hW); go_simp) (by assumption) ?_
    simp only [List.setIfInBounds_toArray, List.set_cons_zero, List.set_cons_succ]
    refine takeH (i := 1) (v := (.slice (some ⟨b, o, none⟩) m c)) rfl rfl (by kernel_rfl) (by kernel_rfl) (by kernel_rfl) (fun _ _ _ h => h) (by rfl) (fun W hW => by (obtain ⟨h1, h2⟩ := hW); go_simp) (by assumption) ?_
    simp only [List.setIfInBounds_toArray, List.set_cons_zero, List.set_cons_succ]
    refine takeH (i := 2) (v := (.int .i64 m)) rfl rfl (by kernel_rfl) (by kernel_rfl) (by kernel_rfl) (fun _ _ _ h => h) (by rfl) (fun W hW => by (obtain ⟨h1, h2⟩ := hW); go_simp) (by assumption) ?_
    simp only [List.setIfInBounds_toArray, List.set_cons_zero, List.set_cons_succ]
    refine takeH (i := 3) (v := (.pointer (some ⟨w.heap.size, 1, none⟩))) rfl rfl (by kernel_rfl) (by kernel_rfl) (by kernel_rfl) (fun _ _ _ h => h) (by rfl) (fun W hW => by (obtain ⟨h1, h2⟩ := hW); go_simp) (by assumption) ?_
    simp only [List.setIfInBounds_toArray, List.set_cons_zero, List.set_cons_succ]
    refine takeH (i := 4) (v := (.slice (some ⟨b, o, none⟩) m c)) rfl rfl (by kernel_rfl) (by kernel_rfl) (by kernel_rfl) (fun _ _ _ h => h) (by rfl) (fun W hW => by (obtain ⟨h1, h2⟩ := hW); go_simp) (by assumption) ?_
    simp only [List.setIfInBounds_toArray, List.set_cons_zero, List.set_cons_succ]
    refine takeH (i := 5) (v := (.pointer (some ⟨b, o, none⟩))) rfl rfl (by kernel_rfl) (by kernel_rfl) (by kernel_rfl) (fun _ _ _ h => h) (by rfl) (fun W hW => by (obtain ⟨h1, h2⟩ := hW); go_simp) (by assumption) ?_
    simp only [List.setIfInBounds_toArray, List.set_cons_zero, List.set_cons_succ]
    refine takeH (i := 6) (v := (.slice A0 n c0)) rfl rfl (by kernel_rfl) (by kernel_rfl) (by kernel_rfl) (fun _ _ _ h => h) (by rfl) (fun W hW => by (obtain ⟨h1, h2⟩ := hW); go_simp) (by assumption) ?_
    simp only [List.setIfInBounds_toArray, List.set_cons_zero, List.set_cons_succ]
    refine takeH (i := 7) (v := (.int .i64 n)) rfl rfl (by kernel_rfl) (by kernel_rfl) (by kernel_rfl) (fun _ _ _ h => h) (by rfl) (fun W hW => by (obtain ⟨h1, h2⟩ := hW); go_simp) (by assumption) ?_
    simp only [List.setIfInBounds_toArray, List.set_cons_zero, List.set_cons_succ]
    refine takeH (i := 8) (v := (.int .i64 m)) rfl rfl (by kernel_rfl) (by kernel_rfl) (by kernel_rfl) (fun _ _ _ h => h) (by rfl) (fun W hW => by (obtain ⟨h1, h2⟩ := hW); go_simp) (by assumption) ?_
    simp only [List.setIfInBounds_toArray, List.set_cons_zero, List.set_cons_succ]
    refine takeH (i := 9) (v := (.int .i64 n)) rfl rfl (by kernel_rfl) (by kernel_rfl) (by kernel_rfl) (fun _ _ _ h => h) (by rfl) (fun W hW => by (obtain ⟨h1, h2⟩ := hW); go_simp) (by assumption) ?_
    simp only [List.setIfInBounds_toArray, List.set_cons_zero, List.set_cons_succ]
    refine wpAnyH_done (by kernel_rfl) ?_ _
    have HBd := Lib.hid (show Below w.heap.size w w1.drew from ⟨HB1.out.os, HB1.out.tape, HB1.out.output, HB1.out.size, HB1.out.block⟩)
    have HXd := Lib.hid (show Row w1.drew w.heap.size 31 #[.int .i64 p, .slice (some ⟨b, o, none⟩) m c] from HBX1.out)
    clear HBX1 HB1 e0 e1 e2 hHeld
    generalize w1.drew = w2 at HBd HXd ⊢
    have f0 : w2.drew.cell? ⟨w.heap.size, 0, none⟩ = some (.int .i64 p) := HXd.out.cell rfl
    have f1 : w2.drew.cell? ⟨w.heap.size, 1, none⟩ = some (.slice (some ⟨b, o, none⟩) m c) := HXd.out.cell rfl
    have hwr : IntKind.i64.wrap ((n : Int) + (m : Int)) = ((n + m : Nat) : Int) := by rw [← Int.natCast_add]; exact IntWalk.i64_in _ ⟨by omega, by omega⟩
    go_wp2_with fail
    refine wp_region_held_drew (S := (fun W1 => W1.cell? ⟨w.heap.size, 0, none⟩ = some (.int .i64 p) ∧ W1.cell? ⟨w.heap.size, 1, none⟩ = some (.slice (some ⟨b, o, none⟩) m c))) (by kernel_rfl) ⟨f0, f1⟩ (fun hHeld => ?_)
    have HBe := Lib.hid (show Below w.heap.size w w2.drew from ⟨HBd.out.os, HBd.out.tape, HBd.out.output, HBd.out.size, HBd.out.block⟩)
    have HXe := Lib.hid (show Row w2.drew w.heap.size 31 #[.int .i64 p, .slice (some ⟨b, o, none⟩) m c] from HXd.out)
    clear HBd HXd f0 f1
    generalize w2.drew = w3 at HBe HXe hHeld ⊢
    refine takeH (i := 0) (v := (.pointer (some ⟨w.heap.size, 0, none⟩))) rfl rfl (by kernel_rfl) (by kernel_rfl) (by kernel_rfl) (fun _ _ _ h => h) (by rfl) (fun W hW => by (obtain ⟨h1, h2⟩ := hW); go_simp) (by assumption) ?_
    simp only [List.setIfInBounds_toArray, List.set_cons_zero, List.set_cons_succ]
    refine takeH (i := 1) (v := (.int .i64 p)) rfl rfl (by kernel_rfl) (by kernel_rfl) (by kernel_rfl) (fun _ _ _ h => h) (by rfl) (fun W hW => by (obtain ⟨h1, h2⟩ := hW); go_simp) (by assumption) ?_
    simp only [List.setIfInBounds_toArray, List.set_cons_zero, List.set_cons_succ]
    refine takeH (i := 2) (v := (.int .i64 n)) rfl rfl (by kernel_rfl) (by kernel_rfl) (by kernel_rfl) (fun _ _ _ h => h) (by rfl) (fun W hW => by (obtain ⟨h1, h2⟩ := hW); go_simp) (by assumption) ?_
    simp only [List.setIfInBounds_toArray, List.set_cons_zero, List.set_cons_succ]
    refine takeH (i := 3) (v := (.int .i64 m)) rfl rfl (by kernel_rfl) (by kernel_rfl) (by kernel_rfl) (fun _ _ _ h => h) (by rfl) (fun W hW => by (obtain ⟨h1, h2⟩ := hW); go_simp) (by assumption) ?_
    simp only [List.setIfInBounds_toArray, List.set_cons_zero, List.set_cons_succ]
    refine takeH (i := 4) (v := (.int .i64 ((n + m : Nat) : Int))) rfl rfl (by kernel_rfl) (by kernel_rfl) (by kernel_rfl) (fun _ _ _ h => h) (by rfl) (fun W hW => by (obtain ⟨h1, h2⟩ := hW); go_simp) (by assumption) ?_
    simp only [List.setIfInBounds_toArray, List.set_cons_zero, List.set_cons_succ]
    refine takeH (i := 5) (v := (.agg #[.int .i64 p, .slice (some ⟨b, o, none⟩) m c])) rfl rfl (by kernel_rfl) (by kernel_rfl) (by kernel_rfl) (fun _ _ _ h => h) (by rfl) (fun W hW => by (obtain ⟨h1, h2⟩ := hW); go_simp) (by assumption) ?_
    simp only [List.setIfInBounds_toArray, List.set_cons_zero, List.set_cons_succ]
    refine takeH (i := 8) (v := (.int .i64 n)) rfl rfl (by kernel_rfl) (by kernel_rfl) (by kernel_rfl) (fun _ _ _ h => h) (by rfl) (fun W hW => by (obtain ⟨h1, h2⟩ := hW); go_simp) (by assumption) ?_
    simp only [List.setIfInBounds_toArray, List.set_cons_zero, List.set_cons_succ]
    refine wpAnyH_ready (rs := [6]) (by kernel_rfl) (by simp) ?_
    refine (AllReadyH.cons rfl (fun K hK => ?_) AllReadyH.nil)
    go_simp
    refine (marked_any p (.slice (some ⟨b, o, none⟩) m c) m n f w3 hm0 (by omega) hn0 (by omega) (HGK.out w3 HBe.out)).mono ?_
    rintro e w4 ⟨v, rfl, hgv, hb4⟩
    obtain ⟨A4, c4, rfl, -⟩ := hgv.form
    have HB4 := Lib.hid (HBe.out.trans (hb4.mono HBe.out.size))
    have hw4 := (Row.below HXe.out hb4 HXe.out.lt)
    have g0 : w4.cell? ⟨w.heap.size, 0, none⟩ = some (.int .i64 p) := hw4.cell rfl
    have g1 : w4.cell? ⟨w.heap.size, 1, none⟩ = some (.slice (some ⟨b, o, none⟩) m c) := hw4.cell rfl
    have HX4 := Lib.hid hw4
    have HGV := Lib.hid (hgv.more (S' := (· < w4.heap.size)) fun _ h => h.2)
    clear hgv hb4 hw4
    dsimp only
    refine hK.out _ _ ⟨g0, g1⟩ (fun hHeld => ?_)
    clear hK K
    try simp only [Act.put, List.setIfInBounds_toArray, List.set_cons_zero, List.set_cons_succ]
    refine wpAnyH_ready (rs := [7]) (by kernel_rfl) (by simp) ?_
    refine (AllReadyH.cons rfl (fun K hK => ?_) AllReadyH.nil)
    rw [show ((n : Int) + (m : Int)) = ((n + m : Nat) : Int) from (Int.natCast_add n m).symm]
    go_simp
    refine (eliminate_any p (n + m) (n + m) m (markF n f) (.slice A4 m c4) w4 hp6 hp0 (by omega) (by omega) (Nat.le_refl _) (by omega) (by omega) HGV.out).mono ?_
    rintro e w5 ⟨eb, mb, g, c5, rfl, heb, hgn, hel, hb5⟩
    have HB5 := Lib.hid (HB4.out.trans (hb5.mono HB4.out.size))
    have hw5 := (Row.below HX4.out hb5 HX4.out.lt)
    have k0 : w5.cell? ⟨w.heap.size, 0, none⟩ = some (.int .i64 p) := hw5.cell rfl
    have k1 : w5.cell? ⟨w.heap.size, 1, none⟩ = some (.slice (some ⟨b, o, none⟩) m c) := hw5.cell rfl
    have HX5 := Lib.hid hw5
    have HEL := Lib.hid hel
    have HGN := Lib.hid hgn
    have hs5 := hb5.size
    have hs4 := HB4.out.size
    clear hel hgn hb5 hw5
    dsimp only
    refine hK.out _ _ ⟨k0, k1⟩ (fun hHeld => ?_)
    clear hK K
    try simp only [Act.put, List.setIfInBounds_toArray, List.set_cons_zero, List.set_cons_succ]
    refine wpAnyH_ready (rs := [9]) (by kernel_rfl) (by simp) ?_
    refine (AllReadyH.cons rfl (fun K hK => ?_) AllReadyH.nil)
    go_simp
    refine (after_any p (n + m) (n + m) m n eb mb w4.heap.size _ g c5 w5 (Nat.le_refl _) (by omega) (by omega) (by omega) (elimR_ech (by omega) (invF hp6 hp0) (n + m) _) HEL.out hs5 HGN.out).mono ?_
    rintro e w6 ⟨v, rfl, hgv, hb6⟩
    rw [show n + m - n = m by omega] at hgv
    have HB6 := Lib.hid (HB5.out.trans (hb6.mono HB5.out.size))
    have hw6 := (Row.below HX5.out hb6 HX5.out.lt)
    have l0 : w6.cell? ⟨w.heap.size, 0, none⟩ = some (.int .i64 p) := hw6.cell rfl
    have l1 : w6.cell? ⟨w.heap.size, 1, none⟩ = some (.slice (some ⟨b, o, none⟩) m c) := hw6.cell rfl
    generalize hq : (List.filter (fun j => decide (n ≤ j)) (pivL (n + m) (elimR p (n + m) (invI p) (rowsL (n + m) (markF n f) m)))).length = q at hgv
    have hq2 : (kerL n m (kerR p m n f)).length = q := hq
    obtain ⟨A6, c6, rfl, -⟩ := hgv.form
    have HEE := Lib.hid (HE.out (.returned (.tuple #[.slice A6 q c6, .int .i64 0])) w6 ⟨_, rfl, by rw [hq2]; exact hgv.more fun b h => ⟨by omega, h.2⟩, HB6.out⟩)
    clear hgv hb6 hw6 hq hq2
    dsimp only
    refine hK.out _ _ ⟨l0, l1⟩ (fun hHeld => ?_)
    clear hK K
    try simp only [Act.put, List.setIfInBounds_toArray, List.set_cons_zero, List.set_cons_succ]
    refine takeH (i := 10) (v := (.slice A6 q c6)) rfl rfl (by kernel_rfl) (by kernel_rfl) (by kernel_rfl) (fun _ _ _ h => h) (by rfl) (fun W hW => by (skip); go_simp) (by assumption) ?_
    simp only [List.setIfInBounds_toArray, List.set_cons_zero, List.set_cons_succ]
    refine takeH (i := 11) (v := (.int .i64 0)) rfl rfl (by kernel_rfl) (by kernel_rfl) (by kernel_rfl) (fun _ _ _ h => h) (by rfl) (fun W hW => by (skip); go_simp) (by assumption) ?_
    simp only [List.setIfInBounds_toArray, List.set_cons_zero, List.set_cons_succ]
    refine wpAnyH_done (by kernel_rfl) ?_ _
    go_wp2
    exact HEE.out
  · have HE := Lib.hid (fun (w' : World) (h : Below w.heap.size w w') => (show KerP (chkM p m nn f) p m (nn 0) f w (.returned (.tuple #[.slice none 0 0, .int .i64 (chkM p m nn f)])) w' from ⟨fun _ => ⟨rfl, h⟩, fun h => absurd h hx⟩))
    generalize KerP (chkM p m nn f) p m (nn 0) f w = PP at HE ⊢
    generalize chkM p m nn f = x at hx HC HE
    have hxb : (x != 0) = true := by simp [hx]
    clear hx
    go_enter Tryz.func23, Tryz.ntmps23
    go_wp2_with fail
    refine HC.out.mono ?_
    rintro e w1 ⟨rfl, hb1⟩
    have HEE := Lib.hid (HE.out w1 (HB.out.trans (hb1.mono HB.out.size)))
    clear hb1
    go_wp2
    exact HEE.out
end Go.Proofs.YtinoomcboinokaaGreat
