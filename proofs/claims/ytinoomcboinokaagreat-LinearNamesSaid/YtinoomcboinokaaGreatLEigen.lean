/- linear.Eigen, for matrices that pass. -/
import Derived.Test.YtinoomcboinokaaGreatLKernel
import Derived.Test.YtinoomcboinokaaGreatMAdd
import Derived.Test.YtinoomcboinokaaGreatLKit
import Derived.BigQuiet
namespace Go.Proofs.YtinoomcboinokaaGreat
open Go Go.RowKit Num

set_option maxRecDepth 100000 in
set_option maxHeartbeats 1000000 in
theorem checkSq_ok (p : Int) (ra : Value) (m n : Nat) (f : Nat → Nat → Int) (w : World) (ha : Grid w (· < w.heap.size) ra m (fun _ => n) f) (hx : chkM p m (fun _ => n) f = 0) :
    Calls Tryz.prog 27 #[.agg #[.int .i64 p, ra]] w fun e w' => e = .returned (.int .i64 (if m = n then 0 else 10)) ∧ Below w.heap.size w w' := by
  obtain ⟨hmod, hm0, hm1, hn0, hn1, hrow⟩ := chkM_zero hx
  obtain ⟨b, o, c, RA, RC, rfl, hc', hb, hgc⟩ := ha.at_ hm0
  have hrow0 := (hgc 0 hm0).1
  have hbx := row_new (W := w) rfl 31 #[.int .i64 p, .slice (some ⟨b, o, none⟩) m c]
  have hB0 := (Below.refl w.heap.size w).alloc (Nat.le_refl _) (.cells #[.int .i64 p, .slice (some ⟨b, o, none⟩) m c] 31)
  have HC := Lib.hid (Check_any (.slice (some ⟨b, o, none⟩) m c) m (fun _ => n) f p (w.alloc (.cells #[.int .i64 p, .slice (some ⟨b, o, none⟩) m c] 31)) (by omega) (fun _ _ => by omega) ((ha.below (fun _ h => h) hB0).more fun b h => by simp; omega))
  rw [hx] at HC
  have HB := Lib.hid hB0
  have HBX := Lib.hid hbx
  have d0 : (w.alloc (.cells #[.int .i64 p, .slice (some ⟨b, o, none⟩) m c] 31)).cell? ⟨w.heap.size, 0, none⟩ = some (.int .i64 p) := hbx.cell rfl
  have d1 : (w.alloc (.cells #[.int .i64 p, .slice (some ⟨b, o, none⟩) m c] 31)).cell? ⟨w.heap.size, 1, none⟩ = some (.slice (some ⟨b, o, none⟩) m c) := hbx.cell rfl
  generalize RA 0 = A0 at hrow0
  generalize RC 0 = c0 at hrow0
  obtain ⟨z, hz⟩ : ∃ z : Int, (if m = n then (0 : Int) else 10) = z := ⟨_, rfl⟩
  have HZ := Lib.hid hz
  rw [hz]
  clear ha hgc hrow hbx hB0 hmod hx hz
  go_enter Tryz.func27, Tryz.ntmps27
  go_wp2_with fail
  refine HC.out.mono ?_
  rintro e w1 ⟨rfl, hb1⟩
  have HB1 := Lib.hid (HB.out.trans (hb1.mono HB.out.size))
  have hbx1 := Row.below HBX.out hb1 HBX.out.lt
  have e1 : w1.cell? ⟨w.heap.size, 1, none⟩ = some (.slice (some ⟨b, o, none⟩) m c) := hbx1.cell rfl
  have e2 : w1.cell? ⟨b, o, none⟩ = some (.slice A0 n c0) := by have := (HB1.out.cell (p := ⟨b, o + 0, none⟩) hb).trans hrow0; rwa [Nat.add_zero] at this
  clear hb1 hbx1 hrow0 d0 d1
  by_cases hmn : m = n
  · have hne : ((m : Int) != (n : Int)) = false := by simp [hmn]
    have hz0 : z = 0 := by rw [← HZ.out, if_pos hmn]
    subst hz0
    clear hmn
    go_wp2_with fail
    go_quiet (fail)
    go_wp2_with fail
    go_ret
    exact ⟨rfl, below_drewN HB1.out _⟩
  · have hne : ((m : Int) != (n : Int)) = true := by simp; omega
    have hz0 : z = 10 := by rw [← HZ.out, if_neg hmn]
    subst hz0
    clear hmn
    go_wp2_with fail
    go_quiet (fail)
    go_wp2_with fail
    go_ret
    exact ⟨rfl, below_drewN HB1.out _⟩

/-- The matrix less a multiple of the identity. -/
def sclF (p k : Int) (i : Nat) : Nat → Int := axpy (resV k p.toNat : Nat) p (fun _ => 0) (oneF i)
def eigF (p x : Int) (f : Nat → Nat → Int) (i : Nat) : Nat → Int := axpy 1 p (f i) (sclF p (-(x % p)) i)
theorem one_grid {p : Int} (hp : 2 ≤ p) (m : Nat) : InG p m m oneF := fun i _ j _ => by unfold oneF; split <;> omega
theorem chkM_all {p : Int} {m n : Nat} {f : Nat → Nat → Int} (hp : modB p = true) (hm0 : 1 ≤ m) (hm : m ≤ 64) (hn0 : 1 ≤ n) (hn : n ≤ 64) (hf : InG p m n f) : chkM p m (fun _ => n) f = 0 := by
  obtain ⟨hp0, _⟩ := modB_true hp
  obtain ⟨pn, rfl⟩ : ∃ pn : Nat, p = pn := ⟨p.toNat, by omega⟩
  exact chkM_full hp hm0 hm hn0 hn hf

set_option maxRecDepth 100000 in
set_option maxHeartbeats 4000000 in
theorem Eigen_ok (p x : Int) (ra : Value) (m : Nat) (f : Nat → Nat → Int) (w : World) (ha : Grid w (· < w.heap.size) ra m (fun _ => m) f) (hx : chkM p m (fun _ => m) f = 0) :
    Calls Tryz.prog 9 #[.agg #[.int .i64 p, ra], .int .i64 x] w (OkK m m (kerR p m m (eigF p x f)) w) := by
  obtain ⟨hmod, hm0, hm1, _, _, hrow⟩ := chkM_zero hx
  obtain ⟨hp0, hp1, hp6⟩ := modB_true hmod
  obtain ⟨Aa, ca, rfl, -⟩ := ha.form
  have hbx := row_new (W := w) rfl 31 #[.int .i64 p, .slice Aa m ca]
  have hB0 := (Below.refl w.heap.size w).alloc (Nat.le_refl _) (.cells #[.int .i64 p, .slice Aa m ca] 31)
  have hz : (w.alloc (.cells #[.int .i64 p, .slice Aa m ca] 31)).heap.size = w.heap.size + 1 := by simp
  have HC := Lib.hid (checkSq_ok p (.slice Aa m ca) m m f (w.alloc (.cells #[.int .i64 p, .slice Aa m ca] 31)) ((ha.below (fun _ h => h) hB0).more fun b h => by omega) hx)
  rw [if_pos rfl] at HC
  have HB := Lib.hid hB0
  have HBX := Lib.hid hbx
  have HA := Lib.hid ha
  have HX := Lib.hid hx
  have HMOD := Lib.hid hmod
  have HP6 := Lib.hid hp6
  have hk := Int.emod_nonneg x (show p ≠ 0 by omega)
  have hk2 := Int.emod_lt_of_pos x (show 0 < p by omega)
  obtain ⟨k, hkk⟩ : ∃ k, -(x % p) = k := ⟨_, rfl⟩
  have hwn : IntKind.i64.wrap (-(x % p)) = k := by rw [hkk]; exact IntWalk.i64_in _ ⟨by omega, by omega⟩
  have hE : eigF p x f = fun i => axpy 1 p (f i) (sclF p k i) := by funext i; unfold eigF; rw [hkk]
  have HE := Lib.hid (show ∀ e w', OkK m m (kerR p m m (fun i => axpy 1 p (f i) (sclF p k i))) w e w' → OkK m m (kerR p m m (eigF p x f)) w e w' from fun e w' h => by rw [hE]; exact h)
  generalize OkK m m (kerR p m m (eigF p x f)) w = PP at HE ⊢
  have c0 : (w.alloc (.cells #[.int .i64 p, .slice Aa m ca] 31)).cell? ⟨w.heap.size, 0, none⟩ = some (.int .i64 p) := hbx.cell rfl
  have c1 : (w.alloc (.cells #[.int .i64 p, .slice Aa m ca] 31)).cell? ⟨w.heap.size, 1, none⟩ = some (.slice Aa m ca) := hbx.cell rfl
  generalize hr : x % p = r at hwn hk hk2
  have HR := Lib.hid (fun W => residue_any p x W hp6 (by omega))
  rw [hr] at HR
  clear ha hbx hB0 hx hmod hp6 hrow hE hkk
  go_enter Tryz.func9, Tryz.ntmps9
  go_wp2_with fail
  refine HC.out.mono ?_
  rintro e w1 ⟨rfl, hb1⟩
  have HB1 := Lib.hid (HB.out.trans (hb1.mono HB.out.size))
  have hbx1 := Row.below HBX.out hb1 HBX.out.lt
  have HX1 := Lib.hid hbx1
  have e0 : w1.cell? ⟨w.heap.size, 0, none⟩ = some (.int .i64 p) := hbx1.cell rfl
  have e1 : w1.cell? ⟨w.heap.size, 1, none⟩ = some (.slice Aa m ca) := hbx1.cell rfl
  clear hb1 hbx1 c0 c1 HB HBX HC
  go_wp2_with fail
  refine (One_any m p w1).mono ?_
  rintro e w2 ⟨-, h2⟩
  obtain ⟨r1, rfl, hg1, hb2⟩ := h2 (by unfold chk1; rw [if_neg (by rw [HMOD.out]; simp), if_neg (by simp [sizeB]; omega)])
  rw [Int.toNat_natCast] at hg1
  obtain ⟨A1, k1, rfl, -⟩ := hg1.form
  have HB2 := Lib.hid (HB1.out.trans (hb2.mono HB1.out.size))
  have HX2 := Lib.hid (HX1.out.below hb2 HX1.out.lt)
  have HG2 := Lib.hid (hg1.more (S' := (· < w2.heap.size)) fun _ h => h.2)
  have e0 : w2.cell? ⟨w.heap.size, 0, none⟩ = some (.int .i64 p) := HX2.out.cell rfl
  have e1 : w2.cell? ⟨w.heap.size, 1, none⟩ = some (.slice Aa m ca) := HX2.out.cell rfl
  clear h2 hg1 hb2 HX1 HB1
  go_wp2_with fail
  have HX3 := Lib.hid (HX2.out.alloc (.cells #[.int .i64 p, .slice A1 m k1] 31))
  have HO3 := Lib.hid (row_new (W := w2) rfl 31 #[.int .i64 p, .slice A1 m k1])
  have HB3 := Lib.hid (HB2.out.alloc HB2.out.size (.cells #[.int .i64 p, .slice A1 m k1] 31))
  have HG3 := Lib.hid ((HG2.out.below (fun _ h => h) ((Below.refl w2.heap.size w2).alloc (Nat.le_refl _) (.cells #[.int .i64 p, .slice A1 m k1] 31))).more (S' := (· < (w2.alloc (.cells #[.int .i64 p, .slice A1 m k1] 31)).heap.size)) fun _ h => by simp; omega)
  clear e0 e1 HX2 HB2 HG2
  generalize w2.alloc (.cells #[.int .i64 p, .slice A1 m k1] 31) = w3 at HX3 HO3 HB3 HG3 ⊢
  generalize w2.heap.size = bo at HO3 ⊢
  refine wp_region_held_drew (S := (fun W1 => W1.cell? ⟨w.heap.size, 0, none⟩ = some (.int .i64 p) ∧ W1.cell? ⟨bo, 0, none⟩ = some (.int .i64 p) ∧ W1.cell? ⟨bo, 1, none⟩ = some (.slice A1 m k1))) (by kernel_rfl) ⟨HX3.out.cell rfl, HO3.out.cell rfl, HO3.out.cell rfl⟩ (fun hHeld => ?_)
  have HX4 := Lib.hid (show Row w3.drew w.heap.size 31 #[.int .i64 p, .slice Aa m ca] from HX3.out)
  have HO4 := Lib.hid (show Row w3.drew bo 31 #[.int .i64 p, .slice A1 m k1] from HO3.out)
  have HB4 := Lib.hid (show Below w.heap.size w w3.drew from ⟨HB3.out.os, HB3.out.tape, HB3.out.output, HB3.out.size, HB3.out.block⟩)
  have HG4 := Lib.hid (show Grid w3.drew (· < w3.drew.heap.size) (.slice A1 m k1) m (fun _ => m) oneF from HG3.out.keep (fun _ h => h) (fun _ _ => rfl) (fun _ _ => rfl) (fun _ _ _ _ => rfl))
  clear HX3 HO3 HB3 HG3
  generalize w3.drew = w4 at HX4 HO4 HB4 HG4 hHeld ⊢
  refine takeH (i := 0) (v := (.agg #[.int .i64 p, .slice A1 m k1])) rfl rfl (by kernel_rfl) (by kernel_rfl) (by kernel_rfl) (fun _ _ _ h => h) (by rfl) (fun W hW => by (obtain ⟨q1, q2, q3⟩ := hW); go_simp) (by assumption) ?_
  simp only [List.setIfInBounds_toArray, List.set_cons_zero, List.set_cons_succ]
  refine takeH (i := 1) (v := (.pointer (some ⟨w.heap.size, 0, none⟩))) rfl rfl (by kernel_rfl) (by kernel_rfl) (by kernel_rfl) (fun _ _ _ h => h) (by rfl) (fun W hW => by (skip); go_simp) (by assumption) ?_
  simp only [List.setIfInBounds_toArray, List.set_cons_zero, List.set_cons_succ]
  refine takeH (i := 2) (v := (.int .i64 p)) rfl rfl (by kernel_rfl) (by kernel_rfl) (by kernel_rfl) (fun _ _ _ h => h) (by rfl) (fun W hW => by (obtain ⟨q1, q2, q3⟩ := hW); go_simp) (by assumption) ?_
  simp only [List.setIfInBounds_toArray, List.set_cons_zero, List.set_cons_succ]
  refine takeH (i := 3) (v := (.int .i64 x)) rfl rfl (by kernel_rfl) (by kernel_rfl) (by kernel_rfl) (fun _ _ _ h => h) (by rfl) (fun W hW => by (skip); go_simp) (by assumption) ?_
  simp only [List.setIfInBounds_toArray, List.set_cons_zero, List.set_cons_succ]
  have HS := Lib.hid (fun (W : World) (hg : Grid W (· < W.heap.size) (.slice A1 m k1) m (fun _ => m) oneF) => Scale_any (.slice A1 m k1) m (fun _ => m) oneF p k W (by omega) (fun _ _ => by omega) hg 0 (chkM_all HMOD.out hm0 (by omega) hm0 (by omega) (one_grid hp0 m)).symm)
  refine wpAnyH_ready (rs := [4, 10]) (by kernel_rfl) (by simp) ?_
  refine (AllReadyH.cons rfl (fun K hK => ?_) (AllReadyH.cons rfl (fun K hK => ?_) AllReadyH.nil))
  · go_simp
    refine (HR.out w4).mono ?_
    rintro e w5 ⟨rfl, rfl⟩
    dsimp only
    refine hK.out _ _ hHeld (fun hHeld => ?_)
    clear hK K
    try simp only [Act.put, List.setIfInBounds_toArray, List.set_cons_zero, List.set_cons_succ]
    refine takeH (i := 5) (v := (.int .i64 k)) rfl rfl (by kernel_rfl) (by kernel_rfl) (by kernel_rfl) (fun _ _ _ h => h) (by rfl) (fun W hW => by (skip); go_simp) (by assumption) ?_
    simp only [List.setIfInBounds_toArray, List.set_cons_zero, List.set_cons_succ]
    refine wpAnyH_ready (rs := [6, 10]) (by kernel_rfl) (by simp) ?_
    refine (AllReadyH.cons rfl (fun K hK => ?_) (AllReadyH.cons rfl (fun K hK => ?_) AllReadyH.nil))
    · go_simp
      refine (HS.out w5 HG4.out).mono ?_
      rintro e w6 ⟨-, -, h6⟩
      obtain ⟨rs, rfl, hgs, hb6⟩ := h6 rfl trivial
      obtain ⟨As, cs, rfl, -⟩ := hgs.form
      have HX6 := Lib.hid (HX4.out.below hb6 HX4.out.lt)
      have HO6 := Lib.hid (HO4.out.below hb6 HO4.out.lt)
      have HB6 := Lib.hid (HB4.out.trans (hb6.mono HB4.out.size))
      have HG6 := Lib.hid (show Grid w6 (· < w6.heap.size) (.slice As m cs) m (fun _ => m) (sclF p k) from hgs.more fun b h => h.2)
      clear h6 hgs hb6 HX4 HO4 HB4 HG4 hHeld
      dsimp only
      refine hK.out _ _ ⟨HX6.out.cell rfl, HO6.out.cell rfl, HO6.out.cell rfl⟩ (fun hHeld => ?_)
      clear hK K
      try simp only [Act.put, List.setIfInBounds_toArray, List.set_cons_zero, List.set_cons_succ]
      refine takeH (i := 7) (v := (.tuple #[.agg #[.int .i64 p, .slice As m cs], .int .i64 0])) rfl rfl (by kernel_rfl) (by kernel_rfl) (by kernel_rfl) (fun _ _ _ h => h) (by rfl) (fun W hW => by (skip); go_simp) (by assumption) ?_
      simp only [List.setIfInBounds_toArray, List.set_cons_zero, List.set_cons_succ]
      refine takeH (i := 8) (v := (.agg #[.int .i64 p, .slice As m cs])) rfl rfl (by kernel_rfl) (by kernel_rfl) (by kernel_rfl) (fun _ _ _ h => h) (by rfl) (fun W hW => by (skip); go_simp) (by assumption) ?_
      simp only [List.setIfInBounds_toArray, List.set_cons_zero, List.set_cons_succ]
      refine takeH (i := 9) (v := (.int .i64 0)) rfl rfl (by kernel_rfl) (by kernel_rfl) (by kernel_rfl) (fun _ _ _ h => h) (by rfl) (fun W hW => by (skip); go_simp) (by assumption) ?_
      simp only [List.setIfInBounds_toArray, List.set_cons_zero, List.set_cons_succ]
      refine wpAnyH_ready (rs := [10]) (by kernel_rfl) (by simp) ?_
      refine (AllReadyH.cons rfl (fun K hK => ?_) AllReadyH.nil)
      go_simp
      have HX7 := Lib.hid (HX6.out.alloc (.cells #[.int .i64 0, .slice none 0 0] 31))
      have HO7 := Lib.hid (HO6.out.alloc (.cells #[.int .i64 0, .slice none 0 0] 31))
      have hba := (Below.refl w6.heap.size w6).alloc (Nat.le_refl _) (.cells #[.int .i64 0, .slice none 0 0] 31)
      have HB7 := Lib.hid (HB6.out.trans (hba.mono HB6.out.size))
      have HG7 := Lib.hid (show Grid (w6.alloc (.cells #[.int .i64 0, .slice none 0 0] 31)) (fun b => b ≠ w6.heap.size ∧ b < (w6.alloc (.cells #[.int .i64 0, .slice none 0 0] 31)).heap.size) (.slice As m cs) m (fun _ => m) (sclF p k) from (HG6.out.below (fun _ h => h) hba).more fun b h => ⟨fun e => by have : b < w6.heap.size := h; omega, Nat.lt_of_lt_of_le h hba.size⟩)
      have HZ7 := Lib.hid (row_new (W := w6) rfl 31 #[.int .i64 0, .slice none 0 0])
      have hbs : w.heap.size ≤ w6.heap.size := HB6.out.size
      have hne1 : bo ≠ w6.heap.size := fun e => by have := HO6.out.lt; omega
      have hne2 : w.heap.size ≠ w6.heap.size := fun e => by have := HX6.out.lt; omega
      clear hba HX6 HO6 HB6 HG6 hHeld
      generalize w6.alloc (.cells #[.int .i64 0, .slice none 0 0] 31) = w7 at HX7 HO7 HB7 HG7 HZ7 ⊢
      generalize w6.heap.size = bs at HZ7 hbs hne1 hne2 HG7 ⊢
      refine hK.out _ _ ⟨HX7.out.cell rfl, HO7.out.cell rfl, HO7.out.cell rfl⟩ (fun hHeld => ?_)
      clear hK K
      try simp only [Act.put, List.setIfInBounds_toArray, List.set_cons_zero, List.set_cons_succ]
      have z0 : w7.cell? ⟨bs, 0, none⟩ = some (.int .i64 0) := HZ7.out.cell rfl
      have z1 : w7.cell? ⟨bs, 1, none⟩ = some (.slice none 0 0) := HZ7.out.cell rfl
      have z2 := HZ7.out.frozen 0
      have z3 := HZ7.out.frozen 1
      refine wpAnyH_ready (rs := [11]) (by kernel_rfl) (by simp) ?_
      refine (AllReadyH.cons rfl (fun K hK => ?_) AllReadyH.nil)
      go_simp
      have ht := ((Turn.refl (· = bs) w7).setCell ⟨bs, 0, none⟩ rfl (.int .i64 p)).setCell ⟨bs, 1, none⟩ rfl (.slice As m cs)
      have HX9 := Lib.hid (HX7.out.turn ht (fun (e : w.heap.size = bs) => hne2 e))
      have HO9 := Lib.hid (HO7.out.turn ht (fun (e : bo = bs) => hne1 e))
      have HZ9 := Lib.hid (show Row ((w7.setCell ⟨bs, 0, none⟩ (.int .i64 p)).setCell ⟨bs, 1, none⟩ (.slice As m cs)) bs 31 #[.int .i64 p, .slice As m cs] from (HZ7.out.set 0 (.int .i64 p)).set 1 (.slice As m cs))
      have HB9 := Lib.hid (show Below w.heap.size w ((w7.setCell ⟨bs, 0, none⟩ (.int .i64 p)).setCell ⟨bs, 1, none⟩ (.slice As m cs)) from ⟨ht.os.trans HB7.out.os, ht.tape.trans HB7.out.tape, ht.output.trans HB7.out.output, Nat.le_trans HB7.out.size ht.size, fun q hq => (ht.block q (Nat.lt_of_lt_of_le hq HB7.out.size) (fun (e : q = bs) => by omega)).trans (HB7.out.block q hq)⟩)
      have HG9 := Lib.hid (show Grid ((w7.setCell ⟨bs, 0, none⟩ (.int .i64 p)).setCell ⟨bs, 1, none⟩ (.slice As m cs)) (· < ((w7.setCell ⟨bs, 0, none⟩ (.int .i64 p)).setCell ⟨bs, 1, none⟩ (.slice As m cs)).heap.size) (.slice As m cs) m (fun _ => m) (sclF p k) from HG7.out.keep (fun b h => Nat.lt_of_lt_of_le h.2 ht.size) (fun q hq => ((World.cell?_setCell_far _ _ _ _ (show bs ≠ q.block from Ne.symm hq.1)).trans (World.cell?_setCell_far _ _ _ _ (show bs ≠ q.block from Ne.symm hq.1)))) (fun _ _ => rfl) (fun _ _ _ _ => rfl))
      clear ht HX7 HO7 HZ7 HB7 HG7 z0 z1 z2 z3 hHeld
      generalize (w7.setCell ⟨bs, 0, none⟩ (.int .i64 p)).setCell ⟨bs, 1, none⟩ (.slice As m cs) = w9 at HX9 HO9 HZ9 HB9 HG9 ⊢
      refine hK.out _ _ ⟨HX9.out.cell rfl, HO9.out.cell rfl, HO9.out.cell rfl⟩ (fun hHeld => ?_)
      clear hK K
      try simp only [Act.put, List.setIfInBounds_toArray, List.set_cons_zero, List.set_cons_succ]
      refine takeH (i := 12) (v := (.int .i64 0)) rfl rfl (by kernel_rfl) (by kernel_rfl) (by kernel_rfl) (fun _ _ _ h => h) (by rfl) (fun W hW => by (skip); go_simp) (by assumption) ?_
      simp only [List.setIfInBounds_toArray, List.set_cons_zero, List.set_cons_succ]
      refine wpAnyH_done (by kernel_rfl) ?_ _
      clear hHeld HO9 HR HS
      have y0 : w9.cell? ⟨w.heap.size, 0, none⟩ = some (.int .i64 p) := HX9.out.cell rfl
      have y1 : w9.cell? ⟨w.heap.size, 1, none⟩ = some (.slice Aa m ca) := HX9.out.cell rfl
      have y2 : w9.cell? ⟨bs, 0, none⟩ = some (.int .i64 p) := HZ9.out.cell rfl
      have y3 : w9.cell? ⟨bs, 1, none⟩ = some (.slice As m cs) := HZ9.out.cell rfl
      have hcs : chkM p m (fun _ => m) (sclF p k) = 0 := chkM_all HMOD.out hm0 (by omega) hm0 (by omega) (fun i _ => axpy_in (by omega) _ _ m)
      go_wp2_with fail
      refine (Add_any (.slice Aa m ca) (.slice As m cs) m m (fun _ => m) (fun _ => m) f (sclF p k) p p w9 (by omega) (fun _ _ => by omega) (by omega) (fun _ _ => by omega) ((HA.out.below (fun _ h => h) HB9.out).more fun _ h => Nat.lt_of_lt_of_le h HB9.out.size) HG9.out 0 (by rw [HX.out, hcs]; simp [chkP])).mono ?_
      rintro e w10 ⟨-, -, h10⟩
      obtain ⟨rt, rfl, hgt, hb10⟩ := h10 rfl ⟨rfl, rfl⟩
      obtain ⟨At, ct, rfl, -⟩ := hgt.form
      have HB10 := Lib.hid (HB9.out.trans (hb10.mono HB9.out.size))
      have HG10 := Lib.hid (hgt.more (S' := (· < w10.heap.size)) fun _ h => h.2)
      have hba := (Below.refl w10.heap.size w10).alloc (Nat.le_refl _) (.cells #[.int .i64 p, .slice At m ct] 31)
      have HB11 := Lib.hid (HB10.out.trans (hba.mono HB10.out.size))
      have HG11 := Lib.hid ((HG10.out.below (fun _ h => h) hba).more (S' := (· < (w10.alloc (.cells #[.int .i64 p, .slice At m ct] 31)).heap.size)) fun _ h => Nat.lt_of_lt_of_le h hba.size)
      clear h10 hgt hb10 hba y0 y1 y2 y3 HX9 HZ9 HB9 HG9 HB10 HG10 hcs
      go_wp2_with fail
      generalize w10.alloc (.cells #[.int .i64 p, .slice At m ct] 31) = w11 at HB11 HG11 ⊢
      refine (Kernel_any p (.slice At m ct) m (fun _ => m) (fun i => axpy 1 p (f i) (sclF p k i)) w11 (by omega) (fun _ _ => by omega) HG11.out).mono ?_
      rintro e w12 ⟨-, h12⟩
      obtain ⟨v, rfl, hgv, hb12⟩ := h12 (chkM_all HMOD.out hm0 (by omega) hm0 (by omega) (fun i _ => axpy_in (by omega) _ _ m))
      have hs11 := HB11.out.size
      have HEE := Lib.hid (HE.out _ w12 ⟨v, rfl, hgv.more fun b h => ⟨by have := h.1; omega, h.2⟩, HB11.out.trans (hb12.mono HB11.out.size)⟩)
      obtain ⟨Av, cv, rfl, -⟩ := hgv.form
      clear h12 hgv hb12
      go_wp2
      exact HEE.out
    · go_simp
      have HX7 := Lib.hid (HX4.out.alloc (.cells #[.int .i64 0, .slice none 0 0] 31))
      have HO7 := Lib.hid (HO4.out.alloc (.cells #[.int .i64 0, .slice none 0 0] 31))
      have hba := (Below.refl w5.heap.size w5).alloc (Nat.le_refl _) (.cells #[.int .i64 0, .slice none 0 0] 31)
      have HB7 := Lib.hid (HB4.out.trans (hba.mono HB4.out.size))
      have HG7 := Lib.hid ((HG4.out.below (fun _ h => h) hba).more (S' := (· < (w5.alloc (.cells #[.int .i64 0, .slice none 0 0] 31)).heap.size)) fun _ h => Nat.lt_of_lt_of_le h hba.size)
      have HZ7 := Lib.hid (row_new (W := w5) rfl 31 #[.int .i64 0, .slice none 0 0])
      have hbs : w.heap.size ≤ w5.heap.size := HB4.out.size
      have hne1 : bo ≠ w5.heap.size := fun e => by have := HO4.out.lt; omega
      have hne2 : w.heap.size ≠ w5.heap.size := fun e => by have := HX4.out.lt; omega
      clear hba HX4 HO4 HB4 HG4 hHeld
      generalize w5.alloc (.cells #[.int .i64 0, .slice none 0 0] 31) = w7 at HX7 HO7 HB7 HG7 HZ7 ⊢
      generalize w5.heap.size = bs at HZ7 hbs hne1 hne2 ⊢
      refine hK.out _ _ ⟨HX7.out.cell rfl, HO7.out.cell rfl, HO7.out.cell rfl⟩ (fun hHeld => ?_)
      clear hK K
      try simp only [Act.put, List.setIfInBounds_toArray, List.set_cons_zero, List.set_cons_succ]
      refine wpAnyH_ready (rs := [6]) (by kernel_rfl) (by simp) ?_
      refine (AllReadyH.cons rfl (fun K hK => ?_) AllReadyH.nil)
      go_simp
      refine (HS.out w7 HG7.out).mono ?_
      rintro e w8 ⟨-, -, h6⟩
      obtain ⟨rs, rfl, hgs, hb6⟩ := h6 rfl trivial
      obtain ⟨As, cs, rfl, -⟩ := hgs.form
      have HX8 := Lib.hid (HX7.out.below hb6 HX7.out.lt)
      have HO8 := Lib.hid (HO7.out.below hb6 HO7.out.lt)
      have HB8 := Lib.hid (HB7.out.trans (hb6.mono HB7.out.size))
      have HZ8 := Lib.hid (HZ7.out.below hb6 HZ7.out.lt)
      have HG8 := Lib.hid (show Grid w8 (fun b => b ≠ bs ∧ b < w8.heap.size) (.slice As m cs) m (fun _ => m) (sclF p k) from hgs.more fun b h => ⟨fun e => by have := h.1; have := HZ7.out.lt; omega, h.2⟩)
      clear h6 hgs hb6 HX7 HO7 HB7 HG7 HZ7 hHeld
      dsimp only
      refine hK.out _ _ ⟨HX8.out.cell rfl, HO8.out.cell rfl, HO8.out.cell rfl⟩ (fun hHeld => ?_)
      clear hK K
      try simp only [Act.put, List.setIfInBounds_toArray, List.set_cons_zero, List.set_cons_succ]
      refine takeH (i := 7) (v := (.tuple #[.agg #[.int .i64 p, .slice As m cs], .int .i64 0])) rfl rfl (by kernel_rfl) (by kernel_rfl) (by kernel_rfl) (fun _ _ _ h => h) (by rfl) (fun W hW => by (skip); go_simp) (by assumption) ?_
      simp only [List.setIfInBounds_toArray, List.set_cons_zero, List.set_cons_succ]
      refine takeH (i := 8) (v := (.agg #[.int .i64 p, .slice As m cs])) rfl rfl (by kernel_rfl) (by kernel_rfl) (by kernel_rfl) (fun _ _ _ h => h) (by rfl) (fun W hW => by (skip); go_simp) (by assumption) ?_
      simp only [List.setIfInBounds_toArray, List.set_cons_zero, List.set_cons_succ]
      refine takeH (i := 9) (v := (.int .i64 0)) rfl rfl (by kernel_rfl) (by kernel_rfl) (by kernel_rfl) (fun _ _ _ h => h) (by rfl) (fun W hW => by (skip); go_simp) (by assumption) ?_
      simp only [List.setIfInBounds_toArray, List.set_cons_zero, List.set_cons_succ]
      have z0 : w8.cell? ⟨bs, 0, none⟩ = some (.int .i64 0) := HZ8.out.cell rfl
      have z1 : w8.cell? ⟨bs, 1, none⟩ = some (.slice none 0 0) := HZ8.out.cell rfl
      have z2 := HZ8.out.frozen 0
      have z3 := HZ8.out.frozen 1
      refine wpAnyH_ready (rs := [11]) (by kernel_rfl) (by simp) ?_
      refine (AllReadyH.cons rfl (fun K hK => ?_) AllReadyH.nil)
      go_simp
      have ht := ((Turn.refl (· = bs) w8).setCell ⟨bs, 0, none⟩ rfl (.int .i64 p)).setCell ⟨bs, 1, none⟩ rfl (.slice As m cs)
      have HX9 := Lib.hid (HX8.out.turn ht (fun (e : w.heap.size = bs) => hne2 e))
      have HO9 := Lib.hid (HO8.out.turn ht (fun (e : bo = bs) => hne1 e))
      have HZ9 := Lib.hid (show Row ((w8.setCell ⟨bs, 0, none⟩ (.int .i64 p)).setCell ⟨bs, 1, none⟩ (.slice As m cs)) bs 31 #[.int .i64 p, .slice As m cs] from (HZ8.out.set 0 (.int .i64 p)).set 1 (.slice As m cs))
      have HB9 := Lib.hid (show Below w.heap.size w ((w8.setCell ⟨bs, 0, none⟩ (.int .i64 p)).setCell ⟨bs, 1, none⟩ (.slice As m cs)) from ⟨ht.os.trans HB8.out.os, ht.tape.trans HB8.out.tape, ht.output.trans HB8.out.output, Nat.le_trans HB8.out.size ht.size, fun q hq => (ht.block q (Nat.lt_of_lt_of_le hq HB8.out.size) (fun (e : q = bs) => by omega)).trans (HB8.out.block q hq)⟩)
      have HG9 := Lib.hid (show Grid ((w8.setCell ⟨bs, 0, none⟩ (.int .i64 p)).setCell ⟨bs, 1, none⟩ (.slice As m cs)) (· < ((w8.setCell ⟨bs, 0, none⟩ (.int .i64 p)).setCell ⟨bs, 1, none⟩ (.slice As m cs)).heap.size) (.slice As m cs) m (fun _ => m) (sclF p k) from HG8.out.keep (fun b h => Nat.lt_of_lt_of_le h.2 ht.size) (fun q hq => ((World.cell?_setCell_far _ _ _ _ (show bs ≠ q.block from Ne.symm hq.1)).trans (World.cell?_setCell_far _ _ _ _ (show bs ≠ q.block from Ne.symm hq.1)))) (fun _ _ => rfl) (fun _ _ _ _ => rfl))
      clear ht HX8 HO8 HZ8 HB8 HG8 z0 z1 z2 z3 hHeld
      generalize (w8.setCell ⟨bs, 0, none⟩ (.int .i64 p)).setCell ⟨bs, 1, none⟩ (.slice As m cs) = w9 at HX9 HO9 HZ9 HB9 HG9 ⊢
      refine hK.out _ _ ⟨HX9.out.cell rfl, HO9.out.cell rfl, HO9.out.cell rfl⟩ (fun hHeld => ?_)
      clear hK K
      try simp only [Act.put, List.setIfInBounds_toArray, List.set_cons_zero, List.set_cons_succ]
      refine takeH (i := 12) (v := (.int .i64 0)) rfl rfl (by kernel_rfl) (by kernel_rfl) (by kernel_rfl) (fun _ _ _ h => h) (by rfl) (fun W hW => by (skip); go_simp) (by assumption) ?_
      simp only [List.setIfInBounds_toArray, List.set_cons_zero, List.set_cons_succ]
      refine wpAnyH_done (by kernel_rfl) ?_ _
      clear hHeld HO9 HR HS
      have y0 : w9.cell? ⟨w.heap.size, 0, none⟩ = some (.int .i64 p) := HX9.out.cell rfl
      have y1 : w9.cell? ⟨w.heap.size, 1, none⟩ = some (.slice Aa m ca) := HX9.out.cell rfl
      have y2 : w9.cell? ⟨bs, 0, none⟩ = some (.int .i64 p) := HZ9.out.cell rfl
      have y3 : w9.cell? ⟨bs, 1, none⟩ = some (.slice As m cs) := HZ9.out.cell rfl
      have hcs : chkM p m (fun _ => m) (sclF p k) = 0 := chkM_all HMOD.out hm0 (by omega) hm0 (by omega) (fun i _ => axpy_in (by omega) _ _ m)
      go_wp2_with fail
      refine (Add_any (.slice Aa m ca) (.slice As m cs) m m (fun _ => m) (fun _ => m) f (sclF p k) p p w9 (by omega) (fun _ _ => by omega) (by omega) (fun _ _ => by omega) ((HA.out.below (fun _ h => h) HB9.out).more fun _ h => Nat.lt_of_lt_of_le h HB9.out.size) HG9.out 0 (by rw [HX.out, hcs]; simp [chkP])).mono ?_
      rintro e w10 ⟨-, -, h10⟩
      obtain ⟨rt, rfl, hgt, hb10⟩ := h10 rfl ⟨rfl, rfl⟩
      obtain ⟨At, ct, rfl, -⟩ := hgt.form
      have HB10 := Lib.hid (HB9.out.trans (hb10.mono HB9.out.size))
      have HG10 := Lib.hid (hgt.more (S' := (· < w10.heap.size)) fun _ h => h.2)
      have hba := (Below.refl w10.heap.size w10).alloc (Nat.le_refl _) (.cells #[.int .i64 p, .slice At m ct] 31)
      have HB11 := Lib.hid (HB10.out.trans (hba.mono HB10.out.size))
      have HG11 := Lib.hid ((HG10.out.below (fun _ h => h) hba).more (S' := (· < (w10.alloc (.cells #[.int .i64 p, .slice At m ct] 31)).heap.size)) fun _ h => Nat.lt_of_lt_of_le h hba.size)
      clear h10 hgt hb10 hba y0 y1 y2 y3 HX9 HZ9 HB9 HG9 HB10 HG10 hcs
      go_wp2_with fail
      generalize w10.alloc (.cells #[.int .i64 p, .slice At m ct] 31) = w11 at HB11 HG11 ⊢
      refine (Kernel_any p (.slice At m ct) m (fun _ => m) (fun i => axpy 1 p (f i) (sclF p k i)) w11 (by omega) (fun _ _ => by omega) HG11.out).mono ?_
      rintro e w12 ⟨-, h12⟩
      obtain ⟨v, rfl, hgv, hb12⟩ := h12 (chkM_all HMOD.out hm0 (by omega) hm0 (by omega) (fun i _ => axpy_in (by omega) _ _ m))
      have hs11 := HB11.out.size
      have HEE := Lib.hid (HE.out _ w12 ⟨v, rfl, hgv.more fun b h => ⟨by have := h.1; omega, h.2⟩, HB11.out.trans (hb12.mono HB11.out.size)⟩)
      obtain ⟨Av, cv, rfl, -⟩ := hgv.form
      clear h12 hgv hb12
      go_wp2
      exact HEE.out
  · go_simp
    have HX7 := Lib.hid (HX4.out.alloc (.cells #[.int .i64 0, .slice none 0 0] 31))
    have HO7 := Lib.hid (HO4.out.alloc (.cells #[.int .i64 0, .slice none 0 0] 31))
    have hba := (Below.refl w4.heap.size w4).alloc (Nat.le_refl _) (.cells #[.int .i64 0, .slice none 0 0] 31)
    have HB7 := Lib.hid (HB4.out.trans (hba.mono HB4.out.size))
    have HG7 := Lib.hid ((HG4.out.below (fun _ h => h) hba).more (S' := (· < (w4.alloc (.cells #[.int .i64 0, .slice none 0 0] 31)).heap.size)) fun _ h => Nat.lt_of_lt_of_le h hba.size)
    have HZ7 := Lib.hid (row_new (W := w4) rfl 31 #[.int .i64 0, .slice none 0 0])
    have hbs : w.heap.size ≤ w4.heap.size := HB4.out.size
    have hne1 : bo ≠ w4.heap.size := fun e => by have := HO4.out.lt; omega
    have hne2 : w.heap.size ≠ w4.heap.size := fun e => by have := HX4.out.lt; omega
    clear hba HX4 HO4 HB4 HG4 hHeld
    generalize w4.alloc (.cells #[.int .i64 0, .slice none 0 0] 31) = w7 at HX7 HO7 HB7 HG7 HZ7 ⊢
    generalize w4.heap.size = bs at HZ7 hbs hne1 hne2 ⊢
    refine hK.out _ _ ⟨HX7.out.cell rfl, HO7.out.cell rfl, HO7.out.cell rfl⟩ (fun hHeld => ?_)
    clear hK K
    try simp only [Act.put, List.setIfInBounds_toArray, List.set_cons_zero, List.set_cons_succ]
    refine wpAnyH_ready (rs := [4]) (by kernel_rfl) (by simp) ?_
    refine (AllReadyH.cons rfl (fun K hK => ?_) AllReadyH.nil)
    go_simp
    refine (HR.out w7).mono ?_
    rintro e w5 ⟨rfl, rfl⟩
    dsimp only
    refine hK.out _ _ hHeld (fun hHeld => ?_)
    clear hK K
    try simp only [Act.put, List.setIfInBounds_toArray, List.set_cons_zero, List.set_cons_succ]
    refine takeH (i := 5) (v := (.int .i64 k)) rfl rfl (by kernel_rfl) (by kernel_rfl) (by kernel_rfl) (fun _ _ _ h => h) (by rfl) (fun W hW => by (skip); go_simp) (by assumption) ?_
    simp only [List.setIfInBounds_toArray, List.set_cons_zero, List.set_cons_succ]
    refine wpAnyH_ready (rs := [6]) (by kernel_rfl) (by simp) ?_
    refine (AllReadyH.cons rfl (fun K hK => ?_) AllReadyH.nil)
    go_simp
    refine (HS.out w5 HG7.out).mono ?_
    rintro e w8 ⟨-, -, h6⟩
    obtain ⟨rs, rfl, hgs, hb6⟩ := h6 rfl trivial
    obtain ⟨As, cs, rfl, -⟩ := hgs.form
    have HX8 := Lib.hid (HX7.out.below hb6 HX7.out.lt)
    have HO8 := Lib.hid (HO7.out.below hb6 HO7.out.lt)
    have HB8 := Lib.hid (HB7.out.trans (hb6.mono HB7.out.size))
    have HZ8 := Lib.hid (HZ7.out.below hb6 HZ7.out.lt)
    have HG8 := Lib.hid (show Grid w8 (fun b => b ≠ bs ∧ b < w8.heap.size) (.slice As m cs) m (fun _ => m) (sclF p k) from hgs.more fun b h => ⟨fun e => by have := h.1; have := HZ7.out.lt; omega, h.2⟩)
    clear h6 hgs hb6 HX7 HO7 HB7 HG7 HZ7 hHeld
    dsimp only
    refine hK.out _ _ ⟨HX8.out.cell rfl, HO8.out.cell rfl, HO8.out.cell rfl⟩ (fun hHeld => ?_)
    clear hK K
    try simp only [Act.put, List.setIfInBounds_toArray, List.set_cons_zero, List.set_cons_succ]
    refine takeH (i := 7) (v := (.tuple #[.agg #[.int .i64 p, .slice As m cs], .int .i64 0])) rfl rfl (by kernel_rfl) (by kernel_rfl) (by kernel_rfl) (fun _ _ _ h => h) (by rfl) (fun W hW => by (skip); go_simp) (by assumption) ?_
    simp only [List.setIfInBounds_toArray, List.set_cons_zero, List.set_cons_succ]
    refine takeH (i := 8) (v := (.agg #[.int .i64 p, .slice As m cs])) rfl rfl (by kernel_rfl) (by kernel_rfl) (by kernel_rfl) (fun _ _ _ h => h) (by rfl) (fun W hW => by (skip); go_simp) (by assumption) ?_
    simp only [List.setIfInBounds_toArray, List.set_cons_zero, List.set_cons_succ]
    refine takeH (i := 9) (v := (.int .i64 0)) rfl rfl (by kernel_rfl) (by kernel_rfl) (by kernel_rfl) (fun _ _ _ h => h) (by rfl) (fun W hW => by (skip); go_simp) (by assumption) ?_
    simp only [List.setIfInBounds_toArray, List.set_cons_zero, List.set_cons_succ]
    have z0 : w8.cell? ⟨bs, 0, none⟩ = some (.int .i64 0) := HZ8.out.cell rfl
    have z1 : w8.cell? ⟨bs, 1, none⟩ = some (.slice none 0 0) := HZ8.out.cell rfl
    have z2 := HZ8.out.frozen 0
    have z3 := HZ8.out.frozen 1
    refine wpAnyH_ready (rs := [11]) (by kernel_rfl) (by simp) ?_
    refine (AllReadyH.cons rfl (fun K hK => ?_) AllReadyH.nil)
    go_simp
    have ht := ((Turn.refl (· = bs) w8).setCell ⟨bs, 0, none⟩ rfl (.int .i64 p)).setCell ⟨bs, 1, none⟩ rfl (.slice As m cs)
    have HX9 := Lib.hid (HX8.out.turn ht (fun (e : w.heap.size = bs) => hne2 e))
    have HO9 := Lib.hid (HO8.out.turn ht (fun (e : bo = bs) => hne1 e))
    have HZ9 := Lib.hid (show Row ((w8.setCell ⟨bs, 0, none⟩ (.int .i64 p)).setCell ⟨bs, 1, none⟩ (.slice As m cs)) bs 31 #[.int .i64 p, .slice As m cs] from (HZ8.out.set 0 (.int .i64 p)).set 1 (.slice As m cs))
    have HB9 := Lib.hid (show Below w.heap.size w ((w8.setCell ⟨bs, 0, none⟩ (.int .i64 p)).setCell ⟨bs, 1, none⟩ (.slice As m cs)) from ⟨ht.os.trans HB8.out.os, ht.tape.trans HB8.out.tape, ht.output.trans HB8.out.output, Nat.le_trans HB8.out.size ht.size, fun q hq => (ht.block q (Nat.lt_of_lt_of_le hq HB8.out.size) (fun (e : q = bs) => by omega)).trans (HB8.out.block q hq)⟩)
    have HG9 := Lib.hid (show Grid ((w8.setCell ⟨bs, 0, none⟩ (.int .i64 p)).setCell ⟨bs, 1, none⟩ (.slice As m cs)) (· < ((w8.setCell ⟨bs, 0, none⟩ (.int .i64 p)).setCell ⟨bs, 1, none⟩ (.slice As m cs)).heap.size) (.slice As m cs) m (fun _ => m) (sclF p k) from HG8.out.keep (fun b h => Nat.lt_of_lt_of_le h.2 ht.size) (fun q hq => ((World.cell?_setCell_far _ _ _ _ (show bs ≠ q.block from Ne.symm hq.1)).trans (World.cell?_setCell_far _ _ _ _ (show bs ≠ q.block from Ne.symm hq.1)))) (fun _ _ => rfl) (fun _ _ _ _ => rfl))
    clear ht HX8 HO8 HZ8 HB8 HG8 z0 z1 z2 z3 hHeld
    generalize (w8.setCell ⟨bs, 0, none⟩ (.int .i64 p)).setCell ⟨bs, 1, none⟩ (.slice As m cs) = w9 at HX9 HO9 HZ9 HB9 HG9 ⊢
    refine hK.out _ _ ⟨HX9.out.cell rfl, HO9.out.cell rfl, HO9.out.cell rfl⟩ (fun hHeld => ?_)
    clear hK K
    try simp only [Act.put, List.setIfInBounds_toArray, List.set_cons_zero, List.set_cons_succ]
    refine takeH (i := 12) (v := (.int .i64 0)) rfl rfl (by kernel_rfl) (by kernel_rfl) (by kernel_rfl) (fun _ _ _ h => h) (by rfl) (fun W hW => by (skip); go_simp) (by assumption) ?_
    simp only [List.setIfInBounds_toArray, List.set_cons_zero, List.set_cons_succ]
    refine wpAnyH_done (by kernel_rfl) ?_ _
    clear hHeld HO9 HR HS
    have y0 : w9.cell? ⟨w.heap.size, 0, none⟩ = some (.int .i64 p) := HX9.out.cell rfl
    have y1 : w9.cell? ⟨w.heap.size, 1, none⟩ = some (.slice Aa m ca) := HX9.out.cell rfl
    have y2 : w9.cell? ⟨bs, 0, none⟩ = some (.int .i64 p) := HZ9.out.cell rfl
    have y3 : w9.cell? ⟨bs, 1, none⟩ = some (.slice As m cs) := HZ9.out.cell rfl
    have hcs : chkM p m (fun _ => m) (sclF p k) = 0 := chkM_all HMOD.out hm0 (by omega) hm0 (by omega) (fun i _ => axpy_in (by omega) _ _ m)
    go_wp2_with fail
    refine (Add_any (.slice Aa m ca) (.slice As m cs) m m (fun _ => m) (fun _ => m) f (sclF p k) p p w9 (by omega) (fun _ _ => by omega) (by omega) (fun _ _ => by omega) ((HA.out.below (fun _ h => h) HB9.out).more fun _ h => Nat.lt_of_lt_of_le h HB9.out.size) HG9.out 0 (by rw [HX.out, hcs]; simp [chkP])).mono ?_
    rintro e w10 ⟨-, -, h10⟩
    obtain ⟨rt, rfl, hgt, hb10⟩ := h10 rfl ⟨rfl, rfl⟩
    obtain ⟨At, ct, rfl, -⟩ := hgt.form
    have HB10 := Lib.hid (HB9.out.trans (hb10.mono HB9.out.size))
    have HG10 := Lib.hid (hgt.more (S' := (· < w10.heap.size)) fun _ h => h.2)
    have hba := (Below.refl w10.heap.size w10).alloc (Nat.le_refl _) (.cells #[.int .i64 p, .slice At m ct] 31)
    have HB11 := Lib.hid (HB10.out.trans (hba.mono HB10.out.size))
    have HG11 := Lib.hid ((HG10.out.below (fun _ h => h) hba).more (S' := (· < (w10.alloc (.cells #[.int .i64 p, .slice At m ct] 31)).heap.size)) fun _ h => Nat.lt_of_lt_of_le h hba.size)
    clear h10 hgt hb10 hba y0 y1 y2 y3 HX9 HZ9 HB9 HG9 HB10 HG10 hcs
    go_wp2_with fail
    generalize w10.alloc (.cells #[.int .i64 p, .slice At m ct] 31) = w11 at HB11 HG11 ⊢
    refine (Kernel_any p (.slice At m ct) m (fun _ => m) (fun i => axpy 1 p (f i) (sclF p k i)) w11 (by omega) (fun _ _ => by omega) HG11.out).mono ?_
    rintro e w12 ⟨-, h12⟩
    obtain ⟨v, rfl, hgv, hb12⟩ := h12 (chkM_all HMOD.out hm0 (by omega) hm0 (by omega) (fun i _ => axpy_in (by omega) _ _ m))
    have hs11 := HB11.out.size
    have HEE := Lib.hid (HE.out _ w12 ⟨v, rfl, hgv.more fun b h => ⟨by have := h.1; omega, h.2⟩, HB11.out.trans (hb12.mono HB11.out.size)⟩)
    obtain ⟨Av, cv, rfl, -⟩ := hgv.form
    clear h12 hgv hb12
    go_wp2
    exact HEE.out
end Go.Proofs.YtinoomcboinokaaGreat
