/- linear.Rank, In. -/
import Derived.Test.YtinoomcboinokaaGreatLBasis
namespace Go.Proofs.YtinoomcboinokaaGreat
open Go Go.RowKit Num

/-- What Rank returns. -/
def RankP (x : Int) (r : Nat) (w : World) (e : Ending) (w' : World) : Prop := ∃ y : Int, e = .returned (.tuple #[.int .i64 y, .int .i64 x]) ∧ (x ≠ 0 → y = 0) ∧ (x = 0 → y = r) ∧ Below w.heap.size w w'
set_option maxRecDepth 100000 in
set_option maxHeartbeats 1000000 in
theorem Rank_any (p n : Int) (lv : Value) (m : Nat) (l : Nat → Nat) (F : Nat → Nat → Int) (w : World) (hm : m ≤ 1000000) (hg : Grid w (· < w.heap.size) lv m l F) :
    Calls Tryz.prog 14 #[.int .i64 p, .int .i64 n, lv] w (RankP (chkB n p (chkL m l n)) (pivL n.toNat (elimL p n.toNat m F)).length w) := by
  have HB := Lib.hid (Basis_any p n lv m l F w hm hg)
  obtain ⟨A, c, rfl, hc⟩ := hg.form
  clear hg
  generalize hx : chkB n p (chkL m l n) = x at HB ⊢
  go_enter Tryz.func14, Tryz.ntmps14
  go_wp2_with fail
  refine HB.out.mono ?_
  rintro e w1 ⟨h1, h2⟩
  by_cases h0 : x = 0
  · subst h0
    obtain ⟨v, rfl, hgv, hb⟩ := h2 rfl
    obtain ⟨A1, c1, rfl, -⟩ := hgv.form
    clear hgv h1 h2
    go_wp2
    refine bodyPost_ret (results_tmp2 rfl _ _ _) rfl ⟨_, rfl, fun h => absurd rfl h, fun _ => rfl, hb⟩
  · obtain ⟨rfl, hb⟩ := h1 h0
    clear h1 h2
    go_wp2
    refine bodyPost_ret (results_tmp2 rfl _ _ _) rfl ⟨_, rfl, fun _ => rfl, fun h => absurd h h0, hb⟩

/-- A row, cut off. -/
def wideF (n : Nat) (f : Nat → Int) (j : Nat) : Int := if j < n then f j else 0
/-- The row is in the span. -/
def inB (p : Int) (n : Nat) (R : Nat → Option (Nat → Int)) (f : Nat → Int) : Bool := !(firstNZ (redK p R (wideF n f) n) n).isSome
/-- In's error. -/
noncomputable def chkI (n p : Int) (m : Nat) (l : Nat → Nat) (k : Nat) : Int := if chkB n p (chkL m l n) ≠ 0 then chkB n p (chkL m l n) else if (k : Int) ≠ n then 10 else 0
def RetI (b : Bool) (x : Int) (w : World) (e : Ending) (w' : World) : Prop := e = .returned (.tuple #[.bool b, .int .i64 x]) ∧ Below w.heap.size w w'
set_option maxRecDepth 100000 in
set_option maxHeartbeats 1000000 in
theorem In_any (p n : Int) (lv vv : Value) (m k : Nat) (l : Nat → Nat) (F : Nat → Nat → Int) (f : Nat → Int) (w : World) (hm : m ≤ 1000000) (hk : k ≤ 1000000) (hg : Grid w (· < w.heap.size) lv m l F) (hv : Vec w (· < w.heap.size) vv k f) :
    Calls Tryz.prog 16 #[.int .i64 p, .int .i64 n, lv, vv] w (RetI (if chkI n p m l k = 0 then inB p n.toNat (elimL p n.toNat m F) f else false) (chkI n p m l k) w) := by
  obtain ⟨A, c, rfl, hc⟩ := hg.form
  obtain ⟨Av, cv, rfl, hcv⟩ := hv.form
  have hr := row_new (W := w) rfl 25 #[.slice A m c]
  have hb := (Below.refl w.heap.size w).alloc (Nat.le_refl _) (.cells #[.slice A m c] 25)
  have HC := Lib.hid (check_any p n w.heap.size 0 1 1 (fun _ => .slice A m c) (fun _ => m) (fun _ => l) (fun _ => F) (w.alloc (.cells #[.slice A m c] 25)) (by simp) (by omega) (fun _ _ => hm) (fun i hi => by obtain rfl : i = 0 := (by omega); exact hr.cell rfl) (fun _ _ => (hg.below (fun _ h => h) hb).more fun b h => by simp; omega))
  rw [chkTo_one] at HC
  have HG := Lib.hid hg
  have HV := Lib.hid hv
  have HB := Lib.hid hb
  clear hg hr hb hv
  by_cases hx : chkB n p (chkL m l n) = 0
  · have hgood := goodL hx
    obtain ⟨q, rfl⟩ : ∃ q : Nat, n = q := ⟨n.toNat, by have := hgood.n0; omega⟩
    have hk0 := hgood.n0
    have hk1 := hgood.n1
    by_cases hkq : k = q
    · subst hkq
      have hchk : chkI k p m l k = 0 := by unfold chkI; rw [if_neg (by rw [hx]; decide), if_neg (by simp)]
      rw [hchk, if_pos rfl, Int.toNat_natCast]
      rw [hx] at HC
      have hgk : ∀ W, Below w.heap.size w W → Grid W (· < W.heap.size) (.slice A m c) m (fun _ => k) F := fun W hb => (HG.out.below (fun _ h => h) hb).keep (fun _ h => Nat.lt_of_lt_of_le h hb.size) (fun _ _ => rfl) (fun i hi => by have := hgood.len i hi; omega) (fun _ _ _ _ => rfl)
      have hvk : ∀ W, Below w.heap.size w W → Vec W (· < W.heap.size) (.slice Av k cv) k (wideF k f) := fun W hb => ((HV.out.below (fun _ h => h) hb).more fun _ h => Nat.lt_of_lt_of_le h hb.size).congr fun j hj => by unfold wideF; rw [if_pos hj]
      have HGK := Lib.hid hgk
      have HVK := Lib.hid hvk
      have HGD := Lib.hid hgood
      have HE := Lib.hid (show ∀ b, b = inB p k (elimL p k m F) f → ∀ w', Below w.heap.size w w' → RetI (inB p k (elimL p k m F) f) 0 w (.returned (.tuple #[.bool b, .int .i64 0])) w' from fun b hb w' h => ⟨by rw [hb], h⟩)
      generalize RetI (inB p k (elimL p k m F) f) 0 w = PP at HE ⊢
      clear hgk hvk hgood hx hchk
      have hne : ((k : Int) != (k : Int)) = false := by simp
      go_enter Tryz.func16, Tryz.ntmps16
      go_wp2_with fail
      refine HC.out.mono ?_
      rintro e w1 ⟨rfl, hb1⟩
      have HB1 := Lib.hid (HB.out.trans (hb1.mono HB.out.size))
      clear hb1
      go_wp2_with fail
      refine (eliminate_any p k k m F (.slice A m c) w1 HGD.out.p6 HGD.out.p0 HGD.out.p1 (by omega) (Nat.le_refl _) (by omega) (by have := HGD.out.m1; omega) (HGK.out w1 HB1.out)).mono ?_
      rintro e w2 ⟨eb, mb, g, c2, rfl, heb, hgn, hel, hb2⟩
      have HB2 := Lib.hid (HB1.out.trans (hb2.mono HB1.out.size))
      have HEL := Lib.hid hel
      clear hb2 hel hgn
      go_wp2_with fail
      refine (reduce_any p k k m eb mb _ g c2 (wideF k f) (.slice Av k cv) w2 HGD.out.p6 HGD.out.p0 HGD.out.p1 (Nat.le_refl _) (by omega) (by omega) (by have := HGD.out.m1; omega) (elimR_ech (by have := HGD.out.p0; omega) (invF HGD.out.p6 HGD.out.p0) k _) HEL.out (HVK.out w2 HB2.out)).mono ?_
      rintro e w3 ⟨A3, c3, rfl, hc3, hg3, hb3⟩
      obtain ⟨g3, rfl, -, hrow3⟩ := hg3 (by omega)
      have HB3 := Lib.hid (HB2.out.trans (hb3.mono HB2.out.size))
      have HR3 := Lib.hid (hrow3.vec hc3 (fun _ => True) trivial)
      clear hb3 hg3 hrow3
      go_wp2_with fail
      refine (isZero_any _ k _ (fun _ => True) w3 (by omega) HR3.out).mono ?_
      rintro e w4 ⟨rfl, rfl⟩
      have HEE := Lib.hid (HE.out _ (show (!(firstNZ (redK p (elimR p k (invI p) (rowsL k F m)) (wideF k f) k) k).isSome) = inB p k (elimL p k m F) f from rfl) w4 HB3.out)
      generalize (!(firstNZ (redK p (elimR p k (invI p) (rowsL k F m)) (wideF k f) k) k).isSome) = b at HEE
      go_wp2
      exact HEE.out
    · have hchk : chkI q p m l k = 10 := by unfold chkI; rw [if_neg (by rw [hx]; decide), if_pos (by omega)]
      rw [hchk, if_neg (by decide)]
      rw [hx] at HC
      have HE := Lib.hid (show ∀ w', Below w.heap.size w w' → RetI false 10 w (.returned (.tuple #[.bool false, .int .i64 10])) w' from fun w' h => ⟨rfl, h⟩)
      generalize RetI false 10 w = PP at HE ⊢
      have hne : ((k : Int) != (q : Int)) = true := by simp; omega
      clear hgood hx hchk HG HV
      go_enter Tryz.func16, Tryz.ntmps16
      go_wp2_with fail
      refine HC.out.mono ?_
      rintro e w1 ⟨rfl, hb1⟩
      have HEE := Lib.hid (HE.out w1 (HB.out.trans (hb1.mono HB.out.size)))
      clear hb1
      go_wp2
      exact HEE.out
  · have hchk : chkI n p m l k = chkB n p (chkL m l n) := by unfold chkI; rw [if_pos hx]
    rw [hchk, if_neg hx]
    generalize chkB n p (chkL m l n) = x at HC hx ⊢
    have HE := Lib.hid (show ∀ w', Below w.heap.size w w' → RetI false x w (.returned (.tuple #[.bool false, .int .i64 x])) w' from fun w' h => ⟨rfl, h⟩)
    generalize RetI false x w = PP at HE ⊢
    have hxb : (x == 0) = false := by simp [hx]
    have hxb2 : (x != 0) = true := by simp [hx]
    clear hchk HG HV
    go_enter Tryz.func16, Tryz.ntmps16
    go_wp2_with fail
    refine HC.out.mono ?_
    rintro e w1 ⟨rfl, hb1⟩
    have HEE := Lib.hid (HE.out w1 (HB.out.trans (hb1.mono HB.out.size)))
    clear hb1
    go_wp2
    exact HEE.out
end Go.Proofs.YtinoomcboinokaaGreat
