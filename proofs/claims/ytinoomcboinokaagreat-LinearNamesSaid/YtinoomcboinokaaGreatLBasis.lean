/- linear.Basis, Rank, In. -/
import Derived.Test.YtinoomcboinokaaGreatLAfterC
import Derived.Test.YtinoomcboinokaaGreatLCheck
namespace Go.Proofs.YtinoomcboinokaaGreat
open Go Go.RowKit Num

/-- The rows that are eliminated. -/
noncomputable def elimL (p : Int) (n m : Nat) (F : Nat → Nat → Int) : Nat → Option (Nat → Int) := elimR p n (invI p) (rowsL n F m)
/-- The basis as a grid. -/
def basF (n : Nat) (R : Nat → Option (Nat → Int)) (i x : Nat) : Int := rowAt R ((pivL n R).getD i 0) x
/-- A basis has been returned. -/
def OkB (n : Nat) (R : Nat → Option (Nat → Int)) (w : World) (e : Ending) (w' : World) : Prop := ∃ v, e = .returned (.tuple #[v, .int .i64 0]) ∧ Grid w' (New w w') v (pivL n R).length (fun _ => n) (basF n R) ∧ Below w.heap.size w w'
def BadB (x : Int) (w : World) (e : Ending) (w' : World) : Prop := e = .returned (.tuple #[.slice none 0 0, .int .i64 x]) ∧ Below w.heap.size w w'
/-- What a list passes, when its error is 0. -/
structure GoodL (p n : Int) (m : Nat) (l : Nat → Nat) : Prop where
  p6 : P6 p.toNat
  p0 : 2 ≤ p
  p1 : p ≤ 10000
  n0 : 1 ≤ n
  n1 : n ≤ 64
  m1 : m ≤ 200
  len : ∀ i, i < m → (l i : Int) = n
theorem chkTo_one (x : Nat → Int) : chkTo x 1 = x 0 := by simp [chkTo]
theorem chk1_zero {n p : Int} (h : chk1 n p = 0) : modB p = true ∧ 1 ≤ n ∧ n ≤ 64 := by
  unfold chk1 at h
  by_cases h1 : modB p = false
  · rw [if_pos h1] at h; cases h
  · rw [if_neg h1] at h
    by_cases h2 : sizeB n = false
    · rw [if_pos h2] at h; cases h
    · have h3 : sizeB n = true := by simpa using h2
      unfold sizeB at h3
      have := of_decide_eq_true h3
      exact ⟨by simpa using h1, this.1, this.2⟩
theorem chkL_zero {m : Nat} {l : Nat → Nat} {n : Int} (h : chkL m l n = 0) : m ≤ 200 ∧ ∀ i, i < m → (l i : Int) = n := by
  unfold chkL at h
  by_cases h1 : 200 < m
  · rw [if_pos h1] at h; cases h
  · rw [if_neg h1] at h
    by_cases h2 : oddL m l n
    · rw [if_pos h2] at h; cases h
    · refine ⟨by omega, fun i hi => ?_⟩
      by_cases e : (l i : Int) = n
      · exact e
      · exact absurd ⟨i, hi, e⟩ h2
theorem chkB_zero {n p x : Int} (h : chkB n p x = 0) : chk1 n p = 0 ∧ x = 0 := by
  unfold chkB at h
  by_cases h1 : chk1 n p ≠ 0
  · rw [if_pos h1] at h; exact absurd h h1
  · rw [if_neg h1] at h; exact ⟨by simpa using h1, h⟩
theorem goodL {n p : Int} {m : Nat} {l : Nat → Nat} (h : chkB n p (chkL m l n) = 0) : GoodL p n m l := by
  obtain ⟨h1, h2⟩ := chkB_zero h
  obtain ⟨hm, h3, h4⟩ := chk1_zero h1
  obtain ⟨h5, h6⟩ := chkL_zero h2
  obtain ⟨a, b, c⟩ := modB_true hm
  exact ⟨c, a, by omega, h3, h4, h5, h6⟩
theorem filter_zero (ls : List Nat) : (ls.filter fun j => decide (0 ≤ j)) = ls := List.filter_eq_self.2 fun a _ => by simp

set_option maxRecDepth 100000 in
set_option maxHeartbeats 1000000 in
theorem Basis_any (p n : Int) (lv : Value) (m : Nat) (l : Nat → Nat) (F : Nat → Nat → Int) (w : World) (hm : m ≤ 1000000) (hg : Grid w (· < w.heap.size) lv m l F) :
    Calls Tryz.prog 17 #[.int .i64 p, .int .i64 n, lv] w fun e w' => (chkB n p (chkL m l n) ≠ 0 → BadB (chkB n p (chkL m l n)) w e w') ∧ (chkB n p (chkL m l n) = 0 → OkB n.toNat (elimL p n.toNat m F) w e w') := by
  obtain ⟨A, c, rfl, hc⟩ := hg.form
  have hr := row_new (W := w) rfl 25 #[.slice A m c]
  have hb := (Below.refl w.heap.size w).alloc (Nat.le_refl _) (.cells #[.slice A m c] 25)
  have HC := Lib.hid (check_any p n w.heap.size 0 1 1 (fun _ => .slice A m c) (fun _ => m) (fun _ => l) (fun _ => F) (w.alloc (.cells #[.slice A m c] 25)) (by simp) (by omega) (fun _ _ => hm) (fun i hi => by obtain rfl : i = 0 := (by omega); exact hr.cell rfl) (fun _ _ => (hg.below (fun _ h => h) hb).more fun b h => by simp; omega))
  rw [chkTo_one] at HC
  have HG := Lib.hid hg
  have HB := Lib.hid hb
  clear hg hr hb
  by_cases hx : chkB n p (chkL m l n) = 0
  · have hgood := goodL hx
    obtain ⟨k, rfl⟩ : ∃ k : Nat, n = k := ⟨n.toNat, by have := hgood.n0; omega⟩
    have hk0 := hgood.n0
    have hk1 := hgood.n1
    have HPO := Lib.hid (fun (e : Ending) (w' : World) (h : OkB k (elimL p k m F) w e w') => (show (chkB k p (chkL m l k) ≠ 0 → BadB (chkB k p (chkL m l k)) w e w') ∧ (chkB k p (chkL m l k) = 0 → OkB (k : Int).toNat (elimL p (k : Int).toNat m F) w e w') from ⟨fun h => absurd hx h, fun _ => by rw [Int.toNat_natCast]; exact h⟩))
    rw [hx] at HC
    generalize hPP : (fun (e : Ending) (w' : World) => (chkB k p (chkL m l k) ≠ 0 → BadB (chkB k p (chkL m l k)) w e w') ∧ (chkB k p (chkL m l k) = 0 → OkB (k : Int).toNat (elimL p (k : Int).toNat m F) w e w')) = PP
    have HPP := Lib.hid (show ∀ e w', OkB k (elimL p k m F) w e w' → PP e w' from fun e w' h => by rw [← hPP]; exact HPO.out e w' h)
    have hgk : ∀ W, Below w.heap.size w W → Grid W (· < W.heap.size) (.slice A m c) m (fun _ => k) F := fun W hb => (HG.out.below (fun _ h => h) hb).keep (fun _ h => Nat.lt_of_lt_of_le h hb.size) (fun _ _ => rfl) (fun i hi => by have := hgood.len i hi; omega) (fun _ _ _ _ => rfl)
    have HGK := Lib.hid hgk
    have HGD := Lib.hid hgood
    clear hPP HPO hgk hgood hx
    go_enter Tryz.func17, Tryz.ntmps17
    go_wp2_with fail
    refine HC.out.mono ?_
    rintro e w1 ⟨rfl, hb1⟩
    have HB1 := Lib.hid (HB.out.trans (hb1.mono HB.out.size))
    clear hb1
    go_wp2_with fail
    refine (eliminate_any p k k m F (.slice A m c) w1 HGD.out.p6 HGD.out.p0 HGD.out.p1 (by omega) (Nat.le_refl _) (by omega) (by have := HGD.out.m1; omega) (HGK.out w1 HB1.out)).mono ?_
    rintro e w2 ⟨eb, mb, g, c2, rfl, heb, hgn, hel, hb2⟩
    have HB2 := Lib.hid (HB1.out.trans (hb2.mono HB1.out.size))
    have HEL := Lib.hid hel
    have HGN := Lib.hid hgn
    have hs1 := hb2.size
    clear hb2 hel hgn
    go_wp2_with fail
    refine (after_any p k k m 0 eb mb w1.heap.size _ g c2 w2 (Nat.le_refl _) (by omega) (by omega) (by have := HGD.out.m1; omega) (elimR_ech (by have := HGD.out.p0; omega) (invF HGD.out.p6 HGD.out.p0) k _) HEL.out hs1 HGN.out).mono ?_
    rintro e w3 ⟨v, rfl, hgv, hb3⟩
    rw [filter_zero] at hgv
    have HGV := Lib.hid hgv
    have HB3 := Lib.hid (HB2.out.trans (hb3.mono HB2.out.size))
    have hw1 := HB1.out.size
    obtain ⟨A4, c4, rfl, -⟩ := hgv.form
    have HE := Lib.hid (HPP.out (.returned (.tuple #[.slice A4 (pivL k (elimR p k (invI p) (rowsL k F m))).length c4, .int .i64 0])) w3 ⟨_, rfl, (hgv.keep (S' := New w w3) (fun b h => ⟨by omega, h.2⟩) (fun _ _ => rfl) (fun _ _ => rfl) (fun i _ x _ => by unfold basF elimL; rw [Nat.zero_add])), HB3.out⟩)
    clear hgv hb3
    go_wp2
    exact HE.out
  · generalize hPP : (fun (e : Ending) (w' : World) => (chkB n p (chkL m l n) ≠ 0 → BadB (chkB n p (chkL m l n)) w e w') ∧ (chkB n p (chkL m l n) = 0 → OkB n.toNat (elimL p n.toNat m F) w e w')) = PP
    have HPP := Lib.hid (show ∀ e w', BadB (chkB n p (chkL m l n)) w e w' → PP e w' from fun e w' h => by rw [← hPP]; exact ⟨fun _ => h, fun h => absurd h hx⟩)
    clear hPP
    generalize chkB n p (chkL m l n) = x at HC hx HPP
    have hxb : (x != 0) = true := by simp [hx]
    go_enter Tryz.func17, Tryz.ntmps17
    go_wp2_with fail
    refine HC.out.mono ?_
    rintro e w1 ⟨rfl, hb1⟩
    have HE := Lib.hid (HPP.out (.returned (.tuple #[.slice none 0 0, .int .i64 x])) w1 ⟨rfl, HB.out.trans (hb1.mono HB.out.size)⟩)
    clear hb1
    go_wp2
    exact HE.out
end Go.Proofs.YtinoomcboinokaaGreat
