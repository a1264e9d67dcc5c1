/- matrix.Apply. -/
import Derived.Test.YtokiejichnnmnaaMOneD
import Derived.Test.YtokiejichnnmnaaMTimes
namespace Go.Proofs.Ytokiejichnnmnaa
open Go Go.RowKit Num

/-- What Apply returns. -/
def ApP (z : Int) (n : Nat) (g : Nat → Int) (w : World) (e : Ending) (w' : World) : Prop :=
  (z ≠ 0 → e = .returned (.tuple #[.slice none 0 0, .int .i64 z]) ∧ Below w.heap.size w w') ∧ (z = 0 → ∃ r, e = .returned (.tuple #[r, .int .i64 0]) ∧ Vec w' (New w w') r n g ∧ Below w.heap.size w w')

set_option maxRecDepth 100000 in
set_option maxHeartbeats 2000000 in
theorem Apply_any (v ra : Value) (l m : Nat) (n : Nat → Nat) (y : Nat → Int) (f : Nat → Nat → Int) (p : Int) (w : World) (hl : l ≤ 1000000) (hm : m ≤ 1000000) (hn : ∀ i, i < m → n i ≤ 1000000) (hv : Vec w (· < w.heap.size) v l y) (ha : Grid w (· < w.heap.size) ra m n f) (x : Int) (hx : x = chkM p m n f) :
    Calls Try.prog 49 #[v, .agg #[.int .i64 p, ra]] w (ApP (if x ≠ 0 then x else if l ≠ m then 10 else 0) (n 0) (fun j => dotTo (fun i => (resV (y i) p.toNat : Nat)) f j m % p) w) := by
  have HC := fun W h => Lib.hid (Check_any ra m n f p W hm hn h)
  rw [← hx] at HC
  have HA := Lib.hid ha
  have HV := Lib.hid hv
  obtain ⟨A, c, rfl, hcm⟩ := ha.form
  obtain ⟨B, d, rfl, hdl⟩ := hv.form
  have HBX := Lib.hid (row_new (W := w) rfl 61 #[.int .i64 p, .slice A m c])
  have HB1 := Lib.hid (show Below w.heap.size w (w.alloc (.cells #[.int .i64 p, .slice A m c] 61)) from (Below.refl _ _).alloc (Nat.le_refl _) _)
  by_cases hx0 : x = 0
  · subst hx0
    by_cases hlm : l = m
    · subst hlm
      rw [if_neg (by omega), if_neg (by omega)]
      obtain ⟨hmod, g1, g2, g3, g4, g5⟩ := chkM_zero hx.symm
      obtain ⟨hp2, hp4, hp6⟩ := modB_true hmod
      obtain ⟨pn, rfl⟩ : ∃ pn : Nat, p = pn := ⟨p.toNat, by omega⟩
      rw [Int.toNat_natCast] at hp6 ⊢
      have HMO := fun a W => Lib.hid (Mod_ok a pn W hp6)
      have HIN := Lib.hid (show InG (pn : Int) l (n 0) f from fun i hi => (by have := (g5 i hi).2; rw [(g5 i hi).1] at this; exact this))
      have HA2 := Lib.hid (grid_reg HA.out (fun i hi => ((g5 i hi).1)))
      have hmk := fun W => make_ints l (by omega) W
      have HRI := Lib.hid (show InP (pn : Int) l (fun i => (resV (y i) pn : Nat)) from fun i _ => ⟨Int.natCast_nonneg _, Int.ofNat_lt.2 (resV_lt (y i) (p := pn) (by omega))⟩)
      generalize n 0 = n0 at HIN HA2 g3 g4
      have hd1 : ((l : Int) != (l : Int)) = false := by simp
      clear ha hv hn g5 hmod hx
      go_enter Try.func49, Try.ntmps49
      go_wp2_with fail
      refine (HC _ (HA.out.on HB1.out)).out.mono ?_
      rintro e w2 ⟨rfl, hb2⟩
      have HB2 := Lib.hid (HB1.out.trans (hb2.mono HB1.out.size))
      have HR2 := Lib.hid (HBX.out.below hb2 HBX.out.lt)
      have c0 := HR2.out.cell (i := 0) rfl
      have c1 := HR2.out.cell (i := 1) rfl
      have hlt2 := HR2.out.lt
      clear hb2
      go_wp2_with fail
      go_loopw [30] (fun t wr => ∃ k : Nat, t = .int .i64 k ∧ k ≤ l ∧ Hid (Fill w2 3 l (fun i => .int .i64 (resV (y i) pn : Nat)) (.int .i64 0) k wr)) (fun t _ => l - (intOf t).toNat)
      case atStart => exact ⟨0, rfl, Nat.zero_le _, Lib.hid (Fill.start _ _ _ _ _)⟩
      case round =>
        obtain ⟨k, rfl, hk, HF⟩ := hrel
        have HBr := Lib.hid HF.out.2.2
        by_cases hlt : k < l
        · have d1 : decide (k < l) = true := decide_eq_true hlt
          have d2 : (0 : Int) ≤ k := by omega
          have d3 : (k : Int) < (l : Int) := by omega
          obtain ⟨B', d', e, _, hV⟩ := HV.out
          cases e
          obtain ⟨b, o, rfl, hb, hcc⟩ := hV (by omega)
          have hb' : b < w.heap.size := hb
          have k1 := ((HB2.out.trans (HBr.out.mono HB2.out.size)).cell (p := ⟨b, o + k, none⟩) hb').trans (hcc k hlt)
          have HS := Lib.hid (HF.out.step hlt)
          have x0 := (HR2.out.below HBr.out hlt2).cell (i := 0) rfl
          have fz := HF.out.2.1.frozen k
          have zc := HF.out.2.1.cell (CTab_get _ _ k hlt)
          clear hV hcc hb hb' c0 c1
          generalize y k = yk at k1 HS
          go_wp2_with fail
          refine (HMO _ _).out.mono ?_
          rintro e w3 ⟨rfl, rfl⟩
          go_wp2_with fail
          go_roundw
          case rel => exact ⟨k + 1, by go_num, by omega, HS⟩
          case measure => simp [intOf]; omega
        · have hkl : k = l := by omega
          subst hkl
          have d1 : decide (k < k) = false := decide_eq_false (by omega)
          have x0 := (HR2.out.below HBr.out hlt2).cell (i := 0) rfl
          have x1 := (HR2.out.below HBr.out hlt2).cell (i := 1) rfl
          have hrw := HF.out.2.1
          rw [part_all] at hrw
          have HVV := Lib.hid ((Row.vec (S := (· < wr.heap.size)) hrw hrw.lt (Nat.le_refl _)))
          clear hrw c0 c1
          have HBW := Lib.hid (HB2.out.trans (HBr.out.mono HB2.out.size))
          have HAP := Lib.hid (apply_any (.slice (some ⟨w2.heap.size, 0, none⟩) k k) (.slice A k c) k n0 (fun i => (resV (y i) pn : Nat)) f pn wr g1 (by omega) (by omega) HVV.out (HA2.out.on HBW.out) hp2 (by omega) HRI.out HIN.out)
          go_wp2_with fail
          refine HAP.out.mono ?_
          rintro e w4 ⟨r, rfl, hr, hb4⟩
          have HX := Lib.hid (hr.new_more (w0 := w) (w1 := w4) HBW.out.size (Nat.le_refl _))
          have HB4 := Lib.hid (HBW.out.trans (hb4.mono HBW.out.size))
          clear hr hb4 x0 x1
          go_wp2_with fail
          go_ret2
          exact ⟨fun h => absurd rfl h, fun _ => ⟨_, rfl, HX.out, HB4.out⟩⟩
    · have HPO := Lib.hid (fun (e : Ending) (w' : World) (h : e = .returned (.tuple #[.slice none 0 0, .int .i64 10]) ∧ Below w.heap.size w w') => (show ApP (if (0 : Int) ≠ 0 then 0 else if l ≠ m then 10 else 0) (n 0) (fun j => dotTo (fun i => (resV (y i) p.toNat : Nat)) f j m % p) w e w' from by
        rw [if_neg (by omega), if_pos hlm]; exact ⟨fun _ => h, fun h => absurd h (by decide)⟩))
      generalize ApP (if (0 : Int) ≠ 0 then 0 else if l ≠ m then 10 else 0) (n 0) (fun j => dotTo (fun i => (resV (y i) p.toNat : Nat)) f j m % p) w = PP at HPO ⊢
      have hd1 : ((l : Int) != (m : Int)) = true := by simp; omega
      clear ha hv hn hx
      go_enter Try.func49, Try.ntmps49
      go_wp2_with fail
      refine (HC _ (HA.out.on HB1.out)).out.mono ?_
      rintro e w2 ⟨rfl, hb2⟩
      have HB2 := Lib.hid (HB1.out.trans (hb2.mono HB1.out.size))
      have HR2 := Lib.hid (HBX.out.below hb2 HBX.out.lt)
      have c0 := HR2.out.cell (i := 0) rfl
      have c1 := HR2.out.cell (i := 1) rfl
      clear hb2
      go_wp2_with fail
      exact HPO.out _ _ ⟨rfl, HB2.out⟩
  · have HPO := Lib.hid (fun (e : Ending) (w' : World) (h : e = .returned (.tuple #[.slice none 0 0, .int .i64 x]) ∧ Below w.heap.size w w') => (show ApP (if x ≠ 0 then x else if l ≠ m then 10 else 0) (n 0) (fun j => dotTo (fun i => (resV (y i) p.toNat : Nat)) f j m % p) w e w' from by
      rw [if_pos hx0]; exact ⟨fun _ => h, fun h => absurd h hx0⟩))
    generalize ApP (if x ≠ 0 then x else if l ≠ m then 10 else 0) (n 0) (fun j => dotTo (fun i => (resV (y i) p.toNat : Nat)) f j m % p) w = PP at HPO ⊢
    have hd1 : (x == 0) = false := by simpa using hx0
    have hd2 : (x != 0) = true := by simpa using hx0
    clear ha hv hn hx hx0
    go_enter Try.func49, Try.ntmps49
    go_wp2_with fail
    refine (HC _ (HA.out.on HB1.out)).out.mono ?_
    rintro e w2 ⟨rfl, hb2⟩
    have HB2 := Lib.hid (HB1.out.trans (hb2.mono HB1.out.size))
    clear hb2
    go_wp2_with fail
    exact HPO.out _ _ ⟨rfl, HB2.out⟩
end Go.Proofs.Ytokiejichnnmnaa
