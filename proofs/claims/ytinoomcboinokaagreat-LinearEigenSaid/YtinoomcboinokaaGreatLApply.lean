/- The reference's Apply. -/
import Derived.Test.YtinoomcboinokaaGreatMRefA
import Derived.StillTailTactics
namespace Go.Proofs.YtinoomcboinokaaGreat
open Go Go.RowKit Num

def ApP (z : Int) (n : Nat) (g : Nat → Int) (w : World) (e : Ending) (w' : World) : Prop :=
  (z ≠ 0 → e = .returned (.tuple #[.slice none 0 0, .int .i64 z]) ∧ Below w.heap.size w w') ∧ (z = 0 → ∃ r, e = .returned (.tuple #[r, .int .i64 0]) ∧ Vec w' (New w w') r n g ∧ Below w.heap.size w w')

/-- A row that is written as far as entry k, which is s. -/
def stv (G : Nat → Int) (k : Nat) (s : Int) (b : Nat) : Int := if b < k then G b else if b = k then s else 0
theorem stv_upd (n : Nat) (G : Nat → Int) (k : Nat) (s y : Int) : (CTab n (iv (stv G k s))).setIfInBounds k (.int .i64 y) = CTab n (iv (stv G k y)) := by
  rw [CTab_set]
  refine CTab_congr _ _ _ fun j _ => ?_
  unfold iv stv
  by_cases e : j = k
  · subst e; rw [if_pos rfl, if_neg (by omega), if_pos rfl]
  · rw [if_neg e]
    by_cases h : j < k
    · rw [if_pos h, if_pos h]
    · rw [if_neg h, if_neg h, if_neg e, if_neg e]
theorem stv_next (G : Nat → Int) (k : Nat) : stv G k (G k) = stv G (k + 1) 0 := by
  funext b
  unfold stv
  by_cases h : b < k
  · rw [if_pos h, if_pos (by omega)]
  · rw [if_neg h]
    by_cases e : b = k
    · subst e; rw [if_pos rfl, if_pos (by omega)]
    · rw [if_neg e, if_neg (by omega)]; split <;> rfl
theorem stv_here (G : Nat → Int) (k : Nat) (s : Int) : stv G k s k = s := by unfold stv; rw [if_neg (by omega), if_pos rfl]
/-- The row in its block g; what was there before w4's end is as it was. -/
structure RwI (w4 : World) (n : Nat) (F : Nat → Int) (wr : World) : Prop where
  row : Row wr w4.heap.size 3 (CTab n (iv F))
  b : Below w4.heap.size w4 wr
theorem RwI.drew {w4 wr : World} {n : Nat} {F : Nat → Int} (h : RwI w4 n F wr) : RwI w4 n F wr.drew := ⟨h.row, below_drew h.b⟩

set_option maxRecDepth 100000 in
set_option maxHeartbeats 4000000 in
theorem rApply_any (v ra : Value) (l m : Nat) (n : Nat → Nat) (y : Nat → Int) (f : Nat → Nat → Int) (p : Int) (w : World) (hl : l ≤ 1000000) (hm : m ≤ 1000000) (hn : ∀ i, i < m → n i ≤ 1000000) (hv : Vec w (· < w.heap.size) v l y) (ha : Grid w (· < w.heap.size) ra m n f) (x : Int) (hx : x = chkM p m n f) :
    Calls Tryz.prog 32 #[v, .agg #[.int .i64 p, ra]] w (ApP (if x ≠ 0 then x else if l ≠ m then 10 else 0) (n 0) (fun j => dotTo (fun i => (resV (y i) p.toNat : Nat)) f j m % p) w) := by
  have HC := fun W h => Lib.hid (rCheck_any ra m n f p W hm hn h)
  rw [← hx] at HC
  have HX := Lib.hid hx
  have HA := Lib.hid ha
  have HV := Lib.hid hv
  obtain ⟨VA, vc, rfl, _⟩ := hv.form
  clear hx
  by_cases hx0 : x = 0
  · subst hx0
    obtain ⟨hmod, g1, g2, g3, g4, g5⟩ := chkM_zero HX.out.symm
    obtain ⟨hp2, hp4, hp6⟩ := modB_true hmod
    obtain ⟨pn, rfl⟩ : ∃ pn : Nat, p = pn := ⟨p.toNat, by omega⟩
    obtain ⟨ag, ao, ac, RA, CA, rfl, hac, hab, hag⟩ := ha.at_ (by omega)
    have hr0 := (hag 0 (by omega)).1
    rw [Nat.add_zero] at hr0
    rw [Int.toNat_natCast, if_neg (by omega)]
    have HBX := Lib.hid (row_new (W := w) rfl 31 #[.int .i64 pn, .slice (some ⟨ag, ao, none⟩) m ac])
    have HBB := Lib.hid ((Below.refl w.heap.size w).alloc (Nat.le_refl _) (.cells #[.int .i64 pn, .slice (some ⟨ag, ao, none⟩) m ac] 31))
    by_cases hlm : l = m
    · subst hlm
      rw [if_neg (by omega)]
      obtain ⟨G, hG⟩ : ∃ G : Nat → Int, (fun j => dotTo (fun i => (resV (y i) pn : Nat)) f j l % (pn : Int)) = G := ⟨_, rfl⟩
      have HPO := Lib.hid (show ∀ r w', Vec w' (New w w') r (n 0) G → Below w.heap.size w w' → ApP 0 (n 0) (fun j => dotTo (fun i => (resV (y i) pn : Nat)) f j l % (pn : Int)) w (.returned (.tuple #[r, .int .i64 0])) w' from fun r w' h1 h2 => by rw [hG]; exact ⟨fun h => absurd rfl h, fun _ => ⟨r, rfl, h1, h2⟩⟩)
      generalize ApP 0 (n 0) (fun j => dotTo (fun i => (resV (y i) pn : Nat)) f j l % (pn : Int)) w = PP at HPO ⊢
      have HD0 := Lib.hid (show ∀ k, dotTo (fun i => (resV (y i) pn : Nat)) f k 0 % (pn : Int) = 0 from fun k => by simp [dotTo])
      have HDS := Lib.hid (show ∀ k j, (dotTo (fun i => (resV (y i) pn : Nat)) f k j % (pn : Int) + (resV (y j) pn : Nat) * f j k) % (pn : Int) = dotTo (fun i => (resV (y i) pn : Nat)) f k (j + 1) % (pn : Int) from fun k j => dotTo_step (fun i => (resV (y i) pn : Nat)) f pn j k)
      have HDQ := Lib.hid (show ∀ k, dotTo (fun i => (resV (y i) pn : Nat)) f k l % (pn : Int) = G k from fun k => by rw [← hG])
      have HIN := Lib.hid (fun i (hi : i < l) => (show InP (pn : Int) (n 0) (f i) from by have := (g5 i hi).2; rw [(g5 i hi).1] at this; exact this))
      have HAG := Lib.hid (show ∀ i, i < l → w.cell? ⟨ag, ao + i, none⟩ = some (.slice (RA i) (n 0) (CA i)) ∧ Vec w (· < w.heap.size) (.slice (RA i) (n 0) (CA i)) (n 0) (f i) from fun i hi => by have := hag i hi; rwa [(g5 i hi).1] at this)
      generalize n 0 = n0 at HIN HAG g3 g4 HPO hr0
      have hmk := fun W => make_ints n0 (by omega) W
      obtain ⟨vb, vo, _, ve, _, vS, vcl⟩ := hv.at_ (by omega)
      cases ve
      have HVC := Lib.hid vcl
      have HPK := fun i W => Lib.hid (Pick_any (y i) pn W (by omega) (by omega))
      have HRS := Lib.hid (fun i => resV_lt (y i) (p := pn) (by omega))
      have hd : ((l : Int) != (l : Int)) = false := by simp
      have hl0 : (0 : Int) < (l : Int) := by omega
      have hl9 : ¬ l = 0 := by omega
      have hl7 : 0 < l := by omega
      clear ha hn g5 hmod hag HX hv vcl hG
      go_enter Tryz.func32, Tryz.ntmps32
      go_wp2_with fail
      generalize w.alloc (.cells #[.int .i64 pn, .slice (some ⟨ag, ao, none⟩) l ac] 31) = w3 at HBX HBB
      refine (HC _ (HA.out.on HBB.out)).out.mono ?_
      rintro e w4 ⟨rfl, hb4⟩
      have HJ1 := Lib.hid (HBB.out.trans (hb4.mono HBB.out.size))
      have HJ2 := Lib.hid (HBX.out.below hb4 HBX.out.lt)
      have c0 := HJ2.out.cell (i := 0) rfl
      have c1 := HJ2.out.cell (i := 1) rfl
      have c3 := (HJ1.out.cell (p := ⟨ag, ao, none⟩) hab).trans hr0
      clear hb4 HBX HBB
      go_wp2_with fail
      have HST := Lib.hid (show RwI w4 n0 (stv G 0 0) (w4.alloc (.cells (CTab n0 fun _ => .int .i64 0) 3)) from by
        refine ⟨?_, (Below.refl _ _).alloc (Nat.le_refl _) _⟩
        have e : CTab n0 (iv (stv G 0 0)) = CTab n0 (fun _ => .int .i64 0) := CTab_congr _ _ _ fun j _ => by unfold iv stv; rw [if_neg (by omega)]; split <;> rfl
        rw [e]; exact row_new rfl _ _)
      have HKB := Lib.hid (fun (W : World) (hb : Below w4.heap.size w4 W) => (show W.cell? ⟨w.heap.size, 0, none⟩ = some (.int .i64 pn) ∧ W.cell? ⟨w.heap.size, 1, none⟩ = some (.slice (some ⟨ag, ao, none⟩) l ac) from
        ⟨(HJ2.out.below hb HJ2.out.lt).cell rfl, (HJ2.out.below hb HJ2.out.lt).cell rfl⟩))
      have hp9 : ¬ pn = 0 := by omega
      have hp8 : ((pn : Int) != 0) = true := by simp; omega
      clear hmk c0 c1 c3
      go_loopw [8] (fun t8 wr => ∃ k : Nat, t8 = .int .i64 k ∧ k ≤ n0 ∧ RwI w4 n0 (stv G k 0) wr) (fun t8 _ => n0 - (intOf t8).toNat)
      case atStart => exact ⟨0, rfl, Nat.zero_le _, HST.out⟩
      case round =>
        obtain ⟨k, rfl, hk, hW⟩ := hrel
        by_cases hkn : k < n0
        · have hd1 : decide ((k : Int) < (n0 : Int)) = true := decide_eq_true (by omega)
          have hd1n : decide (k < n0) = true := decide_eq_true hkn
          have HW0 := Lib.hid (show RwI w4 n0 (stv G k (dotTo (fun i => (resV (y i) pn : Nat)) f k 0 % (pn : Int))) wr from by rw [HD0.out]; exact hW)
          clear hW
          go_wp2
          go_loopw [9] (fun t9 wr => ∃ j : Nat, t9 = .int .i64 j ∧ j ≤ l ∧ RwI w4 n0 (stv G k (dotTo (fun i => (resV (y i) pn : Nat)) f k j % (pn : Int))) wr) (fun t9 _ => l - (intOf t9).toNat)
          case atStart => exact ⟨0, rfl, Nat.zero_le _, HW0.out⟩
          case round =>
            obtain ⟨j, rfl, hj, hW⟩ := hrel
            rename World => W2
            by_cases hjl : j < l
            · have hd2 : decide ((j : Int) < (l : Int)) = true := decide_eq_true (by omega)
              have hd2n : decide (j < l) = true := decide_eq_true hjl
              obtain ⟨c0, c1⟩ := HKB.out _ hW.b
              have e3 := hW.row.cell (CTab_get _ _ k hkn)
              have e4 := hW.row.frozen k
              have hBw := HJ1.out.trans (hW.b.mono HJ1.out.size)
              obtain ⟨u1, u2⟩ := HAG.out j hjl
              obtain ⟨ub, uo, uc, ue, _, uS, ucl⟩ := u2.at_ (by omega)
              rw [ue] at u1
              have u3 := (hBw.cell (p := ⟨ag, ao + j, none⟩) hab).trans u1
              have u4 := (hBw.cell (p := ⟨ub, uo + k, none⟩) uS).trans (ucl k hkn)
              have v4 := (hBw.cell (p := ⟨vb, vo + j, none⟩) vS).trans (HVC.out j hjl)
              have hx := HIN.out j hjl k hkn
              have hres := HRS.out j
              have hPK := fun W => HPK j W
              have hst := HDS.out k j
              have hrw := hW.row
              have hwb := hW.b
              unfold iv at e3
              rw [stv_here] at e3
              have hs : 0 ≤ dotTo (fun i => (resV (y i) pn : Nat)) f k j % (pn : Int) ∧ dotTo (fun i => (resV (y i) pn : Nat)) f k j % (pn : Int) < pn := ⟨Int.emod_nonneg _ (by omega), Int.emod_lt_of_pos _ (by omega)⟩
              generalize dotTo (fun i => (resV (y i) pn : Nat)) f k j % (pn : Int) = s at e3 hs hst hrw
              generalize f j k = z at u4 hx hst
              generalize resV (y j) pn = r at hPK hres hst
              generalize y j = yj at v4 hPK
              have hmul := mul_in (a := (r : Int)) (b := z) (p := pn) (q := pn) ⟨by omega, by omega⟩ ⟨hx.1, by omega⟩ (by omega) (by omega)
              obtain ⟨t, ht⟩ : ∃ t, (r : Int) * z = t := ⟨_, rfl⟩
              have hw1 : IntKind.i64.wrap ((r : Int) * z) = t := by rw [ht]; exact IntWalk.i64_in _ ⟨by omega, by omega⟩
              rw [ht] at hmul hst
              obtain ⟨st, hst2⟩ : ∃ st, s + t = st := ⟨_, rfl⟩
              have hw2 : IntKind.i64.wrap (s + t) = st := by rw [hst2]; exact IntWalk.i64_in _ ⟨by omega, by omega⟩
              have hsb : 0 ≤ st ∧ st ≤ 200000000 := by omega
              rw [hst2] at hst
              have hr : st.tmod pn = st % pn := Int.tmod_eq_emod_of_nonneg (by omega)
              have hr1 : 0 ≤ st % (pn : Int) := Int.emod_nonneg _ (by omega)
              have hr2 : st % (pn : Int) < pn := Int.emod_lt_of_pos _ (by omega)
              have hw3 : IntKind.i64.wrap (st % (pn : Int)) = st % pn := IntWalk.i64_in _ ⟨by omega, by omega⟩
              have HNX := Lib.hid (show RwI w4 n0 (stv G k (dotTo (fun i => (resV (y i) pn : Nat)) f k (j + 1) % (pn : Int))) (W2.setCell ⟨w4.heap.size, k, none⟩ (.int .i64 (st % (pn : Int)))).drew from by
                rw [← hst]
                refine RwI.drew ⟨?_, hwb.setCell (p := ⟨w4.heap.size, k, none⟩) (Nat.le_refl _) _⟩
                have := hrw.set k (.int .i64 (st % (pn : Int)))
                rwa [stv_upd] at this)
              have i1 : (k : Int) < (n0 : Int) := by omega
              have i2 : (0 : Int) ≤ (k : Int) := by omega
              have i5 : (j : Int) < (l : Int) := by omega
              have i6 : (0 : Int) ≤ (j : Int) := by omega
              clear hBw u1 u2 ucl ue ht hst2 hst hW hx hrw hwb
              go_wp2_with fail
              go_still_tail 27, (by kernel_rfl)
              first | (still_call (hPK _).out; repeat still_step) | (repeat still_step; still_call (hPK _).out; repeat still_step)
              first | (change wpList _ _ _ _ _ W2.drew) | (refine wpStill_nil ?_; change wpList _ _ _ _ _ W2.drew)
              go_wp2_with fail
              go_roundw
              case rel => exact ⟨j + 1, by go_num, by omega, HNX.out⟩
              case measure => simp [intOf]; omega
            · have e : j = l := by omega
              subst e
              have hd2 : decide ((j : Int) < (j : Int)) = false := decide_eq_false (by omega)
              have HN := Lib.hid (show RwI w4 n0 (stv G (k + 1) 0) W2 from by rw [HDQ.out, stv_next] at hW; exact hW)
              clear hW
              go_wp2
              go_roundw
              case rel => exact ⟨k + 1, by go_num, by omega, HN.out⟩
              case measure => simp [intOf]; omega
        · have e : k = n0 := by omega
          subst e
          have hd1 : decide ((k : Int) < (k : Int)) = false := decide_eq_false (by omega)
          have hsz4 := HJ1.out.size
          have HVR := Lib.hid (show Vec wr (New w wr) (.slice (some ⟨w4.heap.size, 0, none⟩) k k) k G from by
            have e : CTab k (iv (stv G k 0)) = CTab k (iv G) := CTab_congr _ _ _ fun b hb => by unfold iv stv; rw [if_pos hb]
            have hrw := hW.row
            rw [e] at hrw
            exact hrw.vec ⟨hsz4, hrw.lt⟩ (Nat.le_refl _))
          have HBR := Lib.hid (HJ1.out.trans (hW.b.mono HJ1.out.size))
          clear hW
          go_wp2
          exact HPO.out _ _ HVR.out HBR.out
    · rw [if_pos hlm]
      have HPO := Lib.hid (show ∀ w', Below w.heap.size w w' → ApP 10 (n 0) (fun j => dotTo (fun i => (resV (y i) pn : Nat)) f j m % (pn : Int)) w (.returned (.tuple #[.slice none 0 0, .int .i64 10])) w' from fun w' h => ⟨fun _ => ⟨rfl, h⟩, fun h => absurd h (by decide)⟩)
      generalize ApP 10 (n 0) (fun j => dotTo (fun i => (resV (y i) pn : Nat)) f j m % (pn : Int)) w = PP at HPO ⊢
      have hd : ((l : Int) != (m : Int)) = true := by simp; omega
      clear ha hn g5 hmod hag HX hv hr0
      go_enter Tryz.func32, Tryz.ntmps32
      go_wp2_with fail
      generalize w.alloc (.cells #[.int .i64 pn, .slice (some ⟨ag, ao, none⟩) m ac] 31) = w3 at HBX HBB
      refine (HC _ (HA.out.on HBB.out)).out.mono ?_
      rintro e w4 ⟨rfl, hb4⟩
      have HJ1 := Lib.hid (HBB.out.trans (hb4.mono HBB.out.size))
      have hJ2 := HBX.out.below hb4 HBX.out.lt
      have c0 := hJ2.cell (i := 0) rfl
      have c1 := hJ2.cell (i := 1) rfl
      clear hb4 HBX HBB hJ2
      go_wp2_with fail
      exact HPO.out _ HJ1.out
  · have hd2 : (x != 0) = true := by simpa using hx0
    rw [if_pos hx0]
    have HPO := Lib.hid (show ∀ w', Below w.heap.size w w' → ApP x (n 0) (fun j => dotTo (fun i => (resV (y i) p.toNat : Nat)) f j m % p) w (.returned (.tuple #[.slice none 0 0, .int .i64 x])) w' from fun w' h => ⟨fun _ => ⟨rfl, h⟩, fun h => absurd h hx0⟩)
    generalize ApP x (n 0) (fun j => dotTo (fun i => (resV (y i) p.toNat : Nat)) f j m % p) w = PP at HPO ⊢
    obtain ⟨A, c, rfl, hcm⟩ := ha.form
    have HBB := Lib.hid ((Below.refl w.heap.size w).alloc (Nat.le_refl _) (.cells #[.int .i64 p, .slice A m c] 31))
    clear ha hn hx0 HX hv
    go_enter Tryz.func32, Tryz.ntmps32
    go_wp2_with fail
    generalize w.alloc (.cells #[.int .i64 p, .slice A m c] 31) = w3 at HBB
    refine (HC _ (HA.out.on HBB.out)).out.mono ?_
    rintro e w4 ⟨rfl, hb4⟩
    have HJ1 := Lib.hid (HBB.out.trans (hb4.mono HBB.out.size))
    clear hb4 HBB
    go_wp2_with fail
    exact HPO.out _ HJ1.out
end Go.Proofs.YtinoomcboinokaaGreat
