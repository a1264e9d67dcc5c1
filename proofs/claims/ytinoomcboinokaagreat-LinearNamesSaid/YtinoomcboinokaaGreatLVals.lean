/- linear.Values, for square matrices that pass. -/
import Derived.Test.YtinoomcboinokaaGreatLPoly
import Derived.Test.YtinoomcboinokaaGreatLVal
namespace Go.Proofs.YtinoomcboinokaaGreat
open Go Go.RowKit Num

/-- The numbers below k that pass, ascending. -/
def pickL (d : Nat → Bool) (k : Nat) : List Int := ((List.range k).filter d).map fun (x : Nat) => (x : Int)
theorem pickL_succ (d : Nat → Bool) (k : Nat) : pickL d (k + 1) = if d k = true then pickL d k ++ [(k : Int)] else pickL d k := by
  unfold pickL
  rw [List.range_succ, List.filter_append, List.map_append]
  by_cases h : d k = true
  · rw [if_pos h]; simp [h]
  · rw [if_neg h]; simp [h]
theorem pickL_len (d : Nat → Bool) (k : Nat) : (pickL d k).length ≤ k := by
  unfold pickL
  rw [List.length_map]
  exact Nat.le_trans (List.length_filter_le _ _) (by simp)
/-- The value of the characteristic polynomial is 0. -/
def isVal (p : Int) (m : Nat) (f : Nat → Nat → Int) (x : Nat) : Bool := decide (horV p x (m + 1) (polyF p f m) (m + 1) = 0)
def ValsP (w : World) (l : List Int) (e : Ending) (w' : World) : Prop := ∃ v, e = .returned (.tuple #[v, .int .i64 0]) ∧ Vec w' (New w w') v l.length (fun j => l.getD j 0) ∧ Below w.heap.size w w'
/-- Behind k numbers. -/
structure VsI (w w1 : World) (d : Nat → Bool) (k : Nat) (v : Value) (X : World) : Prop where
  own : OwnsI X w1.heap.size v (pickL d k)
  b : Below w1.heap.size w1 X
theorem VsI.next {w w1 X X2 X3 : World} {d : Nat → Bool} {k : Nat} {v v1 : Value} (h : VsI w w1 d k v X) (hb : Below X.heap.size X X2) (o : Obj) (hd : d k = true)
    (hown : X3.ownsRow w1.heap.size 3 1 v1 ((pickL d k).length + 1) (icells (pickL d k) ++ [.int .i64 (k : Int)])) (hg : (X2.alloc o).grownBy X3 v.ownBlock) : VsI w w1 d (k + 1) v1 X3 := by
  have hs := h.b.size
  have hs2 := hb.size
  refine ⟨?_, ?_⟩
  · unfold OwnsI
    rw [pickL_succ, if_pos hd, icells_append, List.length_append]
    exact hown
  · have h1 := (h.b.trans (hb.mono hs)).alloc (Nat.le_trans hs hs2) o
    exact h1.grown hg (by simp; omega) (fun q hq => (h.own.lt q hq).1)

theorem hbx_below {w1 w2 : World} {b : Nat} {t : TypeId} {cs : Array Value} (h : Row w1 b t cs) (hb : Below w1.heap.size w1 w2) : Row w2 b t cs := h.below hb h.lt
theorem _root_.Go.World.ownsRow.vecI {w : World} {B : Nat} {S : Nat → Prop} {v : Value} {l : List Int} (h : w.ownsRow B 3 1 v l.length (icells l)) (hS : ∀ g, v.ownBlock = some g → S g) : Vec w S v l.length (fun j => l.getD j 0) := OwnsI.vec h hS

set_option maxRecDepth 100000 in
set_option maxHeartbeats 4000000 in
theorem Values_ok (p : Int) (ra : Value) (m : Nat) (f : Nat → Nat → Int) (w : World) (ha : Grid w (· < w.heap.size) ra m (fun _ => m) f) (hx : chkM p m (fun _ => m) f = 0) :
    Calls Tryz.prog 8 #[.agg #[.int .i64 p, ra]] w (ValsP w (pickL (isVal p m f) p.toNat)) := by
  obtain ⟨hmod, hm0, hm1, _, _, _⟩ := chkM_zero hx
  obtain ⟨hp0, hp1, hp6⟩ := modB_true hmod
  obtain ⟨pn, rfl⟩ : ∃ pn : Nat, p = pn := ⟨p.toNat, by omega⟩
  rw [Int.toNat_natCast]
  obtain ⟨i0, hi, hz0, hz1, hz2⟩ := info_parts info3x
  obtain ⟨Aa, ca, rfl, -⟩ := ha.form
  have hbx := row_new (W := w) rfl 31 #[.int .i64 pn, .slice Aa m ca]
  have hB0 := (Below.refl w.heap.size w).alloc (Nat.le_refl _) (.cells #[.int .i64 pn, .slice Aa m ca] 31)
  have hz : (w.alloc (.cells #[.int .i64 pn, .slice Aa m ca] 31)).heap.size = w.heap.size + 1 := by simp
  have hchk : chkS (chkM pn m (fun _ => m) f) m m = 0 := by rw [hx]; simp [chkS]
  have HP := Lib.hid (Poly_any (.slice Aa m ca) m (fun _ => m) f pn (w.alloc (.cells #[.int .i64 pn, .slice Aa m ca] 31)) (by omega) (fun _ _ => by omega) ((ha.below (fun _ h => h) hB0).more fun b h => by omega) 0 hchk.symm)
  have HB := Lib.hid hB0
  have HBX := Lib.hid hbx
  have c0 : (w.alloc (.cells #[.int .i64 pn, .slice Aa m ca] 31)).cell? ⟨w.heap.size, 0, none⟩ = some (.int .i64 pn) := hbx.cell rfl
  have c1 : (w.alloc (.cells #[.int .i64 pn, .slice Aa m ca] 31)).cell? ⟨w.heap.size, 1, none⟩ = some (.slice Aa m ca) := hbx.cell rfl
  have hpin : InP (pn : Int) (m + 1) (polyF pn f m) := fun _ _ => ⟨Int.emod_nonneg _ (by omega), Int.emod_lt_of_pos _ (by omega)⟩
  obtain ⟨d, hd⟩ : ∃ d, isVal pn m f = d := ⟨_, rfl⟩
  have HD := Lib.hid (show ∀ x : Nat, (horV pn x (m + 1) (polyF pn f m) (m + 1) = 0 ↔ d x = true) from fun x => by rw [← hd]; simp [isVal])
  have HE := Lib.hid (show ∀ v w', Vec w' (New w w') v (pickL d pn).length (fun j => (pickL d pn).getD j 0) → Below w.heap.size w w' → ValsP w (pickL (isVal pn m f) pn) (.returned (.tuple #[v, .int .i64 0])) w' from fun v w' h1 h2 => by rw [hd]; exact ⟨v, rfl, h1, h2⟩)
  generalize ValsP w (pickL (isVal pn m f) pn) = PP at HE ⊢
  have HPI := Lib.hid hpin
  clear ha hbx hB0 hx hchk hd hpin
  go_enter Tryz.func8, Tryz.ntmps8
  go_wp2_with fail
  refine HP.out.mono ?_
  rintro e w1 ⟨hb1, -, h1⟩
  obtain ⟨r, rfl, hr⟩ := h1 rfl
  obtain ⟨Ar, cr, rfl, -⟩ := hr.form
  have hs1 := hb1.size
  have HR := Lib.hid (hr.more (S' := (· < w1.heap.size)) fun _ h => h.2)
  have HB1 := Lib.hid (HB.out.trans (hb1.mono HB.out.size))
  have HX1 := Lib.hid (hbx_below HBX.out hb1)
  have HRN := Lib.hid (show w.heap.size < w1.heap.size by omega)
  generalize polyF (pn : Int) f m = pf at HR HD HPI
  clear hb1 h1 hr HB HBX HP c0 c1
  have c0 : w1.cell? ⟨w.heap.size, 0, none⟩ = some (.int .i64 pn) := HX1.out.cell rfl
  have H0 := Lib.hid (show VsI w w1 d 0 (.slice none 0 0) w1 from ⟨World.ownsRow_nil _ _ _ _, Below.refl _ _⟩)
  go_wp2_with fail
  clear c0
  go_loopw [6, 18] (fun v i wr => ∃ k : Nat, i = .int .i64 k ∧ k ≤ pn ∧ Hid (VsI w w1 d k v wr)) (fun _ i _ => pn - (intOf i).toNat)
  case atStart => exact ⟨0, rfl, Nat.zero_le _, H0⟩
  case round =>
    obtain ⟨k, rfl, hk, HV⟩ := hrel
    obtain ⟨Av, cv, hv⟩ := owned_form HV.out.own
    subst hv
    by_cases hlt : k < pn
    · have c0 : wr.cell? ⟨w.heap.size, 0, none⟩ = some (.int .i64 pn) := (HV.out.b.cell (p := ⟨w.heap.size, 0, none⟩) HRN.out).trans (HX1.out.cell rfl)
      have d1 : (k : Int) < (pn : Int) := by omega
      go_wp2_with fail
      refine (value_any (.slice Ar (m + 1) cr) (m + 1) pf k pn wr (by omega) (by omega) hp0 (by omega) ⟨by omega, by omega⟩ HPI.out ((HR.out.below (fun _ h => h) HV.out.b).more fun _ h => Nat.lt_of_lt_of_le h HV.out.b.size)).mono ?_
      rintro e w2 ⟨rfl, hb2⟩
      have hdk := HD.out k
      have hH := horV_in (p := (pn : Int)) (by omega) k (m + 1) pf (m + 1)
      generalize horV (pn : Int) k (m + 1) pf (m + 1) = y at hdk hH
      have HB2 := Lib.hid hb2
      have hle := pickL_len d k
      have hsA := HV.out.b.size
      have hsB := HB2.out.size
      clear hb2 c0
      by_cases hy : y = 0
      · have hdt := hdk.1 hy
        subst hy
        clear hdk hH
        have HO2 := Lib.hid ((own_turn (S := fun _ => False) HV.out.own ⟨HB2.out.os, HB2.out.tape, HB2.out.output, HB2.out.size, fun q hq _ => HB2.out.block q hq⟩ (fun _ _ h => h)))
        go_wp2_with (at_builtin; refine wpList_append_own _ rfl (.tmp 27) (.tmp 29) 22 rfl w1.heap.size 3 i0 (.int .i64 0) 1 8 Tryz.underlying22 hi hz0 hz1 hz2 rfl (by decide) _ _ _ rfl (World.ownsRow.alloc HO2.out _) ⟨w2.heap.size, 0, none⟩ 1 1 [.int .i64 k] rfl rfl (cell_one_new _ _ _) (by simp [Value.oneCell']) (by unfold maxLen; omega) (by omega) (by simp; omega) ?_; intro v1 w3 hown hgrow _; obtain ⟨g8, c8, rfl⟩ := ownsRow_succ hown; have HNX := Lib.hid (HV.out.next HB2.out _ hdt hown hgrow); clear hown hgrow)
        go_wp2
        go_roundw
        case rel => exact ⟨k + 1, by go_num, by omega, HNX⟩
        case measure => simp [intOf]; omega
      · have hyb : (y == 0) = false := by simp [hy]
        have hnd : ¬ d k = true := fun h => hy (hdk.2 h)
        have HNX := Lib.hid (show VsI w w1 d (k + 1) (.slice Av (pickL d k).length cv) w2 from by
          refine ⟨?_, HV.out.b.trans (HB2.out.mono HV.out.b.size)⟩
          rw [pickL_succ, if_neg hnd]
          exact own_turn (S := fun _ => False) HV.out.own ⟨HB2.out.os, HB2.out.tape, HB2.out.output, HB2.out.size, fun q hq _ => HB2.out.block q hq⟩ (fun _ _ h => h))
        clear hdk hH hnd
        go_wp2
        go_roundw
        case rel => exact ⟨k + 1, by go_num, by omega, HNX⟩
        case measure => simp [intOf]; omega
    · obtain rfl : pn = k := by omega
      have HEE := Lib.hid (HE.out (.slice Av (pickL d pn).length cv) wr (HV.out.own.vecI fun g hg => ⟨by have := (HV.out.own.lt g hg).1; have := HRN.out; omega, (HV.out.own.lt g hg).2⟩) (HB1.out.trans (HV.out.b.mono HB1.out.size)))
      go_wp2
      exact HEE.out
end Go.Proofs.YtinoomcboinokaaGreat
