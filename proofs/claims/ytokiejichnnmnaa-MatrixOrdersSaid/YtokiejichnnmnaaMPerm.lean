/- matrix.Perm of a matrix that passes. -/
import Derived.Test.YtokiejichnnmnaaMVec
namespace Go.Proofs.Ytokiejichnnmnaa
open Go Go.RowKit Num

theorem digF_in {p n k : Nat} (hp : 0 < p) : InP (p : Int) n (digF p n k) := fun j _ => by
  unfold digF digN
  have := Nat.mod_lt (k / p ^ (n - 1 - j)) hp
  omega
/-- The image of the vector number k. -/
def permV (p m : Nat) (f : Nat → Nat → Int) (k : Nat) : Nat := numN p (fun j => (dotTo (digF p m k) f j m % (p : Int)).toNat) m
def permF (p m : Nat) (f : Nat → Nat → Int) (k : Nat) : Int := (permV p m f k : Nat)
/-- What Perm returns of a matrix that passes. -/
def PermP (p m : Nat) (f : Nat → Nat → Int) (w : World) (e : Ending) (w' : World) : Prop :=
  Below w.heap.size w w' ∧ (64 < p ^ m → e = .returned (.tuple #[.slice none 0 0, .int .i64 5])) ∧ (p ^ m ≤ 64 → detV p m f = 0 → e = .returned (.tuple #[.slice none 0 0, .int .i64 15])) ∧
  (p ^ m ≤ 64 → detV p m f ≠ 0 → ∃ r, e = .returned (.tuple #[r, .int .i64 0]) ∧ Vec w' (New w w') r (p ^ m) (permF p m f))
theorem Fill.on {w wr W : World} {t : TypeId} {n : Nat} {g : Nat → Value} {z : Value} {k : Nat} (h : Fill w t n g z k wr) (hb : Below wr.heap.size wr W) : Fill w t n g z k W :=
  ⟨h.1, h.2.1.below hb h.2.1.lt, h.2.2.trans (hb.mono h.2.2.size)⟩
theorem make_perm (n : Nat) (hn : n ≤ 5864062014800) (W : World) : (Instr.makeSlice 53 (.int .i64 (n : Int)) (.int .i64 (n : Int))).run Try.prog W = .ok (.slice (some ⟨W.heap.size, 0, none⟩) n n) (W.alloc (.cells (CTab n fun _ => .int .i64 0) 3)) := by
  obtain ⟨i0, hi, hz0, hz1, hz2⟩ := info_parts info3m
  have h := run_make (P := Try.prog) W 53 3 i0 (.int .i64 0) (by kernel_rfl) hi hz0 .i64 .i64 (n : Int) (n : Int) (by omega) (by omega) (by rw [hz2]; omega) (by omega)
  rw [h, hz1, Nat.mul_one, Int.toNat_natCast, madeCells_one _ rfl]

set_option maxRecDepth 100000 in
set_option maxHeartbeats 4000000 in
theorem Perm_ok (ra : Value) (p m : Nat) (f : Nat → Nat → Int) (w : World) (hs : Sized p m) (ha : Grid w (· < w.heap.size) ra m (fun _ => m) f) (hf : InG (p : Int) m m f) :
    Calls Try.prog 57 #[.agg #[.int .i64 p, ra]] w (PermP p m f w) := by
  have hm1 := hs.n1
  have hm2 := hs.n2
  have hp2 := hs.p2
  have hp4 : p ≤ 10000 := by have := (modB_true hs.hp).2.1; omega
  have HC := fun W h => Lib.hid (checkSquare_any ra m (fun _ => m) f p W (by omega) (fun _ _ => by omega) h)
  rw [← hs.chkS hf] at HC
  have HDT := fun W h => Lib.hid (det_any ra m f p W hm1 (by omega) (modB_true hs.hp).2.2 (by omega) (by omega) h hf)
  have HA := Lib.hid ha
  obtain ⟨A, c, rfl, hcm⟩ := ha.form
  have HX := Lib.hid (row_new (W := w) rfl 61 #[.int .i64 p, .slice A m c])
  have HXB := Lib.hid ((Below.refl w.heap.size w).alloc (Nat.le_refl _) (.cells #[.int .i64 p, .slice A m c] 61))
  have HPO := Lib.hid (show ∀ e w', PermP p m f w e w' → PermP p m f w e w' from fun _ _ h => h)
  generalize hPP : PermP p m f w = PP at HPO ⊢
  have hpp : ∀ i, i ≤ m → p ^ i ≤ p ^ m := fun i hi => Nat.pow_le_pow_right (by omega) hi
  have HPW := Lib.hid hpp
  clear ha hpp
  go_enter Try.func57, Try.ntmps57
  go_wp2_with fail
  refine (HC _ (HA.out.on HXB.out)).out.mono ?_
  rintro e w4 ⟨rfl, hb4⟩
  have HX4 := Lib.hid (HX.out.below hb4 HX.out.lt)
  have HB4 := Lib.hid (HXB.out.trans (hb4.mono HXB.out.size))
  have c0 := HX4.out.cell (i := 0) rfl
  have c1 := HX4.out.cell (i := 1) rfl
  clear hb4 HX HXB
  go_wp2_with fail
  go_loopw [5, 16] (fun t5 t16 wr => ∃ i : Nat, t16 = .int .i64 i ∧ i ≤ m ∧ t5 = .int .i64 ((p ^ i : Nat) : Int) ∧ p ^ i ≤ 64 ∧ wr = w4) (fun _ t16 _ => m - (intOf t16).toNat)
  case atStart => exact ⟨0, rfl, Nat.zero_le _, rfl, by simp, rfl⟩
  case round =>
    obtain ⟨i, rfl, hi, rfl, hpi, rfl⟩ := hrel
    by_cases him : i < m
    · have HQ := Lib.hid (HPW.out (i + 1) (by omega))
      have hs1 := Nat.pow_succ p i
      generalize p ^ i = u at hpi hs1 ⊢
      obtain ⟨q, hq⟩ : ∃ q, u * p = q := ⟨_, rfl⟩
      have hq2 : q ≤ 1000000 := by rw [← hq]; exact Nat.le_trans (Nat.mul_le_mul hpi hp4) (by omega)
      have HQ2 := Lib.hid (show p ^ (i + 1) = q from hs1.trans hq)
      have mz := wrap_mul hq (by omega)
      clear hq hs1
      have h0 : (0 : Int) ≤ i := by omega
      have h00 : (i : Int) < m := by omega
      by_cases hq64 : 64 < q
      · have hd : decide ((64 : Int) < (q : Int)) = true := decide_eq_true (by omega)
        have hdn : decide (64 < q) = true := decide_eq_true hq64
        have HE := Lib.hid (show PermP p m f w (.returned (.tuple #[.slice none 0 0, .int .i64 5])) wr from
          ⟨HB4.out, fun _ => rfl, fun h => by have := HQ.out; rw [HQ2.out] at this; omega, fun h => by have := HQ.out; rw [HQ2.out] at this; omega⟩)
        rw [hPP] at HE
        go_wp2
        exact HE.out
      · have hd : decide ((64 : Int) < (q : Int)) = false := decide_eq_false (by omega)
        have hdn : decide (64 < q) = false := decide_eq_false hq64
        go_wp2
        go_roundw
        case rel => exact ⟨i + 1, by go_num, by omega, by rw [HQ2.out], by rw [HQ2.out]; omega, trivial⟩
        case measure => simp [intOf]; omega
    · have e : i = m := by omega
      subst e
      generalize hQ : p ^ i = Q at hpi ⊢
      have HQ := Lib.hid hQ
      clear HPW hQ
      go_wp2_with fail
      refine (HDT _ (HA.out.on HB4.out)).out.mono ?_
      rintro e w5 ⟨rfl, hb5⟩
      have HX5 := Lib.hid (HX4.out.below hb5 HX4.out.lt)
      have HB5 := Lib.hid (HB4.out.trans (hb5.mono HB4.out.size))
      have hbn : 0 ≤ detV p i f := (detV_in hs.p1 hs.inv (Nat.le_refl i) hf).1
      clear hb5 c0 c1 HX4 HB4 HDT HC
      by_cases hd0 : detV p i f = 0
      · have HE := Lib.hid (show PermP p i f w (.returned (.tuple #[.slice none 0 0, .int .i64 15])) w5 from
          ⟨HB5.out, (fun h => by rw [HQ.out] at h; omega), (fun _ _ => rfl), fun _ h => absurd hd0 h⟩)
        rw [hPP] at HE
        rw [hd0]
        go_wp2
        exact HE.out
      · have hd1 : (detV p i f == 0) = false := by simpa using hd0
        have HD0 := Lib.hid hd0
        clear hd0
        generalize detV p i f = dd at hd1 hbn ⊢
        have hmk := fun W => make_perm Q (by omega) W
        have HF0 := Lib.hid (Fill.start w5 3 Q (iv (permF p i f)) (.int .i64 0))
        have HFP := Lib.hid (show ∀ k, iv (permF p i f) k = .int .i64 ((numN p (fun j => (dotTo (digF p i k) f j i % (p : Int)).toNat) i : Nat) : Int) from fun _ => rfl)
        go_wp2_with fail
        clear hmk
        go_loopw [32] (fun t32 wr => ∃ k : Nat, t32 = .int .i64 k ∧ Fill w5 3 Q (iv (permF p i f)) (.int .i64 0) k wr) (fun t32 _ => Q - (intOf t32).toNat)
        case atStart => exact ⟨0, rfl, HF0.out⟩
        case round =>
          obtain ⟨k, rfl, hF⟩ := hrel
          have hkQ := hF.1
          by_cases hlt : k < Q
          · have hd3 : decide (k < Q) = true := decide_eq_true hlt
            have h0 : (0 : Int) ≤ k := by omega
            have h00 : (k : Int) < (Q : Int) := by omega
            have HFl := Lib.hid hF
            have hXr := HX5.out.below (hF.2.2) HX5.out.lt
            have c0 := hXr.cell (i := 0) rfl
            have c1 := hXr.cell (i := 1) rfl
            have HBr := Lib.hid (HB5.out.trans (hF.2.2.mono HB5.out.size))
            have hiv := HFP.out k
            have HVEC := fun W => Lib.hid (vector_any k i p W (by omega) hp2 hp4 (by omega))
            have HKB := Lib.hid (fun (W : World) (hb : Below wr.heap.size wr W) => (show W.cell? ⟨w.heap.size, 0, none⟩ = some (.int .i64 p) ∧ W.cell? ⟨w.heap.size, 1, none⟩ = some (.slice A i c) from ⟨(hXr.below hb hXr.lt).cell rfl, (hXr.below hb hXr.lt).cell rfl⟩))
            have HDR := Lib.hid (below_drew (Below.refl wr.heap.size wr))
            have HTA := Lib.hid (fun (W : World) (h : Below wr.drew.heap.size wr.drew W) => (show Below wr.heap.size wr W from HDR.out.trans h))
            have HAPP := Lib.hid (fun (W V : World) (r : Value) (hb : Below wr.heap.size wr W) (hv : Vec W (New V W) r i (digF p i k)) =>
              apply_any r (.slice A i c) i i (digF p i k) f p W hm1 (by omega) (by omega) hv.new_lt (HA.out.on (HBr.out.trans (hb.mono HBr.out.size))) (by omega) (by omega) (digF_in (by omega)) hf)
            have HNUM := Lib.hid (fun (W V : World) (r : Value) (hv : Vec W (New V W) r i (fun j => dotTo (digF p i k) f j i % (p : Int))) =>
              number_any r i p (fun j => dotTo (digF p i k) f j i % (p : Int)) W _ (by omega) hp4 hv (mod_in (by omega) _ _) (by rw [HQ.out]; omega))
            have HFO := Lib.hid (fun (W : World) (hb : Below wr.heap.size wr W) => (show W.cell? ⟨w5.heap.size, k, none⟩ = some (.int .i64 0) ∧ W.frozen? ⟨w5.heap.size, k, none⟩ = false from
              ⟨(HFl.out.on hb).2.1.cell ((CTab_get _ _ k hlt).trans (by unfold part; rw [if_neg (by omega)])), (HFl.out.on hb).2.1.frozen k⟩))
            have hne5 : w5.heap.size ≠ w.heap.size := by have := HX5.out.lt; omega
            have HKS := Lib.hid (fun (W : World) (u : Value) (h : W.cell? ⟨w.heap.size, 0, none⟩ = some (.int .i64 p) ∧ W.cell? ⟨w.heap.size, 1, none⟩ = some (.slice A i c)) => (show (W.setCell ⟨w5.heap.size, k, none⟩ u).cell? ⟨w.heap.size, 0, none⟩ = some (.int .i64 p) ∧ (W.setCell ⟨w5.heap.size, k, none⟩ u).cell? ⟨w.heap.size, 1, none⟩ = some (.slice A i c) from
              ⟨(World.cell?_setCell_far _ _ _ _ hne5).trans h.1, (World.cell?_setCell_far _ _ _ _ hne5).trans h.2⟩))
            have HTB := Lib.hid (fun (W W' : World) (h : Below wr.heap.size wr W) (h' : Below W.heap.size W W') => (show Below wr.heap.size wr W' from h.trans (h'.mono h.size)))
            clear hF hXr
            generalize numN p (fun j => (dotTo (digF p i k) f j i % (p : Int)).toNat) i = val at hiv HNUM
            go_wp2_with fail
            go_region_held3 (fun W => W.cell? ⟨w.heap.size, 0, none⟩ = some (.int .i64 p) ∧ W.cell? ⟨w.heap.size, 1, none⟩ = some (.slice A i c))
              ((first | assumption | (with_reducible exact HKB.out _ HDR.out) | (with_reducible exact HKS.out _ _ (by assumption))))
              ((first
                | (go_at_call 124; (with_reducible refine (HVEC _).out.mono ?_); rintro e w7 ⟨r7, rfl, hv7, hb7⟩; (with_reducible have hbw7 := HTA.out _ hb7); have hk7 := HKB.out _ hbw7; obtain ⟨A7, c7, rfl, -⟩ := hv7.form)
                | (go_at_call 111; (with_reducible refine (HAPP.out _ _ _ hbw7 hv7).mono ?_); rintro e w8 ⟨r8, rfl, hv8, hb8⟩; (with_reducible have hbw8 := HTB.out _ _ hbw7 hb8); have hk8 := HKB.out _ hbw8; obtain ⟨A8, c8, rfl, -⟩ := hv8.form; obtain ⟨hgc, hgf⟩ := HFO.out _ hbw8)
                | (go_at_call 123; (with_reducible refine (HNUM.out _ _ _ hv8).mono ?_); rintro e w9 ⟨rfl, rfl⟩)))
            have HN := Lib.hid (show Fill w5 3 Q (iv (permF p i f)) (.int .i64 0) (k + 1) (w9.setCell ⟨w5.heap.size, k, none⟩ (.int .i64 val)) from by rw [← hiv]; exact (HFl.out.on hbw8).step hlt)
            clear hv7 hb7 hv8 hb8 hbw7 hbw8 hk7 hk8
            go_wp2
            go_roundw
            case rel => exact ⟨k + 1, by go_num, HN.out⟩
            case measure => simp [intOf]; omega
          · have e : k = Q := by omega
            subst e
            have hd3 : decide (k < k) = false := decide_eq_false (by omega)
            have HE := Lib.hid (show PermP p i f w (.returned (.tuple #[.slice (some ⟨w5.heap.size, 0, none⟩) k k, .int .i64 0])) wr from
              ⟨HB5.out.trans (hF.2.2.mono HB5.out.size), (fun h => by rw [HQ.out] at h; omega), (fun _ h => absurd h HD0.out), fun _ _ => ⟨_, rfl, by
                rw [HQ.out]
                have hr := hF.2.1
                rw [part_all] at hr
                exact hr.vec ⟨HB5.out.size, hr.lt⟩ (Nat.le_refl _)⟩⟩)
            rw [hPP] at HE
            go_wp2
            exact HE.out
end Go.Proofs.Ytokiejichnnmnaa
