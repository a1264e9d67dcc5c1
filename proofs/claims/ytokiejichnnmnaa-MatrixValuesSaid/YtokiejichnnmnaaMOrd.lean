/- matrix.Order. -/
import Derived.Test.YtokiejichnnmnaaMPer
import Derived.Test.YtokiejichnnmnaaMDetD
import Derived.Deep.RegionHeld3
namespace Go.Proofs.Ytokiejichnnmnaa
open Go Go.RowKit Num

theorem perGo_le (p : Int) (m : Nat) (g : Nat → Nat → Int) (v : Nat → Int) : ∀ fuel k, perGo p m g v fuel k = 0 ∨ (k ≤ perGo p m g v fuel k ∧ perGo p m g v fuel k < k + fuel)
  | 0, _ => .inl rfl
  | fuel + 1, k => by
    unfold perGo
    split
    · exact .inr ⟨Nat.le_refl _, by omega⟩
    · rcases perGo_le p m g v fuel (k + 1) with h | h
      · exact .inl h
      · exact .inr ⟨by omega, by omega⟩
/-- The order, row by row; else 5. -/
def ordGo (p : Int) (m : Nat) : Nat → Nat → Nat → (Nat → Nat → Int) → Nat × Int
  | 0, _, n, _ => (n, 0)
  | fuel + 1, i, n, f => if perGo p m f (oneF i) (10000 / n) 1 = 0 then (0, 5) else ordGo p m fuel (i + 1) (n * perGo p m f (oneF i) (10000 / n) 1) (powF p m (perGo p m f (oneF i) (10000 / n) 1) f)
def ordV (p : Int) (m : Nat) (f : Nat → Nat → Int) (x : Int) : Nat × Int := if x ≠ 0 then (0, x) else if detV p m f = 0 then (0, 15) else ordGo p m m 0 1 f
/-- What Order gives. -/
def OrdP (w : World) (x : Nat × Int) (e : Ending) (w' : World) : Prop := e = .returned (.tuple #[.int .i64 x.1, .int .i64 x.2]) ∧ Below w.heap.size w w'
theorem oneF_in {p : Int} {m : Nat} (hp : 2 ≤ p) : InG p m m oneF := fun i _ j _ => by unfold oneF; split <;> omega
theorem powF_in {p : Int} {m : Nat} {f : Nat → Nat → Int} (hp : 2 ≤ p) (n : Nat) : InG p m m (powF p m n f) := by
  have key : ∀ k r s n, InG p m m r → InG p m m (pwGo p m k r s n) := by
    intro k
    induction k with
    | zero => intro r s n h; exact h
    | succ k ih =>
      intro r s n h
      unfold pwGo
      have h2 : InG p m m (if n % 2 = 1 then mulF p m r s else r) := by split; exact mulF_in (by omega) _ _ _ _ _; exact h
      split
      · exact h2
      · exact ih _ _ _ h2
  exact key _ _ _ _ (oneF_in hp)

set_option maxRecDepth 100000 in
set_option maxHeartbeats 4000000 in
theorem Order_any (ra : Value) (m : Nat) (n : Nat → Nat) (f : Nat → Nat → Int) (p : Int) (w : World) (hm : m ≤ 1000000) (hn : ∀ i, i < m → n i ≤ 1000000) (ha : Grid w (· < w.heap.size) ra m n f) (x : Int) (hx : x = chkS (chkM p m n f) m (n 0)) :
    Calls Try.prog 56 #[.agg #[.int .i64 p, ra]] w (OrdP w (ordV p m f x)) := by
  have HC := fun W h => Lib.hid (checkSquare_any ra m n f p W hm hn h)
  rw [← hx] at HC
  have HA := Lib.hid ha
  obtain ⟨A, c, rfl, hcm⟩ := ha.form
  have hbx := row_new (W := w) rfl 61 #[.int .i64 p, .slice A m c]
  have hB1 : Below w.heap.size w (w.alloc (.cells #[.int .i64 p, .slice A m c] 61)) := (Below.refl _ _).alloc (Nat.le_refl _) _
  have HBX := Lib.hid hbx
  have HB1 := Lib.hid hB1
  by_cases hx0 : x = 0
  · subst hx0
    obtain ⟨h1, h2⟩ := chkS_zero hx.symm
    obtain ⟨hmod, g1, g2, g3, g4, g5⟩ := chkM_zero h1
    obtain ⟨hp2, hp4, hp6⟩ := modB_true hmod
    have hIN : InG p m m f := fun i hi => by have := (g5 i hi).2; rw [(g5 i hi).1, ← h2] at this; exact this
    have HIN := Lib.hid hIN
    have HD := fun W h => Lib.hid (det_any (.slice A m c) m f p W g1 (by omega) hp6 hp2 (by omega) h hIN)
    have HA2 := Lib.hid (grid_reg HA.out (fun i hi => ((g5 i hi).1).trans h2.symm))
    have hp10 : p ≤ 10000 := by omega
    have hm64 : m ≤ 64 := by omega
    have HO := fun W => Lib.hid (one_any m p W (by omega))
    have HV : Hid (ordV p m f 0 = if detV p m f = 0 then (0, 15) else ordGo p m m 0 1 f) := Lib.hid rfl
    by_cases hdv : detV p m f = 0
    · have HV2 := Lib.hid (HV.out.trans (if_pos hdv))
      rw [HV2.out]
      rw [hdv] at HD
      clear ha hn g5 hmod hbx hB1 h1 hx h2 hIN hdv HV HV2
      go_enter Try.func56, Try.ntmps56
      go_wp2_with fail
      refine (HC _ (HA.out.on HB1.out)).out.mono ?_
      rintro e w4 ⟨rfl, hb4⟩
      have HB4 := Lib.hid (HB1.out.trans (hb4.mono HB1.out.size))
      have hr := HBX.out.below hb4 HBX.out.lt
      have c0 := hr.cell (i := 0) rfl
      have c1 := hr.cell (i := 1) rfl
      clear hb4 hr
      go_wp2_with fail
      refine (HD _ (HA2.out.on HB4.out)).out.mono ?_
      rintro e w5 ⟨rfl, hb5⟩
      have HB5 := Lib.hid (HB4.out.trans (hb5.mono HB4.out.size))
      clear hb5
      go_wp2
      go_ret2
      exact ⟨rfl, HB5.out⟩
    · have HV2 := Lib.hid (HV.out.trans (if_neg hdv))
      rw [HV2.out]
      have hdd : (detV p m f == 0) = false := by simpa using hdv
      generalize detV p m f = dv at HD hdd
      have hfld := run_rows
      clear ha hn g5 hmod hbx hB1 h1 hx h2 hIN hdv HV HV2
      go_enter Try.func56, Try.ntmps56
      go_wp2_with fail
      refine (HC _ (HA.out.on HB1.out)).out.mono ?_
      rintro e w4 ⟨rfl, hb4⟩
      have HB4 := Lib.hid (HB1.out.trans (hb4.mono HB1.out.size))
      have HR4 := Lib.hid (HBX.out.below hb4 HBX.out.lt)
      have c0 := HR4.out.cell (i := 0) rfl
      have c1 := HR4.out.cell (i := 1) rfl
      clear hb4
      go_wp2_with fail
      refine (HD _ (HA2.out.on HB4.out)).out.mono ?_
      rintro e w5 ⟨rfl, hb5⟩
      have HB5 := Lib.hid (HB4.out.trans (hb5.mono HB4.out.size))
      have HR5 := Lib.hid (HR4.out.below hb5 HR4.out.lt)
      have c2 := HR5.out.cell (i := 0) rfl
      have c3 := HR5.out.cell (i := 1) rfl
      clear hb5 c0 c1
      go_wp2_with fail
      refine (HO _).out.mono ?_
      rintro e w6 ⟨r, rfl, hg6, hb6⟩
      obtain ⟨A6, c6, rfl, -⟩ := hg6.form
      have HB6 := Lib.hid (HB5.out.trans (hb6.mono HB5.out.size))
      have HR6 := Lib.hid (HR5.out.below hb6 HR5.out.lt)
      have HG6 := Lib.hid (show Grid w6 (fun b => w.heap.size < b ∧ b < w6.heap.size) (.slice A6 m c6) m (fun _ => m) oneF from hg6.more fun b h => ⟨by have := h.1; have := HR5.out.lt; omega, h.2⟩)
      have HAG := Lib.hid (show Grid w6 (fun b => b < w6.heap.size ∧ b ≠ w.heap.size) (.slice A m c) m (fun _ => m) f from (HA2.out.below (fun b h => h) HB6.out).more fun b h => ⟨by have := HB6.out.size; have h' : b < w.heap.size := h; omega, by have h' : b < w.heap.size := h; omega⟩)
      clear hb6 hg6 c2 c3
      go_wp2_with fail
      go_loopw [5, 25] (fun t5 t25 wr => ∃ (nn i : Nat) (A1 : Option Addr) (c1 : Nat) (F : Nat → Nat → Int), t5 = .int .i64 nn ∧ t25 = .int .i64 i ∧ i ≤ m ∧ 1 ≤ nn ∧ nn ≤ 10000 ∧ Hid (Below w.heap.size w wr) ∧ Hid (Row wr w.heap.size 61 #[.int .i64 p, .slice A1 m c1]) ∧
        Hid (Grid wr (fun b => w.heap.size < b ∧ b < wr.heap.size) (.slice A6 m c6) m (fun _ => m) oneF) ∧ Hid (Grid wr (fun b => b < wr.heap.size ∧ b ≠ w.heap.size) (.slice A1 m c1) m (fun _ => m) F) ∧ Hid (InG p m m F) ∧ Hid (ordGo p m (m - i) i nn F = ordGo p m m 0 1 f)) (fun _ t _ => m - (intOf t).toNat)
      case atStart => exact ⟨1, 0, A, c, f, rfl, rfl, Nat.zero_le _, Nat.le_refl _, by omega, HB6, HR6, HG6, HAG, HIN, Lib.hid rfl⟩
      case round =>
        obtain ⟨nn, i, A1, c1, F, rfl, rfl, hi, hn1, hn2, HB, HR, HG, HAF, HIF, HE⟩ := hrel
        clear HB4 HR4 HB5 HR5 HB6 HR6 HG6 HAG HD HC HA2 HIN HBX HB1
        by_cases hlt : i < m
        · have d1 : decide (i < m) = true := decide_eq_true hlt
          have d2 : (0 : Int) ≤ i := by omega
          have d3 : (i : Int) < (m : Int) := by omega
          obtain ⟨A', c', e, hc', h⟩ := HG.out
          cases e
          obtain ⟨b1, o1, rfl, hb1, hcc⟩ := h (by omega)
          obtain ⟨r, hr1, hr2⟩ := hcc i hlt
          obtain ⟨Ar, cr, rfl, -⟩ := hr2.form
          have HV1 := Lib.hid (hr2.more (S' := (· < wr.heap.size)) fun b h => h.2)
          obtain ⟨q, hq⟩ : ∃ q, 10000 / nn = q := ⟨_, rfl⟩
          have hq1 : q ≤ 10000 := by rw [← hq]; exact Nat.div_le_self _ _
          have hqn : q * nn ≤ 10000 := by rw [← hq]; exact Nat.div_mul_le_self _ _
          have hqw : IntKind.i64.wrap (Int.tdiv 10000 (nn : Int)) = (q : Int) := by
            rw [show Int.tdiv (10000 : Int) (nn : Int) = ((10000 / nn : Nat) : Int) from rfl, hq]; exact IntWalk.i64_in _ ⟨by omega, by omega⟩
          have hne : ((nn : Int) != 0) = true := by simp; omega
          have hn0 : ¬ nn = 0 := by omega
          have HPER := Lib.hid (fun W (hb : Below wr.heap.size wr W) => period_any (.slice Ar m cr) (.slice A1 m c1) m q (oneF i) F p W g1 (by omega) (by omega) (HV1.out.on hb) ((HAF.out.more (S' := (· < wr.heap.size)) fun b h => h.1).on hb) hp2 hp10 (oneF_in hp2 i hlt) HIF.out)
          have HST := Lib.hid (show ordGo p m m 0 1 f = if perGo p m F (oneF i) q 1 = 0 then (0, 5) else ordGo p m (m - (i + 1)) (i + 1) (nn * perGo p m F (oneF i) q 1) (powF p m (perGo p m F (oneF i) q 1) F) by
            rw [← HE.out, show m - i = (m - (i + 1)) + 1 by omega, ordGo, hq])
          have hle := perGo_le p m F (oneF i) q 1
          generalize perGo p m F (oneF i) q 1 = k at HPER HST hle
          have c0 := HR.out.cell (i := 0) rfl
          have c2 := HR.out.cell (i := 1) rfl
          have HKB := Lib.hid (fun (W : World) (hb : Below wr.heap.size wr W) => (show W.cell? ⟨w.heap.size, 0, none⟩ = some (.int .i64 p) ∧ W.cell? ⟨w.heap.size, 1, none⟩ = some (.slice A1 m c1) from ⟨(HR.out.below hb HR.out.lt).cell rfl, (HR.out.below hb HR.out.lt).cell rfl⟩))
          have HDR := Lib.hid (below_drew (Below.refl wr.heap.size wr))
          have HTA := Lib.hid (fun (W : World) (h : Below wr.drew.heap.size wr.drew W) => (show Below wr.heap.size wr W from HDR.out.trans h))
          clear h hb1 hcc hr2 hq hc'
          go_wp2_with fail
          go_region_held3 (fun W => W.cell? ⟨w.heap.size, 0, none⟩ = some (.int .i64 p) ∧ W.cell? ⟨w.heap.size, 1, none⟩ = some (.slice A1 m c1))
            ((first | assumption | (with_reducible exact HKB.out _ HDR.out)))
            ((go_at_call 122; (with_reducible refine (HPER.out _ HDR.out).mono ?_); rintro e w7 ⟨rfl, hb7⟩; (with_reducible have hbw := HTA.out _ hb7); have hk7 := HKB.out _ hbw))
          have hsz7 := hbw.size
          have HB7 := Lib.hid (HB.out.trans (hbw.mono HB.out.size))
          have HR7 := Lib.hid (HR.out.below hbw HR.out.lt)
          have HG7 := Lib.hid ((HG.out.below (fun b h => h.2) hbw).more (S' := fun b => w.heap.size < b ∧ b < w7.heap.size) (fun b h => ⟨h.1, by have := h.2; omega⟩))
          have HA7 := Lib.hid ((HAF.out.below (fun b h => h.1) hbw).more (S' := (· < w7.heap.size)) (fun b h => by have := h.1; show b < w7.heap.size; omega))
          clear hb7 hbw hk7 c0 c2 HKB HTA HDR HPER HAF HG HR HB HV1 hr1 HE hqw
          by_cases hk0 : k = 0
          · subst hk0
            have HF := Lib.hid (HST.out.trans (if_pos rfl))
            go_wp2_with fail
            go_ret2
            exact ⟨by rw [HF.out]; rfl, HB7.out⟩
          · have hkk : ((k : Int) == 0) = false := by simp; omega
            have HF := Lib.hid (HST.out.trans (if_neg hk0))
            have hkq : k ≤ q := by omega
            have hnk : nn * k ≤ 10000 := Nat.le_trans (Nat.mul_le_mul_left nn hkq) (by rw [Nat.mul_comm]; exact hqn)
            have hnk1 : 1 ≤ nn * k := Nat.mul_pos (by omega) (by omega)
            have hmw : IntKind.i64.wrap ((nn : Int) * (k : Int)) = ((nn * k : Nat) : Int) := by
              rw [← Int.natCast_mul]; exact IntWalk.i64_in _ ⟨by omega, by omega⟩
            have hcv : IntKind.u64.wrap (k : Int) = (k : Int) := by rw [IntKind.wrap_u64]; omega
            generalize nn * k = n2 at HF hnk hnk1 hmw
            have c0 := HR7.out.cell (i := 0) rfl
            have c2 := HR7.out.cell (i := 1) rfl
            have HPW := Lib.hid (mpower_any (.slice A1 m c1) m k F p w7 g1 hm64 hp2 hp10 (by omega) HIF.out HA7.out)
            have HIP := Lib.hid (powF_in (p := p) (m := m) (f := F) hp2 k)
            generalize powF p m k F = F2 at HF HPW HIP
            clear HST hle hqn hkq hk0 hsz7 HA7
            go_wp2_with fail
            refine HPW.out.mono ?_
            rintro e w8 ⟨r8, rfl, hg8, hb8⟩
            obtain ⟨A8, c8, rfl, -⟩ := hg8.form
            have hsz8 := hb8.size
            have hlt7 := HR7.out.lt
            have j := HR7.out.below hb8 hlt7
            have e0 := j.cell (i := 0) rfl
            have e1 := j.cell (i := 1) rfl
            have f0 := j.frozen 0
            have j1 := j.set 0 (.int .i64 p)
            have f1 := j1.frozen 1
            have e2 := j1.cell (i := 1) rfl
            have HRX := Lib.hid (Row.row_set j (.int .i64 p) (.slice A8 m c8))
            have HBX2 := Lib.hid (((HB7.out.trans (hb8.mono HB7.out.size)).setCell (p := ⟨w.heap.size, 0, none⟩) (Nat.le_refl _) (.int .i64 p)).setCell (p := ⟨w.heap.size, 1, none⟩) (Nat.le_refl _) (.slice A8 m c8))
            have hzs : ((w8.setCell ⟨w.heap.size, 0, none⟩ (.int .i64 p)).setCell ⟨w.heap.size, 1, none⟩ (.slice A8 m c8)).heap.size = w8.heap.size := by simp only [World.size_setCell]
            have HGX := Lib.hid (((((HG7.out.below (fun b h => h.2) hb8).set (p := ⟨w.heap.size, 0, none⟩) (fun h => Nat.lt_irrefl _ h.1) (.int .i64 p)).set (p := ⟨w.heap.size, 1, none⟩) (fun h => Nat.lt_irrefl _ h.1) (.slice A8 m c8)).more (S' := fun b => w.heap.size < b ∧ b < ((w8.setCell ⟨w.heap.size, 0, none⟩ (.int .i64 p)).setCell ⟨w.heap.size, 1, none⟩ (.slice A8 m c8)).heap.size) (fun b h => ⟨h.1, by have := h.2; omega⟩)))
            have HAX := Lib.hid (((hg8.set (p := ⟨w.heap.size, 0, none⟩) (fun h => by have h1 : w7.heap.size ≤ w.heap.size := h.1; omega) (.int .i64 p)).set (p := ⟨w.heap.size, 1, none⟩) (fun h => by have h1 : w7.heap.size ≤ w.heap.size := h.1; omega) (.slice A8 m c8)).more (S' := fun b => b < ((w8.setCell ⟨w.heap.size, 0, none⟩ (.int .i64 p)).setCell ⟨w.heap.size, 1, none⟩ (.slice A8 m c8)).heap.size ∧ b ≠ w.heap.size) (fun b h => ⟨by have := h.2; omega, by have := h.1; omega⟩))
            clear hg8 hb8 j j1 c0 c2 hzs
            go_wp2_with fail
            go_roundw
            case rel => exact ⟨n2, i + 1, A8, c8, F2, rfl, by go_num, by omega, hnk1, hnk, HBX2, HRX, HGX, HAX, HIP, Lib.hid HF.out.symm⟩
            case measure => simp [intOf]; omega
        · have him : i = m := by omega
          subst him
          have HZ := Lib.hid (show ordGo p i i 0 1 f = (nn, 0) from HE.out.symm.trans (by rw [Nat.sub_self, ordGo]))
          have d1 : decide (i < i) = false := decide_eq_false (by omega)
          go_wp2_with fail
          go_ret2
          exact ⟨by rw [HZ.out]; rfl, HB.out⟩
  · have hd2 : (x != 0) = true := by simpa using hx0
    rw [show ordV p m f x = (0, x) from if_pos hx0]
    clear ha hn hbx hB1 hx hx0
    go_enter Try.func56, Try.ntmps56
    go_wp2_with fail
    refine (HC _ (HA.out.on HB1.out)).out.mono ?_
    rintro e w4 ⟨rfl, hb4⟩
    have HB4 := Lib.hid (HB1.out.trans (hb4.mono HB1.out.size))
    clear hb4
    go_wp2
    go_ret2
    exact ⟨rfl, HB4.out⟩
end Go.Proofs.Ytokiejichnnmnaa
