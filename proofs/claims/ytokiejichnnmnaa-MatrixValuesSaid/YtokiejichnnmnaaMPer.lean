/- matrix.period. -/
import Derived.Test.YtokiejichnnmnaaMEqual
namespace Go.Proofs.Ytokiejichnnmnaa
open Go Go.RowKit Num

def itV (p : Int) (m : Nat) (g : Nat → Nat → Int) (v : Nat → Int) : Nat → (Nat → Int)
  | 0 => v
  | k + 1 => fun j => dotTo (itV p m g v k) g j m % p
def perGo (p : Int) (m : Nat) (g : Nat → Nat → Int) (v : Nat → Int) : Nat → Nat → Nat
  | 0, _ => 0
  | fuel + 1, k => if eqB m (itV p m g v k) v then k else perGo p m g v fuel (k + 1)
theorem itV_in {p : Int} {m : Nat} {g : Nat → Nat → Int} {v : Nat → Int} (hp : 0 < p) (h : InP p m v) : ∀ k, InP p m (itV p m g v k)
  | 0 => h
  | _ + 1 => fun j _ => ⟨Int.emod_nonneg _ (by omega), Int.emod_lt_of_pos _ hp⟩

set_option maxRecDepth 100000 in
set_option maxHeartbeats 1000000 in
theorem period_any (v rows : Value) (m N : Nat) (f : Nat → Int) (g : Nat → Nat → Int) (p : Int) (w : World) (hm0 : 1 ≤ m) (hm : m ≤ 1000) (hN : N ≤ 1000000) (hv : Vec w (· < w.heap.size) v m f) (hg : Grid w (· < w.heap.size) rows m (fun _ => m) g)
    (hp0 : 2 ≤ p) (hp1 : p ≤ 10000) (hx : InP p m f) (hgi : InG p m m g) :
    Calls Try.prog 122 #[v, .agg #[.int .i64 p, rows], .int .i64 N] w fun e w' => e = .returned (.int .i64 (perGo p m g f N 1 : Nat)) ∧ Below w.heap.size w w' := by
  have HV := Lib.hid hv
  have HG := Lib.hid hg
  have HI := Lib.hid (itV_in (g := g) (show 0 < p by omega) hx)
  have HGI := Lib.hid hgi
  obtain ⟨A, c, rfl, hcA⟩ := hv.form
  obtain ⟨B, d, rfl, hcB⟩ := hg.form
  have HR0 := Lib.hid (row_new (W := w) rfl 61 #[.int .i64 p, .slice B m d])
  have HB0 := Lib.hid ((Below.refl w.heap.size w).alloc (Nat.le_refl _) (.cells #[.int .i64 p, .slice B m d] 61))
  clear hv hg hx hgi
  go_enter Try.func122, Try.ntmps122
  go_wp2
  go_loopw [7, 8] (fun t7 t8 wr => ∃ (k : Nat) (A1 : Option Addr) (c1 : Nat), t7 = .slice A1 m c1 ∧ t8 = .int .i64 (k + 1 : Nat) ∧ k ≤ N ∧ Hid (Below w.heap.size w wr) ∧ Hid (Row wr w.heap.size 61 #[.int .i64 p, .slice B m d]) ∧ Hid (Vec wr (· < wr.heap.size) (.slice A1 m c1) m (itV p m g f k)) ∧ Hid (perGo p m g f (N - k) (k + 1) = perGo p m g f N 1)) (fun _ t _ => N + 1 - (intOf t).toNat)
  case atStart => exact ⟨0, A, c, rfl, rfl, Nat.zero_le _, HB0, HR0, Lib.hid (HV.out.on ((Below.refl w.heap.size w).alloc (Nat.le_refl _) _)), Lib.hid rfl⟩
  case round =>
    obtain ⟨k, A1, c1, rfl, rfl, hk, HB, HR, HW, HP⟩ := hrel
    by_cases hlt : k < N
    · have d1 : decide (((k + 1 : Nat) : Int) ≤ (N : Int)) = true := decide_eq_true (by omega)
      have d2 : decide (k + 1 ≤ N) = true := decide_eq_true (by omega)
      have d3 : decide (k < N) = true := decide_eq_true (by omega)
      have c0 := HR.out.cell (i := 0) rfl
      have c2 := HR.out.cell (i := 1) rfl
      have HP1 := Lib.hid (HP.out.symm.trans (show perGo p m g f (N - k) (k + 1) = if eqB m (itV p m g f (k + 1)) f then k + 1 else perGo p m g f (N - (k + 1)) (k + 1 + 1) by
        rw [show N - k = (N - (k + 1)) + 1 by omega, perGo]))
      go_wp2_with fail
      refine (apply_any (.slice A1 m c1) (.slice B m d) m m (itV p m g f k) g p wr hm0 hm hm HW.out (HG.out.on HB.out) hp0 hp1 (HI.out k) HGI.out).mono ?_
      rintro e w2 ⟨r, rfl, hr, hb⟩
      obtain ⟨A2, c3, rfl, -⟩ := hr.form
      have HB2 := Lib.hid (HB.out.trans (hb.mono HB.out.size))
      have HR2 := Lib.hid (Row.below HR.out hb HR.out.lt)
      have HW2 := Lib.hid (show Vec w2 (· < w2.heap.size) (.slice A2 m c3) m (itV p m g f (k + 1)) from hr.more fun b h => h.2)
      have HEQ := Lib.hid (equal_any (.slice A2 m c3) (.slice A m c) m (itV p m g f (k + 1)) f w2 _ _ (by omega) HW2.out (HV.out.on HB2.out))
      clear hr hb c0 c2
      go_wp2_with fail
      refine HEQ.out.mono ?_
      rintro e w3 ⟨rfl, q, rfl⟩
      by_cases he : eqB m (itV p m g f (k + 1)) f = true
      · have HF := Lib.hid (HP1.out.trans (if_pos he))
        rw [he]
        go_wp2_with fail
        go_ret
        exact ⟨by rw [HF.out]; simp, below_drewN HB2.out q⟩
      · have he' : eqB m (itV p m g f (k + 1)) f = false := by simpa using he
        have HF := Lib.hid (HP1.out.trans (if_neg he))
        rw [he']
        clear he he'
        go_wp2_with fail
        go_roundw
        case rel => exact ⟨k + 1, A2, c3, rfl, by go_num, by omega, Lib.hid (below_drewN HB2.out q), Lib.hid (HR2.out.drewN q), Lib.hid (HW2.out.keep (fun b h => h) (fun p h => rfl) (fun j h => rfl)), Lib.hid HF.out.symm⟩
        case measure => simp [intOf]; omega
    · have hkN : k = N := by omega
      subst hkN
      have HZ := Lib.hid (show perGo p m g f k 1 = 0 from HP.out.symm.trans (by rw [Nat.sub_self, perGo]))
      have d1 : decide (((k + 1 : Nat) : Int) ≤ (k : Int)) = false := decide_eq_false (by omega)
      have d2 : decide (k + 1 ≤ k) = false := decide_eq_false (by omega)
      have d3 : decide (k < k) = false := decide_eq_false (by omega)
      go_wp2_with fail
      go_ret
      exact ⟨by rw [HZ.out]; rfl, HB.out⟩
end Go.Proofs.Ytokiejichnnmnaa
