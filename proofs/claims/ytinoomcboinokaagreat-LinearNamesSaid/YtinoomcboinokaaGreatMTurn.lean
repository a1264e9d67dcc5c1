/- matrix.column, matrix.Turn. -/
import Derived.Test.YtinoomcboinokaaGreatMScale
namespace Go.Proofs.YtinoomcboinokaaGreat
open Go Go.RowKit Num

set_option maxRecDepth 100000 in
set_option maxHeartbeats 1000000 in
theorem column_any (ra : Value) (m n j : Nat) (f : Nat → Nat → Int) (p : Int) (w : World) (hm : m ≤ 1000) (hj : j < n) (hn : n ≤ 1000) (ha : Grid w (· < w.heap.size) ra m (fun _ => n) f) :
    Calls Tryz.prog 75 #[.agg #[.int .i64 p, ra], .int .i64 j] w (GivesV w m (fun i => f i j)) := by
  have hmk := fun W => make_ints m (by omega) W
  have HA := Lib.hid ha
  obtain ⟨A, c, rfl, hcm⟩ := ha.form
  have hr := row_new (W := w) rfl 31 #[.int .i64 p, .slice A m c]
  have hb := (Below.refl w.heap.size w).alloc (Nat.le_refl _) (.cells #[.int .i64 p, .slice A m c] 31)
  have hs : (w.alloc (.cells #[.int .i64 p, .slice A m c] 31)).heap.size = w.heap.size + 1 := by simp
  clear ha
  go_enter Tryz.func75, Tryz.ntmps75
  go_wp2
  generalize w.alloc (.cells #[.int .i64 p, .slice A m c] 31) = w1 at hr hb hs
  have HR := Lib.hid hr
  have HB := Lib.hid hb
  have H0 := Lib.hid (Fill.start w1 3 m (iv fun i => f i j) (.int .i64 0))
  clear hr hb
  go_loopw [15] (fun i wr => ∃ t : Nat, i = .int .i64 t ∧ Fill w1 3 m (iv fun i => f i j) (.int .i64 0) t wr) (fun i _ => m - (intOf i).toNat)
  case atStart => exact ⟨0, rfl, H0.out⟩
  case round =>
    obtain ⟨t, rfl, hA⟩ := hrel
    have ht := hA.1
    have hB := hA.2.2
    have hBw := HB.out.trans (hB.mono HB.out.size)
    by_cases hlt : t < m
    · obtain ⟨bg, og, cg', RA, RC, e, hcg', hbg, hgc⟩ := HA.out.at_ (by omega)
      cases e
      obtain ⟨h1, h2⟩ := hgc t hlt
      obtain ⟨b, o, c2, e, hc2, hbb, hcc⟩ := h2.at_ (by omega)
      rw [e] at h1
      have hak : wr.cell? ⟨bg, og + t, none⟩ = some (.slice (some ⟨b, o, none⟩) n c2) := (hBw.cell (p := ⟨bg, og + t, none⟩) hbg).trans h1
      have hx : wr.cell? ⟨b, o + j, none⟩ = some (.int .i64 (f t j)) := (hBw.cell (p := ⟨b, o + j, none⟩) hbb).trans (hcc j hj)
      have hS := Lib.hid (hA.step hlt)
      have hct := hA.2.1.cell (CTab_get m (part t (iv fun i => f i j) (.int .i64 0)) t hlt)
      have hft := hA.2.1.frozen t
      generalize part t (iv fun i => f i j) (.int .i64 0) t = u0 at hct
      change Hid (Fill w1 3 m (iv fun i => f i j) (.int .i64 0) (t + 1) (wr.setCell ⟨w1.heap.size, t, none⟩ (.int .i64 (f t j)))) at hS
      generalize f t j = z at hx hS
      rw [hs] at hct hft hS
      clear hA hB hBw h1 h2 hgc hcc e
      go_wp2
      go_roundw
      case rel => exact ⟨t + 1, by go_num, hS.out⟩
      case measure => simp [intOf]; omega
    · have e : t = m := by omega
      subst e
      have HV := Lib.hid (show Vec wr (New w wr) (.slice (some ⟨w.heap.size + 1, 0, none⟩) t t) t (fun i => f i j) from Row.vec (by have := hA.2.1; rw [part_all, hs] at this; exact this) ⟨by omega, by have := hA.2.1.lt; omega⟩ (Nat.le_refl _))
      have HBr := Lib.hid hBw
      clear hA hB hBw
      go_wp2
      go_ret
      exact ⟨_, rfl, HV.out, HBr.out⟩

end Go.Proofs.YtinoomcboinokaaGreat