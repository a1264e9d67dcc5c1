/- matrix.checkSquare, matrix.Mul. -/
import Derived.Test.YtokiejichnnmnaaMPair
namespace Go.Proofs.Ytokiejichnnmnaa
open Go Go.RowKit Num

/-- The error of a matrix that has to be square. -/
def chkS (x : Int) (m n : Nat) : Int := if x ≠ 0 then x else if m ≠ n then 10 else 0
theorem chkS_1 {x : Int} {m n : Nat} (h : x ≠ 0) : chkS x m n = x := if_pos h
theorem chkS_2 {x : Int} {m n : Nat} (h : x = 0) (k : m ≠ n) : chkS x m n = 10 := by unfold chkS; rw [if_neg (by omega), if_pos k]
theorem chkS_0 {x : Int} {m n : Nat} (h : x = 0) (k : m = n) : chkS x m n = 0 := by unfold chkS; rw [if_neg (by omega), if_neg (by omega)]
theorem chkS_zero {x : Int} {m n : Nat} (h : chkS x m n = 0) : x = 0 ∧ m = n := by
  unfold chkS at h
  split at h
  · omega
  · split at h
    · omega
    · omega
theorem below_drewN {B : Nat} {W W1 : World} (h : Below B W W1) (k : Nat) : Below B W (W1.drewN k) := ⟨h.os, h.tape, h.output, h.size, h.block⟩
theorem Row.drewN {w : World} {g : Nat} {t : TypeId} {cs : Array Value} (h : Row w g t cs) (k : Nat) : Row (w.drewN k) g t cs := h

set_option maxRecDepth 100000 in
set_option maxHeartbeats 1000000 in
theorem checkSquare_any (ra : Value) (m : Nat) (n : Nat → Nat) (f : Nat → Nat → Int) (p : Int) (w : World) (hm : m ≤ 1000000) (hn : ∀ i, i < m → n i ≤ 1000000) (ha : Grid w (· < w.heap.size) ra m n f) :
    Calls Try.prog 112 #[.agg #[.int .i64 p, ra]] w (Ret w (.int .i64 (chkS (chkM p m n f) m (n 0)))) := by
  have HC := fun W h => Lib.hid (Check_any ra m n f p W hm hn h)
  have HZ := Lib.hid (@chkM_zero p m n f)
  have HA := Lib.hid ha
  generalize chkM p m n f = x at HC HZ ⊢
  by_cases hx : x = 0
  · subst hx
    obtain ⟨_, h1, h2, h3, h4, _⟩ := HZ.out rfl
    obtain ⟨bg, og, cg, RA, RC, rfl, hcg, hbg, hgc⟩ := ha.at_ (by omega)
    have hr0 := (hgc 0 (by omega)).1
    rw [Nat.add_zero] at hr0
    have HB1 := Lib.hid ((Below.refl w.heap.size w).alloc (Nat.le_refl _) (.cells #[.int .i64 p, .slice (some ⟨bg, og, none⟩) m cg] 61))
    have HX1 := Lib.hid (row_new (W := w) rfl 61 #[.int .i64 p, .slice (some ⟨bg, og, none⟩) m cg])
    have he : ∀ b : Bool, ((m : Int) != (n 0 : Int)) = b → chkS 0 m (n 0) = if b then 10 else 0 := fun b h => by
      unfold chkS
      by_cases e : m = n 0
      · rw [show b = false by rw [← h]; simp [← e]]; simp [← e]
      · rw [show b = true by rw [← h]; simp; omega]; simp [e]
    have HE := Lib.hid he
    generalize n 0 = n0 at hr0 h3 h4 HE ⊢
    clear ha hgc he hn HZ
    cases hb : ((m : Int) != (n0 : Int)) with
    | true =>
      have HEE := Lib.hid (HE.out _ hb)
      go_enter Try.func112, Try.ntmps112
      go_wp2_with fail
      refine (HC _ (HA.out.on HB1.out)).out.mono ?_
      rintro e w3 ⟨rfl, hb3⟩
      have HB3 := Lib.hid (HB1.out.trans (hb3.mono HB1.out.size))
      have HY1 := Lib.hid (Row.below HX1.out hb3 HX1.out.lt)
      clear hb3
      have k2 := HY1.out.cell (i := 1) rfl
      have k3 := (HB3.out.cell (p := ⟨bg, og, none⟩) hbg).trans hr0
      go_wp2_with fail
      go_quiet (fail)
      go_wp2
      go_ret
      exact ⟨ret_int HEE.out.symm, below_drewN HB3.out _⟩
    | false =>
      have HEE := Lib.hid (HE.out _ hb)
      go_enter Try.func112, Try.ntmps112
      go_wp2_with fail
      refine (HC _ (HA.out.on HB1.out)).out.mono ?_
      rintro e w3 ⟨rfl, hb3⟩
      have HB3 := Lib.hid (HB1.out.trans (hb3.mono HB1.out.size))
      have HY1 := Lib.hid (Row.below HX1.out hb3 HX1.out.lt)
      clear hb3
      have k2 := HY1.out.cell (i := 1) rfl
      have k3 := (HB3.out.cell (p := ⟨bg, og, none⟩) hbg).trans hr0
      go_wp2_with fail
      go_quiet (fail)
      go_wp2
      go_ret
      exact ⟨ret_int HEE.out.symm, below_drewN HB3.out _⟩
  · have hd : (x == 0) = false := by simpa using hx
    have he := Lib.hid (chkS_1 (m := m) (n := n 0) hx)
    obtain ⟨A, c, rfl, _⟩ := ha.form
    have HB1 := Lib.hid ((Below.refl w.heap.size w).alloc (Nat.le_refl _) (.cells #[.int .i64 p, .slice A m c] 61))
    clear hx ha HZ
    go_enter Try.func112, Try.ntmps112
    go_wp2_with fail
    refine (HC _ (HA.out.on HB1.out)).out.mono ?_
    rintro e w3 ⟨rfl, hb3⟩
    have HB3 := Lib.hid (HB1.out.trans (hb3.mono HB1.out.size))
    clear hb3
    go_wp2_with fail
    go_quiet (fail)
    go_wp2
    go_ret
    exact ⟨ret_int he.out.symm, below_drewN HB3.out _⟩
end Go.Proofs.Ytokiejichnnmnaa
