/- matrix.checkPair, checkSquare; Mul. -/
import Derived.Test.YtokiejichnnmnaaMCheck
import Derived.BigQuiet
import Derived.Deep.QuietTactic
namespace Go.Proofs.Ytokiejichnnmnaa
open Go Go.RowKit Num

/-- The error of two matrices. -/
def chkP (x y p q : Int) : Int := if x ≠ 0 then x else if y ≠ 0 then y else if p ≠ q then 10 else 0
theorem chkP_1 {x y p q : Int} (h : x ≠ 0) : chkP x y p q = x := if_pos h
theorem chkP_2 {x y p q : Int} (h : x = 0) (k : y ≠ 0) : chkP x y p q = y := by unfold chkP; rw [if_neg (by omega), if_pos k]
theorem chkP_3 {x y p q : Int} (h : x = 0) (k : y = 0) (l : p ≠ q) : chkP x y p q = 10 := by unfold chkP; rw [if_neg (by omega), if_neg (by omega), if_pos l]
theorem chkP_0 {x y p q : Int} (h : x = 0) (k : y = 0) (l : p = q) : chkP x y p q = 0 := by unfold chkP; rw [if_neg (by omega), if_neg (by omega), if_neg (by omega)]
theorem chkP_zero {x y p q : Int} (h : chkP x y p q = 0) : x = 0 ∧ y = 0 ∧ p = q := by
  unfold chkP at h
  split at h
  · omega
  · split at h
    · omega
    · split at h
      · omega
      · omega

set_option maxRecDepth 100000 in
set_option maxHeartbeats 1000000 in
theorem checkPair_any (ra rb : Value) (m m' : Nat) (n n' : Nat → Nat) (f f' : Nat → Nat → Int) (p q : Int) (w : World) (hm : m ≤ 1000000) (hn : ∀ i, i < m → n i ≤ 1000000) (hm' : m' ≤ 1000000) (hn' : ∀ i, i < m' → n' i ≤ 1000000)
    (ha : Grid w (· < w.heap.size) ra m n f) (hb : Grid w (· < w.heap.size) rb m' n' f') :
    Calls Try.prog 103 #[.agg #[.int .i64 p, ra], .agg #[.int .i64 q, rb]] w (Ret w (.int .i64 (chkP (chkM p m n f) (chkM q m' n' f') p q))) := by
  have HC := fun W h => Lib.hid (Check_any ra m n f p W hm hn h)
  have HD := fun W h => Lib.hid (Check_any rb m' n' f' q W hm' hn' h)
  generalize chkM p m n f = x at HC ⊢
  generalize chkM q m' n' f' = y at HD ⊢
  have HA := Lib.hid ha
  have HB := Lib.hid hb
  obtain ⟨A, c, rfl, _⟩ := ha.form
  obtain ⟨B, d, rfl, _⟩ := hb.form
  clear ha hb hm hn hm' hn'
  have hB2 := ((Below.refl w.heap.size w).alloc (Nat.le_refl _) (.cells #[.int .i64 p, .slice A m c] 61)).alloc (by simp) (.cells #[.int .i64 q, .slice B m' d] 61)
  have hx1 := (row_new (W := w) rfl 61 #[.int .i64 p, .slice A m c]).alloc (.cells #[.int .i64 q, .slice B m' d] 61)
  have hx2 := row_new (W := w.alloc (.cells #[.int .i64 p, .slice A m c] 61)) (g := w.heap.size + 1) (by simp) 61 #[.int .i64 q, .slice B m' d]
  have HBW := Lib.hid hB2
  have HX1 := Lib.hid hx1
  have HX2 := Lib.hid hx2
  clear hB2 hx1 hx2
  by_cases hx : x = 0
  · subst hx
    go_enter Try.func103, Try.ntmps103
    go_wp2_with fail
    generalize (w.alloc (.cells #[.int .i64 p, .slice A m c] 61)).alloc (.cells #[.int .i64 q, .slice B m' d] 61) = w2 at HBW HX1 HX2
    refine (HC _ (HA.out.on HBW.out)).out.mono ?_
    rintro e w3 ⟨rfl, hb3⟩
    have HB3 := Lib.hid (HBW.out.trans (hb3.mono HBW.out.size))
    have HY1 := Lib.hid (Row.below HX1.out hb3 HX1.out.lt)
    have HY2 := Lib.hid (Row.below HX2.out hb3 HX2.out.lt)
    clear hb3
    have k1 := HY2.out.cell (i := 0) rfl
    have k2 := HY2.out.cell (i := 1) rfl
    go_wp2_with fail
    refine (HD _ (HB.out.on HB3.out)).out.mono ?_
    rintro e w4 ⟨rfl, hb4⟩
    have HB4 := Lib.hid (HB3.out.trans (hb4.mono HB3.out.size))
    have HZ1 := Lib.hid (Row.below HY1.out hb4 HY1.out.lt)
    have HZ2 := Lib.hid (Row.below HY2.out hb4 HY2.out.lt)
    clear hb4 k1 k2
    have k1 := HZ1.out.cell (i := 0) rfl
    have k2 := HZ2.out.cell (i := 0) rfl
    by_cases hy : y = 0
    · subst hy
      by_cases hpq : p = q
      · have hd : (p != q) = false := by simpa using hpq
        have he := Lib.hid (chkP_0 (x := 0) (y := 0) rfl rfl hpq)
        clear hpq
        go_wp2
        go_ret
        exact ⟨ret_int he.out.symm, HB4.out⟩
      · have hd : (p != q) = true := by simpa using hpq
        have he := Lib.hid (chkP_3 (x := 0) (y := 0) rfl rfl hpq)
        clear hpq
        go_wp2
        go_ret
        exact ⟨ret_int he.out.symm, HB4.out⟩
    · have hd : (y == 0) = false := by simpa using hy
      have he := Lib.hid (chkP_2 (x := 0) (p := p) (q := q) rfl hy)
      clear hy
      go_wp2
      go_ret
      exact ⟨ret_int he.out.symm, HB4.out⟩
  · have hd : (x == 0) = false := by simpa using hx
    have he := Lib.hid (chkP_1 (y := y) (p := p) (q := q) hx)
    clear hx
    go_enter Try.func103, Try.ntmps103
    go_wp2_with fail
    refine (HC _ (HA.out.on HBW.out)).out.mono ?_
    rintro e w3 ⟨rfl, hb3⟩
    have HB3 := Lib.hid (HBW.out.trans (hb3.mono HBW.out.size))
    clear hb3
    go_wp2
    go_ret
    exact ⟨ret_int he.out.symm, HB3.out⟩

/-- A call has returned an error, and the zero matrix. -/
def BadM (w : World) (x : Int) (e : Ending) (w' : World) : Prop := e = .returned (.tuple #[.agg #[.int .i64 0, .slice none 0 0], .int .i64 x]) ∧ Below w.heap.size w w'
/-- A call has returned a matrix. -/
def OkM (w : World) (p : Int) (m n : Nat) (f : Nat → Nat → Int) (e : Ending) (w' : World) : Prop := ∃ r, e = .returned (.tuple #[.agg #[.int .i64 p, r], .int .i64 0]) ∧ Grid w' (New w w') r m (fun _ => n) f ∧ Below w.heap.size w w'
theorem grid_reg {w : World} {S : Nat → Prop} {v : Value} {m k : Nat} {n : Nat → Nat} {f : Nat → Nat → Int} (h : Grid w S v m n f) (hn : ∀ i, i < m → n i = k) : Grid w S v m (fun _ => k) f := h.keep (fun _ h => h) (fun _ _ => rfl) hn (fun _ _ _ _ => rfl)
theorem Grid.new_lt {w w' W : World} {v : Value} {m : Nat} {n : Nat → Nat} {f : Nat → Nat → Int} (h : Grid W (New w w') v m n f) : Grid W (· < w'.heap.size) v m n f := h.more fun _ h => h.2
theorem Grid.new_more {w0 w w' w1 W : World} {v : Value} {m : Nat} {n : Nat → Nat} {f : Nat → Nat → Int} (h : Grid W (New w w') v m n f) (h0 : w0.heap.size ≤ w.heap.size) (h1 : w'.heap.size ≤ w1.heap.size) : Grid W (New w0 w1) v m n f := h.more fun _ h => ⟨Nat.le_trans h0 h.1, Nat.lt_of_lt_of_le h.2 h1⟩
end Go.Proofs.Ytokiejichnnmnaa
