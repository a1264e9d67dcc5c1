/- MPair, MMulP, MMulQ, joined. -/
import Derived.Test.YtinoomcboinokaaGreatMCheck
import Derived.BigQuiet
import Derived.Deep.QuietTactic

/- matrix.checkPair, checkSquare; Mul. -/
namespace Go.Proofs.YtinoomcboinokaaGreat
open Go Go.RowKit Num

/-- The error of two matrices. -/
def chkP (x y p q : Int) : Int := if x ≠ 0 then x else if y ≠ 0 then y else if p ≠ q then 10 else 0
theorem chkP_1 {x y p q : Int} (h : x ≠ 0) : chkP x y p q = x := if_pos h
theorem chkP_2 {x y p q : Int} (h : x = 0) (k : y ≠ 0) : chkP x y p q = y := by unfold chkP; rw [if_neg (by omega), if_pos k]
theorem chkP_3 {x y p q : Int} (h : x = 0) (k : y = 0) (l : p ≠ q) : chkP x y p q = 10 := by unfold chkP; rw [if_neg (by omega), if_neg (by omega), if_pos l]
theorem chkP_0 {x y p q : Int} (h : x = 0) (k : y = 0) (l : p = q) : chkP x y p q = 0 := by unfold chkP; rw [if_neg (by omega), if_neg (by omega), if_neg (by omega)]
theorem chkP_zero {x y p q : Int} (h : chkP x y p q = 0) : x = 0 ∧ y = 0 ∧ p = q := by
  unfold chkP at h
  split at h
  · omega
  · split at h
    · omega
    · split at h
      · omega
      · omega

set_option maxRecDepth 100000 in
set_option maxHeartbeats 1000000 in
theorem checkPair_any (ra rb : Value) (m m' : Nat) (n n' : Nat → Nat) (f f' : Nat → Nat → Int) (p q : Int) (w : World) (hm : m ≤ 1000000) (hn : ∀ i, i < m → n i ≤ 1000000) (hm' : m' ≤ 1000000) (hn' : ∀ i, i < m' → n' i ≤ 1000000)
    (ha : Grid w (· < w.heap.size) ra m n f) (hb : Grid w (· < w.heap.size) rb m' n' f') :
    Calls Tryz.prog 57 #[.agg #[.int .i64 p, ra], .agg #[.int .i64 q, rb]] w (Ret w (.int .i64 (chkP (chkM p m n f) (chkM q m' n' f') p q))) := by
  have HC := fun W h => Lib.hid (Check_any ra m n f p W hm hn h)
  have HD := fun W h => Lib.hid (Check_any rb m' n' f' q W hm' hn' h)
  generalize chkM p m n f = x at HC ⊢
  generalize chkM q m' n' f' = y at HD ⊢
  have HA := Lib.hid ha
  have HB := Lib.hid hb
  obtain ⟨A, c, rfl, _⟩ := ha.form
  obtain ⟨B, d, rfl, _⟩ := hb.form
  clear ha hb hm hn hm' hn'
  have hB2 := ((Below.refl w.heap.size w).alloc (Nat.le_refl _) (.cells #[.int .i64 p, .slice A m c] 31)).alloc (by simp) (.cells #[.int .i64 q, .slice B m' d] 31)
  have hx1 := (row_new (W := w) rfl 31 #[.int .i64 p, .slice A m c]).alloc (.cells #[.int .i64 q, .slice B m' d] 31)
  have hx2 := row_new (W := w.alloc (.cells #[.int .i64 p, .slice A m c] 31)) (g := w.heap.size + 1) (by simp) 31 #[.int .i64 q, .slice B m' d]
  have HBW := Lib.hid hB2
  have HX1 := Lib.hid hx1
  have HX2 := Lib.hid hx2
  clear hB2 hx1 hx2
  by_cases hx : x = 0
  · subst hx
    go_enter Tryz.func57, Tryz.ntmps57
    go_wp2_with fail
    generalize (w.alloc (.cells #[.int .i64 p, .slice A m c] 31)).alloc (.cells #[.int .i64 q, .slice B m' d] 31) = w2 at HBW HX1 HX2
    refine (HC _ (HA.out.on HBW.out)).out.mono ?_
    rintro e w3 ⟨rfl, hb3⟩
    have HB3 := Lib.hid (HBW.out.trans (hb3.mono HBW.out.size))
    have HY1 := Lib.hid (Row.below HX1.out hb3 HX1.out.lt)
    have HY2 := Lib.hid (Row.below HX2.out hb3 HX2.out.lt)
    clear hb3
    have k1 := HY2.out.cell (i := 0) rfl
    have k2 := HY2.out.cell (i := 1) rfl
    go_wp2_with fail
    refine (HD _ (HB.out.on HB3.out)).out.mono ?_
    rintro e w4 ⟨rfl, hb4⟩
    have HB4 := Lib.hid (HB3.out.trans (hb4.mono HB3.out.size))
    have HZ1 := Lib.hid (Row.below HY1.out hb4 HY1.out.lt)
    have HZ2 := Lib.hid (Row.below HY2.out hb4 HY2.out.lt)
    clear hb4 k1 k2
    have k1 := HZ1.out.cell (i := 0) rfl
    have k2 := HZ2.out.cell (i := 0) rfl
    by_cases hy : y = 0
    · subst hy
      by_cases hpq : p = q
      · have hd : (p != q) = false := by simpa using hpq
        have he := Lib.hid (chkP_0 (x := 0) (y := 0) rfl rfl hpq)
        clear hpq
        go_wp2
        go_ret
        exact ⟨ret_int he.out.symm, HB4.out⟩
      · have hd : (p != q) = true := by simpa using hpq
        have he := Lib.hid (chkP_3 (x := 0) (y := 0) rfl rfl hpq)
        clear hpq
        go_wp2
        go_ret
        exact ⟨ret_int he.out.symm, HB4.out⟩
    · have hd : (y == 0) = false := by simpa using hy
      have he := Lib.hid (chkP_2 (x := 0) (p := p) (q := q) rfl hy)
      clear hy
      go_wp2
      go_ret
      exact ⟨ret_int he.out.symm, HB4.out⟩
  · have hd : (x == 0) = false := by simpa using hx
    have he := Lib.hid (chkP_1 (y := y) (p := p) (q := q) hx)
    clear hx
    go_enter Tryz.func57, Tryz.ntmps57
    go_wp2_with fail
    refine (HC _ (HA.out.on HBW.out)).out.mono ?_
    rintro e w3 ⟨rfl, hb3⟩
    have HB3 := Lib.hid (HBW.out.trans (hb3.mono HBW.out.size))
    clear hb3
    go_wp2
    go_ret
    exact ⟨ret_int he.out.symm, HB3.out⟩

/-- A call has returned an error, and the zero matrix. -/
def BadM (w : World) (x : Int) (e : Ending) (w' : World) : Prop := e = .returned (.tuple #[.agg #[.int .i64 0, .slice none 0 0], .int .i64 x]) ∧ Below w.heap.size w w'
/-- A call has returned a matrix. -/
def OkM (w : World) (p : Int) (m n : Nat) (f : Nat → Nat → Int) (e : Ending) (w' : World) : Prop := ∃ r, e = .returned (.tuple #[.agg #[.int .i64 p, r], .int .i64 0]) ∧ Grid w' (New w w') r m (fun _ => n) f ∧ Below w.heap.size w w'
theorem grid_reg {w : World} {S : Nat → Prop} {v : Value} {m k : Nat} {n : Nat → Nat} {f : Nat → Nat → Int} (h : Grid w S v m n f) (hn : ∀ i, i < m → n i = k) : Grid w S v m (fun _ => k) f := h.keep (fun _ h => h) (fun _ _ => rfl) hn (fun _ _ _ _ => rfl)
theorem Grid.new_lt {w w' W : World} {v : Value} {m : Nat} {n : Nat → Nat} {f : Nat → Nat → Int} (h : Grid W (New w w') v m n f) : Grid W (· < w'.heap.size) v m n f := h.more fun _ h => h.2
theorem Grid.new_more {w0 w w' w1 W : World} {v : Value} {m : Nat} {n : Nat → Nat} {f : Nat → Nat → Int} (h : Grid W (New w w') v m n f) (h0 : w0.heap.size ≤ w.heap.size) (h1 : w'.heap.size ≤ w1.heap.size) : Grid W (New w0 w1) v m n f := h.more fun _ h => ⟨Nat.le_trans h0 h.1, Nat.lt_of_lt_of_le h.2 h1⟩
end Go.Proofs.YtinoomcboinokaaGreat

/- matrix.checkSquare, matrix.Mul. -/
namespace Go.Proofs.YtinoomcboinokaaGreat
open Go Go.RowKit Num

/-- The error of a matrix that has to be square. -/
def chkS (x : Int) (m n : Nat) : Int := if x ≠ 0 then x else if m ≠ n then 10 else 0
theorem chkS_1 {x : Int} {m n : Nat} (h : x ≠ 0) : chkS x m n = x := if_pos h
theorem chkS_2 {x : Int} {m n : Nat} (h : x = 0) (k : m ≠ n) : chkS x m n = 10 := by unfold chkS; rw [if_neg (by omega), if_pos k]
theorem chkS_0 {x : Int} {m n : Nat} (h : x = 0) (k : m = n) : chkS x m n = 0 := by unfold chkS; rw [if_neg (by omega), if_neg (by omega)]
theorem chkS_zero {x : Int} {m n : Nat} (h : chkS x m n = 0) : x = 0 ∧ m = n := by
  unfold chkS at h
  split at h
  · omega
  · split at h
    · omega
    · omega
theorem below_drewN {B : Nat} {W W1 : World} (h : Below B W W1) (k : Nat) : Below B W (W1.drewN k) := ⟨h.os, h.tape, h.output, h.size, h.block⟩
theorem Row.drewN {w : World} {g : Nat} {t : TypeId} {cs : Array Value} (h : Row w g t cs) (k : Nat) : Row (w.drewN k) g t cs := h

set_option maxRecDepth 100000 in
set_option maxHeartbeats 1000000 in
theorem checkSquare_any (ra : Value) (m : Nat) (n : Nat → Nat) (f : Nat → Nat → Int) (p : Int) (w : World) (hm : m ≤ 1000000) (hn : ∀ i, i < m → n i ≤ 1000000) (ha : Grid w (· < w.heap.size) ra m n f) :
    Calls Tryz.prog 47 #[.agg #[.int .i64 p, ra]] w (Ret w (.int .i64 (chkS (chkM p m n f) m (n 0)))) := by
  have HC := fun W h => Lib.hid (Check_any ra m n f p W hm hn h)
  have HZ := Lib.hid (@chkM_zero p m n f)
  have HA := Lib.hid ha
  generalize chkM p m n f = x at HC HZ ⊢
  by_cases hx : x = 0
  · subst hx
    obtain ⟨_, h1, h2, h3, h4, _⟩ := HZ.out rfl
    obtain ⟨bg, og, cg, RA, RC, rfl, hcg, hbg, hgc⟩ := ha.at_ (by omega)
    have hr0 := (hgc 0 (by omega)).1
    rw [Nat.add_zero] at hr0
    have HB1 := Lib.hid ((Below.refl w.heap.size w).alloc (Nat.le_refl _) (.cells #[.int .i64 p, .slice (some ⟨bg, og, none⟩) m cg] 31))
    have HX1 := Lib.hid (row_new (W := w) rfl 31 #[.int .i64 p, .slice (some ⟨bg, og, none⟩) m cg])
    have he : ∀ b : Bool, ((m : Int) != (n 0 : Int)) = b → chkS 0 m (n 0) = if b then 10 else 0 := fun b h => by
      unfold chkS
      by_cases e : m = n 0
      · rw [show b = false by rw [← h]; simp [← e]]; simp [← e]
      · rw [show b = true by rw [← h]; simp; omega]; simp [e]
    have HE := Lib.hid he
    generalize n 0 = n0 at hr0 h3 h4 HE ⊢
    clear ha hgc he hn HZ
    cases hb : ((m : Int) != (n0 : Int)) with
    | true =>
      have HEE := Lib.hid (HE.out _ hb)
      go_enter Tryz.func47, Tryz.ntmps47
      go_wp2_with fail
      refine (HC _ (HA.out.on HB1.out)).out.mono ?_
      rintro e w3 ⟨rfl, hb3⟩
      have HB3 := Lib.hid (HB1.out.trans (hb3.mono HB1.out.size))
      have HY1 := Lib.hid (Row.below HX1.out hb3 HX1.out.lt)
      clear hb3
      have k2 := HY1.out.cell (i := 1) rfl
      have k3 := (HB3.out.cell (p := ⟨bg, og, none⟩) hbg).trans hr0
      go_wp2_with fail
      go_quiet (fail)
      go_wp2
      go_ret
      exact ⟨ret_int HEE.out.symm, below_drewN HB3.out _⟩
    | false =>
      have HEE := Lib.hid (HE.out _ hb)
      go_enter Tryz.func47, Tryz.ntmps47
      go_wp2_with fail
      refine (HC _ (HA.out.on HB1.out)).out.mono ?_
      rintro e w3 ⟨rfl, hb3⟩
      have HB3 := Lib.hid (HB1.out.trans (hb3.mono HB1.out.size))
      have HY1 := Lib.hid (Row.below HX1.out hb3 HX1.out.lt)
      clear hb3
      have k2 := HY1.out.cell (i := 1) rfl
      have k3 := (HB3.out.cell (p := ⟨bg, og, none⟩) hbg).trans hr0
      go_wp2_with fail
      go_quiet (fail)
      go_wp2
      go_ret
      exact ⟨ret_int HEE.out.symm, below_drewN HB3.out _⟩
  · have hd : (x == 0) = false := by simpa using hx
    have he := Lib.hid (chkS_1 (m := m) (n := n 0) hx)
    obtain ⟨A, c, rfl, _⟩ := ha.form
    have HB1 := Lib.hid ((Below.refl w.heap.size w).alloc (Nat.le_refl _) (.cells #[.int .i64 p, .slice A m c] 31))
    clear hx ha HZ
    go_enter Tryz.func47, Tryz.ntmps47
    go_wp2_with fail
    refine (HC _ (HA.out.on HB1.out)).out.mono ?_
    rintro e w3 ⟨rfl, hb3⟩
    have HB3 := Lib.hid (HB1.out.trans (hb3.mono HB1.out.size))
    clear hb3
    go_wp2_with fail
    go_quiet (fail)
    go_wp2
    go_ret
    exact ⟨ret_int he.out.symm, below_drewN HB3.out _⟩
end Go.Proofs.YtinoomcboinokaaGreat

/- matrix.Mul, Add. -/
namespace Go.Proofs.YtinoomcboinokaaGreat
open Go Go.RowKit Num

/-- The world behind two boxed structs and the zero one of the result. -/
structure Box3 (w w3 : World) (a b : Array Value) : Prop where
  be : Below w.heap.size w w3
  ra : Row w3 w.heap.size 31 a
  rb : Row w3 (w.heap.size + 1) 31 b
  rr : Row w3 (w.heap.size + 1 + 1) 31 #[.int .i64 0, .slice none 0 0]
  sz : w3.heap.size = w.heap.size + 1 + 1 + 1
theorem box3 (w : World) (a b : Array Value) : Box3 w (((w.alloc (.cells a 31)).alloc (.cells b 31)).alloc (.cells #[.int .i64 0, .slice none 0 0] 31)) a b :=
  ⟨(((Below.refl w.heap.size w).alloc (Nat.le_refl _) _).alloc (by simp) _).alloc (by simp; omega) _, ((row_new rfl _ _).alloc _).alloc _, (row_new (by simp) _ _).alloc _, row_new (by simp) _ _, by simp⟩
theorem Box3.on {w w3 w' : World} {a b : Array Value} (h : Box3 w w3 a b) (hb : Below w3.heap.size w3 w') : Below w.heap.size w w' ∧ Row w' w.heap.size 31 a ∧ Row w' (w.heap.size + 1) 31 b ∧ Row w' (w.heap.size + 1 + 1) 31 #[.int .i64 0, .slice none 0 0] :=
  ⟨h.be.trans (hb.mono h.be.size), Row.below h.ra hb h.ra.lt, Row.below h.rb hb h.rb.lt, Row.below h.rr hb h.rr.lt⟩
/-- The ends of a call that returns a matrix and an error. -/
theorem end_bad {w W : World} {R : Nat} {B : Nat} (h : Row W R 31 #[.int .i64 0, .slice none 0 0]) (hb : Below B w W) (hR : B ≤ R) :
    Row ((W.setCell ⟨R, 0, none⟩ (.int .i64 0)).setCell ⟨R, 1, none⟩ (.slice none 0 0)) R 31 #[.int .i64 0, .slice none 0 0] ∧ Below B w ((W.setCell ⟨R, 0, none⟩ (.int .i64 0)).setCell ⟨R, 1, none⟩ (.slice none 0 0)) := agg_res h hb hR _ _
theorem Grid.set2 {W : World} {S : Nat → Prop} {v : Value} {m : Nat} {n : Nat → Nat} {f : Nat → Nat → Int} (h : Grid W S v m n f) {R : Nat} (hR : ¬ S R) (x y : Value) : Grid ((W.setCell ⟨R, 0, none⟩ x).setCell ⟨R, 1, none⟩ y) S v m n f :=
  (h.set (p := ⟨R, 0, none⟩) hR x).set (p := ⟨R, 1, none⟩) hR y
theorem size_set2 (W : World) (p q : Addr) (x y : Value) : ((W.setCell p x).setCell q y).heap.size = W.heap.size := by rw [size_set, size_set]

/-- What a call returns that may find the error x, or that sizes do not fit. -/
def MPost (x : Int) (fit : Prop) (w : World) (p : Int) (m n : Nat) (f : Nat → Nat → Int) (e : Ending) (w' : World) : Prop :=
  (x ≠ 0 → BadM w x e w') ∧ (x = 0 → ¬ fit → BadM w 10 e w') ∧ (x = 0 → fit → OkM w p m n f e w')

end Go.Proofs.YtinoomcboinokaaGreat