/- matrix.Mul, Add. -/
import Derived.Test.YtokiejichnnmnaaMMulP
namespace Go.Proofs.Ytokiejichnnmnaa
open Go Go.RowKit Num

/-- The world behind two boxed structs and the zero one of the result. -/
structure Box3 (w w3 : World) (a b : Array Value) : Prop where
  be : Below w.heap.size w w3
  ra : Row w3 w.heap.size 61 a
  rb : Row w3 (w.heap.size + 1) 61 b
  rr : Row w3 (w.heap.size + 1 + 1) 61 #[.int .i64 0, .slice none 0 0]
  sz : w3.heap.size = w.heap.size + 1 + 1 + 1
theorem box3 (w : World) (a b : Array Value) : Box3 w (((w.alloc (.cells a 61)).alloc (.cells b 61)).alloc (.cells #[.int .i64 0, .slice none 0 0] 61)) a b :=
  ⟨(((Below.refl w.heap.size w).alloc (Nat.le_refl _) _).alloc (by simp) _).alloc (by simp; omega) _, ((row_new rfl _ _).alloc _).alloc _, (row_new (by simp) _ _).alloc _, row_new (by simp) _ _, by simp⟩
theorem Box3.on {w w3 w' : World} {a b : Array Value} (h : Box3 w w3 a b) (hb : Below w3.heap.size w3 w') : Below w.heap.size w w' ∧ Row w' w.heap.size 61 a ∧ Row w' (w.heap.size + 1) 61 b ∧ Row w' (w.heap.size + 1 + 1) 61 #[.int .i64 0, .slice none 0 0] :=
  ⟨h.be.trans (hb.mono h.be.size), Row.below h.ra hb h.ra.lt, Row.below h.rb hb h.rb.lt, Row.below h.rr hb h.rr.lt⟩
/-- The ends of a call that returns a matrix and an error. -/
theorem end_bad {w W : World} {R : Nat} {B : Nat} (h : Row W R 61 #[.int .i64 0, .slice none 0 0]) (hb : Below B w W) (hR : B ≤ R) :
    Row ((W.setCell ⟨R, 0, none⟩ (.int .i64 0)).setCell ⟨R, 1, none⟩ (.slice none 0 0)) R 61 #[.int .i64 0, .slice none 0 0] ∧ Below B w ((W.setCell ⟨R, 0, none⟩ (.int .i64 0)).setCell ⟨R, 1, none⟩ (.slice none 0 0)) := agg_res h hb hR _ _
theorem Grid.set2 {W : World} {S : Nat → Prop} {v : Value} {m : Nat} {n : Nat → Nat} {f : Nat → Nat → Int} (h : Grid W S v m n f) {R : Nat} (hR : ¬ S R) (x y : Value) : Grid ((W.setCell ⟨R, 0, none⟩ x).setCell ⟨R, 1, none⟩ y) S v m n f :=
  (h.set (p := ⟨R, 0, none⟩) hR x).set (p := ⟨R, 1, none⟩) hR y
theorem size_set2 (W : World) (p q : Addr) (x y : Value) : ((W.setCell p x).setCell q y).heap.size = W.heap.size := by rw [size_set, size_set]

/-- What a call returns that may find the error x, or that sizes do not fit. -/
def MPost (x : Int) (fit : Prop) (w : World) (p : Int) (m n : Nat) (f : Nat → Nat → Int) (e : Ending) (w' : World) : Prop :=
  (x ≠ 0 → BadM w x e w') ∧ (x = 0 → ¬ fit → BadM w 10 e w') ∧ (x = 0 → fit → OkM w p m n f e w')

set_option maxRecDepth 100000 in
set_option maxHeartbeats 1000000 in
theorem Mul_any (ra rb : Value) (m m' : Nat) (n n' : Nat → Nat) (f f' : Nat → Nat → Int) (p q : Int) (w : World) (hm : m ≤ 1000000) (hn : ∀ i, i < m → n i ≤ 1000000) (hm' : m' ≤ 1000000) (hn' : ∀ i, i < m' → n' i ≤ 1000000)
    (ha : Grid w (· < w.heap.size) ra m n f) (hb : Grid w (· < w.heap.size) rb m' n' f') (x : Int) (hx : x = chkP (chkM p m n f) (chkM q m' n' f') p q) :
    Calls Try.prog 58 #[.agg #[.int .i64 p, ra], .agg #[.int .i64 q, rb]] w (MPost x (n 0 = m') w p m (n' 0) (mulF p m' f f')) := by
  have HC := fun W h1 h2 => Lib.hid (checkPair_any ra rb m m' n n' f f' p q W hm hn hm' hn' h1 h2)
  rw [← hx] at HC
  have HX := Lib.hid hx
  have HA := Lib.hid ha
  have HB := Lib.hid hb
  clear hx
  by_cases hx0 : x = 0
  · subst hx0
    obtain ⟨e1, e2, e3⟩ := chkP_zero HX.out.symm
    subst e3
    obtain ⟨hmod, g1, g2, g3, g4, g5⟩ := chkM_zero e1
    obtain ⟨_, g6, g7, g8, g9, g10⟩ := chkM_zero e2
    obtain ⟨hp2, hp4, _⟩ := modB_true hmod
    obtain ⟨bg, og, cg, RA, RC, rfl, hcg, hbg, hgc⟩ := ha.at_ (by omega)
    have hr0 := (hgc 0 (by omega)).1
    rw [Nat.add_zero] at hr0
    obtain ⟨B, d, rfl, hdm⟩ := hb.form
    have HX3 := Lib.hid (box3 w #[.int .i64 p, .slice (some ⟨bg, og, none⟩) m cg] #[.int .i64 p, .slice B m' d])
    have HM := fun W h1 h2 => Lib.hid (fun (e : n 0 = m') => mul_any (.slice (some ⟨bg, og, none⟩) m cg) (.slice B m' d) m m' (n' 0) f f' p p W (by omega) (by omega) (by omega) (by omega) h1 h2 hp2 (by omega) (fun i hi => by have := (g5 i hi).2; rw [(g5 i hi).1, e] at this; exact this) (fun i hi => by have := (g10 i hi).2; rw [(g10 i hi).1] at this; exact this))
    have HA2 := Lib.hid (fun (e : n 0 = m') => grid_reg HA.out (fun i hi => ((g5 i hi).1).trans e))
    have HB2 := Lib.hid (grid_reg HB.out (fun i hi => (g10 i hi).1))
    generalize n' 0 = k' at HM HB2 ⊢
    generalize hn0 : n 0 = n0 at hr0 HM HA2 g3 g4 ⊢
    clear ha hb hgc hn hn' e1 e2 g5 g10 hmod hn0
    by_cases hnm : n0 = m'
    · subst hnm
      have hd : ((n0 : Int) != (n0 : Int)) = false := by simp
      replace HM := fun W h1 h2 => Lib.hid ((HM W h1 h2).out rfl)
      replace HA2 := Lib.hid (HA2.out rfl)
      go_enter Try.func58, Try.ntmps58
      go_wp2_with fail
      generalize ((w.alloc (.cells #[.int .i64 p, .slice (some ⟨bg, og, none⟩) m cg] 61)).alloc (.cells #[.int .i64 p, .slice B n0 d] 61)).alloc (.cells #[.int .i64 0, .slice none 0 0] 61) = w3 at HX3
      refine (HC _ (HA.out.on HX3.out.be) (HB.out.on HX3.out.be)).out.mono ?_
      rintro e w4 ⟨rfl, hb4⟩
      have HB4 := Lib.hid hb4
      obtain ⟨j1, j2, j3, j4⟩ := HX3.out.on hb4
      have HJ1 := Lib.hid j1
      have c1 := j2.cell (i := 1) rfl
      have c2 := j3.cell (i := 1) rfl
      have c3 := (j1.cell (p := ⟨bg, og, none⟩) hbg).trans hr0
      have c4 := j2.cell (i := 0) rfl
      have c5 := j3.cell (i := 0) rfl
      have HR := Lib.hid j4
      clear j1 j2 j3 j4 hb4
      go_wp2_with fail
      go_quiet (fail)
      rename_i nq
      go_wp2_with fail
      have HBq := Lib.hid (below_drewN HJ1.out nq)
      have HRq := Lib.hid (HR.out.drewN nq)
      have hsz : w.heap.size + 1 + 1 < (w4.drewN nq).heap.size := HR.out.lt
      generalize w4.drewN nq = w5 at HBq HRq hsz
      refine (HM _ (HA2.out.on HBq.out) (HB2.out.on HBq.out)).out.mono ?_
      rintro e w6 ⟨r, rfl, hg6, hb6⟩
      obtain ⟨A', c', rfl, _⟩ := hg6.form
      have hrr := Row.below HRq.out hb6 hsz
      have hs5 := HBq.out.size
      have hE := agg_res hrr (HBq.out.trans (hb6.mono hs5)) (by omega) (.int .i64 p) (.slice A' m c')
      have hG := (hg6.set2 (R := w.heap.size + 1 + 1) (fun h => by have := h.1; omega) (.int .i64 p) (.slice A' m c')).more (S' := New w ((w6.setCell ⟨w.heap.size + 1 + 1, 0, none⟩ (.int .i64 p)).setCell ⟨w.heap.size + 1 + 1, 1, none⟩ (.slice A' m c'))) (fun b h => ⟨by have := h.1; omega, by rw [size_set2]; exact h.2⟩)
      have HE := Lib.hid hE
      have HG := Lib.hid hG
      have d0 := hrr.cell (i := 0) rfl
      have d1 := hrr.cell (i := 1) rfl
      have f0 := hrr.frozen 0
      have f1 := hrr.frozen 1
      clear hE hG hg6 hb6 hrr
      go_wp2
      obtain ⟨k3, k2⟩ := HE.out
      have hc0 := k3.cell (i := 0) rfl
      have hc1 := k3.cell (i := 1) rfl
      refine bodyPost_ret (v := .tuple #[.agg #[.int .i64 p, .slice A' m c'], .int .i64 0]) ?_ rfl ⟨(fun h => absurd rfl h), (fun _ h => absurd trivial h), fun _ _ => ⟨_, rfl, HG.out, k2⟩⟩
      simp [results, Try.results58, go_sem, hc0, hc1]
    · have hd : ((n0 : Int) != (m' : Int)) = true := by simp; omega
      go_enter Try.func58, Try.ntmps58
      go_wp2_with fail
      generalize ((w.alloc (.cells #[.int .i64 p, .slice (some ⟨bg, og, none⟩) m cg] 61)).alloc (.cells #[.int .i64 p, .slice B m' d] 61)).alloc (.cells #[.int .i64 0, .slice none 0 0] 61) = w3 at HX3
      refine (HC _ (HA.out.on HX3.out.be) (HB.out.on HX3.out.be)).out.mono ?_
      rintro e w4 ⟨rfl, hb4⟩
      obtain ⟨j1, j2, j3, j4⟩ := HX3.out.on hb4
      have c1 := j2.cell (i := 1) rfl
      have c2 := j3.cell (i := 1) rfl
      have c3 := (j1.cell (p := ⟨bg, og, none⟩) hbg).trans hr0
      have HE := Lib.hid (fun nq => end_bad (w := w) (j4.drewN nq) (below_drewN j1 nq) (B := w.heap.size) (by omega))
      have d0 := j4.cell (i := 0) rfl
      have d1 := j4.cell (i := 1) rfl
      have f0 := j4.frozen 0
      have f1 := j4.frozen 1
      clear j1 j2 j3 j4 hb4
      go_wp2_with fail
      go_quiet (fail)
      rename_i nq
      go_wp2_with fail
      obtain ⟨k3, k2⟩ := HE.out nq
      have hc0 := k3.cell (i := 0) rfl
      have hc1 := k3.cell (i := 1) rfl
      refine bodyPost_ret (v := .tuple #[.agg #[.int .i64 0, .slice none 0 0], .int .i64 10]) ?_ rfl ⟨(fun h => absurd rfl h), (fun _ _ => ⟨rfl, k2⟩), fun _ h => absurd h hnm⟩
      simp [results, Try.results58, go_sem, hc0, hc1]
  · have hd : (x == 0) = false := by simpa using hx0
    have hd2 : (x != 0) = true := by simpa using hx0
    obtain ⟨A, c, rfl, _⟩ := ha.form
    obtain ⟨B, d, rfl, _⟩ := hb.form
    have HX3 := Lib.hid (box3 w #[.int .i64 p, .slice A m c] #[.int .i64 q, .slice B m' d])
    have HPO := Lib.hid (fun (e : Ending) (w' : World) (h : BadM w x e w') => (show MPost x (n 0 = m') w p m (n' 0) (mulF p m' f f') e w' from ⟨fun _ => h, (fun h => absurd h hx0), fun h => absurd h hx0⟩))
    clear ha hb hn hn' hx0
    go_enter Try.func58, Try.ntmps58
    go_wp2_with fail
    generalize ((w.alloc (.cells #[.int .i64 p, .slice A m c] 61)).alloc (.cells #[.int .i64 q, .slice B m' d] 61)).alloc (.cells #[.int .i64 0, .slice none 0 0] 61) = w3 at HX3
    refine (HC _ (HA.out.on HX3.out.be) (HB.out.on HX3.out.be)).out.mono ?_
    rintro e w4 ⟨rfl, hb4⟩
    obtain ⟨j1, j2, j3, j4⟩ := HX3.out.on hb4
    have HE := Lib.hid (fun nq => end_bad (w := w) (j4.drewN nq) (below_drewN j1 nq) (B := w.heap.size) (by omega))
    have d0 := j4.cell (i := 0) rfl
    have d1 := j4.cell (i := 1) rfl
    have f0 := j4.frozen 0
    have f1 := j4.frozen 1
    clear j1 j2 j3 j4 hb4
    go_wp2_with fail
    go_quiet (fail)
    rename_i nq
    go_wp2_with fail
    obtain ⟨k3, k2⟩ := HE.out nq
    have hc0 := k3.cell (i := 0) rfl
    have hc1 := k3.cell (i := 1) rfl
    refine bodyPost_ret (v := .tuple #[.agg #[.int .i64 0, .slice none 0 0], .int .i64 x]) ?_ rfl (HPO.out _ _ ⟨rfl, k2⟩)
    simp [results, Try.results58, go_sem, hc0, hc1]
end Go.Proofs.Ytokiejichnnmnaa
