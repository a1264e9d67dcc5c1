/- matrix.mul, column, one: grids that a call fills row by row. -/
import Derived.Test.YtokiejichnnmnaaMTimes
namespace Go.Proofs.Ytokiejichnnmnaa
open Go Go.RowKit Num

/-- k rows of the outer block g0 are filled. -/
def FillG (g0 m : Nat) (n : Nat → Nat) (f : Nat → Nat → Int) (k : Nat) (w : World) : Prop :=
  k ≤ m ∧ ∃ r : Nat → Value, Row w g0 28 (CTab m (part k r (.slice none 0 0))) ∧ ∀ i, i < k → Vec w (fun b => g0 < b ∧ b < w.heap.size) (r i) (n i) (f i)
theorem FillG.start {W : World} {g0 m : Nat} (n : Nat → Nat) (f : Nat → Nat → Int) (h : Row W g0 28 (CTab m fun _ => .slice none 0 0)) : FillG g0 m n f 0 W :=
  ⟨Nat.zero_le _, fun _ => .slice none 0 0, by rw [part_zero]; exact h, fun i hi => absurd hi (by omega)⟩
theorem FillG.row {g0 m : Nat} {n : Nat → Nat} {f : Nat → Nat → Int} {k : Nat} {w : World} (h : FillG g0 m n f k w) : ∃ cs, Row w g0 28 cs ∧ cs.size = m := by
  obtain ⟨_, r, hr, _⟩ := h; exact ⟨_, hr, CTab_size _ _⟩
theorem FillG.lt {g0 m : Nat} {n : Nat → Nat} {f : Nat → Nat → Int} {k : Nat} {w : World} (h : FillG g0 m n f k w) : g0 < w.heap.size := by
  obtain ⟨cs, hr, _⟩ := h.row; exact hr.lt
theorem FillG.put {g0 m : Nat} {n : Nat → Nat} {f : Nat → Nat → Int} {k i : Nat} {w : World} (h : FillG g0 m n f k w) (hi : i < m) : (∃ u, w.cell? ⟨g0, i, none⟩ = some u) ∧ w.frozen? ⟨g0, i, none⟩ = false := by
  obtain ⟨_, r, hr, _⟩ := h
  exact ⟨⟨_, hr.cell (CTab_get _ _ i hi)⟩, hr.frozen i⟩
theorem size_set (w : World) (p : Addr) (v : Value) : (w.setCell p v).heap.size = w.heap.size := by simp [World.setCell]
theorem FillG.on {g0 m : Nat} {n : Nat → Nat} {f : Nat → Nat → Int} {k : Nat} {w w' : World} (h : FillG g0 m n f k w) (hb : Below w.heap.size w w') : FillG g0 m n f k w' := by
  obtain ⟨hk, r, hr, hv⟩ := h
  exact ⟨hk, r, hr.below hb hr.lt, fun i hi => ((hv i hi).below (fun b h => h.2) hb).more fun b h => ⟨h.1, Nat.lt_of_lt_of_le h.2 hb.size⟩⟩
theorem FillG.step {g0 m : Nat} {n : Nat → Nat} {f : Nat → Nat → Int} {k : Nat} {w : World} {v : Value} (h : FillG g0 m n f k w) (hk : k < m) (hv : Vec w (fun b => g0 < b ∧ b < w.heap.size) v (n k) (f k)) : FillG g0 m n f (k + 1) (w.setCell ⟨g0, k, none⟩ v) := by
  obtain ⟨_, r, hr, hrv⟩ := h
  refine ⟨by omega, fun i => if i = k then v else r i, ?_, fun i hi => ?_⟩
  · have h1 := hr.set k v
    rw [part_congr m k r (fun i => if i = k then v else r i) _ (fun i hi => (if_neg (by omega)).symm)] at h1
    rw [part_set m k (fun i => if i = k then v else r i) _ v (if_pos rfl).symm] at h1
    exact h1
  · have hz := size_set w ⟨g0, k, none⟩ v
    by_cases e : i = k
    · subst e
      rw [show (fun j => if j = i then v else r j) i = v from if_pos rfl]
      refine (hv.set (p := ⟨g0, i, none⟩) (fun h => Nat.lt_irrefl _ h.1) v).more fun b h => ⟨h.1, by rw [hz]; exact h.2⟩
    · rw [show (fun j => if j = k then v else r j) i = r i from if_neg e]
      refine ((hrv i (by omega)).set (p := ⟨g0, k, none⟩) (fun h => Nat.lt_irrefl _ h.1) v).more fun b h => ⟨h.1, by rw [hz]; exact h.2⟩
/-- A store into an elder block. -/
theorem FillG.far {g0 m : Nat} {n : Nat → Nat} {f : Nat → Nat → Int} {k : Nat} {w : World} (h : FillG g0 m n f k w) {p : Addr} (hp : p.block < g0) (v : Value) : FillG g0 m n f k (w.setCell p v) := by
  obtain ⟨hk, r, hr, hrv⟩ := h
  exact ⟨hk, r, hr.far (Nat.ne_of_gt hp) v, fun i hi => ((hrv i hi).set (p := p) (fun h => by have := h.1; omega) v).more fun b h => ⟨h.1, by rw [size_set]; exact h.2⟩⟩
theorem FillG.grid {g0 m : Nat} {n : Nat → Nat} {f : Nat → Nat → Int} {w : World} (h : FillG g0 m n f m w) : Grid w (fun b => g0 ≤ b ∧ b < w.heap.size) (.slice (some ⟨g0, 0, none⟩) m m) m n f := by
  obtain ⟨_, r, hr, hv⟩ := h
  rw [part_all] at hr
  exact hr.grid ⟨Nat.le_refl _, hr.lt⟩ (Nat.le_refl _) fun i hi => (hv i hi).more fun b h => ⟨Nat.le_of_lt h.1, h.2⟩
/-- The block of a struct that a call returns. -/
theorem agg_res {w W : World} {R B : Nat} {t : TypeId} {a b : Value} (h : Row W R t #[a, b]) (hb : Below B w W) (hR : B ≤ R) (x y : Value) :
    Row ((W.setCell ⟨R, 0, none⟩ x).setCell ⟨R, 1, none⟩ y) R t #[x, y] ∧ Below B w ((W.setCell ⟨R, 0, none⟩ x).setCell ⟨R, 1, none⟩ y) :=
  ⟨(h.set 0 x).set 1 y, (hb.setCell (p := ⟨R, 0, none⟩) hR x).setCell (p := ⟨R, 1, none⟩) hR y⟩

/-- A call has given a matrix. -/
def GivesM (w : World) (p : Int) (m n : Nat) (f : Nat → Nat → Int) (e : Ending) (w' : World) : Prop := ∃ r, e = .returned (.agg #[.int .i64 p, r]) ∧ Grid w' (New w w') r m (fun _ => n) f ∧ Below w.heap.size w w'
/-- The product of two matrices. -/
def mulF (p : Int) (q : Nat) (f g : Nat → Nat → Int) (i j : Nat) : Int := dotTo (f i) g j q % p

set_option maxRecDepth 100000 in
set_option maxHeartbeats 1000000 in
theorem mul_any (ra rb : Value) (m q n : Nat) (f g : Nat → Nat → Int) (p p2 : Int) (w : World) (hm : m ≤ 1000) (hq0 : 1 ≤ q) (hq : q ≤ 1000) (hn : n ≤ 1000) (ha : Grid w (· < w.heap.size) ra m (fun _ => q) f) (hb : Grid w (· < w.heap.size) rb q (fun _ => n) g)
    (hp0 : 2 ≤ p) (hp1 : p ≤ 10000) (hf : InG p m q f) (hg : InG p q n g) :
    Calls Try.prog 125 #[.agg #[.int .i64 p2, ra], .agg #[.int .i64 p, rb]] w (GivesM w p2 m n (mulF p q f g)) := by
  have hmk := fun W => make_rows m (by omega) W
  have HA := Lib.hid ha
  have HB := Lib.hid hb
  have HF := Lib.hid hf
  have HG := Lib.hid hg
  obtain ⟨Ag, cg, rfl, hcg, ha⟩ := ha
  obtain ⟨Bg, dg, rfl, hdg, hb⟩ := hb
  clear ha hb hf hg
  have hbox := row_new (W := w) rfl 61 #[.int .i64 p2, .slice Ag m cg]
  have hbox2 := (row_new (W := w.alloc (.cells #[.int .i64 p2, .slice Ag m cg] 61)) (g := w.heap.size + 1) (by simp) 61 #[.int .i64 p, .slice Bg q dg]).alloc (.cells #[.int .i64 0, .slice none 0 0] 61)
  have hbox1 := (hbox.alloc (.cells #[.int .i64 p, .slice Bg q dg] 61)).alloc (.cells #[.int .i64 0, .slice none 0 0] 61)
  go_enter Try.func125, Try.ntmps125
  go_wp2
  have hz3 : (((w.alloc (.cells #[.int .i64 p2, .slice Ag m cg] 61)).alloc (.cells #[.int .i64 p, .slice Bg q dg] 61)).alloc (.cells #[.int .i64 0, .slice none 0 0] 61)).heap.size = w.heap.size + 1 + 1 + 1 := by simp
  have hbox3 := row_new (W := ((w.alloc (.cells #[.int .i64 p2, .slice Ag m cg] 61)).alloc (.cells #[.int .i64 p, .slice Bg q dg] 61))) (g := w.heap.size + 1 + 1) (by simp) 61 #[.int .i64 0, .slice none 0 0]
  have hB3 := ((((Below.refl w.heap.size w).alloc (Nat.le_refl _) (.cells #[.int .i64 p2, .slice Ag m cg] 61))).alloc (by simp) (.cells #[.int .i64 p, .slice Bg q dg] 61)).alloc (by simp; omega) (.cells #[.int .i64 0, .slice none 0 0] 61)
  generalize ((w.alloc (.cells #[.int .i64 p2, .slice Ag m cg] 61)).alloc (.cells #[.int .i64 p, .slice Bg q dg] 61)).alloc (.cells #[.int .i64 0, .slice none 0 0] 61) = w3 at hbox hbox1 hbox2 hz3 hbox3 hB3
  clear hbox
  have H0 := Lib.hid (FillG.start (fun _ => n) (mulF p q f g) (row_new hz3 28 (CTab m fun _ => .slice none 0 0)))
  have HB3 := Lib.hid hB3
  clear hB3
  go_loopw [15] (fun i wr => ∃ k : Nat, i = .int .i64 k ∧ Below w3.heap.size w3 wr ∧ FillG (w.heap.size + 1 + 1 + 1) m (fun _ => n) (mulF p q f g) k wr) (fun i _ => m - (intOf i).toNat)
  case atStart => exact ⟨0, rfl, (Below.refl _ _).alloc (Nat.le_refl _) _, H0.out⟩
  case round =>
    obtain ⟨k, rfl, hB, hF⟩ := hrel
    have hk := hF.1
    have hbw2 := Row.below hbox2 hB (by omega)
    have hbp : wr.cell? ⟨w.heap.size + 1, 0, none⟩ = some (.int .i64 p) := hbw2.cell rfl
    have hbr : wr.cell? ⟨w.heap.size + 1, 1, none⟩ = some (.slice Bg q dg) := hbw2.cell rfl
    have hz := hB.size
    by_cases hlt : k < m
    · have hBw := HB3.out.trans (hB.mono (by omega))
      obtain ⟨bg, og, cg', RA, RC, e, hcg', hbg, hgc⟩ := HA.out.at_ (by omega)
      cases e
      obtain ⟨h1, h2⟩ := hgc k hlt
      have hak : wr.cell? ⟨bg, og + k, none⟩ = some (.slice (RA k) q (RC k)) := (hBw.cell (p := ⟨bg, og + k, none⟩) hbg).trans h1
      have HC := Lib.hid (apply_any (.slice (RA k) q (RC k)) (.slice Bg q dg) q n (f k) g p wr hq0 hq hn (h2.on hBw) (HB.out.on hBw) hp0 hp1 (HF.out k hlt) HG.out)
      have HFl := Lib.hid hF
      have HBr := Lib.hid hB
      clear h1 h2 hgc hB hF hBw hbw2
      go_wp2_with fail
      refine HC.out.mono ?_
      rintro e w' ⟨r, rfl, hV, hBn⟩
      obtain ⟨A', c', rfl, _⟩ := hV.form
      have hF' := HFl.out.on hBn
      obtain ⟨⟨u, hct⟩, hft⟩ := hF'.put hlt
      have HS := Lib.hid (hF'.step hlt (hV.more fun b h => ⟨by have := h.1; have := HFl.out.lt; omega, h.2⟩))
      have HB2 := Lib.hid ((HBr.out.trans (hBn.mono hz)).setCell (p := ⟨w.heap.size + 1 + 1 + 1, k, none⟩) (by simp; omega) (.slice A' n c'))
      clear hV hBn hF' HFl HBr HC
      go_wp2
      go_roundw
      case rel => exact ⟨k + 1, by go_num, HB2.out, HS.out⟩
      case measure => simp [intOf]; omega
    · have e : k = m := by omega
      subst e
      have hbw1 := Row.below hbox1 hB (by omega)
      have hbw3 := Row.below hbox3 hB (by omega)
      have ha0 : wr.cell? ⟨w.heap.size, 0, none⟩ = some (.int .i64 p2) := hbw1.cell rfl
      have hr0 : wr.cell? ⟨w.heap.size + 1 + 1, 0, none⟩ = some (.int .i64 0) := hbw3.cell rfl
      have hr1 : wr.cell? ⟨w.heap.size + 1 + 1, 1, none⟩ = some (.slice none 0 0) := hbw3.cell rfl
      have hf0 := hbw3.frozen 0
      have hf1 := hbw3.frozen 1
      have HR := Lib.hid (agg_res hbw3 (HB3.out.trans (hB.mono (by omega))) (by omega) (.int .i64 p2) (.slice (some ⟨w.heap.size + 1 + 1 + 1, 0, none⟩) k k))
      have HG2 := Lib.hid ((hF.far (p := ⟨w.heap.size + 1 + 1, 0, none⟩) (by simp) (.int .i64 p2)).far (p := ⟨w.heap.size + 1 + 1, 1, none⟩) (by simp) (.slice (some ⟨w.heap.size + 1 + 1 + 1, 0, none⟩) k k)).grid
      clear hbw1 hbw2 hbw3 hB hF
      go_wp2
      obtain ⟨k3, k2⟩ := HR.out
      have hc0 := k3.cell (i := 0) rfl
      have hc1 := k3.cell (i := 1) rfl
      refine bodyPost_ret (v := .agg #[.int .i64 p2, .slice (some ⟨w.heap.size + 1 + 1 + 1, 0, none⟩) k k]) ?_ rfl ⟨_, rfl, HG2.out.more fun b h => ⟨by have := h.1; omega, h.2⟩, k2⟩
      simp [results, Try.results125, go_sem, hc0, hc1]
end Go.Proofs.Ytokiejichnnmnaa
