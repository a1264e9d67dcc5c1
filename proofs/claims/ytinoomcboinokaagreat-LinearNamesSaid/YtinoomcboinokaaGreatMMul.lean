/- MTimes, MMul, joined. -/
import Derived.Test.YtinoomcboinokaaGreatMComb
import Derived.Deep.RegionHeld3
import Derived.BigRegion

/- matrix.times and matrix.apply. -/
namespace Go.Proofs.YtinoomcboinokaaGreat
open Go Go.RowKit Num

theorem below_drew {B : Nat} {W W1 : World} (h : Below B W W1) : Below B W W1.drew := ⟨h.os, h.tape, h.output, h.size, h.block⟩
theorem below_alloc {B : Nat} {W W1 : World} (h : Below B W W1) (hB : B ≤ W.heap.size) (o : Obj) : Below B W (W1.alloc o) := h.alloc (Nat.le_trans hB h.size) o
theorem row_new {W : World} {g : Nat} (h : W.heap.size = g) (t : TypeId) (cs : Array Value) : Row (W.alloc (.cells cs t)) g t cs := h ▸ Row.new W t cs
theorem vec_zero' {W : World} {S : Nat → Prop} {g n : Nat} (hS : S g) (h : Row W g 3 (CTab n fun _ => .int .i64 0)) : Vec W S (.slice (some ⟨g, 0, none⟩) n n) n (fun _ => 0) := Row.vec (f := fun _ => 0) h hS (Nat.le_refl _)
theorem vec_zero {W : World} {g n : Nat} (h : Row W g 3 (CTab n fun _ => .int .i64 0)) : Vec W (· < W.heap.size) (.slice (some ⟨g, 0, none⟩) n n) n (fun _ => 0) := Row.vec (f := fun _ => 0) h h.lt (Nat.le_refl _)

set_option maxRecDepth 100000 in
set_option maxHeartbeats 400000 in
theorem mtimes_any (k p : Int) (v : Value) (n : Nat) (g : Nat → Int) (S : Nat → Prop) (w : World) (hS : ∀ b, S b → b < w.heap.size) (hn : n ≤ 1000000) (hv : Vec w S v n g) (hp0 : 0 < p) (hp1 : p ≤ 10000) (hg : InP p n g) (hk : 0 ≤ k ∧ k ≤ p) :
    Calls Tryz.prog 56 #[.int .i64 k, v, .int .i64 p] w (GivesV w n (axpy k p (fun _ => 0) g)) := by
  have hmk := fun W => make_ints n (by omega) W
  obtain ⟨A, c, rfl, hc⟩ := hv.form
  have HC := Lib.hid (fun (W1 : World) (X B C : Nat) (hb : Below w.heap.size w W1) (hX : Row W1 X 3 (CTab n fun _ => .int .i64 0)) (hB : Row W1 B 3 #[.int .i64 k]) (hC : Row W1 C 3 #[.int .i64 p]) =>
    (combine_plus (.slice (some ⟨X, 0, none⟩) n n) (.slice A n c) n n (fun _ => 0) g k p B C (· < W1.heap.size) W1 (fun b h => h) hB.lt hC.lt hn (Nat.le_refl _) (vec_zero hX) ((hv.below hS hb).more fun b h => Nat.lt_of_lt_of_le (hS b h) hb.size) hp1 (fun j _ => ⟨Int.le_refl 0, hp0⟩) hg hk hB hC).mono
    (R' := GivesV w n (axpy k p (fun _ => 0) g)) fun e w' ⟨r, h1, h2, h3⟩ => ⟨r, h1, h2.new_more hb.size (Nat.le_refl _), hb.trans (h3.mono hb.size)⟩)
  clear hv
  go_enter Tryz.func56, Tryz.ntmps56
  go_wp2
  go_region_held3 (fun W => Below w.heap.size w W) ((first | assumption | exact below_drew (Below.refl _ _) | exact below_alloc (by assumption) (Nat.le_refl _) _ | exact below_alloc (below_alloc (by assumption) (Nat.le_refl _) _) (Nat.le_refl _) _)) (first | (go_at_call 60; refine (plus_any _ _ _).mono ?_; rintro e w' ⟨rfl, rfl⟩) | (go_at_call 59; refine (HC.out _ _ _ _ (by assumption) (by first | exact ((row_new (by simp) _ _).alloc _).alloc _ | exact row_new (by simp) _ _) (by first | exact (row_new (by simp) _ _).alloc _ | exact ((row_new (by simp) _ _).alloc _).alloc _) (by first | exact row_new (by simp) _ _ | exact (row_new (by simp) _ _).alloc _)).mono ?_; rintro e w' ⟨r, rfl, hV, hB⟩))
  all_goals
    go_wp2
    go_ret
    exact ⟨_, rfl, hV, hB⟩

/-- The sum of the first k rows, each times its number: the entry at j. -/
def dotTo (x : Nat → Int) (g : Nat → Nat → Int) (j : Nat) : Nat → Int
  | 0 => 0
  | k + 1 => dotTo x g j k + x k * g k j
theorem dotTo_step (x : Nat → Int) (g : Nat → Nat → Int) (p : Int) (k j : Nat) : axpy (x k) p (fun j => dotTo x g j k % p) (g k) j = dotTo x g j (k + 1) % p := by
  show (dotTo x g j k % p + x k * g k j) % p = (dotTo x g j k + x k * g k j) % p
  rw [Int.emod_add_emod]
theorem mod_in {p : Int} (hp : 0 < p) (f : Nat → Int) (n : Nat) : InP p n (fun j => f j % p) := fun j _ => ⟨Int.emod_nonneg _ (by omega), Int.emod_lt_of_pos _ hp⟩
theorem Vec.lt {w : World} {S : Nat → Prop} {v : Value} {n : Nat} {f : Nat → Int} (h : Vec w S v n f) (hS : ∀ b, S b → b < w.heap.size) : Vec w (· < w.heap.size) v n f := h.more hS
theorem Vec.on {w w' : World} {v : Value} {n : Nat} {f : Nat → Int} (h : Vec w (· < w.heap.size) v n f) (hb : Below w.heap.size w w') : Vec w' (· < w'.heap.size) v n f := (h.below (fun _ h => h) hb).more fun _ h => Nat.lt_of_lt_of_le h hb.size
theorem Grid.on {w w' : World} {v : Value} {m : Nat} {n : Nat → Nat} {f : Nat → Nat → Int} (h : Grid w (· < w.heap.size) v m n f) (hb : Below w.heap.size w w') : Grid w' (· < w'.heap.size) v m n f := (h.below (fun _ h => h) hb).more fun _ h => Nat.lt_of_lt_of_le h hb.size
/-- Residues in all rows. -/
def InG (p : Int) (m n : Nat) (g : Nat → Nat → Int) : Prop := ∀ i, i < m → InP p n (g i)

set_option maxRecDepth 100000 in
set_option maxHeartbeats 1000000 in
theorem apply_any (v rows : Value) (m n : Nat) (x : Nat → Int) (g : Nat → Nat → Int) (p : Int) (w : World) (hm0 : 1 ≤ m) (hm : m ≤ 1000) (hn : n ≤ 1000) (hv : Vec w (· < w.heap.size) v m x) (hg : Grid w (· < w.heap.size) rows m (fun _ => n) g)
    (hp0 : 2 ≤ p) (hp1 : p ≤ 10000) (hx : InP p m x) (hgi : InG p m n g) :
    Calls Tryz.prog 77 #[v, .agg #[.int .i64 p, rows]] w (GivesV w n (fun j => dotTo x g j m % p)) := by
  have hmk := fun W => make_ints n (by omega) W
  obtain ⟨bv, ov, cv, rfl, hcv, hbv, hxc⟩ := hv.at_ (by omega)
  obtain ⟨bg, og, cg, RA, RC, rfl, hcg, hbg, hgc⟩ := hg.at_ (by omega)
  have hr0 := (hgc 0 (by omega)).1
  rw [Nat.add_zero] at hr0
  have HXC := Lib.hid hxc
  have HGC := Lib.hid hgc
  have HX := Lib.hid hx
  have HGI := Lib.hid hgi
  have H0 := Lib.hid (fun (W : World) (X : Nat) (h : Row W X 3 (CTab n fun _ => .int .i64 0)) (hX : w.heap.size ≤ X) => (vec_zero' (S := New w W) ⟨hX, h.lt⟩ h).congr (g := fun j => dotTo x g j 0 % p) fun j _ => by show (0 : Int) = 0 % p; simp)
  have hbox := row_new (W := w) rfl 31 #[.int .i64 p, .slice (some ⟨bg, og, none⟩) m cg]
  have HW1 := Lib.hid (show Below w.heap.size w (w.alloc (.cells #[.int .i64 p, .slice (some ⟨bg, og, none⟩) m cg] 31)) from (Below.refl _ _).alloc (Nat.le_refl _) _)
  have hsz : (w.alloc (.cells #[.int .i64 p, .slice (some ⟨bg, og, none⟩) m cg] 31)).heap.size = w.heap.size + 1 := by simp
  clear hv hg hxc hgc hx hgi
  go_enter Tryz.func77, Tryz.ntmps77
  go_wp2
  generalize w.alloc (.cells #[.int .i64 p, .slice (some ⟨bg, og, none⟩) m cg] 31) = w1 at hbox HW1 hsz
  go_loopw [5, 16] (fun s i wr => ∃ k : Nat, i = .int .i64 k ∧ k ≤ m ∧ Below w1.heap.size w1 wr ∧ Vec wr (New w wr) s n (fun j => dotTo x g j k % p)) (fun _ i _ => m - (intOf i).toNat)
  case atStart => exact ⟨0, rfl, Nat.zero_le _, (Below.refl _ _).alloc (Nat.le_refl _) _, H0.out _ _ (row_new hsz _ _) (by omega)⟩
  case round =>
    obtain ⟨k, rfl, hk, hB, hV⟩ := hrel
    obtain ⟨A, c, rfl, hc⟩ := hV.form
    have hB0 := HW1.out.trans (hB.mono HW1.out.size)
    by_cases hlt : k < m
    · have hxk : wr.cell? ⟨bv, ov + k, none⟩ = some (.int .i64 (x k)) := (hB0.cell (p := ⟨bv, ov + k, none⟩) hbv).trans (HXC.out k hlt)
      obtain ⟨hr1, hr2⟩ := HGC.out k hlt
      have hrk : wr.cell? ⟨bg, og + k, none⟩ = some (.slice (RA k) n (RC k)) := (hB0.cell (p := ⟨bg, og + k, none⟩) hbg).trans hr1
      have hbw := Row.below hbox hB (by omega)
      have hbp : wr.cell? ⟨w.heap.size, 0, none⟩ = some (.int .i64 p) := hbw.cell rfl
      have hbr : wr.cell? ⟨w.heap.size, 1, none⟩ = some (.slice (some ⟨bg, og, none⟩) m cg) := hbw.cell rfl
      have hxin := HX.out k hlt
      have hgin := HGI.out k hlt
      have hs := fun j => dotTo_step x g p k j
      have hR := hr2.on hB0
      have hz := hB.size
      by_cases hx0 : x k = 0
      · have hV' := hV.congr (g := fun j => dotTo x g j (k + 1) % p) fun j _ => by show _ = (dotTo x g j k + x k * g k j) % p; rw [hx0]; simp
        have HV := Lib.hid hV'
        rw [hx0] at hxk
        clear hV hV' hs hR hr2 hB0 hbw hxin hgin hx0
        go_wp2
        go_roundw
        case rel => exact ⟨k + 1, by go_num, by omega, hB, HV.out⟩
        case measure => simp [intOf]; omega
      · have hne : (x k != 0) = true := by simpa using hx0
        have HC := Lib.hid (fun (W1 : World) (B C : Nat) (hb : Below wr.heap.size wr W1) (hX : Row W1 B 3 #[.int .i64 (x k)]) (hC : Row W1 C 3 #[.int .i64 p]) =>
          (combine_plus (.slice A n c) (.slice (RA k) n (RC k)) n n _ (g k) (x k) p B C (· < W1.heap.size) W1 (fun b h => h) hX.lt hC.lt (by omega) (Nat.le_refl _) (hV.new_lt.on hb) (hR.on hb) hp1 (mod_in (by omega) _ n) hgin ⟨hxin.1, by omega⟩ hX hC).mono
          (R' := fun e w' => ∃ r, e = .returned r ∧ Vec w' (New w w') r n (fun j => dotTo x g j (k + 1) % p) ∧ Below wr.heap.size wr w') fun e w' ⟨r, h1, h2, h3⟩ => ⟨r, h1, (h2.congr fun j _ => hs j).new_more (by have := hb.size; have := HW1.out.size; omega) (Nat.le_refl _), hb.trans (h3.mono hb.size)⟩)
        have HK := Lib.hid (fun (W : World) (hb : Below wr.heap.size wr W) => (show Below wr.heap.size wr W ∧ W.cell? ⟨w.heap.size, 0, none⟩ = some (.int .i64 p) ∧ W.cell? ⟨w.heap.size, 1, none⟩ = some (.slice (some ⟨bg, og, none⟩) m cg) ∧ W.cell? ⟨bg, og + k, none⟩ = some (.slice (RA k) n (RC k)) from
          ⟨hb, (hb.cell (p := ⟨w.heap.size, 0, none⟩) (show w.heap.size < wr.heap.size by omega)).trans hbp, (hb.cell (p := ⟨w.heap.size, 1, none⟩) (show w.heap.size < wr.heap.size by omega)).trans hbr, (hb.cell (p := ⟨bg, og + k, none⟩) (show bg < wr.heap.size by omega)).trans hrk⟩))
        have HB := Lib.hid hB
        generalize x k = xk at hxk hne HC
        clear hV hs hR hr1 hr2 hB0 hbw hxin hgin hx0 hB
        go_wp2
        go_region_held3 (fun W => Below wr.heap.size wr W ∧ W.cell? ⟨w.heap.size, 0, none⟩ = some (.int .i64 p) ∧ W.cell? ⟨w.heap.size, 1, none⟩ = some (.slice (some ⟨bg, og, none⟩) m cg) ∧ W.cell? ⟨bg, og + k, none⟩ = some (.slice (RA k) n (RC k)))
          ((first | exact HK.out _ (below_drew (Below.refl _ _)) | exact HK.out _ (by assumption) | (go_split_ands; exact HK.out _ (below_alloc (below_alloc (by assumption) (Nat.le_refl _) _) (Nat.le_refl _) _))))
          (first | (go_at_call 60; refine (plus_any _ _ _).mono ?_; rintro e w' ⟨rfl, rfl⟩) | (go_at_call 59; refine (HC.out _ _ _ (by go_split_ands; assumption) (by exact (row_new (by simp) _ _).alloc _) (by exact row_new (by simp) _ _)).mono ?_; rintro e w' ⟨r, rfl, hV, hBn⟩))
        have HV := Lib.hid hV
        have HB2 := Lib.hid (HB.out.trans (hBn.mono hz))
        clear hV hBn HB
        go_wp2
        go_roundw
        case rel => exact ⟨k + 1, by go_num, by omega, HB2.out, HV.out⟩
        case measure => simp [intOf]; omega
    · have e : k = m := by omega
      subst e
      have HV := Lib.hid hV
      have HB := Lib.hid hB0
      clear hV hB hB0
      go_wp2
      go_ret
      exact ⟨_, rfl, HV.out, HB.out⟩
end Go.Proofs.YtinoomcboinokaaGreat

/- matrix.mul, column, one: grids that a call fills row by row. -/
namespace Go.Proofs.YtinoomcboinokaaGreat
open Go Go.RowKit Num

/-- k rows of the outer block g0 are filled. -/
def FillG (g0 m : Nat) (n : Nat → Nat) (f : Nat → Nat → Int) (k : Nat) (w : World) : Prop :=
  k ≤ m ∧ ∃ r : Nat → Value, Row w g0 22 (CTab m (part k r (.slice none 0 0))) ∧ ∀ i, i < k → Vec w (fun b => g0 < b ∧ b < w.heap.size) (r i) (n i) (f i)
theorem FillG.start {W : World} {g0 m : Nat} (n : Nat → Nat) (f : Nat → Nat → Int) (h : Row W g0 22 (CTab m fun _ => .slice none 0 0)) : FillG g0 m n f 0 W :=
  ⟨Nat.zero_le _, fun _ => .slice none 0 0, by rw [part_zero]; exact h, fun i hi => absurd hi (by omega)⟩
theorem FillG.row {g0 m : Nat} {n : Nat → Nat} {f : Nat → Nat → Int} {k : Nat} {w : World} (h : FillG g0 m n f k w) : ∃ cs, Row w g0 22 cs ∧ cs.size = m := by
  obtain ⟨_, r, hr, _⟩ := h; exact ⟨_, hr, CTab_size _ _⟩
theorem FillG.lt {g0 m : Nat} {n : Nat → Nat} {f : Nat → Nat → Int} {k : Nat} {w : World} (h : FillG g0 m n f k w) : g0 < w.heap.size := by
  obtain ⟨cs, hr, _⟩ := h.row; exact hr.lt
theorem FillG.put {g0 m : Nat} {n : Nat → Nat} {f : Nat → Nat → Int} {k i : Nat} {w : World} (h : FillG g0 m n f k w) (hi : i < m) : (∃ u, w.cell? ⟨g0, i, none⟩ = some u) ∧ w.frozen? ⟨g0, i, none⟩ = false := by
  obtain ⟨_, r, hr, _⟩ := h
  exact ⟨⟨_, hr.cell (CTab_get _ _ i hi)⟩, hr.frozen i⟩
theorem size_set (w : World) (p : Addr) (v : Value) : (w.setCell p v).heap.size = w.heap.size := by simp [World.setCell]
theorem FillG.on {g0 m : Nat} {n : Nat → Nat} {f : Nat → Nat → Int} {k : Nat} {w w' : World} (h : FillG g0 m n f k w) (hb : Below w.heap.size w w') : FillG g0 m n f k w' := by
  obtain ⟨hk, r, hr, hv⟩ := h
  exact ⟨hk, r, hr.below hb hr.lt, fun i hi => ((hv i hi).below (fun b h => h.2) hb).more fun b h => ⟨h.1, Nat.lt_of_lt_of_le h.2 hb.size⟩⟩
theorem FillG.step {g0 m : Nat} {n : Nat → Nat} {f : Nat → Nat → Int} {k : Nat} {w : World} {v : Value} (h : FillG g0 m n f k w) (hk : k < m) (hv : Vec w (fun b => g0 < b ∧ b < w.heap.size) v (n k) (f k)) : FillG g0 m n f (k + 1) (w.setCell ⟨g0, k, none⟩ v) := by
  obtain ⟨_, r, hr, hrv⟩ := h
  refine ⟨by omega, fun i => if i = k then v else r i, ?_, fun i hi => ?_⟩
  · have h1 := hr.set k v
    rw [part_congr m k r (fun i => if i = k then v else r i) _ (fun i hi => (if_neg (by omega)).symm)] at h1
    rw [part_set m k (fun i => if i = k then v else r i) _ v (if_pos rfl).symm] at h1
    exact h1
  · have hz := size_set w ⟨g0, k, none⟩ v
    by_cases e : i = k
    · subst e
      rw [show (fun j => if j = i then v else r j) i = v from if_pos rfl]
      refine (hv.set (p := ⟨g0, i, none⟩) (fun h => Nat.lt_irrefl _ h.1) v).more fun b h => ⟨h.1, by rw [hz]; exact h.2⟩
    · rw [show (fun j => if j = k then v else r j) i = r i from if_neg e]
      refine ((hrv i (by omega)).set (p := ⟨g0, k, none⟩) (fun h => Nat.lt_irrefl _ h.1) v).more fun b h => ⟨h.1, by rw [hz]; exact h.2⟩
/-- A store into an elder block. -/
theorem FillG.far {g0 m : Nat} {n : Nat → Nat} {f : Nat → Nat → Int} {k : Nat} {w : World} (h : FillG g0 m n f k w) {p : Addr} (hp : p.block < g0) (v : Value) : FillG g0 m n f k (w.setCell p v) := by
  obtain ⟨hk, r, hr, hrv⟩ := h
  exact ⟨hk, r, hr.far (Nat.ne_of_gt hp) v, fun i hi => ((hrv i hi).set (p := p) (fun h => by have := h.1; omega) v).more fun b h => ⟨h.1, by rw [size_set]; exact h.2⟩⟩
theorem FillG.grid {g0 m : Nat} {n : Nat → Nat} {f : Nat → Nat → Int} {w : World} (h : FillG g0 m n f m w) : Grid w (fun b => g0 ≤ b ∧ b < w.heap.size) (.slice (some ⟨g0, 0, none⟩) m m) m n f := by
  obtain ⟨_, r, hr, hv⟩ := h
  rw [part_all] at hr
  exact hr.grid ⟨Nat.le_refl _, hr.lt⟩ (Nat.le_refl _) fun i hi => (hv i hi).more fun b h => ⟨Nat.le_of_lt h.1, h.2⟩
/-- The block of a struct that a call returns. -/
theorem agg_res {w W : World} {R B : Nat} {t : TypeId} {a b : Value} (h : Row W R t #[a, b]) (hb : Below B w W) (hR : B ≤ R) (x y : Value) :
    Row ((W.setCell ⟨R, 0, none⟩ x).setCell ⟨R, 1, none⟩ y) R t #[x, y] ∧ Below B w ((W.setCell ⟨R, 0, none⟩ x).setCell ⟨R, 1, none⟩ y) :=
  ⟨(h.set 0 x).set 1 y, (hb.setCell (p := ⟨R, 0, none⟩) hR x).setCell (p := ⟨R, 1, none⟩) hR y⟩

/-- A call has given a matrix. -/
def GivesM (w : World) (p : Int) (m n : Nat) (f : Nat → Nat → Int) (e : Ending) (w' : World) : Prop := ∃ r, e = .returned (.agg #[.int .i64 p, r]) ∧ Grid w' (New w w') r m (fun _ => n) f ∧ Below w.heap.size w w'
/-- The product of two matrices. -/
def mulF (p : Int) (q : Nat) (f g : Nat → Nat → Int) (i j : Nat) : Int := dotTo (f i) g j q % p

end Go.Proofs.YtinoomcboinokaaGreat