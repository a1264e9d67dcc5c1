/- What stands through the law of kernels and solutions: a matrix in its box behind a Taker. -/
import Derived.Test.YtinoomcboinokaaGreatLOwnB
import Derived.Test.YtinoomcboinokaaGreatLApply
import Derived.Test.YtinoomcboinokaaGreatLSolM
import Derived.Test.YtinoomcboinokaaGreatLSolve
namespace Go.Proofs.YtinoomcboinokaaGreat
open Go Go.RowKit Num

/-- A drawn list, a row of which is replaced. -/
theorem OwnB.put {w5 X : World} {t : Nat} {v : Value} {k n : Nat} {G : Nat → Nat → Int} {rs : Nat → Value} (h : OwnB w5 t v k n G rs X) (ht : t < w5.heap.size) {j : Nat} (hj : j < k) {cv : Value} {f : Nat → Int} (hc : Vec X (fun b => Far t X b ∧ v.ownBlock ≠ some b) cv n f) :
    ∃ gb cap cur, v = .slice (some ⟨gb, 0, none⟩) k cap ∧ w5.heap.size ≤ gb ∧ Row X gb 22 cur ∧ (∃ u, cur[j]? = some u) ∧ Grid (X.setCell ⟨gb, j, none⟩ cv) (Far t (X.setCell ⟨gb, j, none⟩ cv)) v k (fun _ => n) (fun i => if i = j then f else G i) := by
  rcases h.own.2 with ⟨_, hz⟩ | ⟨gb, cap, cur, rfl, hbase, hgbk, r1, r2, r3, r4⟩
  · omega
  · have hrow : Row X gb 22 cur := hgbk
    have hg1 : ∀ i, i < k → cur[i]? = some (rs i) := fun i hi => by
      have h1 : ((List.range k).map rs)[i]? = some (rs i) := by simp [hi]
      rw [← r4, List.getElem?_take_of_lt (by omega)] at h1
      rw [← Array.getElem?_toList]; exact h1
    have hjs : j < cur.size := (Array.getElem?_eq_some_iff.1 (hg1 j hj)).1
    have hsz : (X.setCell ⟨gb, j, none⟩ cv).heap.size = X.heap.size := by simp
    have hvk : ∀ (u : Value) (f : Nat → Int), Vec X (fun b => Far t X b ∧ (Value.slice (some ⟨gb, 0, none⟩) k cap).ownBlock ≠ some b) u n f → Vec (X.setCell ⟨gb, j, none⟩ cv) (Far t (X.setCell ⟨gb, j, none⟩ cv)) u n f := fun u f hu =>
      hu.keep (fun b hb => ⟨hb.1.1, by rw [hsz]; exact hb.1.2⟩) (fun q hq => World.cell?_setCell_far _ _ _ _ (fun e => hq.2 (congrArg some e))) (fun _ _ => rfl)
    refine ⟨gb, cap, cur, rfl, hbase, hrow, ⟨_, hg1 j hj⟩, _, cap, rfl, r1, fun _ => ⟨gb, 0, rfl, ⟨by omega, by rw [hsz]; exact hrow.lt⟩, fun i hi => ?_⟩⟩
    rw [Nat.zero_add]
    by_cases e : i = j
    · subst e
      refine ⟨cv, (hrow.set i cv).cell (by rw [Array.getElem?_setIfInBounds_self]; simp; omega), ?_⟩
      dsimp only
      rw [if_pos rfl]
      exact hvk _ _ hc
    · refine ⟨rs i, (hrow.set j cv).cell (by rw [Array.getElem?_setIfInBounds_ne (Ne.symm e)]; exact hg1 i hi), ?_⟩
      dsimp only
      rw [if_neg e]
      exact hvk _ _ (h.row i hi)

theorem OwnB.form {w5 X : World} {t : Nat} {v : Value} {k n : Nat} {G : Nat → Nat → Int} {rs : Nat → Value} (h : OwnB w5 t v k n G rs X) (hk : 1 ≤ k) : ∃ gb cap, v = .slice (some ⟨gb, 0, none⟩) k cap ∧ w5.heap.size ≤ gb := by
  rcases h.own.2 with ⟨_, hz⟩ | ⟨gb, cap, cur, rfl, hbase, _⟩
  · omega
  · exact ⟨gb, cap, rfl, hbase⟩
/-- The matrix stands in its box behind the Taker. -/
structure SC (w : World) (t : Nat) (A : Option Addr) (c N : Nat) (z : Nat → Int) (p : Int) (bx : Nat) (v : Value) (m n : Nat) (F : Nat → Nat → Int) (X : World) : Prop where
  g : Grid X (Far t X) v m (fun _ => n) F
  box : Row X bx 31 #[.int .i64 p, v]
  bt : t < bx
  tk : ∃ q, MTk X t A c N z q
  b : Below w.heap.size w X
theorem SC.calls {w X Y : World} {t : Nat} {A : Option Addr} {c N : Nat} {z : Nat → Int} {p : Int} {bx : Nat} {v : Value} {m n : Nat} {F : Nat → Nat → Int} (h : SC w t A c N z p bx v m n F X) (hb : Below X.heap.size X Y) : SC w t A c N z p bx v m n F Y :=
  ⟨far_calls h.g hb, h.box.below hb h.box.lt, h.bt, h.tk.imp fun _ hq => hq.but hb hq.1.lt, h.b.trans (hb.mono h.b.size)⟩
theorem SC.turns {w X Y : World} {t : Nat} {A : Option Addr} {c N : Nat} {z : Nat → Int} {p : Int} {bx : Nat} {v : Value} {m n q : Nat} {F : Nat → Nat → Int} (h : SC w t A c N z p bx v m n F X) (hw : w.heap.size ≤ t) (ht : Turn (· = t) X Y) (hq : MTk Y t A c N z q) : SC w t A c N z p bx v m n F Y :=
  ⟨grid_far h.g ht, h.box.turn ht (fun (e : bx = t) => by have := h.bt; omega), h.bt, ⟨q, hq⟩, below_turn h.b ht hw⟩
theorem SC.drew {w X : World} {t : Nat} {A : Option Addr} {c N : Nat} {z : Nat → Int} {p : Int} {bx : Nat} {v : Value} {m n : Nat} {F : Nat → Nat → Int} (h : SC w t A c N z p bx v m n F X) (k : Nat) : SC w t A c N z p bx v m n F (X.drewN k) :=
  ⟨far_drew h.g k, h.box, h.bt, h.tk.imp fun _ hq => ⟨hq.1, hq.2.keep (fun _ h => h) (fun _ _ => rfl) (fun _ _ => rfl)⟩, ⟨h.b.os, h.b.tape, h.b.output, h.b.size, h.b.block⟩⟩
theorem SC.drew1 {w X : World} {t : Nat} {A : Option Addr} {c N : Nat} {z : Nat → Int} {p : Int} {bx : Nat} {v : Value} {m n : Nat} {F : Nat → Nat → Int} (h : SC w t A c N z p bx v m n F X) : SC w t A c N z p bx v m n F X.drew := h.drew 1
theorem SC.grid {w X : World} {t : Nat} {A : Option Addr} {c N : Nat} {z : Nat → Int} {p : Int} {bx : Nat} {v : Value} {m n : Nat} {F : Nat → Nat → Int} (h : SC w t A c N z p bx v m n F X) : Grid X (· < X.heap.size) v m (fun _ => n) F := h.g.more fun _ h => h.2
theorem SC.tlt {w X : World} {t : Nat} {A : Option Addr} {c N : Nat} {z : Nat → Int} {p : Int} {bx : Nat} {v : Value} {m n : Nat} {F : Nat → Nat → Int} (h : SC w t A c N z p bx v m n F X) : t < X.heap.size := Nat.lt_trans h.bt h.box.lt

/-- A row times a matrix that passes. -/
def GivesV2 (w : World) (n : Nat) (g : Nat → Int) (e : Ending) (w' : World) : Prop := ∃ r, e = .returned r ∧ Vec w' (New w w') r n g ∧ Below w.heap.size w w'
/-- The product's entries. -/
def appF (p : Int) (m : Nat) (y : Nat → Int) (f : Nat → Nat → Int) (j : Nat) : Int := dotTo (fun i => (resV (y i) p.toNat : Nat)) f j m % p
set_option maxRecDepth 100000 in
set_option maxHeartbeats 1000000 in
theorem apply_ok (v ra : Value) (m n : Nat) (y : Nat → Int) (f : Nat → Nat → Int) (p : Int) (w : World) (hv : Vec w (· < w.heap.size) v m y) (ha : Grid w (· < w.heap.size) ra m (fun _ => n) f) (hx : chkM p m (fun _ => n) f = 0) :
    Calls Tryz.prog 11 #[v, .agg #[.int .i64 p, ra]] w (GivesV2 w n (appF p m y f)) := by
  obtain ⟨_, hm0, hm1, hn0, hn1, _⟩ := chkM_zero hx
  obtain ⟨Av, cv, rfl, -⟩ := hv.form
  obtain ⟨Aa, ca, rfl, -⟩ := ha.form
  have hb := (Below.refl w.heap.size w).alloc (Nat.le_refl _) (.cells #[.int .i64 p, .slice Aa m ca] 31)
  have hr := row_new (W := w) rfl 31 #[.int .i64 p, .slice Aa m ca]
  have hz : (w.alloc (.cells #[.int .i64 p, .slice Aa m ca] 31)).heap.size = w.heap.size + 1 := by simp
  have HA := Lib.hid (rApply_any (.slice Av m cv) (.slice Aa m ca) m m (fun _ => n) y f p (w.alloc (.cells #[.int .i64 p, .slice Aa m ca] 31)) (by omega) (by omega) (fun _ _ => by omega) ((hv.below (fun _ h => h) hb).more fun b h => by omega) ((ha.below (fun _ h => h) hb).more fun b h => by omega) 0 hx.symm)
  rw [if_neg (by decide), if_neg (by simp)] at HA
  have HB := Lib.hid hb
  have c0 := hr.cell (i := 0) rfl
  have c1 := hr.cell (i := 1) rfl
  have HE := Lib.hid (fun (r : Value) (w' : World) (h1 : Vec w' (New w w') r n (appF p m y f)) (h2 : Below w.heap.size w w') => (show GivesV2 w n (appF p m y f) (.returned r) w' from ⟨r, rfl, h1, h2⟩))
  change Hid (Calls _ _ _ _ (ApP 0 n (appF p m y f) _)) at HA
  generalize GivesV2 w n (appF p m y f) = PP at HE ⊢
  generalize appF p m y f = g at HA HE
  clear hv ha hb hr hx
  go_enter Tryz.func11, Tryz.ntmps11
  go_wp2_with fail
  refine HA.out.mono ?_
  rintro e w1 ⟨-, h1⟩
  obtain ⟨r, rfl, hr, hb⟩ := h1 rfl
  have HEE := Lib.hid (HE.out r w1 (hr.more fun b h => ⟨by have := h.1; omega, h.2⟩) (HB.out.trans (hb.mono HB.out.size)))
  obtain ⟨Ar, cr, rfl, -⟩ := hr.form
  clear hr hb h1
  go_wp2
  exact HEE.out
theorem appF_in {p : Int} (hp : 0 < p) (m n : Nat) (y : Nat → Int) (f : Nat → Nat → Int) : InP p n (appF p m y f) := fun _ _ => ⟨Int.emod_nonneg _ (by omega), Int.emod_lt_of_pos _ hp⟩
theorem dotTo_sm (x : Nat → Int) (f : Nat → Nat → Int) (j : Nat) : ∀ m, dotTo x f j m = sm (fun i => x i * f i j) m
  | 0 => rfl
  | m + 1 => by
    show dotTo x f j m + x m * f m j = sm (fun i => x i * f i j) m + x m * f m j
    rw [dotTo_sm x f j m]
theorem app_dvd {p : Int} (hp : 2 ≤ p) (m : Nat) (y : Nat → Int) (f : Nat → Nat → Int) (j : Nat) : p ∣ appF p m y f j - sm (fun i => y i * f i j) m := by
  obtain ⟨pn, rfl⟩ : ∃ pn : Nat, p = pn := ⟨p.toNat, by omega⟩
  unfold appF
  rw [dotTo_sm, Int.toNat_natCast]
  have h1 := dvd_mod_sub (pn : Int) (sm (fun i => (resV (y i) pn : Nat) * f i j) m)
  have h2 : (pn : Int) ∣ sm (fun i => (resV (y i) pn : Nat) * f i j) m - sm (fun i => y i * f i j) m := by
    rw [sm_sub]
    refine sm_dvd fun i _ => ?_
    show (pn : Int) ∣ (resV (y i) pn : Nat) * f i j - y i * f i j
    rw [← Int.sub_mul, resV_cast (y i) (by omega)]
    exact Int.dvd_mul_of_dvd_left (dvd_mod_sub _ _)
  have := Int.dvd_add h1 h2
  rwa [show ∀ a b c : Int, a - b + (b - c) = a - c from fun a b c => by omega] at this
theorem eq_of_dvd {p a b : Int} (ha : 0 ≤ a ∧ a < p) (hb : 0 ≤ b ∧ b < p) (h : p ∣ a - b) : a = b := by
  have h1 := Int.emod_emod_of_dvd a (Int.dvd_refl p)
  have h2 : a % p = b % p := Int.emod_eq_emod_iff_emod_sub_eq_zero.2 (Int.emod_eq_zero_of_dvd h)
  rwa [Int.emod_eq_of_lt ha.1 ha.2, Int.emod_eq_of_lt hb.1 hb.2] at h2
end Go.Proofs.YtinoomcboinokaaGreat
