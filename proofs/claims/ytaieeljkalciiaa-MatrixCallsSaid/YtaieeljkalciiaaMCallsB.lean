/- The walk of MatrixCalls: what lives between its calls. -/
import Derived.Test.YtaieeljkalciiaaMRefC
import Derived.Test.YtaieeljkalciiaaMRefE
import Derived.Test.YtaieeljkalciiaaMRefG
import Derived.Test.YtaieeljkalciiaaMLarge
import Derived.Test.YtaieeljkalciiaaMSame
namespace Go.Proofs.Ytaieeljkalciiaa
open Go Go.RowKit Num

/-- The inputs: two matrices and a list. -/
structure Inp where
  pa : Int
  Aa : Option Addr
  ca : Nat
  ma : Nat
  na : Nat → Nat
  fa : Nat → Nat → Int
  pb : Int
  Ab : Option Addr
  cb : Nat
  mb : Nat
  nb : Nat → Nat
  fb : Nat → Nat → Int
  VA : Option Addr
  vc : Nat
  l : Nat
  y : Nat → Int
/-- A result: the matrix and the error. -/
structure Res where
  P : Int
  M : Nat
  N : Nat
  F : Nat → Nat → Int
  E : Int
open Classical in
noncomputable def resM (x : Int) (fit : Prop) (p : Int) (m n : Nat) (f : Nat → Nat → Int) : Res := if x ≠ 0 then ⟨0, 0, 0, f, x⟩ else if fit then ⟨p, m, n, f, 0⟩ else ⟨0, 0, 0, f, 10⟩
theorem resM_bound {x : Int} {fit : Prop} {p : Int} {m n : Nat} {f : Nat → Nat → Int} {b : Nat} (hm : m ≤ b) (hn : n ≤ b) : (resM x fit p m n f).M ≤ b ∧ (resM x fit p m n f).N ≤ b := by
  unfold resM
  split
  · exact ⟨Nat.zero_le _, Nat.zero_le _⟩
  · split
    · exact ⟨hm, hn⟩
    · exact ⟨Nat.zero_le _, Nat.zero_le _⟩
def GivesZ (w : World) (R : Res) (e : Ending) (w' : World) : Prop := ∃ A c, e = .returned (.tuple #[.agg #[.int .i64 R.P, .slice A R.M c], .int .i64 R.E]) ∧ Grid w' (New w w') (.slice A R.M c) R.M (fun _ => R.N) R.F ∧ Below w.heap.size w w'
theorem givesR_bad {w w' : World} {x : Int} {e : Ending} {f : Nat → Nat → Int} (h : BadM w x e w') : GivesZ w ⟨0, 0, 0, f, x⟩ e w' := ⟨none, 0, h.1, ⟨none, 0, rfl, Nat.le_refl _, fun h => absurd h (Nat.lt_irrefl 0)⟩, h.2⟩
theorem givesR_ok {w w' : World} {p : Int} {m n : Nat} {f : Nat → Nat → Int} {e : Ending} (h : OkM w p m n f e w') : GivesZ w ⟨p, m, n, f, 0⟩ e w' := by
  obtain ⟨r, rfl, hg, hb⟩ := h
  obtain ⟨A, c, rfl, _⟩ := hg.form
  exact ⟨A, c, rfl, hg, hb⟩
theorem givesR_of {x : Int} {fit : Prop} {w w' : World} {p : Int} {m n : Nat} {f : Nat → Nat → Int} {e : Ending} (h : MPost x fit w p m n f e w') : GivesZ w (resM x fit p m n f) e w' := by
  unfold resM
  by_cases hx : x ≠ 0
  · rw [if_pos hx]; exact givesR_bad (h.1 hx)
  · rw [if_neg hx]
    have hx0 : x = 0 := Classical.byContradiction hx
    by_cases hf : fit
    · rw [if_pos hf]; exact givesR_ok (h.2.2 hx0 hf)
    · rw [if_neg hf]; exact givesR_bad (h.2.1 hx0 hf)
noncomputable def resOne (n p : Int) : Res := if chk1 n p ≠ 0 then ⟨0, 0, 0, oneF, chk1 n p⟩ else ⟨p, n.toNat, n.toNat, oneF, 0⟩
theorem givesR_one {n p : Int} {w w' : World} {e : Ending} (h : OneP (chk1 n p) n p w e w') : GivesZ w (resOne n p) e w' := by
  unfold resOne
  by_cases hx : chk1 n p ≠ 0
  · rw [if_pos hx]; exact givesR_bad (h.1 hx)
  · rw [if_neg hx]; exact givesR_ok (h.2 (Classical.byContradiction hx))
theorem resOne_bound (n p : Int) : (resOne n p).M ≤ 1000000 ∧ (resOne n p).N ≤ 1000000 := by
  unfold resOne
  by_cases hx : chk1 n p ≠ 0
  · rw [if_pos hx]; exact ⟨Nat.zero_le _, Nat.zero_le _⟩
  · rw [if_neg hx]
    have h0 : chk1 n p = 0 := Classical.byContradiction hx
    unfold chk1 at h0
    split at h0
    · cases h0
    · split at h0
      · cases h0
      · rename_i h1 h2
        unfold sizeB at h2
        simp at h2
        show n.toNat ≤ 1000000 ∧ n.toNat ≤ 1000000
        omega
/-- What Apply gives. -/
def GivesA (w : World) (z : Int) (n : Nat) (g : Nat → Int) (e : Ending) (w' : World) : Prop := ∃ A c, e = .returned (.tuple #[.slice A (if z ≠ 0 then 0 else n) c, .int .i64 z]) ∧ Vec w' (New w w') (.slice A (if z ≠ 0 then 0 else n) c) (if z ≠ 0 then 0 else n) g ∧ Below w.heap.size w w'
theorem givesA_of {w w' : World} {z : Int} {n : Nat} {g : Nat → Int} {e : Ending} (h : ApP z n g w e w') : GivesA w z n g e w' := by
  unfold GivesA
  by_cases hz : z ≠ 0
  · rw [if_pos hz]
    obtain ⟨h1, h2⟩ := h.1 hz
    exact ⟨none, 0, h1, Vec.nil _ _ _, h2⟩
  · rw [if_neg hz]
    have hz0 : z = 0 := Classical.byContradiction hz
    obtain ⟨r, h1, h2, h3⟩ := h.2 hz0
    obtain ⟨A, c, rfl, _⟩ := h2.form
    exact ⟨A, c, by rw [h1, hz0], h2, h3⟩

structure MatR where
  B : Nat
  A : Option Addr
  c : Nat
  R : Res
/-- Between two calls of the law. -/
structure CS (w : World) (I : Inp) (L : List MatR) (W : World) : Prop where
  b : Below w.heap.size w W
  ra : Row W w.heap.size 46 #[.int .i64 I.pa, .slice I.Aa I.ma I.ca]
  rb : Row W (w.heap.size + 1) 46 #[.int .i64 I.pb, .slice I.Ab I.mb I.cb]
  ga : Grid W (· < W.heap.size) (.slice I.Aa I.ma I.ca) I.ma I.na I.fa
  gb : Grid W (· < W.heap.size) (.slice I.Ab I.mb I.cb) I.mb I.nb I.fb
  v : Vec W (· < W.heap.size) (.slice I.VA I.l I.vc) I.l I.y
  l : ∀ (i : Nat) (x : MatR), L[i]? = some x → Row W x.B 46 #[.int .i64 x.R.P, .slice x.A x.R.M x.c] ∧ Grid W (· < W.heap.size) (.slice x.A x.R.M x.c) x.R.M (fun _ => x.R.N) x.R.F
theorem CS.on {w W W' : World} {I : Inp} {L : List MatR} (h : CS w I L W) (hb : Below W.heap.size W W') : CS w I L W' :=
  ⟨h.b.trans (hb.mono h.b.size), h.ra.below hb h.ra.lt, h.rb.below hb h.rb.lt, h.ga.on hb, h.gb.on hb, h.v.on hb, fun i x hi => ⟨(h.l i x hi).1.below hb (h.l i x hi).1.lt, (h.l i x hi).2.on hb⟩⟩
theorem CS.cons {w W W' : World} {I : Inp} {L : List MatR} {A : Option Addr} {c : Nat} {R : Res} (h : CS w I L W) (hb : Below W.heap.size W W') (hg : Grid W' (New W W') (.slice A R.M c) R.M (fun _ => R.N) R.F) :
    CS w I (⟨W'.heap.size, A, c, R⟩ :: L) (W'.alloc (.cells #[.int .i64 R.P, .slice A R.M c] 46)) := by
  have hB : Below W'.heap.size W' (W'.alloc (.cells #[.int .i64 R.P, .slice A R.M c] 46)) := (Below.refl _ _).alloc (Nat.le_refl _) _
  have h2 := (h.on hb).on hB
  refine ⟨h2.b, h2.ra, h2.rb, h2.ga, h2.gb, h2.v, fun i x hi => ?_⟩
  cases i with
  | zero => injection hi with hi; subst hi; exact ⟨row_new rfl _ _, hg.new_lt.on hB⟩
  | succ i => exact h2.l i x hi
theorem CS.c0 {w W : World} {I : Inp} {L : List MatR} (h : CS w I L W) (i : Nat) {x : MatR} (hi : L[i]? = some x) : W.cell? ⟨x.B, 0, none⟩ = some (.int .i64 x.R.P) := (h.l i x hi).1.cell rfl
theorem CS.c1 {w W : World} {I : Inp} {L : List MatR} (h : CS w I L W) (i : Nat) {x : MatR} (hi : L[i]? = some x) : W.cell? ⟨x.B, 1, none⟩ = some (.slice x.A x.R.M x.c) := (h.l i x hi).1.cell rfl
theorem sameR {w W : World} {I : Inp} {L : List MatR} (h : CS w I L W) (i j : Nat) {x y : MatR} (hi : L[i]? = some x) (hj : L[j]? = some y) (he : x.R = y.R) (hb : x.R.M ≤ 1000000 ∧ x.R.N ≤ 1000000) :
    Calls Try.prog 45 #[.agg #[.int .i64 x.R.P, .slice x.A x.R.M x.c], .agg #[.int .i64 y.R.P, .slice y.A y.R.M y.c]] W fun e w' => e = .returned (.bool true) ∧ Below W.heap.size W w' := by
  have g1 := (h.l i x hi).2
  have g2 := (h.l j y hj).2
  rw [← he] at g2 ⊢
  have hg : gridB x.R.M (fun _ => x.R.N) x.R.F x.R.F = true := by
    unfold gridB
    exact decide_eq_true fun i hi => by unfold eqB; exact decide_eq_true fun j hj => rfl
  have := mSame_any (.slice x.A x.R.M x.c) (.slice y.A x.R.M y.c) x.R.P x.R.M (fun _ => x.R.N) x.R.F x.R.F W hb.1 (fun _ _ => hb.2) g1 g2
  rwa [hg] at this
end Go.Proofs.Ytaieeljkalciiaa
