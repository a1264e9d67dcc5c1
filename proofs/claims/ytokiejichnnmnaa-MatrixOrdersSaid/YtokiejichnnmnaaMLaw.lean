/- The laws' walks: the square matrices that live, each in a box of its own; the calls upon them. -/
import Derived.Test.YtokiejichnnmnaaMDraw
import Derived.Test.YtokiejichnnmnaaMLive2
import Derived.Test.YtokiejichnnmnaaMOneD
import Derived.Test.YtokiejichnnmnaaMTurn
import Derived.Test.YtokiejichnnmnaaMScale
import Derived.Test.YtokiejichnnmnaaMAdd
namespace Go.Proofs.Ytokiejichnnmnaa
open Go Go.RowKit Num

structure MatE where
  B : Nat
  A : Option Addr
  c : Nat
  f : Nat → Nat → Int
/-- The matrices of n rows modulo p that live in boxes. -/
def ML (w : World) (p : Int) (n : Nat) (L : List MatE) : Prop := ∀ (i : Nat) (x : MatE), L[i]? = some x → Row w x.B 61 #[.int .i64 p, .slice x.A n x.c] ∧ Grid w (· < w.heap.size) (.slice x.A n x.c) n (fun _ => n) x.f ∧ InG p n n x.f
theorem ML.nil (w : World) (p : Int) (n : Nat) : ML w p n [] := fun i x h => by simp at h
theorem ML.below {w w' : World} {p : Int} {n : Nat} {L : List MatE} (h : ML w p n L) (hb : Below w.heap.size w w') : ML w' p n L := fun i x hi => by
  obtain ⟨h1, h2, h3⟩ := h i x hi
  exact ⟨h1.below hb h1.lt, h2.on hb, h3⟩
/-- A call has given one more. -/
theorem ML.cons {w w' : World} {p : Int} {n c : Nat} {A : Option Addr} {f : Nat → Nat → Int} {L : List MatE} (h : ML w p n L) (hb : Below w.heap.size w w') (hg : Grid w' (New w w') (.slice A n c) n (fun _ => n) f) (hf : InG p n n f) :
    ML (w'.alloc (.cells #[.int .i64 p, .slice A n c] 61)) p n (⟨w'.heap.size, A, c, f⟩ :: L) := fun i x hi => by
  have hB : Below w'.heap.size w' (w'.alloc (.cells #[.int .i64 p, .slice A n c] 61)) := (Below.refl _ _).alloc (Nat.le_refl _) _
  cases i with
  | zero =>
    injection hi with hi
    subst hi
    exact ⟨row_new rfl _ _, (hg.new_lt).on hB, hf⟩
  | succ i => exact (h.below hb).below hB i x hi
theorem ML.c0 {w : World} {p : Int} {n : Nat} {L : List MatE} (h : ML w p n L) (i : Nat) {x : MatE} (hi : L[i]? = some x) : w.cell? ⟨x.B, 0, none⟩ = some (.int .i64 p) := (h i x hi).1.cell rfl
theorem ML.c1 {w : World} {p : Int} {n : Nat} {L : List MatE} (h : ML w p n L) (i : Nat) {x : MatE} (hi : L[i]? = some x) : w.cell? ⟨x.B, 1, none⟩ = some (.slice x.A n x.c) := (h i x hi).1.cell rfl
/-- A call has given a matrix. -/
def GivesX (w : World) (p : Int) (n : Nat) (f : Nat → Nat → Int) (e : Ending) (w' : World) : Prop :=
  ∃ A c, e = .returned (.tuple #[.agg #[.int .i64 p, .slice A n c], .int .i64 0]) ∧ Grid w' (New w w') (.slice A n c) n (fun _ => n) f ∧ InG p n n f ∧ Below w.heap.size w w'
theorem GivesX.of {w : World} {p : Int} {n : Nat} {f : Nat → Nat → Int} (hf : InG p n n f) {e : Ending} {w' : World} (h : OkM w p n n f e w') : GivesX w p n f e w' := by
  obtain ⟨r, rfl, hg, hb⟩ := h
  obtain ⟨A, c, rfl, _⟩ := hg.form
  exact ⟨A, c, rfl, hg, hf, hb⟩
/-- What the laws know of p and n. -/
structure Sized (p : Nat) (n : Nat) : Prop where
  hp : modB (p : Int) = true
  n1 : 1 ≤ n
  n2 : n ≤ 64
theorem Sized.p2 {p n : Nat} (h : Sized p n) : 2 ≤ p := by have := (modB_true h.hp).1; omega
theorem Sized.chk {p n : Nat} (h : Sized p n) {f : Nat → Nat → Int} (hf : InG (p : Int) n n f) : chkM (p : Int) n (fun _ => n) f = 0 := chkM_full h.hp h.n1 h.n2 h.n1 h.n2 hf

theorem mulL {p n : Nat} (hs : Sized p n) {W : World} {L : List MatE} (h : ML W (p : Int) n L) (i j : Nat) {x y : MatE} (hi : L[i]? = some x) (hj : L[j]? = some y) :
    Calls Try.prog 58 #[.agg #[.int .i64 p, .slice x.A n x.c], .agg #[.int .i64 p, .slice y.A n y.c]] W (GivesX W p n (mulF p n x.f y.f)) := by
  obtain ⟨_, g1, f1⟩ := h i x hi
  obtain ⟨_, g2, f2⟩ := h j y hj
  have hn := hs.n2
  have hp := hs.p2
  exact (Mul_any _ _ n n (fun _ => n) (fun _ => n) x.f y.f p p W (by omega) (fun _ _ => by omega) (by omega) (fun _ _ => by omega) g1 g2 0 (chkP_0 (hs.chk f1) (hs.chk f2) rfl).symm).mono fun e w' h => .of (mulF_in (by omega) _ _ _ _ _) (h.2.2 rfl rfl)
theorem addL {p n : Nat} (hs : Sized p n) {W : World} {L : List MatE} (h : ML W (p : Int) n L) (i j : Nat) {x y : MatE} (hi : L[i]? = some x) (hj : L[j]? = some y) :
    Calls Try.prog 46 #[.agg #[.int .i64 p, .slice x.A n x.c], .agg #[.int .i64 p, .slice y.A n y.c]] W (GivesX W p n (fun i => axpy 1 p (x.f i) (y.f i))) := by
  obtain ⟨_, g1, f1⟩ := h i x hi
  obtain ⟨_, g2, f2⟩ := h j y hj
  have hn := hs.n2
  have hp := hs.p2
  exact (Add_any _ _ n n (fun _ => n) (fun _ => n) x.f y.f p p W (by omega) (fun _ _ => by omega) (by omega) (fun _ _ => by omega) g1 g2 0 (chkP_0 (hs.chk f1) (hs.chk f2) rfl).symm).mono fun e w' h => .of (fun i _ => axpy_in (by omega) _ _ n) (h.2.2 rfl ⟨rfl, rfl⟩)
theorem turnL {p n : Nat} (hs : Sized p n) {W : World} {L : List MatE} (h : ML W (p : Int) n L) (i : Nat) {x : MatE} (hi : L[i]? = some x) :
    Calls Try.prog 48 #[.agg #[.int .i64 p, .slice x.A n x.c]] W (GivesX W p n (fun i j => x.f j i)) := by
  obtain ⟨_, g1, f1⟩ := h i x hi
  have hn := hs.n2
  exact (Turn_any _ n (fun _ => n) x.f p W (by omega) (fun _ _ => by omega) g1 0 (hs.chk f1).symm).mono fun e w' h => .of (fun i hi j hj => f1 j hj i hi) (h.2.2 rfl trivial)
theorem scaleL {p n : Nat} (hs : Sized p n) {W : World} {L : List MatE} (h : ML W (p : Int) n L) (k : Int) (i : Nat) {x : MatE} (hi : L[i]? = some x) :
    Calls Try.prog 47 #[.agg #[.int .i64 p, .slice x.A n x.c], .int .i64 k] W (GivesX W p n (fun i => axpy (resV k p : Nat) p (fun _ => 0) (x.f i))) := by
  obtain ⟨_, g1, f1⟩ := h i x hi
  have hn := hs.n2
  have hp := hs.p2
  exact (Scale_any _ n (fun _ => n) x.f p k W (by omega) (fun _ _ => by omega) g1 0 (hs.chk f1).symm).mono fun e w' h => .of (fun i _ => axpy_in (by omega) _ _ n) (by have := h.2.2 rfl trivial; rwa [Int.toNat_natCast] at this)
theorem oneL {p n : Nat} (hs : Sized p n) (W : World) : Calls Try.prog 59 #[.int .i64 n, .int .i64 p] W (GivesX W p n oneF) := by
  have hn := hs.n2
  have h1 := hs.n1
  have hp := hs.p2
  have hc : chk1 (n : Int) (p : Int) = 0 := by
    unfold chk1
    rw [if_neg (by rw [hs.hp]; simp), if_neg (by unfold sizeB; simp; omega)]
  exact (One_any n p W).mono fun e w' h => .of (oneF_in (by omega)) (by have := h.2 hc; rwa [Int.toNat_natCast] at this)
theorem sameL {p n : Nat} (hs : Sized p n) {W : World} {L : List MatE} (h : ML W (p : Int) n L) (i j : Nat) {x y : MatE} (hi : L[i]? = some x) (hj : L[j]? = some y) (he : ∀ i, i < n → ∀ j, j < n → x.f i j = y.f i j) :
    Calls Try.prog 68 #[.agg #[.int .i64 p, .slice x.A n x.c], .agg #[.int .i64 p, .slice y.A n y.c]] W fun e w' => e = .returned (.bool true) ∧ Below W.heap.size W w' := by
  obtain ⟨_, g1, f1⟩ := h i x hi
  obtain ⟨_, g2, f2⟩ := h j y hj
  have hn := hs.n2
  have hb : gridB n (fun _ => n) x.f y.f = true := by
    unfold gridB
    exact decide_eq_true fun i hi => by unfold eqB; exact decide_eq_true fun j hj => he i hi j hj
  have := mSame_any (.slice x.A n x.c) (.slice y.A n y.c) p n (fun _ => n) x.f y.f W (by omega) (fun _ _ => by omega) g1 g2
  rwa [hb] at this

/-- The Taker in its box. -/
theorem taker_new (w : World) (A : Option Addr) (c N : Nat) (z : Nat → Int) (hv : Vec w (· < w.heap.size) (.slice A N c) N z) : MTk (w.alloc (.cells #[.slice A N c, .int .i64 0] 84)) w.heap.size A c N z 0 :=
  ⟨row_new rfl _ _, hv.below (fun _ h => h) ((Below.refl _ _).alloc (Nat.le_refl _) _)⟩
theorem Grid.but {t B : Nat} {w w' W W' : World} {v : Value} {m : Nat} {n : Nat → Nat} {f : Nat → Nat → Int} (h : Grid W (New w w') v m n f) (hb : But t B W W') (ht : t < w.heap.size) (hB : w'.heap.size ≤ B) : Grid W' (New w w') v m n f :=
  h.keep (fun _ h => h) (fun p hp => World.cell?_of_block (hb.2 p.block (by have := hp.2; omega) (by have := hp.1; omega))) (fun _ _ => rfl) (fun _ _ _ _ => rfl)
theorem ml_3 {w : World} {p : Int} {n c1 c2 c3 : Nat} {A1 A2 A3 : Option Addr} {f1 f2 f3 : Nat → Nat → Int} (g1 : Grid w (· < w.heap.size) (.slice A1 n c1) n (fun _ => n) f1) (g2 : Grid w (· < w.heap.size) (.slice A2 n c2) n (fun _ => n) f2) (g3 : Grid w (· < w.heap.size) (.slice A3 n c3) n (fun _ => n) f3)
    (h1 : InG p n n f1) (h2 : InG p n n f2) (h3 : InG p n n f3) :
    ML (((w.alloc (.cells #[.int .i64 p, .slice A1 n c1] 61)).alloc (.cells #[.int .i64 p, .slice A2 n c2] 61)).alloc (.cells #[.int .i64 p, .slice A3 n c3] 61)) p n
      [⟨w.heap.size + 1 + 1, A3, c3, f3⟩, ⟨w.heap.size + 1, A2, c2, f2⟩, ⟨w.heap.size, A1, c1, f1⟩] := by
  have b1 : Below w.heap.size w (w.alloc (.cells #[.int .i64 p, .slice A1 n c1] 61)) := (Below.refl _ _).alloc (Nat.le_refl _) _
  have b2 := b1.alloc (by simp) (.cells #[.int .i64 p, .slice A2 n c2] 61)
  have b3 := b2.alloc (by simp; omega) (.cells #[.int .i64 p, .slice A3 n c3] 61)
  intro i x hi
  match i, hi with
  | 0, hi => injection hi with hi; subst hi; exact ⟨row_new (by simp) _ _, g3.on b3, h3⟩
  | 1, hi => injection hi with hi; subst hi; exact ⟨(row_new (by simp) _ _).alloc _, g2.on b3, h2⟩
  | 2, hi => injection hi with hi; subst hi; exact ⟨((row_new rfl _ _).alloc _).alloc _, g1.on b3, h1⟩
end Go.Proofs.Ytokiejichnnmnaa
