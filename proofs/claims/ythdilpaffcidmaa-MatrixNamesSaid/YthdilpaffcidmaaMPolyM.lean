/- The law MatrixPoly: its mathematics (Horner's steps end at zero; the outer coefficients), and a matrix stored into an elder box. -/
import Derived.Test.YthdilpaffcidmaaMPolyC
import Derived.Test.YthdilpaffcidmaaMLaw2
namespace Go.Proofs.Ythdilpaffcidmaa
open Go Go.RowKit Num

theorem trS_sum (f : Nat → Nat → Int) : ∀ k, trS f k = sumTo (fun i => f i i) k
  | 0 => rfl
  | k + 1 => by rw [trS, trS_sum f k]; rfl
/-- Horner's steps, not reduced. -/
def horZ (A : Nat → Nat → Int) (n t i j : Nat) : Int := sumTo (fun m => powR A n i m j * berk A n (t - 1 - m)) t
theorem sumTo_swap (F : Nat → Nat → Int) (a : Nat) : ∀ b, sumTo (fun i => sumTo (fun j => F i j) b) a = sumTo (fun j => sumTo (fun i => F i j) a) b
  | 0 => sumTo_zero a fun _ _ => rfl
  | b + 1 => by
    show sumTo (fun i => sumTo (fun j => F i j) b + F i b) a = sumTo (fun j => sumTo (fun i => F i j) a) b + sumTo (fun i => F i b) a
    rw [sumTo_add, sumTo_swap F a b]
theorem horZ_succ (A : Nat → Nat → Int) (n t i j : Nat) (_hi : i < n) : horZ A n (t + 1) i j = sumTo (fun k => horZ A n t i k * A k j) n + berk A n t * oneF i j := by
  have h1 : sumTo (fun k => horZ A n t i k * A k j) n = sumTo (fun m => powR A n i (m + 1) j * berk A n (t - 1 - m)) t := by
    have e : sumTo (fun k => horZ A n t i k * A k j) n = sumTo (fun k => sumTo (fun m => powR A n i m k * berk A n (t - 1 - m) * A k j) t) n := sumTo_congr n fun k _ => by
      rw [sumTo_mulr]; rfl
    rw [e, sumTo_swap]
    refine sumTo_congr t fun m _ => ?_
    show _ = sumTo (fun k => powR A n i m k * A k j) n * berk A n (t - 1 - m)
    rw [← sumTo_mulr]
    refine sumTo_congr n fun k _ => ?_
    rw [Int.mul_assoc, Int.mul_comm (berk A n (t - 1 - m)), ← Int.mul_assoc]
  rw [h1]
  show sumTo (fun m => powR A n i m j * berk A n (t + 1 - 1 - m)) (t + 1) = _
  rw [sumTo_front]
  have h2 : sumTo (fun m => powR A n i (m + 1) j * berk A n (t + 1 - 1 - (m + 1))) t = sumTo (fun m => powR A n i (m + 1) j * berk A n (t - 1 - m)) t := sumTo_congr t fun m _ => by
    rw [show t + 1 - 1 - (m + 1) = t - 1 - m by omega]
  rw [h2]
  show (if i = j then 1 else 0) * berk A n (t + 1 - 1 - 0) + _ = _
  rw [show t + 1 - 1 - 0 = t by omega]
  unfold oneF
  by_cases e : i = j
  · rw [if_pos e, if_pos e.symm]; omega
  · rw [if_neg e, if_neg (Ne.symm e)]; omega
theorem horZ_end (A : Nat → Nat → Int) (n i j : Nat) (hi : i < n) (hj : j < n) : horZ A n (n + 1) i j = 0 := by
  have h := cayley_hamilton A n i j hi hj
  rw [← h]
  refine sumTo_congr _ fun m _ => ?_
  rw [show n + 1 - 1 - m = n - m by omega]
/-- What the law has behind t of Horner's steps. -/
def HorI (p : Int) (A : Nat → Nat → Int) (n t : Nat) (V : Nat → Nat → Int) : Prop := ∀ i, i < n → ∀ j, j < n → Cg p (V i j) (horZ A n t i j)
theorem HorI.start {p : Int} (A : Nat → Nat → Int) (n : Nat) (k : Nat) (hk : k = 0) : HorI p A n 0 (fun i => axpy (k : Nat) p (fun _ => 0) (oneF i)) := fun i _ j _ => by
  subst hk
  show (0 + ((0 : Nat) : Int) * oneF i j) % p % p = 0 % p
  simp
theorem HorI.step {p : Nat} (hp : 2 ≤ p) {A V : Nat → Nat → Int} {n t : Nat} (h : HorI (p : Int) A n t V) (c : Int) (hc : c = berk A n t % (p : Int)) :
    HorI (p : Int) A n (t + 1) (fun i => axpy 1 p (mulF p n V A i) (axpy (resV c p : Nat) p (fun _ => 0) (oneF i))) := fun i hi j hj => by
  rw [horZ_succ A n t i j hi]
  show Cg (p : Int) ((mulF p n V A i j + 1 * ((0 + (resV c p : Nat) * oneF i j) % (p : Int))) % (p : Int)) _
  refine (Cg.mod _ _).trans (Cg.add ?_ ?_)
  · refine (Cg.mod _ _).trans ?_
    show Cg (p : Int) (dotTo (V i) A j n) _
    rw [dotTo_sum]
    exact sumTo_cg n fun k hk => (h i hi k hk).mul (.refl _ _)
  · rw [Int.one_mul, Int.zero_add]
    refine (Cg.mod _ _).trans (Cg.mul ?_ (.refl _ _))
    rw [resV_cast c hp]
    refine (Cg.mod _ _).trans ?_
    rw [hc]
    exact Cg.mod _ _
theorem HorI.done {p : Int} {A V : Nat → Nat → Int} {n : Nat} (h : HorI p A n (n + 1) V) (hV : InG p n n V) (i j : Nat) (hi : i < n) (hj : j < n) : V i j = 0 := by
  have h1 := h i hi j hj
  rw [horZ_end A n i j hi hj] at h1
  have h2 := hV i hi j hj
  exact h1.eq h2 ⟨Int.le_refl _, by omega⟩
/-- The first coefficient is 1. -/
theorem polyF_top {p : Int} (hp : 1 < p) (f : Nat → Nat → Int) (n : Nat) : polyF p f n n = 1 := by
  unfold polyF
  rw [Nat.sub_self, berk_zero]
  exact Int.emod_eq_of_lt (by omega) hp
theorem polyF_in {p : Int} (hp : 0 < p) (f : Nat → Nat → Int) (n k : Nat) : InP p k (polyF p f n) := fun _ _ => ⟨Int.emod_nonneg _ (by omega), Int.emod_lt_of_pos _ hp⟩
/-- The next one is the negative trace. -/
theorem polyF_trace {p : Int} (f : Nat → Nat → Int) (n : Nat) (hn : 1 ≤ n) : (polyF p f n (n - 1) + trS f n % p) % p = 0 := by
  unfold polyF
  rw [show n - (n - 1) = 1 by omega, berk_trace, trS_sum]
  have : Cg p (-sumTo (fun i => f i i) n % p + sumTo (fun i => f i i) n % p) (-sumTo (fun i => f i i) n + sumTo (fun i => f i i) n) := (Cg.mod p _).add (Cg.mod p _)
  have h2 : Cg p (-sumTo (fun i => f i i) n % p + sumTo (fun i => f i i) n % p) 0 := this.trans (.of (by omega))
  have h3 : (-sumTo (fun i => f i i) n % p + sumTo (fun i => f i i) n % p) % p = 0 % p := h2
  rwa [Int.zero_emod] at h3
theorem neg_pow_even : ∀ n : Nat, n % 2 = 0 → (-1 : Int) ^ n = 1
  | 0, _ => rfl
  | 1, h => by omega
  | n + 2, h => by rw [Int.pow_succ, Int.pow_succ, neg_pow_even n (by omega)]; rfl
theorem neg_pow_odd (n : Nat) (h : n % 2 = 1) : (-1 : Int) ^ n = -1 := by
  obtain ⟨k, rfl⟩ : ∃ k, n = k + 1 := ⟨n - 1, by omega⟩
  rw [Int.pow_succ, neg_pow_even k (by omega)]; rfl
/-- The last one is the determinant but for the sign. -/
theorem polyF_even {p : Int} {f : Nat → Nat → Int} {n : Nat} (hp : 1 < p) (hI : Invs p) (hf : InG p n n f) (hn : n % 2 = 0) : polyF p f n 0 = detV p n f := by
  unfold polyF
  rw [Nat.sub_zero, berk_last, neg_pow_even n hn, Int.one_mul]
  exact Cg.eq ((Cg.mod p _).trans (detV_ldet hp hI (Nat.le_refl n) hf)) ⟨Int.emod_nonneg _ (by omega), Int.emod_lt_of_pos _ (by omega)⟩ (detV_in hp hI (Nat.le_refl n) hf)
theorem polyF_odd {p : Int} {f : Nat → Nat → Int} {n : Nat} (hp : 1 < p) (hI : Invs p) (hf : InG p n n f) (hn : n % 2 = 1) : (polyF p f n 0 + detV p n f) % p = 0 := by
  unfold polyF
  rw [Nat.sub_zero, berk_last, neg_pow_odd n hn]
  have h1 : Cg p (-1 * ldet n f % p + detV p n f) (-1 * ldet n f + ldet n f) := (Cg.mod p _).add (detV_ldet hp hI (Nat.le_refl n) hf).symm
  have h2 : (-1 * ldet n f % p + detV p n f) % p = 0 % p := h1.trans (.of (by omega))
  rwa [Int.zero_emod] at h2
/-- Conjugate matrices have the same polynomial. -/
theorem polyF_conj {p : Int} {A B : Nat → Nat → Int} {n : Nat} (hp : 1 < p) (hI : Invs p) (hA : InG p n n A) (hB : InG p n n B) (hd : detV p n B ≠ 0) (j : Nat) : polyF p (mulF p n (mulF p n (invF p n B) A) B) n j = polyF p A n j := by
  have hc := berk_conj (A := A) (A' := mulF p n (mulF p n (invF p n B) A) B) hp hI hB hd (fun i hi j hj => by
    have e1 : Cg p (sumTo (fun k => B i k * mulF p n (mulF p n (invF p n B) A) B k j) n) (mulF p n B (mulF p n (mulF p n (invF p n B) A) B) i j) := by
      show Cg p _ (dotTo (B i) (mulF p n (mulF p n (invF p n B) A) B) j n % p)
      rw [dotTo_sum]
      exact (Cg.mod p _).symm
    have e2 : Cg p (sumTo (fun k => A i k * B k j) n) (mulF p n A B i j) := by
      show Cg p _ (dotTo (A i) B j n % p)
      rw [dotTo_sum]
      exact (Cg.mod p _).symm
    have hR := invF_right hp hI hB hd
    have e3 : mulF p n B (mulF p n (mulF p n (invF p n B) A) B) i j = mulF p n A B i j := by
      rw [← mulF_assoc]
      have h4 : Eqv n (mulF p n B (mulF p n (invF p n B) A)) A := fun i hi j hj => by
        rw [← mulF_assoc]
        exact ((Eqv.mul hR (.refl n A)).trans (mulF_oneL hA)) i hi j hj
      exact (Eqv.mul h4 (.refl n B)) i hi j hj
    exact e1.trans ((Cg.of e3).trans e2.symm)) (n - j)
  exact hc.symm

/-- A matrix's box holds no residue: no row of residues lies in it. -/
theorem Vec.no {w : World} {S : Nat → Prop} {v : Value} {n B : Nat} {p : Int} {u : Value} {f : Nat → Int} (h : Vec w S v n f) (hf : InP p n f) (hB : Row w B 58 #[.int .i64 p, u]) (hu : ∀ k x, u ≠ .int k x) : Vec w (fun b => S b ∧ b ≠ B) v n f := by
  obtain ⟨A, c, rfl, hc, h⟩ := h
  refine ⟨A, c, rfl, hc, fun hn => ?_⟩
  obtain ⟨b, o, rfl, hb, hcc⟩ := h hn
  refine ⟨b, o, rfl, ⟨hb, fun e => ?_⟩, hcc⟩
  subst e
  have h0 := hcc 0 hn
  rw [Nat.add_zero] at h0
  have hf0 := hf 0 hn
  match o, h0 with
  | 0, h0 =>
    have h1 := hB.cell (i := 0) rfl
    rw [h1] at h0
    injection h0 with h0
    injection h0 with _ h0
    omega
  | 1, h0 =>
    have h1 := hB.cell (i := 1) rfl
    rw [h1] at h0
    injection h0 with h0
    exact hu _ _ h0
  | o + 2, h0 =>
    unfold Row at hB
    simp [World.cell?, hB] at h0
/-- Nor the rows of a matrix of residues. -/
theorem Grid.no {w : World} {S : Nat → Prop} {v : Value} {n c B : Nat} {A : Option Addr} {p : Int} {f g : Nat → Nat → Int} (_hn : 1 ≤ n) (h : Grid w S v n (fun _ => n) f) (hf : InG p n n f) (hB : Row w B 58 #[.int .i64 p, .slice A n c]) (hg : Grid w S (.slice A n c) n (fun _ => n) g) : Grid w (fun b => S b ∧ b ≠ B) v n (fun _ => n) f := by
  obtain ⟨A', c', rfl, hc, h⟩ := h
  refine ⟨A', c', rfl, hc, fun h0 => ?_⟩
  obtain ⟨b, o, rfl, hb, hcc⟩ := h h0
  refine ⟨b, o, rfl, ⟨hb, fun e => ?_⟩, fun i hi => ?_⟩
  · subst e
    obtain ⟨r, h1, hr⟩ := hcc 0 h0
    rw [Nat.add_zero] at h1
    obtain ⟨Ar, cr, rfl, _, hr⟩ := hr
    match o, h1 with
    | 0, h1 =>
      have h2 := hB.cell (i := 0) rfl
      rw [h2] at h1
      cases h1
    | 1, h1 =>
      have h2 := hB.cell (i := 1) rfl
      rw [h2] at h1
      injection h1 with h1
      injection h1 with e1 _ _
      subst e1
      obtain ⟨br, or2, e2, _, hr2⟩ := hr (show 0 < n by omega)
      subst e2
      have h3 := hr2 0 (show 0 < n by omega)
      obtain ⟨A2, c2, e3, _, hg⟩ := hg
      injection e3 with e3 _ _
      subst e3
      obtain ⟨b2, o2, e4, _, hg⟩ := hg h0
      injection e4 with e4
      injection e4 with e4 e5 _
      subst e4
      subst e5
      obtain ⟨r2, h5, A6, c6, rfl, _⟩ := hg 0 h0
      rw [h3] at h5
      cases h5
    | o + 2, h1 =>
      unfold Row at hB
      simp [World.cell?, hB] at h1
  · obtain ⟨r, h1, hr⟩ := hcc i hi
    exact ⟨r, h1, hr.no (hf i hi) hB fun k x e => by cases e⟩
/-- A matrix is stored into an elder box. -/
theorem ML.put {W : World} {p : Int} {n : Nat} (hn : 1 ≤ n) {L : List MatE} (h : ML W p n L) (i k : Nat) {x y : MatE} (hi : L[i]? = some x) (hk : L[k]? = some y) {L' : List MatE} (hL : ∀ (j : Nat) (e : MatE), L'[j]? = some e → (∃ l : Nat, L[l]? = some e) ∧ e.B ≠ x.B) :
    ML ((W.setCell ⟨x.B, 0, none⟩ (.int .i64 p)).setCell ⟨x.B, 1, none⟩ (.slice y.A n y.c)) p n (⟨x.B, y.A, y.c, y.f⟩ :: L') := fun j e hj => by
  obtain ⟨x1, x2, x3⟩ := h i x hi
  obtain ⟨y1, y2, y3⟩ := h k y hk
  have hs : ((W.setCell ⟨x.B, 0, none⟩ (.int .i64 p)).setCell ⟨x.B, 1, none⟩ (.slice y.A n y.c)).heap.size = W.heap.size := by rw [size_set, size_set]
  cases j with
  | zero =>
    injection hj with hj
    subst hj
    refine ⟨x1.row_set _ _, ?_, y3⟩
    have := (Grid.set2 (Grid.no hn y2 y3 x1 x2) (R := x.B) (fun h => h.2 rfl) (.int .i64 p) (.slice y.A n y.c))
    exact this.more fun b hb => by show b < _; rw [hs]; exact hb.1
  | succ j =>
    obtain ⟨⟨l, hl⟩, hne⟩ := hL j e hj
    obtain ⟨e1, e2, e3⟩ := h l e hl
    refine ⟨(e1.far (p := ⟨x.B, 0, none⟩) hne _).far (p := ⟨x.B, 1, none⟩) hne _, ?_, e3⟩
    have := (Grid.set2 (Grid.no hn e2 e3 x1 x2) (R := x.B) (fun h => h.2 rfl) (.int .i64 p) (.slice y.A n y.c))
    exact this.more fun b hb => by show b < _; rw [hs]; exact hb.1
theorem Vec.put {W : World} {v : Value} {n B : Nat} {p : Int} {u : Value} {f : Nat → Int} (h : Vec W (· < W.heap.size) v n f) (hf : InP p n f) (hB : Row W B 58 #[.int .i64 p, u]) (hu : ∀ k x, u ≠ .int k x) (a b : Value) :
    Vec ((W.setCell ⟨B, 0, none⟩ a).setCell ⟨B, 1, none⟩ b) (· < ((W.setCell ⟨B, 0, none⟩ a).setCell ⟨B, 1, none⟩ b).heap.size) v n f := by
  have hs : ((W.setCell ⟨B, 0, none⟩ a).setCell ⟨B, 1, none⟩ b).heap.size = W.heap.size := by rw [size_set, size_set]
  exact (((h.no hf hB hu).set (p := ⟨B, 0, none⟩) (fun h => h.2 rfl) a).set (p := ⟨B, 1, none⟩) (fun h => h.2 rfl) b).more fun x hx => by show x < _; rw [hs]; exact hx.1
/-- A matrix is given into a box that was made ahead of the call. -/
theorem ml_late {W0 W1 W2 : World} {p : Int} {n c : Nat} {A : Option Addr} {f : Nat → Nat → Int} {L : List MatE} (h : ML W0 p n L) (h1 : Below W0.heap.size W0 W1) (hr : Row W1 W0.heap.size 58 #[.int .i64 0, .slice none 0 0]) (hb : Below W1.heap.size W1 W2) (hg : Grid W2 (New W1 W2) (.slice A n c) n (fun _ => n) f) (hf : InG p n n f) :
    ML ((W2.setCell ⟨W0.heap.size, 0, none⟩ (.int .i64 p)).setCell ⟨W0.heap.size, 1, none⟩ (.slice A n c)) p n (⟨W0.heap.size, A, c, f⟩ :: L) := fun j e hj => by
  have hlt := hr.lt
  have hs : ((W2.setCell ⟨W0.heap.size, 0, none⟩ (.int .i64 p)).setCell ⟨W0.heap.size, 1, none⟩ (.slice A n c)).heap.size = W2.heap.size := by rw [size_set, size_set]
  have hb3 : Below W0.heap.size W0 ((W2.setCell ⟨W0.heap.size, 0, none⟩ (.int .i64 p)).setCell ⟨W0.heap.size, 1, none⟩ (.slice A n c)) := ((h1.trans (hb.mono h1.size)).setCell (p := ⟨W0.heap.size, 0, none⟩) (Nat.le_refl _) _).setCell (p := ⟨W0.heap.size, 1, none⟩) (Nat.le_refl _) _
  cases j with
  | zero =>
    injection hj with hj
    subst hj
    refine ⟨(hr.below hb hlt).row_set _ _, ?_, hf⟩
    exact (Grid.set2 hg (R := W0.heap.size) (fun h => by have := h.1; omega) (.int .i64 p) (.slice A n c)).more fun b hb => by show b < _; rw [hs]; exact hb.2
  | succ j => exact h.below hb3 j e hj
/-- The calls. -/
theorem polyL {p n : Nat} (hs : Sized p n) {W : World} {L : List MatE} (h : ML W (p : Int) n L) (i : Nat) {x : MatE} (hi : L[i]? = some x) :
    Calls Try.prog 61 #[.agg #[.int .i64 p, .slice x.A n x.c]] W fun e w' => ∃ A c, e = .returned (.tuple #[.slice A (n + 1) c, .int .i64 0]) ∧ Vec w' (New W w') (.slice A (n + 1) c) (n + 1) (polyF p x.f n) ∧ Below W.heap.size W w' := by
  obtain ⟨_, g1, f1⟩ := h i x hi
  have hn := hs.n2
  refine (Poly_any _ n (fun _ => n) x.f p W (by omega) (fun _ _ => by omega) g1 0 (hs.chkS f1)).mono fun e w' h => ?_
  obtain ⟨r, he, hv⟩ := h.2.2 rfl
  obtain ⟨A, c, rfl, -⟩ := hv.form
  exact ⟨A, c, he, hv, h.1⟩
theorem traceL {p n : Nat} (hs : Sized p n) {W : World} {L : List MatE} (h : ML W (p : Int) n L) (i : Nat) {x : MatE} (hi : L[i]? = some x) (s : Nat) (he : trS x.f n % (p : Int) = s) :
    Calls Try.prog 60 #[.agg #[.int .i64 p, .slice x.A n x.c]] W fun e w' => e = .returned (.tuple #[.int .i64 s, .int .i64 0]) ∧ Below W.heap.size W w' := by
  obtain ⟨_, g1, f1⟩ := h i x hi
  have hn := hs.n2
  exact (Trace_any _ n (fun _ => n) x.f p W (by omega) (fun _ _ => by omega) g1 0 (hs.chkS f1)).mono fun e w' h => by rw [if_pos rfl, he] at h; exact h
end Go.Proofs.Ythdilpaffcidmaa
