/- A round of a range over the cycles that appends to a slice in the caller's box. -/
import Derived.Test.YtpchomhfpfpckaaDoorIter2
import Derived.Test.YtpchomhfpfpckaaDoorText
import Derived.Test.YtpchomhfpfpckaaDoorSign
import Derived.Test.YtpchomhfpfpckaaDoorSel
namespace Go.Proofs.YtpchomhfpfpckaaDoor
open Go Go.RowKit

theorem postGD_of {w W W' : World} {K0 G : Nat → Prop} {I : List Pt → (Nat → Prop) → World → Prop} {xs : List Pt} {a : Act} {m : Nat} {drop : Nat → Prop} (hI : AbidesG m I) (h : postG K0 G I xs W .normal a W') : postGD K0 G (fun k => G k ∧ ¬ drop k) I xs W .normal a W' :=
  ⟨h.1, hI _ _ _ _ _ none h.2 (World.grownBy.refl _ _) (fun r e => by cases e) (fun k hk => .inl hk.1)⟩

def RowI (w : World) (B Bx m : Nat) (t e : TypeId) (f : List Pt → List Value) (X : List Pt → (Nat → Prop) → World → Prop) (pre : List Pt) (G : Nat → Prop) (W : World) : Prop :=
  (∃ v, Boxed W B t v ∧ ¬ G B ∧ W.ownsRow w.heap.size e 1 v (f pre).length (f pre) ∧ (∀ g, v.ownBlock = some g → ¬ G g ∧ g ≠ Bx ∧ g ≠ B) ∧ (∀ k, G k → m ≤ k ∧ k < W.heap.size) ∧ w.heap.size ≤ B ∧ B < m ∧ Bx < m ∧ m ≤ W.heap.size ∧ Below w.heap.size w W) ∧ X pre G W
theorem RowI.abides {w : World} {B Bx m : Nat} {t e : TypeId} {f : List Pt → List Value} {X : List Pt → (Nat → Prop) → World → Prop} (hX : AbidesG m X) : AbidesG m (RowI w B Bx m t e f X) := by
  rintro s G G' A W row ⟨⟨v, h1, h2, h7, h8, h3, h9, h4, h10, h5, h6⟩, hx⟩ hg hr hG
  have hs := hg.size
  refine ⟨⟨v, h1.kept hg (fun e => ?_), fun h => ?_, World.ownsRow.kept h7 hg ?_, fun g hv => ⟨fun h => ?_, (h8 g hv).2⟩, fun k h => ?_, h9, h4, h10, by omega, h6.grown hg (by omega) (fun k e => ?_)⟩, hX s G G' A W row hx hg hr hG⟩
  · rcases hr B e.symm with h | ⟨h, _⟩
    · exact h2 h
    · omega
  · rcases hG B h with h | h
    · exact h2 h
    · omega
  · cases hv : v.ownBlock with
    | none => exact .inl rfl
    | some g =>
      refine .inr fun e => ?_
      rcases hr g e.symm with h | ⟨_, o, ho, hc⟩
      · exact (h8 g hv).1 h
      · rcases h7.2 with ⟨rfl, _⟩ | ⟨g', cap, cur, rfl, _, hh, _⟩
        · cases hv
        · obtain rfl : g' = g := by simpa [Value.ownBlock] using hv
          rw [hh] at ho; cases ho; cases hc
  · have := (h7.lt g hv).2
    rcases hG g h with h | h
    · exact (h8 g hv).1 h
    · omega
  · rcases hG k h with h | h
    · have := h3 k h; omega
    · omega
  · rcases hr k e with h | ⟨h, _⟩
    · have := h3 k h; omega
    · omega

/-- A round that appends. -/
theorem RowI.put {w W W2 : World} {B Bx m : Nat} {t e : TypeId} {f : List Pt → List Value} {X : List Pt → (Nat → Prop) → World → Prop} {pre : List Pt} {x : Pt} {G G2 : Nat → Prop} {a : Act} {v v' : Value} (hv : Boxed W B t v) (hnG : ¬ G B) (hO : W.ownsRow w.heap.size e 1 v (f pre).length (f pre))
    (h8 : ∀ g, v.ownBlock = some g → ¬ G g ∧ g ≠ Bx ∧ g ≠ B) (h3 : ∀ k, G k → m ≤ k ∧ k < W.heap.size) (h9 : w.heap.size ≤ B) (h4 : B < m) (h10 : Bx < m) (h5 : m ≤ W.heap.size) (h6 : Below w.heap.size w W)
    (hBB : B ≠ Bx) (hG2 : ∀ k, G2 k → G k) (hO2 : W2.ownsRow w.heap.size e 1 v' (f (pre ++ [x])).length (f (pre ++ [x]))) (hT : AppTo W W2 v v') (hX : X (pre ++ [x]) G2 (W2.setCell ⟨B, 0, none⟩ v')) :
    postGD (fun k => k < w.heap.size ∨ k = Bx) G G2 (RowI w B Bx m t e f X) (pre ++ [x]) W .normal a (W2.setCell ⟨B, 0, none⟩ v') := by
  have hs := hT.1.size
  have hz : (W2.setCell ⟨B, 0, none⟩ v').heap.size = W2.heap.size := by simp [World.setCell]
  have hrow : ∀ r, v.ownBlock = some r → w.heap.size ≤ r := fun r e => (hO.lt r e).1
  have hv2 : Boxed W2 B t v := hv.kept hT.1 (fun e => (h8 B e.symm).2.2 rfl)
  have h8' : ∀ g, v'.ownBlock = some g → ¬ G g ∧ g ≠ Bx ∧ g ≠ B := fun g e => by
    rcases hT.2 with h | ⟨g', h, hg'⟩
    · exact h8 g (h ▸ e)
    · rw [h] at e
      have e : g' = g := by injection e
      subst e
      refine ⟨fun hG => ?_, by omega, by omega⟩
      have := h3 _ hG; omega
  refine ⟨?_, ⟨v', hv2.set v', fun h => hnG (hG2 _ h), ?_, fun g e => ⟨fun h => (h8' g e).1 (hG2 _ h), (h8' g e).2⟩, fun k h => by rw [hz]; have := h3 k (hG2 _ h); omega, h9, h4, h10, by rw [hz]; omega, ?_⟩, hX⟩
  · refine KeepG.box (B := W2) ((KeepG.refl _ _ W).grown hT.1 (fun r e => ⟨fun h => ?_, (h8 r e).1, fun o ho => ?_⟩)) hv2 (fun h => by rcases h with h | h <;> omega) hnG _
    · have := hrow r e
      have := (h8 r e).2.1
      rcases h with h | h <;> omega
    · rcases hO.2 with ⟨rfl, _⟩ | ⟨g', cap, cur, rfl, _, hh, _⟩
      · cases e
      · obtain rfl : g' = r := by simpa [Value.ownBlock] using e
        rw [hh] at ho; cases ho; rfl
  · refine World.ownsRow.kept hO2 (grownBy_setCell' W2 B v') ?_
    cases hv' : v'.ownBlock with
    | none => exact .inl rfl
    | some g => exact .inr fun e => (h8' g hv').2.2 (by injection e)
  · exact (h6.grown hT.1 (by omega) hrow).setCell (p := ⟨B, 0, none⟩) h9 _
theorem slice_of_own {w : World} {base : Nat} {e : TypeId} {size : Nat} {v : Value} {n : Nat} {xs : List Value} (h : w.ownsRow base e size v n xs) : ∃ A c, v = .slice A n c := by
  rcases h.2 with ⟨rfl, rfl⟩ | ⟨g, cap, cur, hv, _⟩
  · exact ⟨none, 0, rfl⟩
  · exact ⟨_, cap, hv⟩
/-- What the round's append has done. -/
theorem appTo_of {W w3 : World} {tmp : Obj} {v v' : Value} (hg : (W.alloc tmp).grownBy w3 v.ownBlock) (hat : v'.ownBlock = v.ownBlock ∨ v'.ownBlock = some (W.alloc tmp).heap.size) : AppTo W w3 v v' :=
  AppTo.alloc (o := tmp) ⟨hg, hat.imp id fun h => ⟨_, h, Nat.le_refl _⟩⟩
theorem sum_ge_len (cs : List (List Int)) (h : ∀ c ∈ cs, 1 ≤ c.length) : cs.length ≤ (cs.map List.length).sum := by
  induction cs with
  | nil => simp
  | cons c cs ih =>
    have h1 := ih (fun d hd => h d (List.mem_cons_of_mem _ hd))
    have h2 := h c (List.mem_cons_self ..)
    simp
    omega

end Go.Proofs.YtpchomhfpfpckaaDoor
