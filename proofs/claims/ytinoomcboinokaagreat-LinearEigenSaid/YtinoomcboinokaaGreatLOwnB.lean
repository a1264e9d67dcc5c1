/- A drawn list that is its own. -/
import Derived.Test.YtinoomcboinokaaGreatLBasLaw
namespace Go.Proofs.YtinoomcboinokaaGreat
open Go Go.RowKit Num

/-- A drawn list, its own. -/
structure OwnB (w5 : World) (t : Nat) (v : Value) (k n : Nat) (G : Nat → Nat → Int) (rs : Nat → Value) (X : World) : Prop where
  own : X.ownsRow w5.heap.size 22 1 v k ((List.range k).map rs)
  row : ∀ i, i < k → Vec X (fun b => Far t X b ∧ v.ownBlock ≠ some b) (rs i) n (G i)
theorem ownB_of {w : World} {t : Nat} {A : Option Addr} {c N : Nat} {z : Nat → Int} {n : Nat} {p : Int} {k : Nat} {v : Value} {g cc : Nat → Nat} {F : Nat → Nat → Int} {X : World} (h : DrO w t A c N z n p k v g cc F X) (ht : t < w.heap.size) : OwnB w t v k n F (fun i => .slice (some ⟨g i, 0, none⟩) n (cc i)) X := by
  refine ⟨h.own, fun i hi => ?_⟩
  obtain ⟨h1, h2, h3, _⟩ := h.row i hi
  refine h1.vec h2 _ ⟨⟨by omega, h1.lt⟩, fun e => ?_⟩
  obtain ⟨cs, h4, _⟩ := h1
  rcases h.own.2 with ⟨rfl, _⟩ | ⟨g3, cap3, cur3, rfl, _, hgb, _⟩
  · cases e
  · injection e with e
    have e' : g3 = g i := e
    rw [e', show X.heap[g i]? = _ from h4] at hgb
    cases hgb
theorem OwnB.turn {w5 X Y : World} {t : Nat} {v : Value} {k n : Nat} {G : Nat → Nat → Int} {rs : Nat → Value} (h : OwnB w5 t v k n G rs X) (ht : t < w5.heap.size) (hu : Turn (· = t) X Y) : OwnB w5 t v k n G rs Y :=
  ⟨own_turn h.own hu (fun b e (e2 : b = t) => by have := (h.own.lt b e).1; omega), fun i hi => ((h.row i hi).turn hu (fun b hb (e : b = t) => by have := hb.1.1; omega)).more fun b hb => ⟨⟨hb.1.1, Nat.lt_of_lt_of_le hb.1.2 hu.size⟩, hb.2⟩⟩
theorem OwnB.grid {w5 X : World} {t : Nat} {v : Value} {k n : Nat} {G : Nat → Nat → Int} {rs : Nat → Value} (h : OwnB w5 t v k n G rs X) (ht : t < w5.heap.size) : Grid X (Far t X) v k (fun _ => n) G := by
  rcases h.own.2 with ⟨rfl, hz⟩ | ⟨gb, cap, cur, rfl, hbase, hgbk, r1, r2, r3, r4⟩
  · exact ⟨none, 0, by rw [hz], by omega, fun h => absurd h (by omega)⟩
  · refine ⟨_, cap, rfl, r1, fun _ => ⟨gb, 0, rfl, ⟨by omega, (Array.getElem?_eq_some_iff.1 hgbk).1⟩, fun i hi => ?_⟩⟩
    have h1 : ((List.range k).map rs)[i]? = some (rs i) := by simp [hi]
    rw [← r4, List.getElem?_take_of_lt (by omega)] at h1
    exact ⟨_, by rw [Nat.zero_add]; exact Row.cell (show Row X gb 22 cur from hgbk) (by rw [← Array.getElem?_toList]; exact h1), (h.row i hi).more fun b hb => hb.1⟩
theorem turn_own {w5 X Y : World} {t : Nat} {S : Nat → Prop} (h : Turn (· = t) w5 X) (h2 : Turn S X Y) (hS : ∀ b, S b → w5.heap.size ≤ b) : Turn (· = t) w5 Y :=
  ⟨h2.os.trans h.os, h2.tape.trans h.tape, h2.output.trans h.output, Nat.le_trans h.size h2.size, fun b hb hn => (h2.block b (Nat.lt_of_lt_of_le hb h.size) (fun e => by have := hS b e; omega)).trans (h.block b hb hn)⟩
theorem pivL_le (n : Nat) (R : Nat → Option (Nat → Int)) : (pivL n R).length ≤ n := by
  unfold pivL
  exact Nat.le_trans (List.length_filter_le _ _) (by simp)
theorem vecFar_calls {u : Nat} {X Y : World} {v : Value} {n : Nat} {f : Nat → Int} (h : Vec X (Far u X) v n f) (hb : Below X.heap.size X Y) : Vec Y (Far u Y) v n f := (h.below (fun _ h => h.2) hb).more fun _ h => ⟨h.1, Nat.lt_of_lt_of_le h.2 hb.size⟩

end Go.Proofs.YtinoomcboinokaaGreat
