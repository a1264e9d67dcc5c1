/- The laws of the free group, as WordGroup asks them; contracts over words of letters. -/
import Derived.Test.YtbcjabmgiodfiabDoorWPow
import Derived.Test.YtbcjabmgiodfiabDoorWLetters
namespace Go.Proofs.YtbcjabmgiodfiabDoor
open Go Go.RowKit

/-- A word of letters, at most N of them. -/
def Bnd (N : Nat) (l : List Int) : Prop := Lets l ∧ l.length ≤ N
theorem Bnd.red {N : Nat} {l : List Int} (h : Bnd N l) : Bnd N (red l) := ⟨h.1.red, Nat.le_trans (red_length l) h.2⟩
theorem Bnd.inv {N : Nat} {l : List Int} (h : Bnd N l) : Bnd N (Go.Proofs.YtbcjabmgiodfiabDoor.red (winv l)) :=
  ⟨h.1.winv.red, Nat.le_trans (red_length _) (by rw [winv_length]; exact h.2)⟩
theorem Bnd.mul {N M : Nat} {a b : List Int} (h : Bnd N a) (k : Bnd M b) : Bnd (N + M) (wmul a b) :=
  ⟨(h.1.append k.1).red, Nat.le_trans (red_length _) (by have := h.2; have := k.2; simp; omega)⟩
theorem Bnd.nil : Bnd 0 [] := ⟨fun x hx => (by cases hx), Nat.le_refl _⟩
theorem Bnd.rep {N : Nat} {l : List Int} (h : Bnd N l) (t : Nat) : Bnd (t * N) (rep l t) := by
  induction t with
  | zero => exact ⟨fun x hx => (by cases hx), by simp [Go.Proofs.YtbcjabmgiodfiabDoor.rep]⟩
  | succ t ih =>
    refine ⟨h.1.append ih.1, ?_⟩
    have h1 := h.2
    have h2 := ih.2
    simp [Go.Proofs.YtbcjabmgiodfiabDoor.rep, Nat.add_mul]
    omega
theorem Bnd.pow {N : Nat} {l : List Int} (h : Bnd N l) (n : Int) : Bnd (n.natAbs * N) (powW l n) := by
  unfold powW zp
  split
  · have hi : Bnd N (winv (Go.Proofs.YtbcjabmgiodfiabDoor.red l)) := ⟨h.red.1.winv, by rw [winv_length]; exact h.red.2⟩
    exact (hi.rep _).red
  · exact (h.red.rep _).red
theorem Bnd.more {N M : Nat} {l : List Int} (h : Bnd N l) (k : N ≤ M) : Bnd M l := ⟨h.1, Nat.le_trans h.2 k⟩

theorem Live.cons {w w' : World} {L : List (Value × List Int)} {r : Value} {l : List Int} (h : Live w L) (hb : Below w.heap.size w w') (hi : Ints w' w'.heap.size r l) : Live w' ((r, l) :: L) := fun i p hp => by
  cases i with
  | zero => injection hp with hp; subst hp; exact hi
  | succ i => exact h.below hb i p hp
theorem Bnd.of_eq {N : Nat} {l l' : List Int} (h : l = l') (k : Bnd N l') : Bnd N l := by rw [h]; exact k

theorem mulB {N M : Nat} {a b : List Int} (v u : Value) (w : World) (ha : Bnd N a) (hb : Bnd M b) (h : N + M ≤ 100000) (hv : Ints w w.heap.size v a) (hu : Ints w w.heap.size u b) :
    Calls Tryd.prog 12 #[v, u] w (GivesO w (wmul a b)) :=
  Mul_any v u a b w (by have := ha.2; omega) (by have := hb.2; omega) ha.1.rng hb.1.rng hv hu
theorem invB {N : Nat} {a : List Int} (v : Value) (w : World) (ha : Bnd N a) (h : N ≤ 100000) (hv : Ints w w.heap.size v a) :
    Calls Tryd.prog 10 #[v] w (GivesO w (red (winv a))) :=
  Invert_any v a w (by have := ha.2; omega) ha.1.rng hv ha.1.winv.rng
theorem redB {N : Nat} {a : List Int} (v : Value) (w : World) (ha : Bnd N a) (h : N ≤ 100000) (hv : Ints w w.heap.size v a) :
    Calls Tryd.prog 13 #[v] w (GivesO w (red a)) :=
  Reduce_any v a w (by have := ha.2; omega) ha.1.rng hv
theorem conjB {N M : Nat} {a b : List Int} (v u : Value) (w : World) (ha : Bnd N a) (hb : Bnd M b) (h : N + M ≤ 50000) (hv : Ints w w.heap.size v a) (hu : Ints w w.heap.size u b) :
    Calls Tryd.prog 14 #[v, u] w (GivesO w (red (winv b ++ a ++ b))) :=
  Conj_any v u a b w (by have := ha.2; omega) (by have := hb.2; omega) ha.1.rng hb.1.rng hv hu
theorem commB {N M : Nat} {a b : List Int} (v u : Value) (w : World) (ha : Bnd N a) (hb : Bnd M b) (h : N + M ≤ 50000) (hv : Ints w w.heap.size v a) (hu : Ints w w.heap.size u b) :
    Calls Tryd.prog 15 #[v, u] w (GivesO w (red (winv a ++ winv b ++ a ++ b))) :=
  Comm_any v u a b w (by have := ha.2; omega) (by have := hb.2; omega) ha.1.rng hb.1.rng hv hu
theorem sameB' {N : Nat} {l l' : List Int} (v u : Value) (w : World) (hb : Bnd N l) (hN : N ≤ 100000) (h : l = l') (hv : Ints w w.heap.size v l) (hu : Ints w w.heap.size u l') :
    Calls Tryd.prog 11 #[v, u] w fun e w' => e = .returned (.bool true) ∧ ∃ m, w' = w.drewN m :=
  sameT v u w (by have := hb.2; omega) h hv hu
theorem ints_none (w : World) : Ints w w.heap.size (.slice none 0 0) [] := ⟨none, 0, rfl, fun h => absurd h (by simp)⟩

theorem g_inv_right {a : List Int} (h : Lets a) : wmul a (red (winv a)) = [] := by
  rw [wmul_red_right]; exact (red_of_sim (sim_winv h)).trans rfl
theorem g_inv_left {a : List Int} (h : Lets a) : wmul (red (winv a)) a = [] := by
  rw [wmul_red_left]; exact (red_of_sim (sim_winv' h)).trans rfl
theorem g_nil (a : List Int) : wmul a [] = red a := by unfold wmul; rw [List.append_nil]
theorem g_inv_inv {a : List Int} (h : Lets a) : red (winv (red (winv a))) = red a := by
  have h1 := sim_inv_of h.winv.red h.winv (sim_red (winv a))
  rw [winv_winv h] at h1
  exact red_of_sim h1
theorem g_conj (a b : List Int) : red (winv b ++ a ++ b) = wmul (wmul (red (winv b)) a) b := by
  rw [wmul_red_left]
  exact (wmul_red_left (winv b ++ a) b).symm
theorem g_comm (a b : List Int) : red (winv a ++ winv b ++ a ++ b) = wmul (wmul (red (winv a)) (red (winv b))) (wmul a b) := by
  rw [wmul_red_left, wmul_red_right]
  have h1 : wmul (wmul (winv a) (winv b)) (wmul a b) = wmul (winv a ++ winv b) (a ++ b) := by
    rw [show wmul a b = red (a ++ b) from rfl, wmul_red_right, show wmul (winv a) (winv b) = red (winv a ++ winv b) from rfl, wmul_red_left]
  rw [h1]
  unfold wmul
  rw [List.append_assoc, List.append_assoc]
end Go.Proofs.YtbcjabmgiodfiabDoor
