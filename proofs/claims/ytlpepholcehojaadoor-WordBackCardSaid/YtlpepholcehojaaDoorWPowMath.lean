/- Powers of words: what lies between the ends of a reduced word, and how often. -/
import Derived.Test.YtlpepholcehojaaDoorWMath
namespace Go.Proofs.YtlpepholcehojaaDoor

theorem canc_self (x : Int) : canc x x = false := by
  cases h : canc x x with
  | false => rfl
  | true => have := canc_iff.1 h; omega
/-- Two reduced words that share a part in the middle. -/
theorem Red.glue {u m v : List Int} (hm : m ≠ []) (h : Red (u ++ m)) (k : Red (m ++ v)) : Red (u ++ (m ++ v)) := by
  induction u with
  | nil => exact k
  | cons a u ih =>
    have h2 := ih h.tail
    cases u with
    | nil =>
      cases m with
      | nil => exact absurd rfl hm
      | cons b m => exact ⟨h.1, h2⟩
    | cons b u => exact ⟨h.1, h2⟩

/-- A word n times. -/
def rep (w : List Int) : Nat → List Int
  | 0 => []
  | n + 1 => w ++ rep w n
theorem rep_len (w : List Int) (n : Nat) : (rep w n).length = n * w.length := by
  induction n with
  | zero => simp [rep]
  | succ n ih => simp [rep, ih, Nat.add_mul]; omega
theorem rep_add (w : List Int) (a b : Nat) : rep w (a + b) = rep w a ++ rep w b := by
  induction a with
  | zero => simp [rep]
  | succ a ih => rw [show a + 1 + b = (a + b) + 1 by omega]; simp [rep, ih]
theorem rep_comm (w : List Int) (n : Nat) : rep w n ++ w = w ++ rep w n := by
  have h1 := rep_add w n 1
  have h2 := rep_add w 1 n
  rw [Nat.add_comm] at h1
  simp [rep] at h1 h2
  rw [← h1, h2]
theorem rep_sim {u v : List Int} (h : sim u v) (n : Nat) : sim (rep u n) (rep v n) := by
  induction n with
  | zero => exact sim.refl _
  | succ n ih => exact h.append ih
/-- A conjugate's power. -/
theorem rep_conj {p m q : List Int} (h : sim (q ++ p) []) : ∀ n, sim (rep (p ++ (m ++ q)) (n + 1)) (p ++ (rep m (n + 1) ++ q)) := by
  intro n
  induction n with
  | zero => simp [rep]; exact sim.refl _
  | succ n ih =>
    have h1 : sim (rep (p ++ (m ++ q)) (n + 1 + 1)) ((p ++ m) ++ ((q ++ p) ++ (rep m (n + 1) ++ q))) := by
      have := (sim.refl (p ++ (m ++ q))).append ih
      refine (show sim (rep (p ++ (m ++ q)) (n + 1 + 1)) _ from this).trans ?_
      have e : p ++ (m ++ q) ++ (p ++ (rep m (n + 1) ++ q)) = (p ++ m) ++ ((q ++ p) ++ (rep m (n + 1) ++ q)) := by simp
      rw [e]; exact sim.refl _
    refine h1.trans ?_
    have h2 := (sim.refl (p ++ m)).append (h.append (sim.refl (rep m (n + 1) ++ q)))
    refine h2.trans ?_
    have e : (p ++ m) ++ ([] ++ (rep m (n + 1) ++ q)) = p ++ (rep m (n + 1 + 1) ++ q) := by simp [rep]
    rw [e]; exact sim.refl _
/-- The powers of a reduced word whose ends do not meet are reduced. -/
theorem rep_red {m : List Int} (hm : m ≠ []) (h : Red (m ++ m)) : ∀ n, Red (rep m (n + 1)) := by
  intro n
  induction n with
  | zero => simp [rep]; exact h.left
  | succ n ih =>
    rw [show rep m (n + 1 + 1) = m ++ (m ++ rep m n) from rfl]
    exact Red.glue hm h ih
theorem ends_red {p m q : List Int} (hm : m ≠ []) (h : Red (p ++ (m ++ q))) (hh : Red (m ++ m)) (n : Nat) : Red (p ++ (rep m (n + 1) ++ q)) := by
  have h1 : Red (m ++ q) := h.right
  have h2 : Red (p ++ m) := by
    have h3 : Red ((p ++ m) ++ q) := by simpa using h
    exact h3.left
  have h4 : Red (rep m (n + 1) ++ q) := by
    have e : rep m (n + 1) = rep m n ++ m := (rep_comm m n).symm
    rw [e, List.append_assoc]
    exact Red.glue hm (by rw [← e]; exact rep_red hm hh n) h1
  have h5 : rep m (n + 1) ++ q = m ++ (rep m n ++ q) := by simp [rep]
  rw [h5] at h4 ⊢
  exact Red.glue hm h2 h4
/-- A word to a power, as it stands. -/
def zp (w : List Int) (n : Int) : List Int := if n < 0 then rep (winv w) n.natAbs else rep w n.natAbs
theorem rep_meet {u v : List Int} (h : sim (u ++ v) []) (a b : Nat) : sim (rep u (a + 1) ++ rep v (b + 1)) (rep u a ++ rep v b) := by
  have e : rep u (a + 1) ++ rep v (b + 1) = rep u a ++ ((u ++ v) ++ rep v b) := by
    rw [show rep u (a + 1) = rep u a ++ u from (rep_comm u a).symm]; simp [rep]
  rw [e]
  exact (sim.refl (rep u a)).append (h.append (sim.refl (rep v b)))
theorem rep_diff {u v : List Int} (h : sim (u ++ v) []) : ∀ b a, sim (rep u (a + b) ++ rep v b) (rep u a) := by
  intro b
  induction b with
  | zero => intro a; simp [rep]; exact sim.refl _
  | succ b ih => intro a; exact (rep_meet h (a + b) b).trans (ih a)
theorem rep_diff' {u v : List Int} (h : sim (u ++ v) []) : ∀ a b, sim (rep u a ++ rep v (a + b)) (rep v b) := by
  intro a
  induction a with
  | zero => intro b; simp [rep]; exact sim.refl _
  | succ a ih => intro b; rw [show a + 1 + b = (a + b) + 1 by omega]; exact (rep_meet h a (a + b)).trans (ih b)
theorem zp_add {w : List Int} (hw : Lets w) (x y : Int) : sim (zp w x ++ zp w y) (zp w (x + y)) := by
  have h1 := sim_winv hw
  have h2 := sim_winv' hw
  unfold zp
  by_cases hx : x < 0 <;> by_cases hy : y < 0
  · rw [if_pos hx, if_pos hy, if_pos (by omega), ← rep_add, show x.natAbs + y.natAbs = (x + y).natAbs by omega]; exact sim.refl _
  · rw [if_pos hx, if_neg hy]
    by_cases hz : x + y < 0
    · rw [if_pos hz, show x.natAbs = (x + y).natAbs + y.natAbs by omega]; exact rep_diff h2 _ _
    · rw [if_neg hz, show y.natAbs = x.natAbs + (x + y).natAbs by omega]; exact rep_diff' h2 _ _
  · rw [if_neg hx, if_pos hy]
    by_cases hz : x + y < 0
    · rw [if_pos hz, show y.natAbs = x.natAbs + (x + y).natAbs by omega]; exact rep_diff' h1 _ _
    · rw [if_neg hz, show x.natAbs = (x + y).natAbs + y.natAbs by omega]; exact rep_diff h1 _ _
  · rw [if_neg hx, if_neg hy, if_neg (by omega), ← rep_add, show x.natAbs + y.natAbs = (x + y).natAbs by omega]; exact sim.refl _
/-- What Pow returns where it is short enough. -/
def powW (w : List Int) (n : Int) : List Int := red (zp (red w) n)
theorem powW_add {w : List Int} (hw : Lets w) (x y : Int) : wmul (powW w x) (powW w y) = powW w (x + y) := by
  unfold powW
  rw [wmul_red_left, wmul_red_right]
  exact red_of_sim (zp_add hw.red x y)
theorem powW_one (w : List Int) : powW w 1 = red w := by
  unfold powW zp
  rw [if_neg (by omega)]
  simp [rep, red_idem]
end Go.Proofs.YtlpepholcehojaaDoor
