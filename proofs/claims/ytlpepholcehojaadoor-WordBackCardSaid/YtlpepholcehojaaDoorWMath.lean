/- Words as lists of ints: the stack that reduces a word, reduced words, the group that they are. -/
namespace Go.Proofs.YtlpepholcehojaaDoor

def canc (x y : Int) : Bool := decide (x + y = 0) && decide (x ≠ 0)

theorem canc_comm (x y : Int) : canc x y = canc y x := by
  unfold canc
  by_cases h : x + y = 0
  · have h' : y + x = 0 := by omega
    by_cases hx : x = 0
    · have : y = 0 := by omega
      simp [hx, this]
    · have : y ≠ 0 := by omega
      simp [h, h', hx, this]
  · have h' : ¬ y + x = 0 := by omega
    simp [h, h']
theorem canc_iff {x y : Int} : canc x y = true ↔ x + y = 0 ∧ x ≠ 0 := by simp [canc]

/-- A letter is laid on the stack, or takes its inverse away. -/
def push (s : List Int) (x : Int) : List Int :=
  match s with
  | [] => [x]
  | y :: t => if canc y x then t else x :: y :: t

def act (s w : List Int) : List Int := w.foldl push s
def red (w : List Int) : List Int := (act [] w).reverse

/-- No letter is followed by its inverse. -/
def Red : List Int → Prop
  | [] => True
  | [_] => True
  | x :: y :: t => canc x y = false ∧ Red (y :: t)

theorem Red.tail {x : Int} {t : List Int} (h : Red (x :: t)) : Red t := by
  cases t with
  | nil => trivial
  | cons y t => exact h.2

theorem push_red {s : List Int} (h : Red s) (x : Int) : Red (push s x) := by
  cases s with
  | nil => trivial
  | cons y t =>
    simp only [push]
    by_cases hc : canc y x = true
    · rw [if_pos hc]; exact h.tail
    · rw [if_neg hc]
      exact ⟨by rw [canc_comm]; simpa using hc, h⟩

theorem push_push {s : List Int} (h : Red s) {x y : Int} (hc : canc y x = true) : push (push s y) x = s := by
  obtain ⟨h1, h2⟩ := canc_iff.1 hc
  cases s with
  | nil => simp [push, hc]
  | cons z t =>
    simp only [push]
    by_cases hz : canc z y = true
    · rw [if_pos hz]
      obtain ⟨h3, h4⟩ := canc_iff.1 hz
      have e : x = z := by omega
      subst e
      cases t with
      | nil => rfl
      | cons u t' =>
        have := h.1
        rw [canc_comm] at this
        simp [this]
    · rw [if_neg hz]
      simp [hc]

theorem act_append (s u v : List Int) : act s (u ++ v) = act (act s u) v := by simp [act]
theorem act_red {s : List Int} (h : Red s) (w : List Int) : Red (act s w) := by
  induction w generalizing s with
  | nil => exact h
  | cons x w ih => exact ih (push_red h x)

/-- Two words do the same to every stack. -/
def sim (u v : List Int) : Prop := ∀ s, Red s → act s u = act s v

theorem sim.refl (u : List Int) : sim u u := fun _ _ => rfl
theorem sim.symm {u v : List Int} (h : sim u v) : sim v u := fun s hs => (h s hs).symm
theorem sim.trans {u v w : List Int} (h : sim u v) (k : sim v w) : sim u w := fun s hs => (h s hs).trans (k s hs)
theorem sim.append {u u' v v' : List Int} (h : sim u u') (k : sim v v') : sim (u ++ v) (u' ++ v') := fun s hs => by
  rw [act_append, act_append, h s hs, k _ (act_red hs _)]
theorem sim_pair {x y : Int} (hc : canc x y = true) : sim [x, y] [] := fun s hs => by
  simp only [act, List.foldl]
  exact push_push hs hc

theorem sim_act (w : List Int) : ∀ st, sim (act st w).reverse (st.reverse ++ w) := by
  induction w with
  | nil => intro st; simp [act]; exact sim.refl _
  | cons x w ih =>
    intro st
    have h := ih (push st x)
    refine (show sim (act st (x :: w)).reverse ((push st x).reverse ++ w) from h).trans ?_
    cases st with
    | nil => exact sim.refl _
    | cons y t =>
      simp only [push]
      by_cases hc : canc y x = true
      · rw [if_pos hc]
        have e : (y :: t).reverse ++ x :: w = t.reverse ++ ([y, x] ++ w) := by simp
        rw [e]
        exact (sim.refl _).append (((sim_pair hc).append (sim.refl w)).symm)
      · rw [if_neg hc]
        have e : (x :: y :: t).reverse ++ w = (y :: t).reverse ++ x :: w := by simp
        rw [e]
        exact sim.refl _

theorem sim_red (w : List Int) : sim (red w) w := by
  show sim (act [] w).reverse w
  simpa using sim_act w []
theorem red_of_sim {u v : List Int} (h : sim u v) : red u = red v := by
  unfold red; rw [h [] trivial]

theorem Red.mid {u v : List Int} {z x : Int} (h : Red (u ++ z :: x :: v)) : canc z x = false := by
  induction u with
  | nil => exact h.1
  | cons a u ih => exact ih h.tail
theorem Red.right {u v : List Int} (h : Red (u ++ v)) : Red v := by
  induction u with
  | nil => exact h
  | cons a u ih => exact ih h.tail
theorem Red.left {u v : List Int} (h : Red (u ++ v)) : Red u := by
  induction u with
  | nil => trivial
  | cons a u ih =>
    cases u with
    | nil => trivial
    | cons b u => exact ⟨h.1, ih h.2⟩
/-- Two reduced words whose ends do not meet. -/
theorem Red.join {u v : List Int} {z x : Int} (h : Red (u ++ [z])) (k : Red (x :: v)) (hc : canc z x = false) : Red (u ++ z :: x :: v) := by
  induction u with
  | nil => exact ⟨hc, k⟩
  | cons a u ih =>
    cases u with
    | nil => exact ⟨h.1, ih h.2⟩
    | cons b u => exact ⟨h.1, ih h.2⟩

theorem act_of_red : ∀ (r s : List Int), Red (s.reverse ++ r) → act s r = r.reverse ++ s := by
  intro r
  induction r with
  | nil => intro s _; simp [act]
  | cons x r ih =>
    intro s h
    have e : push s x = x :: s := by
      cases s with
      | nil => rfl
      | cons z t =>
        have : canc z x = false := by
          have h' : Red (t.reverse ++ z :: x :: r) := by simpa using h
          exact h'.mid
        simp [push, this]
    have := ih (x :: s) (by simpa using h)
    rw [show act s (x :: r) = act (push s x) r from rfl, e, this]
    simp
theorem red_of_red {r : List Int} (h : Red r) : red r = r := by
  unfold red; rw [act_of_red r [] (by simpa using h)]; simp
theorem Red.reverse {w : List Int} (h : Red w) : Red w.reverse := by
  have := act_red (s := []) trivial w
  rwa [act_of_red w [] (by simpa using h), List.append_nil] at this
theorem red_red (w : List Int) : Red (red w) := (act_red (s := []) trivial w).reverse
theorem red_idem (w : List Int) : red (red w) = red w := red_of_red (red_red w)

/-- The product of two words, reduced. -/
def wmul (a b : List Int) : List Int := red (a ++ b)
theorem wmul_red_left (a b : List Int) : wmul (red a) b = wmul a b := red_of_sim ((sim_red a).append (sim.refl b))
theorem wmul_red_right (a b : List Int) : wmul a (red b) = wmul a b := red_of_sim ((sim.refl a).append (sim_red b))
theorem wmul_assoc (a b c : List Int) : wmul (wmul a b) c = wmul a (wmul b c) := by
  unfold wmul
  rw [show red (red (a ++ b) ++ c) = wmul (red (a ++ b)) c from rfl, wmul_red_left, show red (a ++ red (b ++ c)) = wmul a (red (b ++ c)) from rfl, wmul_red_right]
  simp [wmul]

/-- The inverse of a letter and of a word, as it stands. -/
def nlet (x : Int) : Int := if x = -9223372036854775808 then x else -x
def winv (w : List Int) : List Int := (w.map nlet).reverse
theorem winv_cons (x : Int) (w : List Int) : winv (x :: w) = winv w ++ [nlet x] := by simp [winv]
theorem winv_append (u v : List Int) : winv (u ++ v) = winv v ++ winv u := by simp [winv]
@[simp] theorem winv_nil : winv [] = [] := rfl
theorem winv_length (w : List Int) : (winv w).length = w.length := by simp [winv]

/-- The letters that have an inverse. -/
def Lets (w : List Int) : Prop := ∀ x ∈ w, x ≠ 0 ∧ -9223372036854775808 < x ∧ x < 9223372036854775808
theorem Lets.append {u v : List Int} (h : Lets u) (k : Lets v) : Lets (u ++ v) := fun x hx => by
  rcases List.mem_append.1 hx with hx | hx
  · exact h x hx
  · exact k x hx
theorem nlet_of {x : Int} (h : x ≠ 0 ∧ -9223372036854775808 < x ∧ x < 9223372036854775808) : nlet x = -x := by
  unfold nlet; rw [if_neg (by omega)]
theorem Lets.winv {w : List Int} (h : Lets w) : Lets (winv w) := fun x hx => by
  simp only [Go.Proofs.YtlpepholcehojaaDoor.winv, List.mem_reverse, List.mem_map] at hx
  obtain ⟨y, hy, rfl⟩ := hx
  have := h y hy
  rw [nlet_of this]
  omega
theorem winv_winv {w : List Int} (h : Lets w) : winv (winv w) = w := by
  unfold winv
  rw [List.map_reverse, List.reverse_reverse, List.map_map]
  have : ∀ x ∈ w, (nlet ∘ nlet) x = x := fun x hx => by
    have h1 := h x hx
    simp only [Function.comp, nlet_of h1]
    rw [nlet_of ⟨by omega, by omega, by omega⟩]; omega
  exact (List.map_congr_left this).trans (List.map_id' w)
theorem sim_winv {w : List Int} (h : Lets w) : sim (w ++ winv w) [] := by
  induction w with
  | nil => exact sim.refl _
  | cons x w ih =>
    have hx := h x (by simp)
    have hw : Lets w := fun y hy => h y (by simp [hy])
    rw [winv_cons, show x :: w ++ (winv w ++ [nlet x]) = [x] ++ ((w ++ winv w) ++ [nlet x]) by simp]
    have h1 := (sim.refl [x]).append ((ih hw).append (sim.refl [nlet x]))
    refine h1.trans ?_
    refine sim_pair ?_
    rw [nlet_of hx, canc_iff]
    omega
theorem sim_winv' {w : List Int} (h : Lets w) : sim (winv w ++ w) [] := by
  have := sim_winv h.winv
  rwa [winv_winv h] at this
theorem sim_inv_of {u v : List Int} (hu : Lets u) (hv : Lets v) (h : sim u v) : sim (winv u) (winv v) := by
  have h1 : sim (winv u) (winv u ++ (v ++ winv v)) := by
    have := (sim.refl (winv u)).append (sim_winv hv).symm
    simpa using this
  have h2 : sim (winv u ++ (v ++ winv v)) (winv v) := by
    have h3 : sim (winv u ++ v) [] := ((sim.refl (winv u)).append h.symm).trans (sim_winv' hu)
    have := h3.append (sim.refl (winv v))
    simpa using this
  exact h1.trans h2
theorem push_lets {s : List Int} {x : Int} (h : Lets s) (hx : x ≠ 0 ∧ -9223372036854775808 < x ∧ x < 9223372036854775808) : Lets (push s x) := by
  cases s with
  | nil => intro y hy; simp [push] at hy; subst hy; exact hx
  | cons z t =>
    simp only [push]
    split
    · exact fun y hy => h y (by simp [hy])
    · intro y hy
      rcases List.mem_cons.1 hy with rfl | hy
      · exact hx
      · exact h y hy
theorem act_lets {s : List Int} (h : Lets s) {w : List Int} (hw : Lets w) : Lets (act s w) := by
  induction w generalizing s with
  | nil => exact h
  | cons x w ih => exact ih (push_lets h (hw x (by simp))) (fun y hy => hw y (by simp [hy]))
theorem Lets.red {w : List Int} (h : Lets w) : Lets (red w) := fun x hx => act_lets (s := []) (fun _ h => by cases h) h x (by simpa [Go.Proofs.YtlpepholcehojaaDoor.red] using hx)
theorem push_length (s : List Int) (x : Int) : (push s x).length ≤ s.length + 1 := by
  cases s with
  | nil => simp [push]
  | cons y t => simp only [push]; split <;> simp <;> omega
theorem act_length (s w : List Int) : (act s w).length ≤ s.length + w.length := by
  induction w generalizing s with
  | nil => simp [act]
  | cons x w ih =>
    have h1 := ih (push s x)
    have h2 := push_length s x
    simp only [List.length_cons]
    have : act s (x :: w) = act (push s x) w := rfl
    rw [this]
    omega
theorem red_length (w : List Int) : (red w).length ≤ w.length := by
  have := act_length [] w
  simpa [red] using this
end Go.Proofs.YtlpepholcehojaaDoor
