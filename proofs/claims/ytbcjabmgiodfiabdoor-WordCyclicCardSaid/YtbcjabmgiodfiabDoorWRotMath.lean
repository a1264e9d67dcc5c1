/- Conjugates of a word: what lies between the ends turns. -/
import Derived.Test.YtbcjabmgiodfiabDoorWEndsMath
namespace Go.Proofs.YtbcjabmgiodfiabDoor

def Rot (u v : List Int) : Prop := ∃ s t, u = s ++ t ∧ v = t ++ s
theorem Rot.refl (u : List Int) : Rot u u := ⟨[], u, rfl, by simp⟩
theorem Rot.trans {u v w : List Int} (h : Rot u v) (k : Rot v w) : Rot u w := by
  obtain ⟨s, t, rfl, rfl⟩ := h
  obtain ⟨s', t', e, rfl⟩ := k
  rcases List.append_eq_append_iff.1 e with ⟨a, rfl, rfl⟩ | ⟨a, rfl, rfl⟩
  · exact ⟨a, t' ++ t, by simp, by simp⟩
  · exact ⟨s ++ s', a, by simp, by simp⟩
theorem Rot.length {u v : List Int} (h : Rot u v) : v.length = u.length := by
  obtain ⟨s, t, rfl, rfl⟩ := h
  simp; omega
/-- A word that is cyclically reduced stays so when it is turned. -/
theorem rot_mm {s t : List Int} (h : Red ((s ++ t) ++ (s ++ t))) : Red ((t ++ s) ++ (t ++ s)) := by
  by_cases hs : s = []
  · subst hs; simpa using h
  · have h1 : Red (s ++ (t ++ (s ++ t))) := by simpa using h
    have h2 : Red (t ++ (s ++ t)) := h1.right
    have h3 : Red (t ++ s) := by
      have : Red ((t ++ s) ++ t) := by simpa using h2
      exact this.left
    have h4 : Red (s ++ (t ++ s)) := by
      have : Red ((s ++ (t ++ s)) ++ t) := by simpa using h
      exact this.left
    have := Red.glue hs h3 h4
    simpa using this
theorem Lets.rot {s t : List Int} (h : Lets (s ++ t)) : Lets (t ++ s) := fun x hx => h x (by
  rcases List.mem_append.1 hx with h | h <;> simp [h])
theorem winv_cons' {x : Int} {v : List Int} : winv (x :: v) = winv v ++ [nlet x] := winv_cons x v

/-- A cyclically reduced word, conjugated. -/
theorem conj_rot : ∀ (u m : List Int), Lets u → Red u → Lets m → m ≠ [] → Red (m ++ m) →
    ∃ u' m', Rot m m' ∧ Lets u' ∧ Lets m' ∧ m' ≠ [] ∧ Red (m' ++ m') ∧ Red (winv u' ++ (m' ++ u')) ∧ red (winv u ++ (m ++ u)) = winv u' ++ (m' ++ u') := by
  intro u
  induction u with
  | nil =>
    intro m _ _ hm hne hmm
    refine ⟨[], m, Rot.refl m, fun x hx => (by cases hx), hm, hne, hmm, ?_, ?_⟩
    · simpa using hmm.left
    · simpa using red_of_red hmm.left
  | cons x v ih =>
    intro m hu hru hm hne hmm
    have hx := hu x (by simp)
    have hv : Lets v := fun y hy => hu y (by simp [hy])
    have hrv : Red v := hru.tail
    obtain ⟨y, m0, rfl⟩ : ∃ y m0, m = y :: m0 := by
      cases m with
      | nil => exact absurd rfl hne
      | cons y m0 => exact ⟨y, m0, rfl⟩
    by_cases hA : canc (nlet x) y = true
    · have hxy : y = x := by
        have := canc_iff.1 hA
        rw [nlet_of hx] at this
        omega
      subst hxy
      have hmm1 : Red ((m0 ++ [y]) ++ (m0 ++ [y])) := rot_mm (s := [y]) (t := m0) hmm
      have hm1 : Lets (m0 ++ [y]) := Lets.rot (s := [y]) (t := m0) hm
      obtain ⟨u', m', h1, h2, h3, h4, h5, h6, h7⟩ := ih (m0 ++ [y]) hv hrv hm1 (by simp) hmm1
      refine ⟨u', m', Rot.trans ⟨[y], m0, rfl, rfl⟩ h1, h2, h3, h4, h5, h6, ?_⟩
      rw [← h7]
      apply red_of_sim
      have e1 : winv (y :: v) ++ (y :: m0 ++ y :: v) = winv v ++ ([nlet y, y] ++ (m0 ++ (y :: v))) := by
        rw [winv_cons]; simp
      have e2 : winv v ++ (m0 ++ [y] ++ v) = winv v ++ ([] ++ (m0 ++ (y :: v))) := by simp
      rw [e1, e2]
      exact (sim.refl _).append ((sim_pair hA).append (sim.refl _))
    · have hA' : canc (nlet x) y = false := by simpa using hA
      obtain ⟨m1, z, hz⟩ : ∃ m1 z, y :: m0 = m1 ++ [z] := ⟨(y :: m0).dropLast, (y :: m0).getLast (by simp), (List.dropLast_concat_getLast _).symm⟩
      by_cases hB : canc z x = true
      · have hzx : nlet x = z := by
          have := canc_iff.1 hB
          rw [nlet_of hx]
          omega
        rw [hz] at hm hmm ⊢
        have hmm1 : Red (([z] ++ m1) ++ ([z] ++ m1)) := rot_mm (s := m1) (t := [z]) hmm
        have hm1 : Lets ([z] ++ m1) := Lets.rot (s := m1) (t := [z]) hm
        obtain ⟨u', m', h1, h2, h3, h4, h5, h6, h7⟩ := ih ([z] ++ m1) hv hrv hm1 (by simp) hmm1
        refine ⟨u', m', Rot.trans ⟨m1, [z], rfl, rfl⟩ h1, h2, h3, h4, h5, h6, ?_⟩
        rw [← h7]
        apply red_of_sim
        have e1 : winv (x :: v) ++ (m1 ++ [z] ++ x :: v) = (winv v ++ ([z] ++ m1)) ++ ([z, x] ++ v) := by
          rw [winv_cons, hzx]; simp
        have e2 : winv v ++ ([z] ++ m1 ++ v) = (winv v ++ ([z] ++ m1)) ++ ([] ++ v) := by simp
        rw [e1, e2]
        exact (sim.refl _).append ((sim_pair hB).append (sim.refl _))
      · have hB' : canc z x = false := by simpa using hB
        have hrm : Red (y :: m0) := hmm.left
        have hw : Red (winv (x :: v)) := Red.winv hu hru
        have h1 : Red (winv (x :: v) ++ (y :: m0)) := by
          rw [winv_cons] at hw ⊢
          have := Red.join hw hrm hA'
          simpa using this
        have h2 : Red ((y :: m0) ++ (x :: v)) := by
          rw [hz] at hrm ⊢
          have := Red.join hrm hru hB'
          simpa using this
        have h3 : Red (winv (x :: v) ++ ((y :: m0) ++ (x :: v))) := Red.glue hne h1 h2
        exact ⟨x :: v, y :: m0, Rot.refl _, hu, hm, hne, hmm, h3, red_of_red h3⟩

theorem EndsAt.uniq {l : List Int} {j k : Nat} (h : EndsAt l j) (h' : EndsAt l k) : j = k := by
  rcases Nat.lt_trichotomy j k with hjk | hjk | hjk
  · have h1 := h'.2.1 j hjk
    have h2 := h.2.2 (by have := h'.1; omega)
    rw [h1] at h2; cases h2
  · exact hjk
  · have h1 := h.2.1 k hjk
    have h2 := h'.2.2 (by have := h.1; omega)
    rw [h1] at h2; cases h2

theorem meet_ne {m : List Int} (hm : m ≠ []) (h : Red (m ++ m)) : canc (m.getD (m.length - 1) 0) (m.getD 0 0) = false := by
  have e1 : m.dropLast ++ [m.getLast hm] = m := List.dropLast_concat_getLast hm
  have e2 : m.getD (m.length - 1) 0 = m.getLast hm := by
    have : 0 < m.length := List.length_pos_iff.2 hm
    rw [List.getLast_eq_getElem, List.getD_eq_getElem?_getD, List.getElem?_eq_getElem (by omega)]; rfl
  rw [e2]
  generalize m.getLast hm = z at e1
  cases m with
  | nil => exact absurd rfl hm
  | cons x v =>
    have e3 : (x :: v).dropLast ++ z :: x :: v = (x :: v) ++ (x :: v) := by
      calc (x :: v).dropLast ++ z :: x :: v = ((x :: v).dropLast ++ [z]) ++ (x :: v) := by rw [List.append_assoc]; rfl
        _ = (x :: v) ++ (x :: v) := by rw [e1]
    rw [← e3] at h
    exact h.mid
theorem getD_left {u v : List Int} {j : Nat} (h : j < u.length) : (u ++ v).getD j 0 = u.getD j 0 := by
  rw [List.getD_eq_getElem?_getD, List.getD_eq_getElem?_getD, List.getElem?_append_left h]
theorem getD_right (u v : List Int) (j : Nat) : (u ++ v).getD (u.length + j) 0 = v.getD j 0 := by
  rw [List.getD_eq_getElem?_getD, List.getD_eq_getElem?_getD, List.getElem?_append_right (by omega), Nat.add_sub_cancel_left]
theorem winv_get {u : List Int} {j : Nat} (h : j < u.length) : (winv u).getD j 0 = nlet (u.getD (u.length - 1 - j) 0) := by
  have h2 : u.length - 1 - j < u.length := by omega
  unfold winv
  simp [List.getD_eq_getElem?_getD, h, h2]
/-- The ends of a conjugate that is reduced as it stands. -/
theorem ends_of {u m : List Int} (hu : Lets u) (hm : m ≠ []) (hmm : Red (m ++ m)) : EndsAt (winv u ++ (m ++ u)) u.length ∧ midW (winv u ++ (m ++ u)) u.length = m := by
  have hl : (winv u ++ (m ++ u)).length = u.length + (m.length + u.length) := by simp [winv_length]
  have hm0 : 0 < m.length := List.length_pos_iff.2 hm
  have hw := winv_length u
  refine ⟨⟨by omega, fun j hj => ?_, fun _ => ?_⟩, ?_⟩
  · unfold pairAt
    have e3 : (winv u ++ (m ++ u)).getD j 0 = nlet (u.getD (u.length - 1 - j) 0) := by rw [getD_left (by omega), winv_get hj]
    rw [hl, e3]
    have e : u.length + (m.length + u.length) - 1 - j = (winv u).length + (m.length + (u.length - 1 - j)) := by omega
    rw [e, getD_right, getD_right]
    have hin : u.getD (u.length - 1 - j) 0 ∈ u := by
      have : u.getD (u.length - 1 - j) 0 = u[u.length - 1 - j] := by simp [List.getD_eq_getElem?_getD, show u.length - 1 - j < u.length by omega]
      rw [this]; exact List.getElem_mem _
    have hx := hu _ hin
    rw [nlet_of hx, canc_iff]
    omega
  · unfold pairAt
    rw [hl]
    have e1 : u.length + (m.length + u.length) - 1 - u.length = (winv u).length + (m.length - 1) := by omega
    have e2 : (winv u ++ (m ++ u)).getD u.length 0 = m.getD 0 0 := by
      have := getD_right (winv u) (m ++ u) 0
      rw [hw, Nat.add_zero] at this
      rw [this, getD_left hm0]
    rw [e1, e2, getD_right, getD_left (by omega)]
    exact meet_ne hm hmm
  · unfold midW
    rw [hl, show u.length + (m.length + u.length) - u.length = (winv u ++ m).length by simp [winv_length]; omega, ← List.append_assoc, List.take_left, ← hw, List.drop_left]

/-- What lies between the ends of a conjugate is a turn of what lies between those of the word. -/
theorem cyc_conj {a b : List Int} (ha : Lets a) (hb : Lets b) {j k : Nat} (hj : EndsAt (red a) j) (hk : EndsAt (red (winv b ++ a ++ b)) k) :
    Rot (midW (red a) j) (midW (red (winv b ++ a ++ b)) k) := by
  by_cases h0 : (red a).length = 0
  · have e : red a = [] := List.length_eq_zero_iff.1 h0
    have e2 : red (winv b ++ a ++ b) = [] := by
      have h1 : sim (winv b ++ a ++ b) (winv b ++ [] ++ b) := by
        have := (sim_red a).symm
        rw [e] at this
        exact ((sim.refl _).append this).append (sim.refl _)
      rw [red_of_sim h1, List.append_nil, red_of_sim (sim_winv' hb)]
      rfl
    rw [e, e2]
    exact ⟨[], [], by simp [midW], by simp [midW]⟩
  · have hsh := ends_short (red_red a) ha.red (by omega) hj
    have hparts := mid_parts (red a) hsh
    rw [ends_inv ha.red hj hsh] at hparts
    have hmm := mid_mm (red_red a) hj hsh
    have hne := mid_ne hsh
    have hp : Lets ((red a).take j) := fun x hx => ha.red x (List.mem_of_mem_take hx)
    have hml : Lets (midW (red a) j) := fun x hx => ha.red x (List.mem_of_mem_take (List.mem_of_mem_drop hx))
    generalize midW (red a) j = m at hparts hmm hne hml ⊢
    generalize (red a).take j = p at hparts hp
    have hwp := hp.winv
    have hu : Lets (red (winv p ++ b)) := (hwp.append hb).red
    obtain ⟨u', m', h1, h2, h3, h4, h5, h6, h7⟩ := conj_rot (red (winv p ++ b)) m hu (red_red _) hml hne hmm
    have h8 : sim (winv (red (winv p ++ b))) (winv b ++ p) := by
      have := sim_inv_of hu (hwp.append hb) (sim_red (winv p ++ b))
      rw [winv_append, winv_winv hp] at this
      exact this
    have h9 : red (winv b ++ a ++ b) = red (winv (red (winv p ++ b)) ++ (m ++ red (winv p ++ b))) := by
      apply red_of_sim
      have g1 : sim (winv b ++ a ++ b) (winv b ++ (p ++ (m ++ winv p)) ++ b) := by
        rw [hparts]
        exact ((sim.refl _).append (sim_red a).symm).append (sim.refl _)
      have g2 : sim (winv (red (winv p ++ b)) ++ (m ++ red (winv p ++ b))) ((winv b ++ p) ++ (m ++ (winv p ++ b))) :=
        h8.append ((sim.refl _).append (sim_red _))
      refine g1.trans ?_
      refine sim.trans ?_ g2.symm
      have e : winv b ++ (p ++ (m ++ winv p)) ++ b = (winv b ++ p) ++ (m ++ (winv p ++ b)) := by simp
      rw [e]
      exact sim.refl _
    rw [h9, h7] at hk ⊢
    obtain ⟨q1, q2⟩ := ends_of h2 h4 h5
    have := hk.uniq q1
    subst this
    rw [q2]
    exact h1
/-- .. as the law looks for it. -/
theorem Rot.found {x y : List Int} (h : Rot x y) (hx : 0 < x.length) : ∃ k, k < x.length ∧ x.drop k ++ x.take k = y := by
  obtain ⟨s, t, rfl, rfl⟩ := h
  by_cases ht : t = []
  · subst ht
    exact ⟨0, hx, by simp⟩
  · have := List.length_pos_iff.2 ht
    exact ⟨s.length, by simp; omega, by simp⟩
end Go.Proofs.YtbcjabmgiodfiabDoor
