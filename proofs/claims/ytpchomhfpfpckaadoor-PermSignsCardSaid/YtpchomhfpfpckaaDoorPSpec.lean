/- What a text reads as a permutation of a degree: pure, no program. -/
import Derived.Test.YtpchomhfpfpckaaDoorCyc
namespace Go.Proofs.YtpchomhfpfpckaaDoor
open Go Go.RowKit

/-- The byte at a place, -1 behind the end. -/
def chB (s : ByteArray) (i : Nat) : Int := if h : i < s.size then (s[i].toNat : Int) else -1
theorem chB_in {s : ByteArray} {i : Nat} (h : i < s.size) : chB s i = (s[i].toNat : Int) := by unfold chB; rw [dif_pos h]
theorem chB_out {s : ByteArray} {i : Nat} (h : s.size ≤ i) : chB s i = -1 := by unfold chB; rw [dif_neg (by omega)]
theorem chB_lt {s : ByteArray} {i : Nat} (h : 0 ≤ chB s i) : i < s.size := by
  rcases Nat.lt_or_ge i s.size with h1 | h1
  · exact h1
  · rw [chB_out h1] at h; omega
def Dg (c : Int) : Prop := 48 ≤ c ∧ c ≤ 57
instance (c : Int) : Decidable (Dg c) := by unfold Dg; infer_instance
/-- The digits from p on end at e. -/
def Digs (s : ByteArray) (p e : Nat) : Prop := p ≤ e ∧ e ≤ s.size ∧ (∀ i, p ≤ i → i < e → Dg (chB s i)) ∧ ¬ Dg (chB s e)
theorem digs_ex (s : ByteArray) : ∀ (k p : Nat), s.size - p ≤ k → p ≤ s.size → ∃ e, Digs s p e := by
  intro k
  induction k with
  | zero =>
    intro p h hp
    refine ⟨p, Nat.le_refl _, hp, fun i h1 h2 => absurd h1 (by omega), ?_⟩
    rw [chB_out (by omega)]; decide
  | succ k ih =>
    intro p h hp
    by_cases hd : Dg (chB s p)
    · have hlt : p < s.size := chB_lt (by unfold Dg at hd; omega)
      obtain ⟨e, h1, h2, h3, h4⟩ := ih (p + 1) (by omega) (by omega)
      refine ⟨e, by omega, h2, fun i hi hie => ?_, h4⟩
      by_cases e' : i = p
      · subst e'; exact hd
      · exact h3 i (by omega) hie
    · exact ⟨p, Nat.le_refl _, hp, fun i h1 h2 => absurd h1 (by omega), hd⟩
theorem Digs.next {s : ByteArray} {p e : Nat} (h : Digs s p e) (hlt : p < e) : Digs s (p + 1) e := ⟨by omega, h.2.1, fun i h1 h2 => h.2.2.1 i (by omega) h2, h.2.2.2⟩
theorem Digs.in_ {s : ByteArray} {p e : Nat} (h : Digs s p e) {i : Nat} (h1 : p ≤ i) (h2 : i < e) : i < s.size := by have := h.2.1; omega

/-- The value of k digits from p on: as the reference caps it, and as the code does. -/
def rv (s : ByteArray) (p : Nat) : Nat → Nat
  | 0 => 0
  | k + 1 => min (10 * rv s p k + (chB s (p + k) - 48).toNat) 1000
def cv (n : Nat) (s : ByteArray) (p : Nat) : Nat → Nat
  | 0 => 0
  | k + 1 => if cv n s p k < n then 10 * cv n s p k + (chB s (p + k) - 48).toNat else cv n s p k
theorem cv_rv {n : Nat} (h1 : 1 ≤ n) (h64 : n ≤ 64) {s : ByteArray} {p e : Nat} (hd : Digs s p e) : ∀ k, p + k ≤ e → (cv n s p k < n ↔ rv s p k < n) ∧ (cv n s p k < n → cv n s p k = rv s p k) := by
  intro k
  induction k with
  | zero => intro _; simp [cv, rv]
  | succ k ih =>
    intro hk
    obtain ⟨i1, i2⟩ := ih (by omega)
    have hdg := hd.2.2.1 (p + k) (by omega) (by omega)
    unfold Dg at hdg
    by_cases hc : cv n s p k < n
    · have e := i2 hc
      have e1 : cv n s p (k + 1) = 10 * rv s p k + (chB s (p + k) - 48).toNat := by rw [cv, if_pos hc, e]
      have e2 : rv s p (k + 1) = 10 * rv s p k + (chB s (p + k) - 48).toNat := by rw [rv]; omega
      rw [e1, e2]
      exact ⟨Iff.rfl, fun _ => rfl⟩
    · have e1 : cv n s p (k + 1) = cv n s p k := by rw [cv, if_neg hc]
      have hr : ¬ rv s p k < n := fun h => hc (i1.2 h)
      have e2 : ¬ rv s p (k + 1) < n := by rw [rv]; omega
      rw [e1]
      exact ⟨⟨fun h => absurd h hc, fun h => absurd h e2⟩, fun h => absurd h hc⟩
theorem rv_le (s : ByteArray) (p k : Nat) : rv s p k ≤ 1000 := by
  cases k with
  | zero => simp [rv]
  | succ k => rw [rv]; omega
theorem cv_le {n : Nat} (h64 : n ≤ 64) {s : ByteArray} {p e : Nat} (hd : Digs s p e) : ∀ k, p + k ≤ e → cv n s p k ≤ 1000 := by
  intro k
  induction k with
  | zero => intro _; simp [cv]
  | succ k ih =>
    intro hk
    have hdg := hd.2.2.1 (p + k) (by omega) (by omega)
    unfold Dg at hdg
    have := ih (by omega)
    rw [cv]
    split <;> omega

/-- A text that is no cycle, or a cycle read: the place behind it, the points used, its points. -/
inductive COut | bad (e : Int) (q : Nat) | done (q : Nat) (u c : List Int)
/-- A number at p ends at e, and begins with no 0 too many. -/
def Num1 (s : ByteArray) (p e : Nat) : Prop := Digs s p e ∧ p < e ∧ ¬ (chB s p = 48 ∧ p + 1 < e)
inductive CycR (s : ByteArray) (n : Nat) : Nat → List Int → List Int → COut → Prop
  | stop {p : Nat} {u c : List Int} : p = s.size → CycR s n p u c (.bad 11 s.size)
  | blank {p : Nat} {u c : List Int} {o : COut} : chB s p = 32 → CycR s n (p + 1) u c o → CycR s n p u c o
  | close {p : Nat} {u c : List Int} : chB s p = 41 → CycR s n p u c (.done (p + 1) u c)
  | zero {p e : Nat} {u c : List Int} : Digs s p e → chB s p = 48 → p + 1 < e → CycR s n p u c (.bad 11 p)
  | big {p e : Nat} {u c : List Int} : Num1 s p e → n ≤ rv s p (e - p) → CycR s n p u c (.bad 2 p)
  | double {p e : Nat} {u c : List Int} : Num1 s p e → rv s p (e - p) < n → ((rv s p (e - p) : Nat) : Int) ∈ u → CycR s n p u c (.bad 8 p)
  | point {p e : Nat} {u c : List Int} {o : COut} : Num1 s p e → rv s p (e - p) < n → ((rv s p (e - p) : Nat) : Int) ∉ u → CycR s n e (u ++ [((rv s p (e - p) : Nat) : Int)]) (c ++ [((rv s p (e - p) : Nat) : Int)]) o → CycR s n p u c o
  | other {p : Nat} {u c : List Int} : p < s.size → chB s p ≠ 32 → chB s p ≠ 41 → ¬ Dg (chB s p) → CycR s n p u c (.bad 11 p)
theorem cyc_total (s : ByteArray) (n : Nat) : ∀ (k p : Nat) (u c : List Int), s.size - p ≤ k → p ≤ s.size → ∃ o, CycR s n p u c o := by
  intro k
  induction k with
  | zero => intro p u c h hp; exact ⟨_, .stop (by omega)⟩
  | succ k ih =>
    intro p u c h hp
    by_cases he : p = s.size
    · exact ⟨_, .stop he⟩
    · by_cases h32 : chB s p = 32
      · obtain ⟨o, ho⟩ := ih (p + 1) u c (by omega) (by omega)
        exact ⟨o, .blank h32 ho⟩
      · by_cases h41 : chB s p = 41
        · exact ⟨_, .close h41⟩
        · by_cases hd : Dg (chB s p)
          · obtain ⟨e, hD⟩ := digs_ex s _ p (Nat.le_refl _) hp
            have hpe : p < e := by
              apply Nat.lt_of_not_le
              intro hle
              have : e = p := by have := hD.1; omega
              rw [this] at hD
              exact hD.2.2.2 hd
            by_cases hz : chB s p = 48 ∧ p + 1 < e
            · exact ⟨_, .zero hD hz.1 hz.2⟩
            · have hN : Num1 s p e := ⟨hD, hpe, hz⟩
              by_cases hb : n ≤ rv s p (e - p)
              · exact ⟨_, .big hN hb⟩
              · by_cases hm : ((rv s p (e - p) : Nat) : Int) ∈ u
                · exact ⟨_, .double hN (by omega) hm⟩
                · obtain ⟨o, ho⟩ := ih e (u ++ [((rv s p (e - p) : Nat) : Int)]) (c ++ [((rv s p (e - p) : Nat) : Int)]) (by omega) hD.2.1
                  exact ⟨o, .point hN (by omega) hm ho⟩
          · exact ⟨_, .other (by omega) h32 h41 hd⟩
theorem CycR.adv {s : ByteArray} {n p : Nat} {u c : List Int} {o : COut} (h : CycR s n p u c o) : ∀ q u' c', o = .done q u' c' → p < q ∧ q ≤ s.size ∧ c.length ≤ c'.length := by
  induction h with
  | stop _ => intro q u' c' e; cases e
  | blank _ _ ih => intro q u' c' e; have := ih q u' c' e; omega
  | close hc => intro q u' c' e; injection e with e1 _ e3; subst e1; subst e3; have := chB_lt (s := s) (by rw [hc]; omega); omega
  | zero _ _ _ => intro q u' c' e; cases e
  | big _ _ => intro q u' c' e; cases e
  | double _ _ _ => intro q u' c' e; cases e
  | point hN _ _ _ ih => intro q u' c' e; have := ih q u' c' e; have := hN.2.1; simp at *; omega
  | other _ _ _ _ => intro q u' c' e; cases e

/-- The images behind k points of a cycle. -/
def joinTo (m c : List Int) : Nat → List Int
  | 0 => m
  | k + 1 => (joinTo m c k).set (c.getD k 0).toNat (c.getD ((k + 1) % c.length) 0)
theorem joinTo_length (m c : List Int) (k : Nat) : (joinTo m c k).length = m.length := by
  induction k with
  | zero => rfl
  | succ k ih => simp [joinTo, ih]
def joinL (m c : List Int) : List Int := joinTo m c c.length

inductive POut | bad (e : Int) (q : Nat) | ok (m : List Int)
inductive ParR (s : ByteArray) (n : Nat) : Nat → List Int → List Int → POut → Prop
  | stop {p : Nat} {u m : List Int} : p = s.size → ParR s n p u m (.ok m)
  | blank {p : Nat} {u m : List Int} {o : POut} : chB s p = 32 → ParR s n (p + 1) u m o → ParR s n p u m o
  | bad {p q : Nat} {e : Int} {u m : List Int} : chB s p = 40 → CycR s n (p + 1) u [] (.bad e q) → ParR s n p u m (.bad e q)
  | good {p q : Nat} {u u' m c : List Int} {o : POut} : chB s p = 40 → CycR s n (p + 1) u [] (.done q u' c) → ParR s n q u' (joinL m c) o → ParR s n p u m o
  | other {p : Nat} {u m : List Int} : p < s.size → chB s p ≠ 32 → chB s p ≠ 40 → ParR s n p u m (.bad 11 p)
theorem par_total (s : ByteArray) (n : Nat) : ∀ (k p : Nat) (u m : List Int), s.size - p ≤ k → p ≤ s.size → ∃ o, ParR s n p u m o := by
  intro k
  induction k with
  | zero => intro p u m h hp; exact ⟨_, .stop (by omega)⟩
  | succ k ih =>
    intro p u m h hp
    by_cases he : p = s.size
    · exact ⟨_, .stop he⟩
    · by_cases h32 : chB s p = 32
      · obtain ⟨o, ho⟩ := ih (p + 1) u m (by omega) (by omega)
        exact ⟨o, .blank h32 ho⟩
      · by_cases h40 : chB s p = 40
        · obtain ⟨oc, hoc⟩ := cyc_total s n _ (p + 1) u [] (Nat.le_refl _) (by omega)
          cases oc with
          | bad e q => exact ⟨_, .bad h40 hoc⟩
          | done q u' c =>
            have := hoc.adv q u' c rfl
            obtain ⟨o, ho⟩ := ih q u' (joinL m c) (by omega) this.2.1
            exact ⟨o, .good h40 hoc ho⟩
        · exact ⟨_, .other (by omega) h32 h40⟩
end Go.Proofs.YtpchomhfpfpckaaDoor
