/- The reference's skip and digit. -/
import Derived.Test.YtpchomhfpfpckaaDoorPParse
import Derived.Test.YtpchomhfpfpckaaDoorRefAll
namespace Go.Proofs.YtpchomhfpfpckaaDoor
open Go Go.RowKit

/-- The blanks from p on end at e. -/
def Skp (s : ByteArray) (p e : Nat) : Prop := p ≤ e ∧ e ≤ s.size ∧ (∀ i, p ≤ i → i < e → chB s i = 32) ∧ chB s e ≠ 32
theorem skp_ex (s : ByteArray) : ∀ (k p : Nat), s.size - p ≤ k → p ≤ s.size → ∃ e, Skp s p e := by
  intro k
  induction k with
  | zero =>
    intro p h hp
    refine ⟨p, Nat.le_refl _, hp, fun i h1 h2 => absurd h1 (by omega), ?_⟩
    rw [chB_out (by omega)]; decide
  | succ k ih =>
    intro p h hp
    by_cases hd : chB s p = 32
    · have hlt : p < s.size := chB_lt (by omega)
      obtain ⟨e, h1, h2, h3, h4⟩ := ih (p + 1) (by omega) (by omega)
      refine ⟨e, by omega, h2, fun i hi hie => ?_, h4⟩
      by_cases e' : i = p
      · subst e'; exact hd
      · exact h3 i (by omega) hie
    · exact ⟨p, Nat.le_refl _, hp, fun i h1 h2 => absurd h1 (by omega), hd⟩
theorem CycR.skip {s : ByteArray} {n : Nat} {u c : List Int} {o : COut} : ∀ (k p e : Nat), e - p ≤ k → CycR s n p u c o → Skp s p e → CycR s n e u c o := by
  intro k
  induction k with
  | zero => intro p e hk h hs; have : e = p := by have := hs.1; omega
            subst this; exact h
  | succ k ih =>
    intro p e hk h hs
    by_cases hpe : e = p
    · subst hpe; exact h
    · have hlt : p < e := by have := hs.1; omega
      have hb := hs.2.2.1 p (Nat.le_refl _) hlt
      have hs' : Skp s (p + 1) e := ⟨by omega, hs.2.1, fun i h1 h2 => hs.2.2.1 i (by omega) h2, hs.2.2.2⟩
      have hsz := chB_lt (s := s) (i := p) (by omega)
      cases h with
      | stop he => omega
      | blank _ hn => exact ih (p + 1) e (by omega) hn hs'
      | close hc => omega
      | zero _ hc _ => omega
      | big hN _ => have h5 := hN.1.2.2.1 p (Nat.le_refl _) hN.2.1; unfold Dg at h5; omega
      | double hN _ _ => have h5 := hN.1.2.2.1 p (Nat.le_refl _) hN.2.1; unfold Dg at h5; omega
      | point hN _ _ _ => have h5 := hN.1.2.2.1 p (Nat.le_refl _) hN.2.1; unfold Dg at h5; omega
      | other _ h32 _ _ => exact absurd hb h32
theorem ParR.skip {s : ByteArray} {n : Nat} {u m : List Int} {o : POut} : ∀ (k p e : Nat), e - p ≤ k → ParR s n p u m o → Skp s p e → ParR s n e u m o := by
  intro k
  induction k with
  | zero => intro p e hk h hs; have : e = p := by have := hs.1; omega
            subst this; exact h
  | succ k ih =>
    intro p e hk h hs
    by_cases hpe : e = p
    · subst hpe; exact h
    · have hlt : p < e := by have := hs.1; omega
      have hb := hs.2.2.1 p (Nat.le_refl _) hlt
      have hs' : Skp s (p + 1) e := ⟨by omega, hs.2.1, fun i h1 h2 => hs.2.2.1 i (by omega) h2, hs.2.2.2⟩
      have hsz := chB_lt (s := s) (i := p) (by omega)
      cases h with
      | stop he => omega
      | blank _ hn => exact ih (p + 1) e (by omega) hn hs'
      | bad hc _ => omega
      | good hc _ _ => omega
      | other _ h32 _ => exact absurd hb h32

set_option maxRecDepth 100000 in
theorem skip_any (w : World) (s : ByteArray) (p e : Nat) (hs : s.size ≤ 20000) (hk : Skp s p e) : Calls Tryd.prog 78 #[.string s, .int .i64 (p : Int)] w fun r w' => r = .returned (.int .i64 (e : Int)) ∧ w' = w := by
  have HK := Lib.hid hk
  clear hk
  go_enter Tryd.func78, Tryd.ntmps78
  go_wp2
  go_loopw [1] (fun i wr => ∃ q : Nat, i = .int .i64 q ∧ q ≤ e ∧ p ≤ q ∧ wr = w) (fun i _ => e - (intOf i).toNat)
  case atStart => exact ⟨p, rfl, HK.out.1, Nat.le_refl _, rfl⟩
  case round =>
    obtain ⟨q, rfl, hq, hp, rfl⟩ := hrel
    have he : e ≤ s.size := HK.out.2.1
    by_cases hlt : q < e
    · have hqs : q < s.size := by omega
      have hd3 : (q : Int) < (s.size : Int) := by omega
      have hb : (s[q].toNat : Int) = 32 := by rw [← chB_in hqs]; exact HK.out.2.2.1 q hp hlt
      have e32 : ((s[q].toNat : Int) == 32) = true := by simpa using hb
      go_wp2_with fail
      go_roundw
      case rel => exact ⟨q + 1, by go_num, by omega, by omega, trivial⟩
      case measure => simp [intOf]; omega
    · have hqe : q = e := by omega
      have HE := Lib.hid hqe
      by_cases hqs : q < s.size
      · have hd3 : (q : Int) < (s.size : Int) := by omega
        have hb : ¬ (s[q].toNat : Int) = 32 := by rw [← chB_in hqs, hqe]; exact HK.out.2.2.2
        have e32 : ((s[q].toNat : Int) == 32) = false := by simpa using hb
        clear hqe
        go_wp2_with fail
        go_ret
        exact ⟨ret_int (a := (q : Int)) (by have := HE.out; omega), rfl⟩
      · have hd3 : ¬ (q : Int) < (s.size : Int) := by omega
        clear hqe
        go_wp2_with fail
        go_ret
        exact ⟨ret_int (a := (q : Int)) (by have := HE.out; omega), rfl⟩

set_option maxRecDepth 100000 in
theorem digit_any (w : World) (s : ByteArray) (q : Nat) (hs : s.size ≤ 20000) (hq : q ≤ s.size) : Calls Tryd.prog 79 #[.string s, .int .i64 (q : Int)] w fun r w' => r = .returned (.bool (decide (Dg (chB s q)))) ∧ w' = w := by
  by_cases hqs : q < s.size
  · have hd3 : (q : Int) < (s.size : Int) := by omega
    have hch := chB_in hqs
    by_cases h1 : 48 ≤ (s[q].toNat : Int)
    · by_cases h2 : (s[q].toNat : Int) ≤ 57
      · have hd : decide (Dg (chB s q)) = true := decide_eq_true (by rw [hch]; exact ⟨h1, h2⟩)
        rw [hd]
        clear hd hch
        go_enter Tryd.func79, Tryd.ntmps79
        go_wp2_with fail
        go_ret
        exact ⟨rfl, rfl⟩
      · have hd : decide (Dg (chB s q)) = false := decide_eq_false (by rw [hch]; exact fun h => h2 h.2)
        rw [hd]
        clear hd hch
        go_enter Tryd.func79, Tryd.ntmps79
        go_wp2_with fail
        go_ret
        exact ⟨rfl, rfl⟩
    · have hd : decide (Dg (chB s q)) = false := decide_eq_false (by rw [hch]; exact fun h => h1 h.1)
      rw [hd]
      clear hd hch
      go_enter Tryd.func79, Tryd.ntmps79
      go_wp2_with fail
      go_ret
      exact ⟨rfl, rfl⟩
  · have hd3 : ¬ (q : Int) < (s.size : Int) := by omega
    have hd : decide (Dg (chB s q)) = false := decide_eq_false (by rw [chB_out (by omega)]; decide)
    rw [hd]
    clear hd
    go_enter Tryd.func79, Tryd.ntmps79
    go_wp2_with fail
    go_ret
    exact ⟨rfl, rfl⟩
end Go.Proofs.YtpchomhfpfpckaaDoor
