/- Texts read by reckoning. -/
import Derived.Test.YtpchomhfpfpckaaDoorPParse
namespace Go.Proofs.YtpchomhfpfpckaaDoor
open Go Go.RowKit

def digE (s : ByteArray) : Nat → Nat → Nat
  | 0, p => p
  | k + 1, p => if Dg (chB s p) then digE s k (p + 1) else p
theorem digE_ok (s : ByteArray) : ∀ k p, p ≤ s.size → s.size - p ≤ k → Digs s p (digE s k p) := by
  intro k
  induction k with
  | zero =>
    intro p hp hk
    refine ⟨Nat.le_refl _, hp, fun i h1 h2 => absurd h1 (by unfold digE at h2; omega), ?_⟩
    unfold digE
    rw [chB_out (by omega)]; decide
  | succ k ih =>
    intro p hp hk
    unfold digE
    by_cases hd : Dg (chB s p)
    · rw [if_pos hd]
      have hlt : p < s.size := chB_lt (by unfold Dg at hd; omega)
      obtain ⟨h1, h2, h3, h4⟩ := ih (p + 1) (by omega) (by omega)
      refine ⟨by omega, h2, fun i hi hie => ?_, h4⟩
      by_cases e' : i = p
      · subst e'; exact hd
      · exact h3 i (by omega) hie
    · rw [if_neg hd]
      exact ⟨Nat.le_refl _, hp, fun i h1 h2 => absurd h1 (by omega), hd⟩
def cycF (s : ByteArray) (n : Nat) : Nat → Nat → List Int → List Int → Option COut
  | 0, _, _, _ => none
  | f + 1, p, u, c =>
    if p = s.size then some (.bad 11 s.size)
    else if chB s p = 32 then cycF s n f (p + 1) u c
    else if chB s p = 41 then some (.done (p + 1) u c)
    else if Dg (chB s p) then
      let e := digE s s.size p
      if chB s p = 48 ∧ p + 1 < e then some (.bad 11 p)
      else if n ≤ rv s p (e - p) then some (.bad 2 p)
      else if ((rv s p (e - p) : Nat) : Int) ∈ u then some (.bad 8 p)
      else cycF s n f e (u ++ [((rv s p (e - p) : Nat) : Int)]) (c ++ [((rv s p (e - p) : Nat) : Int)])
    else some (.bad 11 p)
theorem cycF_ok (s : ByteArray) (n : Nat) : ∀ f p u c o, p ≤ s.size → cycF s n f p u c = some o → CycR s n p u c o := by
  intro f
  induction f with
  | zero => intro p u c o _ h; cases h
  | succ f ih =>
    intro p u c o hp h
    unfold cycF at h
    by_cases he : p = s.size
    · rw [if_pos he] at h; injection h with h; subst h; exact .stop he
    · rw [if_neg he] at h
      by_cases h32 : chB s p = 32
      · rw [if_pos h32] at h; exact .blank h32 (ih _ _ _ _ (by omega) h)
      · rw [if_neg h32] at h
        by_cases h41 : chB s p = 41
        · rw [if_pos h41] at h; injection h with h; subst h; exact .close h41
        · rw [if_neg h41] at h
          by_cases hd : Dg (chB s p)
          · rw [if_pos hd] at h
            have hD := digE_ok s s.size p hp (by omega)
            simp only [] at h
            generalize digE s s.size p = e at h hD
            have hpe : p < e := by
              apply Nat.lt_of_not_le
              intro hle
              have : e = p := by have := hD.1; omega
              rw [this] at hD
              exact hD.2.2.2 hd
            by_cases hz : chB s p = 48 ∧ p + 1 < e
            · rw [if_pos hz] at h; injection h with h; subst h; exact .zero hD hz.1 hz.2
            · rw [if_neg hz] at h
              have hN : Num1 s p e := ⟨hD, hpe, hz⟩
              by_cases hb : n ≤ rv s p (e - p)
              · rw [if_pos hb] at h; injection h with h; subst h; exact .big hN hb
              · rw [if_neg hb] at h
                by_cases hm : ((rv s p (e - p) : Nat) : Int) ∈ u
                · rw [if_pos hm] at h; injection h with h; subst h; exact .double hN (by omega) hm
                · rw [if_neg hm] at h; exact .point hN (by omega) hm (ih _ _ _ _ hD.2.1 h)
          · rw [if_neg hd] at h; injection h with h; subst h; exact .other (by omega) h32 h41 hd
def parF (s : ByteArray) (n : Nat) : Nat → Nat → List Int → List Int → Option POut
  | 0, _, _, _ => none
  | f + 1, p, u, m =>
    if p = s.size then some (.ok m)
    else if chB s p = 32 then parF s n f (p + 1) u m
    else if chB s p = 40 then
      match cycF s n (s.size + 1) (p + 1) u [] with
      | some (.bad e q) => some (.bad e q)
      | some (.done q u' c) => parF s n f q u' (joinL m c)
      | none => none
    else some (.bad 11 p)
theorem parF_ok (s : ByteArray) (n : Nat) : ∀ f p u m o, p ≤ s.size → parF s n f p u m = some o → ParR s n p u m o := by
  intro f
  induction f with
  | zero => intro p u m o _ h; cases h
  | succ f ih =>
    intro p u m o hp h
    unfold parF at h
    by_cases he : p = s.size
    · rw [if_pos he] at h; injection h with h; subst h; exact .stop he
    · rw [if_neg he] at h
      by_cases h32 : chB s p = 32
      · rw [if_pos h32] at h; exact .blank h32 (ih _ _ _ _ (by omega) h)
      · rw [if_neg h32] at h
        by_cases h40 : chB s p = 40
        · rw [if_pos h40] at h
          cases hc : cycF s n (s.size + 1) (p + 1) u [] with
          | none => rw [hc] at h; cases h
          | some oc =>
            rw [hc] at h
            have hC := cycF_ok s n _ _ _ _ _ (by omega) hc
            cases oc with
            | bad e q => simp only [Option.some.injEq] at h; subst h; exact .bad h40 hC
            | done q u' c =>
              have := hC.adv q u' c rfl
              exact .good h40 hC (ih _ _ _ _ this.2.1 h)
        · rw [if_neg h40] at h; injection h with h; subst h; exact .other (by omega) h32 h40
/-- What Parse makes of a text, by reckoning. -/
theorem parse_by {s : ByteArray} {n : Nat} {o : POut} (h1 : 1 ≤ n) (h64 : n ≤ 64) (hs : s.size ≤ 20000) (h : parF s n (s.size + 1) 0 [] (pone n).1 = some o) : ParseO s n o := by
  unfold ParseO
  rw [if_neg (by omega), if_neg (by omega), Int.toNat_natCast]
  exact parF_ok s n _ _ _ _ _ (Nat.zero_le _) h
theorem parse_ex1 : ParseO ⟨#[32, 40, 51, 32, 52, 41, 32, 40, 32, 49, 32, 50, 32, 48, 41, 40, 41, 32]⟩ (5 : Nat) (.ok [1, 2, 0, 4, 3]) := parse_by (by decide) (by decide) (by decide) (by kernel_rfl)
theorem parse_ex2 : ParseO ⟨#[40, 48, 32, 49]⟩ (5 : Nat) (.bad 11 4) := parse_by (by decide) (by decide) (by decide) (by kernel_rfl)
theorem parse_ex3 : ParseO ⟨#[40, 48, 32, 53, 41]⟩ (5 : Nat) (.bad 2 3) := parse_by (by decide) (by decide) (by decide) (by kernel_rfl)
theorem parse_ex4 : ParseO ⟨#[40, 48, 32, 49, 41, 40, 49, 32, 50, 41]⟩ (5 : Nat) (.bad 8 6) := parse_by (by decide) (by decide) (by decide) (by kernel_rfl)
theorem parse_ex5 : ParseO ⟨#[40, 48, 49, 32, 50, 41]⟩ (5 : Nat) (.bad 11 1) := parse_by (by decide) (by decide) (by decide) (by kernel_rfl)
theorem parse_ex6 : ParseO ⟨#[48]⟩ (5 : Nat) (.bad 11 0) := parse_by (by decide) (by decide) (by decide) (by kernel_rfl)
theorem parse_ex7 : ParseO ⟨#[]⟩ 65 (.bad 2 0) := by unfold ParseO; rw [if_pos (by decide)]
theorem parse_ex8 (s : ByteArray) (h : s.size = 20001) : ParseO s 2 (.bad 4 20000) := by unfold ParseO; rw [if_neg (by decide), if_pos (by omega)]
end Go.Proofs.YtpchomhfpfpckaaDoor
