/- cayleylaw05: echelon, of rows that are. -/
import Derived.Test.YtinoomcboinokaaLMix
namespace Go.Proofs.Ytinoomcboinokaa
open Go Go.RowKit Num

/-- Rows with pivots, ascending. -/
structure EchF (p : Int) (m n : Nat) (F : Nat → Nat → Int) (pv : Nat → Nat) : Prop where
  below : ∀ i, i < m → pv i < n
  lead : ∀ i j, i < m → j < pv i → F i j = 0
  one : ∀ i, i < m → F i (pv i) = 1
  other : ∀ i k, i < m → k < m → k ≠ i → F k (pv i) = 0
  low : ∀ i, i < m → InP p n (F i)
  up : ∀ i, i + 1 < m → pv i < pv (i + 1)
/-- The last pivot. -/
def lastP (pv : Nat → Nat) : Nat → Int
  | 0 => -1
  | i + 1 => pv i
theorem EchF.last {p : Int} {m n : Nat} {F : Nat → Nat → Int} {pv : Nat → Nat} (h : EchF p m n F pv) {i : Nat} (hi : i < m) : lastP pv i < pv i := by
  cases i with
  | zero => show (-1 : Int) < _; omega
  | succ i =>
    have := h.up i hi
    show (pv i : Int) < _
    omega
set_option maxRecDepth 100000 in
set_option maxHeartbeats 8000000 in
theorem echelon_any (p m n : Nat) (lv : Value) (F : Nat → Nat → Int) (pv : Nat → Nat) (S : Nat → Prop) (w : World) (hm : m ≤ 1000) (hn : n ≤ 1000) (hg : Grid w S lv m (fun _ => n) F) (hE : EchF p m n F pv) :
    Calls Try.prog 12 #[.int .i64 p, .int .i64 n, lv] w fun e w' => e = .returned (.bool true) ∧ w' = w := by
  obtain ⟨A, c, rfl, hc⟩ := hg.form
  have HG := Lib.hid (fun h => hg.at_ h)
  have HE := Lib.hid hE
  clear hg hE
  go_enter Try.func12, Try.ntmps12
  go_wp2
  go_loop [7, 8] (fun l i => ∃ k : Nat, l = .int .i64 (lastP pv k) ∧ i = .int .i64 k ∧ k ≤ m) (fun _ i => m - (intOf i).toNat)
  case atStart => exact ⟨0, rfl, rfl, Nat.zero_le _⟩
  case round =>
    obtain ⟨i, rfl, rfl, hi⟩ := hrel
    by_cases hlt : i < m
    · obtain ⟨b, o, c', RA, RC, he, hc', hb, hgc⟩ := HG.out (by omega)
      injection he with he1 _ he3
      subst he1; subst he3
      have hrow := (hgc i hlt).1
      have hx := (hgc i hlt).2
      obtain ⟨br, or_, cr, er, hcr, hbr, hxc⟩ := hx.at_ (by have := HE.out.below i hlt; omega)
      rw [er] at hrow
      have HGC := Lib.hid hgc
      have HXC := Lib.hid hxc
      have hpn := HE.out.below i hlt
      have hlast := HE.out.last hlt
      have h1v := HE.out.one i hlt
      clear hgc hx hxc er
      generalize hq : pv i = q at hpn hlast h1v
      have HQ := Lib.hid hq
      generalize lastP pv i = la at hlast
      clear hq
      have d1 : (0 : Int) ≤ i := by omega
      have d2 : (i : Int) < (m : Int) := by omega
      go_wp2
      go_loop [9] (fun t => ∃ k : Nat, t = .int .i64 k ∧ k ≤ q) (fun t => n - (intOf t).toNat)
      case atStart => exact ⟨0, rfl, Nat.zero_le _⟩
      case round =>
        obtain ⟨k, rfl, hk⟩ := hrel
        have hkn : k < n := by omega
        have hkc := HXC.out k hkn
        have d3 : (k : Int) < (n : Int) := by omega
        by_cases hlt2 : k < q
        · have hz := HE.out.lead i k hlt (by rw [HQ.out]; exact hlt2)
          rw [hz] at hkc
          go_wp2
          go_round
          case rel => exact ⟨k + 1, by go_num, by omega⟩
          case measure => simp [intOf]; omega
        · obtain rfl : k = q := by omega
          rw [h1v] at hkc
          have d4 : ¬ (k : Int) ≤ la := by omega
          have d5 : ¬ (k : Int) = (n : Int) := by omega
          have d5b : ((k : Int) == (n : Int)) = false := by simp; omega
          go_wp2
          go_loop [10] (fun t => ∃ a : Nat, t = .int .i64 a ∧ a ≤ m) (fun t => m - (intOf t).toNat)
          case atStart => exact ⟨0, rfl, Nat.zero_le _⟩
          case round =>
            obtain ⟨a, rfl, ha⟩ := hrel
            by_cases hlt3 : a < m
            · have hrow2 := (HGC.out a hlt3).1
              obtain ⟨b2, o2, c2, e2, hc2, hb2, hyc⟩ := (HGC.out a hlt3).2.at_ (by omega)
              rw [e2] at hrow2
              have hy := hyc k hkn
              have d6 : (a : Int) < (m : Int) := by omega
              clear hyc e2
              by_cases hai : a = i
              · subst hai
                go_wp2
                go_round
                case rel => exact ⟨a + 1, by go_num, by omega⟩
                case measure => simp [intOf]; omega
              · have hz := HE.out.other i a hlt hlt3 hai
                rw [HQ.out] at hz
                rw [hz] at hy
                have d7 : ((a : Int) != (i : Int)) = true := by simp; omega
                go_wp2
                go_round
                case rel => exact ⟨a + 1, by go_num, by omega⟩
                case measure => simp [intOf]; omega
            · obtain rfl : a = m := by omega
              go_wp2
              go_loop [11] (fun t => ∃ a : Nat, t = .int .i64 a ∧ a ≤ n) (fun t => n - (intOf t).toNat)
              case atStart => exact ⟨0, rfl, Nat.zero_le _⟩
              case round =>
                obtain ⟨a2, rfl, ha2⟩ := hrel
                by_cases hlt4 : a2 < n
                · have hyc := HXC.out a2 hlt4
                  have hin := HE.out.low i hlt a2 hlt4
                  generalize F i a2 = y at hyc hin
                  have d8 : (a2 : Int) < (n : Int) := by omega
                  have d9 : ¬ y < 0 := by omega
                  have d10 : ¬ y ≥ (p : Int) := by omega
                  go_wp2
                  go_round
                  case rel => exact ⟨a2 + 1, by go_num, by omega⟩
                  case measure => simp [intOf]; omega
                · obtain rfl : a2 = n := by omega
                  go_wp2
                  go_round
                  case rel => exact ⟨i + 1, by show _ = Value.int .i64 (pv i : Int); rw [HQ.out], by go_num, by omega⟩
                  case measure => simp [intOf]; omega
    · obtain rfl : i = m := by omega
      go_wp2
      go_ret
      exact ⟨rfl, rfl⟩
end Go.Proofs.Ytinoomcboinokaa
