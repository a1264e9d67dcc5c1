/- prime.Next, Suitable. -/
import Derived.Test.YtbcbkeeadbfjmaaPrRes
namespace Go.Proofs.Ytbcbkeeadbfjmaa
open Go Go.RowKit Num

/-- The next prime. -/
def NextIs (n q : Int) : Prop := PrI q ∧ n < q ∧ ∀ r, n < r → r < q → ¬ PrI r
def NoNext (n : Int) : Prop := ∀ r, n < r → ¬ PrI r
theorem PrI.ge {n : Int} (h : PrI n) : 2 ≤ n := h.1
theorem PrI.lt {n : Int} (h : PrI n) : n < 1000000 := h.2.1
def NextAt (n q : Int) : Prop := 2 ≤ q ∧ q ≤ 1000001 ∧ (q < 1000000 → n < q) ∧ ∀ r, n < r → r < q → ¬ PrI r
theorem NextAt.start (n : Int) : NextAt n (max 2 (min n 1000000 + 1)) := by
  refine ⟨by omega, by omega, by omega, fun r h1 h2 h => ?_⟩
  have := h.ge
  have := h.lt
  omega
theorem NextAt.next {n q : Int} (h : NextAt n q) (hq : q < 1000000) (hp : ¬ PrI q) : NextAt n (q + 1) := by
  obtain ⟨h1, h2, h3, h4⟩ := h
  refine ⟨by omega, by omega, fun _ => by have := h3 hq; omega, fun r a b => ?_⟩
  by_cases e : r = q
  · subst e; exact hp
  · exact h4 r a (by omega)
theorem NextAt.hit {n q : Int} (h : NextAt n q) (hq : q < 1000000) (hp : PrI q) : NextIs n q := ⟨hp, h.2.2.1 hq, h.2.2.2⟩
theorem NextAt.miss {n q : Int} (h : NextAt n q) (hq : ¬ q < 1000000) : NoNext n := fun r a hp => h.2.2.2 r a (by have := hp.lt; omega) hp
theorem NextIs.unique {n q r : Int} (h : NextIs n q) (k : NextIs n r) : q = r := by
  have h1 : ¬ q < r := fun hlt => k.2.2 q h.2.1 hlt h.1
  have h2 : ¬ r < q := fun hlt => h.2.2 r k.2.1 hlt k.1
  omega
theorem NextIs.not_none {n q : Int} (h : NextIs n q) (k : NoNext n) : False := k q h.2.1 h.1
/-- What Next has returned. -/
def NextV (n q e : Int) : Prop := (NextIs n q ∧ e = 0) ∨ (NoNext n ∧ q = 0 ∧ e = 2)
theorem NextV.unique {n q e r f : Int} (h : NextV n q e) (k : NextV n r f) : q = r ∧ e = f := by
  rcases h with ⟨h, rfl⟩ | ⟨h, rfl, rfl⟩ <;> rcases k with ⟨k, rfl⟩ | ⟨k, rfl, rfl⟩
  · exact ⟨h.unique k, rfl⟩
  · exact (h.not_none k).elim
  · exact (k.not_none h).elim
  · exact ⟨rfl, rfl⟩
def NextRet (n : Int) (w : World) (e : Ending) (w' : World) : Prop := ∃ q x : Int, NextV n q x ∧ e = .returned (.tuple #[.int .i64 q, .int .i64 x]) ∧ w' = w

set_option maxRecDepth 100000 in
set_option maxHeartbeats 400000 in
theorem Next_any (n : Int) (w : World) (hn : InI n) : Calls Try.prog 12 #[.int .i64 n] w (NextRet n w) := by
  have hn1 := hn.1
  have hn2 := hn.2
  have HC := fun q => Lib.hid (Is_any q w)
  have h3 : (n ≤ 1000000 ∧ n ≤ 1 ∧ Hid (NextAt n 2)) ∨ (n ≤ 1000000 ∧ 1 < n ∧ Hid (NextAt n (n + 1))) ∨ (1000000 < n ∧ 1 < n ∧ Hid (NextAt n 1000001)) := by
    have h := NextAt.start n
    by_cases h1 : n ≤ 1000000
    · by_cases h2 : n ≤ 1
      · exact .inl ⟨h1, h2, Lib.hid (by rw [show max 2 (min n 1000000 + 1) = 2 by omega] at h; exact h)⟩
      · exact .inr (.inl ⟨h1, by omega, Lib.hid (by rw [show max 2 (min n 1000000 + 1) = n + 1 by omega] at h; exact h)⟩)
    · exact .inr (.inr ⟨by omega, by omega, Lib.hid (by rw [show max 2 (min n 1000000 + 1) = 1000001 by omega] at h; exact h)⟩)
  rcases h3 with ⟨h1, h2, HS⟩ | ⟨h1, h2, HS⟩ | ⟨h1, h2, HS⟩
  all_goals
    go_enter Try.func12, Try.ntmps12
    go_wp2
    go_loop [4] (fun t => ∃ q : Int, t = .int .i64 q ∧ Hid (NextAt n q)) (fun t => (1000002 - intOf t).toNat)
    case atStart => exact ⟨_, rfl, HS⟩
    case round =>
      obtain ⟨q, rfl, HA⟩ := hrel
      have ha := HA.out.1
      have hb := HA.out.2.1
      by_cases hq : q < 1000000
      · have HC2 := HC q
        by_cases hp : PrI q
        · have HN := Lib.hid (HA.out.hit hq hp)
          rw [isP_true.2 hp] at HC2
          clear hp
          go_wp2_with fail
          refine HC2.out.mono ?_
          rintro e w' ⟨rfl, rfl⟩
          go_wp2
          go_ret2
          exact ⟨q, 0, .inl ⟨HN.out, rfl⟩, rfl, rfl⟩
        · have HN := Lib.hid (HA.out.next hq hp)
          rw [isP_false.2 hp] at HC2
          clear hp
          go_wp2_with fail
          refine HC2.out.mono ?_
          rintro e w' ⟨rfl, rfl⟩
          go_wp2
          go_round
          case rel => exact ⟨q + 1, rfl, HN⟩
          case measure => simp [intOf]; omega
      · have HN := Lib.hid (HA.out.miss hq)
        go_wp2
        go_ret2
        exact ⟨0, 2, .inr ⟨HN.out, rfl, rfl⟩, rfl, rfl⟩

/-! Suitable -/
def Cand (e m : Int) (i : Nat) : Prop := m < 1 + i * e ∧ PrI (1 + i * e)
def SuitAt (e m : Int) (j : Nat) : Prop := ∀ i, i < j → ¬ Cand e m i
def SuitV (e m q x : Int) : Prop := ((e < 1 ∨ m < 0) ∧ q = 0 ∧ x = 2) ∨ (1 ≤ e ∧ 0 ≤ m ∧ ((∃ j : Nat, q = 1 + j * e ∧ Cand e m j ∧ SuitAt e m j ∧ x = 0) ∨ ((∀ i, ¬ Cand e m i) ∧ q = 0 ∧ x = 18)))
theorem SuitV.unique {e m q x r y : Int} (h : SuitV e m q x) (k : SuitV e m r y) : q = r ∧ x = y := by
  rcases h with ⟨h, rfl, rfl⟩ | ⟨h1, h2, ⟨j, rfl, h3, h4, rfl⟩ | ⟨h3, rfl, rfl⟩⟩ <;> rcases k with ⟨k, rfl, rfl⟩ | ⟨k1, k2, ⟨i, rfl, k3, k4, rfl⟩ | ⟨k3, rfl, rfl⟩⟩
  · exact ⟨rfl, rfl⟩
  · omega
  · omega
  · omega
  · have a : ¬ j < i := fun hl => k4 j hl h3
    have b : ¬ i < j := fun hl => h4 i hl k3
    rw [show i = j by omega]
    exact ⟨rfl, rfl⟩
  · exact (k3 j h3).elim
  · omega
  · exact (h3 i k3).elim
  · exact ⟨rfl, rfl⟩
theorem Cand.small {e m : Int} {i : Nat} (he : 1 ≤ e) (h : Cand e m i) : e < 1000000 ∧ m < 1000000 ∧ 1 ≤ i := by
  obtain ⟨h1, h2⟩ := h
  have hl := h2.lt
  have hg := h2.ge
  have hi : 1 ≤ i := by
    rcases Nat.eq_zero_or_pos i with h | h
    · subst h; simp at hg
    · exact h
  have : e ≤ i * e := by
    have : (1 : Int) * e ≤ i * e := Int.mul_le_mul_of_nonneg_right (by omega) (by omega)
    omega
  exact ⟨by omega, by omega, hi⟩
theorem Cand.min_iff {e m : Int} {i : Nat} (he : 1 ≤ e) : Cand e m i ↔ Cand (min e 1000000) (min m 1000000) i := by
  constructor
  · intro h
    obtain ⟨a, b, _⟩ := h.small he
    rwa [show min e 1000000 = e by omega, show min m 1000000 = m by omega]
  · intro h
    obtain ⟨a, b, _⟩ := h.small (by omega)
    rwa [show min e 1000000 = e by omega, show min m 1000000 = m by omega] at h
theorem SuitV.of_min {e m q x : Int} (he : 1 ≤ e) (hm : 0 ≤ m) (h : SuitV (min e 1000000) (min m 1000000) q x) : SuitV e m q x := by
  rcases h with ⟨h, _, _⟩ | ⟨h1, h2, ⟨j, rfl, h3, h4, rfl⟩ | ⟨h3, rfl, rfl⟩⟩
  · omega
  · have h5 := (h3.small h1).1
    refine .inr ⟨he, hm, .inl ⟨j, ?_, (Cand.min_iff he).2 h3, fun i hi h => h4 i hi ((Cand.min_iff he).1 h), rfl⟩⟩
    rw [show min e 1000000 = e by omega]
  · exact .inr ⟨he, hm, .inr ⟨fun i h => h3 i ((Cand.min_iff he).1 h), rfl, rfl⟩⟩
theorem SuitAt.start {e m : Int} (he : 1 ≤ e) (hm : 0 ≤ m) : SuitAt e m ((m + e - 1) / e).toNat := fun i hi h => by
  have h1 := h.1
  have h2 : ((m + e - 1) / e) * e ≤ m + e - 1 := Int.ediv_mul_le _ (by omega)
  have h3 : (i : Int) + 1 ≤ (m + e - 1) / e := by omega
  have h4 : ((i : Int) + 1) * e ≤ ((m + e - 1) / e) * e := Int.mul_le_mul_of_nonneg_right h3 (by omega)
  rw [Int.add_mul, Int.one_mul] at h4
  omega
theorem SuitAt.gt {e m : Int} (he : 1 ≤ e) (hm : 0 ≤ m) {j : Nat} (hj : ((m + e - 1) / e).toNat ≤ j) : m < 1 + j * e := by
  have h1 : m + e - 1 < ((m + e - 1) / e + 1) * e := Int.lt_ediv_add_one_mul_self _ (by omega)
  rw [Int.add_mul, Int.one_mul] at h1
  have h2 : (m + e - 1) / e ≤ j := by omega
  have h3 : ((m + e - 1) / e) * e ≤ j * e := Int.mul_le_mul_of_nonneg_right h2 (by omega)
  omega
theorem SuitAt.next {e m : Int} {j : Nat} (h : SuitAt e m j) (hp : ¬ PrI (1 + j * e)) : SuitAt e m (j + 1) := fun i hi hc => by
  by_cases e1 : i = j
  · subst e1; exact hp hc.2
  · exact h i (by omega) hc
theorem SuitAt.end_ {e m : Int} {j : Nat} (he : 1 ≤ e) (h : SuitAt e m j) (hq : ¬ 1 + j * e < 1000000) : ∀ i, ¬ Cand e m i := fun i hc => by
  by_cases hi : i < j
  · exact h i hi hc
  · have h1 := hc.2.lt
    have : (j : Int) * e ≤ i * e := Int.mul_le_mul_of_nonneg_right (by omega) (by omega)
    omega
def SuitRet (e m : Int) (w : World) (en : Ending) (w' : World) : Prop := ∃ q x : Int, SuitV e m q x ∧ en = .returned (.tuple #[.int .i64 q, .int .i64 x]) ∧ w' = w
def SuitQ (e m q : Int) : Prop := 1 ≤ q ∧ q ≤ 2000001 ∧ ∃ j : Nat, q = 1 + j * e ∧ SuitAt e m j ∧ ((m + e - 1) / e).toNat ≤ j
theorem SuitQ.start {e m : Int} (he : 1 ≤ e) (hm : 0 ≤ m) (he2 : e ≤ 1000000) (hm2 : m ≤ 1000000) : SuitQ e m ((m + e - 1) / e * e + 1) := by
  have h2 : ((m + e - 1) / e) * e ≤ m + e - 1 := Int.ediv_mul_le _ (by omega)
  have h0 : 0 ≤ (m + e - 1) / e := Int.ediv_nonneg (by omega) (by omega)
  have h3 : 0 ≤ (m + e - 1) / e * e := Int.mul_nonneg h0 (by omega)
  refine ⟨by omega, by omega, ((m + e - 1) / e).toNat, ?_, SuitAt.start he hm, Nat.le_refl _⟩
  rw [show (((m + e - 1) / e).toNat : Int) = (m + e - 1) / e by omega]; omega
theorem SuitQ.next {e m q : Int} (he : 1 ≤ e) (he2 : e ≤ 1000000) (h : SuitQ e m q) (hq : q < 1000000) (hp : ¬ PrI q) : SuitQ e m (q + e) := by
  obtain ⟨h1, h2, j, rfl, h3, h4⟩ := h
  refine ⟨by omega, by omega, j + 1, ?_, h3.next hp, by omega⟩
  rw [Int.natCast_add, Int.natCast_one, Int.add_mul, Int.one_mul, Int.add_assoc]
theorem SuitQ.hit {e m q : Int} (he : 1 ≤ e) (hm : 0 ≤ m) (h : SuitQ e m q) (hp : PrI q) : SuitV e m q 0 := by
  obtain ⟨h1, h2, j, rfl, h3, h4⟩ := h
  exact .inr ⟨he, hm, .inl ⟨j, rfl, ⟨SuitAt.gt he hm h4, hp⟩, h3, rfl⟩⟩
theorem SuitQ.miss {e m q : Int} (he : 1 ≤ e) (hm : 0 ≤ m) (h : SuitQ e m q) (hq : ¬ q < 1000000) : SuitV e m 0 18 := by
  obtain ⟨h1, h2, j, rfl, h3, h4⟩ := h
  exact .inr ⟨he, hm, .inr ⟨SuitAt.end_ he h3 hq, rfl, rfl⟩⟩

set_option maxRecDepth 100000 in
set_option maxHeartbeats 400000 in
theorem Suit_bad (e m : Int) (w : World) (h : e < 1 ∨ m < 0) : Calls Try.prog 27 #[.int .i64 e, .int .i64 m] w (SuitRet e m w) := by
  have HB : Hid (SuitV e m 0 2) := Lib.hid (.inl ⟨h, rfl, rfl⟩)
  by_cases h1 : e < 1
  · have hd : decide (e < 1) = true := decide_eq_true h1
    go_enter Try.func27, Try.ntmps27
    go_wp2
    go_ret2
    exact ⟨0, 2, HB.out, rfl, rfl⟩
  · have hd : decide (e < 1) = false := decide_eq_false h1
    have hd2 : decide (m < 0) = true := decide_eq_true (by omega)
    go_enter Try.func27, Try.ntmps27
    go_wp2
    go_ret2
    exact ⟨0, 2, HB.out, rfl, rfl⟩

set_option maxRecDepth 100000 in
set_option maxHeartbeats 1000000 in
theorem Suit_any (e m : Int) (w : World) : Calls Try.prog 27 #[.int .i64 e, .int .i64 m] w (SuitRet e m w) := by
  by_cases hbad : e < 1 ∨ m < 0
  · exact Suit_bad e m w hbad
  · have he1 : 1 ≤ e := by omega
    have hm0 : 0 ≤ m := by omega
    have HMN := fun q x => Lib.hid (SuitV.of_min (e := e) (m := m) (q := q) (x := x) he1 hm0)
    have hd : decide (e < 1) = false := decide_eq_false (by omega)
    have hd2 : decide (m < 0) = false := decide_eq_false (by omega)
    have HC := fun q => Lib.hid (Is_any q w)
    have hE : (e ≤ 1000000 ∧ min e 1000000 = e) ∨ (1000000 < e ∧ min e 1000000 = 1000000) := by omega
    have hM : (m ≤ 1000000 ∧ min m 1000000 = m) ∨ (1000000 < m ∧ min m 1000000 = 1000000) := by omega
    have hE1 : 1 ≤ min e 1000000 := by omega
    have hE2 : min e 1000000 ≤ 1000000 := by omega
    have hM1 : 0 ≤ min m 1000000 := by omega
    have hM2 : min m 1000000 ≤ 1000000 := by omega
    generalize min e 1000000 = E at HMN hE hE1 hE2
    generalize min m 1000000 = M at HMN hM hM1 hM2
    have HQ0 := Lib.hid (SuitQ.start hE1 hM1 hE2 hM2)
    have h2 : ((M + E - 1) / E) * E ≤ M + E - 1 := Int.ediv_mul_le _ (by omega)
    have h0 : 0 ≤ (M + E - 1) / E := Int.ediv_nonneg (by omega) (by omega)
    have h3 : 0 ≤ (M + E - 1) / E * E := Int.mul_nonneg h0 (by omega)
    have h4 : (M + E - 1) / E ≤ 2000001 := by
      have : (M + E - 1) / E ≤ M + E - 1 := Int.ediv_le_self _ (by omega)
      omega
    have hne : (E != 0) = true := by simp; omega
    have hne0 : ¬ E = 0 := by omega
    clear hbad
    rcases hE with ⟨ha, rfl⟩ | ⟨ha, rfl⟩ <;> rcases hM with ⟨hb, rfl⟩ | ⟨hb, rfl⟩
    all_goals
      go_enter Try.func27, Try.ntmps27
      go_wp2
      go_loop [6] (fun t => ∃ q : Int, t = .int .i64 q ∧ Hid (SuitQ _ _ q)) (fun t => (2000002 - intOf t).toNat)
      case atStart => exact ⟨_, rfl, HQ0⟩
      case round =>
        obtain ⟨q, rfl, HA⟩ := hrel
        have hq1 := HA.out.1
        have hq2 := HA.out.2.1
        by_cases hq : q < 1000000
        · have HC2 := HC q
          by_cases hp : PrI q
          · have HN := Lib.hid ((HMN q 0).out (HA.out.hit hE1 hM1 hp))
            rw [isP_true.2 hp] at HC2
            clear hp
            go_wp2_with fail
            refine HC2.out.mono ?_
            rintro e w' ⟨rfl, rfl⟩
            go_wp2
            go_ret2
            exact ⟨q, 0, HN.out, rfl, rfl⟩
          · have HN := Lib.hid (HA.out.next hE1 hE2 hq hp)
            have hn2 := HN.out.2.1
            rw [isP_false.2 hp] at HC2
            clear hp
            go_wp2_with fail
            refine HC2.out.mono ?_
            rintro e w' ⟨rfl, rfl⟩
            go_wp2
            go_round
            case rel => exact ⟨_, rfl, HN⟩
            case measure => simp [intOf]; omega
        · have HN := Lib.hid ((HMN 0 18).out (HA.out.miss hE1 hM1 hq))
          go_wp2
          go_ret2
          exact ⟨0, 18, HN.out, rfl, rfl⟩
end Go.Proofs.Ytbcbkeeadbfjmaa
