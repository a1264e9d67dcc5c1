/- The law PrimeTests, walked. -/
import Derived.Test.YtbcbkeeadbfjmaaPrRefFac
import Derived.Test.YtbcbkeeadbfjmaaPrRefB
namespace Go.Proofs.Ytbcbkeeadbfjmaa
open Go Go.RowKit Num

/-- What both Factors give. -/
def FacGives (n : Int) (w : World) (e : Ending) (w' : World) : Prop := ∃ (v : Value) (l : List (Nat × Nat)) (x : Int), e = .returned (.tuple #[v, .int .i64 x]) ∧ Pairs w' v l ∧ l.length ≤ 30 ∧ (∃ A m c, v = .slice A m c) ∧ l = (if n < 1 ∨ 1000000000 < n then [] else facs n.toNat) ∧ x = (if n < 1 ∨ 1000000000 < n then 2 else 0) ∧ Below w.heap.size w w'
theorem FacGives.of_ret {N : Nat} {w : World} {e : Ending} {w' : World} (h1 : 1 ≤ N) (hN : N ≤ 1000000000) (h : FacRet N w e w') : FacGives (N : Int) w e w' := by
  obtain ⟨v, he, hp, hb⟩ := h
  have hc : ¬ ((N : Int) < 1 ∨ 1000000000 < (N : Int)) := by omega
  refine ⟨v, facs N, 0, he, hp.pairs, facs_len h1 hN, ?_, by rw [if_neg hc]; rfl, by rw [if_neg hc], hb⟩
  obtain ⟨A, c, rfl, _⟩ := hp.pairs
  exact ⟨_, _, _, rfl⟩
theorem Factors_gives (n : Int) (w : World) : Calls Try.prog 13 #[.int .i64 n] w (FacGives n w) := by
  by_cases hc : n < 1 ∨ 1000000000 < n
  · refine (Factors_bad n w hc).mono fun e w' ⟨h1, h2⟩ => ⟨_, [], 2, h1, Pairs.nil _, by simp, ⟨_, _, _, rfl⟩, by rw [if_pos hc], by rw [if_pos hc], by rw [h2]; exact Below.refl _ _⟩
  · obtain ⟨N, rfl⟩ : ∃ N : Nat, n = N := ⟨n.toNat, by omega⟩
    exact (Factors_any N w (by omega) (by omega)).mono fun e w' h => FacGives.of_ret (by omega) (by omega) h
theorem refFactors_gives (n : Int) (w : World) : Calls Try.prog 29 #[.int .i64 n] w (FacGives n w) := by
  by_cases hc : n < 1 ∨ 1000000000 < n
  · refine (refFactors_bad n w hc).mono fun e w' ⟨h1, h2⟩ => ⟨_, [], 2, h1, Pairs.nil _, by simp, ⟨_, _, _, rfl⟩, by rw [if_pos hc], by rw [if_pos hc], by rw [h2]; exact Below.refl _ _⟩
  · obtain ⟨N, rfl⟩ : ∃ N : Nat, n = N := ⟨n.toNat, by omega⟩
    exact (refFactors_any N w (by omega) (by omega)).mono fun e w' h => FacGives.of_ret (by omega) (by omega) h
theorem bool_eq_self (b : Bool) : (b == b) = true := by cases b <;> rfl

set_option maxRecDepth 100000 in
set_option maxHeartbeats 2000000 in
theorem tests_go (n : Int) (hn : InI n) (w : World) : Calls Try.prog 4 #[.int .i64 n] w fun e w' => e = .returned (.bool true) ∧ Below w.heap.size w w' := by
  have HL := Lib.hid (lives_any w)
  have HN := fun W => Lib.hid (Next_any n W hn)
  have HRN := fun W => Lib.hid (refNext_any n W)
  have HF := fun W => Lib.hid (Factors_gives n W)
  have HRF := fun W => Lib.hid (refFactors_gives n W)
  have HI := fun W => Lib.hid (Is_any n W)
  have HRI := fun W => Lib.hid (refIs_any n W)
  generalize isP n = b at HI HRI
  clear hn
  go_enter Try.func4, Try.ntmps4
  go_wp2_with fail
  with_reducible refine HL.out.mono ?_
  rintro e1 w0 ⟨rfl, hb⟩
  have HB := Lib.hid hb
  clear hb HL
  go_wp2_with fail
  with_reducible refine (HN _).out.mono ?_
  rintro e1 w1 ⟨q, x, hq, rfl, rfl⟩
  have HQ := Lib.hid hq
  clear hq HN
  go_wp2_with fail
  with_reducible refine (HRN _).out.mono ?_
  rintro e1 w2 ⟨r, y, hr, rfl, rfl⟩
  obtain ⟨rfl, rfl⟩ := HQ.out.unique hr
  clear hr HRN HQ
  go_wp2_with fail
  with_reducible refine (HF _).out.mono ?_
  rintro e1 w3 ⟨v, l, z, rfl, hp, hl, ⟨A, m, c, rfl⟩, hle, hze, hb⟩
  have HB3 := Lib.hid (HB.out.trans (hb.mono HB.out.size))
  have HP := Lib.hid hp
  have HLE := Lib.hid hle
  have HZE := Lib.hid hze
  clear hb hp HF HB hle hze
  go_wp2_with fail
  with_reducible refine (HRF _).out.mono ?_
  rintro e1 w4 ⟨u, l', z', rfl, hp', hl', ⟨A', m', c', rfl⟩, hle', hze', hb⟩
  have HB4 := Lib.hid (HB3.out.trans (hb.mono HB3.out.size))
  have HP2 := Lib.hid (HP.out.below hb)
  have hll : l = l' := HLE.out.trans hle'.symm
  have hzz : z = z' := HZE.out.trans hze'.symm
  subst hll hzz
  have HP3 := Lib.hid hp'
  clear hb hp' HRF HB3 hle' hze' HP HLE HZE
  go_wp2_with fail
  with_reducible refine (HI _).out.mono ?_
  rintro e1 w5 ⟨rfl, rfl⟩
  go_wp2_with fail
  with_reducible refine (HRI _).out.mono ?_
  rintro e1 w6 ⟨rfl, rfl⟩
  have h1 : (b == b) = true := bool_eq_self b
  have h2 : (q == q) = true := by simp
  have h3 : (x == x) = true := by simp
  have h4 : (z == z) = true := by simp
  have HS := Lib.hid (samePairs (.slice A m c) (.slice A' m' c') l w6 (by omega) HP2.out HP3.out)
  clear HI HRI
  go_wp2_with fail
  refine HS.out.mono ?_
  rintro e1 w7 ⟨rfl, nd, rfl⟩
  clear HS
  go_wp2
  go_ret
  exact ⟨rfl, HB4.out.trans ⟨rfl, rfl, rfl, Nat.le_refl _, fun _ _ => rfl⟩⟩
/-- A number that is an int. -/
theorem inI {a : Int} (h : (Lit.int .i64 a).wf = true) : InI a := by
  have e1 : IntKind.i64.min = -9223372036854775808 := by decide
  have e2 : IntKind.i64.max = 9223372036854775807 := by decide
  simp [Lit.wf] at h
  exact ⟨by omega, by omega⟩
end Go.Proofs.Ytbcbkeeadbfjmaa
