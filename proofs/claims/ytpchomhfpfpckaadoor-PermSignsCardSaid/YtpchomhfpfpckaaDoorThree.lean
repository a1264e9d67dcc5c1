/- cayleylaw01.three. -/
import Derived.Test.YtpchomhfpfpckaaDoorSel
namespace Go.Proofs.YtpchomhfpfpckaaDoor
open Go Go.RowKit

/-- Three permutations of a degree from 1 to 12. -/
def Three (w : World) (e : Ending) (w' : World) : Prop :=
  ∃ (n : Nat) (a b c : PL n) (u v x : Value), 1 ≤ n ∧ n ≤ 12 ∧ e = .returned (.tuple #[u, v, x]) ∧ Ints w' w'.heap.size u a.1 ∧ Ints w' w'.heap.size v b.1 ∧ Ints w' w'.heap.size x c.1 ∧ Below w.heap.size w w'

set_option maxRecDepth 100000 in
set_option maxHeartbeats 1000000 in
theorem three_any (v : Value) (zs : List Int) (n0 : Int) (w : World) (hl : zs.length ≤ 17592186044400) (hv : Ints w w.heap.size v zs) : Calls Tryd.prog 53 #[v, .int .i64 n0] w (Three w) := by
  have HV := Lib.hid hv
  have hs : ∃ A n c, v = .slice A n c := by obtain ⟨A, c, h, _⟩ := hv; exact ⟨A, _, c, h⟩
  obtain ⟨A, k, c, rfl⟩ := hs
  clear hv
  have hP := pickV_in n0 12 (by omega)
  go_enter Tryd.func53, Tryd.ntmps53
  obtain ⟨n, hn⟩ : ∃ n : Nat, 1 + pickV n0 12 = (n : Int) := ⟨(1 + pickV n0 12).toNat, by omega⟩
  have h1 : 1 ≤ n := by omega
  have h12 : n ≤ 12 := by omega
  have HK := fun m W hW h => Lib.hid (kitPerm_any w.heap.size n m (.slice A k c) zs W hl h1 (by omega) hW h)
  have h0 : TakerAt (w.alloc (.cells #[.slice A k c, .int .i64 0] 70)) w.heap.size (.slice A k c) zs 0 := ⟨Row.new _ _ _, HV.out.alloc (Nat.le_refl _) _⟩
  have H0 := Lib.hid h0
  have hb0 : Below w.heap.size w (w.alloc (.cells #[.slice A k c, .int .i64 0] 70)) := (Below.refl _ _).alloc (Nat.le_refl _) _
  have HB0 := Lib.hid hb0
  have hs0 : w.heap.size < (w.alloc (.cells #[.slice A k c, .int .i64 0] 70)).heap.size := by simp
  have HS0 := Lib.hid hs0
  clear h0 hb0 hs0 HV
  go_wp2_with fail
  refine (pick_any n0 12 _ (by omega) (by omega)).mono ?_
  rintro e w0 ⟨rfl, hw0⟩
  rw [← hw0] at H0 HB0 HS0
  clear hw0
  generalize pickV n0 12 = p at hn hP
  have hin : p ≤ 9223372036854775806 := by omega
  clear hP
  go_wp2_with fail
  refine ((HK 0 w0 HS0.out H0.out).out).mono ?_
  rintro e w1 ⟨ra, m1, a, rfl, hh1, ht1, hb1, hs1⟩
  have HH1 := Lib.hid hh1; have HT1 := Lib.hid ht1; have HB1 := Lib.hid (HB0.out.trans hb1.1); have HS1 := Lib.hid (Nat.lt_of_lt_of_le HS0.out hs1)
  clear hh1 ht1 hb1 hs1
  go_wp2_with fail
  refine ((HK m1 w1 HS1.out HT1.out).out).mono ?_
  rintro e w2 ⟨rb, m2, b, rfl, hh2, ht2, hb2, hs2⟩
  have HH2 := Lib.hid hh2; have HT2 := Lib.hid ht2; have HB2 := Lib.hid (HB1.out.trans hb2.1); have HS2 := Lib.hid (Nat.lt_of_lt_of_le HS1.out hs2); have HA2 := Lib.hid ((HH1.out.keep hb2).more hs2)
  clear hh2 ht2 hb2 hs2
  go_wp2_with fail
  refine ((HK m2 w2 HS2.out HT2.out).out).mono ?_
  rintro e w3 ⟨rc, m3, cc, rfl, hh3, ht3, hb3, hs3⟩
  have HH3 := Lib.hid hh3; have HB3 := Lib.hid (HB2.out.trans hb3.1); have HA3 := Lib.hid ((HA2.out.keep hb3).more hs3); have HC3 := Lib.hid ((HH2.out.keep hb3).more hs3)
  clear hh3 ht3 hb3 hs3
  go_wp2_with fail
  go_ret3
  exact ⟨n, a, b, cc, ra, rb, rc, h1, h12, rfl, HA3.out.ints, HC3.out.ints, HH3.out.ints, HB3.out⟩
end Go.Proofs.YtpchomhfpfpckaaDoor
