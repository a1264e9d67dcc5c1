/- The law PermOrders: it answers true for every text and every int. -/
import Derived.Test.YtpchomhfpfpckaaDoorRefRatio
import Derived.Test.YtpchomhfpfpckaaDoorLives
namespace Go.Proofs.YtpchomhfpfpckaaDoor
open Go Go.RowKit

theorem timesV_len (l : List UInt8) (n : Int) : (timesV l n).1.length ≤ 200 := by
  unfold timesV
  by_cases h1 : ¬ OrdOk l
  · rw [if_pos h1]; simp
  · rw [if_neg h1]
    by_cases h2 : n < 1 ∨ 1000000000 < n
    · rw [if_pos h2]; simp
    · rw [if_neg h2]
      by_cases h3 : 200 < (prod l n.toNat).length
      · rw [if_pos h3]; simp
      · rw [if_neg h3]; dsimp only; omega

set_option maxRecDepth 100000 in
set_option maxHeartbeats 1000000 in
theorem permOrders_any (s : ByteArray) (n : Int) (w : World) (hm : s.size ≤ maxLen) :
    Calls Tryd.prog 7 #[.string s, .int .i64 n] w fun e w' => e = .returned (.bool true) ∧ Below w.heap.size w w' := by
  unfold maxLen at hm
  have HL := fun W => Lib.hid (lives_any W)
  by_cases hs : 300 < s.size
  · go_enter Tryd.func7, Tryd.ntmps7
    go_wp2_with fail
    refine ((HL _).out).mono ?_
    rintro e w1 ⟨rfl, hb1⟩
    have HB1 := Lib.hid hb1; clear hb1
    go_wp2_with fail
    go_ret
    exact ⟨rfl, HB1.out⟩
  · have hs' : s.size ≤ 300 := by omega
    have HT := fun W => Lib.hid (times_any s n hs' W)
    have HTR := fun W => Lib.hid (refTimes_any s n hs' W)
    have HR := fun W => Lib.hid (ratio_any s n hs' W)
    have HRR := fun W => Lib.hid (refRatio_any s n hs' W)
    have HX := Lib.hid (@ratio_times s.data.toList n)
    have hlen := timesV_len s.data.toList n
    have HZ := Lib.hid (str_bytes s)
    generalize hV : timesV s.data.toList n = V at HT HTR HX hlen
    generalize ratioV s.data.toList n = U at HR HRR
    obtain ⟨Vs, Ve⟩ := V
    obtain ⟨Us, Ue⟩ := U
    unfold NumErr at HT HTR HR HRR
    dsimp only at HT HTR HR HRR HX hlen
    have hXs : (⟨Vs.toArray⟩ : ByteArray).size ≤ 300 := by show Vs.toArray.size ≤ 300; simp; omega
    have HB := fun W => Lib.hid (ratio_any ⟨Vs.toArray⟩ n hXs W)
    have HXd : Hid ((⟨Vs.toArray⟩ : ByteArray).data.toList = Vs) := rfl
    generalize (⟨Vs.toArray⟩ : ByteArray) = x at HT HTR HB HXd
    generalize (⟨Us.toArray⟩ : ByteArray) = u at HR HRR
    clear hV hlen hXs
    by_cases he : Ve = 0
    · subst he
      have hB2 : ∀ W, Hid (Calls Tryd.prog 34 #[.string x, .int .i64 n] W fun e w' => e = .returned (.tuple #[.string s, .int .i64 0]) ∧ Below W.heap.size W w') := fun W => by
        have := (HB W).out
        unfold NumErr at this
        rw [HXd.out, HX.out rfl] at this
        dsimp only at this
        rw [HZ.out] at this
        exact this
      clear HB HX HXd HZ
      go_enter Tryd.func7, Tryd.ntmps7
      go_wp2_with fail
      refine ((HL _).out).mono ?_
      rintro e w1 ⟨rfl, hb1⟩
      have HB1 := Lib.hid hb1; clear hb1
      go_wp2_with fail
      refine ((HT _).out).mono ?_
      rintro e w2 ⟨rfl, hb2⟩
      have HB2 := Lib.hid (HB1.out.trans (hb2.mono HB1.out.size)); clear hb2
      go_wp2_with fail
      refine ((HTR _).out).mono ?_
      rintro e w3 ⟨rfl, hb3⟩
      have HB3 := Lib.hid (HB2.out.trans (hb3.mono HB2.out.size)); clear hb3
      go_wp2_with fail
      refine ((HR _).out).mono ?_
      rintro e w4 ⟨rfl, hb4⟩
      have HB4 := Lib.hid (HB3.out.trans (hb4.mono HB3.out.size)); clear hb4
      go_wp2_with fail
      refine ((HRR _).out).mono ?_
      rintro e w5 ⟨rfl, hb5⟩
      have HB5 := Lib.hid (HB4.out.trans (hb5.mono HB4.out.size)); clear hb5
      go_wp2_with fail
      refine ((hB2 _).out).mono ?_
      rintro e w6 ⟨rfl, hb6⟩
      have HB6 := Lib.hid (HB5.out.trans (hb6.mono HB5.out.size)); clear hb6
      go_wp2_with fail
      go_ret
      exact ⟨rfl, HB6.out⟩
    · have he' : (Ve != 0) = true := by simpa using he
      clear he HB HX HXd HZ
      go_enter Tryd.func7, Tryd.ntmps7
      go_wp2_with fail
      refine ((HL _).out).mono ?_
      rintro e w1 ⟨rfl, hb1⟩
      have HB1 := Lib.hid hb1; clear hb1
      go_wp2_with fail
      refine ((HT _).out).mono ?_
      rintro e w2 ⟨rfl, hb2⟩
      have HB2 := Lib.hid (HB1.out.trans (hb2.mono HB1.out.size)); clear hb2
      go_wp2_with fail
      refine ((HTR _).out).mono ?_
      rintro e w3 ⟨rfl, hb3⟩
      have HB3 := Lib.hid (HB2.out.trans (hb3.mono HB2.out.size)); clear hb3
      go_wp2_with fail
      refine ((HR _).out).mono ?_
      rintro e w4 ⟨rfl, hb4⟩
      have HB4 := Lib.hid (HB3.out.trans (hb4.mono HB3.out.size)); clear hb4
      go_wp2_with fail
      refine ((HRR _).out).mono ?_
      rintro e w5 ⟨rfl, hb5⟩
      have HB5 := Lib.hid (HB4.out.trans (hb5.mono HB4.out.size)); clear hb5
      go_wp2_with fail
      go_ret
      exact ⟨rfl, HB5.out⟩
end Go.Proofs.YtpchomhfpfpckaaDoor
