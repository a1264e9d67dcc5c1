/- cayleyref01.Ratio. -/
import Derived.Test.YtpchomhfpfpckaaDoorRefNum
import Derived.Laws.Strings
namespace Go.Proofs.YtpchomhfpfpckaaDoor
open Go Go.RowKit

theorem encode_q (q : Nat) (hq : q ≤ 9) {x : Int} (hx : x = ((48 + q : Nat) : Int)) : (Utf8.encode x).size ≤ 4 ∧ Hid ((Utf8.encode x).data.toList = [UInt8.ofNat (48 + q)]) := by
  subst hx
  rw [encode_dig q (by omega)]
  exact ⟨(by show 1 ≤ 4; omega), rfl⟩
theorem cat_snoc {e t : ByteArray} {b : UInt8} (h : e.data.toList = [b]) : (t ++ e).data.toList = t.data.toList ++ [b] := by
  simp [ByteArray.data_append, h]

set_option maxRecDepth 100000 in
set_option maxHeartbeats 1000000 in
theorem refRatio_ok (s : ByteArray) (N : Nat) (hs : s.size ≤ 300) (w : World) (ho : OrdOk s.data.toList) (hN1 : 1 ≤ N) (hN : N ≤ 1000000000) :
    Calls Tryd.prog 52 #[.string s, .int .i64 N] w (NumErr (ratioV s.data.toList N) w) := by
  have HC := fun W => Lib.hid (order_any s hs W)
  rw [ordB_true.2 ho] at HC
  have hl := len_bytes s
  have h200 := ho.2.1
  rw [hl] at h200
  have HO := Lib.hid ho
  have HL := Lib.hid hl
  clear ho hl
  have hN0 : ¬ N = 0 := by omega
  go_enter Tryd.func52, Tryd.ntmps52
  go_wp2_with fail
  refine ((HC _).out).mono ?_
  rintro e w1 ⟨rfl, rfl⟩
  go_wp2_with fail
  go_loop [6, 7, 8] (fun o q i => ∃ (k r : Nat) (t : ByteArray), o = .string t ∧ q = .int .i64 r ∧ i = .int .i64 k ∧ k ≤ s.size ∧ Hid (rat (s.data.toList.take k) N = (t.data.toList, r))) (fun _ _ i => s.size - (intOf i).toNat)
  case atStart => exact ⟨0, 0, ⟨#[]⟩, rfl, rfl, rfl, Nat.zero_le _, rfl⟩
  case round =>
    obtain ⟨k, r, t, rfl, rfl, rfl, hk, hA⟩ := hrel
    have hlen := rat_len s.data.toList N k
    rw [hA.out] at hlen
    have htl := len_bytes t
    dsimp only at hlen
    by_cases hlt : k < s.size
    · have hb := get_bytes s k hlt
      have hdig := HO.out.2.2.2 s[k] (List.mem_of_getElem? hb)
      have hro := rat_ok hN1 (s.data.toList.take k) (fun b hb => HO.out.2.2.2 b (List.mem_of_mem_take hb))
      rw [hA.out] at hro
      have hstep := rat_take (N := N) hb
      rw [hA.out] at hstep
      obtain ⟨hq9, hq0⟩ := hro.quot hdig
      have hlt' := hro.lt
      dsimp only at hq9 hq0 hlt'
      obtain ⟨d, hd⟩ : ∃ d : Nat, (s[k].toNat : Int) = d + 48 := ⟨s[k].toNat - 48, by omega⟩
      have hdv : dv s[k] = d := by unfold dv; omega
      unfold ratStep at hstep
      dsimp only at hstep
      rw [hdv] at hq9 hq0 hstep
      have hd9 : d ≤ 9 := by omega
      have hr9 : r ≤ 1000000000 := by omega
      have hQi : (((10 * r + d) / N : Nat) : Int) = (10 * (r : Int) + (d : Int)) / (N : Int) := by simp
      have hq9i : (10 * (r : Int) + (d : Int)) / (N : Int) ≤ 9 := by omega
      have hq0i : 0 ≤ (10 * (r : Int) + (d : Int)) / (N : Int) := by rw [← hQi]; exact Int.natCast_nonneg _
      have hMi : (((10 * r + d) % N : Nat) : Int) = (10 * (r : Int) + (d : Int)) % (N : Int) := by simp
      have hmm : (10 * r + d) % N < N := Nat.mod_lt _ (by omega)
      have hm0 : 0 ≤ (10 * (r : Int) + (d : Int)) % (N : Int) := by rw [← hMi]; exact Int.natCast_nonneg _
      have hm1 : (10 * (r : Int) + (d : Int)) % (N : Int) ≤ 1000000000 := by omega
      have HM := Lib.hid hMi
      obtain ⟨hes, HE⟩ := encode_q ((10 * r + d) / N) hq9 (x := 48 + (10 * (r : Int) + (d : Int)) / (N : Int)) (by omega)
      have hadd := fun W : World => run_string_add_sum (P := Tryd.prog) W t (Utf8.encode (48 + (10 * (r : Int) + (d : Int)) / (N : Int))) (by omega)
      have HL2 := Lib.hid htl
      clear hQi hMi hro hdig hb hlt' hdv hmm hes hlen htl hq9 hA
      by_cases hout : t.data.toList = []
      · have hte : t.toList = [] := by rw [ByteArray.toList_eq]; exact hout
        by_cases hq : (N : Int) ≤ 10 * (r : Int) + (d : Int)
        · rw [if_pos (.inr (by omega)), ← cat_snoc HE.out] at hstep
          have HT := Lib.hid hstep
          clear hstep hq0 HE hout
          go_wp2
          go_round
          case rel => exact ⟨k + 1, (10 * r + d) % N, _, rfl, by rw [HM.out], by go_num, by omega, HT.out⟩
          case measure => simp [intOf]; omega
        · rw [if_neg (fun h => by rcases h with h | h; exact h hout; omega)] at hstep
          have HT := Lib.hid hstep
          clear hstep hq0 HE hout hadd
          go_wp2
          go_round
          case rel => exact ⟨k + 1, (10 * r + d) % N, _, rfl, by rw [HM.out], by go_num, by omega, HT.out⟩
          case measure => simp [intOf]; omega
      · have hte : ¬ t.toList = [] := by rw [ByteArray.toList_eq]; exact hout
        have hte2 : t.toList.isEmpty = false := by simpa using hte
        rw [if_pos (.inl hout), ← cat_snoc HE.out] at hstep
        have HT := Lib.hid hstep
        clear hstep hq0 HE hout
        go_wp2
        go_round
        case rel => exact ⟨k + 1, (10 * r + d) % N, _, rfl, by rw [HM.out], by go_num, by omega, HT.out⟩
        case measure => simp [intOf]; omega
    · have hke : s.data.toList.take k = s.data.toList := List.take_of_length_le (by rw [HL.out]; omega)
      have hAo := hA.out
      rw [hke] at hAo
      have hNn : ((N : Int)).toNat = N := Int.toNat_natCast N
      by_cases hr0 : r = 0
      · have HV : Hid (ratioV s.data.toList N = (t.data.toList, 0)) := by
          have : ratioV s.data.toList N = (t.data.toList, 0) := by
            unfold ratioV
            rw [if_neg (fun h => h HO.out), if_neg (by omega), if_neg (by omega), hNn, hAo, if_neg (by simpa using hr0)]
          exact this
        subst hr0
        clear hAo hA hke hNn htl hlen
        go_wp2
        go_ret2
        exact ⟨by rw [HV.out]; rfl, Below.refl _ _⟩
      · have HV : Hid (ratioV s.data.toList N = ([], 18)) := by
          have : ratioV s.data.toList N = ([], 18) := by
            unfold ratioV
            rw [if_neg (fun h => h HO.out), if_neg (by omega), if_neg (by omega), hNn, hAo, if_pos (by simpa using hr0)]
          exact this
        have hr1 : ((r : Int) != 0) = true := by simp; omega
        clear hAo hA hke hNn htl hlen
        go_wp2
        go_ret2
        exact ⟨by rw [HV.out]; rfl, Below.refl _ _⟩

set_option maxRecDepth 100000 in
set_option maxHeartbeats 400000 in
/-- The reference's Ratio. -/
theorem refRatio_any (s : ByteArray) (n : Int) (hs : s.size ≤ 300) (w : World) :
    Calls Tryd.prog 52 #[.string s, .int .i64 n] w (NumErr (ratioV s.data.toList n) w) := by
  by_cases ho : OrdOk s.data.toList
  · by_cases hn : 1 ≤ n ∧ n ≤ 1000000000
    · obtain ⟨N, rfl⟩ : ∃ N : Nat, n = (N : Int) := ⟨n.toNat, by omega⟩
      exact refRatio_ok s N hs w ho (by omega) (by omega)
    · have HC := fun W => Lib.hid (order_any s hs W)
      rw [ordB_true.2 ho] at HC
      by_cases h0 : n = 0
      · subst h0
        rw [show ratioV s.data.toList 0 = ([], 6) by unfold ratioV; rw [if_neg (fun h => h ho), if_pos rfl]]
        clear ho hn
        go_enter Tryd.func52, Tryd.ntmps52
        go_wp2_with fail
        refine ((HC _).out).mono ?_
        rintro e w1 ⟨rfl, rfl⟩
        go_wp2_with fail
        go_ret2
        exact ⟨rfl, Below.refl _ _⟩
      · rw [show ratioV s.data.toList n = ([], 2) by unfold ratioV; rw [if_neg (fun h => h ho), if_neg h0, if_pos (by omega)]]
        have hn0 : (n == 0) = false := by simpa using h0
        clear ho
        by_cases h1 : n < 0
        · clear hn h0
          go_enter Tryd.func52, Tryd.ntmps52
          go_wp2_with fail
          refine ((HC _).out).mono ?_
          rintro e w1 ⟨rfl, rfl⟩
          go_wp2_with fail
          go_ret2
          exact ⟨rfl, Below.refl _ _⟩
        · have h2 : 1000000000 < n := by omega
          clear hn h0
          go_enter Tryd.func52, Tryd.ntmps52
          go_wp2_with fail
          refine ((HC _).out).mono ?_
          rintro e w1 ⟨rfl, rfl⟩
          go_wp2_with fail
          go_ret2
          exact ⟨rfl, Below.refl _ _⟩
  · rw [show ratioV s.data.toList n = ([], 3) by unfold ratioV; rw [if_pos ho]]
    have HC := fun W => Lib.hid (order_any s hs W)
    rw [show ordB s.data.toList = false from decide_eq_false ho] at HC
    clear ho
    go_enter Tryd.func52, Tryd.ntmps52
    go_wp2_with fail
    refine ((HC _).out).mono ?_
    rintro e w1 ⟨rfl, rfl⟩
    go_wp2_with fail
    go_ret2
    exact ⟨rfl, Below.refl _ _⟩
end Go.Proofs.YtpchomhfpfpckaaDoor
