/- cayleyref01.Times and Ratio. -/
import Derived.Test.YtpchomhfpfpckaaDoorRatio
import Derived.Laws.Runes
import Derived.Laws.Concat
namespace Go.Proofs.YtpchomhfpfpckaaDoor
open Go Go.RowKit

theorem encode_dig : ∀ x : Nat, x < 10 → Utf8.encode ((48 + x : Nat) : Int) = ⟨[UInt8.ofNat (48 + x)].toArray⟩ := by decide
theorem encode_digB (k : Nat) {x : Int} (hx : x = ((48 + k % 10 : Nat) : Int)) : (Utf8.encode x).size ≤ 4 ∧ Hid ((Utf8.encode x).data.toList = [digB k]) := by
  subst hx
  have e := encode_dig (k % 10) (Nat.mod_lt _ (by decide))
  rw [e]
  exact ⟨(by show 1 ≤ 4; omega), rfl⟩
theorem cat_bytes {e t : ByteArray} {b : UInt8} (h : e.data.toList = [b]) : (e ++ t).data.toList = b :: t.data.toList := by
  simp [ByteArray.data_append, h]
theorem str_bytes (t : ByteArray) : (⟨t.data.toList.toArray⟩ : ByteArray) = t := by cases t; rfl
theorem str_of {t : ByteArray} {l : List UInt8} (h : t.data.toList = l) : (⟨l.toArray⟩ : ByteArray) = t := by subst h; exact str_bytes t

set_option maxRecDepth 100000 in
set_option maxHeartbeats 1000000 in
theorem refTimes_ok (s : ByteArray) (N : Nat) (hs : s.size ≤ 300) (w : World) (ho : OrdOk s.data.toList) (hN1 : 1 ≤ N) (hN : N ≤ 1000000000) :
    Calls Tryd.prog 51 #[.string s, .int .i64 N] w (NumErr (timesV s.data.toList N) w) := by
  have HC := fun W => Lib.hid (order_any s hs W)
  rw [ordB_true.2 ho] at HC
  have hl := len_bytes s
  have h200 := ho.2.1
  rw [hl] at h200
  have h1s := ho.1
  rw [hl] at h1s
  have hst := AtT.start s.data.toList hN1 (fun e => by have := ho.1; rw [e] at this; simp at this)
  have HST := Lib.hid hst
  have HO := Lib.hid ho
  have HL := Lib.hid hl
  clear hst ho hl
  go_enter Tryd.func51, Tryd.ntmps51
  go_wp2_with fail
  refine ((HC _).out).mono ?_
  rintro e w1 ⟨rfl, rfl⟩
  go_wp2_with fail
  go_loop [6, 7, 8] (fun o c i => ∃ (r k : Nat) (t : ByteArray), o = .string t ∧ c = .int .i64 k ∧ i = .int .i64 ((s.size : Int) - 1 - r) ∧ AtT s.data.toList N r t.data.toList k) (fun _ _ i => (intOf i + 400).toNat)
  case atStart => exact ⟨0, 0, ⟨#[]⟩, rfl, rfl, by simp, HST.out⟩
  case round =>
    obtain ⟨r, c, t, rfl, rfl, rfl, hA⟩ := hrel
    have hcar := (hA.carry HO.out.2.2.2).1
    have hlow : ∀ hgo : r < s.size ∨ 0 < c, r ≤ 300 := fun hgo => (hA.small hN HO.out.2.1 (by rw [HL.out]; exact hgo)).1
    by_cases hrl : r < s.size
    · have hr3 := hlow (.inl hrl)
      obtain ⟨i, hi⟩ : ∃ i : Nat, (s.size : Int) - 1 - r = i := ⟨s.size - 1 - r, by omega⟩
      rw [hi]
      have hil : i < s.size := by omega
      have hib : i = s.data.toList.length - 1 - r := by rw [HL.out]; omega
      have hdig := HO.out.2.2.2 s[i] (List.mem_of_getElem? (get_bytes s i hil))
      obtain ⟨d, hd⟩ : ∃ d : Nat, (s[i].toNat : Int) = d + 48 := ⟨s[i].toNat - 48, by omega⟩
      have hk : carryIn s.data.toList N r c = c + d * N := by
        unfold carryIn
        rw [if_pos (by rw [HL.out]; exact hrl), ← hib, List.getD_eq_getElem?_getD, get_bytes s i hil]
        simp only [Option.getD_some]
        unfold dv
        congr 2
        omega
      have hd9 : d ≤ 9 := by omega
      have hdN : d * N ≤ 9000000000 := Nat.le_trans (Nat.mul_le_mul hd9 hN) (by omega)
      have hmN : ((d * N : Nat) : Int) = (d : Int) * (N : Int) := Int.natCast_mul d N
      have hm1 : (d : Int) * (N : Int) ≤ 9000000000 := by omega
      have hm0 : 0 ≤ (d : Int) * (N : Int) := by omega
      have hS := hA.step HO.out.2.2.2 HO.out.noZero hN1 hN HO.out.2.1 (.inl (by rw [HL.out]; exact hrl))
      rw [hk] at hS
      obtain ⟨hes, HE⟩ := encode_digB (c + d * N) (x := 48 + ((c : Int) + (d : Int) * (N : Int)) % 10) (by simp)
      rw [← cat_bytes HE.out] at hS
      have HS := Lib.hid hS
      have hts : t.size ≤ 300 := by have := hA.len; rw [len_bytes] at this; omega
      have hadd := fun W : World => run_string_add_sum (P := Tryd.prog) W (Utf8.encode (48 + ((c : Int) + (d : Int) * (N : Int)) % 10)) t (by omega)
      have HI := Lib.hid hi
      clear hS HE hA hlow hk hes hts hib hdig hi hmN hdN
      go_wp2
      go_round
      case rel => exact ⟨r + 1, (c + d * N) / 10, _, rfl, by simp, by have := HI.out; go_num, HS.out⟩
      case measure => simp [intOf]; omega
    · by_cases hc : 0 < c
      · have hr3 := hlow (.inr hc)
        have hk : carryIn s.data.toList N r c = c := by unfold carryIn; rw [if_neg (by rw [HL.out]; exact hrl), Nat.add_zero]
        have hS := hA.step HO.out.2.2.2 HO.out.noZero hN1 hN HO.out.2.1 (.inr hc)
        rw [hk] at hS
        obtain ⟨hes, HE⟩ := encode_digB c (x := 48 + (c : Int) % 10) (by simp)
        rw [← cat_bytes HE.out] at hS
        have HS := Lib.hid hS
        have hts : t.size ≤ 300 := by have := hA.len; rw [len_bytes] at this; omega
        have hadd := fun W : World => run_string_add_sum (P := Tryd.prog) W (Utf8.encode (48 + (c : Int) % 10)) t (by omega)
        clear hS HE hA hlow hk hes hts
        go_wp2
        go_round
        case rel => exact ⟨r + 1, c / 10, _, rfl, by simp, by go_num, HS.out⟩
        case measure => simp [intOf]; omega
      · obtain rfl : c = 0 := by omega
        obtain ⟨hp, -, -, -⟩ := hA.done (by rw [HL.out]; omega)
        have hNn : ((N : Int)).toNat = N := Int.toNat_natCast N
        have hlt := len_bytes t
        by_cases hov : 200 < t.size
        · have HV : Hid (timesV s.data.toList N = ([], 5)) := by
            have : timesV s.data.toList N = ([], 5) := by
              unfold timesV
              rw [if_neg (fun h => h HO.out), if_neg (by omega), hNn, hp, if_pos (by omega)]
            exact this
          clear hA hlow hp hlt hNn
          go_wp2
          go_ret2
          exact ⟨by rw [HV.out]; rfl, Below.refl _ _⟩
        · have HV : Hid (timesV s.data.toList N = (t.data.toList, 0)) := by
            have : timesV s.data.toList N = (t.data.toList, 0) := by
              unfold timesV
              rw [if_neg (fun h => h HO.out), if_neg (by omega), hNn, hp, if_neg (by omega)]
            exact this
          clear hA hlow hp hlt hNn
          go_wp2
          go_ret2
          exact ⟨by rw [HV.out]; rfl, Below.refl _ _⟩

set_option maxRecDepth 100000 in
set_option maxHeartbeats 400000 in
/-- The reference's Times. -/
theorem refTimes_any (s : ByteArray) (n : Int) (hs : s.size ≤ 300) (w : World) :
    Calls Tryd.prog 51 #[.string s, .int .i64 n] w (NumErr (timesV s.data.toList n) w) := by
  by_cases ho : OrdOk s.data.toList
  · by_cases hn : 1 ≤ n ∧ n ≤ 1000000000
    · obtain ⟨N, rfl⟩ : ∃ N : Nat, n = (N : Int) := ⟨n.toNat, by omega⟩
      exact refTimes_ok s N hs w ho (by omega) (by omega)
    · rw [show timesV s.data.toList n = ([], 2) by unfold timesV; rw [if_neg (fun h => h ho), if_pos (by omega)]]
      have HC := fun W => Lib.hid (order_any s hs W)
      rw [ordB_true.2 ho] at HC
      clear ho
      by_cases h1 : n < 1
      · clear hn
        go_enter Tryd.func51, Tryd.ntmps51
        go_wp2_with fail
        refine ((HC _).out).mono ?_
        rintro e w1 ⟨rfl, rfl⟩
        go_wp2_with fail
        go_ret2
        exact ⟨rfl, Below.refl _ _⟩
      · have h2 : 1000000000 < n := by omega
        clear hn
        go_enter Tryd.func51, Tryd.ntmps51
        go_wp2_with fail
        refine ((HC _).out).mono ?_
        rintro e w1 ⟨rfl, rfl⟩
        go_wp2_with fail
        go_ret2
        exact ⟨rfl, Below.refl _ _⟩
  · rw [show timesV s.data.toList n = ([], 3) by unfold timesV; rw [if_pos ho]]
    have HC := fun W => Lib.hid (order_any s hs W)
    rw [show ordB s.data.toList = false from decide_eq_false ho] at HC
    clear ho
    go_enter Tryd.func51, Tryd.ntmps51
    go_wp2_with fail
    refine ((HC _).out).mono ?_
    rintro e w1 ⟨rfl, rfl⟩
    go_wp2_with fail
    go_ret2
    exact ⟨rfl, Below.refl _ _⟩
end Go.Proofs.YtpchomhfpfpckaaDoor
