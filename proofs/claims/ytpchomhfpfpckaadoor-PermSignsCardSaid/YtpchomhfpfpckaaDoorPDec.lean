/- Decimal below 100, apart from the reference. -/
import Derived.Test.YtpchomhfpfpckaaDoorSmall
import Derived.Test.YtpchomhfpfpckaaDoorMul
import Derived.Laws.Runes
import Derived.Laws.Concat
namespace Go.Proofs.YtpchomhfpfpckaaDoor
open Go Go.RowKit

theorem encode_digD : ∀ x : Nat, x < 10 → Utf8.encode ((48 + x : Nat) : Int) = ⟨[UInt8.ofNat (48 + x)].toArray⟩ := by decide
theorem enc_digD {u : Nat} (h : u < 10) {x : Int} (hx : x = 48 + (u : Int)) : (Utf8.encode x).size ≤ 4 ∧ (Utf8.encode x).data.toList = [UInt8.ofNat (48 + u)] := by
  have e : x = ((48 + u : Nat) : Int) := by omega
  rw [e, encode_digD u h]
  exact ⟨(by show 1 ≤ 4; omega), rfl⟩

set_option maxRecDepth 100000 in
set_option maxHeartbeats 400000 in
theorem dec_oneD (u : Nat) (hu : u < 10) (w : World) :
    Calls Tryd.prog 57 #[.int .i64 u] w fun e w' => ∃ s : ByteArray, e = .returned (.string s) ∧ s.data.toList = dig u ∧ s.size ≤ 4 ∧ w = w' := by
  obtain ⟨h1, h2⟩ := enc_digD hu (x := 48 + (u : Int)) rfl
  have hd : dig u = [UInt8.ofNat (48 + u)] := by unfold dig; rw [if_pos hu]
  have H2 := Lib.hid (h2.trans hd.symm)
  have H1 := Lib.hid h1
  have hlt : (u : Int) < 10 := by omega
  have hw0 : IntKind.i64.wrap (48 + (u : Int)) = 48 + (u : Int) := IntWalk.i64_in _ (by omega)
  have hw1 : IntKind.i32.wrap (48 + (u : Int)) = 48 + (u : Int) := by rw [IntKind.wrap_i32]; omega
  clear h1 h2 hd hu
  go_enter Tryd.func57, Tryd.ntmps57
  go_wp2_with fail
  go_ret
  exact ⟨_, rfl, H2.out, H1.out, rfl⟩

set_option maxRecDepth 100000 in
set_option maxHeartbeats 400000 in
theorem dec_anyD (u : Nat) (hu : u < 100) (w : World) :
    Calls Tryd.prog 57 #[.int .i64 u] w fun e w' => ∃ s : ByteArray, e = .returned (.string s) ∧ s.data.toList = dig u ∧ s.size ≤ 8 ∧ w = w' := by
  by_cases h10 : u < 10
  · exact (dec_oneD u h10 w).mono fun e w' ⟨s, h1, h2, h3, h4⟩ => ⟨s, h1, h2, by omega, h4⟩
  · obtain ⟨q, r, hqr, hq, hr⟩ : ∃ q r : Nat, u = 10 * q + r ∧ q < 10 ∧ r < 10 := ⟨u / 10, u % 10, by omega, by omega, by omega⟩
    have hd : dig u = [UInt8.ofNat (48 + q)] ++ [UInt8.ofNat (48 + r)] := by
      unfold dig
      rw [if_neg h10, show u / 10 = q by omega, show u % 10 = r by omega]
      rfl
    have hdq : dig q = [UInt8.ofNat (48 + q)] := by unfold dig; rw [if_pos hq]
    rw [← hdq] at hd
    have HD := Lib.hid hd
    have HC := fun W => Lib.hid (dec_oneD q hq W)
    obtain ⟨h1, h2⟩ := enc_digD hr (x := 48 + (r : Int)) rfl
    have H2 := Lib.hid h2
    have H1 := Lib.hid h1
    have hu1 : (u : Int) / 10 = (q : Int) := by omega
    have hu2 : (u : Int) % 10 = (r : Int) := by omega
    have hu3 : ¬ (u : Int) < 10 := by omega
    have hadd := fun (s : ByteArray) (hs : s.size ≤ 4) (W : World) => Lib.hid (run_string_add_sum (P := Tryd.prog) W s (Utf8.encode (48 + (r : Int))) (by omega))
    clear h1 h2 hd hdq hqr
    go_enter Tryd.func57, Tryd.ntmps57
    go_wp2_with fail
    refine ((HC _).out).mono ?_
    rintro e w1 ⟨s, rfl, hs1, hs2, rfl⟩
    have ha := fun W => (hadd s hs2 W).out
    have HS := Lib.hid (show (s ++ Utf8.encode (48 + (r : Int))).data.toList = dig u by rw [HD.out, ByteArray.data_append, Array.toList_append, hs1, H2.out])
    have HZ := Lib.hid (show (s ++ Utf8.encode (48 + (r : Int))).size ≤ 8 by have := H1.out; rw [ByteArray.size_append]; omega)
    clear hs1 hs2 hadd
    go_wp2_with fail
    go_ret
    exact ⟨_, rfl, HS.out, HZ.out, rfl⟩
theorem cat_listD {a b : ByteArray} {l m : List UInt8} (ha : a.data.toList = l) (hb : b.data.toList = m) : (a ++ b).data.toList = l ++ m := by simp [ByteArray.data_append, ha, hb]
theorem str_ofD {t : ByteArray} {l : List UInt8} (h : t.data.toList = l) : (⟨l.toArray⟩ : ByteArray) = t := by subst h; cases t; rfl
theorem nodup_lenD : ∀ (n : Nat) (c : List Int), c.Nodup → (∀ x ∈ c, 0 ≤ x ∧ x < (n : Int)) → c.length ≤ n := by
  intro n
  induction n with
  | zero =>
    intro c _ h
    cases c with
    | nil => simp
    | cons x t => have := h x (by simp); omega
  | succ n ih =>
    intro c hn h
    have h1 := ih (c.erase (n : Int)) (hn.erase _) (fun x hx => by
      have h2 := (List.Nodup.mem_erase_iff hn).1 hx
      have h3 := h x h2.2
      have h4 := h2.1
      omega)
    by_cases hm : (n : Int) ∈ c
    · rw [List.length_erase_of_mem hm] at h1
      omega
    · rw [List.erase_of_not_mem hm] at h1
      omega
end Go.Proofs.YtpchomhfpfpckaaDoor
