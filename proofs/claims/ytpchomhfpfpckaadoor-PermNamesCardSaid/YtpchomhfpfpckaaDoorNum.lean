/- perm.isOrder and the reference's order; perm.checkNum. -/
import Derived.Test.YtpchomhfpfpckaaDoorBase
import Derived.Test.YtpchomhfpfpckaaDoorNumMath
import Derived.WalkSpells
namespace Go.Proofs.YtpchomhfpfpckaaDoor
open Go Go.RowKit

def ordB (l : List UInt8) : Bool := decide (OrdOk l)
theorem len_bytes (s : ByteArray) : s.data.toList.length = s.size := by rw [Array.length_toList]; rfl
theorem get_bytes (s : ByteArray) (k : Nat) (h : k < s.size) : s.data.toList[k]? = some s[k] := by
  rw [Array.getElem?_toList]
  exact Array.getElem?_eq_getElem h
theorem ord_len {s : ByteArray} (h : s.size < 1 ∨ 200 < s.size) : ordB s.data.toList = false := decide_eq_false fun ⟨h1, h2, _⟩ => by rw [len_bytes] at h1 h2; omega
theorem ord_head {s : ByteArray} (hp : 0 < s.size) (h : s[0] = 48) : ordB s.data.toList = false := decide_eq_false fun ⟨_, _, h3, _⟩ => h3 (by
  rw [List.head?_eq_getElem?, get_bytes s 0 hp, h])
theorem ord_dig {s : ByteArray} {k : Nat} (hk : k < s.size) (h : ¬ (48 ≤ s[k].toNat ∧ s[k].toNat ≤ 57)) : ordB s.data.toList = false := decide_eq_false fun ⟨_, _, _, h4⟩ => h (h4 _ (List.mem_of_getElem? (get_bytes s k hk)))
theorem ord_yes {s : ByteArray} (hp : 0 < s.size) (h2 : s.size ≤ 200) (h0 : s[0] ≠ 48) (h : ∀ k (hk : k < s.size), 48 ≤ s[k].toNat ∧ s[k].toNat ≤ 57) : ordB s.data.toList = true := by
  refine decide_eq_true ⟨by rw [len_bytes]; omega, by rw [len_bytes]; omega, ?_, fun b hb => ?_⟩
  · rw [List.head?_eq_getElem?, get_bytes s 0 hp]
    intro e; exact h0 (by injection e)
  · obtain ⟨k, hk⟩ := List.mem_iff_getElem?.1 hb
    have hlt : k < s.size := by rw [← len_bytes]; exact (List.getElem?_eq_some_iff.1 hk).1
    rw [get_bytes s k hlt] at hk
    have := h k hlt
    injection hk with hk
    rw [← hk]; exact this
theorem ret_b {a b : Bool} (h : a = b) : Ending.returned (.bool a) = .returned (.bool b) := by rw [h]
def DigTo (s : ByteArray) (k : Nat) : Prop := ∀ j (hj : j < s.size), j < k → 48 ≤ s[j].toNat ∧ s[j].toNat ≤ 57
theorem DigTo.succ {s : ByteArray} {k : Nat} (h : DigTo s k) (hk : k < s.size) (h0 : 48 ≤ s[k].toNat) (h1 : s[k].toNat ≤ 57) : DigTo s (k + 1) := fun j hj hjk => by
  by_cases e : j = k
  · subst e; exact ⟨h0, h1⟩
  · exact h j hj (by omega)

set_option maxRecDepth 100000 in
set_option maxHeartbeats 400000 in
theorem isOrder_any (s : ByteArray) (hs : s.size ≤ 300) (w : World) :
    Calls Tryd.prog 90 #[.string s] w fun e w' => e = .returned (.bool (ordB s.data.toList)) ∧ w = w' := by
  have HL := Lib.hid (@ord_len s)
  have HH := Lib.hid (@ord_head s)
  have HD := fun k => Lib.hid (@ord_dig s k)
  have HY := Lib.hid (@ord_yes s)
  generalize ordB s.data.toList = r at HL HH HD HY
  by_cases h1 : s.size < 1
  · have HR := Lib.hid (HL.out (.inl h1))
    go_enter Tryd.func90, Tryd.ntmps90
    go_wp2
    go_ret
    exact ⟨ret_b HR.out.symm, rfl⟩
  · by_cases h2 : 200 < s.size
    · have HR := Lib.hid (HL.out (.inr h2))
      go_enter Tryd.func90, Tryd.ntmps90
      go_wp2
      go_ret
      exact ⟨ret_b HR.out.symm, rfl⟩
    · have hp : 0 < s.size := by omega
      by_cases h0 : s[0] = 48
      · have HR := Lib.hid (HH.out hp h0)
        go_enter Tryd.func90, Tryd.ntmps90
        go_wp2
        go_ret
        exact ⟨ret_b HR.out.symm, rfl⟩
      · have HZ := Lib.hid h0
        have hb0 : ((s[0].toNat : Int) == 48) = false := by
          rw [beq_eq_false_iff_ne]
          intro e
          exact h0 (UInt8.toNat_inj.1 (by have : s[0].toNat = 48 := by omega
                                          rw [this]; rfl))
        clear h0
        go_enter Tryd.func90, Tryd.ntmps90
        go_wp2
        go_loop [3] (fun i => ∃ k : Nat, i = .int .i64 k ∧ k ≤ s.size ∧ DigTo s k) (fun i => s.size - (intOf i).toNat)
        case atStart => exact ⟨0, rfl, Nat.zero_le _, fun j _ hj => absurd hj (by omega)⟩
        case round =>
          obtain ⟨k, rfl, hk, hT⟩ := hrel
          have HT := Lib.hid hT
          clear hT hb0
          by_cases hlt : k < s.size
          · have HDk := Lib.hid ((HD k).out hlt)
            by_cases hlo : (48 : Int) ≤ (s[k].toNat : Int)
            · by_cases hhi : (s[k].toNat : Int) ≤ 57
              · have HT2 := Lib.hid (HT.out.succ hlt (by omega) (by omega))
                go_wp2
                go_round
                case rel => exact ⟨k + 1, by go_num, by omega, HT2.out⟩
                case measure => simp [intOf]; omega
              · have HR := Lib.hid (HDk.out (by omega))
                go_wp2
                go_ret
                exact ⟨ret_b HR.out.symm, rfl⟩
            · have HR := Lib.hid (HDk.out (by omega))
              go_wp2
              go_ret
              exact ⟨ret_b HR.out.symm, rfl⟩
          · have HR := Lib.hid (HY.out hp (by omega) HZ.out (fun j hj => HT.out j hj (by omega)))
            go_wp2
            go_ret
            exact ⟨ret_b HR.out.symm, rfl⟩

set_option maxRecDepth 100000 in
set_option maxHeartbeats 400000 in
theorem order_any (s : ByteArray) (hs : s.size ≤ 300) (w : World) :
    Calls Tryd.prog 80 #[.string s] w fun e w' => e = .returned (.bool (ordB s.data.toList)) ∧ w = w' := by
  have HL := Lib.hid (@ord_len s)
  have HH := Lib.hid (@ord_head s)
  have HD := fun k => Lib.hid (@ord_dig s k)
  have HY := Lib.hid (@ord_yes s)
  generalize ordB s.data.toList = r at HL HH HD HY
  by_cases h1 : s.size < 1
  · have HR := Lib.hid (HL.out (.inl h1))
    go_enter Tryd.func80, Tryd.ntmps80
    go_wp2
    go_ret
    exact ⟨ret_b HR.out.symm, rfl⟩
  · by_cases h2 : 200 < s.size
    · have HR := Lib.hid (HL.out (.inr h2))
      go_enter Tryd.func80, Tryd.ntmps80
      go_wp2
      go_ret
      exact ⟨ret_b HR.out.symm, rfl⟩
    · have hp : 0 < s.size := by omega
      by_cases h0 : s[0] = 48
      · have HR := Lib.hid (HH.out hp h0)
        go_enter Tryd.func80, Tryd.ntmps80
        go_wp2
        go_ret
        exact ⟨ret_b HR.out.symm, rfl⟩
      · have HZ := Lib.hid h0
        have hb0 : ((s[0].toNat : Int) == 48) = false := by
          rw [beq_eq_false_iff_ne]
          intro e
          exact h0 (UInt8.toNat_inj.1 (by have : s[0].toNat = 48 := by omega
                                          rw [this]; rfl))
        clear h0
        go_enter Tryd.func80, Tryd.ntmps80
        go_wp2
        go_loop [3] (fun i => ∃ k : Nat, i = .int .i64 k ∧ k ≤ s.size ∧ DigTo s k) (fun i => s.size - (intOf i).toNat)
        case atStart => exact ⟨0, rfl, Nat.zero_le _, fun j _ hj => absurd hj (by omega)⟩
        case round =>
          obtain ⟨k, rfl, hk, hT⟩ := hrel
          have HT := Lib.hid hT
          clear hT hb0
          by_cases hlt : k < s.size
          · have HDk := Lib.hid ((HD k).out hlt)
            by_cases hlo : (48 : Int) ≤ (s[k].toNat : Int)
            · by_cases hhi : (s[k].toNat : Int) ≤ 57
              · have HT2 := Lib.hid (HT.out.succ hlt (by omega) (by omega))
                go_wp2
                go_round
                case rel => exact ⟨k + 1, by go_num, by omega, HT2.out⟩
                case measure => simp [intOf]; omega
              · have HR := Lib.hid (HDk.out (by omega))
                go_wp2
                go_ret
                exact ⟨ret_b HR.out.symm, rfl⟩
            · have HR := Lib.hid (HDk.out (by omega))
              go_wp2
              go_ret
              exact ⟨ret_b HR.out.symm, rfl⟩
          · have HR := Lib.hid (HY.out hp (by omega) HZ.out (fun j hj => HT.out j hj (by omega)))
            go_wp2
            go_ret
            exact ⟨ret_b HR.out.symm, rfl⟩

/-- The error of an order and a factor. -/
def numE (l : List UInt8) (n : Int) : Int := if ordB l = true then (if n < 1 ∨ 1000000000 < n then 2 else 0) else 3
theorem numE_form {l : List UInt8} {n : Int} (h : ordB l = false) : numE l n = 3 := by unfold numE; rw [if_neg (by rw [h]; simp)]
theorem numE_range {l : List UInt8} {n : Int} (h : ordB l = true) (hn : n < 1 ∨ 1000000000 < n) : numE l n = 2 := by unfold numE; rw [if_pos h, if_pos hn]
theorem numE_ok {l : List UInt8} {n : Int} (h : ordB l = true) (hn : ¬ (n < 1 ∨ 1000000000 < n)) : numE l n = 0 := by unfold numE; rw [if_pos h, if_neg hn]

set_option maxRecDepth 100000 in
set_option maxHeartbeats 400000 in
theorem checkNum_any (s : ByteArray) (n : Int) (hs : s.size ≤ 300) (w : World) :
    Calls Tryd.prog 71 #[.string s, .int .i64 n] w fun e w' => e = .returned (.int .i64 (numE s.data.toList n)) ∧ w = w' := by
  have HI := fun W => Lib.hid (isOrder_any s hs W)
  have HF := Lib.hid (@numE_form s.data.toList n)
  have HR := Lib.hid (@numE_range s.data.toList n)
  have HO := Lib.hid (@numE_ok s.data.toList n)
  generalize numE s.data.toList n = x at HF HR HO
  generalize ordB s.data.toList = r at HI HF HR HO
  cases r
  · have HX := Lib.hid (HF.out rfl)
    go_enter Tryd.func71, Tryd.ntmps71
    go_wp2_with fail
    refine ((HI _).out).mono ?_
    rintro e w1 ⟨rfl, rfl⟩
    go_wp2_with fail
    go_ret
    exact ⟨ret_int HX.out.symm, rfl⟩
  · by_cases hn : n < 1
    · have HX := Lib.hid (HR.out rfl (.inl hn))
      go_enter Tryd.func71, Tryd.ntmps71
      go_wp2_with fail
      refine ((HI _).out).mono ?_
      rintro e w1 ⟨rfl, rfl⟩
      go_wp2_with fail
      go_ret
      exact ⟨ret_int HX.out.symm, rfl⟩
    · by_cases hn' : 1000000000 < n
      · have HX := Lib.hid (HR.out rfl (.inr hn'))
        go_enter Tryd.func71, Tryd.ntmps71
        go_wp2_with fail
        refine ((HI _).out).mono ?_
        rintro e w1 ⟨rfl, rfl⟩
        go_wp2_with fail
        go_ret
        exact ⟨ret_int HX.out.symm, rfl⟩
      · have HX := Lib.hid (HO.out rfl (by omega))
        go_enter Tryd.func71, Tryd.ntmps71
        go_wp2_with fail
        refine ((HI _).out).mono ?_
        rintro e w1 ⟨rfl, rfl⟩
        go_wp2_with fail
        go_ret
        exact ⟨ret_int HX.out.symm, rfl⟩
end Go.Proofs.YtpchomhfpfpckaaDoor
