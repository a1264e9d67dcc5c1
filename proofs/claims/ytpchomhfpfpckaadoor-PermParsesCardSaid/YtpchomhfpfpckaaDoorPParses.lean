/- cayleylaw01.PermParses. -/
import Derived.Test.YtpchomhfpfpckaaDoorRefParse
import Derived.Test.YtpchomhfpfpckaaDoorLives
namespace Go.Proofs.YtpchomhfpfpckaaDoor
open Go Go.RowKit

def pE : POut → Int | .bad e _ => e | .ok _ => 0
def pQ : POut → Int | .bad _ q => q | .ok _ => 0
def pL : POut → List Int | .bad _ _ => [] | .ok m => m
theorem ParsePost.out {w w' : World} {o : POut} {r : Ending} (h : ParsePost w o r w') : ∃ v, r = .returned (.tuple #[v, .agg #[.int .i64 (pE o), .int .i64 (pQ o)]]) ∧ Ints w' w'.heap.size v (pL o) ∧ Below w.heap.size w w' := by
  cases o with
  | bad e q => exact ⟨_, h.1, ⟨none, 0, rfl, fun h => by simp [pL] at h⟩, h.2⟩
  | ok m => obtain ⟨v, h1, h2, h3⟩ := h; exact ⟨v, h1, h2, h3⟩
theorem par_len {s : ByteArray} {n p : Nat} {u m : List Int} {o : POut} (h : ParR s n p u m o) : (pL o).length ≤ m.length := by
  induction h with
  | stop _ => exact Nat.le_refl _
  | blank _ _ ih => exact ih
  | bad _ _ => exact Nat.zero_le _
  | good _ _ _ ih => rwa [joinL, joinTo_length] at ih
  | other _ _ _ => exact Nat.zero_le _
theorem parse_len {s : ByteArray} {n : Int} {o : POut} (h : ParseO s n o) : (pL o).length ≤ 64 := by
  unfold ParseO at h
  split at h
  · subst h; exact Nat.zero_le _
  · split at h
    · subst h; exact Nat.zero_le _
    · have := par_len h
      rw [(pone n.toNat).2.1] at this
      omega
theorem sameB_self (l : List Int) : sameB l l = true := by simp [sameB]
theorem Ints.grow2 {w w' : World} {v : Value} {l : List Int} (h : Ints w w.heap.size v l) (hb : Below w.heap.size w w') : Ints w' w'.heap.size v l := (h.below hb).more hb.size

set_option maxRecDepth 100000 in
set_option maxHeartbeats 2000000 in
theorem permParses_any (s : ByteArray) (n : Int) (w : World) (hn0 : -9223372036854775808 ≤ n) (hn1 : n ≤ 9223372036854775807) (hs : s.size ≤ 9223372036854775807) :
    Calls Tryd.prog 6 #[.string s, .int .i64 n] w fun e w' => e = .returned (.bool true) ∧ Below w.heap.size w w' := by
  obtain ⟨o, ho⟩ := parse_total s n
  have HP := Lib.hid (fun W => Parse_any W s n o hn0 hn1 hs ho)
  have HR := Lib.hid (fun W => refParse_any W s n o hn0 hn1 hs ho)
  have HL := Lib.hid (parse_len ho)
  clear ho
  go_enter Tryd.func6, Tryd.ntmps6
  go_wp2_with fail
  refine (lives_any w).mono ?_
  rintro e w0 ⟨rfl, hb⟩
  have HB := Lib.hid hb
  clear hb
  by_cases h20 : 2000 < s.size
  · have h1 : (2000 : Int) < (s.size : Int) := by omega
    go_wp2_with fail
    go_ret
    exact ⟨rfl, HB.out⟩
  have h1 : ¬ (2000 : Int) < (s.size : Int) := by omega
  go_wp2_with fail
  refine (HP.out _).mono ?_
  rintro e w1 hpo
  obtain ⟨v, rfl, hv, hb⟩ := hpo.out
  clear hpo HP
  have HB1 := Lib.hid (HB.out.trans (hb.mono HB.out.size))
  obtain ⟨A, c, rfl⟩ : ∃ A c, v = .slice A (pL o).length c := by obtain ⟨A, c, e, _⟩ := hv; exact ⟨A, c, e⟩
  have hf1 := Row.new w1 45 #[.int .i64 (pE o), .int .i64 (pQ o)]
  have hb2 := HB1.out.alloc HB1.out.size (.cells #[.int .i64 (pE o), .int .i64 (pQ o)] 45)
  have hv2 := hv.grow2 ((Below.refl w1.heap.size w1).alloc (Nat.le_refl _) (.cells #[.int .i64 (pE o), .int .i64 (pQ o)] 45))
  have hF1 : w1.heap.size < (w1.alloc (.cells #[.int .i64 (pE o), .int .i64 (pQ o)] 45)).heap.size := Row.lt hf1
  have HF1 := Lib.hid hf1
  have HB2 := Lib.hid hb2
  have HV2 := Lib.hid hv2
  clear hf1 hb2 hv2 hv hb HB HB1
  go_wp2_with fail
  generalize w1.alloc (.cells #[.int .i64 (pE o), .int .i64 (pQ o)] 45) = W1 at *
  generalize w1.heap.size = F1 at *
  refine (HR.out _).mono ?_
  rintro e w2 hpo
  obtain ⟨v', rfl, hv', hb⟩ := hpo.out
  clear hpo HR
  obtain ⟨A', c', rfl⟩ : ∃ A c, v' = .slice A (pL o).length c := by obtain ⟨A, c, e, _⟩ := hv'; exact ⟨A, c, e⟩
  have hb3 := (HB2.out.trans (hb.mono HB2.out.size)).alloc (by have := hb.size; have := HB2.out.size; omega) (.cells #[.int .i64 (pE o), .int .i64 (pQ o)] 45)
  have hf2 := Row.new w2 45 #[.int .i64 (pE o), .int .i64 (pQ o)]
  have hal := (Below.refl w2.heap.size w2).alloc (Nat.le_refl _) (.cells #[.int .i64 (pE o), .int .i64 (pQ o)] 45)
  have hv3 := hv'.grow2 hal
  have hw3 := (HV2.out.grow2 hb).grow2 hal
  have hf3 := Row.alloc (Row.below HF1.out hb hF1) (.cells #[.int .i64 (pE o), .int .i64 (pQ o)] 45)
  have hSM := fun W h1 h2 => Lib.hid (same_any W.heap.size (.slice A (pL o).length c) (.slice A' (pL o).length c') (pL o) (pL o) W (by have := HL.out; omega) h1 h2)
  rw [sameB_self] at hSM
  have HSM := hSM _ hw3 hv3
  have HB3 := Lib.hid hb3
  have HF2 := Lib.hid hf2
  have HF3 := Lib.hid hf3
  clear hb3 hf2 hal hv3 hw3 hf3 hSM hb hv' HB2 HV2 HF1
  go_wp2_with fail
  refine HSM.out.mono ?_
  rintro e W3 ⟨rfl, k, hk⟩
  have hF2 : Row W3 w2.heap.size 45 #[.int .i64 (pE o), .int .i64 (pQ o)] := by rw [hk]; exact HF2.out
  have hF3 : Row W3 F1 45 #[.int .i64 (pE o), .int .i64 (pQ o)] := by rw [hk]; exact HF3.out
  have HB4 := Lib.hid (show Below w.heap.size w W3 by rw [hk]; exact drawB HB3.out k)
  clear hk HSM HF2 HF3 HB3
  have hc0 := hF2.cell (i := 0) rfl
  have hc1 := hF2.cell (i := 1) rfl
  have hd0 := hF3.cell (i := 0) rfl
  have hd1 := hF3.cell (i := 1) rfl
  clear hF2 hF3
  generalize w2.heap.size = F2 at *
  generalize pE o = e1 at *
  generalize pQ o = q1 at *
  go_wp2_with fail
  go_ret
  exact ⟨rfl, HB4.out⟩
end Go.Proofs.YtpchomhfpfpckaaDoor
