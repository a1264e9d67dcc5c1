/- perm.Check, for every list. -/
import Derived.Test.YtpchomhfpfpckaaDoorBase
namespace Go.Proofs.YtpchomhfpfpckaaDoor
open Go Go.RowKit

theorem fine_not {zs : List Int} {k : Nat} (hk : k < zs.length) (h : ¬ (0 ≤ zs.getD k 0 ∧ zs.getD k 0 < zs.length ∧ ∀ j, j < k → zs.getD j 0 ≠ zs.getD k 0)) : ¬ Fine zs := fun hf => h (hf k hk)

theorem chk_ok {zs : List Int} (h1 : 1 ≤ zs.length) (h64 : zs.length ≤ 64) (h : Fine zs) : chk zs = 0 := by unfold chk; rw [if_neg (by omega), if_pos h]
theorem chk_form {zs : List Int} (h1 : 1 ≤ zs.length) (h64 : zs.length ≤ 64) (h : ¬ Fine zs) : chk zs = 3 := by unfold chk; rw [if_neg (by omega), if_neg h]
theorem chk_range {zs : List Int} (h : zs.length < 1 ∨ 64 < zs.length) : chk zs = 2 := by unfold chk; rw [if_pos h]

/-- What the loop keeps: k images are in range and differ, and the block at T marks them. -/
def CheckAt (w : World) (zs : List Int) (k : Nat) (wr : World) : Prop :=
  k ≤ zs.length ∧ FineTo zs k ∧ Row wr w.heap.size 84 (marks zs k) ∧ Below w.heap.size w wr

theorem CheckAt.step {w wr : World} {zs : List Int} {k i : Nat} (h : CheckAt w zs k wr) (hk : k < zs.length) (hi : zs.getD k 0 = (i : Int)) (hlt : i < zs.length)
    (hd : ¬ ∃ j, j < k ∧ zs.getD j 0 = (i : Int)) : CheckAt w zs (k + 1) (wr.setCell ⟨w.heap.size, i, none⟩ (.bool true)) :=
  ⟨by omega, h.2.1.succ (by omega) (by omega) (fun j hj e => hd ⟨j, hj, by omega⟩), by rw [← marks_succ zs k i hi]; exact h.2.2.1.set i _, h.2.2.2.setCell (p := ⟨w.heap.size, i, none⟩) (Nat.le_refl _) _⟩

set_option maxRecDepth 100000 in
set_option maxHeartbeats 400000 in
theorem check1_walk (b o c : Nat) (zs : List Int) (w : World) (h1 : 1 ≤ zs.length) (h64 : zs.length ≤ 64) (hb : b < w.heap.size)
    (hc : ∀ j, j < zs.length → w.cell? ⟨b, o + j, none⟩ = some (.int .i64 (zs.getD j 0))) :
    Calls Tryd.prog 31 #[.slice (some ⟨b, o, none⟩) zs.length c] w fun e w' => e = .returned (.int .i64 (chk zs)) ∧ Below w.heap.size w w' := by
  have h00 : CheckAt w zs 0 (w.alloc (.cells (marks zs 0) 84)) := ⟨by omega, FineTo.zero zs, Row.new _ _ _, (Below.refl _ _).alloc (Nat.le_refl _) _⟩
  rw [marks_zero] at h00
  have H0 := Lib.hid h00
  clear h00
  go_enter Tryd.func31, Tryd.ntmps31
  go_wp2
  go_loopw [16] (fun i wr => ∃ k : Nat, i = .int .i64 k ∧ CheckAt w zs k wr) (fun i _ => zs.length - (intOf i).toNat)
  case atStart => exact ⟨0, rfl, H0.out⟩
  case round =>
    obtain ⟨k, rfl, hA⟩ := hrel
    have hk := hA.1
    by_cases hlt : k < zs.length
    · have hcell : wr.cell? ⟨b, o + k, none⟩ = some (.int .i64 (zs.getD k 0)) := (hA.2.2.2.cell (p := ⟨b, o + k, none⟩) hb).trans (hc k hlt)
      have hN := Lib.hid (fine_not hlt)
      have hS := fun i => Lib.hid (@CheckAt.step w wr zs k i hA hlt)
      have HR := Lib.hid hA.2.2.1
      have HB := Lib.hid hA.2.2.2
      clear hA hc
      generalize hx : zs.getD k 0 = x at hcell hN hS
      by_cases hx0 : x < 0
      · go_wp2
        go_ret
        refine ⟨?_, HB.out⟩
        exact ret_int (chk_form h1 h64 (hN.out (by omega))).symm
      · by_cases hx1 : (zs.length : Int) ≤ x
        · go_wp2
          go_ret
          refine ⟨?_, HB.out⟩
          exact ret_int (chk_form h1 h64 (hN.out (by omega))).symm
        · obtain ⟨i, rfl⟩ : ∃ i : Nat, x = (i : Int) := ⟨x.toNat, by omega⟩
          have hi : i < 64 := by omega
          have hcm := HR.out.cell (marks_get zs k i hi)
          have hfm := HR.out.frozen i
          by_cases hd : ∃ j, j < k ∧ zs.getD j 0 = (i : Int)
          · rw [decide_eq_true hd] at hcm
            have HD := Lib.hid hd
            clear hd hx
            go_wp2
            go_ret
            refine ⟨?_, HB.out⟩
            exact ret_int (chk_form h1 h64 (hN.out (fun h => by obtain ⟨j, hj, e⟩ := HD.out; exact h.2.2 j hj e))).symm
          · rw [decide_eq_false hd] at hcm
            have HD := Lib.hid hd
            have HX := Lib.hid hx
            clear hd hx
            go_wp2
            go_roundw
            case rel => exact ⟨k + 1, by go_num, (hS i).out rfl (by omega) HD.out⟩
            case measure => simp [intOf]; omega
    · have hf : Fine zs := by
        have := hA.2.1
        rw [show k = zs.length by omega] at this
        exact this
      have HF := Lib.hid hf
      have HB := Lib.hid hA.2.2.2
      clear hf hA hc
      go_wp2
      go_ret
      exact ⟨ret_int (chk_ok h1 h64 HF.out).symm, HB.out⟩

set_option maxRecDepth 100000 in
/-- perm.Check returns the error of the list, and turns nothing that lay. -/
theorem check1_any (v : Value) (zs : List Int) (w : World) (hl : zs.length ≤ 17592186044400) (hv : Ints w w.heap.size v zs) :
    Calls Tryd.prog 31 #[v] w fun e w' => e = .returned (.int .i64 (chk zs)) ∧ Below w.heap.size w w' := by
  obtain ⟨A, c, rfl, h⟩ := hv
  by_cases h1 : zs.length < 1
  · have HC := Lib.hid (chk_range (.inl h1))
    have hz : ((zs.length : Int) < 1) := by omega
    go_enter Tryd.func31, Tryd.ntmps31
    go_wp2
    go_ret
    exact ⟨ret_int HC.out.symm, Below.refl _ _⟩
  · by_cases h2 : 64 < zs.length
    · have HC := Lib.hid (chk_range (.inr h2))
      clear h
      go_enter Tryd.func31, Tryd.ntmps31
      go_wp2
      go_ret
      exact ⟨ret_int HC.out.symm, Below.refl _ _⟩
    · obtain ⟨b, o, rfl, hb, hc⟩ := h (by omega)
      exact check1_walk b o c zs w (by omega) (by omega) hb hc
end Go.Proofs.YtpchomhfpfpckaaDoor
