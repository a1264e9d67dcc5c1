/- cayleykit.Fine; the reference's Check and both. -/
import Derived.Test.YtpchomhfpfpckaaDoorChecks
import Derived.Test.YtpchomhfpfpckaaDoorTab
namespace Go.Proofs.YtpchomhfpfpckaaDoor
open Go Go.RowKit

/-- The marks behind k images, one for each point of the degree. -/
def marksN (zs : List Int) (k : Nat) : Array Value := Array.ofFn (n := zs.length) fun i => Value.bool (decide (∃ j, j < k ∧ zs.getD j 0 = (i.val : Int)))
theorem marksN_get (zs : List Int) (k i : Nat) (hi : i < zs.length) : (marksN zs k)[i]? = some (.bool (decide (∃ j, j < k ∧ zs.getD j 0 = (i : Int)))) := by
  simp [marksN, hi]
theorem marksN_zero (zs : List Int) : madeCells (Value.bool false).cells zs.length = marksN zs 0 := by
  apply Array.ext
  · simp [madeCells, marksN]
  · intro i h1 h2
    simp [madeCells, marksN, Value.cells, Nat.mod_one]
theorem marksN_succ (zs : List Int) (k i : Nat) (h : zs.getD k 0 = (i : Int)) : (marksN zs k).setIfInBounds i (.bool true) = marksN zs (k + 1) := by
  apply Array.ext
  · simp [marksN]
  · intro j h1 h2
    have hj : j < zs.length := by simpa [marksN] using h2
    rw [Array.getElem_setIfInBounds (by simpa [marksN] using hj)]
    by_cases e : i = j
    · subst e
      simp only [if_true, marksN, Array.getElem_ofFn]
      congr 1
      exact (decide_eq_true ⟨k, by omega, h⟩).symm
    · simp only [if_neg e, marksN, Array.getElem_ofFn]
      congr 1
      rw [decide_eq_decide]
      constructor
      · rintro ⟨m, hm, he⟩; exact ⟨m, by omega, he⟩
      · rintro ⟨m, hm, he⟩
        refine ⟨m, ?_, he⟩
        by_cases e' : m = k
        · subst e'; rw [h] at he; omega
        · omega
theorem info4 : (Tryd.prog.info? 4).map (fun i => (i.zero, i.size, i.bytes)) = some (some (.bool false), 1, 1) := by kernel_rfl
theorem make_marks (zs : List Int) (hn : zs.length ≤ 17592186044400) (W : World) : (Instr.makeSlice 94 (.int .i64 (zs.length : Int)) (.int .i64 (zs.length : Int))).run Tryd.prog W = .ok (.slice (some ⟨W.heap.size, 0, none⟩) zs.length zs.length) (W.alloc (.cells (marksN zs 0) 4)) := by
  obtain ⟨i0, hi, hz0, hz1, hz2⟩ := info_parts info4
  have h := run_make (P := Tryd.prog) W 94 4 i0 (.bool false) (by kernel_rfl) hi hz0 .i64 .i64 (zs.length : Int) (zs.length : Int) (by omega) (by omega) (by rw [hz2]; omega) (by omega)
  rw [h, hz1, Nat.mul_one, Int.toNat_natCast, marksN_zero]

def FineAt (w : World) (zs : List Int) (k : Nat) (wr : World) : Prop :=
  k ≤ zs.length ∧ FineTo zs k ∧ Row wr w.heap.size 4 (marksN zs k) ∧ Below w.heap.size w wr
theorem FineAt.step {w wr : World} {zs : List Int} {k i : Nat} (h : FineAt w zs k wr) (hk : k < zs.length) (hi : zs.getD k 0 = (i : Int)) (hlt : i < zs.length)
    (hd : ¬ ∃ j, j < k ∧ zs.getD j 0 = (i : Int)) : FineAt w zs (k + 1) (wr.setCell ⟨w.heap.size, i, none⟩ (.bool true)) :=
  ⟨by omega, h.2.1.succ (by omega) (by omega) (fun j hj e => hd ⟨j, hj, by omega⟩), by rw [← marksN_succ zs k i hi]; exact h.2.2.1.set i _, h.2.2.2.setCell (p := ⟨w.heap.size, i, none⟩) (Nat.le_refl _) _⟩
def fineB (zs : List Int) : Bool := decide (Fine zs)
theorem rb {a b : Bool} (h : a = b) : Ending.returned (.bool a) = .returned (.bool b) := by rw [h]

set_option maxRecDepth 100000 in
set_option maxHeartbeats 400000 in
theorem kitFine_walk (b o c : Nat) (zs : List Int) (w : World) (h1 : 1 ≤ zs.length) (h64 : zs.length ≤ 64) (hb : b < w.heap.size)
    (hc : ∀ j, j < zs.length → w.cell? ⟨b, o + j, none⟩ = some (.int .i64 (zs.getD j 0))) :
    Calls Tryd.prog 58 #[.slice (some ⟨b, o, none⟩) zs.length c, .int .i64 zs.length] w fun e w' => e = .returned (.bool (fineB zs)) ∧ Below w.heap.size w w' := by
  have h00 : FineAt w zs 0 (w.alloc (.cells (marksN zs 0) 4)) := ⟨by omega, FineTo.zero zs, Row.new _ _ _, (Below.refl _ _).alloc (Nat.le_refl _) _⟩
  have H0 := Lib.hid h00
  clear h00
  have HN := Lib.hid (fun h : ¬ Fine zs => (show fineB zs = false from decide_eq_false h))
  have HY := Lib.hid (fun h : Fine zs => (show fineB zs = true from decide_eq_true h))
  generalize fineB zs = r at HN HY
  have hmk := make_marks zs (by omega)
  go_enter Tryd.func58, Tryd.ntmps58
  go_wp2
  go_loopw [6] (fun i wr => ∃ k : Nat, i = .int .i64 k ∧ FineAt w zs k wr) (fun i _ => zs.length - (intOf i).toNat)
  case atStart => exact ⟨0, rfl, H0.out⟩
  case round =>
    obtain ⟨k, rfl, hA⟩ := hrel
    have hk := hA.1
    clear hmk
    by_cases hlt : k < zs.length
    · have hcell : wr.cell? ⟨b, o + k, none⟩ = some (.int .i64 (zs.getD k 0)) := (hA.2.2.2.cell (p := ⟨b, o + k, none⟩) hb).trans (hc k hlt)
      have hN := Lib.hid (fine_not hlt)
      have hS := fun i => Lib.hid (@FineAt.step w wr zs k i hA hlt)
      have HR := Lib.hid hA.2.2.1
      have HB := Lib.hid hA.2.2.2
      clear hA hc
      generalize hx : zs.getD k 0 = x at hcell hN hS
      by_cases hx0 : x < 0
      · go_wp2
        go_ret
        refine ⟨?_, HB.out⟩
        exact rb (HN.out (hN.out (by omega))).symm
      · by_cases hx1 : (zs.length : Int) ≤ x
        · go_wp2
          go_ret
          refine ⟨?_, HB.out⟩
          exact rb (HN.out (hN.out (by omega))).symm
        · obtain ⟨i, rfl⟩ : ∃ i : Nat, x = (i : Int) := ⟨x.toNat, by omega⟩
          have hi : i < zs.length := by omega
          have hcm := HR.out.cell (marksN_get zs k i hi)
          have hfm := HR.out.frozen i
          by_cases hd : ∃ j, j < k ∧ zs.getD j 0 = (i : Int)
          · rw [decide_eq_true hd] at hcm
            have HD := Lib.hid hd
            clear hd hx
            go_wp2
            go_ret
            refine ⟨?_, HB.out⟩
            exact rb (HN.out (hN.out (fun h => by obtain ⟨j, hj, e⟩ := HD.out; exact h.2.2 j hj e))).symm
          · rw [decide_eq_false hd] at hcm
            have HD := Lib.hid hd
            have HX := Lib.hid hx
            clear hd hx
            go_wp2
            go_roundw
            case rel => exact ⟨k + 1, by go_num, (hS i).out rfl (by omega) HD.out⟩
            case measure => simp [intOf]; omega
    · have hf : Fine zs := by
        have := hA.2.1
        rw [show k = zs.length by omega] at this
        exact this
      have HF := Lib.hid hf
      have HB := Lib.hid hA.2.2.2
      clear hf hA hc
      go_wp2
      go_ret
      exact ⟨rb (HY.out HF.out).symm, HB.out⟩

set_option maxRecDepth 100000 in
set_option maxHeartbeats 400000 in
/-- The reference's Check. -/
theorem refCheck_any (v : Value) (zs : List Int) (w : World) (hl : zs.length ≤ 17592186044400) (hv : Ints w w.heap.size v zs) :
    Calls Tryd.prog 42 #[v] w fun e w' => e = .returned (.int .i64 (chk zs)) ∧ Below w.heap.size w w' := by
  obtain ⟨A, c, rfl, h⟩ := hv
  by_cases h1 : zs.length < 1
  · have HC := Lib.hid (chk_range (.inl h1))
    have hz : ((zs.length : Int) < 1) := by omega
    go_enter Tryd.func42, Tryd.ntmps42
    go_wp2_with fail
    go_ret
    exact ⟨ret_int HC.out.symm, Below.refl _ _⟩
  · by_cases h2 : 64 < zs.length
    · have HC := Lib.hid (chk_range (.inr h2))
      clear h
      go_enter Tryd.func42, Tryd.ntmps42
      go_wp2_with fail
      go_ret
      exact ⟨ret_int HC.out.symm, Below.refl _ _⟩
    · obtain ⟨b, o, rfl, hb, hc⟩ := h (by omega)
      have HW := fun W h3 h4 => Lib.hid (kitFine_walk b o c zs W (by omega) (by omega) h3 h4)
      by_cases hf : Fine zs
      · rw [show fineB zs = true from decide_eq_true hf] at HW
        have HC := Lib.hid (chk_ok (by omega) (by omega) hf)
        have HH := Lib.hid hc
        clear hf h hc
        go_enter Tryd.func42, Tryd.ntmps42
        go_wp2_with fail
        refine ((HW _ hb HH.out).out).mono ?_
        rintro e w1 ⟨rfl, hb1⟩
        have HB := Lib.hid hb1
        clear hb1
        go_wp2_with fail
        go_ret
        exact ⟨ret_int HC.out.symm, HB.out⟩
      · rw [show fineB zs = false from decide_eq_false hf] at HW
        have HC := Lib.hid (chk_form (by omega) (by omega) hf)
        have HH := Lib.hid hc
        clear hf h hc
        go_enter Tryd.func42, Tryd.ntmps42
        go_wp2_with fail
        refine ((HW _ hb HH.out).out).mono ?_
        rintro e w1 ⟨rfl, hb1⟩
        have HB := Lib.hid hb1
        clear hb1
        go_wp2_with fail
        go_ret
        exact ⟨ret_int HC.out.symm, HB.out⟩

set_option maxRecDepth 100000 in
set_option maxHeartbeats 400000 in
/-- The reference's both. -/
theorem both_any (v u : Value) (zs ys : List Int) (w : World) (hl : zs.length ≤ 17592186044400) (hl' : ys.length ≤ 17592186044400) (hv : Ints w w.heap.size v zs) (hu : Ints w w.heap.size u ys) :
    Calls Tryd.prog 72 #[v, u] w fun e w' => e = .returned (.int .i64 (chk2 zs ys)) ∧ Below w.heap.size w w' := by
  have HC := fun W => Lib.hid (refCheck_any v zs W hl)
  have HD := fun W => Lib.hid (refCheck_any u ys W hl')
  have HV := Lib.hid hv
  have HU := Lib.hid hu
  obtain ⟨A, c, rfl, h⟩ := hv
  clear h
  obtain ⟨A', c', rfl, h⟩ := hu
  clear h
  have HA := Lib.hid (@chk2_a zs ys)
  have HE := Lib.hid (@chk2_b zs ys)
  have HF := Lib.hid (@chk2_c zs ys)
  have HG := Lib.hid (@chk2_d zs ys)
  generalize chk2 zs ys = r at HA HE HF HG
  generalize chk zs = x at HC HA HE HF HG
  generalize chk ys = y at HD HA HE HF HG
  by_cases hx : x = 0
  · subst hx
    by_cases hy : y = 0
    · subst hy
      by_cases hn : zs.length = ys.length
      · have HN := Lib.hid (HG.out rfl rfl hn)
        have hn' : ((zs.length : Int) != (ys.length : Int)) = false := by simp [hn]
        clear hn
        go_enter Tryd.func72, Tryd.ntmps72
        go_wp2_with fail
        refine ((HC _).out HV.out).mono ?_
        rintro e w1 ⟨rfl, hb1⟩
        have HB := Lib.hid hb1
        clear hb1
        go_wp2_with fail
        refine ((HD _).out ((HU.out.below HB.out).more HB.out.size)).mono ?_
        rintro e w2 ⟨rfl, hb2⟩
        have HB2 := Lib.hid (HB.out.trans (hb2.mono HB.out.size))
        clear hb2
        go_wp2_with fail
        go_ret
        exact ⟨ret_int HN.out.symm, HB2.out⟩
      · have HN := Lib.hid (HF.out rfl rfl hn)
        have hn' : ((zs.length : Int) != (ys.length : Int)) = true := by simp; omega
        clear hn
        go_enter Tryd.func72, Tryd.ntmps72
        go_wp2_with fail
        refine ((HC _).out HV.out).mono ?_
        rintro e w1 ⟨rfl, hb1⟩
        have HB := Lib.hid hb1
        clear hb1
        go_wp2_with fail
        refine ((HD _).out ((HU.out.below HB.out).more HB.out.size)).mono ?_
        rintro e w2 ⟨rfl, hb2⟩
        have HB2 := Lib.hid (HB.out.trans (hb2.mono HB.out.size))
        clear hb2
        go_wp2_with fail
        go_ret
        exact ⟨ret_int HN.out.symm, HB2.out⟩
    · have HN := Lib.hid (HE.out rfl hy)
      have hy' : (y != 0) = true := by simpa using hy
      clear hy
      go_enter Tryd.func72, Tryd.ntmps72
      go_wp2_with fail
      refine ((HC _).out HV.out).mono ?_
      rintro e w1 ⟨rfl, hb1⟩
      have HB := Lib.hid hb1
      clear hb1
      go_wp2_with fail
      refine ((HD _).out ((HU.out.below HB.out).more HB.out.size)).mono ?_
      rintro e w2 ⟨rfl, hb2⟩
      have HB2 := Lib.hid (HB.out.trans (hb2.mono HB.out.size))
      clear hb2
      go_wp2_with fail
      go_ret
      exact ⟨ret_int HN.out.symm, HB2.out⟩
  · have HN := Lib.hid (HA.out hx)
    have hx' : (x != 0) = true := by simpa using hx
    clear hx
    go_enter Tryd.func72, Tryd.ntmps72
    go_wp2_with fail
    refine ((HC _).out HV.out).mono ?_
    rintro e w1 ⟨rfl, hb1⟩
    have HB := Lib.hid hb1
    clear hb1
    go_wp2_with fail
    refine ((HD _).out ((HU.out.below HB.out).more HB.out.size)).mono ?_
    rintro e w2 ⟨rfl, hb2⟩
    have HB2 := Lib.hid (HB.out.trans (hb2.mono HB.out.size))
    clear hb2
    go_wp2_with fail
    go_ret
    exact ⟨ret_int HN.out.symm, HB2.out⟩
end Go.Proofs.YtpchomhfpfpckaaDoor
