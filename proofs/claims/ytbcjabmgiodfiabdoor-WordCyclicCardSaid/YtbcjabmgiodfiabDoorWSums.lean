/- word.Sums of a valid word for 4 generators; word.Cyclic. -/
import Derived.Test.YtbcjabmgiodfiabDoorWRotMath
import Derived.Test.YtbcjabmgiodfiabDoorWPow
import Derived.Test.YtbcjabmgiodfiabDoorWGroupMath
namespace Go.Proofs.YtbcjabmgiodfiabDoor
open Go Go.RowKit

def cnt (x : Int) (i : Nat) : Int := if x = (i : Int) + 1 then 1 else if x = -((i : Int) + 1) then -1 else 0
def sumAt (zs : List Int) (i : Nat) : Int := (zs.map (cnt · i)).sum
theorem sumAt_append (u v : List Int) (i : Nat) : sumAt (u ++ v) i = sumAt u i + sumAt v i := by simp [sumAt]
theorem sumAt_one (x : Int) (i : Nat) : sumAt [x] i = cnt x i := by simp [sumAt]
theorem cnt_bound (x : Int) (i : Nat) : -1 ≤ cnt x i ∧ cnt x i ≤ 1 := by unfold cnt; split <;> (try split) <;> omega
theorem sumAt_bound (zs : List Int) (i : Nat) : -(zs.length : Int) ≤ sumAt zs i ∧ sumAt zs i ≤ zs.length := by
  induction zs with
  | nil => simp [sumAt]
  | cons x t ih =>
    have := cnt_bound x i
    have e : sumAt (x :: t) i = cnt x i + sumAt t i := by simp [sumAt]
    rw [e]; simp; omega
theorem cnt_neg (x : Int) (i : Nat) : cnt (-x) i = - cnt x i := by
  unfold cnt
  split
  · rw [if_neg (by omega), if_pos (by omega)]; rfl
  · split
    · rw [if_pos (by omega)]
    · rw [if_neg (by omega), if_neg (by omega)]; rfl
theorem sum_push (s : List Int) (x : Int) (i : Nat) : sumAt (push s x) i = sumAt s i + cnt x i := by
  have hc : ∀ (y : Int) t, sumAt (y :: t) i = cnt y i + sumAt t i := fun y t => by simp [sumAt]
  cases s with
  | nil => simp [push, sumAt]
  | cons y t =>
    simp only [push]
    split
    · rename_i h
      have := (canc_iff.1 h).1
      have e : y = -x := by omega
      rw [hc, e, cnt_neg]; omega
    · rw [hc x (y :: t)]; omega
theorem sum_act (w : List Int) (i : Nat) : ∀ s, sumAt (act s w) i = sumAt s i + sumAt w i := by
  induction w with
  | nil => intro s; simp [act, sumAt]
  | cons x w ih =>
    intro s
    have e : act s (x :: w) = act (push s x) w := rfl
    have e2 : sumAt (x :: w) i = cnt x i + sumAt w i := by simp [sumAt]
    rw [e, ih, sum_push, e2]; omega
theorem sum_reverse (w : List Int) (i : Nat) : sumAt w.reverse i = sumAt w i := by simp [sumAt]
theorem sum_red (w : List Int) (i : Nat) : sumAt (red w) i = sumAt w i := by
  unfold red
  rw [sum_reverse, sum_act]
  simp [sumAt]
theorem sum_winv {w : List Int} (h : Lets w) (i : Nat) : sumAt (winv w) i = - sumAt w i := by
  unfold winv
  rw [sum_reverse]
  induction w with
  | nil => simp [sumAt]
  | cons x t ih =>
    have e1 : sumAt ((x :: t).map nlet) i = cnt (nlet x) i + sumAt (t.map nlet) i := by simp [sumAt]
    have e2 : sumAt (x :: t) i = cnt x i + sumAt t i := by simp [sumAt]
    rw [e1, e2, ih (fun y hy => h y (by simp [hy])), nlet_of (h x (by simp)), cnt_neg]
    omega
def sumsL (zs : List Int) : List Int := (List.range 4).map (sumAt zs)
theorem sumsL_at (zs : List Int) {i : Nat} (h : i < 4) : (sumsL zs).getD i 0 = sumAt zs i := by
  simp [sumsL, List.getD_eq_getElem?_getD, h]
/-- The cells behind a word. -/
def sumCells (zs : List Int) : Array Value := Array.ofFn (n := 4) fun i => Value.int .i64 (sumAt zs i.val)
theorem sumCells_get (zs : List Int) {i : Nat} (h : i < 4) : (sumCells zs)[i]? = some (.int .i64 (sumAt zs i)) := by simp [sumCells, h]
theorem sumCells_set (zs : List Int) (x : Int) {d : Nat} (hd : d < 4) (h : x = (d : Int) + 1 ∨ x = -((d : Int) + 1)) :
    (sumCells zs).setIfInBounds d (.int .i64 (sumAt zs d + cnt x d)) = sumCells (zs ++ [x]) := by
  apply Array.ext
  · simp [sumCells]
  · intro j h1 h2
    have hj : j < 4 := by simpa [sumCells] using h2
    rw [Array.getElem_setIfInBounds (by simpa [sumCells] using hj)]
    have e : (sumCells (zs ++ [x]))[j]'h2 = .int .i64 (sumAt zs j + cnt x j) := by
      simp [sumCells, sumAt_append, sumAt_one]
    rw [e]
    split
    · rename_i hdj; subst hdj; rfl
    · rename_i hdj
      have : cnt x j = 0 := by
        unfold cnt
        rw [if_neg (by omega), if_neg (by omega)]
      simp [sumCells, this]

theorem make_sums (W : World) : (Instr.makeSlice 22 (.int .i64 4) (.int .i64 4)).run Tryd.prog W = .ok (.slice (some ⟨W.heap.size, 0, none⟩) 4 4) (W.alloc (.cells (sumCells []) 3)) := by
  obtain ⟨i0, hi, hz0, hz1, hz2⟩ := info_parts info3'
  have h := run_make (P := Tryd.prog) W 22 3 i0 (.int .i64 0) (by kernel_rfl) hi hz0 .i64 .i64 4 4 (by omega) (by omega) (by rw [hz2]; omega) (by omega)
  have e : madeCells (Value.int .i64 0).cells (Int.toNat 4 * 1) = sumCells [] := by kernel_rfl
  rw [h, hz1, e]
  rfl

set_option maxRecDepth 100000 in
set_option maxHeartbeats 1000000 in
theorem Sums_any (v : Value) (zs : List Int) (w : World) (hl : zs.length ≤ 4000) (hz : Valid 4 zs) (hv : Ints w w.heap.size v zs) :
    Calls Tryd.prog 20 #[v, .int .i64 4] w fun e w' => ∃ r, e = .returned (.tuple #[r, .int .i64 0]) ∧ Ints w' w'.heap.size r (sumsL zs) ∧ Below w.heap.size w w' := by
  have HCk := Lib.hid (Check_ok 4 v zs w hl (by omega) hz hv)
  obtain ⟨A, c, rfl, h⟩ := hv
  have hat : ∀ j, j < zs.length → ∃ b o, A = some ⟨b, o, none⟩ ∧ b < w.heap.size ∧ w.cell? ⟨b, o + j, none⟩ = some (.int .i64 (zs.getD j 0)) := fun j hj => by
    obtain ⟨b, o, e, hb, hc⟩ := h (by omega)
    exact ⟨b, o, e, hb, hc j hj⟩
  have HA := Lib.hid hat
  have HZ := Lib.hid hz
  have hmk := make_sums
  have HR0 := Lib.hid (Row.new w 3 (sumCells []))
  have HB0 := Lib.hid ((Below.refl w.heap.size w).alloc (Nat.le_refl _) (.cells (sumCells []) 3))
  clear h hat hz
  go_enter Tryd.func20, Tryd.ntmps20
  go_wp2_with fail
  refine (HCk.out).mono ?_
  rintro e w1 ⟨rfl, rfl⟩
  go_wp2_with fail
  go_loopw [20] (fun i wr => ∃ k : Nat, i = .int .i64 k ∧ k ≤ zs.length ∧ Row wr w.heap.size 3 (sumCells (zs.take k)) ∧ Below w.heap.size w wr) (fun i _ => zs.length - (intOf i).toNat)
  case atStart => exact ⟨0, rfl, Nat.zero_le _, HR0.out, HB0.out⟩
  case round =>
    obtain ⟨k, rfl, hk, hR, hB⟩ := hrel
    by_cases hlt : k < zs.length
    · obtain ⟨b, o, rfl, hb, hc⟩ := HA.out k hlt
      have hcr : wr.cell? ⟨b, o + k, none⟩ = some (.int .i64 (zs.getD k 0)) := (hB.cell hb).trans hc
      obtain ⟨h1, h2⟩ := HZ.out.at_ hlt
      have ET := take_snoc hlt
      have hbd := fun i => sumAt_bound (zs.take k) i
      have hlk : (zs.take k).length ≤ 4000 := by simp; omega
      have hset := fun d hd hx => sumCells_set (zs.take k) (zs.getD k 0) (d := d) hd hx
      rw [← ET] at hset
      clear ET hc
      generalize zs.getD k 0 = x at hcr h1 h2 hset
      generalize hgen : zs.take k = pre at hR hbd hlk hset
      clear hgen
      have HB2 := Lib.hid hB
      have HR2 := Lib.hid hR
      clear hB
      by_cases hp : 0 < x
      · obtain ⟨d, hd⟩ : ∃ d : Nat, x = (d : Int) + 1 := ⟨(x - 1).toNat, by omega⟩
        have hd4 : d < 4 := by omega
        have hs := hset d hd4 (.inl hd)
        rw [show cnt x d = 1 by unfold cnt; rw [if_pos hd]] at hs
        have hcd := hR.cell (sumCells_get pre hd4)
        have hfr := hR.frozen d
        have hbd1 := hbd d
        have hx1 : x - 1 = (d : Int) := by omega
        have hRs := hR.set d (.int .i64 (sumAt pre d + 1))
        rw [hs] at hRs
        have HX := Lib.hid hRs
        clear hset hbd hR hs hRs hd
        generalize sumAt pre d = s at hcd hbd1 HX
        go_wp2_with fail
        go_roundw
        case rel => exact ⟨k + 1, by go_num, by omega, HX.out, HB2.out.setCell (p := ⟨w.heap.size, d, none⟩) (Nat.le_refl _) _⟩
        case measure => simp [intOf]; omega
      · obtain ⟨d, hd⟩ : ∃ d : Nat, x = -((d : Int) + 1) := ⟨(-x - 1).toNat, by omega⟩
        have hd4 : d < 4 := by omega
        have hs := hset d hd4 (.inr hd)
        rw [show cnt x d = -1 by unfold cnt; rw [if_neg (by omega), if_pos hd], show sumAt pre d + -1 = sumAt pre d - 1 by omega] at hs
        have hcd := hR.cell (sumCells_get pre hd4)
        have hfr := hR.frozen d
        have hbd1 := hbd d
        have hx1 : -x - 1 = (d : Int) := by omega
        have hRs := hR.set d (.int .i64 (sumAt pre d - 1))
        rw [hs] at hRs
        have HX := Lib.hid hRs
        clear hset hbd hR hs hRs hd
        generalize sumAt pre d = s at hcd hbd1 HX
        go_wp2_with fail
        go_roundw
        case rel => exact ⟨k + 1, by go_num, by omega, HX.out, HB2.out.setCell (p := ⟨w.heap.size, d, none⟩) (Nat.le_refl _) _⟩
        case measure => simp [intOf]; omega
    · have e : zs.take k = zs := List.take_of_length_le (by omega)
      rw [e] at hR
      have HX : Ints wr wr.heap.size (.slice (some ⟨w.heap.size, 0, none⟩) 4 4) (sumsL zs) := by
        refine ⟨_, 4, by simp [sumsL], fun _ => ⟨w.heap.size, 0, rfl, hR.lt, fun j hj => ?_⟩⟩
        have hj4 : j < 4 := by simpa [sumsL] using hj
        rw [Nat.zero_add, sumsL_at zs hj4]
        exact hR.cell (sumCells_get zs hj4)
      have HXX := Lib.hid HX
      have HB2 := Lib.hid hB
      clear hR hB HX
      go_wp2_with fail
      go_ret2
      exact ⟨_, rfl, HXX.out, HB2.out⟩

/-- 'v[k:len(v)-k]', k the ends. -/
theorem cut_ends {w : World} {B : Nat} {A : Option Addr} {cap : Nat} {l : List Int} (h : OwnsI w B (.slice A l.length cap) l) {k : Nat} (hr : Red l) (hl : Lets l) (hE : EndsAt l k) :
    ∃ A' c, (∀ W, (Instr.slice 24 (.slice A l.length cap) (some (.int .i64 (k : Int))) (some (.int .i64 ((l.length - k : Nat) : Int))) none).run Tryd.prog W = .ok (.slice A' (midW l k).length c) W) ∧ (midW l k).length ≤ c ∧ Ints w w.heap.size (.slice A' (midW l k).length c) (midW l k) := by
  obtain ⟨i0, hi, hz0, hz1, hz2⟩ := info_parts info3'
  have hsz : ∀ W, (sizeOf (Tryd.prog.elem 24)).run Tryd.prog W = .ok 1 W := fun W => by
    have e : Tryd.prog.elem 24 = 3 := by kernel_rfl
    rw [e]; simp [sizeOf, typeInfo, hi, hz1]
  by_cases h0 : l.length = 0
  · have hk : k = 0 := by have := hE.1; omega
    have e : l = [] := List.length_eq_zero_iff.1 h0
    subst e hk
    have hm : midW [] 0 = [] := rfl
    rw [hm]
    refine ⟨if cap = 0 then A else A.map (·.add (0 * 1)), cap, fun W => ?_, Nat.zero_le _, ⟨_, cap, rfl, fun h => absurd h (by simp)⟩⟩
    rw [run_slice_lh W 24 A ([] : List Int).length cap (by kernel_rfl) .i64 .i64 ((0 : Nat) : Int) (((([] : List Int).length - 0 : Nat)) : Int) (by omega) (by simp) (by simp)]
    rw [hsz]
    rfl
  · have hsh := ends_short hr hl (by omega) hE
    have hlen := midW_length l hsh
    obtain ⟨g, cap', e, hb, hg, hcap, hcell⟩ := h.form (by omega)
    injection e with e1 _ e3
    subst e1; subst e3
    refine ⟨some ⟨g, k, none⟩, cap - k, fun W => ?_, by omega, ?_⟩
    · rw [run_slice_lh W 24 (some ⟨g, 0, none⟩) l.length cap (by kernel_rfl) .i64 .i64 k ((l.length - k : Nat) : Int) (by omega) (by omega) (by omega)]
      rw [hsz, Int.toNat_natCast, Int.toNat_natCast]
      show Result.ok (sliced (some ⟨g, 0, none⟩) k (l.length - k) cap 1) W = _
      unfold sliced
      rw [if_neg (by omega), addr_map _ k g 0 rfl, Nat.zero_add, hlen, show l.length - k - k = l.length - 2 * k by omega]
    · refine ⟨_, _, rfl, fun _ => ⟨g, k, rfl, hg, fun j hj => ?_⟩⟩
      rw [hlen] at hj
      rw [hcell (k + j) (by omega), midW_get (by omega)]

set_option maxRecDepth 100000 in
set_option maxHeartbeats 1000000 in
theorem Cyclic_any {N : Nat} (v : Value) (a : List Int) (w : World) (ha : Bnd N a) (hN : N ≤ 100000) (hv : Ints w w.heap.size v a) :
    Calls Tryd.prog 19 #[v] w fun e w' => ∃ A c k, e = .returned (.slice A (midW (red a) k).length c) ∧ EndsAt (red a) k ∧ (midW (red a) k).length ≤ c ∧ Ints w' w'.heap.size (.slice A (midW (red a) k).length c) (midW (red a) k) ∧ Below w.heap.size w w' := by
  have HR := Lib.hid (redB v w ha hN hv)
  have Br := Lib.hid ha.red
  have Hrr := Lib.hid (red_red a)
  obtain ⟨A, c, rfl⟩ := hv.form
  clear hv ha
  generalize red a = l at HR Br Hrr
  go_enter Tryd.func19, Tryd.ntmps19
  go_wp2_with fail
  refine (HR.out).mono ?_
  rintro e w1 ⟨r1, rfl, ho, hb⟩
  obtain ⟨A1, c1, rfl⟩ := ho.len
  have HO := Lib.hid ho
  have HB := Lib.hid hb
  clear ho hb HR
  go_wp2_with fail
  refine (ends_any _ l _ (by have := Br.out.2; omega) Br.out.1.rng HO.out.ints).mono ?_
  rintro e w2 ⟨k, n, rfl, hE, rfl⟩
  have HE := Lib.hid hE
  have hkl := hE.1
  have hin : ((l.length : Int) - (k : Int)) = ((l.length - k : Nat) : Int) := by omega
  obtain ⟨A2, c2, hcut, hcap, hint⟩ := cut_ends HO.out Hrr.out Br.out.1 hE
  have HI := Lib.hid hint
  have HCap := Lib.hid hcap
  have hlen : l.length ≤ 100000 := by have := Br.out.2; omega
  clear hE hint hcap
  obtain ⟨m, hm⟩ : ∃ m, m = midW l k := ⟨_, rfl⟩
  have HM := Lib.hid hm
  rw [← hm] at hcut HI HCap
  clear hm
  go_wp2_with fail
  go_ret
  have e := HM.out
  subst e
  exact ⟨A2, c2, k, rfl, HE.out, HCap.out, HI.out, HB.out.trans (below_drawn _ ⟨n, rfl⟩)⟩
end Go.Proofs.YtbcjabmgiodfiabDoor
