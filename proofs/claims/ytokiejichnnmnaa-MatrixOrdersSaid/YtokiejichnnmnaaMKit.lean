/- The kit's functions of permutations, as they go at the permutations of vectors. -/
import Derived.Test.YtokiejichnnmnaaMDraw
namespace Go.Proofs.Ytokiejichnnmnaa
open Go Go.RowKit Num

def mapL (n : Nat) (P : Nat → Nat) : List Int := (List.range n).map fun j => (P j : Int)
theorem mapL_len (n : Nat) (P : Nat → Nat) : (mapL n P).length = n := by simp [mapL]
theorem mapL_succ (n : Nat) (P : Nat → Nat) : mapL (n + 1) P = mapL n P ++ [(P n : Int)] := by simp [mapL, List.range_succ]
theorem mapL_get {n : Nat} {P : Nat → Nat} {j : Nat} (hj : j < n) : (mapL n P).getD j 0 = (P j : Int) := by
  simp [mapL, List.getD_eq_getElem?_getD, hj]
def natF (P : Nat → Nat) (j : Nat) : Int := (P j : Nat)
theorem mapL_vec {w w' : World} {v : Value} {n : Nat} {P : Nat → Nat} (h : OwnsI w' w.heap.size v (mapL n P)) : Vec w' (New w w') v n (natF P) := by
  have := OwnsI.vec (S := New w w') h (fun g hg => World.ownsRow.lt h g hg)
  rw [mapL_len] at this
  exact this.congr fun j hj => mapL_get hj
/-- A call has given a permutation: new memory. -/
def GivesP (w : World) (n : Nat) (P : Nat → Nat) (e : Ending) (w' : World) : Prop := ∃ v, e = .returned v ∧ Vec w' (New w w') v n (natF P) ∧ Below w.heap.size w w'

set_option maxRecDepth 100000 in
set_option maxHeartbeats 1000000 in
theorem kitOne_any (n : Nat) (w : World) (hn : n ≤ 1000) : Calls Try.prog 75 #[.int .i64 n] w (GivesP w n fun j => j) := by
  obtain ⟨i0, hi, hz0, hz1, hz2⟩ := info_parts info3m
  have h00 : OwnsI w w.heap.size (.slice none 0 0) (mapL 0 fun j => j) := World.ownsRow_nil _ _ _ _
  have H0 := Lib.hid h00
  clear h00
  go_enter Try.func75, Try.ntmps75
  go_wp2
  go_loopw [3, 4] (fun v i wr => ∃ k : Nat, i = .int .i64 k ∧ k ≤ n ∧ OwnsI wr w.heap.size v (mapL k fun j => j) ∧ Below w.heap.size w wr) (fun _ i _ => n - (intOf i).toNat)
  case atStart => exact ⟨0, rfl, Nat.zero_le _, H0.out, Below.refl _ _⟩
  case round =>
    obtain ⟨k, rfl, hk, hO, hB⟩ := hrel
    have hBs := hB.size
    by_cases hlt : k < n
    · have hL : (mapL k fun j => j).length = k := mapL_len _ _
      have HB := Lib.hid hB
      clear hB
      go_wp2_with (at_builtin; refine wpList_append_own _ rfl (.tmp 10) (.tmp 12) 53 rfl w.heap.size 3 i0 (.int .i64 0) 1 8 Try.underlying53 hi hz0 hz1 hz2 rfl (by decide) _ _ _ rfl (World.ownsRow.alloc hO _) ⟨wr.heap.size, 0, none⟩ 1 1 [.int .i64 (k : Int)] rfl rfl (cell_one_new _ _ _) (by simp [Value.oneCell']) (by unfold maxLen; omega) (by omega) (by simp; omega) ?_; intro v1 w1 hown' hgrow _)
      have HB1 := Lib.hid ((HB.out.alloc hBs _).grown hgrow (by simp; omega) (fun q hq => (hO.lt q hq).1))
      have hx : w1.ownsRow w.heap.size 3 1 v1 (mapL (k + 1) fun j => j).length (icells (mapL (k + 1) fun j => j)) := by
        rw [mapL_succ, icells_append, List.length_append]; exact hown'
      have HX := Lib.hid hx
      clear hx hown' hgrow hO hL
      go_wp2
      go_roundw
      case rel => exact ⟨k + 1, by go_num, by omega, HX.out, HB1.out⟩
      case measure => simp [intOf]; omega
    · have hkn : k = n := by omega
      subst hkn
      have HO := Lib.hid hO
      have HB := Lib.hid hB
      clear hO hB
      go_wp2
      go_ret
      exact ⟨_, rfl, mapL_vec HO.out, HB.out⟩

set_option maxRecDepth 100000 in
set_option maxHeartbeats 1000000 in
theorem kitMul_any (v u : Value) (n : Nat) (P Q : Nat → Nat) (w : World) (h1 : 1 ≤ n) (hn : n ≤ 1000) (hP : ∀ j, j < n → P j < n) (hv : Vec w (· < w.heap.size) v n (natF P)) (hu : Vec w (· < w.heap.size) u n (natF Q)) :
    Calls Try.prog 74 #[v, u] w (GivesP w n fun j => Q (P j)) := by
  obtain ⟨i0, hi, hz0, hz1, hz2⟩ := info_parts info3m
  obtain ⟨A, c, rfl, -, h⟩ := hv
  obtain ⟨b, o, rfl, hb, hc⟩ := h (by omega)
  obtain ⟨A', c', rfl, -, h'⟩ := hu
  obtain ⟨b', o', rfl, hb', hc'⟩ := h' (by omega)
  clear h h'
  have h00 : OwnsI w w.heap.size (.slice none 0 0) (mapL 0 fun j => Q (P j)) := World.ownsRow_nil _ _ _ _
  have H0 := Lib.hid h00
  clear h00
  go_enter Try.func74, Try.ntmps74
  go_wp2
  go_loopw [5, 6] (fun v i wr => ∃ k : Nat, i = .int .i64 k ∧ k ≤ n ∧ OwnsI wr w.heap.size v (mapL k fun j => Q (P j)) ∧ Below w.heap.size w wr) (fun _ i _ => n - (intOf i).toNat)
  case atStart => exact ⟨0, rfl, Nat.zero_le _, H0.out, Below.refl _ _⟩
  case round =>
    obtain ⟨k, rfl, hk, hO, hB⟩ := hrel
    have hBs := hB.size
    by_cases hlt : k < n
    · have hcell : wr.cell? ⟨b, o + k, none⟩ = some (.int .i64 (P k : Nat)) := (hB.cell (p := ⟨b, o + k, none⟩) hb).trans (hc k hlt)
      have hxx := hP k hlt
      have hcell' : wr.cell? ⟨b', o' + P k, none⟩ = some (.int .i64 (Q (P k) : Nat)) := (hB.cell (p := ⟨b', o' + P k, none⟩) hb').trans (hc' (P k) hxx)
      have hL : (mapL k fun j => Q (P j)).length = k := mapL_len _ _
      have HT := Lib.hid (mapL_succ k fun j => Q (P j))
      have HB := Lib.hid hB
      generalize Q (P k) = y at hcell' HT
      generalize P k = i at hcell hcell' hxx
      clear hB hc hc'
      go_wp2_with (at_builtin; refine wpList_append_own _ rfl (.tmp 13) (.tmp 21) 53 rfl w.heap.size 3 i0 (.int .i64 0) 1 8 Try.underlying53 hi hz0 hz1 hz2 rfl (by decide) _ _ _ rfl (World.ownsRow.alloc hO _) ⟨wr.heap.size, 0, none⟩ 1 1 [.int .i64 (y : Int)] rfl rfl (cell_one_new _ _ _) (by simp [Value.oneCell']) (by unfold maxLen; omega) (by omega) (by simp; omega) ?_; intro v1 w1 hown' hgrow _)
      have HB1 := Lib.hid ((HB.out.alloc hBs _).grown hgrow (by simp; omega) (fun q hq => (hO.lt q hq).1))
      have hx : w1.ownsRow w.heap.size 3 1 v1 (mapL (k + 1) fun j => Q (P j)).length (icells (mapL (k + 1) fun j => Q (P j))) := by
        rw [HT.out, icells_append, List.length_append]; exact hown'
      have HX := Lib.hid hx
      clear hx hown' hgrow hO hL
      go_wp2
      go_roundw
      case rel => exact ⟨k + 1, by go_num, by omega, HX.out, HB1.out⟩
      case measure => simp [intOf]; omega
    · have hkn : k = n := by omega
      subst hkn
      have HO := Lib.hid hO
      have HB := Lib.hid hB
      clear hO hB hc hc'
      go_wp2
      go_ret
      exact ⟨_, rfl, mapL_vec HO.out, HB.out⟩

/-- The marks behind k images. -/
def marksP (n : Nat) (P : Nat → Nat) (k : Nat) : Array Value := Array.ofFn (n := n) fun i => Value.bool (decide (∃ j, j < k ∧ P j = i.val))
theorem marksP_get (n : Nat) (P : Nat → Nat) (k i : Nat) (hi : i < n) : (marksP n P k)[i]? = some (.bool (decide (∃ j, j < k ∧ P j = i))) := by
  simp [marksP, hi]
theorem marksP_zero (n : Nat) (P : Nat → Nat) : madeCells (Value.bool false).cells n = marksP n P 0 := by
  apply Array.ext
  · simp [madeCells, marksP]
  · intro i h1 h2
    simp [madeCells, marksP, Value.cells, Nat.mod_one]
theorem marksP_succ (n : Nat) (P : Nat → Nat) (k : Nat) : (marksP n P k).setIfInBounds (P k) (.bool true) = marksP n P (k + 1) := by
  apply Array.ext
  · simp [marksP]
  · intro j h1 h2
    have hj : j < n := by simpa [marksP] using h2
    rw [Array.getElem_setIfInBounds (by simpa [marksP] using hj)]
    by_cases e : P k = j
    · subst e
      simp only [if_true, marksP, Array.getElem_ofFn]
      congr 1
      exact (decide_eq_true ⟨k, by omega, rfl⟩).symm
    · simp only [if_neg e, marksP, Array.getElem_ofFn]
      congr 1
      rw [decide_eq_decide]
      constructor
      · rintro ⟨m, hm, he⟩; exact ⟨m, by omega, he⟩
      · rintro ⟨m, hm, he⟩
        refine ⟨m, ?_, he⟩
        by_cases e' : m = k
        · subst e'; exact absurd he e
        · omega
theorem info4m : (Try.prog.info? 4).map (fun i => (i.zero, i.size, i.bytes)) = some (some (.bool false), 1, 1) := by kernel_rfl
theorem make_marks (n : Nat) (P : Nat → Nat) (hn : n ≤ 17592186044400) (W : World) : (Instr.makeSlice 103 (.int .i64 (n : Int)) (.int .i64 (n : Int))).run Try.prog W = .ok (.slice (some ⟨W.heap.size, 0, none⟩) n n) (W.alloc (.cells (marksP n P 0) 4)) := by
  obtain ⟨i0, hi, hz0, hz1, hz2⟩ := info_parts info4m
  have h := run_make (P := Try.prog) W 103 4 i0 (.bool false) (by kernel_rfl) hi hz0 .i64 .i64 (n : Int) (n : Int) (by omega) (by omega) (by rw [hz2]; omega) (by omega)
  rw [h, hz1, Nat.mul_one, Int.toNat_natCast, marksP_zero]

set_option maxRecDepth 100000 in
set_option maxHeartbeats 1000000 in
theorem kitFine_any (v : Value) (n : Nat) (P : Nat → Nat) (w : World) (h1 : 1 ≤ n) (hn : n ≤ 1000) (hP : ∀ j, j < n → P j < n) (hi : ∀ i j, i < n → j < n → P i = P j → i = j) (hv : Vec w (· < w.heap.size) v n (natF P)) :
    Calls Try.prog 73 #[v, .int .i64 n] w fun e w' => e = .returned (.bool true) ∧ Below w.heap.size w w' := by
  obtain ⟨A, c, rfl, -, h⟩ := hv
  obtain ⟨b, o, rfl, hb, hc⟩ := h (by omega)
  clear h
  have H0 := Lib.hid (show Row (w.alloc (.cells (marksP n P 0) 4)) w.heap.size 4 (marksP n P 0) ∧ Below w.heap.size w (w.alloc (.cells (marksP n P 0) 4)) from ⟨Row.new _ _ _, (Below.refl _ _).alloc (Nat.le_refl _) _⟩)
  have hmk := make_marks n P (by omega)
  go_enter Try.func73, Try.ntmps73
  go_wp2
  go_loopw [6] (fun i wr => ∃ k : Nat, i = .int .i64 k ∧ k ≤ n ∧ Row wr w.heap.size 4 (marksP n P k) ∧ Below w.heap.size w wr) (fun i _ => n - (intOf i).toNat)
  case atStart => exact ⟨0, rfl, Nat.zero_le _, H0.out.1, H0.out.2⟩
  case round =>
    obtain ⟨k, rfl, hk, hR, hB⟩ := hrel
    clear hmk
    by_cases hlt : k < n
    · have hcell : wr.cell? ⟨b, o + k, none⟩ = some (.int .i64 (P k : Nat)) := (hB.cell (p := ⟨b, o + k, none⟩) hb).trans (hc k hlt)
      have hx := hP k hlt
      have hcm := hR.cell (marksP_get n P k (P k) hx)
      rw [decide_eq_false (by rintro ⟨j, hj, e⟩; have := hi j k (by omega) hlt e; omega)] at hcm
      have hfm := hR.frozen (P k)
      have hn1 : Row (wr.setCell ⟨w.heap.size, P k, none⟩ (.bool true)) w.heap.size 4 (marksP n P (k + 1)) := by rw [← marksP_succ n P k]; exact hR.set (P k) _
      have HN := Lib.hid hn1
      have HB := Lib.hid (hB.setCell (p := ⟨w.heap.size, P k, none⟩) (Nat.le_refl _) (.bool true))
      clear hn1 hB hR hc hi hP
      generalize P k = i at hcell hx hcm hfm HN HB
      go_wp2
      go_roundw
      case rel => exact ⟨k + 1, by go_num, by omega, HN.out, HB.out⟩
      case measure => simp [intOf]; omega
    · have HB := Lib.hid hB
      clear hB hR hc
      go_wp2
      go_ret
      exact ⟨rfl, HB.out⟩
end Go.Proofs.Ytokiejichnnmnaa
