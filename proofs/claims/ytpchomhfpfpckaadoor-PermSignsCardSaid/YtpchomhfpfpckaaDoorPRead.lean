/- The reader of package perm: its memory, fault, isDigit. -/
import Derived.Test.YtpchomhfpfpckaaDoorPSpec
import Derived.Test.YtpchomhfpfpckaaDoorSome
import Derived.Test.YtpchomhfpfpckaaDoorPow2
import Derived.Deep.LoopGhost
import Derived.Deep.QuietTactic
import Derived.BigQuiet
import Derived.WalkSpells
import Derived.Lib.Hide
namespace Go.Proofs.YtpchomhfpfpckaaDoor
open Go Go.RowKit

def rdF (s : ByteArray) (p : Nat) (u : List Int) (v : Value) (j : Nat) : Value :=
  if j = 0 then .string s else if j = 1 then .int .i64 (p : Int) else if j = 66 then v else .bool (decide (((j - 2 : Nat) : Int) ∈ u))
def rdCells (s : ByteArray) (p : Nat) (u : List Int) (v : Value) : Array Value := Array.ofFn (n := 67) fun j => rdF s p u v j.val
theorem rd_get (s : ByteArray) (p : Nat) (u : List Int) (v : Value) {j : Nat} (h : j < 67) : (rdCells s p u v)[j]? = some (rdF s p u v j) := by simp [rdCells, h]
theorem rd_0 (s : ByteArray) (p : Nat) (u : List Int) (v : Value) : (rdCells s p u v)[0]? = some (.string s) := rd_get s p u v (by omega)
theorem rd_1 (s : ByteArray) (p : Nat) (u : List Int) (v : Value) : (rdCells s p u v)[1]? = some (.int .i64 (p : Int)) := rd_get s p u v (by omega)
theorem rd_66 (s : ByteArray) (p : Nat) (u : List Int) (v : Value) : (rdCells s p u v)[66]? = some v := rd_get s p u v (by omega)
theorem rd_m (s : ByteArray) (p : Nat) (u : List Int) (v : Value) {i : Nat} (hi : i < 64) : (rdCells s p u v)[2 + i]? = some (.bool (decide ((i : Int) ∈ u))) := by
  rw [rd_get s p u v (by omega)]
  unfold rdF
  rw [if_neg (by omega), if_neg (by omega), if_neg (by omega), Nat.add_sub_cancel_left]
theorem rd_set {s : ByteArray} {p q : Nat} {u u' : List Int} {v x : Value} {j : Nat} (hj : rdF s q u' v j = x) (ho : ∀ i, i < 67 → i ≠ j → rdF s p u v i = rdF s q u' v i) : (rdCells s p u v).setIfInBounds j x = rdCells s q u' v := by
  apply Array.ext
  · simp [rdCells]
  · intro i h1 h2
    have hi : i < 67 := by simpa [rdCells] using h2
    rw [Array.getElem_setIfInBounds (by simpa [rdCells] using hi)]
    simp only [rdCells, Array.getElem_ofFn]
    by_cases e : j = i
    · subst e; rw [if_pos rfl]; exact hj.symm
    · rw [if_neg e]; exact ho i hi (fun h => e h.symm)
theorem rd_at (s : ByteArray) (p q : Nat) (u : List Int) (v : Value) : (rdCells s p u v).setIfInBounds 1 (.int .i64 (q : Int)) = rdCells s q u v :=
  rd_set rfl (fun i _ hi => by unfold rdF; rw [if_neg hi, if_neg hi])
theorem rd_mark (s : ByteArray) (p : Nat) (u : List Int) (v : Value) {i : Nat} (hi : i < 64) : (rdCells s p u v).setIfInBounds (2 + i) (.bool true) = rdCells s p (u ++ [(i : Int)]) v := by
  refine rd_set ?_ (fun k hk hne => ?_)
  · unfold rdF
    rw [if_neg (by omega), if_neg (by omega), if_neg (by omega), Nat.add_sub_cancel_left]
    simp
  · unfold rdF
    by_cases h0 : k = 0
    · rw [if_pos h0, if_pos h0]
    · rw [if_neg h0, if_neg h0]
      by_cases h1 : k = 1
      · rw [if_pos h1, if_pos h1]
      · rw [if_neg h1, if_neg h1]
        by_cases h2 : k = 66
        · rw [if_pos h2, if_pos h2]
        · rw [if_neg h2, if_neg h2]
          have : ¬ ((k - 2 : Nat) : Int) = (i : Int) := by omega
          simp [this]
/-- The reader at R stands at p, has met u, and collects in v. -/
def RdP (w : World) (R : Nat) (s : ByteArray) (p : Nat) (u : List Int) (v : Value) : Prop := Row w R 86 (rdCells s p u v)
theorem RdP.at_ {w : World} {R : Nat} {s : ByteArray} {p : Nat} {u : List Int} {v : Value} (h : RdP w R s p u v) (q : Nat) : RdP (w.setCell ⟨R, 1, none⟩ (.int .i64 (q : Int))) R s q u v := by
  have := Row.set h 1 (.int .i64 (q : Int))
  rwa [rd_at] at this
theorem RdP.mark {w : World} {R : Nat} {s : ByteArray} {p : Nat} {u : List Int} {v : Value} (h : RdP w R s p u v) {i : Nat} (hi : i < 64) : RdP (w.setCell ⟨R, 2 + i, none⟩ (.bool true)) R s p (u ++ [(i : Int)]) v := by
  have := Row.set h (2 + i) (.bool true)
  rwa [rd_mark s p u v hi] at this
theorem RdP.but {w w' : World} {R t : Nat} {s : ByteArray} {p : Nat} {u : List Int} {v : Value} (h : RdP w R s p u v) (hb : But t w.heap.size w w') (ht : R ≠ t) : RdP w' R s p u v := (hb.2 R (Row.lt h) ht).trans h

set_option maxRecDepth 100000 in
theorem fault_any (e a : Int) (w : World) : Calls Tryd.prog 68 #[.int .i64 e, .int .i64 a] w fun r w' => r = .returned (.agg #[.int .i64 e, .int .i64 a]) ∧ Below w.heap.size w w' := by
  have hF3 := Row.new w 45 #[.int .i64 e, .int .i64 a]
  have hc0 := hF3.cell (i := 0) rfl
  have hc1 := hF3.cell (i := 1) rfl
  have HB := Lib.hid ((Below.refl w.heap.size w).alloc (Nat.le_refl _) (.cells #[.int .i64 e, .int .i64 a] 45))
  have HF3 := Lib.hid hF3
  clear hF3
  go_enter Tryd.func68, Tryd.ntmps68
  go_wp2_with fail
  refine bodyPost_ret (v := .agg #[.int .i64 e, .int .i64 a]) ?_ rfl ⟨rfl, HB.out⟩
  simp [results, Tryd.results68, go_sem, hc0, hc1]

set_option maxRecDepth 100000 in
theorem fail_any (e a : Int) (w : World) : Calls Tryd.prog 77 #[.int .i64 e, .int .i64 a] w fun r w' => r = .returned (.tuple #[.slice none 0 0, .agg #[.int .i64 e, .int .i64 a]]) ∧ Below w.heap.size w w' := by
  have hF3 := Row.new w 45 #[.int .i64 e, .int .i64 a]
  have hc0 := hF3.cell (i := 0) rfl
  have hc1 := hF3.cell (i := 1) rfl
  have HB := Lib.hid ((Below.refl w.heap.size w).alloc (Nat.le_refl _) (.cells #[.int .i64 e, .int .i64 a] 45))
  have HF3 := Lib.hid hF3
  clear hF3
  go_enter Tryd.func77, Tryd.ntmps77
  go_wp2_with fail
  refine bodyPost_ret (v := .tuple #[.slice none 0 0, .agg #[.int .i64 e, .int .i64 a]]) ?_ rfl ⟨rfl, HB.out⟩
  simp [results, Tryd.results77, go_sem, hc0, hc1]

set_option maxRecDepth 100000 in
theorem isDigit_any (c : Int) (w : World) (hc : 0 ≤ c ∧ c ≤ 255) : Calls Tryd.prog 87 #[.int .u8 c] w fun e w' => e = .returned (.bool (decide (Dg c))) ∧ w' = w := by
  by_cases h1 : 48 ≤ c
  · by_cases h2 : c ≤ 57
    · have hd : decide (Dg c) = true := decide_eq_true ⟨h1, h2⟩
      rw [hd]
      clear hd
      go_enter Tryd.func87, Tryd.ntmps87
      go_wp2_with fail
      go_ret
      exact ⟨rfl, rfl⟩
    · have hd : decide (Dg c) = false := decide_eq_false (fun h => h2 h.2)
      rw [hd]
      clear hd
      go_enter Tryd.func87, Tryd.ntmps87
      go_wp2_with fail
      go_ret
      exact ⟨rfl, rfl⟩
  · have hd : decide (Dg c) = false := decide_eq_false (fun h => h1 h.1)
    rw [hd]
    clear hd
    go_enter Tryd.func87, Tryd.ntmps87
    go_wp2_with fail
    go_ret
    exact ⟨rfl, rfl⟩
end Go.Proofs.YtpchomhfpfpckaaDoor
