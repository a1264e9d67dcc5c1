/- cayleykit.Own (a text of its own: the great seat has no letters). -/
import Derived.Test.YtjllnbldpcmddaaGreatDoorWReads
namespace Go.Proofs.YtjllnbldpcmddaaGreatDoor
open Go Go.RowKit

set_option maxRecDepth 100000 in
theorem ownB_any (v : Value) (zs : List Int) (w : World) (hl : zs.length ≤ 1000000) (hv : Ints w w.heap.size v zs) :
    Calls Tryz.prog 27 #[v] w fun e w' => ∃ r, e = .returned r ∧ OwnsI w' w.heap.size r zs ∧ Below w.heap.size w w' := by
  obtain ⟨i0, hi, hz0, hz1, hz2⟩ := info_parts info3'
  have HV := Lib.hid hv
  obtain ⟨A, c, rfl⟩ := hv.form
  have HB2 := Lib.hid (Below.refl w.heap.size w)
  clear hv
  go_enter Tryz.func27, Tryz.ntmps27
  have H0 : OwnsI (w.alloc (.cells #[] 3)) w.heap.size (.slice (some ⟨w.heap.size, 0, none⟩) 0 0) [] := World.ownsRow_made w #[] 0 (Nat.le_refl _) (by unfold maxLen; omega) rfl
  have HO := Lib.hid H0
  have HB := Lib.hid ((Below.refl w.heap.size w).alloc (Nat.le_refl _) (.cells #[] 3))
  clear H0
  go_wp2_with (at_builtin; refine wpList_append_ints _ rfl (.tmp 3) (.tmp 4) 22 22 rfl w.heap.size 3 i0 Tryz.underlying22 Tryz.underlying22 hi hz0 hz1 hz2 _ _ [] zs _ rfl HO.out rfl (HV.out.grow HB.out) (by simp; omega) (by simp) ?_; intro v1 w1 hown hgrow _; have HX := Lib.hid hown; have HB3 := Lib.hid (HB.out.grown hgrow (by simp) (fun q hq => (HO.out.lt q hq).1)); clear hown hgrow)
  go_ret
  exact ⟨_, rfl, HX.out, HB3.out⟩
end Go.Proofs.YtjllnbldpcmddaaGreatDoor
