/- slices.Sort and slices.Reverse upon a row of the call's own. -/
import Derived.Test.YtpchomhfpfpckaaDoorPShelf
import Derived.Test.YtpchomhfpfpckaaDoorSel
import Derived.Sort.OwnSortedInts
namespace Go.Proofs.YtpchomhfpfpckaaDoor
open Go Go.RowKit Go.Shelf

def srt (zs : List Int) : List Int := zs.mergeSort fun x y => decide (x ≤ y)
theorem srt_length (zs : List Int) : (srt zs).length = zs.length := by simp [srt]

theorem sort_any (base g cap : Nat) (zs : List Int) (w : World) (hl : zs.length ≤ 1000) (hO : w.ownsRow base 3 1 (.slice (some ⟨g, 0, none⟩) zs.length cap) zs.length (icells zs)) :
    Calls Tryd.prog 65 #[.slice (some ⟨g, 0, none⟩) zs.length cap] w fun e w' => e = .returned (.tuple #[]) ∧ w'.ownsRow base 3 1 (.slice (some ⟨g, 0, none⟩) zs.length cap) zs.length (icells (srt zs)) ∧ w.grownBy w' (some g) := by
  rcases hO.2 with ⟨h0, _⟩ | ⟨g', cap', cur, hv, hb, hg, h1, h2, h3, ht⟩
  · cases h0
  · injection hv with e1 _ e3
    injection e1 with e1
    injection e1 with e1
    subst e1; subst e3
    rw [Nat.mul_one] at ht
    refine (Any.slices_Sort_int Tryd.laysSort g 0 cap zs w (holds_of_blockI hg ht) (Array.getElem?_eq_some_iff.1 hg).1 (by omega)).mono ?_
    rintro e w' ⟨he, n, os, rfl⟩
    exact ⟨he, ownsRow_sortedI (ss := zs) (ts := srt zs) (srt_length zs) hb hg h1 h2 h3, grownBy_sortedI _⟩

theorem reverse_any (base g cap : Nat) (zs : List Int) (w : World) (hl : zs.length ≤ 1000) (hO : w.ownsRow base 3 1 (.slice (some ⟨g, 0, none⟩) zs.length cap) zs.length (icells zs)) :
    Calls Tryd.prog 66 #[.slice (some ⟨g, 0, none⟩) zs.length cap] w fun e w' => e = .returned (.tuple #[]) ∧ w'.ownsRow base 3 1 (.slice (some ⟨g, 0, none⟩) zs.length cap) zs.length (icells zs.reverse) ∧ w.grownBy w' (some g) := by
  rcases hO.2 with ⟨h0, _⟩ | ⟨g', cap', cur, hv, hb, hg, h1, h2, h3, ht⟩
  · cases h0
  · injection hv with e1 _ e3
    injection e1 with e1
    injection e1 with e1
    subst e1; subst e3
    rw [Nat.mul_one] at ht
    refine (Any.slices_Reverse_int Tryd.laysRev g 0 cap zs w (holds_of_blockI hg ht) (by omega)).mono ?_
    rintro e w' ⟨he, n, rfl⟩
    have hr := ownsRow_sortedI (n := n) (os := #[]) (ss := zs) (ts := zs.reverse) (by simp) hb hg h1 h2 h3
    have hq := grownBy_sortedI (w := w) (g := g) (n := n) (os := #[]) zs.reverse.toArray
    rw [Go.Sort.grow_empty] at hr hq
    exact ⟨he, hr, hq⟩
end Go.Proofs.YtpchomhfpfpckaaDoor
