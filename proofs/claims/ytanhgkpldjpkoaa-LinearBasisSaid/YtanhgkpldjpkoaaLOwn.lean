/- cayleykit.Own of a list of rows. -/
import Derived.Test.YtanhgkpldjpkoaaLEchelon
import Derived.Deep.AppendSrc
import Derived.Lib.AppendZeros
namespace Go.Proofs.Ytanhgkpldjpkoaa
open Go Go.RowKit Num

/-- A copy of a list of slices has been made. -/
def OwnRet (m : Nat) (vals : List Value) (w : World) (e : Ending) (w' : World) : Prop := ∃ r, e = .returned r ∧ w'.ownsRow w.heap.size 22 1 r m vals ∧ Below w.heap.size w w'
theorem ownR_nil (A : Option Addr) (c : Nat) (w : World) : Calls Try.prog 14 #[.slice A 0 c] w (OwnRet 0 [] w) := by
  obtain ⟨i0, hi, hz0, hz1, hz2⟩ := info_parts infoSl
  have hs : ∀ W : World, Src Try.prog i0.size 29 (.slice A 0 c) 0 [] W := fun W => by
    cases A with
    | none => exact Src.ofNil W (e' := 22) (by kernel_rfl) c
    | some a => exact Src.ofSlice W (e' := 22) (by kernel_rfl) a 0 c [] (by simp) (fun j u h => by simp at h) (fun u h => by cases h)
  have hr : (Builtin.append_ #[29, 29] 29 #[.slice (some ⟨w.heap.size, 0, none⟩) 0 0, .slice A 0 c]).run Try.prog (w.alloc (.cells #[] 22)) = .ok (.slice (some ⟨w.heap.size, 0, none⟩) 0 0) (w.alloc (.cells #[] 22)) := by
    have := run_append_room_src (w.alloc (.cells #[] 22)) 29 29 29 22 i0 (by kernel_rfl) hi w.heap.size 0 0 0 (.slice A 0 c) 0 [] (hs _) (by omega) (fun j h => by simp at h) (fun j h => by simp at h)
    simpa [World.setCells] using this
  go_enter Try.func14, Try.ntmps14
  have HO := Lib.hid (show (w.alloc (.cells #[] 22)).ownsRow w.heap.size 22 1 (.slice (some ⟨w.heap.size, 0, none⟩) 0 0) 0 [] from World.ownsRow_made w #[] 0 (Nat.le_refl _) (by unfold maxLen; omega) rfl)
  have HB := Lib.hid ((Below.refl w.heap.size w).alloc (Nat.le_refl _) (.cells #[] 22))
  go_wp2_with (at_builtin; refine Lib.wpList_append_run _ rfl (.tmp 3) (.tmp 4) 29 29 rfl _ _ rfl rfl _ _ hr ?_)
  go_ret
  exact ⟨_, rfl, HO.out, HB.out⟩
set_option maxRecDepth 100000 in
set_option maxHeartbeats 1000000 in
theorem ownR_any (b o c n : Nat) (vals : List Value) (w : World) (hn : vals.length = n) (hl : n ≤ 1000) (hb : b < w.heap.size) (hcc : ∀ (j : Nat) (u : Value), vals[j]? = some u → w.cell? ⟨b, o + j, none⟩ = some u) (h1 : ∀ u ∈ vals, u.oneCell' = true) :
    Calls Try.prog 14 #[.slice (some ⟨b, o, none⟩) n c] w (OwnRet n vals w) := by
  obtain ⟨i0, hi, hz0, hz1, hz2⟩ := info_parts infoSl
  have HB := Lib.hid ((Below.refl w.heap.size w).alloc (Nat.le_refl _) (.cells #[] 22))
  have HN := Lib.hid (show ∀ j u, vals[j]? = some u → (w.alloc (.cells #[] 22)).cell? ((⟨b, o, none⟩ : Addr).add j) = some u from fun j u h => by
    rw [Addr.add_lit]
    exact (HB.out.cell (p := ⟨b, o + j, none⟩) hb).trans (hcc j u h))
  have H1 := Lib.hid h1
  have HNN := Lib.hid hn
  clear hcc h1
  go_enter Try.func14, Try.ntmps14
  have HO := Lib.hid (show (w.alloc (.cells #[] 22)).ownsRow w.heap.size 22 1 (.slice (some ⟨w.heap.size, 0, none⟩) 0 0) 0 [] from World.ownsRow_made w #[] 0 (Nat.le_refl _) (by unfold maxLen; omega) rfl)
  go_wp2_with (at_builtin; refine wpList_append_own_at _ rfl (.tmp 3) (.tmp 4) 29 rfl w.heap.size 22 i0 (.slice none 0 0) 1 24 Try.underlying29 hi hz0 hz1 hz2 rfl (by decide) _ _ _ rfl HO.out ⟨b, o, none⟩ n c vals rfl (by rw [HNN.out, Nat.mul_one]) HN.out H1.out (by unfold maxLen; omega) (by omega) (by simp) ?_; intro v1 w1 hown hgrow _ _; have HX := Lib.hid hown; have HB3 := Lib.hid (HB.out.grown hgrow (by simp) (fun q hq => (HO.out.lt q hq).1)); clear hown hgrow)
  go_ret
  refine ⟨_, rfl, ?_, HB3.out⟩
  have := HX.out
  rw [List.nil_append, Nat.zero_add] at this
  exact this
end Go.Proofs.Ytanhgkpldjpkoaa
