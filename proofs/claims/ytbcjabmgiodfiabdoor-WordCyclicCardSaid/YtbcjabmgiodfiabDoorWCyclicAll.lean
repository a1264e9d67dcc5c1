/- cayleylaw02.WordCyclic at every input. -/
import Derived.Test.YtbcjabmgiodfiabDoorWCyclic
namespace Go.Proofs.YtbcjabmgiodfiabDoor
open Go Go.RowKit

set_option maxRecDepth 100000 in
set_option maxHeartbeats 2000000 in
theorem cyclic_any (vl vm : Value) (zl zm : List Int) (w : World)
    (hl : Ints w w.heap.size vl zl) (hm : Ints w w.heap.size vm zm)
    (htab : Lib.TabIs Tryd.prog w "internal/strconv.uint64pow10" .u64 Lib.pow10Tab) :
    Calls Tryd.prog 5 #[vl, vm] w fun e w' => e = .returned (.bool true) ∧ Below w.heap.size w w' := by
  by_cases h1 : zl.length ≤ 60
  · by_cases h2 : zm.length ≤ 60
    · exact cyclic_main vl vm zl zm w h1 h2 hl hm htab
    · have HT := Lib.hid (lives_any w htab)
      obtain ⟨Al, cl, rfl⟩ := hl.form
      obtain ⟨Am, cm, rfl⟩ := hm.form
      clear hl hm htab
      have hq1 : ¬ (60 : Int) < (zl.length : Int) := by omega
      have hq2 : (60 : Int) < (zm.length : Int) := by omega
      go_enter Tryd.func5, Tryd.ntmps5
      go_wp2_with fail
      refine (HT.out).mono ?_
      rintro e w0 ⟨rfl, hb⟩
      have HB := Lib.hid hb
      clear hb HT
      go_wp2_with fail
      go_ret
      exact ⟨rfl, HB.out⟩
  · have HT := Lib.hid (lives_any w htab)
    obtain ⟨Al, cl, rfl⟩ := hl.form
    obtain ⟨Am, cm, rfl⟩ := hm.form
    clear hl hm htab
    have hq1 : (60 : Int) < (zl.length : Int) := by omega
    go_enter Tryd.func5, Tryd.ntmps5
    go_wp2_with fail
    refine (HT.out).mono ?_
    rintro e w0 ⟨rfl, hb⟩
    have HB := Lib.hid hb
    clear hb HT
    go_wp2_with fail
    go_ret
    exact ⟨rfl, HB.out⟩
end Go.Proofs.YtbcjabmgiodfiabDoor
