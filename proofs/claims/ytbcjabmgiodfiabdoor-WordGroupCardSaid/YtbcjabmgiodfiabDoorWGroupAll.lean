/- cayleylaw02.WordGroup at every input. -/
import Derived.Test.YtbcjabmgiodfiabDoorWGroup
namespace Go.Proofs.YtbcjabmgiodfiabDoor
open Go Go.RowKit

set_option maxRecDepth 100000 in
set_option maxHeartbeats 2000000 in
theorem group_any (vl vm vn : Value) (zl zm zn : List Int) (x y : Int) (w : World)
    (hl : Ints w w.heap.size vl zl) (hm : Ints w w.heap.size vm zm) (hn : Ints w w.heap.size vn zn)
    (htab : Lib.TabIs Tryd.prog w "internal/strconv.uint64pow10" .u64 Lib.pow10Tab) :
    Calls Tryd.prog 3 #[vl, vm, vn, .int .i64 x, .int .i64 y] w fun e w' => e = .returned (.bool true) ∧ Below w.heap.size w w' := by
  by_cases h1 : zl.length ≤ 40
  · by_cases h2 : zm.length ≤ 40
    · by_cases h3 : zn.length ≤ 40
      · exact group_main vl vm vn zl zm zn x y w h1 h2 h3 hl hm hn htab
      · have HT := Lib.hid (lives_any w htab)
        obtain ⟨Al, cl, rfl⟩ := hl.form
        obtain ⟨Am, cm, rfl⟩ := hm.form
        obtain ⟨An, cn, rfl⟩ := hn.form
        clear hl hm hn htab
        have hq1 : ¬ (40 : Int) < (zl.length : Int) := by omega
        have hq2 : ¬ (40 : Int) < (zm.length : Int) := by omega
        have hq3 : (40 : Int) < (zn.length : Int) := by omega
        go_enter Tryd.func3, Tryd.ntmps3
        go_wp2_with fail
        refine (HT.out).mono ?_
        rintro e w0 ⟨rfl, hb⟩
        have HB := Lib.hid hb
        clear hb HT
        go_wp2_with fail
        go_ret
        exact ⟨rfl, HB.out⟩
    · have HT := Lib.hid (lives_any w htab)
      obtain ⟨Al, cl, rfl⟩ := hl.form
      obtain ⟨Am, cm, rfl⟩ := hm.form
      obtain ⟨An, cn, rfl⟩ := hn.form
      clear hl hm hn htab
      have hq1 : ¬ (40 : Int) < (zl.length : Int) := by omega
      have hq2 : (40 : Int) < (zm.length : Int) := by omega
      go_enter Tryd.func3, Tryd.ntmps3
      go_wp2_with fail
      refine (HT.out).mono ?_
      rintro e w0 ⟨rfl, hb⟩
      have HB := Lib.hid hb
      clear hb HT
      go_wp2_with fail
      go_ret
      exact ⟨rfl, HB.out⟩
  · have HT := Lib.hid (lives_any w htab)
    obtain ⟨Al, cl, rfl⟩ := hl.form
    obtain ⟨Am, cm, rfl⟩ := hm.form
    obtain ⟨An, cn, rfl⟩ := hn.form
    clear hl hm hn htab
    have hq1 : (40 : Int) < (zl.length : Int) := by omega
    go_enter Tryd.func3, Tryd.ntmps3
    go_wp2_with fail
    refine (HT.out).mono ?_
    rintro e w0 ⟨rfl, hb⟩
    have HB := Lib.hid hb
    clear hb HT
    go_wp2_with fail
    go_ret
    exact ⟨rfl, HB.out⟩
end Go.Proofs.YtbcjabmgiodfiabDoor
