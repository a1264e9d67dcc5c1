/- cayleylaw01.PermCycles: written by genpcyc.py. -/
import Derived.Test.YtpchomhfpfpckaaDoorPCycles
namespace Go.Proofs.YtpchomhfpfpckaaDoor
open Go Go.RowKit

theorem cyclesV_len (zs : List Int) : ∀ c ∈ cyclesV zs, c.length ≤ 1000 := fun c hc => by
  unfold cyclesV at hc
  split at hc
  · rename_i h
    obtain ⟨h1, h64, hf⟩ := chk_zero h
    have := cyc_pos zs hf h64 c (List.mem_filter.1 hc).1
    omega
  · cases hc
theorem cyclesV_count (zs : List Int) : (cyclesV zs).length ≤ 1000 := by
  unfold cyclesV
  split
  · rename_i h
    obtain ⟨h1, h64, hf⟩ := chk_zero h
    have := cycs_count zs h64
    have := List.length_filter_le (fun c => decide (1 < c.length)) (cycs zs)
    unfold selC
    omega
  · simp
theorem typeV_count (zs : List Int) : (typeV zs).length ≤ 1000 := by
  unfold typeV
  split
  · rename_i h
    obtain ⟨h1, h64, hf⟩ := chk_zero h
    have := cycs_count zs h64
    rw [List.length_reverse, srt_length]
    simp only [lens, List.length_map]
    omega
  · simp
theorem Ints.grow {w w' : World} {v : Value} {l : List Int} (h : Ints w w.heap.size v l) (hb : Below w.heap.size w w') : Ints w' w'.heap.size v l := (h.below hb).more hb.size

set_option maxRecDepth 100000 in
set_option maxHeartbeats 8000000 in
theorem permCycles_any (v : Value) (zs : List Int) (w : World) (hv : Ints w w.heap.size v zs) :
    Calls Tryd.prog 5 #[v] w fun e w' => e = .returned (.bool true) ∧ Below w.heap.size w w' := by
  have HV := Lib.hid hv
  obtain ⟨A0, c0, rfl⟩ : ∃ A c, v = .slice A zs.length c := by obtain ⟨A, c, e, _⟩ := hv; exact ⟨A, c, e⟩
  clear hv
  go_enter Tryd.func5, Tryd.ntmps5
  go_wp2_with fail
  refine (lives_any w).mono ?_
  rintro e w0 ⟨rfl, hb⟩
  replace HV := Lib.hid (HV.out.grow hb)
  have HB := Lib.hid hb
  clear hb
  by_cases h80 : 80 < zs.length
  · have h1 : (80 : Int) < (zs.length : Int) := by omega
    go_wp2_with fail
    go_ret
    exact ⟨rfl, HB.out⟩
  have h1 : ¬ (80 : Int) < (zs.length : Int) := by omega
  have hl : zs.length ≤ 17592186044400 := by omega
  have HO := fun W h => Lib.hid (Order_any (.slice A0 zs.length c0) zs W hl h)
  have HOr := fun W h => Lib.hid (refOrder_any (.slice A0 zs.length c0) zs W hl h)
  have HC := fun W h => Lib.hid (Cycles_any (.slice A0 zs.length c0) zs W hl h)
  have HCr := fun W h => Lib.hid (refCycles_any (.slice A0 zs.length c0) zs W hl h)
  have HT := fun W h => Lib.hid (Type_any (.slice A0 zs.length c0) zs W hl h)
  have HTr := fun W h => Lib.hid (refType_any (.slice A0 zs.length c0) zs W hl h)
  have HS := fun W h => Lib.hid (Sign_any (.slice A0 zs.length c0) zs W hl h)
  have HSr := fun W h => Lib.hid (refSign_any (.slice A0 zs.length c0) zs W hl h)
  have HX := fun W h => Lib.hid (TextV_any (.slice A0 zs.length c0) zs W hl h)
  have HXr := fun W h => Lib.hid (refText_any (.slice A0 zs.length c0) zs W hl h)
  have HCl := Lib.hid (cyclesV_len zs)
  have HCc := Lib.hid (cyclesV_count zs)
  have HTc := Lib.hid (typeV_count zs)
  unfold IntErr at HO HOr HS HSr
  unfold StrErr at HX HXr
  unfold IntsErr at HT HTr
  unfold ListsErr at HC HCr
  generalize chk zs = x at HO HOr HC HCr HT HTr HS HSr HX HXr
  generalize ordV zs = o at HO HOr
  generalize signV zs = s at HS HSr
  generalize typeV zs = ty at HT HTr HTc
  generalize cyclesV zs = cs at HC HCr HCl HCc
  generalize (⟨(textV zs).toArray⟩ : ByteArray) = tx at HX HXr
  have hxx : (x == x) = true := by simp
  have hoo : (o == o) = true := by simp
  have hss : (s == s) = true := by simp
  clear h80 hl
  go_wp2_with fail
  refine ((HO _ HV.out).out).mono ?_
  rintro e w1 ⟨rfl, hb⟩
  replace HV := Lib.hid (HV.out.grow hb)
  replace HB := Lib.hid (HB.out.trans (hb.mono HB.out.size))
  clear hb
  go_wp2_with fail
  refine ((HOr _ HV.out).out).mono ?_
  rintro e w2 ⟨rfl, hb⟩
  replace HV := Lib.hid (HV.out.grow hb)
  replace HB := Lib.hid (HB.out.trans (hb.mono HB.out.size))
  clear hb
  go_wp2_with fail
  refine ((HC _ HV.out).out).mono ?_
  rintro e w3 ⟨r3, ps3, rfl, hb, hi, hs3⟩
  replace HV := Lib.hid (HV.out.grow hb)
  replace HB := Lib.hid (HB.out.trans (hb.mono HB.out.size))
  have HI3 := Lib.hid hi
  have HE3 := Lib.hid hs3
  clear hb hi hs3
  go_wp2_with fail
  refine ((HCr _ HV.out).out).mono ?_
  rintro e w4 ⟨r4, ps4, rfl, hb, hi, hs4⟩
  replace HV := Lib.hid (HV.out.grow hb)
  replace HB := Lib.hid (HB.out.trans (hb.mono HB.out.size))
  replace HI3 := Lib.hid (HI3.out.grow hb)
  have HI4 := Lib.hid hi
  have HE4 := Lib.hid hs4
  clear hb hi hs4
  go_wp2_with fail
  refine ((HT _ HV.out).out).mono ?_
  rintro e w5 ⟨r5, rfl, hb, hi⟩
  replace HV := Lib.hid (HV.out.grow hb)
  replace HB := Lib.hid (HB.out.trans (hb.mono HB.out.size))
  replace HI3 := Lib.hid (HI3.out.grow hb)
  replace HI4 := Lib.hid (HI4.out.grow hb)
  have HI5 := Lib.hid hi
  clear hb hi
  go_wp2_with fail
  refine ((HTr _ HV.out).out).mono ?_
  rintro e w6 ⟨r6, rfl, hb, hi⟩
  replace HV := Lib.hid (HV.out.grow hb)
  replace HB := Lib.hid (HB.out.trans (hb.mono HB.out.size))
  replace HI3 := Lib.hid (HI3.out.grow hb)
  replace HI4 := Lib.hid (HI4.out.grow hb)
  replace HI5 := Lib.hid (HI5.out.grow hb)
  have HI6 := Lib.hid hi
  clear hb hi
  go_wp2_with fail
  refine ((HS _ HV.out).out).mono ?_
  rintro e w7 ⟨rfl, hb⟩
  replace HV := Lib.hid (HV.out.grow hb)
  replace HB := Lib.hid (HB.out.trans (hb.mono HB.out.size))
  replace HI3 := Lib.hid (HI3.out.grow hb)
  replace HI4 := Lib.hid (HI4.out.grow hb)
  replace HI5 := Lib.hid (HI5.out.grow hb)
  replace HI6 := Lib.hid (HI6.out.grow hb)
  clear hb
  go_wp2_with fail
  refine ((HSr _ HV.out).out).mono ?_
  rintro e w8 ⟨rfl, hb⟩
  replace HV := Lib.hid (HV.out.grow hb)
  replace HB := Lib.hid (HB.out.trans (hb.mono HB.out.size))
  replace HI3 := Lib.hid (HI3.out.grow hb)
  replace HI4 := Lib.hid (HI4.out.grow hb)
  replace HI5 := Lib.hid (HI5.out.grow hb)
  replace HI6 := Lib.hid (HI6.out.grow hb)
  clear hb
  go_wp2_with fail
  refine ((HX _ HV.out).out).mono ?_
  rintro e w9 ⟨rfl, hb⟩
  replace HV := Lib.hid (HV.out.grow hb)
  replace HB := Lib.hid (HB.out.trans (hb.mono HB.out.size))
  replace HI3 := Lib.hid (HI3.out.grow hb)
  replace HI4 := Lib.hid (HI4.out.grow hb)
  replace HI5 := Lib.hid (HI5.out.grow hb)
  replace HI6 := Lib.hid (HI6.out.grow hb)
  clear hb
  go_wp2_with fail
  refine ((HXr _ HV.out).out).mono ?_
  rintro e w10 ⟨rfl, hb⟩
  replace HV := Lib.hid (HV.out.grow hb)
  replace HB := Lib.hid (HB.out.trans (hb.mono HB.out.size))
  replace HI3 := Lib.hid (HI3.out.grow hb)
  replace HI4 := Lib.hid (HI4.out.grow hb)
  replace HI5 := Lib.hid (HI5.out.grow hb)
  replace HI6 := Lib.hid (HI6.out.grow hb)
  clear hb
  go_wp2_with fail
  have HSL := Lib.hid (sameLists_eq r3 r4 ps3 ps4 _ (by have h1 := HE3.out; have h2 := HCc.out; rw [← h1] at h2; simpa using h2) (fun q hq => HCl.out q.2 (by rw [← HE3.out]; exact List.mem_map_of_mem hq)) (HE3.out.trans HE4.out.symm) HI3.out HI4.out)
  with_reducible refine (HSL.out).mono ?_
  rintro e w11 ⟨rfl, hm⟩
  have hb := drawnB w10.heap.size hm
  replace HV := Lib.hid (HV.out.grow hb)
  replace HB := Lib.hid (HB.out.trans (hb.mono HB.out.size))
  replace HI5 := Lib.hid (HI5.out.grow hb)
  replace HI6 := Lib.hid (HI6.out.grow hb)
  clear hb hm HSL
  go_wp2_with fail
  have HSS := Lib.hid (sameR ty r5 r6 _ HTc.out HI5.out HI6.out)
  with_reducible refine (HSS.out).mono ?_
  rintro e w12 ⟨rfl, hm⟩
  have hb := drawnB w11.heap.size hm
  replace HB := Lib.hid (HB.out.trans (hb.mono HB.out.size))
  clear hb hm HSS
  go_wp2_with fail
  go_ret
  exact ⟨rfl, HB.out⟩
end Go.Proofs.YtpchomhfpfpckaaDoor
