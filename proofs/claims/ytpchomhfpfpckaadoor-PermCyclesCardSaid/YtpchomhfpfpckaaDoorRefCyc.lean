/- The reference's Sign and Cycles. -/
import Derived.Test.YtpchomhfpfpckaaDoorRefAll2
import Derived.Test.YtpchomhfpfpckaaDoorRefCheck
import Derived.Test.YtpchomhfpfpckaaDoorCyclesC
import Derived.Test.YtpchomhfpfpckaaDoorRefPow
namespace Go.Proofs.YtpchomhfpfpckaaDoor
open Go Go.RowKit

theorem Lists2.at {w : World} {B : Nat} {v : Value} {ps : List Pt} (h : Lists2 w B v ps) {j : Nat} (hj : j < ps.length) :
    ∃ b o c A c' p, v = .slice (some ⟨b, o, none⟩) ps.length c ∧ b < B ∧ ps[j]? = some p ∧ p.1 = .slice A p.2.length c' ∧ w.cell? ⟨b, o + j, none⟩ = some (.slice A p.2.length c') ∧ Ints w B p.1 p.2 := by
  obtain ⟨⟨A, c, rfl, h1⟩, h2⟩ := h
  obtain ⟨b, o, rfl, hb, hc⟩ := h1 (by omega)
  have hp : ps[j]? = some ps[j] := List.getElem?_eq_getElem hj
  have hI := h2 ps[j] (List.getElem_mem hj)
  obtain ⟨A', c', e, _⟩ := id hI
  exact ⟨b, o, c, A', c', ps[j], rfl, hb, hp, e, by have := hc j _ hp; rwa [e] at this, hI⟩
theorem Lists2.form {w : World} {B : Nat} {v : Value} {ps : List Pt} (h : Lists2 w B v ps) : ∃ A c, v = .slice A ps.length c := by obtain ⟨⟨A, c, e, _⟩, _⟩ := h; exact ⟨A, c, e⟩
theorem Lists2.more {w : World} {B B' : Nat} {v : Value} {ps : List Pt} (h : Lists2 w B v ps) (hB : B ≤ B') : Lists2 w B' v ps := by
  obtain ⟨⟨A, c, e, h1⟩, h2⟩ := h
  refine ⟨⟨A, c, e, fun hn => ?_⟩, fun p hp => (h2 p hp).more hB⟩
  obtain ⟨b, o, e', hb, hc⟩ := h1 hn
  exact ⟨b, o, e', by omega, hc⟩
theorem Lists2.below {w w' : World} {B : Nat} {v : Value} {ps : List Pt} (h : Lists2 w B v ps) (hb : Below B w w') : Lists2 w' B v ps := by
  obtain ⟨⟨A, c, e, h1⟩, h2⟩ := h
  refine ⟨⟨A, c, e, fun hn => ?_⟩, fun p hp => (h2 p hp).below hb⟩
  obtain ⟨b, o, e', hlt, hc⟩ := h1 hn
  exact ⟨b, o, e', hlt, fun j p hj => (hb.cell (p := ⟨b, o + j, none⟩) hlt).trans (hc j p hj)⟩
theorem Lists2.grow {w w' : World} {v : Value} {ps : List Pt} (h : Lists2 w w.heap.size v ps) (hb : Below w.heap.size w w') : Lists2 w' w'.heap.size v ps := (h.below hb).more hb.size

/-- What the reference's all gives. -/
def AllL (zs : List Int) (w : World) (e : Ending) (w' : World) : Prop := ∃ r ps, e = .returned r ∧ Lists2 w' w'.heap.size r ps ∧ ps.map Prod.snd = cycs zs ∧ Below w.heap.size w w'
theorem all_any (v : Value) (zs : List Int) (w : World) (hf : Fine zs) (h1 : 1 ≤ zs.length) (h64 : zs.length ≤ 64) (hv : Ints w w.heap.size v zs) : Calls Tryd.prog 74 #[v] w (AllL zs w) := by
  obtain ⟨b, o, c, rfl, hb, hc⟩ := hv.at_ (by omega)
  refine (all_walk b o c zs w hf h64 hb hc).mono ?_
  rintro e w' ⟨vo, ws, rfl, ho, hl, hh, hB⟩
  have hlen : (ws.zip (cycs zs)).length = ws.length := by simp [hl]
  refine ⟨vo, ws.zip (cycs zs), rfl, ⟨?_, fun p hp => ?_⟩, by rw [List.map_snd_zip]; omega, hB⟩
  · rw [hlen]
    rcases ho.2 with ⟨rfl, h0⟩ | ⟨g, cap, cur, rfl, _⟩
    · exact ⟨none, 0, by rw [h0], fun h => by omega⟩
    · refine ⟨_, cap, rfl, fun _ => ⟨g, 0, rfl, (ho.lt g rfl).2, fun j p hj => ?_⟩⟩
      have hjl : j < ws.length := by have := (List.getElem?_eq_some_iff.1 hj).1; omega
      rw [Nat.zero_add, ho.cellAt j (by omega)]
      have e := List.getElem?_zip_eq_some.1 hj
      simp [e.1]
  · obtain ⟨j, hj, rfl⟩ := List.getElem_of_mem hp
    have hjl : j < ws.length := by omega
    have hjc : j < (cycs zs).length := by omega
    have := (hh j hjl).ints
    simpa [List.getD_eq_getElem?_getD, hjl, hjc] using this

theorem cycs_count (zs : List Int) (h64 : zs.length ≤ 64) : (cycs zs).length ≤ 64 := by have := upTo_len zs zs.length; unfold cycs; omega
theorem cycs_len (zs : List Int) : ∀ c ∈ cycs zs, c.length ≤ 65 := cyc_len zs zs.length

theorem snd_at {ps : List Pt} {cs : List (List Int)} (h : ps.map Prod.snd = cs) {j : Nat} {p : Pt} (hj : ps[j]? = some p) : cs.take (j + 1) = cs.take j ++ [p.2] ∧ p.2 ∈ cs := by
  subst h
  have hl := (List.getElem?_eq_some_iff.1 hj).1
  have hg : (ps.map Prod.snd)[j]? = some p.2 := by simp [hj]
  refine ⟨?_, List.mem_of_getElem? hg⟩
  rw [List.take_add_one, hg]
  rfl

set_option maxRecDepth 100000 in
set_option maxHeartbeats 1000000 in
theorem refSign_any (v : Value) (zs : List Int) (w : World) (hl : zs.length ≤ 17592186044400) (hv : Ints w w.heap.size v zs) :
    Calls Tryd.prog 48 #[v] w (IntErr (chk zs) (signV zs) w) := by
  have HC := fun W h => Lib.hid (refCheck_any v zs W hl h)
  have HV := Lib.hid hv
  by_cases hz : chk zs = 0
  · obtain ⟨h1, h64, hf⟩ := chk_zero hz
    have HA := fun W h => Lib.hid (all_any v zs W hf h1 h64 h)
    rw [show signV zs = sgnOf (cycs zs) by unfold signV; rw [if_pos hz]]
    rw [hz] at HC ⊢
    have hcc := cycs_count zs h64
    unfold AllL at HA
    generalize cycs zs = cs at HA hcc
    obtain ⟨A0, c0, rfl⟩ : ∃ A c, v = .slice A zs.length c := by obtain ⟨A, c, e, _⟩ := hv; exact ⟨A, c, e⟩
    clear hv hz hf
    go_enter Tryd.func48, Tryd.ntmps48
    go_wp2_with fail
    refine ((HC _ HV.out).out).mono ?_
    rintro e w1 ⟨rfl, hb1⟩
    have HB := Lib.hid hb1
    have HV1 := Lib.hid ((HV.out.below hb1).more hb1.size)
    clear hb1
    go_wp2_with fail
    refine ((HA _ HV1.out).out).mono ?_
    rintro e w2 ⟨r, ps, rfl, hL, hP, hb2⟩
    obtain ⟨Ar, cr, rfl⟩ := hL.form
    have HB2 := Lib.hid (HB.out.trans (hb2.mono HB.out.size))
    have HL := Lib.hid hL
    have HP := Lib.hid hP
    have hpl : ps.length = cs.length := by rw [← hP]; simp
    clear hL hP hb2 HA HC
    go_wp2_with fail
    go_loopw [5, 7] (fun s i wr => ∃ k : Nat, i = .int .i64 k ∧ k ≤ ps.length ∧ s = .int .i64 (sgnOf (cs.take k)) ∧ w2 = wr) (fun _ i _ => ps.length - (intOf i).toNat)
    case atStart => exact ⟨0, rfl, Nat.zero_le _, rfl, rfl⟩
    case round =>
      obtain ⟨k, rfl, hk, rfl, rfl⟩ := hrel
      by_cases hlt : k < ps.length
      · obtain ⟨b, o, c, A, c', p, e, hb, hpk, hp1, hcell, _⟩ := HL.out.at hlt
        injection e with e1 _ e3
        subst e1; subst e3
        obtain ⟨hsn, _⟩ := snd_at HP.out hpk
        have HR := Lib.hid (show sgnOf (cs.take (k + 1)) = sgStep (sgnOf (cs.take k)) p.2 by rw [hsn, sgnOf_snoc])
        have hs1 := sgnOf_cases (cs.take k)
        clear hsn hpk hp1
        by_cases he : p.2.length % 2 = 0
        · have h2 : ((p.2.length : Int) % 2 == 0) = true := by simp; omega
          have HX := Lib.hid (show sgnOf (cs.take (k + 1)) = -sgnOf (cs.take k) by rw [HR.out]; unfold sgStep; rw [if_pos he])
          clear he HR
          generalize p.2.length = m at hcell h2
          have hw1 : IntKind.i64.wrap (-sgnOf (cs.take k)) = -sgnOf (cs.take k) := IntWalk.i64_in _ (by omega)
          generalize sgnOf (cs.take k) = q at HX hw1
          clear hs1
          go_wp2_with fail
          go_roundw
          case rel => exact ⟨k + 1, by go_num, by omega, by rw [HX.out], by trivial⟩
          case measure => simp [intOf]; omega
        · have h2 : ((p.2.length : Int) % 2 == 0) = false := by simp; omega
          have HX := Lib.hid (show sgnOf (cs.take (k + 1)) = sgnOf (cs.take k) by rw [HR.out]; unfold sgStep; rw [if_neg he])
          clear he HR
          generalize p.2.length = m at hcell h2
          generalize sgnOf (cs.take k) = q at HX
          clear hs1
          go_wp2_with fail
          go_roundw
          case rel => exact ⟨k + 1, by go_num, by omega, by rw [HX.out], by trivial⟩
          case measure => simp [intOf]; omega
      · have e : cs.take k = cs := List.take_of_length_le (by omega)
        rw [e]
        go_wp2_with fail
        go_ret2
        exact ⟨rfl, HB2.out⟩
  · rw [show signV zs = 0 by unfold signV; rw [if_neg hz]]
    obtain ⟨A0, c0, rfl⟩ : ∃ A c, v = .slice A zs.length c := by obtain ⟨A, c, e, _⟩ := hv; exact ⟨A, c, e⟩
    generalize chk zs = x at HC hz
    have hx : (x != 0) = true := by simpa using hz
    clear hz hv
    go_enter Tryd.func48, Tryd.ntmps48
    go_wp2_with fail
    refine ((HC _ HV.out).out).mono ?_
    rintro e w1 ⟨rfl, hb1⟩
    have HB := Lib.hid hb1
    clear hb1
    go_wp2_with fail
    go_ret2
    exact ⟨rfl, HB.out⟩
end Go.Proofs.YtpchomhfpfpckaaDoor

namespace Go.Proofs.YtpchomhfpfpckaaDoor
open Go Go.RowKit

theorem sel_take {ps : List Pt} {j : Nat} {p : Pt} (hj : ps[j]? = some p) : ps.take (j + 1) = ps.take j ++ [p] := by
  rw [List.take_add_one, hj]; rfl
theorem lists2_own {W w2 : World} {base : Nat} {v : Value} {xs : List Pt} (h : W.ownsRow base 23 1 v (selV xs).length (selV xs)) (hb : Below w2.heap.size w2 W) (hk : ∀ p ∈ xs, Ints w2 w2.heap.size p.1 p.2) : Lists2 W W.heap.size v (sel xs) := by
  have hl : (selV xs).length = (sel xs).length := by simp [selV]
  refine ⟨?_, fun p hp => ((hk p ((List.mem_filter.1 hp).1)).below hb).more hb.size⟩
  rcases h.2 with ⟨rfl, h0⟩ | ⟨g, cap, cur, rfl, _⟩
  · exact ⟨none, 0, by rw [← hl, h0], fun hp => by omega⟩
  · refine ⟨_, cap, by rw [hl], fun _ => ⟨g, 0, rfl, (h.lt g rfl).2, fun j p hj => ?_⟩⟩
    have hjl : j < (sel xs).length := (List.getElem?_eq_some_iff.1 hj).1
    rw [Nat.zero_add, h.cellAt j (by rw [hl]; omega)]
    simp [selV, hj]

set_option maxRecDepth 100000 in
set_option maxHeartbeats 1000000 in
theorem refCycles_any (v : Value) (zs : List Int) (w : World) (hl : zs.length ≤ 17592186044400) (hv : Ints w w.heap.size v zs) :
    Calls Tryd.prog 46 #[v] w (ListsErr (chk zs) (cyclesV zs) w) := by
  obtain ⟨i1, hi1, hy0, hy1, hy2⟩ := info_parts info23'
  have HC := fun W h => Lib.hid (refCheck_any v zs W hl h)
  have HV := Lib.hid hv
  by_cases hz : chk zs = 0
  · obtain ⟨h1, h64, hf⟩ := chk_zero hz
    have HA := fun W h => Lib.hid (all_any v zs W hf h1 h64 h)
    rw [show cyclesV zs = selC (cycs zs) by unfold cyclesV; rw [if_pos hz]]
    rw [hz] at HC ⊢
    have hcc := cycs_count zs h64
    unfold AllL at HA
    generalize cycs zs = cs at HA hcc
    obtain ⟨A0, c0, rfl⟩ : ∃ A c, v = .slice A zs.length c := by obtain ⟨A, c, e, _⟩ := hv; exact ⟨A, c, e⟩
    clear hv hz hf
    go_enter Tryd.func46, Tryd.ntmps46
    go_wp2_with fail
    refine ((HC _ HV.out).out).mono ?_
    rintro e w1 ⟨rfl, hb1⟩
    have HB := Lib.hid hb1
    have HV1 := Lib.hid ((HV.out.below hb1).more hb1.size)
    clear hb1
    go_wp2_with fail
    refine ((HA _ HV1.out).out).mono ?_
    rintro e w2 ⟨r, ps, rfl, hL, hP, hb2⟩
    obtain ⟨Ar, cr, rfl⟩ := hL.form
    have HB2 := Lib.hid (HB.out.trans (hb2.mono HB.out.size))
    have hs2 := HB2.out.size
    have HL := Lib.hid hL
    have HP := Lib.hid hP
    have hpl : ps.length = cs.length := by rw [← hP]; simp
    clear hL hP hb2 HA HC
    go_wp2_with fail
    go_loopw [5, 7] (fun s i wr => ∃ k : Nat, i = .int .i64 k ∧ k ≤ ps.length ∧ wr.ownsRow w2.heap.size 23 1 s (selV (ps.take k)).length (selV (ps.take k)) ∧ Below w2.heap.size w2 wr) (fun _ i _ => ps.length - (intOf i).toNat)
    case atStart => exact ⟨0, rfl, Nat.zero_le _, World.ownsRow_nil _ _ _ _, Below.refl _ _⟩
    case round =>
      obtain ⟨k, rfl, hk, hO, hB⟩ := hrel
      have hBs := hB.size
      by_cases hlt : k < ps.length
      · obtain ⟨b, o, c, A, c', p, e, hb, hpk, hp1, hcell0, _⟩ := HL.out.at hlt
        injection e with e1 _ e3
        subst e1; subst e3
        have hcell : wr.cell? ⟨b, o + k, none⟩ = some (.slice A p.2.length c') := (hB.cell (p := ⟨b, o + k, none⟩) hb).trans hcell0
        have HT := Lib.hid (sel_take hpk)
        have hlen : (selV (ps.take k)).length ≤ 64 := by have := sel_len (ps.take k); simp at this ⊢; omega
        clear hcell0 hpk
        by_cases h1c : 1 < p.2.length
        · have h2 : (1 : Int) < (p.2.length : Int) := by omega
          have HE : Hid (selV (ps.take (k + 1)) = selV (ps.take k) ++ [.slice A p.2.length c']) := by
            show _ = _
            rw [HT.out]
            unfold selV
            rw [sel_in h1c]
            simp [hp1]
          have HO2 := Lib.hid (World.ownsRow.alloc hO (.cells #[.slice A p.2.length c'] 23))
          have HB3 := Lib.hid hB
          have HOl := Lib.hid (fun q hq => (hO.lt q hq).1)
          obtain ⟨As, cs', rfl⟩ := slice_of_own hO
          clear hO hB h1c hp1 HT
          generalize selV (ps.take k) = s at HO2 HE hlen HOl
          generalize p.2.length = m at hcell h2 HO2 HE
          go_wp2_with (at_builtin; refine wpList_append_own _ rfl (.tmp 27) (.tmp 32) 32 rfl w2.heap.size 23 i1 (.slice none 0 0) 1 24 Tryd.underlying32 hi1 hy0 hy1 hy2 rfl (by decide) _ _ _ rfl HO2.out ⟨wr.heap.size, 0, none⟩ 1 1 [.slice A m c'] rfl rfl (cell_at_ _ _ _ rfl) (by simp [Value.oneCell']) (by unfold maxLen; omega) (by omega) (by simp; omega) ?_; intro v1 w4 hown' hgrow _; have HX := Lib.hid hown'; have HBX := Lib.hid ((HB3.out.alloc hBs _).grown hgrow (by simp; omega) HOl.out); clear hown' hgrow)
          go_roundw
          case rel => exact ⟨k + 1, by go_num, by omega, by rw [HE.out, List.length_append]; exact HX.out, HBX.out⟩
          case measure => simp [intOf]; omega
        · have h2 : ¬ (1 : Int) < (p.2.length : Int) := by omega
          have HE : Hid (selV (ps.take (k + 1)) = selV (ps.take k)) := by
            show _ = _
            rw [HT.out]
            unfold selV
            rw [sel_out h1c]
          have HO2 := Lib.hid hO
          have HB3 := Lib.hid hB
          obtain ⟨As, cs', rfl⟩ := slice_of_own hO
          clear hO hB h1c hp1 HT
          generalize selV (ps.take k) = s at HO2 HE hlen
          generalize p.2.length = m at hcell h2
          go_wp2_with fail
          go_roundw
          case rel => exact ⟨k + 1, by go_num, by omega, by rw [HE.out]; exact HO2.out, HB3.out⟩
          case measure => simp [intOf]; omega
      · have e : ps.take k = ps := List.take_of_length_le (by omega)
        rw [e] at hO
        have HX := Lib.hid (lists2_own hO hB HL.out.2)
        have HBX := Lib.hid (HB2.out.trans (hB.mono hs2))
        have HE := Lib.hid (show (sel ps).map Prod.snd = selC cs by rw [sel_snd, HP.out])
        obtain ⟨As, cs', rfl⟩ := slice_of_own hO
        clear hO hB e
        go_wp2_with fail
        go_ret2
        exact ⟨_, sel ps, rfl, HBX.out, HX.out, HE.out⟩
  · rw [show cyclesV zs = [] by unfold cyclesV; rw [if_neg hz]]
    obtain ⟨A0, c0, rfl⟩ : ∃ A c, v = .slice A zs.length c := by obtain ⟨A, c, e, _⟩ := hv; exact ⟨A, c, e⟩
    generalize chk zs = x at HC hz
    have hx : (x != 0) = true := by simpa using hz
    clear hz hv
    go_enter Tryd.func46, Tryd.ntmps46
    go_wp2_with fail
    refine ((HC _ HV.out).out).mono ?_
    rintro e w1 ⟨rfl, hb1⟩
    have HB := Lib.hid hb1
    clear hb1
    go_wp2_with fail
    go_ret2
    exact ⟨.slice none 0 0, [], rfl, HB.out, ⟨⟨none, 0, rfl, fun h => absurd h (by simp)⟩, fun p hp => by cases hp⟩, rfl⟩
end Go.Proofs.YtpchomhfpfpckaaDoor
