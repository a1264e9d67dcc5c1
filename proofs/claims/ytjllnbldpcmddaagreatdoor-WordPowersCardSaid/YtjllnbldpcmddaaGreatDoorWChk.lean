/- word.inRange and word.Check in general, the reference's Check; the law's 'long' (seat ZD alone). -/
import Derived.Test.YtjllnbldpcmddaaGreatDoorWCmp
import Derived.Test.YtjllnbldpcmddaaGreatDoorWConcat
namespace Go.Proofs.YtjllnbldpcmddaaGreatDoor
open Go Go.RowKit

set_option maxRecDepth 100000 in
set_option maxHeartbeats 400000 in
theorem inRange_any (g : Nat) (v : Value) (zs : List Int) (w : World) (hl : zs.length ≤ 1000000000) (hg : g ≤ 1000000) (hr : Rng zs) (hv : Ints w w.heap.size v zs) :
    Calls Tryz.prog 28 #[v, .int .i64 g] w fun e w' => e = .returned (.bool (okW g zs)) ∧ w = w' := by
  obtain ⟨A, c, rfl, h⟩ := hv
  have hat : ∀ j, j < zs.length → ∃ b o, A = some ⟨b, o, none⟩ ∧ b < w.heap.size ∧ w.cell? ⟨b, o + j, none⟩ = some (.int .i64 (zs.getD j 0)) := fun j hj => by
    obtain ⟨b, o, e, hb, hc⟩ := h (by omega)
    exact ⟨b, o, e, hb, hc j hj⟩
  have HA := Lib.hid hat
  have HR := Lib.hid hr
  have HBAD := fun k => Lib.hid (@okW_bad g zs k)
  have HALL := Lib.hid (@okW_all g zs)
  have hgw : IntKind.u64.wrap (g : Int) = g := by rw [IntKind.wrap_u64]; omega
  clear h hat hr
  generalize okW g zs = r at HBAD HALL
  go_enter Tryz.func28, Tryz.ntmps28
  go_wp2
  go_loopw [9] (fun i wr => ∃ k : Nat, i = .int .i64 k ∧ k ≤ zs.length ∧ Hid (∀ j, j < k → ¬ (zs.getD j 0 = 0 ∨ g < (zs.getD j 0).natAbs)) ∧ w = wr) (fun i _ => zs.length - (intOf i).toNat)
  case atStart => exact ⟨0, rfl, Nat.zero_le _, (fun j hj => absurd hj (by omega)), rfl⟩
  case round =>
    obtain ⟨k, rfl, hk, HE, rfl⟩ := hrel
    by_cases hlt : k < zs.length
    · obtain ⟨b, o, rfl, hb, hc⟩ := HA.out k hlt
      have hxr := HR.out.at hlt
      have HS := fun W => Lib.hid (size_any (zs.getD k 0) W hxr)
      have HK := Lib.hid (HBAD k)
      have HE2 : ¬ (zs.getD k 0 = 0 ∨ g < (zs.getD k 0).natAbs) → Hid (∀ j, j < k + 1 → ¬ (zs.getD j 0 = 0 ∨ g < (zs.getD j 0).natAbs)) := fun e j hj => by
        by_cases e' : j = k
        · subst e'; exact e
        · exact HE j (by omega)
      have HE3 := Lib.hid HE2
      clear HE2 hxr HBAD HALL HE
      generalize zs.getD k 0 = x at hc HS HK HE3
      by_cases h0 : x = 0
      · have h1 : (x == 0) = true := by simpa using h0
        have HX := HK.out.out hlt (.inl h0)
        subst HX
        clear HE3 h0 HK HS
        go_wp2_with fail
        go_ret
        exact ⟨rfl, rfl⟩
      · have h1 : (x == 0) = false := by simpa using h0
        by_cases hn : g < x.natAbs
        · have HX := HK.out.out hlt (.inr hn)
          subst HX
          have h4 : (g : Int) < (x.natAbs : Int) := by omega
          clear HE3 h0 HK hn
          generalize x.natAbs = m at h4 HS
          go_wp2_with fail
          refine ((HS _).out).mono ?_
          rintro e w1 ⟨rfl, rfl⟩
          go_wp2_with fail
          go_ret
          exact ⟨rfl, rfl⟩
        · have HX := Lib.hid (HE3.out (by omega))
          have h4 : ¬ (g : Int) < (x.natAbs : Int) := by omega
          clear HE3 h0 HK hn
          generalize x.natAbs = m at h4 HS
          go_wp2_with fail
          refine ((HS _).out).mono ?_
          rintro e w1 ⟨rfl, rfl⟩
          go_wp2_with fail
          go_roundw
          case rel => exact ⟨k + 1, by go_num, by omega, HX.out, by trivial⟩
          case measure => simp [intOf]; omega
    · have HX := HALL.out (fun j hj => HE j (by omega))
      subst HX
      clear HE HBAD
      go_wp2_with fail
      go_ret
      exact ⟨rfl, rfl⟩

theorem chkW_gens {g : Int} (zs : List Int) (h : g < 1 ∨ 16 < g) : chkW g zs = 2 := if_pos h
theorem chkW_long {g : Int} {zs : List Int} (h : ¬ (g < 1 ∨ 16 < g)) (h2 : 4000 < zs.length) : chkW g zs = 4 := by unfold chkW; rw [if_neg h, if_pos h2]
theorem chkW_in {g : Int} {zs : List Int} (h : ¬ (g < 1 ∨ 16 < g)) (h2 : ¬ 4000 < zs.length) : chkW g zs = if okW g.toNat zs then 0 else 2 := by unfold chkW; rw [if_neg h, if_neg h2]

set_option maxRecDepth 100000 in
set_option maxHeartbeats 400000 in
theorem Check_any (g : Int) (v : Value) (zs : List Int) (w : World) (hl : zs.length ≤ 1000000000) (hr : Rng zs) (hv : Ints w w.heap.size v zs) :
    Calls Tryz.prog 32 #[v, .int .i64 g] w fun e w' => e = .returned (.int .i64 (chkW g zs)) ∧ w = w' := by
  by_cases h1 : g < 1
  · rw [chkW_gens zs (.inl h1)]
    obtain ⟨A, c, rfl, h⟩ := hv
    clear h hr
    go_enter Tryz.func32, Tryz.ntmps32
    go_wp2_with fail
    go_ret
    exact ⟨rfl, rfl⟩
  · by_cases h2 : 16 < g
    · rw [chkW_gens zs (.inr h2)]
      obtain ⟨A, c, rfl, h⟩ := hv
      clear h hr
      go_enter Tryz.func32, Tryz.ntmps32
      go_wp2_with fail
      go_ret
      exact ⟨rfl, rfl⟩
    · have hn : ¬ (g < 1 ∨ 16 < g) := by omega
      by_cases h3 : 4000 < zs.length
      · rw [chkW_long hn h3]
        obtain ⟨A, c, rfl, h⟩ := hv
        have h4 : (4000 : Int) < (zs.length : Int) := by omega
        clear h hr hn h3
        go_enter Tryz.func32, Tryz.ntmps32
        go_wp2_with fail
        go_ret
        exact ⟨rfl, rfl⟩
      · rw [chkW_in hn h3]
        obtain ⟨m, rfl⟩ : ∃ m : Nat, g = (m : Int) := ⟨g.toNat, by omega⟩
        have HI := fun W h => Lib.hid (inRange_any m v zs W hl (by omega) hr h)
        rw [Int.toNat_natCast]
        have HV := Lib.hid hv
        obtain ⟨A, c, rfl, h⟩ := hv
        have h4 : ¬ (4000 : Int) < (zs.length : Int) := by omega
        clear h hr hn h3
        cases hb : okW m zs with
        | true =>
          rw [hb] at HI
          go_enter Tryz.func32, Tryz.ntmps32
          go_wp2_with fail
          refine ((HI _ HV.out).out).mono ?_
          rintro e w1 ⟨rfl, rfl⟩
          go_wp2_with fail
          go_ret
          exact ⟨rfl, rfl⟩
        | false =>
          rw [hb] at HI
          go_enter Tryz.func32, Tryz.ntmps32
          go_wp2_with fail
          refine ((HI _ HV.out).out).mono ?_
          rintro e w1 ⟨rfl, rfl⟩
          go_wp2_with fail
          go_ret
          exact ⟨rfl, rfl⟩

set_option maxRecDepth 100000 in
set_option maxHeartbeats 400000 in
theorem refCheck_any (g : Int) (v : Value) (zs : List Int) (w : World) (hl : zs.length ≤ 1000000000) (hv : Ints w w.heap.size v zs) :
    Calls Tryz.prog 33 #[v, .int .i64 g] w fun e w' => e = .returned (.int .i64 (chkW g zs)) ∧ w = w' := by
  by_cases h1 : g < 1
  · rw [chkW_gens zs (.inl h1)]
    obtain ⟨A, c, rfl, h⟩ := hv
    clear h
    go_enter Tryz.func33, Tryz.ntmps33
    go_wp2_with fail
    go_ret
    exact ⟨rfl, rfl⟩
  · by_cases h2 : 16 < g
    · rw [chkW_gens zs (.inr h2)]
      obtain ⟨A, c, rfl, h⟩ := hv
      clear h
      go_enter Tryz.func33, Tryz.ntmps33
      go_wp2_with fail
      go_ret
      exact ⟨rfl, rfl⟩
    · have hn : ¬ (g < 1 ∨ 16 < g) := by omega
      by_cases h3 : 4000 < zs.length
      · rw [chkW_long hn h3]
        obtain ⟨A, c, rfl, h⟩ := hv
        have h4 : (4000 : Int) < (zs.length : Int) := by omega
        clear h hn h3
        go_enter Tryz.func33, Tryz.ntmps33
        go_wp2_with fail
        go_ret
        exact ⟨rfl, rfl⟩
      · rw [chkW_in hn h3]
        have h4 : ¬ (4000 : Int) < (zs.length : Int) := by omega
        have hgn : ((g.toNat : Nat) : Int) = g := by omega
        obtain ⟨A, c, rfl, h⟩ := hv
        have hat : ∀ j, j < zs.length → ∃ b o, A = some ⟨b, o, none⟩ ∧ b < w.heap.size ∧ w.cell? ⟨b, o + j, none⟩ = some (.int .i64 (zs.getD j 0)) := fun j hj => by
          obtain ⟨b, o, e, hb, hc⟩ := h (by omega)
          exact ⟨b, o, e, hb, hc j hj⟩
        have HA := Lib.hid hat
        have HBAD := fun k => Lib.hid (@okW_bad g.toNat zs k)
        have HALL := Lib.hid (@okW_all g.toNat zs)
        have hgw : IntKind.i64.wrap (-g) = -g := by rw [IntKind.wrap_i64]; omega
        generalize g.toNat = m at HBAD HALL hgn
        clear h hat hn h3
        generalize okW m zs = r at HBAD HALL
        go_enter Tryz.func33, Tryz.ntmps33
        go_wp2
        go_loopw [5] (fun i wr => ∃ k : Nat, i = .int .i64 k ∧ k ≤ zs.length ∧ Hid (∀ j, j < k → ¬ (zs.getD j 0 = 0 ∨ m < (zs.getD j 0).natAbs)) ∧ w = wr) (fun i _ => zs.length - (intOf i).toNat)
        case atStart => exact ⟨0, rfl, Nat.zero_le _, (fun j hj => absurd hj (by omega)), rfl⟩
        case round =>
          obtain ⟨k, rfl, hk, HE, rfl⟩ := hrel
          by_cases hlt : k < zs.length
          · obtain ⟨b, o, rfl, hb, hc⟩ := HA.out k hlt
            have HK := Lib.hid (HBAD k)
            have HE2 : ¬ (zs.getD k 0 = 0 ∨ m < (zs.getD k 0).natAbs) → Hid (∀ j, j < k + 1 → ¬ (zs.getD j 0 = 0 ∨ m < (zs.getD j 0).natAbs)) := fun e j hj => by
              by_cases e' : j = k
              · subst e'; exact e
              · exact HE j (by omega)
            have HE3 := Lib.hid HE2
            clear HE2 HBAD HALL HE
            generalize zs.getD k 0 = x at hc HK HE3
            by_cases h0 : x = 0
            · have hb1 : (x == 0) = true := by simpa using h0
              have HX := HK.out.out hlt (.inl h0)
              subst HX
              clear HE3 h0 HK hgn
              go_wp2_with fail
              go_ret
              exact ⟨rfl, rfl⟩
            · have hb1 : (x == 0) = false := by simpa using h0
              by_cases hn : m < x.natAbs
              · have HX := HK.out.out hlt (.inr hn)
                subst HX
                by_cases hs : x < -g
                · clear HE3 h0 HK hn hgn
                  go_wp2_with fail
                  go_ret
                  exact ⟨rfl, rfl⟩
                · have hs2 : g < x := by omega
                  clear HE3 h0 HK hn hgn
                  go_wp2_with fail
                  go_ret
                  exact ⟨rfl, rfl⟩
              · have HX := Lib.hid (HE3.out (by omega))
                have hs : ¬ x < -g := by omega
                have hs2 : ¬ g < x := by omega
                clear HE3 h0 HK hn hgn
                go_wp2_with fail
                go_roundw
                case rel => exact ⟨k + 1, by go_num, by omega, HX.out, by trivial⟩
                case measure => simp [intOf]; omega
          · have HX := HALL.out (fun j hj => HE j (by omega))
            subst HX
            clear HE HBAD hgn
            go_wp2_with fail
            go_ret
            exact ⟨rfl, rfl⟩

def longB (ps : List (Value × List Int)) : Bool := ps.any fun p => decide (300 < p.2.length)
theorem longB_some {ps : List (Value × List Int)} {p : Value × List Int} {k : Nat} (hk : ps[k]? = some p) (h : 300 < p.2.length) : longB ps = true :=
  List.any_eq_true.2 ⟨p, List.mem_of_getElem? hk, decide_eq_true h⟩
theorem longB_none {ps : List (Value × List Int)} (h : ∀ j p, j < ps.length → ps[j]? = some p → ¬ 300 < p.2.length) : longB ps = false := by
  refine List.any_eq_false.2 fun p hp => ?_
  obtain ⟨j, hj, rfl⟩ := List.getElem_of_mem hp
  rw [decide_eq_true_iff]
  exact h j _ hj (List.getElem?_eq_getElem hj)

set_option maxRecDepth 100000 in
set_option maxHeartbeats 400000 in
theorem long_any (v : Value) (ps : List (Value × List Int)) (w : World) (hn : ps.length ≤ 1000) (hv : Lists w w.heap.size v ps) :
    Calls Tryz.prog 5 #[v] w fun e w' => e = .returned (.bool (longB ps)) ∧ w = w' := by
  obtain ⟨⟨A, c, rfl, h⟩, hp⟩ := hv
  have hat : ∀ j, j < ps.length → ∃ p b o A' c', ps[j]? = some p ∧ A = some ⟨b, o, none⟩ ∧ b < w.heap.size ∧ w.cell? ⟨b, o + j, none⟩ = some (.slice A' p.2.length c') := fun j hj => by
    have hj' : ps[j]? = some ps[j] := List.getElem?_eq_getElem hj
    obtain ⟨b, o, e, hb, hc⟩ := h (by omega)
    have hpp := hp ps[j] (List.getElem_mem hj)
    obtain ⟨A', c', e', _⟩ := id hpp
    exact ⟨ps[j], b, o, A', c', hj', e, hb, by have := hc j _ hj'; rwa [e'] at this⟩
  have HA := Lib.hid hat
  have HS := fun p k => Lib.hid (@longB_some ps p k)
  have HN := Lib.hid (@longB_none ps)
  clear h hp hat
  generalize longB ps = r at HS HN
  go_enter Tryz.func5, Tryz.ntmps5
  go_wp2
  go_loopw [3] (fun i wr => ∃ k : Nat, i = .int .i64 k ∧ k ≤ ps.length ∧ Hid (∀ j p, j < k → ps[j]? = some p → ¬ 300 < p.2.length) ∧ w = wr) (fun i _ => ps.length - (intOf i).toNat)
  case atStart => exact ⟨0, rfl, Nat.zero_le _, (fun j _ hj => absurd hj (by omega)), rfl⟩
  case round =>
    obtain ⟨k, rfl, hk, HE, rfl⟩ := hrel
    by_cases hlt : k < ps.length
    · obtain ⟨p, b, o, A', c', hpk, rfl, hb, hc⟩ := HA.out k hlt
      by_cases hg : 300 < p.2.length
      · have HX := (HS p k).out hpk hg
        subst HX
        have hg2 : (300 : Int) < (p.2.length : Int) := by omega
        clear HS HN HE hpk hg
        generalize p.2.length = m at hc hg2
        go_wp2_with fail
        go_ret
        exact ⟨rfl, rfl⟩
      · have hg2 : ¬ (300 : Int) < (p.2.length : Int) := by omega
        have HE2 : Hid (∀ j p, j < k + 1 → ps[j]? = some p → ¬ 300 < p.2.length) := fun j q hj hq => by
          by_cases e : j = k
          · subst e
            rw [hpk] at hq
            injection hq with hq
            subst hq
            exact hg
          · exact HE j q (by omega) hq
        clear HS HN HE hpk hg
        generalize p.2.length = m at hc hg2
        go_wp2_with fail
        go_roundw
        case rel => exact ⟨k + 1, by go_num, by omega, HE2, by trivial⟩
        case measure => simp [intOf]; omega
    · have HX := HN.out (fun j p hj hp => HE j p (by omega) hp)
      subst HX
      clear HS HE
      go_wp2_with fail
      go_ret
      exact ⟨rfl, rfl⟩
end Go.Proofs.YtjllnbldpcmddaaGreatDoor
