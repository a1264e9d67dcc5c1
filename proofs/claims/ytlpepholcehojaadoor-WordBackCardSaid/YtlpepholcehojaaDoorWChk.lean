/- word.inRange and word.Check in general, the reference's Check; the law's 'long' (seat ZD alone). -/
import Derived.Test.YtlpepholcehojaaDoorWCmp
import Derived.Test.YtlpepholcehojaaDoorWConcat
namespace Go.Proofs.YtlpepholcehojaaDoor
open Go Go.RowKit

set_option maxRecDepth 100000 in
set_option maxHeartbeats 400000 in
theorem inRange_any (g : Nat) (v : Value) (zs : List Int) (w : World) (hl : zs.length ≤ 1000000000) (hg : g ≤ 1000000) (hr : Rng zs) (hv : Ints w w.heap.size v zs) :
    Calls Tryd.prog 19 #[v, .int .i64 g] w fun e w' => e = .returned (.bool (okW g zs)) ∧ w = w' := by
  obtain ⟨A, c, rfl, h⟩ := hv
  have hat : ∀ j, j < zs.length → ∃ b o, A = some ⟨b, o, none⟩ ∧ b < w.heap.size ∧ w.cell? ⟨b, o + j, none⟩ = some (.int .i64 (zs.getD j 0)) := fun j hj => by
    obtain ⟨b, o, e, hb, hc⟩ := h (by omega)
    exact ⟨b, o, e, hb, hc j hj⟩
  have HA := Lib.hid hat
  have HR := Lib.hid hr
  have HBAD := fun k => Lib.hid (@okW_bad g zs k)
  have HALL := Lib.hid (@okW_all g zs)
  have hgw : IntKind.u64.wrap (g : Int) = g := by rw [IntKind.wrap_u64]; omega
  clear h hat hr
  generalize okW g zs = r at HBAD HALL
  go_enter Tryd.func19, Tryd.ntmps19
  go_wp2
  go_loopw [9] (fun i wr => ∃ k : Nat, i = .int .i64 k ∧ k ≤ zs.length ∧ Hid (∀ j, j < k → ¬ (zs.getD j 0 = 0 ∨ g < (zs.getD j 0).natAbs)) ∧ w = wr) (fun i _ => zs.length - (intOf i).toNat)
  case atStart => exact ⟨0, rfl, Nat.zero_le _, (fun j hj => absurd hj (by omega)), rfl⟩
  case round =>
    obtain ⟨k, rfl, hk, HE, rfl⟩ := hrel
    by_cases hlt : k < zs.length
    · obtain ⟨b, o, rfl, hb, hc⟩ := HA.out k hlt
      have hxr := HR.out.at hlt
      have HS := fun W => Lib.hid (size_any (zs.getD k 0) W hxr)
      have HK := Lib.hid (HBAD k)
      have HE2 : ¬ (zs.getD k 0 = 0 ∨ g < (zs.getD k 0).natAbs) → Hid (∀ j, j < k + 1 → ¬ (zs.getD j 0 = 0 ∨ g < (zs.getD j 0).natAbs)) := fun e j hj => by
        by_cases e' : j = k
        · subst e'; exact e
        · exact HE j (by omega)
      have HE3 := Lib.hid HE2
      clear HE2 hxr HBAD HALL HE
      generalize zs.getD k 0 = x at hc HS HK HE3
      by_cases h0 : x = 0
      · have h1 : (x == 0) = true := by simpa using h0
        have HX := HK.out.out hlt (.inl h0)
        subst HX
        clear HE3 h0 HK HS
        go_wp2_with fail
        go_ret
        exact ⟨rfl, rfl⟩
      · have h1 : (x == 0) = false := by simpa using h0
        by_cases hn : g < x.natAbs
        · have HX := HK.out.out hlt (.inr hn)
          subst HX
          have h4 : (g : Int) < (x.natAbs : Int) := by omega
          clear HE3 h0 HK hn
          generalize x.natAbs = m at h4 HS
          go_wp2_with fail
          refine ((HS _).out).mono ?_
          rintro e w1 ⟨rfl, rfl⟩
          go_wp2_with fail
          go_ret
          exact ⟨rfl, rfl⟩
        · have HX := Lib.hid (HE3.out (by omega))
          have h4 : ¬ (g : Int) < (x.natAbs : Int) := by omega
          clear HE3 h0 HK hn
          generalize x.natAbs = m at h4 HS
          go_wp2_with fail
          refine ((HS _).out).mono ?_
          rintro e w1 ⟨rfl, rfl⟩
          go_wp2_with fail
          go_roundw
          case rel => exact ⟨k + 1, by go_num, by omega, HX.out, by trivial⟩
          case measure => simp [intOf]; omega
    · have HX := HALL.out (fun j hj => HE j (by omega))
      subst HX
      clear HE HBAD
      go_wp2_with fail
      go_ret
      exact ⟨rfl, rfl⟩

theorem chkW_gens {g : Int} (zs : List Int) (h : g < 1 ∨ 16 < g) : chkW g zs = 2 := if_pos h
theorem chkW_long {g : Int} {zs : List Int} (h : ¬ (g < 1 ∨ 16 < g)) (h2 : 4000 < zs.length) : chkW g zs = 4 := by unfold chkW; rw [if_neg h, if_pos h2]
theorem chkW_in {g : Int} {zs : List Int} (h : ¬ (g < 1 ∨ 16 < g)) (h2 : ¬ 4000 < zs.length) : chkW g zs = if okW g.toNat zs then 0 else 2 := by unfold chkW; rw [if_neg h, if_neg h2]

set_option maxRecDepth 100000 in
set_option maxHeartbeats 400000 in
theorem Check_any (g : Int) (v : Value) (zs : List Int) (w : World) (hl : zs.length ≤ 1000000000) (hr : Rng zs) (hv : Ints w w.heap.size v zs) :
    Calls Tryd.prog 23 #[v, .int .i64 g] w fun e w' => e = .returned (.int .i64 (chkW g zs)) ∧ w = w' := by
  by_cases h1 : g < 1
  · rw [chkW_gens zs (.inl h1)]
    obtain ⟨A, c, rfl, h⟩ := hv
    clear h hr
    go_enter Tryd.func23, Tryd.ntmps23
    go_wp2_with fail
    go_ret
    exact ⟨rfl, rfl⟩
  · by_cases h2 : 16 < g
    · rw [chkW_gens zs (.inr h2)]
      obtain ⟨A, c, rfl, h⟩ := hv
      clear h hr
      go_enter Tryd.func23, Tryd.ntmps23
      go_wp2_with fail
      go_ret
      exact ⟨rfl, rfl⟩
    · have hn : ¬ (g < 1 ∨ 16 < g) := by omega
      by_cases h3 : 4000 < zs.length
      · rw [chkW_long hn h3]
        obtain ⟨A, c, rfl, h⟩ := hv
        have h4 : (4000 : Int) < (zs.length : Int) := by omega
        clear h hr hn h3
        go_enter Tryd.func23, Tryd.ntmps23
        go_wp2_with fail
        go_ret
        exact ⟨rfl, rfl⟩
      · rw [chkW_in hn h3]
        obtain ⟨m, rfl⟩ : ∃ m : Nat, g = (m : Int) := ⟨g.toNat, by omega⟩
        have HI := fun W h => Lib.hid (inRange_any m v zs W hl (by omega) hr h)
        rw [Int.toNat_natCast]
        have HV := Lib.hid hv
        obtain ⟨A, c, rfl, h⟩ := hv
        have h4 : ¬ (4000 : Int) < (zs.length : Int) := by omega
        clear h hr hn h3
        cases hb : okW m zs with
        | true =>
          rw [hb] at HI
          go_enter Tryd.func23, Tryd.ntmps23
          go_wp2_with fail
          refine ((HI _ HV.out).out).mono ?_
          rintro e w1 ⟨rfl, rfl⟩
          go_wp2_with fail
          go_ret
          exact ⟨rfl, rfl⟩
        | false =>
          rw [hb] at HI
          go_enter Tryd.func23, Tryd.ntmps23
          go_wp2_with fail
          refine ((HI _ HV.out).out).mono ?_
          rintro e w1 ⟨rfl, rfl⟩
          go_wp2_with fail
          go_ret
          exact ⟨rfl, rfl⟩

def longB (ps : List (Value × List Int)) : Bool := ps.any fun p => decide (300 < p.2.length)
theorem longB_some {ps : List (Value × List Int)} {p : Value × List Int} {k : Nat} (hk : ps[k]? = some p) (h : 300 < p.2.length) : longB ps = true :=
  List.any_eq_true.2 ⟨p, List.mem_of_getElem? hk, decide_eq_true h⟩
theorem longB_none {ps : List (Value × List Int)} (h : ∀ j p, j < ps.length → ps[j]? = some p → ¬ 300 < p.2.length) : longB ps = false := by
  refine List.any_eq_false.2 fun p hp => ?_
  obtain ⟨j, hj, rfl⟩ := List.getElem_of_mem hp
  rw [decide_eq_true_iff]
  exact h j _ hj (List.getElem?_eq_getElem hj)

end Go.Proofs.YtlpepholcehojaaDoor