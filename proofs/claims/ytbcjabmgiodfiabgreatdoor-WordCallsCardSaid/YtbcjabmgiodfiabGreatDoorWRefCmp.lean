/- The reference's size, before, Cmp, Check; word.inRange and word.Check in general (seat ZD alone). -/
import Derived.Test.YtbcjabmgiodfiabGreatDoorWCmp
namespace Go.Proofs.YtbcjabmgiodfiabGreatDoor
open Go Go.RowKit

theorem sameW {P : Program} {f : FuncId} {args : Array Value} {w : World} {v : Value} (h : Calls P f args w fun e w' => e = .returned v ∧ w = w') : Calls P f args w fun e w' => e = .returned v ∧ w' = w := h.mono fun _ _ h => ⟨h.1, h.2.symm⟩

set_option maxRecDepth 100000 in
theorem refSize_any (x : Int) (w : World) (hx : -9223372036854775808 ≤ x ∧ x ≤ 9223372036854775807) :
    Calls Tryz.prog 49 #[.int .i64 x] w fun e w' => e = .returned (.int .u64 (x.natAbs : Int)) ∧ w = w' := by
  by_cases h : x < 0
  · obtain ⟨U, hU⟩ : ∃ U, U = x + 18446744073709551616 := ⟨_, rfl⟩
    have h1 : IntKind.u64.wrap x = U := by rw [IntKind.wrap_u64]; omega
    have h2 : IntKind.u64.wrap (-U) = (x.natAbs : Int) := by rw [IntKind.wrap_u64]; omega
    generalize (x.natAbs : Int) = m at h2
    clear hU hx
    go_enter Tryz.func49, Tryz.ntmps49
    go_wp2_with fail
    go_ret
    exact ⟨rfl, rfl⟩
  · have h1 : IntKind.u64.wrap x = (x.natAbs : Int) := by rw [IntKind.wrap_u64]; omega
    generalize (x.natAbs : Int) = m at h1
    clear hx
    go_enter Tryz.func49, Tryz.ntmps49
    go_wp2_with fail
    go_ret
    exact ⟨rfl, rfl⟩

set_option maxRecDepth 100000 in
theorem refBefore_any (x y : Int) (w : World) (hx : -9223372036854775808 ≤ x ∧ x ≤ 9223372036854775807) (hy : -9223372036854775808 ≤ y ∧ y ≤ 9223372036854775807) :
    Calls Tryz.prog 44 #[.int .i64 x, .int .i64 y] w fun e w' => e = .returned (.bool (befB x y)) ∧ w = w' := by
  have HX := fun W => Lib.hid (refSize_any x W hx)
  have HY := fun W => Lib.hid (refSize_any y W hy)
  by_cases h : x.natAbs < y.natAbs
  · have hr : befB x y = true := by unfold befB; simp [h]
    have h1 : (x.natAbs : Int) < (y.natAbs : Int) := by omega
    rw [hr]
    clear hr h hx hy
    generalize (x.natAbs : Int) = m at HX h1
    generalize (y.natAbs : Int) = m' at HY h1
    go_enter Tryz.func44, Tryz.ntmps44
    go_wp2_with fail
    refine ((HX _).out).mono ?_
    rintro e w1 ⟨rfl, rfl⟩
    go_wp2_with fail
    refine ((HY _).out).mono ?_
    rintro e w1 ⟨rfl, rfl⟩
    go_wp2_with fail
    go_ret
    exact ⟨rfl, rfl⟩
  · by_cases h2 : x.natAbs = y.natAbs
    · have hr : befB x y = decide (y < x) := by unfold befB; simp [h2]
      rw [h2] at HX
      rw [hr]
      clear hr h hx hy h2
      generalize (y.natAbs : Int) = m at HX HY
      have h1 : ¬ m < m := by omega
      have h3 : (m == m) = true := by simp
      go_enter Tryz.func44, Tryz.ntmps44
      go_wp2_with fail
      refine ((HX _).out).mono ?_
      rintro e w1 ⟨rfl, rfl⟩
      go_wp2_with fail
      refine ((HY _).out).mono ?_
      rintro e w1 ⟨rfl, rfl⟩
      go_wp2_with fail
      refine ((HX _).out).mono ?_
      rintro e w1 ⟨rfl, rfl⟩
      go_wp2_with fail
      refine ((HY _).out).mono ?_
      rintro e w1 ⟨rfl, rfl⟩
      go_wp2_with fail
      go_ret
      exact ⟨rfl, rfl⟩
    · have hr : befB x y = false := by unfold befB; simp [h2]; omega
      have h1 : ¬ (x.natAbs : Int) < (y.natAbs : Int) := by omega
      have h3 : ((x.natAbs : Int) == (y.natAbs : Int)) = false := by rw [beq_eq_false_iff_ne]; omega
      rw [hr]
      clear hr h hx hy h2
      generalize (x.natAbs : Int) = m at HX h1 h3
      generalize (y.natAbs : Int) = m' at HY h1 h3
      have h5 : decide (m < m') = false := by simpa using h1
      go_enter Tryz.func44, Tryz.ntmps44
      go_wp2_with fail
      refine ((HX _).out).mono ?_
      rintro e w1 ⟨rfl, rfl⟩
      go_wp2_with fail
      refine ((HY _).out).mono ?_
      rintro e w1 ⟨rfl, rfl⟩
      go_wp2_with fail
      refine ((HX _).out).mono ?_
      rintro e w1 ⟨rfl, rfl⟩
      go_wp2_with fail
      refine ((HY _).out).mono ?_
      rintro e w1 ⟨rfl, rfl⟩
      go_wp2_with fail
      go_ret
      exact ⟨rfl, rfl⟩

set_option maxRecDepth 100000 in
set_option maxHeartbeats 400000 in
theorem refCmp_any (v u : Value) (zs ys : List Int) (w : World) (hl : zs.length ≤ 1000000) (hl' : ys.length ≤ 1000000) (hr : Rng zs) (hr' : Rng ys) (hv : Ints w w.heap.size v zs) (hu : Ints w w.heap.size u ys) :
    Calls Tryz.prog 22 #[v, u] w fun e w' => e = .returned (.int .i64 (cmpW zs ys)) ∧ ∃ n, w' = w.drewN n := by
  obtain ⟨A, c, rfl, h⟩ := hv
  obtain ⟨A', c', rfl, h'⟩ := hu
  by_cases hn : zs.length = ys.length
  · have hat : ∀ j, j < zs.length → ∃ b o b' o', A = some ⟨b, o, none⟩ ∧ A' = some ⟨b', o', none⟩ ∧ w.cell? ⟨b, o + j, none⟩ = some (.int .i64 (zs.getD j 0)) ∧ w.cell? ⟨b', o' + j, none⟩ = some (.int .i64 (ys.getD j 0)) := fun j hj => by
      obtain ⟨b, o, e, _, hc⟩ := h (by omega)
      obtain ⟨b', o', e', _, hc'⟩ := h' (by omega)
      exact ⟨b, o, b', o', e, e', hc j hj, hc' j (by omega)⟩
    have HA := Lib.hid hat
    have HR := Lib.hid hr
    have HR' := Lib.hid hr'
    have HF := fun k => Lib.hid (cmpF_at k zs ys)
    have HG := Lib.hid (cmpF_all zs ys)
    have HN := Lib.hid hn
    rw [show cmpW zs ys = cmpF zs ys from if_pos hn, ← hn]
    have hne : ¬ (zs.length : Int) < (zs.length : Int) := by omega
    clear h h' hat hr hr' hn
    go_enter Tryz.func22, Tryz.ntmps22
    go_wp2
    go_loopw [5] (fun i wr => ∃ k n : Nat, i = .int .i64 k ∧ k ≤ zs.length ∧ Hid (∀ j, j < k → cl (zs.getD j 0) (ys.getD j 0) = 0) ∧ wr = w.drewN n) (fun i _ => zs.length - (intOf i).toNat)
    case atStart => exact ⟨0, 0, rfl, Nat.zero_le _, (fun j hj => absurd hj (by omega)), rfl⟩
    case round =>
      obtain ⟨k, n, rfl, hk, HE, hwr⟩ := hrel
      have HW := Lib.hid (show ∀ m q, q = wr.drewN m → ∃ n', q = w.drewN n' from fun m q e => ⟨n + m, by rw [e, hwr, World.drewN_drewN]⟩)
      have hcl : ∀ p, wr.cell? p = w.cell? p := fun p => by rw [hwr]; rfl
      by_cases hlt : k < zs.length
      · obtain ⟨b, o, b', o', rfl, rfl, hc, hc'⟩ := HA.out k hlt
        rw [← hcl] at hc hc'
        have hky : k < ys.length := by have := HN.out; omega
        have H1 := fun W => refBefore_any (zs.getD k 0) (ys.getD k 0) W (HR.out.at hlt) (HR'.out.at hky)
        have H2 := fun W => refBefore_any (ys.getD k 0) (zs.getD k 0) W (HR'.out.at hky) (HR.out.at hlt)
        have HX := Lib.hid (HF k)
        clear hcl hwr HG HF
        have B1 := @befB_l (zs.getD k 0) (ys.getD k 0)
        have B2 := @befB_r (zs.getD k 0) (ys.getD k 0)
        rcases cl_cases (zs.getD k 0) (ys.getD k 0) with hz | hz | hz
        · rw [B1.2 hz] at H1
          have HY := Lib.hid (HX.out.out HE hlt hky (by rw [hz]; decide))
          rw [hz] at HY
          have HH1 := Lib.hid (fun W => sameW (H1 W))
          clear hz HX HE B1 B2 H1 H2
          generalize zs.getD k 0 = x at hc HH1
          generalize ys.getD k 0 = y at hc' HH1
          go_wp2
          go_quiet (refine Calls.quiet_of_same (HH1.out _))
          go_wp2
          go_ret
          obtain ⟨n', e⟩ := HW.out _ _ rfl
          exact ⟨by rw [HY.out]; rfl, n', e⟩
        · have hb1 : befB (zs.getD k 0) (ys.getD k 0) = false := by
            cases h : befB (zs.getD k 0) (ys.getD k 0) with
            | false => rfl
            | true => rw [hz] at B1; exact absurd (B1.1 h) (by decide)
          have hb2 : befB (ys.getD k 0) (zs.getD k 0) = false := by
            cases h : befB (ys.getD k 0) (zs.getD k 0) with
            | false => rfl
            | true => rw [hz] at B2; exact absurd (B2.1 h) (by decide)
          rw [hb1] at H1
          rw [hb2] at H2
          have HE2 : Hid (∀ j, j < k + 1 → cl (zs.getD j 0) (ys.getD j 0) = 0) := fun j hj => by
            by_cases e : j = k
            · subst e; exact hz
            · exact HE j (by omega)
          have HH1 := Lib.hid (fun W => sameW (H1 W))
          have HH2 := Lib.hid (fun W => sameW (H2 W))
          clear hz HX HE B1 B2 H1 H2 hb1 hb2
          generalize zs.getD k 0 = x at hc HH1 HH2
          generalize ys.getD k 0 = y at hc' HH1 HH2
          go_wp2
          go_quiet (refine Calls.quiet_of_same (HH1.out _))
          generalize hW1 : wr.drewN nq = W1
          have HW1 := Lib.hid (show ∀ m q, q = W1.drewN m → ∃ n', q = w.drewN n' from fun m q e => by
            subst hW1
            exact HW.out (nq + m) q (by rw [e, World.drewN_drewN]))
          have hd : W1.cell? ⟨b, o + k, none⟩ = some (.int .i64 x) := by rw [← hW1]; exact hc
          have hd' : W1.cell? ⟨b', o' + k, none⟩ = some (.int .i64 y) := by rw [← hW1]; exact hc'
          clear hW1 hc hc' HW HH1
          go_wp2
          go_quiet (refine Calls.quiet_of_same (HH2.out _))
          go_wp2
          go_roundw
          case rel => obtain ⟨n', e⟩ := HW1.out _ _ rfl; exact ⟨k + 1, n', by go_num, by omega, HE2, e⟩
          case measure => simp [intOf]; omega
        · have hb1 : befB (zs.getD k 0) (ys.getD k 0) = false := by
            cases h : befB (zs.getD k 0) (ys.getD k 0) with
            | false => rfl
            | true => rw [hz] at B1; exact absurd (B1.1 h) (by decide)
          rw [B2.2 hz] at H2
          rw [hb1] at H1
          have HY := Lib.hid (HX.out.out HE hlt hky (by rw [hz]; decide))
          rw [hz] at HY
          have HH1 := Lib.hid (fun W => sameW (H1 W))
          have HH2 := Lib.hid (fun W => sameW (H2 W))
          clear hz HX HE B1 B2 H1 H2 hb1
          generalize zs.getD k 0 = x at hc HH1 HH2
          generalize ys.getD k 0 = y at hc' HH1 HH2
          go_wp2
          go_quiet (refine Calls.quiet_of_same (HH1.out _))
          generalize hW1 : wr.drewN nq = W1
          have HW1 := Lib.hid (show ∀ m q, q = W1.drewN m → ∃ n', q = w.drewN n' from fun m q e => by
            subst hW1
            exact HW.out (nq + m) q (by rw [e, World.drewN_drewN]))
          have hd : W1.cell? ⟨b, o + k, none⟩ = some (.int .i64 x) := by rw [← hW1]; exact hc
          have hd' : W1.cell? ⟨b', o' + k, none⟩ = some (.int .i64 y) := by rw [← hW1]; exact hc'
          clear hW1 hc hc' HW HH1
          go_wp2
          go_quiet (refine Calls.quiet_of_same (HH2.out _))
          go_wp2
          go_ret
          obtain ⟨n', e⟩ := HW1.out _ _ rfl
          exact ⟨by rw [HY.out]; rfl, n', e⟩
      · have HY := Lib.hid (HG.out (fun j hj => HE j (by omega)))
        clear HG HF HE hcl hwr
        go_wp2
        go_ret
        obtain ⟨n', e⟩ := HW.out 0 _ rfl
        exact ⟨by rw [HY.out]; rfl, n', e⟩
  · rw [show cmpW zs ys = sgn zs.length ys.length from if_neg hn]
    have hs := sgn_cases (zs.length : Int) (ys.length : Int)
    clear h h' hr hr'
    rcases hs with ⟨h1, h2⟩ | ⟨h1, h2⟩ | ⟨h1, h2⟩
    · rw [h2]
      clear h2
      go_enter Tryz.func22, Tryz.ntmps22
      go_wp2
      go_ret
      exact ⟨rfl, 0, rfl⟩
    · omega
    · rw [h2]
      have h3 : ¬ (zs.length : Int) < (ys.length : Int) := by omega
      clear h2
      go_enter Tryz.func22, Tryz.ntmps22
      go_wp2
      go_ret
      exact ⟨rfl, 0, rfl⟩
end Go.Proofs.YtbcjabmgiodfiabGreatDoor
