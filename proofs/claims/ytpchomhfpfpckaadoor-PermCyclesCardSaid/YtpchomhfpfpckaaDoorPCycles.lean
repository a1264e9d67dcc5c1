/- cayleykit.SameLists upon equal lists; PermCycles' walk. -/
import Derived.Test.YtpchomhfpfpckaaDoorRefOrd
import Derived.Test.YtpchomhfpfpckaaDoorPCalls
namespace Go.Proofs.YtpchomhfpfpckaaDoor
open Go Go.RowKit

set_option maxRecDepth 100000 in
set_option maxHeartbeats 1000000 in
theorem sameLists_eq (v u : Value) (ps qs : List Pt) (w : World) (hl : ps.length ≤ 1000) (hm : ∀ p ∈ ps, p.2.length ≤ 1000) (he : ps.map Prod.snd = qs.map Prod.snd) (hv : Lists2 w w.heap.size v ps) (hu : Lists2 w w.heap.size u qs) :
    Calls Tryd.prog 23 #[v, u] w fun e w' => e = .returned (.bool true) ∧ ∃ n, w' = w.drewN n := by
  obtain ⟨Av, cv, rfl⟩ := hv.form
  obtain ⟨Au, cu, rfl⟩ := hu.form
  have hlen : qs.length = ps.length := by have := congrArg List.length he; simpa using this.symm
  have hat : ∀ k, k < ps.length → ∃ b o b' o' A A' c c' m, Av = some ⟨b, o, none⟩ ∧ Au = some ⟨b', o', none⟩ ∧ w.cell? ⟨b, o + k, none⟩ = some (.slice A m c) ∧ w.cell? ⟨b', o' + k, none⟩ = some (.slice A' m c') ∧ ∀ W, (∃ n, W = w.drewN n) → Hid (Calls Tryd.prog 24 #[.slice A m c, .slice A' m c'] W fun e w' => e = .returned (.bool true) ∧ ∃ n, w' = W.drewN n) := fun k hk => by
    obtain ⟨b, o, c1, A, c, p, e1, hb, hp, hp1, hc, hi⟩ := hv.at hk
    obtain ⟨b', o', c1', A', c', q, e1', hb', hq, hq1, hc', hi'⟩ := hu.at (show k < qs.length by omega)
    have hpq : p.2 = q.2 := by
      have h1 : (ps.map Prod.snd)[k]? = some p.2 := by simp [hp]
      have h2 : (qs.map Prod.snd)[k]? = some q.2 := by simp [hq]
      rw [he, h2] at h1
      injection h1 with h1
      exact h1.symm
    injection e1 with f1 _ _
    injection e1' with f1' _ _
    have hpm := hm p (List.mem_of_getElem? hp)
    rw [← hpq] at hc' hq1 hi'
    refine ⟨b, o, b', o', A, A', c, c', p.2.length, f1, f1', hc, hc', ?_⟩
    rintro W ⟨n, rfl⟩
    rw [hp1] at hi
    rw [hq1] at hi'
    exact sameR p.2 _ _ _ hpm hi hi'
  have HA := Lib.hid hat
  have hb : ((ps.length : Int) != (ps.length : Int)) = false := by simp
  rw [hlen]
  clear hv hu hat he hm hlen
  go_enter Tryd.func23, Tryd.ntmps23
  go_wp2
  go_loopw [5] (fun i wr => ∃ k n : Nat, i = .int .i64 k ∧ k ≤ ps.length ∧ wr = w.drewN n) (fun i _ => ps.length - (intOf i).toNat)
  case atStart => exact ⟨0, 0, rfl, Nat.zero_le _, rfl⟩
  case round =>
    obtain ⟨k, n, rfl, hk, hwr⟩ := hrel
    have HW := Lib.hid (show ∀ m q, q = wr.drewN m → ∃ n', q = w.drewN n' from fun m q e => ⟨n + m, by rw [e, hwr, World.drewN_drewN]⟩)
    by_cases hlt : k < ps.length
    · obtain ⟨b, o, b', o', A, A', c, c', m, rfl, rfl, hc, hc', hS⟩ := HA.out k hlt
      have hd : wr.cell? ⟨b, o + k, none⟩ = some (.slice A m c) := by rw [hwr]; exact hc
      have hd' : wr.cell? ⟨b', o' + k, none⟩ = some (.slice A' m c') := by rw [hwr]; exact hc'
      have HS := Lib.hid (fun n => hS (wr.drewN n) (HW.out n _ rfl))
      clear hS hc hc' hwr
      go_wp2
      go_quiet (refine Calls.quiet_of (HS.out _).out)
      go_wp2
      go_roundw
      case rel => obtain ⟨n', e⟩ := HW.out _ _ rfl; exact ⟨k + 1, n', by go_num, by omega, e⟩
      case measure => simp [intOf]; omega
    · clear hwr
      go_wp2
      go_ret
      obtain ⟨n', e⟩ := HW.out 0 _ rfl
      exact ⟨rfl, n', e⟩
end Go.Proofs.YtpchomhfpfpckaaDoor
