/- cayleykit.SameLists upon equal lists, apart from the reference. -/
import Derived.Test.YtpchomhfpfpckaaDoorCyclesC
import Derived.Test.YtpchomhfpfpckaaDoorLives
import Derived.BigQuiet
import Derived.Deep.QuietTactic
namespace Go.Proofs.YtpchomhfpfpckaaDoor
open Go Go.RowKit

theorem Lists2.atN {w : World} {B : Nat} {v : Value} {ps : List Pt} (h : Lists2 w B v ps) {j : Nat} (hj : j < ps.length) :
    ∃ b o c A c' p, v = .slice (some ⟨b, o, none⟩) ps.length c ∧ b < B ∧ ps[j]? = some p ∧ p.1 = .slice A p.2.length c' ∧ w.cell? ⟨b, o + j, none⟩ = some (.slice A p.2.length c') ∧ Ints w B p.1 p.2 := by
  obtain ⟨⟨A, c, rfl, h1⟩, h2⟩ := h
  obtain ⟨b, o, rfl, hb, hc⟩ := h1 (by omega)
  have hp : ps[j]? = some ps[j] := List.getElem?_eq_getElem hj
  have hI := h2 ps[j] (List.getElem_mem hj)
  obtain ⟨A', c', e, _⟩ := id hI
  exact ⟨b, o, c, A', c', ps[j], rfl, hb, hp, e, by have := hc j _ hp; rwa [e] at this, hI⟩
theorem Lists2.formN {w : World} {B : Nat} {v : Value} {ps : List Pt} (h : Lists2 w B v ps) : ∃ A c, v = .slice A ps.length c := by obtain ⟨⟨A, c, e, _⟩, _⟩ := h; exact ⟨A, c, e⟩
theorem Lists2.moreN {w : World} {B B' : Nat} {v : Value} {ps : List Pt} (h : Lists2 w B v ps) (hB : B ≤ B') : Lists2 w B' v ps := by
  obtain ⟨⟨A, c, e, h1⟩, h2⟩ := h
  refine ⟨⟨A, c, e, fun hn => ?_⟩, fun p hp => (h2 p hp).more hB⟩
  obtain ⟨b, o, e', hb, hc⟩ := h1 hn
  exact ⟨b, o, e', by omega, hc⟩
theorem Lists2.belowN {w w' : World} {B : Nat} {v : Value} {ps : List Pt} (h : Lists2 w B v ps) (hb : Below B w w') : Lists2 w' B v ps := by
  obtain ⟨⟨A, c, e, h1⟩, h2⟩ := h
  refine ⟨⟨A, c, e, fun hn => ?_⟩, fun p hp => (h2 p hp).below hb⟩
  obtain ⟨b, o, e', hlt, hc⟩ := h1 hn
  exact ⟨b, o, e', hlt, fun j p hj => (hb.cell (p := ⟨b, o + j, none⟩) hlt).trans (hc j p hj)⟩
theorem Lists2.growN {w w' : World} {v : Value} {ps : List Pt} (h : Lists2 w w.heap.size v ps) (hb : Below w.heap.size w w') : Lists2 w' w'.heap.size v ps := (h.belowN hb).moreN hb.size
theorem sameRn (l : List Int) (v u : Value) (w : World) (hl : l.length ≤ 1000) (hv : Ints w w.heap.size v l) (hu : Ints w w.heap.size u l) : Calls Tryd.prog 24 #[v, u] w fun e w' => e = .returned (.bool true) ∧ ∃ m, w' = w.drewN m := by
  have := same_any w.heap.size v u l l w (by omega) hv hu
  rw [show sameB l l = true from decide_eq_true rfl] at this
  exact this

set_option maxRecDepth 100000 in
set_option maxHeartbeats 1000000 in
theorem sameLists_n (v u : Value) (ps qs : List Pt) (w : World) (hl : ps.length ≤ 1000) (hm : ∀ p ∈ ps, p.2.length ≤ 1000) (he : ps.map Prod.snd = qs.map Prod.snd) (hv : Lists2 w w.heap.size v ps) (hu : Lists2 w w.heap.size u qs) :
    Calls Tryd.prog 23 #[v, u] w fun e w' => e = .returned (.bool true) ∧ ∃ n, w' = w.drewN n := by
  obtain ⟨Av, cv, rfl⟩ := hv.formN
  obtain ⟨Au, cu, rfl⟩ := hu.formN
  have hlen : qs.length = ps.length := by have := congrArg List.length he; simpa using this.symm
  have hat : ∀ k, k < ps.length → ∃ b o b' o' A A' c c' m, Av = some ⟨b, o, none⟩ ∧ Au = some ⟨b', o', none⟩ ∧ w.cell? ⟨b, o + k, none⟩ = some (.slice A m c) ∧ w.cell? ⟨b', o' + k, none⟩ = some (.slice A' m c') ∧ ∀ W, (∃ n, W = w.drewN n) → Hid (Calls Tryd.prog 24 #[.slice A m c, .slice A' m c'] W fun e w' => e = .returned (.bool true) ∧ ∃ n, w' = W.drewN n) := fun k hk => by
    obtain ⟨b, o, c1, A, c, p, e1, hb, hp, hp1, hc, hi⟩ := hv.atN hk
    obtain ⟨b', o', c1', A', c', q, e1', hb', hq, hq1, hc', hi'⟩ := hu.atN (show k < qs.length by omega)
    have hpq : p.2 = q.2 := by
      have h1 : (ps.map Prod.snd)[k]? = some p.2 := by simp [hp]
      have h2 : (qs.map Prod.snd)[k]? = some q.2 := by simp [hq]
      rw [he, h2] at h1
      injection h1 with h1
      exact h1.symm
    injection e1 with f1 _ _
    injection e1' with f1' _ _
    have hpm := hm p (List.mem_of_getElem? hp)
    rw [← hpq] at hc' hq1 hi'
    refine ⟨b, o, b', o', A, A', c, c', p.2.length, f1, f1', hc, hc', ?_⟩
    rintro W ⟨n, rfl⟩
    rw [hp1] at hi
    rw [hq1] at hi'
    exact sameRn p.2 _ _ _ hpm hi hi'
  have HA := Lib.hid hat
  have hb : ((ps.length : Int) != (ps.length : Int)) = false := by simp
  rw [hlen]
  clear hv hu hat he hm hlen
  go_enter Tryd.func23, Tryd.ntmps23
  go_wp2
  go_loopw [5] (fun i wr => ∃ k n : Nat, i = .int .i64 k ∧ k ≤ ps.length ∧ wr = w.drewN n) (fun i _ => ps.length - (intOf i).toNat)
  case atStart => exact ⟨0, 0, rfl, Nat.zero_le _, rfl⟩
  case round =>
    obtain ⟨k, n, rfl, hk, hwr⟩ := hrel
    have HW := Lib.hid (show ∀ m q, q = wr.drewN m → ∃ n', q = w.drewN n' from fun m q e => ⟨n + m, by rw [e, hwr, World.drewN_drewN]⟩)
    by_cases hlt : k < ps.length
    · obtain ⟨b, o, b', o', A, A', c, c', m, rfl, rfl, hc, hc', hS⟩ := HA.out k hlt
      have hd : wr.cell? ⟨b, o + k, none⟩ = some (.slice A m c) := by rw [hwr]; exact hc
      have hd' : wr.cell? ⟨b', o' + k, none⟩ = some (.slice A' m c') := by rw [hwr]; exact hc'
      have HS := Lib.hid (fun n => hS (wr.drewN n) (HW.out n _ rfl))
      clear hS hc hc' hwr
      go_wp2
      go_quiet (refine Calls.quiet_of (HS.out _).out)
      go_wp2
      go_roundw
      case rel => obtain ⟨n', e⟩ := HW.out _ _ rfl; exact ⟨k + 1, n', by go_num, by omega, e⟩
      case measure => simp [intOf]; omega
    · clear hwr
      go_wp2
      go_ret
      obtain ⟨n', e⟩ := HW.out 0 _ rfl
      exact ⟨rfl, n', e⟩
end Go.Proofs.YtpchomhfpfpckaaDoor
