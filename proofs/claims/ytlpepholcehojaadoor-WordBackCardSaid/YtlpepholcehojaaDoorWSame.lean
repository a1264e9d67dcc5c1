/- cayleykit.Same, and the lists that live from call to call. -/
import Derived.Test.YtlpepholcehojaaDoorWBase
namespace Go.Proofs.YtlpepholcehojaaDoor
open Go Go.RowKit

/-- What Same answers. -/
def sameB (zs ys : List Int) : Bool := decide (zs = ys)
theorem sameB_len {zs ys : List Int} (h : ¬ zs.length = ys.length) : sameB zs ys = false := decide_eq_false (fun e => h (by rw [e]))
theorem sameB_at {zs ys : List Int} {k : Nat} (h : ¬ zs.getD k 0 = ys.getD k 0) : sameB zs ys = false := decide_eq_false (fun e => h (by rw [e]))
theorem sameB_all {zs ys : List Int} (hl : zs.length = ys.length) (h : ∀ j, j < zs.length → zs.getD j 0 = ys.getD j 0) : sameB zs ys = true := decide_eq_true (ext_getD hl h)
theorem ret_bool {a b : Bool} (h : a = b) : Ending.returned (.bool a) = .returned (.bool b) := by rw [h]

set_option maxRecDepth 100000 in
set_option maxHeartbeats 400000 in
theorem same_any (B : Nat) (v u : Value) (zs ys : List Int) (w : World) (hl : zs.length ≤ 17592186044400) (hv : Ints w B v zs) (hu : Ints w B u ys) :
    Calls Tryd.prog 8 #[v, u] w fun e w' => e = .returned (.bool (sameB zs ys)) ∧ ∃ n, w' = w.drewN n := by
  obtain ⟨A, c, rfl, h⟩ := hv
  obtain ⟨A', c', rfl, h'⟩ := hu
  by_cases hn : zs.length = ys.length
  · have hat : ∀ j, j < zs.length → ∃ b o b' o', A = some ⟨b, o, none⟩ ∧ A' = some ⟨b', o', none⟩ ∧ w.cell? ⟨b, o + j, none⟩ = some (.int .i64 (zs.getD j 0)) ∧ w.cell? ⟨b', o' + j, none⟩ = some (.int .i64 (ys.getD j 0)) := fun j hj => by
      obtain ⟨b, o, e, _, hc⟩ := h (by omega)
      obtain ⟨b', o', e', _, hc'⟩ := h' (by omega)
      exact ⟨b, o, b', o', e, e', hc j hj, hc' j (by omega)⟩
    have HA := Lib.hid hat
    have HS := Lib.hid (@sameB_all zs ys hn)
    have HF := fun k => Lib.hid (@sameB_at zs ys k)
    have hn' : ((zs.length : Int) != (ys.length : Int)) = false := by simp [hn]
    have hn2 : ys.length = zs.length := hn.symm
    have HN := Lib.hid hn2
    clear h h' hat hn hn2
    generalize sameB zs ys = r at HS HF
    go_enter Tryd.func8, Tryd.ntmps8
    go_wp2
    go_loopw [5] (fun i wr => ∃ k n : Nat, i = .int .i64 k ∧ k ≤ zs.length ∧ Hid (∀ j, j < k → zs.getD j 0 = ys.getD j 0) ∧ wr = w.drewN n) (fun i _ => zs.length - (intOf i).toNat)
    case atStart => exact ⟨0, 0, rfl, Nat.zero_le _, (fun j hj => absurd hj (by omega)), rfl⟩
    case round =>
      obtain ⟨k, n, rfl, hk, HE, rfl⟩ := hrel
      by_cases hlt : k < zs.length
      · obtain ⟨b, o, b', o', rfl, rfl, hc, hc'⟩ := HA.out k hlt
        have hky : k < ys.length := by have := HN.out; omega
        have HK := HF k
        have HE2 : zs.getD k 0 = ys.getD k 0 → Hid (∀ j, j < k + 1 → zs.getD j 0 = ys.getD j 0) := fun e j hj => by
          by_cases e' : j = k
          · subst e'; exact e
          · exact HE j (by omega)
        have HE3 := Lib.hid HE2
        clear HE2
        generalize zs.getD k 0 = x at hc HK HE3
        generalize ys.getD k 0 = y at hc' HK HE3
        by_cases hxy : x = y
        · subst hxy
          have hne : (x != x) = false := by simp
          go_wp2
          go_quiet (fail)
          go_wp2
          go_roundw
          case rel => exact ⟨k + 1, _, by go_num, by omega, HE3.out (by trivial), rfl⟩
          case measure => simp [intOf]; omega
        · have hne : (x != y) = true := by simpa using hxy
          have HX := Lib.hid (HK.out hxy)
          clear hxy
          go_wp2
          go_quiet (fail)
          go_wp2
          go_ret
          exact ⟨ret_bool HX.out.symm, _, World.drewN_drewN _ _ _⟩
      · have HX := Lib.hid (HS.out (fun j hj => HE j (by omega)))
        go_wp2
        go_ret
        exact ⟨ret_bool HX.out.symm, n, rfl⟩
  · have HX := Lib.hid (sameB_len hn)
    have hn' : ((zs.length : Int) != (ys.length : Int)) = true := by simp; omega
    clear h h' hn
    go_enter Tryd.func8, Tryd.ntmps8
    go_wp2
    go_ret
    exact ⟨ret_bool HX.out.symm, 0, rfl⟩

/-- The lists that live. -/
def Live (w : World) (L : List (Value × List Int)) : Prop := ∀ (i : Nat) p, L[i]? = some p → Ints w w.heap.size p.1 p.2
theorem Live.below {w w' : World} {L : List (Value × List Int)} (h : Live w L) (hb : Below w.heap.size w w') : Live w' L := fun i p hp => ((h i p hp).below hb).more hb.size
theorem Live.step {w w' : World} {L : List (Value × List Int)} {r : Value} {l : List Int} (h : Live w L) (hb : Below w.heap.size w w') (hi : Ints w' w'.heap.size r l) : Live w' (L ++ [(r, l)]) := fun i p hp => by
  by_cases hlt : i < L.length
  · rw [List.getElem?_append_left hlt] at hp; exact h.below hb i p hp
  · rw [List.getElem?_append_right (by omega)] at hp
    have hp0 := (List.getElem?_eq_some_iff.1 hp).1
    have : i - L.length = 0 := by simpa using hp0
    rw [this] at hp
    injection hp with hp
    subst hp
    exact hi
theorem Live.drewN {w : World} {L : List (Value × List Int)} (h : Live w L) (n : Nat) : Live (w.drewN n) L := h
theorem Live.drawn {w q : World} {L : List (Value × List Int)} (h : Live w L) (hm : ∃ m, q = w.drewN m) : Live q L := by obtain ⟨m, rfl⟩ := hm; exact h
theorem below_drawn (B : Nat) {w q : World} (hm : ∃ m, q = w.drewN m) : Below B w q := by obtain ⟨m, rfl⟩ := hm; exact ⟨rfl, rfl, rfl, Nat.le_refl _, fun _ _ => rfl⟩
theorem sameB_eq {zs ys : List Int} (h : zs = ys) : sameB zs ys = true := decide_eq_true h
end Go.Proofs.YtlpepholcehojaaDoor
