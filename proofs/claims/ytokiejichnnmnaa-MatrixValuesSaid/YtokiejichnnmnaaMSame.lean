/- cayleykit.Same, SameLists and the reference's Same. -/
import Derived.Test.YtokiejichnnmnaaMEqual
import Derived.Test.YtokiejichnnmnaaMPair
namespace Go.Proofs.Ytokiejichnnmnaa
open Go Go.RowKit Num

set_option maxRecDepth 100000 in
set_option maxHeartbeats 1000000 in
theorem row_same (v u : Value) (n : Nat) (f g : Nat → Int) (w : World) (S S' : Nat → Prop) (hn : n ≤ 1000000) (hv : Vec w S v n f) (hu : Vec w S' u n g) :
    Calls Try.prog 26 #[v, u] w fun e w' => e = .returned (.bool (eqB n f g)) ∧ ∃ n, w' = w.drewN n := by
  obtain ⟨A, c, rfl, hcA, hA⟩ := hv
  obtain ⟨B, d, rfl, hcB, hB⟩ := hu
  have HA := Lib.hid hA
  have HB := Lib.hid hB
  clear hA hB
  go_enter Try.func26, Try.ntmps26
  go_wp2
  go_loopw [5] (fun t wr => ∃ i k : Nat, t = .int .i64 i ∧ i ≤ n ∧ wr = w.drewN k ∧ Hid (∀ j, j < i → f j = g j)) (fun t _ => n - (intOf t).toNat)
  case atStart => exact ⟨0, 0, rfl, Nat.zero_le _, rfl, Lib.hid fun j h => by omega⟩
  case round =>
    obtain ⟨i, k, rfl, hi, rfl, HE⟩ := hrel
    by_cases hlt : i < n
    · obtain ⟨b1, o1, rfl, _, h1⟩ := HA.out (by omega)
      obtain ⟨b2, o2, rfl, _, h2⟩ := HB.out (by omega)
      have k1 := h1 i hlt
      have k2 := h2 i hlt
      have d1 : decide (i < n) = true := decide_eq_true hlt
      have d2 : (0 : Int) ≤ i := by omega
      have d3 : (i : Int) < (n : Int) := by omega
      clear h1 h2
      by_cases he : f i = g i
      · have HE2 := Lib.hid (fun j (hj : j < i + 1) => (by
          by_cases e : j = i
          · subst e; exact he
          · exact HE.out j (by omega) : f j = g j))
        have hd : (f i != g i) = false := by simp [he]
        generalize f i = x at k1 hd
        generalize g i = y at k2 hd
        clear he
        go_wp2
        go_quiet (fail)
        go_wp2
        go_roundw
        case rel => exact ⟨i + 1, _, by go_num, by omega, rfl, HE2⟩
        case measure => simp [intOf]; omega
      · have HR := Lib.hid (show eqB n f g = false from decide_eq_false fun h => he (h i hlt))
        have hd : (f i != g i) = true := by simp [he]
        generalize f i = x at k1 hd
        generalize g i = y at k2 hd
        clear he
        go_wp2
        go_quiet (fail)
        go_wp2
        go_ret
        exact ⟨by rw [HR.out]; rfl, by rw [World.drewN_drewN]; exact ⟨_, rfl⟩⟩
    · have d1 : decide (i < n) = false := decide_eq_false hlt
      have HR := Lib.hid (show eqB n f g = true from decide_eq_true fun j hj => HE.out j (by omega))
      go_wp2
      go_ret
      exact ⟨by rw [HR.out]; rfl, ⟨_, rfl⟩⟩

def gridB (m : Nat) (n : Nat → Nat) (f g : Nat → Nat → Int) : Bool := decide (∀ i, i < m → eqB (n i) (f i) (g i) = true)

set_option maxRecDepth 100000 in
set_option maxHeartbeats 1000000 in
theorem lists_same (v u : Value) (m : Nat) (n : Nat → Nat) (f g : Nat → Nat → Int) (w : World) (S S' : Nat → Prop) (hm : m ≤ 1000000) (hn : ∀ i, i < m → n i ≤ 1000000) (hv : Grid w S v m n f) (hu : Grid w S' u m n g) :
    Calls Try.prog 27 #[v, u] w fun e w' => e = .returned (.bool (gridB m n f g)) ∧ ∃ k, w' = w.drewN k := by
  obtain ⟨A, c, rfl, hcA⟩ := hv.form
  obtain ⟨B, d, rfl, hcB⟩ := hu.form
  have hat : ∀ k, k < m → ∃ b o b' o' r r', A = some ⟨b, o, none⟩ ∧ B = some ⟨b', o', none⟩ ∧ w.cell? ⟨b, o + k, none⟩ = some r ∧ w.cell? ⟨b', o' + k, none⟩ = some r' ∧ (∃ X x, r = .slice X (n k) x) ∧ (∃ X x, r' = .slice X (n k) x) ∧ ∀ W, (∃ q, W = w.drewN q) → Calls Try.prog 26 #[r, r'] W fun e w' => e = .returned (.bool (eqB (n k) (f k) (g k))) ∧ ∃ n, w' = W.drewN n := fun k hk => by
    obtain ⟨A', c', e, _, h⟩ := hv
    cases e
    obtain ⟨b, o, rfl, _, h⟩ := h (by omega)
    obtain ⟨r, h1, h2⟩ := h k hk
    obtain ⟨B', d', e, _, h'⟩ := hu
    cases e
    obtain ⟨b', o', rfl, _, h'⟩ := h' (by omega)
    obtain ⟨r', h1', h2'⟩ := h' k hk
    obtain ⟨X, x, hX, -⟩ := h2.form
    obtain ⟨X', x', hX', -⟩ := h2'.form
    refine ⟨b, o, b', o', r, r', rfl, rfl, h1, h1', ⟨X, x, hX⟩, ⟨X', x', hX'⟩, ?_⟩
    rintro W ⟨q, rfl⟩
    exact row_same r r' (n k) (f k) (g k) (w.drewN q) S S' (hn k hk) h2 h2'
  have HA := Lib.hid hat
  clear hv hu hat hn
  go_enter Try.func27, Try.ntmps27
  go_wp2
  go_loopw [5] (fun t wr => ∃ k q : Nat, t = .int .i64 k ∧ k ≤ m ∧ wr = w.drewN q ∧ Hid (∀ j, j < k → eqB (n j) (f j) (g j) = true)) (fun t _ => m - (intOf t).toNat)
  case atStart => exact ⟨0, 0, rfl, Nat.zero_le _, rfl, Lib.hid fun j h => by omega⟩
  case round =>
    obtain ⟨k, q, rfl, hk, hwr, HE⟩ := hrel
    have HW := Lib.hid (show ∀ m q', q' = wr.drewN m → ∃ n', q' = w.drewN n' from fun m q' e => ⟨q + m, by rw [e, hwr, World.drewN_drewN]⟩)
    by_cases hlt : k < m
    · obtain ⟨b, o, b', o', r, r', rfl, rfl, hc, hc', ⟨X, x, rfl⟩, ⟨X', x', rfl⟩, hS⟩ := HA.out k hlt
      have k1 : wr.cell? ⟨b, o + k, none⟩ = some (.slice X (n k) x) := by rw [hwr]; exact hc
      have k2 : wr.cell? ⟨b', o' + k, none⟩ = some (.slice X' (n k) x') := by rw [hwr]; exact hc'
      have HS := Lib.hid (fun n => hS (wr.drewN n) (HW.out n _ rfl))
      have d1 : decide (k < m) = true := decide_eq_true hlt
      have d2 : (0 : Int) ≤ k := by omega
      have d3 : (k : Int) < (m : Int) := by omega
      have HE2 := Lib.hid (fun (h : eqB (n k) (f k) (g k) = true) j (hj : j < k + 1) => (by
          by_cases e : j = k
          · subst e; exact h
          · exact HE.out j (by omega) : eqB (n j) (f j) (g j) = true))
      have HF := Lib.hid (fun (h : eqB (n k) (f k) (g k) = false) => (show gridB m n f g = false from decide_eq_false fun h' => by rw [h' k hlt] at h; cases h))
      clear hS hc hc' hwr
      generalize eqB (n k) (f k) (g k) = y at HS HE2 HF
      generalize n k = nk at k1 k2 HS
      cases y with
      | true =>
        have HE3 := Lib.hid (HE2.out rfl)
        clear HE2 HF
        go_wp2_with fail
        go_quiet (refine Calls.quiet_of (HS.out _))
        go_wp2_with fail
        go_roundw
        case rel => obtain ⟨n', e⟩ := HW.out _ _ rfl; exact ⟨k + 1, n', by go_num, by omega, e, HE3⟩
        case measure => simp [intOf]; omega
      | false =>
        have HF2 := Lib.hid (HF.out rfl)
        clear HE2 HF
        go_wp2_with fail
        go_quiet (refine Calls.quiet_of (HS.out _))
        go_wp2_with fail
        go_ret
        exact ⟨by rw [HF2.out]; rfl, HW.out _ _ rfl⟩
    · have d1 : decide (k < m) = false := decide_eq_false hlt
      have HR := Lib.hid (show gridB m n f g = true from decide_eq_true fun j hj => HE.out j (by omega))
      go_wp2_with fail
      go_ret
      exact ⟨by rw [HR.out]; rfl, q, rfl⟩

set_option maxRecDepth 100000 in
set_option maxHeartbeats 1000000 in
theorem mSame_any (v u : Value) (p : Int) (m : Nat) (n : Nat → Nat) (f g : Nat → Nat → Int) (w : World) (hm : m ≤ 1000000) (hn : ∀ i, i < m → n i ≤ 1000000) (hv : Grid w (· < w.heap.size) v m n f) (hu : Grid w (· < w.heap.size) u m n g) :
    Calls Try.prog 68 #[.agg #[.int .i64 p, v], .agg #[.int .i64 p, u]] w fun e w' => e = .returned (.bool (gridB m n f g)) ∧ Below w.heap.size w w' := by
  have HS := fun W (hb : Below w.heap.size w W) => Lib.hid (lists_same v u m n f g W _ _ hm hn (hv.on hb) (hu.on hb))
  obtain ⟨A, c, rfl, hcA⟩ := hv.form
  obtain ⟨B, d, rfl, hcB⟩ := hu.form
  have HB := Lib.hid (((Below.refl w.heap.size w).alloc (Nat.le_refl _) (.cells #[.int .i64 p, .slice A m c] 61)).alloc (by simp) (.cells #[.int .i64 p, .slice B m d] 61))
  clear hv hu hn
  go_enter Try.func68, Try.ntmps68
  go_wp2_with fail
  refine (HS _ HB.out).out.mono ?_
  rintro e w2 ⟨rfl, q, rfl⟩
  have HB2 := Lib.hid (below_drewN HB.out q)
  go_wp2_with fail
  go_ret
  exact ⟨rfl, HB2.out⟩
end Go.Proofs.Ytokiejichnnmnaa
