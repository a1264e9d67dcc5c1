/- matrix.Trace. -/
import Derived.Test.YthdilpaffcidmaaMApply
namespace Go.Proofs.Ythdilpaffcidmaa
open Go Go.RowKit Num

def trS (f : Nat → Nat → Int) : Nat → Int
  | 0 => 0
  | k + 1 => trS f k + f k k
theorem trS_in {p : Int} {m : Nat} {f : Nat → Nat → Int} (hp1 : p ≤ 10000) (hf : InG p m m f) : ∀ k, k ≤ m → 0 ≤ trS f k ∧ trS f k ≤ k * 10000
  | 0, _ => ⟨Int.le_refl _, by simp [trS]⟩
  | k + 1, hk => by
    have := trS_in hp1 hf k (by omega)
    have h := hf k (by omega) k (by omega)
    simp only [trS]
    omega

set_option maxRecDepth 100000 in
set_option maxHeartbeats 2000000 in
theorem Trace_any (ra : Value) (m : Nat) (n : Nat → Nat) (f : Nat → Nat → Int) (p : Int) (w : World) (hm : m ≤ 1000000) (hn : ∀ i, i < m → n i ≤ 1000000) (ha : Grid w (· < w.heap.size) ra m n f) (x : Int) (hx : x = chkS (chkM p m n f) m (n 0)) :
    Calls Try.prog 60 #[.agg #[.int .i64 p, ra]] w fun e w' => e = .returned (.tuple #[.int .i64 (if x = 0 then trS f m % p else 0), .int .i64 x]) ∧ Below w.heap.size w w' := by
  have HC := fun W h => Lib.hid (checkSquare_any ra m n f p W hm hn h)
  rw [← hx] at HC
  have HA := Lib.hid ha
  obtain ⟨A, c, rfl, hcm⟩ := ha.form
  have HBX := Lib.hid (row_new (W := w) rfl 58 #[.int .i64 p, .slice A m c])
  have HB1 := Lib.hid (show Below w.heap.size w (w.alloc (.cells #[.int .i64 p, .slice A m c] 58)) from (Below.refl _ _).alloc (Nat.le_refl _) _)
  by_cases hx0 : x = 0
  · subst hx0
    obtain ⟨h1, h2⟩ := chkS_zero hx.symm
    obtain ⟨hmod, g1, g2, g3, g4, g5⟩ := chkM_zero h1
    obtain ⟨hp2, hp4, hp6⟩ := modB_true hmod
    have hIN : InG p m m f := fun i hi => by have := (g5 i hi).2; rw [(g5 i hi).1, ← h2] at this; exact this
    have HTR := Lib.hid (fun k hk => trS_in (by omega) hIN k hk)
    have HA2 := Lib.hid (grid_reg HA.out (fun i hi => ((g5 i hi).1).trans h2.symm))
    have hp0 : ¬ p = 0 := by omega
    have hp0' : (p != 0) = true := by simp; omega
    rw [if_pos rfl]
    clear ha hn g5 hmod h1 hx h2 hIN
    go_enter Try.func60, Try.ntmps60
    go_wp2_with fail
    refine (HC _ (HA.out.on HB1.out)).out.mono ?_
    rintro e w4 ⟨rfl, hb4⟩
    have HB4 := Lib.hid (HB1.out.trans (hb4.mono HB1.out.size))
    have HR4 := Lib.hid (HBX.out.below hb4 HBX.out.lt)
    have c0 := HR4.out.cell (i := 0) rfl
    have c1 := HR4.out.cell (i := 1) rfl
    clear hb4
    go_wp2_with fail
    go_loopw [5, 16] (fun t5 t wr => ∃ k : Nat, t5 = .int .i64 (trS f k) ∧ t = .int .i64 k ∧ k ≤ m ∧ wr = w4) (fun _ t _ => m - (intOf t).toNat)
    case atStart => exact ⟨0, rfl, rfl, Nat.zero_le _, rfl⟩
    case round =>
      obtain ⟨k, rfl, rfl, hk, rfl⟩ := hrel
      have hs := HTR.out k hk
      by_cases hlt : k < m
      · have d1 : decide (k < m) = true := decide_eq_true hlt
        have d2 : (0 : Int) ≤ k := by omega
        have d3 : (k : Int) < (m : Int) := by omega
        obtain ⟨A', c', e, _, h⟩ := HA2.out.on HB4.out
        cases e
        obtain ⟨b, o, rfl, hb, hcc⟩ := h (by omega)
        obtain ⟨r, k1, A2, c2, rfl, _, h'⟩ := hcc k hlt
        obtain ⟨b2, o2, rfl, hb2, hcc2⟩ := h' (show 0 < m by omega)
        have k2 := hcc2 k hlt
        have hs2 : 0 ≤ trS f k + f k k ∧ trS f k + f k k ≤ ((k + 1 : Nat) : Int) * 10000 := HTR.out (k + 1) hlt
        have hw : IntKind.i64.wrap (trS f k + f k k) = trS f k + f k k := IntWalk.i64_in _ ⟨by omega, by omega⟩
        have HS3 : Hid (trS f (k + 1) = trS f k + f k k) := Lib.hid rfl
        generalize trS f k = s at hw hs HS3
        generalize f k k = y at hw k2 HS3
        clear h hb hcc h' hb2 hcc2 hs2
        go_wp2_with fail
        go_roundw
        case rel => exact ⟨k + 1, by rw [HS3.out], by go_num, by omega, trivial⟩
        case measure => simp [intOf]; omega
      · have hkm : k = m := by omega
        subst hkm
        have d1 : decide (k < k) = false := decide_eq_false (by omega)
        obtain ⟨s, hs3⟩ : ∃ s, trS f k = s := ⟨_, rfl⟩
        have HS3 := Lib.hid hs3
        rw [hs3] at hs ⊢
        clear hs3
        go_wp2_with fail
        go_ret2
        exact ⟨by rw [HS3.out]; rfl, HB4.out⟩
  · have hd2 : (x != 0) = true := by simpa using hx0
    rw [if_neg hx0]
    clear ha hn hx hx0
    go_enter Try.func60, Try.ntmps60
    go_wp2_with fail
    refine (HC _ (HA.out.on HB1.out)).out.mono ?_
    rintro e w4 ⟨rfl, hb4⟩
    have HB4 := Lib.hid (HB1.out.trans (hb4.mono HB1.out.size))
    clear hb4
    go_wp2
    go_ret2
    exact ⟨rfl, HB4.out⟩
end Go.Proofs.Ythdilpaffcidmaa
