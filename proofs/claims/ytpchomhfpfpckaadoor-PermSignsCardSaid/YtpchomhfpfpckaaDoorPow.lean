/- perm.one, perm.inv, perm.power, perm.Inv and perm.Pow. -/
import Derived.Test.YtpchomhfpfpckaaDoorGroupMath
import Derived.Test.YtpchomhfpfpckaaDoorLives
import Derived.Laws.BitsAllLaws
namespace Go.Proofs.YtpchomhfpfpckaaDoor
open Go Go.RowKit

/-- A loop that fills a new block of n integers. -/
def FillAt (w : World) (n : Nat) (f : Nat → Nat → Int) (k : Nat) (wr : World) : Prop :=
  k ≤ n ∧ Row wr w.heap.size 3 (Tab n (f k)) ∧ Below w.heap.size w wr
theorem FillAt.step {w wr : World} {n : Nat} {f : Nat → Nat → Int} {k i : Nat} {x : Int} (h : FillAt w n f k wr) (hk : k < n) (hf : ∀ j, j < n → f (k + 1) j = if j = i then x else f k j) :
    FillAt w n f (k + 1) (wr.setCell ⟨w.heap.size, i, none⟩ (.int .i64 x)) := by
  refine ⟨by omega, ?_, h.2.2.setCell (p := ⟨w.heap.size, i, none⟩) (Nat.le_refl _) _⟩
  have := h.2.1.set i (.int .i64 x)
  rw [Tab_set, ← Tab_congr n (f (k + 1)) _ hf] at this
  exact this

def invF (zs : List Int) (k i : Nat) : Int := posTo zs k (i : Int)
def oneF (k i : Nat) : Int := if i < k then (i : Int) else 0

set_option maxRecDepth 100000 in
set_option maxHeartbeats 400000 in
theorem inv_walk (b o c : Nat) (zs : List Int) (w : World) (h64 : zs.length ≤ 64) (hb : b < w.heap.size) (hin : ∀ k, k < zs.length → 0 ≤ zs.getD k 0 ∧ zs.getD k 0 < zs.length)
    (hc : ∀ j, j < zs.length → w.cell? ⟨b, o + j, none⟩ = some (.int .i64 (zs.getD j 0))) :
    Calls Tryd.prog 61 #[.slice (some ⟨b, o, none⟩) zs.length c] w fun e w' => e = .returned (.slice (some ⟨w.heap.size, 0, none⟩) zs.length zs.length) ∧ FillAt w zs.length (invF zs) zs.length w' := by
  have h00 : FillAt w zs.length (invF zs) 0 (w.alloc (.cells (Tab zs.length fun _ => 0) 3)) := ⟨by omega, Row.new _ _ _, (Below.refl _ _).alloc (Nat.le_refl _) _⟩
  have H0 := Lib.hid h00
  clear h00
  have hmk := make_ints zs.length (by omega)
  go_enter Tryd.func61, Tryd.ntmps61
  go_wp2
  go_loopw [11] (fun i wr => ∃ k : Nat, i = .int .i64 k ∧ FillAt w zs.length (invF zs) k wr) (fun i _ => zs.length - (intOf i).toNat)
  case atStart => exact ⟨0, rfl, H0.out⟩
  case round =>
    obtain ⟨k, rfl, hA⟩ := hrel
    have hk := hA.1
    by_cases hlt : k < zs.length
    · have hcell : wr.cell? ⟨b, o + k, none⟩ = some (.int .i64 (zs.getD k 0)) := (hA.2.2.cell (p := ⟨b, o + k, none⟩) hb).trans (hc k hlt)
      have hxx := hin k hlt
      have hS := fun i (hi : zs.getD k 0 = ((i : Nat) : Int)) => Lib.hid (hA.step (i := i) (x := (k : Int)) hlt (fun j _ => by
        unfold invF
        rw [posTo, hi]
        by_cases e : j = i
        · rw [if_pos e, if_pos (by rw [e])]
        · rw [if_neg e, if_neg (by omega)]))
      generalize hx : zs.getD k 0 = x at hcell hxx hS
      obtain ⟨i, rfl⟩ : ∃ i : Nat, x = (i : Int) := ⟨x.toNat, by omega⟩
      have hi : i < zs.length := by omega
      have HS := hS i rfl
      have hct := hA.2.1.cell (Tab_get zs.length (invF zs k) i hi)
      have hft := hA.2.1.frozen i
      generalize invF zs k i = u at hct
      clear hA hc hx hin hmk hS
      go_wp2
      go_roundw
      case rel => exact ⟨k + 1, by go_num, HS.out⟩
      case measure => simp [intOf]; omega
    · have hA' : FillAt w zs.length (invF zs) zs.length wr := by rw [show k = zs.length by omega] at hA; exact hA
      have HF := Lib.hid hA'
      clear hA' hA hc hin
      go_wp2
      go_ret
      exact ⟨rfl, HF.out⟩

set_option maxRecDepth 100000 in
set_option maxHeartbeats 400000 in
theorem one_walk (n : Nat) (w : World) (h64 : n ≤ 64) :
    Calls Tryd.prog 63 #[.int .i64 n] w fun e w' => e = .returned (.slice (some ⟨w.heap.size, 0, none⟩) n n) ∧ FillAt w n oneF n w' := by
  have h00 : FillAt w n oneF 0 (w.alloc (.cells (Tab n fun _ => 0) 3)) := ⟨by omega, by
    have := Row.new w 3 (Tab n fun _ => 0)
    rwa [Tab_congr n (fun _ => 0) (oneF 0) (fun i _ => by simp [oneF])] at this, (Below.refl _ _).alloc (Nat.le_refl _) _⟩
  have H0 := Lib.hid h00
  clear h00
  have hmk := make_ints n (by omega)
  go_enter Tryd.func63, Tryd.ntmps63
  go_wp2
  go_loopw [9] (fun i wr => ∃ k : Nat, i = .int .i64 k ∧ FillAt w n oneF k wr) (fun i _ => n - (intOf i).toNat)
  case atStart => exact ⟨0, rfl, H0.out⟩
  case round =>
    obtain ⟨k, rfl, hA⟩ := hrel
    have hk := hA.1
    by_cases hlt : k < n
    · have HS := Lib.hid (hA.step (i := k) (x := (k : Int)) hlt (fun j _ => by
        unfold oneF
        by_cases e : j = k
        · rw [if_pos e, if_pos (by omega), e]
        · rw [if_neg e]
          by_cases e' : j < k
          · rw [if_pos e', if_pos (by omega)]
          · rw [if_neg e', if_neg (by omega)]))
      have hct := hA.2.1.cell (Tab_get n (oneF k) k hlt)
      have hft := hA.2.1.frozen k
      generalize oneF k k = u at hct
      clear hA hmk
      go_wp2
      go_roundw
      case rel => exact ⟨k + 1, by go_num, HS.out⟩
      case measure => simp [intOf]; omega
    · have hA' : FillAt w n oneF n wr := by rw [show k = n by omega] at hA; exact hA
      have HF := Lib.hid hA'
      clear hA' hA
      go_wp2
      go_ret
      exact ⟨rfl, HF.out⟩

/-- What a function that returns a new permutation has returned. -/
def NewPerm (w : World) (l : List Int) (e : Ending) (w' : World) : Prop := ∃ r, e = .returned r ∧ Ints w' w'.heap.size r l ∧ Below w.heap.size w w'

theorem FillAt.ints {w w' : World} {n : Nat} {f : Nat → Nat → Int} {l : List Int} (h : FillAt w n f n w') (hl : l.length = n) (hf : ∀ i, i < n → f n i = l.getD i 0) : Ints w' w'.heap.size (.slice (some ⟨w.heap.size, 0, none⟩) n n) l := by
  subst hl
  refine Row.ints ?_
  have := h.2.1
  rwa [Tab_congr _ _ _ hf] at this

theorem inv_any {n : Nat} (a : PL n) (v : Value) (w : World) (h1 : 1 ≤ n) (h64 : n ≤ 64) (hv : Ints w w.heap.size v a.1) : Calls Tryd.prog 61 #[v] w (NewPerm w (pinv a).1) := by
  obtain ⟨b, o, c, rfl, hb, hc⟩ := hv.at_ (by rw [a.2.1]; omega)
  refine (inv_walk b o c a.1 w (by rw [a.2.1]; exact h64) hb (fun k hk => ⟨(a.2.2 k hk).1, (a.2.2 k hk).2.1⟩) hc).mono ?_
  rintro e w' ⟨rfl, h⟩
  exact ⟨_, rfl, h.ints (l := (pinv a).1) (by rw [(pinv a).2.1, a.2.1]) (fun i hi => (invL_get hi).symm), h.2.2⟩
theorem one_any (n : Nat) (w : World) (h64 : n ≤ 64) : Calls Tryd.prog 63 #[.int .i64 n] w (NewPerm w (pone n).1) := by
  refine (one_walk n w h64).mono ?_
  rintro e w' ⟨rfl, h⟩
  exact ⟨_, rfl, h.ints (l := (pone n).1) (pone n).2.1 (fun i hi => by unfold oneF; rw [if_pos hi]; exact (idL_get hi).symm), h.2.2⟩
theorem pmul_any {n : Nat} (a b : PL n) (v u : Value) (w : World) (h1 : 1 ≤ n) (h64 : n ≤ 64) (hv : Ints w w.heap.size v a.1) (hu : Ints w w.heap.size u b.1) : Calls Tryd.prog 60 #[v, u] w (NewPerm w (pmul a b).1) :=
  (mul_any v u a.1 b.1 w (by rw [a.2.1]; exact h1) (by rw [a.2.1]; exact h64) a.2.2 (by rw [a.2.1, b.2.1]) hv hu).mono fun _ _ ⟨r, he, hi, hb⟩ => ⟨r, he, hi, hb⟩

theorem bit0 (m : Nat) (hm : m ≤ 9223372036854775808) : bits .and .u64 (m : Int) 1 = ((m % 2 : Nat) : Int) := by
  have := u64_and_nat m 1 (by omega) (by omega)
  rw [Nat.and_one_is_mod] at this
  exact this

set_option maxRecDepth 100000 in
set_option maxHeartbeats 400000 in
theorem power_walk {n : Nat} (one x : PL n) (R : PL n) (m : Nat) (hm : m ≤ 9223372036854775808) (v u : Value) (w : World) (h1 : 1 ≤ n) (h64 : n ≤ 64) (hv : Ints w w.heap.size v one.1) (hu : Ints w w.heap.size u x.1)
    (hR : pmul one (npow pmul (pone n) m x) = R) :
    Calls Tryd.prog 62 #[v, u, .int .u64 m, .func (.func 60) #[] #[]] w (NewPerm w R.1) := by
  go_enter Tryd.func62, Tryd.ntmps62
  go_wp2
  go_loopw [0, 1, 2] (fun v u k wr => ∃ (U X : PL n) (m : Nat), k = .int .u64 m ∧ m ≤ 9223372036854775808 ∧ Ints wr wr.heap.size v U.1 ∧ Ints wr wr.heap.size u X.1 ∧ Hid (pmul U (npow pmul (pone n) m X) = R) ∧ Below w.heap.size w wr) (fun _ _ k _ => (intOf k).toNat)
  case atStart => exact ⟨one, x, m, rfl, hm, hv, hu, hR, Below.refl _ _⟩
  case round =>
    obtain ⟨U, X, m, rfl, hm, hU, hX, hr, hB⟩ := hrel
    by_cases h0 : m = 0
    · subst h0
      have hRU : U = R := by have := hr.out; rw [show npow pmul (pone n) 0 X = pone n from rfl, (perm_grp n).mul_one] at this; exact this
      have HU : Hid (Ints wr wr.heap.size u0 R.1) := by rw [← hRU]; exact hU
      have HB := Lib.hid hB
      clear hU hX hB hr hRU hv hu hR
      go_wp2
      go_ret
      exact ⟨_, rfl, HU.out, HB.out⟩
    · by_cases hodd : m % 2 = 1
      · have hpos : 0 < (m : Int) := by omega
        have hbit : (bits .and .u64 (m : Int) 1 == 1) = true := by rw [bit0 m hm, hodd]; rfl
        have HR := Lib.hid ((npow_odd (perm_grp n) U X m hodd).symm.trans hr.out)
        have HC := fun a b v u W h h' => Lib.hid (@pmul_any n a b v u W h1 h64 h h')
        clear hv hu hR
        have HU := Lib.hid hU
        have HX := Lib.hid hX
        have HB := Lib.hid hB
        clear hU hX hB
        go_wp2_with fail
        refine ((HC U X _ _ _ HU.out HX.out).out).mono ?_
        rintro e w2 ⟨r, rfl, hi2, hb2⟩
        have HI2 := Lib.hid hi2
        have HX2 := Lib.hid ((HX.out.below hb2).more hb2.size)
        have HB2 := Lib.hid (HB.out.trans (hb2.mono HB.out.size))
        clear hi2 hb2
        go_wp2_with fail
        refine ((HC X X _ _ _ HX2.out HX2.out).out).mono ?_
        rintro e w3 ⟨r2, rfl, hi3, hb3⟩
        have HI3 := Lib.hid hi3
        have HI4 := Lib.hid ((HI2.out.below hb3).more hb3.size)
        have HB3 := Lib.hid (HB2.out.trans (hb3.mono HB2.out.size))
        clear hi3 hb3
        go_wp2_with fail
        go_roundw
        case rel => exact ⟨pmul U X, pmul X X, m / 2, by simp, by omega, HI4.out, HI3.out, HR.out, HB3.out⟩
        case measure => simp [intOf]; omega
      · have hpos : 0 < (m : Int) := by omega
        have hev : m % 2 = 0 := by omega
        have hbit : (bits .and .u64 (m : Int) 1 == 1) = false := by rw [bit0 m hm, hev]; rfl
        have HR := Lib.hid ((congrArg (pmul U) (npow_even (perm_grp n) X m hev)).symm.trans hr.out)
        have HC := fun a b v u W h h' => Lib.hid (@pmul_any n a b v u W h1 h64 h h')
        clear hv hu hR
        have HU := Lib.hid hU
        have HX := Lib.hid hX
        have HB := Lib.hid hB
        clear hU hX hB
        go_wp2_with fail
        refine ((HC X X _ _ _ HX.out HX.out).out).mono ?_
        rintro e w3 ⟨r2, rfl, hi3, hb3⟩
        have HI3 := Lib.hid hi3
        have HI4 := Lib.hid ((HU.out.below hb3).more hb3.size)
        have HB3 := Lib.hid (HB.out.trans (hb3.mono HB.out.size))
        clear hi3 hb3
        go_wp2_with fail
        go_roundw
        case rel => exact ⟨U, pmul X X, m / 2, by simp, by omega, HI4.out, HI3.out, HR.out, HB3.out⟩
        case measure => simp [intOf]; omega
end Go.Proofs.YtpchomhfpfpckaaDoor
