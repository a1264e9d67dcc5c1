/- perm.mul and perm.Mul. -/
import Derived.Test.YtpchomhfpfpckaaDoorTab
import Derived.Test.YtpchomhfpfpckaaDoorChecks
namespace Go.Proofs.YtpchomhfpfpckaaDoor
open Go Go.RowKit

/-- The product: first zs, then ys. -/
def mulL (zs ys : List Int) : List Int := zs.map fun x => ys.getD x.toNat 0
theorem mulL_len (zs ys : List Int) : (mulL zs ys).length = zs.length := by simp [mulL]
theorem mulL_get (zs ys : List Int) (k i : Nat) (hk : k < zs.length) (h : zs.getD k 0 = (i : Int)) : (mulL zs ys).getD k 0 = ys.getD i 0 := by
  have h' : zs[k] = (i : Int) := by simpa [List.getD_eq_getElem?_getD, hk] using h
  simp [mulL, List.getD_eq_getElem?_getD, hk, h']

def MulAt (w : World) (n : Nat) (r : List Int) (k : Nat) (wr : World) : Prop :=
  k ≤ n ∧ Row wr w.heap.size 3 (Tab n fun i => if i < k then r.getD i 0 else 0) ∧ Below w.heap.size w wr
theorem MulAt.step {w wr : World} {n : Nat} {r : List Int} {k : Nat} (h : MulAt w n r k wr) (hk : k < n) : MulAt w n r (k + 1) (wr.setCell ⟨w.heap.size, k, none⟩ (.int .i64 (r.getD k 0))) := by
  refine ⟨by omega, ?_, h.2.2.setCell (p := ⟨w.heap.size, k, none⟩) (Nat.le_refl _) _⟩
  have := h.2.1.set k (.int .i64 (r.getD k 0))
  rw [Tab_set] at this
  rw [Tab_congr n _ (fun i => if i < k + 1 then r.getD i 0 else 0) (fun i _ => ?_)] at this
  · exact this
  · by_cases e : i = k
    · subst e; simp
    · rw [if_neg e]
      by_cases e' : i < k
      · rw [if_pos e', if_pos (by omega)]
      · rw [if_neg e', if_neg (by omega)]

set_option maxRecDepth 100000 in
set_option maxHeartbeats 400000 in
theorem mul_walk (b o c b' o' c' : Nat) (zs ys : List Int) (w : World) (h64 : zs.length ≤ 64) (hb : b < w.heap.size) (hb' : b' < w.heap.size)
    (hin : ∀ k, k < zs.length → 0 ≤ zs.getD k 0 ∧ zs.getD k 0 < ys.length)
    (hc : ∀ j, j < zs.length → w.cell? ⟨b, o + j, none⟩ = some (.int .i64 (zs.getD j 0)))
    (hc' : ∀ j, j < ys.length → w.cell? ⟨b', o' + j, none⟩ = some (.int .i64 (ys.getD j 0))) :
    Calls Tryd.prog 60 #[.slice (some ⟨b, o, none⟩) zs.length c, .slice (some ⟨b', o', none⟩) ys.length c'] w fun e w' =>
      e = .returned (.slice (some ⟨w.heap.size, 0, none⟩) zs.length zs.length) ∧ MulAt w zs.length (mulL zs ys) zs.length w' := by
  have h00 : MulAt w zs.length (mulL zs ys) 0 (w.alloc (.cells (Tab zs.length fun _ => 0) 3)) :=
    ⟨by omega, by simpa using Row.new w 3 (Tab zs.length fun _ => 0), (Below.refl _ _).alloc (Nat.le_refl _) _⟩
  have H0 := Lib.hid h00
  clear h00
  have hmk := make_ints zs.length (by omega)
  go_enter Tryd.func60, Tryd.ntmps60
  go_wp2
  go_loopw [13] (fun i wr => ∃ k : Nat, i = .int .i64 k ∧ MulAt w zs.length (mulL zs ys) k wr) (fun i _ => zs.length - (intOf i).toNat)
  case atStart => exact ⟨0, rfl, H0.out⟩
  case round =>
    obtain ⟨k, rfl, hA⟩ := hrel
    have hk := hA.1
    by_cases hlt : k < zs.length
    · have hcell : wr.cell? ⟨b, o + k, none⟩ = some (.int .i64 (zs.getD k 0)) := (hA.2.2.cell (p := ⟨b, o + k, none⟩) hb).trans (hc k hlt)
      have hxx := hin k hlt
      have hS := Lib.hid (hA.step hlt)
      have HG := Lib.hid (mulL_get zs ys k)
      generalize hx : zs.getD k 0 = x at hcell hxx HG
      obtain ⟨i, rfl⟩ : ∃ i : Nat, x = (i : Int) := ⟨x.toNat, by omega⟩
      have hi : i < ys.length := by omega
      have hcell' : wr.cell? ⟨b', o' + i, none⟩ = some (.int .i64 (ys.getD i 0)) := (hA.2.2.cell (p := ⟨b', o' + i, none⟩) hb').trans (hc' i hi)
      have hg := HG.out i hlt rfl
      rw [hg] at hS
      have hct := hA.2.1.cell (Tab_get zs.length (fun i => if i < k then (mulL zs ys).getD i 0 else 0) k hlt)
      have hft := hA.2.1.frozen k
      generalize (if k < k then (mulL zs ys).getD k 0 else 0) = u at hct
      generalize ys.getD i 0 = y at hcell' hS
      clear hA hc hc' HG hg hx hin hmk
      go_wp2
      go_roundw
      case rel => exact ⟨k + 1, by go_num, hS.out⟩
      case measure => simp [intOf]; omega
    · have hA' : MulAt w zs.length (mulL zs ys) zs.length wr := by rw [show k = zs.length by omega] at hA; exact hA
      have HF := Lib.hid hA'
      clear hA' hA hc hc' hin
      go_wp2
      go_ret
      exact ⟨rfl, HF.out⟩

theorem MulAt.ints {w w' : World} {r : List Int} (h : MulAt w r.length r r.length w') (c : Nat) : Ints w' w'.heap.size (.slice (some ⟨w.heap.size, 0, none⟩) r.length c) r := by
  refine Row.ints ?_
  have := h.2.1
  rw [Tab_congr _ _ (fun i => r.getD i 0) (fun i hi => if_pos hi)] at this
  exact this

/-- perm.mul: a new block that reads as the product. -/
theorem mul_any (v u : Value) (zs ys : List Int) (w : World) (h1 : 1 ≤ zs.length) (h64 : zs.length ≤ 64) (hf : Fine zs) (hn : zs.length = ys.length) (hv : Ints w w.heap.size v zs) (hu : Ints w w.heap.size u ys) :
    Calls Tryd.prog 60 #[v, u] w fun e w' => ∃ r, e = .returned r ∧ Ints w' w'.heap.size r (mulL zs ys) ∧ Below w.heap.size w w' := by
  obtain ⟨b, o, c, rfl, hb, hc⟩ := hv.at_ (by omega)
  obtain ⟨b', o', c', rfl, hb', hc'⟩ := hu.at_ (by omega)
  refine (mul_walk b o c b' o' c' zs ys w h64 hb hb' (fun k hk => ?_) hc hc').mono ?_
  · have := hf k hk; omega
  · rintro e w' ⟨rfl, h⟩
    refine ⟨_, rfl, ?_, h.2.2⟩
    have hm := mulL_len zs ys
    rw [← hm] at h
    have := h.ints zs.length
    rw [hm] at this
    exact this

theorem chk_zero {zs : List Int} (h : chk zs = 0) : 1 ≤ zs.length ∧ zs.length ≤ 64 ∧ Fine zs := by
  unfold chk at h
  by_cases h1 : zs.length < 1 ∨ 64 < zs.length
  · rw [if_pos h1] at h; omega
  · rw [if_neg h1] at h
    by_cases h2 : Fine zs
    · exact ⟨by omega, by omega, h2⟩
    · rw [if_neg h2] at h; omega
theorem chk2_zero {zs ys : List Int} (h : chk2 zs ys = 0) : chk zs = 0 ∧ chk ys = 0 ∧ zs.length = ys.length := by
  unfold chk2 at h
  by_cases h1 : chk zs = 0
  · rw [if_neg (by omega)] at h
    by_cases h2 : chk ys = 0
    · rw [if_neg (by omega)] at h
      by_cases h3 : zs.length = ys.length
      · exact ⟨h1, h2, h3⟩
      · rw [if_pos h3] at h; omega
    · rw [if_pos h2] at h; exact absurd h h2
  · rw [if_pos h1] at h; exact absurd h h1

/-- What a function that returns a list and an error has returned: x is the error; with an error the list is nil. -/
def PermErr (x : Int) (zs : List Int) (w : World) (e : Ending) (w' : World) : Prop :=
  ∃ r, e = .returned (.tuple #[r, .int .i64 x]) ∧ Below w.heap.size w w' ∧ (x = 0 → Ints w' w'.heap.size r zs) ∧ (¬ x = 0 → r = .slice none 0 0)

set_option maxRecDepth 100000 in
set_option maxHeartbeats 400000 in
/-- perm.Mul. -/
theorem Mul_any (v u : Value) (zs ys : List Int) (w : World) (hl : zs.length ≤ 17592186044400) (hl' : ys.length ≤ 17592186044400) (hv : Ints w w.heap.size v zs) (hu : Ints w w.heap.size u ys) :
    Calls Tryd.prog 12 #[v, u] w (PermErr (chk2 zs ys) (mulL zs ys) w) := by
  have HC := fun W h1 h2 h3 h4 h5 => Lib.hid (checks_two w.heap.size v u zs ys W hl hl' h1 h2 h3 h4 h5)
  have HV := Lib.hid hv
  have HU := Lib.hid hu
  have HZ := Lib.hid (@chk2_zero zs ys)
  have hs : ∃ A n c, v = .slice A n c := by obtain ⟨A, c, h, _⟩ := hv; exact ⟨A, _, c, h⟩
  have hs' : ∃ A n c, u = .slice A n c := by obtain ⟨A, c, h, _⟩ := hu; exact ⟨A, _, c, h⟩
  obtain ⟨A, n, c, rfl⟩ := hs
  obtain ⟨A', n', c', rfl⟩ := hs'
  clear hv hu
  generalize chk2 zs ys = x at HC HZ
  by_cases hx : x = 0
  · subst hx
    obtain ⟨hz, -, hzn⟩ := HZ.out rfl
    obtain ⟨h1, h64, hf⟩ := chk_zero hz
    have HF := Lib.hid hf
    have HN := Lib.hid hzn
    clear hf hzn hz
    go_enter Tryd.func12, Tryd.ntmps12
    go_wp2_with fail
    refine ((HC _ (by simp) (by simp) (by simp) ((HV.out.alloc (Nat.le_refl _) _).more (by simp)) ((HU.out.alloc (Nat.le_refl _) _).more (by simp))).out).mono ?_
    rintro e w1 ⟨rfl, hb1⟩
    have hb := (((Below.refl _ w).alloc (Nat.le_refl _) _).trans (hb1.mono (by simp)))
    have HB := Lib.hid hb
    clear hb hb1
    go_wp2_with fail
    refine (mul_any _ _ zs ys _ h1 h64 HF.out HN.out ((HV.out.below HB.out).more HB.out.size) ((HU.out.below HB.out).more HB.out.size)).mono ?_
    rintro e w2 ⟨r, rfl, hr, hb2⟩
    have HB2 := Lib.hid (HB.out.trans (hb2.mono HB.out.size))
    have HR := Lib.hid hr
    clear hr hb2
    go_wp2_with fail
    go_ret2
    exact ⟨r, rfl, HB2.out, fun _ => HR.out, fun h => absurd rfl h⟩
  · have hx' : (x != 0) = true := by simpa using hx
    have HX := Lib.hid hx
    clear hx HZ
    go_enter Tryd.func12, Tryd.ntmps12
    go_wp2_with fail
    refine ((HC _ (by simp) (by simp) (by simp) ((HV.out.alloc (Nat.le_refl _) _).more (by simp)) ((HU.out.alloc (Nat.le_refl _) _).more (by simp))).out).mono ?_
    rintro e w1 ⟨rfl, hb1⟩
    have hb := (((Below.refl _ w).alloc (Nat.le_refl _) _).trans (hb1.mono (by simp)))
    have HB := Lib.hid hb
    clear hb hb1
    go_wp2_with fail
    go_ret2
    exact ⟨_, rfl, HB.out, fun h => absurd h HX.out, fun _ => rfl⟩
end Go.Proofs.YtpchomhfpfpckaaDoor
