/- cayleykit.Perm: a permutation that numbers select. -/
import Derived.Test.YtpchomhfpfpckaaDoorSome
namespace Go.Proofs.YtpchomhfpfpckaaDoor
open Go Go.RowKit

/-- What Perm's loop keeps. -/
def SelAt (w : World) (t n : Nat) (v : Value) (zs : List Int) (p : Value) (k : Nat) (wr : World) : Prop :=
  k ≤ n ∧ ∃ (m : Nat) (l : PL n), wr.ownsRow w.heap.size 3 1 p n (icells l.1) ∧ TakerAt wr t v zs m ∧ But t w.heap.size w wr ∧ w.heap.size ≤ wr.heap.size
/-- What Perm has done. -/
def Selected (w : World) (t n : Nat) (v : Value) (zs : List Int) (e : Ending) (w' : World) : Prop :=
  ∃ (r : Value) (m : Nat) (l : PL n), e = .returned r ∧ Held w' t w'.heap.size r l.1 ∧ TakerAt w' t v zs m ∧ But t w.heap.size w w' ∧ w.heap.size ≤ w'.heap.size

theorem icells_set (l : List Int) (j : Nat) (x : Int) : (icells l).set j (.int .i64 x) = icells (l.set j x) := by simp [icells, List.map_set]
theorem icells_get {l : List Int} {j : Nat} (h : j < l.length) : (icells l)[j]? = some (.int .i64 (l.getD j 0)) := by simp [icells, List.getD_eq_getElem?_getD, h]

theorem SelAt.swap {w wr : World} {t n k j m g cap : Nat} {v : Value} {zs : List Int} {l : PL n} (hk : k < n) (hj : j < n) (ht : t < w.heap.size) (hg : w.heap.size ≤ g)
    (hO : wr.ownsRow w.heap.size 3 1 (.slice (some ⟨g, 0, none⟩) n cap) n (icells l.1)) (hT : TakerAt wr t v zs m) (hB : But t w.heap.size w wr) (hs : w.heap.size ≤ wr.heap.size) :
    SelAt w t n v zs (.slice (some ⟨g, 0, none⟩) n cap) (k + 1) ((wr.setCell ⟨g, k, none⟩ (.int .i64 (l.1.getD j 0))).setCell ⟨g, j, none⟩ (.int .i64 (l.1.getD k 0))) := by
  have h1 := (hO.stored k (.int .i64 (l.1.getD j 0))).1
  rw [icells_set] at h1
  have h2 := (h1.stored j (.int .i64 (l.1.getD k 0))).1
  rw [icells_set] at h2
  have b1 := But.set (t := t) (B := w.heap.size) wr (p := ⟨g, k, none⟩) (.inr hg) (by omega) (.int .i64 (l.1.getD j 0))
  have b2 := But.set (t := t) (B := w.heap.size) (wr.setCell ⟨g, k, none⟩ (.int .i64 (l.1.getD j 0))) (p := ⟨g, j, none⟩) (.inr hg) (by omega) (.int .i64 (l.1.getD k 0))
  refine ⟨by omega, m, pswap l k j hk hj, h2, ⟨?_, ?_⟩, hB.trans (b1.trans b2), by simp; exact hs⟩
  · exact (hT.1.far (p := ⟨g, k, none⟩) (by simp; omega) _).far (p := ⟨g, j, none⟩) (by simp; omega) _
  · exact (hT.2.below b1.1).below b2.1

theorem SelAt.drew {w wr : World} {t n k : Nat} {v p : Value} {zs : List Int} (h : SelAt w t n v zs p k wr) : SelAt w t n v zs p k wr.drew := by
  obtain ⟨hk, m, l, hO, hT, hB, hs⟩ := h
  exact ⟨hk, m, l, hO, hT, ⟨hB.1.drew, hB.2⟩, hs⟩

theorem owns_form {w : World} {base : Nat} {e : TypeId} {size : Nat} {v : Value} {n : Nat} {xs : List Value} (h : w.ownsRow base e size v n xs) (hn : 0 < n) :
    ∃ g cap, v = .slice (some ⟨g, 0, none⟩) n cap ∧ base ≤ g ∧ g < w.heap.size := by
  rcases h.2 with ⟨_, h0⟩ | ⟨g, cap, cur, hv, hb, hg, _⟩
  · omega
  · exact ⟨g, cap, hv, hb, (Array.getElem?_eq_some_iff.1 hg).1⟩

set_option maxRecDepth 100000 in
set_option maxHeartbeats 1000000 in
theorem kitPerm_any (t n m : Nat) (v : Value) (zs : List Int) (w : World) (hl : zs.length ≤ 17592186044400) (h1 : 1 ≤ n) (hn : n ≤ 64) (ht : t < w.heap.size) (hT : TakerAt w t v zs m) :
    Calls Tryd.prog 56 #[.pointer (some ⟨t, 0, none⟩), .int .i64 n] w (Selected w t n v zs) := by
  have HK := fun W k (y : Int) (hy : y ≤ 9223372036854775807) h => Lib.hid (take_any t v zs k y W hl hy h)
  have HT := Lib.hid hT
  clear hT
  go_enter Tryd.func56, Tryd.ntmps56
  go_wp2_with fail
  refine (kitOne_any n w (by omega)).mono ?_
  rintro e w1 ⟨r, rfl, hO, hb⟩
  have hln := idL_len n
  unfold OwnsI at hO
  rw [hln] at hO
  obtain ⟨g, cap, rfl, hg, hg'⟩ := owns_form hO h1
  have h00 : SelAt w t n v zs (.slice (some ⟨g, 0, none⟩) n cap) 0 w1 := ⟨by omega, m, pone n, hO, ⟨HT.out.1.below hb ht, (HT.out.2.below (hb.mono (by omega)))⟩, But.of hb (by omega), hb.size⟩
  have H0 := Lib.hid h00
  clear h00 hO hb hln HT hg'
  go_wp2_with fail
  go_loopw [6] (fun i wr => ∃ k : Nat, i = .int .i64 k ∧ SelAt w t n v zs (.slice (some ⟨g, 0, none⟩) n cap) k wr) (fun i _ => n - (intOf i).toNat)
  case atStart => exact ⟨0, rfl, H0.out⟩
  case round =>
    obtain ⟨k, rfl, hk, m, l, hO, hT, hB, hs⟩ := hrel
    by_cases hlt : k + 1 < n
    · have hlt' : ((k : Int) + 1 < (n : Int)) := by omega
      have HO := Lib.hid hO
      have HT := Lib.hid hT
      have HB := Lib.hid hB
      have HS := Lib.hid hs
      clear hO hT hB hs
      go_wp2_with fail
      refine ((HK wr m ((n : Int) - (k : Int)) (by omega) HT.out).out).mono ?_
      intro e w2 hTk
      obtain ⟨x, m2, rfl, hx0, hx1, hT2, hO2, hB2⟩ := hTk.keep HT.out HO.out (by omega) (by omega)
      obtain ⟨j, rfl⟩ : ∃ j : Nat, x = (j : Int) := ⟨x.toNat, by omega⟩
      have hkj : k + j < n := by omega
      have HW := Lib.hid (SelAt.swap (k := k) (j := k + j) (by omega) hkj ht hg hO2 hT2 (HB.out.trans hB2) (Nat.le_trans HS.out hB2.1.size))
      have hlen := l.2.1
      have hcj := (hO2.cellAt (k + j) (by omega)).trans (icells_get (by omega))
      have hck := (hO2.cellAt k (by omega)).trans (icells_get (by omega))
      have hfj := hO2.frozenAt (k + j)
      have hfk := hO2.frozenAt k
      generalize l.1.getD (k + j) 0 = y at hcj HW
      generalize l.1.getD k 0 = z at hck HW
      clear hTk hT2 hO2 hB2 HT HO hx0 hx1 hlen
      by_cases hj : j = 0
      · subst hj
        have hyz : z = y := by rw [Nat.add_zero, hck] at hcj; injection hcj with h; injection h
        subst hyz
        have HW2 := Lib.hid (show SelAt w t n v zs (.slice (some ⟨g, 0, none⟩) n cap) (k + 1) ((w2.setCell ⟨g, k, none⟩ (.int .i64 z)).setCell ⟨g, k, none⟩ (.int .i64 z)) by have := HW.out; rwa [Nat.add_zero] at this)
        clear hcj hfj HW
        go_wp2_with fail
        go_region
        all_goals (go_wp2_with fail)
        all_goals go_roundw
        case rel => exact ⟨k + 1, by go_num, SelAt.drew HW2.out⟩
        case measure => simp [intOf]; omega
      · go_wp2_with fail
        go_region
        all_goals (go_wp2_with fail)
        all_goals go_roundw
        case rel => exact ⟨k + 1, by go_num, SelAt.drew HW.out⟩
        case measure => simp [intOf]; omega
    · have hln := l.2.1
      obtain ⟨-, hgs⟩ := hO.lt g rfl
      have hH : Held wr t wr.heap.size (.slice (some ⟨g, 0, none⟩) n cap) l.1 := ⟨g, cap, by rw [hln], by omega, hgs, fun j hj => (hO.cellAt j (by omega)).trans (icells_get hj)⟩
      have HF := Lib.hid (show Selected w t n v zs (.returned (.slice (some ⟨g, 0, none⟩) n cap)) wr from ⟨_, m, l, rfl, hH, hT, hB, hs⟩)
      clear hO hT hB hs hH hln hgs
      go_wp2_with fail
      go_ret
      exact HF.out
end Go.Proofs.YtpchomhfpfpckaaDoor
