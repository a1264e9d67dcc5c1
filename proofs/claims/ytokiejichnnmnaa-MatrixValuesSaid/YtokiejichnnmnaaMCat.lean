/- The closure of matrix.Inv, and combine over two grids with it. -/
import Derived.Test.YtokiejichnnmnaaMConcat
namespace Go.Proofs.Ytokiejichnnmnaa
open Go Go.RowKit Num

set_option maxRecDepth 100000 in
set_option maxHeartbeats 400000 in
theorem catRow_any (v u : Value) (n n1 : Nat) (f g : Nat → Int) (w : World) (hn0 : 1 ≤ n) (hn10 : 1 ≤ n1) (hn : n ≤ 1000) (hn1 : n1 ≤ 1000) (hv : Vec w (· < w.heap.size) v n f) (hu : Vec w (· < w.heap.size) u n1 g) :
    Calls Try.prog 117 #[v, u] w (GivesV w (n + n1) (catF n f g)) := by
  obtain ⟨b0, o0, c0, rfl, hc0, hb0, hcc0⟩ := hv.at_ (by omega)
  obtain ⟨b1, o1, c1, rfl, hc1, hb1, hcc1⟩ := hu.at_ (by omega)
  have hB1 : Below w.heap.size w (w.alloc (.cells #[.slice (some ⟨b0, o0, none⟩) n c0, .slice (some ⟨b1, o1, none⟩) n1 c1] 28)) := (Below.refl _ _).alloc (Nat.le_refl _) _
  have hr := row_new (W := w) rfl 28 #[.slice (some ⟨b0, o0, none⟩) n c0, .slice (some ⟨b1, o1, none⟩) n1 c1]
  have HC := Lib.hid (concat_any w.heap.size 0 2 b0 o0 c0 b1 o1 c1 n n1 f g (w.alloc (.cells #[.slice (some ⟨b0, o0, none⟩) n c0, .slice (some ⟨b1, o1, none⟩) n1 c1] 28)) hn0 hn10 hn hn1 hr.lt (by simp; omega) (by simp; omega) (hr.cell rfl) (hr.cell rfl) (fun j hj => (hB1.cell (p := ⟨b0, o0 + j, none⟩) hb0).trans (hcc0 j hj)) (fun j hj => (hB1.cell (p := ⟨b1, o1 + j, none⟩) hb1).trans (hcc1 j hj)))
  have HB := Lib.hid hB1
  obtain ⟨N, hN⟩ : ∃ N, n + n1 = N := ⟨_, rfl⟩
  rw [hN] at HC ⊢
  clear hv hu hB1 hr hcc0 hcc1 hN
  go_enter Try.func117, Try.ntmps117
  go_wp2_with fail
  refine HC.out.mono ?_
  rintro e w' ⟨r, rfl, hV, hb⟩
  have HV := Lib.hid (hV.new_more (w0 := w) (w1 := w') HB.out.size (Nat.le_refl _))
  have HB2 := Lib.hid (HB.out.trans (hb.mono HB.out.size))
  clear hV hb
  go_wp2
  go_ret
  exact ⟨_, rfl, HV.out, HB2.out⟩

/-- A call has given a grid in a block of its own. -/
def GivesF (w : World) (m n : Nat) (f : Nat → Nat → Int) (e : Ending) (w' : World) : Prop := ∃ g0, e = .returned (.slice (some ⟨g0, 0, none⟩) m m) ∧ w.heap.size ≤ g0 ∧ FillG g0 m (fun _ => n) f m w' ∧ Below w.heap.size w w'

set_option maxRecDepth 100000 in
set_option maxHeartbeats 1000000 in
theorem combine_cat (va vb : Value) (m n n1 : Nat) (f g : Nat → Nat → Int) (w : World) (hm : m ≤ 1000000) (hn : n ≤ 1000) (hn0 : 1 ≤ n) (hn1 : n1 ≤ 1000) (hn10 : 1 ≤ n1) (ha : Grid w (· < w.heap.size) va m (fun _ => n) f) (hb : Grid w (· < w.heap.size) vb m (fun _ => n1) g) :
    Calls Try.prog 107 #[va, vb, (.func (.func 117) #[] #[])] w (GivesF w m (n + n1) (fun i => catF n (f i) (g i))) := by
  have hmk := fun W => make_rows m (by omega) W
  have hrow := fun W v u F G h1 h2 => catRow_any v u n n1 F G W hn0 hn10 hn hn1 h1 h2
  obtain ⟨N, hN⟩ : ∃ N, n + n1 = N := ⟨_, rfl⟩
  rw [hN] at hrow ⊢
  clear hN
  have HROW := hrow
  have HA := Lib.hid ha
  have HB := Lib.hid hb
  obtain ⟨Ag, cg, rfl, hcg, ha⟩ := ha
  obtain ⟨Bg, dg, rfl, hdg, hb⟩ := hb
  clear ha hb
  have H0 := Lib.hid (FillG.start (fun _ => N) (fun i => catF n (f i) (g i)) (row_new (W := w) rfl 28 (CTab m fun _ => .slice none 0 0)))
  have HB0 := Lib.hid ((Below.refl w.heap.size w).alloc (Nat.le_refl _) (.cells (CTab m fun _ => .slice none 0 0) 28))
  go_enter Try.func107, Try.ntmps107
  go_wp2
  go_loopw [15] (fun i wr => ∃ k : Nat, i = .int .i64 k ∧ Below w.heap.size w wr ∧ FillG w.heap.size m (fun _ => N) (fun i => catF n (f i) (g i)) k wr) (fun i _ => m - (intOf i).toNat)
  case atStart => exact ⟨0, rfl, HB0.out, H0.out⟩
  case round =>
    obtain ⟨k, rfl, hB, hF⟩ := hrel
    have hk := hF.1
    have hz := hB.size
    by_cases hlt : k < m
    · obtain ⟨bg, og, cg', RA, RC, e, hcg', hbg, hgc⟩ := HA.out.at_ (by omega)
      cases e
      obtain ⟨bg2, og2, cg2', RA2, RC2, e, hcg2', hbg2, hgc2⟩ := HB.out.at_ (by omega)
      cases e
      obtain ⟨h1, h2⟩ := hgc k hlt
      obtain ⟨h3, h4⟩ := hgc2 k hlt
      have hak : wr.cell? ⟨bg, og + k, none⟩ = some (.slice (RA k) n (RC k)) := (hB.cell (p := ⟨bg, og + k, none⟩) hbg).trans h1
      have hbk : wr.cell? ⟨bg2, og2 + k, none⟩ = some (.slice (RA2 k) n1 (RC2 k)) := (hB.cell (p := ⟨bg2, og2 + k, none⟩) hbg2).trans h3
      have HC := Lib.hid (HROW wr (.slice (RA k) n (RC k)) (.slice (RA2 k) n1 (RC2 k)) (f k) (g k) (h2.on hB) (h4.on hB))
      have HFl := Lib.hid hF
      have HBr := Lib.hid hB
      clear h1 h2 h3 h4 hgc hgc2 hB hF
      go_wp2_with fail
      refine HC.out.mono ?_
      rintro e w' ⟨r, rfl, hV, hBn⟩
      obtain ⟨A', c', rfl, _⟩ := hV.form
      have hF' := HFl.out.on hBn
      obtain ⟨⟨u, hct⟩, hft⟩ := hF'.put hlt
      have HS := Lib.hid (hF'.step hlt (hV.more fun b h => ⟨by have := h.1; have := HFl.out.lt; omega, h.2⟩))
      have HB2 := Lib.hid ((HBr.out.trans (hBn.mono hz)).setCell (p := ⟨w.heap.size, k, none⟩) (Nat.le_refl _) (.slice A' N c'))
      clear hV hBn hF' HFl HBr HC
      go_wp2
      go_roundw
      case rel => exact ⟨k + 1, by go_num, HB2.out, HS.out⟩
      case measure => simp [intOf]; omega
    · have e : k = m := by omega
      subst e
      have HS := Lib.hid hF
      have HBr := Lib.hid hB
      clear hF hB
      go_wp2
      go_ret
      exact ⟨_, rfl, Nat.le_refl _, HS.out, HBr.out⟩
end Go.Proofs.Ytokiejichnnmnaa
