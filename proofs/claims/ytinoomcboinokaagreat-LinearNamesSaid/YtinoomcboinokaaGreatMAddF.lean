/- The closure of matrix.Add, and combine over two grids with it. -/
import Derived.Test.YtinoomcboinokaaGreatMMulQ
namespace Go.Proofs.YtinoomcboinokaaGreat
open Go Go.RowKit Num

set_option maxRecDepth 100000 in
set_option maxHeartbeats 400000 in
theorem addRow_any (v u ra : Value) (n : Nat) (f g : Nat → Int) (p : Int) (B : Nat) (w : World) (hn : n ≤ 1000000) (hv : Vec w (· < w.heap.size) v n f) (hu : Vec w (· < w.heap.size) u n g) (hp0 : 1 ≤ p) (hp1 : p ≤ 10000) (hf : InP p n f) (hg : InP p n g) (hb : Row w B 31 #[.int .i64 p, ra]) :
    Calls Tryz.prog 58 #[v, u, .pointer (some ⟨B, 0, none⟩)] w (GivesV w n (axpy 1 p f g)) := by
  obtain ⟨A, c, rfl, _⟩ := hv.form
  obtain ⟨A2, c2, rfl, _⟩ := hu.form
  have hcp : w.cell? ⟨B, 0, none⟩ = some (.int .i64 p) := hb.cell rfl
  have hB1 := ((Below.refl w.heap.size w).alloc (Nat.le_refl _) (.cells #[.int .i64 1] 3)).alloc (by simp) (.cells #[.int .i64 p] 3)
  have HC := Lib.hid (combine_plus (.slice A n c) (.slice A2 n c2) n n f g 1 p w.heap.size (w.heap.size + 1) (· < ((w.alloc (.cells #[.int .i64 1] 3)).alloc (.cells #[.int .i64 p] 3)).heap.size) ((w.alloc (.cells #[.int .i64 1] 3)).alloc (.cells #[.int .i64 p] 3)) (fun _ h => h) (by simp; omega) (by simp) hn (Nat.le_refl _)
    (hv.on hB1) (hu.on hB1) hp1 hf hg ⟨by omega, hp0⟩ ((row_new rfl _ _).alloc _) (row_new (by simp) _ _))
  have HB := Lib.hid hB1
  clear hv hu hb hB1
  go_enter Tryz.func58, Tryz.ntmps58
  go_wp2_with fail
  refine (plus_any _ _ _).mono ?_
  rintro e w' ⟨rfl, rfl⟩
  go_wp2_with fail
  refine HC.out.mono ?_
  rintro e w' ⟨r, rfl, hV, hb⟩
  have HV := Lib.hid (hV.new_more (w0 := w) (w1 := w') HB.out.size (Nat.le_refl _))
  have HB2 := Lib.hid (HB.out.trans (hb.mono HB.out.size))
  clear hV hb
  go_wp2
  go_ret
  exact ⟨_, rfl, HV.out, HB2.out⟩

/-- A call has given a grid: new memory. -/
def GivesG (w : World) (m n : Nat) (f : Nat → Nat → Int) (e : Ending) (w' : World) : Prop := ∃ r, e = .returned r ∧ Grid w' (New w w') r m (fun _ => n) f ∧ Below w.heap.size w w'

set_option maxRecDepth 100000 in
set_option maxHeartbeats 1000000 in
theorem combine_add (va vb ra : Value) (m n : Nat) (f g : Nat → Nat → Int) (p : Int) (B : Nat) (w : World) (hm : m ≤ 1000000) (hn : n ≤ 1000000) (ha : Grid w (· < w.heap.size) va m (fun _ => n) f) (hb : Grid w (· < w.heap.size) vb m (fun _ => n) g)
    (hp0 : 1 ≤ p) (hp1 : p ≤ 10000) (hf : InG p m n f) (hg : InG p m n g) (hbx : Row w B 31 #[.int .i64 p, ra]) :
    Calls Tryz.prog 61 #[va, vb, .func (.func 58) #[] #[.pointer (some ⟨B, 0, none⟩)]] w (GivesG w m n (fun i => axpy 1 p (f i) (g i))) := by
  have hmk := fun W => make_rows m (by omega) W
  have HA := Lib.hid ha
  have HB := Lib.hid hb
  have HF := Lib.hid hf
  have HG := Lib.hid hg
  have HX := Lib.hid hbx
  obtain ⟨Ag, cg, rfl, hcg, ha⟩ := ha
  obtain ⟨Bg, dg, rfl, hdg, hb⟩ := hb
  clear ha hb hf hg hbx
  have H0 := Lib.hid (FillG.start (fun _ => n) (fun i => axpy 1 p (f i) (g i)) (row_new (W := w) rfl 22 (CTab m fun _ => .slice none 0 0)))
  have HB0 := Lib.hid ((Below.refl w.heap.size w).alloc (Nat.le_refl _) (.cells (CTab m fun _ => .slice none 0 0) 22))
  go_enter Tryz.func61, Tryz.ntmps61
  go_wp2
  go_loopw [15] (fun i wr => ∃ k : Nat, i = .int .i64 k ∧ Below w.heap.size w wr ∧ FillG w.heap.size m (fun _ => n) (fun i => axpy 1 p (f i) (g i)) k wr) (fun i _ => m - (intOf i).toNat)
  case atStart => exact ⟨0, rfl, HB0.out, H0.out⟩
  case round =>
    obtain ⟨k, rfl, hB, hF⟩ := hrel
    have hk := hF.1
    have hz := hB.size
    by_cases hlt : k < m
    · obtain ⟨bg, og, cg', RA, RC, e, hcg', hbg, hgc⟩ := HA.out.at_ (by omega)
      cases e
      obtain ⟨bg2, og2, cg2', RA2, RC2, e, hcg2', hbg2, hgc2⟩ := HB.out.at_ (by omega)
      cases e
      obtain ⟨h1, h2⟩ := hgc k hlt
      obtain ⟨h3, h4⟩ := hgc2 k hlt
      have hak : wr.cell? ⟨bg, og + k, none⟩ = some (.slice (RA k) n (RC k)) := (hB.cell (p := ⟨bg, og + k, none⟩) hbg).trans h1
      have hbk : wr.cell? ⟨bg2, og2 + k, none⟩ = some (.slice (RA2 k) n (RC2 k)) := (hB.cell (p := ⟨bg2, og2 + k, none⟩) hbg2).trans h3
      have HC := Lib.hid (addRow_any (.slice (RA k) n (RC k)) (.slice (RA2 k) n (RC2 k)) ra n (f k) (g k) p B wr hn (h2.on hB) (h4.on hB) hp0 hp1 (HF.out k hlt) (HG.out k hlt) (Row.below HX.out hB HX.out.lt))
      have HFl := Lib.hid hF
      have HBr := Lib.hid hB
      clear h1 h2 h3 h4 hgc hgc2 hB hF
      go_wp2_with fail
      refine HC.out.mono ?_
      rintro e w' ⟨r, rfl, hV, hBn⟩
      obtain ⟨A', c', rfl, _⟩ := hV.form
      have hF' := HFl.out.on hBn
      obtain ⟨⟨u, hct⟩, hft⟩ := hF'.put hlt
      have HS := Lib.hid (hF'.step hlt (hV.more fun b h => ⟨by have := h.1; have := HFl.out.lt; omega, h.2⟩))
      have HB2 := Lib.hid ((HBr.out.trans (hBn.mono hz)).setCell (p := ⟨w.heap.size, k, none⟩) (Nat.le_refl _) (.slice A' n c'))
      clear hV hBn hF' HFl HBr HC
      go_wp2
      go_roundw
      case rel => exact ⟨k + 1, by go_num, HB2.out, HS.out⟩
      case measure => simp [intOf]; omega
    · have e : k = m := by omega
      subst e
      have HS := Lib.hid hF.grid
      have HBr := Lib.hid hB
      clear hF hB
      go_wp2
      go_ret
      exact ⟨_, rfl, HS.out, HBr.out⟩
end Go.Proofs.YtinoomcboinokaaGreat
