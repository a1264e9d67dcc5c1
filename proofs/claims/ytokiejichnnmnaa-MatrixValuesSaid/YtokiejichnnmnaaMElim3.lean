/- (elimination).divide and clear. -/
import Derived.Test.YtokiejichnnmnaaMElim2
namespace Go.Proofs.Ytokiejichnnmnaa
open Go Go.RowKit Num

/-- The inverse of a residue. -/
def invI (p a : Int) : Int := ((a.toNat ^ (p.toNat - 2) % p.toNat : Nat) : Int)
theorem invI_in {p a : Int} (hp : 2 ≤ p) : 0 ≤ invI p a ∧ invI p a < p := by
  unfold invI
  have := Nat.mod_lt (a.toNat ^ (p.toNat - 2)) (show 0 < p.toNat by omega)
  omega
theorem primeInv_any (a p : Int) (w : World) (hp : P6 p.toNat) (hp0 : 0 ≤ p) (ha : 0 < a ∧ a < p) :
    Calls Try.prog 193 #[.int .i64 a, .int .i64 p] w fun e w' => e = .returned (.tuple #[.int .i64 (invI p a), .int .i64 0]) ∧ w' = w.alloc (.cells #[.int .i64 p] 3) := by
  obtain ⟨an, rfl⟩ : ∃ an : Nat, a = an := ⟨a.toNat, by omega⟩
  obtain ⟨pn, rfl⟩ : ∃ pn : Nat, p = pn := ⟨p.toNat, by omega⟩
  rw [Int.toNat_natCast] at hp
  have h := Inv_ok an pn w hp (by rw [resV_nat (by omega)]; omega)
  rw [resV_nat (by omega)] at h
  exact h
/-- What a call without a result leaves. -/
def DoPost (E g0 D : Nat) (p : Int) (m n : Nat) (F : Nat → Nat → Int) (odd : Bool) (w : World) (e : Ending) (w' : World) : Prop := e = .returned (.tuple #[]) ∧ Kept2 E g0 w w' ∧ ElimAt E g0 D p m n F odd w'
/-- Row i divided by its pivot. -/
def divF (p : Int) (F : Nat → Nat → Int) (i a : Nat) : Nat → Int := if a = i then axpy (invI p (F i i)) p (fun _ => 0) (F i) else F a

set_option maxRecDepth 100000 in
set_option maxHeartbeats 2000000 in
theorem divide_any (E g0 D : Nat) (p : Int) (m n i : Nat) (F : Nat → Nat → Int) (odd : Bool) (w : World) (_hm : m ≤ 1000) (hn : n ≤ 1000) (hi : i < m) (hin : i < n) (hp : P6 p.toNat) (hp0 : 2 ≤ p) (hp1 : p ≤ 10000) (hD : D < w.heap.size) (h : ElimAt E g0 D p m n F odd w) (hF : InP p n (F i)) (hnz : F i i ≠ 0) :
    Calls Try.prog 159 #[.pointer (some ⟨E, 0, none⟩), .int .i64 i] w (DoPost E g0 D p m n (divF p F i) odd w) := by
  obtain ⟨c, hc, e0, e1, e2, ef, gf, RA, RC, hrows⟩ := h.at_
  obtain ⟨hE, hg0⟩ := h.lt
  have hne := h.ne
  obtain ⟨r1, v1⟩ := hrows i hi
  obtain ⟨b, o, c2, er, hc2, ⟨hb, hbE, hbg, hbD⟩, hcc⟩ := v1.at_ (by omega)
  rw [er] at r1 v1
  have hx := hcc i hin
  have hxin := hF i hin
  have HV := Lib.hid v1
  have HI := fun W => Lib.hid (primeInv_any (F i i) p W hp (by omega) ⟨by omega, hxin.2⟩)
  have hii := invI_in (p := p) (a := F i i) hp0
  have HT := fun W k (hk : 0 ≤ k ∧ k ≤ p) (S : Nat → Prop) (hS : ∀ b, S b → b < W.heap.size) hv => Lib.hid (mtimes_any k p (.slice (some ⟨b, o, none⟩) n c2) n (F i) S W hS (by omega) hv (by omega) hp1 hF hk)
  have HQ := Lib.hid (show ∀ a, divF p F i a = if a = i then axpy (invI p (F i i)) p (fun _ => 0) (F i) else F a from fun a => rfl)
  have HG := Lib.hid (show (fun a => if a = i then axpy (invI p (F i i)) p (fun _ => 0) (F i) else F a) = divF p F i from rfl)
  generalize divF p F i = G at HG ⊢
  generalize F i i = x at hx hxin HI hii HG
  generalize invI p x = kk at HI hii HG
  have HH := Lib.hid h
  have hlt : (i : Int) < m := by omega
  have hlt2 : (i : Int) < n := by omega
  have HW1 := Lib.hid (fun (W : World) (h1 : W.heap.size = w.heap.size) (h2 : W.heap = w.heap) => (show W.cell? ⟨E, 0, none⟩ = some (.int .i64 p) ∧ W.cell? ⟨E, 1, none⟩ = some (.slice (some ⟨g0, 0, none⟩) m c) ∧ W.cell? ⟨g0, i, none⟩ = some (.slice (some ⟨b, o, none⟩) n c2) ∧ W.cell? ⟨b, o + i, none⟩ = some (.int .i64 x) from by
    simp only [World.cell?, h2] at *; exact ⟨e0, e1, r1, hx⟩))
  have HW2 := Lib.hid (fun (W : World) (hb' : Below w.heap.size w W) => (show W.cell? ⟨E, 0, none⟩ = some (.int .i64 p) ∧ W.cell? ⟨E, 1, none⟩ = some (.slice (some ⟨g0, 0, none⟩) m c) ∧ W.cell? ⟨g0, i, none⟩ = some (.slice (some ⟨b, o, none⟩) n c2) ∧ W.cell? ⟨b, o + i, none⟩ = some (.int .i64 x) from
    ⟨(hb'.cell (p := ⟨E, 0, none⟩) hE).trans e0, (hb'.cell (p := ⟨E, 1, none⟩) hE).trans e1, (hb'.cell (p := ⟨g0, i, none⟩) hg0).trans r1, (hb'.cell (p := ⟨b, o + i, none⟩) hb).trans hx⟩))
  clear h hrows hcc HQ v1 er hF hnz
  go_enter Try.func159, Try.ntmps159
  go_wp2_with fail
  go_region_held3 (fun W => W.cell? ⟨E, 0, none⟩ = some (.int .i64 p) ∧ W.cell? ⟨E, 1, none⟩ = some (.slice (some ⟨g0, 0, none⟩) m c) ∧ W.cell? ⟨g0, i, none⟩ = some (.slice (some ⟨b, o, none⟩) n c2) ∧ W.cell? ⟨b, o + i, none⟩ = some (.int .i64 x))
    ((first | assumption | exact HW1.out _ rfl rfl | exact HW2.out _ (below_alloc (below_drew (Below.refl _ _)) (Nat.le_refl _) _)))
    (first | (go_at_call 193; refine (HI _).out.mono ?_; rintro e w' ⟨rfl, rfl⟩))
  have hB2 : Below w.heap.size w (w.alloc (.cells #[.int .i64 p] 3)).drew := below_drew (below_alloc (Below.refl _ _) (Nat.le_refl _) _)
  have hS2 := HW2.out _ hB2
  have hH2 := HH.out.on hB2
  have hK2 : Kept2 E g0 w (w.alloc (.cells #[.int .i64 p] 3)).drew := Kept2.of hB2
  have hv2 := (Kept2.of (E := E) (g0 := g0) hB2).vec HV.out
  generalize (w.alloc (.cells #[.int .i64 p] 3)).drew = w2 at hB2 hS2 hH2 hK2 hv2
  obtain ⟨k1, k2, k3, k4⟩ := hS2
  obtain ⟨hE2, hg2⟩ := hH2.lt
  have hD2 : D < w2.heap.size := Nat.lt_of_lt_of_le hD hB2.size
  have HB2 : Below w2.heap.size w2 w2.drew := below_drew (Below.refl _ _)
  have HCT := HT w2.drew kk ⟨hii.1, by omega⟩ (· < w2.drew.heap.size) (fun _ h => h) ((hv2.more fun _ h => h.1).on HB2)
  have HS0 := Lib.hid (show w2.drew.cell? ⟨E, 0, none⟩ = some (.int .i64 p) ∧ w2.drew.cell? ⟨E, 1, none⟩ = some (.slice (some ⟨g0, 0, none⟩) m c) from ⟨k1, k2⟩)
  have HSB := Lib.hid (fun (W : World) (hb : Below w2.drew.heap.size w2.drew W) => (show W.cell? ⟨E, 0, none⟩ = some (.int .i64 p) ∧ W.cell? ⟨E, 1, none⟩ = some (.slice (some ⟨g0, 0, none⟩) m c) from ⟨(hb.cell (p := ⟨E, 0, none⟩) hE2).trans k1, (hb.cell (p := ⟨E, 1, none⟩) hE2).trans k2⟩))
  have HSS := Lib.hid (fun (W : World) (u : Value) (h : W.cell? ⟨E, 0, none⟩ = some (.int .i64 p) ∧ W.cell? ⟨E, 1, none⟩ = some (.slice (some ⟨g0, 0, none⟩) m c)) => (show (W.setCell ⟨g0, i, none⟩ u).cell? ⟨E, 0, none⟩ = some (.int .i64 p) ∧ (W.setCell ⟨g0, i, none⟩ u).cell? ⟨E, 1, none⟩ = some (.slice (some ⟨g0, 0, none⟩) m c) from
    ⟨(World.cell?_setCell_far _ _ _ _ (show g0 ≠ E from hne.symm)).trans h.1, (World.cell?_setCell_far _ _ _ _ (show g0 ≠ E from hne.symm)).trans h.2⟩))
  have HH2 := Lib.hid hH2
  have HK2 := Lib.hid hK2
  clear hH2 hK2 hv2 hB2
  go_wp2_with fail
  refine wp_region_held_drew (S := (fun W => W.cell? ⟨E, 0, none⟩ = some (.int .i64 p) ∧ W.cell? ⟨E, 1, none⟩ = some (.slice (some ⟨g0, 0, none⟩) m c))) (by kernel_rfl) HS0.out (fun hHeld => ?_)
  refine takeH (i := 0) (v := (.pointer (some ⟨E, 0, none⟩))) rfl rfl (by kernel_rfl) (by kernel_rfl) (by kernel_rfl) (fun _ _ _ h => h) (by rfl) (fun W hW => by (obtain ⟨hW1, hW2⟩ := hW); go_simp) (by assumption) ?_
  simp only [List.setIfInBounds_toArray, List.set_cons_zero, List.set_cons_succ]
  refine takeH (i := 1) (v := (.pointer (some ⟨E, 0, none⟩))) rfl rfl (by kernel_rfl) (by kernel_rfl) (by kernel_rfl) (fun _ _ _ h => h) (by rfl) (fun W hW => by (obtain ⟨hW1, hW2⟩ := hW); go_simp) (by assumption) ?_
  simp only [List.setIfInBounds_toArray, List.set_cons_zero, List.set_cons_succ]
  refine takeH (i := 2) (v := (.pointer (some ⟨E, 1, none⟩))) rfl rfl (by kernel_rfl) (by kernel_rfl) (by kernel_rfl) (fun _ _ _ h => h) (by rfl) (fun W hW => by (obtain ⟨hW1, hW2⟩ := hW); go_simp) (by assumption) ?_
  simp only [List.setIfInBounds_toArray, List.set_cons_zero, List.set_cons_succ]
  refine takeH (i := 3) (v := (.slice (some ⟨g0, 0, none⟩) m c)) rfl rfl (by kernel_rfl) (by kernel_rfl) (by kernel_rfl) (fun _ _ _ h => h) (by rfl) (fun W hW => by (obtain ⟨hW1, hW2⟩ := hW); go_simp) (by assumption) ?_
  simp only [List.setIfInBounds_toArray, List.set_cons_zero, List.set_cons_succ]
  refine takeH (i := 4) (v := (.int .i64 i)) rfl rfl (by kernel_rfl) (by kernel_rfl) (by kernel_rfl) (fun _ _ _ h => h) (by rfl) (fun W hW => by (obtain ⟨hW1, hW2⟩ := hW); go_simp) (by assumption) ?_
  simp only [List.setIfInBounds_toArray, List.set_cons_zero, List.set_cons_succ]
  refine takeH (i := 5) (v := (.int .i64 kk)) rfl rfl (by kernel_rfl) (by kernel_rfl) (by kernel_rfl) (fun _ _ _ h => h) (by rfl) (fun W hW => by (obtain ⟨hW1, hW2⟩ := hW); go_simp) (by assumption) ?_
  simp only [List.setIfInBounds_toArray, List.set_cons_zero, List.set_cons_succ]
  refine takeH (i := 6) (v := (.pointer (some ⟨E, 0, none⟩))) rfl rfl (by kernel_rfl) (by kernel_rfl) (by kernel_rfl) (fun _ _ _ h => h) (by rfl) (fun W hW => by (obtain ⟨hW1, hW2⟩ := hW); go_simp) (by assumption) ?_
  simp only [List.setIfInBounds_toArray, List.set_cons_zero, List.set_cons_succ]
  refine takeH (i := 7) (v := (.pointer (some ⟨E, 0, none⟩))) rfl rfl (by kernel_rfl) (by kernel_rfl) (by kernel_rfl) (fun _ _ _ h => h) (by rfl) (fun W hW => by (obtain ⟨hW1, hW2⟩ := hW); go_simp) (by assumption) ?_
  simp only [List.setIfInBounds_toArray, List.set_cons_zero, List.set_cons_succ]
  refine takeH (i := 8) (v := (.pointer (some ⟨E, 1, none⟩))) rfl rfl (by kernel_rfl) (by kernel_rfl) (by kernel_rfl) (fun _ _ _ h => h) (by rfl) (fun W hW => by (obtain ⟨hW1, hW2⟩ := hW); go_simp) (by assumption) ?_
  simp only [List.setIfInBounds_toArray, List.set_cons_zero, List.set_cons_succ]
  refine takeH (i := 9) (v := (.slice (some ⟨g0, 0, none⟩) m c)) rfl rfl (by kernel_rfl) (by kernel_rfl) (by kernel_rfl) (fun _ _ _ h => h) (by rfl) (fun W hW => by (obtain ⟨hW1, hW2⟩ := hW); go_simp) (by assumption) ?_
  simp only [List.setIfInBounds_toArray, List.set_cons_zero, List.set_cons_succ]
  refine takeH (i := 10) (v := (.int .i64 i)) rfl rfl (by kernel_rfl) (by kernel_rfl) (by kernel_rfl) (fun _ _ _ h => h) (by rfl) (fun W hW => by (obtain ⟨hW1, hW2⟩ := hW); go_simp) (by assumption) ?_
  simp only [List.setIfInBounds_toArray, List.set_cons_zero, List.set_cons_succ]
  refine takeH (i := 11) (v := (.pointer (some ⟨g0, i, none⟩))) rfl rfl (by kernel_rfl) (by kernel_rfl) (by kernel_rfl) (fun _ _ _ h => h) (by rfl) (fun W hW => by (obtain ⟨hW1, hW2⟩ := hW); go_simp) (by assumption) ?_
  simp only [List.setIfInBounds_toArray, List.set_cons_zero, List.set_cons_succ]
  refine takeH (i := 13) (v := (.pointer (some ⟨E, 0, none⟩))) rfl rfl (by kernel_rfl) (by kernel_rfl) (by kernel_rfl) (fun _ _ _ h => h) (by rfl) (fun W hW => by (obtain ⟨hW1, hW2⟩ := hW); go_simp) (by assumption) ?_
  simp only [List.setIfInBounds_toArray, List.set_cons_zero, List.set_cons_succ]
  refine takeH (i := 14) (v := (.pointer (some ⟨E, 0, none⟩))) rfl rfl (by kernel_rfl) (by kernel_rfl) (by kernel_rfl) (fun _ _ _ h => h) (by rfl) (fun W hW => by (obtain ⟨hW1, hW2⟩ := hW); go_simp) (by assumption) ?_
  simp only [List.setIfInBounds_toArray, List.set_cons_zero, List.set_cons_succ]
  refine takeH (i := 15) (v := (.pointer (some ⟨E, 0, none⟩))) rfl rfl (by kernel_rfl) (by kernel_rfl) (by kernel_rfl) (fun _ _ _ h => h) (by rfl) (fun W hW => by (obtain ⟨hW1, hW2⟩ := hW); go_simp) (by assumption) ?_
  simp only [List.setIfInBounds_toArray, List.set_cons_zero, List.set_cons_succ]
  refine takeH (i := 16) (v := (.int .i64 p)) rfl rfl (by kernel_rfl) (by kernel_rfl) (by kernel_rfl) (fun _ _ _ h => h) (by rfl) (fun W hW => by (obtain ⟨hW1, hW2⟩ := hW); go_simp) (by assumption) ?_
  simp only [List.setIfInBounds_toArray, List.set_cons_zero, List.set_cons_succ]
  refine wpAnyH_ready (rs := [12]) (by kernel_rfl) (by simp) ?_
  refine (AllReadyH.cons rfl (fun K hK => ?_) AllReadyH.nil)
  go_simp
  refine hK.out _ _ HS0.out (fun hHeld => ?_)
  clear hK K
  try simp only [Act.put, List.setIfInBounds_toArray, List.set_cons_zero, List.set_cons_succ]
  refine wpAnyH_ready (rs := [17]) (by kernel_rfl) (by simp) ?_
  refine (AllReadyH.cons rfl (fun K hK => ?_) AllReadyH.nil)
  go_simp
  refine HCT.out.mono ?_
  rintro e w3 ⟨r, rfl, hV, hb3⟩
  obtain ⟨A3, c3, rfl, _⟩ := hV.form
  have hH3 := (HH2.out.frz).on hb3
  have HP3 := Lib.hid (hH3.put hi (hV.more fun b h => ⟨h.2, by have := h.1; have hd : w2.drew.heap.size = w2.heap.size := rfl; omega, by have := h.1; have hd : w2.drew.heap.size = w2.heap.size := rfl; omega, by have := h.1; have hd : w2.drew.heap.size = w2.heap.size := rfl; omega⟩))
  have HK3 := Lib.hid (((kept_drew E g0 HK2.out).trans (Kept2.of hb3)).set (p := ⟨g0, i, none⟩) (.inr rfl) (.slice A3 n c3))
  have hc3 := (hb3.cell (p := ⟨g0, i, none⟩) hg2).trans k3
  have hf3 : w3.frozen? ⟨g0, i, none⟩ = false := by obtain ⟨_, _, _, _, _, _, g, _⟩ := hH3.at_; exact g i
  have hSB3 := HSB.out _ hb3
  clear hV hb3 hH3
  refine hK.out _ _ (by assumption) (fun hHeld => ?_)
  clear hK K
  try simp only [Act.put, List.setIfInBounds_toArray, List.set_cons_zero, List.set_cons_succ]
  refine takeH (i := 18) (v := (.pointer (some ⟨g0, i, none⟩))) rfl rfl (by kernel_rfl) (by kernel_rfl) (by kernel_rfl) (fun _ _ _ h => h) (by rfl) (fun W hW => by (obtain ⟨hW1, hW2⟩ := hW); go_simp) (by assumption) ?_
  simp only [List.setIfInBounds_toArray, List.set_cons_zero, List.set_cons_succ]
  refine wpAnyH_ready (rs := [19]) (by kernel_rfl) (by simp) ?_
  refine (AllReadyH.cons rfl (fun K hK => ?_) AllReadyH.nil)
  go_simp
  refine hK.out _ _ (HSS.out _ _ (by assumption)) (fun hHeld => ?_)
  clear hK K
  try simp only [Act.put, List.setIfInBounds_toArray, List.set_cons_zero, List.set_cons_succ]
  refine wpAnyH_done (by kernel_rfl) ?_ _
  go_wp2
  go_end0
  exact ⟨rfl, HK3.out, by rw [← HG.out]; exact HP3.out⟩

/-- Multiples of row i taken off the others. -/
def clrF (p : Int) (F : Nat → Nat → Int) (i a : Nat) : Nat → Int := if a = i then F a else if F a i = 0 then F a else axpy (p - F a i) p (F a) (F i)
/-- .. as far as the rows below j. -/
def clrTo (p : Int) (F : Nat → Nat → Int) (i j a : Nat) : Nat → Int := if a < j then clrF p F i a else F a
theorem clrTo_at (p : Int) (F : Nat → Nat → Int) (i j : Nat) : clrTo p F i j j = F j := if_neg (Nat.lt_irrefl _)
theorem clrTo_i (p : Int) (F : Nat → Nat → Int) (i j : Nat) : clrTo p F i j i = F i := by
  unfold clrTo clrF; split
  · rw [if_pos rfl]
  · rfl
theorem clrTo_same {p : Int} {F : Nat → Nat → Int} {i j : Nat} (h : j = i ∨ F j i = 0) (a : Nat) : clrTo p F i (j + 1) a = clrTo p F i j a := by
  unfold clrTo
  by_cases e : a = j
  · subst e
    rw [if_pos (by omega), if_neg (by omega)]
    unfold clrF
    by_cases e2 : a = i
    · rw [if_pos e2]
    · rw [if_neg e2, if_pos (h.resolve_left e2)]
  · by_cases h2 : a < j
    · rw [if_pos (by omega), if_pos h2]
    · rw [if_neg (by omega), if_neg h2]
theorem clrTo_put {p : Int} {F : Nat → Nat → Int} {i j : Nat} (h1 : j ≠ i) (h2 : F j i ≠ 0) (a : Nat) : clrTo p F i (j + 1) a = if a = j then axpy (p - F j i) p (F j) (F i) else clrTo p F i j a := by
  unfold clrTo
  by_cases e : a = j
  · subst e
    rw [if_pos (by omega), if_pos rfl]
    unfold clrF
    rw [if_neg h1, if_neg h2]
  · rw [if_neg e]
    by_cases h2 : a < j
    · rw [if_pos (by omega), if_pos h2]
    · rw [if_neg (by omega), if_neg h2]

set_option maxRecDepth 100000 in
set_option maxHeartbeats 4000000 in
theorem clear_any (E g0 D : Nat) (p : Int) (m n i : Nat) (F : Nat → Nat → Int) (odd : Bool) (w : World) (hm : m ≤ 1000) (hn : n ≤ 1000) (hi : i < m) (hin : i < n) (hp0 : 2 ≤ p) (hp1 : p ≤ 10000) (hD : D < w.heap.size) (h : ElimAt E g0 D p m n F odd w) (hF : InG p m n F) :
    Calls Try.prog 160 #[.pointer (some ⟨E, 0, none⟩), .int .i64 i] w (DoPost E g0 D p m n (clrF p F i) odd w) := by
  obtain ⟨c, hc, e0, e1, e2, ef, gf, RA0, RC0, hrows0⟩ := h.at_
  obtain ⟨hE, hg0⟩ := h.lt
  have hne := h.ne
  have HH := Lib.hid h
  have HF := Lib.hid hF
  clear h hrows0 hF ef gf
  go_enter Try.func160, Try.ntmps160
  go_wp2
  go_loopw [11] (fun t wr => ∃ j : Nat, t = .int .i64 j ∧ j ≤ m ∧ Kept2 E g0 w wr ∧ wr.cell? ⟨E, 1, none⟩ = some (.slice (some ⟨g0, 0, none⟩) m c) ∧ ElimAt E g0 D p m n (clrTo p F i j) odd wr) (fun t _ => m - (intOf t).toNat)
  case atStart => exact ⟨0, rfl, Nat.zero_le _, Kept2.refl _ _ _, e1, HH.out.congr fun a _ j _ => by unfold clrTo; rw [if_neg (by omega)]⟩
  case round =>
    obtain ⟨j, rfl, hj, hK, k1, hA⟩ := hrel
    by_cases hlt : j < m
    · obtain ⟨c3, hc3, k0, k1', k2, kf, kg, RA, RC, hrows⟩ := hA.at_
      obtain ⟨hEr, hgr⟩ := hA.lt
      have hc3c : c = c3 := by rw [k1] at k1'; injection k1' with h; injection h
      subst hc3c
      clear k1'
      obtain ⟨rj, vj⟩ := hrows j hlt
      obtain ⟨ri, vi⟩ := hrows i hi
      rw [clrTo_at] at vj
      rw [clrTo_i] at vi
      obtain ⟨b, o, c2, er, hc2, ⟨hb, hbE, hbg, hbD⟩, hcc⟩ := vj.at_ (by omega)
      rw [er] at rj vj
      have hx := hcc i hin
      have hxin := HF.out j hlt i hin
      have hS1 := @clrTo_same p F i j
      have hS2 := @clrTo_put p F i j
      by_cases hji : j = i
      · have hjb : ((j : Int) != (i : Int)) = false := by simp; omega
        have HN := Lib.hid (hA.congr (G := clrTo p F i (j + 1)) fun a _ q _ => by rw [hS1 (.inl hji)])
        have HK := Lib.hid hK
        clear hA hK hrows vj vi hcc hS1 hS2 kf kg
        go_wp2
        go_roundw
        case rel => exact ⟨j + 1, by go_num, by omega, HK.out, k1, HN.out⟩
        case measure => simp [intOf]; omega
      · have hjb : ((j : Int) != (i : Int)) = true := by simp; omega
        by_cases hz : F j i = 0
        · have HN := Lib.hid (hA.congr (G := clrTo p F i (j + 1)) fun a _ q _ => by rw [hS1 (.inr hz)])
          have HK := Lib.hid hK
          rw [hz] at hx
          have h0 : (0 : Int) ≤ i := by omega
          have h00 : (i : Int) < n := by omega
          clear hA hK hrows vj vi hcc hS1 hS2 kf kg hz hxin
          go_wp2
          go_roundw
          case rel => exact ⟨j + 1, by go_num, by omega, HK.out, k1, HN.out⟩
          case measure => simp [intOf]; omega
        · have HN := Lib.hid (hS2 hji hz)
          have HVJ := Lib.hid vj
          have HVI := Lib.hid vi
          have HA := Lib.hid hA
          have HK := Lib.hid hK
          have hzb : (F j i != 0) = true := by simpa using hz
          have hfj := HF.out j hlt
          have hfi := HF.out i hi
          have kgj := kg j
          have HC := Lib.hid (fun (W : World) (B C : Nat) (hb : Below wr.heap.size wr W) (hX : Row W B 3 #[.int .i64 (p - F j i)]) (hC : Row W C 3 #[.int .i64 p]) =>
            combine_plus (.slice (some ⟨b, o, none⟩) n c2) (.slice (RA i) n (RC i)) n n (F j) (F i) (p - F j i) p B C (· < W.heap.size) W (fun b h => h) hX.lt hC.lt (by omega) (Nat.le_refl _) ((HVJ.out.more fun _ h => h.1).on hb) ((HVI.out.more fun _ h => h.1).on hb) hp1 hfj hfi ⟨by omega, by omega⟩ hX hC)
          have hxp : 0 ≤ p - F j i ∧ p - F j i ≤ p := by omega
          generalize F j i = x at hx hzb HC HN hxp
          have hwr : IntKind.i64.wrap (p - x) = p - x := IntWalk.i64_in _ ⟨by omega, by omega⟩
          have HKB := Lib.hid (fun (W : World) (hb' : Below wr.heap.size wr W) => (show W.cell? ⟨E, 0, none⟩ = some (.int .i64 p) ∧ W.cell? ⟨E, 1, none⟩ = some (.slice (some ⟨g0, 0, none⟩) m c) ∧ W.cell? ⟨g0, i, none⟩ = some (.slice (RA i) n (RC i)) ∧ W.cell? ⟨b, o + i, none⟩ = some (.int .i64 x) from
            ⟨(hb'.cell (p := ⟨E, 0, none⟩) hEr).trans k0, (hb'.cell (p := ⟨E, 1, none⟩) hEr).trans k1, (hb'.cell (p := ⟨g0, i, none⟩) hgr).trans ri, (hb'.cell (p := ⟨b, o + i, none⟩) hb).trans hx⟩))
          have HKS := Lib.hid (fun (W : World) (u : Value) (h : W.cell? ⟨E, 0, none⟩ = some (.int .i64 p) ∧ W.cell? ⟨E, 1, none⟩ = some (.slice (some ⟨g0, 0, none⟩) m c) ∧ W.cell? ⟨g0, i, none⟩ = some (.slice (RA i) n (RC i)) ∧ W.cell? ⟨b, o + i, none⟩ = some (.int .i64 x)) => (show (W.setCell ⟨g0, j, none⟩ u).cell? ⟨E, 0, none⟩ = some (.int .i64 p) ∧ (W.setCell ⟨g0, j, none⟩ u).cell? ⟨E, 1, none⟩ = some (.slice (some ⟨g0, 0, none⟩) m c) ∧ (W.setCell ⟨g0, j, none⟩ u).cell? ⟨g0, i, none⟩ = some (.slice (RA i) n (RC i)) ∧ (W.setCell ⟨g0, j, none⟩ u).cell? ⟨b, o + i, none⟩ = some (.int .i64 x) from
            ⟨(World.cell?_setCell_far _ _ _ _ (show g0 ≠ E from hne.symm)).trans h.1, (World.cell?_setCell_far _ _ _ _ (show g0 ≠ E from hne.symm)).trans h.2.1, (World.cell?_setCell_other _ _ _ _ (fun e => hji (by injection e))).trans h.2.2.1, (World.cell?_setCell_far _ _ _ _ (show g0 ≠ b from fun e => hbg e.symm)).trans h.2.2.2⟩))
          have h0 : (0 : Int) ≤ i := by omega
          have h00 : (i : Int) < n := by omega
          have h000 : (i : Int) < m := by omega
          have hj0 : (j : Int) < m := by omega
          clear hA hK hrows vj vi hcc hS1 hS2 kf kg hz hxin hfj hfi
          go_wp2_with fail
          go_region_held3 (fun W => W.cell? ⟨E, 0, none⟩ = some (.int .i64 p) ∧ W.cell? ⟨E, 1, none⟩ = some (.slice (some ⟨g0, 0, none⟩) m c) ∧ W.cell? ⟨g0, i, none⟩ = some (.slice (RA i) n (RC i)) ∧ W.cell? ⟨b, o + i, none⟩ = some (.int .i64 x))
            ((first | assumption | exact HKB.out _ (below_drew (Below.refl _ _)) | exact HKB.out _ (below_alloc (below_alloc (below_drew (Below.refl _ _)) (Nat.le_refl _) _) (Nat.le_refl _) _) | exact HKS.out _ _ (by assumption)))
            (first | (go_at_call 106; refine (plus_any _ _ _).mono ?_; rintro e w' ⟨rfl, rfl⟩) | (go_at_call 105; refine (HC.out _ _ _ (by exact below_alloc (below_alloc (below_drew (Below.refl _ _)) (Nat.le_refl _) _) (Nat.le_refl _) _) (by exact (row_new (by rfl) _ _).alloc _) (by exact row_new (by simp) _ _)).mono ?_; rintro e w' ⟨r, rfl, hV, hBn⟩; obtain ⟨A3, c3, rfl, _⟩ := hV.form; have hBn2 := (below_alloc (below_alloc (below_drew (Below.refl wr.heap.size wr)) (Nat.le_refl _) (.cells #[.int .i64 (p - x)] 3)) (Nat.le_refl _) (.cells #[.int .i64 p] 3)).trans (hBn.mono (by simp; omega)); have hkb := HKB.out _ hBn2; have hgc := (hBn2.cell (p := ⟨g0, j, none⟩) hgr).trans rj; have hgf := (hBn2.frozen (p := ⟨g0, j, none⟩) hgr).trans kgj))
          have hK0 := HK.out.size
          have hput := ((HA.out.on hBn2).put hlt (hV.more fun q h => (show OffE E g0 D w' q from ⟨h.2, by have := h.1; simp at this; omega, by have := h.1; simp at this; omega, by have h9 := h.1; simp at h9; omega⟩))).congr (G := clrTo p F i (j + 1)) fun a _ q _ => by rw [HN.out]
          have HPUT := Lib.hid hput
          have HK2 := Lib.hid ((HK.out.trans (Kept2.of hBn2)).set (p := ⟨g0, j, none⟩) (.inr rfl) (.slice A3 n c3))
          have k9 := (HKS.out w' (.slice A3 n c3) hkb).2.1
          clear hput hV hBn hBn2 hkb hgc hgf
          go_wp2
          go_roundw
          case rel => exact ⟨j + 1, by go_num, by omega, HK2.out, k9, HPUT.out⟩
          case measure => simp [intOf]; omega
    · have e : j = m := by omega
      subst e
      have HN := Lib.hid (hA.congr (G := clrF p F i) fun a ha q _ => by unfold clrTo; rw [if_pos ha])
      have HK := Lib.hid hK
      clear hA hK
      go_wp2
      go_end0
      exact ⟨rfl, HK.out, HN.out⟩
end Go.Proofs.Ytokiejichnnmnaa
