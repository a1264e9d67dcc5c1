/- (elimination).exchange. -/
import Derived.Test.YtokiejichnnmnaaMElim1
import Derived.Test.YtokiejichnnmnaaMFound
namespace Go.Proofs.Ytokiejichnnmnaa
open Go Go.RowKit Num

/-- Rows i and i + k exchanged. -/
def swapF (F : Nat → Nat → Int) (i k : Nat) (a : Nat) : Nat → Int := if a = i then F (i + k) else if a = i + k then F i else F a
/-- The pivot for column i among the rows from i on. -/
def PivIs (F : Nat → Nat → Int) (m i : Nat) (r : Option Nat) : Prop :=
  match r with
  | some k => i + k < m ∧ F (i + k) i ≠ 0 ∧ ∀ a, a < k → F (i + a) i = 0
  | none => ∀ a, i + a < m → F (i + a) i = 0
theorem first_piv {F : Nat → Nat → Int} {m i : Nat} {r : Int} (h : FirstIs (fun j => F (i + j) i != 0) (m - i) r) (hi : i ≤ m) : (∃ k : Nat, r = k ∧ PivIs F m i (some k)) ∨ (r = -1 ∧ PivIs F m i none) := by
  rcases h with ⟨j, rfl, hj, hP, hl⟩ | ⟨rfl, h⟩
  · exact .inl ⟨j, rfl, by omega, by simpa using hP, fun a ha => by simpa using hl a ha⟩
  · exact .inr ⟨rfl, fun a ha => by simpa using h a (by omega)⟩
theorem piv_unique {F : Nat → Nat → Int} {m i : Nat} {r s : Option Nat} (h : PivIs F m i r) (k : PivIs F m i s) : r = s := by
  cases r with
  | none =>
    cases s with
    | none => rfl
    | some t => exact absurd (h t k.1) k.2.1
  | some t =>
    cases s with
    | none => exact absurd (k t h.1) h.2.1
    | some u =>
      obtain ⟨a1, a2, a3⟩ := h
      obtain ⟨b1, b2, b3⟩ := k
      by_cases h1 : t < u
      · exact absurd (b3 t h1) a2
      · by_cases h2 : u < t
        · exact absurd (a3 u h2) b2
        · rw [show t = u by omega]
/-- .. as IndexFunc gives it. -/
def pivV : Option Nat → Int
  | some k => k
  | none => -1
/-- What exchange leaves. -/
def ExPost (E g0 D : Nat) (p : Int) (m n i : Nat) (F : Nat → Nat → Int) (odd : Bool) (r : Option Nat) (w : World) (e : Ending) (w' : World) : Prop :=
  Kept2 E g0 w w' ∧ match r with
  | none => e = .returned (.bool false) ∧ ElimAt E g0 D p m n F odd w'
  | some k => e = .returned (.bool true) ∧ ElimAt E g0 D p m n (swapF F i k) (if k = 0 then odd else !odd) w'
theorem ElimAt.grid {E g0 D : Nat} {p : Int} {m n : Nat} {F : Nat → Nat → Int} {odd : Bool} {w : World} (h : ElimAt E g0 D p m n F odd w) : ∃ c, m ≤ c ∧ w.cell? ⟨E, 1, none⟩ = some (.slice (some ⟨g0, 0, none⟩) m c) ∧ Grid w (fun b => b < w.heap.size ∧ b ≠ E) (.slice (some ⟨g0, 0, none⟩) m c) m (fun _ => n) F := by
  obtain ⟨ne, ⟨c, hc, hs⟩, r, cs, hr, hcs, hvs⟩ := h
  exact ⟨c, hc, hs.cell rfl, _, c, rfl, hc, fun _ => ⟨g0, 0, rfl, ⟨hr.lt, ne.symm⟩, fun i hi => ⟨r i, by rw [Nat.zero_add]; exact hr.cell (hcs i hi), (hvs i hi).more fun b h => ⟨h.1, h.2.1⟩⟩⟩⟩
theorem ElimAt.frz {E g0 D : Nat} {p : Int} {m n : Nat} {F : Nat → Nat → Int} {odd : Bool} {w : World} (h : ElimAt E g0 D p m n F odd w) : ElimAt E g0 D p m n F odd w.drew := ⟨h.ne, h.st, h.rows⟩
theorem ElimAt.drewN {E g0 D : Nat} {p : Int} {m n : Nat} {F : Nat → Nat → Int} {odd : Bool} {w : World} (h : ElimAt E g0 D p m n F odd w) (k : Nat) : ElimAt E g0 D p m n F odd (w.drewN k) := ⟨h.ne, h.st, h.rows⟩
theorem kept_drewN (E g0 : Nat) {w w' : World} (h : Kept2 E g0 w w') (k : Nat) : Kept2 E g0 w (w'.drewN k) := ⟨h.os, h.tape, h.output, h.size, h.block⟩
theorem kept_drew (E g0 : Nat) {w w' : World} (h : Kept2 E g0 w w') : Kept2 E g0 w w'.drew := ⟨h.os, h.tape, h.output, h.size, h.block⟩

theorem ElimAt.flip {E g0 D : Nat} {p : Int} {m n : Nat} {F : Nat → Nat → Int} {odd : Bool} {w : World} (h : ElimAt E g0 D p m n F odd w) (o : Bool) : ElimAt E g0 D p m n F o (w.setCell ⟨E, 2, none⟩ (.bool o)) := by
  obtain ⟨ne, ⟨c, hc, hs⟩, r, cs, hr, hcs, hvs⟩ := h
  exact ⟨ne, ⟨c, hc, hs.set 2 (.bool o)⟩, r, cs, hr.far (p := ⟨E, 2, none⟩) ne.symm _, hcs, fun i hi => ((hvs i hi).set (p := ⟨E, 2, none⟩) (fun h => h.2.1 rfl) _).more fun b h => ⟨by rw [size_set]; exact h.1, h.2⟩⟩
theorem Vec.elim_set {w : World} {E g0 D n : Nat} {v u : Value} {f : Nat → Int} (h : Vec w (OffE E g0 D w) v n f) (i : Nat) : Vec (w.setCell ⟨g0, i, none⟩ u) (OffE E g0 D (w.setCell ⟨g0, i, none⟩ u)) v n f :=
  (h.set (p := ⟨g0, i, none⟩) (fun h => h.2.2.1 rfl) u).more fun b h => ⟨by rw [size_set]; exact h.1, h.2⟩

set_option maxRecDepth 100000 in
set_option maxHeartbeats 2000000 in
theorem exchange_any (E g0 D : Nat) (p : Int) (m n i : Nat) (F : Nat → Nat → Int) (odd : Bool) (w : World) (hm : m ≤ 1000) (hn : n ≤ 1000) (hi : i < m) (hin : i < n) (h : ElimAt E g0 D p m n F odd w) (r : Option Nat) (hr : PivIs F m i r) :
    Calls Try.prog 158 #[.pointer (some ⟨E, 0, none⟩), .int .i64 i] w (ExPost E g0 D p m n i F odd r w) := by
  have hb1 : Below w.heap.size w (w.alloc (.cells #[.int .i64 i] 3)) := (Below.refl _ _).alloc (Nat.le_refl _) _
  have h1 := h.on hb1
  have hbx := row_new (W := w) rfl 3 #[.int .i64 i]
  have hK1 : Kept2 E g0 w (w.alloc (.cells #[.int .i64 i] 3)) := Kept2.of hb1
  obtain ⟨hE, hg0⟩ := h.lt
  have hne := h.ne
  have hgx := h1.grid
  obtain ⟨c, hc, hce, hgx⟩ := hgx
  obtain ⟨A', hcut, hgc⟩ := cut_sufG hgx (k := i) (by omega)
  have HI0 := fun W (e : W.heap = (w.alloc (.cells #[.int .i64 i] 3)).heap) => (indexPivot_any (.slice A' (m - i) (c - i)) (m - i) n i (fun j => F (i + j)) w.heap.size (fun b => b < (w.alloc (.cells #[.int .i64 i] 3)).heap.size ∧ b ≠ E) W (by omega) (by omega) hin (show W.heap[w.heap.size]? = _ by rw [e]; exact hbx) (hgc.keep (fun _ h => h) (fun q _ => by simp [World.cell?, e]) (fun _ _ => rfl) (fun _ _ _ _ => rfl)))
  have HI := fun W (e : W.heap = (w.alloc (.cells #[.int .i64 i] 3)).heap) => Lib.hid ((HI0 W e).mono (R' := fun en w' => en = .returned (.int .i64 (pivV r)) ∧ w' = W) fun en w' ⟨q, h1, h2, h3⟩ => ⟨by
    rw [h2]
    rcases first_piv h1 (by omega) with ⟨k, rfl, hk⟩ | ⟨rfl, hk⟩
    · rw [piv_unique hr hk]; rfl
    · rw [piv_unique hr hk]; rfl, h3⟩)
  have hcb : (w.alloc (.cells #[.int .i64 i] 3)).cell? ⟨w.heap.size, 0, none⟩ = some (.int .i64 i) := hbx.cell rfl
  have hsz1 : (w.alloc (.cells #[.int .i64 i] 3)).heap.size = w.heap.size + 1 := by simp
  have H1 := Lib.hid h1
  have HK := Lib.hid hK1
  have HR := Lib.hid hr
  have hle1 : (0 : Int) ≤ i := by omega
  have hle2 : (i : Int) ≤ m := by omega
  clear h h1 hb1 hbx hK1 hgx hgc hr HI0
  cases r with
  | none =>
    rw [show pivV none = -1 from rfl] at HI
    go_enter Try.func158, Try.ntmps158
    go_wp2_with fail
    generalize w.alloc (.cells #[.int .i64 i] 3) = w1 at HI hce hcb H1 HK hsz1
    have HQQ := fun q => HI (w1.drewN q) rfl
    go_quiet (refine Calls.quiet_of_same (HQQ _).out)
    rename_i nq
    have HKq := Lib.hid (kept_drewN E g0 HK.out nq)
    have HQq := Lib.hid (H1.out.drewN nq)
    go_wp2
    go_ret
    exact ⟨HKq.out, rfl, HQq.out⟩
  | some k =>
    obtain ⟨hk1, hk2, hk3⟩ := HR.out
    rw [show pivV (some k) = (k : Int) from rfl] at HI
    by_cases hk0 : k = 0
    · subst hk0
      go_enter Try.func158, Try.ntmps158
      go_wp2_with fail
      generalize w.alloc (.cells #[.int .i64 i] 3) = w1 at HI hce hcb H1 HK hsz1
      have HQQ := fun q => HI (w1.drewN q) rfl
      go_quiet (refine Calls.quiet_of_same (HQQ _).out)
      rename_i nq
      have HKq := Lib.hid (kept_drewN E g0 HK.out nq)
      have HQ := Lib.hid ((H1.out.drewN nq).congr (G := swapF F i 0) fun a _ j _ => by
        unfold swapF
        rw [Nat.add_zero]
        by_cases e : a = i
        · rw [if_pos e, e]
        · rw [if_neg e, if_neg e])
      go_wp2
      go_ret
      exact ⟨HKq.out, rfl, HQ.out⟩
    · have hkd : ((k : Int) > 0) := by omega
      go_enter Try.func158, Try.ntmps158
      go_wp2_with fail
      generalize w.alloc (.cells #[.int .i64 i] 3) = w1 at HI hce hcb H1 HK hsz1
      have HQQ := fun q => HI (w1.drewN q) rfl
      go_quiet (refine Calls.quiet_of_same (HQQ _).out)
      rename_i nq
      have HKq := Lib.hid (kept_drewN E g0 HK.out nq)
      have hq := H1.out.drewN nq
      have hcbq : (w1.drewN nq).cell? ⟨w.heap.size, 0, none⟩ = some (.int .i64 i) := hcb
      have hszq : (w1.drewN nq).heap.size = w.heap.size + 1 := hsz1
      generalize w1.drewN nq = w2 at HKq hq hcbq hszq
      obtain ⟨c', hc', e0, e1, e2, ef, gf, RA, RC, hrows⟩ := hq.at_
      obtain ⟨r1, v1⟩ := hrows i hi
      obtain ⟨r2, v2⟩ := hrows (i + k) hk1
      have hwr : IntKind.i64.wrap ((i : Int) + (k : Int)) = ((i + k : Nat) : Int) := by rw [← Int.natCast_add]; exact IntWalk.i64_in _ ⟨by omega, by omega⟩
      have hik1 : (0 : Int) ≤ ((i + k : Nat) : Int) := by omega
      have hik2 : ((i + k : Nat) : Int) < (m : Int) := by omega
      have hik3 : (i : Int) < (m : Int) := by omega
      have hput := (((hq.frz).put hi (v := .slice (RA (i + k)) n (RC (i + k))) v2).put hk1 (v := .slice (RA i) n (RC i)) (Vec.elim_set v1 i)).congr (G := swapF F i k) fun a _ j _ => by
        unfold swapF
        by_cases e : a = i
        · subst e; rw [if_neg (by omega), if_pos rfl, if_pos rfl]
        · by_cases e' : a = i + k
          · rw [if_pos e', if_neg e, if_pos e']
          · rw [if_neg e', if_neg e, if_neg e, if_neg e']
      have hkp := ((kept_drew E g0 HKq.out).set (p := ⟨g0, i, none⟩) (.inr rfl) (.slice (RA (i + k)) n (RC (i + k)))).set (p := ⟨g0, i + k, none⟩) (.inr rfl) (.slice (RA i) n (RC i))
      have HPUT := Lib.hid (hput.flip (!odd))
      have HKP := Lib.hid (hkp.set (p := ⟨E, 2, none⟩) (.inl rfl) (.bool !odd))
      have q1 := gf i
      have q2 := gf (i + k)
      have q3 := ef 2
      have hkne : ¬ i + k = i := by omega
      have hkne2 : ¬ k = 0 := hk0
      have k4 : (((w2.setCell ⟨g0, i, none⟩ (.slice (RA (i + k)) n (RC (i + k)))).setCell ⟨g0, i + k, none⟩ (.slice (RA i) n (RC i))).cell? ⟨E, 2, none⟩ = some (.bool odd)) := by
        rw [World.cell?_setCell_far _ _ _ _ (show g0 ≠ E from hne.symm), World.cell?_setCell_far _ _ _ _ (show g0 ≠ E from hne.symm)]; exact e2
      generalize hgik : i + k = ik at hwr hik1 hik2 r2 v2 q2 hkne HPUT HKP k4
      clear hq hrows hput hkp ef gf v1 v2 hgik
      go_wp2_with fail
      have HS0 := Lib.hid (show w2.drew.cell? ⟨E, 1, none⟩ = some (.slice (some ⟨g0, 0, none⟩) m c') ∧ w2.drew.cell? ⟨w.heap.size, 0, none⟩ = some (.int .i64 i) from ⟨e1, hcbq⟩)
      have HSS := Lib.hid (fun (W : World) (q : Nat) (u : Value) (h : W.cell? ⟨E, 1, none⟩ = some (.slice (some ⟨g0, 0, none⟩) m c') ∧ W.cell? ⟨w.heap.size, 0, none⟩ = some (.int .i64 i)) => (show (W.setCell ⟨g0, q, none⟩ u).cell? ⟨E, 1, none⟩ = some (.slice (some ⟨g0, 0, none⟩) m c') ∧ (W.setCell ⟨g0, q, none⟩ u).cell? ⟨w.heap.size, 0, none⟩ = some (.int .i64 i) from
        ⟨(World.cell?_setCell_far _ _ _ _ (show g0 ≠ E from hne.symm)).trans h.1, (World.cell?_setCell_far _ _ _ _ (show g0 ≠ w.heap.size by omega)).trans h.2⟩))
      have k3 : (w2.setCell ⟨g0, i, none⟩ (.slice (RA ik) n (RC ik))).cell? ⟨g0, ik, none⟩ = some (.slice (RA ik) n (RC ik)) := by
        rw [World.cell?_setCell_other _ _ _ _ (fun e => hkne (by injection e with _ e; exact e.symm))]; exact r2
      refine wp_region_held_drew (S := (fun W => W.cell? ⟨E, 1, none⟩ = some (.slice (some ⟨g0, 0, none⟩) m c') ∧ W.cell? ⟨w.heap.size, 0, none⟩ = some (.int .i64 i))) (by kernel_rfl) HS0.out (fun hHeld => ?_)
      refine takeH (i := 0) (v := (.pointer (some ⟨E, 0, none⟩))) rfl rfl (by kernel_rfl) (by kernel_rfl) (by kernel_rfl) (fun _ _ _ h => h) (by rfl) (fun W hW => by (obtain ⟨hW1, hW2⟩ := hW); go_simp) (by assumption) ?_
      simp only [List.setIfInBounds_toArray, List.set_cons_zero, List.set_cons_succ]
      refine takeH (i := 1) (v := (.pointer (some ⟨E, 0, none⟩))) rfl rfl (by kernel_rfl) (by kernel_rfl) (by kernel_rfl) (fun _ _ _ h => h) (by rfl) (fun W hW => by (obtain ⟨hW1, hW2⟩ := hW); go_simp) (by assumption) ?_
      simp only [List.setIfInBounds_toArray, List.set_cons_zero, List.set_cons_succ]
      refine takeH (i := 2) (v := (.pointer (some ⟨E, 1, none⟩))) rfl rfl (by kernel_rfl) (by kernel_rfl) (by kernel_rfl) (fun _ _ _ h => h) (by rfl) (fun W hW => by (obtain ⟨hW1, hW2⟩ := hW); go_simp) (by assumption) ?_
      simp only [List.setIfInBounds_toArray, List.set_cons_zero, List.set_cons_succ]
      refine takeH (i := 3) (v := (.slice (some ⟨g0, 0, none⟩) m c')) rfl rfl (by kernel_rfl) (by kernel_rfl) (by kernel_rfl) (fun _ _ _ h => h) (by rfl) (fun W hW => by (obtain ⟨hW1, hW2⟩ := hW); go_simp) (by assumption) ?_
      simp only [List.setIfInBounds_toArray, List.set_cons_zero, List.set_cons_succ]
      refine takeH (i := 4) (v := (.int .i64 i)) rfl rfl (by kernel_rfl) (by kernel_rfl) (by kernel_rfl) (fun _ _ _ h => h) (by rfl) (fun W hW => by (obtain ⟨hW1, hW2⟩ := hW); go_simp) (by assumption) ?_
      simp only [List.setIfInBounds_toArray, List.set_cons_zero, List.set_cons_succ]
      refine takeH (i := 5) (v := (.pointer (some ⟨E, 0, none⟩))) rfl rfl (by kernel_rfl) (by kernel_rfl) (by kernel_rfl) (fun _ _ _ h => h) (by rfl) (fun W hW => by (obtain ⟨hW1, hW2⟩ := hW); go_simp) (by assumption) ?_
      simp only [List.setIfInBounds_toArray, List.set_cons_zero, List.set_cons_succ]
      refine takeH (i := 6) (v := (.pointer (some ⟨E, 0, none⟩))) rfl rfl (by kernel_rfl) (by kernel_rfl) (by kernel_rfl) (fun _ _ _ h => h) (by rfl) (fun W hW => by (obtain ⟨hW1, hW2⟩ := hW); go_simp) (by assumption) ?_
      simp only [List.setIfInBounds_toArray, List.set_cons_zero, List.set_cons_succ]
      refine takeH (i := 7) (v := (.pointer (some ⟨E, 1, none⟩))) rfl rfl (by kernel_rfl) (by kernel_rfl) (by kernel_rfl) (fun _ _ _ h => h) (by rfl) (fun W hW => by (obtain ⟨hW1, hW2⟩ := hW); go_simp) (by assumption) ?_
      simp only [List.setIfInBounds_toArray, List.set_cons_zero, List.set_cons_succ]
      refine takeH (i := 8) (v := (.slice (some ⟨g0, 0, none⟩) m c')) rfl rfl (by kernel_rfl) (by kernel_rfl) (by kernel_rfl) (fun _ _ _ h => h) (by rfl) (fun W hW => by (obtain ⟨hW1, hW2⟩ := hW); go_simp) (by assumption) ?_
      simp only [List.setIfInBounds_toArray, List.set_cons_zero, List.set_cons_succ]
      refine takeH (i := 9) (v := (.int .i64 i)) rfl rfl (by kernel_rfl) (by kernel_rfl) (by kernel_rfl) (fun _ _ _ h => h) (by rfl) (fun W hW => by (obtain ⟨hW1, hW2⟩ := hW); go_simp) (by assumption) ?_
      simp only [List.setIfInBounds_toArray, List.set_cons_zero, List.set_cons_succ]
      refine takeH (i := 10) (v := (.int .i64 k)) rfl rfl (by kernel_rfl) (by kernel_rfl) (by kernel_rfl) (fun _ _ _ h => h) (by rfl) (fun W hW => by (obtain ⟨hW1, hW2⟩ := hW); go_simp) (by assumption) ?_
      simp only [List.setIfInBounds_toArray, List.set_cons_zero, List.set_cons_succ]
      refine takeH (i := 11) (v := (.int .i64 ik)) rfl rfl (by kernel_rfl) (by kernel_rfl) (by kernel_rfl) (fun _ _ _ h => h) (by rfl) (fun W hW => by (obtain ⟨hW1, hW2⟩ := hW); go_simp) (by assumption) ?_
      simp only [List.setIfInBounds_toArray, List.set_cons_zero, List.set_cons_succ]
      refine takeH (i := 12) (v := (.pointer (some ⟨E, 0, none⟩))) rfl rfl (by kernel_rfl) (by kernel_rfl) (by kernel_rfl) (fun _ _ _ h => h) (by rfl) (fun W hW => by (obtain ⟨hW1, hW2⟩ := hW); go_simp) (by assumption) ?_
      simp only [List.setIfInBounds_toArray, List.set_cons_zero, List.set_cons_succ]
      refine takeH (i := 13) (v := (.pointer (some ⟨E, 0, none⟩))) rfl rfl (by kernel_rfl) (by kernel_rfl) (by kernel_rfl) (fun _ _ _ h => h) (by rfl) (fun W hW => by (obtain ⟨hW1, hW2⟩ := hW); go_simp) (by assumption) ?_
      simp only [List.setIfInBounds_toArray, List.set_cons_zero, List.set_cons_succ]
      refine takeH (i := 14) (v := (.pointer (some ⟨E, 1, none⟩))) rfl rfl (by kernel_rfl) (by kernel_rfl) (by kernel_rfl) (fun _ _ _ h => h) (by rfl) (fun W hW => by (obtain ⟨hW1, hW2⟩ := hW); go_simp) (by assumption) ?_
      simp only [List.setIfInBounds_toArray, List.set_cons_zero, List.set_cons_succ]
      refine takeH (i := 15) (v := (.slice (some ⟨g0, 0, none⟩) m c')) rfl rfl (by kernel_rfl) (by kernel_rfl) (by kernel_rfl) (fun _ _ _ h => h) (by rfl) (fun W hW => by (obtain ⟨hW1, hW2⟩ := hW); go_simp) (by assumption) ?_
      simp only [List.setIfInBounds_toArray, List.set_cons_zero, List.set_cons_succ]
      refine takeH (i := 16) (v := (.int .i64 i)) rfl rfl (by kernel_rfl) (by kernel_rfl) (by kernel_rfl) (fun _ _ _ h => h) (by rfl) (fun W hW => by (obtain ⟨hW1, hW2⟩ := hW); go_simp) (by assumption) ?_
      simp only [List.setIfInBounds_toArray, List.set_cons_zero, List.set_cons_succ]
      refine takeH (i := 17) (v := (.int .i64 k)) rfl rfl (by kernel_rfl) (by kernel_rfl) (by kernel_rfl) (fun _ _ _ h => h) (by rfl) (fun W hW => by (obtain ⟨hW1, hW2⟩ := hW); go_simp) (by assumption) ?_
      simp only [List.setIfInBounds_toArray, List.set_cons_zero, List.set_cons_succ]
      refine takeH (i := 18) (v := (.int .i64 ik)) rfl rfl (by kernel_rfl) (by kernel_rfl) (by kernel_rfl) (fun _ _ _ h => h) (by rfl) (fun W hW => by (obtain ⟨hW1, hW2⟩ := hW); go_simp) (by assumption) ?_
      simp only [List.setIfInBounds_toArray, List.set_cons_zero, List.set_cons_succ]
      refine takeH (i := 19) (v := (.pointer (some ⟨g0, ik, none⟩))) rfl rfl (by kernel_rfl) (by kernel_rfl) (by kernel_rfl) (fun _ _ _ h => h) (by rfl) (fun W hW => by (obtain ⟨hW1, hW2⟩ := hW); go_simp) (by assumption) ?_
      simp only [List.setIfInBounds_toArray, List.set_cons_zero, List.set_cons_succ]
      refine takeH (i := 21) (v := (.pointer (some ⟨E, 0, none⟩))) rfl rfl (by kernel_rfl) (by kernel_rfl) (by kernel_rfl) (fun _ _ _ h => h) (by rfl) (fun W hW => by (obtain ⟨hW1, hW2⟩ := hW); go_simp) (by assumption) ?_
      simp only [List.setIfInBounds_toArray, List.set_cons_zero, List.set_cons_succ]
      refine takeH (i := 22) (v := (.pointer (some ⟨E, 0, none⟩))) rfl rfl (by kernel_rfl) (by kernel_rfl) (by kernel_rfl) (fun _ _ _ h => h) (by rfl) (fun W hW => by (obtain ⟨hW1, hW2⟩ := hW); go_simp) (by assumption) ?_
      simp only [List.setIfInBounds_toArray, List.set_cons_zero, List.set_cons_succ]
      refine takeH (i := 23) (v := (.pointer (some ⟨E, 1, none⟩))) rfl rfl (by kernel_rfl) (by kernel_rfl) (by kernel_rfl) (fun _ _ _ h => h) (by rfl) (fun W hW => by (obtain ⟨hW1, hW2⟩ := hW); go_simp) (by assumption) ?_
      simp only [List.setIfInBounds_toArray, List.set_cons_zero, List.set_cons_succ]
      refine takeH (i := 24) (v := (.slice (some ⟨g0, 0, none⟩) m c')) rfl rfl (by kernel_rfl) (by kernel_rfl) (by kernel_rfl) (fun _ _ _ h => h) (by rfl) (fun W hW => by (obtain ⟨hW1, hW2⟩ := hW); go_simp) (by assumption) ?_
      simp only [List.setIfInBounds_toArray, List.set_cons_zero, List.set_cons_succ]
      refine takeH (i := 25) (v := (.int .i64 i)) rfl rfl (by kernel_rfl) (by kernel_rfl) (by kernel_rfl) (fun _ _ _ h => h) (by rfl) (fun W hW => by (obtain ⟨hW1, hW2⟩ := hW); go_simp) (by assumption) ?_
      simp only [List.setIfInBounds_toArray, List.set_cons_zero, List.set_cons_succ]
      refine takeH (i := 26) (v := (.pointer (some ⟨g0, i, none⟩))) rfl rfl (by kernel_rfl) (by kernel_rfl) (by kernel_rfl) (fun _ _ _ h => h) (by rfl) (fun W hW => by (obtain ⟨hW1, hW2⟩ := hW); go_simp) (by assumption) ?_
      simp only [List.setIfInBounds_toArray, List.set_cons_zero, List.set_cons_succ]
      refine wpAnyH_ready (rs := [20, 27]) (by kernel_rfl) (by simp) ?_
      refine (AllReadyH.cons rfl (fun K hK => ?_) (AllReadyH.cons rfl (fun K hK => ?_) AllReadyH.nil))
      · go_simp
        refine hK.out _ _ HS0.out (fun hHeld => ?_)
        clear hK K
        try simp only [Act.put, List.setIfInBounds_toArray, List.set_cons_zero, List.set_cons_succ]
        refine wpAnyH_ready (rs := [27]) (by kernel_rfl) (by simp) ?_
        refine (AllReadyH.cons rfl (fun K hK => ?_) AllReadyH.nil)
        go_simp
        refine hK.out _ _ HS0.out (fun hHeld => ?_)
        clear hK K
        try simp only [Act.put, List.setIfInBounds_toArray, List.set_cons_zero, List.set_cons_succ]
        refine takeH (i := 28) (v := (.pointer (some ⟨g0, i, none⟩))) rfl rfl (by kernel_rfl) (by kernel_rfl) (by kernel_rfl) (fun _ _ _ h => h) (by rfl) (fun W hW => by (obtain ⟨hW1, hW2⟩ := hW); go_simp) (by assumption) ?_
        simp only [List.setIfInBounds_toArray, List.set_cons_zero, List.set_cons_succ]
        refine wpAnyH_ready (rs := [29]) (by kernel_rfl) (by simp) ?_
        refine (AllReadyH.cons rfl (fun K hK => ?_) AllReadyH.nil)
        go_simp
        refine hK.out _ _ (HSS.out _ _ _ (by assumption)) (fun hHeld => ?_)
        clear hK K
        try simp only [Act.put, List.setIfInBounds_toArray, List.set_cons_zero, List.set_cons_succ]
        refine takeH (i := 30) (v := (.pointer (some ⟨g0, ik, none⟩))) rfl rfl (by kernel_rfl) (by kernel_rfl) (by kernel_rfl) (fun _ _ _ h => h) (by rfl) (fun W hW => by (obtain ⟨hW1, hW2⟩ := hW); go_simp) (by assumption) ?_
        simp only [List.setIfInBounds_toArray, List.set_cons_zero, List.set_cons_succ]
        refine wpAnyH_ready (rs := [31]) (by kernel_rfl) (by simp) ?_
        refine (AllReadyH.cons rfl (fun K hK => ?_) AllReadyH.nil)
        go_simp
        refine hK.out _ _ (HSS.out _ _ _ (by assumption)) (fun hHeld => ?_)
        clear hK K
        try simp only [Act.put, List.setIfInBounds_toArray, List.set_cons_zero, List.set_cons_succ]
        refine wpAnyH_done (by kernel_rfl) ?_ _
        go_wp2
        go_ret
        exact ⟨HKP.out, rfl, by rw [if_neg hkne2]; exact HPUT.out⟩
      · go_simp
        refine hK.out _ _ HS0.out (fun hHeld => ?_)
        clear hK K
        try simp only [Act.put, List.setIfInBounds_toArray, List.set_cons_zero, List.set_cons_succ]
        refine wpAnyH_ready (rs := [20]) (by kernel_rfl) (by simp) ?_
        refine (AllReadyH.cons rfl (fun K hK => ?_) AllReadyH.nil)
        go_simp
        refine hK.out _ _ HS0.out (fun hHeld => ?_)
        clear hK K
        try simp only [Act.put, List.setIfInBounds_toArray, List.set_cons_zero, List.set_cons_succ]
        refine takeH (i := 28) (v := (.pointer (some ⟨g0, i, none⟩))) rfl rfl (by kernel_rfl) (by kernel_rfl) (by kernel_rfl) (fun _ _ _ h => h) (by rfl) (fun W hW => by (obtain ⟨hW1, hW2⟩ := hW); go_simp) (by assumption) ?_
        simp only [List.setIfInBounds_toArray, List.set_cons_zero, List.set_cons_succ]
        refine wpAnyH_ready (rs := [29]) (by kernel_rfl) (by simp) ?_
        refine (AllReadyH.cons rfl (fun K hK => ?_) AllReadyH.nil)
        go_simp
        refine hK.out _ _ (HSS.out _ _ _ (by assumption)) (fun hHeld => ?_)
        clear hK K
        try simp only [Act.put, List.setIfInBounds_toArray, List.set_cons_zero, List.set_cons_succ]
        refine takeH (i := 30) (v := (.pointer (some ⟨g0, ik, none⟩))) rfl rfl (by kernel_rfl) (by kernel_rfl) (by kernel_rfl) (fun _ _ _ h => h) (by rfl) (fun W hW => by (obtain ⟨hW1, hW2⟩ := hW); go_simp) (by assumption) ?_
        simp only [List.setIfInBounds_toArray, List.set_cons_zero, List.set_cons_succ]
        refine wpAnyH_ready (rs := [31]) (by kernel_rfl) (by simp) ?_
        refine (AllReadyH.cons rfl (fun K hK => ?_) AllReadyH.nil)
        go_simp
        refine hK.out _ _ (HSS.out _ _ _ (by assumption)) (fun hHeld => ?_)
        clear hK K
        try simp only [Act.put, List.setIfInBounds_toArray, List.set_cons_zero, List.set_cons_succ]
        refine wpAnyH_done (by kernel_rfl) ?_ _
        go_wp2
        go_ret
        exact ⟨HKP.out, rfl, by rw [if_neg hkne2]; exact HPUT.out⟩
end Go.Proofs.Ytokiejichnnmnaa
