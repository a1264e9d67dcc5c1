/- LKeep, LKeepN, joined. -/
import Derived.Test.YtinoomcboinokaaGreatLReduce
import Derived.Test.YtinoomcboinokaaGreatLFirst

/- linear.elimination.keep. -/
namespace Go.Proofs.YtinoomcboinokaaGreat
open Go Go.RowKit Go.Shelf Num Go.ChangeMaps
open Go.Maps (Keyed IsMap has int_keyed keyOf_int_mk)
attribute [local go_sem] Oper.semAt_some

theorem pos_lt {p : Int} {W : Nat} {R : Nat → Option (Nat → Int)} (hE : Ech p W R) {k : Nat} (hk : k < (pivL W R).length) : (pivL W R).getD k 0 < posP W (pivL W R) (k + 1) := by
  unfold posP
  split
  · rename_i h
    have := List.pairwise_iff_getElem.1 (pivL_less W R) k (k + 1) hk h (by omega)
    simp only [List.getD_eq_getElem?_getD, List.getElem?_eq_getElem hk, List.getElem?_eq_getElem h, Option.getD_some]
    omega
  · have := (pivL_mem hE).1 (getD_mem hk)
    obtain ⟨r, hr⟩ := Option.isSome_iff_exists.1 this
    exact hE.below _ _ hr
theorem pos_next {p : Int} {W : Nat} {R : Nat → Option (Nat → Int)} (hE : Ech p W R) {k : Nat} (hk : k < (pivL W R).length) {i : Nat} (hi : (R i).isSome) : i < posP W (pivL W R) (k + 1) ↔ i < posP W (pivL W R) k ∨ i = (pivL W R).getD k 0 := by
  have h1 := pos_lt hE hk
  have h2 : posP W (pivL W R) k = (pivL W R).getD k 0 := by unfold posP; rw [if_pos hk]
  constructor
  · intro h
    rcases Nat.lt_trichotomy i ((pivL W R).getD k 0) with h3 | h3 | h3
    · exact .inl (by omega)
    · exact .inr h3
    · have := pos_gap hE (k := k + 1) (a := (pivL W R).getD k 0 + 1) (.inr ⟨by omega, by omega, by simp⟩) (j := i) (by omega) h
      rw [this] at hi; cases hi
  · rintro (h | h) <;> omega
/-- A row when q is taken off it. -/
def offR (p : Int) (j : Nat) (q r : Nat → Int) (i : Nat) : Int := (r i + (p - r j) * q i) % p
/-- The rows with pivots below k have been treated. -/
def keepTo (p : Int) (W : Nat) (R : Nat → Option (Nat → Int)) (j : Nat) (q : Nat → Int) (k i : Nat) : Option (Nat → Int) := if i < posP W (pivL W R) k then (R i).map (offR p j q) else R i
theorem keepTo_start {p : Int} {W : Nat} {R : Nat → Option (Nat → Int)} (hE : Ech p W R) (j : Nat) (q : Nat → Int) : keepTo p W R j q 0 = R := by
  funext i
  unfold keepTo
  split
  · rename_i h
    rw [pos_gap hE (a := 0) (.inl rfl) (Nat.zero_le _) h]; rfl
  · rfl
theorem keepTo_end {p : Int} {W : Nat} {R : Nat → Option (Nat → Int)} (hE : Ech p W R) (j : Nat) (q : Nat → Int) (i : Nat) (hi : i ≠ j) : keepTo p W R j q (pivL W R).length i = keepR p R j q i := by
  unfold keepTo keepR posP
  rw [if_neg (Nat.lt_irrefl _), if_neg hi]
  split
  · rfl
  · rename_i h
    cases hR : R i with
    | none => rfl
    | some r => exact absurd (hE.below _ _ hR) h
theorem keepR_some (p : Int) (R : Nat → Option (Nat → Int)) (j : Nat) (q : Nat → Int) (k : Nat) : (keepR p R j q k).isSome ↔ k = j ∨ (R k).isSome := by
  unfold keepR
  split
  · simp [*]
  · simp [*]

theorem boxTurn {S : Nat → Prop} {A B : World} {b : Nat} {t : TypeId} {v : Value} (h : Boxed A b t v) (k : Turn S A B) (hn : ¬ S b) : Boxed B b t v := k.keep h hn
/-- Blocks that are rows of an elimination. -/
structure KeG (mb eb gr n : Nat) (G : Nat → Prop) : Prop where
  mb : ¬ G mb
  eb : ¬ G eb
  gr : ¬ G gr
  lt : ∀ b, G b → b < n
theorem keG {w : World} {p : Int} {W L N eb mb gr : Nat} {R : Nat → Option (Nat → Int)} {g c : Nat → Nat} (h : EL w p W L N eb mb R g c) (hng : ∀ i, (R i).isSome → g i ≠ gr) : KeG mb eb gr w.heap.size (fun b => ∃ i, (R i).isSome ∧ b = g i) := by
  refine ⟨?_, ?_, ?_, ?_⟩
  · rintro ⟨i, hi, e⟩
    obtain ⟨r, hr⟩ := Option.isSome_iff_exists.1 hi
    obtain ⟨_, D, h2, _⟩ := h.mp
    obtain ⟨es, clock, h3, _⟩ := h2
    obtain ⟨cs, h4, _⟩ := (h.row i r hr).1
    rw [e, show w.heap[g i]? = _ from h4] at h3
    cases h3
  · rintro ⟨i, hi, e⟩
    obtain ⟨r, hr⟩ := Option.isSome_iff_exists.1 hi
    exact (h.row i r hr).2.2 e.symm
  · rintro ⟨i, hi, e⟩
    exact hng i hi e.symm
  · rintro b ⟨i, hi, rfl⟩
    obtain ⟨r, hr⟩ := Option.isSome_iff_exists.1 hi
    exact (h.row i r hr).1.lt
/-- The boxes of a call of keep. -/
structure KeB (w : World) (eb gr cr L j pb : Nat) (X : World) : Prop where
  sb : Boxed X w.heap.size 65 (.pointer (some ⟨eb, 0, none⟩))
  rx : Boxed X (w.heap.size + 1) 22 (.slice (some ⟨gr, 0, none⟩) L cr)
  jb : Boxed X (w.heap.size + 2) 3 (.int .i64 j)
  pb : Boxed X pb 65 (.pointer (some ⟨eb, 0, none⟩))
/-- Behind k pivots. -/
structure KeI (p : Int) (W L j : Nat) (R : Nat → Option (Nat → Int)) (g : Nat → Nat) (q : Nat → Int) (w0 : World) (k : Nat) (X : World) : Prop where
  t : Turn (fun b => ∃ i, (R i).isSome ∧ b = g i) w0 X
  row : ∀ i r, keepTo p W R j q k i = some r → RowI X (g i) L r
theorem KeI.below {p : Int} {W L j : Nat} {R : Nat → Option (Nat → Int)} {g : Nat → Nat} {q : Nat → Int} {w0 X Y : World} {k : Nat} (h : KeI p W L j R g q w0 k X) (hb : Below X.heap.size X Y) : KeI p W L j R g q w0 k Y :=
  ⟨h.t.trans (Turn.below hb), fun i r hr => (h.row i r hr).turn (S := fun _ => False) (Turn.below hb) id⟩
theorem KeI.put {p : Int} {W L j : Nat} {R : Nat → Option (Nat → Int)} {g : Nat → Nat} {q : Nat → Int} {w0 X : World} {k : Nat} (h : KeI p W L j R g q w0 k X) {l : Nat} {o : Obj} (hl : X.heap[l]? = some o) (hc : o.isCells = false) (h0 : w0.heap.size ≤ l) (o' : Obj) : KeI p W L j R g q w0 k (X.putObj l o') :=
  ⟨⟨h.t.os, h.t.tape, h.t.output, by simp; exact h.t.size, fun q hq hn => (World.putObj_heap_other (by omega)).trans (h.t.block q hq hn)⟩, fun i r hr => by
    have h1 := h.row i r hr
    obtain ⟨cs, h2, _⟩ := id h1
    refine h1.turn (S := (· = l)) ⟨rfl, rfl, rfl, by simp, fun q _ hq => World.putObj_heap_other hq⟩ fun e => ?_
    subst e
    rw [show X.heap[g i]? = _ from h2] at hl; cases hl; cases hc⟩
theorem KeI.start {p : Int} {W L N eb mb j : Nat} {R : Nat → Option (Nat → Int)} {g c : Nat → Nat} {w0 : World} (hE : Ech p W R) (h : EL w0 p W L N eb mb R g c) (q : Nat → Int) : KeI p W L j R g q w0 0 w0 :=
  ⟨Turn.refl _ _, fun i r hr => by rw [keepTo_start hE] at hr; exact (h.row i r hr).1⟩
theorem KeI.step {p : Int} {W L j : Nat} {R : Nat → Option (Nat → Int)} {g : Nat → Nat} {q : Nat → Int} {w0 X W' : World} {k : Nat} (h : KeI p W L j R g q w0 k X) (hE : Ech p W R) (hinj : ∀ i j, (R i).isSome → (R j).isSome → g i = g j → i = j) (hk : k < (pivL W R).length) {r : Nat → Int} (hr : R ((pivL W R).getD k 0) = some r)
    (ht : Turn (· = g ((pivL W R).getD k 0)) X W') (hrow : RowI W' (g ((pivL W R).getD k 0)) L (offR p j q r)) : KeI p W L j R g q w0 (k + 1) W' := by
  refine ⟨h.t.trans (ht.more fun b _ e => ⟨_, by rw [hr]; rfl, e⟩), fun i r' hr' => ?_⟩
  have hsome : (R i).isSome := by
    unfold keepTo at hr'
    cases hR : R i with
    | none => rw [hR] at hr'; simp at hr'
    | some _ => rfl
  have hnx := pos_next hE hk hsome
  by_cases e : i = (pivL W R).getD k 0
  · unfold keepTo at hr'
    rw [if_pos (hnx.2 (.inr e)), e, hr] at hr'
    injection hr' with hr'
    rw [e, ← hr']
    exact hrow
  · have hsame : keepTo p W R j q k i = some r' := by
      rw [← hr']
      unfold keepTo
      by_cases hp : i < posP W (pivL W R) k
      · rw [if_pos hp, if_pos (hnx.2 (.inl hp))]
      · rw [if_neg hp, if_neg (fun h2 => (hnx.1 h2).elim hp e)]
    exact (h.row i r' hsame).turn ht fun e2 => e (hinj _ _ hsome (by rw [hr]; rfl) e2)
/-- Only the way on. -/
def onlyN (Q : Exit → Act → World → Prop) : Exit → Act → World → Prop
  | .normal, a, w => Q .normal a w
  | _, _, _ => False
theorem wpIn_onlyN {n : Nat} {P : Program} {c : Code} {Q : Exit → Act → World → Prop} {a : Act} {w : World} (h : c.wp P (onlyN Q) a w) : c.wpIn Fence.wide n P Q a w :=
  wpIn_wide.2 (wp_mono h fun e a w h => by cases e <;> first | exact h | exact h.elim)
theorem wpAnyH_end {P : Program} {md : Region.Mode} {ops : Array Oper} {Q : Exit → Act → World → Prop} {S : World → Prop} {fuel : Nat} {listed : Array Bool} {a : Act} {w : World} (T : Array Value) (D : List Deferred) (W2 : World) (h : Q .normal { tmps := T, defers := D } W2)
    (k : Q .normal { tmps := T, defers := D } W2 → wpAnyH P md ops Q S fuel listed a w) : wpAnyH P md ops Q S fuel listed a w := k h
set_option maxRecDepth 100000 in
set_option maxHeartbeats 4000000 in
theorem keep_some (p : Int) (W L N eb mb gr cr j : Nat) (R : Nat → Option (Nat → Int)) (g c : Nat → Nat) (q : Nat → Int) (w : World) (hp : P6 p.toNat) (hp0 : 2 ≤ p) (hp1 : p ≤ 10000) (hWL : W ≤ L) (hL : L ≤ 1000) (hN : N ≤ 1000000) (hE : Ech p W R)
    (h : EL w p W L N eb mb R g c) (hr : RowI w gr L q) (hcr : L ≤ cr) (hq : ∀ i, 0 ≤ q i ∧ q i < p) (hne : gr ≠ eb) (hng : ∀ i, (R i).isSome → g i ≠ gr) (hj : firstNZ q W = some j) (hnew : NewRow p W R j (keptRow p (invI p) q j)) :
    Calls Tryz.prog 68 #[.pointer (some ⟨eb, 0, none⟩), .slice (some ⟨gr, 0, none⟩) L cr] w fun e w' => e = .returned (.tuple #[]) ∧ EL w' p W L (N + 1) eb mb (keepR p R j (keptRow p (invI p) q j)) (fun i => if i = j then gr else g i) (fun i => if i = j then cr else c i) ∧ Turn (fun b => b = mb ∨ b = gr ∨ ∃ i, (R i).isSome ∧ b = g i) w w' := by
  obtain ⟨hjW, hjn, -⟩ := firstNZ_some hj
  have hjL : j < L := by omega
  obtain ⟨heb, hmb, hgl⟩ := h.lt
  have hgrl := hr.lt
  have hmod := h.mod
  have hwid : w.cell? ⟨eb, 1, none⟩ = some (.int .i64 W) := h.mp.1.cell rfl
  have hv : Vec w (· < w.heap.size) (.slice (some ⟨gr, 0, none⟩) L cr) L q := hr.vec hcr _ hgrl
  obtain ⟨A', hcut, hpre⟩ := cut_pre hv hWL
  have HIX := fun (X : World) (e : Below w.heap.size w X) => Lib.hid (indexNZ_any (.slice A' W cr) W q (· < w.heap.size) X (by omega) (hpre.below (fun _ h => h) e))
  rw [hj] at HIX
  change ∀ X, Below w.heap.size w X → Hid (Calls _ _ _ X fun e w' => e = .returned (.int .i64 (j : Int)) ∧ w' = X) at HIX
  refine (callsIn_wide (n := 9)).1 ?_
  refine callsIn_of_wp_marks Tryz.func68 rfl trivial ?_ rfl
  simp only [Tryz.ntmps68, List.size_toArray, List.length_cons, List.length_nil, Nat.reduceAdd, Nat.reduceSub, Array.replicate_succ, Array.replicate_zero, List.push_toArray, List.append_toArray, List.nil_append, List.cons_append]
  have H := Lib.hid h
  have HR := Lib.hid hr
  have HQ := Lib.hid hq
  clear h hr hv hpre
  gi_wp2
  have hb2 : Below w.heap.size w ((w.alloc (.cells #[.pointer (some ⟨eb, 0, none⟩)] 65)).alloc (.cells #[.slice (some ⟨gr, 0, none⟩) L cr] 22)) := ((Below.refl _ w).alloc (Nat.le_refl _) _).alloc (by simp) _
  have hs2 : Boxed ((w.alloc (.cells #[.pointer (some ⟨eb, 0, none⟩)] 65)).alloc (.cells #[.slice (some ⟨gr, 0, none⟩) L cr] 22)) w.heap.size 65 (.pointer (some ⟨eb, 0, none⟩)) := (Boxed.new w _ _).alloc _
  have hx2 : Boxed ((w.alloc (.cells #[.pointer (some ⟨eb, 0, none⟩)] 65)).alloc (.cells #[.slice (some ⟨gr, 0, none⟩) L cr] 22)) (w.heap.size + 1) 22 (.slice (some ⟨gr, 0, none⟩) L cr) := by
    have := Boxed.new (w.alloc (.cells #[.pointer (some ⟨eb, 0, none⟩)] 65)) 22 (.slice (some ⟨gr, 0, none⟩) L cr); rw [World.size_alloc] at this; exact this
  have hz2 : ((w.alloc (.cells #[.pointer (some ⟨eb, 0, none⟩)] 65)).alloc (.cells #[.slice (some ⟨gr, 0, none⟩) L cr] 22)).heap.size = w.heap.size + 2 := by simp
  generalize (w.alloc (.cells #[.pointer (some ⟨eb, 0, none⟩)] 65)).alloc (.cells #[.slice (some ⟨gr, 0, none⟩) L cr] 22) = w2 at hb2 hs2 hx2 hz2 ⊢
  refine wpIn_onlyN ?_
  refine wp_region_held_drew (S := (fun W1 => W1.cell? ⟨w.heap.size, 0, none⟩ = some (.pointer (some ⟨eb, 0, none⟩)) ∧ W1.cell? ⟨eb, 1, none⟩ = some (.int .i64 W) ∧ W1.cell? ⟨w.heap.size + 1, 0, none⟩ = some (.slice (some ⟨gr, 0, none⟩) L cr))) (by kernel_rfl) ⟨hs2.cell, (hb2.cell (p := ⟨eb, 1, none⟩) heb).trans hwid, hx2.cell⟩ (fun hHeld => ?_)
  have hb2d : Below w.heap.size w w2.drew := ⟨hb2.os, hb2.tape, hb2.output, hb2.size, hb2.block⟩
  have hs2d : Boxed w2.drew w.heap.size 65 (.pointer (some ⟨eb, 0, none⟩)) := hs2
  have hx2d : Boxed w2.drew (w.heap.size + 1) 22 (.slice (some ⟨gr, 0, none⟩) L cr) := hx2
  have hz2d : w2.drew.heap.size = w.heap.size + 2 := hz2
  clear hb2 hs2 hx2 hz2
  generalize w2.drew = X at hb2d hs2d hx2d hz2d hHeld ⊢
  refine takeH (i := 0) (v := (.slice (some ⟨gr, 0, none⟩) L cr)) rfl rfl (by kernel_rfl) (by kernel_rfl) (by kernel_rfl) (fun _ _ _ h => h) (by rfl) (fun W hW => by (obtain ⟨h1, h2, h3⟩ := hW); go_simp) (by assumption) ?_
  simp only [List.setIfInBounds_toArray, List.set_cons_zero, List.set_cons_succ]
  refine takeH (i := 1) (v := (.pointer (some ⟨eb, 0, none⟩))) rfl rfl (by kernel_rfl) (by kernel_rfl) (by kernel_rfl) (fun _ _ _ h => h) (by rfl) (fun W hW => by (obtain ⟨h1, h2, h3⟩ := hW); go_simp) (by assumption) ?_
  simp only [List.setIfInBounds_toArray, List.set_cons_zero, List.set_cons_succ]
  refine takeH (i := 2) (v := (.pointer (some ⟨eb, 0, none⟩))) rfl rfl (by kernel_rfl) (by kernel_rfl) (by kernel_rfl) (fun _ _ _ h => h) (by rfl) (fun W hW => by (obtain ⟨h1, h2, h3⟩ := hW); go_simp) (by assumption) ?_
  simp only [List.setIfInBounds_toArray, List.set_cons_zero, List.set_cons_succ]
  refine takeH (i := 3) (v := (.pointer (some ⟨eb, 1, none⟩))) rfl rfl (by kernel_rfl) (by kernel_rfl) (by kernel_rfl) (fun _ _ _ h => h) (by rfl) (fun W hW => by (obtain ⟨h1, h2, h3⟩ := hW); go_simp) (by assumption) ?_
  simp only [List.setIfInBounds_toArray, List.set_cons_zero, List.set_cons_succ]
  refine takeH (i := 4) (v := (.int .i64 W)) rfl rfl (by kernel_rfl) (by kernel_rfl) (by kernel_rfl) (fun _ _ _ h => h) (by rfl) (fun W hW => by (obtain ⟨h1, h2, h3⟩ := hW); go_simp) (by assumption) ?_
  simp only [List.setIfInBounds_toArray, List.set_cons_zero, List.set_cons_succ]
  refine takeH (i := 5) (v := (.slice A' W cr)) rfl rfl (by kernel_rfl) (by kernel_rfl) (by kernel_rfl) (fun _ _ _ h => h) (by rfl) (fun W hW => by (obtain ⟨h1, h2, h3⟩ := hW); go_simp) (by assumption) ?_
  simp only [List.setIfInBounds_toArray, List.set_cons_zero, List.set_cons_succ]
  have HS3 := Lib.hid (fun (o : Obj) => (show (X.alloc o).cell? ⟨w.heap.size, 0, none⟩ = some (.pointer (some ⟨eb, 0, none⟩)) ∧ (X.alloc o).cell? ⟨eb, 1, none⟩ = some (.int .i64 W) ∧ (X.alloc o).cell? ⟨w.heap.size + 1, 0, none⟩ = some (.slice (some ⟨gr, 0, none⟩) L cr) from
    ⟨(hs2d.alloc o).cell, (World.cell?_alloc_lt X o ⟨eb, 1, none⟩ (by show eb < X.heap.size; omega)).trans hHeld.2.1, (hx2d.alloc o).cell⟩))
  refine wpAnyH_end #[.pointer (some ⟨eb, 0, none⟩), .slice (some ⟨gr, 0, none⟩) L cr, .pointer (some ⟨w.heap.size, 0, none⟩), .pointer (some ⟨w.heap.size + 1, 0, none⟩), .pointer (some ⟨X.heap.size, 0, none⟩), undef, undef, .slice (some ⟨gr, 0, none⟩) L cr, .pointer (some ⟨eb, 0, none⟩), .pointer (some ⟨eb, 0, none⟩), .pointer (some ⟨eb, 1, none⟩), .int .i64 W, .slice A' W cr, .int .i64 j,
    undef, undef, undef, undef, undef, undef, undef, undef, undef, undef, undef, undef, undef, undef, undef, undef, undef, undef, undef, undef, undef, undef, undef, undef, undef, undef, undef, undef, undef, undef, undef, undef, undef] [] (X.alloc (.cells #[.int .i64 j] 3)) ?rest ?walk
  case walk =>
    intro hend
    refine wpAnyH_ready (rs := [6, 7]) (by kernel_rfl) (by simp) ?_
    refine (AllReadyH.cons rfl (fun K hK => ?_) (AllReadyH.cons rfl (fun K hK => ?_) AllReadyH.nil))
    · go_simp
      refine (HIX X hb2d).out.mono ?_
      rintro e w' ⟨rfl, rfl⟩
      dsimp only
      refine hK.out _ _ hHeld (fun hHeld => ?_)
      clear hK K
      try simp only [Act.put, List.setIfInBounds_toArray, List.set_cons_zero, List.set_cons_succ]
      refine wpAnyH_ready (rs := [7]) (by kernel_rfl) (by simp) ?_
      refine (AllReadyH.cons rfl (fun K hK => ?_) AllReadyH.nil)
      go_simp
      refine hK.out _ _ (HS3.out _) (fun hHeld => ?_)
      clear hK K
      try simp only [Act.put, List.setIfInBounds_toArray, List.set_cons_zero, List.set_cons_succ]
      refine wpAnyH_ready (rs := [8]) (by kernel_rfl) (by simp) ?_
      refine (AllReadyH.cons rfl (fun K hK => ?_) AllReadyH.nil)
      go_simp
      refine hK.out _ _ (HS3.out _) (fun hHeld => ?_)
      clear hK K
      try simp only [Act.put, List.setIfInBounds_toArray, List.set_cons_zero, List.set_cons_succ]
      refine wpAnyH_done (by kernel_rfl) ?_ _
      rw [hz2d] at hend
      exact hend
    · go_simp
      refine hK.out _ _ (HS3.out _) (fun hHeld => ?_)
      clear hK K
      try simp only [Act.put, List.setIfInBounds_toArray, List.set_cons_zero, List.set_cons_succ]
      refine wpAnyH_ready (rs := [6]) (by kernel_rfl) (by simp) ?_
      refine (AllReadyH.cons rfl (fun K hK => ?_) AllReadyH.nil)
      go_simp
      refine (HIX _ (hb2d.alloc hb2d.size _)).out.mono ?_
      rintro e w' ⟨rfl, rfl⟩
      dsimp only
      refine hK.out _ _ (HS3.out _) (fun hHeld => ?_)
      clear hK K
      try simp only [Act.put, List.setIfInBounds_toArray, List.set_cons_zero, List.set_cons_succ]
      refine wpAnyH_ready (rs := [8]) (by kernel_rfl) (by simp) ?_
      refine (AllReadyH.cons rfl (fun K hK => ?_) AllReadyH.nil)
      go_simp
      refine hK.out _ _ (HS3.out _) (fun hHeld => ?_)
      clear hK K
      try simp only [Act.put, List.setIfInBounds_toArray, List.set_cons_zero, List.set_cons_succ]
      refine wpAnyH_done (by kernel_rfl) ?_ _
      rw [hz2d] at hend
      exact hend
  case rest =>
    have hb3 : Below w.heap.size w (X.alloc (.cells #[.int .i64 j] 3)) := hb2d.alloc hb2d.size _
    have hs3 := hs2d.alloc (.cells #[.int .i64 j] 3)
    have hx3 := hx2d.alloc (.cells #[.int .i64 j] 3)
    have hj3 : Boxed (X.alloc (.cells #[.int .i64 j] 3)) (w.heap.size + 2) 3 (.int .i64 j) := by have := Boxed.new X 3 (.int .i64 j); rwa [hz2d] at this
    have hz3 : (X.alloc (.cells #[.int .i64 j] 3)).heap.size = w.heap.size + 3 := by simp [hz2d]
    dsimp only [onlyN]
    rw [hz2d]
    clear hHeld HS3 hb2d hs2d hx2d hz2d HIX hwid hcut
    generalize X.alloc (.cells #[.int .i64 j] 3) = w3 at hb3 hs3 hx3 hj3 hz3 ⊢
    have hjc := hj3.cell
    gi_wp2
    refine wpIn_onlyN ?_
    refine wp_region_held_drew (S := (fun W1 => W1.cell? ⟨w.heap.size, 0, none⟩ = some (.pointer (some ⟨eb, 0, none⟩)) ∧ W1.cell? ⟨eb, 0, none⟩ = some (.int .i64 p) ∧ W1.cell? ⟨w.heap.size + 1, 0, none⟩ = some (.slice (some ⟨gr, 0, none⟩) L cr) ∧ W1.cell? ⟨w.heap.size + 2, 0, none⟩ = some (.int .i64 j))) (by kernel_rfl) ⟨hs3.cell, (hb3.cell (p := ⟨eb, 0, none⟩) heb).trans hmod, hx3.cell, hj3.cell⟩ (fun hHeld => ?_)
    have hxd : w3.drew.cell? ⟨gr, j, none⟩ = some (.int .i64 (q j)) := (hb3.cell (p := ⟨gr, j, none⟩) hgrl).trans (HR.out.cell hjL)
    have HDV := Lib.hid (divide_any p (q j) gr L cr q w3.drew (by omega) hp hp0 hp1 ⟨by have := hq j; omega, (hq j).2⟩ (HR.out.turn (S := fun _ => False) (show Turn (fun _ => False) w w3.drew from ⟨hb3.os, hb3.tape, hb3.output, hb3.size, fun q hq _ => hb3.block q hq⟩) id) (fun i _ => hq i))
    have HKQ := Lib.hid (show (fun i => q i * invI p (q j) % p) = keptRow p (invI p) q j from rfl)
    generalize q j = xj at hxd HDV HKQ hjn
    refine takeH (i := 0) (v := (.pointer (some ⟨eb, 0, none⟩))) rfl rfl (by kernel_rfl) (by kernel_rfl) (by kernel_rfl) (fun _ _ _ h => h) (by rfl) (fun W hW => by (obtain ⟨h1, h2, h3, h4⟩ := hW); go_simp) (by assumption) ?_
    simp only [List.setIfInBounds_toArray, List.set_cons_zero, List.set_cons_succ]
    refine takeH (i := 1) (v := (.pointer (some ⟨eb, 0, none⟩))) rfl rfl (by kernel_rfl) (by kernel_rfl) (by kernel_rfl) (fun _ _ _ h => h) (by rfl) (fun W hW => by (obtain ⟨h1, h2, h3, h4⟩ := hW); go_simp) (by assumption) ?_
    simp only [List.setIfInBounds_toArray, List.set_cons_zero, List.set_cons_succ]
    refine takeH (i := 2) (v := (.pointer (some ⟨eb, 0, none⟩))) rfl rfl (by kernel_rfl) (by kernel_rfl) (by kernel_rfl) (fun _ _ _ h => h) (by rfl) (fun W hW => by (obtain ⟨h1, h2, h3, h4⟩ := hW); go_simp) (by assumption) ?_
    simp only [List.setIfInBounds_toArray, List.set_cons_zero, List.set_cons_succ]
    refine takeH (i := 3) (v := (.int .i64 p)) rfl rfl (by kernel_rfl) (by kernel_rfl) (by kernel_rfl) (fun _ _ _ h => h) (by rfl) (fun W hW => by (obtain ⟨h1, h2, h3, h4⟩ := hW); go_simp) (by assumption) ?_
    simp only [List.setIfInBounds_toArray, List.set_cons_zero, List.set_cons_succ]
    refine takeH (i := 4) (v := (.slice (some ⟨gr, 0, none⟩) L cr)) rfl rfl (by kernel_rfl) (by kernel_rfl) (by kernel_rfl) (fun _ _ _ h => h) (by rfl) (fun W hW => by (obtain ⟨h1, h2, h3, h4⟩ := hW); go_simp) (by assumption) ?_
    simp only [List.setIfInBounds_toArray, List.set_cons_zero, List.set_cons_succ]
    refine takeH (i := 5) (v := (.slice (some ⟨gr, 0, none⟩) L cr)) rfl rfl (by kernel_rfl) (by kernel_rfl) (by kernel_rfl) (fun _ _ _ h => h) (by rfl) (fun W hW => by (obtain ⟨h1, h2, h3, h4⟩ := hW); go_simp) (by assumption) ?_
    simp only [List.setIfInBounds_toArray, List.set_cons_zero, List.set_cons_succ]
    refine takeH (i := 6) (v := (.int .i64 j)) rfl rfl (by kernel_rfl) (by kernel_rfl) (by kernel_rfl) (fun _ _ _ h => h) (by rfl) (fun W hW => by (obtain ⟨h1, h2, h3, h4⟩ := hW); go_simp) (by assumption) ?_
    simp only [List.setIfInBounds_toArray, List.set_cons_zero, List.set_cons_succ]
    refine takeH (i := 7) (v := (.pointer (some ⟨gr, j, none⟩))) rfl rfl (by kernel_rfl) (by kernel_rfl) (by kernel_rfl) (fun _ _ _ h => h) (by rfl) (fun W hW => by (obtain ⟨h1, h2, h3, h4⟩ := hW); go_simp) (by assumption) ?_
    simp only [List.setIfInBounds_toArray, List.set_cons_zero, List.set_cons_succ]
    refine wpAnyH_ready (rs := [8]) (by kernel_rfl) (by simp) ?_
    refine (AllReadyH.cons rfl (fun K hK => ?_) AllReadyH.nil)
    go_simp
    refine hK.out _ _ hHeld (fun hHeld => ?_)
    clear hK K
    try simp only [Act.put, List.setIfInBounds_toArray, List.set_cons_zero, List.set_cons_succ]
    refine wpAnyH_ready (rs := [9]) (by kernel_rfl) (by simp) ?_
    refine (AllReadyH.cons rfl (fun K hK => ?_) AllReadyH.nil)
    go_simp
    refine HDV.out.mono ?_
    rintro e W4 ⟨rfl, hrow4, ht4⟩
    have q1 := ht4.cell hHeld.1 (show ¬ w.heap.size = gr by omega)
    have q2 := ht4.cell hHeld.2.1 (show ¬ eb = gr by omega)
    have q3 := ht4.cell hHeld.2.2.1 (show ¬ w.heap.size + 1 = gr by omega)
    have q4 := ht4.cell hHeld.2.2.2 (show ¬ w.heap.size + 2 = gr by omega)
    rw [HKQ.out] at hrow4
    dsimp only
    refine hK.out _ _ ⟨q1, q2, q3, q4⟩ (fun hHeld => ?_)
    clear hK K
    try simp only [Act.put, List.setIfInBounds_toArray, List.set_cons_zero, List.set_cons_succ]
    refine wpAnyH_done (by kernel_rfl) ?_ _
    dsimp only [onlyN]
    have hs4 : Boxed W4 w.heap.size 65 (.pointer (some ⟨eb, 0, none⟩)) := ht4.keep hs3 (fun (e : w.heap.size = gr) => by omega)
    have hx4 : Boxed W4 (w.heap.size + 1) 22 (.slice (some ⟨gr, 0, none⟩) L cr) := ht4.keep hx3 (fun (e : w.heap.size + 1 = gr) => by omega)
    have hj4 : Boxed W4 (w.heap.size + 2) 3 (.int .i64 j) := ht4.keep hj3 (fun (e : w.heap.size + 2 = gr) => by omega)
    have hz4 : w.heap.size + 3 ≤ W4.heap.size := by have := ht4.size; rw [← hz3]; exact this
    have hT4 : Turn (· = gr) w W4 := (Turn.below hb3).trans ⟨ht4.os, ht4.tape, ht4.output, ht4.size, ht4.block⟩
    have hEL4 : EL W4 p W L N eb mb R g c := ⟨H.out.mp.turn hT4 (fun (e : eb = gr) => by omega) (fun (e : mb = gr) => by
      obtain ⟨_, D, h2, _⟩ := H.out.mp
      obtain ⟨es, clock, h3, _⟩ := h2
      obtain ⟨cs, h4, _⟩ := HR.out
      subst e
      rw [show w.heap[mb]? = _ from h4] at h3
      cases h3), fun i r hr => ⟨((H.out.row i r hr).1).turn hT4 (hng i (by rw [hr]; rfl)), (H.out.row i r hr).2⟩, H.out.inj⟩
    clear hb3 hs3 hx3 hj3 hz3 hHeld hxd HDV ht4 q1 q2 q3 q4 hjc
    have hsc := hs4.cell
    gi_wp2
    refine ⟨trivial, (pivots_in Fence.wide 8 trivial rfl _ _).mono ?_⟩
    rintro e w5 ⟨rfl, rfl⟩
    gi_wp2
    obtain ⟨w0, hw0⟩ : ∃ w0, W4.alloc (.cells #[.pointer (some ⟨eb, 0, none⟩)] 65) = w0 := ⟨_, rfl⟩
    have hz0 : w0.heap.size = W4.heap.size + 1 := by rw [← hw0]; simp
    have hA0 : ∀ S, Turn S W4 w0 := fun S => by rw [← hw0]; exact (Turn.refl _ _).alloc _
    have HB : Hid (KeB w eb gr cr L j W4.heap.size w0) := Lib.hid (by
      rw [← hw0]; exact ⟨hs4.alloc _, hx4.alloc _, hj4.alloc _, Boxed.new W4 _ _⟩)
    have HEL : Hid (EL w0 p W L N eb mb R g c) := Lib.hid (hEL4.below (by rw [← hw0]; exact (Below.refl _ _).alloc (Nat.le_refl _) _))
    have HRW : Hid (RowI w0 gr L (keptRow p (invI p) q j)) := Lib.hid (hrow4.turn (hA0 (fun _ => False)) id)
    have HT0 := Lib.hid (hT4.trans (hA0 _))
    have HG : Hid (KeG mb eb gr w.heap.size (fun b => ∃ i, (R i).isSome ∧ b = g i)) := Lib.hid (keG H.out hng)
    have hqq := hnew.low
    have HN := Lib.hid hnew
    rw [hw0]
    clear hw0 hs4 hx4 hj4 hsc hrow4 hEL4 hA0 hT4 HKQ hnew
    obtain ⟨qq, HQE⟩ : ∃ qq, Hid (keptRow p (invI p) q j = qq) := ⟨_, Lib.hid rfl⟩
    rw [HQE.out] at HRW HN hqq
    generalize W4.heap.size = pb at *
    refine wpIn_rangeJ rfl (by omega) (gf := 88) (lb := #[.pointer (some ⟨pb, 0, none⟩)]) rfl trivial (enters_of Tryz.func88 (by kernel_rfl) rfl)
      (pivL W R).length (KeI p W L j R g qq w0) (fun k x X => x = #[.int .i64 ((pivL W R).getD k 0 : Nat), rowVal L g c ((pivL W R).getD k 0)] ∧ KeI p W L j R g qq w0 k X) (KeepA (w0.heap.size + 2))
      (fun k X o o' h ho hc _ => h.put ho hc (by omega) o') (fun k x X o o' h ho hc _ => ⟨h.1, h.2.put ho hc (by omega) o'⟩) (fun _ _ _ h k => h.trans k)
      (fun X o o' ho _ _ => ⟨by simp, fun q o2 hq h2 => (World.putObj_heap_other (by omega)).trans h2⟩) (fun k x X h => by rw [h.1]; rfl)
      (fun o1 o2 => (KeI.start hE HEL.out qq).below (((Below.refl _ _).alloc (Nat.le_refl _) _).alloc (by simp) _)) ?iter
      (fun x => { tmps := #[.pointer (some ⟨eb, 0, none⟩), .slice (some ⟨gr, 0, none⟩) L cr, .pointer (some ⟨w.heap.size, 0, none⟩), .pointer (some ⟨w.heap.size + 1, 0, none⟩), .pointer (some ⟨w.heap.size + 2, 0, none⟩), undef, x.getD 1 undef, .slice (some ⟨gr, 0, none⟩) L cr, .pointer (some ⟨eb, 0, none⟩), .pointer (some ⟨eb, 0, none⟩), .pointer (some ⟨eb, 1, none⟩),
        .int .i64 W, .slice A' W cr, .int .i64 j, .int .i64 j, .bool (decide ((j : Int) < 0)), .pointer (some ⟨eb, 0, none⟩), .pointer (some ⟨eb, 0, none⟩), .pointer (some ⟨eb, 0, none⟩), .int .i64 p, .slice (some ⟨gr, 0, none⟩) L cr, .slice (some ⟨gr, 0, none⟩) L cr, .int .i64 j, .pointer (some ⟨gr, j, none⟩), .int .i64 xj, .tuple #[], .pointer (some ⟨eb, 0, none⟩),
        .func (.func 88) #[] #[.pointer (some ⟨pb, 0, none⟩)], x.getD 0 undef, x.getD 1 undef, undef, undef, undef, undef, undef, undef, undef, undef, undef, undef, undef, undef, undef, undef, undef, undef, undef], defers := [] }) ?assign ?body ?done
    case assign =>
      rintro l k x X K ⟨rfl, _⟩ hK
      gi_wp2
      exact hK
    case iter =>
      intro Lo W1 hLc hLw hb1 hz1 hl1 hd1 hi1 hy
      have hEL := HEL.out
      have hGG := HG.out
      refine (pivots1_in 8 (by omega) (w0.heap.size + 1) pb eb mb N W p (pivL W R) (pivL_less W R) (fun i hi => ?_) ?_ hN (rowVal L g c) (fun k X => KeI p W L j R g qq w0 k X ∧ X.heap[w0.heap.size + 1]? = some Lo ∧ X.heap[w0.heap.size]? = some (.deferred (some []))) W1
        (fun k X h => ⟨(boxTurn HB.out.pb h.1.t (fun hs => by have := hGG.lt _ hs; omega)).cell, hEL.mp.turn h.1.t hGG.eb hGG.mb⟩) ⟨hi1, hl1, hd1⟩ (fun X hb => ⟨hi1.below hb, (hb.block _ (by omega)).trans hl1, (hb.block _ (by omega)).trans hd1⟩) ?_).mono ?_
      · have := (pivL_mem hE).1 hi
        obtain ⟨r, hr⟩ := Option.isSome_iff_exists.1 this
        have := hE.below i r hr
        omega
      · have : (pivL W R).length ≤ (List.range W).length := List.length_filter_le _ _
        rw [List.length_range] at this
        omega
      · rintro k X hk ⟨hi, hl, hd⟩
        have hg : (pivL W R).getD k 0 = (pivL W R)[k] := by simp [List.getD_eq_getElem?_getD, hk]
        rw [← hg]
        exact (hy k _ X hk ⟨rfl, hi⟩ hl hd).mono fun e X3 h => ⟨h.1, ⟨h.2.1, h.2.2.2.1, h.2.2.2.2⟩, by rw [hz1]; exact h.2.2.1⟩
      · rintro e X2 ⟨hv, h⟩
        exact ⟨hv, h⟩
    case body =>
      rintro l k x X Lo hk ⟨rfl, hi⟩ hl hLc hLw hd
      have hmem := getD_mem hk
      have hsome := (pivL_mem hE).1 hmem
      obtain ⟨r, hr⟩ := Option.isSome_iff_exists.1 hsome
      have HNX := Lib.hid (fun W' h1 h2 => hi.step (W' := W') hE H.out.inj hk hr h1 h2)
      have hrr : RowI X (g ((pivL W R).getD k 0)) L r := hi.row _ _ (by unfold keepTo posP; rw [if_pos hk, if_neg (Nat.lt_irrefl _)]; exact hr)
      obtain ⟨-, hrc, -⟩ := H.out.row _ _ hr
      have hgl2 := hgl _ _ hr
      have hlow := fun i => hE.low _ _ i hr
      have hgne := hng _ hsome
      have hGi : (fun b => ∃ i, (R i).isSome ∧ b = g i) (g ((pivL W R).getD k 0)) := ⟨_, hsome, rfl⟩
      have hGG := HG.out
      have hebg : eb ≠ g ((pivL W R).getD k 0) := fun e => hGG.eb (e ▸ hGi)
      generalize (pivL W R).getD k 0 = i0 at hr hrr hrc hgl2 hlow hgne HNX hGi hebg
      have hx := hrr.cell hjL
      have hqX : RowI X gr L qq := HRW.out.turn hi.t hGG.gr
      have HS := Lib.hid (fun (X' : World) (ht : X'.heap = X.heap) => subtract_any p (r j) (g i0) L (c i0) r qq (.slice (some ⟨gr, 0, none⟩) L cr) (· = gr) X' (by omega) hp0 hp1 (hlow j) (by obtain ⟨cs, h1, h2, h3⟩ := hrr; exact ⟨cs, by unfold Row; rw [ht]; exact h1, h2, h3⟩) (fun i _ => hlow i)
        ((show RowI X' gr L qq from by obtain ⟨cs, h1, h2, h3⟩ := hqX; exact ⟨cs, by unfold Row; rw [ht]; exact h1, h2, h3⟩).vec hcr (· = gr) rfl) (fun i _ => hqq i) hgne)
      have hmodX : X.cell? ⟨eb, 0, none⟩ = some (.int .i64 p) := (HEL.out.mp.turn hi.t hGG.eb hGG.mb).1.cell rfl
      have hno : ∀ b, w.heap.size ≤ b → ¬ (fun b => ∃ i, (R i).isSome ∧ b = g i) b := fun b hb hs => by have := hGG.lt _ hs; omega
      have hsb := (boxTurn HB.out.sb hi.t (hno _ (by omega))).cell
      have hrx := (boxTurn HB.out.rx hi.t (hno _ (by omega))).cell
      have hjb := (boxTurn HB.out.jb hi.t (hno _ (by omega))).cell
      have HST := Lib.hid (show ∀ i, subF p (r j) r qq i = offR p j qq r i from fun i => by
        unfold subF offR
        split
        · rename_i h0
          rw [h0, Int.sub_zero, Int.add_mul_emod_self_left, Int.emod_eq_of_lt (hlow i).1 (hlow i).2]
        · rfl)
      have HD := Lib.hid hd
      have HLo := Lib.hid hl
      have HIT := Lib.hid hi.t
      clear hlow hrr hi hd hl hr hqX hGi hno hGG hmem hsome
      unfold rowVal
      simp only [show ∀ a b : Value, (#[a, b] : Array Value).getD 0 undef = a from fun _ _ => rfl, show ∀ a b : Value, (#[a, b] : Array Value).getD 1 undef = b from fun _ _ => rfl]
      generalize r j = xr at hx HS HST
      have hmix : Tryz.prog.follows .mixedOrders = true := by kernel_rfl
      gi_wp2
      refine region_round_held (S := fun W1 => W1.cell? ⟨w.heap.size, 0, none⟩ = some (.pointer (some ⟨eb, 0, none⟩)) ∧ W1.cell? ⟨eb, 0, none⟩ = some (.int .i64 p) ∧ W1.cell? ⟨w.heap.size + 1, 0, none⟩ = some (.slice (some ⟨gr, 0, none⟩) L cr) ∧ W1.cell? ⟨w.heap.size + 2, 0, none⟩ = some (.int .i64 j)) l (by kernel_rfl) hmix (by rintro ⟨_, _, h⟩; exact h) ?_
      have hHeld : X.drew.cell? ⟨w.heap.size, 0, none⟩ = some (.pointer (some ⟨eb, 0, none⟩)) ∧ X.drew.cell? ⟨eb, 0, none⟩ = some (.int .i64 p) ∧ X.drew.cell? ⟨w.heap.size + 1, 0, none⟩ = some (.slice (some ⟨gr, 0, none⟩) L cr) ∧ X.drew.cell? ⟨w.heap.size + 2, 0, none⟩ = some (.int .i64 j) := ⟨hsb, hmodX, hrx, hjb⟩
      refine takeH (i := 0) (v := (.pointer (some ⟨eb, 0, none⟩))) rfl rfl (by kernel_rfl) (by kernel_rfl) (by kernel_rfl) (fun _ _ _ h => h) (by rfl) (fun W hW => by (obtain ⟨h1, h2, h3, h4⟩ := hW); go_simp) (by assumption) ?_
      simp only [List.setIfInBounds_toArray, List.set_cons_zero, List.set_cons_succ]
      refine takeH (i := 1) (v := (.pointer (some ⟨eb, 0, none⟩))) rfl rfl (by kernel_rfl) (by kernel_rfl) (by kernel_rfl) (fun _ _ _ h => h) (by rfl) (fun W hW => by (obtain ⟨h1, h2, h3, h4⟩ := hW); go_simp) (by assumption) ?_
      simp only [List.setIfInBounds_toArray, List.set_cons_zero, List.set_cons_succ]
      refine takeH (i := 2) (v := (.pointer (some ⟨eb, 0, none⟩))) rfl rfl (by kernel_rfl) (by kernel_rfl) (by kernel_rfl) (fun _ _ _ h => h) (by rfl) (fun W hW => by (obtain ⟨h1, h2, h3, h4⟩ := hW); go_simp) (by assumption) ?_
      simp only [List.setIfInBounds_toArray, List.set_cons_zero, List.set_cons_succ]
      refine takeH (i := 3) (v := (.int .i64 p)) rfl rfl (by kernel_rfl) (by kernel_rfl) (by kernel_rfl) (fun _ _ _ h => h) (by rfl) (fun W hW => by (obtain ⟨h1, h2, h3, h4⟩ := hW); go_simp) (by assumption) ?_
      simp only [List.setIfInBounds_toArray, List.set_cons_zero, List.set_cons_succ]
      refine takeH (i := 4) (v := (.slice (some ⟨g i0, 0, none⟩) L (c i0))) rfl rfl (by kernel_rfl) (by kernel_rfl) (by kernel_rfl) (fun _ _ _ h => h) (by rfl) (fun W hW => by (obtain ⟨h1, h2, h3, h4⟩ := hW); go_simp) (by assumption) ?_
      simp only [List.setIfInBounds_toArray, List.set_cons_zero, List.set_cons_succ]
      refine takeH (i := 5) (v := (.slice (some ⟨g i0, 0, none⟩) L (c i0))) rfl rfl (by kernel_rfl) (by kernel_rfl) (by kernel_rfl) (fun _ _ _ h => h) (by rfl) (fun W hW => by (obtain ⟨h1, h2, h3, h4⟩ := hW); go_simp) (by assumption) ?_
      simp only [List.setIfInBounds_toArray, List.set_cons_zero, List.set_cons_succ]
      refine takeH (i := 6) (v := (.int .i64 j)) rfl rfl (by kernel_rfl) (by kernel_rfl) (by kernel_rfl) (fun _ _ _ h => h) (by rfl) (fun W hW => by (obtain ⟨h1, h2, h3, h4⟩ := hW); go_simp) (by assumption) ?_
      simp only [List.setIfInBounds_toArray, List.set_cons_zero, List.set_cons_succ]
      refine takeH (i := 7) (v := (.pointer (some ⟨g i0, j, none⟩))) rfl rfl (by kernel_rfl) (by kernel_rfl) (by kernel_rfl) (fun _ _ _ h => h) (by rfl) (fun W hW => by (obtain ⟨h1, h2, h3, h4⟩ := hW); go_simp) (by assumption) ?_
      simp only [List.setIfInBounds_toArray, List.set_cons_zero, List.set_cons_succ]
      refine takeH (i := 9) (v := (.slice (some ⟨gr, 0, none⟩) L cr)) rfl rfl (by kernel_rfl) (by kernel_rfl) (by kernel_rfl) (fun _ _ _ h => h) (by rfl) (fun W hW => by (obtain ⟨h1, h2, h3, h4⟩ := hW); go_simp) (by assumption) ?_
      simp only [List.setIfInBounds_toArray, List.set_cons_zero, List.set_cons_succ]
      have hxd : X.drew.cell? ⟨g i0, j, none⟩ = some (.int .i64 xr) := hx
      refine wpAnyH_ready (rs := [8]) (by kernel_rfl) (by simp) ?_
      refine (AllReadyH.cons rfl (fun K hK => ?_) AllReadyH.nil)
      go_simp
      refine hK.out _ _ hHeld (fun hHeld => ?_)
      clear hK K
      try simp only [Act.put, List.setIfInBounds_toArray, List.set_cons_zero, List.set_cons_succ]
      refine wpAnyH_ready (rs := [10]) (by kernel_rfl) (by simp) ?_
      refine (AllReadyH.cons rfl (fun K hK => ?_) AllReadyH.nil)
      go_simp
      refine (HS.out X.drew rfl).mono ?_
      rintro e W' ⟨rfl, hrow', ht⟩
      have q1 := ht.cell hHeld.1 (show ¬ w.heap.size = g i0 by omega)
      have q2 := ht.cell hHeld.2.1 (show ¬ eb = g i0 by omega)
      have q3 := ht.cell hHeld.2.2.1 (show ¬ w.heap.size + 1 = g i0 by omega)
      have q4 := ht.cell hHeld.2.2.2 (show ¬ w.heap.size + 2 = g i0 by omega)
      have HROW := Lib.hid (hrow'.congr (f' := offR p j qq r) fun i _ => HST.out i)
      have ht0 : Turn (· = g i0) X W' := ⟨ht.os, ht.tape, ht.output, ht.size, ht.block⟩
      have HT := Lib.hid ht0
      clear hrow' ht ht0
      dsimp only
      refine hK.out _ _ ⟨q1, q2, q3, q4⟩ (fun hHeld => ?_)
      clear hK K
      try simp only [Act.put, List.setIfInBounds_toArray, List.set_cons_zero, List.set_cons_succ]
      refine wpAnyH_done (by kernel_rfl) ?_ _
      clear hHeld hsb hrx hjb hx hxd q1 q2 q3 q4 hmodX
      have hT := HT.out
      have hl1 := (Array.getElem?_eq_some_iff.1 HLo.out).1
      have hsz := HIT.out.size
      exact ⟨HNX.out W' hT HROW.out, ⟨hT.size, fun q o hq ho => hT.keep ho (fun (e : q = g i0) => by omega)⟩,
        hT.block _ hl1 (fun (e : w0.heap.size + 1 = g i0) => by omega), hT.block _ (by omega) (fun (e : w0.heap.size = g i0) => by omega)⟩
    case done =>
      rintro X hi hK
      have hGG := HG.out
      have hno : ∀ b, w.heap.size ≤ b → ¬ (fun b => ∃ i, (R i).isSome ∧ b = g i) b := fun b hb hs => by have := hGG.lt _ hs; omega
      have hmpX := HEL.out.mp.turn hi.t hGG.eb hGG.mb
      have bsb := boxTurn HB.out.sb hi.t (hno _ (by omega))
      have brx := boxTurn HB.out.rx hi.t (hno _ (by omega))
      have bjb := boxTurn HB.out.jb hi.t (hno _ (by omega))
      obtain ⟨hreb, D, hown, hmat⟩ := hmpX
      have hc2 : X.cell? ⟨eb, 2, none⟩ = some (.map (some mb)) := hreb.cell rfl
      have hmx : (maxLen : Nat) = 9223372036854775807 := by decide
      obtain ⟨X7, hrun, hown7, htu7⟩ := hown.drew.store key_law Tryz.underlying75 (by omega) (keyOf_int_mk Tryz.underlying3 (key_wf (j := j) (by omega))) (show heldE (.slice (some ⟨gr, 0, none⟩) L cr) = some (.held (.slice (some ⟨gr, 0, none⟩) L cr), []) from rfl)
      have ht7 : Turn (· = mb) X X7 := (show Turn (· = mb) X X.drew from ⟨rfl, rfl, rfl, Nat.le_refl _, fun _ _ _ => rfl⟩).trans (Turn.grown htu7.grown rfl)
      have hmbX := hown.lt
      have hsz := hi.t.size
      have e1 : ¬ mb = w.heap.size := by omega
      have e2 : ¬ mb = w.heap.size + 1 := by omega
      have e3 : ¬ mb = w.heap.size + 2 := by omega
      have e4 : ¬ eb = mb := fun e => by
        obtain ⟨es, clock, h3, _⟩ := hown
        rw [← e, show X.heap[eb]? = _ from hreb] at h3
        cases h3
      have q1 := (boxTurn bsb ht7 (fun e => e1 e.symm)).cell
      have q2 := ht7.cell hc2 e4
      have q3 := (boxTurn brx ht7 (fun e => e2 e.symm)).cell
      have q4 := (boxTurn bjb ht7 (fun e => e3 e.symm)).cell
      have H7 := Lib.hid hown7
      have HI := Lib.hid hi
      have HT7 := Lib.hid ht7
      have HM := Lib.hid hmat
      have HREB := Lib.hid (hreb.turn ht7 (fun (e : eb = mb) => e4 e))
      have HK := Lib.hid (ht7.keep hK (fun (e : w0.heap.size = mb) => by omega))
      have HTID := Lib.hid (Maps.IsMap.put (hown.isMap) (.int .i64 j) (.held (.slice (some ⟨gr, 0, none⟩) L cr)))
      have HIM := Lib.hid hown.isMap
      have r1 := bsb.cell
      have r3 := brx.cell
      have r4 := bjb.cell
      clear hown7 hi ht7 htu7 hmat hreb hK hown hGG hno bsb brx bjb
      dsimp only
      gi_wp2
      refine wpIn_onlyN ?_
      refine wp_region_held_drew (S := (fun W1 => W1.cell? ⟨w.heap.size, 0, none⟩ = some (.pointer (some ⟨eb, 0, none⟩)) ∧ W1.cell? ⟨eb, 2, none⟩ = some (.map (some mb)) ∧ W1.cell? ⟨w.heap.size + 1, 0, none⟩ = some (.slice (some ⟨gr, 0, none⟩) L cr) ∧ W1.cell? ⟨w.heap.size + 2, 0, none⟩ = some (.int .i64 j))) (by kernel_rfl) ⟨r1, hc2, r3, r4⟩ (fun hHeld => ?_)
      refine takeH (i := 0) (v := (.pointer (some ⟨eb, 0, none⟩))) rfl rfl (by kernel_rfl) (by kernel_rfl) (by kernel_rfl) (fun _ _ _ h => h) (by rfl) (fun W hW => by (obtain ⟨h1, h2, h3, h4⟩ := hW); go_simp) (by assumption) ?_
      simp only [List.setIfInBounds_toArray, List.set_cons_zero, List.set_cons_succ]
      refine takeH (i := 1) (v := (.pointer (some ⟨eb, 0, none⟩))) rfl rfl (by kernel_rfl) (by kernel_rfl) (by kernel_rfl) (fun _ _ _ h => h) (by rfl) (fun W hW => by (obtain ⟨h1, h2, h3, h4⟩ := hW); go_simp) (by assumption) ?_
      simp only [List.setIfInBounds_toArray, List.set_cons_zero, List.set_cons_succ]
      refine takeH (i := 2) (v := (.pointer (some ⟨eb, 2, none⟩))) rfl rfl (by kernel_rfl) (by kernel_rfl) (by kernel_rfl) (fun _ _ _ h => h) (by rfl) (fun W hW => by (obtain ⟨h1, h2, h3, h4⟩ := hW); go_simp) (by assumption) ?_
      simp only [List.setIfInBounds_toArray, List.set_cons_zero, List.set_cons_succ]
      refine takeH (i := 3) (v := (.map (some mb))) rfl rfl (by kernel_rfl) (by kernel_rfl) (by kernel_rfl) (fun _ _ _ h => h) (by rfl) (fun W hW => by (obtain ⟨h1, h2, h3, h4⟩ := hW); go_simp) (by assumption) ?_
      simp only [List.setIfInBounds_toArray, List.set_cons_zero, List.set_cons_succ]
      refine takeH (i := 4) (v := (.int .i64 j)) rfl rfl (by kernel_rfl) (by kernel_rfl) (by kernel_rfl) (fun _ _ _ h => h) (by rfl) (fun W hW => by (obtain ⟨h1, h2, h3, h4⟩ := hW); go_simp) (by assumption) ?_
      simp only [List.setIfInBounds_toArray, List.set_cons_zero, List.set_cons_succ]
      refine takeH (i := 5) (v := (.slice (some ⟨gr, 0, none⟩) L cr)) rfl rfl (by kernel_rfl) (by kernel_rfl) (by kernel_rfl) (fun _ _ _ h => h) (by rfl) (fun W hW => by (obtain ⟨h1, h2, h3, h4⟩ := hW); go_simp) (by assumption) ?_
      simp only [List.setIfInBounds_toArray, List.set_cons_zero, List.set_cons_succ]
      refine wpAnyH_ready (rs := [6]) (by kernel_rfl) (by simp) ?_
      refine (AllReadyH.cons rfl (fun K hK => ?_) AllReadyH.nil)
      go_simp
      refine hK.out _ _ ⟨q1, q2, q3, q4⟩ (fun hHeld => ?_)
      clear hK K
      try simp only [Act.put, List.setIfInBounds_toArray, List.set_cons_zero, List.set_cons_succ]
      refine wpAnyH_done (by kernel_rfl) ?_ _
      dsimp only [onlyN]
      clear hHeld r1 r3 r4 q1 q2 q3 q4 hc2 hrun
      gi_wp2
      have hK := HK.out
      rw [hz0] at hK
      refine ⟨by simp, .inl ⟨_, _, rfl, run_takeDeferred hK, ?_⟩⟩
      refine ⟨.tuple #[], by simp [results, Tryz.results68, go_sem], rfl, ?_, ?_⟩
      · rw [HQE.out]
        have hz0' : w0.heap.size = pb + 1 := hz0
        have h8 : Turn (· = pb + 1) X7 (X7.putObj (pb + 1) (.deferred none)) := ⟨rfl, rfl, rfl, by simp, fun q _ hq => World.putObj_heap_other hq⟩
        have hE' := Ech.keep (by omega) hE HN.out
        have hmgr : ¬ gr = mb := fun e => by
          obtain ⟨_, D2, h2, _⟩ := H.out.mp
          obtain ⟨es, clock, h3, _⟩ := h2
          obtain ⟨cs, h4, _⟩ := HR.out
          rw [← e, show w.heap[gr]? = _ from h4] at h3
          cases h3
        refine ⟨⟨HREB.out.turn h8 (fun (e : eb = pb + 1) => by omega), _, ?_, ((MapAt.put HM.out HIM.out j (.slice (some ⟨gr, 0, none⟩) L cr) (ls' := pivL W (keepR p R j qq)) (fun i => ?_) ?_).congr fun i hi => ?_)⟩, fun i r hr => ?_, fun i k hi hk e => ?_⟩
        · obtain ⟨es, clock, h3, rr⟩ := H7.out
          exact ⟨es, clock, h8.keep h3 (fun (e : mb = pb + 1) => by omega), rr⟩
        · rw [pivL_mem hE', pivL_mem hE, keepR_some]
          exact Or.comm
        · intro hm
          have := (pivL_mem hE).1 hm
          rw [HN.out.none] at this
          cases this
        · unfold rowVal
          dsimp only
          by_cases e : i = j
          · rw [if_pos e, if_pos e, if_pos e]
          · rw [if_neg e, if_neg e, if_neg e]
        · by_cases e : i = j
          · subst e
            have hr2 : r = qq := by
              unfold keepR at hr
              rw [if_pos rfl] at hr
              injection hr with hr
              exact hr.symm
            rw [if_pos rfl, if_pos rfl, hr2]
            exact ⟨((HRW.out.turn HI.out.t HG.out.gr).turn HT7.out hmgr).turn h8 (fun (e : gr = pb + 1) => by omega), hcr, hne⟩
          · rw [if_neg e, if_neg e]
            have hsome : (R i).isSome := by
              have := (keepR_some p R j qq i).1 (by rw [hr]; rfl)
              exact this.resolve_left e
            obtain ⟨r0, hr0⟩ := Option.isSome_iff_exists.1 hsome
            have hgi := hgl i r0 hr0
            have h1 := HI.out.row i r (by rw [keepTo_end hE j qq i e]; exact hr)
            exact ⟨(h1.turn HT7.out (fun (e2 : g i = mb) => HG.out.mb ⟨i, hsome, e2.symm⟩)).turn h8 (fun (e2 : g i = pb + 1) => by omega), (H.out.row i r0 hr0).2⟩
        · have hi' := (keepR_some p R j qq i).1 hi
          have hk' := (keepR_some p R j qq k).1 hk
          by_cases e1 : i = j
          · by_cases e2 : k = j
            · rw [e1, e2]
            · rw [if_pos e1, if_neg e2] at e
              exact absurd e.symm (hng k (hk'.resolve_left e2))
          · by_cases e2 : k = j
            · rw [if_neg e1, if_pos e2] at e
              exact absurd e (hng i (hi'.resolve_left e1))
            · rw [if_neg e1, if_neg e2] at e
              exact H.out.inj i k (hi'.resolve_left e1) (hk'.resolve_left e2) e
      · have hsz := HI.out.t.size
        have h1 : Turn (fun b => b = mb ∨ b = gr ∨ ∃ i, (R i).isSome ∧ b = g i) w X7 :=
          ((HT0.out.more fun _ _ e => .inr (.inl e)).trans (HI.out.t.more fun _ _ e => .inr (.inr e))).trans (HT7.out.more fun _ _ e => .inl e)
        have hw0 := HT0.out.size
        exact ⟨h1.os, h1.tape, h1.output, by simp; exact h1.size, fun q hq hn => (World.putObj_heap_other (by omega)).trans (h1.block q hq hn)⟩
end Go.Proofs.YtinoomcboinokaaGreat

/- linear.elimination.keep: a row that has no pivot. -/
namespace Go.Proofs.YtinoomcboinokaaGreat
open Go Go.RowKit Go.Shelf Num Go.ChangeMaps
attribute [local go_sem] Oper.semAt_some

set_option maxRecDepth 100000 in
set_option maxHeartbeats 4000000 in
theorem keep_none (p : Int) (W L N eb mb gr cr : Nat) (R : Nat → Option (Nat → Int)) (g c : Nat → Nat) (q : Nat → Int) (w : World) (hWL : W ≤ L) (hL : L ≤ 1000)
    (h : EL w p W L N eb mb R g c) (hr : RowI w gr L q) (hcr : L ≤ cr) (hj : firstNZ q W = none) :
    Calls Tryz.prog 68 #[.pointer (some ⟨eb, 0, none⟩), .slice (some ⟨gr, 0, none⟩) L cr] w fun e w' => e = .returned (.tuple #[]) ∧ Below w.heap.size w w' := by
  obtain ⟨heb, hmb, hgl⟩ := h.lt
  have hgrl := hr.lt
  have hmod := h.mod
  have hwid : w.cell? ⟨eb, 1, none⟩ = some (.int .i64 W) := h.mp.1.cell rfl
  have hv : Vec w (· < w.heap.size) (.slice (some ⟨gr, 0, none⟩) L cr) L q := hr.vec hcr _ hgrl
  obtain ⟨A', hcut, hpre⟩ := cut_pre hv hWL
  have HIX := fun (X : World) (e : Below w.heap.size w X) => Lib.hid (indexNZ_any (.slice A' W cr) W q (· < w.heap.size) X (by omega) (hpre.below (fun _ h => h) e))
  rw [hj] at HIX
  change ∀ X, Below w.heap.size w X → Hid (Calls _ _ _ X fun e w' => e = .returned (.int .i64 (-1 : Int)) ∧ w' = X) at HIX
  refine (callsIn_wide (n := 9)).1 ?_
  refine callsIn_of_wp_marks Tryz.func68 rfl trivial ?_ rfl
  simp only [Tryz.ntmps68, List.size_toArray, List.length_cons, List.length_nil, Nat.reduceAdd, Nat.reduceSub, Array.replicate_succ, Array.replicate_zero, List.push_toArray, List.append_toArray, List.nil_append, List.cons_append]
  have H := Lib.hid h
  have HR := Lib.hid hr
  clear h hr hv hpre
  gi_wp2
  have hb2 : Below w.heap.size w ((w.alloc (.cells #[.pointer (some ⟨eb, 0, none⟩)] 65)).alloc (.cells #[.slice (some ⟨gr, 0, none⟩) L cr] 22)) := ((Below.refl _ w).alloc (Nat.le_refl _) _).alloc (by simp) _
  have hs2 : Boxed ((w.alloc (.cells #[.pointer (some ⟨eb, 0, none⟩)] 65)).alloc (.cells #[.slice (some ⟨gr, 0, none⟩) L cr] 22)) w.heap.size 65 (.pointer (some ⟨eb, 0, none⟩)) := (Boxed.new w _ _).alloc _
  have hx2 : Boxed ((w.alloc (.cells #[.pointer (some ⟨eb, 0, none⟩)] 65)).alloc (.cells #[.slice (some ⟨gr, 0, none⟩) L cr] 22)) (w.heap.size + 1) 22 (.slice (some ⟨gr, 0, none⟩) L cr) := by
    have := Boxed.new (w.alloc (.cells #[.pointer (some ⟨eb, 0, none⟩)] 65)) 22 (.slice (some ⟨gr, 0, none⟩) L cr); rw [World.size_alloc] at this; exact this
  have hz2 : ((w.alloc (.cells #[.pointer (some ⟨eb, 0, none⟩)] 65)).alloc (.cells #[.slice (some ⟨gr, 0, none⟩) L cr] 22)).heap.size = w.heap.size + 2 := by simp
  generalize (w.alloc (.cells #[.pointer (some ⟨eb, 0, none⟩)] 65)).alloc (.cells #[.slice (some ⟨gr, 0, none⟩) L cr] 22) = w2 at hb2 hs2 hx2 hz2 ⊢
  refine wpIn_onlyN ?_
  refine wp_region_held_drew (S := (fun W1 => W1.cell? ⟨w.heap.size, 0, none⟩ = some (.pointer (some ⟨eb, 0, none⟩)) ∧ W1.cell? ⟨eb, 1, none⟩ = some (.int .i64 W) ∧ W1.cell? ⟨w.heap.size + 1, 0, none⟩ = some (.slice (some ⟨gr, 0, none⟩) L cr))) (by kernel_rfl) ⟨hs2.cell, (hb2.cell (p := ⟨eb, 1, none⟩) heb).trans hwid, hx2.cell⟩ (fun hHeld => ?_)
  have hb2d : Below w.heap.size w w2.drew := ⟨hb2.os, hb2.tape, hb2.output, hb2.size, hb2.block⟩
  have hs2d : Boxed w2.drew w.heap.size 65 (.pointer (some ⟨eb, 0, none⟩)) := hs2
  have hx2d : Boxed w2.drew (w.heap.size + 1) 22 (.slice (some ⟨gr, 0, none⟩) L cr) := hx2
  have hz2d : w2.drew.heap.size = w.heap.size + 2 := hz2
  clear hb2 hs2 hx2 hz2
  generalize w2.drew = X at hb2d hs2d hx2d hz2d hHeld ⊢
  refine takeH (i := 0) (v := (.slice (some ⟨gr, 0, none⟩) L cr)) rfl rfl (by kernel_rfl) (by kernel_rfl) (by kernel_rfl) (fun _ _ _ h => h) (by rfl) (fun W hW => by (obtain ⟨h1, h2, h3⟩ := hW); go_simp) (by assumption) ?_
  simp only [List.setIfInBounds_toArray, List.set_cons_zero, List.set_cons_succ]
  refine takeH (i := 1) (v := (.pointer (some ⟨eb, 0, none⟩))) rfl rfl (by kernel_rfl) (by kernel_rfl) (by kernel_rfl) (fun _ _ _ h => h) (by rfl) (fun W hW => by (obtain ⟨h1, h2, h3⟩ := hW); go_simp) (by assumption) ?_
  simp only [List.setIfInBounds_toArray, List.set_cons_zero, List.set_cons_succ]
  refine takeH (i := 2) (v := (.pointer (some ⟨eb, 0, none⟩))) rfl rfl (by kernel_rfl) (by kernel_rfl) (by kernel_rfl) (fun _ _ _ h => h) (by rfl) (fun W hW => by (obtain ⟨h1, h2, h3⟩ := hW); go_simp) (by assumption) ?_
  simp only [List.setIfInBounds_toArray, List.set_cons_zero, List.set_cons_succ]
  refine takeH (i := 3) (v := (.pointer (some ⟨eb, 1, none⟩))) rfl rfl (by kernel_rfl) (by kernel_rfl) (by kernel_rfl) (fun _ _ _ h => h) (by rfl) (fun W hW => by (obtain ⟨h1, h2, h3⟩ := hW); go_simp) (by assumption) ?_
  simp only [List.setIfInBounds_toArray, List.set_cons_zero, List.set_cons_succ]
  refine takeH (i := 4) (v := (.int .i64 W)) rfl rfl (by kernel_rfl) (by kernel_rfl) (by kernel_rfl) (fun _ _ _ h => h) (by rfl) (fun W hW => by (obtain ⟨h1, h2, h3⟩ := hW); go_simp) (by assumption) ?_
  simp only [List.setIfInBounds_toArray, List.set_cons_zero, List.set_cons_succ]
  refine takeH (i := 5) (v := (.slice A' W cr)) rfl rfl (by kernel_rfl) (by kernel_rfl) (by kernel_rfl) (fun _ _ _ h => h) (by rfl) (fun W hW => by (obtain ⟨h1, h2, h3⟩ := hW); go_simp) (by assumption) ?_
  simp only [List.setIfInBounds_toArray, List.set_cons_zero, List.set_cons_succ]
  have HS3 := Lib.hid (fun (o : Obj) => (show (X.alloc o).cell? ⟨w.heap.size, 0, none⟩ = some (.pointer (some ⟨eb, 0, none⟩)) ∧ (X.alloc o).cell? ⟨eb, 1, none⟩ = some (.int .i64 W) ∧ (X.alloc o).cell? ⟨w.heap.size + 1, 0, none⟩ = some (.slice (some ⟨gr, 0, none⟩) L cr) from
    ⟨(hs2d.alloc o).cell, (World.cell?_alloc_lt X o ⟨eb, 1, none⟩ (by show eb < X.heap.size; omega)).trans hHeld.2.1, (hx2d.alloc o).cell⟩))
  refine wpAnyH_end #[.pointer (some ⟨eb, 0, none⟩), .slice (some ⟨gr, 0, none⟩) L cr, .pointer (some ⟨w.heap.size, 0, none⟩), .pointer (some ⟨w.heap.size + 1, 0, none⟩), .pointer (some ⟨X.heap.size, 0, none⟩), undef, undef, .slice (some ⟨gr, 0, none⟩) L cr, .pointer (some ⟨eb, 0, none⟩), .pointer (some ⟨eb, 0, none⟩), .pointer (some ⟨eb, 1, none⟩), .int .i64 W, .slice A' W cr, .int .i64 (-1),
    undef, undef, undef, undef, undef, undef, undef, undef, undef, undef, undef, undef, undef, undef, undef, undef, undef, undef, undef, undef, undef, undef, undef, undef, undef, undef, undef, undef, undef, undef, undef, undef, undef] [] (X.alloc (.cells #[.int .i64 (-1)] 3)) ?rest ?walk
  case walk =>
    intro hend
    refine wpAnyH_ready (rs := [6, 7]) (by kernel_rfl) (by simp) ?_
    refine (AllReadyH.cons rfl (fun K hK => ?_) (AllReadyH.cons rfl (fun K hK => ?_) AllReadyH.nil))
    · go_simp
      refine (HIX X hb2d).out.mono ?_
      rintro e w' ⟨rfl, rfl⟩
      dsimp only
      refine hK.out _ _ hHeld (fun hHeld => ?_)
      clear hK K
      try simp only [Act.put, List.setIfInBounds_toArray, List.set_cons_zero, List.set_cons_succ]
      refine wpAnyH_ready (rs := [7]) (by kernel_rfl) (by simp) ?_
      refine (AllReadyH.cons rfl (fun K hK => ?_) AllReadyH.nil)
      go_simp
      refine hK.out _ _ (HS3.out _) (fun hHeld => ?_)
      clear hK K
      try simp only [Act.put, List.setIfInBounds_toArray, List.set_cons_zero, List.set_cons_succ]
      refine wpAnyH_ready (rs := [8]) (by kernel_rfl) (by simp) ?_
      refine (AllReadyH.cons rfl (fun K hK => ?_) AllReadyH.nil)
      go_simp
      refine hK.out _ _ (HS3.out _) (fun hHeld => ?_)
      clear hK K
      try simp only [Act.put, List.setIfInBounds_toArray, List.set_cons_zero, List.set_cons_succ]
      refine wpAnyH_done (by kernel_rfl) ?_ _
      rw [hz2d] at hend
      exact hend
    · go_simp
      refine hK.out _ _ (HS3.out _) (fun hHeld => ?_)
      clear hK K
      try simp only [Act.put, List.setIfInBounds_toArray, List.set_cons_zero, List.set_cons_succ]
      refine wpAnyH_ready (rs := [6]) (by kernel_rfl) (by simp) ?_
      refine (AllReadyH.cons rfl (fun K hK => ?_) AllReadyH.nil)
      go_simp
      refine (HIX _ (hb2d.alloc hb2d.size _)).out.mono ?_
      rintro e w' ⟨rfl, rfl⟩
      dsimp only
      refine hK.out _ _ (HS3.out _) (fun hHeld => ?_)
      clear hK K
      try simp only [Act.put, List.setIfInBounds_toArray, List.set_cons_zero, List.set_cons_succ]
      refine wpAnyH_ready (rs := [8]) (by kernel_rfl) (by simp) ?_
      refine (AllReadyH.cons rfl (fun K hK => ?_) AllReadyH.nil)
      go_simp
      refine hK.out _ _ (HS3.out _) (fun hHeld => ?_)
      clear hK K
      try simp only [Act.put, List.setIfInBounds_toArray, List.set_cons_zero, List.set_cons_succ]
      refine wpAnyH_done (by kernel_rfl) ?_ _
      rw [hz2d] at hend
      exact hend
  case rest =>
    have hb3 : Below w.heap.size w (X.alloc (.cells #[.int .i64 (-1)] 3)) := hb2d.alloc hb2d.size _
    have hj3 : Boxed (X.alloc (.cells #[.int .i64 (-1)] 3)) (w.heap.size + 2) 3 (.int .i64 (-1)) := by have := Boxed.new X 3 (.int .i64 (-1)); rwa [hz2d] at this
    dsimp only [onlyN]
    rw [hz2d]
    clear hHeld HS3 hb2d hs2d hx2d hz2d HIX hwid hcut
    generalize X.alloc (.cells #[.int .i64 (-1)] 3) = w3 at hb3 hj3 ⊢
    have hjc := hj3.cell
    gi_wp2
    refine ⟨.tuple #[], by simp [results, Tryz.results68, go_sem], rfl, hb3⟩
end Go.Proofs.YtinoomcboinokaaGreat
