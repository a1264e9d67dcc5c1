/- linear.elimination.keep: a row that has no pivot. -/
import Derived.Test.YtinoomcboinokaaLKeep
namespace Go.Proofs.Ytinoomcboinokaa
open Go Go.RowKit Go.Shelf Num Go.ChangeMaps
attribute [local go_sem] Oper.semAt_some

set_option maxRecDepth 100000 in
set_option maxHeartbeats 4000000 in
theorem keep_none (p : Int) (W L N eb mb gr cr : Nat) (R : Nat → Option (Nat → Int)) (g c : Nat → Nat) (q : Nat → Int) (w : World) (hWL : W ≤ L) (hL : L ≤ 1000)
    (h : EL w p W L N eb mb R g c) (hr : RowI w gr L q) (hcr : L ≤ cr) (hj : firstNZ q W = none) :
    Calls Try.prog 37 #[.pointer (some ⟨eb, 0, none⟩), .slice (some ⟨gr, 0, none⟩) L cr] w fun e w' => e = .returned (.tuple #[]) ∧ Below w.heap.size w w' := by
  obtain ⟨heb, hmb, hgl⟩ := h.lt
  have hgrl := hr.lt
  have hmod := h.mod
  have hwid : w.cell? ⟨eb, 1, none⟩ = some (.int .i64 W) := h.mp.1.cell rfl
  have hv : Vec w (· < w.heap.size) (.slice (some ⟨gr, 0, none⟩) L cr) L q := hr.vec hcr _ hgrl
  obtain ⟨A', hcut, hpre⟩ := cut_pre hv hWL
  have HIX := fun (X : World) (e : Below w.heap.size w X) => Lib.hid (indexNZ_any (.slice A' W cr) W q (· < w.heap.size) X (by omega) (hpre.below (fun _ h => h) e))
  rw [hj] at HIX
  change ∀ X, Below w.heap.size w X → Hid (Calls _ _ _ X fun e w' => e = .returned (.int .i64 (-1 : Int)) ∧ w' = X) at HIX
  refine (callsIn_wide (n := 9)).1 ?_
  refine callsIn_of_wp_marks Try.func37 rfl trivial ?_ rfl
  simp only [Try.ntmps37, List.size_toArray, List.length_cons, List.length_nil, Nat.reduceAdd, Nat.reduceSub, Array.replicate_succ, Array.replicate_zero, List.push_toArray, List.append_toArray, List.nil_append, List.cons_append]
  have H := Lib.hid h
  have HR := Lib.hid hr
  clear h hr hv hpre
  gi_wp2
  have hb2 : Below w.heap.size w ((w.alloc (.cells #[.pointer (some ⟨eb, 0, none⟩)] 52)).alloc (.cells #[.slice (some ⟨gr, 0, none⟩) L cr] 22)) := ((Below.refl _ w).alloc (Nat.le_refl _) _).alloc (by simp) _
  have hs2 : Boxed ((w.alloc (.cells #[.pointer (some ⟨eb, 0, none⟩)] 52)).alloc (.cells #[.slice (some ⟨gr, 0, none⟩) L cr] 22)) w.heap.size 52 (.pointer (some ⟨eb, 0, none⟩)) := (Boxed.new w _ _).alloc _
  have hx2 : Boxed ((w.alloc (.cells #[.pointer (some ⟨eb, 0, none⟩)] 52)).alloc (.cells #[.slice (some ⟨gr, 0, none⟩) L cr] 22)) (w.heap.size + 1) 22 (.slice (some ⟨gr, 0, none⟩) L cr) := by
    have := Boxed.new (w.alloc (.cells #[.pointer (some ⟨eb, 0, none⟩)] 52)) 22 (.slice (some ⟨gr, 0, none⟩) L cr); rw [World.size_alloc] at this; exact this
  have hz2 : ((w.alloc (.cells #[.pointer (some ⟨eb, 0, none⟩)] 52)).alloc (.cells #[.slice (some ⟨gr, 0, none⟩) L cr] 22)).heap.size = w.heap.size + 2 := by simp
  generalize (w.alloc (.cells #[.pointer (some ⟨eb, 0, none⟩)] 52)).alloc (.cells #[.slice (some ⟨gr, 0, none⟩) L cr] 22) = w2 at hb2 hs2 hx2 hz2 ⊢
  refine wpIn_onlyN ?_
  refine wp_region_held_drew (S := (fun W1 => W1.cell? ⟨w.heap.size, 0, none⟩ = some (.pointer (some ⟨eb, 0, none⟩)) ∧ W1.cell? ⟨eb, 1, none⟩ = some (.int .i64 W) ∧ W1.cell? ⟨w.heap.size + 1, 0, none⟩ = some (.slice (some ⟨gr, 0, none⟩) L cr))) (by kernel_rfl) ⟨hs2.cell, (hb2.cell (p := ⟨eb, 1, none⟩) heb).trans hwid, hx2.cell⟩ (fun hHeld => ?_)
  have hb2d : Below w.heap.size w w2.drew := ⟨hb2.os, hb2.tape, hb2.output, hb2.size, hb2.block⟩
  have hs2d : Boxed w2.drew w.heap.size 52 (.pointer (some ⟨eb, 0, none⟩)) := hs2
  have hx2d : Boxed w2.drew (w.heap.size + 1) 22 (.slice (some ⟨gr, 0, none⟩) L cr) := hx2
  have hz2d : w2.drew.heap.size = w.heap.size + 2 := hz2
  clear hb2 hs2 hx2 hz2
  generalize w2.drew = X at hb2d hs2d hx2d hz2d hHeld ⊢
  refine takeH (i := 0) (v := (.slice (some ⟨gr, 0, none⟩) L cr)) rfl rfl (by kernel_rfl) (by kernel_rfl) (by kernel_rfl) (fun _ _ _ h => h) (by rfl) (fun W hW => by (obtain ⟨h1, h2, h3⟩ := hW); go_simp) (by assumption) ?_
  simp only [List.setIfInBounds_toArray, List.set_cons_zero, List.set_cons_succ]
  refine takeH (i := 1) (v := (.pointer (some ⟨eb, 0, none⟩))) rfl rfl (by kernel_rfl) (by kernel_rfl) (by kernel_rfl) (fun _ _ _ h => h) (by rfl) (fun W hW => by (obtain ⟨h1, h2, h3⟩ := hW); go_simp) (by assumption) ?_
  simp only [List.setIfInBounds_toArray, List.set_cons_zero, List.set_cons_succ]
  refine takeH (i := 2) (v := (.pointer (some ⟨eb, 0, none⟩))) rfl rfl (by kernel_rfl) (by kernel_rfl) (by kernel_rfl) (fun _ _ _ h => h) (by rfl) (fun W hW => by (obtain ⟨h1, h2, h3⟩ := hW); go_simp) (by assumption) ?_
  simp only [List.setIfInBounds_toArray, List.set_cons_zero, List.set_cons_succ]
  refine takeH (i := 3) (v := (.pointer (some ⟨eb, 1, none⟩))) rfl rfl (by kernel_rfl) (by kernel_rfl) (by kernel_rfl) (fun _ _ _ h => h) (by rfl) (fun W hW => by (obtain ⟨h1, h2, h3⟩ := hW); go_simp) (by assumption) ?_
  simp only [List.setIfInBounds_toArray, List.set_cons_zero, List.set_cons_succ]
  refine takeH (i := 4) (v := (.int .i64 W)) rfl rfl (by kernel_rfl) (by kernel_rfl) (by kernel_rfl) (fun _ _ _ h => h) (by rfl) (fun W hW => by (obtain ⟨h1, h2, h3⟩ := hW); go_simp) (by assumption) ?_
  simp only [List.setIfInBounds_toArray, List.set_cons_zero, List.set_cons_succ]
  refine takeH (i := 5) (v := (.slice A' W cr)) rfl rfl (by kernel_rfl) (by kernel_rfl) (by kernel_rfl) (fun _ _ _ h => h) (by rfl) (fun W hW => by (obtain ⟨h1, h2, h3⟩ := hW); go_simp) (by assumption) ?_
  simp only [List.setIfInBounds_toArray, List.set_cons_zero, List.set_cons_succ]
  have HS3 := Lib.hid (fun (o : Obj) => (show (X.alloc o).cell? ⟨w.heap.size, 0, none⟩ = some (.pointer (some ⟨eb, 0, none⟩)) ∧ (X.alloc o).cell? ⟨eb, 1, none⟩ = some (.int .i64 W) ∧ (X.alloc o).cell? ⟨w.heap.size + 1, 0, none⟩ = some (.slice (some ⟨gr, 0, none⟩) L cr) from
    ⟨(hs2d.alloc o).cell, (World.cell?_alloc_lt X o ⟨eb, 1, none⟩ (by show eb < X.heap.size; omega)).trans hHeld.2.1, (hx2d.alloc o).cell⟩))
  refine wpAnyH_end #[.pointer (some ⟨eb, 0, none⟩), .slice (some ⟨gr, 0, none⟩) L cr, .pointer (some ⟨w.heap.size, 0, none⟩), .pointer (some ⟨w.heap.size + 1, 0, none⟩), .pointer (some ⟨X.heap.size, 0, none⟩), undef, undef, .slice (some ⟨gr, 0, none⟩) L cr, .pointer (some ⟨eb, 0, none⟩), .pointer (some ⟨eb, 0, none⟩), .pointer (some ⟨eb, 1, none⟩), .int .i64 W, .slice A' W cr, .int .i64 (-1),
    undef, undef, undef, undef, undef, undef, undef, undef, undef, undef, undef, undef, undef, undef, undef, undef, undef, undef, undef, undef, undef, undef, undef, undef, undef, undef, undef, undef, undef, undef, undef, undef, undef] [] (X.alloc (.cells #[.int .i64 (-1)] 3)) ?rest ?walk
  case walk =>
    intro hend
    refine wpAnyH_ready (rs := [6, 7]) (by kernel_rfl) (by simp) ?_
    refine (AllReadyH.cons rfl (fun K hK => ?_) (AllReadyH.cons rfl (fun K hK => ?_) AllReadyH.nil))
    · go_simp
      refine (HIX X hb2d).out.mono ?_
      rintro e w' ⟨rfl, rfl⟩
      dsimp only
      refine hK.out _ _ hHeld (fun hHeld => ?_)
      clear hK K
      try simp only [Act.put, List.setIfInBounds_toArray, List.set_cons_zero, List.set_cons_succ]
      refine wpAnyH_ready (rs := [7]) (by kernel_rfl) (by simp) ?_
      refine (AllReadyH.cons rfl (fun K hK => ?_) AllReadyH.nil)
      go_simp
      refine hK.out _ _ (HS3.out _) (fun hHeld => ?_)
      clear hK K
      try simp only [Act.put, List.setIfInBounds_toArray, List.set_cons_zero, List.set_cons_succ]
      refine wpAnyH_ready (rs := [8]) (by kernel_rfl) (by simp) ?_
      refine (AllReadyH.cons rfl (fun K hK => ?_) AllReadyH.nil)
      go_simp
      refine hK.out _ _ (HS3.out _) (fun hHeld => ?_)
      clear hK K
      try simp only [Act.put, List.setIfInBounds_toArray, List.set_cons_zero, List.set_cons_succ]
      refine wpAnyH_done (by kernel_rfl) ?_ _
      rw [hz2d] at hend
      exact hend
    · go_simp
      refine hK.out _ _ (HS3.out _) (fun hHeld => ?_)
      clear hK K
      try simp only [Act.put, List.setIfInBounds_toArray, List.set_cons_zero, List.set_cons_succ]
      refine wpAnyH_ready (rs := [6]) (by kernel_rfl) (by simp) ?_
      refine (AllReadyH.cons rfl (fun K hK => ?_) AllReadyH.nil)
      go_simp
      refine (HIX _ (hb2d.alloc hb2d.size _)).out.mono ?_
      rintro e w' ⟨rfl, rfl⟩
      dsimp only
      refine hK.out _ _ (HS3.out _) (fun hHeld => ?_)
      clear hK K
      try simp only [Act.put, List.setIfInBounds_toArray, List.set_cons_zero, List.set_cons_succ]
      refine wpAnyH_ready (rs := [8]) (by kernel_rfl) (by simp) ?_
      refine (AllReadyH.cons rfl (fun K hK => ?_) AllReadyH.nil)
      go_simp
      refine hK.out _ _ (HS3.out _) (fun hHeld => ?_)
      clear hK K
      try simp only [Act.put, List.setIfInBounds_toArray, List.set_cons_zero, List.set_cons_succ]
      refine wpAnyH_done (by kernel_rfl) ?_ _
      rw [hz2d] at hend
      exact hend
  case rest =>
    have hb3 : Below w.heap.size w (X.alloc (.cells #[.int .i64 (-1)] 3)) := hb2d.alloc hb2d.size _
    have hj3 : Boxed (X.alloc (.cells #[.int .i64 (-1)] 3)) (w.heap.size + 2) 3 (.int .i64 (-1)) := by have := Boxed.new X 3 (.int .i64 (-1)); rwa [hz2d] at this
    dsimp only [onlyN]
    rw [hz2d]
    clear hHeld HS3 hb2d hs2d hx2d hz2d HIX hwid hcut
    generalize X.alloc (.cells #[.int .i64 (-1)] 3) = w3 at hb3 hj3 ⊢
    have hjc := hj3.cell
    gi_wp2
    refine ⟨.tuple #[], by simp [results, Try.results37, go_sem], rfl, hb3⟩
end Go.Proofs.Ytinoomcboinokaa
