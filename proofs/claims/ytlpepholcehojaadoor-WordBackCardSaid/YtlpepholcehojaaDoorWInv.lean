/- word.inverse: the inverse word, as it stands. -/
import Derived.Test.YtlpepholcehojaaDoorWIter
import Derived.RangeFuncNested
namespace Go.Proofs.YtlpepholcehojaaDoor
open Go Go.RowKit Go.Shelf
attribute [local go_sem] Oper.semAt_some

theorem back_inv {zs : List Int} (hr : Rng zs) : (upto (backF zs) zs.length).map (fun x => IntKind.i64.wrap (-x.2)) = winv zs := by
  apply List.ext_getElem
  · simp [upto, winv]
  · intro i h1 h2
    simp [upto] at h1
    have h3 : zs.length - 1 - i < zs.length := by omega
    have h4 := wrap_nlet (hr.at h3)
    simp [List.getD_eq_getElem?_getD, h3] at h4
    simp [upto, backF, winv, List.getD_eq_getElem?_getD, h3, h4]

set_option maxRecDepth 100000 in
set_option maxHeartbeats 1000000 in
theorem inverse_any (v : Value) (zs : List Int) (w : World) (hl : zs.length ≤ 1000000000) (hr : Rng zs) (hv : Ints w w.heap.size v zs) :
    Calls Tryd.prog 20 #[v] w fun e w' => ∃ r, e = .returned r ∧ OwnsI w' w.heap.size r (winv zs) ∧ Below w.heap.size w w' := by
  obtain ⟨i0, hi, hz0, hz1, hz2⟩ := info_parts info3'
  obtain ⟨A, c, rfl, h⟩ := hv
  have hmk := make_cap zs.length (by omega)
  refine (callsIn_wide (n := 3)).1 ?_
  refine callsIn_of_wp_marks Tryd.func20 rfl trivial ?_ rfl
  simp only [Tryd.ntmps20, List.size_toArray, List.length_cons, List.length_nil, Nat.reduceAdd, Nat.reduceSub, Array.replicate_succ, Array.replicate_zero, List.push_toArray, List.append_toArray, List.nil_append, List.cons_append]
  gi_wp2_with fail
  refine ⟨trivial, (backward_in Fence.wide 2 trivial rfl _ _ _ _).mono ?_⟩
  rintro e w2 ⟨rfl, rfl⟩
  gi_wp2_with fail
  obtain ⟨W0, hW0⟩ : ∃ W0, ((w.alloc (.cells (zeroCells zs.length) 3)).alloc (.cells #[.slice (some ⟨w.heap.size, 0, none⟩) 0 zs.length] 24)).alloc (.cells #[.slice A zs.length c] 24) = W0 := ⟨_, rfl⟩
  have hzW : W0.heap.size = w.heap.size + 3 := by rw [← hW0]; simp
  have hB0 : Below w.heap.size w W0 := by
    rw [← hW0]; exact (((Below.refl _ w).alloc (Nat.le_refl _) _).alloc (by simp) _).alloc (by simp; omega) _
  have bV : Boxed W0 (w.heap.size + 1) 24 (.slice (some ⟨w.heap.size, 0, none⟩) 0 zs.length) := by
    have := Boxed.new (w.alloc (.cells (zeroCells zs.length) 3)) 24 (.slice (some ⟨w.heap.size, 0, none⟩) 0 zs.length)
    rw [World.size_alloc] at this
    rw [← hW0]; exact this.alloc _
  have bS : Boxed W0 (w.heap.size + 2) 24 (.slice A zs.length c) := by
    have := Boxed.new ((w.alloc (.cells (zeroCells zs.length) 3)).alloc (.cells #[.slice (some ⟨w.heap.size, 0, none⟩) 0 zs.length] 24)) 24 (.slice A zs.length c)
    rw [World.size_alloc, World.size_alloc] at this
    rw [← hW0]; exact this
  have hO0 : W0.ownsRow w.heap.size 3 1 (.slice (some ⟨w.heap.size, 0, none⟩) 0 zs.length) 0 (icells []) := by
    rw [← hW0]; exact World.ownsRow.alloc (World.ownsRow.alloc (made_owns w zs.length _ (Nat.le_refl _) (by omega)) _) _
  have hA : 0 < zs.length → ∃ b o, A = some ⟨b, o, none⟩ ∧ b < W0.heap.size ∧ (b < w.heap.size ∨ b = w.heap.size + 2) ∧ ∀ j, j < zs.length → W0.cell? ⟨b, o + j, none⟩ = some (.int .i64 (zs.getD j 0)) := fun h0 => by
    obtain ⟨b, o, e, hb, hc⟩ := h h0
    exact ⟨b, o, e, by omega, .inl hb, fun j hj => (hB0.cell (p := ⟨b, o + j, none⟩) hb).trans (hc j hj)⟩
  rw [hW0]
  have HR := Lib.hid hr
  clear hW0 h hr hmk
  refine wpIn_rangeFunc_ownF rfl (by omega) (gf := 47) (lb := #[.pointer (some ⟨w.heap.size + 2, 0, none⟩)]) rfl trivial (enters_of Tryd.func47 (by kernel_rfl) rfl)
    (backward_seq Fence.wide 2 trivial rfl (by omega) (w.heap.size + 2) A c zs (fun k => k < w.heap.size ∨ k = w.heap.size + 2) W0 (by omega) (by omega) (.inr rfl) bS hA) KpC.trans (KpC.put _ _) (Below.refl _ _) (fun _ => rfl)
    (fun (pre : List (Int × Int)) W => (∃ v, Boxed W (w.heap.size + 1) 24 v ∧ W.ownsRow w.heap.size 3 1 v pre.length (icells (pre.map fun x => IntKind.i64.wrap (-x.2))) ∧ True) ∧ Boxed W (w.heap.size + 2) 24 (.slice A zs.length c) ∧ Below w.heap.size w W)
    (fun _ _ _ => False)
    (OwnFrom.and (Own.from (holdsRow_own w.heap.size (w.heap.size + 1) 24 3 1 (fun (pre : List (Int × Int)) => pre.length) (fun pre => icells (pre.map fun x => IntKind.i64.wrap (-x.2))) (fun _ _ => True)) _) (OwnFrom.and (Own.from (boxed_own (w.heap.size + 2) 24 (fun _ => .slice A zs.length c)) _) (ownFrom_below (Nat.le_refl _) (by omega))))
    (fun _ _ _ _ _ hs _ _ => hs)
    ⟨⟨_, bV, hO0, trivial⟩, bS, hB0⟩
    (fun x => { tmps := #[.slice A zs.length c, undef, .slice none 0 0, .pointer (some ⟨w.heap.size + 1, 0, none⟩), undef, .int .i64 x.2, .slice A zs.length c, .int .i64 zs.length, .slice (some ⟨w.heap.size, 0, none⟩) 0 zs.length, .slice A zs.length c,
      .func (.func 47) #[] #[.pointer (some ⟨w.heap.size + 2, 0, none⟩)], .int .i64 x.1, .int .i64 x.2, undef, undef, undef, undef, undef, undef], defers := [] }) ?assign ?body ?done ?stop
  case assign =>
    intro l x W K hK
    dsimp only [encP]
    gi_wp2
    exact hK
  case body =>
    rintro l pre x W ⟨⟨v, hV, hO, -⟩, hS, hB⟩ hlt
    have hlen : pre.length ≤ 1000000000 := by omega
    have hbc := hV.cell
    have hW := hB.size
    have HV := Lib.hid hV
    have HO := Lib.hid hO
    have HS := Lib.hid hS
    have HB := Lib.hid hB
    have hsn : icells ((pre ++ [x]).map fun x => IntKind.i64.wrap (-x.2)) = icells (pre.map fun x => IntKind.i64.wrap (-x.2)) ++ [.int .i64 (IntKind.i64.wrap (-x.2))] := by simp [icells]
    have HN := Lib.hid hsn
    clear hV hS hB bV bS hA hlt hsn hO0
    generalize icells (pre.map fun x => IntKind.i64.wrap (-x.2)) = cs at hO HO HN
    generalize hy : IntKind.i64.wrap (-x.2) = y at HN
    gi_wp2_with (gi_at_builtin; refine wpListIn_append_own _ rfl (.tmp 13) (.tmp 16) 24 rfl w.heap.size 3 i0 (.int .i64 0) 1 8 Tryd.underlying24 hi hz0 hz1 hz2 rfl (by decide) v pre.length cs rfl (hO.alloc _) ⟨W.heap.size, 0, none⟩ 1 1 [.int .i64 y] rfl rfl (cell_one_new _ _ _) (by simp [Value.oneCell']) (by unfold maxLen; omega) (by omega) (by simp; omega) ?_; intro v' w3 hown hgrow _; obtain ⟨g', cap', rfl⟩ := own_form hown; obtain ⟨b1, b2, b3, b4, b5⟩ := Boxed.appended HV.out (by decide) hO hW (by omega) hown hgrow; have hbc3 := b1.cell; have hbf3 := b1.frozen; have HX := Lib.hid (And.intro b2 (And.intro b3 (And.intro b4 b5))); have HG := Lib.hid hgrow; clear hown hgrow b1 b2 b3 b4 b5 hbc)
    obtain ⟨x2, x3, x4, x5⟩ := HX.out
    have hS3 : Boxed w3 (w.heap.size + 2) 24 (.slice A zs.length c) := (HS.out.alloc _).kept HG.out (HS.out.not_row (by decide) HO.out)
    refine ⟨x4, ?_, ⟨_, x2, ?_, trivial⟩, hS3.kept (grownBy_setCell' _ _ _) (by simp), HB.out.trans x5⟩
    · have h1 : KpC (fun k => k < w.heap.size ∨ k = w.heap.size + 2) W (W.alloc (.cells #[.int .i64 y] 3)) := KpC.grown (row := none) (World.grownBy_alloc _ _ _) (fun r e => by cases e)
      have h2 : KpC (fun k => k < w.heap.size ∨ k = w.heap.size + 2) (W.alloc (.cells #[.int .i64 y] 3)) w3 := KpC.grown HG.out (fun r e h => by
        rcases h with h | h
        · have := (World.ownsRow.lt HO.out r e).1; omega
        · subst h; exact HS.out.not_row (by decide) HO.out e.symm)
      have h3 : KpC (fun k => k < w.heap.size ∨ k = w.heap.size + 2) w3 (w3.setCell ⟨w.heap.size + 1, 0, none⟩ (.slice (some ⟨g', 0, none⟩) (pre.length + 1) cap')) := KpC.grown (grownBy_setCell' _ _ _) (fun r e h => by
        injection e with e; omega)
      exact (h1.trans h2).trans h3
    · rw [HN.out]; simpa using x3
  case done =>
    rintro D ys W hD rfl ⟨⟨v, hV, hO, -⟩, hS, hB⟩ hK
    have hc := hV.cell
    have HO := Lib.hid hO
    have HB := Lib.hid hB
    have HK := Lib.hid hK
    clear hV hO hS hB bV bS hA hO0
    gi_wp2
    refine ⟨by simp, .inl ⟨_, _, rfl, run_takeDeferred HK.out, ?_⟩⟩
    refine ⟨_, results_tmp rfl _ _ _, _, rfl, ?_, HB.out.trans (belowK_b (w := w) (Nat.le_refl _) W D _ _ (by omega) HK.out rfl rfl)⟩
    have h1 := HO.out
    rw [upto_length, back_inv HR.out] at h1
    have h2 := h1.kept (grownBy_putObj' W D (.deferred none)) (by
      cases e : v.ownBlock with
      | none => exact .inl rfl
      | some g => exact .inr (fun e' => by
          injection e' with e'
          subst e'
          rcases h1.2 with ⟨rfl, _⟩ | ⟨g', cap, cur, rfl, hb, hg, _⟩
          · simp [Value.ownBlock] at e
          · simp [Value.ownBlock] at e; subst e
            rw [HK.out] at hg; cases hg))
    unfold OwnsI
    rw [winv_length]
    exact h2
  case stop =>
    rintro D c pre W _ _ h _
    exact h.elim
end Go.Proofs.YtlpepholcehojaaDoor
