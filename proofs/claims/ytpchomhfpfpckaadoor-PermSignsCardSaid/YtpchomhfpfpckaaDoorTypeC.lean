/- perm.Type: its loop, the sort, the reversal. -/
import Derived.Test.YtpchomhfpfpckaaDoorCyclesC
import Derived.Test.YtpchomhfpfpckaaDoorSortC
import Derived.Test.YtpchomhfpfpckaaDoorCycMath
namespace Go.Proofs.YtpchomhfpfpckaaDoor
open Go Go.RowKit
attribute [local go_sem] Oper.semAt_some

/-- The lengths of the cycles. -/
def lens (cs : List (List Int)) : List Int := cs.map fun c => (c.length : Int)
def lensV (pre : List Pt) : List Value := icells (lens (pre.map Prod.snd))
theorem lensV_snoc (pre : List Pt) (x : Pt) : lensV (pre ++ [x]) = lensV pre ++ [.int .i64 (x.2.length : Int)] := by simp [lensV, lens, icells]
theorem lensV_length (pre : List Pt) : (lensV pre).length = pre.length := by simp [lensV, lens, icells]
/-- What a function that returns a list and an error has returned. -/
def IntsErr (x : Int) (l : List Int) (w : World) (e : Ending) (w' : World) : Prop :=
  ∃ r, e = .returned (.tuple #[r, .int .i64 x]) ∧ Below w.heap.size w w' ∧ Ints w' w'.heap.size r l
theorem deferred_kept {w w' : World} {D g base n : Nat} {e : TypeId} {size cap : Nat} {xs : List Value} {ds : Option (List Deferred)} (h : w.heap[D]? = some (.deferred ds)) (hO : w.ownsRow base e size (.slice (some ⟨g, 0, none⟩) n cap) n xs) (hn : 0 < n) (hg : w.grownBy w' (some g)) : w'.heap[D]? = some (.deferred ds) := by
  refine (hg.block D (Array.getElem?_eq_some_iff.1 h).1 (fun e => ?_)).trans h
  rcases hO.2 with ⟨h0, _⟩ | ⟨g', cap', cur, hv, hb, hh, _⟩
  · cases h0
  · injection hv with e1 _ _
    injection e1 with e1
    injection e1 with e1
    injection e with e2
    rw [e2, e1, hh] at h
    cases h
theorem cycs_count' (zs : List Int) (h64 : zs.length ≤ 64) : (cycs zs).length ≤ 64 := by
  have h : ∀ k, (upTo zs k).2.length ≤ k := by
    intro k
    induction k with
    | zero => simp [upTo]
    | succ k ih =>
      rw [upTo]
      split
      · omega
      · simp; omega
  have := h zs.length
  unfold cycs
  omega
theorem upTo_one {zs : List Int} (hf : Fine zs) (h1 : 1 ≤ zs.length) (h64 : zs.length ≤ 64) : 0 < (cycs zs).length := by
  obtain ⟨_, hU2, hU3, hU4⟩ := upOk hf h64 zs.length (Nat.le_refl _)
  apply Nat.pos_of_ne_zero
  intro e
  have h := hU3 0 (by omega)
  have e2 : (upTo zs zs.length).2 = [] := List.eq_nil_of_length_eq_zero e
  rw [hU4, e2] at h
  simp at h

set_option maxRecDepth 100000 in
set_option maxHeartbeats 1000000 in
theorem Type_ok (b o c : Nat) (zs : List Int) (w : World) (hz : chk zs = 0) (hb : b < w.heap.size)
    (hc : ∀ j, j < zs.length → w.cell? ⟨b, o + j, none⟩ = some (.int .i64 (zs.getD j 0))) :
    Calls Tryd.prog 21 #[.slice (some ⟨b, o, none⟩) zs.length c] w (IntsErr 0 (srt (lens (cycs zs))).reverse w) := by
  have hv : Ints w w.heap.size (.slice (some ⟨b, o, none⟩) zs.length c) zs := ⟨_, c, rfl, fun _ => ⟨b, o, rfl, hb, hc⟩⟩
  obtain ⟨i0, hi0, hz0, hz1, hz2⟩ := info_parts info3
  obtain ⟨h1, h64, hf⟩ := chk_zero hz
  have HV := Lib.hid hv
  have HF := Lib.hid hf
  have HZ := Lib.hid hz
  clear hv hf hz
  refine (callsIn_wide (n := 3)).1 ?_
  refine callsIn_of_wp_marks Tryd.func21 rfl trivial ?_ rfl
  simp only [Tryd.ntmps21, List.size_toArray, List.length_cons, List.length_nil, Nat.reduceAdd, Nat.reduceSub, Array.replicate_succ, Array.replicate_zero, List.push_toArray, List.append_toArray, List.nil_append, List.cons_append]
  gi_wp2_with fail
  refine ⟨trivial, (callsIn_wide.2 (checks_one w.heap.size _ zs _ (by omega) (by simp) (by simp) ((HV.out.alloc (Nat.le_refl _) _).more (by simp)))).mono ?_⟩
  rw [HZ.out]
  rintro e w1 ⟨rfl, hb1⟩
  have HB := Lib.hid (((Below.refl _ w).alloc (Nat.le_refl _) _).trans (hb1.mono (by simp)))
  clear hb1
  gi_wp2_with fail
  refine ⟨trivial, (cycles_in Fence.wide 2 trivial rfl _ _ _ _).mono ?_⟩
  rintro e w2 ⟨rfl, rfl⟩
  gi_wp2_with fail
  have hb1s := HB.out.size
  have hW2 : ((w1.alloc (.cells #[.slice none 0 0] 23)).alloc (.cells #[.slice (some ⟨b, o, none⟩) zs.length c] 24)).heap.size = w1.heap.size + 2 := by simp
  have hB2 : Below w.heap.size w ((w1.alloc (.cells #[.slice none 0 0] 23)).alloc (.cells #[.slice (some ⟨b, o, none⟩) zs.length c] 24)) := (HB.out.alloc hb1s _).alloc (by simp; omega) _
  have hbx : Boxed ((w1.alloc (.cells #[.slice none 0 0] 23)).alloc (.cells #[.slice (some ⟨b, o, none⟩) zs.length c] 24)) (w1.heap.size + 1) 24 (.slice (some ⟨b, o, none⟩) zs.length c) := by
    have := Boxed.new (w1.alloc (.cells #[.slice none 0 0] 23)) 24 (.slice (some ⟨b, o, none⟩) zs.length c)
    rwa [World.size_alloc] at this
  have hbo : Boxed ((w1.alloc (.cells #[.slice none 0 0] 23)).alloc (.cells #[.slice (some ⟨b, o, none⟩) zs.length c] 24)) w1.heap.size 23 (.slice none 0 0) := (Boxed.new w1 23 (.slice none 0 0)).alloc _
  have hc2 : ∀ j, j < zs.length → ((w1.alloc (.cells #[.slice none 0 0] 23)).alloc (.cells #[.slice (some ⟨b, o, none⟩) zs.length c] 24)).cell? ⟨b, o + j, none⟩ = some (.int .i64 (zs.getD j 0)) := fun j hj => (hB2.cell (p := ⟨b, o + j, none⟩) hb).trans (hc j hj)
  refine wpIn_rangeGD rfl (by omega) (gf := 82) (lb := #[.pointer (some ⟨w1.heap.size + 1, 0, none⟩)]) rfl trivial (enters_of Tryd.func82 (by kernel_rfl) rfl)
    (iter_seqD Fence.wide 2 trivial rfl (by omega) (w1.heap.size + 1) b o c zs (fun k => k < w.heap.size ∨ k = w1.heap.size + 1) HF.out h64 _ ⟨by omega, by omega⟩ (.inr rfl) (.inl hb) hbx hc2)
    (fun _ => rfl) Hand.putObj (RowI w w1.heap.size (w1.heap.size + 1) (w1.heap.size + 2) 23 3 lensV (fun _ _ _ => True)) (by rw [hW2]; exact RowI.abides (fun _ _ _ _ _ _ _ _ _ _ => trivial))
    ⟨⟨_, hbo, id, World.ownsRow_nil _ _ _ _, fun g e => by simp [Value.ownBlock] at e, fun k h => h.elim, by omega, by omega, by omega, by omega, hB2⟩, trivial⟩
    (fun x => { tmps := #[.slice (some ⟨b, o, none⟩) zs.length c, undef, .slice none 0 0, .int .i64 0, .int .i64 0, .pointer (some ⟨w1.heap.size, 0, none⟩), x.1, .slice (some ⟨b, o, none⟩) zs.length c, .slice (some ⟨w.heap.size, 0, none⟩) 1 1, .int .i64 0, .int .i64 0, .bool false, undef, .slice (some ⟨b, o, none⟩) zs.length c, .func (.func 82) #[] #[.pointer (some ⟨w1.heap.size + 1, 0, none⟩)], x.1, undef, undef, undef, undef, undef, undef, undef, undef, undef, undef], defers := [] }) ?assign ?body ?done
  case assign =>
    intro l x W K hK
    gi_wp2
    exact hK
  case body =>
    rintro l pre ⟨vx, cl⟩ G W hI hH
    obtain ⟨hcl, hlen, hsum, hpos, _⟩ := hH.facts h64
    obtain ⟨⟨⟨A, cc, hvv, _⟩, _⟩, _⟩ := hH
    dsimp only at hvv
    obtain ⟨⟨v, hv, hnG, hO, h8, h3, h9, h4, h10, h5, h6⟩, _⟩ := hI
    subst hvv
    have hpl : (lensV pre).length ≤ 64 := by rw [lensV_length]; have := sum_ge_len _ hpos; simp at this hsum; omega
    have hbv := hv.cell
    have hbf := hv.frozen
    have HO := Lib.hid (hO.alloc (.cells #[.int .i64 (cl.length : Int)] 3))
    have HP := fun W2 v' tmp a hO2 (hg : (W.alloc tmp).grownBy W2 v.ownBlock) hat => Lib.hid (RowI.put (W2 := W2) (v' := v') (x := (Value.slice A cl.length cc, cl)) (a := a) (f := lensV) (X := fun _ _ _ => True) (G2 := fun k => G k ∧ ¬ (Value.slice A cl.length cc).ownBlock = some k) hv hnG hO h8 h3 h9 h4 h10 h5 h6 (by omega) (fun k h => h.1) hO2 (appTo_of hg hat) trivial)
    have hbs : ∀ W2 tmp, (W.alloc tmp).grownBy W2 v.ownBlock → Boxed W2 w1.heap.size 23 v := fun W2 tmp hg => (hv.alloc tmp).kept hg (fun e => (h8 _ e.symm).2.2 rfl)
    obtain ⟨Av, cv, rfl⟩ := slice_of_own hO
    have hsW : w.heap.size ≤ W.heap.size := by omega
    clear hc hc2 hbx hbo hB2 hW2 hsum hpos hO h8 h3 h4 h10 h5 h6 hnG hv
    rw [lensV_snoc] at HP
    rw [List.length_append, List.length_singleton] at HP
    generalize lensV pre = s at HO HP hpl hbv hbs
    dsimp only
    gi_wp2_with (gi_at_builtin; refine wpListIn_append_at _ rfl _ _ 23 rfl w.heap.size 3 i0 (.int .i64 0) 1 8 Tryd.underlying23 hi0 hz0 hz1 hz2 rfl (by decide) _ _ _ rfl HO.out ⟨W.heap.size, 0, none⟩ 1 1 [.int .i64 (cl.length : Int)] rfl rfl (cell_at0 _ _ _ rfl) (by simp [Value.oneCell']) (by unfold maxLen; omega) (by omega) (by simp; omega) ?_; intro v' w3 hown' hgrow hat'; have hb2 := (hbs _ _ hgrow).cell; have hf2 := (hbs _ _ hgrow).frozen; have HP2 := Lib.hid (fun a => HP w3 v' _ a hown' hgrow hat'); obtain ⟨A', c', rfl⟩ := slice_of_own hown'; clear HP hbs hown' hgrow hat')
    exact (HP2.out _).out
  case done =>
    rintro D xs G W hD hS hI hK
    obtain ⟨⟨v, hv, hnG, hO, h8, h3, h9, h4, h10, h5, h6⟩, _⟩ := hI
    have hL : lensV xs = icells (lens (cycs zs)) := by unfold lensV; rw [show xs.map Prod.snd = cycs zs from hS]
    have hpos : 0 < (lens (cycs zs)).length := by simp only [lens, List.length_map]; exact upTo_one HF.out h1 h64
    have hle : (lens (cycs zs)).length ≤ 64 := by simp only [lens, List.length_map]; exact cycs_count' zs h64
    rw [hL, show (icells (lens (cycs zs))).length = (lens (cycs zs)).length by simp [icells]] at hO
    generalize hls : lens (cycs zs) = ls at hO hpos hle
    have HLS := Lib.hid hls
    clear hls
    obtain ⟨g, cap, rfl, hg1, _⟩ := owns_form hO hpos
    have hgB : g ≠ w1.heap.size := (h8 g rfl).2.2
    have hbc := hv.cell
    have HS := Lib.hid (sort_any w.heap.size g cap ls W (by omega) hO)
    have HKs := Lib.hid (fun w' (hg : W.grownBy w' (some g)) => deferred_kept hK hO hpos hg)
    have HBs := Lib.hid (fun w' (hg : W.grownBy w' (some g)) => hv.kept hg (fun e => hgB (by injection e with e; exact e.symm)))
    have HWs := Lib.hid (fun w' (hg : W.grownBy w' (some g)) => h6.grown hg (by omega) (fun q hq => by injection hq with hq; omega))
    clear hS hc hc2 hbx hbo hO h8 h3 hL hv hK h6
    gi_wp2_with fail
    refine ⟨trivial, (callsIn_wide.2 HS.out).mono ?_⟩
    rintro e Wa ⟨rfl, hOa, hga⟩
    have hK2 := HKs.out _ hga
    have hB2' := HBs.out _ hga
    have h62 := HWs.out _ hga
    have hbc2 := hB2'.cell
    have hsl : (srt ls).length = ls.length := srt_length ls
    generalize hsr : srt ls = ls2 at hOa hsl
    have HSR := Lib.hid hsr
    rw [← hsl] at hOa hpos hle hbc2 hB2' ⊢
    clear hsl hsr
    have HS2 := Lib.hid (reverse_any w.heap.size g cap ls2 Wa (by omega) hOa)
    have HKs2 := Lib.hid (fun w' (hg : Wa.grownBy w' (some g)) => deferred_kept hK2 hOa hpos hg)
    have HBs2 := Lib.hid (fun w' (hg : Wa.grownBy w' (some g)) => hB2'.kept hg (fun e => hgB (by injection e with e; exact e.symm)))
    have hWs : W.heap.size ≤ Wa.heap.size := hga.size
    have HWs2 := Lib.hid (fun w' (hg : Wa.grownBy w' (some g)) => h62.grown hg (by omega) (fun q hq => by injection hq with hq; omega))
    clear HKs HBs HWs HS hga hK2 hB2' h62 hOa hbc
    gi_wp2_with fail
    refine ⟨trivial, (callsIn_wide.2 HS2.out).mono ?_⟩
    rintro e Wb ⟨rfl, hOb, hgb⟩
    have hK3 := HKs2.out _ hgb
    have hbc3 := (HBs2.out _ hgb).cell
    have HW3 := Lib.hid (HWs2.out _ hgb)
    have HI3 : Hid (Ints Wb Wb.heap.size (.slice (some ⟨g, 0, none⟩) ls2.length cap) ls2.reverse) := by
      have := ints_of_own (zs := ls2.reverse) hOb (by simp)
      exact this
    have hWbs : Wa.heap.size ≤ Wb.heap.size := hgb.size
    clear HKs2 HBs2 HWs2 HS2 hgb hOb hbc2
    gi_wp2_with fail
    refine ⟨by simp, .inl ⟨_, _, rfl, run_takeDeferred hK3, ?_⟩⟩
    have e3 : (srt (lens (cycs zs))).reverse = ls2.reverse := by rw [HLS.out, HSR.out]
    exact ⟨_, results_tmp2 rfl _ _ _, _, rfl, HW3.out.trans (belowK_b (w := w) (Nat.le_refl _) Wb D _ _ (by omega) hK3 rfl rfl), by rw [e3]; exact HI3.out.putObj hK3 rfl⟩

/-- The list that Type returns. -/
def typeV (zs : List Int) : List Int := if chk zs = 0 then (srt (lens (cycs zs))).reverse else []

set_option maxRecDepth 100000 in
set_option maxHeartbeats 400000 in
/-- perm.Type. -/
theorem Type_any (v : Value) (zs : List Int) (w : World) (hl : zs.length ≤ 17592186044400) (hv : Ints w w.heap.size v zs) :
    Calls Tryd.prog 21 #[v] w (IntsErr (chk zs) (typeV zs) w) := by
  by_cases hz : chk zs = 0
  · obtain ⟨h1, _, _⟩ := chk_zero hz
    obtain ⟨b, o, c, rfl, hb, hc⟩ := hv.at_ (by omega)
    rw [hz, show typeV zs = (srt (lens (cycs zs))).reverse by unfold typeV; rw [if_pos hz]]
    exact Type_ok b o c zs w hz hb hc
  · rw [show typeV zs = [] by unfold typeV; rw [if_neg hz]]
    have HV := Lib.hid hv
    obtain ⟨A, c, rfl, h⟩ := hv
    clear h
    have HC := fun W h1 h2 h3 => Lib.hid (checks_one w.heap.size (.slice A zs.length c) zs W hl h1 h2 h3)
    generalize chk zs = x at HC hz
    have hx : (x != 0) = true := by simpa using hz
    clear hz
    refine (callsIn_wide (n := 3)).1 ?_
    refine callsIn_of_wp_marks Tryd.func21 rfl trivial ?_ rfl
    simp only [Tryd.ntmps21, List.size_toArray, List.length_cons, List.length_nil, Nat.reduceAdd, Nat.reduceSub, Array.replicate_succ, Array.replicate_zero, List.push_toArray, List.append_toArray, List.nil_append, List.cons_append]
    gi_wp2_with fail
    refine ⟨trivial, (callsIn_wide.2 (HC _ (by simp) (by simp) ((HV.out.alloc (Nat.le_refl _) _).more (by simp))).out).mono ?_⟩
    rintro e w1 ⟨rfl, hb1⟩
    have HB := Lib.hid (((Below.refl _ w).alloc (Nat.le_refl _) _).trans (hb1.mono (by simp)))
    clear hb1
    gi_wp2_with fail
    exact ⟨_, results_tmp2 rfl _ _ _, .slice none 0 0, rfl, HB.out, ⟨none, 0, rfl, fun h => absurd h (by simp)⟩⟩
end Go.Proofs.YtpchomhfpfpckaaDoor
