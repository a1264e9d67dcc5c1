/- perm.Sign. -/
import Derived.Test.YtpchomhfpfpckaaDoorOrder
namespace Go.Proofs.YtpchomhfpfpckaaDoor
open Go Go.RowKit
attribute [local go_sem] Oper.semAt_some

def sgStep (s : Int) (c : List Int) : Int := if c.length % 2 = 0 then -s else s
def sgnOf (cs : List (List Int)) : Int := cs.foldl sgStep 1
theorem sgnOf_snoc (cs : List (List Int)) (c : List Int) : sgnOf (cs ++ [c]) = sgStep (sgnOf cs) c := by simp [sgnOf]
theorem sgnOf_cases (cs : List (List Int)) : sgnOf cs = 1 ∨ sgnOf cs = -1 := by
  unfold sgnOf
  have : ∀ (l : List (List Int)) s, (s = 1 ∨ s = -1) → (l.foldl sgStep s = 1 ∨ l.foldl sgStep s = -1) := by
    intro l
    induction l with
    | nil => intro s h; exact h
    | cons c l ih =>
      intro s h
      refine ih _ ?_
      unfold sgStep
      split <;> omega
  exact this cs 1 (.inl rfl)

/-- Between two rounds: the caller's own box holds what has come of the cycles so far. -/
def BoxI (w : World) (B m : Nat) (t : TypeId) (f : List (List Int) → Value) (pre : List Pt) (G : Nat → Prop) (W : World) : Prop :=
  Boxed W B t (f (pre.map Prod.snd)) ∧ ¬ G B ∧ (∀ k, G k → m ≤ k ∧ k < W.heap.size) ∧ B < m ∧ m ≤ W.heap.size ∧ Below w.heap.size w W
theorem BoxI.abides {w : World} {B m : Nat} {t : TypeId} {f : List (List Int) → Value} (hm : w.heap.size ≤ m) : AbidesG m (BoxI w B m t f) := by
  rintro s G G' A W row ⟨h1, h2, h3, h4, h5, h6⟩ hg hr hG
  have hs := hg.size
  refine ⟨h1.kept hg (fun e => ?_), fun h => ?_, fun k h => ?_, h4, by omega, h6.grown hg (by omega) (fun k e => ?_)⟩
  · rcases hr B e.symm with h | ⟨h, _⟩
    · exact h2 h
    · omega
  · rcases hG B h with h | h
    · exact h2 h
    · omega
  · rcases hG k h with h | h
    · have := h3 k h; omega
    · omega
  · rcases hr k e with h | ⟨h, _⟩
    · have := h3 k h; omega
    · omega
theorem BoxI.put {w W : World} {B m : Nat} {t : TypeId} {f : List (List Int) → Value} {pre : List Pt} {x : Pt} {G K0 : Nat → Prop} {a : Act} {v' : Value} (h : BoxI w B m t f pre G W) (hB : w.heap.size ≤ B) (hK : ¬ K0 B) (hr : f (pre.map Prod.snd ++ [x.2]) = v') :
    postG K0 G (BoxI w B m t f) (pre ++ [x]) W .normal a (W.setCell ⟨B, 0, none⟩ v') := by
  obtain ⟨h1, h2, h3, h4, h5, h6⟩ := h
  have hz : (W.setCell ⟨B, 0, none⟩ v').heap.size = W.heap.size := by simp [World.setCell]
  refine ⟨KeepG.box (A := W) (B := W) (KeepG.refl _ _ W) h1 hK h2 _, ?_, h2, fun g hg => by rw [hz]; exact h3 g hg, h4, by rw [hz]; exact h5, h6.setCell (p := ⟨B, 0, none⟩) hB _⟩
  rw [List.map_append, List.map_cons, List.map_nil, hr]
  exact h1.set _
theorem BoxI.skip {w W : World} {B m : Nat} {t : TypeId} {f : List (List Int) → Value} {pre : List Pt} {x : Pt} {G K0 : Nat → Prop} {a : Act} (h : BoxI w B m t f pre G W) (hr : f (pre.map Prod.snd ++ [x.2]) = f (pre.map Prod.snd)) :
    postG K0 G (BoxI w B m t f) (pre ++ [x]) W .normal a W := by
  obtain ⟨h1, h⟩ := h
  refine ⟨KeepG.refl _ _ W, ?_, h⟩
  rw [List.map_append, List.map_cons, List.map_nil, hr]
  exact h1

set_option maxRecDepth 100000 in
set_option maxHeartbeats 600000 in
theorem Sign_ok (b o c : Nat) (zs : List Int) (w : World) (hz : chk zs = 0) (hb : b < w.heap.size)
    (hc : ∀ j, j < zs.length → w.cell? ⟨b, o + j, none⟩ = some (.int .i64 (zs.getD j 0))) :
    Calls Tryd.prog 22 #[.slice (some ⟨b, o, none⟩) zs.length c] w (IntErr 0 (sgnOf (cycs zs)) w) := by
  have hv : Ints w w.heap.size (.slice (some ⟨b, o, none⟩) zs.length c) zs := ⟨_, c, rfl, fun _ => ⟨b, o, rfl, hb, hc⟩⟩
  obtain ⟨h1, h64, hf⟩ := chk_zero hz
  have HV := Lib.hid hv
  have HF := Lib.hid hf
  have HZ := Lib.hid hz
  clear hv hf hz
  refine (callsIn_wide (n := 3)).1 ?_
  refine callsIn_of_wp_marks Tryd.func22 rfl trivial ?_ rfl
  simp only [Tryd.ntmps22, List.size_toArray, List.length_cons, List.length_nil, Nat.reduceAdd, Nat.reduceSub, Array.replicate_succ, Array.replicate_zero, List.push_toArray, List.append_toArray, List.nil_append, List.cons_append]
  gi_wp2_with fail
  refine ⟨trivial, (callsIn_wide.2 (checks_one w.heap.size _ zs _ (by omega) (by simp) (by simp) ((HV.out.alloc (Nat.le_refl _) _).more (by simp)))).mono ?_⟩
  rw [HZ.out]
  rintro e w1 ⟨rfl, hb1⟩
  have HB := Lib.hid (((Below.refl _ w).alloc (Nat.le_refl _) _).trans (hb1.mono (by simp)))
  clear hb1
  gi_wp2_with fail
  refine ⟨trivial, (cycles_in Fence.wide 2 trivial rfl _ _ _ _).mono ?_⟩
  rintro e w2 ⟨rfl, rfl⟩
  gi_wp2_with fail
  have hb1s := HB.out.size
  have hW2 : ((w1.alloc (.cells #[.int .i64 1] 3)).alloc (.cells #[.slice (some ⟨b, o, none⟩) zs.length c] 24)).heap.size = w1.heap.size + 2 := by simp
  have hB2 : Below w.heap.size w ((w1.alloc (.cells #[.int .i64 1] 3)).alloc (.cells #[.slice (some ⟨b, o, none⟩) zs.length c] 24)) := (HB.out.alloc hb1s _).alloc (by simp; omega) _
  have hbx : Boxed ((w1.alloc (.cells #[.int .i64 1] 3)).alloc (.cells #[.slice (some ⟨b, o, none⟩) zs.length c] 24)) (w1.heap.size + 1) 24 (.slice (some ⟨b, o, none⟩) zs.length c) := by
    have := Boxed.new (w1.alloc (.cells #[.int .i64 1] 3)) 24 (.slice (some ⟨b, o, none⟩) zs.length c)
    rwa [World.size_alloc] at this
  have hbo : Boxed ((w1.alloc (.cells #[.int .i64 1] 3)).alloc (.cells #[.slice (some ⟨b, o, none⟩) zs.length c] 24)) w1.heap.size 3 (.int .i64 1) := (Boxed.new w1 3 (.int .i64 1)).alloc _
  have hc2 : ∀ j, j < zs.length → ((w1.alloc (.cells #[.int .i64 1] 3)).alloc (.cells #[.slice (some ⟨b, o, none⟩) zs.length c] 24)).cell? ⟨b, o + j, none⟩ = some (.int .i64 (zs.getD j 0)) := fun j hj => (hB2.cell (p := ⟨b, o + j, none⟩) hb).trans (hc j hj)
  refine wpIn_rangeG rfl (by omega) (gf := 82) (lb := #[.pointer (some ⟨w1.heap.size + 1, 0, none⟩)]) rfl trivial (enters_of Tryd.func82 (by kernel_rfl) rfl)
    (iter_seq Fence.wide 2 trivial rfl (by omega) (w1.heap.size + 1) b o c zs (fun k => k < w.heap.size ∨ k = w1.heap.size + 1) HF.out h64 _ ⟨by omega, by omega⟩ (.inr rfl) (.inl hb) hbx hc2)
    (fun _ => rfl) Hand.putObj (BoxI w w1.heap.size (w1.heap.size + 2) 3 (fun cs => .int .i64 (sgnOf cs))) (by rw [hW2]; exact BoxI.abides (by omega))
    ⟨hbo, id, fun k h => h.elim, by omega, by omega, hB2⟩
    (fun x => { tmps := #[.slice (some ⟨b, o, none⟩) zs.length c, undef, .int .i64 0, .int .i64 0, .int .i64 0, .pointer (some ⟨w1.heap.size, 0, none⟩), x.1, .slice (some ⟨b, o, none⟩) zs.length c, .slice (some ⟨w.heap.size, 0, none⟩) 1 1, .int .i64 0, .int .i64 0, .bool false, undef, .slice (some ⟨b, o, none⟩) zs.length c, .func (.func 82) #[] #[.pointer (some ⟨w1.heap.size + 1, 0, none⟩)], x.1, undef, undef, undef, undef, undef, undef, undef], defers := [] }) ?assign ?body ?done
  case assign =>
    intro l x W K hK
    gi_wp2
    exact hK
  case body =>
    rintro l pre ⟨v, cl⟩ G W hI hH
    obtain ⟨hcl, hlen, hsum, hpos, _⟩ := hH.facts h64
    obtain ⟨⟨⟨A, cc, hvv, _⟩, _⟩, _⟩ := hH
    dsimp only at hvv
    have HI := Lib.hid hI
    obtain ⟨hv, hnG, hG, hBm, hmW, hBl⟩ := hI
    subst hvv
    have hs1 := sgnOf_cases (pre.map Prod.snd)
    have HR := Lib.hid (sgnOf_snoc (pre.map Prod.snd) cl)
    have hbc := hv.cell
    have hbf := hv.frozen
    dsimp only at hbc
    clear hsum hpos hc hc2 hbx hbo hB2 hW2 hG hBl HV HF HZ HB hv
    by_cases he : cl.length % 2 = 0
    · have h2 : ((cl.length : Int) % 2 == 0) = true := by simp; omega
      have HP := fun K0 hK a => Lib.hid (BoxI.put (K0 := K0) (a := a) (x := (Value.slice A cl.length cc, cl)) (v' := .int .i64 (-sgnOf (pre.map Prod.snd))) HI.out hb1s hK (by rw [HR.out]; unfold sgStep; rw [if_pos he]))
      have HP2 := fun a => Lib.hid (HP (fun k => k < w.heap.size ∨ k = w1.heap.size + 1) (fun h => by rcases h with h | h <;> omega) a)
      clear HP he HR HI
      have hw1 : IntKind.i64.wrap (-sgnOf (pre.map Prod.snd)) = -sgnOf (pre.map Prod.snd) := IntWalk.i64_in _ (by omega)
      clear hs1
      generalize sgnOf (pre.map Prod.snd) = q at hbc HP2 hw1
      dsimp only
      gi_wp2
      exact (HP2 ⟨#[], []⟩).out.out
    · have h2 : ((cl.length : Int) % 2 == 0) = false := by simp; omega
      have HP := fun a => Lib.hid (BoxI.skip (K0 := fun k => k < w.heap.size ∨ k = w1.heap.size + 1) (a := a) (x := (Value.slice A cl.length cc, cl)) HI.out (by dsimp only; rw [HR.out]; unfold sgStep; rw [if_neg he]))
      clear he HR HI hs1
      dsimp only
      gi_wp2
      exact (HP ⟨#[], []⟩).out
  case done =>
    rintro D xs G W hD hS hI hK
    obtain ⟨hv, hnG, hG, hBm, hmW, hBl⟩ := hI
    rw [show xs.map Prod.snd = cycs zs from hS] at hv
    have hbc := hv.cell
    dsimp only at hbc
    clear hS hG hc hc2 hbx hbo
    gi_wp2
    refine ⟨by simp, .inl ⟨_, _, rfl, run_takeDeferred hK, ?_⟩⟩
    exact ⟨_, results_tmp2 rfl _ _ _, rfl, hBl.trans (belowK_b (w := w) (Nat.le_refl _) W D _ _ (by omega) hK rfl rfl)⟩

/-- The sign that Sign returns: 0 with an error. -/
def signV (zs : List Int) : Int := if chk zs = 0 then sgnOf (cycs zs) else 0

set_option maxRecDepth 100000 in
set_option maxHeartbeats 400000 in
/-- perm.Sign. -/
theorem Sign_any (v : Value) (zs : List Int) (w : World) (hl : zs.length ≤ 17592186044400) (hv : Ints w w.heap.size v zs) :
    Calls Tryd.prog 22 #[v] w (IntErr (chk zs) (signV zs) w) := by
  by_cases hz : chk zs = 0
  · obtain ⟨h1, _, _⟩ := chk_zero hz
    obtain ⟨b, o, c, rfl, hb, hc⟩ := hv.at_ (by omega)
    rw [hz, show signV zs = sgnOf (cycs zs) by unfold signV; rw [if_pos hz]]
    exact Sign_ok b o c zs w hz hb hc
  · rw [show signV zs = 0 by unfold signV; rw [if_neg hz]]
    have HV := Lib.hid hv
    obtain ⟨A, c, rfl, h⟩ := hv
    clear h
    have HC := fun W h1 h2 h3 => Lib.hid (checks_one w.heap.size (.slice A zs.length c) zs W hl h1 h2 h3)
    generalize chk zs = x at HC hz
    have hx : (x != 0) = true := by simpa using hz
    clear hz
    refine (callsIn_wide (n := 3)).1 ?_
    refine callsIn_of_wp_marks Tryd.func22 rfl trivial ?_ rfl
    simp only [Tryd.ntmps22, List.size_toArray, List.length_cons, List.length_nil, Nat.reduceAdd, Nat.reduceSub, Array.replicate_succ, Array.replicate_zero, List.push_toArray, List.append_toArray, List.nil_append, List.cons_append]
    gi_wp2_with fail
    refine ⟨trivial, (callsIn_wide.2 (HC _ (by simp) (by simp) ((HV.out.alloc (Nat.le_refl _) _).more (by simp))).out).mono ?_⟩
    rintro e w1 ⟨rfl, hb1⟩
    have HB := Lib.hid (((Below.refl _ w).alloc (Nat.le_refl _) _).trans (hb1.mono (by simp)))
    clear hb1
    gi_wp2_with fail
    exact ⟨_, results_tmp2 rfl _ _ _, rfl, HB.out⟩
end Go.Proofs.YtpchomhfpfpckaaDoor
