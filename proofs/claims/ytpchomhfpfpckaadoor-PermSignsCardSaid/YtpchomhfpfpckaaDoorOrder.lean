/- perm.cycles and perm.Order. -/
import Derived.Test.YtpchomhfpfpckaaDoorIter
import Derived.Test.YtpchomhfpfpckaaDoorMul
import Derived.Test.YtpchomhfpfpckaaDoorGcd
import Derived.Shelf.Abstract
import Derived.Shelf.RegionOpen
namespace Go.Proofs.YtpchomhfpfpckaaDoor
open Go Go.RowKit Go.Shelf
attribute [local go_sem] Oper.semAt_some

def ordStep (o : Nat) (c : List Int) : Nat := o / Nat.gcd o c.length * c.length
def ordN (cs : List (List Int)) : Nat := cs.foldl ordStep 1
theorem ordN_snoc (cs : List (List Int)) (c : List Int) : ordN (cs ++ [c]) = ordStep (ordN cs) c := by simp [ordN]

theorem sq_le_pow (n : Nat) : n * n ≤ 3 ^ n := by
  have h : ∀ n : Nat, 2 ≤ n → n * n ≤ 3 ^ n ∧ 2 * n + 1 ≤ 2 * 3 ^ n := by
    intro n hn
    induction n with
    | zero => omega
    | succ k ih =>
      by_cases h2 : k = 1
      · subst h2; decide
      · obtain ⟨h1, h3⟩ := ih (by omega)
        rw [Nat.pow_succ, Nat.add_mul, Nat.mul_add]
        omega
  by_cases h2 : 2 ≤ n
  · exact (h n h2).1
  · match n with
    | 0 => decide
    | 1 => decide
    | k + 2 => omega
theorem ordStep_pos {o : Nat} {c : List Int} (ho : 1 ≤ o) (hc : 1 ≤ c.length) : 1 ≤ ordStep o c := by
  unfold ordStep
  have hg := Nat.gcd_dvd_left o c.length
  have hp : 0 < Nat.gcd o c.length := Nat.gcd_pos_of_pos_left _ ho
  have : 1 ≤ o / Nat.gcd o c.length := Nat.div_pos (Nat.le_of_dvd ho hg) hp
  exact Nat.mul_le_mul this hc
theorem ordStep_le (o : Nat) (c : List Int) : ordStep o c ≤ o * c.length := Nat.mul_le_mul_right _ (Nat.div_le_self _ _)
theorem ordStep_sq {o S : Nat} {c : List Int} (h : o * o ≤ 3 ^ S) : ordStep o c * ordStep o c ≤ 3 ^ (S + c.length) := by
  have h1 := ordStep_le o c
  calc ordStep o c * ordStep o c ≤ (o * c.length) * (o * c.length) := Nat.mul_le_mul h1 h1
    _ = (o * o) * (c.length * c.length) := by rw [Nat.mul_mul_mul_comm]
    _ ≤ 3 ^ S * 3 ^ c.length := Nat.mul_le_mul h (sq_le_pow _)
    _ = 3 ^ (S + c.length) := (Nat.pow_add _ _ _).symm
theorem ordN_ok (cs : List (List Int)) (h : ∀ c ∈ cs, 1 ≤ c.length) : 1 ≤ ordN cs ∧ ordN cs * ordN cs ≤ 3 ^ (cs.map List.length).sum := by
  have : ∀ (cs : List (List Int)) (o S : Nat), (∀ c ∈ cs, 1 ≤ c.length) → 1 ≤ o → o * o ≤ 3 ^ S → 1 ≤ cs.foldl ordStep o ∧ cs.foldl ordStep o * cs.foldl ordStep o ≤ 3 ^ (S + (cs.map List.length).sum) := by
    intro cs
    induction cs with
    | nil => intro o S _ h1 h2; exact ⟨h1, by simpa using h2⟩
    | cons c cs ih =>
      intro o S h h1 h2
      have := ih (ordStep o c) (S + c.length) (fun d hd => h d (List.mem_cons_of_mem _ hd)) (ordStep_pos h1 (h c (List.mem_cons_self ..))) (ordStep_sq h2)
      simpa [Nat.add_assoc] using this
  have := this cs 1 0 h (Nat.le_refl _) (by decide)
  simpa [ordN] using this
theorem ordN_small (cs : List (List Int)) (h : ∀ c ∈ cs, 1 ≤ c.length) (h64 : (cs.map List.length).sum ≤ 64) : 1 ≤ ordN cs ∧ ordN cs ≤ 1853020188851841 := by
  obtain ⟨h1, h2⟩ := ordN_ok cs h
  refine ⟨h1, ?_⟩
  have h3 : (3 : Nat) ^ (cs.map List.length).sum ≤ 3 ^ 64 := Nat.pow_le_pow_right (by decide) h64
  have h4 : (3 : Nat) ^ 64 = 1853020188851841 * 1853020188851841 := by decide
  rcases Nat.lt_or_ge 1853020188851841 (ordN cs) with hlt | hge
  · have := Nat.mul_lt_mul'' hlt hlt
    omega
  · exact hge

/-- perm.cycles: the list is boxed, and captured. -/
theorem cycles_in (F : Fence) (n : Nat) (h64 : F.fn 64) (hro : F.round = none) (A : Option Addr) (k c : Nat) (w : World) :
    CallsIn F n Tryd.prog 64 #[.slice A k c] w fun e w' => e = .returned (.func (.func 82) #[] #[.pointer (some ⟨w.heap.size, 0, none⟩)]) ∧ w' = w.alloc (.cells #[.slice A k c] 24) := by
  refine callsIn_of_wp Tryd.func64 rfl h64 ?_ hro
  simp only [Tryd.ntmps64, List.size_toArray, List.length_cons, List.length_nil, Nat.reduceAdd, Nat.reduceSub, Array.replicate_succ, Array.replicate_zero, List.push_toArray, List.append_toArray, List.nil_append, List.cons_append]
  gi_wp2
  go_ret
  exact ⟨rfl, rfl⟩

/-- Between two rounds of Order's loop. -/
def OrdI (w : World) (B m : Nat) (pre : List Pt) (G : Nat → Prop) (W : World) : Prop :=
  Boxed W B 3 (.int .i64 (ordN (pre.map Prod.snd))) ∧ ¬ G B ∧ (∀ k, G k → m ≤ k ∧ k < W.heap.size) ∧ B < m ∧ m ≤ W.heap.size ∧ Below w.heap.size w W
theorem OrdI.abides {w : World} {B m : Nat} (hm : w.heap.size ≤ m) : AbidesG m (OrdI w B m) := by
  rintro s G G' A W row ⟨h1, h2, h3, h4, h5, h6⟩ hg hr hG
  have hs := hg.size
  refine ⟨h1.kept hg (fun e => ?_), fun h => ?_, fun k h => ?_, h4, by omega, h6.grown hg (by omega) (fun k e => ?_)⟩
  · rcases hr B e.symm with h | ⟨h, _⟩
    · exact h2 h
    · omega
  · rcases hG B h with h | h
    · exact h2 h
    · omega
  · rcases hG k h with h | h
    · have := h3 k h; omega
    · omega
  · rcases hr k e with h | ⟨h, _⟩
    · have := h3 k h; omega
    · omega

theorem OrdI.put {w W : World} {B m k : Nat} {pre : List Pt} {x : Pt} {G K0 : Nat → Prop} {a : Act} {r : Nat} (h : OrdI w B m pre G W) (hB : w.heap.size ≤ B) (hK : ¬ K0 B) (hr : ordN (pre.map Prod.snd ++ [x.2]) = r) :
    postG K0 G (OrdI w B m) (pre ++ [x]) W .normal a ((W.drewN k).setCell ⟨B, 0, none⟩ (.int .i64 (r : Int))) := by
  obtain ⟨h1, h2, h3, h4, h5, h6⟩ := h
  have h1' : Boxed (W.drewN k) B 3 (.int .i64 (ordN (pre.map Prod.snd))) := h1
  have hz : ((W.drewN k).setCell ⟨B, 0, none⟩ (.int .i64 (r : Int))).heap.size = W.heap.size := by simp [World.setCell, World.drewN]
  refine ⟨KeepG.box (A := W) (B := W.drewN k) ⟨Nat.le_refl _, fun _ _ h _ => h⟩ h1' hK h2 _, ?_, h2, fun g hg => by rw [hz]; exact h3 g hg, h4, by rw [hz]; exact h5, ?_⟩
  · rw [List.map_append, List.map_cons, List.map_nil, hr]
    exact h1'.set _
  · have : Below w.heap.size w (W.drewN k) := ⟨h6.os, h6.tape, h6.output, h6.size, h6.block⟩
    exact this.setCell (p := ⟨B, 0, none⟩) hB _

/-- What a function that returns a number and an error has returned. -/
def IntErr (x n : Int) (w : World) (e : Ending) (w' : World) : Prop :=
  e = .returned (.tuple #[.int .i64 n, .int .i64 x]) ∧ Below w.heap.size w w'

set_option maxRecDepth 100000 in
set_option maxHeartbeats 300000 in
theorem Order_ok (b o c : Nat) (zs : List Int) (w : World) (hz : chk zs = 0) (hb : b < w.heap.size)
    (hc : ∀ j, j < zs.length → w.cell? ⟨b, o + j, none⟩ = some (.int .i64 (zs.getD j 0))) :
    Calls Tryd.prog 44 #[.slice (some ⟨b, o, none⟩) zs.length c] w (IntErr 0 (ordN (cycs zs)) w) := by
  have hv : Ints w w.heap.size (.slice (some ⟨b, o, none⟩) zs.length c) zs := ⟨_, c, rfl, fun _ => ⟨b, o, rfl, hb, hc⟩⟩
  obtain ⟨h1, h64, hf⟩ := chk_zero hz
  have HV := Lib.hid hv
  have HF := Lib.hid hf
  have HZ := Lib.hid hz
  clear hv hf hz
  refine (callsIn_wide (n := 3)).1 ?_
  refine callsIn_of_wp_marks Tryd.func44 rfl trivial ?_ rfl
  simp only [Tryd.ntmps44, List.size_toArray, List.length_cons, List.length_nil, Nat.reduceAdd, Nat.reduceSub, Array.replicate_succ, Array.replicate_zero, List.push_toArray, List.append_toArray, List.nil_append, List.cons_append]
  gi_wp2_with fail
  refine ⟨trivial, (callsIn_wide.2 (checks_one w.heap.size _ zs _ (by omega) (by simp) (by simp) ((HV.out.alloc (Nat.le_refl _) _).more (by simp)))).mono ?_⟩
  rw [HZ.out]
  rintro e w1 ⟨rfl, hb1⟩
  have HB := Lib.hid (((Below.refl _ w).alloc (Nat.le_refl _) _).trans (hb1.mono (by simp)))
  clear hb1
  gi_wp2_with fail
  refine ⟨trivial, (cycles_in Fence.wide 2 trivial rfl _ _ _ _).mono ?_⟩
  rintro e w2 ⟨rfl, rfl⟩
  gi_wp2_with fail
  have hb1s := HB.out.size
  have hW2 : ((w1.alloc (.cells #[.int .i64 1] 3)).alloc (.cells #[.slice (some ⟨b, o, none⟩) zs.length c] 24)).heap.size = w1.heap.size + 2 := by simp
  have hB2 : Below w.heap.size w ((w1.alloc (.cells #[.int .i64 1] 3)).alloc (.cells #[.slice (some ⟨b, o, none⟩) zs.length c] 24)) := (HB.out.alloc hb1s _).alloc (by simp; omega) _
  have hbx : Boxed ((w1.alloc (.cells #[.int .i64 1] 3)).alloc (.cells #[.slice (some ⟨b, o, none⟩) zs.length c] 24)) (w1.heap.size + 1) 24 (.slice (some ⟨b, o, none⟩) zs.length c) := by
    have := Boxed.new (w1.alloc (.cells #[.int .i64 1] 3)) 24 (.slice (some ⟨b, o, none⟩) zs.length c)
    rwa [World.size_alloc] at this
  have hbo : Boxed ((w1.alloc (.cells #[.int .i64 1] 3)).alloc (.cells #[.slice (some ⟨b, o, none⟩) zs.length c] 24)) w1.heap.size 3 (.int .i64 1) := (Boxed.new w1 3 (.int .i64 1)).alloc _
  have hc2 : ∀ j, j < zs.length → ((w1.alloc (.cells #[.int .i64 1] 3)).alloc (.cells #[.slice (some ⟨b, o, none⟩) zs.length c] 24)).cell? ⟨b, o + j, none⟩ = some (.int .i64 (zs.getD j 0)) := fun j hj => (hB2.cell (p := ⟨b, o + j, none⟩) hb).trans (hc j hj)
  refine wpIn_rangeG rfl (by omega) (gf := 82) (lb := #[.pointer (some ⟨w1.heap.size + 1, 0, none⟩)]) rfl trivial (enters_of Tryd.func82 (by kernel_rfl) rfl)
    (iter_seq Fence.wide 2 trivial rfl (by omega) (w1.heap.size + 1) b o c zs (fun k => k < w.heap.size ∨ k = w1.heap.size + 1) HF.out h64 _ ⟨by omega, by omega⟩ (.inr rfl) (.inl hb) hbx hc2)
    (fun _ => rfl) Hand.putObj (OrdI w w1.heap.size (w1.heap.size + 2)) (by rw [hW2]; exact OrdI.abides (by omega))
    ⟨hbo, id, fun k h => h.elim, by omega, by omega, hB2⟩
    (fun x => { tmps := #[.slice (some ⟨b, o, none⟩) zs.length c, undef, .int .i64 0, .int .i64 0, .int .i64 0, .pointer (some ⟨w1.heap.size, 0, none⟩), x.1, .slice (some ⟨b, o, none⟩) zs.length c, .slice (some ⟨w.heap.size, 0, none⟩) 1 1, .int .i64 0, .int .i64 0, .bool false, undef, .slice (some ⟨b, o, none⟩) zs.length c, .func (.func 82) #[] #[.pointer (some ⟨w1.heap.size + 1, 0, none⟩)], x.1, undef, undef, undef, undef, undef, undef, undef, undef, undef, undef], defers := [] }) ?assign ?body ?done
  case assign =>
    intro l x W K hK
    gi_wp2
    exact hK
  case body =>
    rintro l pre ⟨v, cl⟩ G W hI hH
    obtain ⟨hcl, hlen, hsum, hpos, _⟩ := hH.facts h64
    obtain ⟨⟨⟨A, cc, hvv, _⟩, _⟩, _⟩ := hH
    dsimp only at hvv
    have HI := Lib.hid hI
    obtain ⟨hv, hnG, hG, hBm, hmW, hBl⟩ := hI
    subst hvv
    have hs1 := ordN_small (pre.map Prod.snd) hpos hsum
    have HR := Lib.hid (ordN_snoc (pre.map Prod.snd) cl)
    have hbc := hv.cell
    have hbf := hv.frozen
    clear hsum hpos
    generalize ordN (pre.map Prod.snd) = q at hv hs1 HR hbc
    have hgp : 1 ≤ Nat.gcd q cl.length := Nat.gcd_pos_of_pos_left _ (by omega)
    have HC := fun W => Lib.hid (gcd_any q cl.length W (by omega) (by omega))
    have hst : ordStep q cl = q / Nat.gcd q cl.length * cl.length := rfl
    rw [hst] at HR
    clear hst
    generalize Nat.gcd q cl.length = g at hgp HC HR
    have hm2 : q / g * cl.length ≤ 1853020188851841 * 64 := Nat.mul_le_mul (Nat.le_trans (Nat.div_le_self _ _) hs1.2) hlen
    have hm1 : (q : Int) / (g : Int) * (cl.length : Int) ≤ 118593292086517824 := by
      have : ((q / g * cl.length : Nat) : Int) ≤ 118593292086517824 := by omega
      simpa using this
    have hm0 : 0 ≤ (q : Int) / (g : Int) * (cl.length : Int) := by
      have : (0 : Int) ≤ ((q / g * cl.length : Nat) : Int) := by omega
      simpa using this
    have hd0 : 0 ≤ (q : Int) / (g : Int) := by
      have : (0 : Int) ≤ ((q / g : Nat) : Int) := Int.natCast_nonneg _
      simpa using this
    have hd1 : (q : Int) / (g : Int) ≤ 1853020188851841 := by
      have : ((q / g : Nat) : Int) ≤ ((1853020188851841 : Nat) : Int) := Int.ofNat_le.2 (Nat.le_trans (Nat.div_le_self q g) hs1.2)
      simpa using this
    have hg0 : ¬ g = 0 := by omega
    have hw : IntKind.i64.wrap (IntKind.i64.wrap ((q : Int) / (g : Int)) * (cl.length : Int)) = ((q / g * cl.length : Nat) : Int) := by
      have e1 : IntKind.i64.wrap ((q : Int) / (g : Int)) = (q : Int) / (g : Int) := IntWalk.i64_in _ ⟨by omega, by omega⟩
      rw [e1, IntWalk.i64_in _ ⟨by omega, by omega⟩]
      simp
    have HW := Lib.hid hw
    clear hw
    have hmix : Tryd.prog.follows .mixedOrders = true := by kernel_rfl
    clear hc hc2 hbx hbo hB2 hW2 hG hBl HV HF HZ HB hm2
    dsimp only
    gi_wp2
    refine region_round l (by kernel_rfl) hmix ?_
    refine wpAnyIn_take (i := 2) (v := .slice A cl.length cc) rfl rfl (by kernel_rfl) (by kernel_rfl) (by kernel_rfl) (fun _ _ _ h => h) ⟨Or.inl ⟨by rfl, fun w => by go_simp⟩, fun _ => rfl⟩ ?_
    go_simp
    refine wpAnyIn_take (i := 3) (v := .int .i64 cl.length) rfl rfl (by kernel_rfl) (by kernel_rfl) (by kernel_rfl) (fun _ _ _ h => h) ⟨Or.inl ⟨by rfl, fun w => by go_simp⟩, fun _ => rfl⟩ ?_
    go_simp
    refine wpAnyIn_take (i := 6) (v := .slice A cl.length cc) rfl rfl (by kernel_rfl) (by kernel_rfl) (by kernel_rfl) (fun _ _ _ h => h) ⟨Or.inl ⟨by rfl, fun w => by go_simp⟩, fun _ => rfl⟩ ?_
    go_simp
    refine wpAnyIn_take (i := 7) (v := .int .i64 cl.length) rfl rfl (by kernel_rfl) (by kernel_rfl) (by kernel_rfl) (fun _ _ _ h => h) ⟨Or.inl ⟨by rfl, fun w => by go_simp⟩, fun _ => rfl⟩ ?_
    go_simp
    refine wpAnyIn_ready (rs := [0, 1]) (by kernel_rfl) (by simp) ?_
    refine AllReadyIn.cons rfl (fun K hK => ?_) (AllReadyIn.cons rfl (fun K hK => ?_) AllReadyIn.nil)
    · go_simp
      refine hK _ _ ?_
      clear hK K
      refine wpAnyIn_ready (rs := [1]) (by kernel_rfl) (by simp) ?_
      refine AllReadyIn.cons rfl (fun K hK => ?_) AllReadyIn.nil
      go_simp
      refine hK _ _ ?_
      clear hK K
      refine wpAnyIn_ready (rs := [4]) (by kernel_rfl) (by simp) ?_
      refine AllReadyIn.cons rfl (fun K hK => ?_) AllReadyIn.nil
      go_simp
      refine ⟨trivial, (callsIn_wide.2 (HC _).out).mono ?_⟩
      rintro e w' ⟨rfl, nq, rfl⟩
      refine hK _ _ ?_
      clear hK K
      refine wpAnyIn_ready (rs := [5]) (by kernel_rfl) (by simp) ?_
      refine AllReadyIn.cons rfl (fun K hK => ?_) AllReadyIn.nil
      go_simp
      refine hK _ _ ?_
      clear hK K
      refine wpAnyIn_ready (rs := [8]) (by kernel_rfl) (by simp) ?_
      refine AllReadyIn.cons rfl (fun K hK => ?_) AllReadyIn.nil
      go_simp
      refine hK _ _ ?_
      clear hK K
      refine wpAnyIn_ready (rs := [9]) (by kernel_rfl) (by simp) ?_
      refine AllReadyIn.cons rfl (fun K hK => ?_) AllReadyIn.nil
      go_simp
      refine hK _ _ ?_
      clear hK K
      refine wpAnyIn_done (by kernel_rfl) ?_ _
      rw [HW.out]
      exact OrdI.put (a := ⟨#[], []⟩) HI.out hb1s (fun h => by rcases h with h | h <;> omega) HR.out
    · go_simp
      refine hK _ _ ?_
      clear hK K
      refine wpAnyIn_ready (rs := [0, 4]) (by kernel_rfl) (by simp) ?_
      refine AllReadyIn.cons rfl (fun K hK => ?_) (AllReadyIn.cons rfl (fun K hK => ?_) AllReadyIn.nil)
      · go_simp
        refine hK _ _ ?_
        clear hK K
        refine wpAnyIn_ready (rs := [4]) (by kernel_rfl) (by simp) ?_
        refine AllReadyIn.cons rfl (fun K hK => ?_) AllReadyIn.nil
        go_simp
        refine ⟨trivial, (callsIn_wide.2 (HC _).out).mono ?_⟩
        rintro e w' ⟨rfl, nq, rfl⟩
        refine hK _ _ ?_
        clear hK K
        refine wpAnyIn_ready (rs := [5]) (by kernel_rfl) (by simp) ?_
        refine AllReadyIn.cons rfl (fun K hK => ?_) AllReadyIn.nil
        go_simp
        refine hK _ _ ?_
        clear hK K
        refine wpAnyIn_ready (rs := [8]) (by kernel_rfl) (by simp) ?_
        refine AllReadyIn.cons rfl (fun K hK => ?_) AllReadyIn.nil
        go_simp
        refine hK _ _ ?_
        clear hK K
        refine wpAnyIn_ready (rs := [9]) (by kernel_rfl) (by simp) ?_
        refine AllReadyIn.cons rfl (fun K hK => ?_) AllReadyIn.nil
        go_simp
        refine hK _ _ ?_
        clear hK K
        refine wpAnyIn_done (by kernel_rfl) ?_ _
        rw [HW.out]
        exact OrdI.put (a := ⟨#[], []⟩) HI.out hb1s (fun h => by rcases h with h | h <;> omega) HR.out
      · go_simp
        refine ⟨trivial, (callsIn_wide.2 (HC _).out).mono ?_⟩
        rintro e w' ⟨rfl, nq, rfl⟩
        refine hK _ _ ?_
        clear hK K
        refine wpAnyIn_ready (rs := [0]) (by kernel_rfl) (by simp) ?_
        refine AllReadyIn.cons rfl (fun K hK => ?_) AllReadyIn.nil
        go_simp
        refine hK _ _ ?_
        clear hK K
        refine wpAnyIn_ready (rs := [5]) (by kernel_rfl) (by simp) ?_
        refine AllReadyIn.cons rfl (fun K hK => ?_) AllReadyIn.nil
        go_simp
        refine hK _ _ ?_
        clear hK K
        refine wpAnyIn_ready (rs := [8]) (by kernel_rfl) (by simp) ?_
        refine AllReadyIn.cons rfl (fun K hK => ?_) AllReadyIn.nil
        go_simp
        refine hK _ _ ?_
        clear hK K
        refine wpAnyIn_ready (rs := [9]) (by kernel_rfl) (by simp) ?_
        refine AllReadyIn.cons rfl (fun K hK => ?_) AllReadyIn.nil
        go_simp
        refine hK _ _ ?_
        clear hK K
        refine wpAnyIn_done (by kernel_rfl) ?_ _
        rw [HW.out]
        exact OrdI.put (a := ⟨#[], []⟩) HI.out hb1s (fun h => by rcases h with h | h <;> omega) HR.out
  case done =>
    rintro D xs G W hD hS hI hK
    obtain ⟨hv, hnG, hG, hBm, hmW, hBl⟩ := hI
    rw [show ordN (xs.map Prod.snd) = ordN (cycs zs) by rw [show xs.map Prod.snd = cycs zs from hS]] at hv
    have hbc := hv.cell
    clear hS hG hc hc2 hbx hbo
    gi_wp2
    refine ⟨by simp, .inl ⟨_, _, rfl, run_takeDeferred hK, ?_⟩⟩
    exact ⟨_, results_tmp2 rfl _ _ _, rfl, hBl.trans (belowK_b (w := w) (Nat.le_refl _) W D _ _ (by omega) hK rfl rfl)⟩

/-- The order that Order returns: 0 with an error. -/
def ordV (zs : List Int) : Int := if chk zs = 0 then ordN (cycs zs) else 0

set_option maxRecDepth 100000 in
set_option maxHeartbeats 400000 in
/-- perm.Order. -/
theorem Order_any (v : Value) (zs : List Int) (w : World) (hl : zs.length ≤ 17592186044400) (hv : Ints w w.heap.size v zs) :
    Calls Tryd.prog 44 #[v] w (IntErr (chk zs) (ordV zs) w) := by
  by_cases hz : chk zs = 0
  · obtain ⟨h1, _, _⟩ := chk_zero hz
    obtain ⟨b, o, c, rfl, hb, hc⟩ := hv.at_ (by omega)
    rw [hz, show ordV zs = ordN (cycs zs) by unfold ordV; rw [if_pos hz]]
    exact Order_ok b o c zs w hz hb hc
  · rw [show ordV zs = 0 by unfold ordV; rw [if_neg hz]]
    have HV := Lib.hid hv
    obtain ⟨A, c, rfl, h⟩ := hv
    clear h
    have HC := fun W h1 h2 h3 => Lib.hid (checks_one w.heap.size (.slice A zs.length c) zs W hl h1 h2 h3)
    generalize chk zs = x at HC hz
    have hx : (x != 0) = true := by simpa using hz
    clear hz
    refine (callsIn_wide (n := 3)).1 ?_
    refine callsIn_of_wp_marks Tryd.func44 rfl trivial ?_ rfl
    simp only [Tryd.ntmps44, List.size_toArray, List.length_cons, List.length_nil, Nat.reduceAdd, Nat.reduceSub, Array.replicate_succ, Array.replicate_zero, List.push_toArray, List.append_toArray, List.nil_append, List.cons_append]
    gi_wp2_with fail
    refine ⟨trivial, (callsIn_wide.2 (HC _ (by simp) (by simp) ((HV.out.alloc (Nat.le_refl _) _).more (by simp))).out).mono ?_⟩
    rintro e w1 ⟨rfl, hb1⟩
    have HB := Lib.hid (((Below.refl _ w).alloc (Nat.le_refl _) _).trans (hb1.mono (by simp)))
    clear hb1
    gi_wp2_with fail
    exact ⟨_, results_tmp2 rfl _ _ _, rfl, HB.out⟩
end Go.Proofs.YtpchomhfpfpckaaDoor
