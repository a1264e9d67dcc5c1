/- PermCalls' walk. -/
import Derived.Test.YtpchomhfpfpckaaDoorRefPow
import Derived.Test.YtpchomhfpfpckaaDoorCmp
import Derived.Test.YtpchomhfpfpckaaDoorCard
import Derived.Test.YtpchomhfpfpckaaDoorLives
namespace Go.Proofs.YtpchomhfpfpckaaDoor
open Go Go.RowKit

set_option maxRecDepth 100000 in
set_option maxHeartbeats 400000 in
/-- The reference's Pow. -/
theorem refPow_any (v : Value) (zs : List Int) (x : Int) (w : World) (hl : zs.length ≤ 17592186044400) (hv : Ints w w.heap.size v zs) :
    Calls Tryd.prog 38 #[v, .int .i64 x] w (PermErr (chk zs) (powL zs x) w) := by
  by_cases hz : chk zs = 0
  · rw [hz]; exact refPow_ok v zs x w hz hv
  · have HC := fun W h3 => Lib.hid (refCheck_any v zs W hl h3)
    have HV := Lib.hid hv
    have hs : ∃ A n c, v = .slice A n c := by obtain ⟨A, c, h, _⟩ := hv; exact ⟨A, _, c, h⟩
    obtain ⟨A, n, c, rfl⟩ := hs
    have hx' : (chk zs != 0) = true := by simpa using hz
    have HX := Lib.hid hz
    clear hv hz
    generalize chk zs = y at HC hx' HX
    go_enter Tryd.func38, Tryd.ntmps38
    go_wp2_with fail
    refine ((HC _ HV.out).out).mono ?_
    rintro e w1 ⟨rfl, hb1⟩
    have HB := Lib.hid hb1
    clear hb1
    go_wp2_with fail
    go_ret2
    exact ⟨_, rfl, HB.out, fun h => absurd h HX.out, fun _ => rfl⟩

/-- What is returned beside an error. -/
def resL (x : Int) (l : List Int) : List Int := if x = 0 then l else []
def Res (w : World) (x : Int) (l : List Int) (e : Ending) (w' : World) : Prop := ∃ r, e = .returned (.tuple #[r, .int .i64 x]) ∧ Ints w' w'.heap.size r l ∧ Below w.heap.size w w'
theorem PermErr.res {x : Int} {l : List Int} {w w' : World} {e : Ending} (h : PermErr x l w e w') : Res w x (resL x l) e w' := by
  obtain ⟨r, he, hb, hi, hn⟩ := h
  refine ⟨r, he, ?_, hb⟩
  unfold resL
  by_cases hx : x = 0
  · rw [if_pos hx]; exact hi hx
  · rw [if_neg hx, hn hx]; exact ⟨none, 0, rfl, fun h => absurd h (by simp)⟩
theorem resL_len {x : Int} {l : List Int} (h : x = 0 → l.length ≤ 1000) : (resL x l).length ≤ 1000 := by
  unfold resL
  by_cases hx : x = 0
  · rw [if_pos hx]; exact h hx
  · rw [if_neg hx]; simp
theorem powL_len (zs : List Int) (x : Int) : (powL zs x).length ≤ zs.length := by
  by_cases h : Fine zs
  · have := powL_of (n := zs.length) ⟨zs, rfl, h⟩ x
    rw [this, (zpow pmul (pone zs.length) pinv ⟨zs, rfl, h⟩ x).2.1]
    exact Nat.le_refl _
  · unfold powL; rw [dif_neg h]; simp
theorem drawnB (B : Nat) {w q : World} (hm : ∃ m, q = w.drewN m) : Below B w q := by obtain ⟨m, rfl⟩ := hm; exact ⟨rfl, rfl, rfl, Nat.le_refl _, fun _ _ => rfl⟩
theorem sameR (l : List Int) (v u : Value) (w : World) (hl : l.length ≤ 1000) (hv : Ints w w.heap.size v l) (hu : Ints w w.heap.size u l) : Calls Tryd.prog 24 #[v, u] w fun e w' => e = .returned (.bool true) ∧ ∃ m, w' = w.drewN m := by
  have := same_any w.heap.size v u l l w (by omega) hv hu
  rw [show sameB l l = true from decide_eq_true rfl] at this
  exact this

set_option maxRecDepth 100000 in
theorem long_any (A A' : Option Addr) (n n' c c' : Nat) (w : World) : Calls Tryd.prog 35 #[.slice A n c, .slice A' n' c'] w fun e w' => e = .returned (.bool (decide (80 < n) || decide (80 < n'))) ∧ w' = w := by
  by_cases h : 80 < n
  · have h' : (80 : Int) < (n : Int) := by omega
    rw [decide_eq_true h, Bool.true_or]
    go_enter Tryd.func35, Tryd.ntmps35
    go_wp2_with fail
    go_ret
    exact ⟨rfl, rfl⟩
  · have h' : ¬ (80 : Int) < (n : Int) := by omega
    rw [decide_eq_false h, Bool.false_or]
    by_cases h2 : 80 < n'
    · have h2' : (80 : Int) < (n' : Int) := by omega
      rw [decide_eq_true h2]
      go_enter Tryd.func35, Tryd.ntmps35
      go_wp2_with fail
      go_ret
      exact ⟨rfl, rfl⟩
    · have h2' : ¬ (80 : Int) < (n' : Int) := by omega
      rw [decide_eq_false h2]
      go_enter Tryd.func35, Tryd.ntmps35
      go_wp2_with fail
      go_ret
      exact ⟨rfl, rfl⟩

set_option maxRecDepth 100000 in
set_option maxHeartbeats 8000000 in
theorem permCalls_any (v u : Value) (zs ys : List Int) (x : Int) (w : World) (hx1 : -9223372036854775808 ≤ x) (hx2 : x ≤ 9223372036854775807) (hv : Ints w w.heap.size v zs) (hu : Ints w w.heap.size u ys) :
    Calls Tryd.prog 4 #[v, u, .int .i64 x] w fun e w' => e = .returned (.bool true) ∧ Below w.heap.size w w' := by
  have hs : ∃ A c, v = .slice A zs.length c := by obtain ⟨A, c, h, _⟩ := hv; exact ⟨A, c, h⟩
  have hs' : ∃ A c, u = .slice A ys.length c := by obtain ⟨A, c, h, _⟩ := hu; exact ⟨A, c, h⟩
  obtain ⟨A, c, rfl⟩ := hs
  obtain ⟨A', c', rfl⟩ := hs'
  have hl0 : Live w [(.slice A zs.length c, zs), (.slice A' ys.length c', ys)] := fun i p hp => by
    match i, hp with
    | 0, hp => injection hp with hp; subst hp; exact hv
    | 1, hp => injection hp with hp; subst hp; exact hu
  have HL := Lib.hid hl0
  clear hl0 hv hu
  have HLo := fun W => Lib.hid (long_any A A' zs.length ys.length c c' W)
  by_cases hlong : (decide (80 < zs.length) || decide (80 < ys.length)) = true
  · rw [hlong] at HLo
    clear hlong
    go_enter Tryd.func4, Tryd.ntmps4
    go_wp2_with fail
    refine (lives_any _).mono ?_
    rintro e w1 ⟨rfl, hb1⟩
    have HB := Lib.hid hb1
    clear hb1
    go_wp2_with fail
    refine (HLo _).out.mono ?_
    rintro e w2 ⟨rfl, rfl⟩
    go_wp2_with fail
    go_ret
    exact ⟨rfl, HB.out⟩
  · have hf : (decide (80 < zs.length) || decide (80 < ys.length)) = false := by simpa using hlong
    rw [hf] at HLo
    have h80 : zs.length ≤ 80 ∧ ys.length ≤ 80 := by simp at hf; omega
    have HZ := Lib.hid h80
    clear hlong hf h80
    have C1 := fun v u W h h' => Lib.hid ((Mul_any v u zs ys W (by have := HZ.out; omega) (by have := HZ.out; omega) h h').mono fun _ _ h => PermErr.res h)
    have D1 := fun v u W h h' => Lib.hid ((refMul_any v u zs ys W (by have := HZ.out; omega) (by have := HZ.out; omega) h h').mono fun _ _ h => PermErr.res h)
    have C2 := fun v W h => Lib.hid ((Inv_any v zs W (by have := HZ.out; omega) h).mono fun _ _ h => PermErr.res h)
    have D2 := fun v W h => Lib.hid ((refInv_any v zs W (by have := HZ.out; omega) h).mono fun _ _ h => PermErr.res h)
    have C3 := fun v W h => Lib.hid ((Pow_any v zs x W hx1 hx2 (by have := HZ.out; omega) h).mono fun _ _ h => PermErr.res h)
    have D3 := fun v W h => Lib.hid ((refPow_any v zs x W (by have := HZ.out; omega) h).mono fun _ _ h => PermErr.res h)
    have C4 := fun v u W h h' => Lib.hid ((Conj_any v u zs ys W (by have := HZ.out; omega) (by have := HZ.out; omega) h h').mono fun _ _ h => PermErr.res h)
    have D4 := fun v u W h h' => Lib.hid ((refConj_any v u zs ys W (by have := HZ.out; omega) (by have := HZ.out; omega) h h').mono fun _ _ h => PermErr.res h)
    have C5 := fun v u W h h' => Lib.hid ((Comm_any v u zs ys W (by have := HZ.out; omega) (by have := HZ.out; omega) h h').mono fun _ _ h => PermErr.res h)
    have D5 := fun v u W h h' => Lib.hid ((refComm_any v u zs ys W (by have := HZ.out; omega) (by have := HZ.out; omega) h h').mono fun _ _ h => PermErr.res h)
    have C6 := fun W => Lib.hid ((One_any x W).mono fun _ _ h => PermErr.res h)
    have D6 := fun W => Lib.hid ((refOne_any x W).mono fun _ _ h => PermErr.res h)
    have C7 := fun v W h => Lib.hid (check1_any v zs W (by have := HZ.out; omega) h)
    have D7 := fun v W h => Lib.hid (refCheck_any v zs W (by have := HZ.out; omega) h)
    have C8 := fun v u W h h' => Lib.hid (Cmp_any (World.heap W).size v u zs ys W (by have := HZ.out; omega) (by have := HZ.out; omega) h h')
    have D8 := fun v u W h h' => Lib.hid (refCmp_any (World.heap W).size v u zs ys W (by have := HZ.out; omega) (by have := HZ.out; omega) h h')
    have L1 := Lib.hid (resL_len (x := chk2 zs ys) (l := mulL zs ys) (fun _ => by rw [mulL_len]; have := HZ.out; omega))
    have L2 := Lib.hid (resL_len (x := chk zs) (l := invL zs) (fun _ => by rw [invL_len]; have := HZ.out; omega))
    have L3 := Lib.hid (resL_len (x := chk zs) (l := powL zs x) (fun _ => by have := powL_len zs x; have := HZ.out; omega))
    have L4 := Lib.hid (resL_len (x := chk2 zs ys) (l := conjL zs ys) (fun _ => by unfold conjL; rw [mulL_len, invL_len]; have := HZ.out; omega))
    have L5 := Lib.hid (resL_len (x := chk2 zs ys) (l := commL zs ys) (fun _ => by unfold commL; rw [mulL_len, invL_len, mulL_len]; have := HZ.out; omega))
    have L6 := Lib.hid (resL_len (x := oneErr x) (l := idL x.toNat) (fun h => by rw [idL_len]; unfold oneErr at h; split at h <;> omega))
    generalize resL (chk2 zs ys) (mulL zs ys) = l1 at C1 D1 L1
    generalize resL (chk zs) (invL zs) = l2 at C2 D2 L2
    generalize resL (chk zs) (powL zs x) = l3 at C3 D3 L3
    generalize resL (chk2 zs ys) (conjL zs ys) = l4 at C4 D4 L4
    generalize resL (chk2 zs ys) (commL zs ys) = l5 at C5 D5 L5
    generalize resL (oneErr x) (idL x.toNat) = l6 at C6 D6 L6
    generalize chk2 zs ys = x2 at C1 D1 C4 D4 C5 D5
    generalize chk zs = x1 at C2 D2 C3 D3 C7 D7
    generalize oneErr x = xo at C6 D6
    generalize cmpAt zs ys 0 = xc at C8 D8
    clear hx1 hx2
    go_enter Tryd.func4, Tryd.ntmps4
    go_wp2_with fail
    refine (lives_any _).mono ?_
    rintro e w1 ⟨rfl, hb1⟩
    have HB := Lib.hid hb1
    replace HL := Lib.hid (HL.out.below hb1)
    clear hb1
    go_wp2_with fail
    refine (HLo _).out.mono ?_
    rintro e w2 ⟨rfl, rfl⟩
    clear HLo
    go_wp2_with fail
    refine (C1 _ _ _ (HL.out 0 _ rfl) (HL.out 1 _ rfl)).out.mono ?_
    rintro e q2 ⟨r2, rfl, hi, hb⟩
    replace HL := Lib.hid (HL.out.step hb hi); replace HB := Lib.hid (HB.out.trans (hb.mono HB.out.size))
    clear hi hb C1
    go_wp2_with fail
    refine (D1 _ _ _ (HL.out 0 _ rfl) (HL.out 1 _ rfl)).out.mono ?_
    rintro e q3 ⟨r3, rfl, hi, hb⟩
    replace HL := Lib.hid (HL.out.step hb hi); replace HB := Lib.hid (HB.out.trans (hb.mono HB.out.size))
    clear hi hb D1
    go_wp2_with fail
    refine (C2 _ _ (HL.out 0 _ rfl)).out.mono ?_
    rintro e q4 ⟨r4, rfl, hi, hb⟩
    replace HL := Lib.hid (HL.out.step hb hi); replace HB := Lib.hid (HB.out.trans (hb.mono HB.out.size))
    clear hi hb C2
    go_wp2_with fail
    refine (D2 _ _ (HL.out 0 _ rfl)).out.mono ?_
    rintro e q5 ⟨r5, rfl, hi, hb⟩
    replace HL := Lib.hid (HL.out.step hb hi); replace HB := Lib.hid (HB.out.trans (hb.mono HB.out.size))
    clear hi hb D2
    go_wp2_with fail
    refine (C3 _ _ (HL.out 0 _ rfl)).out.mono ?_
    rintro e q6 ⟨r6, rfl, hi, hb⟩
    replace HL := Lib.hid (HL.out.step hb hi); replace HB := Lib.hid (HB.out.trans (hb.mono HB.out.size))
    clear hi hb C3
    go_wp2_with fail
    refine (D3 _ _ (HL.out 0 _ rfl)).out.mono ?_
    rintro e q7 ⟨r7, rfl, hi, hb⟩
    replace HL := Lib.hid (HL.out.step hb hi); replace HB := Lib.hid (HB.out.trans (hb.mono HB.out.size))
    clear hi hb D3
    go_wp2_with fail
    refine (C4 _ _ _ (HL.out 0 _ rfl) (HL.out 1 _ rfl)).out.mono ?_
    rintro e q8 ⟨r8, rfl, hi, hb⟩
    replace HL := Lib.hid (HL.out.step hb hi); replace HB := Lib.hid (HB.out.trans (hb.mono HB.out.size))
    clear hi hb C4
    go_wp2_with fail
    refine (D4 _ _ _ (HL.out 0 _ rfl) (HL.out 1 _ rfl)).out.mono ?_
    rintro e q9 ⟨r9, rfl, hi, hb⟩
    replace HL := Lib.hid (HL.out.step hb hi); replace HB := Lib.hid (HB.out.trans (hb.mono HB.out.size))
    clear hi hb D4
    go_wp2_with fail
    refine (C5 _ _ _ (HL.out 0 _ rfl) (HL.out 1 _ rfl)).out.mono ?_
    rintro e q10 ⟨r10, rfl, hi, hb⟩
    replace HL := Lib.hid (HL.out.step hb hi); replace HB := Lib.hid (HB.out.trans (hb.mono HB.out.size))
    clear hi hb C5
    go_wp2_with fail
    refine (D5 _ _ _ (HL.out 0 _ rfl) (HL.out 1 _ rfl)).out.mono ?_
    rintro e q11 ⟨r11, rfl, hi, hb⟩
    replace HL := Lib.hid (HL.out.step hb hi); replace HB := Lib.hid (HB.out.trans (hb.mono HB.out.size))
    clear hi hb D5
    go_wp2_with fail
    refine (C6 _).out.mono ?_
    rintro e q12 ⟨r12, rfl, hi, hb⟩
    replace HL := Lib.hid (HL.out.step hb hi); replace HB := Lib.hid (HB.out.trans (hb.mono HB.out.size))
    clear hi hb C6
    go_wp2_with fail
    refine (D6 _).out.mono ?_
    rintro e q13 ⟨r13, rfl, hi, hb⟩
    replace HL := Lib.hid (HL.out.step hb hi); replace HB := Lib.hid (HB.out.trans (hb.mono HB.out.size))
    clear hi hb D6
    go_wp2_with fail
    refine (sameR l1 _ _ _ L1.out (HL.out 2 _ rfl) (HL.out 3 _ rfl)).mono ?_
    rintro e q ⟨rfl, hm⟩
    replace HL := Lib.hid (HL.out.below (drawnB _ hm)); replace HB := Lib.hid (HB.out.trans (drawnB _ hm))
    clear hm
    go_wp2_with fail
    refine (sameR l2 _ _ _ L2.out (HL.out 4 _ rfl) (HL.out 5 _ rfl)).mono ?_
    rintro e q ⟨rfl, hm⟩
    replace HL := Lib.hid (HL.out.below (drawnB _ hm)); replace HB := Lib.hid (HB.out.trans (drawnB _ hm))
    clear hm
    go_wp2_with fail
    refine (sameR l3 _ _ _ L3.out (HL.out 6 _ rfl) (HL.out 7 _ rfl)).mono ?_
    rintro e q ⟨rfl, hm⟩
    replace HL := Lib.hid (HL.out.below (drawnB _ hm)); replace HB := Lib.hid (HB.out.trans (drawnB _ hm))
    clear hm
    go_wp2_with fail
    refine (sameR l4 _ _ _ L4.out (HL.out 8 _ rfl) (HL.out 9 _ rfl)).mono ?_
    rintro e q ⟨rfl, hm⟩
    replace HL := Lib.hid (HL.out.below (drawnB _ hm)); replace HB := Lib.hid (HB.out.trans (drawnB _ hm))
    clear hm
    go_wp2_with fail
    refine (sameR l5 _ _ _ L5.out (HL.out 10 _ rfl) (HL.out 11 _ rfl)).mono ?_
    rintro e q ⟨rfl, hm⟩
    replace HL := Lib.hid (HL.out.below (drawnB _ hm)); replace HB := Lib.hid (HB.out.trans (drawnB _ hm))
    clear hm
    go_wp2_with fail
    refine (sameR l6 _ _ _ L6.out (HL.out 12 _ rfl) (HL.out 13 _ rfl)).mono ?_
    rintro e q ⟨rfl, hm⟩
    replace HL := Lib.hid (HL.out.below (drawnB _ hm)); replace HB := Lib.hid (HB.out.trans (drawnB _ hm))
    clear hm
    go_wp2_with fail
    refine (C7 _ _ (HL.out 0 _ rfl)).out.mono ?_
    rintro e q ⟨rfl, hb⟩
    replace HL := Lib.hid (HL.out.below hb); replace HB := Lib.hid (HB.out.trans (hb.mono HB.out.size))
    clear hb
    go_wp2_with fail
    refine (D7 _ _ (HL.out 0 _ rfl)).out.mono ?_
    rintro e q ⟨rfl, hb⟩
    replace HL := Lib.hid (HL.out.below hb); replace HB := Lib.hid (HB.out.trans (hb.mono HB.out.size))
    clear hb
    go_wp2_with fail
    refine (C8 _ _ _ (HL.out 0 _ rfl) (HL.out 1 _ rfl)).out.mono ?_
    rintro e q ⟨rfl, hq⟩
    subst hq
    go_wp2_with fail
    refine (D8 _ _ _ (HL.out 0 _ rfl) (HL.out 1 _ rfl)).out.mono ?_
    rintro e q ⟨rfl, hm⟩
    replace HB := Lib.hid (HB.out.trans (drawnB _ hm))
    clear hm
    go_wp2_with fail
    go_ret
    exact ⟨rfl, HB.out⟩
end Go.Proofs.YtpchomhfpfpckaaDoor
