/- cayleylaw02.WordCalls: written by genwcalls.py. -/
import Derived.Test.YtbcjabmgiodfiabGreatDoorWCycAny
import Derived.Test.YtbcjabmgiodfiabGreatDoorWRefCmp
import Derived.Test.YtbcjabmgiodfiabGreatDoorWChk
import Derived.Test.YtbcjabmgiodfiabGreatDoorWOwn
namespace Go.Proofs.YtbcjabmgiodfiabGreatDoor
open Go Go.RowKit

theorem Live.push {w w' : World} {L : List (Value × List Int)} {r : Value} {l : List Int} (h : Live w L) (hb : Below w.heap.size w w') (hi : Ints w' w'.heap.size r l) : Live w' ((r, l) :: L) := fun i p hp => by
  cases i with
  | zero =>
    have e : p = (r, l) := by simpa using hp.symm
    subst e
    exact hi
  | succ i => exact h.below hb i p (by simpa using hp)
theorem sameR (v u : Value) (zs : List Int) (w : World) (hl : zs.length ≤ 1000000) (hv : Ints w w.heap.size v zs) (hu : Ints w w.heap.size u zs) :
    Calls Tryz.prog 8 #[v, u] w fun e w' => e = .returned (.bool true) ∧ ∃ n, w' = w.drewN n := by
  have h := same_any w.heap.size v u zs zs w (by omega) hv hu
  rwa [sameB_eq rfl] at h

theorem isCyc_len {zs l : List Int} (h : IsCyc zs l) (hz : zs.length ≤ 300) : l.length ≤ 1000000 := by
  obtain ⟨k, _, rfl⟩ := h
  have := red_length zs
  simp [midW]
  omega

set_option maxRecDepth 100000 in
set_option maxHeartbeats 8000000 in
theorem wcalls_any (va vb : Value) (a b : List Int) (g : Int) (w : World) (ra : Rng a) (rb : Rng b)
    (hva : Ints w w.heap.size va a) (hvb : Ints w w.heap.size vb b)
    (htab : Lib.TabIs Tryz.prog w "internal/strconv.uint64pow10" .u64 Lib.pow10Tab) :
    Calls Tryz.prog 3 #[va, vb, .int .i64 g] w fun e w' => e = .returned (.bool true) ∧ Below w.heap.size w w' := by
  have HT := Lib.hid (lives_any w htab)
  have HL0 : Live w [(va, a), (vb, b)] := fun i p hp => by
    match i, hp with
    | 0, hp => injection hp with hp; subst hp; exact hva
    | 1, hp => injection hp with hp; subst hp; exact hvb
  have HL := Lib.hid HL0
  obtain ⟨Aa, ca, rfl⟩ := hva.form
  obtain ⟨Ab, cb, rfl⟩ := hvb.form
  have HRa := Lib.hid ra
  have HRb := Lib.hid rb
  clear hva hvb htab HL0 ra rb
  have HLo := fun (W : World) h => Lib.hid (long_any (.slice (some ⟨W.heap.size, 0, none⟩) 2 2) [(.slice Aa a.length ca, a), (.slice Ab b.length cb, b)] (W.alloc (.cells #[.slice Aa a.length ca, .slice Ab b.length cb] 23)) (by simp) h)
  go_enter Tryz.func3, Tryz.ntmps3
  go_wp2_with fail
  refine (HT.out).mono ?_
  rintro e w0 ⟨rfl, hb⟩
  replace HL := Lib.hid (HL.out.below hb)
  have HB := Lib.hid hb
  clear hb HT
  have HLs := Lib.hid (lists_new w0 [(.slice Aa a.length ca, a), (.slice Ab b.length cb, b)] 2 (fun p hp => by
    simp at hp
    rcases hp with rfl | rfl
    · exact HL.out 0 _ rfl
    · exact HL.out 1 _ rfl))
  go_wp2_with fail
  refine ((HLo _ HLs.out).out).mono ?_
  rintro e wl ⟨rfl, hwl⟩
  replace HL := Lib.hid (HL.out.below (show Below w0.heap.size w0 wl by rw [← hwl]; exact (Below.refl _ w0).alloc (Nat.le_refl _) _))
  replace HB := Lib.hid (HB.out.trans (show Below w.heap.size w0 wl by rw [← hwl]; exact (Below.refl _ w0).alloc HB.out.size _))
  clear hwl HLs HLo
  cases hlong : longB [(.slice Aa a.length ca, a), (.slice Ab b.length cb, b)] with
  | true =>
    go_wp2_with fail
    go_ret
    exact ⟨rfl, HB.out⟩
  | false =>
  have h300 : a.length ≤ 300 ∧ b.length ≤ 300 := by
    simp [longB] at hlong
    omega
  obtain ⟨h1, h2⟩ := h300
  clear hlong
  have La := Lib.hid (show (red a).length ≤ 1000000 from Nat.le_trans (red_length a) (by omega))
  have Lia := Lib.hid (show (red (winv a)).length ≤ 1000000 from Nat.le_trans (red_length _) (by rw [winv_length]; omega))
  have Lab := Lib.hid (show (wmul a b).length ≤ 1000000 from Nat.le_trans (red_length _) (by simp; omega))
  have Lcj := Lib.hid (show (red (winv b ++ a ++ b)).length ≤ 1000000 from Nat.le_trans (red_length _) (by simp [winv_length]; omega))
  have Lcm := Lib.hid (show (red (winv a ++ winv b ++ a ++ b)).length ≤ 1000000 from Nat.le_trans (red_length _) (by simp [winv_length]; omega))
  have hcm : (cmpW a b == cmpW a b) = true := by simp
  have hck : (chkW g a == chkW g a) = true := by simp
  have HCm := fun v u W x y => Lib.hid (Cmp_any v u a b W (by omega) (by omega) HRa.out HRb.out x y)
  have HCr := fun v u W x y => Lib.hid (refCmp_any v u a b W (by omega) (by omega) HRa.out HRb.out x y)
  have HCk := fun v W x => Lib.hid (Check_any g v a W (by omega) HRa.out x)
  have HCq := fun v W x => Lib.hid (refCheck_any g v a W (by omega) x)
  generalize cmpW a b = cm at hcm HCm HCr
  generalize chkW g a = ck at hck HCk HCq
  go_wp2_with fail
  refine (ownB_any _ a _ (by omega) (HL.out 0 _ rfl)).mono ?_
  rintro e w1 ⟨r1, rfl, ho, hb⟩
  replace HL := Lib.hid (HL.out.push hb ho.ints)
  replace HB := Lib.hid (HB.out.trans (hb.mono HB.out.size))
  clear ho hb
  go_wp2_with fail
  refine (ownB_any _ b _ (by omega) (HL.out 2 _ rfl)).mono ?_
  rintro e w2 ⟨r2, rfl, ho, hb⟩
  replace HL := Lib.hid (HL.out.push hb ho.ints)
  replace HB := Lib.hid (HB.out.trans (hb.mono HB.out.size))
  clear ho hb
  go_wp2_with fail
  refine (Reduce_any _ a _ (by omega) HRa.out (HL.out 2 _ rfl)).mono ?_
  rintro e w3 ⟨r3, rfl, ho, hb⟩
  replace HL := Lib.hid (HL.out.push hb ho.ints)
  replace HB := Lib.hid (HB.out.trans (hb.mono HB.out.size))
  clear ho hb
  go_wp2_with fail
  refine (refReduce_any _ a _ (by omega) HRa.out (HL.out 2 _ rfl)).mono ?_
  rintro e w4 ⟨r4, rfl, ho, hb⟩
  replace HL := Lib.hid (HL.out.push hb ho.ints)
  replace HB := Lib.hid (HB.out.trans (hb.mono HB.out.size))
  clear ho hb
  go_wp2_with fail
  have HS := Lib.hid (sameR _ _ _ _ La.out (HL.out 1 _ rfl) (HL.out 0 _ rfl))
  with_reducible refine (HS.out).mono ?_
  rintro e w5 ⟨rfl, hm⟩
  replace HL := Lib.hid (HL.out.drawn hm)
  replace HB := Lib.hid (HB.out.trans (below_drawn _ hm))
  clear hm HS
  go_wp2_with fail
  refine (Invert_any _ a _ (by omega) HRa.out (HL.out 4 _ rfl) HRa.out.winv).mono ?_
  rintro e w6 ⟨r6, rfl, ho, hb⟩
  replace HL := Lib.hid (HL.out.push hb ho.ints)
  replace HB := Lib.hid (HB.out.trans (hb.mono HB.out.size))
  clear ho hb
  go_wp2_with fail
  refine (refInvert_any _ a _ (by omega) HRa.out (HL.out 4 _ rfl) HRa.out.winv).mono ?_
  rintro e w7 ⟨r7, rfl, ho, hb⟩
  replace HL := Lib.hid (HL.out.push hb ho.ints)
  replace HB := Lib.hid (HB.out.trans (hb.mono HB.out.size))
  clear ho hb
  go_wp2_with fail
  have HS := Lib.hid (sameR _ _ _ _ Lia.out (HL.out 1 _ rfl) (HL.out 0 _ rfl))
  with_reducible refine (HS.out).mono ?_
  rintro e w8 ⟨rfl, hm⟩
  replace HL := Lib.hid (HL.out.drawn hm)
  replace HB := Lib.hid (HB.out.trans (below_drawn _ hm))
  clear hm HS
  go_wp2_with fail
  refine (Mul_any _ _ a b _ (by omega) (by omega) HRa.out HRb.out (HL.out 6 _ rfl) (HL.out 7 _ rfl)).mono ?_
  rintro e w9 ⟨r9, rfl, ho, hb⟩
  replace HL := Lib.hid (HL.out.push hb ho.ints)
  replace HB := Lib.hid (HB.out.trans (hb.mono HB.out.size))
  clear ho hb
  go_wp2_with fail
  refine (refMul_any _ _ a b _ (by omega) (by omega) HRa.out HRb.out (HL.out 6 _ rfl) (HL.out 5 _ rfl)).mono ?_
  rintro e w10 ⟨r10, rfl, ho, hb⟩
  replace HL := Lib.hid (HL.out.push hb ho.ints)
  replace HB := Lib.hid (HB.out.trans (hb.mono HB.out.size))
  clear ho hb
  go_wp2_with fail
  have HS := Lib.hid (sameR _ _ _ _ Lab.out (HL.out 1 _ rfl) (HL.out 0 _ rfl))
  with_reducible refine (HS.out).mono ?_
  rintro e w11 ⟨rfl, hm⟩
  replace HL := Lib.hid (HL.out.drawn hm)
  replace HB := Lib.hid (HB.out.trans (below_drawn _ hm))
  clear hm HS
  go_wp2_with fail
  refine (Conj_any _ _ a b _ (by omega) (by omega) HRa.out HRb.out (HL.out 8 _ rfl) (HL.out 9 _ rfl)).mono ?_
  rintro e w12 ⟨r12, rfl, ho, hb⟩
  replace HL := Lib.hid (HL.out.push hb ho.ints)
  replace HB := Lib.hid (HB.out.trans (hb.mono HB.out.size))
  clear ho hb
  go_wp2_with fail
  refine (refConj_any _ _ a b _ (by omega) (by omega) HRa.out HRb.out (HL.out 8 _ rfl) (HL.out 7 _ rfl)).mono ?_
  rintro e w13 ⟨r13, rfl, ho, hb⟩
  replace HL := Lib.hid (HL.out.push hb ho.ints)
  replace HB := Lib.hid (HB.out.trans (hb.mono HB.out.size))
  clear ho hb
  go_wp2_with fail
  have HS := Lib.hid (sameR _ _ _ _ Lcj.out (HL.out 1 _ rfl) (HL.out 0 _ rfl))
  with_reducible refine (HS.out).mono ?_
  rintro e w14 ⟨rfl, hm⟩
  replace HL := Lib.hid (HL.out.drawn hm)
  replace HB := Lib.hid (HB.out.trans (below_drawn _ hm))
  clear hm HS
  go_wp2_with fail
  refine (Comm_any _ _ a b _ (by omega) (by omega) HRa.out HRb.out (HL.out 10 _ rfl) (HL.out 11 _ rfl)).mono ?_
  rintro e w15 ⟨r15, rfl, ho, hb⟩
  replace HL := Lib.hid (HL.out.push hb ho.ints)
  replace HB := Lib.hid (HB.out.trans (hb.mono HB.out.size))
  clear ho hb
  go_wp2_with fail
  refine (refComm_any _ _ a b _ (by omega) (by omega) HRa.out HRb.out (HL.out 10 _ rfl) (HL.out 9 _ rfl)).mono ?_
  rintro e w16 ⟨r16, rfl, ho, hb⟩
  replace HL := Lib.hid (HL.out.push hb ho.ints)
  replace HB := Lib.hid (HB.out.trans (hb.mono HB.out.size))
  clear ho hb
  go_wp2_with fail
  have HS := Lib.hid (sameR _ _ _ _ Lcm.out (HL.out 1 _ rfl) (HL.out 0 _ rfl))
  with_reducible refine (HS.out).mono ?_
  rintro e w17 ⟨rfl, hm⟩
  replace HL := Lib.hid (HL.out.drawn hm)
  replace HB := Lib.hid (HB.out.trans (below_drawn _ hm))
  clear hm HS
  go_wp2_with fail
  refine (CyclicR_any _ a _ (by omega) HRa.out (HL.out 12 _ rfl)).mono ?_
  rintro e w18 ⟨l1, hc1, r18, rfl, ho, hb⟩
  replace HL := Lib.hid (HL.out.push hb ho)
  replace HB := Lib.hid (HB.out.trans (hb.mono HB.out.size))
  clear ho hb
  go_wp2_with fail
  refine (refCyclic_any _ a _ (by omega) HRa.out (HL.out 12 _ rfl)).mono ?_
  rintro e w19 ⟨l2, hc2, r19, rfl, ho, hb⟩
  replace HL := Lib.hid (HL.out.push hb ho)
  replace HB := Lib.hid (HB.out.trans (hb.mono HB.out.size))
  clear ho hb
  obtain rfl := hc1.one hc2
  have Lcy := Lib.hid (isCyc_len hc1 (by omega))
  clear hc1 hc2
  go_wp2_with fail
  have HS := Lib.hid (sameR _ _ _ _ Lcy.out (HL.out 1 _ rfl) (HL.out 0 _ rfl))
  with_reducible refine (HS.out).mono ?_
  rintro e w20 ⟨rfl, hm⟩
  replace HL := Lib.hid (HL.out.drawn hm)
  replace HB := Lib.hid (HB.out.trans (below_drawn _ hm))
  clear hm HS
  go_wp2_with fail
  refine ((HCm _ _ _ (HL.out 14 _ rfl) (HL.out 15 _ rfl)).out).mono ?_
  rintro e w21 ⟨rfl, hq⟩
  subst hq
  go_wp2_with fail
  refine ((HCr _ _ _ (HL.out 13 _ rfl) (HL.out 12 _ rfl)).out).mono ?_
  rintro e w22 ⟨rfl, hm⟩
  replace HL := Lib.hid (HL.out.drawn hm)
  replace HB := Lib.hid (HB.out.trans (below_drawn _ hm))
  clear hm
  go_wp2_with fail
  refine ((HCk _ _ (HL.out 14 _ rfl)).out).mono ?_
  rintro e w23 ⟨rfl, hq⟩
  subst hq
  go_wp2_with fail
  refine ((HCq _ _ (HL.out 13 _ rfl)).out).mono ?_
  rintro e w24 ⟨rfl, hq⟩
  subst hq
  go_wp2_with fail
  have HS := Lib.hid (sameR (.slice Aa a.length ca) r1 a _ (by omega) (HL.out 14 _ rfl) (HL.out 13 _ rfl))
  with_reducible refine (HS.out).mono ?_
  rintro e w25 ⟨rfl, hm⟩
  replace HL := Lib.hid (HL.out.drawn hm)
  replace HB := Lib.hid (HB.out.trans (below_drawn _ hm))
  clear hm HS
  go_wp2_with fail
  have HS := Lib.hid (sameR (.slice Ab b.length cb) r2 b _ (by omega) (HL.out 15 _ rfl) (HL.out 12 _ rfl))
  with_reducible refine (HS.out).mono ?_
  rintro e w26 ⟨rfl, hm⟩
  replace HL := Lib.hid (HL.out.drawn hm)
  replace HB := Lib.hid (HB.out.trans (below_drawn _ hm))
  clear hm HS
  go_wp2_with fail
  go_ret
  exact ⟨rfl, HB.out⟩
end Go.Proofs.YtbcjabmgiodfiabGreatDoor
