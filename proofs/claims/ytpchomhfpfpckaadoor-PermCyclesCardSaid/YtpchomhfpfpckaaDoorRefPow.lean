/- The reference's Pow. -/
import Derived.Test.YtpchomhfpfpckaaDoorRefAll2
import Derived.Test.YtpchomhfpfpckaaDoorCycMath
import Derived.Test.YtpchomhfpfpckaaDoorPow2
import Derived.Test.YtpchomhfpfpckaaDoorRefPerm
import Derived.StillTailTactics
namespace Go.Proofs.YtpchomhfpfpckaaDoor
open Go Go.RowKit

theorem pickV_mod (x n : Int) (hn : 1 ≤ n) : pickV x n = x % n := by
  have h1 := Int.emod_nonneg x (show n ≠ 0 by omega)
  have h2 := Int.emod_lt_of_pos x (show 0 < n by omega)
  unfold pickV
  rw [Int.tmod_eq_emod]
  split <;> split <;> omega
theorem pick_pick (x : Int) (t : Nat) (n : Int) (hn : 1 ≤ n) : pickV (pickV x n + t) n = ((t : Int) + x) % n := by
  rw [pickV_mod _ _ hn, pickV_mod _ _ hn, Int.emod_add_emod, Int.add_comm]

/-- The result, as far as its points are done. -/
def pwF (r D : List Int) (j : Nat) : Int := if (j : Int) ∈ D then r.getD j 0 else 0
/-- What Pow's loops keep: only the new list turns. -/
def PwAt (w3 : World) (TP n : Nat) (r D : List Int) (wr : World) : Prop :=
  Row wr TP 3 (Tab n (pwF r D)) ∧ Below TP w3 wr ∧ ∀ i, i ≠ TP → wr.heap[i]? = w3.heap[i]?
theorem PwAt.step {w3 wr : World} {TP n j : Nat} {r D : List Int} {y : Int} (h : PwAt w3 TP n r D wr) (hy : r.getD j 0 = y) : PwAt w3 TP n r (D ++ [(j : Int)]) (wr.drew.setCell ⟨TP, j, none⟩ (.int .i64 y)) := by
  obtain ⟨h1, h2, h3⟩ := h
  refine ⟨?_, h2.drew.setCell (p := ⟨TP, j, none⟩) (Nat.le_refl _) _, fun i hi => (Below.heap_setCell wr.drew ⟨TP, j, none⟩ _ i hi).trans (h3 i hi)⟩
  have h1' : Row wr.drew TP 3 (Tab n (pwF r D)) := h1
  have := h1'.set j (.int .i64 y)
  rw [Tab_set, Tab_congr n _ (pwF r (D ++ [(j : Int)])) (fun i _ => ?_)] at this
  · exact this
  · unfold pwF
    by_cases e : i = j
    · subst e; simp only [if_true]; rw [if_pos (by simp)]; exact hy.symm
    · have e' : ¬ (i : Int) = j := by omega
      simp [e, e']
theorem PwAt.cell {w3 wr : World} {TP n : Nat} {r D : List Int} (h : PwAt w3 TP n r D wr) {p : Addr} (hp : p.block ≠ TP) : wr.cell? p = w3.cell? p := World.cell?_of_block (h.2.2 _ hp)

theorem walk_len (zs : List Int) : ∀ (f : Nat) (S : List Int) (i : Int), (walk zs f S i).length ≤ f := by
  intro f
  induction f with
  | zero => intro S i; simp [walk]
  | succ f ih =>
    intro S i
    rw [walk]
    split
    · simp
    · have := ih (S ++ [i]) (zs.getD i.toNat 0); simp; exact this
theorem cyc_len (zs : List Int) : ∀ k, ∀ c ∈ (upTo zs k).2, c.length ≤ 65 := by
  intro k
  induction k with
  | zero => intro c h; simp [upTo] at h
  | succ k ih =>
    intro c h
    rw [upTo] at h
    split at h
    · exact ih c h
    · rcases List.mem_append.1 h with h | h
      · exact ih c h
      · rw [List.mem_singleton] at h; subst h; exact walk_len _ _ _ _

/-- The points of the first i cycles. -/
def ptsTo (cs : List (List Int)) (i : Nat) : List Int := (cs.take i).flatten
theorem ptsTo_succ {cs : List (List Int)} {i : Nat} (h : i < cs.length) : ptsTo cs (i + 1) = ptsTo cs i ++ cs.getD i [] := by
  unfold ptsTo
  rw [List.take_succ_eq_append_getElem h, List.flatten_append]
  simp [List.getD_eq_getElem?_getD, h]

set_option maxRecDepth 100000 in
set_option maxHeartbeats 2000000 in
theorem refPow_ok (v : Value) (zs : List Int) (x : Int) (w : World) (hz : chk zs = 0) (hv : Ints w w.heap.size v zs) :
    Calls Tryd.prog 38 #[v, .int .i64 x] w (PermErr 0 (powL zs x) w) := by
  obtain ⟨h1, h64, hf⟩ := chk_zero hz
  obtain ⟨b, o, c, rfl, hb, hc⟩ := hv.at_ (by omega)
  have HV := Lib.hid hv
  have HC := fun W h => Lib.hid (refCheck_any (.slice (some ⟨b, o, none⟩) zs.length c) zs W (by omega) h)
  rw [hz] at HC
  have HA := fun W hb hc => Lib.hid (all_walk b o c zs W hf h64 hb hc)
  have hP := powL_of (n := zs.length) ⟨zs, rfl, hf⟩ x
  obtain ⟨_, hU2, hU3, hU4⟩ := upOk hf h64 zs.length (Nat.le_refl _)
  have hrl : (powL zs x).length = zs.length := by rw [hP]; exact (zpow pmul (pone zs.length) pinv ⟨zs, rfl, hf⟩ x).2.1
  have hval : ∀ cl ∈ cycs zs, ∀ t, t < cl.length → 0 ≤ cl.getD t 0 ∧ cl.getD t 0 < (zs.length : Int) ∧ (powL zs x).getD (cl.getD t 0).toNat 0 = cl.getD (((t : Int) + x) % (cl.length : Int)).toNat 0 := fun cl hcl t ht => by
    have hcs := hU2 cl hcl
    obtain ⟨r0, r1⟩ := hcs.2.1 _ (getD_mem ht)
    refine ⟨r0, r1, ?_⟩
    rw [hP]
    exact zpow_along (n := zs.length) ⟨zs, rfl, hf⟩ hcs t ht x
  have hcov : ∀ j : Nat, j < zs.length → (j : Int) ∈ ptsTo (cycs zs) (cycs zs).length := fun j hj => by
    unfold ptsTo
    rw [List.take_length, show (cycs zs).flatten = (upTo zs zs.length).1 from hU4.symm]
    exact hU3 j hj
  have HVL := Lib.hid hval
  have HCV := Lib.hid hcov
  have HRL := Lib.hid hrl
  generalize powL zs x = r at HVL HRL
  have hlen65 : ∀ cl ∈ cycs zs, cl.length ≤ 65 := cyc_len zs zs.length
  have hclen : (cycs zs).length ≤ 64 := by have := upTo_len zs zs.length; unfold cycs; omega
  have HF := Lib.hid hf
  clear hU2 hU3 hU4 hP hval hcov hrl hz hf hv
  generalize hcy : cycs zs = cs at HVL HCV hclen hlen65
  have HCY := Lib.hid hcy
  have HL65 := Lib.hid hlen65
  clear hlen65
  clear hcy
  have hmk := make_ints zs.length (by omega)
  go_enter Tryd.func38, Tryd.ntmps38
  go_wp2_with fail
  refine ((HC _ HV.out).out).mono ?_
  rintro e w1 ⟨rfl, hb1⟩
  have HB := Lib.hid hb1
  have HH := Lib.hid (fun j (hj : j < zs.length) => (hb1.cell (p := ⟨b, o + j, none⟩) hb).trans (hc j hj))
  have hbs := hb1.size
  clear hb1 hc
  go_wp2_with fail
  refine ((HA _ (by simp; omega) (fun j hj => (World.cell?_alloc_lt w1 _ ⟨b, o + j, none⟩ (by simp; omega)).trans (HH.out j hj))).out).mono ?_
  rintro e w3 ⟨vo, ws, rfl, ho, hwl, hws, hb3⟩
  rw [HCY.out] at hwl hws
  have hpos : 0 < ws.length := by
    rw [hwl]
    apply Nat.pos_of_ne_zero
    intro e
    have := HCV.out 0 (by omega)
    rw [List.eq_nil_of_length_eq_zero e] at this
    simp [ptsTo] at this
  have hz1 : (w1.alloc (.cells (Tab zs.length fun _ => 0) 3)).heap.size = w1.heap.size + 1 := by simp
  rw [hz1] at ho hws hb3
  obtain ⟨g, cap, rfl, hg, hg'⟩ := owns_form ho hpos
  have hvo : ∀ i, i < ws.length → w3.cell? ⟨g, i, none⟩ = some (ws.getD i undef) := fun i hi => by rw [ho.cellAt i (by omega)]; simp [List.getD_eq_getElem?_getD, hi]
  have hP0 : PwAt w3 w1.heap.size zs.length r [] w3 := ⟨by
    have := (Row.new w1 3 (Tab zs.length fun _ => 0)).below hb3 (by omega)
    rwa [Tab_congr zs.length (fun _ => 0) (pwF r []) (fun i _ => by simp [pwF])] at this, Below.refl _ _, fun _ _ => rfl⟩
  have HP0 := Lib.hid hP0
  have HVO := Lib.hid hvo
  have HWS := Lib.hid hws
  have HB3 := Lib.hid ((HB.out.alloc (by omega) _).trans (hb3.mono (show w.heap.size ≤ w1.heap.size + 1 by omega)))
  have hs3 : w1.heap.size < w3.heap.size := by have := hb3.size; rw [hz1] at this; omega
  have HWL := Lib.hid hwl
  have hw64 : ws.length ≤ 64 := by omega
  clear ho hvo hP0 hws hb3 hz1 hmk HV HC HA hwl hclen
  go_wp2_with fail
  go_loopw [9] (fun i wr => ∃ k : Nat, i = .int .i64 k ∧ k ≤ ws.length ∧ PwAt w3 w1.heap.size zs.length r (ptsTo cs k) wr) (fun i _ => ws.length - (intOf i).toNat)
  case atStart => exact ⟨0, rfl, Nat.zero_le _, HP0.out⟩
  case round =>
    obtain ⟨k, rfl, hk, hP⟩ := hrel
    by_cases hlt : k < ws.length
    · obtain ⟨gc, cc, cur, hwv, hgT, hgB, hgr, hcu⟩ := HWS.out k hlt
      have hcell := (hP.cell (p := ⟨g, k, none⟩) (by simp; omega)).trans (HVO.out k hlt)
      rw [hwv] at hcell
      have hmem : cs.getD k [] ∈ cs := by simp [List.getD_eq_getElem?_getD, show k < cs.length by have := HWL.out; omega]
      have hl65 := HL65.out _ hmem
      have HVc := Lib.hid (HVL.out _ hmem)
      have HPS := Lib.hid (ptsTo_succ (cs := cs) (i := k) (by have := HWL.out; omega))
      have hcu3 : ∀ j, j < (cs.getD k []).length → w3.cell? ⟨gc, j, none⟩ = some (.int .i64 ((cs.getD k []).getD j 0)) := fun j hj => by simp [World.cell?, hgr, hcu j hj]
      have HCU := Lib.hid hcu3
      have HP := Lib.hid hP
      clear hwv hgr hcu hmem hcu3 hP
      generalize cs.getD k [] = cl at HVc HPS HCU hl65 hcell
      go_wp2_with fail
      go_loopw [11] (fun i w2 => ∃ t : Nat, i = .int .i64 t ∧ t ≤ cl.length ∧ PwAt w3 w1.heap.size zs.length r (ptsTo cs k ++ cl.take t) w2) (fun i _ => cl.length - (intOf i).toNat)
      case atStart => exact ⟨0, rfl, Nat.zero_le _, by simpa using HP.out⟩
      case round =>
        rename World => W2
        obtain ⟨t, rfl, ht, hP⟩ := hrel
        by_cases htl : t < cl.length
        · obtain ⟨r0, r1, r2⟩ := HVc.out t htl
          have hn1 : (1 : Int) ≤ (cl.length : Int) := by omega
          have hpp := pick_pick x t (cl.length : Int) hn1
          have hu0 := Int.emod_nonneg ((t : Int) + x) (show (cl.length : Int) ≠ 0 by omega)
          have hu1 := Int.emod_lt_of_pos ((t : Int) + x) (show 0 < (cl.length : Int) by omega)
          have hp1 := pickV_in x (cl.length : Int) hn1
          generalize ((t : Int) + x) % (cl.length : Int) = uu at r2 hpp hu0 hu1
          obtain ⟨u, rfl⟩ : ∃ u : Nat, uu = (u : Int) := ⟨uu.toNat, by omega⟩
          have hul : u < cl.length := by omega
          rw [Int.toNat_natCast] at r2
          have hct := (hP.cell (p := ⟨gc, t, none⟩) (by simp; omega)).trans (HCU.out t htl)
          have hcu' := (hP.cell (p := ⟨gc, u, none⟩) (by simp; omega)).trans (HCU.out u hul)
          have htk := take_more (l := cl) (k := t) htl
          generalize cl.getD u 0 = y at r2 hcu'
          generalize cl.getD t 0 = z at r0 r1 r2 hct htk
          obtain ⟨j, rfl⟩ : ∃ j : Nat, z = (j : Int) := ⟨z.toNat, by omega⟩
          rw [Int.toNat_natCast] at r2
          have hjl : j < zs.length := by omega
          have hN := hP.step (j := j) (y := y) r2
          rw [List.append_assoc, ← htk] at hN
          have HN := Lib.hid hN
          have hcj := hP.1.cell (Tab_get zs.length (pwF r (ptsTo cs k ++ cl.take t)) j hjl)
          have hfj := hP.1.frozen j
          generalize pwF r (ptsTo cs k ++ cl.take t) j = old at hcj
          have HPk := fun W => Lib.hid (pick_any x (cl.length : Int) W hn1 (by omega))
          have HPk2 := fun W => Lib.hid (pick_any (pickV x (cl.length : Int) + t) (cl.length : Int) W hn1 (by omega))
          rw [hpp] at HPk2
          generalize pickV x (cl.length : Int) = p1 at HPk HPk2 hp1
          have hwr : IntKind.i64.wrap (p1 + (t : Int)) = p1 + t := IntWalk.i64_in _ (by omega)
          clear hP hN htk hpp r2 HP HVc
          go_wp2_with fail
          go_still_tail 18, (by kernel_rfl)
          still_call (HPk _).out
          repeat still_step
          still_call (HPk2 _).out
          repeat still_step
          refine wpStill_nil ?_
          change wpList _ _ _ _ _ W2.drew
          go_wp2_with fail
          go_roundw
          case rel => exact ⟨t + 1, by go_num, by omega, HN.out⟩
          case measure => simp [intOf]; omega
        · have htt : t = cl.length := by omega
          rw [htt, List.take_length, ← HPS.out] at hP
          have HPN := Lib.hid hP
          clear hP HP HVc htt
          go_wp2_with fail
          go_roundw
          case rel => exact ⟨k + 1, by go_num, by omega, HPN.out⟩
          case measure => simp [intOf]; omega
    · have hkk : k = cs.length := by have := HWL.out; omega
      subst hkk
      have hrow := hP.1
      rw [Tab_congr zs.length _ (fun i => r.getD i 0) (fun i hi => by unfold pwF; rw [if_pos (HCV.out i hi)])] at hrow
      have hI : Ints wr wr.heap.size (.slice (some ⟨w1.heap.size, 0, none⟩) zs.length zs.length) r := by
        have hr := HRL.out
        rw [← hr] at hrow ⊢
        exact Row.ints hrow
      have HI := Lib.hid hI
      have HBF := Lib.hid (HB3.out.trans (hP.2.1.mono (show w.heap.size ≤ w1.heap.size by omega)))
      clear hP hrow hI
      go_wp2_with fail
      go_ret2
      exact ⟨_, rfl, HBF.out, fun _ => HI.out, fun h => absurd rfl h⟩
end Go.Proofs.YtpchomhfpfpckaaDoor
