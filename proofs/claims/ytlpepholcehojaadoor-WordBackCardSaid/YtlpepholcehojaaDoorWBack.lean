/- cayleylaw02.WordBack: the walk. -/
import Derived.Test.YtlpepholcehojaaDoorWBackM
import Derived.Test.YtlpepholcehojaaDoorWPowG
import Derived.Test.YtlpepholcehojaaDoorWOps
import Derived.Test.YtlpepholcehojaaDoorWPow
import Derived.OrdersHeld
import Derived.OrdersIn
import Derived.Deep.RegionHeld
namespace Go.Proofs.YtlpepholcehojaaDoor
open Go Go.RowKit

/-- Number i may be taken first; the frame written out. -/
theorem takeH {P : Program} {md : Region.Mode} {ops : Array Oper} {Q : Exit → Act → World → Prop} {S : World → Prop} {i d : Nat} {oi : Oper} {v : Value} {fuel : Nat} {listed : Array Bool} {T : Array Value} {D : List Deferred} {w : World} (hi : ops[i]? = some oi) (hd : oi.dst = some d)
    (hs : Region.noSelect ops = true) (hf : Region.free md ops listed i = true) (hr : (Region.ready md ops listed).contains i = true)
    (hQ : ∀ c a w, Q (.panic c) (a.put oi.dst v) w → Q (.panic c) a w) (hw : Region.wanted oi (yielded ops T) = true) (hv : ∀ w, S w → (execOp (Act.eval { tmps := T, defers := D }) oi).run P w = .ok (.value v) w) (hS : S w)
    (h : wpAnyH P md ops Q S fuel (listed.setIfInBounds i true) { tmps := T.setIfInBounds d v, defers := D } w) : wpAnyH P md ops Q S (fuel + 1) listed { tmps := T, defers := D } w :=
  wpAnyH_take hi hs hf hr hQ (Or.inl ⟨hw, hv⟩) hS (by rw [hd]; exact h)
theorem subW_lets {ims : List (List Int)} (h : ∀ i, Lets (ims.getD i [])) : ∀ zs : List Int, Lets (subW ims zs)
  | [] => fun x hx => by simp [subW] at hx
  | x :: zs => by
    have e2 : subW ims (x :: zs) = letW ims x ++ subW ims zs := by simp [subW]
    rw [e2]
    refine Lets.append ?_ (subW_lets h zs)
    unfold letW
    split
    · exact h _
    · exact (h _).winv
theorem Lists.onB2 {w w' : World} {v : Value} {ps : List (Value × List Int)} (h : Lists w w.heap.size v ps) (hb : Below w.heap.size w w') : Lists w' w'.heap.size v ps := by
  obtain ⟨⟨A, c, e, h1⟩, h2⟩ := h
  exact ⟨⟨A, c, e, fun h0 => by
    obtain ⟨b, o, e2, hb2, hc⟩ := h1 h0
    exact ⟨b, o, e2, Nat.lt_of_lt_of_le hb2 hb.size, fun j p hp => (hb.cell (p := ⟨b, o + j, none⟩) hb2).trans (hc j p hp)⟩⟩, fun p hp => (h2 p hp).grow hb⟩
/-- What Subst gives for three words of letters. -/
structure SubF (ims : List (List Int)) (a b X Y Z : List Int) : Prop where
  ea : subE ims a = 0
  eb : subE ims b = 0
  ec : subE ims (wmul a b) = 0
  la : subL ims a = X
  lb : subL ims b = Y
  lc : subL ims (wmul a b) = Z
  eq : wmul X Y = Z
  lx : X.length ≤ 1000
  ly : Y.length ≤ 1000
  rx : Rng X
  ry : Rng Y
theorem sub_facts {ims : List (List Int)} {a b : List Int} (hn : ims.length = 4) (hl : ∀ i, (ims.getD i []).length ≤ 30) (hL : ∀ i, Lets (ims.getD i [])) (ha : ∀ x ∈ a, x ≠ 0 ∧ x.natAbs ≤ 4) (hb : ∀ x ∈ b, x ≠ 0 ∧ x.natAbs ≤ 4) (la : a.length ≤ 30) (lb : b.length ≤ 30) :
    SubF ims a b (red (subW ims a)) (red (subW ims b)) (wmul (red (subW ims a)) (red (subW ims b))) := by
  have hc : ∀ x ∈ wmul a b, x ≠ 0 ∧ x.natAbs ≤ 4 := fun x hx => by
    rcases List.mem_append.1 (red_mem hx) with h | h
    · exact ha x h
    · exact hb x h
  have lc : (wmul a b).length ≤ 60 := by
    have := red_length (a ++ b)
    simp only [List.length_append] at this
    show (red (a ++ b)).length ≤ 60
    omega
  have h1 := subE_zero hl (by rw [hn]; exact ha) (by omega)
  have h2 := subE_zero hl (by rw [hn]; exact hb) (by omega)
  have h3 := subE_zero hl (by rw [hn]; exact hc) (by omega)
  have g1 := red_length (subW ims a)
  have g2 := red_length (subW ims b)
  have g3 := subW_len hl a
  have g4 := subW_len hl b
  exact ⟨h1.1, h2.1, h3.1, h1.2, h2.2, by rw [h3.2]; exact subst_hom hL a b, rfl, by omega, by omega, (subW_lets hL a).red.rng, (subW_lets hL b).red.rng⟩

theorem lists4 (w : World) (v1 v2 v3 v4 : Value) (l1 l2 l3 l4 : List Int) (h1 : Ints w w.heap.size v1 l1) (h2 : Ints w w.heap.size v2 l2) (h3 : Ints w w.heap.size v3 l3) (h4 : Ints w w.heap.size v4 l4)
    (b1 : l1.length ≤ 30 ∧ Lets l1) (b2 : l2.length ≤ 30 ∧ Lets l2) (b3 : l3.length ≤ 30 ∧ Lets l3) (b4 : l4.length ≤ 30 ∧ Lets l4) :
    ∃ PS : List (Value × List Int), PS.length = 4 ∧ (∀ p ∈ PS, p.2.length ≤ 30 ∧ Lets p.2) ∧
      Lists (w.alloc (.cells #[v1, v2, v3, v4] 24)) (w.alloc (.cells #[v1, v2, v3, v4] 24)).heap.size (.slice (some ⟨w.heap.size, 0, none⟩) 4 4) PS := by
  have h := lists_new w [(v1, l1), (v2, l2), (v3, l3), (v4, l4)] 4 (fun p hp => by
    simp only [List.mem_cons, List.not_mem_nil, or_false] at hp
    rcases hp with rfl | rfl | rfl | rfl
    · exact h1
    · exact h2
    · exact h3
    · exact h4)
  refine ⟨[(v1, l1), (v2, l2), (v3, l3), (v4, l4)], rfl, fun p hp => ?_, h⟩
  simp only [List.mem_cons, List.not_mem_nil, or_false] at hp
  rcases hp with rfl | rfl | rfl | rfl
  · exact b1
  · exact b2
  · exact b3
  · exact b4
/-- Texts joined, as bytes. -/
theorem cat_power (a : List Int) (D : List UInt8) : (((⟨#[40]⟩ : ByteArray) ++ bytesOf (textA a)) ++ ⟨#[41, 94]⟩) ++ bytesOf D = bytesOf (40 :: (textA a ++ 41 :: 94 :: D)) := by
  apply ByteArray.ext
  simp [bytesOf]
theorem cat_comm (a b : List Int) : ((((⟨#[91]⟩ : ByteArray) ++ bytesOf (textA a)) ++ ⟨#[44]⟩) ++ bytesOf (textA b)) ++ ⟨#[93]⟩ = bytesOf (91 :: (textA a ++ 44 :: (textA b ++ [93]))) := by
  apply ByteArray.ext
  simp [bytesOf]

set_option maxRecDepth 100000 in
set_option maxHeartbeats 8000000 in
theorem wback_any (va vb vi : Value) (za zb zi : List Int) (n : Int) (w : World) (hva : Ints w w.heap.size va za) (hvb : Ints w w.heap.size vb zb) (hvi : IntsC w w.heap.size vi zi)
    (htab : Lib.TabIs Tryd.prog w "internal/strconv.uint64pow10" .u64 Lib.pow10Tab) :
    Calls Tryd.prog 3 #[va, vb, vi, .int .i64 n] w fun e w' => e = .returned (.bool true) ∧ Below w.heap.size w w' := by
  have HT := Lib.hid (lives_any w htab)
  have HTB := Lib.hid htab
  obtain ⟨Aa, ca, rfl⟩ := hva.form
  obtain ⟨Ab, cb, rfl⟩ := hvb.form
  obtain ⟨Ai, ci, hfi⟩ := hvi.ints.form
  subst hfi
  have HA := Lib.hid hva
  have HBb := Lib.hid hvb
  have HI := Lib.hid hvi
  clear hva hvb hvi htab
  go_enter Tryd.func3, Tryd.ntmps3
  go_wp2_with fail
  refine (HT.out).mono ?_
  rintro e w0 ⟨rfl, hb⟩
  have HB := Lib.hid hb
  clear hb HT
  by_cases h1 : 30 < za.length
  · have kd : decide ((30 : Int) < (za.length : Int)) = true := decide_eq_true (by omega)
    go_wp2_with fail
    go_ret
    exact ⟨rfl, HB.out⟩
  have kd1 : decide ((30 : Int) < (za.length : Int)) = false := decide_eq_false (by omega)
  by_cases h2 : 30 < zb.length
  · have kd : decide ((30 : Int) < (zb.length : Int)) = true := decide_eq_true (by omega)
    go_wp2_with fail
    go_ret
    exact ⟨rfl, HB.out⟩
  have kd2 : decide ((30 : Int) < (zb.length : Int)) = false := decide_eq_false (by omega)
  by_cases h3 : 30 < zi.length
  · have kd : decide ((30 : Int) < (zi.length : Int)) = true := decide_eq_true (by omega)
    go_wp2_with fail
    go_ret
    exact ⟨rfl, HB.out⟩
  have kd3 : decide ((30 : Int) < (zi.length : Int)) = false := decide_eq_false (by omega)
  have HN := Lib.hid (show za.length ≤ 30 ∧ zb.length ≤ 30 ∧ zi.length ≤ 30 from ⟨by omega, by omega, by omega⟩)
  clear h1 h2 h3
  go_wp2_with fail
  refine (letters_any _ za _ (by have := HN.out; omega) (HA.out.grow HB.out)).mono ?_
  rintro e w1 ⟨r1, rfl, ho, hb⟩
  obtain ⟨A1, c1, rfl⟩ := ho.len
  replace HA := Lib.hid ho.ints
  replace HB := Lib.hid (HB.out.trans (hb.mono HB.out.size))
  replace HBb := Lib.hid (HBb.out.grow HB.out)
  clear ho hb
  go_wp2_with fail
  refine (letters_any _ zb _ (by have := HN.out; omega) HBb.out).mono ?_
  rintro e w2 ⟨r2, rfl, ho, hb⟩
  obtain ⟨A2, c2, rfl⟩ := ho.len
  replace HA := Lib.hid (HA.out.grow hb)
  replace HBb := Lib.hid ho.ints
  replace HB := Lib.hid (HB.out.trans (hb.mono HB.out.size))
  clear ho hb kd1 kd2 kd3
  obtain ⟨k, hk⟩ : ∃ k : Nat, k = zi.length / 4 := ⟨_, rfl⟩
  obtain ⟨k2, hk2⟩ : ∃ k2 : Nat, k2 = 2 * k := ⟨_, rfl⟩
  obtain ⟨k3, hk3⟩ : ∃ k3 : Nat, k3 = 3 * k := ⟨_, rfl⟩
  have hkl : k3 ≤ zi.length := by omega
  have q1 : (zi.length : Int) / 4 = (k : Int) := by omega
  have q0 : RowKit.wrap64 (k : Int) = (k : Int) := by unfold RowKit.wrap64; have := HN.out; omega
  have u2 : IntKind.i64.wrap (k2 : Int) = (k2 : Int) := IntWalk.i64_in _ (by have := HN.out; omega)
  have u3 : IntKind.i64.wrap (k3 : Int) = (k3 : Int) := IntWalk.i64_in _ (by have := HN.out; omega)
  have q2 : (2 : Int) * (k : Int) = (k2 : Int) := by omega
  have q3 : (3 : Int) * (k : Int) = (k3 : Int) := by omega
  obtain ⟨Ax, cx, cut1, hI1⟩ := cut_preI HI.out (k := k) (by omega)
  obtain ⟨Ay, cy, cut2, hI2⟩ := cut_midC HI.out (lo := k) (hi := k2) (by omega) (by omega)
  obtain ⟨Az, cz, cut3, hI3⟩ := cut_midC HI.out (lo := k2) (hi := k3) (by omega) (by omega)
  obtain ⟨Aw, cw, cut4, hI4⟩ := cut_sufI HI.out (k := k3) (by omega)
  have J1 := Lib.hid hI1
  have J2 := Lib.hid hI2
  have J3 := Lib.hid hI3
  have J4 := Lib.hid hI4
  have HK := Lib.hid (show (zi.take k).length ≤ 30 ∧ ((zi.drop k).take (k2 - k)).length ≤ 30 ∧ ((zi.drop k2).take (k3 - k2)).length ≤ 30 ∧ (zi.drop k3).length ≤ 30 from by
    have := HN.out
    simp; omega)
  clear hI1 hI2 hI3 hI4 hk hk2 hk3 hkl HI
  go_wp2_with fail
  have HBw0 := Lib.hid (HB.out.trans (show Below w.heap.size w2 w2.drew from ⟨rfl, rfl, rfl, Nat.le_refl _, fun _ _ => rfl⟩))
  have HAw0 := Lib.hid (show Ints w2.drew w2.drew.heap.size _ _ from HA.out)
  have HBB0 := Lib.hid (show Ints w2.drew w2.drew.heap.size _ _ from HBb.out)
  refine wp_region_held_drew (S := (fun _ => True)) (by kernel_rfl) trivial (fun hHeld => ?_)
  generalize w2.drew = W0 at HBw0 HAw0 HBB0 hHeld ⊢
  clear HB HA HBb
  refine takeH (i := 0) (v := (.slice Ai zi.length ci)) rfl rfl (by kernel_rfl) (by kernel_rfl) (by kernel_rfl) (fun _ _ _ h => h) (by rfl) (fun W hW => by (skip); go_simp) (by assumption) ?_
  simp only [List.setIfInBounds_toArray, List.set_cons_zero, List.set_cons_succ]
  refine takeH (i := 1) (v := (.int .i64 k)) rfl rfl (by kernel_rfl) (by kernel_rfl) (by kernel_rfl) (fun _ _ _ h => h) (by rfl) (fun W hW => by (skip); go_simp) (by assumption) ?_
  simp only [List.setIfInBounds_toArray, List.set_cons_zero, List.set_cons_succ]
  refine takeH (i := 2) (v := (.slice Ax k cx)) rfl rfl (by kernel_rfl) (by kernel_rfl) (by kernel_rfl) (fun _ _ _ h => h) (by rfl) (fun W hW => by (skip); go_simp) (by assumption) ?_
  simp only [List.setIfInBounds_toArray, List.set_cons_zero, List.set_cons_succ]
  refine takeH (i := 4) (v := (.slice Ai zi.length ci)) rfl rfl (by kernel_rfl) (by kernel_rfl) (by kernel_rfl) (fun _ _ _ h => h) (by rfl) (fun W hW => by (skip); go_simp) (by assumption) ?_
  simp only [List.setIfInBounds_toArray, List.set_cons_zero, List.set_cons_succ]
  refine takeH (i := 5) (v := (.int .i64 k)) rfl rfl (by kernel_rfl) (by kernel_rfl) (by kernel_rfl) (fun _ _ _ h => h) (by rfl) (fun W hW => by (skip); go_simp) (by assumption) ?_
  simp only [List.setIfInBounds_toArray, List.set_cons_zero, List.set_cons_succ]
  refine takeH (i := 6) (v := (.int .i64 k)) rfl rfl (by kernel_rfl) (by kernel_rfl) (by kernel_rfl) (fun _ _ _ h => h) (by rfl) (fun W hW => by (skip); go_simp) (by assumption) ?_
  simp only [List.setIfInBounds_toArray, List.set_cons_zero, List.set_cons_succ]
  refine takeH (i := 7) (v := (.int .i64 k2)) rfl rfl (by kernel_rfl) (by kernel_rfl) (by kernel_rfl) (fun _ _ _ h => h) (by rfl) (fun W hW => by (skip); go_simp) (by assumption) ?_
  simp only [List.setIfInBounds_toArray, List.set_cons_zero, List.set_cons_succ]
  refine takeH (i := 8) (v := (.slice Ay (k2 - k) cy)) rfl rfl (by kernel_rfl) (by kernel_rfl) (by kernel_rfl) (fun _ _ _ h => h) (by rfl) (fun W hW => by (skip); go_simp) (by assumption) ?_
  simp only [List.setIfInBounds_toArray, List.set_cons_zero, List.set_cons_succ]
  refine takeH (i := 10) (v := (.slice Ai zi.length ci)) rfl rfl (by kernel_rfl) (by kernel_rfl) (by kernel_rfl) (fun _ _ _ h => h) (by rfl) (fun W hW => by (skip); go_simp) (by assumption) ?_
  simp only [List.setIfInBounds_toArray, List.set_cons_zero, List.set_cons_succ]
  refine takeH (i := 11) (v := (.int .i64 k)) rfl rfl (by kernel_rfl) (by kernel_rfl) (by kernel_rfl) (fun _ _ _ h => h) (by rfl) (fun W hW => by (skip); go_simp) (by assumption) ?_
  simp only [List.setIfInBounds_toArray, List.set_cons_zero, List.set_cons_succ]
  refine takeH (i := 12) (v := (.int .i64 k2)) rfl rfl (by kernel_rfl) (by kernel_rfl) (by kernel_rfl) (fun _ _ _ h => h) (by rfl) (fun W hW => by (skip); go_simp) (by assumption) ?_
  simp only [List.setIfInBounds_toArray, List.set_cons_zero, List.set_cons_succ]
  refine takeH (i := 13) (v := (.int .i64 k)) rfl rfl (by kernel_rfl) (by kernel_rfl) (by kernel_rfl) (fun _ _ _ h => h) (by rfl) (fun W hW => by (skip); go_simp) (by assumption) ?_
  simp only [List.setIfInBounds_toArray, List.set_cons_zero, List.set_cons_succ]
  refine takeH (i := 14) (v := (.int .i64 k3)) rfl rfl (by kernel_rfl) (by kernel_rfl) (by kernel_rfl) (fun _ _ _ h => h) (by rfl) (fun W hW => by (skip); go_simp) (by assumption) ?_
  simp only [List.setIfInBounds_toArray, List.set_cons_zero, List.set_cons_succ]
  refine takeH (i := 15) (v := (.slice Az (k3 - k2) cz)) rfl rfl (by kernel_rfl) (by kernel_rfl) (by kernel_rfl) (fun _ _ _ h => h) (by rfl) (fun W hW => by (skip); go_simp) (by assumption) ?_
  simp only [List.setIfInBounds_toArray, List.set_cons_zero, List.set_cons_succ]
  refine takeH (i := 17) (v := (.slice Ai zi.length ci)) rfl rfl (by kernel_rfl) (by kernel_rfl) (by kernel_rfl) (fun _ _ _ h => h) (by rfl) (fun W hW => by (skip); go_simp) (by assumption) ?_
  simp only [List.setIfInBounds_toArray, List.set_cons_zero, List.set_cons_succ]
  refine takeH (i := 18) (v := (.int .i64 k)) rfl rfl (by kernel_rfl) (by kernel_rfl) (by kernel_rfl) (fun _ _ _ h => h) (by rfl) (fun W hW => by (skip); go_simp) (by assumption) ?_
  simp only [List.setIfInBounds_toArray, List.set_cons_zero, List.set_cons_succ]
  refine takeH (i := 19) (v := (.int .i64 k3)) rfl rfl (by kernel_rfl) (by kernel_rfl) (by kernel_rfl) (fun _ _ _ h => h) (by rfl) (fun W hW => by (skip); go_simp) (by assumption) ?_
  simp only [List.setIfInBounds_toArray, List.set_cons_zero, List.set_cons_succ]
  refine takeH (i := 20) (v := (.slice Aw (zi.length - k3) cw)) rfl rfl (by kernel_rfl) (by kernel_rfl) (by kernel_rfl) (fun _ _ _ h => h) (by rfl) (fun W hW => by (skip); go_simp) (by assumption) ?_
  simp only [List.setIfInBounds_toArray, List.set_cons_zero, List.set_cons_succ]
  refine wpAnyH_ready (rs := [3]) (by kernel_rfl) (by simp) ?_
  refine (AllReadyH.cons rfl (fun K hK => ?_) AllReadyH.nil)
  go_simp
  refine (letters_any _ _ _ (by have := HK.out; omega) (((J1.out.below HBw0.out).ints).more HBw0.out.size)).mono ?_
  rintro e W1 ⟨r1, rfl, ho, hb⟩
  obtain ⟨P1, d1, rfl⟩ := ho.len
  have HBw1 := Lib.hid (HBw0.out.trans (hb.mono HBw0.out.size))
  have HAw1 := Lib.hid (HAw0.out.grow hb)
  have HBB1 := Lib.hid (HBB0.out.grow hb)
  have V1_1 := Lib.hid ho.ints
  clear ho hb HBw0 HAw0 HBB0 
  refine hK.out _ _ trivial (fun hHeld => ?_)
  clear hK K
  try simp only [Act.put, List.setIfInBounds_toArray, List.set_cons_zero, List.set_cons_succ]
  refine wpAnyH_ready (rs := [9]) (by kernel_rfl) (by simp) ?_
  refine (AllReadyH.cons rfl (fun K hK => ?_) AllReadyH.nil)
  go_simp
  refine (letters_any _ _ _ (by have := HK.out; omega) (((J2.out.below HBw1.out).ints).more HBw1.out.size)).mono ?_
  rintro e W2 ⟨r2, rfl, ho, hb⟩
  obtain ⟨P2, d2, rfl⟩ := ho.len
  have HBw2 := Lib.hid (HBw1.out.trans (hb.mono HBw1.out.size))
  have HAw2 := Lib.hid (HAw1.out.grow hb)
  have HBB2 := Lib.hid (HBB1.out.grow hb)
  have V1_2 := Lib.hid (V1_1.out.grow hb)
  have V2_2 := Lib.hid ho.ints
  clear ho hb HBw1 HAw1 HBB1 V1_1
  refine hK.out _ _ trivial (fun hHeld => ?_)
  clear hK K
  try simp only [Act.put, List.setIfInBounds_toArray, List.set_cons_zero, List.set_cons_succ]
  refine wpAnyH_ready (rs := [16]) (by kernel_rfl) (by simp) ?_
  refine (AllReadyH.cons rfl (fun K hK => ?_) AllReadyH.nil)
  go_simp
  refine (letters_any _ _ _ (by have := HK.out; omega) (((J3.out.below HBw2.out).ints).more HBw2.out.size)).mono ?_
  rintro e W3 ⟨r3, rfl, ho, hb⟩
  obtain ⟨P3, d3, rfl⟩ := ho.len
  have HBw3 := Lib.hid (HBw2.out.trans (hb.mono HBw2.out.size))
  have HAw3 := Lib.hid (HAw2.out.grow hb)
  have HBB3 := Lib.hid (HBB2.out.grow hb)
  have V1_3 := Lib.hid (V1_2.out.grow hb)
  have V2_3 := Lib.hid (V2_2.out.grow hb)
  have V3_3 := Lib.hid ho.ints
  clear ho hb HBw2 HAw2 HBB2 V1_2 V2_2
  refine hK.out _ _ trivial (fun hHeld => ?_)
  clear hK K
  try simp only [Act.put, List.setIfInBounds_toArray, List.set_cons_zero, List.set_cons_succ]
  refine wpAnyH_ready (rs := [21]) (by kernel_rfl) (by simp) ?_
  refine (AllReadyH.cons rfl (fun K hK => ?_) AllReadyH.nil)
  go_simp
  refine (letters_any _ _ _ (by have := HK.out; omega) (((J4.out.below HBw3.out).ints).more HBw3.out.size)).mono ?_
  rintro e W4 ⟨r4, rfl, ho, hb⟩
  obtain ⟨P4, d4, rfl⟩ := ho.len
  have HBw4 := Lib.hid (HBw3.out.trans (hb.mono HBw3.out.size))
  have HAw4 := Lib.hid (HAw3.out.grow hb)
  have HBB4 := Lib.hid (HBB3.out.grow hb)
  have V1_4 := Lib.hid (V1_3.out.grow hb)
  have V2_4 := Lib.hid (V2_3.out.grow hb)
  have V3_4 := Lib.hid (V3_3.out.grow hb)
  have V4_4 := Lib.hid ho.ints
  clear ho hb HBw3 HAw3 HBB3 V1_3 V2_3 V3_3
  refine hK.out _ _ trivial (fun hHeld => ?_)
  clear hK K
  try simp only [Act.put, List.setIfInBounds_toArray, List.set_cons_zero, List.set_cons_succ]
  have HL := lists4 W4 _ _ _ _ _ _ _ _ V1_4.out V2_4.out V3_4.out V4_4.out ⟨by rw [letL_length]; exact HK.out.1, letL_lets _⟩ ⟨by rw [letL_length]; exact HK.out.2.1, letL_lets _⟩ ⟨by rw [letL_length]; exact HK.out.2.2.1, letL_lets _⟩ ⟨by rw [letL_length]; exact HK.out.2.2.2, letL_lets _⟩
  obtain ⟨PS, n4, hps, hL⟩ := HL
  obtain ⟨WB, hWB⟩ : ∃ WB, W4.alloc (.cells #[.slice P1 (letL (List.take k zi)).length d1, .slice P2 (letL (List.take (k2 - k) (List.drop k zi))).length d2, .slice P3 (letL (List.take (k3 - k2) (List.drop k2 zi))).length d3, .slice P4 (letL (List.drop k3 zi)).length d4] 24) = WB := ⟨_, rfl⟩
  have hbW : Below W4.heap.size W4 WB := by rw [← hWB]; exact (Below.refl _ _).alloc (Nat.le_refl _) _
  rw [hWB] at hL
  have HP := Lib.hid hL
  have HA := Lib.hid (HAw4.out.grow hbW)
  have HBb := Lib.hid (HBB4.out.grow hbW)
  have HB := Lib.hid (HBw4.out.trans (hbW.mono HBw4.out.size))
  have HW := Lib.hid hWB
  have H4 := Lib.hid n4
  have HPS := Lib.hid hps
  clear hL hbW hWB n4 hps HAw4 HBB4 HBw4 V1_4 V2_4 V3_4 V4_4 J1 J2 J3 J4 HK cut1 cut2 cut3 cut4 q0 q1 q2 q3 u2 u3
  refine wpAnyH_ready (rs := [22]) (by kernel_rfl) (by simp) ?_
  refine (AllReadyH.cons rfl (fun K hK => ?_) AllReadyH.nil)
  go_simp
  rw [HW.out]
  refine hK.out _ _ trivial (fun hHeld => ?_)
  clear hK K
  try simp only [Act.put, List.setIfInBounds_toArray, List.set_cons_zero, List.set_cons_succ]
  generalize W4.heap.size = gp at HP ⊢
  clear HW
  refine wpAnyH_ready (rs := [23]) (by kernel_rfl) (by simp) ?_
  refine (AllReadyH.cons rfl (fun K hK => ?_) AllReadyH.nil)
  go_simp
  refine hK.out _ _ trivial (fun hHeld => ?_)
  clear hK K
  try simp only [Act.put, List.setIfInBounds_toArray, List.set_cons_zero, List.set_cons_succ]
  refine wpAnyH_done (by kernel_rfl) ?_ _
  have hla : (letL za).length ≤ 30 := by rw [letL_length]; exact HN.out.1
  have hlb : (letL zb).length ≤ 30 := by rw [letL_length]; exact HN.out.2.1
  obtain ⟨X, Y, Z, hS⟩ : ∃ X Y Z, SubF (PS.map (·.2)) (letL za) (letL zb) X Y Z := ⟨_, _, _, sub_facts (by rw [List.length_map]; exact H4.out) (ims_all (P := fun l => l.length ≤ 30) (by simp) fun p h => (HPS.out p h).1) (ims_all (P := Lets) (fun x hx => by cases hx) fun p h => (HPS.out p h).2) (let4 za) (let4 zb) hla hlb⟩
  have hps60 : ∀ p ∈ PS, p.2.length ≤ 60 ∧ Rng p.2 := fun p hp => ⟨by have := (HPS.out p hp).1; omega, (HPS.out p hp).2.rng⟩
  have hra : Rng (letL za) := (letL_lets za).rng
  have hrb : Rng (letL zb) := (letL_lets zb).rng
  have hwl : (wmul (letL za) (letL zb)).length ≤ 60 := by
    have := red_length (letL za ++ letL zb)
    rw [List.length_append] at this
    show (red (letL za ++ letL zb)).length ≤ 60
    omega
  have hwr : Rng (wmul (letL za) (letL zb)) := ((letL_lets za).append (letL_lets zb)).red.rng
  have S1 := fun (W : World) h h2 => Lib.hid (show Calls Tryd.prog 6 #[.slice A1 (letL za).length c1, .slice (some ⟨gp, 0, none⟩) 4 4] W (fun e w' => ∃ r, e = .returned (.tuple #[r, .int .i64 0]) ∧ Ints w' w'.heap.size r X ∧ Below W.heap.size W w') from by
    have := Subst_any (.slice A1 (letL za).length c1) (.slice (some ⟨gp, 0, none⟩) 4 4) (letL za) PS W (by omega) hra (by have := H4.out; omega) hps60 h h2
    rw [hS.la, hS.ea] at this
    exact this)
  have S2 := fun (W : World) h h2 => Lib.hid (show Calls Tryd.prog 6 #[.slice A2 (letL zb).length c2, .slice (some ⟨gp, 0, none⟩) 4 4] W (fun e w' => ∃ r, e = .returned (.tuple #[r, .int .i64 0]) ∧ Ints w' w'.heap.size r Y ∧ Below W.heap.size W w') from by
    have := Subst_any (.slice A2 (letL zb).length c2) (.slice (some ⟨gp, 0, none⟩) 4 4) (letL zb) PS W (by omega) hrb (by have := H4.out; omega) hps60 h h2
    rw [hS.lb, hS.eb] at this
    exact this)
  have S3 := fun (u : Value) (W : World) h h2 => Lib.hid (show Calls Tryd.prog 6 #[u, .slice (some ⟨gp, 0, none⟩) 4 4] W (fun e w' => ∃ r, e = .returned (.tuple #[r, .int .i64 0]) ∧ Ints w' w'.heap.size r Z ∧ Below W.heap.size W w') from by
    have := Subst_any u (.slice (some ⟨gp, 0, none⟩) 4 4) (wmul (letL za) (letL zb)) PS W (by omega) hwr (by have := H4.out; omega) hps60 h h2
    rw [hS.lc, hS.ec] at this
    exact this)
  have M1 := fun (W : World) h h2 => Lib.hid (Mul_any (.slice A1 (letL za).length c1) (.slice A2 (letL zb).length c2) (letL za) (letL zb) W (by omega) (by omega) hra hrb h h2)
  have M2 := fun (u v : Value) (W : World) h h2 => Lib.hid (show Calls Tryd.prog 7 #[u, v] W (GivesO W Z) from by
    have := Mul_any u v X Y W (by have := hS.lx; omega) (by have := hS.ly; omega) hS.rx hS.ry h h2
    rw [hS.eq] at this
    exact this)
  have hlz : Z.length ≤ 100000 := by
    have h1 := red_length (X ++ Y)
    have h2 := hS.lx
    have h3 := hS.ly
    rw [← hS.eq]
    rw [List.length_append] at h1
    show (red (X ++ Y)).length ≤ 100000
    omega
  have HG := Lib.hid (show Good (bytesOf (textA (letL za))) 4 (letL za) ∧ Good (bytesOf (textA (letL zb))) 4 (letL zb) from ⟨good_text (by omega) (let4 za) (by omega), good_text (by omega) (let4 zb) (by omega)⟩)
  have HL := Lib.hid (show (letL za).length ≤ 30 ∧ (letL zb).length ≤ 30 ∧ Z.length ≤ 100000 from ⟨hla, hlb, hlz⟩)
  have HR := Lib.hid (show Rng (letL za) ∧ Rng (letL zb) from ⟨hra, hrb⟩)
  clear hS hps60 hra hrb hwl hwr hla hlb hlz HN H4 HPS
  go_wp2_with fail
  refine ((S1 _ HA.out HP.out).out).mono ?_
  rintro e w3 ⟨r3, rfl, hi, hb⟩
  obtain ⟨A3, c3, rfl⟩ := hi.form
  replace HA := Lib.hid (HA.out.grow hb)
  replace HBb := Lib.hid (HBb.out.grow hb)
  replace HP := Lib.hid (HP.out.onB2 hb)
  replace HB := Lib.hid (HB.out.trans (hb.mono HB.out.size))
  have HX := Lib.hid hi
  clear hi hb S1
  go_wp2_with fail
  refine ((S2 _ HBb.out HP.out).out).mono ?_
  rintro e w4 ⟨r4, rfl, hi, hb⟩
  obtain ⟨A4, c4, rfl⟩ := hi.form
  replace HA := Lib.hid (HA.out.grow hb)
  replace HBb := Lib.hid (HBb.out.grow hb)
  replace HP := Lib.hid (HP.out.onB2 hb)
  replace HX := Lib.hid (HX.out.grow hb)
  replace HB := Lib.hid (HB.out.trans (hb.mono HB.out.size))
  have HY := Lib.hid hi
  clear hi hb S2
  go_wp2_with fail
  refine ((M1 _ HA.out HBb.out).out).mono ?_
  rintro e w5 ⟨r5, rfl, ho, hb⟩
  replace HA := Lib.hid (HA.out.grow hb)
  replace HBb := Lib.hid (HBb.out.grow hb)
  replace HP := Lib.hid (HP.out.onB2 hb)
  replace HX := Lib.hid (HX.out.grow hb)
  replace HY := Lib.hid (HY.out.grow hb)
  replace HB := Lib.hid (HB.out.trans (hb.mono HB.out.size))
  have HM := Lib.hid ho.ints
  clear ho hb M1
  go_wp2_with fail
  refine ((S3 _ _ HM.out HP.out).out).mono ?_
  rintro e w6 ⟨r6, rfl, hi, hb⟩
  obtain ⟨A6, c6, rfl⟩ := hi.form
  replace HA := Lib.hid (HA.out.grow hb)
  replace HBb := Lib.hid (HBb.out.grow hb)
  replace HX := Lib.hid (HX.out.grow hb)
  replace HY := Lib.hid (HY.out.grow hb)
  replace HB := Lib.hid (HB.out.trans (hb.mono HB.out.size))
  have HZ := Lib.hid hi
  clear hi hb S3 HM HP
  go_wp2_with fail
  refine ((M2 _ _ _ HX.out HY.out).out).mono ?_
  rintro e w7 ⟨r7, rfl, ho, hb⟩
  replace HA := Lib.hid (HA.out.grow hb)
  replace HBb := Lib.hid (HBb.out.grow hb)
  replace HZ := Lib.hid (HZ.out.grow hb)
  replace HB := Lib.hid (HB.out.trans (hb.mono HB.out.size))
  have HM := Lib.hid ho.ints
  clear ho hb M2 HX HY
  go_wp2_with fail
  refine (sameT _ _ _ HL.out.2.2 rfl HM.out HZ.out).mono ?_
  rintro e w8 ⟨rfl, hm⟩
  have hb : Below w7.heap.size w7 w8 := below_drawn _ hm
  replace HA := Lib.hid (HA.out.grow hb)
  replace HBb := Lib.hid (HBb.out.grow hb)
  replace HB := Lib.hid (HB.out.trans (hb.mono HB.out.size))
  clear hm hb HM HZ
  go_wp2_with fail
  have T1 := fun (W : World) (hb : Below w.heap.size w W) h => Lib.hid (Text_any (.slice A1 (letL za).length c1) (letL za) W (by have := HL.out; omega) (fun x hx => by have := let4 za x hx; omega) h (Lib.tabBelow_of_tabIs (tab_on HTB.out hb)))
  have T2 := fun (W : World) (hb : Below w.heap.size w W) h => Lib.hid (Text_any (.slice A2 (letL zb).length c2) (letL zb) W (by have := HL.out; omega) (fun x hx => by have := let4 zb x hx; omega) h (Lib.tabBelow_of_tabIs (tab_on HTB.out hb)))
  obtain ⟨S, hS⟩ : ∃ S, bytesOf (textA (letL za)) = S := ⟨_, rfl⟩
  obtain ⟨T, hT⟩ : ∃ T, bytesOf (textA (letL zb)) = T := ⟨_, rfl⟩
  have HC := Lib.hid (cat_power (letL za))
  have HD := Lib.hid (cat_comm (letL za) (letL zb))
  rw [hS] at T1 HC
  rw [hT] at T2
  rw [hS, hT] at HD HG
  clear hS hT HTB
  obtain ⟨d, hd, hd9⟩ : ∃ d : Nat, pickV n 9 = (d : Int) ∧ d < 9 := by
    have := pickV_in n 9 (by omega)
    exact ⟨(pickV n 9).toNat, by omega, by omega⟩
  have K1 := fun (W : World) => Lib.hid (pick_any n 9 W (by omega) (by omega))
  rw [hd] at K1
  have K2 := fun (W : World) h => Lib.hid (Pow_any (.slice A1 (letL za).length c1) (letL za) (d : Int) W (by have := HL.out; omega) (by omega) (letL_lets za) h)
  have K3 := fun (W : World) => Lib.hid (decimal_any d hd9 W)
  have hGP := good_power (g := 4) (n := d) (zs := letL za) (by omega) (let4 za) (by have := HL.out; omega) (by omega)
  have hGC := good_comm (g := 4) (xs := letL za) (ys := letL zb) (by omega) (let4 za) (let4 zb) (by have := HL.out; omega) (by have := HL.out; omega)
  rw [← HC.out] at hGP
  rw [← HD.out] at hGC
  have R1 := fun (W : World) h => Lib.hid (reads_ok HG.out.1 (.slice A1 (letL za).length c1) W (by have := HL.out; omega) h)
  have P1 := fun (W : World) => Lib.hid (Parse_ok hGP W)
  have P2 := fun (W : World) => Lib.hid (Parse_ok hGC W)
  have hrl := rep_len (letL za) d
  have hNL : (d : Int) * ((letL za).length : Int) = ((rep (letL za) d).length : Int) := by rw [hrl]; exact (Int.natCast_mul _ _).symm
  have hrs : (rep (letL za) d).length ≤ 300 := by
    rw [hrl]
    exact Nat.le_trans (Nat.mul_le_mul (show d ≤ 9 by omega) HL.out.1) (by decide)
  have HRL := Lib.hid (show (rep (letL za) d).length ≤ 300 ∧ Rng (rep (letL za) d) from ⟨hrs, (Lets.rep (letL_lets za) d).rng⟩)
  have HVL := Lib.hid (show (winv (letL za) ++ (winv (letL zb) ++ (letL za ++ letL zb))).length ≤ 300 ∧ Rng (winv (letL za) ++ (winv (letL zb) ++ (letL za ++ letL zb))) from
    ⟨by have := HL.out; simp only [List.length_append, winv_length]; omega, ((letL_lets za).winv.append ((letL_lets zb).winv.append ((letL_lets za).append (letL_lets zb)))).rng⟩)
  obtain ⟨VL, hVL⟩ : ∃ VL, winv (letL za) ++ (winv (letL zb) ++ (letL za ++ letL zb)) = VL := ⟨_, rfl⟩
  have HVC := Lib.hid (show red VL = red (winv (letL za) ++ winv (letL zb) ++ letL za ++ letL zb) from by rw [← hVL]; simp only [List.append_assoc])
  rw [hVL] at P2 HVL
  clear hVL
  have HPW := Lib.hid (powW_nat (a := letL za) d)
  have hwr2 : IntKind.i64.wrap ((rep (letL za) d).length : Int) = ((rep (letL za) d).length : Int) := IntWalk.i64_in _ (by omega)
  generalize bytesOf (Lib.decDigits d) = DD at K3 P1 hGP
  obtain ⟨s1, e1⟩ : ∃ s1, (⟨#[40]⟩ : ByteArray) ++ S = s1 := ⟨_, rfl⟩
  obtain ⟨s2, e2⟩ : ∃ s2, s1 ++ (⟨#[41, 94]⟩ : ByteArray) = s2 := ⟨_, rfl⟩
  obtain ⟨s3, e3⟩ : ∃ s3, s2 ++ DD = s3 := ⟨_, rfl⟩
  obtain ⟨u1, f1⟩ : ∃ u1, (⟨#[91]⟩ : ByteArray) ++ S = u1 := ⟨_, rfl⟩
  obtain ⟨u2, f2⟩ : ∃ u2, u1 ++ (⟨#[44]⟩ : ByteArray) = u2 := ⟨_, rfl⟩
  obtain ⟨u3, f3⟩ : ∃ u3, u2 ++ T = u3 := ⟨_, rfl⟩
  obtain ⟨u4, f4⟩ : ∃ u4, u3 ++ (⟨#[93]⟩ : ByteArray) = u4 := ⟨_, rfl⟩
  rw [e1, e2, e3] at P1 hGP
  rw [f1, f2, f3, f4] at P2 hGC
  have z3 := hGP.size
  have z4 := hGC.size
  have y1 : s1.size = 1 + S.size := by rw [← e1, ByteArray.size_append]; rfl
  have y2 : s2.size = s1.size + 2 := by rw [← e2, ByteArray.size_append]; rfl
  have y3 : s3.size = s2.size + DD.size := by rw [← e3, ByteArray.size_append]
  have x1 : u1.size = 1 + S.size := by rw [← f1, ByteArray.size_append]; rfl
  have x2 : u2.size = u1.size + 1 := by rw [← f2, ByteArray.size_append]; rfl
  have x3 : u3.size = u2.size + T.size := by rw [← f3, ByteArray.size_append]
  have x4 : u4.size = u3.size + 1 := by rw [← f4, ByteArray.size_append]; rfl
  have g1 : ¬ (9223372036854775807 < 1 + S.size) := by omega
  have g2 : ¬ (9223372036854775807 < s1.size + 2) := by omega
  have g3 : ¬ (9223372036854775807 < s2.size + DD.size) := by omega
  have g4 : ¬ (9223372036854775807 < u1.size + 1) := by omega
  have g5 : ¬ (9223372036854775807 < u2.size + T.size) := by omega
  have g6 : ¬ (9223372036854775807 < u3.size + 1) := by omega
  clear z3 z4 y1 y2 y3 x1 x2 x3 x4
  clear hGP hGC hrl hrs HC HD hd hd9 HG
  go_wp2_with fail
  refine ((T1 _ HB.out HA.out).out).mono ?_
  rintro e w9 ⟨rfl, hb⟩
  replace HA := Lib.hid (HA.out.grow hb)
  replace HBb := Lib.hid (HBb.out.grow hb)
  replace HB := Lib.hid (HB.out.trans (hb.mono HB.out.size))
  clear hb T1
  go_wp2_with fail
  refine ((T2 _ HB.out HBb.out).out).mono ?_
  rintro e w10 ⟨rfl, hb⟩
  replace HA := Lib.hid (HA.out.grow hb)
  replace HBb := Lib.hid (HBb.out.grow hb)
  replace HB := Lib.hid (HB.out.trans (hb.mono HB.out.size))
  clear hb T2
  go_wp2_with fail
  refine ((K1 _).out).mono ?_
  rintro e w11 ⟨rfl, rfl⟩
  clear K1
  go_wp2_with fail
  refine ((K2 _ HA.out).out).mono ?_
  rintro e w12 ⟨rp, rfl, ho, hb⟩
  obtain ⟨Ap, cp, rfl⟩ := ho.len
  replace HA := Lib.hid (HA.out.grow hb)
  replace HBb := Lib.hid (HBb.out.grow hb)
  replace HB := Lib.hid (HB.out.trans (hb.mono HB.out.size))
  have HQ := Lib.hid ho.ints
  clear ho hb K2
  go_wp2_with fail
  refine ((R1 _ HA.out).out).mono ?_
  rintro e w13 ⟨rfl, hb⟩
  replace HA := Lib.hid (HA.out.grow hb)
  replace HBb := Lib.hid (HBb.out.grow hb)
  replace HQ := Lib.hid (HQ.out.grow hb)
  replace HB := Lib.hid (HB.out.trans (hb.mono HB.out.size))
  clear hb R1
  go_wp2_with fail
  refine ((K3 _).out).mono ?_
  rintro e w14 ⟨rfl, rfl⟩
  clear K3
  go_wp2_with fail
  refine ((P1 _).out).mono ?_
  rintro e w15 ⟨rw15, rfl, hi, hb⟩
  obtain ⟨Aq, cq, rfl⟩ := hi.form
  replace HA := Lib.hid (HA.out.grow hb)
  replace HBb := Lib.hid (HBb.out.grow hb)
  replace HQ := Lib.hid (HQ.out.grow hb)
  replace HB := Lib.hid (HB.out.trans (hb.mono HB.out.size))
  have HWV := Lib.hid hi
  clear hi hb P1
  go_wp2_with fail
  obtain ⟨W16, hW16⟩ : ∃ W16, w15.alloc (.cells #[.int .i64 0, .int .i64 0] 38) = W16 := ⟨_, rfl⟩
  have hb : Below w15.heap.size w15 W16 := by rw [← hW16]; exact (Below.refl _ _).alloc (Nat.le_refl _) _
  have hrow : Row W16 w15.heap.size 38 #[.int .i64 0, .int .i64 0] := by rw [← hW16]; exact Row.new _ _ _
  replace HA := Lib.hid (HA.out.grow hb)
  replace HBb := Lib.hid (HBb.out.grow hb)
  replace HQ := Lib.hid (HQ.out.grow hb)
  replace HWV := Lib.hid (HWV.out.grow hb)
  replace HB := Lib.hid (HB.out.trans (hb.mono HB.out.size))
  rw [hW16]
  have HRW := Lib.hid hrow
  clear hW16 hb hrow
  generalize w15.heap.size = b1 at HRW ⊢
  refine ((P2 _).out).mono ?_
  rintro e w17 ⟨rv17, rfl, hi, hb⟩
  obtain ⟨Av, cv, rfl⟩ := hi.form
  replace HA := Lib.hid (HA.out.grow hb)
  replace HBb := Lib.hid (HBb.out.grow hb)
  replace HQ := Lib.hid (HQ.out.grow hb)
  replace HWV := Lib.hid (HWV.out.grow hb)
  replace HB := Lib.hid (HB.out.trans (hb.mono HB.out.size))
  replace HRW := Lib.hid (HRW.out.below hb HRW.out.lt)
  have HVV := Lib.hid hi
  clear hi hb P2
  have HR1 := Lib.hid (HRW.out.alloc (.cells #[.int .i64 0, .int .i64 0] 38))
  have HR2 := Lib.hid (Row.new w17 38 #[.int .i64 0, .int .i64 0])
  have HB1 := Lib.hid ((Below.refl w17.heap.size w17).alloc (Nat.le_refl _) (.cells #[.int .i64 0, .int .i64 0] 38))
  clear HRW
  have r10 := HR1.out.cell (i := 0) rfl
  have r11 := HR1.out.cell (i := 1) rfl
  have D1 := fun (W : World) h => Lib.hid (Reduce_any (.slice Aq (rep (letL za) d).length cq) (rep (letL za) d) W (by have := HRL.out; omega) HRL.out.2 h)
  have D2 := fun (W : World) h => Lib.hid (Reduce_any (.slice Av VL.length cv) VL W (by have := HVL.out; omega) HVL.out.2 h)
  have D3 := fun (W : World) h h2 => Lib.hid (Comm_any (.slice A1 (letL za).length c1) (.slice A2 (letL zb).length c2) (letL za) (letL zb) W (by have := HL.out; omega) (by have := HL.out; omega) HR.out.1 HR.out.2 h h2)
  rw [HPW.out] at D1
  rw [HVC.out] at D2
  have q1 := red_length (winv (letL za) ++ winv (letL zb) ++ letL za ++ letL zb)
  have HLC := Lib.hid (show (red (winv (letL za) ++ winv (letL zb) ++ letL za ++ letL zb)).length ≤ 100000 ∧ (powW (letL za) (d : Int)).length ≤ 100000 from by
    have h1 := HL.out
    have h2 := red_length (rep (letL za) d)
    have h3 := HRL.out.1
    rw [HPW.out] at h2
    simp only [List.length_append, winv_length] at q1
    exact ⟨by omega, by omega⟩)
  clear q1 HPW HVC
  generalize red (winv (letL za) ++ winv (letL zb) ++ letL za ++ letL zb) = CL at D2 D3 HLC
  go_wp2_with fail
  refine ((D1 _ (HWV.out.grow HB1.out)).out).mono ?_
  rintro e w18 ⟨r18, rfl, ho, hb⟩
  have hb' := HB1.out.trans (hb.mono HB1.out.size)
  replace HA := Lib.hid (HA.out.grow hb')
  replace HBb := Lib.hid (HBb.out.grow hb')
  replace HQ := Lib.hid (HQ.out.grow hb')
  replace HVV := Lib.hid (HVV.out.grow hb')
  replace HB := Lib.hid (HB.out.trans (hb'.mono HB.out.size))
  have HM := Lib.hid ho.ints
  clear ho hb hb' HB1 HR1 HR2 r10 r11 HWV D1
  go_wp2_with fail
  refine (sameT _ _ _ HLC.out.2 rfl HM.out HQ.out).mono ?_
  rintro e w19 ⟨rfl, hm⟩
  have hb : Below w18.heap.size w18 w19 := below_drawn _ hm
  replace HA := Lib.hid (HA.out.grow hb)
  replace HBb := Lib.hid (HBb.out.grow hb)
  replace HVV := Lib.hid (HVV.out.grow hb)
  replace HB := Lib.hid (HB.out.trans (hb.mono HB.out.size))
  clear hm hb HM HQ
  go_wp2_with fail
  refine ((D2 _ HVV.out).out).mono ?_
  rintro e w20 ⟨r20, rfl, ho, hb⟩
  replace HA := Lib.hid (HA.out.grow hb)
  replace HBb := Lib.hid (HBb.out.grow hb)
  replace HB := Lib.hid (HB.out.trans (hb.mono HB.out.size))
  have HM := Lib.hid ho.ints
  clear ho hb HVV D2
  go_wp2_with fail
  refine ((D3 _ HA.out HBb.out).out).mono ?_
  rintro e w21 ⟨r21, rfl, ho, hb⟩
  replace HM := Lib.hid (HM.out.grow hb)
  replace HB := Lib.hid (HB.out.trans (hb.mono HB.out.size))
  have HN := Lib.hid ho.ints
  clear ho hb D3 HA HBb
  go_wp2_with fail
  refine (sameT _ _ _ HLC.out.1 rfl HM.out HN.out).mono ?_
  rintro e w22 ⟨rfl, hm⟩
  have hb : Below w21.heap.size w21 w22 := below_drawn _ hm
  replace HB := Lib.hid (HB.out.trans (hb.mono HB.out.size))
  clear hm hb HM HN
  go_wp2_with fail
  go_ret
  exact ⟨rfl, HB.out⟩
end Go.Proofs.YtlpepholcehojaaDoor
