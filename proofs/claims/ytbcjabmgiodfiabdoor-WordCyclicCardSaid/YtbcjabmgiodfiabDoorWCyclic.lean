/- cayleylaw02.WordCyclic: the walk. -/
import Derived.Test.YtbcjabmgiodfiabDoorWCyc
namespace Go.Proofs.YtbcjabmgiodfiabDoor
open Go Go.RowKit

theorem op_append_ints {P : Program} (w : World) {o : Oper} {a : Act} {K : Act → World → Prop} {Q : Exit → Act → World → Prop} (sl xo : Operand) (t tx : TypeId)
    (ho : o.op = .call { callee := .builtin .append, args := #[sl, xo], argTypes := #[t, tx] })
    (base : Nat) (e' : TypeId) (i : TypeInfo) (ht : P.underlying t = some (.slice 3)) (htx : P.underlying tx = some (.slice e')) (hi : P.info? 3 = some i) (hz : i.zero = some (.int .i64 0)) (hsize : i.size = 1) (hby : i.bytes = 8)
    (v x : Value) (l ys : List Int) (D : Nat) (hs : a.eval sl = v) (hown : OwnsI w base v l) (hxe : a.eval xo = x) (hx : Ints w D x ys) (hlim : l.length + ys.length ≤ 17592186044400) (hbase : base ≤ w.heap.size)
    (h : ∀ v' w', OwnsI w' base v' (l ++ ys) → w.grownBy w' v.ownBlock → (v'.ownBlock = v.ownBlock ∨ v'.ownBlock = some w.heap.size) → K (a.put o.dst v') w') : o.wp P a w K Q := by
  obtain ⟨v', w', hr, h2, h3, h4⟩ := run_append_ints (P := P) w base t tx o.type e' i ht htx hi hz hsize hby v x l ys D hown hx hlim hbase
  unfold Oper.wp execOp
  simp only [ho, resolve, invoke, builtin, Sem.run_bind, Sem.run_pure, Result.andThen_ok, List.map_toArray, List.map_cons, List.map_nil, hs, hxe, hr]
  exact h v' w' h2 h3 h4

set_option maxRecDepth 100000 in
set_option maxHeartbeats 8000000 in
theorem cyclic_main (vl vm : Value) (zl zm : List Int) (w : World) (h1 : zl.length ≤ 60) (h2 : zm.length ≤ 60)
    (hl : Ints w w.heap.size vl zl) (hm : Ints w w.heap.size vm zm)
    (htab : Lib.TabIs Tryd.prog w "internal/strconv.uint64pow10" .u64 Lib.pow10Tab) :
    Calls Tryd.prog 5 #[vl, vm] w fun e w' => e = .returned (.bool true) ∧ Below w.heap.size w w' := by
  obtain ⟨i0, hi, hz0, hz1, hz2⟩ := info_parts info3'
  have HT := Lib.hid (lives_any w htab)
  have HL0 : Live w [(vl, zl), (vm, zm)] := fun i p hp => by
    match i, hp with
    | 0, hp => injection hp with hp; subst hp; exact hl
    | 1, hp => injection hp with hp; subst hp; exact hm
  have HL := Lib.hid HL0
  have HB := Lib.hid (Below.refl w.heap.size w)
  obtain ⟨Al, cl, rfl⟩ := hl.form
  obtain ⟨Am, cm, rfl⟩ := hm.form
  clear hl hm htab HL0
  have HLa := fun v W h => Lib.hid (letters_any v zl W (by omega) h)
  have HLb := fun v W h => Lib.hid (letters_any v zm W (by omega) h)
  have Ba := Lib.hid (show Bnd 60 (letL zl) from ⟨letL_lets zl, by rw [letL_length]; exact h1⟩)
  have Bb := Lib.hid (show Bnd 60 (letL zm) from ⟨letL_lets zm, by rw [letL_length]; exact h2⟩)
  have Va := Lib.hid (letL_valid zl)
  have Vb := Lib.hid (letL_valid zm)
  generalize letL zl = a at HLa Ba Va
  generalize letL zm = b at HLb Bb Vb
  have hq1 : ¬ (60 : Int) < (zl.length : Int) := by omega
  have hq2 : ¬ (60 : Int) < (zm.length : Int) := by omega
  have Bcj : Bnd 180 (red (winv b ++ a ++ b)) := by
    have h := (Bb.out.1.winv.append Ba.out.1).append Bb.out.1
    refine ⟨h.red, Nat.le_trans (red_length _) ?_⟩
    have h1 := Ba.out.2
    have h2 := Bb.out.2
    simp [winv_length]; omega
  have HBcj := Lib.hid Bcj
  have HVcj := Lib.hid (show Valid 4 (red (winv b ++ a ++ b)) from ((((Valid.winv (by omega) Vb.out).append Va.out).append Vb.out)).red)
  have HVm := Lib.hid (show Valid 4 (wmul a b) from (Va.out.append Vb.out).red)
  have HBm := Lib.hid (Ba.out.mul Bb.out)
  have HEq := Lib.hid (show ∀ i, sumAt (wmul a b) i = sumAt a i + sumAt b i from sums_mul a b)
  have HEc := Lib.hid (show ∀ i, sumAt (red (winv b ++ a ++ b)) i = sumAt a i from sums_conj Bb.out.1)
  have HRot := Lib.hid (show ∀ j k, EndsAt (red a) j → EndsAt (red (winv b ++ a ++ b)) k → Rot (midW (red a) j) (midW (red (winv b ++ a ++ b)) k) from fun j k hj hk => cyc_conj Ba.out.1 Bb.out.1 hj hk)
  have Hid1 := Lib.hid (show red (red (winv b ++ a ++ b)) = red (winv b ++ a ++ b) from red_idem _)
  have HCj := fun v u W hv hu => Lib.hid (conjB v u W Ba.out Bb.out (by omega) hv hu)
  clear h1 h2 Bcj
  generalize red (winv b ++ a ++ b) = cj at HBcj HVcj HEc HRot Hid1 HCj
  go_enter Tryd.func5, Tryd.ntmps5
  go_wp2_with fail
  refine (HT.out).mono ?_
  rintro e w0 ⟨rfl, hb⟩
  replace HL := Lib.hid (HL.out.below hb)
  replace HB := Lib.hid hb
  clear hb HT
  go_wp2_with fail
  refine ((HLa _ _ (HL.out 0 _ rfl)).out).mono ?_
  rintro e w1 ⟨r1, rfl, ho, hb⟩
  replace HL := Lib.hid (HL.out.cons hb ho.ints)
  replace HB := Lib.hid (HB.out.trans (hb.mono HB.out.size))
  clear ho hb
  go_wp2_with fail
  refine ((HLb _ _ (HL.out 2 _ rfl)).out).mono ?_
  rintro e w2 ⟨r2, rfl, ho, hb⟩
  replace HL := Lib.hid (HL.out.cons hb ho.ints)
  replace HB := Lib.hid (HB.out.trans (hb.mono HB.out.size))
  clear ho hb
  go_wp2_with fail
  refine (Cyclic_any _ a _ Ba.out (by omega) (HL.out 1 _ rfl)).mono ?_
  rintro e w3 ⟨Ax, cx, k1, rfl, hE1, hcx, hix, hb⟩
  replace HL := Lib.hid (HL.out.cons hb hix)
  replace HB := Lib.hid (HB.out.trans (hb.mono HB.out.size))
  have HE1 := Lib.hid hE1
  have HCx := Lib.hid hcx
  clear hb hix hE1 hcx
  go_wp2_with fail
  refine ((HCj _ _ _ (HL.out 2 _ rfl) (HL.out 1 _ rfl)).out).mono ?_
  rintro e w4 ⟨r4, rfl, ho, hb⟩
  replace HL := Lib.hid (HL.out.cons hb ho.ints)
  replace HB := Lib.hid (HB.out.trans (hb.mono HB.out.size))
  clear ho hb
  go_wp2_with fail
  refine (Cyclic_any _ cj _ HBcj.out (by omega) (HL.out 0 _ rfl)).mono ?_
  rw [Hid1.out]
  rintro e w5 ⟨Ay, cy, k2, rfl, hE2, hcy, hiy, hb⟩
  replace HL := Lib.hid (HL.out.cons hb hiy)
  replace HB := Lib.hid (HB.out.trans (hb.mono HB.out.size))
  have hrot := HRot.out _ _ HE1.out hE2
  have hlx : (midW (red a) k1).length ≤ 60 := by
    have := Ba.out.red.2
    simp [midW]; omega
  clear hb hiy hE2 hcy HE1 HRot
  generalize midW (red a) k1 = x at HL HCx hrot hlx
  generalize midW cj k2 = y at HL hrot
  have hxy := hrot.length
  have hne : ((x.length : Int) != (y.length : Int)) = false := by rw [hxy]; simp
  have HFA := Lib.hid (fnd_all hrot)
  have HLX := Lib.hid hxy
  clear hrot hxy
  go_wp2_with fail
  go_loopw [9, 10] (fun f i wr => ∃ k : Nat, f = .bool (fnd x y k) ∧ i = .int .i64 k ∧ k ≤ x.length ∧ Live wr [(.slice Ay y.length cy, y), (r4, cj), (.slice Ax x.length cx, x), (r2, b), (r1, a)] ∧ Below w.heap.size w wr) (fun _ i _ => x.length - (intOf i).toNat)
  case atStart =>
    refine ⟨0, by rw [fnd_zero], rfl, Nat.zero_le _, ?_, HB.out⟩
    intro i p hp
    match i, hp with
    | 0, hp => exact HL.out 0 p hp
    | 1, hp => exact HL.out 1 p hp
    | 2, hp => exact HL.out 2 p hp
    | 3, hp => exact HL.out 3 p hp
    | 4, hp => exact HL.out 4 p hp
  case round =>
    obtain ⟨k, rfl, rfl, hk, hL, hB⟩ := hrel
    have HLr := Lib.hid hL
    have HBr := Lib.hid hB
    clear hL hB HL HB
    by_cases hlt : k < x.length
    · have HFS := Lib.hid (fnd_succ x y k)
      cases hf : fnd x y k with
      | true =>
        rw [hf] at HFS
        clear hf
        go_wp2_with fail
        go_quiet (fail)
        go_wp2_with fail
        go_roundw
        case rel => exact ⟨k + 1, by rw [HFS.out]; rfl, by go_num, by omega, HLr.out.drawn ⟨_, rfl⟩, HBr.out.trans (below_drawn _ ⟨_, rfl⟩)⟩
        case measure => simp [intOf]; omega
      | false =>
        rw [hf] at HFS
        clear hf
        obtain ⟨As, ns, cs, hcs, his⟩ := cutI_suf (HLr.out 2 _ rfl) HCx.out hlt
        obtain ⟨Ap, np, cp, hcp, hip⟩ := cutI_pre (HLr.out 2 _ rfl) HCx.out hlt
        have HIS := Lib.hid his
        have HIP := Lib.hid hip
        have hmix : Tryd.prog.follows .mixedOrders = true := by kernel_rfl
        clear his hip
        go_wp2_with fail
        refine wp_region_any hmix ?_
        refine wpAny_take (i := 0) (v := .bool false) rfl (by kernel_rfl) (by kernel_rfl) (by kernel_rfl) (fun _ _ _ h => h) (Or.inl ⟨by rfl, fun w => by go_simp⟩) ?_
        go_simp
        refine wpAny_take (i := 1) (v := .bool false) rfl (by kernel_rfl) (by kernel_rfl) (by kernel_rfl) (fun _ _ _ h => h) (Or.inl ⟨by rfl, fun w => by go_simp⟩) ?_
        go_simp
        refine wpAny_take (i := 2) (v := .slice Ax x.length cx) rfl (by kernel_rfl) (by kernel_rfl) (by kernel_rfl) (fun _ _ _ h => h) (Or.inl ⟨by rfl, fun w => by go_simp⟩) ?_
        go_simp
        refine wpAny_take (i := 3) (v := .int .i64 k) rfl (by kernel_rfl) (by kernel_rfl) (by kernel_rfl) (fun _ _ _ h => h) (Or.inl ⟨by rfl, fun w => by go_simp⟩) ?_
        go_simp
        refine wpAny_take (i := 4) (v := .slice As ns cs) rfl (by kernel_rfl) (by kernel_rfl) (by kernel_rfl) (fun _ _ _ h => h) (Or.inl ⟨by rfl, fun w => by go_simp⟩) ?_
        go_simp
        refine wpAny_take (i := 6) (v := .slice Ax x.length cx) rfl (by kernel_rfl) (by kernel_rfl) (by kernel_rfl) (fun _ _ _ h => h) (Or.inl ⟨by rfl, fun w => by go_simp⟩) ?_
        go_simp
        refine wpAny_take (i := 7) (v := .int .i64 k) rfl (by kernel_rfl) (by kernel_rfl) (by kernel_rfl) (fun _ _ _ h => h) (Or.inl ⟨by rfl, fun w => by go_simp⟩) ?_
        go_simp
        refine wpAny_take (i := 8) (v := .slice Ap np cp) rfl (by kernel_rfl) (by kernel_rfl) (by kernel_rfl) (fun _ _ _ h => h) (Or.inl ⟨by rfl, fun w => by go_simp⟩) ?_
        go_simp
        refine wpAny_take (i := 10) (v := .slice Ay y.length cy) rfl (by kernel_rfl) (by kernel_rfl) (by kernel_rfl) (fun _ _ _ h => h) (Or.inl ⟨by rfl, fun w => by go_simp⟩) ?_
        go_simp
        refine wpAny_ready (rs := [5]) (by kernel_rfl) (by simp) ?_
        refine AllReady.cons rfl (fun K hK => ?_) AllReady.nil
        go_simp
        change Calls _ _ _ (wr.drew) _
        have hIq : Ints wr.drew wr.drew.heap.size (.slice As ns cs) (x.drop k) := HIS.out
        have hPq : Ints wr.drew wr.drew.heap.size (.slice Ap np cp) (x.take k) := HIP.out
        have hLq : Live wr.drew _ := HLr.out
        have hBq : Below w.heap.size w wr.drew := HBr.out.trans (below_drawn _ ⟨1, rfl⟩)
        generalize wr.drew = q at hIq hPq hLq hBq
        refine (own_any _ (x.drop k) q (by simp; omega) hIq).mono ?_
        rintro e w6 ⟨r6, rfl, ho6, hb6⟩
        refine hK _ _ ?_
        clear hK K
        have HOw := Lib.hid (ho6.base (Nat.le_refl q.heap.size))
        have HP6 := Lib.hid (hPq.grow hb6)
        have HB6 := Lib.hid hb6
        have HLq := Lib.hid hLq
        have HBq := Lib.hid hBq
        clear ho6 hb6 hIq hPq hLq hBq
        refine wpAny_ready (rs := [9]) (by kernel_rfl) (by simp) ?_
        refine AllReady.cons rfl (fun K hK => ?_) AllReady.nil
        rw [if_pos (by kernel_rfl)]
        refine op_append_ints w6 (.tmp 59) (.tmp 62) 22 24 rfl q.heap.size 3 i0 Tryd.underlying22 Tryd.underlying24 hi hz0 hz1 hz2 _ _ (x.drop k) (x.take k) _ rfl HOw.out rfl HP6.out (by simp; omega) HB6.out.size ?_
        intro v7 w7 hown hgrow _
        have HB7 := Lib.hid (HBq.out.trans ((HB6.out.grown hgrow HB6.out.size (fun q hq => (HOw.out.lt q hq).1)).mono HBq.out.size))
        have HL7 := Lib.hid (HLq.out.below (HB6.out.grown hgrow HB6.out.size (fun q hq => (HOw.out.lt q hq).1)))
        have HI7 := Lib.hid hown.ints
        clear hown hgrow
        refine hK _ _ ?_
        clear hK K
        refine wpAny_ready (rs := [11]) (by kernel_rfl) (by simp) ?_
        refine AllReady.cons rfl (fun K hK => ?_) AllReady.nil
        go_simp
        have HS := Lib.hid (same_any w7.heap.size v7 (.slice Ay y.length cy) (x.drop k ++ x.take k) y w7 (by simp; omega) HI7.out (HL7.out 0 _ rfl))
        generalize sameB (x.drop k ++ x.take k) y = sb at HS HFS
        refine (HS.out).mono ?_
        rintro e w8 ⟨rfl, hm⟩
        have HL8 := Lib.hid (HL7.out.drawn hm)
        have HB8 := Lib.hid (HB7.out.trans (below_drawn _ hm))
        clear hm HS
        refine hK _ _ ?_
        clear hK K
        refine wpAny_take (i := 12) (v := .bool sb) rfl (by kernel_rfl) (by kernel_rfl) (by kernel_rfl) (fun _ _ _ h => h) (Or.inl ⟨by rfl, fun w => by go_simp⟩) ?_
        go_simp
        refine wpAny_take (i := 13) (v := .bool sb) rfl (by kernel_rfl) (by kernel_rfl) (by kernel_rfl) (fun _ _ _ h => h) (Or.inl ⟨by rfl, fun w => by go_simp⟩) ?_
        go_simp
        refine wpAny_done (by kernel_rfl) ?_ _
        go_wp2_with fail
        go_roundw
        case rel => exact ⟨k + 1, by rw [HFS.out]; rfl, by go_num, by omega, HL8.out, HB8.out⟩
        case measure => simp [intOf]; omega
    · have hk2 : k = x.length := by omega
      subst hk2
      rw [HFA.out]
      have la : a.length ≤ 60 := Ba.out.2
      have lb : b.length ≤ 60 := Bb.out.2
      have lm : (wmul a b).length ≤ 120 := HBm.out.2
      have lc : cj.length ≤ 180 := HBcj.out.2
      go_wp2_with fail
      refine (Sums_any _ a _ (by omega) Va.out (HLr.out 4 _ rfl)).mono ?_
      rintro e w6 ⟨r6, rfl, hi6, hb6⟩
      obtain ⟨A6, c6, e6⟩ := hi6.form
      rw [show (sumsL a).length = 4 from rfl] at e6
      subst e6
      have HL6 := Lib.hid (HLr.out.cons hb6 hi6)
      have HB6 := Lib.hid (HBr.out.trans (hb6.mono HBr.out.size))
      clear hi6 hb6 HLr HBr
      go_wp2_with fail
      refine (Sums_any _ b _ (by omega) Vb.out (HL6.out 4 _ rfl)).mono ?_
      rintro e w7 ⟨r7, rfl, hi7, hb7⟩
      obtain ⟨A7, c7, e7⟩ := hi7.form
      rw [show (sumsL b).length = 4 from rfl] at e7
      subst e7
      have HL7 := Lib.hid (HL6.out.cons hb7 hi7)
      have HB7 := Lib.hid (HB6.out.trans (hb7.mono HB6.out.size))
      clear hi7 hb7 HL6 HB6
      go_wp2_with fail
      refine (mulB _ _ _ Ba.out Bb.out (by omega) (HL7.out 6 _ rfl) (HL7.out 5 _ rfl)).mono ?_
      rintro e w8 ⟨r8, rfl, ho8, hb8⟩
      have HL8 := Lib.hid (HL7.out.cons hb8 ho8.ints)
      have HB8 := Lib.hid (HB7.out.trans (hb8.mono HB7.out.size))
      clear ho8 hb8 HL7 HB7
      go_wp2_with fail
      refine (Sums_any _ (wmul a b) _ (by omega) HVm.out (HL8.out 0 _ rfl)).mono ?_
      rintro e w9 ⟨r9, rfl, hi9, hb9⟩
      obtain ⟨A9, c9, e9⟩ := hi9.form
      rw [show (sumsL (wmul a b)).length = 4 from rfl] at e9
      subst e9
      have HL9 := Lib.hid (HL8.out.cons hb9 hi9)
      have HB9 := Lib.hid (HB8.out.trans (hb9.mono HB8.out.size))
      clear hi9 hb9 HL8 HB8
      go_wp2_with fail
      refine ((HCj _ _ _ (HL9.out 8 _ rfl) (HL9.out 7 _ rfl)).out).mono ?_
      rintro e w10 ⟨r10, rfl, ho10, hb10⟩
      have HL10 := Lib.hid (HL9.out.cons hb10 ho10.ints)
      have HB10 := Lib.hid (HB9.out.trans (hb10.mono HB9.out.size))
      clear ho10 hb10 HL9 HB9
      go_wp2_with fail
      refine (Sums_any _ cj _ (by omega) HVcj.out (HL10.out 0 _ rfl)).mono ?_
      rintro e w11 ⟨r11, rfl, hi11, hb11⟩
      obtain ⟨A11, c11, e11⟩ := hi11.form
      rw [show (sumsL cj).length = 4 from rfl] at e11
      subst e11
      have HL11 := Lib.hid (HL10.out.cons hb11 hi11)
      have HB11 := Lib.hid (HB10.out.trans (hb11.mono HB10.out.size))
      clear hi11 hb11 HL10 HB10
      have hcells : ∀ j, j < 4 → ∃ b6 o6 b7 o7 b9 o9 b11 o11, A6 = some ⟨b6, o6, none⟩ ∧ A7 = some ⟨b7, o7, none⟩ ∧ A9 = some ⟨b9, o9, none⟩ ∧ A11 = some ⟨b11, o11, none⟩ ∧
          w11.cell? ⟨b6, o6 + j, none⟩ = some (.int .i64 (sumAt a j)) ∧ w11.cell? ⟨b7, o7 + j, none⟩ = some (.int .i64 (sumAt b j)) ∧
          w11.cell? ⟨b9, o9 + j, none⟩ = some (.int .i64 (sumAt a j + sumAt b j)) ∧ w11.cell? ⟨b11, o11 + j, none⟩ = some (.int .i64 (sumAt a j)) := fun j hj => by
        obtain ⟨b6, o6, _, q6, _, g6⟩ := (HL11.out 5 _ rfl : Ints w11 w11.heap.size (.slice A6 4 c6) (sumsL a)).at_ (by simp [sumsL])
        obtain ⟨b7, o7, _, q7, _, g7⟩ := (HL11.out 4 _ rfl : Ints w11 w11.heap.size (.slice A7 4 c7) (sumsL b)).at_ (by simp [sumsL])
        obtain ⟨b9, o9, _, q9, _, g9⟩ := (HL11.out 2 _ rfl : Ints w11 w11.heap.size (.slice A9 4 c9) (sumsL (wmul a b))).at_ (by simp [sumsL])
        obtain ⟨b11, o11, _, q11, _, g11⟩ := (HL11.out 0 _ rfl : Ints w11 w11.heap.size (.slice A11 4 c11) (sumsL cj)).at_ (by simp [sumsL])
        injection q6 with q6 _ _
        injection q7 with q7 _ _
        injection q9 with q9 _ _
        injection q11 with q11 _ _
        have g6' := g6 j hj
        have g7' := g7 j hj
        have g9' := g9 j hj
        have g11' := g11 j hj
        rw [sumsL_at _ hj] at g6' g7' g9' g11'
        rw [HEq.out j] at g9'
        rw [HEc.out j] at g11'
        exact ⟨b6, o6, b7, o7, b9, o9, b11, o11, q6, q7, q9, q11, g6', g7', g9', g11'⟩
      have HCE := Lib.hid hcells
      clear hcells
      go_wp2_with fail
      go_loopw [19] (fun i wr => ∃ (k n : Nat), i = .int .i64 k ∧ k ≤ 4 ∧ wr = w11.drewN n) (fun i _ => 4 - (intOf i).toNat)
      case atStart => exact ⟨0, 0, rfl, by omega, rfl⟩
      case round =>
        obtain ⟨j, n, rfl, hj, rfl⟩ := hrel
        by_cases hj4 : j < 4
        · obtain ⟨b6, o6, b7, o7, b9, o9, b11, o11, rfl, rfl, rfl, rfl, g6, g7, g9, g11⟩ := HCE.out j hj4
          have hb1 := sumAt_bound a j
          have hb2 := sumAt_bound b j
          generalize sumAt a j = p at g6 g9 g11 hb1
          generalize sumAt b j = q at g7 g9 hb2
          have hw : IntKind.i64.wrap (p + q) = p + q := by rw [IntKind.wrap_i64]; omega
          have hne1 : ((p + q) != (p + q)) = false := by simp
          have hne2 : (p != p) = false := by simp
          go_wp2
          go_quiet (fail)
          go_wp2
          go_roundw
          case rel => exact ⟨j + 1, _, by go_num, by omega, rfl⟩
          case measure => simp [intOf]; omega
        · go_wp2_with fail
          go_ret
          exact ⟨rfl, HB11.out.trans (below_drawn _ ⟨_, rfl⟩)⟩
end Go.Proofs.YtbcjabmgiodfiabDoor
