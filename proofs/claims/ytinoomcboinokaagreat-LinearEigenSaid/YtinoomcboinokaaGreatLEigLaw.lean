/- cayleylaw05.LinearEigen. -/
import Derived.Test.YtinoomcboinokaaGreatLEigO
import Derived.Deep.RegionHeld3
import Derived.Test.YtinoomcboinokaaGreatLRefT
import Derived.Deep.Cut
import Derived.Deep.CutRange
namespace Go.Proofs.YtinoomcboinokaaGreat
open Go Go.RowKit Num

theorem eig_mods : modB (2 : Nat) = true ∧ modB (3 : Nat) = true ∧ modB (5 : Nat) = true ∧ modB (7 : Nat) = true ∧ modB (11 : Nat) = true :=
  ⟨modB_check 2 (by omega) (by omega) (by decide) (by decide), modB_check 2 (by omega) (by omega) (by decide) (by decide), modB_check 3 (by omega) (by omega) (by decide) (by decide), modB_check 3 (by omega) (by omega) (by decide) (by decide), modB_check 4 (by omega) (by omega) (by decide) (by decide)⟩

set_option maxRecDepth 100000 in
set_option maxHeartbeats 8000000 in
theorem linearEigen_main (A : Option Addr) (c N : Nat) (z : Nat → Int) (p0 n0 : Int) (w : World) (hv : Vec w (· < w.heap.size) (.slice A N c) N z) :
    Calls Tryz.prog 3 #[.slice A N c, .int .i64 p0, .int .i64 n0] w fun e w' => e = .returned (.bool true) ∧ Below w.heap.size w w' := by
  have HV := Lib.hid hv
  clear hv
  by_cases h1 : 40 < N
  · have hd : decide ((N : Int) > 40) = true := decide_eq_true (by omega)
    clear HV
    go_enter Tryz.func3, Tryz.ntmps3
    go_wp2_with fail
    refine (lives_any _).mono ?_
    rintro e w0 ⟨rfl, hb⟩
    have HB := Lib.hid hb
    clear hb
    go_wp2_with fail
    go_ret
    exact ⟨rfl, HB.out⟩
  · have hN : N ≤ 17592186044400 := by omega
    have hd : decide ((N : Int) > 40) = false := decide_eq_false (by omega)
    have HP := fun W => Lib.hid (Pick_any p0 5 W (by omega) (by omega))
    have HN := fun W => Lib.hid (Pick_any n0 5 W (by omega) (by omega))
    have hp5 := resV_lt p0 (p := 5) (by omega)
    have hn5 := resV_lt n0 (p := 5) (by omega)
    generalize resV p0 5 = x at HP hp5
    generalize resV n0 5 = xn at HN hn5
    obtain ⟨n, hn⟩ : ∃ n : Nat, 1 + (xn : Int) = (n : Int) := ⟨1 + xn, by omega⟩
    have hn1 : 1 ≤ n := by omega
    have hn6 : n ≤ 5 := by omega
    have hwn : IntKind.i64.wrap (1 + (xn : Int)) = (n : Int) := by rw [hn]; exact IntWalk.i64_in _ ⟨by omega, by omega⟩
    go_enter Tryz.func3, Tryz.ntmps3
    go_wp2_with fail
    refine (lives_any _).mono ?_
    rintro e w0 ⟨rfl, hb⟩
    have HB0 := Lib.hid hb
    have HV0 := Lib.hid (vec_on HV.out hb)
    clear hb HV
    go_wp2_with fail
    go_cut [1, 2] from 28 to 35 (fun s1 s2 wx => ∃ p : Nat, s1 = .int .i64 p ∧ s2 = .int .i64 n ∧ modB (p : Int) = true ∧ p ≤ 11 ∧ Below w0.heap.size w0 wx)
    case first =>
      obtain ⟨p, hcx, hmp, hp11⟩ : ∃ p : Nat, (∀ h, ([Value.int .i64 2, Value.int .i64 3, Value.int .i64 5, Value.int .i64 7, Value.int .i64 11] : List Value)[x]'h = .int .i64 p) ∧ modB (p : Int) = true ∧ p ≤ 11 := by
        have hm := eig_mods
        rcases (by omega : x = 0 ∨ x = 1 ∨ x = 2 ∨ x = 3 ∨ x = 4) with rfl | rfl | rfl | rfl | rfl
        · exact ⟨2, fun _ => rfl, hm.1, by omega⟩
        · exact ⟨3, fun _ => rfl, hm.2.1, by omega⟩
        · exact ⟨5, fun _ => rfl, hm.2.2.1, by omega⟩
        · exact ⟨7, fun _ => rfl, hm.2.2.2.1, by omega⟩
        · exact ⟨11, fun _ => rfl, hm.2.2.2.2, by omega⟩
      have HB := Lib.hid (show Below w0.heap.size w0 (w0.alloc (.cells #[.int .i64 2, .int .i64 3, .int .i64 5, .int .i64 7, .int .i64 11] 3)).drew from below_drew ((Below.refl w0.heap.size w0).alloc (Nat.le_refl _) (.cells #[.int .i64 2, .int .i64 3, .int .i64 5, .int .i64 7, .int .i64 11] 3)))
      have hx0 : (0 : Int) ≤ x := by omega
      have hx5 : (x : Int) < 5 := by omega
      clear HB0 HV0 hn
      refine wp_region_held_drew (S := (fun _ => True)) (by kernel_rfl) trivial (fun hHeld => ?_)
      refine takeH (i := 1) (v := (.int .i64 p0)) rfl rfl (by kernel_rfl) (by kernel_rfl) (by kernel_rfl) (fun _ _ _ h => h) (by rfl) (fun W hW => by (skip); go_simp) (by assumption) ?_
      simp only [List.setIfInBounds_toArray, List.set_cons_zero, List.set_cons_succ]
      refine takeH (i := 5) (v := (.int .i64 n0)) rfl rfl (by kernel_rfl) (by kernel_rfl) (by kernel_rfl) (fun _ _ _ h => h) (by rfl) (fun W hW => by (skip); go_simp) (by assumption) ?_
      simp only [List.setIfInBounds_toArray, List.set_cons_zero, List.set_cons_succ]
      refine wpAnyH_ready (rs := [0, 2]) (by kernel_rfl) (by simp) ?_
      refine (AllReadyH.cons rfl (fun K hK => ?_) (AllReadyH.cons rfl (fun K hK => ?_) AllReadyH.nil))
      · go_simp
        refine hK.out _ _ trivial (fun hHeld => ?_)
        clear hK K
        try simp only [Act.put, List.setIfInBounds_toArray, List.set_cons_zero, List.set_cons_succ]
        refine wpAnyH_ready (rs := [2]) (by kernel_rfl) (by simp) ?_
        refine (AllReadyH.cons rfl (fun K hK => ?_) AllReadyH.nil)
        go_simp
        refine (HP _).out.mono ?_
        rintro e v1 ⟨rfl, rfl⟩
        dsimp only
        refine hK.out _ _ trivial (fun hHeld => ?_)
        clear hK K
        try simp only [Act.put, List.setIfInBounds_toArray, List.set_cons_zero, List.set_cons_succ]
        refine takeH (i := 3) (v := (.pointer (some ⟨w0.drew.heap.size, x, none⟩))) rfl rfl (by kernel_rfl) (by kernel_rfl) (by kernel_rfl) (fun _ _ _ h => h) (by rfl) (fun W hW => by (skip); go_simp) (by assumption) ?_
        simp only [List.setIfInBounds_toArray, List.set_cons_zero, List.set_cons_succ]
        refine wpAnyH_ready (rs := [4, 6]) (by kernel_rfl) (by simp) ?_
        refine (AllReadyH.cons rfl (fun K hK => ?_) (AllReadyH.cons rfl (fun K hK => ?_) AllReadyH.nil))
        · go_simp
          refine hK.out _ _ trivial (fun hHeld => ?_)
          clear hK K
          try simp only [Act.put, List.setIfInBounds_toArray, List.set_cons_zero, List.set_cons_succ]
          refine wpAnyH_ready (rs := [6]) (by kernel_rfl) (by simp) ?_
          refine (AllReadyH.cons rfl (fun K hK => ?_) AllReadyH.nil)
          go_simp
          refine (HN _).out.mono ?_
          rintro e v2 ⟨rfl, rfl⟩
          dsimp only
          refine hK.out _ _ trivial (fun hHeld => ?_)
          clear hK K
          try simp only [Act.put, List.setIfInBounds_toArray, List.set_cons_zero, List.set_cons_succ]
          refine takeH (i := 7) (v := (.int .i64 n)) rfl rfl (by kernel_rfl) (by kernel_rfl) (by kernel_rfl) (fun _ _ _ h => h) (by rfl) (fun W hW => by (skip); go_simp) (by assumption) ?_
          simp only [List.setIfInBounds_toArray, List.set_cons_zero, List.set_cons_succ]
          refine takeH (i := 8) (v := (.int .i64 p)) rfl rfl (by kernel_rfl) (by kernel_rfl) (by kernel_rfl) (fun _ _ _ h => h) (by rfl) (fun W hW => by (skip); go_simp) (by assumption) ?_
          simp only [List.setIfInBounds_toArray, List.set_cons_zero, List.set_cons_succ]
          refine takeH (i := 9) (v := (.int .i64 n)) rfl rfl (by kernel_rfl) (by kernel_rfl) (by kernel_rfl) (fun _ _ _ h => h) (by rfl) (fun W hW => by (skip); go_simp) (by assumption) ?_
          simp only [List.setIfInBounds_toArray, List.set_cons_zero, List.set_cons_succ]
          refine wpAnyH_done (by kernel_rfl) ?_ _
          clear hHeld
          go_wp2_with fail
          go_meet
          exact ⟨p, rfl, rfl, hmp, hp11, HB.out⟩
        · go_simp
          refine (HN _).out.mono ?_
          rintro e v3 ⟨rfl, rfl⟩
          dsimp only
          refine hK.out _ _ trivial (fun hHeld => ?_)
          clear hK K
          try simp only [Act.put, List.setIfInBounds_toArray, List.set_cons_zero, List.set_cons_succ]
          refine takeH (i := 7) (v := (.int .i64 n)) rfl rfl (by kernel_rfl) (by kernel_rfl) (by kernel_rfl) (fun _ _ _ h => h) (by rfl) (fun W hW => by (skip); go_simp) (by assumption) ?_
          simp only [List.setIfInBounds_toArray, List.set_cons_zero, List.set_cons_succ]
          refine wpAnyH_ready (rs := [4]) (by kernel_rfl) (by simp) ?_
          refine (AllReadyH.cons rfl (fun K hK => ?_) AllReadyH.nil)
          go_simp
          refine hK.out _ _ trivial (fun hHeld => ?_)
          clear hK K
          try simp only [Act.put, List.setIfInBounds_toArray, List.set_cons_zero, List.set_cons_succ]
          refine takeH (i := 8) (v := (.int .i64 p)) rfl rfl (by kernel_rfl) (by kernel_rfl) (by kernel_rfl) (fun _ _ _ h => h) (by rfl) (fun W hW => by (skip); go_simp) (by assumption) ?_
          simp only [List.setIfInBounds_toArray, List.set_cons_zero, List.set_cons_succ]
          refine takeH (i := 9) (v := (.int .i64 n)) rfl rfl (by kernel_rfl) (by kernel_rfl) (by kernel_rfl) (fun _ _ _ h => h) (by rfl) (fun W hW => by (skip); go_simp) (by assumption) ?_
          simp only [List.setIfInBounds_toArray, List.set_cons_zero, List.set_cons_succ]
          refine wpAnyH_done (by kernel_rfl) ?_ _
          clear hHeld
          go_wp2_with fail
          go_meet
          exact ⟨p, rfl, rfl, hmp, hp11, HB.out⟩
      · go_simp
        refine (HP _).out.mono ?_
        rintro e v4 ⟨rfl, rfl⟩
        dsimp only
        refine hK.out _ _ trivial (fun hHeld => ?_)
        clear hK K
        try simp only [Act.put, List.setIfInBounds_toArray, List.set_cons_zero, List.set_cons_succ]
        refine wpAnyH_ready (rs := [0, 6]) (by kernel_rfl) (by simp) ?_
        refine (AllReadyH.cons rfl (fun K hK => ?_) (AllReadyH.cons rfl (fun K hK => ?_) AllReadyH.nil))
        · go_simp
          refine hK.out _ _ trivial (fun hHeld => ?_)
          clear hK K
          try simp only [Act.put, List.setIfInBounds_toArray, List.set_cons_zero, List.set_cons_succ]
          refine takeH (i := 3) (v := (.pointer (some ⟨w0.drew.heap.size, x, none⟩))) rfl rfl (by kernel_rfl) (by kernel_rfl) (by kernel_rfl) (fun _ _ _ h => h) (by rfl) (fun W hW => by (skip); go_simp) (by assumption) ?_
          simp only [List.setIfInBounds_toArray, List.set_cons_zero, List.set_cons_succ]
          refine wpAnyH_ready (rs := [4, 6]) (by kernel_rfl) (by simp) ?_
          refine (AllReadyH.cons rfl (fun K hK => ?_) (AllReadyH.cons rfl (fun K hK => ?_) AllReadyH.nil))
          · go_simp
            refine hK.out _ _ trivial (fun hHeld => ?_)
            clear hK K
            try simp only [Act.put, List.setIfInBounds_toArray, List.set_cons_zero, List.set_cons_succ]
            refine wpAnyH_ready (rs := [6]) (by kernel_rfl) (by simp) ?_
            refine (AllReadyH.cons rfl (fun K hK => ?_) AllReadyH.nil)
            go_simp
            refine (HN _).out.mono ?_
            rintro e v5 ⟨rfl, rfl⟩
            dsimp only
            refine hK.out _ _ trivial (fun hHeld => ?_)
            clear hK K
            try simp only [Act.put, List.setIfInBounds_toArray, List.set_cons_zero, List.set_cons_succ]
            refine takeH (i := 7) (v := (.int .i64 n)) rfl rfl (by kernel_rfl) (by kernel_rfl) (by kernel_rfl) (fun _ _ _ h => h) (by rfl) (fun W hW => by (skip); go_simp) (by assumption) ?_
            simp only [List.setIfInBounds_toArray, List.set_cons_zero, List.set_cons_succ]
            refine takeH (i := 8) (v := (.int .i64 p)) rfl rfl (by kernel_rfl) (by kernel_rfl) (by kernel_rfl) (fun _ _ _ h => h) (by rfl) (fun W hW => by (skip); go_simp) (by assumption) ?_
            simp only [List.setIfInBounds_toArray, List.set_cons_zero, List.set_cons_succ]
            refine takeH (i := 9) (v := (.int .i64 n)) rfl rfl (by kernel_rfl) (by kernel_rfl) (by kernel_rfl) (fun _ _ _ h => h) (by rfl) (fun W hW => by (skip); go_simp) (by assumption) ?_
            simp only [List.setIfInBounds_toArray, List.set_cons_zero, List.set_cons_succ]
            refine wpAnyH_done (by kernel_rfl) ?_ _
            clear hHeld
            go_wp2_with fail
            go_meet
            exact ⟨p, rfl, rfl, hmp, hp11, HB.out⟩
          · go_simp
            refine (HN _).out.mono ?_
            rintro e v6 ⟨rfl, rfl⟩
            dsimp only
            refine hK.out _ _ trivial (fun hHeld => ?_)
            clear hK K
            try simp only [Act.put, List.setIfInBounds_toArray, List.set_cons_zero, List.set_cons_succ]
            refine takeH (i := 7) (v := (.int .i64 n)) rfl rfl (by kernel_rfl) (by kernel_rfl) (by kernel_rfl) (fun _ _ _ h => h) (by rfl) (fun W hW => by (skip); go_simp) (by assumption) ?_
            simp only [List.setIfInBounds_toArray, List.set_cons_zero, List.set_cons_succ]
            refine wpAnyH_ready (rs := [4]) (by kernel_rfl) (by simp) ?_
            refine (AllReadyH.cons rfl (fun K hK => ?_) AllReadyH.nil)
            go_simp
            refine hK.out _ _ trivial (fun hHeld => ?_)
            clear hK K
            try simp only [Act.put, List.setIfInBounds_toArray, List.set_cons_zero, List.set_cons_succ]
            refine takeH (i := 8) (v := (.int .i64 p)) rfl rfl (by kernel_rfl) (by kernel_rfl) (by kernel_rfl) (fun _ _ _ h => h) (by rfl) (fun W hW => by (skip); go_simp) (by assumption) ?_
            simp only [List.setIfInBounds_toArray, List.set_cons_zero, List.set_cons_succ]
            refine takeH (i := 9) (v := (.int .i64 n)) rfl rfl (by kernel_rfl) (by kernel_rfl) (by kernel_rfl) (fun _ _ _ h => h) (by rfl) (fun W hW => by (skip); go_simp) (by assumption) ?_
            simp only [List.setIfInBounds_toArray, List.set_cons_zero, List.set_cons_succ]
            refine wpAnyH_done (by kernel_rfl) ?_ _
            clear hHeld
            go_wp2_with fail
            go_meet
            exact ⟨p, rfl, rfl, hmp, hp11, HB.out⟩
        · go_simp
          refine (HN _).out.mono ?_
          rintro e v7 ⟨rfl, rfl⟩
          dsimp only
          refine hK.out _ _ trivial (fun hHeld => ?_)
          clear hK K
          try simp only [Act.put, List.setIfInBounds_toArray, List.set_cons_zero, List.set_cons_succ]
          refine takeH (i := 7) (v := (.int .i64 n)) rfl rfl (by kernel_rfl) (by kernel_rfl) (by kernel_rfl) (fun _ _ _ h => h) (by rfl) (fun W hW => by (skip); go_simp) (by assumption) ?_
          simp only [List.setIfInBounds_toArray, List.set_cons_zero, List.set_cons_succ]
          refine wpAnyH_ready (rs := [0]) (by kernel_rfl) (by simp) ?_
          refine (AllReadyH.cons rfl (fun K hK => ?_) AllReadyH.nil)
          go_simp
          refine hK.out _ _ trivial (fun hHeld => ?_)
          clear hK K
          try simp only [Act.put, List.setIfInBounds_toArray, List.set_cons_zero, List.set_cons_succ]
          refine takeH (i := 3) (v := (.pointer (some ⟨w0.drew.heap.size, x, none⟩))) rfl rfl (by kernel_rfl) (by kernel_rfl) (by kernel_rfl) (fun _ _ _ h => h) (by rfl) (fun W hW => by (skip); go_simp) (by assumption) ?_
          simp only [List.setIfInBounds_toArray, List.set_cons_zero, List.set_cons_succ]
          refine wpAnyH_ready (rs := [4]) (by kernel_rfl) (by simp) ?_
          refine (AllReadyH.cons rfl (fun K hK => ?_) AllReadyH.nil)
          go_simp
          refine hK.out _ _ trivial (fun hHeld => ?_)
          clear hK K
          try simp only [Act.put, List.setIfInBounds_toArray, List.set_cons_zero, List.set_cons_succ]
          refine takeH (i := 8) (v := (.int .i64 p)) rfl rfl (by kernel_rfl) (by kernel_rfl) (by kernel_rfl) (fun _ _ _ h => h) (by rfl) (fun W hW => by (skip); go_simp) (by assumption) ?_
          simp only [List.setIfInBounds_toArray, List.set_cons_zero, List.set_cons_succ]
          refine takeH (i := 9) (v := (.int .i64 n)) rfl rfl (by kernel_rfl) (by kernel_rfl) (by kernel_rfl) (fun _ _ _ h => h) (by rfl) (fun W hW => by (skip); go_simp) (by assumption) ?_
          simp only [List.setIfInBounds_toArray, List.set_cons_zero, List.set_cons_succ]
          refine wpAnyH_done (by kernel_rfl) ?_ _
          clear hHeld
          go_wp2_with fail
          go_meet
          exact ⟨p, rfl, rfl, hmp, hp11, HB.out⟩
    case rest =>
      obtain ⟨p, rfl, rfl, hmp, hp11, hbw⟩ := hcut
      obtain ⟨hp2, hp3, hp6⟩ := modB_true hmp
      rw [Int.toNat_natCast] at hp6
      have HMOD := Lib.hid hmp
      have HIV := Lib.hid (invF (p := (p : Int)) (by rw [Int.toNat_natCast]; exact hp6) hp2)
      have HB1 := Lib.hid (HB0.out.trans (hbw.mono HB0.out.size))
      have HV1 := Lib.hid (vec_on HV0.out hbw)
      have hsz := HB1.out.size
      have HT0 := Lib.hid (taker_new wc A c N z HV1.out)
      have HB2 := Lib.hid (HB1.out.alloc hsz (.cells #[.slice A N c, .int .i64 0] 29))
      have hz4 : (wc.alloc (.cells #[.slice A N c, .int .i64 0] 29)).heap.size = wc.heap.size + 1 := by simp
      clear hmp hbw HB0 HV0 HP HN HV1 HB1 hn hp5 hn5 hwn
      go_wp2_with fail
      generalize wc.alloc (.cells #[.slice A N c, .int .i64 0] 29) = w4 at HT0 HB2 hz4
      generalize wc.heap.size = t at HT0 hsz hz4
      refine (drawn_any t A c N 0 z p n n w4 (by omega) (by omega) (by omega) hn1 (by omega) hN HT0.out).mono ?_
      rintro e w5 ⟨va, F, q5, rfl, hg, hf, hq5, htu⟩
      have ht4 := HT0.out.1.lt
      have ht5 : t < w5.heap.size := hq5.1.lt
      obtain ⟨bg, og, cg, RG, CG, rfl, -, -, -⟩ := hg.at_ (by omega)
      have HCH := Lib.hid (chkM_full HMOD.out hn1 (by omega) hn1 (by omega) (show InG (p : Int) n n F from hf))
      have HFT := Lib.hid (chkM_full HMOD.out hn1 (by omega) hn1 (by omega) (show InG (p : Int) n n (fun i j => F j i) from fun i hi j hj => hf j hj i hi))
      have HVT := Lib.hid (val_turn (p := (p : Int)) hp2 HIV.out n F)
      have hbl := (Below.refl w5.heap.size w5).alloc (Nat.le_refl _) (.cells #[.int .i64 p, .slice (some ⟨bg, og, none⟩) n cg] 31)
      have HSC0 := Lib.hid (show SC w t A c N z p w5.heap.size (.slice (some ⟨bg, og, none⟩) n cg) n n F (w5.alloc (.cells #[.int .i64 p, .slice (some ⟨bg, og, none⟩) n cg] 31)) from
        ⟨far_calls (hg.more fun b hb => ⟨by have := hb.1; omega, hb.2⟩) hbl, row_new rfl _ _, ht5, ⟨q5, hq5.but hbl ht5⟩, (below_turn HB2.out htu hsz).trans (hbl.mono (below_turn HB2.out htu hsz).size)⟩)
      clear hg hf hq5 htu HT0 HB2 hz4 hbl
      have c0 := HSC0.out.box.cell (i := 0) rfl
      have c1 := HSC0.out.box.cell (i := 1) rfl
      go_wp2_with fail
      generalize w5.alloc (.cells #[.int .i64 p, .slice (some ⟨bg, og, none⟩) n cg] 31) = s0 at HSC0 c0 c1 ⊢
      generalize w5.heap.size = bx at ht5 HSC0 c0 c1 ⊢
      clear c0 c1
      refine (Values_ok p (.slice (some ⟨bg, og, none⟩) n cg) n F s0 HSC0.out.grid HCH.out).mono ?_
      rw [Int.toNat_natCast]
      rintro e s1 ⟨vv, rfl, hvv, hb1⟩
      have HSC1 := Lib.hid (HSC0.out.calls hb1)
      have hts0 := HSC0.out.tlt
      have HVV1 := Lib.hid (hvv.more (S' := Far t s1) fun b hb => ⟨by have := hb.1; omega, hb.2⟩)
      have HHAS := Lib.hid (pick_has (isVal p n F) p)
      have HUP := Lib.hid (fun i h => pick_up (isVal p n F) p (i := i) h)
      have hLp := pickL_len (isVal p n F) p
      obtain ⟨Lv, hLv⟩ : ∃ L, (pickL (isVal p n F) p).length = L := ⟨_, rfl⟩
      obtain ⟨vf, hvf⟩ : ∃ f : Nat → Int, (fun j => (pickL (isVal p n F) p).getD j 0) = f := ⟨_, rfl⟩
      have HVF := Lib.hid hvf
      have HLV := Lib.hid hLv
      have hup : ∀ i, i + 1 < Lv → vf i < vf (i + 1) := fun i h => by rw [← hvf]; exact HUP.out i (by rw [hLv]; exact h)
      have HUP2 := Lib.hid hup
      have hhas : ∀ x, x < p → hasB Lv vf (x : Int) = isVal p n F x := fun x h => by rw [← hvf, ← hLv]; exact HHAS.out x h
      have HHAS2 := Lib.hid hhas
      rw [hLv, hvf] at HVV1
      rw [hLv] at hLp
      obtain ⟨Av, cv, e⟩ : ∃ A c, vv = .slice A Lv c := by obtain ⟨A, c, e, -⟩ := HVV1.out.form; exact ⟨A, c, e⟩
      subst e
      have hmm : ((n : Int) != (n : Int)) = false := by simp
      have hsum0 : eigS (p : Int) n F 0 = 0 := rfl
      clear hvv hb1 HSC0 HHAS HUP hup hhas hLv hvf
      go_wp2_with fail
      go_loopw [10, 11] (fun a i wr => ∃ x : Nat, a = .int .i64 (eigS (p : Int) n F x : Nat) ∧ i = .int .i64 x ∧ x ≤ p ∧ Hid (SC w t A c N z p bx (.slice (some ⟨bg, og, none⟩) n cg) n n F wr) ∧ Hid (Vec wr (Far t wr) (.slice Av Lv cv) Lv vf)) (fun _ i _ => p - (intOf i).toNat)
      case atStart => exact ⟨0, by rw [hsum0]; rfl, rfl, Nat.zero_le _, HSC1, HVV1⟩
      case round =>
        obtain ⟨x, rfl, rfl, hx, HSr, HVr⟩ := hrel
        clear HSC1 HVV1
        by_cases hlt : x < p
        · have HEG := eigs_all (pn := p) hp2 HIV.out n F x
          have hsumx := eig_sum (p := (p : Int)) hp2 HIV.out n F (x := x + 1) (by omega)
          have hstep := HEG.sum
          have hval := HEG.val
          have hlow := HEG.low
          have happ := HEG.app
          have hhx := HHAS2.out x hlt
          obtain ⟨LK, hLK⟩ : ∃ L, (kerL n n (kerR p n n (eigF p x F))).length = L := ⟨_, rfl⟩
          obtain ⟨KF, hKF⟩ : ∃ K : Nat → Nat → Int, (fun i y => rowAt (kerR p n n (eigF p x F)) ((kerL n n (kerR p n n (eigF p x F))).getD i 0) (n + y)) = K := ⟨_, rfl⟩
          rw [hLK] at hstep hval hlow happ
          have hlow2 : ∀ i, i < LK → InP (p : Int) n (KF i) := fun i hi => by rw [← hKF]; exact hlow i hi
          have happ2 : ∀ i, i < LK → ∀ j, j < n → appF p n (KF i) F j = KF i j * x % p := fun i hi j hj => by rw [← hKF]; exact happ i hi j hj
          have HLOW := Lib.hid hlow2
          have HAPP := Lib.hid happ2
          have HLK := Lib.hid hLK
          have HKF := Lib.hid hKF
          obtain ⟨Sx, hSx⟩ : ∃ s, eigS (p : Int) n F x = s := ⟨_, rfl⟩
          obtain ⟨S1, hS1⟩ : ∃ s, eigS (p : Int) n F (x + 1) = s := ⟨_, rfl⟩
          rw [hSx, hS1] at hstep
          rw [hS1] at hsumx
          have HS1 := Lib.hid hS1
          have hLKn : LK ≤ n := by omega
          have hwr : IntKind.i64.wrap ((Sx : Int) + (LK : Int)) = (S1 : Int) := by rw [show (Sx : Int) + (LK : Int) = (S1 : Int) by omega]; exact IntWalk.i64_in _ ⟨by omega, by omega⟩
          obtain ⟨bb, hbb⟩ : ∃ b, decide ((LK : Int) > 0) = b := ⟨_, rfl⟩
          rw [hbb] at hval
          rw [hval] at hhx
          have hbne : (bb != bb) = false := by cases bb <;> rfl
          have hbb2 : decide (0 < LK) = bb := by rw [← hbb]; exact decide_eq_decide.2 (by omega)
          have hbb3 : decide ((0 : Int) < (LK : Int)) = bb := hbb
          have HHX := Lib.hid hhx
          have c0 := HSr.out.box.cell (i := 0) rfl
          have c1 := HSr.out.box.cell (i := 1) rfl
          rw [hSx]
          clear HEG hstep hval hlow happ hlow2 happ2 hhx hLK hKF hSx hS1
          go_wp2_with fail
          refine (Eigen_ok p x (.slice (some ⟨bg, og, none⟩) n cg) n F wr HSr.out.grid HCH.out).mono ?_
          rintro e s2 ⟨vk, rfl, hgk, hb⟩
          rw [HLK.out, HKF.out] at hgk
          have hts := HSr.out.tlt
          have HGK2 := Lib.hid (show Grid s2 (Far t s2) vk LK (fun _ => n) KF from hgk.more fun b hb => ⟨by have := hb.1; omega, hb.2⟩)
          obtain ⟨Ak, ck, rfl, -⟩ := hgk.form
          have HS2 := Lib.hid (HSr.out.calls hb)
          have HV2 := Lib.hid (vecFar_calls HVr.out hb)
          clear hgk hb HSr HVr c0 c1 HLK HKF hts
          go_wp2_with fail
          refine (has_any (.slice Av Lv cv) Lv vf x _ s2 (by omega) HV2.out).mono ?_
          rintro e s3 ⟨rfl, nq, rfl⟩
          rw [HHX.out]
          have HS3 := Lib.hid (HS2.out.drew nq)
          have HV3 := Lib.hid (show Vec (s2.drewN nq) (Far t (s2.drewN nq)) (.slice Av Lv cv) Lv vf from HV2.out.keep (fun _ h => h) (fun _ _ => rfl) (fun _ _ => rfl))
          have HGK3 := Lib.hid (far_drew HGK2.out nq)
          change Hid (Grid (s2.drewN nq) (Far t (s2.drewN nq)) _ LK (fun _ => n) KF) at HGK3
          clear HS2 HV2 HGK2 HHX
          generalize s2.drewN nq = s3 at HS3 HV3 HGK3 ⊢
          go_wp2_with fail
          clear hbb hbne hbb2 hbb3
          go_loopw [14] (fun i wi => ∃ i' : Nat, i = .int .i64 i' ∧ i' ≤ LK ∧ Hid (SC w t A c N z p bx (.slice (some ⟨bg, og, none⟩) n cg) n n F wi) ∧ Hid (Vec wi (Far t wi) (.slice Av Lv cv) Lv vf) ∧ Hid (Grid wi (Far t wi) (.slice Ak LK ck) LK (fun _ => n) KF)) (fun i _ => LK - (intOf i).toNat)
          case atStart => exact ⟨0, rfl, Nat.zero_le _, HS3, HV3, HGK3⟩
          case round =>
            obtain ⟨i, rfl, hi, HSi, HVi, HGi⟩ := hrel
            clear HS3 HV3 HGK3
            by_cases hli : i < LK
            · obtain ⟨bk, ok, ck', RA, RC, e', -, hbk, hrk⟩ := HGi.out.at_ (by omega)
              injection e' with e1 _ e3
              subst e1; subst e3
              obtain ⟨hrow, hrv⟩ := hrk i hli
              obtain ⟨br, or_, cr', e', -, hbr, hent⟩ := hrv.at_ (by omega)
              have HRV := Lib.hid hrv
              have HENT := Lib.hid hent
              have HBK := Lib.hid hbk.2
              have HBR := Lib.hid hbr.2
              have c0 := HSi.out.box.cell (i := 0) rfl
              have c1 := HSi.out.box.cell (i := 1) rfl
              have d1 : (0 : Int) ≤ i := by omega
              have d2 : (i : Int) < (LK : Int) := by omega
              obtain ⟨Ari, hAri⟩ : ∃ A, RA i = A := ⟨_, rfl⟩
              obtain ⟨cri, hcri⟩ : ∃ A, RC i = A := ⟨_, rfl⟩
              rw [hAri, hcri] at hrow HRV e'
              injection e' with e1 _ e3
              subst e1; subst e3
              have HROW := Lib.hid hrow
              clear hrk hrv hbk hbr hent hAri hcri
              go_wp2_with fail
              go_cut [15, 16] from 78 to 85 (fun s15 s16 wx => ∃ zz Ar cr, s15 = .slice Ar n cr ∧ s16 = .slice (some ⟨zz, 0, none⟩) n n ∧ Below wr.heap.size wr wx ∧ wr.heap.size ≤ zz ∧ Vec wx (fun b => wr.heap.size ≤ b ∧ b < wx.heap.size ∧ b ≠ zz) (.slice Ar n cr) n (appF p n (KF i) F) ∧ RowI wx zz n (fun _ => 0))
              case first =>
                clear HVi HGi HLOW HAPP HENT HBR
                refine wp_region_held_drew (S := (fun W1 => W1.cell? ⟨bk, ok + i, none⟩ = some (.slice (some ⟨br, or_, none⟩) n cri) ∧ W1.cell? ⟨bx, 0, none⟩ = some (.int .i64 p) ∧ W1.cell? ⟨bx, 1, none⟩ = some (.slice (some ⟨bg, og, none⟩) n cg))) (by kernel_rfl) ⟨hrow, c0, c1⟩ (fun hHeld => ?_)
                have HSq := Lib.hid HSi.out.drew1
                have HRq := Lib.hid (show Vec wr.drew (Far t wr.drew) (.slice (some ⟨br, or_, none⟩) n cri) n (KF i) from HRV.out.keep (fun _ h => h) (fun _ _ => rfl) (fun _ _ => rfl))
                have HBq := Lib.hid (show Below wr.heap.size wr wr.drew from ⟨rfl, rfl, rfl, Nat.le_refl _, fun _ _ => rfl⟩)
                have hszq : wr.drew.heap.size = wr.heap.size := rfl
                have hbk2 : bk < wr.drew.heap.size := HBK.out
                clear HSi HRV c0 c1 hrow HROW HBK
                generalize wr.drew = x0 at HSq HRq HBq hszq hbk2 hHeld ⊢
                have hmk := make_ints n (by omega) x0
                refine takeH (i := 0) (v := (.slice (some ⟨bk, ok, none⟩) LK ck)) rfl rfl (by kernel_rfl) (by kernel_rfl) (by kernel_rfl) (fun _ _ _ h => h) (by rfl) (fun W hW => by (skip); go_simp) (by assumption) ?_
                simp only [List.setIfInBounds_toArray, List.set_cons_zero, List.set_cons_succ]
                refine takeH (i := 1) (v := (.int .i64 i)) rfl rfl (by kernel_rfl) (by kernel_rfl) (by kernel_rfl) (fun _ _ _ h => h) (by rfl) (fun W hW => by (skip); go_simp) (by assumption) ?_
                simp only [List.setIfInBounds_toArray, List.set_cons_zero, List.set_cons_succ]
                refine takeH (i := 2) (v := (.pointer (some ⟨bk, ok + i, none⟩))) rfl rfl (by kernel_rfl) (by kernel_rfl) (by kernel_rfl) (fun _ _ _ h => h) (by rfl) (fun W hW => by (skip); go_simp) (by assumption) ?_
                simp only [List.setIfInBounds_toArray, List.set_cons_zero, List.set_cons_succ]
                refine takeH (i := 3) (v := (.slice (some ⟨br, or_, none⟩) n cri)) rfl rfl (by kernel_rfl) (by kernel_rfl) (by kernel_rfl) (fun _ _ _ h => h) (by rfl) (fun W hW => by (obtain ⟨h1, h2, h3⟩ := hW); go_simp) (by assumption) ?_
                simp only [List.setIfInBounds_toArray, List.set_cons_zero, List.set_cons_succ]
                refine takeH (i := 4) (v := (.agg #[.int .i64 p, .slice (some ⟨bg, og, none⟩) n cg])) rfl rfl (by kernel_rfl) (by kernel_rfl) (by kernel_rfl) (fun _ _ _ h => h) (by rfl) (fun W hW => by (obtain ⟨h1, h2, h3⟩ := hW); go_simp) (by assumption) ?_
                simp only [List.setIfInBounds_toArray, List.set_cons_zero, List.set_cons_succ]
                refine takeH (i := 6) (v := (.int .i64 n)) rfl rfl (by kernel_rfl) (by kernel_rfl) (by kernel_rfl) (fun _ _ _ h => h) (by rfl) (fun W hW => by (skip); go_simp) (by assumption) ?_
                simp only [List.setIfInBounds_toArray, List.set_cons_zero, List.set_cons_succ]
                refine wpAnyH_ready (rs := [5, 7]) (by kernel_rfl) (by simp) ?_
                refine (AllReadyH.cons rfl (fun K hK => ?_) (AllReadyH.cons rfl (fun K hK => ?_) AllReadyH.nil))
                · go_simp
                  refine (apply_ok (.slice (some ⟨br, or_, none⟩) n cri) (.slice (some ⟨bg, og, none⟩) n cg) n n (KF i) F p x0 (HRq.out.more fun _ h => h.2) HSq.out.grid HCH.out).mono ?_
                  rintro e x1 ⟨r, rfl, hr, hb1⟩
                  have HS1 := Lib.hid (HSq.out.calls hb1)
                  have q1 := (hb1.cell (p := ⟨bk, ok + i, none⟩) hbk2).trans hHeld.1
                  have q2 := HS1.out.box.cell (i := 0) rfl
                  have q3 := HS1.out.box.cell (i := 1) rfl
                  have hmk := make_ints n (by omega) x1
                  have hs01 := hb1.size
                  have HR1 := Lib.hid hr
                  have HB1 := Lib.hid (HBq.out.trans (hb1.mono HBq.out.size))
                  obtain ⟨Ar, cr, rfl, -⟩ := hr.form
                  have hbk3 := Nat.lt_of_lt_of_le hbk2 hb1.size
                  clear hr hb1 HSq HRq HBq
                  dsimp only
                  refine hK.out _ _ ⟨q1, q2, q3⟩ (fun hHeld => ?_)
                  clear hK K
                  try simp only [Act.put, List.setIfInBounds_toArray, List.set_cons_zero, List.set_cons_succ]
                  refine takeH (i := 8) (v := (.slice Ar n cr)) rfl rfl (by kernel_rfl) (by kernel_rfl) (by kernel_rfl) (fun _ _ _ h => h) (by rfl) (fun W hW => by (skip); go_simp) (by assumption) ?_
                  simp only [List.setIfInBounds_toArray, List.set_cons_zero, List.set_cons_succ]
                  refine wpAnyH_ready (rs := [7]) (by kernel_rfl) (by simp) ?_
                  refine (AllReadyH.cons rfl (fun K hK => ?_) AllReadyH.nil)
                  go_simp
                  have hba := (Below.refl x1.heap.size x1).alloc (Nat.le_refl _) (.cells (CTab n fun _ => .int .i64 0) 3)
                  have HS2 := Lib.hid (HS1.out.calls hba)
                  have q4 := (hba.cell (p := ⟨bk, ok + i, none⟩) hbk3).trans q1
                  have q5 := HS2.out.box.cell (i := 0) rfl
                  have q6 := HS2.out.box.cell (i := 1) rfl
                  have HE := Lib.hid (show Below wr.heap.size wr (x1.alloc (.cells (CTab n fun _ => .int .i64 0) 3)) ∧ wr.heap.size ≤ x1.heap.size ∧ Vec (x1.alloc (.cells (CTab n fun _ => .int .i64 0) 3)) (fun b => wr.heap.size ≤ b ∧ b < (x1.alloc (.cells (CTab n fun _ => .int .i64 0) 3)).heap.size ∧ b ≠ x1.heap.size) (.slice Ar n cr) n (appF p n (KF i) F) ∧ RowI (x1.alloc (.cells (CTab n fun _ => .int .i64 0) 3)) x1.heap.size n (fun _ => 0) from
                    ⟨HB1.out.trans (hba.mono HB1.out.size), HB1.out.size, (HR1.out.below (fun _ h => h.2) hba).more fun b h => ⟨by have := h.1; omega, Nat.lt_of_lt_of_le h.2 hba.size, by have := h.2; omega⟩, _, row_new rfl _ _, by rw [CTab_size]; exact Nat.le_refl _, fun j hj => CTab_get n _ j hj⟩)
                  clear hba HS1 HR1 HB1 q1 q2 q3 hmk
                  refine hK.out _ _ ⟨q4, q5, q6⟩ (fun hHeld => ?_)
                  clear hK K
                  try simp only [Act.put, List.setIfInBounds_toArray, List.set_cons_zero, List.set_cons_succ]
                  refine takeH (i := 9) (v := (.slice (some ⟨x1.heap.size, 0, none⟩) n n)) rfl rfl (by kernel_rfl) (by kernel_rfl) (by kernel_rfl) (fun _ _ _ h => h) (by rfl) (fun W hW => by (skip); go_simp) (by assumption) ?_
                  simp only [List.setIfInBounds_toArray, List.set_cons_zero, List.set_cons_succ]
                  refine wpAnyH_done (by kernel_rfl) ?_ _
                  clear hHeld q4 q5 q6
                  go_wp2_with fail
                  go_meet
                  exact ⟨_, _, _, rfl, rfl, HE.out⟩
                · go_simp
                  have hba := (Below.refl x0.heap.size x0).alloc (Nat.le_refl _) (.cells (CTab n fun _ => .int .i64 0) 3)
                  have HS1 := Lib.hid (HSq.out.calls hba)
                  have HR1 := Lib.hid (vecFar_calls HRq.out hba)
                  have HB1 := Lib.hid (HBq.out.trans (hba.mono HBq.out.size))
                  have hrz : RowI (x0.alloc (.cells (CTab n fun _ => .int .i64 0) 3)) x0.heap.size n (fun _ => 0) := ⟨_, row_new rfl _ _, by rw [CTab_size]; exact Nat.le_refl _, fun j hj => CTab_get n _ j hj⟩
                  have HZ1 := Lib.hid hrz
                  have q4 := (hba.cell (p := ⟨bk, ok + i, none⟩) hbk2).trans hHeld.1
                  have q5 := HS1.out.box.cell (i := 0) rfl
                  have q6 := HS1.out.box.cell (i := 1) rfl
                  have hzl := hrz.lt
                  have hbk3 := Nat.lt_of_lt_of_le hbk2 hba.size
                  clear hba HSq HRq HBq hmk hrz
                  generalize x0.alloc (.cells (CTab n fun _ => .int .i64 0) 3) = x1 at HS1 HR1 HB1 HZ1 q4 q5 q6 hbk3 hzl ⊢
                  generalize x0.heap.size = zz at HZ1 hszq hzl ⊢
                  refine hK.out _ _ ⟨q4, q5, q6⟩ (fun hHeld => ?_)
                  clear hK K
                  try simp only [Act.put, List.setIfInBounds_toArray, List.set_cons_zero, List.set_cons_succ]
                  refine wpAnyH_ready (rs := [5]) (by kernel_rfl) (by simp) ?_
                  refine (AllReadyH.cons rfl (fun K hK => ?_) AllReadyH.nil)
                  go_simp
                  refine (apply_ok (.slice (some ⟨br, or_, none⟩) n cri) (.slice (some ⟨bg, og, none⟩) n cg) n n (KF i) F p x1 (HR1.out.more fun _ h => h.2) HS1.out.grid HCH.out).mono ?_
                  rintro e x2 ⟨r, rfl, hr, hb1⟩
                  have HS2 := Lib.hid (HS1.out.calls hb1)
                  have q1 := (hb1.cell (p := ⟨bk, ok + i, none⟩) hbk3).trans q4
                  have q2 := HS2.out.box.cell (i := 0) rfl
                  have q3 := HS2.out.box.cell (i := 1) rfl
                  have HE := Lib.hid (show Below wr.heap.size wr x2 ∧ wr.heap.size ≤ zz ∧ Vec x2 (fun b => wr.heap.size ≤ b ∧ b < x2.heap.size ∧ b ≠ zz) r n (appF p n (KF i) F) ∧ RowI x2 zz n (fun _ => 0) from
                    ⟨HB1.out.trans (hb1.mono HB1.out.size), by omega, hr.more fun b h => ⟨by have := h.1; have := HB1.out.size; omega, h.2, by have := h.1; omega⟩, HZ1.out.turn (S := fun _ => False) ⟨hb1.os, hb1.tape, hb1.output, hb1.size, fun q hq _ => hb1.block q hq⟩ id⟩)
                  obtain ⟨Ar, cr, rfl, -⟩ := hr.form
                  clear hr hb1 HS1 HR1 HB1 HZ1
                  dsimp only
                  refine hK.out _ _ ⟨q1, q2, q3⟩ (fun hHeld => ?_)
                  clear hK K
                  try simp only [Act.put, List.setIfInBounds_toArray, List.set_cons_zero, List.set_cons_succ]
                  refine takeH (i := 8) (v := (.slice Ar n cr)) rfl rfl (by kernel_rfl) (by kernel_rfl) (by kernel_rfl) (fun _ _ _ h => h) (by rfl) (fun W hW => by (skip); go_simp) (by assumption) ?_
                  simp only [List.setIfInBounds_toArray, List.set_cons_zero, List.set_cons_succ]
                  refine takeH (i := 9) (v := (.slice (some ⟨zz, 0, none⟩) n n)) rfl rfl (by kernel_rfl) (by kernel_rfl) (by kernel_rfl) (fun _ _ _ h => h) (by rfl) (fun W hW => by (skip); go_simp) (by assumption) ?_
                  simp only [List.setIfInBounds_toArray, List.set_cons_zero, List.set_cons_succ]
                  refine wpAnyH_done (by kernel_rfl) ?_ _
                  clear hHeld q1 q2 q3 q4 q5 q6
                  go_wp2_with fail
                  go_meet
                  exact ⟨_, _, _, rfl, rfl, HE.out⟩
              case rest =>
                obtain ⟨zz, Ar, cr, rfl, rfl, hbc, hzz, hva, hrz⟩ := hcut
                have HBC := Lib.hid hbc
                have HVA := Lib.hid hva
                have HRZ := Lib.hid (hrz.congr (f' := wTo p x (KF i) 0) fun a _ => by simp [wTo])
                have HROW2 := Lib.hid ((hbc.cell (p := ⟨bk, ok + i, none⟩) HBK.out).trans HROW.out)
                have HENT2 := Lib.hid (fun a (ha : a < n) => (hbc.cell (p := ⟨br, or_ + a, none⟩) HBR.out).trans (HENT.out a ha))
                have hbkz : ¬ bk = zz := fun e => by have := HBK.out; omega
                have hbrz : ¬ br = zz := fun e => by have := HBR.out; omega
                have hlowi := HLOW.out i hli
                have HLI := Lib.hid hlowi
                clear hbc hva hrz hrow HROW HENT HRV c0 c1 hlowi
                have c5 := HROW2.out
                go_wp2_with fail
                clear c5
                go_loopw [17] (fun j wj => ∃ j' : Nat, j = .int .i64 j' ∧ j' ≤ n ∧ Hid (RowI wj zz n (wTo p x (KF i) j')) ∧ Hid (Turn (· = zz) wc wj)) (fun j _ => n - (intOf j).toNat)
                case atStart => exact ⟨0, rfl, Nat.zero_le _, HRZ, Lib.hid (Turn.refl _ _)⟩
                case round =>
                  obtain ⟨j, rfl, hj, HRj, HTj⟩ := hrel
                  by_cases hlj : j < n
                  · have q1 := HTj.out.cell HROW2.out hbkz
                    have q2 := HTj.out.cell (HENT2.out j hlj) hbrz
                    have q3 := HRj.out.cell hlj
                    have q4 := HRj.out.frozen j
                    have hin := HLI.out j hlj
                    have HNR := Lib.hid (show RowI (wr.setCell ⟨zz, j, none⟩ (.int .i64 (KF i j * x % p))) zz n (wTo p x (KF i) (j + 1)) from (HRj.out.set j (KF i j * x % p)).congr fun a _ => wTo_step p x (KF i) j a)
                    have HNT := Lib.hid (HTj.out.setCell ⟨zz, j, none⟩ rfl (.int .i64 (KF i j * x % p)))
                    generalize KF i j = y at q2 hin HNR HNT
                    have hmul := mul_in (a := y) (b := (x : Int)) (p := p) (q := p) ⟨hin.1, by omega⟩ ⟨by omega, by omega⟩ (by omega) (by omega)
                    obtain ⟨m1, hm1⟩ : ∃ m1, y * (x : Int) = m1 := ⟨_, rfl⟩
                    have hw1 : IntKind.i64.wrap (y * (x : Int)) = m1 := by rw [hm1]; exact IntWalk.i64_in _ ⟨by omega, by omega⟩
                    rw [hm1] at hmul HNR HNT
                    have hr : m1.tmod p = m1 % p := Int.tmod_eq_emod_of_nonneg (by omega)
                    have hr1 : 0 ≤ m1 % (p : Int) := Int.emod_nonneg _ (by omega)
                    have hr2 : m1 % (p : Int) < p := Int.emod_lt_of_pos _ (by omega)
                    have hw3 : IntKind.i64.wrap (m1 % (p : Int)) = m1 % (p : Int) := IntWalk.i64_in _ ⟨by omega, by omega⟩
                    have hpz : ((p : Int) != 0) = true := by simp; omega
                    have hpz0 : ¬ p = 0 := by omega
                    have e1 : (0 : Int) ≤ j := by omega
                    have e2 : (j : Int) < (n : Int) := by omega
                    clear hm1
                    go_wp2
                    go_roundw
                    case rel => exact ⟨j + 1, by go_num, by omega, HNR, HNT⟩
                    case measure => simp [intOf]; omega
                  · obtain rfl : n = j := by omega
                    have hbt : Below w0.heap.size w0 w0 := Below.refl _ _
                    clear hbt
                    have htj := HTj.out
                    have hvj : Vec wr (fun _ => True) (.slice Ar n cr) n (appF p n (KF i) F) := (HVA.out.turn htj (fun b hb (e : b = zz) => hb.2.2 e)).more fun _ _ => trivial
                    have HVJ := Lib.hid hvj
                    have HZJ := Lib.hid (HRj.out.vec (Nat.le_refl n) (fun _ => True) trivial)
                    have HBJ := Lib.hid (HBC.out.trans ⟨htj.os, htj.tape, htj.output, htj.size, fun q hq => htj.block q (Nat.lt_of_lt_of_le hq HBC.out.size) (fun (e : q = zz) => by omega)⟩)
                    clear htj hvj HRj HTj HVA HRZ HBC HROW2 HENT2
                    go_wp2_with fail
                    refine (row_same (.slice Ar n cr) (.slice (some ⟨zz, 0, none⟩) n n) n (appF p n (KF i) F) (wTo p x (KF i) n) wr _ _ (by omega) HVJ.out HZJ.out).mono ?_
                    rintro e wf ⟨rfl, nq, rfl⟩
                    rw [show eqB n (appF p n (KF i) F) (wTo p x (KF i) n) = true from decide_eq_true (fun a ha => by rw [HAPP.out i hli a ha]; unfold wTo; rw [if_pos ha])]
                    have HBF := Lib.hid (below_drewN HBJ.out nq)
                    have HSF := Lib.hid (HSi.out.calls HBF.out)
                    have HVF2 := Lib.hid (vecFar_calls HVi.out HBF.out)
                    have HGF := Lib.hid (far_calls HGi.out HBF.out)
                    clear HVJ HZJ HBJ HBF
                    generalize wr.drewN nq = wf at HSF HVF2 HGF ⊢
                    go_wp2
                    go_roundw
                    case rel => exact ⟨i + 1, by go_num, by omega, HSF, HVF2, HGF⟩
                    case measure => simp [intOf]; omega
            · obtain rfl : LK = i := by omega
              have hS1 := HS1.out
              go_wp2
              go_roundw
              case rel => exact ⟨x + 1, by rw [hS1], by go_num, by omega, HSi, HVi⟩
              case measure => simp [intOf]; omega
        · obtain rfl : p = x := by omega
          have hall := eig_sum (p := (p : Int)) hp2 HIV.out n F (x := p) (Int.le_refl _)
          obtain ⟨Sp, hSp⟩ : ∃ s, eigS (p : Int) n F p = s := ⟨_, rfl⟩
          rw [hSp] at hall ⊢
          have hle : decide ((Sp : Int) ≤ (n : Int)) = true := decide_eq_true (by omega)
          clear hSp
          go_wp2_with fail
          go_loopw [18] (fun i wi => ∃ i' : Nat, i = .int .i64 i' ∧ i' ≤ Lv ∧ Hid (SC w t A c N z p bx (.slice (some ⟨bg, og, none⟩) n cg) n n F wi) ∧ Hid (Vec wi (Far t wi) (.slice Av Lv cv) Lv vf)) (fun i _ => Lv - (intOf i).toNat)
          case atStart => exact ⟨0, rfl, Nat.zero_le _, HSr, HVr⟩
          case round =>
            obtain ⟨i, rfl, hi, HSi, HVi⟩ := hrel
            clear HSr HVr
            have hw1 : IntKind.i64.wrap ((i : Int) + 1) = (i : Int) + 1 := IntWalk.i64_in _ ⟨by omega, by omega⟩
            by_cases hli : i + 1 < Lv
            · obtain ⟨b, o, c', e', -, -, hc⟩ := HVi.out.at_ (by omega)
              injection e' with e1 _ e3
              subst e1; subst e3
              have q1 := hc i (by omega)
              have q2 := hc (i + 1) hli
              have hlt2 := HUP2.out i hli
              generalize vf i = y1 at q1 hlt2
              generalize vf (i + 1) = y2 at q2 hlt2
              have hge : decide (y1 ≥ y2) = false := decide_eq_false (by omega)
              have d1 : (0 : Int) ≤ i := by omega
              have d2 : (i : Int) < (Lv : Int) := by omega
              have d3 : (i : Int) + 1 < (Lv : Int) := by omega
              have d4 : (0 : Int) ≤ (i : Int) + 1 := by omega
              clear hc hlt2
              go_wp2_with fail
              go_quiet (fail)
              have HSq := Lib.hid (HSi.out.drew nq)
              have HVq := Lib.hid (show Vec (wr.drewN nq) (Far t (wr.drewN nq)) (.slice (some ⟨b, o, none⟩) Lv cv) Lv vf from HVi.out.keep (fun _ h => h) (fun _ _ => rfl) (fun _ _ => rfl))
              clear HSi HVi q1 q2
              generalize wr.drewN nq = wq at HSq HVq ⊢
              go_wp2
              go_roundw
              case rel => exact ⟨i + 1, by go_num, by omega, HSq, HVq⟩
              case measure => simp [intOf]; omega
            · have d3 : ¬ (i : Int) + 1 < (Lv : Int) := by omega
              have c0 := HSi.out.box.cell (i := 0) rfl
              have c1 := HSi.out.box.cell (i := 1) rfl
              go_wp2_with fail
              refine (rTurn_any (.slice (some ⟨bg, og, none⟩) n cg) n (fun _ => n) F p wr (by omega) (fun _ _ => by omega) HSi.out.grid 0 HCH.out.symm).mono ?_
              rintro e u1 ⟨-, -, h1⟩
              obtain ⟨rt, rfl, hgt, hb1⟩ := h1 rfl trivial
              obtain ⟨At, ct, rfl, -⟩ := hgt.form
              have HS1 := Lib.hid (HSi.out.calls hb1)
              have HV1 := Lib.hid (vecFar_calls HVi.out hb1)
              have hba := (Below.refl u1.heap.size u1).alloc (Nat.le_refl _) (.cells #[.int .i64 p, .slice At n ct] 31)
              have HS2 := Lib.hid (HS1.out.calls hba)
              have HV2 := Lib.hid (vecFar_calls HV1.out hba)
              have HG2 := Lib.hid ((hgt.below (fun _ h => h.2) hba).more (S' := (· < (u1.alloc (.cells #[.int .i64 p, .slice At n ct] 31)).heap.size)) fun _ h => Nat.lt_of_lt_of_le h.2 hba.size)
              clear h1 hgt hb1 hba HSi HVi c0 c1 HS1 HV1
              go_wp2_with fail
              generalize u1.alloc (.cells #[.int .i64 p, .slice At n ct] 31) = u2 at HS2 HV2 HG2 ⊢
              have hVO := Values_ok p (.slice At n ct) n (fun i j => F j i) u2 HG2.out HFT.out
              rw [HVT.out, Int.toNat_natCast] at hVO
              refine hVO.mono ?_
              rintro e u3 ⟨vv, rfl, hvv, hb3⟩
              rw [HVF.out, HLV.out] at hvv
              obtain ⟨A3, c3, rfl, -⟩ := hvv.form
              have HS3 := Lib.hid (HS2.out.calls hb3)
              have HV3 := Lib.hid (vecFar_calls HV2.out hb3)
              have HW3 := Lib.hid hvv
              clear hvv hb3 HS2 HV2 HG2 hVO
              go_wp2_with fail
              refine (row_same (.slice Av Lv cv) (.slice A3 Lv c3) Lv vf vf u3 _ _ (by omega) HV3.out HW3.out).mono ?_
              rintro e u4 ⟨rfl, nq, rfl⟩
              rw [show eqB Lv vf vf = true from decide_eq_true (fun _ _ => rfl)]
              have HBE := Lib.hid (below_drewN HS3.out.b nq)
              clear HS3 HV3 HW3
              go_wp2
              go_ret
              exact ⟨rfl, HBE.out⟩
end Go.Proofs.YtinoomcboinokaaGreat
