/- prime.Log, Sqrt, Zeta. -/
import Derived.Test.YtbcbkeeadbfjmaaPrLog
namespace Go.Proofs.Ytbcbkeeadbfjmaa
open Go Go.RowKit Num

set_option maxRecDepth 100000 in
set_option maxHeartbeats 400000 in
theorem Log_bad (a p : Int) (w : World) (hp : isP p = false) : Calls Try.prog 23 #[.int .i64 a, .int .i64 p] w fun e w' => e = .returned (.tuple #[.int .i64 0, .int .i64 3]) ∧ w' = w := by
  have HC := Lib.hid (unit_bad a p w hp)
  go_enter Try.func23, Try.ntmps23
  go_wp2_with fail
  refine HC.out.mono ?_
  rintro e w' ⟨rfl, rfl⟩
  go_wp2
  go_ret2
  exact ⟨rfl, rfl⟩
set_option maxRecDepth 100000 in
set_option maxHeartbeats 400000 in
theorem Log_zero (a : Int) (p : Nat) (w : World) (hp : P6 p) (h0 : resV a p = 0) : Calls Try.prog 23 #[.int .i64 a, .int .i64 p] w fun e w' => e = .returned (.tuple #[.int .i64 0, .int .i64 6]) ∧ w' = w := by
  have HC := Lib.hid (unit_zero a p w hp h0)
  go_enter Try.func23, Try.ntmps23
  go_wp2_with fail
  refine HC.out.mono ?_
  rintro e w' ⟨rfl, rfl⟩
  go_wp2
  go_ret2
  exact ⟨rfl, rfl⟩
set_option maxRecDepth 100000 in
set_option maxHeartbeats 400000 in
theorem Log_ok (a : Int) (p g k : Nat) (w : World) (hp : P6 p) (h0 : resV a p ≠ 0) (hg : RootOf p g) (hk : LogOf p g (resV a p) k) : Calls Try.prog 23 #[.int .i64 a, .int .i64 p] w (RetE w k 0) := by
  have HC := Lib.hid (unit_ok a p w hp h0)
  have HL := Lib.hid (log_any (resV a p) p g k w hp hg hk)
  generalize resV a p = x at HC HL
  go_enter Try.func23, Try.ntmps23
  go_wp2_with fail
  refine HC.out.mono ?_
  rintro e w' ⟨rfl, rfl⟩
  go_wp2_with fail
  refine HL.out.mono ?_
  rintro e w1 ⟨rfl, hb⟩
  have HB := Lib.hid hb
  clear hb
  go_wp2
  go_ret2
  exact ⟨rfl, HB.out⟩

set_option maxRecDepth 100000 in
set_option maxHeartbeats 400000 in
theorem Sqrt_bad (a p : Int) (w : World) (hp : isP p = false) : Calls Try.prog 24 #[.int .i64 a, .int .i64 p] w fun e w' => e = .returned (.tuple #[.int .i64 0, .int .i64 3]) ∧ w' = w := by
  have HC := Lib.hid (Mod_bad a p w hp)
  go_enter Try.func24, Try.ntmps24
  go_wp2_with fail
  refine HC.out.mono ?_
  rintro e w' ⟨rfl, rfl⟩
  go_wp2
  go_ret2
  exact ⟨rfl, rfl⟩
set_option maxRecDepth 100000 in
set_option maxHeartbeats 400000 in
theorem Sqrt_zero (a : Int) (p : Nat) (w : World) (hp : P6 p) (h0 : resV a p = 0) : Calls Try.prog 24 #[.int .i64 a, .int .i64 p] w fun e w' => e = .returned (.tuple #[.int .i64 0, .int .i64 0]) ∧ w' = w := by
  have HC := Lib.hid (Mod_ok a p w hp)
  rw [h0] at HC
  go_enter Try.func24, Try.ntmps24
  go_wp2_with fail
  refine HC.out.mono ?_
  rintro e w' ⟨rfl, rfl⟩
  go_wp2
  go_ret2
  exact ⟨rfl, rfl⟩
theorem pos_of_res {x : Nat} (h : x ≠ 0) : 1 ≤ x := by omega
set_option maxRecDepth 100000 in
set_option maxHeartbeats 400000 in
theorem Sqrt_none (a : Int) (p : Nat) (w : World) (hp : P6 p) (h0 : resV a p ≠ 0) (hn : ¬ HasSqrt p (resV a p)) : Calls Try.prog 24 #[.int .i64 a, .int .i64 p] w (RetE w 0 18) := by
  obtain ⟨g, hg⟩ := rootof_exists hp.1
  obtain ⟨k, hk1, hk2⟩ := log_exists hp.1 hg.2.2.1 (pos_of_res h0) (resV_lt a hp.ge)
  have hk : LogOf p g (resV a p) k := ⟨hk1, hk2⟩
  have hodd : k % 2 = 1 := by
    rcases Nat.mod_two_eq_zero_or_one k with h | h
    · exact absurd (let h := sqrt_even hp.1 hg.2.2.1 hk h; ⟨_, h.1, h.2.1⟩) hn
    · exact h
  have hlt := hp.2
  have HC := Lib.hid (Mod_ok a p w hp)
  have HL := Lib.hid (log_any (resV a p) p g k w hp hg hk)
  generalize resV a p = x at HC HL h0
  have hd : ((x : Int) == 0) = false := by simp; omega
  have hd2 : (((k : Int) % 2) == 1) = true := by simp; omega
  clear hk hk2 hn
  go_enter Try.func24, Try.ntmps24
  go_wp2_with fail
  refine HC.out.mono ?_
  rintro e w' ⟨rfl, rfl⟩
  go_wp2_with fail
  refine HL.out.mono ?_
  rintro e w1 ⟨rfl, hb⟩
  have HB := Lib.hid hb
  clear hb
  go_wp2
  go_ret2
  exact ⟨rfl, HB.out⟩
set_option maxRecDepth 100000 in
set_option maxHeartbeats 400000 in
theorem Sqrt_ok (a : Int) (p s : Nat) (w : World) (hp : P6 p) (h0 : resV a p ≠ 0) (hs : SqrtOf p (resV a p) s) : Calls Try.prog 24 #[.int .i64 a, .int .i64 p] w (RetE w s 0) := by
  obtain ⟨g, hg⟩ := rootof_exists hp.1
  obtain ⟨k, hk1, hk2⟩ := log_exists hp.1 hg.2.2.1 (pos_of_res h0) (resV_lt a hp.ge)
  have hk : LogOf p g (resV a p) k := ⟨hk1, hk2⟩
  have heven : k % 2 = 0 := log_parity hp.1 hg.2.2.1 hk hs.2.1
  have HS := Lib.hid (hs.unique (sqrt_even hp.1 hg.2.2.1 hk heven))
  have hlt := hp.2
  have h2 := hp.ge
  have hgp := hg.2.1
  have HC := Lib.hid (Mod_ok a p w hp)
  have HL := Lib.hid (log_any (resV a p) p g k w hp hg hk)
  have HRO := fun W => Lib.hid (root_any p g W hp hg)
  have HP := fun W => Lib.hid (pow_any g (k / 2) p W hgp h2 (by omega) (by omega))
  have hyp : g ^ (k / 2) % p < p := Nat.mod_lt _ (by omega)
  generalize g ^ (k / 2) % p = y at HP hyp HS
  have hcast : IntKind.i64.wrap ((p : Int) - (y : Int)) = ((p - y : Nat) : Int) := by
    rw [show ((p - y : Nat) : Int) = (p : Int) - y by omega]; exact IntWalk.i64_in _ ⟨by omega, by omega⟩
  generalize resV a p = x at HC HL h0
  have hd : ((x : Int) == 0) = false := by simp; omega
  have hd2 : (((k : Int) % 2) == 1) = false := by simp; omega
  have hu : IntKind.u64.wrap ((k : Int) / 2) = ((k / 2 : Nat) : Int) := by rw [IntKind.wrap_u64]; omega
  clear hk hk2 hs hg hp
  go_enter Try.func24, Try.ntmps24
  go_wp2_with fail
  refine HC.out.mono ?_
  rintro e w' ⟨rfl, rfl⟩
  go_wp2_with fail
  refine HL.out.mono ?_
  rintro e w1 ⟨rfl, hb⟩
  have HB := Lib.hid hb
  clear hb
  go_wp2_with fail
  refine (HRO _).out.mono ?_
  rintro e w2 ⟨rfl, hb⟩
  have HB2 := Lib.hid (HB.out.trans (hb.mono HB.out.size))
  clear hb
  go_wp2_with fail
  refine (HP _).out.mono ?_
  rintro e w3 ⟨rfl, rfl⟩
  go_wp2
  · have e : s = p - y := by have := HS.out; omega
    subst e
    go_ret2
    exact ⟨rfl, HB2.out.alloc HB2.out.size _⟩
  · have e : s = y := by have := HS.out; omega
    subst e
    go_ret2
    exact ⟨rfl, HB2.out.alloc HB2.out.size _⟩

set_option maxRecDepth 100000 in
set_option maxHeartbeats 400000 in
theorem Zeta_bad (e p : Int) (w : World) (hp : isP p = false) : Calls Try.prog 26 #[.int .i64 e, .int .i64 p] w fun e w' => e = .returned (.tuple #[.int .i64 0, .int .i64 3]) ∧ w' = w := by
  have HC := Lib.hid (Is_any p w)
  rw [hp] at HC
  go_enter Try.func26, Try.ntmps26
  go_wp2_with fail
  refine HC.out.mono ?_
  rintro e w' ⟨rfl, rfl⟩
  go_wp2
  go_ret2
  exact ⟨rfl, rfl⟩
set_option maxRecDepth 100000 in
set_option maxHeartbeats 400000 in
theorem Zeta_low (e : Int) (p : Nat) (w : World) (hp : P6 p) (he : e < 1) : Calls Try.prog 26 #[.int .i64 e, .int .i64 p] w fun e w' => e = .returned (.tuple #[.int .i64 0, .int .i64 2]) ∧ w' = w := by
  have HC := Lib.hid (Is_any p w)
  rw [hp.isP] at HC
  have hd : decide (e < 1) = true := decide_eq_true he
  go_enter Try.func26, Try.ntmps26
  go_wp2_with fail
  refine HC.out.mono ?_
  rintro e w' ⟨rfl, rfl⟩
  go_wp2
  go_ret2
  exact ⟨rfl, rfl⟩
set_option maxRecDepth 100000 in
set_option maxHeartbeats 400000 in
theorem Zeta_none (e p : Nat) (w : World) (hp : P6 p) (he : 1 ≤ e) (hd : (p - 1) % e ≠ 0) : Calls Try.prog 26 #[.int .i64 e, .int .i64 p] w fun e w' => e = .returned (.tuple #[.int .i64 0, .int .i64 18]) ∧ w' = w := by
  have HC := Lib.hid (Is_any p w)
  rw [hp.isP] at HC
  have h2 := hp.ge
  have hlt := hp.2
  have hd1 : decide ((e : Int) < 1) = false := decide_eq_false (by omega)
  have hne : ((e : Int) != 0) = true := by simp; omega
  have hw1 : IntKind.i64.wrap ((p : Int) - 1) = ((p - 1 : Nat) : Int) := by
    rw [show ((p - 1 : Nat) : Int) = (p : Int) - 1 by omega]; exact IntWalk.i64_in _ ⟨by omega, by omega⟩
  have hdd : (((p - 1 : Nat) : Int) % (e : Int) != 0) = true := by rw [← Int.natCast_emod]; simp; omega
  clear hd
  go_enter Try.func26, Try.ntmps26
  go_wp2_with fail
  refine HC.out.mono ?_
  rintro e w' ⟨rfl, rfl⟩
  go_wp2
  go_ret2
  exact ⟨rfl, rfl⟩
set_option maxRecDepth 100000 in
set_option maxHeartbeats 1000000 in
theorem Zeta_ok (e p g : Nat) (w : World) (hp : P6 p) (he : 1 ≤ e) (hd : (p - 1) % e = 0) (hg : RootOf p g) : Calls Try.prog 26 #[.int .i64 e, .int .i64 p] w (RetE w (g ^ ((p - 1) / e) % p : Nat) 0) := by
  have HC := Lib.hid (Is_any p w)
  rw [hp.isP] at HC
  have h2 := hp.ge
  have hlt := hp.2
  have hgp := hg.2.1
  have hd1 : decide ((e : Int) < 1) = false := decide_eq_false (by omega)
  have hne : ((e : Int) != 0) = true := by simp; omega
  have he0 : ¬ e = 0 := by omega
  have hw1 : IntKind.i64.wrap ((p : Int) - 1) = ((p - 1 : Nat) : Int) := by
    rw [show ((p - 1 : Nat) : Int) = (p : Int) - 1 by omega]; exact IntWalk.i64_in _ ⟨by omega, by omega⟩
  have hdd : (((p - 1 : Nat) : Int) % (e : Int) != 0) = false := by rw [← Int.natCast_emod]; simp; omega
  have hqm : (p - 1) / e ≤ p - 1 := Nat.div_le_self _ _
  have HRO := fun W => Lib.hid (root_any p g W hp hg)
  have HP := fun W => Lib.hid (pow_any g ((p - 1) / e) p W hgp h2 (by omega) (by omega))
  have hgi : ((p - 1 : Nat) : Int) / (e : Int) = (((p - 1) / e : Nat) : Int) := by rw [Int.natCast_ediv]
  generalize g ^ ((p - 1) / e) % p = y at HP ⊢
  generalize (p - 1) / e = k at HP hgi hqm
  have hgw : IntKind.i64.wrap (((p - 1 : Nat) : Int) / (e : Int)) = (k : Int) := by
    rw [hgi]; exact IntWalk.i64_in _ ⟨by omega, by omega⟩
  have hku : IntKind.u64.wrap (k : Int) = (k : Int) := by rw [IntKind.wrap_u64]; omega
  have HGI := Lib.hid hgi
  have HKU := Lib.hid hku
  clear hd hg hp hgi hku
  go_enter Try.func26, Try.ntmps26
  go_wp2_with fail
  refine HC.out.mono ?_
  rintro e1 w' ⟨rfl, rfl⟩
  go_wp2_with fail
  refine wp_region_held (S := fun _ => True) (by kernel_rfl) ?_
  refine takeH (i := 0) (d := 19) (v := .int .i64 p) rfl rfl (by kernel_rfl) (by kernel_rfl) (by kernel_rfl) (fun _ _ _ h => h) (by kernel_rfl) ?_ trivial ?_
  · (rintro W1 _; go_simp)
  simp only [List.setIfInBounds_toArray, List.set_cons_zero, List.set_cons_succ]
  refine takeH (i := 2) (d := 21) (v := .int .i64 p) rfl rfl (by kernel_rfl) (by kernel_rfl) (by kernel_rfl) (fun _ _ _ h => h) (by kernel_rfl) ?_ trivial ?_
  · (rintro W1 _; go_simp)
  simp only [List.setIfInBounds_toArray, List.set_cons_zero, List.set_cons_succ]
  refine takeH (i := 3) (d := 22) (v := .int .i64 (p - 1 : Nat)) rfl rfl (by kernel_rfl) (by kernel_rfl) (by kernel_rfl) (fun _ _ _ h => h) (by kernel_rfl) ?_ trivial ?_
  · (rintro W1 _; go_simp; first | done | exact hw1)
  simp only [List.setIfInBounds_toArray, List.set_cons_zero, List.set_cons_succ]
  refine takeH (i := 4) (d := 23) (v := .int .i64 e) rfl rfl (by kernel_rfl) (by kernel_rfl) (by kernel_rfl) (fun _ _ _ h => h) (by kernel_rfl) ?_ trivial ?_
  · (rintro W1 _; go_simp)
  simp only [List.setIfInBounds_toArray, List.set_cons_zero, List.set_cons_succ]
  refine takeH (i := 5) (d := 24) (v := .int .i64 k) rfl rfl (by kernel_rfl) (by kernel_rfl) (by kernel_rfl) (fun _ _ _ h => h) (by kernel_rfl) ?_ trivial ?_
  · (rintro W1 _; go_simp; first | done | (rw [HGI.out]; exact IntWalk.i64_in _ ⟨by omega, by omega⟩))
  simp only [List.setIfInBounds_toArray, List.set_cons_zero, List.set_cons_succ]
  refine takeH (i := 6) (d := 25) (v := .int .u64 k) rfl rfl (by kernel_rfl) (by kernel_rfl) (by kernel_rfl) (fun _ _ _ h => h) (by kernel_rfl) ?_ trivial ?_
  · (rintro W1 _; go_simp; first | done | exact HKU.out)
  simp only [List.setIfInBounds_toArray, List.set_cons_zero, List.set_cons_succ]
  refine takeH (i := 7) (d := 26) (v := .int .i64 p) rfl rfl (by kernel_rfl) (by kernel_rfl) (by kernel_rfl) (fun _ _ _ h => h) (by kernel_rfl) ?_ trivial ?_
  · (rintro W1 _; go_simp)
  simp only [List.setIfInBounds_toArray, List.set_cons_zero, List.set_cons_succ]
  refine wpAnyH_ready (rs := [1]) (by kernel_rfl) (by simp) (AllReadyH.cons rfl (fun K hK => ?_) AllReadyH.nil)
  go_simp
  refine (HRO _).out.mono ?_
  rintro e1 w1 ⟨rfl, hb⟩
  have HB := Lib.hid ((Below.refl w'.heap.size w').drew.trans hb)
  refine hK.out _ _ trivial (fun _ => ?_)
  clear hb hK K
  refine wpAnyH_ready (rs := [8]) (by kernel_rfl) (by simp) (AllReadyH.cons rfl (fun K hK => ?_) AllReadyH.nil)
  go_simp
  refine (HP _).out.mono ?_
  rintro e1 w2 ⟨rfl, rfl⟩
  refine hK.out _ _ trivial (fun _ => ?_)
  clear hK K
  refine takeH (i := 9) (d := 4) (v := .int .i64 y) rfl rfl (by kernel_rfl) (by kernel_rfl) (by kernel_rfl) (fun _ _ _ h => h) (by kernel_rfl) ?_ trivial ?_
  · (rintro W1 _; go_simp)
  simp only [List.setIfInBounds_toArray, List.set_cons_zero, List.set_cons_succ]
  refine takeH (i := 10) (d := 5) (v := .int .i64 0) rfl rfl (by kernel_rfl) (by kernel_rfl) (by kernel_rfl) (fun _ _ _ h => h) (by kernel_rfl) ?_ trivial ?_
  · (rintro W1 _; go_simp)
  simp only [List.setIfInBounds_toArray, List.set_cons_zero, List.set_cons_succ]
  refine wpAnyH_done (by kernel_rfl) ?_ _
  go_wp2
  go_ret2
  exact ⟨rfl, HB.out.alloc HB.out.size _⟩
end Go.Proofs.Ytbcbkeeadbfjmaa
