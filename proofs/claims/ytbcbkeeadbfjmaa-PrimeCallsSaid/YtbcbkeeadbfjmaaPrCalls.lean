/- The law PrimeCalls, walked: each function beside its reference. -/
import Derived.Test.YtbcbkeeadbfjmaaPrRefD
import Derived.Test.YtbcbkeeadbfjmaaPrTests
namespace Go.Proofs.Ytbcbkeeadbfjmaa
open Go Go.RowKit Num

/-- Two functions give the same number and error. -/
def Both (f g : Nat) (args : Array Value) : Prop := ∃ x e : Int, (∀ w, Calls Try.prog f args w (RetE w x e)) ∧ ∀ w, Calls Try.prog g args w (RetE w x e)
theorem still {f : Nat} {args : Array Value} {w : World} {x e : Int} (h : Calls Try.prog f args w fun en w' => en = .returned (.tuple #[.int .i64 x, .int .i64 e]) ∧ w' = w) : Calls Try.prog f args w (RetE w x e) :=
  h.mono fun _ w' ⟨h1, h2⟩ => ⟨h1, by rw [h2]; exact Below.refl _ _⟩
theorem one_block {f : Nat} {args : Array Value} {w : World} {x e : Int} {o : Obj} (h : Calls Try.prog f args w fun en w' => en = .returned (.tuple #[.int .i64 x, .int .i64 e]) ∧ w' = w.alloc o) : Calls Try.prog f args w (RetE w x e) :=
  h.mono fun _ w' ⟨h1, h2⟩ => ⟨h1, by rw [h2]; exact (Below.refl _ w).alloc (Nat.le_refl _) _⟩
theorem two_blocks {f : Nat} {args : Array Value} {w : World} {x e : Int} {o o' : Obj} (h : Calls Try.prog f args w fun en w' => en = .returned (.tuple #[.int .i64 x, .int .i64 e]) ∧ w' = (w.alloc o).alloc o') : Calls Try.prog f args w (RetE w x e) :=
  h.mono fun _ w' ⟨h1, h2⟩ => ⟨h1, by rw [h2]; exact ((Below.refl _ w).alloc (Nat.le_refl _) _).alloc (by simp) _⟩
theorem p6_or (p : Int) : isP p = false ∨ ∃ q : Nat, p = q ∧ P6 q := by
  cases h : isP p with
  | false => exact .inl rfl
  | true =>
    have h := isP_true.1 h
    exact .inr ⟨p.toNat, by have := h.1; omega, h.2.2, by have := h.1; have := h.2.1; omega⟩
theorem mod_both (a p : Int) : Both 18 31 #[.int .i64 a, .int .i64 p] := by
  rcases p6_or p with h | ⟨q, rfl, h⟩
  · exact ⟨0, 3, fun w => still (Mod_bad a p w h), fun w => still (rMod_bad a p w h)⟩
  · exact ⟨_, 0, fun w => still (Mod_ok a q w h), fun w => still (rMod_ok a q w h)⟩
theorem inv_both (a p : Int) : Both 19 32 #[.int .i64 a, .int .i64 p] := by
  rcases p6_or p with h | ⟨q, rfl, h⟩
  · exact ⟨0, 3, fun w => still (Inv_bad a p w h), fun w => still (rInv_bad a p w h)⟩
  · by_cases h0 : resV a q = 0
    · exact ⟨0, 6, fun w => still (Inv_zero a q w h h0), fun w => still (rInv_zero a q w h h0)⟩
    · exact ⟨_, 0, fun w => one_block (Inv_ok a q w h h0), fun w => still (rInv_ok a q w h h0)⟩
theorem pow_both (a n p : Int) (hn : InI n) : Both 20 33 #[.int .i64 a, .int .i64 n, .int .i64 p] := by
  rcases p6_or p with h | ⟨q, rfl, h⟩
  · exact ⟨0, 3, fun w => still (Pow_bad a n p w h), fun w => still (rPow_bad a n p w h)⟩
  · by_cases hneg : n < 0
    · by_cases h0 : resV a q = 0
      · exact ⟨0, 6, fun w => still (Pow_zero a n q w h h0 hneg), fun w => still (rPow_zero a n q w h h0 hneg)⟩
      · exact ⟨_, 0, fun w => two_blocks (Pow_neg a n q w h h0 hneg hn.1), fun w => still (rPow_neg a n q w h h0 hneg)⟩
    · obtain ⟨m, rfl⟩ : ∃ m : Nat, n = m := ⟨n.toNat, by omega⟩
      have hm : m ≤ 9223372036854775807 := by have := hn.2; omega
      exact ⟨_, 0, fun w => one_block (Pow_pos a m q w h hm), fun w => still (rPow_pos a m q w h hm)⟩
theorem res_ord {a : Int} {q : Nat} (h : P6 q) (h0 : resV a q ≠ 0) : ∃ d, Ord q (resV a q) d := by
  obtain ⟨d, hd, _⟩ := ord_of_prime h.1 (pr_not_dvd (p := q) (a := resV a q) (by omega) (resV_lt a h.ge))
  exact ⟨d, hd⟩
theorem order_both (a p : Int) : Both 21 34 #[.int .i64 a, .int .i64 p] := by
  rcases p6_or p with h | ⟨q, rfl, h⟩
  · exact ⟨0, 3, fun w => Order_bad a p w h, fun w => still (rOrder_bad a p w h)⟩
  · by_cases h0 : resV a q = 0
    · exact ⟨0, 6, fun w => Order_zero a q w h h0, fun w => still (rOrder_zero a q w h h0)⟩
    · obtain ⟨d, hd⟩ := res_ord h h0
      exact ⟨d, 0, fun w => Order_ok a q d w h h0 hd, fun w => still (rOrder_ok a q d w h h0 hd)⟩
theorem root_both (p : Int) : Both 22 35 #[.int .i64 p] := by
  rcases p6_or p with h | ⟨q, rfl, h⟩
  · exact ⟨0, 3, fun w => still (Root_bad p w h), fun w => still (rRoot_bad p w h)⟩
  · obtain ⟨g, hg⟩ := rootof_exists h.1
    exact ⟨g, 0, fun w => Root_any q g w h hg, fun w => rRoot_ok q g w h hg⟩
theorem log_both (a p : Int) : Both 23 36 #[.int .i64 a, .int .i64 p] := by
  rcases p6_or p with h | ⟨q, rfl, h⟩
  · exact ⟨0, 3, fun w => still (Log_bad a p w h), fun w => still (rLog_bad a p w h)⟩
  · by_cases h0 : resV a q = 0
    · exact ⟨0, 6, fun w => still (Log_zero a q w h h0), fun w => still (rLog_zero a q w h h0)⟩
    · obtain ⟨g, hg⟩ := rootof_exists h.1
      obtain ⟨k, hk1, hk2⟩ := log_exists h.1 hg.2.2.1 (pos_of_res h0) (resV_lt a h.ge)
      exact ⟨k, 0, fun w => Log_ok a q g k w h h0 hg ⟨hk1, hk2⟩, fun w => rLog_ok a q g k w h h0 hg ⟨hk1, hk2⟩⟩
theorem sq_ret {a : Int} {q : Nat} {w : World} {s e : Int} (h : Calls Try.prog 37 #[.int .i64 a, .int .i64 q] w (SqRet q (resV a q) w)) (hv : SqV q (resV a q) s e) : Calls Try.prog 37 #[.int .i64 a, .int .i64 q] w (RetE w s e) :=
  h.mono fun en w' ⟨s', e', hv', h1, h2⟩ => by
    obtain ⟨rfl, rfl⟩ := hv'.unique hv
    exact ⟨h1, by rw [h2]; exact Below.refl _ _⟩
theorem sqrt_both (a p : Int) : Both 24 37 #[.int .i64 a, .int .i64 p] := by
  rcases p6_or p with h | ⟨q, rfl, h⟩
  · exact ⟨0, 3, fun w => still (Sqrt_bad a p w h), fun w => still (rSqrt_bad a p w h)⟩
  · by_cases h0 : resV a q = 0
    · have hv : SqV q (resV a q) 0 0 := .inl ⟨0, rfl, rfl, by have := h.ge; omega, by rw [h0, Nat.zero_mul, Nat.zero_mod], fun t ht => by omega⟩
      exact ⟨0, 0, fun w => still (Sqrt_zero a q w h h0), fun w => sq_ret (rSqrt_ok a q w h) hv⟩
    · by_cases hs : HasSqrt q (resV a q)
      · obtain ⟨s, hs⟩ := sqrt_exists hs
        exact ⟨s, 0, fun w => Sqrt_ok a q s w h h0 hs, fun w => sq_ret (rSqrt_ok a q w h) (.inl ⟨s, rfl, rfl, hs⟩)⟩
      · exact ⟨0, 18, fun w => Sqrt_none a q w h h0 hs, fun w => sq_ret (rSqrt_ok a q w h) (.inr ⟨rfl, rfl, hs⟩)⟩
theorem sym_both (a p : Int) : Both 25 38 #[.int .i64 a, .int .i64 p] := by
  rcases p6_or p with h | ⟨q, rfl, h⟩
  · exact ⟨0, 3, fun w => still (Symbol_bad a p w h), fun w => still (rSym_bad a p w h)⟩
  · have hx := resV_lt a h.ge
    refine ⟨_, 0, fun w => ?_, fun w => still (rSym_ok a q w h)⟩
    by_cases h0 : resV a q = 0
    · rw [show symV q (resV a q) = 0 by unfold symV; rw [h0, if_pos (Nat.zero_mod q)]]
      exact still (Symbol_zero a q w h h0)
    · have hm : resV a q % q ≠ 0 := by rw [Nat.mod_eq_of_lt hx]; exact h0
      have h1 := half_one h.1 hm
      unfold symV
      rw [if_neg hm]
      by_cases hs : sqB q (resV a q % q) = true
      · rw [if_pos hs]
        exact one_block (Symbol_one a q w h h0 (h1.2 hs))
      · rw [if_neg hs]
        exact one_block (Symbol_neg a q w h h0 (fun e => hs (h1.1 e)))
theorem zeta_both (n p : Int) : Both 26 39 #[.int .i64 n, .int .i64 p] := by
  rcases p6_or p with h | ⟨q, rfl, h⟩
  · exact ⟨0, 3, fun w => still (Zeta_bad n p w h), fun w => still (rZeta_bad n p w h)⟩
  · obtain ⟨g, hg⟩ := rootof_exists h.1
    by_cases hn : n < 1
    · exact ⟨0, 2, fun w => still (Zeta_low n q w h hn), fun w => rZeta_low n q g w h hg hn⟩
    · obtain ⟨e, rfl⟩ : ∃ e : Nat, n = e := ⟨n.toNat, by omega⟩
      by_cases hd : (q - 1) % e = 0
      · exact ⟨_, 0, fun w => Zeta_ok e q g w h (by omega) hd hg, fun w => rZeta_ok e q g w h hg (by omega) hd⟩
      · exact ⟨0, 18, fun w => still (Zeta_none e q w h (by omega) hd), fun w => rZeta_none e q g w h hg (by omega) hd⟩

set_option maxRecDepth 100000 in
set_option maxHeartbeats 4000000 in
theorem calls_go (a n p : Int) (ha : InI a) (hn : InI n) (hp : InI p) (w : World) : Calls Try.prog 5 #[.int .i64 a, .int .i64 n, .int .i64 p] w fun e w' => e = .returned (.bool true) ∧ Below w.heap.size w w' := by
  have HL := Lib.hid (lives_any w)
  obtain ⟨x0, y0, f0, g0⟩ := mod_both a p
  have F0 := Lib.hid f0
  have G0 := Lib.hid g0
  have q0 : (x0 == x0) = true := by simp
  have r0 : (y0 == y0) = true := by simp
  clear f0 g0
  obtain ⟨x1, y1, f1, g1⟩ := inv_both a p
  have F1 := Lib.hid f1
  have G1 := Lib.hid g1
  have q1 : (x1 == x1) = true := by simp
  have r1 : (y1 == y1) = true := by simp
  clear f1 g1
  obtain ⟨x2, y2, f2, g2⟩ := pow_both a n p hn
  have F2 := Lib.hid f2
  have G2 := Lib.hid g2
  have q2 : (x2 == x2) = true := by simp
  have r2 : (y2 == y2) = true := by simp
  clear f2 g2
  obtain ⟨x3, y3, f3, g3⟩ := order_both a p
  have F3 := Lib.hid f3
  have G3 := Lib.hid g3
  have q3 : (x3 == x3) = true := by simp
  have r3 : (y3 == y3) = true := by simp
  clear f3 g3
  obtain ⟨x4, y4, f4, g4⟩ := root_both p
  have F4 := Lib.hid f4
  have G4 := Lib.hid g4
  have q4 : (x4 == x4) = true := by simp
  have r4 : (y4 == y4) = true := by simp
  clear f4 g4
  obtain ⟨x5, y5, f5, g5⟩ := log_both a p
  have F5 := Lib.hid f5
  have G5 := Lib.hid g5
  have q5 : (x5 == x5) = true := by simp
  have r5 : (y5 == y5) = true := by simp
  clear f5 g5
  obtain ⟨x6, y6, f6, g6⟩ := sqrt_both a p
  have F6 := Lib.hid f6
  have G6 := Lib.hid g6
  have q6 : (x6 == x6) = true := by simp
  have r6 : (y6 == y6) = true := by simp
  clear f6 g6
  obtain ⟨x7, y7, f7, g7⟩ := sym_both a p
  have F7 := Lib.hid f7
  have G7 := Lib.hid g7
  have q7 : (x7 == x7) = true := by simp
  have r7 : (y7 == y7) = true := by simp
  clear f7 g7
  obtain ⟨x8, y8, f8, g8⟩ := zeta_both n p
  have F8 := Lib.hid f8
  have G8 := Lib.hid g8
  have q8 : (x8 == x8) = true := by simp
  have r8 : (y8 == y8) = true := by simp
  clear f8 g8
  clear ha hn hp
  go_enter Try.func5, Try.ntmps5
  go_wp2_with fail
  with_reducible refine HL.out.mono ?_
  rintro e w0 ⟨rfl, hb⟩
  have HB := Lib.hid hb
  clear hb HL
  go_wp2_with fail
  with_reducible refine (F0.out _).mono ?_
  rintro e v0 ⟨rfl, hbb⟩
  have HC0 := Lib.hid (HB.out.trans (hbb.mono HB.out.size))
  clear hbb F0 HB
  go_wp2_with fail
  with_reducible refine (G0.out _).mono ?_
  rintro e v1 ⟨rfl, hbb⟩
  have HC1 := Lib.hid (HC0.out.trans (hbb.mono HC0.out.size))
  clear hbb G0 HC0
  go_wp2_with fail
  with_reducible refine (F1.out _).mono ?_
  rintro e v2 ⟨rfl, hbb⟩
  have HC2 := Lib.hid (HC1.out.trans (hbb.mono HC1.out.size))
  clear hbb F1 HC1
  go_wp2_with fail
  with_reducible refine (G1.out _).mono ?_
  rintro e v3 ⟨rfl, hbb⟩
  have HC3 := Lib.hid (HC2.out.trans (hbb.mono HC2.out.size))
  clear hbb G1 HC2
  go_wp2_with fail
  with_reducible refine (F2.out _).mono ?_
  rintro e v4 ⟨rfl, hbb⟩
  have HC4 := Lib.hid (HC3.out.trans (hbb.mono HC3.out.size))
  clear hbb F2 HC3
  go_wp2_with fail
  with_reducible refine (G2.out _).mono ?_
  rintro e v5 ⟨rfl, hbb⟩
  have HC5 := Lib.hid (HC4.out.trans (hbb.mono HC4.out.size))
  clear hbb G2 HC4
  go_wp2_with fail
  with_reducible refine (F3.out _).mono ?_
  rintro e v6 ⟨rfl, hbb⟩
  have HC6 := Lib.hid (HC5.out.trans (hbb.mono HC5.out.size))
  clear hbb F3 HC5
  go_wp2_with fail
  with_reducible refine (G3.out _).mono ?_
  rintro e v7 ⟨rfl, hbb⟩
  have HC7 := Lib.hid (HC6.out.trans (hbb.mono HC6.out.size))
  clear hbb G3 HC6
  go_wp2_with fail
  with_reducible refine (F4.out _).mono ?_
  rintro e v8 ⟨rfl, hbb⟩
  have HC8 := Lib.hid (HC7.out.trans (hbb.mono HC7.out.size))
  clear hbb F4 HC7
  go_wp2_with fail
  with_reducible refine (G4.out _).mono ?_
  rintro e v9 ⟨rfl, hbb⟩
  have HC9 := Lib.hid (HC8.out.trans (hbb.mono HC8.out.size))
  clear hbb G4 HC8
  go_wp2_with fail
  with_reducible refine (F5.out _).mono ?_
  rintro e v10 ⟨rfl, hbb⟩
  have HC10 := Lib.hid (HC9.out.trans (hbb.mono HC9.out.size))
  clear hbb F5 HC9
  go_wp2_with fail
  with_reducible refine (G5.out _).mono ?_
  rintro e v11 ⟨rfl, hbb⟩
  have HC11 := Lib.hid (HC10.out.trans (hbb.mono HC10.out.size))
  clear hbb G5 HC10
  go_wp2_with fail
  with_reducible refine (F6.out _).mono ?_
  rintro e v12 ⟨rfl, hbb⟩
  have HC12 := Lib.hid (HC11.out.trans (hbb.mono HC11.out.size))
  clear hbb F6 HC11
  go_wp2_with fail
  with_reducible refine (G6.out _).mono ?_
  rintro e v13 ⟨rfl, hbb⟩
  have HC13 := Lib.hid (HC12.out.trans (hbb.mono HC12.out.size))
  clear hbb G6 HC12
  go_wp2_with fail
  with_reducible refine (F7.out _).mono ?_
  rintro e v14 ⟨rfl, hbb⟩
  have HC14 := Lib.hid (HC13.out.trans (hbb.mono HC13.out.size))
  clear hbb F7 HC13
  go_wp2_with fail
  with_reducible refine (G7.out _).mono ?_
  rintro e v15 ⟨rfl, hbb⟩
  have HC15 := Lib.hid (HC14.out.trans (hbb.mono HC14.out.size))
  clear hbb G7 HC14
  go_wp2_with fail
  with_reducible refine (F8.out _).mono ?_
  rintro e v16 ⟨rfl, hbb⟩
  have HC16 := Lib.hid (HC15.out.trans (hbb.mono HC15.out.size))
  clear hbb F8 HC15
  go_wp2_with fail
  with_reducible refine (G8.out _).mono ?_
  rintro e v17 ⟨rfl, hbb⟩
  have HC17 := Lib.hid (HC16.out.trans (hbb.mono HC16.out.size))
  clear hbb G8 HC16
  go_wp2
  go_ret
  exact ⟨rfl, HC17.out⟩
end Go.Proofs.Ytbcbkeeadbfjmaa
