/- The law PrimeNames, walked: the examples of the chapter. -/
import Derived.Test.YtbcbkeeadbfjmaaPrCalls
import Derived.Test.YtbcbkeeadbfjmaaPrGap
namespace Go.Proofs.Ytbcbkeeadbfjmaa
open Go Go.RowKit Num

theorem next_check {n q : Nat} (hq : PrI (q : Int)) (h1 : n < q) (h : ∀ r : Nat, n < r → r < q → ¬ PrI (r : Int)) : NextV n q 0 :=
  .inl ⟨⟨hq, by omega, fun r a b hp => h r.toNat (by omega) (by omega) (by rw [show ((r.toNat : Nat) : Int) = r by omega]; exact hp)⟩, rfl⟩
theorem next7 : NextV 7 11 0 := next_check (n := 7) (q := 11) (pri_check (n := 11) 4 (by decide) (by decide) (by decide +kernel) (by decide)) (by decide) fun r a b => by
  obtain rfl | rfl | rfl : r = 8 ∨ r = 9 ∨ r = 10 := by omega
  · exact not_pri 2 (by decide) (by decide) (by decide)
  · exact not_pri 3 (by decide) (by decide) (by decide)
  · exact not_pri 2 (by decide) (by decide) (by decide)
theorem next_neg : NextV (-5) 2 0 := .inl ⟨⟨pri_check (n := 2) 2 (by decide) (by decide) (by decide +kernel) (by decide), by decide, fun r a b hp => by have := hp.ge; omega⟩, rfl⟩
def compB (n : Nat) : Bool := (List.range 1000).any fun d => 2 ≤ d && n % d == 0
theorem comp_check {n : Nat} (hn : 1000 ≤ n) (h : compB n = true) : ¬ PrI (n : Int) := by
  obtain ⟨d, hd, h⟩ := List.any_eq_true.1 h
  simp only [Bool.and_eq_true, decide_eq_true_eq, beq_iff_eq] at h
  have := List.mem_range.1 hd
  exact not_pri d h.1 (by omega) h.2
theorem all_comp : ((List.range 16).all fun i => compB (999984 + i)) = true := by decide +kernel
theorem next_last : NextV 999983 0 2 := .inr ⟨fun r a hp => by
  have hl := hp.lt
  have hc := List.all_eq_true.1 all_comp (r - 999984).toNat (List.mem_range.2 (by omega))
  refine comp_check (by omega) hc ?_
  rw [show ((999984 + (r - 999984).toNat : Nat) : Int) = r by omega]
  exact hp, rfl, rfl⟩
theorem least_check {n q : Nat} (hq : 2 ≤ q) (hd : n % q = 0) (h : ∀ d, 2 ≤ d → d < q → n % d ≠ 0) : Least n q :=
  ⟨hq, Nat.dvd_of_mod_eq_zero hd, fun d a b => Nat.le_of_not_lt fun hl => h d a hl (Nat.mod_eq_zero_of_dvd b)⟩
theorem two45 (d : Nat) (a : 2 ≤ d) (b : d < 3) : 45 % d ≠ 0 := by
  obtain rfl : d = 2 := by omega
  decide
theorem facs360 : facs 360 = [(2, 3), (3, 2), (5, 1)] :=
  (Fac.cons 360 2 3 45 _ (least_check (by decide) (by decide) (fun d a b => by omega)) (by decide) (by decide) (by decide)
    (Fac.cons 45 3 2 5 _ (least_check (by decide) (by decide) two45) (by decide) (by decide) (by decide)
      (Fac.cons 5 5 1 1 _ (least_check (by decide) (by decide) (fun d a b => by
        obtain rfl | rfl | rfl : d = 2 ∨ d = 3 ∨ d = 4 := by omega
        all_goals decide)) (by decide) (by decide) (by decide) .nil))).eq
theorem last_pr : isP 999983 = true := isP_true.2 (pri_check (n := 999983) 1000 (by decide) (by decide) (by decide +kernel) (by decide))
theorem beyond : isP 1000003 = false := isP_false.2 fun h => by have := h.lt; omega
theorem p2 : P6 2 := p6_check 2 (by decide) (by decide) (by decide +kernel) (by decide)
theorem p41 : P6 41 := p6_check 7 (by decide) (by decide) (by decide +kernel) (by decide)
theorem nine : isP 9 = false := isP_false.2 (not_pri (n := 9) 3 (by decide) (by decide) (by decide))
theorem no_sqrt3 : ¬ HasSqrt 7 3 := fun ⟨s, h1, h2⟩ => by
  obtain rfl | rfl | rfl | rfl | rfl | rfl | rfl : s = 0 ∨ s = 1 ∨ s = 2 ∨ s = 3 ∨ s = 4 ∨ s = 5 ∨ s = 6 := by omega
  all_goals exact absurd h2 (by decide)
theorem suit1 : SuitV 6 7 13 0 := by
  have hp : PrI (13 : Int) := pri_check (n := 13) 4 (by decide) (by decide) (by decide +kernel) (by decide)
  refine .inr ⟨by decide, by decide, .inl ⟨2, by decide, ⟨by decide, hp⟩, fun i hi hc => ?_, rfl⟩⟩
  have h := hc.1
  obtain rfl | rfl : i = 0 ∨ i = 1 := by omega
  · exact absurd h (by decide)
  · exact absurd h (by decide)
theorem suit2 : SuitV 6 6 7 0 := by
  have hp : PrI (7 : Int) := pri_check (n := 7) 3 (by decide) (by decide) (by decide +kernel) (by decide)
  refine .inr ⟨by decide, by decide, .inl ⟨1, by decide, ⟨by decide, hp⟩, fun i hi hc => ?_, rfl⟩⟩
  have h := hc.1
  obtain rfl : i = 0 := by omega
  exact absurd h (by decide)
theorem suit3 : SuitV 1 0 2 0 := by
  have hp : PrI (2 : Int) := pri_check (n := 2) 2 (by decide) (by decide) (by decide +kernel) (by decide)
  refine .inr ⟨by decide, by decide, .inl ⟨1, by decide, ⟨by decide, hp⟩, fun i hi hc => ?_, rfl⟩⟩
  obtain rfl : i = 0 := by omega
  have := hc.2.ge
  exact absurd this (by decide)
theorem fails_yes (n e want : Int) (h1 : n = 0) (h2 : e = want) (w : World) : Calls Try.prog 15 #[.int .i64 n, .int .i64 e, .int .i64 want] w fun en w' => en = .returned (.bool true) ∧ w' = w := by
  subst h1
  subst h2
  have hd : (e == e) = true := by simp
  go_enter Try.func15, Try.ntmps15
  go_wp2
  go_ret
  exact ⟨rfl, rfl⟩
/-- The pairs of a literal, in a new block. -/
theorem pairs_lit (w : World) (l : List (Nat × Nat)) (cs : Array Value) (t c : Nat) (h : cs = (pcells l).toArray) : Pairs (w.alloc (.cells cs t)) (.slice (some ⟨w.heap.size, 0, none⟩) l.length c) l := by
  subst h
  refine ⟨_, c, rfl, fun _ => ⟨w.heap.size, rfl, by simp, fun j hj => ?_⟩⟩
  rw [cell_of_row _ _ j _ t (0, 0) (World.alloc_heap_new w _)]
  simp
/-- Next and Suitable at numbers, told. -/
theorem NextC {n q x : Int} (hn : InI n) (h : NextV n q x) (w : World) : Calls Try.prog 12 #[.int .i64 n] w (RetE w q x) :=
  (Next_any n w hn).mono fun e w' ⟨r, y, hv, h1, h2⟩ => by
    obtain ⟨rfl, rfl⟩ := hv.unique h
    exact ⟨h1, by rw [h2]; exact Below.refl _ _⟩
theorem SuitC {a m q x : Int} (h : SuitV a m q x) (w : World) : Calls Try.prog 27 #[.int .i64 a, .int .i64 m] w (RetE w q x) :=
  (Suit_any a m w).mono fun e w' ⟨r, y, hv, h1, h2⟩ => by
    obtain ⟨rfl, rfl⟩ := hv.unique h
    exact ⟨h1, by rw [h2]; exact Below.refl _ _⟩

set_option maxRecDepth 100000 in
set_option maxHeartbeats 8000000 in
theorem names_go (w : World) : Calls Try.prog 3 #[] w fun e w' => e = .returned (.bool true) ∧ Below w.heap.size w w' := by
  have HL := Lib.hid (lives_any w)
  have C1 : Hid (∀ W, Calls Try.prog 12 #[.int .i64 7] W (RetE W 11 0)) := Lib.hid (fun W => NextC ⟨by decide, by decide⟩ next7 W)
  have C2 : Hid (∀ W, Calls Try.prog 12 #[.int .i64 (-5)] W (RetE W 2 0)) := Lib.hid (fun W => NextC ⟨by decide, by decide⟩ next_neg W)
  have C3 : Hid (∀ W, Calls Try.prog 12 #[.int .i64 999983] W (RetE W 0 2)) := Lib.hid (fun W => NextC ⟨by decide, by decide⟩ next_last W)
  have C4 : Hid (∀ W, Calls Try.prog 13 #[.int .i64 360] W (FacRet 360 W)) := Lib.hid (fun W => Factors_any 360 W (by decide) (by decide))
  have C5 : Hid (∀ W, Calls Try.prog 13 #[.int .i64 1] W (FacRet 1 W)) := Lib.hid (fun W => Factors_any 1 W (by decide) (by decide))
  have C6 : Hid (∀ W, Calls Try.prog 13 #[.int .i64 0] W fun e w' => e = .returned (.tuple #[.slice none 0 0, .int .i64 2]) ∧ w' = W) := Lib.hid (fun W => Factors_bad 0 W (by decide))
  have CI1 : Hid (∀ W, Calls Try.prog 17 #[.int .i64 999983] W fun e w' => e = .returned (.bool true) ∧ w' = W) := Lib.hid (fun W => last_pr ▸ Is_any 999983 W)
  have CI2 : Hid (∀ W, Calls Try.prog 17 #[.int .i64 1000003] W fun e w' => e = .returned (.bool false) ∧ w' = W) := Lib.hid (fun W => beyond ▸ Is_any 1000003 W)
  have D1 : Hid (∀ W, Calls Try.prog 18 #[.int .i64 (-1), .int .i64 7] W (RetE W 6 0)) := Lib.hid (fun W => still (Mod_ok (-1) 7 W p7))
  have D2 : Hid (∀ W, Calls Try.prog 19 #[.int .i64 7, .int .i64 7] W (RetE W 0 6)) := Lib.hid (fun W => still (Inv_zero 7 7 W p7 (by decide)))
  have D3 : Hid (∀ W, Calls Try.prog 20 #[.int .i64 3, .int .i64 (-2), .int .i64 7] W (RetE W 4 0)) := Lib.hid (fun W => two_blocks (Pow_neg 3 (-2) 7 W p7 (by decide) (by decide) (by decide)))
  have D4 : Hid (∀ W, Calls Try.prog 20 #[.int .i64 0, .int .i64 0, .int .i64 7] W (RetE W 1 0)) := Lib.hid (fun W => one_block (Pow_pos 0 0 7 W p7 (by decide)))
  have D5 : Hid (∀ W, Calls Try.prog 21 #[.int .i64 2, .int .i64 7] W (RetE W 3 0)) := Lib.hid (fun W => Order_ok 2 7 3 W p7 (by decide) (ord_check (by decide)))
  have D6 : Hid (∀ W, Calls Try.prog 22 #[.int .i64 2] W (RetE W 1 0)) := Lib.hid (fun W => Root_any 2 1 W p2 (root_check (by decide)))
  have D7 : Hid (∀ W, Calls Try.prog 22 #[.int .i64 7] W (RetE W 3 0)) := Lib.hid (fun W => Root_any 7 3 W p7 (root_check (by decide)))
  have D8 : Hid (∀ W, Calls Try.prog 22 #[.int .i64 41] W (RetE W 6 0)) := Lib.hid (fun W => Root_any 41 6 W p41 (root_check (by decide +kernel)))
  have D9 : Hid (∀ W, Calls Try.prog 23 #[.int .i64 6, .int .i64 7] W (RetE W 3 0)) := Lib.hid (fun W => Log_ok 6 7 3 3 W p7 (by decide) (root_check (by decide)) ⟨by decide, by decide⟩)
  have D10 : Hid (∀ W, Calls Try.prog 23 #[.int .i64 1, .int .i64 2] W (RetE W 0 0)) := Lib.hid (fun W => Log_ok 1 2 1 0 W p2 (by decide) (root_check (by decide)) ⟨by decide, by decide⟩)
  have E1 : Hid (∀ W, Calls Try.prog 24 #[.int .i64 3, .int .i64 7] W (RetE W 0 18)) := Lib.hid (fun W => Sqrt_none 3 7 W p7 (by decide) no_sqrt3)
  have E2 : Hid (∀ W, Calls Try.prog 25 #[.int .i64 2, .int .i64 7] W (RetE W 1 0)) := Lib.hid (fun W => one_block (Symbol_one 2 7 W p7 (by decide) (by decide)))
  have E3 : Hid (∀ W, Calls Try.prog 25 #[.int .i64 3, .int .i64 7] W (RetE W (-1) 0)) := Lib.hid (fun W => one_block (Symbol_neg 3 7 W p7 (by decide) (by decide)))
  have E4 : Hid (∀ W, Calls Try.prog 25 #[.int .i64 14, .int .i64 7] W (RetE W 0 0)) := Lib.hid (fun W => still (Symbol_zero 14 7 W p7 (by decide)))
  have E5 : Hid (∀ W, Calls Try.prog 26 #[.int .i64 3, .int .i64 7] W (RetE W 2 0)) := Lib.hid (fun W => Zeta_ok 3 7 3 W p7 (by decide) (by decide) (root_check (by decide)))
  have E6 : Hid (∀ W, Calls Try.prog 26 #[.int .i64 4, .int .i64 7] W (RetE W 0 18)) := Lib.hid (fun W => still (Zeta_none 4 7 W p7 (by decide) (by decide)))
  have E7 : Hid (∀ W, Calls Try.prog 27 #[.int .i64 6, .int .i64 7] W (RetE W 13 0)) := Lib.hid (fun W => SuitC suit1 W)
  have E8 : Hid (∀ W, Calls Try.prog 27 #[.int .i64 6, .int .i64 6] W (RetE W 7 0)) := Lib.hid (fun W => SuitC suit2 W)
  have E9 : Hid (∀ W, Calls Try.prog 27 #[.int .i64 1, .int .i64 0] W (RetE W 2 0)) := Lib.hid (fun W => SuitC suit3 W)
  have E10 : Hid (∀ W, Calls Try.prog 19 #[.int .i64 1, .int .i64 9] W (RetE W 0 3)) := Lib.hid (fun W => still (Inv_bad 1 9 W nine))
  go_enter Try.func3, Try.ntmps3
  go_wp2_with fail
  with_reducible refine HL.out.mono ?_
  rintro e v0 ⟨rfl, hb⟩
  have HB0 := Lib.hid hb
  clear hb HL
  go_wp2_with fail
  with_reducible refine (C1.out _).mono ?_
  rintro e v1 ⟨rfl, hbb⟩
  have HB1 := Lib.hid (HB0.out.trans (hbb.mono HB0.out.size))
  clear hbb C1 HB0
  go_wp2_with fail
  with_reducible refine (C2.out _).mono ?_
  rintro e v2 ⟨rfl, hbb⟩
  have HB2 := Lib.hid (HB1.out.trans (hbb.mono HB1.out.size))
  clear hbb C2 HB1
  go_wp2_with fail
  with_reducible refine (C3.out _).mono ?_
  rintro e v3 ⟨rfl, hbb⟩
  have HB3 := Lib.hid (HB2.out.trans (hbb.mono HB2.out.size))
  clear hbb C3 HB2
  go_wp2_with fail
  with_reducible refine (C4.out _).mono ?_
  rintro e v4 ⟨s, rfl, hpi, hbb⟩
  have HB4 := Lib.hid (HB3.out.trans (hbb.mono HB3.out.size))
  have hp := hpi.pairs
  rw [facs360] at hp
  have hfm : ∃ A c, s = .slice A 3 c := by obtain ⟨A, c, rfl, _⟩ := hp; exact ⟨A, c, rfl⟩
  obtain ⟨A, c, rfl⟩ := hfm
  have HPA := Lib.hid hp
  clear hbb C4 HB3 hpi hp
  go_wp2_with fail
  with_reducible refine (C5.out _).mono ?_
  rintro e v5 ⟨s, rfl, hpi, hbb⟩
  have HB5 := Lib.hid (HB4.out.trans (hbb.mono HB4.out.size))
  have HPB := Lib.hid (HPA.out.below hbb)
  have hp := hpi.pairs
  rw [facs_one] at hp
  have hfm : ∃ A c, s = .slice A 0 c := by obtain ⟨A, c, rfl, _⟩ := hp; exact ⟨A, c, rfl⟩
  obtain ⟨A2, c2, rfl⟩ := hfm
  clear hbb C5 HB4 hpi hp HPA
  go_wp2_with fail
  with_reducible refine (C6.out _).mono ?_
  rintro e v5 ⟨rfl, rfl⟩
  clear C6
  go_wp2_with fail
  refine (is_yes 11 11 rfl v5).mono ?_
  rintro e v5 ⟨rfl, rfl⟩
  go_wp2_with fail
  refine (is_yes 2 2 rfl v5).mono ?_
  rintro e v5 ⟨rfl, rfl⟩
  go_wp2_with fail
  refine (fails_yes 0 2 2 rfl rfl v5).mono ?_
  rintro e v5 ⟨rfl, rfl⟩
  go_wp2_with fail
  have HS := Lib.hid (samePairs (.slice A 3 c) (.slice (some ⟨v5.heap.size, 0, none⟩) 3 3) [(2, 3), (3, 2), (5, 1)] (v5.alloc (.cells #[.int .i64 2, .int .i64 3, .int .i64 3, .int .i64 2, .int .i64 5, .int .i64 1] 32)) (by decide) (HPB.out.below ((Below.refl _ _).alloc (Nat.le_refl _) _)) (pairs_lit v5 [(2, 3), (3, 2), (5, 1)] #[.int .i64 2, .int .i64 3, .int .i64 3, .int .i64 2, .int .i64 5, .int .i64 1] _ 3 (by rfl)))
  refine HS.out.mono ?_
  rintro e v99 ⟨rfl, nd, hw99⟩
  have HB99 : Hid (Below w.heap.size w v99) := Lib.hid (by rw [hw99]; exact (HB5.out.alloc HB5.out.size _).trans ⟨rfl, rfl, rfl, Nat.le_refl _, fun _ _ => rfl⟩)
  clear HS HPB hw99 HB5
  go_wp2_with fail
  with_reducible refine (CI1.out _).mono ?_
  rintro e v99 ⟨rfl, rfl⟩
  clear CI1
  go_wp2_with fail
  with_reducible refine (CI2.out _).mono ?_
  rintro e v99 ⟨rfl, rfl⟩
  clear CI2
  go_wp2_with fail
  with_reducible refine (D1.out _).mono ?_
  rintro e v101 ⟨rfl, hbb⟩
  have HB101 := Lib.hid (HB99.out.trans (hbb.mono HB99.out.size))
  clear hbb D1 HB99
  go_wp2_with fail
  with_reducible refine (D2.out _).mono ?_
  rintro e v102 ⟨rfl, hbb⟩
  have HB102 := Lib.hid (HB101.out.trans (hbb.mono HB101.out.size))
  clear hbb D2 HB101
  go_wp2_with fail
  with_reducible refine (D3.out _).mono ?_
  rintro e v103 ⟨rfl, hbb⟩
  have HB103 := Lib.hid (HB102.out.trans (hbb.mono HB102.out.size))
  clear hbb D3 HB102
  go_wp2_with fail
  with_reducible refine (D4.out _).mono ?_
  rintro e v104 ⟨rfl, hbb⟩
  have HB104 := Lib.hid (HB103.out.trans (hbb.mono HB103.out.size))
  clear hbb D4 HB103
  go_wp2_with fail
  with_reducible refine (D5.out _).mono ?_
  rintro e v105 ⟨rfl, hbb⟩
  have HB105 := Lib.hid (HB104.out.trans (hbb.mono HB104.out.size))
  clear hbb D5 HB104
  go_wp2_with fail
  with_reducible refine (D6.out _).mono ?_
  rintro e v106 ⟨rfl, hbb⟩
  have HB106 := Lib.hid (HB105.out.trans (hbb.mono HB105.out.size))
  clear hbb D6 HB105
  go_wp2_with fail
  with_reducible refine (D7.out _).mono ?_
  rintro e v107 ⟨rfl, hbb⟩
  have HB107 := Lib.hid (HB106.out.trans (hbb.mono HB106.out.size))
  clear hbb D7 HB106
  go_wp2_with fail
  with_reducible refine (D8.out _).mono ?_
  rintro e v108 ⟨rfl, hbb⟩
  have HB108 := Lib.hid (HB107.out.trans (hbb.mono HB107.out.size))
  clear hbb D8 HB107
  go_wp2_with fail
  with_reducible refine (D9.out _).mono ?_
  rintro e v109 ⟨rfl, hbb⟩
  have HB109 := Lib.hid (HB108.out.trans (hbb.mono HB108.out.size))
  clear hbb D9 HB108
  go_wp2_with fail
  with_reducible refine (D10.out _).mono ?_
  rintro e v110 ⟨rfl, hbb⟩
  have HB110 := Lib.hid (HB109.out.trans (hbb.mono HB109.out.size))
  clear hbb D10 HB109
  go_wp2_with fail
  refine (is_yes 6 6 rfl v110).mono ?_
  rintro e v110 ⟨rfl, rfl⟩
  go_wp2_with fail
  refine (fails_yes 0 6 6 rfl rfl v110).mono ?_
  rintro e v110 ⟨rfl, rfl⟩
  go_wp2_with fail
  refine (is_yes 4 4 rfl v110).mono ?_
  rintro e v110 ⟨rfl, rfl⟩
  go_wp2_with fail
  refine (is_yes 1 1 rfl v110).mono ?_
  rintro e v110 ⟨rfl, rfl⟩
  go_wp2_with fail
  refine (is_yes 3 3 rfl v110).mono ?_
  rintro e v110 ⟨rfl, rfl⟩
  go_wp2_with fail
  refine (is_yes 1 1 rfl v110).mono ?_
  rintro e v110 ⟨rfl, rfl⟩
  go_wp2_with fail
  refine (is_yes 3 3 rfl v110).mono ?_
  rintro e v110 ⟨rfl, rfl⟩
  go_wp2_with fail
  refine (is_yes 6 6 rfl v110).mono ?_
  rintro e v110 ⟨rfl, rfl⟩
  go_wp2_with fail
  refine (is_yes 3 3 rfl v110).mono ?_
  rintro e v110 ⟨rfl, rfl⟩
  go_wp2_with fail
  refine (is_yes 0 0 rfl v110).mono ?_
  rintro e v110 ⟨rfl, rfl⟩
  go_wp2_with fail
  with_reducible refine (E1.out _).mono ?_
  rintro e v111 ⟨rfl, hbb⟩
  have HB111 := Lib.hid (HB110.out.trans (hbb.mono HB110.out.size))
  clear hbb E1 HB110
  go_wp2_with fail
  with_reducible refine (E2.out _).mono ?_
  rintro e v112 ⟨rfl, hbb⟩
  have HB112 := Lib.hid (HB111.out.trans (hbb.mono HB111.out.size))
  clear hbb E2 HB111
  go_wp2_with fail
  with_reducible refine (E3.out _).mono ?_
  rintro e v113 ⟨rfl, hbb⟩
  have HB113 := Lib.hid (HB112.out.trans (hbb.mono HB112.out.size))
  clear hbb E3 HB112
  go_wp2_with fail
  with_reducible refine (E4.out _).mono ?_
  rintro e v114 ⟨rfl, hbb⟩
  have HB114 := Lib.hid (HB113.out.trans (hbb.mono HB113.out.size))
  clear hbb E4 HB113
  go_wp2_with fail
  with_reducible refine (E5.out _).mono ?_
  rintro e v115 ⟨rfl, hbb⟩
  have HB115 := Lib.hid (HB114.out.trans (hbb.mono HB114.out.size))
  clear hbb E5 HB114
  go_wp2_with fail
  with_reducible refine (E6.out _).mono ?_
  rintro e v116 ⟨rfl, hbb⟩
  have HB116 := Lib.hid (HB115.out.trans (hbb.mono HB115.out.size))
  clear hbb E6 HB115
  go_wp2_with fail
  with_reducible refine (E7.out _).mono ?_
  rintro e v117 ⟨rfl, hbb⟩
  have HB117 := Lib.hid (HB116.out.trans (hbb.mono HB116.out.size))
  clear hbb E7 HB116
  go_wp2_with fail
  with_reducible refine (E8.out _).mono ?_
  rintro e v118 ⟨rfl, hbb⟩
  have HB118 := Lib.hid (HB117.out.trans (hbb.mono HB117.out.size))
  clear hbb E8 HB117
  go_wp2_with fail
  with_reducible refine (E9.out _).mono ?_
  rintro e v119 ⟨rfl, hbb⟩
  have HB119 := Lib.hid (HB118.out.trans (hbb.mono HB118.out.size))
  clear hbb E9 HB118
  go_wp2_with fail
  with_reducible refine (E10.out _).mono ?_
  rintro e v120 ⟨rfl, hbb⟩
  have HB120 := Lib.hid (HB119.out.trans (hbb.mono HB119.out.size))
  clear hbb E10 HB119
  go_wp2_with fail
  refine (fails_yes 0 18 18 rfl rfl v120).mono ?_
  rintro e v120 ⟨rfl, rfl⟩
  go_wp2_with fail
  refine (is_yes 1 1 rfl v120).mono ?_
  rintro e v120 ⟨rfl, rfl⟩
  go_wp2_with fail
  refine (is_yes (-1) (-1) rfl v120).mono ?_
  rintro e v120 ⟨rfl, rfl⟩
  go_wp2_with fail
  refine (is_yes 0 0 rfl v120).mono ?_
  rintro e v120 ⟨rfl, rfl⟩
  go_wp2_with fail
  refine (is_yes 2 2 rfl v120).mono ?_
  rintro e v120 ⟨rfl, rfl⟩
  go_wp2_with fail
  refine (fails_yes 0 18 18 rfl rfl v120).mono ?_
  rintro e v120 ⟨rfl, rfl⟩
  go_wp2_with fail
  refine (is_yes 13 13 rfl v120).mono ?_
  rintro e v120 ⟨rfl, rfl⟩
  go_wp2_with fail
  refine (is_yes 7 7 rfl v120).mono ?_
  rintro e v120 ⟨rfl, rfl⟩
  go_wp2_with fail
  refine (is_yes 2 2 rfl v120).mono ?_
  rintro e v120 ⟨rfl, rfl⟩
  go_wp2_with fail
  refine (fails_yes 0 3 3 rfl rfl v120).mono ?_
  rintro e v120 ⟨rfl, rfl⟩
  go_wp2
  go_ret
  exact ⟨rfl, HB120.out⟩
end Go.Proofs.Ytbcbkeeadbfjmaa
