/- linear.Sum of lists that pass. -/
import Derived.Test.YtinoomcboinokaaGreatLConcatR
import Derived.Test.YtinoomcboinokaaGreatLLives2
namespace Go.Proofs.YtinoomcboinokaaGreat
open Go Go.RowKit Num

/-- Two lists of rows, one behind the other. -/
def catR (m : Nat) (F G : Nat → Nat → Int) (i : Nat) : Nat → Int := if i < m then F i else G (i - m)
theorem rowsL_cat (n m k : Nat) (F G : Nat → Nat → Int) : rowsL n (catR m F G) (m + k) = rowsL n F m ++ rowsL n G k := by
  unfold rowsL
  rw [List.range_add, List.map_append, List.map_map]
  congr 1
  · refine List.map_congr_left fun i hi => ?_
    funext j
    unfold catR
    rw [if_pos (List.mem_range.1 hi)]
  · refine List.map_congr_left fun i _ => ?_
    funext j
    show (if j < n then catR m F G (m + i) j else 0) = _
    have e : catR m F G (m + i) = G i := by unfold catR; rw [if_neg (by omega), Nat.add_sub_cancel_left]
    rw [e]
theorem cat_grid {w : World} {S : Nat → Prop} {base m k n : Nat} {r : Value} {ra rb : Nat → Value} {F G : Nat → Nat → Int} (hown : w.ownsRow base 22 1 r (m + k) ((List.range m).map ra ++ (List.range k).map rb)) (ha : ∀ i, i < m → Vec w S (ra i) n (F i)) (hb : ∀ i, i < k → Vec w S (rb i) n (G i)) (hS : ∀ b, base ≤ b → b < w.heap.size → S b) :
    Grid w S r (m + k) (fun _ => n) (catR m F G) := by
  rcases hown.2 with ⟨rfl, hz⟩ | ⟨gb, cap, cur, rfl, hbase, hgbk, r1, r2, r3, r4⟩
  · exact ⟨none, 0, by rw [hz], by omega, fun h => absurd h (by omega)⟩
  · refine ⟨_, cap, rfl, r1, fun _ => ⟨gb, 0, rfl, hS gb hbase (Array.getElem?_eq_some_iff.1 hgbk).1, fun i hi => ?_⟩⟩
    by_cases e : i < m
    · have h1 : ((List.range m).map ra ++ (List.range k).map rb)[i]? = some (ra i) := by rw [List.getElem?_append_left (by simpa using e)]; simp [e]
      rw [← r4, List.getElem?_take_of_lt (by omega)] at h1
      refine ⟨_, by rw [Nat.zero_add]; exact Row.cell (show Row w gb 22 cur from hgbk) (by rw [← Array.getElem?_toList]; exact h1), ?_⟩
      unfold catR
      rw [if_pos e]
      exact ha i e
    · have h1 : ((List.range m).map ra ++ (List.range k).map rb)[i]? = some (rb (i - m)) := by
        rw [List.getElem?_append_right (by simp; omega)]; simp [show i - m < k by omega]
      rw [← r4, List.getElem?_take_of_lt (by omega)] at h1
      refine ⟨_, by rw [Nat.zero_add]; exact Row.cell (show Row w gb 22 cur from hgbk) (by rw [← Array.getElem?_toList]; exact h1), ?_⟩
      unfold catR
      rw [if_neg e]
      exact hb (i - m) (by omega)
theorem chk_two {p n : Nat} {m k : Nat} (hmod : modB (p : Int) = true) (hn1 : 1 ≤ n) (hn : n ≤ 64) (hm : m ≤ 200) (hk : k ≤ 200) :
    chkB n p (chkTo (fun i => chkL (if i = 0 then m else k) (fun _ => n) n) 2) = 0 := by
  have h1 := chkB_zero (chkB_ok (p := (p : Int)) (n := (n : Int)) (m := m) (l := fun _ => n) hmod (by omega) (by omega) hm (fun _ _ => rfl))
  have h2 := chkB_zero (chkB_ok (p := (p : Int)) (n := (n : Int)) (m := k) (l := fun _ => n) hmod (by omega) (by omega) hk (fun _ _ => rfl))
  have e : chkTo (fun i => chkL (if i = 0 then m else k) (fun _ => n) n) 2 = 0 := by
    simp [chkTo, h1.2, h2.2]
  rw [e]
  unfold chkB
  rw [if_neg (by rw [h1.1]; decide)]
/-- check at two lists that pass. -/
theorem check_two (p n m k : Nat) (av bv : Value) (F G : Nat → Nat → Int) (w : World) (hmod : modB (p : Int) = true) (hn1 : 1 ≤ n) (hn : n ≤ 64) (hm : m ≤ 200) (hk : k ≤ 200) (ha : Grid w (· < w.heap.size) av m (fun _ => n) F) (hb : Grid w (· < w.heap.size) bv k (fun _ => n) G) :
    Calls Tryz.prog 35 #[.int .i64 p, .int .i64 n, .slice (some ⟨w.heap.size, 0, none⟩) 2 2] (w.alloc (.cells #[av, bv] 25)) (ChkP 0 (w.alloc (.cells #[av, bv] 25))) := by
  have hr := row_new (W := w) rfl 25 #[av, bv]
  have hbw := (Below.refl w.heap.size w).alloc (Nat.le_refl _) (.cells #[av, bv] 25)
  have h := check_any p n w.heap.size 0 2 2 (fun i => if i = 0 then av else bv) (fun i => if i = 0 then m else k) (fun _ _ => n) (fun i => if i = 0 then F else G) (w.alloc (.cells #[av, bv] 25)) (by simp) (by omega)
    (fun i _ => by split <;> omega)
    (fun i hi => by
      obtain rfl | rfl : i = 0 ∨ i = 1 := by omega
      · exact hr.cell rfl
      · exact hr.cell rfl)
    (fun i hi => by
      obtain rfl | rfl : i = 0 ∨ i = 1 := by omega
      · exact (ha.below (fun _ h => h) hbw).more fun b h => by simp; omega
      · exact (hb.below (fun _ h => h) hbw).more fun b h => by simp; omega)
  rw [chk_two hmod hn1 hn hm hk] at h
  exact h

set_option maxRecDepth 100000 in
set_option maxHeartbeats 2000000 in
theorem Sum_ok (p n m k : Nat) (av bv : Value) (F G : Nat → Nat → Int) (w : World) (hmod : modB (p : Int) = true) (hn1 : 1 ≤ n) (hn : n ≤ 64) (hm : m ≤ 100) (hk : k ≤ 100) (ha : Grid w (· < w.heap.size) av m (fun _ => n) F) (hb : Grid w (· < w.heap.size) bv k (fun _ => n) G) :
    Calls Tryz.prog 19 #[.int .i64 p, .int .i64 n, av, bv] w (OkB n (elimL p n (m + k) (catR m F G)) w) := by
  obtain ⟨hp0, hp1, hp6⟩ := modB_true hmod
  have HP6 := Lib.hid hp6
  obtain ⟨Aa, ca, rfl, -⟩ := ha.form
  obtain ⟨Ab, cb, rfl, -⟩ := hb.form
  have HC := Lib.hid (check_two p n m k _ _ F G w hmod hn1 hn (by omega) (by omega) ha hb)
  have HA := Lib.hid ha
  have HB' := Lib.hid hb
  have HBW := Lib.hid ((Below.refl w.heap.size w).alloc (Nat.le_refl _) (.cells #[.slice Aa m ca, .slice Ab k cb] 25))
  generalize hPP : OkB n (elimL p n (m + k) (catR m F G)) w = PP
  have HPP := Lib.hid (show ∀ e w', OkB n (elimL p n (m + k) (catR m F G)) w e w' → PP e w' from fun e w' h => by rw [← hPP]; exact h)
  clear hp6 hmod ha hb hPP
  go_enter Tryz.func19, Tryz.ntmps19
  go_wp2_with fail
  refine HC.out.mono ?_
  rintro e w1 ⟨rfl, hb1⟩
  have HB1 := Lib.hid (HBW.out.trans (hb1.mono HBW.out.size))
  clear hb1
  have hr2 := row_new (W := w1) rfl 25 #[.slice Aa m ca, .slice Ab k cb]
  have HB2 := Lib.hid (HB1.out.alloc HB1.out.size (.cells #[.slice Aa m ca, .slice Ab k cb] 25))
  obtain ⟨ra, hsa, hva⟩ := grid_src (B := (w1.alloc (.cells #[.slice Aa m ca, .slice Ab k cb] 25)).heap.size) (HA.out.below (fun _ h => h) HB2.out) (fun b h => Nat.lt_of_lt_of_le h HB2.out.size)
  obtain ⟨rb, hsb, hvb⟩ := grid_src (B := (w1.alloc (.cells #[.slice Aa m ca, .slice Ab k cb] 25)).heap.size) (HB'.out.below (fun _ h => h) HB2.out) (fun b h => Nat.lt_of_lt_of_le h HB2.out.size)
  have HCC := Lib.hid (concatR_any w1.heap.size 0 2 Aa Ab ca cb m k _ _ (w1.alloc (.cells #[.slice Aa m ca, .slice Ab k cb] 25)) (by omega) (by omega) hr2.lt (hr2.cell rfl) (hr2.cell rfl) hsa hsb)
  have HVA := Lib.hid hva
  have HVB := Lib.hid hvb
  clear hsa hsb hva hvb hr2
  go_wp2_with fail
  refine HCC.out.mono ?_
  rintro e w3 ⟨r, rfl, ho, hb3⟩
  have hs2 := HB2.out.size
  have HB3 := Lib.hid (HB2.out.trans (hb3.mono HB2.out.size))
  have hlt : ∀ b, b < w.heap.size → b < (w1.alloc (.cells #[.slice Aa m ca, .slice Ab k cb] 25)).heap.size := fun b h => Nat.lt_of_lt_of_le h hs2
  have hgr : Grid w3 (· < w3.heap.size) r (m + k) (fun _ => n) (catR m F G) := cat_grid ho
    (fun i hi => ((HVA.out i hi).below hlt hb3).more fun b h => Nat.lt_of_lt_of_le h HB3.out.size)
    (fun i hi => ((HVB.out i hi).below hlt hb3).more fun b h => Nat.lt_of_lt_of_le h HB3.out.size) (fun b _ h => h)
  obtain ⟨Ar, cr, rfl, -⟩ := hgr.form
  have HGR := Lib.hid hgr
  clear ho hb3 hlt hgr hs2
  go_wp2_with fail
  refine (eliminate_any p n n (m + k) (catR m F G) (.slice Ar (m + k) cr) w3 HP6.out hp0 (by omega) (by omega) (Nat.le_refl _) (by omega) (by omega) HGR.out).mono ?_
  rintro e w4 ⟨eb, mb, g, c2, rfl, heb, hgn, hel, hb4⟩
  have HB4 := Lib.hid (HB3.out.trans (hb4.mono HB3.out.size))
  have HEL := Lib.hid hel
  have HGN := Lib.hid hgn
  have hs1 := hb4.size
  clear hb4 hel hgn
  go_wp2_with fail
  refine (after_any p n n (m + k) 0 eb mb w3.heap.size _ g c2 w4 (Nat.le_refl _) (by omega) (by omega) (by omega) (elimR_ech (by omega) (invF HP6.out hp0) n _) HEL.out hs1 HGN.out).mono ?_
  rintro e w5 ⟨v, rfl, hgv, hb5⟩
  rw [filter_zero] at hgv
  have HB5 := Lib.hid (HB4.out.trans (hb5.mono HB4.out.size))
  have hw3 := HB3.out.size
  obtain ⟨A4, c4, rfl, -⟩ := hgv.form
  have HE := Lib.hid (HPP.out (.returned (.tuple #[.slice A4 (pivL n (elimR p n (invI p) (rowsL n (catR m F G) (m + k)))).length c4, .int .i64 0])) w5 ⟨_, rfl, (hgv.keep (S' := New w w5) (fun b h => ⟨by omega, h.2⟩) (fun _ _ => rfl) (fun _ _ => rfl) (fun i _ x _ => by unfold basF elimL; rw [Nat.zero_add])), HB5.out⟩)
  clear hgv hb5
  go_wp2
  exact HE.out
end Go.Proofs.YtinoomcboinokaaGreat
