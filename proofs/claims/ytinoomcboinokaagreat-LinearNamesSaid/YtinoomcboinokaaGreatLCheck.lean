/- matrix.One; linear.check. -/
import Derived.Test.YtinoomcboinokaaGreatMOne
import Derived.Test.YtinoomcboinokaaGreatLTurn
namespace Go.Proofs.YtinoomcboinokaaGreat
open Go Go.RowKit Num

/-- What One returns. -/
def OneP (x : Int) (n : Int) (p : Int) (w : World) (e : Ending) (w' : World) : Prop := (x ≠ 0 → BadM w x e w') ∧ (x = 0 → OkM w p n.toNat n.toNat oneF e w')
noncomputable def chk1 (n p : Int) : Int := if modB p = false then 3 else if sizeB n = false then 2 else 0

set_option maxRecDepth 100000 in
set_option maxHeartbeats 1000000 in
theorem One_any (n p : Int) (w : World) : Calls Tryz.prog 28 #[.int .i64 n, .int .i64 p] w (OneP (chk1 n p) n p w) := by
  have HM := fun W => Lib.hid (isModulus_any p W)
  have HS := fun W => Lib.hid (isSize_any n W)
  have HR := Lib.hid (row_new (W := w) rfl 31 #[.int .i64 0, .slice none 0 0])
  have HB := Lib.hid ((Below.refl w.heap.size w).alloc (Nat.le_refl _) (.cells #[.int .i64 0, .slice none 0 0] 31))
  have d0 := HR.out.cell (i := 0) rfl
  have d1 := HR.out.cell (i := 1) rfl
  have f0 := HR.out.frozen 0
  have f1 := HR.out.frozen 1
  by_cases hm : modB p = false
  · have HPO := Lib.hid (fun (e : Ending) (w' : World) (h : BadM w 3 e w') => (show OneP (chk1 n p) n p w e w' from by unfold chk1; rw [if_pos hm]; exact ⟨fun _ => h, fun h => absurd h (by decide)⟩))
    generalize OneP (chk1 n p) n p w = PP at HPO ⊢
    rw [hm] at HM
    clear hm
    go_enter Tryz.func28, Tryz.ntmps28
    go_wp2_with fail
    refine (HM _).out.mono ?_
    rintro e w2 ⟨rfl, rfl⟩
    go_wp2_with fail
    have hc0 := HR.out.cell (i := 0) rfl
    have hc1 := HR.out.cell (i := 1) rfl
    refine bodyPost_ret (v := .tuple #[.agg #[.int .i64 0, .slice none 0 0], .int .i64 3]) ?_ rfl (HPO.out _ _ ⟨rfl, HB.out⟩)
    simp [results, Tryz.results28, go_sem, hc0, hc1]
  · have hm' : modB p = true := by simpa using hm
    rw [hm'] at HM
    by_cases hs : sizeB n = false
    · have HPO := Lib.hid (fun (e : Ending) (w' : World) (h : BadM w 2 e w') => (show OneP (chk1 n p) n p w e w' from by unfold chk1; rw [if_neg hm, if_pos hs]; exact ⟨fun _ => h, fun h => absurd h (by decide)⟩))
      generalize OneP (chk1 n p) n p w = PP at HPO ⊢
      rw [hs] at HS
      clear hm hm' hs
      go_enter Tryz.func28, Tryz.ntmps28
      go_wp2_with fail
      refine (HM _).out.mono ?_
      rintro e w2 ⟨rfl, rfl⟩
      go_wp2_with fail
      refine (HS _).out.mono ?_
      rintro e w2 ⟨rfl, rfl⟩
      go_wp2_with fail
      have hc0 := HR.out.cell (i := 0) rfl
      have hc1 := HR.out.cell (i := 1) rfl
      refine bodyPost_ret (v := .tuple #[.agg #[.int .i64 0, .slice none 0 0], .int .i64 2]) ?_ rfl (HPO.out _ _ ⟨rfl, HB.out⟩)
      simp [results, Tryz.results28, go_sem, hc0, hc1]
    · have hs' : sizeB n = true := by simpa using hs
      have hsz : 1 ≤ n ∧ n ≤ 64 := by unfold sizeB at hs'; simpa using hs'
      have HPO := Lib.hid (fun (e : Ending) (w' : World) (h : OkM w p n.toNat n.toNat oneF e w') => (show OneP (chk1 n p) n p w e w' from by unfold chk1; rw [if_neg hm, if_neg hs]; exact ⟨fun h => absurd rfl h, fun _ => h⟩))
      generalize OneP (chk1 n p) n p w = PP at HPO ⊢
      rw [hs'] at HS
      obtain ⟨k, rfl⟩ : ∃ k : Nat, n = k := ⟨n.toNat, by omega⟩
      rw [Int.toNat_natCast] at HPO
      have HO := fun W => Lib.hid (one_any k p W (by omega))
      clear hm hm' hs hs'
      go_enter Tryz.func28, Tryz.ntmps28
      go_wp2_with fail
      refine (HM _).out.mono ?_
      rintro e w2 ⟨rfl, rfl⟩
      go_wp2_with fail
      refine (HS _).out.mono ?_
      rintro e w2 ⟨rfl, rfl⟩
      go_wp2_with fail
      refine (HO _).out.mono ?_
      rintro e w2 ⟨r, rfl, hg, hb⟩
      obtain ⟨A, c, rfl, -⟩ := hg.form
      have j := Row.below HR.out hb HR.out.lt
      have x0 := j.cell (i := 0) rfl
      have x1 := j.cell (i := 1) rfl
      have y0 := j.frozen 0
      have j1 := j.set 0 (.int .i64 p)
      have y1 := j1.frozen 1
      have x2 := j1.cell (i := 1) rfl
      have hX := agg_res j (HB.out.trans (hb.mono HB.out.size)) (Nat.le_refl _) (.int .i64 p) (.slice A k c)
      have hlt := HR.out.lt
      have HG := Lib.hid (((hg.set (p := ⟨w.heap.size, 0, none⟩) (fun h => by have h1 : (w.alloc (.cells #[.int .i64 0, .slice none 0 0] 31)).heap.size ≤ w.heap.size := h.1; omega) (.int .i64 p)).set (p := ⟨w.heap.size, 1, none⟩) (fun h => by have h1 : (w.alloc (.cells #[.int .i64 0, .slice none 0 0] 31)).heap.size ≤ w.heap.size := h.1; omega) (.slice A k c)).more (S' := New w ((w2.setCell ⟨w.heap.size, 0, none⟩ (.int .i64 p)).setCell ⟨w.heap.size, 1, none⟩ (.slice A k c))) fun b h => ⟨by have h1 : (w.alloc (.cells #[.int .i64 0, .slice none 0 0] 31)).heap.size ≤ b := h.1; omega, by simp only [World.size_setCell]; exact h.2⟩)
      have HX := Lib.hid hX
      clear hX hg hb j j1 d0 d1 f0 f1
      go_wp2_with fail
      obtain ⟨k3, k2⟩ := HX.out
      have hc0 := k3.cell (i := 0) rfl
      have hc1 := k3.cell (i := 1) rfl
      refine bodyPost_ret (v := .tuple #[.agg #[.int .i64 p, .slice A k c], .int .i64 0]) ?_ rfl (HPO.out _ _ ⟨_, rfl, HG.out, k2⟩)
      simp [results, Tryz.results28, go_sem, hc0, hc1]

set_option maxRecDepth 100000 in
set_option maxHeartbeats 400000 in
theorem other_any (A : Option Addr) (k c : Nat) (n : Int) (B : Nat) (w : World) (hb : Boxed w B 3 (.int .i64 n)) : Calls Tryz.prog 63 #[.slice A k c, .pointer (some ⟨B, 0, none⟩)] w fun e w' => e = .returned (.bool ((k : Int) != n)) ∧ w' = w := by
  have hc := hb.cell
  generalize hq : ((k : Int) != n) = q
  clear hb
  go_enter Tryz.func63, Tryz.ntmps63
  go_wp2
  go_ret
  exact ⟨rfl, rfl⟩
/-- Some row has another length. -/
def oddL (m : Nat) (l : Nat → Nat) (n : Int) : Prop := ∃ i, i < m ∧ (l i : Int) ≠ n
set_option maxRecDepth 100000 in
set_option maxHeartbeats 400000 in
theorem indexL_any (v : Value) (m : Nat) (l : Nat → Nat) (f : Nat → Nat → Int) (n : Int) (B : Nat) (S : Nat → Prop) (w : World) (hm : m ≤ 1000000) (hv : Grid w S v m l f) (hb : Boxed w B 3 (.int .i64 n)) (ok : Bool) (hok : ok = true ↔ oddL m l n) :
    Calls Tryz.prog 82 #[v, .func (.func 63) #[] #[.pointer (some ⟨B, 0, none⟩)]] w fun e w' => (∃ r : Int, e = .returned (.int .i64 r) ∧ decide (r ≥ 0) = ok) ∧ w' = w := by
  obtain ⟨A, c, rfl, hnc, hv⟩ := hv
  have HV := Lib.hid hv
  have HP := fun A k c => Lib.hid (other_any A k c n B w hb)
  have HOK := Lib.hid hok
  clear hv hb hok
  go_enter Tryz.func82, Tryz.ntmps82
  go_wp2
  go_loop [8] (fun i => ∃ j : Nat, i = .int .i64 j ∧ j ≤ m ∧ Hid (∀ i, i < j → (l i : Int) = n)) (fun i => m - (intOf i).toNat)
  case atStart => exact ⟨0, rfl, Nat.zero_le _, Lib.hid fun i h => absurd h (by omega)⟩
  case round =>
    obtain ⟨j, rfl, hj, HA⟩ := hrel
    by_cases hlt : j < m
    · obtain ⟨b, o, rfl, hb1, hcv⟩ := HV.out (by omega)
      obtain ⟨r, hx, hr⟩ := hcv j hlt
      obtain ⟨Ar, cr, rfl, -⟩ := hr.form
      have hC1 := HP Ar (l j) cr
      clear hr hcv
      by_cases hz : (l j : Int) = n
      · have HE := Lib.hid (show ∀ i, i < j + 1 → (l i : Int) = n from fun i hi => by
          by_cases e : i = j
          · subst e; exact hz
          · exact HA.out i (by omega))
        rw [show ((l j : Int) != n) = false by simp [hz]] at hC1
        clear hz
        generalize l j = lj at hx hC1
        go_wp2_with fail
        refine hC1.out.mono ?_
        rintro e w' ⟨rfl, rfl⟩
        go_wp2
        go_round
        case rel => exact ⟨j + 1, by go_num, by omega, HE⟩
        case measure => simp [intOf]; omega
      · have HE := Lib.hid (show ok = true from HOK.out.2 ⟨j, hlt, hz⟩)
        rw [show ((l j : Int) != n) = true by simp [hz]] at hC1
        clear hz
        generalize l j = lj at hx hC1
        go_wp2_with fail
        refine hC1.out.mono ?_
        rintro e w' ⟨rfl, rfl⟩
        go_wp2
        go_ret
        exact ⟨⟨_, rfl, by rw [HE.out]; exact decide_eq_true (by omega)⟩, rfl⟩
    · have HE := Lib.hid (show ok = false from by
        cases ok with
        | false => rfl
        | true =>
          obtain ⟨i, hi, h⟩ := HOK.out.1 rfl
          exact absurd (HA.out i (by omega)) h)
      go_wp2
      go_ret
      exact ⟨⟨_, rfl, by rw [HE.out]; exact decide_eq_false (by omega)⟩, rfl⟩
set_option maxRecDepth 100000 in
set_option maxHeartbeats 400000 in
theorem containsL_any (v : Value) (m : Nat) (l : Nat → Nat) (f : Nat → Nat → Int) (n : Int) (B : Nat) (S : Nat → Prop) (w : World) (hm : m ≤ 1000000) (hv : Grid w S v m l f) (hb : Boxed w B 3 (.int .i64 n)) (ok : Bool) (hok : ok = true ↔ oddL m l n) :
    Calls Tryz.prog 64 #[v, .func (.func 63) #[] #[.pointer (some ⟨B, 0, none⟩)]] w fun e w' => e = .returned (.bool ok) ∧ w' = w := by
  have HC := Lib.hid (indexL_any v m l f n B S w hm hv hb ok hok)
  obtain ⟨A, c, rfl, hnc⟩ := hv.form
  clear hv hb hok
  go_enter Tryz.func64, Tryz.ntmps64
  go_wp2_with fail
  refine HC.out.mono ?_
  rintro e w' ⟨⟨r, rfl, hd⟩, rfl⟩
  go_wp2
  go_ret
  exact ⟨rfl, rfl⟩

open Classical in
/-- The error of a list. -/
noncomputable def chkL (m : Nat) (l : Nat → Nat) (n : Int) : Int := if 200 < m then 4 else if oddL m l n then 10 else 0
/-- The first error of some. -/
def chkTo (x : Nat → Int) : Nat → Int
  | 0 => 0
  | k + 1 => if chkTo x k ≠ 0 then chkTo x k else x k
theorem chkTo_stop {x : Nat → Int} {k : Nat} (h : chkTo x (k + 1) ≠ 0) : ∀ d, chkTo x (k + 1 + d) = chkTo x (k + 1)
  | 0 => rfl
  | d + 1 => by
    have ih := chkTo_stop h d
    show (if chkTo x (k + 1 + d) ≠ 0 then chkTo x (k + 1 + d) else x (k + 1 + d)) = _
    rw [ih, if_pos h]
/-- The error of a modulus, a number of entries, and lists. -/
noncomputable def chkB (n p : Int) (x : Int) : Int := if chk1 n p ≠ 0 then chk1 n p else x
/-- An error has been returned. -/
def ChkP (x : Int) (w : World) (e : Ending) (w' : World) : Prop := e = .returned (.int .i64 x) ∧ Below w.heap.size w w'

theorem st_facts (w : World) (a : Value) :
    (w.alloc (.cells #[.int .i64 0, .slice none 0 0] 31)).cell? ⟨w.heap.size, 0, none⟩ = some (.int .i64 0) ∧ (w.alloc (.cells #[.int .i64 0, .slice none 0 0] 31)).frozen? ⟨w.heap.size, 0, none⟩ = false ∧ (w.alloc (.cells #[.int .i64 0, .slice none 0 0] 31)).cell? ⟨w.heap.size, 1, none⟩ = some (.slice none 0 0) ∧
    (w.alloc (.cells #[a, .slice none 0 0] 31)).cell? ⟨w.heap.size, 1, none⟩ = some (.slice none 0 0) ∧ (w.alloc (.cells #[a, .slice none 0 0] 31)).frozen? ⟨w.heap.size, 1, none⟩ = false ∧ (w.alloc (.cells #[.int .i64 0, .slice none 0 0] 31)).frozen? ⟨w.heap.size, 1, none⟩ = false := by
  have h1 := row_new (W := w) rfl 31 #[.int .i64 0, .slice none 0 0]
  have h2 := row_new (W := w) rfl 31 #[a, .slice none 0 0]
  exact ⟨h1.cell rfl, h1.frozen 0, h1.cell rfl, h2.cell rfl, h2.frozen 1, h1.frozen 1⟩
set_option maxRecDepth 100000 in
set_option maxHeartbeats 2000000 in
theorem check_any (p n : Int) (B O q c : Nat) (vl : Nat → Value) (M : Nat → Nat) (l : Nat → Nat → Nat) (F : Nat → Nat → Nat → Int) (w : World) (hB : B < w.heap.size) (hq : q ≤ 100) (hM : ∀ i, i < q → M i ≤ 1000000)
    (hc : ∀ i, i < q → w.cell? ⟨B, O + i, none⟩ = some (vl i)) (hg : ∀ i, i < q → Grid w (· < w.heap.size) (vl i) (M i) (l i) (F i)) :
    Calls Tryz.prog 35 #[.int .i64 p, .int .i64 n, .slice (some ⟨B, O, none⟩) q c] w (ChkP (chkB n p (chkTo (fun i => chkL (M i) (l i) n) q)) w) := by
  have HO := fun W => Lib.hid (One_any n p W)
  have hnb := Boxed.new w 3 (.int .i64 n)
  have hb1 := (Below.refl w.heap.size w).alloc (Nat.le_refl _) (.cells #[.int .i64 n] 3)
  have hnc := hnb.cell
  have HN := Lib.hid hnb
  have HB := Lib.hid hb1
  have HC := Lib.hid hc
  have HG := Lib.hid hg
  have HM := Lib.hid hM
  clear hnb hb1 hc hg hM
  by_cases hx : chk1 n p = 0
  · have HPO := Lib.hid (fun (y : Int) (e : Ending) (w' : World) (hy : chkTo (fun i => chkL (M i) (l i) n) q = y) (h : ChkP y w e w') => (show ChkP (chkB n p (chkTo (fun i => chkL (M i) (l i) n) q)) w e w' from by unfold chkB; rw [if_neg (by rw [hx]; decide), hy]; exact h))
    generalize ChkP (chkB n p (chkTo (fun i => chkL (M i) (l i) n) q)) w = PP at HPO ⊢
    go_enter Tryz.func35, Tryz.ntmps35
    go_wp2_with fail
    refine (HO _).out.mono ?_
    rintro e w2 ⟨-, h2⟩
    obtain ⟨r, rfl, hgr, hb2⟩ := h2 hx
    obtain ⟨A0, c0, rfl, -⟩ := hgr.form
    have HN2 := Lib.hid (boxBelow HN.out hb2 HN.out.lt)
    have HB2 := Lib.hid (HB.out.trans (hb2.mono HB.out.size))
    clear hb2 h2 hgr
    have st := st_facts w2 (.int .i64 p)
    obtain ⟨s1, s2, s3, s4, s5, s6⟩ := st
    have hn3 := (HN2.out.alloc (.cells #[.int .i64 p, .slice A0 n.toNat c0] 31)).cell
    have hb3 : Below w.heap.size w (w2.alloc (.cells #[.int .i64 p, .slice A0 n.toNat c0] 31)) := HB2.out.alloc HB2.out.size _
    have HN3 := Lib.hid (HN2.out.alloc (.cells #[.int .i64 p, .slice A0 n.toNat c0] 31))
    have HB3 := Lib.hid hb3
    clear hb3
    go_wp2
    generalize w2.alloc (.cells #[.int .i64 p, .slice A0 n.toNat c0] 31) = w3 at HB3 HN3 hn3

    go_loop [24] (fun i => ∃ j : Nat, i = .int .i64 j ∧ j ≤ q ∧ Hid (chkTo (fun i => chkL (M i) (l i) n) j = 0)) (fun i => q - (intOf i).toNat)
    case atStart => exact ⟨0, rfl, Nat.zero_le _, Lib.hid rfl⟩
    case round =>
      obtain ⟨j, rfl, hj, HA⟩ := hrel
      by_cases hlt : j < q
      · have hcj : w3.cell? ⟨B, O + j, none⟩ = some (vl j) := (HB3.out.cell (p := ⟨B, O + j, none⟩) hB).trans (HC.out j hlt)
        have hgj := (HG.out j hlt).below (fun _ h => h) HB3.out
        have hmj := HM.out j hlt
        have HS := Lib.hid (show chkTo (fun i => chkL (M i) (l i) n) (j + 1) = chkL (M j) (l j) n from by
          show (if chkTo (fun i => chkL (M i) (l i) n) j ≠ 0 then _ else _) = _
          rw [if_neg (by rw [HA.out]; decide)])
        have HF := Lib.hid (show ∀ y, chkTo (fun i => chkL (M i) (l i) n) (j + 1) = y → y ≠ 0 → chkTo (fun i => chkL (M i) (l i) n) q = y from fun y h1 h2 => by
          have := chkTo_stop (x := fun i => chkL (M i) (l i) n) (k := j) (by rw [h1]; exact h2) (q - (j + 1))
          rw [show j + 1 + (q - (j + 1)) = q by omega] at this
          rw [this, h1])
        by_cases hlong : 200 < M j
        · have HE := Lib.hid (HPO.out 4 (.returned (.int .i64 4)) w3 (HF.out 4 (by rw [HS.out]; unfold chkL; rw [if_pos hlong]) (by decide)) ⟨rfl, HB3.out⟩)
          obtain ⟨A, cl, hv, hcl⟩ := hgj.form
          rw [hv] at hcj
          clear hgj hv
          generalize M j = m at hcj hcl hlong hmj
          have hlong2 : (200 : Int) < (m : Int) := by omega
          go_wp2
          exact HE.out
        · by_cases hodd : oddL (M j) (l j) n
          · have HE := Lib.hid (HPO.out 10 (.returned (.int .i64 10)) w3 (HF.out 10 (by rw [HS.out]; unfold chkL; rw [if_neg hlong, if_pos hodd]) (by decide)) ⟨rfl, HB3.out⟩)
            have HCT := Lib.hid (containsL_any (vl j) (M j) (l j) (F j) n w.heap.size _ w3 hmj hgj HN3.out true ⟨fun _ => hodd, fun _ => rfl⟩)
            obtain ⟨A, cl, hv, hcl⟩ := hgj.form
            rw [hv] at hcj HCT
            clear hgj hv hodd
            generalize M j = m at hcj hcl hlong hmj HCT
            have hlong2 : ¬ (200 : Int) < (m : Int) := by omega
            go_wp2_with fail
            refine HCT.out.mono ?_
            rintro e w' ⟨rfl, rfl⟩
            go_wp2
            exact HE.out
          · have HE := Lib.hid (show chkTo (fun i => chkL (M i) (l i) n) (j + 1) = 0 from by rw [HS.out]; unfold chkL; rw [if_neg hlong, if_neg hodd])
            have HCT := Lib.hid (containsL_any (vl j) (M j) (l j) (F j) n w.heap.size _ w3 hmj hgj HN3.out false ⟨fun h => (by cases h), fun h => absurd h hodd⟩)
            obtain ⟨A, cl, hv, hcl⟩ := hgj.form
            rw [hv] at hcj HCT
            clear hgj hv hodd
            generalize M j = m at hcj hcl hlong hmj HCT
            have hlong2 : ¬ (200 : Int) < (m : Int) := by omega
            go_wp2_with fail
            refine HCT.out.mono ?_
            rintro e w' ⟨rfl, rfl⟩
            go_wp2
            go_round
            case rel => exact ⟨j + 1, by go_num, by omega, HE⟩
            case measure => simp [intOf]; omega
      · obtain rfl : j = q := by omega
        have HE := Lib.hid (HPO.out 0 (.returned (.int .i64 0)) w3 HA.out ⟨rfl, HB3.out⟩)
        go_wp2
        exact HE.out
  · have HPO := Lib.hid (fun (e : Ending) (w' : World) (h : ChkP (chk1 n p) w e w') => (show ChkP (chkB n p (chkTo (fun i => chkL (M i) (l i) n) q)) w e w' from by unfold chkB; rw [if_pos hx]; exact h))
    generalize ChkP (chkB n p (chkTo (fun i => chkL (M i) (l i) n) q)) w = PP at HPO ⊢
    have hxb : (chk1 n p != 0) = true := by simp [hx]
    go_enter Tryz.func35, Tryz.ntmps35
    go_wp2_with fail
    refine (HO _).out.mono ?_
    rintro e w2 ⟨h1, -⟩
    obtain ⟨rfl, hb2⟩ := h1 hx
    have HB2 := Lib.hid (HB.out.trans (hb2.mono HB.out.size))
    clear hb2 h1 HO hx
    have HE := Lib.hid (HPO.out (.returned (.int .i64 (chk1 n p))) (w2.alloc (.cells #[.int .i64 0, .slice none 0 0] 31)) ⟨rfl, HB2.out.alloc HB2.out.size _⟩)
    generalize chk1 n p = y at hxb HE
    obtain ⟨s1, s2, s3, s4, s5, s6⟩ := st_facts w2 (.int .i64 0)
    go_wp2
    exact HE.out
end Go.Proofs.YtinoomcboinokaaGreat
