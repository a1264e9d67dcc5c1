/- LLives, LLives2, joined. -/
import Derived.Test.YtinoomcboinokaaGreatLOwn

/- cayleylaw05: the examples. -/
namespace Go.Proofs.YtinoomcboinokaaGreat
open Go Go.RowKit Num

/-- Rows of three. -/
def M3 (a b c d e f g h i : Int) (r s : Nat) : Int := if r = 0 then (if s = 0 then a else if s = 1 then b else c) else if r = 1 then (if s = 0 then d else if s = 1 then e else f) else (if s = 0 then g else if s = 1 then h else i)
theorem mod5 : modB ((5 : Nat) : Int) = true := modB_check 3 (by decide +kernel) (by decide +kernel) (by decide +kernel) (by decide +kernel)
/-- The example's rows. -/
def exF : Nat → Nat → Int := M3 2 4 1 1 2 0 0 0 3
def exV (j : Nat) : Int := if j = 0 then 3 else if j = 1 then 1 else 4
/-- The example's matrix. -/
def exK (r s : Nat) : Int := if r = 0 then (if s = 0 then 1 else 2) else if r = 1 then (if s = 0 then 2 else 4) else (if s = 0 then 0 else 1)
theorem ex_len : (pivL 3 (elimR 5 3 (invI 5) (rowsL 3 exF 3))).length = 2 := by decide +kernel
theorem ex_basis : gridB 2 (fun _ => 3) (basF 3 (elimR 5 3 (invI 5) (rowsL 3 exF 3))) (M3 1 2 0 0 0 1 0 0 0) = true := by decide +kernel
theorem ex_in : inB 5 3 (elimR 5 3 (invI 5) (rowsL 3 exF 3)) exV = true := by decide +kernel
theorem ex_ker : (kerL 2 3 (elimR 5 (2 + 3) (invI 5) (rowsL (2 + 3) (markF 2 exK) 3))).length = 1 := by decide +kernel
theorem ex_ker2 : gridB 1 (fun _ => 3) (fun i x => rowAt (elimR 5 (2 + 3) (invI 5) (rowsL (2 + 3) (markF 2 exK) 3)) ((kerL 2 3 (elimR 5 (2 + 3) (invI 5) (rowsL (2 + 3) (markF 2 exK) 3))).getD i 0) (2 + x)) (M3 1 2 0 0 0 0 0 0 0) = true := by decide +kernel
theorem chkB_ok {p n : Int} {m : Nat} {l : Nat → Nat} (hp : modB p = true) (h0 : 1 ≤ n) (h1 : n ≤ 64) (hm : m ≤ 200) (hl : ∀ i, i < m → (l i : Int) = n) : chkB n p (chkL m l n) = 0 := by
  have h2 : chk1 n p = 0 := by
    unfold chk1
    rw [if_neg (by rw [hp]; decide), if_neg]
    unfold sizeB
    rw [decide_eq_true ⟨h0, h1⟩]; decide
  unfold chkB chkL
  rw [if_neg (by rw [h2]; decide), if_neg (by omega), if_neg]
  rintro ⟨i, hi, h⟩
  exact h (hl i hi)
theorem chkI_ok {p n : Int} {m k : Nat} {l : Nat → Nat} (hp : modB p = true) (h0 : 1 ≤ n) (h1 : n ≤ 64) (hm : m ≤ 200) (hl : ∀ i, i < m → (l i : Int) = n) (hk : (k : Int) = n) : chkI n p m l k = 0 := by
  unfold chkI
  rw [if_neg (by rw [chkB_ok hp h0 h1 hm hl]; decide), if_neg (by simp [hk])]
/-- A block of three ints is a row. -/
theorem row3_vec {w : World} {g : Nat} (S : Nat → Prop) {a b c : Int} {f : Nat → Int} (h : Row w g 3 #[.int .i64 a, .int .i64 b, .int .i64 c]) (hS : S g) (h0 : f 0 = a) (h1 : f 1 = b) (h2 : f 2 = c) : Vec w S (.slice (some ⟨g, 0, none⟩) 3 3) 3 f :=
  ⟨_, 3, rfl, Nat.le_refl _, fun _ => ⟨g, 0, rfl, hS, fun j hj => by
    rw [Nat.zero_add]
    obtain rfl | rfl | rfl : j = 0 ∨ j = 1 ∨ j = 2 := by omega
    · rw [h0]; exact h.cell rfl
    · rw [h1]; exact h.cell rfl
    · rw [h2]; exact h.cell rfl⟩⟩
theorem row2_vec {w : World} {g : Nat} (S : Nat → Prop) {a b : Int} {f : Nat → Int} (h : Row w g 3 #[.int .i64 a, .int .i64 b]) (hS : S g) (h0 : f 0 = a) (h1 : f 1 = b) : Vec w S (.slice (some ⟨g, 0, none⟩) 2 2) 2 f :=
  ⟨_, 2, rfl, Nat.le_refl _, fun _ => ⟨g, 0, rfl, hS, fun j hj => by
    rw [Nat.zero_add]
    obtain rfl | rfl : j = 0 ∨ j = 1 := by omega
    · rw [h0]; exact h.cell rfl
    · rw [h1]; exact h.cell rfl⟩⟩
/-- Lists of rows. -/
theorem list3_grid {w : World} {g n : Nat} {S : Nat → Prop} {a b c : Value} {F : Nat → Nat → Int} (h : Row w g 22 #[a, b, c]) (hS : S g) (h0 : Vec w S a n (F 0)) (h1 : Vec w S b n (F 1)) (h2 : Vec w S c n (F 2)) : Grid w S (.slice (some ⟨g, 0, none⟩) 3 3) 3 (fun _ => n) F :=
  ⟨_, 3, rfl, Nat.le_refl _, fun _ => ⟨g, 0, rfl, hS, fun j hj => by
    rw [Nat.zero_add]
    obtain rfl | rfl | rfl : j = 0 ∨ j = 1 ∨ j = 2 := by omega
    · exact ⟨a, h.cell rfl, h0⟩
    · exact ⟨b, h.cell rfl, h1⟩
    · exact ⟨c, h.cell rfl, h2⟩⟩⟩
theorem list2_grid {w : World} {g n : Nat} {S : Nat → Prop} {a b : Value} {F : Nat → Nat → Int} (h : Row w g 22 #[a, b]) (hS : S g) (h0 : Vec w S a n (F 0)) (h1 : Vec w S b n (F 1)) : Grid w S (.slice (some ⟨g, 0, none⟩) 2 2) 2 (fun _ => n) F :=
  ⟨_, 2, rfl, Nat.le_refl _, fun _ => ⟨g, 0, rfl, hS, fun j hj => by
    rw [Nat.zero_add]
    obtain rfl | rfl : j = 0 ∨ j = 1 := by omega
    · exact ⟨a, h.cell rfl, h0⟩
    · exact ⟨b, h.cell rfl, h1⟩⟩⟩
theorem list1_grid {w : World} {g n : Nat} {S : Nat → Prop} {a : Value} {F : Nat → Nat → Int} (h : Row w g 22 #[a]) (hS : S g) (h0 : Vec w S a n (F 0)) : Grid w S (.slice (some ⟨g, 0, none⟩) 1 1) 1 (fun _ => n) F :=
  ⟨_, 1, rfl, Nat.le_refl _, fun _ => ⟨g, 0, rfl, hS, fun j hj => by
    rw [Nat.zero_add]
    obtain rfl : j = 0 := by omega
    exact ⟨a, h.cell rfl, h0⟩⟩⟩
def GivesX (w : World) (m n : Nat) (F : Nat → Nat → Int) (e : Ending) (w' : World) : Prop := ∃ A c, e = .returned (.slice A m c) ∧ Grid w' (New w w') (.slice A m c) m (fun _ => n) F ∧ Below w.heap.size w w'
set_option maxRecDepth 100000 in
set_option maxHeartbeats 400000 in
theorem rows_any (w : World) : Calls Tryz.prog 15 #[] w (GivesX w 3 3 exF) := by
  have h1 := row_new (W := w) rfl 3 #[.int .i64 2, .int .i64 4, .int .i64 1]
  have h2 := row_new (W := w.alloc (.cells #[.int .i64 2, .int .i64 4, .int .i64 1] 3)) (g := w.heap.size + 1) (by simp) 3 #[.int .i64 1, .int .i64 2, .int .i64 0]
  have h3 := row_new (W := (w.alloc (.cells #[.int .i64 2, .int .i64 4, .int .i64 1] 3)).alloc (.cells #[.int .i64 1, .int .i64 2, .int .i64 0] 3)) (g := w.heap.size + 1 + 1) (by simp) 3 #[.int .i64 0, .int .i64 0, .int .i64 3]
  have h4 := row_new (W := ((w.alloc (.cells #[.int .i64 2, .int .i64 4, .int .i64 1] 3)).alloc (.cells #[.int .i64 1, .int .i64 2, .int .i64 0] 3)).alloc (.cells #[.int .i64 0, .int .i64 0, .int .i64 3] 3)) (g := w.heap.size + 1 + 1 + 1) (by simp) 22 #[.slice (some ⟨w.heap.size, 0, none⟩) 3 3, .slice (some ⟨w.heap.size + 1, 0, none⟩) 3 3, .slice (some ⟨w.heap.size + 1 + 1, 0, none⟩) 3 3]
  have hb := ((((Below.refl w.heap.size w).alloc (Nat.le_refl _) (.cells #[.int .i64 2, .int .i64 4, .int .i64 1] 3)).alloc (by simp) (.cells #[.int .i64 1, .int .i64 2, .int .i64 0] 3)).alloc (by simp <;> omega) (.cells #[.int .i64 0, .int .i64 0, .int .i64 3] 3)).alloc (by simp <;> omega) (.cells #[.slice (some ⟨w.heap.size, 0, none⟩) 3 3, .slice (some ⟨w.heap.size + 1, 0, none⟩) 3 3, .slice (some ⟨w.heap.size + 1 + 1, 0, none⟩) 3 3] 22)
  have HG := Lib.hid (list3_grid (S := New w ((((w.alloc (.cells #[.int .i64 2, .int .i64 4, .int .i64 1] 3)).alloc (.cells #[.int .i64 1, .int .i64 2, .int .i64 0] 3)).alloc (.cells #[.int .i64 0, .int .i64 0, .int .i64 3] 3)).alloc (.cells #[.slice (some ⟨w.heap.size, 0, none⟩) 3 3, .slice (some ⟨w.heap.size + 1, 0, none⟩) 3 3, .slice (some ⟨w.heap.size + 1 + 1, 0, none⟩) 3 3] 22))) (F := exF) (n := 3) h4 ⟨by omega, h4.lt⟩
    (row3_vec _ (((h1.alloc _).alloc _).alloc _) ⟨Nat.le_refl _, by simp <;> omega⟩ rfl rfl rfl) (row3_vec _ ((h2.alloc _).alloc _) ⟨by omega, by simp <;> omega⟩ rfl rfl rfl) (row3_vec _ (h3.alloc _) ⟨by omega, by simp⟩ rfl rfl rfl))
  have HB := Lib.hid hb
  clear h1 h2 h3 h4 hb
  go_enter Tryz.func15, Tryz.ntmps15
  go_wp2
  go_ret
  exact ⟨_, _, rfl, HG.out, HB.out⟩
set_option maxRecDepth 100000 in
set_option maxHeartbeats 400000 in
theorem is_any (v u : Value) (m : Nat) (n : Nat → Nat) (f g : Nat → Nat → Int) (w : World) (S S' : Nat → Prop) (hm : m ≤ 1000000) (hn : ∀ i, i < m → n i ≤ 1000000) (hv : Grid w S v m n f) (hu : Grid w S' u m n g) :
    Calls Tryz.prog 18 #[v, .int .i64 0, u] w fun e w' => e = .returned (.bool (gridB m n f g)) ∧ ∃ k, w' = w.drewN k := by
  have HL := Lib.hid (lists_same v u m n f g w S S' hm hn hv hu)
  obtain ⟨A, c, rfl, -⟩ := hv.form
  obtain ⟨B, d, rfl, -⟩ := hu.form
  clear hv hu
  generalize gridB m n f g = b at HL ⊢
  go_enter Tryz.func18, Tryz.ntmps18
  go_wp2_with fail
  refine HL.out.mono ?_
  rintro e w' ⟨rfl, k, rfl⟩
  go_wp2
  go_ret
  exact ⟨rfl, k, rfl⟩
set_option maxRecDepth 100000 in
set_option maxHeartbeats 400000 in
theorem five_any (A : Option Addr) (m c : Nat) (w : World) : Calls Tryz.prog 22 #[.slice A m c] w (Ret w (.agg #[.int .i64 5, .slice A m c])) := by
  obtain ⟨s1, s2, s3, s4, s5, s6⟩ := st_facts w (.int .i64 5)
  have hr := row_new (W := w) rfl 31 #[.int .i64 5, .slice A m c]
  have hb := (Below.refl w.heap.size w).alloc (Nat.le_refl _) (.cells #[.int .i64 5, .slice A m c] 31)
  have hc0 := hr.cell (i := 0) rfl
  have hc1 := hr.cell (i := 1) rfl
  have HB := Lib.hid hb
  clear hr hb
  go_enter Tryz.func22, Tryz.ntmps22
  go_wp2
  refine bodyPost_ret (v := .agg #[.int .i64 5, .slice A m c]) ?_ rfl ⟨rfl, HB.out⟩
  simp [results, Tryz.results22, go_sem, hc0, hc1]
end Go.Proofs.YtinoomcboinokaaGreat

/- cayleylaw05: lives. -/
namespace Go.Proofs.YtinoomcboinokaaGreat
open Go Go.RowKit Num

theorem grid_on {w w' : World} {S : Nat → Prop} {v : Value} {m : Nat} {n : Nat → Nat} {f : Nat → Nat → Int} (h : Grid w S v m n f) (hS : ∀ b, S b → b < w.heap.size) (hb : Below w.heap.size w w') : Grid w' (· < w'.heap.size) v m n f := (h.below hS hb).more fun _ h => Nat.lt_of_lt_of_le (hS _ h) hb.size
theorem ex_chkM : chkM 5 3 (fun _ => 2) exK = 0 := chkM_full (p := 5) mod5 (by omega) (by omega) (by omega) (by omega) (fun i hi j hj => by unfold exK; split <;> split <;> first | omega | (split <;> omega))
theorem below_drewN' {B : Nat} {W W1 : World} (h : Below B W W1) (k : Nat) : Below B W (W1.drewN k) := ⟨h.os, h.tape, h.output, h.size, h.block⟩
set_option maxRecDepth 100000 in
set_option maxHeartbeats 2000000 in
theorem lives_any (w : World) : Calls Tryz.prog 5 #[] w (Ret w (.bool true)) := by
  have hmod : modB 5 = true := mod5
  have hB0 : chkB 3 5 (chkL 3 (fun _ => 3) 3) = 0 := chkB_ok hmod (by omega) (by omega) (by omega) (fun _ _ => rfl)
  have hI0 : chkI 3 5 3 (fun _ => 3) 3 = 0 := chkI_ok hmod (by omega) (by omega) (by omega) (fun _ _ => rfl) rfl
  go_enter Tryz.func5, Tryz.ntmps5
  go_wp2_with fail
  refine (rows_any _).mono ?_
  rintro e w1 ⟨A1, c1, rfl, hg1, hb1⟩
  have HG1 := Lib.hid (hg1.more (S' := (· < w1.heap.size)) fun _ h => h.2)
  have HB1 := Lib.hid hb1
  clear hg1 hb1
  go_wp2_with fail
  refine (Basis_any 5 3 (.slice A1 3 c1) 3 (fun _ => 3) exF w1 (by omega) HG1.out).mono ?_
  rintro e w2 ⟨-, h2⟩
  obtain ⟨v, rfl, hgv, hb2⟩ := h2 hB0
  change Grid w2 _ v (pivL 3 (elimR 5 3 (invI 5) (rowsL 3 exF 3))).length _ (basF 3 (elimR 5 3 (invI 5) (rowsL 3 exF 3))) at hgv
  rw [ex_len] at hgv
  obtain ⟨Av, cv, rfl, -⟩ := hgv.form
  have HGV := Lib.hid (hgv.more (S' := (· < w2.heap.size)) fun _ h => h.2)
  have HB2 := Lib.hid (HB1.out.trans (hb2.mono HB1.out.size))
  clear hgv hb2 h2
  go_wp2_with fail
  refine (rows_any _).mono ?_
  rintro e w3 ⟨A3, c3, rfl, hg3, hb3⟩
  have HG3 := Lib.hid (hg3.more (S' := (· < w3.heap.size)) fun _ h => h.2)
  have HB3 := Lib.hid (HB2.out.trans (hb3.mono HB2.out.size))
  have HGV3 := Lib.hid (grid_on HGV.out (fun _ h => h) hb3)
  have hr3 := row_new (W := w3) rfl 3 #[.int .i64 3, .int .i64 1, .int .i64 4]
  have hbb3 := (Below.refl w3.heap.size w3).alloc (Nat.le_refl _) (.cells #[.int .i64 3, .int .i64 1, .int .i64 4] 3)
  have HB3a := Lib.hid hbb3
  have HV3 := Lib.hid (row3_vec (fun b => b < (w3.alloc (.cells #[.int .i64 3, .int .i64 1, .int .i64 4] 3)).heap.size) (f := exV) hr3 hr3.lt rfl rfl rfl)
  clear hg3 hb3 hr3 hbb3
  go_wp2_with fail
  refine (In_any 5 3 (.slice A3 3 c3) _ 3 3 (fun _ => 3) exF exV _ (by omega) (by omega) (grid_on HG3.out (fun _ h => h) HB3a.out) HV3.out).mono ?_
  rintro e w4 h4
  rw [hI0, if_pos rfl] at h4
  obtain ⟨rfl, hb4⟩ := h4
  rw [show inB 5 (3 : Int).toNat (elimL 5 (3 : Int).toNat 3 exF) exV = true from ex_in]
  have HB4 := Lib.hid (HB3.out.trans ((HB3a.out.trans (hb4.mono HB3a.out.size)).mono HB3.out.size))
  have HGV4 := Lib.hid (grid_on HGV3.out (fun _ h => h) (HB3a.out.trans (hb4.mono HB3a.out.size)))
  clear hb4
  obtain ⟨wk, hwk⟩ : ∃ wk, (((w4.alloc (.cells #[.int .i64 1, .int .i64 2] 3)).alloc (.cells #[.int .i64 2, .int .i64 4] 3)).alloc (.cells #[.int .i64 0, .int .i64 1] 3)).alloc (.cells #[.slice (some ⟨w4.heap.size, 0, none⟩) 2 2, .slice (some ⟨w4.heap.size + 1, 0, none⟩) 2 2, .slice (some ⟨w4.heap.size + 1 + 1, 0, none⟩) 2 2] 22) = wk := ⟨_, rfl⟩
  have HWK := Lib.hid hwk
  have HBK := Lib.hid (show Below w4.heap.size w4 wk from by rw [← hwk]; exact (((((Below.refl w4.heap.size w4).alloc (Nat.le_refl _) _).alloc (by simp) _).alloc (by simp <;> omega) _).alloc (by simp <;> omega) _))
  have HGK := Lib.hid (show Grid wk (· < wk.heap.size) (.slice (some ⟨w4.heap.size + 1 + 1 + 1, 0, none⟩) 3 3) 3 (fun _ => 2) exK from by
    rw [← hwk]
    exact list3_grid (row_new (by simp) _ _) (by simp <;> omega) (row2_vec _ (((row_new rfl _ _).alloc _).alloc _ |>.alloc _) (by simp <;> omega) rfl rfl) (row2_vec _ (((row_new (by simp) _ _).alloc _).alloc _) (by simp <;> omega) rfl rfl) (row2_vec _ ((row_new (by simp) _ _).alloc _) (by simp <;> omega) rfl rfl))
  clear hwk
  go_wp2_with fail
  rw [HWK.out]
  refine (five_any _ _ _ _).mono ?_
  rintro e w5 ⟨rfl, hb5⟩
  have HB5 := Lib.hid (HB4.out.trans ((HBK.out.trans (hb5.mono HBK.out.size)).mono HB4.out.size))
  have HGV5 := Lib.hid (grid_on HGV4.out (fun _ h => h) (HBK.out.trans (hb5.mono HBK.out.size)))
  have HGK5 := Lib.hid (grid_on HGK.out (fun _ h => h) hb5)
  clear hb5
  go_wp2_with fail
  refine (Kernel_any 5 _ 3 (fun _ => 2) exK w5 (by omega) (fun _ _ => by omega) HGK5.out).mono ?_
  rintro e w6 ⟨-, h6⟩
  obtain ⟨vk, rfl, hgk, hb6⟩ := h6 ex_chkM
  change Grid w6 _ vk (kerL 2 3 (elimR 5 (2 + 3) (invI 5) (rowsL (2 + 3) (markF 2 exK) 3))).length _ (fun i x => rowAt (elimR 5 (2 + 3) (invI 5) (rowsL (2 + 3) (markF 2 exK) 3)) ((kerL 2 3 (elimR 5 (2 + 3) (invI 5) (rowsL (2 + 3) (markF 2 exK) 3))).getD i 0) (2 + x)) at hgk
  rw [ex_ker] at hgk
  obtain ⟨Ak, ck, rfl, -⟩ := hgk.form
  have HGK6 := Lib.hid (hgk.more (S' := (· < w6.heap.size)) fun _ h => h.2)
  have HB6 := Lib.hid (HB5.out.trans (hb6.mono HB5.out.size))
  have HGV6 := Lib.hid (grid_on HGV5.out (fun _ h => h) hb6)
  clear hgk hb6 h6
  obtain ⟨wi, hwi⟩ : ∃ wi, ((w6.alloc (.cells #[.int .i64 1, .int .i64 2, .int .i64 0] 3)).alloc (.cells #[.int .i64 0, .int .i64 0, .int .i64 1] 3)).alloc (.cells #[.slice (some ⟨w6.heap.size, 0, none⟩) 3 3, .slice (some ⟨w6.heap.size + 1, 0, none⟩) 3 3] 22) = wi := ⟨_, rfl⟩
  have HWI := Lib.hid hwi
  have HBI := Lib.hid (show Below w6.heap.size w6 wi from by rw [← hwi]; exact ((((Below.refl w6.heap.size w6).alloc (Nat.le_refl _) _).alloc (by simp) _).alloc (by simp <;> omega) _))
  have HGI := Lib.hid (show Grid wi (· < wi.heap.size) (.slice (some ⟨w6.heap.size + 1 + 1, 0, none⟩) 2 2) 2 (fun _ => 3) (M3 1 2 0 0 0 1 0 0 0) from by
    rw [← hwi]
    exact list2_grid (row_new (by simp) _ _) (by simp <;> omega) (row3_vec _ ((row_new rfl _ _).alloc _ |>.alloc _) (by simp <;> omega) rfl rfl rfl) (row3_vec _ ((row_new (by simp) _ _).alloc _) (by simp <;> omega) rfl rfl rfl))
  clear hwi
  go_wp2_with fail
  rw [HWI.out]
  refine (is_any (.slice Av 2 cv) _ 2 (fun _ => 3) (basF 3 (elimR 5 3 (invI 5) (rowsL 3 exF 3))) (M3 1 2 0 0 0 1 0 0 0) wi _ _ (by omega) (fun _ _ => by omega) (grid_on HGV6.out (fun _ h => h) HBI.out) HGI.out).mono ?_
  rintro e w7 ⟨rfl, k7, hw7⟩
  rw [ex_basis]
  have HB7 := Lib.hid (show Below w.heap.size w w7 from by rw [hw7]; exact below_drewN' (HB6.out.trans (HBI.out.mono HB6.out.size)) k7)
  have HB67 := Lib.hid (show Below w6.heap.size w6 w7 from by rw [hw7]; exact below_drewN' HBI.out k7)
  clear hw7
  obtain ⟨wj, hwj⟩ : ∃ wj, (w7.alloc (.cells #[.int .i64 1, .int .i64 2, .int .i64 0] 3)).alloc (.cells #[.slice (some ⟨w7.heap.size, 0, none⟩) 3 3] 22) = wj := ⟨_, rfl⟩
  have HWJ := Lib.hid hwj
  have HBJ := Lib.hid (show Below w7.heap.size w7 wj from by rw [← hwj]; exact (((Below.refl w7.heap.size w7).alloc (Nat.le_refl _) _).alloc (by simp) _))
  have HGJ := Lib.hid (show Grid wj (· < wj.heap.size) (.slice (some ⟨w7.heap.size + 1, 0, none⟩) 1 1) 1 (fun _ => 3) (M3 1 2 0 0 0 0 0 0 0) from by
    rw [← hwj]
    exact list1_grid (row_new (by simp) _ _) (by simp <;> omega) (row3_vec _ ((row_new rfl _ _).alloc _) (by simp <;> omega) rfl rfl rfl))
  clear hwj
  go_wp2_with fail
  rw [HWJ.out]
  refine (is_any (.slice Ak 1 ck) _ 1 (fun _ => 3) _ (M3 1 2 0 0 0 0 0 0 0) wj _ _ (by omega) (fun _ _ => by omega) (grid_on HGK6.out (fun _ h => h) (HB67.out.trans (HBJ.out.mono HB67.out.size))) HGJ.out).mono ?_
  rintro e w8 ⟨rfl, k8, hw8⟩
  rw [ex_ker2]
  have HB8 := Lib.hid (show Below w.heap.size w w8 from by rw [hw8]; exact below_drewN' (HB7.out.trans (HBJ.out.mono HB7.out.size)) k8)
  clear hw8
  go_wp2
  go_ret
  exact ⟨rfl, HB8.out⟩
end Go.Proofs.YtinoomcboinokaaGreat
