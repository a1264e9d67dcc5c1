/- cayleylaw05: the examples. -/
import Derived.Test.YtinoomcboinokaaLOwn
namespace Go.Proofs.Ytinoomcboinokaa
open Go Go.RowKit Num

/-- Rows of three. -/
def M3 (a b c d e f g h i : Int) (r s : Nat) : Int := if r = 0 then (if s = 0 then a else if s = 1 then b else c) else if r = 1 then (if s = 0 then d else if s = 1 then e else f) else (if s = 0 then g else if s = 1 then h else i)
theorem mod5 : modB ((5 : Nat) : Int) = true := modB_check 3 (by decide +kernel) (by decide +kernel) (by decide +kernel) (by decide +kernel)
/-- The example's rows. -/
def exF : Nat → Nat → Int := M3 2 4 1 1 2 0 0 0 3
def exV (j : Nat) : Int := if j = 0 then 3 else if j = 1 then 1 else 4
/-- The example's matrix. -/
def exK (r s : Nat) : Int := if r = 0 then (if s = 0 then 1 else 2) else if r = 1 then (if s = 0 then 2 else 4) else (if s = 0 then 0 else 1)
theorem ex_len : (pivL 3 (elimR 5 3 (invI 5) (rowsL 3 exF 3))).length = 2 := by decide +kernel
theorem ex_basis : gridB 2 (fun _ => 3) (basF 3 (elimR 5 3 (invI 5) (rowsL 3 exF 3))) (M3 1 2 0 0 0 1 0 0 0) = true := by decide +kernel
theorem ex_in : inB 5 3 (elimR 5 3 (invI 5) (rowsL 3 exF 3)) exV = true := by decide +kernel
theorem ex_ker : (kerL 2 3 (elimR 5 (2 + 3) (invI 5) (rowsL (2 + 3) (markF 2 exK) 3))).length = 1 := by decide +kernel
theorem ex_ker2 : gridB 1 (fun _ => 3) (fun i x => rowAt (elimR 5 (2 + 3) (invI 5) (rowsL (2 + 3) (markF 2 exK) 3)) ((kerL 2 3 (elimR 5 (2 + 3) (invI 5) (rowsL (2 + 3) (markF 2 exK) 3))).getD i 0) (2 + x)) (M3 1 2 0 0 0 0 0 0 0) = true := by decide +kernel
theorem chkB_ok {p n : Int} {m : Nat} {l : Nat → Nat} (hp : modB p = true) (h0 : 1 ≤ n) (h1 : n ≤ 64) (hm : m ≤ 200) (hl : ∀ i, i < m → (l i : Int) = n) : chkB n p (chkL m l n) = 0 := by
  have h2 : chk1 n p = 0 := by
    unfold chk1
    rw [if_neg (by rw [hp]; decide), if_neg]
    unfold sizeB
    rw [decide_eq_true ⟨h0, h1⟩]; decide
  unfold chkB chkL
  rw [if_neg (by rw [h2]; decide), if_neg (by omega), if_neg]
  rintro ⟨i, hi, h⟩
  exact h (hl i hi)
theorem chkI_ok {p n : Int} {m k : Nat} {l : Nat → Nat} (hp : modB p = true) (h0 : 1 ≤ n) (h1 : n ≤ 64) (hm : m ≤ 200) (hl : ∀ i, i < m → (l i : Int) = n) (hk : (k : Int) = n) : chkI n p m l k = 0 := by
  unfold chkI
  rw [if_neg (by rw [chkB_ok hp h0 h1 hm hl]; decide), if_neg (by simp [hk])]
/-- A block of three ints is a row. -/
theorem row3_vec {w : World} {g : Nat} (S : Nat → Prop) {a b c : Int} {f : Nat → Int} (h : Row w g 3 #[.int .i64 a, .int .i64 b, .int .i64 c]) (hS : S g) (h0 : f 0 = a) (h1 : f 1 = b) (h2 : f 2 = c) : Vec w S (.slice (some ⟨g, 0, none⟩) 3 3) 3 f :=
  ⟨_, 3, rfl, Nat.le_refl _, fun _ => ⟨g, 0, rfl, hS, fun j hj => by
    rw [Nat.zero_add]
    obtain rfl | rfl | rfl : j = 0 ∨ j = 1 ∨ j = 2 := by omega
    · rw [h0]; exact h.cell rfl
    · rw [h1]; exact h.cell rfl
    · rw [h2]; exact h.cell rfl⟩⟩
theorem row2_vec {w : World} {g : Nat} (S : Nat → Prop) {a b : Int} {f : Nat → Int} (h : Row w g 3 #[.int .i64 a, .int .i64 b]) (hS : S g) (h0 : f 0 = a) (h1 : f 1 = b) : Vec w S (.slice (some ⟨g, 0, none⟩) 2 2) 2 f :=
  ⟨_, 2, rfl, Nat.le_refl _, fun _ => ⟨g, 0, rfl, hS, fun j hj => by
    rw [Nat.zero_add]
    obtain rfl | rfl : j = 0 ∨ j = 1 := by omega
    · rw [h0]; exact h.cell rfl
    · rw [h1]; exact h.cell rfl⟩⟩
/-- Lists of rows. -/
theorem list3_grid {w : World} {g n : Nat} {S : Nat → Prop} {a b c : Value} {F : Nat → Nat → Int} (h : Row w g 22 #[a, b, c]) (hS : S g) (h0 : Vec w S a n (F 0)) (h1 : Vec w S b n (F 1)) (h2 : Vec w S c n (F 2)) : Grid w S (.slice (some ⟨g, 0, none⟩) 3 3) 3 (fun _ => n) F :=
  ⟨_, 3, rfl, Nat.le_refl _, fun _ => ⟨g, 0, rfl, hS, fun j hj => by
    rw [Nat.zero_add]
    obtain rfl | rfl | rfl : j = 0 ∨ j = 1 ∨ j = 2 := by omega
    · exact ⟨a, h.cell rfl, h0⟩
    · exact ⟨b, h.cell rfl, h1⟩
    · exact ⟨c, h.cell rfl, h2⟩⟩⟩
theorem list2_grid {w : World} {g n : Nat} {S : Nat → Prop} {a b : Value} {F : Nat → Nat → Int} (h : Row w g 22 #[a, b]) (hS : S g) (h0 : Vec w S a n (F 0)) (h1 : Vec w S b n (F 1)) : Grid w S (.slice (some ⟨g, 0, none⟩) 2 2) 2 (fun _ => n) F :=
  ⟨_, 2, rfl, Nat.le_refl _, fun _ => ⟨g, 0, rfl, hS, fun j hj => by
    rw [Nat.zero_add]
    obtain rfl | rfl : j = 0 ∨ j = 1 := by omega
    · exact ⟨a, h.cell rfl, h0⟩
    · exact ⟨b, h.cell rfl, h1⟩⟩⟩
theorem list1_grid {w : World} {g n : Nat} {S : Nat → Prop} {a : Value} {F : Nat → Nat → Int} (h : Row w g 22 #[a]) (hS : S g) (h0 : Vec w S a n (F 0)) : Grid w S (.slice (some ⟨g, 0, none⟩) 1 1) 1 (fun _ => n) F :=
  ⟨_, 1, rfl, Nat.le_refl _, fun _ => ⟨g, 0, rfl, hS, fun j hj => by
    rw [Nat.zero_add]
    obtain rfl : j = 0 := by omega
    exact ⟨a, h.cell rfl, h0⟩⟩⟩
def GivesX (w : World) (m n : Nat) (F : Nat → Nat → Int) (e : Ending) (w' : World) : Prop := ∃ A c, e = .returned (.slice A m c) ∧ Grid w' (New w w') (.slice A m c) m (fun _ => n) F ∧ Below w.heap.size w w'
set_option maxRecDepth 100000 in
set_option maxHeartbeats 400000 in
theorem rows_any (w : World) : Calls Try.prog 18 #[] w (GivesX w 3 3 exF) := by
  have h1 := row_new (W := w) rfl 3 #[.int .i64 2, .int .i64 4, .int .i64 1]
  have h2 := row_new (W := w.alloc (.cells #[.int .i64 2, .int .i64 4, .int .i64 1] 3)) (g := w.heap.size + 1) (by simp) 3 #[.int .i64 1, .int .i64 2, .int .i64 0]
  have h3 := row_new (W := (w.alloc (.cells #[.int .i64 2, .int .i64 4, .int .i64 1] 3)).alloc (.cells #[.int .i64 1, .int .i64 2, .int .i64 0] 3)) (g := w.heap.size + 1 + 1) (by simp) 3 #[.int .i64 0, .int .i64 0, .int .i64 3]
  have h4 := row_new (W := ((w.alloc (.cells #[.int .i64 2, .int .i64 4, .int .i64 1] 3)).alloc (.cells #[.int .i64 1, .int .i64 2, .int .i64 0] 3)).alloc (.cells #[.int .i64 0, .int .i64 0, .int .i64 3] 3)) (g := w.heap.size + 1 + 1 + 1) (by simp) 22 #[.slice (some ⟨w.heap.size, 0, none⟩) 3 3, .slice (some ⟨w.heap.size + 1, 0, none⟩) 3 3, .slice (some ⟨w.heap.size + 1 + 1, 0, none⟩) 3 3]
  have hb := ((((Below.refl w.heap.size w).alloc (Nat.le_refl _) (.cells #[.int .i64 2, .int .i64 4, .int .i64 1] 3)).alloc (by simp) (.cells #[.int .i64 1, .int .i64 2, .int .i64 0] 3)).alloc (by simp <;> omega) (.cells #[.int .i64 0, .int .i64 0, .int .i64 3] 3)).alloc (by simp <;> omega) (.cells #[.slice (some ⟨w.heap.size, 0, none⟩) 3 3, .slice (some ⟨w.heap.size + 1, 0, none⟩) 3 3, .slice (some ⟨w.heap.size + 1 + 1, 0, none⟩) 3 3] 22)
  have HG := Lib.hid (list3_grid (S := New w ((((w.alloc (.cells #[.int .i64 2, .int .i64 4, .int .i64 1] 3)).alloc (.cells #[.int .i64 1, .int .i64 2, .int .i64 0] 3)).alloc (.cells #[.int .i64 0, .int .i64 0, .int .i64 3] 3)).alloc (.cells #[.slice (some ⟨w.heap.size, 0, none⟩) 3 3, .slice (some ⟨w.heap.size + 1, 0, none⟩) 3 3, .slice (some ⟨w.heap.size + 1 + 1, 0, none⟩) 3 3] 22))) (F := exF) (n := 3) h4 ⟨by omega, h4.lt⟩
    (row3_vec _ (((h1.alloc _).alloc _).alloc _) ⟨Nat.le_refl _, by simp <;> omega⟩ rfl rfl rfl) (row3_vec _ ((h2.alloc _).alloc _) ⟨by omega, by simp <;> omega⟩ rfl rfl rfl) (row3_vec _ (h3.alloc _) ⟨by omega, by simp⟩ rfl rfl rfl))
  have HB := Lib.hid hb
  clear h1 h2 h3 h4 hb
  go_enter Try.func18, Try.ntmps18
  go_wp2
  go_ret
  exact ⟨_, _, rfl, HG.out, HB.out⟩
set_option maxRecDepth 100000 in
set_option maxHeartbeats 400000 in
theorem is_any (v u : Value) (m : Nat) (n : Nat → Nat) (f g : Nat → Nat → Int) (w : World) (S S' : Nat → Prop) (hm : m ≤ 1000000) (hn : ∀ i, i < m → n i ≤ 1000000) (hv : Grid w S v m n f) (hu : Grid w S' u m n g) :
    Calls Try.prog 20 #[v, .int .i64 0, u] w fun e w' => e = .returned (.bool (gridB m n f g)) ∧ ∃ k, w' = w.drewN k := by
  have HL := Lib.hid (lists_same v u m n f g w S S' hm hn hv hu)
  obtain ⟨A, c, rfl, -⟩ := hv.form
  obtain ⟨B, d, rfl, -⟩ := hu.form
  clear hv hu
  generalize gridB m n f g = b at HL ⊢
  go_enter Try.func20, Try.ntmps20
  go_wp2_with fail
  refine HL.out.mono ?_
  rintro e w' ⟨rfl, k, rfl⟩
  go_wp2
  go_ret
  exact ⟨rfl, k, rfl⟩
set_option maxRecDepth 100000 in
set_option maxHeartbeats 400000 in
theorem five_any (A : Option Addr) (m c : Nat) (w : World) : Calls Try.prog 19 #[.slice A m c] w (Ret w (.agg #[.int .i64 5, .slice A m c])) := by
  obtain ⟨s1, s2, s3, s4, s5, s6⟩ := st_facts w (.int .i64 5)
  have hr := row_new (W := w) rfl 32 #[.int .i64 5, .slice A m c]
  have hb := (Below.refl w.heap.size w).alloc (Nat.le_refl _) (.cells #[.int .i64 5, .slice A m c] 32)
  have hc0 := hr.cell (i := 0) rfl
  have hc1 := hr.cell (i := 1) rfl
  have HB := Lib.hid hb
  clear hr hb
  go_enter Try.func19, Try.ntmps19
  go_wp2
  refine bodyPost_ret (v := .agg #[.int .i64 5, .slice A m c]) ?_ rfl ⟨rfl, HB.out⟩
  simp [results, Try.results19, go_sem, hc0, hc1]
end Go.Proofs.Ytinoomcboinokaa
