/- word.Cmp and word.Check in general; the reference's size, before, Cmp, Check (seat ZD alone). -/
import Derived.Test.YtlpepholcehojaaDoorWCheck
namespace Go.Proofs.YtlpepholcehojaaDoor
open Go Go.RowKit

def cl (x y : Int) : Int := if x.natAbs = y.natAbs then sgn y x else sgn x.natAbs y.natAbs
def cmpF : List Int → List Int → Int
  | x :: a, y :: b => if cl x y = 0 then cmpF a b else cl x y
  | _, _ => 0
def cmpW (zs ys : List Int) : Int := if zs.length = ys.length then cmpF zs ys else sgn zs.length ys.length
theorem cmpF_at : ∀ (k : Nat) (zs ys : List Int), (∀ j, j < k → cl (zs.getD j 0) (ys.getD j 0) = 0) → k < zs.length → k < ys.length → ¬ cl (zs.getD k 0) (ys.getD k 0) = 0 → cmpF zs ys = cl (zs.getD k 0) (ys.getD k 0) := by
  intro k
  induction k with
  | zero =>
    intro zs ys _ h1 h2 h3
    cases zs with
    | nil => simp at h1
    | cons x a =>
      cases ys with
      | nil => simp at h2
      | cons y b =>
        have : ¬ cl x y = 0 := h3
        simp [cmpF, this]
  | succ k ih =>
    intro zs ys h h1 h2 h3
    cases zs with
    | nil => simp at h1
    | cons x a =>
      cases ys with
      | nil => simp at h2
      | cons y b =>
        have h0 : cl x y = 0 := h 0 (by omega)
        have := ih a b (fun j hj => by have := h (j + 1) (by omega); simpa using this) (by simpa using h1) (by simpa using h2) (by simpa using h3)
        simp only [cmpF, h0, if_true]
        simpa using this
theorem cmpF_all : ∀ (zs ys : List Int), (∀ j, j < zs.length → cl (zs.getD j 0) (ys.getD j 0) = 0) → cmpF zs ys = 0 := by
  intro zs
  induction zs with
  | nil => intro ys _; simp [cmpF]
  | cons x a ih =>
    intro ys h
    cases ys with
    | nil => simp [cmpF]
    | cons y b =>
      have h0 : cl x y = 0 := by simpa using h 0 (by simp)
      simp only [cmpF, h0, if_true]
      exact ih b (fun j hj => by have := h (j + 1) (by simp; omega); simpa using this)
theorem sgn_cases (x y : Int) : (x < y ∧ sgn x y = -1) ∨ (x = y ∧ sgn x y = 0) ∨ (y < x ∧ sgn x y = 1) := by
  unfold sgn
  by_cases h : x < y
  · rw [if_pos h]; exact .inl ⟨h, rfl⟩
  · rw [if_neg h]
    by_cases h' : y < x
    · rw [if_pos h']; exact .inr (.inr ⟨h', rfl⟩)
    · rw [if_neg h']; exact .inr (.inl ⟨by omega, rfl⟩)
def befB (x y : Int) : Bool := decide (x.natAbs < y.natAbs ∨ (x.natAbs = y.natAbs ∧ y < x))
theorem befB_l {x y : Int} : befB x y = true ↔ cl x y = -1 := by
  unfold befB cl
  rw [decide_eq_true_iff]
  by_cases h : x.natAbs = y.natAbs
  · rw [if_pos h]
    rcases sgn_cases y x with ⟨h1, h2⟩ | ⟨h1, h2⟩ | ⟨h1, h2⟩ <;> rw [h2] <;> constructor <;> intro h3 <;> first | omega | rfl | (exact absurd h3 (by decide))
  · rw [if_neg h]
    rcases sgn_cases (x.natAbs : Int) (y.natAbs : Int) with ⟨h1, h2⟩ | ⟨h1, h2⟩ | ⟨h1, h2⟩ <;> rw [h2] <;> constructor <;> intro h3 <;> first | omega | rfl | (exact absurd h3 (by decide))
theorem befB_r {x y : Int} : befB y x = true ↔ cl x y = 1 := by
  unfold befB cl
  rw [decide_eq_true_iff]
  by_cases h : x.natAbs = y.natAbs
  · rw [if_pos h]
    rcases sgn_cases y x with ⟨h1, h2⟩ | ⟨h1, h2⟩ | ⟨h1, h2⟩ <;> rw [h2] <;> constructor <;> intro h3 <;> first | omega | rfl | (exact absurd h3 (by decide))
  · rw [if_neg h]
    rcases sgn_cases (x.natAbs : Int) (y.natAbs : Int) with ⟨h1, h2⟩ | ⟨h1, h2⟩ | ⟨h1, h2⟩ <;> rw [h2] <;> constructor <;> intro h3 <;> first | omega | rfl | (exact absurd h3 (by decide))
theorem cl_cases (x y : Int) : cl x y = -1 ∨ cl x y = 0 ∨ cl x y = 1 := by
  unfold cl
  by_cases h : x.natAbs = y.natAbs
  · rw [if_pos h]
    rcases sgn_cases y x with ⟨h1, h2⟩ | ⟨h1, h2⟩ | ⟨h1, h2⟩ <;> rw [h2] <;> simp
  · rw [if_neg h]
    rcases sgn_cases (x.natAbs : Int) (y.natAbs : Int) with ⟨h1, h2⟩ | ⟨h1, h2⟩ | ⟨h1, h2⟩ <;> rw [h2] <;> simp

/-- The letters of a word are generators or their inverses. -/
def okW (g : Nat) (zs : List Int) : Bool := zs.all fun x => decide (x ≠ 0 ∧ x.natAbs ≤ g)
theorem okW_bad {g : Nat} {zs : List Int} {k : Nat} (hk : k < zs.length) (h : zs.getD k 0 = 0 ∨ g < (zs.getD k 0).natAbs) : okW g zs = false := by
  have e : zs.getD k 0 = zs[k] := by simp [List.getD_eq_getElem?_getD, hk]
  rw [e] at h
  cases hh : okW g zs with
  | false => rfl
  | true =>
    have := List.all_eq_true.1 hh zs[k] (List.getElem_mem hk)
    rw [decide_eq_true_iff] at this
    omega
theorem okW_all {g : Nat} {zs : List Int} (h : ∀ j, j < zs.length → ¬ (zs.getD j 0 = 0 ∨ g < (zs.getD j 0).natAbs)) : okW g zs = true := by
  refine List.all_eq_true.2 fun x hx => ?_
  obtain ⟨j, hj, rfl⟩ := List.getElem_of_mem hx
  have := h j hj
  have e : zs.getD j 0 = zs[j] := by simp [List.getD_eq_getElem?_getD, hj]
  rw [e] at this
  rw [decide_eq_true_iff]
  omega
def chkW (g : Int) (zs : List Int) : Int := if g < 1 ∨ 16 < g then 2 else if 4000 < zs.length then 4 else if okW g.toNat zs then 0 else 2

set_option maxRecDepth 100000 in
theorem compareUint_any (x y : Int) (w : World) : Calls Tryd.prog 46 #[.int .u64 x, .int .u64 y] w fun e w' => e = .returned (.int .i64 (sgn x y)) ∧ w = w' := by
  have HN : ∀ (z : Int) (W : World), Hid (Calls Tryd.prog 57 #[.int .u64 z] W fun e w' => e = .returned (.bool false) ∧ W = w') := fun z W => by
    show Calls _ _ _ _ _
    have hzz : (z != z) = false := by simp
    go_enter Tryd.func57, Tryd.ntmps57
    go_wp2_with fail
    go_ret
    exact ⟨rfl, rfl⟩
  rcases sgn_cases x y with ⟨h, hs⟩ | ⟨h, hs⟩ | ⟨h, hs⟩
  all_goals
    rw [hs]
    clear hs
    have h1 : ¬ x < y ∨ x < y := by omega
    have h2 : ¬ y < x ∨ y < x := by omega
    try (have h3 : ¬ x < y := by omega)
    try (have h4 : ¬ y < x := by omega)
    clear h1 h2
    go_enter Tryd.func46, Tryd.ntmps46
    go_wp2_with fail
    refine ((HN _ _).out).mono ?_
    rintro e w1 ⟨rfl, rfl⟩
    go_wp2_with fail
    refine ((HN _ _).out).mono ?_
    rintro e w1 ⟨rfl, rfl⟩
    go_wp2_with fail
    go_ret
    exact ⟨rfl, rfl⟩

set_option maxRecDepth 100000 in
theorem cmpLetters_any (x y : Int) (w : World) (hx : -9223372036854775808 ≤ x ∧ x ≤ 9223372036854775807) (hy : -9223372036854775808 ≤ y ∧ y ≤ 9223372036854775807) : Calls Tryd.prog 34 #[.int .i64 x, .int .i64 y] w fun e w' => e = .returned (.int .i64 (cl x y)) ∧ w = w' := by
  have HX := fun W => Lib.hid (size_any x W hx)
  have HY := fun W => Lib.hid (size_any y W hy)
  by_cases h : x.natAbs = y.natAbs
  · have hr : cl x y = sgn y x := if_pos h
    have HC := fun W => Lib.hid (compareInt_any y x W)
    rw [hr]
    rw [h] at HX
    clear h hr hx hy
    generalize (y.natAbs : Int) = m at HX HY
    generalize sgn y x = r at HC
    have hb : (m != m) = false := by simp
    go_enter Tryd.func34, Tryd.ntmps34
    go_wp2_with fail
    refine ((HX _).out).mono ?_
    rintro e w1 ⟨rfl, rfl⟩
    go_wp2_with fail
    refine ((HY _).out).mono ?_
    rintro e w1 ⟨rfl, rfl⟩
    go_wp2_with fail
    refine ((HC _).out).mono ?_
    rintro e w1 ⟨rfl, rfl⟩
    go_wp2_with fail
    go_ret
    exact ⟨rfl, rfl⟩
  · have hr : cl x y = sgn x.natAbs y.natAbs := if_neg h
    have HC := fun W => Lib.hid (compareUint_any x.natAbs y.natAbs W)
    have hb : ((x.natAbs : Int) != (y.natAbs : Int)) = true := by rw [bne_iff_ne]; omega
    rw [hr]
    clear h hr hx hy
    generalize sgn x.natAbs y.natAbs = r at HC
    generalize (y.natAbs : Int) = m at HY HC hb
    generalize (x.natAbs : Int) = m' at HX HC hb
    go_enter Tryd.func34, Tryd.ntmps34
    go_wp2_with fail
    refine ((HX _).out).mono ?_
    rintro e w1 ⟨rfl, rfl⟩
    go_wp2_with fail
    refine ((HY _).out).mono ?_
    rintro e w1 ⟨rfl, rfl⟩
    go_wp2_with fail
    refine ((HX _).out).mono ?_
    rintro e w1 ⟨rfl, rfl⟩
    go_wp2_with fail
    refine ((HY _).out).mono ?_
    rintro e w1 ⟨rfl, rfl⟩
    go_wp2_with fail
    refine ((HC _).out).mono ?_
    rintro e w1 ⟨rfl, rfl⟩
    go_wp2_with fail
    go_ret
    exact ⟨rfl, rfl⟩

set_option maxRecDepth 100000 in
set_option maxHeartbeats 400000 in
theorem compareFunc_any (v u : Value) (zs ys : List Int) (w : World) (hl : zs.length ≤ 1000000000) (hn : zs.length = ys.length) (hr : Rng zs) (hr' : Rng ys) (hv : Ints w w.heap.size v zs) (hu : Ints w w.heap.size u ys) :
    Calls Tryd.prog 33 #[v, u, .func (.func 34) #[] #[]] w fun e w' => e = .returned (.int .i64 (cmpF zs ys)) ∧ w = w' := by
  obtain ⟨A, c, rfl, h⟩ := hv
  obtain ⟨A', c', rfl, h'⟩ := hu
  have hat : ∀ j, j < zs.length → ∃ b o b' o', A = some ⟨b, o, none⟩ ∧ A' = some ⟨b', o', none⟩ ∧ w.cell? ⟨b, o + j, none⟩ = some (.int .i64 (zs.getD j 0)) ∧ w.cell? ⟨b', o' + j, none⟩ = some (.int .i64 (ys.getD j 0)) := fun j hj => by
    obtain ⟨b, o, e, _, hc⟩ := h (by omega)
    obtain ⟨b', o', e', _, hc'⟩ := h' (by omega)
    exact ⟨b, o, b', o', e, e', hc j hj, hc' j (by omega)⟩
  have HA := Lib.hid hat
  have HR := Lib.hid hr
  have HR' := Lib.hid hr'
  have HF := fun k => Lib.hid (cmpF_at k zs ys)
  have HG := Lib.hid (cmpF_all zs ys)
  have HN := Lib.hid hn
  rw [← hn]
  clear h h' hat hr hr' hn
  go_enter Tryd.func33, Tryd.ntmps33
  go_wp2
  go_loopw [13] (fun i wr => ∃ k : Nat, i = .int .i64 k ∧ k ≤ zs.length ∧ Hid (∀ j, j < k → cl (zs.getD j 0) (ys.getD j 0) = 0) ∧ w = wr) (fun i _ => zs.length - (intOf i).toNat)
  case atStart => exact ⟨0, rfl, Nat.zero_le _, (fun j hj => absurd hj (by omega)), rfl⟩
  case round =>
    obtain ⟨k, rfl, hk, HE, rfl⟩ := hrel
    by_cases hlt : k < zs.length
    · obtain ⟨b, o, b', o', rfl, rfl, hc, hc'⟩ := HA.out k hlt
      have hky : k < ys.length := by have := HN.out; omega
      have HC := fun W => Lib.hid (cmpLetters_any (zs.getD k 0) (ys.getD k 0) W (HR.out.at hlt) (HR'.out.at hky))
      have hge : ¬ (zs.length : Int) ≤ (k : Int) := by omega
      have HX := Lib.hid (HF k)
      by_cases hz : cl (zs.getD k 0) (ys.getD k 0) = 0
      · have HE2 : Hid (∀ j, j < k + 1 → cl (zs.getD j 0) (ys.getD j 0) = 0) := fun j hj => by
          by_cases e : j = k
          · subst e; exact hz
          · exact HE j (by omega)
        rw [hz] at HC
        clear hz HX HF HE
        generalize zs.getD k 0 = x at hc HC
        generalize ys.getD k 0 = y at hc' HC
        go_wp2_with fail
        refine ((HC _).out).mono ?_
        rintro e w1 ⟨rfl, rfl⟩
        go_wp2_with fail
        go_roundw
        case rel => exact ⟨k + 1, by go_num, by omega, HE2, by trivial⟩
        case measure => simp [intOf]; omega
      · have HY := Lib.hid (HX.out.out HE hlt hky hz)
        have hb : (cl (zs.getD k 0) (ys.getD k 0) != 0) = true := by simpa using hz
        clear hz HX HF HE
        generalize zs.getD k 0 = x at hc HC HY hb
        generalize ys.getD k 0 = y at hc' HC HY hb
        generalize cl x y = r at HC HY hb
        go_wp2_with fail
        refine ((HC _).out).mono ?_
        rintro e w1 ⟨rfl, rfl⟩
        go_wp2_with fail
        go_ret
        exact ⟨by rw [HY.out]; rfl, rfl⟩
    · have HY := Lib.hid (HG.out (fun j hj => HE j (by omega)))
      clear HG HF HE
      go_wp2_with fail
      go_ret
      exact ⟨by rw [HY.out]; rfl, rfl⟩

set_option maxRecDepth 100000 in
theorem Cmp_any (v u : Value) (zs ys : List Int) (w : World) (hl : zs.length ≤ 1000000) (_hl' : ys.length ≤ 1000000) (hr : Rng zs) (hr' : Rng ys) (hv : Ints w w.heap.size v zs) (hu : Ints w w.heap.size u ys) :
    Calls Tryd.prog 18 #[v, u] w fun e w' => e = .returned (.int .i64 (cmpW zs ys)) ∧ w = w' := by
  by_cases hn : zs.length = ys.length
  · have HC := Lib.hid (compareFunc_any v u zs ys w (by omega) hn hr hr' hv hu)
    rw [show cmpW zs ys = cmpF zs ys from if_pos hn]
    obtain ⟨A, c, rfl, h⟩ := hv
    obtain ⟨A', c', rfl, h'⟩ := hu
    clear h h' hr hr'
    rw [← hn] at HC ⊢
    have hb : ((zs.length : Int) != (zs.length : Int)) = false := by simp
    clear hn
    generalize cmpF zs ys = r at HC
    go_enter Tryd.func18, Tryd.ntmps18
    go_wp2_with fail
    refine (HC.out).mono ?_
    rintro e w1 ⟨rfl, rfl⟩
    go_wp2_with fail
    go_ret
    exact ⟨rfl, rfl⟩
  · rw [show cmpW zs ys = sgn zs.length ys.length from if_neg hn]
    exact Cmp_len v u zs ys w hn hv hu
end Go.Proofs.YtlpepholcehojaaDoor
