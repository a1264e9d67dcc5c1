/- matrix.Check and its parts; checkSquare, checkPair. -/
import Derived.Test.YtinoomcboinokaaGreatMMul
namespace Go.Proofs.YtinoomcboinokaaGreat
open Go Go.RowKit Num

/-- A modulus of matrices. -/
noncomputable def modB (p : Int) : Bool := decide (p < 10000) && isP p
theorem modB_true {p : Int} (h : modB p = true) : 2 ≤ p ∧ p < 10000 ∧ P6 p.toNat := by
  unfold modB at h
  rw [Bool.and_eq_true] at h
  have h1 := of_decide_eq_true h.1
  have h2 := isP_true.1 h.2
  exact ⟨h2.1, h1, h2.2.2, by omega⟩
set_option maxRecDepth 100000 in
set_option maxHeartbeats 400000 in
theorem isModulus_any (p : Int) (w : World) : Calls Tryz.prog 52 #[.int .i64 p] w fun e w' => e = .returned (.bool (modB p)) ∧ w' = w := by
  by_cases h : p < 10000
  · have hd : decide (p < 10000) = true := decide_eq_true h
    have HC := Lib.hid (Is_any p w)
    have he : modB p = isP p := by unfold modB; rw [hd]; rfl
    rw [he]
    generalize isP p = b at HC
    go_enter Tryz.func52, Tryz.ntmps52
    go_wp2_with fail
    refine HC.out.mono ?_
    rintro e w' ⟨rfl, rfl⟩
    go_wp2
    go_ret
    exact ⟨rfl, rfl⟩
  · have hd : decide (p < 10000) = false := decide_eq_false h
    have he : modB p = false := by unfold modB; rw [hd]; rfl
    rw [he]
    go_enter Tryz.func52, Tryz.ntmps52
    go_wp2
    go_ret
    exact ⟨rfl, rfl⟩
def sizeB (n : Int) : Bool := decide (1 ≤ n ∧ n ≤ 64)
set_option maxRecDepth 100000 in
set_option maxHeartbeats 400000 in
theorem isSize_any (n : Int) (w : World) : Calls Tryz.prog 53 #[.int .i64 n] w fun e w' => e = .returned (.bool (sizeB n)) ∧ w' = w := by
  by_cases h : n ≥ 1
  · have hd : decide (n ≥ 1) = true := decide_eq_true h
    have he : sizeB n = decide (n ≤ 64) := by unfold sizeB; simp [h]
    rw [he]
    go_enter Tryz.func53, Tryz.ntmps53
    go_wp2
    go_ret
    exact ⟨rfl, rfl⟩
  · have hd : decide (n ≥ 1) = false := decide_eq_false h
    have he : sizeB n = false := by unfold sizeB; exact decide_eq_false (by omega)
    rw [he]
    go_enter Tryz.func53, Tryz.ntmps53
    go_wp2
    go_ret
    exact ⟨rfl, rfl⟩

/-- Out of range. -/
def outB (p x : Int) : Bool := decide (x < 0) || decide (p ≤ x)
theorem outB_false {p x : Int} : outB p x = false ↔ 0 ≤ x ∧ x < p := by
  unfold outB; rw [Bool.or_eq_false_iff, decide_eq_false_iff_not, decide_eq_false_iff_not]; omega
set_option maxRecDepth 100000 in
set_option maxHeartbeats 400000 in
theorem outside_any (x p : Int) (v : Value) (B : Nat) (w : World) (hb : Row w B 31 #[.int .i64 p, v]) : Calls Tryz.prog 74 #[.int .i64 x, .pointer (some ⟨B, 0, none⟩)] w fun e w' => e = .returned (.bool (outB p x)) ∧ w' = w := by
  have hp : w.cell? ⟨B, 0, none⟩ = some (.int .i64 p) := hb.cell rfl
  by_cases h : x < 0
  · have hd : decide (x < 0) = true := decide_eq_true h
    have he : outB p x = true := by unfold outB; rw [hd]; rfl
    rw [he]
    go_enter Tryz.func74, Tryz.ntmps74
    go_wp2
    go_ret
    exact ⟨rfl, rfl⟩
  · have hd : decide (x < 0) = false := decide_eq_false h
    have he : outB p x = decide (x ≥ p) := by unfold outB; rw [hd]; rfl
    rw [he]
    generalize hq : decide (x ≥ p) = q
    go_enter Tryz.func74, Tryz.ntmps74
    go_wp2
    go_ret
    exact ⟨rfl, rfl⟩

/-- The least index with a property, or -1. -/
def FirstIs (P : Nat → Bool) (n : Nat) (r : Int) : Prop := (∃ j : Nat, r = j ∧ j < n ∧ P j = true ∧ ∀ i, i < j → P i = false) ∨ (r = -1 ∧ ∀ i, i < n → P i = false)
def IndexRet (P : Nat → Bool) (n : Nat) (w : World) (e : Ending) (w' : World) : Prop := ∃ r, FirstIs P n r ∧ e = .returned (.int .i64 r) ∧ w' = w
set_option maxRecDepth 100000 in
set_option maxHeartbeats 400000 in
theorem indexOut_any (v u : Value) (n : Nat) (f : Nat → Int) (p : Int) (B : Nat) (w : World) (hn : n ≤ 1000000) (hv : Vec w (· < w.heap.size) v n f) (hb : Row w B 31 #[.int .i64 p, u]) :
    Calls Tryz.prog 83 #[v, .func (.func 74) #[] #[.pointer (some ⟨B, 0, none⟩)]] w (IndexRet (fun j => outB p (f j)) n w) := by
  have HP := fun x => Lib.hid (outside_any x p u B w hb)
  obtain ⟨A, c, rfl, hnc, hv⟩ := hv
  have HV := Lib.hid hv
  clear hv hb
  go_enter Tryz.func83, Tryz.ntmps83
  go_wp2
  go_loop [8] (fun i => ∃ j : Nat, i = .int .i64 j ∧ j ≤ n ∧ Hid (∀ i, i < j → outB p (f i) = false)) (fun i => n - (intOf i).toNat)
  case atStart => exact ⟨0, rfl, Nat.zero_le _, Lib.hid fun i h => absurd h (by omega)⟩
  case round =>
    obtain ⟨j, rfl, hj, HA⟩ := hrel
    by_cases hlt : j < n
    · obtain ⟨b, o, rfl, hb1, hcv⟩ := HV.out (by omega)
      have hx := hcv j hlt
      have hC1 := HP (f j)
      cases hob : outB p (f j) with
      | true =>
        have HE := Lib.hid (show FirstIs (fun j => outB p (f j)) n j from .inl ⟨j, rfl, hlt, hob, HA.out⟩)
        rw [hob] at hC1
        generalize f j = x at hx hC1
        clear hob hcv
        go_wp2_with fail
        refine hC1.out.mono ?_
        rintro e w' ⟨rfl, rfl⟩
        go_wp2
        go_ret
        exact ⟨_, HE.out, rfl, rfl⟩
      | false =>
        have HE := Lib.hid (show ∀ i, i < j + 1 → outB p (f i) = false from fun i hi => by
          by_cases e : i = j
          · subst e; exact hob
          · exact HA.out i (by omega))
        rw [hob] at hC1
        generalize f j = x at hx hC1
        clear hob hcv
        go_wp2_with fail
        refine hC1.out.mono ?_
        rintro e w' ⟨rfl, rfl⟩
        go_wp2
        go_round
        case rel => exact ⟨j + 1, by go_num, by omega, HE⟩
        case measure => simp [intOf]; omega
    · have HE := Lib.hid (show FirstIs (fun j => outB p (f j)) n (-1) from .inr ⟨rfl, fun i hi => HA.out i (by omega)⟩)
      go_wp2
      go_ret
      exact ⟨_, HE.out, rfl, rfl⟩
/-- No entry is out of range. -/
def okRow (p : Int) (n : Nat) (f : Nat → Int) : Prop := ∀ j, j < n → 0 ≤ f j ∧ f j < p
theorem first_neg {P : Nat → Bool} {n : Nat} {r : Int} (h : FirstIs P n r) : (r ≥ 0) ↔ ¬ ∀ i, i < n → P i = false := by
  rcases h with ⟨j, rfl, hj, hP, _⟩ | ⟨rfl, h⟩
  · refine ⟨fun _ h => ?_, fun _ => by omega⟩
    rw [h j hj] at hP; cases hP
  · exact ⟨fun h => by omega, fun k => absurd h k⟩
set_option maxRecDepth 100000 in
set_option maxHeartbeats 400000 in
theorem contains_ok (v u : Value) (n : Nat) (f : Nat → Int) (p : Int) (B : Nat) (w : World) (hn : n ≤ 1000000) (hv : Vec w (· < w.heap.size) v n f) (hb : Row w B 31 #[.int .i64 p, u]) (ok : Bool) (hok : ok = true ↔ okRow p n f) :
    Calls Tryz.prog 65 #[v, .func (.func 74) #[] #[.pointer (some ⟨B, 0, none⟩)]] w fun e w' => e = .returned (.bool (!ok)) ∧ w' = w := by
  have HC := Lib.hid (indexOut_any v u n f p B w hn hv hb)
  obtain ⟨A, c, rfl, hnc⟩ := hv.form
  clear hv hb
  generalize hq : (!ok) = q
  go_enter Tryz.func65, Tryz.ntmps65
  go_wp2_with fail
  refine HC.out.mono ?_
  rintro e w' ⟨r, hr, rfl, rfl⟩
  have h1 := first_neg hr
  have hd : decide (r ≥ 0) = q := by
    rw [← hq]
    cases ok with
    | true =>
      have := hok.1 rfl
      exact decide_eq_false (fun h => h1.1 h fun i hi => outB_false.2 (this i hi))
    | false =>
      refine decide_eq_true (h1.2 fun h => ?_)
      have := hok.2 fun j hj => outB_false.1 (h j hj)
      cases this
  clear h1 hr hok hq
  go_wp2
  go_ret
  exact ⟨rfl, rfl⟩

open Classical in
/-- The error of a matrix, as the document says it. -/
noncomputable def chkM (p : Int) (m : Nat) (n : Nat → Nat) (f : Nat → Nat → Int) : Int :=
  if modB p = false then 3 else if m < 1 ∨ 64 < m ∨ n 0 < 1 ∨ 64 < n 0 then 2 else if ∀ i, i < m → n i = n 0 ∧ okRow p (n i) (f i) then 0 else 3
theorem chkM_mod {p : Int} {m : Nat} {n : Nat → Nat} {f : Nat → Nat → Int} (h : modB p = false) : chkM p m n f = 3 := by unfold chkM; rw [if_pos h]
theorem chkM_size {p : Int} {m : Nat} {n : Nat → Nat} {f : Nat → Nat → Int} (h : modB p = true) (h2 : m < 1 ∨ 64 < m ∨ n 0 < 1 ∨ 64 < n 0) : chkM p m n f = 2 := by unfold chkM; rw [if_neg (by rw [h]; simp), if_pos h2]
theorem chkM_ok {p : Int} {m : Nat} {n : Nat → Nat} {f : Nat → Nat → Int} (h : modB p = true) (h2 : ¬ (m < 1 ∨ 64 < m ∨ n 0 < 1 ∨ 64 < n 0)) (h3 : ∀ i, i < m → n i = n 0 ∧ okRow p (n i) (f i)) : chkM p m n f = 0 := by unfold chkM; rw [if_neg (by rw [h]; simp), if_neg h2, if_pos h3]
theorem chkM_bad {p : Int} {m : Nat} {n : Nat → Nat} {f : Nat → Nat → Int} (h : modB p = true) (h2 : ¬ (m < 1 ∨ 64 < m ∨ n 0 < 1 ∨ 64 < n 0)) {i : Nat} (hi : i < m) (h3 : ¬ (n i = n 0 ∧ okRow p (n i) (f i))) : chkM p m n f = 3 := by unfold chkM; rw [if_neg (by rw [h]; simp), if_neg h2, if_neg fun h => h3 (h i hi)]
theorem chkM_zero {p : Int} {m : Nat} {n : Nat → Nat} {f : Nat → Nat → Int} (h : chkM p m n f = 0) : modB p = true ∧ 1 ≤ m ∧ m ≤ 64 ∧ 1 ≤ n 0 ∧ n 0 ≤ 64 ∧ ∀ i, i < m → n i = n 0 ∧ okRow p (n i) (f i) := by
  cases h1 : modB p with
  | false => rw [chkM_mod h1] at h; omega
  | true =>
    by_cases h2 : m < 1 ∨ 64 < m ∨ n 0 < 1 ∨ 64 < n 0
    · rw [chkM_size h1 h2] at h; omega
    · by_cases h3 : ∀ i, i < m → n i = n 0 ∧ okRow p (n i) (f i)
      · exact ⟨rfl, by omega, by omega, by omega, by omega, h3⟩
      · unfold chkM at h
        rw [if_neg (by rw [h1]; simp), if_neg h2, if_neg h3] at h
        omega

set_option maxRecDepth 100000 in
set_option maxHeartbeats 1000000 in
theorem Check_any (rows : Value) (m : Nat) (n : Nat → Nat) (f : Nat → Nat → Int) (p : Int) (w : World) (hm : m ≤ 1000000) (hn : ∀ i, i < m → n i ≤ 1000000) (hg : Grid w (· < w.heap.size) rows m n f) :
    Calls Tryz.prog 44 #[.agg #[.int .i64 p, rows]] w (Ret w (.int .i64 (chkM p m n f))) := by
  have HM := fun W => Lib.hid (isModulus_any p W)
  cases hmod : modB p with
  | false =>
    rw [chkM_mod hmod]
    rw [hmod] at HM
    obtain ⟨A, c, rfl, hnc⟩ := hg.form
    have HB := Lib.hid (show Below w.heap.size w (w.alloc (.cells #[.int .i64 p, .slice A m c] 31)) from (Below.refl _ _).alloc (Nat.le_refl _) _)
    clear hg
    go_enter Tryz.func44, Tryz.ntmps44
    go_wp2_with fail
    refine (HM _).out.mono ?_
    rintro e w' ⟨rfl, rfl⟩
    go_wp2
    go_ret
    exact ⟨rfl, HB.out⟩
  | true =>
    rw [hmod] at HM
    have HS := fun k W => Lib.hid (isSize_any k W)
    by_cases hm64 : 1 ≤ m ∧ m ≤ 64
    · have hs1 : sizeB (m : Int) = true := decide_eq_true (by omega)
      obtain ⟨bg, og, cg, RA, RC, rfl, hcg, hbg, hgc⟩ := hg.at_ (by omega)
      have hr0 := (hgc 0 (by omega)).1
      rw [Nat.add_zero] at hr0
      have HS1 := fun W => HS (m : Int) W
      have HS2 := fun W => HS (n 0 : Int) W
      rw [hs1] at HS1
      have HB := Lib.hid (show Below w.heap.size w (w.alloc (.cells #[.int .i64 p, .slice (some ⟨bg, og, none⟩) m cg] 31)) from (Below.refl _ _).alloc (Nat.le_refl _) _)
      by_cases hn64 : 1 ≤ n 0 ∧ n 0 ≤ 64
      · have hs2 : sizeB (n 0 : Int) = true := decide_eq_true (by omega)
        rw [hs2] at HS2
        have hno : ¬ (m < 1 ∨ 64 < m ∨ n 0 < 1 ∨ 64 < n 0) := by omega
        have HGC := Lib.hid hgc
        have HNN := Lib.hid hn
        have HBX := Lib.hid (row_new (W := w) rfl 31 #[.int .i64 p, .slice (some ⟨bg, og, none⟩) m cg])
        have HOK := Lib.hid (fun h => chkM_ok (f := f) hmod hno h)
        have HBAD := Lib.hid (fun i (hi : i < m) h => chkM_bad (f := f) hmod hno (i := i) hi h)
        have HNO := Lib.hid hno
        have hne0 : ¬ m = 0 := by omega
        generalize hch : chkM p m n f = ch at HOK HBAD
        obtain ⟨n0, hn0⟩ : ∃ n0, n 0 = n0 := ⟨_, rfl⟩
        have HN0 := Lib.hid hn0
        rw [hn0] at hr0 HS2 hn64 HOK HBAD
        clear hg hgc hn hno hch hn0 hs1 hs2 hmod HS
        go_enter Tryz.func44, Tryz.ntmps44
        go_wp2_with fail
        refine (HM _).out.mono ?_
        rintro e w' ⟨rfl, rfl⟩
        go_wp2_with fail
        refine (HS1 _).out.mono ?_
        rintro e w' ⟨rfl, rfl⟩
        go_wp2_with fail
        refine (HS2 _).out.mono ?_
        rintro e w' ⟨rfl, rfl⟩
        go_wp2_with fail
        generalize w.alloc (.cells #[.int .i64 p, .slice (some ⟨bg, og, none⟩) m cg] 31) = w1 at HB HBX
        have hw0 : w1.cell? ⟨w.heap.size, 0, none⟩ = some (.int .i64 p) := HBX.out.cell rfl
        have hw1 : w1.cell? ⟨w.heap.size, 1, none⟩ = some (.slice (some ⟨bg, og, none⟩) m cg) := HBX.out.cell rfl
        have hr1 : w1.cell? ⟨bg, og, none⟩ = some (.slice (RA 0) n0 (RC 0)) := (HB.out.cell (p := ⟨bg, og, none⟩) hbg).trans hr0
        have hcell := fun i (hi : i < m) => (show w1.cell? ⟨bg, og + i, none⟩ = some (.slice (RA i) (n i) (RC i)) ∧ Vec w1 (· < w1.heap.size) (.slice (RA i) (n i) (RC i)) (n i) (f i) from
          ⟨(HB.out.cell (p := ⟨bg, og + i, none⟩) hbg).trans (HGC.out i hi).1, (HGC.out i hi).2.on HB.out⟩)
        have HCE := Lib.hid hcell
        clear hcell hr0
        go_loop [30] (fun i => ∃ j : Nat, i = .int .i64 j ∧ j ≤ m ∧ Hid (∀ i, i < j → n i = n0 ∧ okRow p (n i) (f i))) (fun i => m - (intOf i).toNat)
        case atStart => exact ⟨0, rfl, Nat.zero_le _, Lib.hid fun i h => absurd h (by omega)⟩
        case round =>
          obtain ⟨j, rfl, hj, HA⟩ := hrel
          by_cases hlt : j < m
          · obtain ⟨h1, h2⟩ := HCE.out j hlt
            by_cases hnj : n j = n0
            · rw [hnj] at h1 h2
              by_cases hok : okRow p n0 (f j)
              · have HCC := Lib.hid (contains_ok _ _ n0 (f j) p w.heap.size w1 (by omega) h2 HBX.out true ⟨fun _ => hok, fun _ => rfl⟩)
                have HE := Lib.hid (show ∀ i, i < j + 1 → n i = n0 ∧ okRow p (n i) (f i) from fun i hi => by
                  by_cases e : i = j
                  · subst e; rw [hnj]; exact ⟨rfl, hok⟩
                  · exact HA.out i (by omega))
                have hd : ((n0 : Int) != (n0 : Int)) = false := by simp
                clear h2 hok hnj
                go_wp2_with fail
                refine HCC.out.mono ?_
                rintro e w' ⟨rfl, rfl⟩
                go_wp2
                go_round
                case rel => exact ⟨j + 1, by go_num, by omega, HE⟩
                case measure => simp [intOf]; omega
              · have HCC := Lib.hid (contains_ok _ _ n0 (f j) p w.heap.size w1 (by omega) h2 HBX.out false ⟨(fun h => by cases h), fun h => absurd h hok⟩)
                have HE := Lib.hid (HBAD.out j hlt (fun h => hok (by rw [hnj] at h; exact h.2)))
                have hd : ((n0 : Int) != (n0 : Int)) = false := by simp
                clear h2 hok hnj
                go_wp2_with fail
                refine HCC.out.mono ?_
                rintro e w' ⟨rfl, rfl⟩
                go_wp2
                go_ret
                exact ⟨ret_int HE.out.symm, HB.out⟩
            · have hd : ((n j : Int) != (n0 : Int)) = true := by simp; omega
              have HE := Lib.hid (HBAD.out j hlt (fun h => hnj h.1))
              clear h2 hnj
              go_wp2
              go_ret
              exact ⟨ret_int HE.out.symm, HB.out⟩
          · have HE := Lib.hid (HOK.out fun i hi => HA.out i (by omega))
            go_wp2
            go_ret
            exact ⟨ret_int HE.out.symm, HB.out⟩
      · have hs2 : sizeB (n 0 : Int) = false := decide_eq_false (by omega)
        rw [hs2] at HS2
        rw [chkM_size hmod (by omega)]
        have hne0 : ¬ m = 0 := by omega
        generalize n 0 = n0 at hr0 HS2
        clear hg hgc hn
        go_enter Tryz.func44, Tryz.ntmps44
        go_wp2_with fail
        refine (HM _).out.mono ?_
        rintro e w' ⟨rfl, rfl⟩
        go_wp2_with fail
        refine (HS1 _).out.mono ?_
        rintro e w' ⟨rfl, rfl⟩
        go_wp2_with fail
        refine (HS2 _).out.mono ?_
        rintro e w' ⟨rfl, rfl⟩
        go_wp2
        go_ret
        exact ⟨rfl, HB.out⟩
    · have hs1 : sizeB (m : Int) = false := decide_eq_false (by omega)
      have HS1 := fun W => HS (m : Int) W
      rw [hs1] at HS1
      rw [chkM_size hmod (by omega)]
      obtain ⟨A, c, rfl, hnc⟩ := hg.form
      have HB := Lib.hid (show Below w.heap.size w (w.alloc (.cells #[.int .i64 p, .slice A m c] 31)) from (Below.refl _ _).alloc (Nat.le_refl _) _)
      clear hg hn
      go_enter Tryz.func44, Tryz.ntmps44
      go_wp2_with fail
      refine (HM _).out.mono ?_
      rintro e w' ⟨rfl, rfl⟩
      go_wp2_with fail
      refine (HS1 _).out.mono ?_
      rintro e w' ⟨rfl, rfl⟩
      go_wp2
      go_ret
      exact ⟨rfl, HB.out⟩
end Go.Proofs.YtinoomcboinokaaGreat
