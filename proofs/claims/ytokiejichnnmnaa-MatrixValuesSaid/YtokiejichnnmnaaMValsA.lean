/- MRefT, MRefQ, MRefPoly, MRefDet, MRefPow, MValsLaw, joined. -/
import Derived.Test.YtokiejichnnmnaaMOrdA
import Derived.Test.YtokiejichnnmnaaMPolyB
import Derived.Deep.AppendSrc
import Derived.Lib.AppendZeros
import Derived.Test.YtokiejichnnmnaaMLarge
import Derived.Test.YtokiejichnnmnaaMLive2

/- The reference of matrix: Trace. -/
namespace Go.Proofs.Ytokiejichnnmnaa
open Go Go.RowKit Num

set_option maxRecDepth 100000 in
set_option maxHeartbeats 2000000 in
theorem rTrace_any (ra : Value) (m : Nat) (n : Nat → Nat) (f : Nat → Nat → Int) (p : Int) (w : World) (hm : m ≤ 1000000) (hn : ∀ i, i < m → n i ≤ 1000000) (ha : Grid w (· < w.heap.size) ra m n f) (x : Int) (hx : x = chkS (chkM p m n f) m (n 0)) :
    Calls Try.prog 64 #[.agg #[.int .i64 p, ra]] w fun e w' => e = .returned (.tuple #[.int .i64 (if x = 0 then trS f m % p else 0), .int .i64 x]) ∧ Below w.heap.size w w' := by
  have HC := fun W h => Lib.hid (rsquare_any ra m n f p W hm hn h)
  rw [← hx] at HC
  have HA := Lib.hid ha
  obtain ⟨A, c, rfl, hcm⟩ := ha.form
  have HBX := Lib.hid (row_new (W := w) rfl 61 #[.int .i64 p, .slice A m c])
  have HB1 := Lib.hid (show Below w.heap.size w (w.alloc (.cells #[.int .i64 p, .slice A m c] 61)) from (Below.refl _ _).alloc (Nat.le_refl _) _)
  by_cases hx0 : x = 0
  · subst hx0
    obtain ⟨h1, h2⟩ := chkS_zero hx.symm
    obtain ⟨hmod, g1, g2, g3, g4, g5⟩ := chkM_zero h1
    obtain ⟨hp2, hp4, hp6⟩ := modB_true hmod
    have hIN : InG p m m f := fun i hi => by have := (g5 i hi).2; rw [(g5 i hi).1, ← h2] at this; exact this
    have HIN := Lib.hid hIN
    have HA2 := Lib.hid (grid_reg HA.out (fun i hi => ((g5 i hi).1).trans h2.symm))
    have hp0 : ¬ p = 0 := by omega
    have hp0' : (p != 0) = true := by simp; omega
    rw [if_pos rfl]
    clear ha hn g5 hmod h1 hx h2 hIN
    go_enter Try.func64, Try.ntmps64
    go_wp2_with fail
    refine (HC _ (HA.out.on HB1.out)).out.mono ?_
    rintro e w4 ⟨rfl, hb4⟩
    have HB4 := Lib.hid (HB1.out.trans (hb4.mono HB1.out.size))
    have HR4 := Lib.hid (HBX.out.below hb4 HBX.out.lt)
    have c0 := HR4.out.cell (i := 0) rfl
    have c1 := HR4.out.cell (i := 1) rfl
    clear hb4
    go_wp2_with fail
    clear c0 c1
    go_loopw [5, 6] (fun t5 t wr => ∃ k : Nat, t5 = .int .i64 (trS f k % p) ∧ t = .int .i64 k ∧ k ≤ m ∧ Below w4.heap.size w4 wr) (fun _ t _ => m - (intOf t).toNat)
    case atStart => exact ⟨0, by simp [trS], rfl, Nat.zero_le _, Below.refl _ _⟩
    case round =>
      obtain ⟨k, rfl, rfl, hk, hwr⟩ := hrel
      rename World => wr
      have hB := HB4.out.trans (hwr.mono HB4.out.size)
      have HW := Lib.hid hwr
      have HBR := Lib.hid hB
      have c0 := (HR4.out.below hwr HR4.out.lt).cell (i := 0) rfl
      have c1 := (HR4.out.below hwr HR4.out.lt).cell (i := 1) rfl
      by_cases hlt : k < m
      · have d1 : decide ((k : Int) < (m : Int)) = true := decide_eq_true (by omega)
        have d2 : (0 : Int) ≤ k := by omega
        have d3 : (k : Int) < (m : Int) := by omega
        obtain ⟨A', c', e, _, h⟩ := HA2.out.on HBR.out
        cases e
        obtain ⟨b, o, rfl, hb, hcc⟩ := h (by omega)
        obtain ⟨r, k1, A2, c2, rfl, _, h'⟩ := hcc k hlt
        obtain ⟨b2, o2, rfl, hb2, hcc2⟩ := h' (show 0 < m by omega)
        have k2 := hcc2 k hlt
        have hy := HIN.out k hlt k hlt
        have hs1 := Int.emod_nonneg (trS f k) hp0
        have hs2 := Int.emod_lt_of_pos (trS f k) (show 0 < p by omega)
        have HS3 : Hid (trS f (k + 1) % p = (trS f k % p + f k k) % p) := Lib.hid (by show (trS f k + f k k) % p = _; rw [Int.emod_add_emod])
        generalize trS f k % p = s at hs1 hs2 HS3
        generalize f k k = y at hy k2 HS3
        obtain ⟨st, hst⟩ : ∃ st, s + y = st := ⟨_, rfl⟩
        have hw : IntKind.i64.wrap (s + y) = st := by rw [hst]; exact IntWalk.i64_in _ ⟨by omega, by omega⟩
        rw [hst] at HS3
        have hr : st.tmod p = st % p := Int.tmod_eq_emod_of_nonneg (by omega)
        have hr1 : 0 ≤ st % p := Int.emod_nonneg _ (by omega)
        have hr2 : st % p < p := Int.emod_lt_of_pos _ (by omega)
        have hw3 : IntKind.i64.wrap (st % p) = st % p := IntWalk.i64_in _ ⟨by omega, by omega⟩
        clear h hb hcc h' hb2 hcc2 hst hy hs1 hs2 hwr hB
        go_wp2_with fail
        go_quiet (fail)
        go_wp2_with fail
        go_roundw
        case rel => exact ⟨k + 1, by rw [HS3.out], by go_num, by omega, below_drewN HW.out nq⟩
        case measure => simp [intOf]; omega
      · obtain rfl : m = k := by omega
        have d1 : decide ((m : Int) < (m : Int)) = false := decide_eq_false (by omega)
        clear hwr hB
        go_wp2_with fail
        go_ret2
        exact ⟨rfl, HBR.out⟩
  · have hd2 : (x != 0) = true := by simpa using hx0
    rw [if_neg hx0]
    clear ha hn hx hx0
    go_enter Try.func64, Try.ntmps64
    go_wp2_with fail
    refine (HC _ (HA.out.on HB1.out)).out.mono ?_
    rintro e w4 ⟨rfl, hb4⟩
    have HB4 := Lib.hid (HB1.out.trans (hb4.mono HB1.out.size))
    clear hb4
    go_wp2
    go_ret2
    exact ⟨rfl, HB4.out⟩
end Go.Proofs.Ytokiejichnnmnaa

/- Stages of sums that are laid entry by entry. -/
namespace Go.Proofs.Ytokiejichnnmnaa
open Go Go.RowKit Num

/-- The entries before i are whole, the entry i is summed up to j, those behind are 0. -/
def stV (p : Int) (T : Nat → Nat → Int) (L : Nat → Nat) (i j b : Nat) : Int := if b < i then T b (L b) % p else if b = i then T b j % p else 0
theorem stV_zero {p : Int} {T : Nat → Nat → Int} (L : Nat → Nat) (h : ∀ b, T b 0 = 0) : stV p T L 0 0 = fun _ => 0 := by
  funext b
  unfold stV
  rw [if_neg (by omega), h, Int.zero_emod, ite_self]
theorem stV_upd (p : Int) (T : Nat → Nat → Int) (L : Nat → Nat) (n i j : Nat) : (CTab n (iv (stV p T L i j))).setIfInBounds i (.int .i64 (T i (j + 1) % p)) = CTab n (iv (stV p T L i (j + 1))) := by
  rw [CTab_set]
  refine CTab_congr _ _ _ fun b _ => ?_
  unfold iv stV
  by_cases e : b = i
  · subst e; rw [if_pos rfl, if_neg (by omega), if_pos rfl]
  · rw [if_neg e]
    by_cases h : b < i
    · rw [if_pos h, if_pos h]
    · rw [if_neg h, if_neg h, if_neg e, if_neg e]
theorem stV_at (p : Int) (T : Nat → Nat → Int) (L : Nat → Nat) (i j : Nat) : stV p T L i j i = T i j % p := by unfold stV; rw [if_neg (by omega), if_pos rfl]
theorem stV_next {p : Int} {T : Nat → Nat → Int} {L : Nat → Nat} (h : ∀ b, T b 0 = 0) (i j : Nat) (hj : j = L i) : stV p T L i j = stV p T L (i + 1) 0 := by
  subst hj
  funext b
  unfold stV
  by_cases e : b = i
  · subst e; rw [if_neg (by omega), if_pos rfl, if_pos (by omega)]
  · by_cases g : b < i
    · rw [if_pos g, if_pos (by omega)]
    · rw [if_neg g, if_neg e, if_neg (by omega), h, Int.zero_emod, ite_self]
theorem stV_end {p : Int} {T : Nat → Nat → Int} {L : Nat → Nat} {i b : Nat} (h : b < i) : stV p T L i 0 b = T b (L b) % p := by unfold stV; rw [if_pos h]

/-- A row times the leading rows. -/
def tW (x : Nat → Int) (f : Nat → Nat → Int) (b j : Nat) : Int := dotTo x f b j
theorem tW_zero (x : Nat → Int) (f : Nat → Nat → Int) (b : Nat) : tW x f b 0 = 0 := rfl
theorem tW_succ (x : Nat → Int) (f : Nat → Nat → Int) (p : Int) (b j : Nat) : (tW x f b j % p + x j * f j b) % p = tW x f b (j + 1) % p := by
  show _ = (dotTo x f b j + x j * f j b) % p
  rw [Int.emod_add_emod]; rfl
/-- The product with the factor of the next row, as it is summed. -/
def tN (p : Int) (f : Nat → Nat → Int) (k b j : Nat) : Int := sumTo (fun a => (sK f k (b - a) % p) * (berk f k a % p)) j
theorem tN_zero (p : Int) (f : Nat → Nat → Int) (k b : Nat) : tN p f k b 0 = 0 := rfl
theorem tN_succ (p : Int) (f : Nat → Nat → Int) (k b j : Nat) : (tN p f k b j % p + (sK f k (b - j) % p) * (berk f k j % p)) % p = tN p f k b (j + 1) % p := by
  show _ = (tN p f k b j + (sK f k (b - j) % p) * (berk f k j % p)) % p
  rw [Int.emod_add_emod]
/-- How many terms there are. -/
def lN (k b : Nat) : Nat := if b ≤ k then b + 1 else k + 1
theorem tN_berk {p : Int} (f : Nat → Nat → Int) (k b : Nat) (hb : b < k + 2) : tN p f k b (lN k b) % p = berk f (k + 1) b % p := by
  have h1 : ∀ n, Cg p (tN p f k b n) (sumTo (fun a => berk f k a * sK f k (b - a)) n) := fun n => sumTo_cg _ fun a _ => by
    rw [Int.mul_comm (berk f k a)]
    exact (Cg.mod p _).mul (Cg.mod p _)
  have h4 : berk f (k + 1) b = sumTo (fun a => berk f k a * sK f k (b - a)) (b + 1) := rfl
  rw [h4]
  unfold lN
  split
  · exact h1 _
  · obtain rfl : b = k + 1 := by omega
    have e : sumTo (fun a => berk f k a * sK f k (k + 1 - a)) (k + 1 + 1) = sumTo (fun a => berk f k a * sK f k (k + 1 - a)) (k + 1) := by
      rw [sumTo, (berk_deg f k).1 (k + 1) (by omega), Int.zero_mul, Int.add_zero]
    rw [e]
    exact h1 _
end Go.Proofs.Ytokiejichnnmnaa

/- The reference of matrix: Poly. -/
namespace Go.Proofs.Ytokiejichnnmnaa
open Go Go.RowKit Num

/-- Own of an empty slice. -/
theorem own_nil (A : Option Addr) (c : Nat) (w : World) : Calls Try.prog 34 #[.slice A 0 c] w fun e w' => ∃ r, e = .returned r ∧ OwnsI w' w.heap.size r [] ∧ Below w.heap.size w w' := by
  obtain ⟨i0, hi, hz0, hz1, hz2⟩ := info_parts info3m
  have hs : ∀ W : World, Src Try.prog i0.size 28 (.slice A 0 c) 0 [] W := fun W => by
    cases A with
    | none => exact Src.ofNil W (e' := 3) (by kernel_rfl) c
    | some a => exact Src.ofSlice W (e' := 3) (by kernel_rfl) a 0 c [] (by simp) (fun j u h => by simp at h) (fun u h => by cases h)
  have hr : (Builtin.append_ #[28, 28] 28 #[.slice (some ⟨w.heap.size, 0, none⟩) 0 0, .slice A 0 c]).run Try.prog (w.alloc (.cells #[] 3)) = .ok (.slice (some ⟨w.heap.size, 0, none⟩) 0 0) (w.alloc (.cells #[] 3)) := by
    have := run_append_room_src (w.alloc (.cells #[] 3)) 28 28 28 3 i0 (by kernel_rfl) hi w.heap.size 0 0 0 (.slice A 0 c) 0 [] (hs _) (by omega) (fun j h => by simp at h) (fun j h => by simp at h)
    simpa [World.setCells] using this
  go_enter Try.func34, Try.ntmps34
  have HO := Lib.hid (show (w.alloc (.cells #[] 3)).ownsRow w.heap.size 3 1 (.slice (some ⟨w.heap.size, 0, none⟩) 0 0) 0 [] from World.ownsRow_made w #[] 0 (Nat.le_refl _) (by unfold maxLen; omega) rfl)
  have HB := Lib.hid ((Below.refl w.heap.size w).alloc (Nat.le_refl _) (.cells #[] 3))
  go_wp2_with (at_builtin; refine Lib.wpList_append_run _ rfl (.tmp 3) (.tmp 4) 28 28 rfl _ _ rfl rfl _ _ hr ?_)
  go_ret
  exact ⟨_, rfl, HO.out, HB.out⟩
/-- Own of any row. -/
theorem own_vec (v : Value) (n : Nat) (f : Nat → Int) (w : World) (hl : n ≤ 1000) (hv : Vec w (· < w.heap.size) v n f) :
    Calls Try.prog 34 #[v] w fun e w' => ∃ r, e = .returned r ∧ OwnsI w' w.heap.size r ((List.range n).map f) ∧ Below w.heap.size w w' := by
  by_cases h : n = 0
  · subst h
    obtain ⟨A, c, rfl, -⟩ := hv.form
    exact own_nil A c w
  · exact own_any v n f w (by omega) hl hv
theorem OwnsI.vecL {w : World} {B n : Nat} {v : Value} {f : Nat → Int} (h : OwnsI w B v ((List.range n).map f)) : Vec w (fun b => B ≤ b ∧ b < w.heap.size) v n f := by
  have := h.vec (S := fun b => B ≤ b ∧ b < w.heap.size) h.lt
  rw [List.length_map, List.length_range] at this
  exact this.congr fun j hj => by simp [List.getD_eq_getElem?_getD, hj]
theorem row_mod {p : Int} {m k : Nat} {f : Nat → Nat → Int} (hf : InG p m m f) (hk : k < m) : ∀ j, j < k → f k j = rowP f k 0 j % p := fun j hj => by
  show f k j = f k j % p
  rw [Int.emod_eq_of_lt (hf k hk j (by omega)).1 (hf k hk j (by omega)).2]

set_option maxRecDepth 100000 in
set_option maxHeartbeats 8000000 in
theorem rPoly_any (ra : Value) (m : Nat) (n : Nat → Nat) (f : Nat → Nat → Int) (p : Int) (w : World) (hm : m ≤ 1000000) (hn : ∀ i, i < m → n i ≤ 1000000) (ha : Grid w (· < w.heap.size) ra m n f) (x : Int) (hx : x = chkS (chkM p m n f) m (n 0)) :
    Calls Try.prog 65 #[.agg #[.int .i64 p, ra]] w (PolyP w x p m f) := by
  have HC := fun W h => Lib.hid (rsquare_any ra m n f p W hm hn h)
  rw [← hx] at HC
  have HA := Lib.hid ha
  by_cases hx0 : x = 0
  · subst hx0
    obtain ⟨h1, h2⟩ := chkS_zero hx.symm
    obtain ⟨hmod, g1, g2, g3, g4, g5⟩ := chkM_zero h1
    obtain ⟨hp2, hp4, hp6⟩ := modB_true hmod
    have hIN : InG p m m f := fun i hi => by have := (g5 i hi).2; rw [(g5 i hi).1, ← h2] at this; exact this
    have HIN := Lib.hid hIN
    have HA2 := Lib.hid (grid_reg HA.out (fun i hi => ((g5 i hi).1).trans h2.symm))
    obtain ⟨ag, ao, ac, RA, CA, rfl, hac, hab, hag⟩ := HA2.out.at_ (by omega)
    have HBX := Lib.hid (row_new (W := w) rfl 61 #[.int .i64 p, .slice (some ⟨ag, ao, none⟩) m ac])
    have HB1 := Lib.hid (show Below w.heap.size w (w.alloc (.cells #[.int .i64 p, .slice (some ⟨ag, ao, none⟩) m ac] 61)) from (Below.refl _ _).alloc (Nat.le_refl _) _)
    have HRW := Lib.hid (fun (i : Nat) (hi : i < m) => (show ∃ ub uo uc, m ≤ uc ∧ Vec w (· < w.heap.size) (.slice (some ⟨ub, uo, none⟩) m uc) m (f i) ∧ ∀ W, Below w.heap.size w W → W.cell? ⟨ag, ao + i, none⟩ = some (.slice (some ⟨ub, uo, none⟩) m uc) ∧ ∀ j, j < m → W.cell? ⟨ub, uo + j, none⟩ = some (.int .i64 (f i j)) from by
      obtain ⟨u1, u2⟩ := hag i hi
      obtain ⟨ub, uo, uc, ue, h1, uS, ucl⟩ := u2.at_ (by omega)
      rw [ue] at u1 u2
      exact ⟨ub, uo, uc, h1, u2, fun W hb => ⟨(hb.cell (p := ⟨ag, ao + i, none⟩) hab).trans u1, fun j hj => (hb.cell (p := ⟨ub, uo + j, none⟩) uS).trans (ucl j hj)⟩⟩))
    have hp0 : ¬ p = 0 := by omega
    have hp0' : (p != 0) = true := by simp; omega
    have h1p : (1 : Int).tmod p = 1 := by rw [Int.tmod_eq_emod_of_nonneg (by omega)]; exact Int.emod_eq_of_lt (by omega) (by omega)
    obtain ⟨i0, hi0, hz0, hz1, hz2⟩ := info_parts info3m
    have HPO := Lib.hid (show ∀ e w', PolyP w 0 p m f e w' → PolyP w 0 p m f e w' from fun _ _ h => h)
    generalize hPP : PolyP w 0 p m f = PP at HPO ⊢
    have HPP := Lib.hid hPP
    clear ha hn g5 hmod h1 hx h2 hIN hp6 hag hPP
    go_enter Try.func65, Try.ntmps65
    go_wp2_with fail
    refine (HC _ (HA.out.on HB1.out)).out.mono ?_
    rintro e w4 ⟨rfl, hb4⟩
    have HB4 := Lib.hid (HB1.out.trans (hb4.mono HB1.out.size))
    have HR4 := Lib.hid (HBX.out.below hb4 HBX.out.lt)
    have c0 := HR4.out.cell (i := 0) rfl
    have c1 := HR4.out.cell (i := 1) rfl
    clear hb4 HC HA HBX HB1
    go_wp2_with fail
    go_quiet (fail)
    clear c0 c1
    go_wp2_with fail
    have HB5 := Lib.hid (HB4.out.trans (below_drewN (Below.refl w4.heap.size w4) nq |>.mono HB4.out.size))
    have HR5 := Lib.hid (HR4.out.below (below_drewN (Below.refl w4.heap.size w4) nq) HR4.out.lt)
    have HL5 := Lib.hid (show Vec ((w4.drewN nq).alloc (.cells #[.int .i64 1] 3)) (New (w4.drewN nq) ((w4.drewN nq).alloc (.cells #[.int .i64 1] 3))) (.slice (some ⟨w4.heap.size, 0, none⟩) 1 1) (0 + 1) (fun j => berk f 0 j % p) from by
      have h1 := row_new (W := w4.drewN nq) rfl 3 #[.int .i64 1]
      have e : CTab (0 + 1) (iv (fun j => berk f 0 j % p)) = #[.int .i64 1] := by
        have e0 : berk f 0 0 % p = 1 := by rw [berk_zero]; exact Int.emod_eq_of_lt (by omega) (by omega)
        rw [CTab_congr (0 + 1) _ (fun _ => .int .i64 1) fun i hi => by
          obtain rfl : i = 0 := by omega
          exact congrArg (Value.int .i64) e0]
        rfl
      rw [← e] at h1
      have h2 := h1.vec (S := New (w4.drewN nq) ((w4.drewN nq).alloc (.cells #[.int .i64 1] 3))) ⟨Nat.le_refl _, by simp⟩ (Nat.le_refl _)
      rw [e] at h2
      exact h2)
    generalize w4.drewN nq = w5 at HB5 HR5 HL5 ⊢
    clear HR4 HB4
    have HLB := Lib.hid ((Below.refl w5.heap.size w5).alloc (Nat.le_refl _) (.cells #[.int .i64 1] 3))
    have HKB := Lib.hid (fun (W : World) (hb : Below w5.heap.size w5 W) => (show W.cell? ⟨w.heap.size, 1, none⟩ = some (.slice (some ⟨ag, ao, none⟩) m ac) ∧ Below w.heap.size w W from
      ⟨(HR5.out.below hb HR5.out.lt).cell (i := 1) rfl, HB5.out.trans (hb.mono HB5.out.size)⟩))
    clear HR5
    go_loopw [7, 8] (fun t7 t8 wr => ∃ k : Nat, t8 = .int .i64 k ∧ k ≤ m ∧ Vec wr (New w5 wr) t7 (k + 1) (fun j => berk f k j % p) ∧ Below w5.heap.size w5 wr) (fun _ t8 _ => m - (intOf t8).toNat)
    case atStart => exact ⟨0, rfl, Nat.zero_le _, HL5.out, HLB.out⟩
    case round =>
      obtain ⟨k, rfl, hk, hv, hb⟩ := hrel
      rename World => wr
      obtain ⟨bc, oc, cc, rfl, hcc, hcb, hccl⟩ := hv.at_ (by omega)
      have HV := Lib.hid hv
      have HB := Lib.hid hb
      have HCV := Lib.hid (fun (W : World) (h : Below wr.heap.size wr W) (j : Nat) (hj : j < k + 1) => (show W.cell? ⟨bc, oc + j, none⟩ = some (.int .i64 (berk f k j % p)) from (h.cell (p := ⟨bc, oc + j, none⟩) hcb.2).trans (hccl j hj)))
      clear hv hb hccl HL5 HLB
      by_cases hlt : k < m
      · have hd : decide ((k : Int) < (m : Int)) = true := decide_eq_true (by omega)
        obtain ⟨bk, ok, ck, hck, hvk, hwk⟩ := HRW.out k hlt
        have HWK := Lib.hid hwk
        have HVK := Lib.hid hvk
        have hfk := HIN.out k hlt k hlt
        have HFK := Lib.hid (row_mod HIN.out hlt)
        have HZ1 : Hid ((p - f k k) % p = sK f k 1 % p) := Lib.hid (by
          have h1 := sub_mod (p := p) (f k k)
          rw [Int.emod_eq_of_lt hfk.1 hfk.2] at h1
          rw [h1]; rfl)
        have HS := Lib.hid (fun (W : World) (hb : Below wr.heap.size wr W) => (show W.cell? ⟨w.heap.size, 1, none⟩ = some (.slice (some ⟨ag, ao, none⟩) m ac) ∧ W.cell? ⟨ag, ao + k, none⟩ = some (.slice (some ⟨bk, ok, none⟩) m ck) ∧ W.cell? ⟨bk, ok + k, none⟩ = some (.int .i64 (f k k)) from
          ⟨(HKB.out W (HB.out.trans (hb.mono HB.out.size))).1, (HWK.out W (HKB.out W (HB.out.trans (hb.mono HB.out.size))).2).1, (HWK.out W (HKB.out W (HB.out.trans (hb.mono HB.out.size))).2).2 k hlt⟩))
        generalize f k k = fk at hfk HZ1 HS
        obtain ⟨z0, hz0'⟩ : ∃ z, (p - fk) % p = z := ⟨_, rfl⟩
        rw [hz0'] at HZ1
        have hw1 : IntKind.i64.wrap (p - fk) = p - fk := IntWalk.i64_in _ ⟨by omega, by omega⟩
        have hr : (p - fk).tmod p = z0 := by rw [← hz0']; exact Int.tmod_eq_emod_of_nonneg (by omega)
        have hq1 : 0 ≤ z0 := by rw [← hz0']; exact Int.emod_nonneg _ (by omega)
        have hq2 : z0 < p := by rw [← hz0']; exact Int.emod_lt_of_pos _ (by omega)
        have hw3 : IntKind.i64.wrap z0 = z0 := IntWalk.i64_in _ ⟨by omega, by omega⟩
        have i1 : (k : Int) < (m : Int) := by omega
        have i2 : (0 : Int) ≤ (k : Int) := by omega
        have HBD := Lib.hid (below_drew (Below.refl wr.heap.size wr))
        clear hwk hvk hz0'
        go_wp2_with fail
        refine wp_region_held_drew (S := (fun W => W.cell? ⟨w.heap.size, 1, none⟩ = some (.slice (some ⟨ag, ao, none⟩) m ac) ∧ W.cell? ⟨ag, ao + k, none⟩ = some (.slice (some ⟨bk, ok, none⟩) m ck) ∧ W.cell? ⟨bk, ok + k, none⟩ = some (.int .i64 fk))) (by as_aux_lemma => kernel_rfl) (HS.out _ HBD.out) (fun hHeld => ?_)
        refine takeH (i := 0) (v := .int .i64 p) rfl rfl (by as_aux_lemma => kernel_rfl) (by as_aux_lemma => kernel_rfl) (by as_aux_lemma => kernel_rfl) (fun _ _ _ h => h) (by rfl) (fun W hW => by (skip); go_simp) (by assumption) ?_
        simp only [List.setIfInBounds_toArray, List.set_cons_zero, List.set_cons_succ]
        refine takeH (i := 1) (v := .int .i64 1) rfl rfl (by as_aux_lemma => kernel_rfl) (by as_aux_lemma => kernel_rfl) (by as_aux_lemma => kernel_rfl) (fun _ _ _ h => h) (by rfl) (fun W hW => by (skip); go_simp) (by assumption) ?_
        simp only [List.setIfInBounds_toArray, List.set_cons_zero, List.set_cons_succ]
        refine takeH (i := 2) (v := .int .i64 p) rfl rfl (by as_aux_lemma => kernel_rfl) (by as_aux_lemma => kernel_rfl) (by as_aux_lemma => kernel_rfl) (fun _ _ _ h => h) (by rfl) (fun W hW => by (skip); go_simp) (by assumption) ?_
        simp only [List.setIfInBounds_toArray, List.set_cons_zero, List.set_cons_succ]
        refine takeH (i := 3) (v := .pointer (some ⟨w.heap.size, 1, none⟩)) rfl rfl (by as_aux_lemma => kernel_rfl) (by as_aux_lemma => kernel_rfl) (by as_aux_lemma => kernel_rfl) (fun _ _ _ h => h) (by rfl) (fun W hW => by (skip); go_simp) (by assumption) ?_
        simp only [List.setIfInBounds_toArray, List.set_cons_zero, List.set_cons_succ]
        refine takeH (i := 4) (v := .slice (some ⟨ag, ao, none⟩) m ac) rfl rfl (by as_aux_lemma => kernel_rfl) (by as_aux_lemma => kernel_rfl) (by as_aux_lemma => kernel_rfl) (fun _ _ _ h => h) (by rfl) (fun W hW => by (obtain ⟨q0, q1, q2⟩ := hW); go_simp) (by assumption) ?_
        simp only [List.setIfInBounds_toArray, List.set_cons_zero, List.set_cons_succ]
        refine takeH (i := 5) (v := .int .i64 k) rfl rfl (by as_aux_lemma => kernel_rfl) (by as_aux_lemma => kernel_rfl) (by as_aux_lemma => kernel_rfl) (fun _ _ _ h => h) (by rfl) (fun W hW => by (skip); go_simp) (by assumption) ?_
        simp only [List.setIfInBounds_toArray, List.set_cons_zero, List.set_cons_succ]
        refine takeH (i := 6) (v := .pointer (some ⟨ag, ao + k, none⟩)) rfl rfl (by as_aux_lemma => kernel_rfl) (by as_aux_lemma => kernel_rfl) (by as_aux_lemma => kernel_rfl) (fun _ _ _ h => h) (by rfl) (fun W hW => by (skip); go_simp) (by assumption) ?_
        simp only [List.setIfInBounds_toArray, List.set_cons_zero, List.set_cons_succ]
        refine takeH (i := 7) (v := .slice (some ⟨bk, ok, none⟩) m ck) rfl rfl (by as_aux_lemma => kernel_rfl) (by as_aux_lemma => kernel_rfl) (by as_aux_lemma => kernel_rfl) (fun _ _ _ h => h) (by rfl) (fun W hW => by (obtain ⟨q0, q1, q2⟩ := hW); go_simp) (by assumption) ?_
        simp only [List.setIfInBounds_toArray, List.set_cons_zero, List.set_cons_succ]
        refine takeH (i := 8) (v := .int .i64 k) rfl rfl (by as_aux_lemma => kernel_rfl) (by as_aux_lemma => kernel_rfl) (by as_aux_lemma => kernel_rfl) (fun _ _ _ h => h) (by rfl) (fun W hW => by (skip); go_simp) (by assumption) ?_
        simp only [List.setIfInBounds_toArray, List.set_cons_zero, List.set_cons_succ]
        refine takeH (i := 9) (v := .pointer (some ⟨bk, ok + k, none⟩)) rfl rfl (by as_aux_lemma => kernel_rfl) (by as_aux_lemma => kernel_rfl) (by as_aux_lemma => kernel_rfl) (fun _ _ _ h => h) (by rfl) (fun W hW => by (skip); go_simp) (by assumption) ?_
        simp only [List.setIfInBounds_toArray, List.set_cons_zero, List.set_cons_succ]
        refine takeH (i := 10) (v := .int .i64 fk) rfl rfl (by as_aux_lemma => kernel_rfl) (by as_aux_lemma => kernel_rfl) (by as_aux_lemma => kernel_rfl) (fun _ _ _ h => h) (by rfl) (fun W hW => by (obtain ⟨q0, q1, q2⟩ := hW); go_simp) (by assumption) ?_
        simp only [List.setIfInBounds_toArray, List.set_cons_zero, List.set_cons_succ]
        refine takeH (i := 11) (v := .int .i64 (p - fk)) rfl rfl (by as_aux_lemma => kernel_rfl) (by as_aux_lemma => kernel_rfl) (by as_aux_lemma => kernel_rfl) (fun _ _ _ h => h) (by rfl) (fun W hW => by (skip); go_simp) (by assumption) ?_
        simp only [List.setIfInBounds_toArray, List.set_cons_zero, List.set_cons_succ]
        refine takeH (i := 12) (v := .int .i64 p) rfl rfl (by as_aux_lemma => kernel_rfl) (by as_aux_lemma => kernel_rfl) (by as_aux_lemma => kernel_rfl) (fun _ _ _ h => h) (by rfl) (fun W hW => by (skip); go_simp) (by assumption) ?_
        simp only [List.setIfInBounds_toArray, List.set_cons_zero, List.set_cons_succ]
        refine takeH (i := 13) (v := .int .i64 z0) rfl rfl (by as_aux_lemma => kernel_rfl) (by as_aux_lemma => kernel_rfl) (by as_aux_lemma => kernel_rfl) (fun _ _ _ h => h) (by rfl) (fun W hW => by (skip); go_simp) (by assumption) ?_
        simp only [List.setIfInBounds_toArray, List.set_cons_zero, List.set_cons_succ]
        refine wpAnyH_ready (rs := [14]) (by as_aux_lemma => kernel_rfl) (by simp) ?_
        refine (AllReadyH.cons rfl (fun K hK => ?_) AllReadyH.nil)
        go_simp
        refine hK.out _ _ (HS.out _ (HBD.out.alloc HBD.out.size (.cells #[.int .i64 1, .int .i64 z0] 3))) (fun hHeld => ?_)
        clear hK K
        try simp only [Act.put, List.setIfInBounds_toArray, List.set_cons_zero, List.set_cons_succ]
        refine takeH (i := 15) (v := .slice (some ⟨wr.heap.size, 0, none⟩) 2 2) rfl rfl (by as_aux_lemma => kernel_rfl) (by as_aux_lemma => kernel_rfl) (by as_aux_lemma => kernel_rfl) (fun _ _ _ h => h) (by rfl) (fun W hW => by (skip); go_simp) (by assumption) ?_
        simp only [List.setIfInBounds_toArray, List.set_cons_zero, List.set_cons_succ]
        refine wpAnyH_done (by as_aux_lemma => kernel_rfl) ?_ _
        have HB0A := Lib.hid (below_drew ((Below.refl wr.heap.size wr).alloc (Nat.le_refl _) (.cells #[.int .i64 1, .int .i64 z0] 3)))
        have HO0 := Lib.hid (show OwnsI (wr.alloc (.cells #[.int .i64 1, .int .i64 z0] 3)).drew wr.heap.size (.slice (some ⟨wr.heap.size, 0, none⟩) 2 2) (serL p f k 0) from by
          have h2 := World.ownsRow_lit (base := wr.heap.size) (e := 3) (size := 1) wr #[.int .i64 1, .int .i64 z0] 2 (Nat.le_refl _) (by decide) rfl
          have e : serL p f k 0 = [1, z0] := by
            show [sK f k 0 % p, sK f k 1 % p] = _
            rw [← HZ1.out, show sK f k 0 = 1 from rfl, Int.emod_eq_of_lt (by omega) (by omega)]
          unfold OwnsI
          rw [e]
          exact h2)
        have HBA := Lib.hid (below_drew ((Below.refl wr.heap.size wr).alloc (Nat.le_refl _) (.cells #[.int .i64 1, .int .i64 z0] 3)))
        have hsz0 : ((wr.alloc (.cells #[.int .i64 1, .int .i64 z0] 3)).drew).heap.size = wr.heap.size + 1 := by simp
        generalize (wr.alloc (.cells #[.int .i64 1, .int .i64 z0] 3)).drew = W1 at HB0A HO0 HBA hsz0 ⊢
        obtain ⟨c1, c2, -⟩ := HS.out _ HBA.out
        obtain ⟨A3, hr3, hV3⟩ := cut_pre HVK.out (k := k) (by omega)
        have HOW := Lib.hid (own_vec (.slice A3 k ck) k (f k) W1 (by omega) (hV3.on (HKB.out W1 (HB.out.trans (HBA.out.mono HB.out.size))).2))
        have k9 : (0 : Int) ≤ (m : Int) := by omega
        clear hV3 hr hq1 hq2 hw3 hw1 hfk HZ1 HVK
        go_wp2_with fail
        refine HOW.out.mono ?_
        rintro e W2 ⟨r2, rfl, ho2, hb2⟩
        have hv2 := ho2.vecL
        obtain ⟨Ar0, cr0, rfl, -⟩ := hv2.form
        have HJ0 := Lib.hid (show SerJ wr p k f 0 (.slice (some ⟨wr.heap.size, 0, none⟩) 2 2) (.slice Ar0 k cr0) W2 from
          ⟨Nat.zero_le _, HB0A.out.trans (hb2.mono HB0A.out.size), HO0.out.below hb2, (hv2.more fun b hb => ⟨hb.2, fun e => by simp [Value.ownBlock] at e; have := hb.1; omega⟩).congr fun j hj => HFK.out j hj⟩)
        have HBJ := Lib.hid (fun (W : World) (h : Below wr.heap.size wr W) => (show Below wr.heap.size wr W from h))
        clear hv2 ho2 hb2 HOW c1 c2 HO0 HB0A HBA hsz0 hr3 HFK HS
        go_wp2_with fail
        go_loopw [9, 10, 11] (fun l r t wx => ∃ q : Nat, t = .int .i64 q ∧ SerJ wr p k f q l r wx) (fun _ _ t _ => k - (intOf t).toNat)
        case atStart => exact ⟨0, rfl, HJ0.out⟩
        case round =>
          obtain ⟨q, rfl, hJ⟩ := hrel
          rename World => wj
          have hq := hJ.le
          obtain ⟨Al, cl, hl⟩ := hJ.own.form
          rw [serL_len] at hl
          subst hl
          by_cases hql : q < k
          · have hd : decide ((q : Int) < (k : Int)) = true := decide_eq_true (by omega)
            obtain ⟨br, or_, cr, rfl, hcr, hrS, hrcl⟩ := hJ.rv.at_ (by omega)
            have HJ := Lib.hid hJ
            have HBWJ := Lib.hid (HBJ.out _ hJ.b)
            have HRC := Lib.hid hrcl
            have HXI := Lib.hid (fun a => (show 0 ≤ rowP f k q a % p ∧ rowP f k q a % p < p from ⟨Int.emod_nonneg _ (by omega), Int.emod_lt_of_pos _ (by omega)⟩))
            have HSM := Lib.hid (sK_mod (p := p) f k q)
            have HRM := Lib.hid (fun j => rowP_mod (p := p) f k q j)
            have hrlt := hrS.1
            have hrne := hrS.2
            clear hJ hrcl hrS
            generalize hxx : (fun a => rowP f k q a % p) = xx at HRM
            have HXE := Lib.hid (fun a => (show rowP f k q a % p = xx a from by rw [← hxx]))
            have HRC2 := Lib.hid (fun (W : World) (h : Below wj.heap.size wj W) j (hj : j < k) => (show W.cell? ⟨br, or_ + j, none⟩ = some (.int .i64 (xx j)) from by
              rw [← HXE.out]
              exact (h.cell (p := ⟨br, or_ + j, none⟩) hrlt).trans (HRC.out j hj)))
            have HXI2 := Lib.hid (fun a => (show 0 ≤ xx a ∧ xx a < p from by rw [← HXE.out]; exact HXI.out a))
            have HSM2 := Lib.hid (show (p - sumTo (fun a => xx a * f a k) k % p) % p = sK f k (q + 2) % p from by rw [← HSM.out, show (fun a => xx a * f a k) = fun a => rowP f k q a % p * f a k from funext fun a => by rw [HXE.out]])
            clear hxx HXE HRC HXI HSM
            go_wp2_with fail
            go_loopw [12, 13] (fun t12 t13 wq => ∃ j : Nat, t13 = .int .i64 j ∧ j ≤ k ∧ t12 = .int .i64 (sumTo (fun a => xx a * f a k) j % p) ∧ Below wj.heap.size wj wq) (fun _ t13 _ => k - (intOf t13).toNat)
            case atStart => exact ⟨0, rfl, Nat.zero_le _, by simp [sumTo], Below.refl _ _⟩
            case round =>
              obtain ⟨j, rfl, hj, rfl, hbq⟩ := hrel
              rename World => wq
              have HBQ := Lib.hid hbq
              have hbw := HBWJ.out.trans (hbq.mono HBWJ.out.size)
              by_cases hjk : j < k
              · have hd2 : decide ((j : Int) < (k : Int)) = true := decide_eq_true (by omega)
                obtain ⟨c1, hbb⟩ := HKB.out _ (HB.out.trans (hbw.mono HB.out.size))
                obtain ⟨ub, uo, uc, -, -, hu⟩ := HRW.out j (by omega)
                obtain ⟨u1, u2⟩ := hu _ hbb
                have u3 := u2 k hlt
                have v1 := HRC2.out _ hbq j hjk
                have hx := HXI2.out j
                have hy := HIN.out j (by omega) k hlt
                have hmul := mul_in (a := xx j) (b := f j k) (p := p) (q := p) ⟨hx.1, by omega⟩ ⟨hy.1, by omega⟩ (by omega) (by omega)
                have HS3 : Hid (sumTo (fun a => xx a * f a k) (j + 1) % p = (sumTo (fun a => xx a * f a k) j % p + xx j * f j k) % p) := Lib.hid (by rw [Int.emod_add_emod]; rfl)
                have hs1 := Int.emod_nonneg (sumTo (fun a => xx a * f a k) j) hp0
                have hs2 := Int.emod_lt_of_pos (sumTo (fun a => xx a * f a k) j) (show 0 < p by omega)
                generalize sumTo (fun a => xx a * f a k) j % p = s at hs1 hs2 HS3 ⊢
                generalize f j k = y at u3 hmul HS3 hy
                generalize xx j = xv at v1 hmul HS3 hx
                obtain ⟨z, hz⟩ : ∃ z, xv * y = z := ⟨_, rfl⟩
                have hw1 : IntKind.i64.wrap (xv * y) = z := by rw [hz]; exact IntWalk.i64_in _ ⟨by omega, by omega⟩
                rw [hz] at hmul HS3
                obtain ⟨sz, hsz⟩ : ∃ sz, s + z = sz := ⟨_, rfl⟩
                have hw2 : IntKind.i64.wrap (s + z) = sz := by rw [hsz]; exact IntWalk.i64_in _ ⟨by omega, by omega⟩
                have hsz2 : 0 ≤ sz ∧ sz ≤ 200000000 := by omega
                rw [hsz] at HS3
                have hr : sz.tmod p = sz % p := Int.tmod_eq_emod_of_nonneg (by omega)
                have hr1 : 0 ≤ sz % p := Int.emod_nonneg _ (by omega)
                have hr2 : sz % p < p := Int.emod_lt_of_pos _ (by omega)
                have hw3 : IntKind.i64.wrap (sz % p) = sz % p := IntWalk.i64_in _ ⟨by omega, by omega⟩
                have i5 : (j : Int) < (m : Int) := by omega
                have i6 : (0 : Int) ≤ (j : Int) := by omega
                have i7 : (j : Int) < (k : Int) := by omega
                clear hu u2 hbb hbw hbq hz hsz hx hy hmul hs1 hs2
                go_wp2_with fail
                go_quiet (fail)
                go_wp2_with fail
                go_roundw
                case rel => exact ⟨j + 1, by go_num, by omega, by rw [HS3.out], below_drewN HBQ.out nq⟩
                case measure => simp [intOf]; omega
              · obtain rfl : j = k := by omega
                have hd2 : decide ((j : Int) < (j : Int)) = false := decide_eq_false (by omega)
                have hs1 := Int.emod_nonneg (sumTo (fun a => xx a * f a j) j) hp0
                have hs2 := Int.emod_lt_of_pos (sumTo (fun a => xx a * f a j) j) (show 0 < p by omega)
                generalize sumTo (fun a => xx a * f a j) j % p = dv at hs1 hs2 HSM2 ⊢
                have hw1 : IntKind.i64.wrap (p - dv) = p - dv := IntWalk.i64_in _ ⟨by omega, by omega⟩
                obtain ⟨y, hy⟩ : ∃ y, (p - dv) % p = y := ⟨_, rfl⟩
                rw [hy] at HSM2
                have hr : (p - dv).tmod p = y := by rw [← hy]; exact Int.tmod_eq_emod_of_nonneg (by omega)
                have hq1 : 0 ≤ y := by rw [← hy]; exact Int.emod_nonneg _ (by omega)
                have hq2 : y < p := by rw [← hy]; exact Int.emod_lt_of_pos _ (by omega)
                have hw3 : IntKind.i64.wrap y = y := IntWalk.i64_in _ ⟨by omega, by omega⟩
                have HO3 := Lib.hid (HJ.out.own.below hbq)
                have hlen : (serL p f j q).length = q + 2 := serL_len p f j q
                have hs0 := HJ.out.b.size
                have hsq := HBQ.out.size
                have hmk := fun W => make_ints j (by omega) W
                clear hy hbw hbq
                go_wp2_with (at_builtin; refine wpList_append_own _ rfl (.tmp 90) (.tmp 96) 28 rfl wr.heap.size 3 i0 (.int .i64 0) 1 8 Try.underlying28 hi0 hz0 hz1 hz2 rfl (by decide) _ _ _ rfl (by have := World.ownsRow.alloc HO3.out (.cells #[.int .i64 y] 3); rw [hlen] at this; exact this) ⟨wq.heap.size, 0, none⟩ 1 1 [.int .i64 y] rfl rfl (cell_one_new _ _ _) (by simp [Value.oneCell']) (by unfold maxLen; omega) (by omega) (by simp; omega) ?_; intro v1 w3 hown hgrow _; have HGRW := Lib.hid hgrow; have HOWN := Lib.hid hown; clear hown hgrow)
                clear hmk
                obtain ⟨A8, c8, rfl⟩ := owned_form HOWN.out
                have hsz3 := HGRW.out.size
                have hsza : (wq.alloc (.cells #[.int .i64 y] 3)).heap.size = wq.heap.size + 1 := by simp
                have HB3 := Lib.hid (show Below wr.heap.size wq w3 from ((Below.refl wr.heap.size wq).alloc (by omega) _).grown HGRW.out (by omega) (fun g hg => (HO3.out.lt g hg).1))
                have HBW3 := Lib.hid (show Below wr.heap.size wr w3 from HBJ.out _ ((HJ.out.b.trans (HBQ.out.mono hs0)).trans HB3.out))
                have HRC3 := Lib.hid (fun (W : World) (h : Below w3.heap.size w3 W) i (hi : i < j) => (show W.cell? ⟨br, or_ + i, none⟩ = some (.int .i64 (xx i)) from
                  ((h.cell (p := ⟨br, or_ + i, none⟩) (by show br < _; omega)).trans (World.cell?_of_block (by
                    show w3.heap[br]? = wq.heap[br]?
                    rw [HGRW.out.block br (by omega) (by exact fun e => hrne e.symm), (World.grownBy_alloc wq (.cells #[.int .i64 y] 3) none).block br (by omega) (by simp)]))).trans (HRC2.out _ HBQ.out i hi)))
                have HST := Lib.hid (show Row (w3.alloc (.cells (CTab j fun _ => .int .i64 0) 3)) w3.heap.size 3 (CTab j (iv (stV p (tW xx f) (fun _ => j) 0 0))) from by rw [stV_zero (fun _ => j) (tW_zero xx f)]; exact row_new rfl _ _)
                have HBT := Lib.hid ((Below.refl w3.heap.size w3).alloc (Nat.le_refl _) (.cells (CTab j fun _ => .int .i64 0) 3))
                generalize w3.alloc (.cells (CTab j fun _ => .int .i64 0) 3) = w4' at HST HBT ⊢
                clear hs1 hs2 hw1 hr hw3 hsz3 hsza hs0 hsq
                go_loopw [15] (fun t15 wt => ∃ a : Nat, t15 = .int .i64 a ∧ a ≤ j ∧ Row wt w3.heap.size 3 (CTab j (iv (stV p (tW xx f) (fun _ => j) a 0))) ∧ Below w3.heap.size w3 wt) (fun t15 _ => j - (intOf t15).toNat)
                case atStart => exact ⟨0, rfl, Nat.zero_le _, HST.out, HBT.out⟩
                case round =>
                  obtain ⟨a, rfl, ha, hR, hB⟩ := hrel
                  rename World => wt
                  have HR := Lib.hid hR
                  have HBt := Lib.hid hB
                  clear hR hB
                  by_cases haj : a < j
                  · have hd3 : decide ((a : Int) < (j : Int)) = true := decide_eq_true (by omega)
                    go_wp2_with fail
                    go_loopw [16] (fun t16 wt => ∃ b : Nat, t16 = .int .i64 b ∧ b ≤ j ∧ Row wt w3.heap.size 3 (CTab j (iv (stV p (tW xx f) (fun _ => j) a b))) ∧ Below w3.heap.size w3 wt) (fun t16 _ => j - (intOf t16).toNat)
                    case atStart => exact ⟨0, rfl, Nat.zero_le _, HR.out, HBt.out⟩
                    case round =>
                      obtain ⟨b, rfl, hb, hR, hB⟩ := hrel
                      rename World => wu
                      by_cases hbj : b < j
                      · have hd4 : decide ((b : Int) < (j : Int)) = true := decide_eq_true (by omega)
                        obtain ⟨c1, hbb⟩ := HKB.out _ (HB.out.trans ((HBW3.out.trans (hB.mono HBW3.out.size)).mono HB.out.size))
                        obtain ⟨ub, uo, uc, -, -, hu⟩ := HRW.out b (by omega)
                        obtain ⟨u1, u2⟩ := hu _ hbb
                        have u3 := u2 a (by omega)
                        have v1 := HRC3.out _ hB b hbj
                        have e3 : wu.cell? ⟨w3.heap.size, a, none⟩ = some (.int .i64 (tW xx f a b % p)) := hR.cell ((CTab_get _ _ a haj).trans (by show some (Value.int .i64 (stV p (tW xx f) (fun _ => j) a b a)) = _; rw [stV_at]))
                        have e4 := hR.frozen a
                        have hx := HXI2.out b
                        have hy := HIN.out b (by omega) a (by omega)
                        have hmul := mul_in (a := xx b) (b := f b a) (p := p) (q := p) ⟨hx.1, by omega⟩ ⟨hy.1, by omega⟩ (by omega) (by omega)
                        have HS3 := Lib.hid (tW_succ xx f p a b)
                        have hs1 := Int.emod_nonneg (tW xx f a b) hp0
                        have hs2 := Int.emod_lt_of_pos (tW xx f a b) (show 0 < p by omega)
                        have HN := Lib.hid (show Row (wu.setCell ⟨w3.heap.size, a, none⟩ (.int .i64 (tW xx f a (b + 1) % p))) w3.heap.size 3 (CTab j (iv (stV p (tW xx f) (fun _ => j) a (b + 1)))) from by
                          have := hR.set a (.int .i64 (tW xx f a (b + 1) % p))
                          rwa [stV_upd] at this)
                        have HNB := Lib.hid (fun y => hB.setCell (p := ⟨w3.heap.size, a, none⟩) (Nat.le_refl _) (.int .i64 y))
                        generalize tW xx f a b % p = s at hs1 hs2 HS3 e3
                        generalize f b a = y at u3 hmul HS3 hy
                        generalize xx b = xv at v1 hmul HS3 hx
                        obtain ⟨z, hz⟩ : ∃ z, xv * y = z := ⟨_, rfl⟩
                        have hw1 : IntKind.i64.wrap (xv * y) = z := by rw [hz]; exact IntWalk.i64_in _ ⟨by omega, by omega⟩
                        rw [hz] at hmul HS3
                        obtain ⟨sz, hsz⟩ : ∃ sz, s + z = sz := ⟨_, rfl⟩
                        have hw2 : IntKind.i64.wrap (s + z) = sz := by rw [hsz]; exact IntWalk.i64_in _ ⟨by omega, by omega⟩
                        have hsz2 : 0 ≤ sz ∧ sz ≤ 200000000 := by omega
                        rw [hsz] at HS3
                        have hr : sz.tmod p = sz % p := Int.tmod_eq_emod_of_nonneg (by omega)
                        have hr1 : 0 ≤ sz % p := Int.emod_nonneg _ (by omega)
                        have hr2 : sz % p < p := Int.emod_lt_of_pos _ (by omega)
                        have hw3 : IntKind.i64.wrap (sz % p) = sz % p := IntWalk.i64_in _ ⟨by omega, by omega⟩
                        rw [← HS3.out] at HN
                        have i3 : (a : Int) < (m : Int) := by omega
                        have i4 : (0 : Int) ≤ (a : Int) := by omega
                        have i5 : (b : Int) < (m : Int) := by omega
                        have i6 : (0 : Int) ≤ (b : Int) := by omega
                        have i7 : (b : Int) < (j : Int) := by omega
                        have i8 : (a : Int) < (j : Int) := by omega
                        clear hu u2 hbb hz hsz hx hy hmul hs1 hs2 hR hB
                        go_wp2_with fail
                        go_still_tail 23, (by kernel_rfl)
                        repeat still_step
                        first | (change wpList _ _ _ _ _ wu.drew) | (refine wpStill_nil ?_; change wpList _ _ _ _ _ wu.drew)
                        go_wp2_with fail
                        go_roundw
                        case rel => exact ⟨b + 1, by go_num, by omega, HN.out, (HNB.out _).trans (below_drew (Below.refl _ _))⟩
                        case measure => simp [intOf]; omega
                      · have e : b = j := by omega
                        have hd4 : decide ((b : Int) < (j : Int)) = false := decide_eq_false (by omega)
                        have HN := Lib.hid (show Row wu w3.heap.size 3 (CTab j (iv (stV p (tW xx f) (fun _ => j) (a + 1) 0))) from by
                          rw [stV_next (L := fun _ => j) (tW_zero xx f) a b e] at hR
                          exact hR)
                        have HNB := Lib.hid hB
                        clear hR hB
                        go_wp2_with fail
                        go_roundw
                        case rel => exact ⟨a + 1, by go_num, by omega, HN.out, HNB.out⟩
                        case measure => simp [intOf]; omega
                  · have e : a = j := by omega
                    have hd3 : decide ((a : Int) < (j : Int)) = false := decide_eq_false (by omega)
                    have HVN := Lib.hid (show Vec wt (New w3 wt) (.slice (some ⟨w3.heap.size, 0, none⟩) j j) j (fun b => rowP f j (q + 1) b % p) from
                      (HR.out.vec ⟨Nat.le_refl _, HR.out.lt⟩ (Nat.le_refl _)).congr fun b hb => by
                        rw [stV_end (by omega)]
                        exact HRM.out b)
                    have HN := Lib.hid (serj_step HJ.out hql HBQ.out HO3.out HSM2.out HOWN.out HGRW.out HBt.out HVN.out)
                    go_wp2_with fail
                    go_roundw
                    case rel => exact ⟨q + 1, by go_num, HN.out⟩
                    case measure => simp [intOf]; omega
          · have hqi : q = k := by omega
            subst hqi
            have hd : decide ((q : Int) < (q : Int)) = false := decide_eq_false (by omega)
            have HE := Lib.hid (show Vec wj (New w5 wj) (.slice Al (q + 2) cl) (q + 2) (fun j => sK f q j % p) from by
              have := hJ.own.vec (S := New w5 wj) (fun g hg => ⟨by have := (hJ.own.lt g hg).1; have := HB.out.size; omega, (hJ.own.lt g hg).2⟩)
              rw [serL_len] at this
              exact this.congr fun j hj => serL_get p f q q j hj)
            have HBE := Lib.hid (HBJ.out _ hJ.b)
            have hmk := fun W => make_ints (q + 2) (by omega) W
            rw [show ((q + 2 : Nat) : Int) = (q : Int) + 2 by omega] at hmk
            have k10 : IntKind.i64.wrap ((q : Int) + 2) = (q : Int) + 2 := IntWalk.i64_in _ ⟨by omega, by omega⟩
            clear hJ HJ0
            go_wp2_with fail
            clear hmk
            obtain ⟨be, oe, ce, eqe, hce, heS, hecl⟩ := HE.out.at_ (by omega)
            injection eqe with eqe1 _ eqe3
            subst eqe1
            clear eqe3
            have HEC := Lib.hid (fun (W : World) (h : Below wj.heap.size wj W) j (hj : j < q + 2) => (show W.cell? ⟨be, oe + j, none⟩ = some (.int .i64 (sK f q j % p)) from (h.cell (p := ⟨be, oe + j, none⟩) heS.2).trans (hecl j hj)))
            have HCE := Lib.hid (fun (W : World) (h : Below wj.heap.size wj W) j (hj : j < q + 1) => HCV.out W (HBE.out.trans (h.mono HBE.out.size)) j hj)
            have HBX := Lib.hid (HB.out.trans (HBE.out.mono HB.out.size))
            have HST := Lib.hid (show Row (wj.alloc (.cells (CTab (q + 2) fun _ => .int .i64 0) 3)) wj.heap.size 3 (CTab (q + 2) (iv (stV p (tN p f q) (lN q) 0 0))) from by rw [stV_zero (lN q) (tN_zero p f q)]; exact row_new rfl _ _)
            have HBT := Lib.hid ((Below.refl wj.heap.size wj).alloc (Nat.le_refl _) (.cells (CTab (q + 2) fun _ => .int .i64 0) 3))
            generalize wj.alloc (.cells (CTab (q + 2) fun _ => .int .i64 0) 3) = w4' at HST HBT ⊢
            clear HE hecl HCV HBE HBJ
            go_loopw [18] (fun t18 wt => ∃ a : Nat, t18 = .int .i64 a ∧ a ≤ q + 2 ∧ Row wt wj.heap.size 3 (CTab (q + 2) (iv (stV p (tN p f q) (lN q) a 0))) ∧ Below wj.heap.size wj wt) (fun t18 _ => q + 2 - (intOf t18).toNat)
            case atStart => exact ⟨0, rfl, Nat.zero_le _, HST.out, HBT.out⟩
            case round =>
              obtain ⟨a, rfl, ha, hR, hB⟩ := hrel
              rename World => wt
              have HR := Lib.hid hR
              have HBt := Lib.hid hB
              clear hR hB
              by_cases haj : a < q + 2
              · have hd3 : decide ((a : Int) < ((q + 2 : Nat) : Int)) = true := decide_eq_true (by omega)
                have hd3' : decide ((a : Int) < (q : Int) + 2) = true := decide_eq_true (by omega)
                go_wp2_with fail
                go_loopw [19] (fun t19 wt => ∃ b : Nat, t19 = .int .i64 b ∧ b ≤ lN q a ∧ Row wt wj.heap.size 3 (CTab (q + 2) (iv (stV p (tN p f q) (lN q) a b))) ∧ Below wj.heap.size wj wt) (fun t19 _ => q + 2 - (intOf t19).toNat)
                case atStart => exact ⟨0, rfl, Nat.zero_le _, HR.out, HBt.out⟩
                case round =>
                  obtain ⟨b, rfl, hb, hR, hB⟩ := hrel
                  rename World => wu
                  have hln : lN q a = if a ≤ q then a + 1 else q + 1 := rfl
                  by_cases hbj : b < lN q a
                  · have hb1 : b ≤ a := by rw [hln] at hbj; split at hbj <;> omega
                    have hb2 : b < q + 1 := by rw [hln] at hbj; split at hbj <;> omega
                    have hd4 : decide ((b : Int) ≤ (a : Int)) = true := decide_eq_true (by omega)
                    have hd5 : decide ((b : Int) < ((q + 1 : Nat) : Int)) = true := decide_eq_true (by omega)
                    have hd5' : decide ((b : Int) < (q : Int) + 1) = true := decide_eq_true (by omega)
                    have v1 := HCE.out _ hB b hb2
                    have v2 := HEC.out _ hB (a - b) (by omega)
                    have e3 : wu.cell? ⟨wj.heap.size, a, none⟩ = some (.int .i64 (tN p f q a b % p)) := hR.cell ((CTab_get _ _ a haj).trans (by show some (Value.int .i64 (stV p (tN p f q) (lN q) a b a)) = _; rw [stV_at]))
                    have e4 := hR.frozen a
                    have hx : 0 ≤ sK f q (a - b) % p ∧ sK f q (a - b) % p < p := ⟨Int.emod_nonneg _ (by omega), Int.emod_lt_of_pos _ (by omega)⟩
                    have hy : 0 ≤ berk f q b % p ∧ berk f q b % p < p := ⟨Int.emod_nonneg _ (by omega), Int.emod_lt_of_pos _ (by omega)⟩
                    have hmul := mul_in (a := sK f q (a - b) % p) (b := berk f q b % p) (p := p) (q := p) ⟨hx.1, by omega⟩ ⟨hy.1, by omega⟩ (by omega) (by omega)
                    have HS3 := Lib.hid (tN_succ p f q a b)
                    have hs1 := Int.emod_nonneg (tN p f q a b) hp0
                    have hs2 := Int.emod_lt_of_pos (tN p f q a b) (show 0 < p by omega)
                    have HN := Lib.hid (show Row (wu.setCell ⟨wj.heap.size, a, none⟩ (.int .i64 (tN p f q a (b + 1) % p))) wj.heap.size 3 (CTab (q + 2) (iv (stV p (tN p f q) (lN q) a (b + 1)))) from by
                      have := hR.set a (.int .i64 (tN p f q a (b + 1) % p))
                      rwa [stV_upd] at this)
                    have HNB := Lib.hid (fun y => hB.setCell (p := ⟨wj.heap.size, a, none⟩) (Nat.le_refl _) (.int .i64 y))
                    have hab2 : (a : Int) - (b : Int) = ((a - b : Nat) : Int) := by omega
                    have hwab : IntKind.i64.wrap ((a : Int) - (b : Int)) = ((a - b : Nat) : Int) := by rw [hab2]; exact IntWalk.i64_in _ ⟨by omega, by omega⟩
                    clear hab2
                    generalize tN p f q a b % p = s at hs1 hs2 HS3 e3
                    generalize sK f q (a - b) % p = xv at v2 hmul HS3 hx
                    generalize berk f q b % p = y at v1 hmul HS3 hy
                    generalize hdd : a - b = dd at v2 hwab
                    have hdd1 : dd < q + 2 := by omega
                    obtain ⟨z, hz⟩ : ∃ z, xv * y = z := ⟨_, rfl⟩
                    have hw1 : IntKind.i64.wrap (xv * y) = z := by rw [hz]; exact IntWalk.i64_in _ ⟨by omega, by omega⟩
                    rw [hz] at hmul HS3
                    obtain ⟨sz, hsz⟩ : ∃ sz, s + z = sz := ⟨_, rfl⟩
                    have hw2 : IntKind.i64.wrap (s + z) = sz := by rw [hsz]; exact IntWalk.i64_in _ ⟨by omega, by omega⟩
                    have hsz2 : 0 ≤ sz ∧ sz ≤ 200000000 := by omega
                    rw [hsz] at HS3
                    have hr : sz.tmod p = sz % p := Int.tmod_eq_emod_of_nonneg (by omega)
                    have hr1 : 0 ≤ sz % p := Int.emod_nonneg _ (by omega)
                    have hr2 : sz % p < p := Int.emod_lt_of_pos _ (by omega)
                    have hw3 : IntKind.i64.wrap (sz % p) = sz % p := IntWalk.i64_in _ ⟨by omega, by omega⟩
                    rw [← HS3.out] at HN
                    have i4 : (0 : Int) ≤ (a : Int) := by omega
                    have i6 : (0 : Int) ≤ (b : Int) := by omega
                    have i7 : (b : Int) < ((q + 1 : Nat) : Int) := by omega
                    have i8 : (a : Int) < ((q + 2 : Nat) : Int) := by omega
                    have i9 : (0 : Int) ≤ (dd : Int) := by omega
                    have i10 : (dd : Int) < ((q + 2 : Nat) : Int) := by omega
                    have i7' : (b : Int) < (q : Int) + 1 := by omega
                    have i8' : (a : Int) < (q : Int) + 2 := by omega
                    have i10' : (dd : Int) < (q : Int) + 2 := by omega
                    clear hz hsz hx hy hmul hs1 hs2 hR hB hdd
                    go_wp2_with fail
                    go_still_tail 21, (by kernel_rfl)
                    repeat still_step
                    first | (change wpList _ _ _ _ _ wu.drew) | (refine wpStill_nil ?_; change wpList _ _ _ _ _ wu.drew)
                    go_wp2_with fail
                    go_roundw
                    case rel => exact ⟨b + 1, by go_num, by omega, HN.out, (HNB.out _).trans (below_drew (Below.refl _ _))⟩
                    case measure => simp [intOf]; rw [hln] at hbj; split at hbj <;> omega
                  · have e : b = lN q a := by omega
                    have HN := Lib.hid (show Row wu wj.heap.size 3 (CTab (q + 2) (iv (stV p (tN p f q) (lN q) (a + 1) 0))) from by
                      rw [stV_next (tN_zero p f q) a b e] at hR
                      exact hR)
                    have HNB := Lib.hid hB
                    clear hR hB
                    by_cases hba : b ≤ a
                    · have hd4 : decide ((b : Int) ≤ (a : Int)) = true := decide_eq_true (by omega)
                      have hbq : ¬ b < q + 1 := by rw [hln] at e; split at e <;> omega
                      have hd5 : decide ((b : Int) < ((q + 1 : Nat) : Int)) = false := decide_eq_false (by omega)
                      have hd5' : decide ((b : Int) < (q : Int) + 1) = false := decide_eq_false (by omega)
                      clear e hln
                      go_wp2_with fail
                      go_roundw
                      case rel => exact ⟨a + 1, by go_num, by omega, HN.out, HNB.out⟩
                      case measure => simp [intOf]; omega
                    · have hd4 : decide ((b : Int) ≤ (a : Int)) = false := decide_eq_false (by omega)
                      clear e hln
                      go_wp2_with fail
                      go_roundw
                      case rel => exact ⟨a + 1, by go_num, by omega, HN.out, HNB.out⟩
                      case measure => simp [intOf]; omega
              · have e : a = q + 2 := by omega
                have hd3 : decide ((a : Int) < ((q + 2 : Nat) : Int)) = false := decide_eq_false (by omega)
                have hd3' : decide ((a : Int) < (q : Int) + 2) = false := decide_eq_false (by omega)
                have HVN := Lib.hid (show Vec wt (New w5 wt) (.slice (some ⟨wj.heap.size, 0, none⟩) (q + 2) (q + 2)) (q + 1 + 1) (fun b => berk f (q + 1) b % p) from
                  (HR.out.vec (S := New w5 wt) ⟨HBX.out.size, HR.out.lt⟩ (Nat.le_refl _)).congr fun b hb => by
                    rw [stV_end (by omega)]
                    exact tN_berk f q b hb)
                have HNB := Lib.hid (HBX.out.trans (HBt.out.mono HBX.out.size))
                go_wp2_with fail
                go_roundw
                case rel => exact ⟨q + 1, by go_num, by omega, HVN.out, HNB.out⟩
                case measure => simp [intOf]; omega
      · obtain rfl : m = k := by omega
        have hd : decide ((m : Int) < (m : Int)) = false := decide_eq_false (by omega)
        have HS0 := Lib.hid (show OwnsI wr wr.heap.size (.slice none 0 0) ((List.range 0).map (polyF p f m)) from World.ownsRow_nil _ _ _ _)
        go_wp2_with fail
        go_loopw [20, 21] (fun t20 t21 wo => ∃ i : Nat, t21 = .int .i64 ((i : Int) - 1) ∧ i ≤ m + 1 ∧ OwnsI wo wr.heap.size t20 ((List.range (m + 1 - i)).map (polyF p f m)) ∧ Below wr.heap.size wr wo) (fun _ t21 _ => (intOf t21 + 1).toNat)
        case atStart => exact ⟨m + 1, by go_num, Nat.le_refl _, by rw [Nat.sub_self]; exact HS0.out, Below.refl _ _⟩
        case round =>
          obtain ⟨i, rfl, hi, hO, hbo⟩ := hrel
          rename World => wo
          have HO := Lib.hid hO
          have HBO := Lib.hid hbo
          clear hO hbo
          cases i with
          | zero =>
            have hd : decide ((((0 : Nat) : Int) - 1) ≥ 0) = false := by decide
            have HE := Lib.hid (show ∀ (v : Value) (e : Ending), OwnsI wo wr.heap.size v ((List.range (m + 1 - 0)).map (polyF p f m)) → e = Ending.returned (.tuple #[v, .int .i64 0]) → PolyP w 0 p m f e wo from fun v e ho he => by
              refine ⟨HB5.out.trans ((HB.out.trans (HBO.out.mono HB.out.size)).mono HB5.out.size), fun h => absurd rfl h, fun _ => ⟨v, he, ?_⟩⟩
              refine ho.vecL.more fun b hb => ⟨?_, hb.2⟩
              have h1 := hb.1
              have h2 := HB5.out.size
              have h3 := HB.out.size
              omega)
            rw [HPP.out] at HE
            go_wp2_with fail
            exact HE.out _ _ HO.out rfl
          | succ i =>
            rw [show ((i + 1 : Nat) : Int) - 1 = (i : Int) by omega]
            have hd0 : decide ((i : Int) ≥ 0) = true := decide_eq_true (by omega)
            have h0 : (0 : Int) ≤ i := by omega
            have h00 : (i : Int) < ((m + 1 : Nat) : Int) := by omega
            have hcl := HCV.out _ HBO.out i (by omega)
            have HPE := Lib.hid (show polyF p f m (m - i) = berk f m i % p from by unfold polyF; rw [show m - (m - i) = i by omega])
            generalize berk f m i % p = y at hcl HPE
            have hlen : ((List.range (m + 1 - (i + 1))).map (polyF p f m)).length = m - i := by simp
            have hss := HBO.out.size
            go_wp2_with (at_builtin; refine wpList_append_own _ rfl (.tmp 181) (.tmp 186) 28 rfl wr.heap.size 3 i0 (.int .i64 0) 1 8 Try.underlying28 hi0 hz0 hz1 hz2 rfl (by decide) _ _ _ rfl (World.ownsRow.alloc HO.out _) ⟨wo.heap.size, 0, none⟩ 1 1 [.int .i64 y] rfl rfl (cell_one_new _ _ _) (by simp [Value.oneCell']) (by unfold maxLen; omega) (by omega) (by simp; omega) ?_; intro v1 w1 hown' hgrow _)
            have HB1 := Lib.hid ((HBO.out.alloc hss _).grown hgrow (by simp; omega) (fun q hq => (HO.out.lt q hq).1))
            have hx : OwnsI w1 wr.heap.size v1 ((List.range (m + 1 - i)).map (polyF p f m)) := by
              unfold OwnsI
              rw [show m + 1 - i = m - i + 1 by omega, List.range_succ, List.map_append, icells_append, List.length_append]
              rw [show m + 1 - (i + 1) = m - i by omega] at hown'
              simpa [icells, HPE.out] using hown'
            have HX := Lib.hid hx
            clear hx hown' hgrow
            go_wp2_with fail
            go_roundw
            case rel => exact ⟨i, by go_num, by omega, HX.out, HB1.out⟩
            case measure => simp [intOf]
  · have hd2 : (x != 0) = true := by simpa using hx0
    obtain ⟨A, c, rfl, hcm⟩ := ha.form
    have HB1 := Lib.hid (show Below w.heap.size w (w.alloc (.cells #[.int .i64 p, .slice A m c] 61)) from (Below.refl _ _).alloc (Nat.le_refl _) _)
    clear ha hn hx
    go_enter Try.func65, Try.ntmps65
    go_wp2_with fail
    refine (HC _ (HA.out.on HB1.out)).out.mono ?_
    rintro e w4 ⟨rfl, hb4⟩
    have HB4 := Lib.hid (HB1.out.trans (hb4.mono HB1.out.size))
    clear hb4
    go_wp2
    go_ret2
    exact ⟨HB4.out, fun _ => rfl, fun h => absurd h hx0⟩
end Go.Proofs.Ytokiejichnnmnaa

/- The reference of matrix: Det; size. -/
namespace Go.Proofs.Ytokiejichnnmnaa
open Go Go.RowKit Num

theorem det_odd {p : Int} {f : Nat → Nat → Int} {n : Nat} (hp : 1 < p) (hI : Invs p) (hf : InG p n n f) (hn : n % 2 = 1) : (p - polyF p f n 0) % p = detV p n f := by
  have h1 := polyF_odd hp hI hf hn
  have h2 := polyF_in (p := p) (by omega) f n 1 0 (by omega)
  have h3 := detV_in hp hI (Nat.le_refl n) hf
  generalize polyF p f n 0 = q at h1 h2 ⊢
  generalize detV p n f = d at h1 h3 ⊢
  by_cases hq : q = 0
  · subst hq
    rw [Int.zero_add, Int.emod_eq_of_lt h3.1 h3.2] at h1
    rw [h1, Int.sub_zero, Int.emod_self]
  · by_cases hs : q + d < p
    · rw [Int.emod_eq_of_lt (by omega) hs] at h1; omega
    · have e : (q + d) % p = (q + d - p) % p := by rw [Int.sub_emod_right]
      rw [e, Int.emod_eq_of_lt (by omega) (by omega)] at h1
      rw [Int.emod_eq_of_lt (by omega) (by omega)]
      omega

set_option maxRecDepth 100000 in
set_option maxHeartbeats 2000000 in
theorem rDet_any (ra : Value) (m : Nat) (n : Nat → Nat) (f : Nat → Nat → Int) (p : Int) (w : World) (hm : m ≤ 1000000) (hn : ∀ i, i < m → n i ≤ 1000000) (ha : Grid w (· < w.heap.size) ra m n f) (x : Int) (hx : x = chkS (chkM p m n f) m (n 0)) :
    Calls Try.prog 63 #[.agg #[.int .i64 p, ra]] w fun e w' => e = .returned (.tuple #[.int .i64 (if x = 0 then detV p m f else 0), .int .i64 x]) ∧ Below w.heap.size w w' := by
  have HP := fun W h => Lib.hid (rPoly_any ra m n f p W hm hn h x hx)
  have HA := Lib.hid ha
  obtain ⟨A, c, rfl, hcm⟩ := ha.form
  have HBX := Lib.hid (row_new (W := w) rfl 61 #[.int .i64 p, .slice A m c])
  have HB1 := Lib.hid (show Below w.heap.size w (w.alloc (.cells #[.int .i64 p, .slice A m c] 61)) from (Below.refl _ _).alloc (Nat.le_refl _) _)
  by_cases hx0 : x = 0
  · subst hx0
    obtain ⟨h1, h2⟩ := chkS_zero hx.symm
    obtain ⟨hmod, g1, g2, g3, g4, g5⟩ := chkM_zero h1
    obtain ⟨hp2, hp4, hp6⟩ := modB_true hmod
    have hIN : InG p m m f := fun i hi => by have := (g5 i hi).2; rw [(g5 i hi).1, ← h2] at this; exact this
    have HV := Lib.hid (show (m % 2 = 1 → (p - polyF p f m 0) % p = detV p m f) ∧ (¬ m % 2 = 1 → polyF p f m 0 = detV p m f) from
      ⟨det_odd (by omega) (invs_mod hmod) hIN, fun h => polyF_even (by omega) (invs_mod hmod) hIN (by omega)⟩)
    have hq := polyF_in (p := p) (by omega) f m 1 0 (by omega)
    rw [if_pos rfl]
    clear ha hn g5 hmod h1 hx h2 hIN hp6
    generalize detV p m f = d at HV ⊢
    have hp0 : ¬ p = 0 := by omega
    have hp0' : (p != 0) = true := by simp; omega
    go_enter Try.func63, Try.ntmps63
    go_wp2_with fail
    refine (HP _ (HA.out.on HB1.out)).out.mono ?_
    rintro e w4 ⟨hb4, -, h0⟩
    obtain ⟨r, rfl, hv⟩ := h0 rfl
    obtain ⟨br, or_, cr, rfl, hcr, hrS, hrcl⟩ := hv.at_ (by omega)
    have r0 := hrcl 0 (by omega)
    rw [Nat.add_zero] at r0
    have HB4 := Lib.hid (HB1.out.trans (hb4.mono HB1.out.size))
    have HR4 := Lib.hid (HBX.out.below hb4 HBX.out.lt)
    have c0 := HR4.out.cell (i := 0) rfl
    have c1 := HR4.out.cell (i := 1) rfl
    clear hb4 h0 hv hrcl HP HA HBX HB1
    generalize polyF p f m 0 = q at r0 hq HV
    by_cases ho : m % 2 = 1
    · have hm2 : (m : Int).tmod 2 = 1 := by rw [Int.tmod_eq_emod_of_nonneg (by omega)]; omega
      have hm3 : (m : Int) % 2 = 1 := by omega
      have hw1 : IntKind.i64.wrap (p - q) = p - q := IntWalk.i64_in _ ⟨by omega, by omega⟩
      have hd := HV.out.1 ho
      have hr : (p - q).tmod p = d := by rw [← hd]; exact Int.tmod_eq_emod_of_nonneg (by omega)
      have hq1 : 0 ≤ d := by rw [← hd]; exact Int.emod_nonneg _ (by omega)
      have hq2 : d < p := by rw [← hd]; exact Int.emod_lt_of_pos _ (by omega)
      have hw3 : IntKind.i64.wrap d = d := IntWalk.i64_in _ ⟨by omega, by omega⟩
      have h01 : decide ((0 : Int) < ((m + 1 : Nat) : Int)) = true := decide_eq_true (by omega)
      have h02 : (0 : Int) < ((m + 1 : Nat) : Int) := by omega
      have h03 : (0 : Int) < (m : Int) + 1 := by omega
      clear hd HV
      go_wp2_with fail
      go_quiet (fail)
      go_wp2_with fail
      go_ret2
      exact ⟨rfl, below_drewN HB4.out nq⟩
    · have hm2 : (m : Int).tmod 2 = 0 := by rw [Int.tmod_eq_emod_of_nonneg (by omega)]; omega
      have hm3 : (m : Int) % 2 = 0 := by omega
      have h02 : (0 : Int) < ((m + 1 : Nat) : Int) := by omega
      have h03 : (0 : Int) < (m : Int) + 1 := by omega
      have hd := HV.out.2 ho
      subst hd
      clear HV
      go_wp2_with fail
      go_ret2
      exact ⟨rfl, HB4.out⟩
  · have hd2 : (x != 0) = true := by simpa using hx0
    rw [if_neg hx0]
    clear ha hn hx
    go_enter Try.func63, Try.ntmps63
    go_wp2_with fail
    refine (HP _ (HA.out.on HB1.out)).out.mono ?_
    rintro e w4 ⟨hb4, h0, -⟩
    rw [h0 hx0]
    have HB4 := Lib.hid (HB1.out.trans (hb4.mono HB1.out.size))
    clear hb4 h0
    go_wp2
    go_ret2
    exact ⟨rfl, HB4.out⟩

theorem rsize_any (n : Int) (w : World) (h1 : -9223372036854775808 ≤ n) (h2 : n ≤ 9223372036854775807) :
    Calls Try.prog 133 #[.int .i64 n] w fun e w' => e = .returned (.int .u64 n.natAbs) ∧ w' = w := by
  by_cases hn : n < 0
  · have hd : decide (n < 0) = true := decide_eq_true hn
    have hw : IntKind.u64.wrap n = n + 18446744073709551616 := by rw [IntKind.wrap_u64]; omega
    have hw2 : IntKind.u64.wrap (-(n + 18446744073709551616)) = (n.natAbs : Int) := by rw [IntKind.wrap_u64]; omega
    go_enter Try.func133, Try.ntmps133
    go_wp2_with fail
    go_ret
    exact ⟨rfl, rfl⟩
  · have hd : decide (n < 0) = false := decide_eq_false hn
    have hw : IntKind.u64.wrap n = (n.natAbs : Int) := by rw [IntKind.wrap_u64]; omega
    go_enter Try.func133, Try.ntmps133
    go_wp2_with fail
    go_ret
    exact ⟨rfl, rfl⟩
end Go.Proofs.Ytokiejichnnmnaa

/- The reference of matrix: Pow. -/
namespace Go.Proofs.Ytokiejichnnmnaa
open Go Go.RowKit Num

/-- Between two rounds: a in its box Ta, the product in its box To, the result's box Tr. -/
structure PwR (w : World) (Ta Tr To : Nat) (p : Int) (m : Nat) (r s : Nat → Nat → Int) (wr : World) : Prop where
  b : Below w.heap.size w wr
  ra : ∃ A c, Row wr Ta 61 #[.int .i64 p, .slice A m c] ∧ Grid wr (fun b => b < wr.heap.size ∧ b ≠ Ta ∧ b ≠ To) (.slice A m c) m (fun _ => m) s
  ro : ∃ A c, Row wr To 61 #[.int .i64 p, .slice A m c] ∧ Grid wr (fun b => w.heap.size ≤ b ∧ b < wr.heap.size ∧ b ≠ Ta ∧ b ≠ To ∧ b ≠ Tr) (.slice A m c) m (fun _ => m) r
  res : Row wr Tr 61 #[.int .i64 0, .slice none 0 0]
/-- What a call leaves; then the store into To. -/
theorem PwR.putO {w wr w' : World} {Ta Tr To : Nat} {p : Int} {m : Nat} {r s F : Nat → Nat → Int} {A1 : Option Addr} {c1 : Nat} (h : PwR w Ta Tr To p m r s wr) (ho : w.heap.size ≤ To) (h1 : Ta ≠ To) (h2 : Tr ≠ To) (h3 : Ta < wr.heap.size) (h4 : Tr < wr.heap.size) (h5 : To < wr.heap.size)
    (hg : Grid w' (New wr w') (.slice A1 m c1) m (fun _ => m) F) (hb : Below wr.heap.size wr w') :
    PwR w Ta Tr To p m F s ((w'.setCell ⟨To, 0, none⟩ (.int .i64 p)).setCell ⟨To, 1, none⟩ (.slice A1 m c1)) := by
  obtain ⟨A, c, q1, q2⟩ := h.ra
  obtain ⟨B, d, q3, -⟩ := h.ro
  have hsz := hb.size
  have hwz := h.b.size
  refine ⟨setCell2_lo (h.b.trans (hb.mono hwz)) ho _ _, ⟨A, c, (((q1.below hb h3).far (p := ⟨To, 0, none⟩) h1 _).far (p := ⟨To, 1, none⟩) h1 _), ?_⟩, ⟨A1, c1, (q3.below hb h5).row_set _ _, ?_⟩, (((h.res.below hb h4).far (p := ⟨To, 0, none⟩) h2 _).far (p := ⟨To, 1, none⟩) h2 _)⟩
  · have := ((q2.below (fun b hb => hb.1) hb).set2 (R := To) (fun hh => hh.2.2 rfl) (.int .i64 p) (.slice A1 m c1))
    exact this.more fun b hh => ⟨by rw [size_set2]; have := hh.1; omega, hh.2⟩
  · have := hg.set2 (R := To) (fun hh => by have := hh.1; omega) (.int .i64 p) (.slice A1 m c1)
    exact this.more fun b hh => ⟨by have := hh.1; omega, by rw [size_set2]; exact hh.2, by have := hh.1; omega, by have := hh.1; omega, by have := hh.1; omega⟩
/-- The store into Ta. -/
theorem PwR.putA {w wr w' : World} {Ta Tr To : Nat} {p : Int} {m : Nat} {r s F : Nat → Nat → Int} {A1 : Option Addr} {c1 : Nat} (h : PwR w Ta Tr To p m r s wr) (ho : w.heap.size ≤ Ta) (h1 : Ta ≠ To) (h2 : Tr ≠ Ta) (h3 : Ta < wr.heap.size) (h4 : Tr < wr.heap.size) (h5 : To < wr.heap.size)
    (hg : Grid w' (New wr w') (.slice A1 m c1) m (fun _ => m) F) (hb : Below wr.heap.size wr w') :
    PwR w Ta Tr To p m r F ((w'.setCell ⟨Ta, 0, none⟩ (.int .i64 p)).setCell ⟨Ta, 1, none⟩ (.slice A1 m c1)) := by
  obtain ⟨A, c, q1, -⟩ := h.ra
  obtain ⟨B, d, q3, q4⟩ := h.ro
  have hsz := hb.size
  have hwz := h.b.size
  refine ⟨setCell2_lo (h.b.trans (hb.mono hwz)) ho _ _, ⟨A1, c1, (q1.below hb h3).row_set _ _, ?_⟩, ⟨B, d, (((q3.below hb h5).far (p := ⟨Ta, 0, none⟩) (Ne.symm h1) _).far (p := ⟨Ta, 1, none⟩) (Ne.symm h1) _), ?_⟩, (((h.res.below hb h4).far (p := ⟨Ta, 0, none⟩) h2 _).far (p := ⟨Ta, 1, none⟩) h2 _)⟩
  · have := hg.set2 (R := Ta) (fun hh => by have := hh.1; omega) (.int .i64 p) (.slice A1 m c1)
    exact this.more fun b hh => ⟨by rw [size_set2]; exact hh.2, by have := hh.1; omega, by have := hh.1; omega⟩
  · have := ((q4.below (fun b hb => hb.2.1) hb).set2 (R := Ta) (fun hh => hh.2.2.1 rfl) (.int .i64 p) (.slice A1 m c1))
    exact this.more fun b hh => ⟨hh.1, by rw [size_set2]; have := hh.2.1; omega, hh.2.2⟩

/-- One more round of the squares. -/
theorem pwGo_next {p : Int} {m k n : Nat} {r s : Nat → Nat → Int} (hn : n < 2 ^ k) (h0 : n ≠ 0) : ∃ k', k = k' + 1 ∧ n / 2 < 2 ^ k' ∧ pwGo p m k' (if n % 2 = 1 then mulF p m r s else r) (mulF p m s s) (n / 2) = pwGo p m k r s n := by
  cases k with
  | zero => simp at hn; omega
  | succ k =>
    refine ⟨k, rfl, by rw [Nat.pow_succ] at hn; omega, ?_⟩
    by_cases h : n / 2 = 0
    · rw [h]
      have e : ∀ (k : Nat) (r s : Nat → Nat → Int), pwGo p m k r s 0 = r := fun k r s => by
        cases k with
        | zero => rfl
        | succ k => unfold pwGo; simp
      rw [e]
      conv => rhs; unfold pwGo
      rw [if_pos h]
    · conv => rhs; unfold pwGo
      rw [if_neg h]
theorem pwGo_done {p : Int} {m : Nat} : ∀ (k : Nat) (r s : Nat → Nat → Int), pwGo p m k r s 0 = r := fun k r s => by
  cases k with
  | zero => rfl
  | succ k => unfold pwGo; simp

/-- What Pow gives for a matrix that passes. -/
def PowP (w : World) (p : Int) (m : Nat) (f : Nat → Nat → Int) (k : Int) (e : Ending) (w' : World) : Prop :=
  (k < 0 → detV p m (augF m f) = 0 → BadM w 15 e w') ∧ ((k < 0 → detV p m (augF m f) ≠ 0) → OkM w p m m (powZ p m f k) e w')

set_option maxRecDepth 100000 in
set_option maxHeartbeats 4000000 in
theorem rPow_ok (ra : Value) (m : Nat) (n : Nat → Nat) (f : Nat → Nat → Int) (p : Int) (k : Int) (w : World) (hk2 : -9223372036854775808 ≤ k) (hk3 : k ≤ 9223372036854775807) (hm : m ≤ 1000000) (hn : ∀ i, i < m → n i ≤ 1000000) (ha : Grid w (· < w.heap.size) ra m n f) (hx : 0 = chkS (chkM p m n f) m (n 0)) :
    Calls Try.prog 67 #[.agg #[.int .i64 p, ra], .int .i64 k] w (PowP w p m f k) := by
  have HC := fun W h => Lib.hid (rsquare_any ra m n f p W hm hn h)
  have HI := fun W h => Lib.hid (rInvM_any ra m n f p W hm hn h 0 hx)
  rw [← hx] at HC
  have HA := Lib.hid ha
  obtain ⟨A, c, rfl, hcm⟩ := ha.form
  have HX2 := Lib.hid (box2 w #[.int .i64 p, .slice A m c])
  obtain ⟨h1, h2⟩ := chkS_zero hx.symm
  obtain ⟨hmod, g1, g2, g3, g4, g5⟩ := chkM_zero h1
  obtain ⟨hp2, hp4, hp6⟩ := modB_true hmod
  have hIN : InG p m m f := fun i hi => by have := (g5 i hi).2; rw [(g5 i hi).1, ← h2] at this; exact this
  have HA2 := Lib.hid (grid_reg HA.out (fun i hi => ((g5 i hi).1).trans h2.symm))
  have HIV := Lib.hid (fun (h : detV p m (augF m f) ≠ 0) => (invF_left (by omega) (invs_of hp2 hp6) hIN (by rwa [detV_aug (by omega) (invs_of hp2 hp6) hIN] at h)).1)
  have HIN := Lib.hid hIN
  have HONE := Lib.hid (fun W => rone_any m p W g1 (by omega) hp2 (by omega))
  have HSZ := Lib.hid (fun W => rsize_any k W hk2 hk3)
  have HMUL := Lib.hid (fun (A1 : Option Addr) (c1 : Nat) (A2 : Option Addr) (c2 : Nat) (r s : Nat → Nat → Int) (W : World) (h1 : Grid W (· < W.heap.size) (.slice A1 m c1) m (fun _ => m) r) (h2 : Grid W (· < W.heap.size) (.slice A2 m c2) m (fun _ => m) s) (h3 : InG p m m r) (h4 : InG p m m s) =>
    rmul_any (.slice A1 m c1) (.slice A2 m c2) m m m r s p p W g1 (by omega) g1 (by omega) (by omega) hp2 (by omega) h1 h2 h3 h4)
  have HPO := Lib.hid (show ∀ e w', PowP w p m f k e w' → PowP w p m f k e w' from fun _ _ h => h)
  generalize hPP : PowP w p m f k = PP at HPO ⊢
  have HPP := Lib.hid hPP
  have hka : k.natAbs < 2 ^ 64 := by omega
  clear ha hn g5 hmod h1 hx h2 hIN hp6 hPP
  go_enter Try.func67, Try.ntmps67
  go_wp2_with fail
  generalize (w.alloc (.cells #[.int .i64 p, .slice A m c] 61)).alloc (.cells #[.int .i64 0, .slice none 0 0] 61) = w3 at HX2
  refine (HC _ (HA.out.on HX2.out.be)).out.mono ?_
  rintro e w4 ⟨rfl, hb4⟩
  obtain ⟨j1, j2, j3⟩ := HX2.out.on hb4
  have HB4 := Lib.hid j1
  have HR4 := Lib.hid j3
  have HQ4 := Lib.hid j2
  have c0 := j2.cell (i := 0) rfl
  have c1 := j2.cell (i := 1) rfl
  have hsz := j3.lt
  clear j1 j2 j3 hb4 HX2 HC
  by_cases hk0 : k < 0
  · have hdk : decide (k < 0) = true := decide_eq_true hk0
    go_wp2_with fail
    refine (HI _ (HA.out.on HB4.out)).out.mono ?_
    rintro e w5 hpost
    have hi := hpost.2 rfl
    by_cases hd : detV p m (augF m f) = 0
    · obtain ⟨rfl, hb⟩ := hi.1 hd
      have hb2 := hb.alloc hb.size (.cells #[.int .i64 0, .slice none 0 0] 61)
      have j3 := Row.below HR4.out hb2 HR4.out.lt
      have y0 := j3.cell (i := 0) rfl
      have y1 := j3.cell (i := 1) rfl
      have y2 := j3.frozen 0
      have y3 := j3.frozen 1
      have HE := Lib.hid (end_bad (w := w) (B := w.heap.size) (R := w.heap.size + 1) j3 (HB4.out.trans (hb2.mono HB4.out.size)) (Nat.le_succ _))
      have HD := Lib.hid hd
      clear hi hd hb hb2 j3 hpost c0 c1
      go_wp2_with fail
      obtain ⟨k3, k2⟩ := HE.out
      have hc0 := k3.cell (i := 0) rfl
      have hc1 := k3.cell (i := 1) rfl
      refine bodyPost_ret (v := .tuple #[.agg #[.int .i64 0, .slice none 0 0], .int .i64 15]) ?_ rfl ?_
      · simp [results, Try.results67, go_sem, hc0, hc1]
      · rw [← HPP.out]
        exact ⟨fun _ _ => ⟨rfl, k2⟩, fun h => absurd HD.out (h hk0)⟩
    · obtain ⟨r, rfl, hg, hb⟩ := hi.2 hd
      obtain ⟨A5, c5, rfl, -⟩ := hg.form
      have hGI := HIV.out hd
      have hb2 := hb.alloc hb.size (.cells #[.int .i64 p, .slice A5 m c5] 61)
      have j0 := (row_new (W := w5) rfl 61 #[.int .i64 p, .slice A5 m c5])
      have x0 := j0.cell (i := 0) rfl
      have x1 := j0.cell (i := 1) rfl
      have j2 := Row.below HQ4.out hb2 HQ4.out.lt
      have y0 := j2.cell (i := 0) rfl
      have y1 := j2.cell (i := 1) rfl
      have y2 := j2.frozen 0
      have y3 := j2.frozen 1
      have hs5 := hb.size
      have HB6 := Lib.hid (setCell2_lo (HB4.out.trans (hb2.mono HB4.out.size)) (Nat.le_refl _) (.int .i64 p) (.slice A5 m c5))
      have HQ6 := Lib.hid (j2.row_set (.int .i64 p) (.slice A5 m c5))
      have HR6 := Lib.hid (((Row.below HR4.out hb2 HR4.out.lt).far (p := ⟨w.heap.size, 0, none⟩) (by show w.heap.size + 1 ≠ w.heap.size; omega) (.int .i64 p)).far (p := ⟨w.heap.size, 1, none⟩) (by show w.heap.size + 1 ≠ w.heap.size; omega) (.slice A5 m c5))
      have hBS : Below w5.heap.size w5 (w5.alloc (.cells #[.int .i64 p, .slice A5 m c5] 61)) := (Below.refl w5.heap.size w5).alloc (Nat.le_refl _) _
      have hss := hBS.size
      have HG6 := Lib.hid (show Grid (((w5.alloc (.cells #[.int .i64 p, .slice A5 m c5] 61)).setCell ⟨w.heap.size, 0, none⟩ (.int .i64 p)).setCell ⟨w.heap.size, 1, none⟩ (.slice A5 m c5)) (fun b => b < (((w5.alloc (.cells #[.int .i64 p, .slice A5 m c5] 61)).setCell ⟨w.heap.size, 0, none⟩ (.int .i64 p)).setCell ⟨w.heap.size, 1, none⟩ (.slice A5 m c5)).heap.size ∧ b ≠ w.heap.size) (.slice A5 m c5) m (fun _ => m) (invF p m f) from by
        refine ((hg.below (fun b hb => hb.2) hBS).set2 (R := w.heap.size) (fun hh => by have := hh.1; omega) (.int .i64 p) (.slice A5 m c5)).more fun b hh => ⟨?_, ?_⟩
        · rw [size_set2]; have := hh.2; omega
        · have := hh.1; omega)
      have HPZ := Lib.hid (fun (e : Ending) (w' : World) (h : OkM w p m m (powF p m k.natAbs (invF p m f)) e w') => (show PP e w' from by
        rw [← HPP.out]
        refine ⟨fun _ h0 => absurd h0 hd, fun _ => ?_⟩
        unfold powZ
        rw [if_pos hk0]
        exact h))
      have HS0 := Lib.hid hGI
      generalize invF p m f = s0 at HG6 HPZ HS0
      clear hi hd hg hb hb2 j0 j2 hpost c0 c1 hBS hGI HA2 HPP HPO HIV HI HQ4 HR4 HB4 HA HIN
      have q0 := HQ6.out.cell (i := 0) rfl
      have q1 := HQ6.out.cell (i := 1) rfl
      go_wp2_with fail
      generalize ((w5.alloc (.cells #[.int .i64 p, .slice A5 m c5] 61)).setCell ⟨w.heap.size, 0, none⟩ (.int .i64 p)).setCell ⟨w.heap.size, 1, none⟩ (.slice A5 m c5) = w6 at HB6 HQ6 HR6 HG6 ⊢
      refine (HONE.out _).mono ?_
      rintro e w7 ⟨r7, rfl, hg7, hb7⟩
      obtain ⟨A7, c7, rfl, -⟩ := hg7.form
      have j0 := (row_new (W := w7) rfl 61 #[.int .i64 p, .slice A7 m c7])
      have x0 := j0.cell (i := 0) rfl
      have x1 := j0.cell (i := 1) rfl
      have x2 := j0.frozen 0
      have x3 := j0.frozen 1
      have hs6 := HB6.out.size
      have hs7 := hb7.size
      have hl6 := HR6.out.lt
      have hbS := (hb7.alloc hb7.size (.cells #[.int .i64 p, .slice A7 m c7] 61))
      have HPW := Lib.hid (show PwR w w.heap.size (w.heap.size + 1) w7.heap.size p m oneF s0 (w7.alloc (.cells #[.int .i64 p, .slice A7 m c7] 61)) from by
        refine ⟨HB6.out.trans (hbS.mono hs6), ⟨A5, c5, HQ6.out.below hbS (by omega), ?_⟩, ⟨A7, c7, j0, ?_⟩, HR6.out.below hbS hl6⟩
        · exact (HG6.out.below (fun b hb => hb.1) hbS).more fun b hb => ⟨by rw [World.size_alloc]; have := hb.1; omega, hb.2, by have := hb.1; omega⟩
        · have h1 : Grid (w7.alloc (.cells #[.int .i64 p, .slice A7 m c7] 61)) (New w6 w7) (.slice A7 m c7) m (fun _ => m) oneF := hg7.below (fun b hb => hb.2) ((Below.refl w7.heap.size w7).alloc (Nat.le_refl _) _)
          exact h1.more fun b hb => ⟨by have := hb.1; omega, by rw [World.size_alloc]; have := hb.2; omega, by have := hb.1; omega, by have := hb.2; omega, by have := hb.1; omega⟩)
      have hs8 : (w7.alloc (.cells #[.int .i64 p, .slice A7 m c7] 61)).heap.size = w7.heap.size + 1 := by rw [World.size_alloc]
      clear j0 hbS hg7 hb7 q0 q1
      go_wp2_with fail
      generalize w7.alloc (.cells #[.int .i64 p, .slice A7 m c7] 61) = w8 at HPW hs8 ⊢
      refine (HSZ.out _).mono ?_
      rintro e w9 ⟨rfl, hw9⟩
      subst hw9
      clear x0 x1 x2 x3 HB6 HQ6 HR6 HG6 HONE HSZ
      have hTo : w.heap.size + 1 < w7.heap.size := by omega
      generalize w7.heap.size = To at HPW hs8 hTo ⊢
      go_wp2_with fail
      go_loopw [10] (fun t10 wr => ∃ (fu nn : Nat) (r s : Nat → Nat → Int), t10 = .int .u64 (nn : Int) ∧ nn < 2 ^ fu ∧ fu ≤ 64 ∧ pwGo p m fu r s nn = powF p m k.natAbs s0 ∧ InG p m m r ∧ InG p m m s ∧ PwR w w.heap.size (w.heap.size + 1) To p m r s wr ∧ To < wr.heap.size) (fun t10 _ => (intOf t10).toNat)
      case atStart => exact ⟨64, k.natAbs, oneF, s0, rfl, hka, Nat.le_refl _, rfl, oneF_in (by omega), HS0.out, HPW.out, by omega⟩
      case round =>
        obtain ⟨fu, nn, r, s, rfl, hn1, hfu, hgo, hr, hs, hP, hto⟩ := hrel
        rename World => wr
        obtain ⟨Aa, ca, y1, y2⟩ := hP.ra
        obtain ⟨Ao, co, y3, y4⟩ := hP.ro
        have y5 := hP.res
        have HP := Lib.hid hP
        have HY2 := Lib.hid (y2.more (S' := (· < wr.heap.size)) fun b hb => hb.1)
        have HY4 := Lib.hid (y4.more (S' := (· < wr.heap.size)) fun b hb => hb.2.1)
        have hnb : nn < 18446744073709551616 := Nat.lt_of_lt_of_le hn1 (Nat.pow_le_pow_right (by omega) hfu)
        have a0 := y1.cell (i := 0) rfl
        have a1 := y1.cell (i := 1) rfl
        have o0 := y3.cell (i := 0) rfl
        have o1 := y3.cell (i := 1) rfl
        by_cases hn0 : nn = 0
        · subst hn0
          rw [pwGo_done] at hgo
          subst hgo
          have hdn : decide ((0 : Int) > 0) = false := by decide
          have z0 := y5.cell (i := 0) rfl
          have z1 := y5.cell (i := 1) rfl
          have z2 := y5.frozen 0
          have z3 := y5.frozen 1
          have HX := Lib.hid (agg_res y5 hP.b (show w.heap.size ≤ w.heap.size + 1 by omega) (.int .i64 p) (.slice Ao m co))
          have HGX := Lib.hid ((y4.set2 (R := w.heap.size + 1) (fun hh => hh.2.2.2.2 rfl) (.int .i64 p) (.slice Ao m co)).more (S' := New w ((wr.setCell ⟨w.heap.size + 1, 0, none⟩ (.int .i64 p)).setCell ⟨w.heap.size + 1, 1, none⟩ (.slice Ao m co))) fun b hh => ⟨hh.1, by rw [size_set2]; exact hh.2.1⟩)
          clear y1 y2 y3 y4 y5 hP HY2 HY4 hr hs
          go_wp2_with fail
          obtain ⟨k3, k2⟩ := HX.out
          have hc0 := k3.cell (i := 0) rfl
          have hc1 := k3.cell (i := 1) rfl
          refine bodyPost_ret (v := .tuple #[.agg #[.int .i64 p, .slice Ao m co], .int .i64 0]) ?_ rfl (HPZ.out _ _ ⟨_, rfl, HGX.out, k2⟩)
          simp [results, Try.results67, go_sem, hc0, hc1]
        · obtain ⟨fu', rfl, h1, h2⟩ := pwGo_next (p := p) (m := m) (r := r) (s := s) hn1 hn0
          rw [hgo] at h2
          have hdn : decide ((nn : Int) > 0) = true := decide_eq_true (by omega)
          have hq : IntKind.u64.wrap ((nn : Int) / 2) = ((nn / 2 : Nat) : Int) := by rw [IntKind.wrap_u64]; omega
          have H1 := Lib.hid h1
          have H2 := Lib.hid h2
          have HIR := Lib.hid hr
          have HIS := Lib.hid hs
          have HSS := Lib.hid (HMUL.out Aa ca Aa ca s s wr HY2.out HY2.out hs hs)
          have b0 := y3.frozen 0
          have b1 := y3.frozen 1
          have b2 := y1.frozen 0
          have b3 := y1.frozen 1
          clear hgo h1 h2 hn1 y2 y4 y5 hP
          by_cases ho : nn % 2 = 1
          · have hd : (((nn : Int) % 2) == 1) = true := by simp; omega
            have hd2 : (nn : Int) % 2 = 1 := by omega
            have HRS := Lib.hid (HMUL.out Ao co Aa ca r s wr HY4.out HY2.out hr hs)
            clear hr hs
            rw [if_pos ho] at H2
            go_wp2_with fail
            refine HRS.out.mono ?_
            rintro e wa ⟨r1, rfl, hg, hb⟩
            obtain ⟨A1, c1, rfl, -⟩ := hg.form
            have HN := Lib.hid (HP.out.putO (by omega) (by omega) (by omega) (by omega) (by omega) hto hg hb)
            have k3 := y3.below hb hto
            have e0 := k3.cell (i := 0) rfl
            have e1 := k3.cell (i := 1) rfl
            have e2 := k3.frozen 0
            have e3 := k3.frozen 1
            obtain ⟨Ab, cb, u1, u2⟩ := HN.out.ra
            have e4 := u1.cell (i := 0) rfl
            have e5 := u1.cell (i := 1) rfl
            have HU2 := Lib.hid (u2.more (S' := (· < ((wa.setCell ⟨To, 0, none⟩ (.int .i64 p)).setCell ⟨To, 1, none⟩ (.slice A1 m c1)).heap.size)) fun b hb => hb.1)
            have hsa := hb.size
            have hsx : ((wa.setCell ⟨To, 0, none⟩ (.int .i64 p)).setCell ⟨To, 1, none⟩ (.slice A1 m c1)).heap.size = wa.heap.size := size_set2 _ _ _ _ _
            have u3 := u1.frozen 0
            have u4 := u1.frozen 1
            clear hg hb k3 u2 a0 a1 o0 o1 b0 b1 b2 b3 y1 y3 HSS HRS HY2 HY4
            go_wp2_with fail
            have HSS := Lib.hid (HMUL.out Ab cb Ab cb s s _ HU2.out HU2.out HIS.out HIS.out)
            generalize (wa.setCell ⟨To, 0, none⟩ (.int .i64 p)).setCell ⟨To, 1, none⟩ (.slice A1 m c1) = wb at HN HSS hsx u1 u3 u4 e4 e5 ⊢
            clear e0 e1 e2 e3 HU2
            refine HSS.out.mono ?_
            rintro e wc ⟨r2, rfl, hg, hb⟩
            obtain ⟨A2, c2, rfl, -⟩ := hg.form
            have HN2 := Lib.hid (HN.out.putA (Nat.le_refl _) (by omega) (by omega) (by omega) (by omega) (by omega) hg hb)
            have k3 := u1.below hb (by omega)
            have e0 := k3.cell (i := 0) rfl
            have e1 := k3.cell (i := 1) rfl
            have e2 := k3.frozen 0
            have e3 := k3.frozen 1
            have hsc := hb.size
            clear hg hb k3 u1 HSS u3 u4
            go_wp2_with fail
            go_roundw
            case rel => exact ⟨fu', nn / 2, _, _, by go_num, H1.out, by omega, H2.out, mulF_in (by omega) m m m r s, mulF_in (by omega) m m m s s, HN2.out, by rw [size_set2]; omega⟩
            case measure => simp [intOf]; omega
          · have hd : (((nn : Int) % 2) == 1) = false := by simp; omega
            have hd2 : (nn : Int) % 2 = 0 := by omega
            clear hr hs
            rw [if_neg ho] at H2
            go_wp2_with fail
            refine HSS.out.mono ?_
            rintro e wc ⟨r2, rfl, hg, hb⟩
            obtain ⟨A2, c2, rfl, -⟩ := hg.form
            have HN2 := Lib.hid (HP.out.putA (Nat.le_refl _) (by omega) (by omega) (by omega) (by omega) (by omega) hg hb)
            have k3 := y1.below hb (by omega)
            have e0 := k3.cell (i := 0) rfl
            have e1 := k3.cell (i := 1) rfl
            have e2 := k3.frozen 0
            have e3 := k3.frozen 1
            have hsc := hb.size
            clear hg hb k3 y1 y3 HSS a0 a1 o0 o1 b0 b1 b2 b3 HY2 HY4
            go_wp2_with fail
            go_roundw
            case rel => exact ⟨fu', nn / 2, _, _, by go_num, H1.out, by omega, H2.out, HIR.out, mulF_in (by omega) m m m s s, HN2.out, by rw [size_set2]; omega⟩
            case measure => simp [intOf]; omega
  · have hdk : decide (k < 0) = false := decide_eq_false hk0
    have HB6 := HB4
    have HQ6 := HQ4
    have HR6 := HR4
    have HG6 := Lib.hid (show Grid w4 (fun b => b < w4.heap.size ∧ b ≠ w.heap.size) (.slice A m c) m (fun _ => m) f from
      (HA2.out.below (fun b hb => hb) HB4.out).more fun b hb => ⟨Nat.lt_of_lt_of_le hb HB4.out.size, fun e => by rw [e] at hb; exact absurd hb (Nat.lt_irrefl _)⟩)
    have HPZ := Lib.hid (fun (e : Ending) (w' : World) (h : OkM w p m m (powF p m k.natAbs f) e w') => (show PP e w' from by
      rw [← HPP.out]
      refine ⟨fun h0 => absurd h0 hk0, fun _ => ?_⟩
      unfold powZ
      rw [if_neg hk0]
      exact h))
    have HS0 := HIN
    clear HA2 HPP HPO HIV HI HQ4 HR4 HB4 HA HIN
    have q0 := HQ6.out.cell (i := 0) rfl
    have q1 := HQ6.out.cell (i := 1) rfl
    go_wp2_with fail
    refine (HONE.out _).mono ?_
    rintro e w7 ⟨r7, rfl, hg7, hb7⟩
    obtain ⟨A7, c7, rfl, -⟩ := hg7.form
    have j0 := (row_new (W := w7) rfl 61 #[.int .i64 p, .slice A7 m c7])
    have x0 := j0.cell (i := 0) rfl
    have x1 := j0.cell (i := 1) rfl
    have x2 := j0.frozen 0
    have x3 := j0.frozen 1
    have hs6 := HB6.out.size
    have hs7 := hb7.size
    have hl6 := HR6.out.lt
    have hbS := (hb7.alloc hb7.size (.cells #[.int .i64 p, .slice A7 m c7] 61))
    have HPW := Lib.hid (show PwR w w.heap.size (w.heap.size + 1) w7.heap.size p m oneF f (w7.alloc (.cells #[.int .i64 p, .slice A7 m c7] 61)) from by
      refine ⟨HB6.out.trans (hbS.mono hs6), ⟨A, c, HQ6.out.below hbS (by omega), ?_⟩, ⟨A7, c7, j0, ?_⟩, HR6.out.below hbS hl6⟩
      · exact (HG6.out.below (fun b hb => hb.1) hbS).more fun b hb => ⟨by rw [World.size_alloc]; have := hb.1; omega, hb.2, by have := hb.1; omega⟩
      · have h1 : Grid (w7.alloc (.cells #[.int .i64 p, .slice A7 m c7] 61)) (New w4 w7) (.slice A7 m c7) m (fun _ => m) oneF := hg7.below (fun b hb => hb.2) ((Below.refl w7.heap.size w7).alloc (Nat.le_refl _) _)
        exact h1.more fun b hb => ⟨by have := hb.1; omega, by rw [World.size_alloc]; have := hb.2; omega, by have := hb.1; omega, by have := hb.2; omega, by have := hb.1; omega⟩)
    have hs8 : (w7.alloc (.cells #[.int .i64 p, .slice A7 m c7] 61)).heap.size = w7.heap.size + 1 := by rw [World.size_alloc]
    clear j0 hbS hg7 hb7 q0 q1
    go_wp2_with fail
    generalize w7.alloc (.cells #[.int .i64 p, .slice A7 m c7] 61) = w8 at HPW hs8 ⊢
    refine (HSZ.out _).mono ?_
    rintro e w9 ⟨rfl, hw9⟩
    subst hw9
    clear x0 x1 x2 x3 HB6 HQ6 HR6 HG6 HONE HSZ
    have hTo : w.heap.size + 1 < w7.heap.size := by omega
    generalize w7.heap.size = To at HPW hs8 hTo ⊢
    go_wp2_with fail
    go_loopw [10] (fun t10 wr => ∃ (fu nn : Nat) (r s : Nat → Nat → Int), t10 = .int .u64 (nn : Int) ∧ nn < 2 ^ fu ∧ fu ≤ 64 ∧ pwGo p m fu r s nn = powF p m k.natAbs f ∧ InG p m m r ∧ InG p m m s ∧ PwR w w.heap.size (w.heap.size + 1) To p m r s wr ∧ To < wr.heap.size) (fun t10 _ => (intOf t10).toNat)
    case atStart => exact ⟨64, k.natAbs, oneF, f, rfl, hka, Nat.le_refl _, rfl, oneF_in (by omega), HS0.out, HPW.out, by omega⟩
    case round =>
      obtain ⟨fu, nn, r, s, rfl, hn1, hfu, hgo, hr, hs, hP, hto⟩ := hrel
      rename World => wr
      obtain ⟨Aa, ca, y1, y2⟩ := hP.ra
      obtain ⟨Ao, co, y3, y4⟩ := hP.ro
      have y5 := hP.res
      have HP := Lib.hid hP
      have HY2 := Lib.hid (y2.more (S' := (· < wr.heap.size)) fun b hb => hb.1)
      have HY4 := Lib.hid (y4.more (S' := (· < wr.heap.size)) fun b hb => hb.2.1)
      have hnb : nn < 18446744073709551616 := Nat.lt_of_lt_of_le hn1 (Nat.pow_le_pow_right (by omega) hfu)
      have a0 := y1.cell (i := 0) rfl
      have a1 := y1.cell (i := 1) rfl
      have o0 := y3.cell (i := 0) rfl
      have o1 := y3.cell (i := 1) rfl
      by_cases hn0 : nn = 0
      · subst hn0
        rw [pwGo_done] at hgo
        subst hgo
        have hdn : decide ((0 : Int) > 0) = false := by decide
        have z0 := y5.cell (i := 0) rfl
        have z1 := y5.cell (i := 1) rfl
        have z2 := y5.frozen 0
        have z3 := y5.frozen 1
        have HX := Lib.hid (agg_res y5 hP.b (show w.heap.size ≤ w.heap.size + 1 by omega) (.int .i64 p) (.slice Ao m co))
        have HGX := Lib.hid ((y4.set2 (R := w.heap.size + 1) (fun hh => hh.2.2.2.2 rfl) (.int .i64 p) (.slice Ao m co)).more (S' := New w ((wr.setCell ⟨w.heap.size + 1, 0, none⟩ (.int .i64 p)).setCell ⟨w.heap.size + 1, 1, none⟩ (.slice Ao m co))) fun b hh => ⟨hh.1, by rw [size_set2]; exact hh.2.1⟩)
        clear y1 y2 y3 y4 y5 hP HY2 HY4 hr hs
        go_wp2_with fail
        obtain ⟨k3, k2⟩ := HX.out
        have hc0 := k3.cell (i := 0) rfl
        have hc1 := k3.cell (i := 1) rfl
        refine bodyPost_ret (v := .tuple #[.agg #[.int .i64 p, .slice Ao m co], .int .i64 0]) ?_ rfl (HPZ.out _ _ ⟨_, rfl, HGX.out, k2⟩)
        simp [results, Try.results67, go_sem, hc0, hc1]
      · obtain ⟨fu', rfl, h1, h2⟩ := pwGo_next (p := p) (m := m) (r := r) (s := s) hn1 hn0
        rw [hgo] at h2
        have hdn : decide ((nn : Int) > 0) = true := decide_eq_true (by omega)
        have hq : IntKind.u64.wrap ((nn : Int) / 2) = ((nn / 2 : Nat) : Int) := by rw [IntKind.wrap_u64]; omega
        have H1 := Lib.hid h1
        have H2 := Lib.hid h2
        have HIR := Lib.hid hr
        have HIS := Lib.hid hs
        have HSS := Lib.hid (HMUL.out Aa ca Aa ca s s wr HY2.out HY2.out hs hs)
        have b0 := y3.frozen 0
        have b1 := y3.frozen 1
        have b2 := y1.frozen 0
        have b3 := y1.frozen 1
        clear hgo h1 h2 hn1 y2 y4 y5 hP
        by_cases ho : nn % 2 = 1
        · have hd : (((nn : Int) % 2) == 1) = true := by simp; omega
          have hd2 : (nn : Int) % 2 = 1 := by omega
          have HRS := Lib.hid (HMUL.out Ao co Aa ca r s wr HY4.out HY2.out hr hs)
          clear hr hs
          rw [if_pos ho] at H2
          go_wp2_with fail
          refine HRS.out.mono ?_
          rintro e wa ⟨r1, rfl, hg, hb⟩
          obtain ⟨A1, c1, rfl, -⟩ := hg.form
          have HN := Lib.hid (HP.out.putO (by omega) (by omega) (by omega) (by omega) (by omega) hto hg hb)
          have k3 := y3.below hb hto
          have e0 := k3.cell (i := 0) rfl
          have e1 := k3.cell (i := 1) rfl
          have e2 := k3.frozen 0
          have e3 := k3.frozen 1
          obtain ⟨Ab, cb, u1, u2⟩ := HN.out.ra
          have e4 := u1.cell (i := 0) rfl
          have e5 := u1.cell (i := 1) rfl
          have HU2 := Lib.hid (u2.more (S' := (· < ((wa.setCell ⟨To, 0, none⟩ (.int .i64 p)).setCell ⟨To, 1, none⟩ (.slice A1 m c1)).heap.size)) fun b hb => hb.1)
          have hsa := hb.size
          have hsx : ((wa.setCell ⟨To, 0, none⟩ (.int .i64 p)).setCell ⟨To, 1, none⟩ (.slice A1 m c1)).heap.size = wa.heap.size := size_set2 _ _ _ _ _
          have u3 := u1.frozen 0
          have u4 := u1.frozen 1
          clear hg hb k3 u2 a0 a1 o0 o1 b0 b1 b2 b3 y1 y3 HSS HRS HY2 HY4
          go_wp2_with fail
          have HSS := Lib.hid (HMUL.out Ab cb Ab cb s s _ HU2.out HU2.out HIS.out HIS.out)
          generalize (wa.setCell ⟨To, 0, none⟩ (.int .i64 p)).setCell ⟨To, 1, none⟩ (.slice A1 m c1) = wb at HN HSS hsx u1 u3 u4 e4 e5 ⊢
          clear e0 e1 e2 e3 HU2
          refine HSS.out.mono ?_
          rintro e wc ⟨r2, rfl, hg, hb⟩
          obtain ⟨A2, c2, rfl, -⟩ := hg.form
          have HN2 := Lib.hid (HN.out.putA (Nat.le_refl _) (by omega) (by omega) (by omega) (by omega) (by omega) hg hb)
          have k3 := u1.below hb (by omega)
          have e0 := k3.cell (i := 0) rfl
          have e1 := k3.cell (i := 1) rfl
          have e2 := k3.frozen 0
          have e3 := k3.frozen 1
          have hsc := hb.size
          clear hg hb k3 u1 HSS u3 u4
          go_wp2_with fail
          go_roundw
          case rel => exact ⟨fu', nn / 2, _, _, by go_num, H1.out, by omega, H2.out, mulF_in (by omega) m m m r s, mulF_in (by omega) m m m s s, HN2.out, by rw [size_set2]; omega⟩
          case measure => simp [intOf]; omega
        · have hd : (((nn : Int) % 2) == 1) = false := by simp; omega
          have hd2 : (nn : Int) % 2 = 0 := by omega
          clear hr hs
          rw [if_neg ho] at H2
          go_wp2_with fail
          refine HSS.out.mono ?_
          rintro e wc ⟨r2, rfl, hg, hb⟩
          obtain ⟨A2, c2, rfl, -⟩ := hg.form
          have HN2 := Lib.hid (HP.out.putA (Nat.le_refl _) (by omega) (by omega) (by omega) (by omega) (by omega) hg hb)
          have k3 := y1.below hb (by omega)
          have e0 := k3.cell (i := 0) rfl
          have e1 := k3.cell (i := 1) rfl
          have e2 := k3.frozen 0
          have e3 := k3.frozen 1
          have hsc := hb.size
          clear hg hb k3 y1 y3 HSS a0 a1 o0 o1 b0 b1 b2 b3 HY2 HY4
          go_wp2_with fail
          go_roundw
          case rel => exact ⟨fu', nn / 2, _, _, by go_num, H1.out, by omega, H2.out, HIR.out, mulF_in (by omega) m m m s s, HN2.out, by rw [size_set2]; omega⟩
          case measure => simp [intOf]; omega
end Go.Proofs.Ytokiejichnnmnaa

/- cayleylaw04.MatrixValues: the walk. -/
namespace Go.Proofs.Ytokiejichnnmnaa
open Go Go.RowKit Num

set_option maxRecDepth 100000 in
set_option maxHeartbeats 2000000 in
theorem rPow_bad (ra : Value) (m : Nat) (n : Nat → Nat) (f : Nat → Nat → Int) (p k : Int) (w : World) (hm : m ≤ 1000000) (hn : ∀ i, i < m → n i ≤ 1000000) (ha : Grid w (· < w.heap.size) ra m n f) (x : Int) (hx : x = chkS (chkM p m n f) m (n 0)) (hx0 : x ≠ 0) :
    Calls Try.prog 67 #[.agg #[.int .i64 p, ra], .int .i64 k] w (BadM w x) := by
  have HC := fun W h => Lib.hid (rsquare_any ra m n f p W hm hn h)
  rw [← hx] at HC
  have HA := Lib.hid ha
  obtain ⟨A, c, rfl, hcm⟩ := ha.form
  have HX2 := Lib.hid (box2 w #[.int .i64 p, .slice A m c])
  have hd2 : (x != 0) = true := by simpa using hx0
  clear ha hn hx0 hx
  go_enter Try.func67, Try.ntmps67
  go_wp2_with fail
  generalize (w.alloc (.cells #[.int .i64 p, .slice A m c] 61)).alloc (.cells #[.int .i64 0, .slice none 0 0] 61) = w3 at HX2
  refine (HC _ (HA.out.on HX2.out.be)).out.mono ?_
  rintro e w4 ⟨rfl, hb4⟩
  obtain ⟨j1, j2, j3⟩ := HX2.out.on hb4
  have HE := Lib.hid (end_bad (w := w) j3 j1 (B := w.heap.size) (by omega))
  have d0 := j3.cell (i := 0) rfl
  have d1 := j3.cell (i := 1) rfl
  have f0 := j3.frozen 0
  have f1 := j3.frozen 1
  clear j1 j2 j3 hb4
  go_wp2_with fail
  obtain ⟨k3, k2⟩ := HE.out
  have hc0 := k3.cell (i := 0) rfl
  have hc1 := k3.cell (i := 1) rfl
  refine bodyPost_ret (v := .tuple #[.agg #[.int .i64 0, .slice none 0 0], .int .i64 x]) ?_ rfl ⟨rfl, k2⟩
  simp [results, Try.results67, go_sem, hc0, hc1]

/-- A matrix and an error, whatever they are. -/
def MatR (w : World) (z : Int × Nat × Int) (m : Nat) (F : Nat → Nat → Int) (e : Ending) (w' : World) : Prop :=
  ∃ A c, e = .returned (.tuple #[.agg #[.int .i64 z.1, .slice A z.2.1 c], .int .i64 z.2.2]) ∧ Grid w' (· < w'.heap.size) (.slice A z.2.1 c) z.2.1 (fun _ => m) F ∧ Below w.heap.size w w'
theorem BadM.matR {w w' : World} {x : Int} {e : Ending} (h : BadM w x e w') (m : Nat) (F : Nat → Nat → Int) : MatR w (0, 0, x) m F e w' :=
  ⟨none, 0, h.1, ⟨none, 0, rfl, Nat.le_refl _, fun h => absurd h (Nat.lt_irrefl 0)⟩, h.2⟩
theorem OkM.matR {w w' : World} {p : Int} {m : Nat} {F : Nat → Nat → Int} {e : Ending} (h : OkM w p m m F e w') : MatR w (p, m, 0) m F e w' := by
  obtain ⟨r, rfl, hg, hb⟩ := h
  obtain ⟨A, c, rfl, -⟩ := hg.form
  exact ⟨A, c, rfl, hg.new_lt, hb⟩
def invZ (p : Int) (m : Nat) (f : Nat → Nat → Int) (x : Int) : Int × Nat × Int := if x ≠ 0 then (0, 0, x) else if detV p m (augF m f) = 0 then (0, 0, 15) else (p, m, 0)
def powE (p : Int) (m : Nat) (f : Nat → Nat → Int) (k x : Int) : Int × Nat × Int := if x ≠ 0 then (0, 0, x) else if k < 0 ∧ detV p m (augF m f) = 0 then (0, 0, 15) else (p, m, 0)
theorem InvP.matR {x p : Int} {m : Nat} {f : Nat → Nat → Int} {w : World} {e : Ending} {w' : World} (h : InvP x p m f w e w') : MatR w (invZ p m f x) m (invF p m f) e w' := by
  unfold invZ
  by_cases hx : x = 0
  · rw [if_neg (by omega)]
    have h2 := h.2 hx
    by_cases hd : detV p m (augF m f) = 0
    · rw [if_pos hd]; exact (h2.1 hd).matR m _
    · rw [if_neg hd]; exact (h2.2 hd).matR
  · rw [if_pos hx]; exact (h.1 hx).matR m _
theorem PowP.matR {p : Int} {m : Nat} {f : Nat → Nat → Int} {k : Int} {w : World} {e : Ending} {w' : World} (h : PowP w p m f k e w') : MatR w (powE p m f k 0) m (powZ p m f k) e w' := by
  unfold powE
  rw [if_neg (by omega)]
  by_cases hd : k < 0 ∧ detV p m (augF m f) = 0
  · rw [if_pos hd]; exact (h.1 hd.1 hd.2).matR m _
  · rw [if_neg hd]; exact (h.2 fun hk h0 => hd ⟨hk, h0⟩).matR
theorem rPow_all (ra : Value) (m : Nat) (n : Nat → Nat) (f : Nat → Nat → Int) (p : Int) (k : Int) (w : World) (hk2 : -9223372036854775808 ≤ k) (hk3 : k ≤ 9223372036854775807) (hm : m ≤ 1000000) (hn : ∀ i, i < m → n i ≤ 1000000) (ha : Grid w (· < w.heap.size) ra m n f) (x : Int) (hx : x = chkS (chkM p m n f) m (n 0)) :
    Calls Try.prog 67 #[.agg #[.int .i64 p, ra], .int .i64 k] w (MatR w (powE p m f k x) m (powZ p m f k)) := by
  by_cases hx0 : x = 0
  · subst hx0
    exact (rPow_ok ra m n f p k w hk2 hk3 hm hn ha hx).mono fun e w' h => h.matR
  · refine (rPow_bad ra m n f p k w hm hn ha x hx hx0).mono fun e w' h => ?_
    unfold powE
    rw [if_pos hx0]
    exact h.matR m _
theorem Pow_all (ra : Value) (m : Nat) (n : Nat → Nat) (f : Nat → Nat → Int) (p : Int) (k : Int) (w : World) (hk2 : -9223372036854775808 ≤ k) (hk3 : k ≤ 9223372036854775807) (hm : m ≤ 1000000) (hn : ∀ i, i < m → n i ≤ 1000000) (ha : Grid w (· < w.heap.size) ra m n f) (x : Int) (hx : x = chkS (chkM p m n f) m (n 0)) :
    Calls Try.prog 53 #[.agg #[.int .i64 p, ra], .int .i64 k] w (MatR w (powE p m f k x) m (powZ p m f k)) := by
  by_cases hx0 : x = 0
  · subst hx0
    by_cases hk : k < 0
    · refine (Pow_neg ra m n f p k w hk hk2 hm hn ha hx).mono fun e w' h => ?_
      refine PowP.matR ⟨fun _ h0 => h.1 h0, fun h0 => ?_⟩
      unfold powZ
      rw [if_pos hk]
      exact h.2 (h0 hk)
    · obtain ⟨K, rfl⟩ : ∃ K : Nat, k = K := ⟨k.toNat, by omega⟩
      refine (Pow_pos ra m n f p K w (by omega) hm hn ha hx).mono fun e w' h => ?_
      refine PowP.matR ⟨fun h0 => absurd h0 hk, fun _ => ?_⟩
      unfold powZ
      rw [if_neg hk, Int.natAbs_natCast]
      exact h
  · refine (Pow_bad ra m n f p k w hm hn ha x hx hx0).mono fun e w' h => ?_
    unfold powE
    rw [if_pos hx0]
    exact h.matR m _
/-- The coefficients and an error. -/
def PolR (w : World) (x : Int) (N : Nat) (F : Nat → Int) (e : Ending) (w' : World) : Prop :=
  ∃ A c, e = .returned (.tuple #[.slice A N c, .int .i64 x]) ∧ Vec w' (· < w'.heap.size) (.slice A N c) N F ∧ Below w.heap.size w w'
def polN (m : Nat) (x : Int) : Nat := if x = 0 then m + 1 else 0
theorem PolyP.polR {w : World} {x p : Int} {m : Nat} {f : Nat → Nat → Int} {e : Ending} {w' : World} (h : PolyP w x p m f e w') : PolR w x (polN m x) (polyF p f m) e w' := by
  obtain ⟨h1, h2, h3⟩ := h
  unfold polN
  by_cases hx : x = 0
  · rw [if_pos hx]
    obtain ⟨r, rfl, hv⟩ := h3 hx
    obtain ⟨A, c, rfl, -⟩ := hv.form
    exact ⟨A, c, by rw [hx], hv.new_lt, h1⟩
  · rw [if_neg hx]
    exact ⟨none, 0, h2 hx, vec_nil _ _ _, h1⟩

set_option maxRecDepth 100000 in
set_option maxHeartbeats 8000000 in
theorem matrixValues_main (A : Option Addr) (m c : Nat) (n : Nat → Nat) (f : Nat → Nat → Int) (p k : Int) (w : World) (hk2 : -9223372036854775808 ≤ k) (hk3 : k ≤ 9223372036854775807) (hm : m ≤ 9223372036854775807) (hn : ∀ i, i < m → n i ≤ 9223372036854775807) (ha : Grid w (· < w.heap.size) (.slice A m c) m n f) :
    Calls Try.prog 11 #[.agg #[.int .i64 p, .slice A m c], .int .i64 k] w fun e w' => e = .returned (.bool true) ∧ Below w.heap.size w w' := by
  have HX := Lib.hid (row_new (W := w) rfl 61 #[.int .i64 p, .slice A m c])
  have HB := Lib.hid ((Below.refl w.heap.size w).alloc (Nat.le_refl _) (.cells #[.int .i64 p, .slice A m c] 61))
  have HA := Lib.hid ha
  have HLG := fun W (hg : Grid W (· < W.heap.size) (.slice A m c) m n f) (Lb : Nat) (hr : Row W Lb 61 #[.int .i64 p, .slice A m c]) => Lib.hid (large_any Lb 1 1 (fun _ => p) (fun _ => .slice A m c) (fun _ => m) (fun _ => n) W (by omega)
    (fun k hk => hm) (fun k hk i hi => hn i hi) hr.lt
    (fun k hk => by
      obtain rfl : k = 0 := by omega
      exact ⟨hr.cell (i := 0) rfl, hr.cell (i := 1) rfl, f, hg⟩))
  obtain ⟨big, hbig⟩ : ∃ b : Bool, decide (∃ k, k < 1 ∧ bigM m n = true) = b := ⟨_, rfl⟩
  have HBG := Lib.hid hbig
  rw [hbig] at HLG
  clear hbig ha
  go_enter Try.func11, Try.ntmps11
  go_wp2_with fail
  generalize w.alloc (.cells #[.int .i64 p, .slice A m c] 61) = w1 at HX HB ⊢
  refine (lives_any _).mono ?_
  rintro e w2 ⟨rfl, hb⟩
  replace HX := Lib.hid (HX.out.below hb HX.out.lt)
  replace HB := Lib.hid (HB.out.trans (hb.mono HB.out.size))
  clear hb
  have c0 := HX.out.cell (i := 0) rfl
  have c1 := HX.out.cell (i := 1) rfl
  go_wp2_with fail
  clear c0 c1
  have hr3 := row_new (W := w2) rfl 61 #[.int .i64 p, .slice A m c]
  have hb3 := (Below.refl w2.heap.size w2).alloc (Nat.le_refl _) (.cells #[.int .i64 p, .slice A m c] 61)
  have hB3 := HB.out.trans (hb3.mono HB.out.size)
  have hX3 := HX.out.below hb3 HX.out.lt
  have HL := HLG _ (HA.out.on hB3) w2.heap.size hr3
  generalize w2.alloc (.cells #[.int .i64 p, .slice A m c] 61) = w3 at hB3 hX3 HL ⊢
  refine HL.out.mono ?_
  rintro e w4 ⟨rfl, hb4⟩
  have HB4 := Lib.hid (hB3.trans (hb4.mono hB3.size))
  have HX4 := Lib.hid (hX3.below hb4 hX3.lt)
  clear hr3 hb3 hB3 hX3 HL HLG hb4 HB HX
  cases big with
  | true =>
    go_wp2_with fail
    go_ret
    exact ⟨rfl, HB4.out⟩
  | false =>
    have hbm : bigM m n = false := by
      have h := HBG.out
      cases hb : bigM m n with
      | false => rfl
      | true => rw [decide_eq_false_iff_not] at h; exact absurd ⟨0, by omega, hb⟩ h
    obtain ⟨hm6, hn6⟩ := bigM_off hbm
    clear hbm HBG
    obtain ⟨x, hx⟩ : ∃ x, x = chkS (chkM p m n f) m (n 0) := ⟨_, rfl⟩
    have hn1 : ∀ i, i < m → n i ≤ 1000000 := fun i hi => by have := hn6 i hi; omega
    have H1 := Lib.hid (fun W h => Det_any (.slice A m c) m n f p W (by omega) hn1 h x hx)
    have H2 := Lib.hid (fun W h => rDet_any (.slice A m c) m n f p W (by omega) hn1 h x hx)
    have H3 := Lib.hid (fun W h => Trace_any (.slice A m c) m n f p W (by omega) hn1 h x hx)
    have H4 := Lib.hid (fun W h => rTrace_any (.slice A m c) m n f p W (by omega) hn1 h x hx)
    have H5 := Lib.hid (fun W h => (Poly_any (.slice A m c) m n f p W (by omega) hn1 h x hx).mono fun e w' h => h.polR)
    have H6 := Lib.hid (fun W h => (rPoly_any (.slice A m c) m n f p W (by omega) hn1 h x hx).mono fun e w' h => h.polR)
    have H7 := Lib.hid (fun W h => (Inv_any (.slice A m c) m n f p W (by omega) hn1 h x hx).mono fun e w' h => h.matR)
    have H8 := Lib.hid (fun W h => (rInvM_any (.slice A m c) m n f p W (by omega) hn1 h x hx).mono fun e w' h => h.matR)
    have H9 := Lib.hid (fun W h => Pow_all (.slice A m c) m n f p k W hk2 hk3 (by omega) hn1 h x hx)
    have H10 := Lib.hid (fun W h => rPow_all (.slice A m c) m n f p k W hk2 hk3 (by omega) hn1 h x hx)
    have hN : polN m x ≤ 1000000 := by unfold polN; split <;> omega
    have hN2 : (invZ p m f x).2.1 ≤ 1000000 := by
      unfold invZ
      split
      · exact Nat.zero_le _
      · split
        · exact Nat.zero_le _
        · show m ≤ 1000000; omega
    have hN3 : (powE p m f k x).2.1 ≤ 1000000 := by
      unfold powE
      split
      · exact Nat.zero_le _
      · split
        · exact Nat.zero_le _
        · show m ≤ 1000000; omega
    generalize (if x = 0 then detV p m f else 0) = dd at H1 H2
    generalize (if x = 0 then trS f m % p else 0) = tt at H3 H4
    generalize polN m x = N at H5 H6 hN
    generalize polyF p f m = FP at H5 H6
    generalize invZ p m f x = z at H7 H8 hN2
    generalize invF p m f = FI at H7 H8
    generalize powE p m f k x = y at H9 H10 hN3
    generalize powZ p m f k = FW at H9 H10
    obtain ⟨z1, z2, z3⟩ := z
    obtain ⟨y1, y2, y3⟩ := y
    unfold MatR at H7 H8 H9 H10
    unfold PolR at H5 H6
    dsimp only at H7 H8 H9 H10 hN2 hN3
    clear hx hn1 hn6 hn hm hk2 hk3
    have c0 := HX4.out.cell (i := 0) rfl
    have c1 := HX4.out.cell (i := 1) rfl
    go_wp2_with fail
    refine (H1.out _ (HA.out.on HB4.out)).mono ?_
    rintro e w5 ⟨rfl, hb⟩
    have HB5 := Lib.hid (HB4.out.trans (hb.mono HB4.out.size))
    have HX5 := Lib.hid (HX4.out.below hb HX4.out.lt)
    clear hb c0 c1 HX4 HB4 H1
    have c0 := HX5.out.cell (i := 0) rfl
    have c1 := HX5.out.cell (i := 1) rfl
    go_wp2_with fail
    refine (H2.out _ (HA.out.on HB5.out)).mono ?_
    rintro e w6 ⟨rfl, hb⟩
    have HB6 := Lib.hid (HB5.out.trans (hb.mono HB5.out.size))
    have HX6 := Lib.hid (HX5.out.below hb HX5.out.lt)
    clear hb c0 c1 HX5 HB5 H2
    have c0 := HX6.out.cell (i := 0) rfl
    have c1 := HX6.out.cell (i := 1) rfl
    go_wp2_with fail
    refine (H3.out _ (HA.out.on HB6.out)).mono ?_
    rintro e w7 ⟨rfl, hb⟩
    have HB7 := Lib.hid (HB6.out.trans (hb.mono HB6.out.size))
    have HX7 := Lib.hid (HX6.out.below hb HX6.out.lt)
    clear hb c0 c1 HX6 HB6 H3
    have c0 := HX7.out.cell (i := 0) rfl
    have c1 := HX7.out.cell (i := 1) rfl
    go_wp2_with fail
    refine (H4.out _ (HA.out.on HB7.out)).mono ?_
    rintro e w8 ⟨rfl, hb⟩
    have HB8 := Lib.hid (HB7.out.trans (hb.mono HB7.out.size))
    have HX8 := Lib.hid (HX7.out.below hb HX7.out.lt)
    clear hb c0 c1 HX7 HB7 H4
    have c0 := HX8.out.cell (i := 0) rfl
    have c1 := HX8.out.cell (i := 1) rfl
    go_wp2_with fail
    refine (H5.out _ (HA.out.on HB8.out)).mono ?_
    rintro e w9 ⟨A5, c5, rfl, hv, hb⟩
    have HB9 := Lib.hid (HB8.out.trans (hb.mono HB8.out.size))
    have HX9 := Lib.hid (HX8.out.below hb HX8.out.lt)
    have HV5 := Lib.hid hv
    clear hb hv c0 c1 HX8 HB8 H5
    have c0 := HX9.out.cell (i := 0) rfl
    have c1 := HX9.out.cell (i := 1) rfl
    go_wp2_with fail
    refine (H6.out _ (HA.out.on HB9.out)).mono ?_
    rintro e w10 ⟨A6, c6, rfl, hv, hb⟩
    have HB10 := Lib.hid (HB9.out.trans (hb.mono HB9.out.size))
    have HX10 := Lib.hid (HX9.out.below hb HX9.out.lt)
    replace HV5 := Lib.hid (HV5.out.on hb)
    have HV6 := Lib.hid hv
    clear hb hv c0 c1 HX9 HB9 H6
    have c0 := HX10.out.cell (i := 0) rfl
    have c1 := HX10.out.cell (i := 1) rfl
    go_wp2_with fail
    refine (H7.out _ (HA.out.on HB10.out)).mono ?_
    rintro e v11 ⟨A7, c7, rfl, hv, hb0⟩
    have hb := hb0.alloc hb0.size (.cells #[.int .i64 z1, .slice A7 z2 c7] 61)
    have hr := row_new (W := v11) rfl 61 #[.int .i64 z1, .slice A7 z2 c7]
    have hv := hv.on ((Below.refl v11.heap.size v11).alloc (Nat.le_refl _) (.cells #[.int .i64 z1, .slice A7 z2 c7] 61))
    have HB11 := Lib.hid (HB10.out.trans (hb.mono HB10.out.size))
    have HX11 := Lib.hid (HX10.out.below hb HX10.out.lt)
    replace HV5 := Lib.hid (HV5.out.on hb)
    replace HV6 := Lib.hid (HV6.out.on hb)
    have HV7 := Lib.hid hv
    have HR7 := Lib.hid hr
    clear hb hv hb0 hr c0 c1 HX10 HB10 H7
    have c0 := HX11.out.cell (i := 0) rfl
    have c1 := HX11.out.cell (i := 1) rfl
    go_wp2_with fail
    clear c0 c1
    generalize v11.alloc (.cells #[.int .i64 z1, .slice A7 z2 c7] 61) = w11 at HB11 HX11 HV5 HV6 HV7 HR7 ⊢
    generalize v11.heap.size = X7 at HR7 ⊢
    refine (H8.out _ (HA.out.on HB11.out)).mono ?_
    rintro e v12 ⟨A8, c8, rfl, hv, hb0⟩
    have hb := hb0.alloc hb0.size (.cells #[.int .i64 z1, .slice A8 z2 c8] 61)
    have hr := row_new (W := v12) rfl 61 #[.int .i64 z1, .slice A8 z2 c8]
    have hv := hv.on ((Below.refl v12.heap.size v12).alloc (Nat.le_refl _) (.cells #[.int .i64 z1, .slice A8 z2 c8] 61))
    have HB12 := Lib.hid (HB11.out.trans (hb.mono HB11.out.size))
    have HX12 := Lib.hid (HX11.out.below hb HX11.out.lt)
    replace HV5 := Lib.hid (HV5.out.on hb)
    replace HV6 := Lib.hid (HV6.out.on hb)
    replace HV7 := Lib.hid (HV7.out.on hb)
    replace HR7 := Lib.hid (HR7.out.below hb HR7.out.lt)
    have HV8 := Lib.hid hv
    have HR8 := Lib.hid hr
    clear hb hv hb0 hr HX11 HB11 H8
    have c0 := HX12.out.cell (i := 0) rfl
    have c1 := HX12.out.cell (i := 1) rfl
    go_wp2_with fail
    clear c0 c1
    generalize v12.alloc (.cells #[.int .i64 z1, .slice A8 z2 c8] 61) = w12 at HB12 HX12 HV5 HV6 HV7 HR7 HV8 HR8 ⊢
    generalize v12.heap.size = X8 at HR8 ⊢
    refine (H9.out _ (HA.out.on HB12.out)).mono ?_
    rintro e v13 ⟨A9, c9, rfl, hv, hb0⟩
    have hb := hb0.alloc hb0.size (.cells #[.int .i64 y1, .slice A9 y2 c9] 61)
    have hr := row_new (W := v13) rfl 61 #[.int .i64 y1, .slice A9 y2 c9]
    have hv := hv.on ((Below.refl v13.heap.size v13).alloc (Nat.le_refl _) (.cells #[.int .i64 y1, .slice A9 y2 c9] 61))
    have HB13 := Lib.hid (HB12.out.trans (hb.mono HB12.out.size))
    have HX13 := Lib.hid (HX12.out.below hb HX12.out.lt)
    replace HV5 := Lib.hid (HV5.out.on hb)
    replace HV6 := Lib.hid (HV6.out.on hb)
    replace HV7 := Lib.hid (HV7.out.on hb)
    replace HR7 := Lib.hid (HR7.out.below hb HR7.out.lt)
    replace HV8 := Lib.hid (HV8.out.on hb)
    replace HR8 := Lib.hid (HR8.out.below hb HR8.out.lt)
    have HV9 := Lib.hid hv
    have HR9 := Lib.hid hr
    clear hb hv hb0 hr HX12 HB12 H9
    have c0 := HX13.out.cell (i := 0) rfl
    have c1 := HX13.out.cell (i := 1) rfl
    go_wp2_with fail
    clear c0 c1
    generalize v13.alloc (.cells #[.int .i64 y1, .slice A9 y2 c9] 61) = w13 at HB13 HX13 HV5 HV6 HV7 HR7 HV8 HR8 HV9 HR9 ⊢
    generalize v13.heap.size = X9 at HR9 ⊢
    refine (H10.out _ (HA.out.on HB13.out)).mono ?_
    rintro e v14 ⟨A10, c10, rfl, hv, hb0⟩
    have hb := hb0.alloc hb0.size (.cells #[.int .i64 y1, .slice A10 y2 c10] 61)
    have hr := row_new (W := v14) rfl 61 #[.int .i64 y1, .slice A10 y2 c10]
    have hv := hv.on ((Below.refl v14.heap.size v14).alloc (Nat.le_refl _) (.cells #[.int .i64 y1, .slice A10 y2 c10] 61))
    have HB14 := Lib.hid (HB13.out.trans (hb.mono HB13.out.size))
    have HX14 := Lib.hid (HX13.out.below hb HX13.out.lt)
    replace HV5 := Lib.hid (HV5.out.on hb)
    replace HV6 := Lib.hid (HV6.out.on hb)
    replace HV7 := Lib.hid (HV7.out.on hb)
    replace HR7 := Lib.hid (HR7.out.below hb HR7.out.lt)
    replace HV8 := Lib.hid (HV8.out.on hb)
    replace HR8 := Lib.hid (HR8.out.below hb HR8.out.lt)
    replace HV9 := Lib.hid (HV9.out.on hb)
    replace HR9 := Lib.hid (HR9.out.below hb HR9.out.lt)
    have HV10 := Lib.hid hv
    have HR10 := Lib.hid hr
    clear hb hv hb0 hr HX13 HB13 H10
    have c0 := HX14.out.cell (i := 0) rfl
    have c1 := HX14.out.cell (i := 1) rfl
    go_wp2_with fail
    clear c0 c1
    generalize v14.alloc (.cells #[.int .i64 y1, .slice A10 y2 c10] 61) = w14 at HB14 HX14 HV5 HV6 HV7 HR7 HV8 HR8 HV9 HR9 HV10 HR10 ⊢
    generalize v14.heap.size = X10 at HR10 ⊢

    have hs5 := fun W (h : Below w14.heap.size w14 W) => Lib.hid (row_same (.slice A5 N c5) (.slice A6 N c6) N FP FP W _ _ hN (HV5.out.on h) (HV6.out.on h))
    have hs7 := fun W (h : Below w14.heap.size w14 W) => Lib.hid (mSame_any (.slice A7 z2 c7) (.slice A8 z2 c8) z1 z2 (fun _ => m) FI FI W hN2 (fun _ _ => by omega) (HV7.out.on h) (HV8.out.on h))
    have hs9 := fun W (h : Below w14.heap.size w14 W) => Lib.hid (mSame_any (.slice A9 y2 c9) (.slice A10 y2 c10) y1 y2 (fun _ => m) FW FW W hN3 (fun _ _ => by omega) (HV9.out.on h) (HV10.out.on h))
    have HRF := Lib.hid (Below.refl w14.heap.size w14)
    rw [show eqB N FP FP = true from decide_eq_true fun _ _ => rfl] at hs5
    rw [show gridB z2 (fun _ => m) FI FI = true from decide_eq_true fun _ _ => decide_eq_true fun _ _ => rfl] at hs7
    rw [show gridB y2 (fun _ => m) FW FW = true from decide_eq_true fun _ _ => decide_eq_true fun _ _ => rfl] at hs9
    have HKX := Lib.hid (fun W (h : Below w14.heap.size w14 W) => (show (W.cell? ⟨X7, 0, none⟩ = some (.int .i64 z1) ∧ W.cell? ⟨X7, 1, none⟩ = some (.slice A7 z2 c7) ∧ W.cell? ⟨X8, 0, none⟩ = some (.int .i64 z1) ∧ W.cell? ⟨X8, 1, none⟩ = some (.slice A8 z2 c8)) ∧ W.cell? ⟨X9, 0, none⟩ = some (.int .i64 y1) ∧ W.cell? ⟨X9, 1, none⟩ = some (.slice A9 y2 c9) ∧ W.cell? ⟨X10, 0, none⟩ = some (.int .i64 y1) ∧ W.cell? ⟨X10, 1, none⟩ = some (.slice A10 y2 c10) from
      ⟨⟨(HR7.out.below h HR7.out.lt).cell (i := 0) rfl, (HR7.out.below h HR7.out.lt).cell (i := 1) rfl, (HR8.out.below h HR8.out.lt).cell (i := 0) rfl, (HR8.out.below h HR8.out.lt).cell (i := 1) rfl⟩, (HR9.out.below h HR9.out.lt).cell (i := 0) rfl, (HR9.out.below h HR9.out.lt).cell (i := 1) rfl, (HR10.out.below h HR10.out.lt).cell (i := 0) rfl, (HR10.out.below h HR10.out.lt).cell (i := 1) rfl⟩))
    clear HV5 HV6 HV7 HV8 HV9 HV10 HR7 HR8 HR9 HR10 hN hN2 hN3
    refine (hs5 _ HRF.out).out.mono ?_
    rintro e wq ⟨rfl, kq, hwq⟩
    have hbq : Below w14.heap.size w14 wq := by rw [hwq]; exact below_drewN HRF.out kq
    have HBQ := Lib.hid hbq
    obtain ⟨⟨x0, x1, x2, x3⟩, -⟩ := HKX.out _ hbq
    clear hwq hbq hs5 HRF
    go_wp2_with fail
    refine (hs7 _ HBQ.out).out.mono ?_
    rintro e wr ⟨rfl, hbr⟩
    have HBR := Lib.hid (HBQ.out.trans (hbr.mono HBQ.out.size))
    clear x0 x1 x2 x3 hbr hs7
    obtain ⟨-, x0, x1, x2, x3⟩ := HKX.out _ HBR.out
    go_wp2_with fail
    refine (hs9 _ HBR.out).out.mono ?_
    rintro e ws ⟨rfl, hbs⟩
    have HBS := Lib.hid (HB14.out.trans ((HBR.out.trans (hbs.mono HBR.out.size)).mono HB14.out.size))
    clear x0 x1 x2 x3 hbs hs9
    go_wp2_with fail
    go_ret
    exact ⟨rfl, HBS.out⟩
end Go.Proofs.Ytokiejichnnmnaa
