/- The numbers of LinearNames. -/
import Derived.Test.YtinoomcboinokaaGreatLMeet
import Derived.Test.YtinoomcboinokaaGreatLEigen
import Derived.Test.YtinoomcboinokaaGreatLVals
import Derived.Test.YtinoomcboinokaaGreatLSolve
namespace Go.Proofs.YtinoomcboinokaaGreat
open Go Go.RowKit Num

/-- One row. -/
def R1 (a b c : Int) : Nat → Nat → Int := M3 a b c 0 0 0 0 0 0
/-- Two rows. -/
def R2 (a b c d e f : Int) : Nat → Nat → Int := M3 a b c d e f 0 0 0
/-- A row. -/
def V3 (a b c : Int) (j : Nat) : Int := if j = 0 then a else if j = 1 then b else c
theorem nm_in : inB 5 3 (elimR 5 3 (invI 5) (rowsL 3 exF 3)) (V3 0 1 0) = false := by decide +kernel
theorem nm_none : (pivL 3 (elimR 5 3 (invI 5) (rowsL 3 exF 0))).length = 0 := by decide +kernel
theorem nm_sum : (pivL 3 (elimR 5 3 (invI 5) (rowsL 3 (catR 1 (R1 1 0 0) (R1 0 1 0)) (1 + 1)))).length = 2 := by decide +kernel
theorem nm_sum2 : gridB 2 (fun _ => 3) (basF 3 (elimR 5 3 (invI 5) (rowsL 3 (catR 1 (R1 1 0 0) (R1 0 1 0)) (1 + 1)))) (R2 1 0 0 0 1 0) = true := by decide +kernel
theorem nm_meet : (pivL 3 (afterR 3 (elimR 5 (3 + 3) (invI 5) (rowsL (3 + 3) (wideR 2 3 (R2 1 0 0 0 1 0) (R2 0 1 0 0 0 1)) (2 + 2))))).length = 1 := by decide +kernel
theorem nm_meet2 : gridB 1 (fun _ => 3) (basF 3 (afterR 3 (elimR 5 (3 + 3) (invI 5) (rowsL (3 + 3) (wideR 2 3 (R2 1 0 0 0 1 0) (R2 0 1 0 0 0 1)) (2 + 2))))) (R1 0 1 0) = true := by decide +kernel
theorem nm_apart : (pivL 3 (afterR 3 (elimR 5 (3 + 3) (invI 5) (rowsL (3 + 3) (wideR 1 3 (R1 1 0 0) (R1 0 1 0)) (1 + 1))))).length = 0 := by decide +kernel
theorem nm_sol : firstNZ (solR 5 3 2 exK (V3 3 0 0)) 2 = none := by decide +kernel
theorem nm_sol2 : eqB 3 (solV 5 2 (solR 5 3 2 exK (V3 3 0 0))) (V3 3 0 4) = true := by decide +kernel
theorem nm_nosol : firstNZ (solR 5 1 2 (R1 1 2 0) (V3 1 3 0)) 2 ≠ none := by decide +kernel
theorem nm_eig : (kerL 2 2 (kerR 5 2 2 (eigF 5 2 (R2 2 0 0 0 3 0)))).length = 1 := by decide +kernel
theorem nm_eig2 : gridB 1 (fun _ => 2) (fun i x => rowAt (kerR 5 2 2 (eigF 5 2 (R2 2 0 0 0 3 0))) ((kerL 2 2 (kerR 5 2 2 (eigF 5 2 (R2 2 0 0 0 3 0)))).getD i 0) (2 + x)) (R1 1 0 0) = true := by decide +kernel
theorem nm_vals : pickL (isVal 5 2 (R2 2 0 0 0 3 0)) 5 = [2, 3] := by decide +kernel
theorem nm_novals : pickL (isVal 5 2 (R2 0 1 0 2 0 0)) 5 = [] := by decide +kernel
theorem nm_mod6 : modB 6 = false := by
  cases h : modB 6 with
  | false => rfl
  | true =>
    exfalso
    obtain ⟨h1, _, h3⟩ := modB_true h
    have h4 := invF (p := 6) h3 h1 2 (by omega) (by omega)
    exact absurd h4 (by decide +kernel)
theorem nm_b6 (x : Int) : chkB 3 6 x = 3 := by
  have h : chk1 3 6 = 3 := by unfold chk1; rw [if_pos nm_mod6]
  unfold chkB; rw [if_pos (by rw [h]; decide), h]
theorem nm_size {n : Int} (hn : sizeB n = false) (x : Int) : chkB n 5 x = 2 := by
  have h : chk1 n 5 = 2 := by unfold chk1; rw [if_neg (by rw [show modB 5 = true from mod5]; simp), if_pos hn]
  unfold chkB; rw [if_pos (by rw [h]; decide), h]
theorem nm_b0 (x : Int) : chkB 0 5 x = 2 := nm_size (by decide) x
theorem nm_b65 (x : Int) : chkB 65 5 x = 2 := nm_size (by decide) x
theorem nm_chk {n : Int} (hn : sizeB n = true) (x : Int) : chkB n 5 x = x := by
  have h : chk1 n 5 = 0 := by unfold chk1; rw [if_neg (by rw [show modB 5 = true from mod5]; simp), if_neg (by rw [hn]; simp)]
  unfold chkB; rw [if_neg (by rw [h]; decide)]
theorem nm_b2 : chkB 3 5 (chkL 1 (fun _ => 2) 3) = 10 := by
  rw [nm_chk (by decide)]
  unfold chkL
  rw [if_neg (by omega), if_pos ⟨0, by omega, by decide⟩]
theorem nm_b201 (l : Nat → Nat) : chkB 1 5 (chkL 201 l 1) = 4 := by
  rw [nm_chk (by decide)]
  unfold chkL
  rw [if_pos (by omega)]
theorem nm_zero : ∀ k, elimR 5 1 (invI 5) (rowsL 1 (fun _ _ => 0) k) = fun _ => none
  | 0 => rfl
  | k + 1 => by
    rw [elimR_succ, nm_zero k]
    have e : (fun j : Nat => if j < 1 then (0 : Int) else 0) = fun _ => 0 := by funext j; split <;> rfl
    rw [e]
    have h : firstNZ (redK 5 (fun _ => none) (fun _ => 0) 1) 1 = none := by decide +kernel
    unfold stepR
    rw [h]
theorem gridB_none (n : Nat → Nat) (f g : Nat → Nat → Int) : gridB 0 n f g = true := by simp [gridB]
theorem nm_pair : eqB 2 (fun j => ([2, 3] : List Int).getD j 0) (V3 2 3 0) = true := by decide +kernel
theorem nm_zlen (k : Nat) : (pivL 1 (elimR 5 1 (invI 5) (rowsL 1 (fun _ _ => 0) k))).length = 0 := by rw [nm_zero, pivL_nil]; rfl
theorem nm_chkM {m n : Nat} {f : Nat → Nat → Int} (hm0 : 1 ≤ m) (hm : m ≤ 64) (hn0 : 1 ≤ n) (hn : n ≤ 64) (hf : ∀ i, i < m → ∀ j, j < n → 0 ≤ f i j ∧ f i j < 5) : chkM 5 m (fun _ => n) f = 0 := chkM_full (p := 5) mod5 hm0 hm hn0 hn hf
theorem nm_c12 : chkM 5 1 (fun _ => 2) (R1 1 2 0) = 0 := nm_chkM (by omega) (by omega) (by omega) (by omega) (by decide +kernel)
theorem nm_c22 : chkM 5 2 (fun _ => 2) (R2 2 0 0 0 3 0) = 0 := nm_chkM (by omega) (by omega) (by omega) (by omega) (by decide +kernel)
theorem nm_c22b : chkM 5 2 (fun _ => 2) (R2 0 1 0 2 0 0) = 0 := nm_chkM (by omega) (by omega) (by omega) (by omega) (by decide +kernel)
theorem nm_c12b : chkM 5 1 (fun _ => 2) (R1 2 0 0) = 0 := nm_chkM (by omega) (by omega) (by omega) (by omega) (by decide +kernel)

set_option maxRecDepth 100000 in
set_option maxHeartbeats 1000000 in
/-- Eigen of what is not square. -/
theorem Eigen_bad (p x : Int) (ra : Value) (m n : Nat) (f : Nat → Nat → Int) (w : World) (ha : Grid w (· < w.heap.size) ra m (fun _ => n) f) (hx : chkM p m (fun _ => n) f = 0) (hmn : m ≠ n) :
    Calls Tryz.prog 9 #[.agg #[.int .i64 p, ra], .int .i64 x] w (BadB 10 w) := by
  obtain ⟨Aa, ca, rfl, -⟩ := ha.form
  have hbx := row_new (W := w) rfl 31 #[.int .i64 p, .slice Aa m ca]
  have hB0 := (Below.refl w.heap.size w).alloc (Nat.le_refl _) (.cells #[.int .i64 p, .slice Aa m ca] 31)
  have hz : (w.alloc (.cells #[.int .i64 p, .slice Aa m ca] 31)).heap.size = w.heap.size + 1 := by simp
  have HC := Lib.hid (checkSq_ok p (.slice Aa m ca) m n f (w.alloc (.cells #[.int .i64 p, .slice Aa m ca] 31)) ((ha.below (fun _ h => h) hB0).more fun b h => by omega) hx)
  rw [if_neg hmn] at HC
  have HB := Lib.hid hB0
  have c0 : (w.alloc (.cells #[.int .i64 p, .slice Aa m ca] 31)).cell? ⟨w.heap.size, 0, none⟩ = some (.int .i64 p) := hbx.cell rfl
  have c1 : (w.alloc (.cells #[.int .i64 p, .slice Aa m ca] 31)).cell? ⟨w.heap.size, 1, none⟩ = some (.slice Aa m ca) := hbx.cell rfl
  have HE := Lib.hid (fun (w' : World) (h : Below w.heap.size w w') => (show BadB 10 w (.returned (.tuple #[.slice none 0 0, .int .i64 10])) w' from ⟨rfl, h⟩))
  generalize BadB 10 w = PP at HE ⊢
  clear ha hbx hB0 hx hmn
  go_enter Tryz.func9, Tryz.ntmps9
  go_wp2_with fail
  refine HC.out.mono ?_
  rintro e w1 ⟨rfl, hb1⟩
  have HEE := Lib.hid (HE.out w1 (HB.out.trans (hb1.mono HB.out.size)))
  clear hb1
  go_wp2
  exact HEE.out

/-- A list of rows of one entry that grows. -/
structure ZrI (wl : World) (k : Nat) (v : Value) (g : Nat → Nat) (F : Nat → Int) (X : World) : Prop where
  own : X.ownsRow wl.heap.size 22 1 v k ((List.range k).map fun i => .slice (some ⟨g i, 0, none⟩) 1 1)
  row : ∀ i, i < k → RowI X (g i) 1 (fun _ => F i) ∧ wl.heap.size ≤ g i
  b : Below wl.heap.size wl X
theorem ZrI.next {wl X X3 : World} {k : Nat} {v v1 : Value} {g : Nat → Nat} {F : Nat → Int} (h : ZrI wl k v g F X) (a : Int)
    (hown : X3.ownsRow wl.heap.size 22 1 v1 (k + 1) ((List.range k).map (fun i => .slice (some ⟨g i, 0, none⟩) 1 1) ++ [.slice (some ⟨X.heap.size, 0, none⟩) 1 1])) (hg : ((X.alloc (.cells #[.int .i64 a] 3)).alloc (.cells #[.slice (some ⟨X.heap.size, 0, none⟩) 1 1] 22)).grownBy X3 v.ownBlock) :
    ZrI wl (k + 1) v1 (fun i => if i = k then X.heap.size else g i) (fun i => if i = k then a else F i) X3 := by
  have hX := h.b.size
  have hvb : ∀ b, v.ownBlock = some b → wl.heap.size ≤ b ∧ b < X.heap.size := fun b e => h.own.lt b e
  have ht2 : Turn (fun b => v.ownBlock = some b) X X3 := ⟨hg.os, hg.tape, hg.output, Nat.le_trans (by simp; omega) hg.size, fun q hq hn => (hg.block q (by simp; omega) (fun e => hn e.symm)).trans ((Below.heap_alloc _ _ _ (by simp; omega)).trans (Below.heap_alloc _ _ _ hq))⟩
  have hty : ∀ (b : Nat) (f : Nat → Int), RowI X b 1 f → v.ownBlock ≠ some b := fun b f hr e => by
    obtain ⟨cs, h1, _⟩ := hr
    rcases h.own.2 with ⟨rfl, _⟩ | ⟨g3, cap3, cur3, rfl, _, hgb, _⟩
    · cases e
    · injection e with e
      have e' : g3 = b := e
      rw [e', show X.heap[b]? = _ from h1] at hgb
      cases hgb
  have hnew : RowI X3 X.heap.size 1 (fun _ => a) := by
    refine ⟨#[.int .i64 a], ?_, by simp, fun j hj => by obtain rfl : j = 0 := (by omega); rfl⟩
    have hr : Row ((X.alloc (.cells #[.int .i64 a] 3)).alloc (.cells #[.slice (some ⟨X.heap.size, 0, none⟩) 1 1] 22)) X.heap.size 3 #[.int .i64 a] := (row_new rfl _ _).alloc _
    exact (hg.block _ (by simp; omega) (fun e => by have := (hvb _ e.symm).2; omega)).trans hr
  refine ⟨?_, fun i hi => ?_, ?_⟩
  · have hl : ((List.range k).map (fun i => Value.slice (some ⟨g i, 0, none⟩) 1 1) ++ [.slice (some ⟨X.heap.size, 0, none⟩) 1 1]) = (List.range (k + 1)).map fun i => .slice (some ⟨if i = k then X.heap.size else g i, 0, none⟩) 1 1 := by
      rw [List.range_succ, List.map_append, List.map_cons, List.map_nil, if_pos rfl]
      congr 1
      refine List.map_congr_left fun i hi => ?_
      have : i < k := List.mem_range.1 hi
      rw [if_neg (by omega)]
    rw [hl] at hown
    exact hown
  · by_cases e : i = k
    · subst e
      rw [if_pos rfl, if_pos rfl]
      exact ⟨hnew, hX⟩
    · rw [if_neg e, if_neg e]
      obtain ⟨h1, h2⟩ := h.row i (by omega)
      exact ⟨h1.turn ht2 (hty _ _ h1), h2⟩
  · have hb := (h.b.alloc hX (.cells #[.int .i64 a] 3)).alloc (by simp; omega) (.cells #[.slice (some ⟨X.heap.size, 0, none⟩) 1 1] 22)
    exact hb.grown hg (by simp; omega) (fun q hq => (h.own.lt q hq).1)
theorem ZrI.grid {wl X : World} {k : Nat} {v : Value} {g : Nat → Nat} {F : Nat → Int} (h : ZrI wl k v g F X) : Grid X (· < X.heap.size) v k (fun _ => 1) (fun i _ => F i) := by
  rcases h.own.2 with ⟨rfl, hz⟩ | ⟨gb, cap, cur, rfl, hbase, hgbk, r1, r2, r3, r4⟩
  · rw [hz]; exact ⟨none, 0, rfl, Nat.le_refl _, fun h => absurd h (by omega)⟩
  · refine ⟨_, cap, rfl, r1, fun _ => ⟨gb, 0, rfl, (Array.getElem?_eq_some_iff.1 hgbk).1, fun i hi => ?_⟩⟩
    have h1 : ((List.range k).map fun i => Value.slice (some ⟨g i, 0, none⟩) 1 1)[i]? = some (.slice (some ⟨g i, 0, none⟩) 1 1) := by simp [hi]
    rw [← r4, List.getElem?_take_of_lt (by omega)] at h1
    obtain ⟨h2, h3⟩ := h.row i hi
    exact ⟨_, by rw [Nat.zero_add]; exact Row.cell (show Row X gb 22 cur from hgbk) (by rw [← Array.getElem?_toList]; exact h1), h2.vec (Nat.le_refl 1) _ h2.lt⟩
theorem ZrI.on {wl X X' : World} {k : Nat} {v : Value} {g : Nat → Nat} {F : Nat → Int} (h : ZrI wl k v g F X) (hb : Below X.heap.size X X') : ZrI wl k v g F X' :=
  have ht : Turn (fun _ => False) X X' := ⟨hb.os, hb.tape, hb.output, hb.size, fun q hq _ => hb.block q hq⟩
  ⟨own_turn h.own ht (fun _ _ h => h), fun i hi => ⟨(h.row i hi).1.turn ht (fun h => h), (h.row i hi).2⟩, h.b.trans (hb.mono h.b.size)⟩
theorem vec_on2 {w w' : World} {v : Value} {n : Nat} {f : Nat → Int} (h : Vec w (· < w.heap.size) v n f) (hb : Below w.heap.size w w') : Vec w' (· < w'.heap.size) v n f := (h.below (fun _ h => h) hb).more fun _ h => Nat.lt_of_lt_of_le h hb.size
end Go.Proofs.YtinoomcboinokaaGreat
