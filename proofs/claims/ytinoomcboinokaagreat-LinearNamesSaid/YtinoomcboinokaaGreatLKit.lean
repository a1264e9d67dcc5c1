/- The law's kit: Take, Same, SameLists; prime moduli. -/
import Derived.Test.YtinoomcboinokaaGreatLKernel
import Derived.Maps.AppendAt
import Derived.BigRegion
import Derived.OwnWalk
namespace Go.Proofs.YtinoomcboinokaaGreat
open Go Go.RowKit Num

def noDiv (n d : Nat) : Bool := (List.range d).all fun e => e < 2 || n % e != 0
theorem pr_check {n : Nat} (d : Nat) (h2 : 2 ≤ n) (h : noDiv n d = true) (hd : n < d * d) : Pr n := by
  refine pr_iff_least.2 (least_self h2 (fun e he hed hdv => ?_) hd)
  have := List.all_eq_true.1 h e (List.mem_range.2 hed)
  simp at this
  rcases this with h | h
  · omega
  · exact h (Nat.mod_eq_zero_of_dvd hdv)
theorem modB_check {n : Nat} (d : Nat) (h2 : 2 ≤ n) (hl : n < 10000) (h : noDiv n d = true) (hd : n < d * d) : modB (n : Int) = true := by
  unfold modB
  rw [Bool.and_eq_true]
  exact ⟨decide_eq_true (by omega), isP_true.2 ⟨by omega, by omega, pr_check d h2 h hd⟩⟩
/-- A full matrix of small entries passes. -/
theorem chkM_full {p : Nat} {m n : Nat} {f : Nat → Nat → Int} (hp : modB (p : Int) = true) (hm0 : 1 ≤ m) (hm : m ≤ 64) (hn0 : 1 ≤ n) (hn : n ≤ 64) (hf : InG (p : Int) m n f) : chkM (p : Int) m (fun _ => n) f = 0 :=
  chkM_ok hp (by omega) fun i hi => ⟨rfl, fun j hj => hf i hi j hj⟩
/-- A Taker at block t: it hands out the N numbers z, and stands at number k. -/
def MTk (w : World) (t : Nat) (A : Option Addr) (c N : Nat) (z : Nat → Int) (k : Nat) : Prop := Row w t 29 #[.slice A N c, .int .i64 k] ∧ Vec w (· < t) (.slice A N c) N z
/-- What Take has done: nothing, or moved the Taker on; beside that only draws. -/
def MTook (w : World) (t : Nat) (k n : Nat) (e : Ending) (w' : World) : Prop :=
  ∃ (x : Int) (m : Nat), e = .returned (.int .i64 x) ∧ 0 ≤ x ∧ x < n ∧ (w' = w.drewN m ∨ w' = (w.setCell ⟨t, 1, none⟩ (.int .i64 ((k + 1 : Nat) : Int))).drewN m)
set_option maxRecDepth 100000 in
set_option maxHeartbeats 1000000 in
theorem take_any (t : Nat) (A : Option Addr) (c N : Nat) (z : Nat → Int) (k n : Nat) (w : World) (hl : N ≤ 17592186044400) (hn1 : 2 ≤ n) (hn2 : n ≤ 1000000) (h : MTk w t A c N z k) :
    Calls Tryz.prog 24 #[.pointer (some ⟨t, 0, none⟩), .int .i64 n] w (MTook w t k n) := by
  obtain ⟨hrow, hr⟩ := h
  have hc0 := hrow.cell (i := 0) rfl
  have hc1 := hrow.cell (i := 1) rfl
  have hf1 := hrow.frozen 1
  have h1 : ¬ (n : Int) < 1 := by omega
  have h2 : decide ((n : Int) < 1) = false := decide_eq_false h1
  have h3 : decide (n < 1) = false := decide_eq_false (by omega)
  by_cases hk : N ≤ k
  · have hd : decide ((N : Int) ≤ (k : Int)) = true := decide_eq_true (by omega)
    have hd2 : decide (N ≤ k) = true := decide_eq_true hk
    clear hrow hr
    go_enter Tryz.func24, Tryz.ntmps24
    go_wp2
    go_quiet (fail)
    go_wp2
    go_ret
    exact ⟨0, _, rfl, by omega, by omega, .inl rfl⟩
  · have hd : decide ((N : Int) ≤ (k : Int)) = false := decide_eq_false (by omega)
    have hd2 : decide (N ≤ k) = false := decide_eq_false hk
    obtain ⟨A', c', e, _, hr⟩ := hr
    cases e
    obtain ⟨b, o, rfl, hb, hcell⟩ := hr (by omega)
    have hck := hcell k (by omega)
    have hlt := resV_lt (z k) (p := n) hn1
    have hP := fun W => Pick_any (z k) n W (by omega) (by omega)
    generalize z k = y at hck hlt hP
    generalize resV y n = x at hlt hP
    have hb' : b < t := hb
    have hne : b ≠ t := by omega
    clear hrow hr hcell hb
    go_enter Tryz.func24, Tryz.ntmps24
    go_wp2_with fail
    go_quiet (fail)
    go_wp2_with fail
    go_quiet ((go_at_call 6; refine Calls.quiet_of_same (hP _)))
    go_wp2_with fail
    go_ret
    exact ⟨x, _, rfl, by omega, by omega, .inr (World.drewN_drewN (w.setCell ⟨t, 1, none⟩ (.int .i64 ((k + 1 : Nat) : Int))) _ _)⟩
def icells (l : List Int) : List Value := l.map fun x => Value.int .i64 x
theorem icells_append (l m : List Int) : icells (l ++ m) = icells l ++ icells m := by simp [icells]
theorem icells_get {l : List Int} {j : Nat} (hj : j < l.length) : (icells l)[j]? = some (.int .i64 (l.getD j 0)) := by
  simp [icells, List.getD_eq_getElem?_getD, hj]
/-- The slice v owns just the integers l, in a block from B on. -/
def OwnsI (w : World) (B : Nat) (v : Value) (l : List Int) : Prop := w.ownsRow B 3 1 v l.length (icells l)
/-- Below B only block t has turned. -/
def But (t B : Nat) (w w' : World) : Prop := Below t w w' ∧ ∀ i, i < B → i ≠ t → w'.heap[i]? = w.heap[i]?
theorem But.refl (t B : Nat) (w : World) : But t B w w := ⟨Below.refl _ _, fun _ _ _ => rfl⟩
theorem But.trans {t B : Nat} {a b c : World} (h : But t B a b) (k : But t B b c) : But t B a c := ⟨h.1.trans k.1, fun i hi hn => (k.2 i hi hn).trans (h.2 i hi hn)⟩
theorem But.of {t B : Nat} {a b : World} (h : Below B a b) (ht : t ≤ B) : But t B a b := ⟨h.mono ht, fun i hi _ => h.block i hi⟩
theorem But.mono {t B B' : Nat} {w w' : World} (h : But t B w w') (hB : B' ≤ B) : But t B' w w' := ⟨h.1, fun i hi hn => h.2 i (by omega) hn⟩
theorem But.row {t B g : Nat} {w w' : World} {e : TypeId} {cs : Array Value} (h : But t B w w') (hr : Row w g e cs) (hg : g < B) (hn : g ≠ t) : Row w' g e cs := (h.2 g hg hn).trans hr
theorem But.vec {t B : Nat} {w w' : World} {S : Nat → Prop} {v : Value} {n : Nat} {f : Nat → Int} (h : But t B w w') (hv : Vec w S v n f) (hS : ∀ b, S b → b < B ∧ b ≠ t) : Vec w' S v n f :=
  hv.keep (fun _ h => h) (fun p hp => World.cell?_of_block (h.2 p.block (hS _ hp).1 (hS _ hp).2)) (fun _ _ => rfl)
theorem But.owns {t B base n size : Nat} {w w' : World} {e : TypeId} {v : Value} {xs : List Value} (hb : But t B w w') (h : w.ownsRow base e size v n xs) (hv : ∀ g, v.ownBlock = some g → g < B ∧ g ≠ t) : w'.ownsRow base e size v n xs := by
  refine ⟨h.1, h.2.imp id ?_⟩
  rintro ⟨g', cap', cur, hv', hbg, hgg, hr⟩
  have := hv g' (by rw [hv']; rfl)
  exact ⟨g', cap', cur, hv', hbg, (hb.2 g' this.1 this.2).trans hgg, hr⟩
/-- Only block t has turned. -/
theorem MTook.keep {w w' : World} {t k n : Nat} {e : Ending} {A : Option Addr} {c N : Nat} {z : Nat → Int} (h : MTook w t k n e w') (hT : MTk w t A c N z k) :
    ∃ x k', e = .returned (.int .i64 x) ∧ 0 ≤ x ∧ x < n ∧ MTk w' t A c N z k' ∧ (∀ B, But t B w w') ∧ w'.heap.size = w.heap.size := by
  obtain ⟨x, m, he, h0, h1, rfl | rfl⟩ := h
  · have hh : (w.drewN m).heap = w.heap := by induction m with | zero => rfl | succ m ih => exact ih
    refine ⟨x, k, he, h0, h1, ?_, fun B => ⟨below_drewN (Below.refl _ _) m, fun i _ _ => by rw [hh]⟩, by rw [hh]⟩
    refine ⟨?_, hT.2.keep (fun _ h => h) (fun p _ => World.cell?_of_block (by rw [hh])) (fun _ _ => rfl)⟩
    show (w.drewN m).heap[t]? = _
    rw [hh]; exact hT.1
  · generalize hw2 : w.setCell ⟨t, 1, none⟩ (.int .i64 ((k + 1 : Nat) : Int)) = w2
    have hh : (w2.drewN m).heap = w2.heap := by clear hw2; induction m with | zero => rfl | succ m ih => exact ih
    have hb : ∀ i, i ≠ t → w2.heap[i]? = w.heap[i]? := fun i hi => by rw [← hw2]; exact Below.heap_setCell w ⟨t, 1, none⟩ _ i hi
    have hB : Below t w w2 := by rw [← hw2]; exact (Below.refl t w).setCell (p := ⟨t, 1, none⟩) (Nat.le_refl _) _
    refine ⟨x, k + 1, he, h0, h1, ⟨?_, ?_⟩, fun B => ⟨hB.trans (below_drewN (Below.refl _ _) m), fun i _ hi => by rw [hh]; exact hb i hi⟩, ?_⟩
    · show (w2.drewN m).heap[t]? = _
      rw [hh, ← hw2]
      exact hT.1.set 1 (.int .i64 ((k + 1 : Nat) : Int))
    · exact hT.2.keep (fun _ h => h) (fun p hp => World.cell?_of_block (by rw [hh]; exact hb p.block (by have : p.block < t := hp; omega))) (fun _ _ => rfl)
    · rw [hh, ← hw2]; exact size_set _ _ _
theorem MTk.but {t B : Nat} {w w' : World} {A : Option Addr} {c N k : Nat} {z : Nat → Int} (h : MTk w t A c N z k) (hb : Below B w w') (ht : t < B) : MTk w' t A c N z k :=
  ⟨h.1.below hb ht, h.2.below (fun b hb => by have : b < t := hb; omega) hb⟩
def eqB (n : Nat) (f g : Nat → Int) : Bool := decide (∀ j, j < n → f j = g j)
set_option maxRecDepth 100000 in
set_option maxHeartbeats 1000000 in
theorem row_same (v u : Value) (n : Nat) (f g : Nat → Int) (w : World) (S S' : Nat → Prop) (hn : n ≤ 1000000) (hv : Vec w S v n f) (hu : Vec w S' u n g) :
    Calls Tryz.prog 12 #[v, u] w fun e w' => e = .returned (.bool (eqB n f g)) ∧ ∃ n, w' = w.drewN n := by
  obtain ⟨A, c, rfl, hcA, hA⟩ := hv
  obtain ⟨B, d, rfl, hcB, hB⟩ := hu
  have HA := Lib.hid hA
  have HB := Lib.hid hB
  clear hA hB
  go_enter Tryz.func12, Tryz.ntmps12
  go_wp2
  go_loopw [5] (fun t wr => ∃ i k : Nat, t = .int .i64 i ∧ i ≤ n ∧ wr = w.drewN k ∧ Hid (∀ j, j < i → f j = g j)) (fun t _ => n - (intOf t).toNat)
  case atStart => exact ⟨0, 0, rfl, Nat.zero_le _, rfl, Lib.hid fun j h => by omega⟩
  case round =>
    obtain ⟨i, k, rfl, hi, rfl, HE⟩ := hrel
    by_cases hlt : i < n
    · obtain ⟨b1, o1, rfl, _, h1⟩ := HA.out (by omega)
      obtain ⟨b2, o2, rfl, _, h2⟩ := HB.out (by omega)
      have k1 := h1 i hlt
      have k2 := h2 i hlt
      have d1 : decide (i < n) = true := decide_eq_true hlt
      have d2 : (0 : Int) ≤ i := by omega
      have d3 : (i : Int) < (n : Int) := by omega
      clear h1 h2
      by_cases he : f i = g i
      · have HE2 := Lib.hid (fun j (hj : j < i + 1) => (by
          by_cases e : j = i
          · subst e; exact he
          · exact HE.out j (by omega) : f j = g j))
        have hd : (f i != g i) = false := by simp [he]
        generalize f i = x at k1 hd
        generalize g i = y at k2 hd
        clear he
        go_wp2
        go_quiet (fail)
        go_wp2
        go_roundw
        case rel => exact ⟨i + 1, _, by go_num, by omega, rfl, HE2⟩
        case measure => simp [intOf]; omega
      · have HR := Lib.hid (show eqB n f g = false from decide_eq_false fun h => he (h i hlt))
        have hd : (f i != g i) = true := by simp [he]
        generalize f i = x at k1 hd
        generalize g i = y at k2 hd
        clear he
        go_wp2
        go_quiet (fail)
        go_wp2
        go_ret
        exact ⟨by rw [HR.out]; rfl, by rw [World.drewN_drewN]; exact ⟨_, rfl⟩⟩
    · have d1 : decide (i < n) = false := decide_eq_false hlt
      have HR := Lib.hid (show eqB n f g = true from decide_eq_true fun j hj => HE.out j (by omega))
      go_wp2
      go_ret
      exact ⟨by rw [HR.out]; rfl, ⟨_, rfl⟩⟩
def gridB (m : Nat) (n : Nat → Nat) (f g : Nat → Nat → Int) : Bool := decide (∀ i, i < m → eqB (n i) (f i) (g i) = true)
set_option maxRecDepth 100000 in
set_option maxHeartbeats 1000000 in
theorem lists_same (v u : Value) (m : Nat) (n : Nat → Nat) (f g : Nat → Nat → Int) (w : World) (S S' : Nat → Prop) (hm : m ≤ 1000000) (hn : ∀ i, i < m → n i ≤ 1000000) (hv : Grid w S v m n f) (hu : Grid w S' u m n g) :
    Calls Tryz.prog 40 #[v, u] w fun e w' => e = .returned (.bool (gridB m n f g)) ∧ ∃ k, w' = w.drewN k := by
  obtain ⟨A, c, rfl, hcA⟩ := hv.form
  obtain ⟨B, d, rfl, hcB⟩ := hu.form
  have hat : ∀ k, k < m → ∃ b o b' o' r r', A = some ⟨b, o, none⟩ ∧ B = some ⟨b', o', none⟩ ∧ w.cell? ⟨b, o + k, none⟩ = some r ∧ w.cell? ⟨b', o' + k, none⟩ = some r' ∧ (∃ X x, r = .slice X (n k) x) ∧ (∃ X x, r' = .slice X (n k) x) ∧ ∀ W, (∃ q, W = w.drewN q) → Calls Tryz.prog 12 #[r, r'] W fun e w' => e = .returned (.bool (eqB (n k) (f k) (g k))) ∧ ∃ n, w' = W.drewN n := fun k hk => by
    obtain ⟨A', c', e, _, h⟩ := hv
    cases e
    obtain ⟨b, o, rfl, _, h⟩ := h (by omega)
    obtain ⟨r, h1, h2⟩ := h k hk
    obtain ⟨B', d', e, _, h'⟩ := hu
    cases e
    obtain ⟨b', o', rfl, _, h'⟩ := h' (by omega)
    obtain ⟨r', h1', h2'⟩ := h' k hk
    obtain ⟨X, x, hX, -⟩ := h2.form
    obtain ⟨X', x', hX', -⟩ := h2'.form
    refine ⟨b, o, b', o', r, r', rfl, rfl, h1, h1', ⟨X, x, hX⟩, ⟨X', x', hX'⟩, ?_⟩
    rintro W ⟨q, rfl⟩
    exact row_same r r' (n k) (f k) (g k) (w.drewN q) S S' (hn k hk) h2 h2'
  have HA := Lib.hid hat
  clear hv hu hat hn
  go_enter Tryz.func40, Tryz.ntmps40
  go_wp2
  go_loopw [5] (fun t wr => ∃ k q : Nat, t = .int .i64 k ∧ k ≤ m ∧ wr = w.drewN q ∧ Hid (∀ j, j < k → eqB (n j) (f j) (g j) = true)) (fun t _ => m - (intOf t).toNat)
  case atStart => exact ⟨0, 0, rfl, Nat.zero_le _, rfl, Lib.hid fun j h => by omega⟩
  case round =>
    obtain ⟨k, q, rfl, hk, hwr, HE⟩ := hrel
    have HW := Lib.hid (show ∀ m q', q' = wr.drewN m → ∃ n', q' = w.drewN n' from fun m q' e => ⟨q + m, by rw [e, hwr, World.drewN_drewN]⟩)
    by_cases hlt : k < m
    · obtain ⟨b, o, b', o', r, r', rfl, rfl, hc, hc', ⟨X, x, rfl⟩, ⟨X', x', rfl⟩, hS⟩ := HA.out k hlt
      have k1 : wr.cell? ⟨b, o + k, none⟩ = some (.slice X (n k) x) := by rw [hwr]; exact hc
      have k2 : wr.cell? ⟨b', o' + k, none⟩ = some (.slice X' (n k) x') := by rw [hwr]; exact hc'
      have HS := Lib.hid (fun n => hS (wr.drewN n) (HW.out n _ rfl))
      have d1 : decide (k < m) = true := decide_eq_true hlt
      have d2 : (0 : Int) ≤ k := by omega
      have d3 : (k : Int) < (m : Int) := by omega
      have HE2 := Lib.hid (fun (h : eqB (n k) (f k) (g k) = true) j (hj : j < k + 1) => (by
          by_cases e : j = k
          · subst e; exact h
          · exact HE.out j (by omega) : eqB (n j) (f j) (g j) = true))
      have HF := Lib.hid (fun (h : eqB (n k) (f k) (g k) = false) => (show gridB m n f g = false from decide_eq_false fun h' => by rw [h' k hlt] at h; cases h))
      clear hS hc hc' hwr
      generalize eqB (n k) (f k) (g k) = y at HS HE2 HF
      generalize n k = nk at k1 k2 HS
      cases y with
      | true =>
        have HE3 := Lib.hid (HE2.out rfl)
        clear HE2 HF
        go_wp2_with fail
        go_quiet (refine Calls.quiet_of (HS.out _))
        go_wp2_with fail
        go_roundw
        case rel => obtain ⟨n', e⟩ := HW.out _ _ rfl; exact ⟨k + 1, n', by go_num, by omega, e, HE3⟩
        case measure => simp [intOf]; omega
      | false =>
        have HF2 := Lib.hid (HF.out rfl)
        clear HE2 HF
        go_wp2_with fail
        go_quiet (refine Calls.quiet_of (HS.out _))
        go_wp2_with fail
        go_ret
        exact ⟨by rw [HF2.out]; rfl, HW.out _ _ rfl⟩
    · have d1 : decide (k < m) = false := decide_eq_false hlt
      have HR := Lib.hid (show gridB m n f g = true from decide_eq_true fun j hj => HE.out j (by omega))
      go_wp2_with fail
      go_ret
      exact ⟨by rw [HR.out]; rfl, q, rfl⟩
end Go.Proofs.YtinoomcboinokaaGreat
