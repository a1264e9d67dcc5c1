/- The reference's Turn. -/
import Derived.Test.YtinoomcboinokaaGreatMRefA
import Derived.Test.YtinoomcboinokaaGreatLAfterC
import Derived.Test.YtinoomcboinokaaGreatLOwn
import Derived.StillTailTactics
import Derived.Maps.AppendAt
import Derived.BigRegion
import Derived.OwnWalk
namespace Go.Proofs.YtinoomcboinokaaGreat
open Go Go.RowKit Num

theorem Row.row_set {w : World} {g : Nat} {t : TypeId} {x y : Value} (h : Row w g t #[x, y]) (u v : Value) : Row ((w.setCell ⟨g, 0, none⟩ u).setCell ⟨g, 1, none⟩ v) g t #[u, v] := (h.set 0 u).set 1 v
theorem setCell2_lo {B : Nat} {w W : World} (h : Below B w W) {g : Nat} (hg : B ≤ g) (x y : Value) : Below B w ((W.setCell ⟨g, 0, none⟩ x).setCell ⟨g, 1, none⟩ y) := (h.setCell (p := ⟨g, 0, none⟩) hg x).setCell (p := ⟨g, 1, none⟩) hg y
/-- A matrix with rows of its own: v reads as m rows of n ints F. -/
def WrM (w : World) (lo : Nat) (v : Value) (m n : Nat) (F : Nat → Nat → Int) : Prop :=
  ∃ (g cap : Nat) (rb : Nat → Nat), v = .slice (some ⟨g, 0, none⟩) m cap ∧ m ≤ cap ∧ lo ≤ g ∧ g < w.heap.size ∧ (∀ i, i < m → w.cell? ⟨g, i, none⟩ = some (.slice (some ⟨rb i, 0, none⟩) n n)) ∧
    (∀ i, i < m → lo ≤ rb i ∧ rb i ≠ g ∧ Row w (rb i) 3 (CTab n (iv (F i)))) ∧ ∀ i j, i < m → j < m → rb i = rb j → i = j
theorem WrM.grid {w : World} {lo : Nat} {v : Value} {m n : Nat} {F : Nat → Nat → Int} (h : WrM w lo v m n F) : Grid w (fun b => lo ≤ b ∧ b < w.heap.size) v m (fun _ => n) F := by
  obtain ⟨g, cap, rb, rfl, hc, hl, hg, hh, hr, _⟩ := h
  exact ⟨_, cap, rfl, hc, fun _ => ⟨g, 0, rfl, ⟨hl, hg⟩, fun i hi => ⟨_, by rw [Nat.zero_add]; exact hh i hi, (hr i hi).2.2.vec ⟨(hr i hi).1, (hr i hi).2.2.lt⟩ (Nat.le_refl _)⟩⟩⟩
theorem WrM.below {w w' : World} {lo : Nat} {v : Value} {m n : Nat} {F : Nat → Nat → Int} (h : WrM w lo v m n F) (hb : Below w.heap.size w w') : WrM w' lo v m n F := by
  obtain ⟨g, cap, rb, rfl, hc, hl, hg, hh, hr, hi⟩ := h
  exact ⟨g, cap, rb, rfl, hc, hl, Nat.lt_of_lt_of_le hg hb.size, fun i hi => (hb.cell (p := ⟨g, i, none⟩) hg).trans (hh i hi), fun i hi => ⟨(hr i hi).1, (hr i hi).2.1, (hr i hi).2.2.below hb (hr i hi).2.2.lt⟩, hi⟩
/-- An entry is written. -/
def updF (F : Nat → Nat → Int) (i k : Nat) (x : Int) (a b : Nat) : Int := if a = i ∧ b = k then x else F a b
theorem WrM.at_ {w : World} {lo : Nat} {v : Value} {m n : Nat} {F : Nat → Nat → Int} (h : WrM w lo v m n F) : ∃ (g cap : Nat) (rb : Nat → Nat), v = .slice (some ⟨g, 0, none⟩) m cap ∧ ∀ i, i < m → w.cell? ⟨g, i, none⟩ = some (.slice (some ⟨rb i, 0, none⟩) n n) ∧
    ∀ k, k < n → w.cell? ⟨rb i, k, none⟩ = some (.int .i64 (F i k)) ∧ w.frozen? ⟨rb i, k, none⟩ = false ∧ lo ≤ rb i ∧ ∀ x, WrM (w.setCell ⟨rb i, k, none⟩ (.int .i64 x)) lo v m n (updF F i k x) := by
  obtain ⟨g, cap, rb, rfl, hc, hl, hg, hh, hr, hinj⟩ := h
  refine ⟨g, cap, rb, rfl, fun i hi => ⟨hh i hi, fun k hk => ⟨(hr i hi).2.2.cell (CTab_get _ _ k hk), (hr i hi).2.2.frozen k, (hr i hi).1, fun x => ?_⟩⟩⟩
  refine ⟨g, cap, rb, rfl, hc, hl, by rw [size_set]; exact hg, fun a ha => (World.cell?_setCell_far _ _ _ _ (show rb i ≠ g from (hr i hi).2.1)).trans (hh a ha), fun a ha => ⟨(hr a ha).1, (hr a ha).2.1, ?_⟩, hinj⟩
  by_cases e : a = i
  · subst e
    have := (hr a ha).2.2.set k (.int .i64 x)
    rw [CTab_set] at this
    have e2 : CTab n (fun j => if j = k then (.int .i64 x) else iv (F a) j) = CTab n (iv (updF F a k x a)) := CTab_congr _ _ _ fun j _ => by
      unfold iv updF
      by_cases h : j = k
      · rw [if_pos h, if_pos ⟨rfl, h⟩]
      · rw [if_neg h, if_neg fun e => h e.2]
    rwa [e2] at this
  · have h1 := (hr a ha).2.2.far (p := ⟨rb i, k, none⟩) (show rb a ≠ rb i from fun h => e (hinj a i ha hi h)) (.int .i64 x)
    have e2 : CTab n (iv (F a)) = CTab n (iv (updF F i k x a)) := CTab_congr _ _ _ fun j _ => by
      unfold iv updF
      rw [if_neg fun h => e h.1]
    rwa [e2] at h1
theorem WrM.congr {w : World} {lo : Nat} {v : Value} {m n : Nat} {F G : Nat → Nat → Int} (h : WrM w lo v m n F) (hf : ∀ i, i < m → ∀ j, j < n → F i j = G i j) : WrM w lo v m n G := by
  obtain ⟨g, cap, rb, rfl, hc, hl, hg, hh, hr, hi⟩ := h
  refine ⟨g, cap, rb, rfl, hc, hl, hg, hh, fun i hi => ⟨(hr i hi).1, (hr i hi).2.1, ?_⟩, hi⟩
  rw [← CTab_congr n (iv (F i)) (iv (G i)) fun j hj => by unfold iv; rw [hf i hi j hj]]
  exact (hr i hi).2.2

/-- Between two rows of zeros. -/
structure BlkI (w : World) (p : Int) (m n i : Nat) (wr : World) : Prop where
  le : i ≤ m
  b : Below w.heap.size w wr
  sz : w.heap.size + 1 + 1 ≤ wr.heap.size
  res : Row wr w.heap.size 31 #[.int .i64 0, .slice none 0 0]
  rows : ∃ (v : Value) (rb : Nat → Nat), Row wr (w.heap.size + 1) 31 #[.int .i64 p, v] ∧ wr.ownsRow (w.heap.size + 1 + 1) 22 1 v i ((List.range i).map fun j => .slice (some ⟨rb j, 0, none⟩) n n) ∧
    (∀ j, j < i → w.heap.size + 1 + 1 ≤ rb j ∧ rb j < wr.heap.size ∧ v.ownBlock ≠ some (rb j) ∧ Row wr (rb j) 3 (CTab n fun _ => .int .i64 0)) ∧ ∀ j k, j < k → k < i → rb j < rb k
theorem blk_start (w : World) (p : Int) (m n : Nat) : BlkI w p m n 0 ((w.alloc (.cells #[.int .i64 0, .slice none 0 0] 31)).alloc (.cells #[.int .i64 p, .slice none 0 0] 31)) :=
  ⟨Nat.zero_le _, ((Below.refl w.heap.size w).alloc (Nat.le_refl _) _).alloc (by simp) _, by simp, (row_new rfl _ _).alloc _, .slice none 0 0, fun _ => 0, row_new (by simp) _ _, World.ownsRow_nil _ _ _ _, fun j hj => absurd hj (by omega), fun j k _ hk => absurd hk (by omega)⟩
theorem BlkI.drew {w wr : World} {p : Int} {m n i : Nat} (h : BlkI w p m n i wr) : BlkI w p m n i wr.drew := ⟨h.le, below_drew h.b, h.sz, h.res, h.rows⟩
theorem blk_step {w wq w3 : World} {p : Int} {m n i : Nat} {v v1 : Value} {rb : Nat → Nat} (h : BlkI w p m n i wq) (hi : i < m) (hr : Row wq (w.heap.size + 1) 31 #[.int .i64 p, v])
    (hO : wq.ownsRow (w.heap.size + 1 + 1) 22 1 v i ((List.range i).map fun j => .slice (some ⟨rb j, 0, none⟩) n n))
    (hV : ∀ j, j < i → w.heap.size + 1 + 1 ≤ rb j ∧ rb j < wq.heap.size ∧ v.ownBlock ≠ some (rb j) ∧ Row wq (rb j) 3 (CTab n fun _ => .int .i64 0)) (hM : ∀ j k, j < k → k < i → rb j < rb k)
    (hown : w3.ownsRow (w.heap.size + 1 + 1) 22 1 v1 (i + 1) (((List.range i).map fun j => .slice (some ⟨rb j, 0, none⟩) n n) ++ [.slice (some ⟨wq.heap.size, 0, none⟩) n n]))
    (hg : ((wq.alloc (.cells (CTab n fun _ => .int .i64 0) 3)).alloc (.cells #[.slice (some ⟨wq.heap.size, 0, none⟩) n n] 22)).grownBy w3 v.ownBlock)
    (hv1 : v1.ownBlock = v.ownBlock ∨ v1.ownBlock = some ((wq.alloc (.cells (CTab n fun _ => .int .i64 0) 3)).alloc (.cells #[.slice (some ⟨wq.heap.size, 0, none⟩) n n] 22)).heap.size) :
    BlkI w p m n (i + 1) (w3.setCell ⟨w.heap.size + 1, 1, none⟩ v1) := by
  have hsz := h.sz
  have hz2 : ((wq.alloc (.cells (CTab n fun _ => .int .i64 0) 3)).alloc (.cells #[.slice (some ⟨wq.heap.size, 0, none⟩) n n] 22)).heap.size = wq.heap.size + 1 + 1 := by simp
  have hsz3 := hg.size
  have hOlt := hO.lt
  have hB2 : Below w.heap.size wq ((wq.alloc (.cells (CTab n fun _ => .int .i64 0) 3)).alloc (.cells #[.slice (some ⟨wq.heap.size, 0, none⟩) n n] 22)) := ((Below.refl w.heap.size wq).alloc (by omega) _).alloc (by simp; omega) _
  have hB3 : Below w.heap.size wq w3 := hB2.grown hg (by omega) (fun q hq => by have := hOlt q hq; omega)
  have hBs : Below w.heap.size wq (w3.setCell ⟨w.heap.size + 1, 1, none⟩ v1) := hB3.setCell (p := ⟨w.heap.size + 1, 1, none⟩) (by show w.heap.size ≤ w.heap.size + 1; omega) _
  have hsize : (w3.setCell ⟨w.heap.size + 1, 1, none⟩ v1).heap.size = w3.heap.size := size_set _ _ _
  have keep : ∀ b t cs, Row wq b t cs → b ≠ w.heap.size + 1 → v.ownBlock ≠ some b → Row (w3.setCell ⟨w.heap.size + 1, 1, none⟩ v1) b t cs := fun b t cs hr hb hv =>
    (((hr.alloc (.cells (CTab n fun _ => .int .i64 0) 3)).alloc (.cells #[.slice (some ⟨wq.heap.size, 0, none⟩) n n] 22)).kept hg (fun e => hv e.symm)).far (p := ⟨w.heap.size + 1, 1, none⟩) hb v1
  have hvR : v.ownBlock ≠ some (w.heap.size + 1) := fun e => by have := hOlt _ e; omega
  have hvR0 : v.ownBlock ≠ some w.heap.size := fun e => by have := hOlt _ e; omega
  have hrow3 : Row w3 (w.heap.size + 1) 31 #[.int .i64 p, v] := ((hr.alloc (.cells (CTab n fun _ => .int .i64 0) 3)).alloc (.cells #[.slice (some ⟨wq.heap.size, 0, none⟩) n n] 22)).kept hg (fun e => hvR e.symm)
  have hnew : Row (w3.setCell ⟨w.heap.size + 1, 1, none⟩ v1) wq.heap.size 3 (CTab n fun _ => .int .i64 0) :=
    (((row_new (W := wq) rfl 3 (CTab n fun _ => .int .i64 0)).alloc (.cells #[.slice (some ⟨wq.heap.size, 0, none⟩) n n] 22)).kept hg (fun e => by have := hOlt _ e.symm; omega)).far (p := ⟨w.heap.size + 1, 1, none⟩) (by show wq.heap.size ≠ w.heap.size + 1; omega) v1
  have hv1b : ∀ b, b < wq.heap.size + 1 → v.ownBlock ≠ some b → v1.ownBlock ≠ some b := fun b h1 h2 e => by
    rcases hv1 with h | h
    · exact h2 (h ▸ e)
    · rw [h, hz2] at e; injection e with e; omega
  refine ⟨by omega, h.b.trans hBs, by rw [hsize]; omega, keep _ _ _ h.res (by omega) hvR0, v1, (fun j => if j = i then wq.heap.size else rb j), hrow3.set 1 v1, ?_, fun j hj => ?_, fun j k hjk hk => ?_⟩
  · have e : ((List.range (i + 1)).map fun j => Value.slice (some ⟨if j = i then wq.heap.size else rb j, 0, none⟩) n n) = ((List.range i).map fun j => .slice (some ⟨rb j, 0, none⟩) n n) ++ [.slice (some ⟨wq.heap.size, 0, none⟩) n n] := by
      rw [List.range_succ, List.map_append]
      congr 1
      · refine List.map_congr_left fun j hj => ?_
        have := List.mem_range.1 hj
        rw [if_neg (by omega)]
      · simp
    show (w3.setCell _ _).ownsRow _ _ _ _ _ ((List.range (i + 1)).map fun j => Value.slice (some ⟨if j = i then wq.heap.size else rb j, 0, none⟩) n n)
    rw [e]
    exact ownsRow_setCell_below hown (by show w.heap.size + 1 < _; omega) v1
  · show w.heap.size + 1 + 1 ≤ (if j = i then wq.heap.size else rb j) ∧ (if j = i then wq.heap.size else rb j) < _ ∧ v1.ownBlock ≠ some (if j = i then wq.heap.size else rb j) ∧ Row _ (if j = i then wq.heap.size else rb j) _ _
    by_cases e : j = i
    · rw [if_pos e]
      exact ⟨by omega, by rw [hsize]; omega, hv1b _ (by omega) (fun e => by have := hOlt _ e; omega), hnew⟩
    · rw [if_neg e]
      obtain ⟨h1, h2, h3, h4⟩ := hV j (by omega)
      exact ⟨h1, by rw [hsize]; omega, hv1b _ (by omega) h3, keep _ _ _ h4 (by omega) h3⟩
  · show (if j = i then wq.heap.size else rb j) < (if k = i then wq.heap.size else rb k)
    rw [if_neg (by omega)]
    by_cases e : k = i
    · rw [if_pos e]; exact (hV j (by omega)).2.1
    · rw [if_neg e]; exact hM j k hjk (by omega)
/-- A matrix that one may write. -/
def GivesW (w : World) (p : Int) (m n : Nat) (F : Nat → Nat → Int) (e : Ending) (w' : World) : Prop := ∃ v, e = .returned (.agg #[.int .i64 p, v]) ∧ WrM w' w.heap.size v m n F ∧ Below w.heap.size w w'
theorem blk_end {w wr : World} {p : Int} {m n : Nat} {v : Value} {rb : Nat → Nat} (hm : 1 ≤ m) (h : BlkI w p m n m wr)
    (hO : wr.ownsRow (w.heap.size + 1 + 1) 22 1 v m ((List.range m).map fun j => .slice (some ⟨rb j, 0, none⟩) n n))
    (hV : ∀ j, j < m → w.heap.size + 1 + 1 ≤ rb j ∧ rb j < wr.heap.size ∧ v.ownBlock ≠ some (rb j) ∧ Row wr (rb j) 3 (CTab n fun _ => .int .i64 0)) (hM : ∀ j k, j < k → k < m → rb j < rb k) :
    GivesW w p m n (fun _ _ => 0) (.returned (.agg #[.int .i64 p, v])) ((wr.setCell ⟨w.heap.size, 0, none⟩ (.int .i64 p)).setCell ⟨w.heap.size, 1, none⟩ v) := by
  have hs2 := size_set2 wr ⟨w.heap.size, 0, none⟩ ⟨w.heap.size, 1, none⟩ (.int .i64 p) v
  refine ⟨v, rfl, ?_, setCell2_lo h.b (Nat.le_refl _) _ _⟩
  rcases hO.2 with ⟨rfl, h0⟩ | ⟨g, cap, cur, rfl, hb, hg, hnc, _⟩
  · exact absurd h0 (by omega)
  · have hlt := hO.lt g rfl
    refine ⟨g, cap, rb, rfl, hnc, by omega, by rw [hs2]; omega, fun i hi => ?_, fun i hi => ?_, fun i j hi hj e => ?_⟩
    · have := World.ownsRow.cells hO (g := g) rfl i (.slice (some ⟨rb i, 0, none⟩) n n) (by simp [hi])
      rw [Addr.add_lit, Nat.zero_add] at this
      rw [World.cell?_setCell_far _ _ _ _ (show w.heap.size ≠ g by omega), World.cell?_setCell_far _ _ _ _ (show w.heap.size ≠ g by omega)]
      exact this
    · obtain ⟨h1, h2, h3, h4⟩ := hV i hi
      exact ⟨by omega, fun e => h3 (by rw [e]; rfl), (h4.far (p := ⟨w.heap.size, 0, none⟩) (show rb i ≠ w.heap.size by omega) _).far (p := ⟨w.heap.size, 1, none⟩) (show rb i ≠ w.heap.size by omega) _⟩
    · rcases Nat.lt_trichotomy i j with h | h | h
      · have := hM i j h hj; omega
      · exact h
      · have := hM j i h hi; omega

set_option maxRecDepth 100000 in
set_option maxHeartbeats 2000000 in
theorem blank_any (p : Int) (m n : Nat) (w : World) (hm1 : 1 ≤ m) (hm : m ≤ 1000) (hn : n ≤ 1000) : Calls Tryz.prog 34 #[.int .i64 p, .int .i64 m, .int .i64 n] w (GivesW w p m n fun _ _ => 0) := by
  obtain ⟨j0, hj0, hy0, hy1, hy2⟩ := info_parts info27m
  have hmk := fun W => make_ints n (by omega) W
  have HS := Lib.hid (blk_start w p m n)
  go_enter Tryz.func34, Tryz.ntmps34
  go_wp2
  go_loopw [8] (fun i wr => ∃ k : Nat, i = .int .i64 k ∧ BlkI w p m n k wr) (fun i _ => m - (intOf i).toNat)
  case atStart => exact ⟨0, rfl, HS.out⟩
  case round =>
    obtain ⟨i, rfl, hI⟩ := hrel
    have hle := hI.le
    by_cases hlt : i < m
    · have hd : decide ((i : Int) < (m : Int)) = true := decide_eq_true (by omega)
      obtain ⟨v, rb, hr, hO, hV, hM⟩ := hI.rows
      have hc1 : wr.cell? ⟨w.heap.size + 1, 1, none⟩ = some v := hr.cell (i := 1) rfl
      have HI := Lib.hid hI
      have HR := Lib.hid hr
      have HO := Lib.hid hO
      have HV := Lib.hid hV
      have HM := Lib.hid hM
      have hb1 : w.heap.size + 1 + 1 ≤ wr.heap.size := hI.sz
      have hlim : i + 1 ≤ 1001 := by omega
      have HO2 := Lib.hid (show (((wr.alloc (.cells (CTab n fun _ => .int .i64 0) 3)).alloc (.cells #[.slice (some ⟨wr.heap.size, 0, none⟩) n n] 22)).drew).ownsRow _ _ _ _ _ _ from (hO.alloc (.cells (CTab n fun _ => .int .i64 0) 3)).alloc (.cells #[.slice (some ⟨wr.heap.size, 0, none⟩) n n] 22))
      have HCN := Lib.hid (show ∀ j u, [Value.slice (some ⟨wr.heap.size, 0, none⟩) n n][j]? = some u → (((wr.alloc (.cells (CTab n fun _ => .int .i64 0) 3)).alloc (.cells #[.slice (some ⟨wr.heap.size, 0, none⟩) n n] 22)).drew).cell? ((⟨wr.heap.size + 1, 0, none⟩ : Addr).add j) = some u from fun j u h => by
        have := cell_one_new (wr.alloc (.cells (CTab n fun _ => .int .i64 0) 3)) (.slice (some ⟨wr.heap.size, 0, none⟩) n n) 22 j u h
        rw [show (wr.alloc (.cells (CTab n fun _ => .int .i64 0) 3)).heap.size = wr.heap.size + 1 by simp] at this
        exact this)
      have HKA := Lib.hid (show (wr.alloc (.cells (CTab n fun _ => .int .i64 0) 3)).drew.cell? ⟨w.heap.size + 1, 1, none⟩ = some v from (hr.alloc _).cell (i := 1) rfl)
      have HKB := Lib.hid (show ((wr.alloc (.cells (CTab n fun _ => .int .i64 0) 3)).alloc (.cells #[.slice (some ⟨wr.heap.size, 0, none⟩) n n] 22)).drew.cell? ⟨w.heap.size + 1, 1, none⟩ = some v from ((hr.alloc _).alloc _).cell (i := 1) rfl)
      have HS0 := Lib.hid (show wr.drew.cell? ⟨w.heap.size + 1, 1, none⟩ = some v from hc1)
      clear hI hr hO hV hM
      go_wp2_with fail
      refine wp_region_held_drew (S := (fun _ => True)) (by kernel_rfl) trivial (fun hHeld => ?_)
      refine takeH (i := 0) (v := (.pointer (some ⟨w.heap.size + 1, 1, none⟩))) rfl rfl (by kernel_rfl) (by kernel_rfl) (by kernel_rfl) (fun _ _ _ h => h) (by rfl) (fun W hW => by (skip); go_simp) (by assumption) ?_
      simp only [List.setIfInBounds_toArray, List.set_cons_zero, List.set_cons_succ]
      refine takeH (i := 2) (v := (.int .i64 n)) rfl rfl (by kernel_rfl) (by kernel_rfl) (by kernel_rfl) (fun _ _ _ h => h) (by rfl) (fun W hW => by (skip); go_simp) (by assumption) ?_
      simp only [List.setIfInBounds_toArray, List.set_cons_zero, List.set_cons_succ]
      have l0 := HS0.out
      have l1 := HKA.out
      have l2 := HKB.out
      refine wpAnyH_ready (rs := [1, 3]) (by kernel_rfl) (by simp) ?_
      refine (AllReadyH.cons rfl (fun K hK => ?_) (AllReadyH.cons rfl (fun K hK => ?_) AllReadyH.nil))
      · go_simp
        refine hK.out _ _ trivial (fun hHeld => ?_)
        clear hK K
        try simp only [Act.put, List.setIfInBounds_toArray, List.set_cons_zero, List.set_cons_succ]
        refine wpAnyH_ready (rs := [3]) (by kernel_rfl) (by simp) ?_
        refine (AllReadyH.cons rfl (fun K hK => ?_) AllReadyH.nil)
        go_simp
        refine hK.out _ _ trivial (fun hHeld => ?_)
        clear hK K
        try simp only [Act.put, List.setIfInBounds_toArray, List.set_cons_zero, List.set_cons_succ]
        refine wpAnyH_ready (rs := [4]) (by kernel_rfl) (by simp) ?_
        refine (AllReadyH.cons rfl (fun K hK => ?_) AllReadyH.nil)
        go_simp
        refine hK.out _ _ trivial (fun hHeld => ?_)
        clear hK K
        try simp only [Act.put, List.setIfInBounds_toArray, List.set_cons_zero, List.set_cons_succ]
        refine wpAnyH_ready (rs := [5]) (by kernel_rfl) (by simp) ?_
        refine (AllReadyH.cons rfl (fun K hK => ?_) AllReadyH.nil)
        refine op_append_own (.tmp 17) (.tmp 20) 25 rfl (w.heap.size + 1 + 1) 22 j0 (.slice none 0 0) 1 24 Tryz.underlying25 hj0 hy0 hy1 hy2 rfl (by decide) _ _ _ rfl HO2.out _ 1 1 [.slice (some ⟨wr.heap.size, 0, none⟩) n n] rfl rfl HCN.out (by simp [Value.oneCell']) (by unfold maxLen; omega) (by omega) (by show w.heap.size + 1 + 1 ≤ ((wr.alloc (.cells (CTab n fun _ => .int .i64 0) 3)).alloc (.cells #[.slice (some ⟨wr.heap.size, 0, none⟩) n n] 22)).heap.size; simp; omega) ?_
        intro v1 w3 hown hgrow hob
        obtain ⟨A3, c3, rfl⟩ := owned_form hown
        have hg2 : ((wr.alloc (.cells (CTab n fun _ => .int .i64 0) 3)).alloc (.cells #[.slice (some ⟨wr.heap.size, 0, none⟩) n n] 22)).grownBy w3 v.ownBlock := ⟨hgrow.os, hgrow.tape, hgrow.output, hgrow.size, hgrow.block⟩
        have hr3 : Row w3 (w.heap.size + 1) 31 #[.int .i64 p, v] := ((HR.out.alloc (.cells (CTab n fun _ => .int .i64 0) 3)).alloc (.cells #[.slice (some ⟨wr.heap.size, 0, none⟩) n n] 22)).kept hg2 (fun e => by have := HO.out.lt _ e.symm; omega)
        have HK3 := Lib.hid (show w3.cell? ⟨w.heap.size + 1, 1, none⟩ = some v from hr3.cell (i := 1) rfl)
        have hf3 := hr3.frozen 1
        have HN := Lib.hid (blk_step HI.out hlt HR.out HO.out HV.out HM.out hown hg2 hob)
        clear hr3 hg2 hown hgrow hob
        refine hK.out _ _ trivial (fun hHeld => ?_)
        clear hK K
        try simp only [Act.put, List.setIfInBounds_toArray]
        refine takeH (i := 6) (v := (.pointer (some ⟨w.heap.size + 1, 1, none⟩))) rfl rfl (by kernel_rfl) (by kernel_rfl) (by kernel_rfl) (fun _ _ _ h => h) (by rfl) (fun W hW => by (skip); go_simp) (by assumption) ?_
        simp only [List.setIfInBounds_toArray, List.set_cons_zero, List.set_cons_succ]
        have hc3 := HK3.out
        refine wpAnyH_ready (rs := [7]) (by kernel_rfl) (by simp) ?_
        refine (AllReadyH.cons rfl (fun K hK => ?_) AllReadyH.nil)
        go_simp
        refine hK.out _ _ trivial (fun hHeld => ?_)
        clear hK K
        try simp only [Act.put, List.setIfInBounds_toArray, List.set_cons_zero, List.set_cons_succ]
        refine wpAnyH_done (by kernel_rfl) ?_ _
        go_wp2
        go_roundw
        case rel => exact ⟨i + 1, by go_num, HN.out⟩
        case measure => simp [intOf]; omega

      · go_simp
        refine hK.out _ _ trivial (fun hHeld => ?_)
        clear hK K
        try simp only [Act.put, List.setIfInBounds_toArray, List.set_cons_zero, List.set_cons_succ]
        refine wpAnyH_ready (rs := [1, 4]) (by kernel_rfl) (by simp) ?_
        refine (AllReadyH.cons rfl (fun K hK => ?_) (AllReadyH.cons rfl (fun K hK => ?_) AllReadyH.nil))
        · go_simp
          refine hK.out _ _ trivial (fun hHeld => ?_)
          clear hK K
          try simp only [Act.put, List.setIfInBounds_toArray, List.set_cons_zero, List.set_cons_succ]
          refine wpAnyH_ready (rs := [4]) (by kernel_rfl) (by simp) ?_
          refine (AllReadyH.cons rfl (fun K hK => ?_) AllReadyH.nil)
          go_simp
          refine hK.out _ _ trivial (fun hHeld => ?_)
          clear hK K
          try simp only [Act.put, List.setIfInBounds_toArray, List.set_cons_zero, List.set_cons_succ]
          refine wpAnyH_ready (rs := [5]) (by kernel_rfl) (by simp) ?_
          refine (AllReadyH.cons rfl (fun K hK => ?_) AllReadyH.nil)
          refine op_append_own (.tmp 17) (.tmp 20) 25 rfl (w.heap.size + 1 + 1) 22 j0 (.slice none 0 0) 1 24 Tryz.underlying25 hj0 hy0 hy1 hy2 rfl (by decide) _ _ _ rfl HO2.out _ 1 1 [.slice (some ⟨wr.heap.size, 0, none⟩) n n] rfl rfl HCN.out (by simp [Value.oneCell']) (by unfold maxLen; omega) (by omega) (by show w.heap.size + 1 + 1 ≤ ((wr.alloc (.cells (CTab n fun _ => .int .i64 0) 3)).alloc (.cells #[.slice (some ⟨wr.heap.size, 0, none⟩) n n] 22)).heap.size; simp; omega) ?_
          intro v1 w3 hown hgrow hob
          obtain ⟨A3, c3, rfl⟩ := owned_form hown
          have hg2 : ((wr.alloc (.cells (CTab n fun _ => .int .i64 0) 3)).alloc (.cells #[.slice (some ⟨wr.heap.size, 0, none⟩) n n] 22)).grownBy w3 v.ownBlock := ⟨hgrow.os, hgrow.tape, hgrow.output, hgrow.size, hgrow.block⟩
          have hr3 : Row w3 (w.heap.size + 1) 31 #[.int .i64 p, v] := ((HR.out.alloc (.cells (CTab n fun _ => .int .i64 0) 3)).alloc (.cells #[.slice (some ⟨wr.heap.size, 0, none⟩) n n] 22)).kept hg2 (fun e => by have := HO.out.lt _ e.symm; omega)
          have HK3 := Lib.hid (show w3.cell? ⟨w.heap.size + 1, 1, none⟩ = some v from hr3.cell (i := 1) rfl)
          have hf3 := hr3.frozen 1
          have HN := Lib.hid (blk_step HI.out hlt HR.out HO.out HV.out HM.out hown hg2 hob)
          clear hr3 hg2 hown hgrow hob
          refine hK.out _ _ trivial (fun hHeld => ?_)
          clear hK K
          try simp only [Act.put, List.setIfInBounds_toArray]
          refine takeH (i := 6) (v := (.pointer (some ⟨w.heap.size + 1, 1, none⟩))) rfl rfl (by kernel_rfl) (by kernel_rfl) (by kernel_rfl) (fun _ _ _ h => h) (by rfl) (fun W hW => by (skip); go_simp) (by assumption) ?_
          simp only [List.setIfInBounds_toArray, List.set_cons_zero, List.set_cons_succ]
          have hc3 := HK3.out
          refine wpAnyH_ready (rs := [7]) (by kernel_rfl) (by simp) ?_
          refine (AllReadyH.cons rfl (fun K hK => ?_) AllReadyH.nil)
          go_simp
          refine hK.out _ _ trivial (fun hHeld => ?_)
          clear hK K
          try simp only [Act.put, List.setIfInBounds_toArray, List.set_cons_zero, List.set_cons_succ]
          refine wpAnyH_done (by kernel_rfl) ?_ _
          go_wp2
          go_roundw
          case rel => exact ⟨i + 1, by go_num, HN.out⟩
          case measure => simp [intOf]; omega

        · go_simp
          refine hK.out _ _ trivial (fun hHeld => ?_)
          clear hK K
          try simp only [Act.put, List.setIfInBounds_toArray, List.set_cons_zero, List.set_cons_succ]
          refine wpAnyH_ready (rs := [1]) (by kernel_rfl) (by simp) ?_
          refine (AllReadyH.cons rfl (fun K hK => ?_) AllReadyH.nil)
          go_simp
          refine hK.out _ _ trivial (fun hHeld => ?_)
          clear hK K
          try simp only [Act.put, List.setIfInBounds_toArray, List.set_cons_zero, List.set_cons_succ]
          refine wpAnyH_ready (rs := [5]) (by kernel_rfl) (by simp) ?_
          refine (AllReadyH.cons rfl (fun K hK => ?_) AllReadyH.nil)
          refine op_append_own (.tmp 17) (.tmp 20) 25 rfl (w.heap.size + 1 + 1) 22 j0 (.slice none 0 0) 1 24 Tryz.underlying25 hj0 hy0 hy1 hy2 rfl (by decide) _ _ _ rfl HO2.out _ 1 1 [.slice (some ⟨wr.heap.size, 0, none⟩) n n] rfl rfl HCN.out (by simp [Value.oneCell']) (by unfold maxLen; omega) (by omega) (by show w.heap.size + 1 + 1 ≤ ((wr.alloc (.cells (CTab n fun _ => .int .i64 0) 3)).alloc (.cells #[.slice (some ⟨wr.heap.size, 0, none⟩) n n] 22)).heap.size; simp; omega) ?_
          intro v1 w3 hown hgrow hob
          obtain ⟨A3, c3, rfl⟩ := owned_form hown
          have hg2 : ((wr.alloc (.cells (CTab n fun _ => .int .i64 0) 3)).alloc (.cells #[.slice (some ⟨wr.heap.size, 0, none⟩) n n] 22)).grownBy w3 v.ownBlock := ⟨hgrow.os, hgrow.tape, hgrow.output, hgrow.size, hgrow.block⟩
          have hr3 : Row w3 (w.heap.size + 1) 31 #[.int .i64 p, v] := ((HR.out.alloc (.cells (CTab n fun _ => .int .i64 0) 3)).alloc (.cells #[.slice (some ⟨wr.heap.size, 0, none⟩) n n] 22)).kept hg2 (fun e => by have := HO.out.lt _ e.symm; omega)
          have HK3 := Lib.hid (show w3.cell? ⟨w.heap.size + 1, 1, none⟩ = some v from hr3.cell (i := 1) rfl)
          have hf3 := hr3.frozen 1
          have HN := Lib.hid (blk_step HI.out hlt HR.out HO.out HV.out HM.out hown hg2 hob)
          clear hr3 hg2 hown hgrow hob
          refine hK.out _ _ trivial (fun hHeld => ?_)
          clear hK K
          try simp only [Act.put, List.setIfInBounds_toArray]
          refine takeH (i := 6) (v := (.pointer (some ⟨w.heap.size + 1, 1, none⟩))) rfl rfl (by kernel_rfl) (by kernel_rfl) (by kernel_rfl) (fun _ _ _ h => h) (by rfl) (fun W hW => by (skip); go_simp) (by assumption) ?_
          simp only [List.setIfInBounds_toArray, List.set_cons_zero, List.set_cons_succ]
          have hc3 := HK3.out
          refine wpAnyH_ready (rs := [7]) (by kernel_rfl) (by simp) ?_
          refine (AllReadyH.cons rfl (fun K hK => ?_) AllReadyH.nil)
          go_simp
          refine hK.out _ _ trivial (fun hHeld => ?_)
          clear hK K
          try simp only [Act.put, List.setIfInBounds_toArray, List.set_cons_zero, List.set_cons_succ]
          refine wpAnyH_done (by kernel_rfl) ?_ _
          go_wp2
          go_roundw
          case rel => exact ⟨i + 1, by go_num, HN.out⟩
          case measure => simp [intOf]; omega

    · have e : i = m := by omega
      subst e
      obtain ⟨v, rb, hr, hO, hV, hM⟩ := hI.rows
      obtain ⟨A0, c0, rfl⟩ := owned_form hO
      have c1 := hr.cell (i := 0) rfl
      have c2 := hr.cell (i := 1) rfl
      have d1 := hI.res.cell (i := 0) rfl
      have d2 := hI.res.cell (i := 1) rfl
      have f1 := hI.res.frozen 0
      have f2 := hI.res.frozen 1
      have HE := Lib.hid (blk_end hm1 hI hO hV hM)
      have HX := Lib.hid (hI.res.row_set (.int .i64 p) (.slice A0 i c0))
      clear hI hr hO hV hM
      go_wp2
      have e1 := HX.out.cell (i := 0) rfl
      have e2 := HX.out.cell (i := 1) rfl
      refine bodyPost_ret (v := .agg #[.int .i64 p, .slice A0 i c0]) ?_ rfl HE.out
      simp [results, Tryz.results34, go_sem, e1, e2]
theorem Row.ne {w : World} {a b : Nat} {t u : TypeId} {cs ds : Array Value} (h : Row w a t cs) (k : Row w b u ds) (htu : t ≠ u) : a ≠ b := fun e => by
  subst e
  have := h.symm.trans k
  injection this with this
  injection this with _ this _
  exact htu this
/-- A matrix that is being written, in its box T; what was there before w4's end is as it was. -/
structure WrI (w4 : World) (T : Nat) (p : Int) (v : Value) (m n : Nat) (F : Nat → Nat → Int) (wr : World) : Prop where
  wm : WrM wr w4.heap.size v m n F
  box : Row wr T 31 #[.int .i64 p, v]
  b : Below w4.heap.size w4 wr
theorem WrI.drew {w4 wr : World} {T : Nat} {p : Int} {v : Value} {m n : Nat} {F : Nat → Nat → Int} (h : WrI w4 T p v m n F wr) : WrI w4 T p v m n F wr.drew := ⟨h.wm, h.box, below_drew h.b⟩
theorem WrI.congr {w4 wr : World} {T : Nat} {p : Int} {v : Value} {m n : Nat} {F G : Nat → Nat → Int} (h : WrI w4 T p v m n F wr) (hf : ∀ i, i < m → ∀ j, j < n → F i j = G i j) : WrI w4 T p v m n G wr := ⟨h.wm.congr hf, h.box, h.b⟩
theorem WrI.at_ {w4 wr : World} {T : Nat} {p : Int} {v : Value} {m n : Nat} {F : Nat → Nat → Int} (h : WrI w4 T p v m n F wr) : ∃ (g cap : Nat) (rb : Nat → Nat), v = .slice (some ⟨g, 0, none⟩) m cap ∧ ∀ i, i < m → wr.cell? ⟨g, i, none⟩ = some (.slice (some ⟨rb i, 0, none⟩) n n) ∧
    ∀ k, k < n → wr.cell? ⟨rb i, k, none⟩ = some (.int .i64 (F i k)) ∧ wr.frozen? ⟨rb i, k, none⟩ = false ∧ ∀ x, WrI w4 T p v m n (updF F i k x) (wr.setCell ⟨rb i, k, none⟩ (.int .i64 x)) := by
  obtain ⟨g, cap, rb, rfl, hc, hl, hg, hh, hr, hinj⟩ := id h.wm
  obtain ⟨g', cap', rb', e, h2⟩ := h.wm.at_
  injection e with e1 _ e3
  injection e1 with e1
  injection e1 with e1
  subst e1; subst e3
  refine ⟨g, cap, rb', rfl, fun i hi => ⟨(h2 i hi).1, fun k hk => ?_⟩⟩
  obtain ⟨q1, q2, q3, q4⟩ := (h2 i hi).2 k hk
  have e : rb i = rb' i := by
    have := (hh i hi).symm.trans (h2 i hi).1
    injection this with this
    injection this with this
    injection this with this
    injection this with this
  refine ⟨q1, q2, fun x => ⟨q4 x, h.box.far (p := ⟨rb' i, k, none⟩) (by rw [← e]; exact (Row.ne h.box (hr i hi).2.2 (by decide))) _, h.b.setCell (p := ⟨rb' i, k, none⟩) q3 _⟩⟩

theorem WrM.mono {w : World} {lo lo' : Nat} {v : Value} {m n : Nat} {F : Nat → Nat → Int} (h : WrM w lo v m n F) (hl : lo' ≤ lo) : WrM w lo' v m n F := by
  obtain ⟨g, cap, rb, rfl, hc, hlo, hg, hh, hr, hi⟩ := h
  exact ⟨g, cap, rb, rfl, hc, Nat.le_trans hl hlo, hg, hh, fun i hi => ⟨Nat.le_trans hl (hr i hi).1, (hr i hi).2⟩, hi⟩
theorem WrM.far {w : World} {lo : Nat} {v : Value} {m n : Nat} {F : Nat → Nat → Int} (h : WrM w lo v m n F) {p : Addr} (hp : p.block < lo) (u : Value) : WrM (w.setCell p u) lo v m n F := by
  obtain ⟨g, cap, rb, rfl, hc, hlo, hg, hh, hr, hi⟩ := h
  exact ⟨g, cap, rb, rfl, hc, hlo, by rw [size_set]; exact hg, fun i hi => (World.cell?_setCell_other _ _ _ _ (fun e => by have hp' := hp; rw [e] at hp'; exact absurd hp' (by show ¬ g < lo; omega))).trans (hh i hi), fun i hi => ⟨(hr i hi).1, (hr i hi).2.1, (hr i hi).2.2.far (p := p) (fun e => by have := (hr i hi).1; omega) u⟩, hi⟩
theorem wri_a {w3 w5 : World} {p : Int} {m n g cap : Nat} {F : Nat → Nat → Int} (hW : WrM w5 w3.heap.size (.slice (some ⟨g, 0, none⟩) m cap) m n F) (h : Below w3.heap.size w3 w5) :
    WrI w3 w5.heap.size p (.slice (some ⟨g, 0, none⟩) m cap) m n F (w5.alloc (.cells #[.int .i64 p, .slice (some ⟨g, 0, none⟩) m cap] 31)) :=
  ⟨hW.below ((Below.refl _ _).alloc (Nat.le_refl _) _), row_new rfl _ _, h.alloc h.size _⟩
theorem wri_b {w3 w5 : World} {p : Int} {m n g cap : Nat} {F : Nat → Nat → Int} (hW : WrM w5 (w3.alloc (.cells #[.int .i64 0, .slice none 0 0] 31)).heap.size (.slice (some ⟨g, 0, none⟩) m cap) m n F)
    (hT : Row w5 w3.heap.size 31 #[.int .i64 0, .slice none 0 0]) (h : Below w3.heap.size w3 w5) :
    WrI w3 w3.heap.size p (.slice (some ⟨g, 0, none⟩) m cap) m n F ((w5.setCell ⟨w3.heap.size, 0, none⟩ (.int .i64 p)).setCell ⟨w3.heap.size, 1, none⟩ (.slice (some ⟨g, 0, none⟩) m cap)) :=
  ⟨((hW.far (p := ⟨w3.heap.size, 0, none⟩) (by simp) _).far (p := ⟨w3.heap.size, 1, none⟩) (by simp) _).mono (by simp), hT.row_set _ _, setCell2_lo h (Nat.le_refl _) _ _⟩

/-- Written as far as the entry (i, k), which is x. -/
def stg (G : Nat → Nat → Int) (i k : Nat) (x : Int) (a b : Nat) : Int := if a < i ∨ (a = i ∧ b < k) then G a b else if a = i ∧ b = k then x else 0
theorem stg_upd (G : Nat → Nat → Int) (i k : Nat) (x y : Int) : updF (stg G i k x) i k y = stg G i k y := by
  funext a b
  unfold updF stg
  by_cases h : a = i ∧ b = k
  · rw [if_pos h, if_neg (by omega), if_pos h]
  · rw [if_neg h]
    split
    · rfl
    · simp
theorem stg_next (G : Nat → Nat → Int) (i k : Nat) : stg G i k (G i k) = stg G i (k + 1) 0 := by
  funext a b
  unfold stg
  by_cases h : a < i ∨ (a = i ∧ b < k)
  · rw [if_pos h, if_pos (by omega)]
  · rw [if_neg h]
    by_cases h2 : a = i ∧ b = k
    · rw [if_pos h2, if_pos (by omega), h2.1, h2.2]
    · rw [if_neg h2, if_neg (by omega)]; split <;> rfl
theorem stg_here (G : Nat → Nat → Int) (i k : Nat) (x : Int) : stg G i k x i k = x := by unfold stg; rw [if_neg (by omega), if_pos ⟨rfl, rfl⟩]
theorem stg_row (G : Nat → Nat → Int) (i n : Nat) : ∀ a b, b < n → stg G i n 0 a b = stg G (i + 1) 0 0 a b := fun a b hb => by
  unfold stg
  by_cases h : a < i ∨ (a = i ∧ b < n)
  · rw [if_pos h, if_pos (by omega)]
  · have h2 : ¬ (a < i + 1 ∨ (a = i + 1 ∧ b < 0)) := by omega
    rw [if_neg h, if_neg h2]; simp
theorem stg_start (G : Nat → Nat → Int) : stg G 0 0 0 = fun _ _ => 0 := by
  funext a b
  unfold stg
  rw [if_neg (by omega)]; split <;> rfl
theorem stg_end (G : Nat → Nat → Int) (m : Nat) : ∀ a, a < m → ∀ b, stg G m 0 0 a b = G a b := fun a ha b => by unfold stg; rw [if_pos (.inl ha)]

/-- The same, column by column. -/
def stgT (G : Nat → Nat → Int) (i k : Nat) (x : Int) (a b : Nat) : Int := stg (fun a b => G b a) i k x b a
theorem stgT_upd (G : Nat → Nat → Int) (i k : Nat) (x y : Int) : updF (stgT G i k x) k i y = stgT G i k y := by
  funext a b
  have := congrFun (congrFun (stg_upd (fun a b => G b a) i k x y) b) a
  unfold updF at this ⊢
  unfold stgT
  rw [← this]
  by_cases h : a = k ∧ b = i
  · rw [if_pos h, if_pos h.symm]
  · rw [if_neg h, if_neg fun e => h e.symm]
theorem stgT_next (G : Nat → Nat → Int) (i k : Nat) : stgT G i k (G k i) = stgT G i (k + 1) 0 := by
  funext a b
  exact congrFun (congrFun (stg_next (fun a b => G b a) i k) b) a
theorem stgT_start (G : Nat → Nat → Int) : stgT G 0 0 0 = fun _ _ => 0 := by
  funext a b
  exact congrFun (congrFun (stg_start (fun a b => G b a)) b) a

set_option maxRecDepth 100000 in
set_option maxHeartbeats 4000000 in
theorem rTurn_any (ra : Value) (m : Nat) (n : Nat → Nat) (f : Nat → Nat → Int) (p : Int) (w : World) (hm : m ≤ 1000000) (hn : ∀ i, i < m → n i ≤ 1000000) (ha : Grid w (· < w.heap.size) ra m n f) (x : Int) (hx : x = chkM p m n f) :
    Calls Tryz.prog 13 #[.agg #[.int .i64 p, ra]] w (MPost x True w p (n 0) m (fun i j => f j i)) := by
  have HC := fun W h => Lib.hid (rCheck_any ra m n f p W hm hn h)
  rw [← hx] at HC
  have HX := Lib.hid hx
  have HA := Lib.hid ha
  clear hx
  by_cases hx0 : x = 0
  · subst hx0
    obtain ⟨hmod, g1, g2, g3, g4, g5⟩ := chkM_zero HX.out.symm
    obtain ⟨hp2, hp4, hp6⟩ := modB_true hmod
    obtain ⟨pn, rfl⟩ : ∃ pn : Nat, p = pn := ⟨p.toNat, by omega⟩
    obtain ⟨ag, ao, ac, RA, CA, rfl, hac, hab, hag⟩ := ha.at_ (by omega)
    have hr0 := (hag 0 (by omega)).1
    rw [Nat.add_zero] at hr0
    have HPO := Lib.hid (fun (e : Ending) (w' : World) (h : OkM w pn (n 0) m (fun i j => f j i) e w') => (show MPost 0 True w pn (n 0) m (fun i j => f j i) e w' from ⟨fun h => absurd rfl h, fun _ h => absurd trivial h, fun _ _ => h⟩))
    generalize MPost 0 True w pn (n 0) m (fun i j => f j i) = PP at HPO ⊢
    have HIN := Lib.hid (fun i (hi : i < m) => (show InP (pn : Int) (n 0) (f i) from by have := (g5 i hi).2; rw [(g5 i hi).1] at this; exact this))
    have HAG := Lib.hid (show ∀ i, i < m → w.cell? ⟨ag, ao + i, none⟩ = some (.slice (RA i) (n 0) (CA i)) ∧ Vec w (· < w.heap.size) (.slice (RA i) (n 0) (CA i)) (n 0) (f i) from fun i hi => by have := hag i hi; rwa [(g5 i hi).1] at this)
    have HX2 := Lib.hid (box2 w #[.int .i64 pn, .slice (some ⟨ag, ao, none⟩) m ac])
    generalize n 0 = n0 at HIN HAG g3 g4 HPO hr0
    have HBL := fun W => Lib.hid (blank_any (pn : Int) n0 m W (by omega) (by omega) (by omega))
    clear ha hn g5 hmod hag HX
    go_enter Tryz.func13, Tryz.ntmps13
    go_wp2_with fail
    generalize (w.alloc (.cells #[.int .i64 pn, .slice (some ⟨ag, ao, none⟩) m ac] 31)).alloc (.cells #[.int .i64 0, .slice none 0 0] 31) = w3 at HX2
    refine (HC _ (HA.out.on HX2.out.be)).out.mono ?_
    rintro e w4 ⟨rfl, hb4⟩
    obtain ⟨j1, j2, j3⟩ := HX2.out.on hb4
    have HJ1 := Lib.hid j1
    have HJ2 := Lib.hid j2
    have HJ3 := Lib.hid j3
    have hsz4 : w.heap.size + 1 + 1 ≤ w4.heap.size := by have h1 := HX2.out.sz; have h2 := hb4.size; omega
    have c0 := j2.cell (i := 0) rfl
    have c1 := j2.cell (i := 1) rfl
    have c3 := (j1.cell (p := ⟨ag, ao, none⟩) hab).trans hr0
    have hm0 : (0 : Int) < (m : Int) := by omega
    have hm9 : ¬ m = 0 := by omega
    have hm7 : 0 < m := by omega
    have hm8 : decide (0 < m) = true := decide_eq_true (by omega)
    have HKB := Lib.hid (fun (W : World) (hb : Below w4.heap.size w4 W) => (show W.cell? ⟨w.heap.size, 0, none⟩ = some (.int .i64 pn) ∧ W.cell? ⟨w.heap.size, 1, none⟩ = some (.slice (some ⟨ag, ao, none⟩) m ac) ∧ W.cell? ⟨ag, ao, none⟩ = some (.slice (RA 0) n0 (CA 0)) from
      ⟨(HJ2.out.below hb HJ2.out.lt).cell rfl, (HJ2.out.below hb HJ2.out.lt).cell rfl, ((HJ1.out.trans (hb.mono HJ1.out.size)).cell (p := ⟨ag, ao, none⟩) hab).trans hr0⟩))
    clear j1 j2 j3 hb4 HX2
    go_wp2_with fail
    have HDR := Lib.hid (below_drew (Below.refl w4.heap.size w4))
    have HTB := Lib.hid (fun (W W' : World) (h : Below w4.heap.size w4 W) (h' : Below W.heap.size W W') => (show Below w4.heap.size w4 W' from h.trans (h'.mono h.size)))
    have HKA := Lib.hid (fun (W : World) (o : Obj) (h : Below w4.heap.size w4 W) => HKB.out (W.alloc o) (h.alloc h.size o))
    have HKC := Lib.hid (fun (W : World) (u v : Value) (h : Below w4.heap.size w4 W) => HKB.out ((W.setCell ⟨w4.heap.size, 0, none⟩ u).setCell ⟨w4.heap.size, 1, none⟩ v) (setCell2_lo h (Nat.le_refl _) u v))
    have h30 := HDR.out
    have HAL := Lib.hid (show Below w4.heap.size w4 (w4.alloc (.cells #[.int .i64 0, .slice none 0 0] 31)).drew from below_drew ((Below.refl _ _).alloc (Nat.le_refl _) _))
    have h31 := HAL.out
    have HRT := Lib.hid (show Row (w4.alloc (.cells #[.int .i64 0, .slice none 0 0] 31)).drew w4.heap.size 31 #[.int .i64 0, .slice none 0 0] from row_new rfl _ _)
    have HTT := Lib.hid (fun (W : World) (hb : Below (w4.alloc (.cells #[.int .i64 0, .slice none 0 0] 31)).drew.heap.size (w4.alloc (.cells #[.int .i64 0, .slice none 0 0] 31)).drew W) => (show W.cell? ⟨w4.heap.size, 0, none⟩ = some (.int .i64 0) ∧ W.cell? ⟨w4.heap.size, 1, none⟩ = some (.slice none 0 0) ∧ W.frozen? ⟨w4.heap.size, 0, none⟩ = false ∧ W.frozen? ⟨w4.heap.size, 1, none⟩ = false ∧ Row W w4.heap.size 31 #[.int .i64 0, .slice none 0 0] from
      ⟨(HRT.out.below hb HRT.out.lt).cell rfl, (HRT.out.below hb HRT.out.lt).cell rfl, (HRT.out.below hb HRT.out.lt).frozen 0, (HRT.out.below hb HRT.out.lt).frozen 1, HRT.out.below hb HRT.out.lt⟩))
    go_region_held3 (fun W => W.cell? ⟨w.heap.size, 0, none⟩ = some (.int .i64 pn) ∧ W.cell? ⟨w.heap.size, 1, none⟩ = some (.slice (some ⟨ag, ao, none⟩) m ac) ∧ W.cell? ⟨ag, ao, none⟩ = some (.slice (RA 0) n0 (CA 0)))
      ((first | assumption | (with_reducible exact HKB.out _ HDR.out) | (with_reducible exact HKB.out _ HAL.out) | (with_reducible exact HKA.out _ _ (by assumption)) | (with_reducible exact HKC.out _ _ _ (by assumption))))
      ((go_at_call 34; (with_reducible refine (HBL _).out.mono ?_); rintro e w5 ⟨v, rfl, hW, hb5⟩; (first | (with_reducible have h35 := HTB.out _ _ h30 hb5) | ((with_reducible have h35 := HTB.out _ _ h31 hb5); (with_reducible have hT := HTT.out _ hb5); obtain ⟨t0, t1, t2, t3, hRT⟩ := hT)); have hk := HKB.out _ h35; obtain ⟨g0, cap, rb, rfl, -⟩ := hW.at_))
    all_goals first
      | (have HWI := Lib.hid (wri_b (p := pn) hW hRT h35); generalize (w5.setCell ⟨w4.heap.size, 0, none⟩ (.int .i64 pn)).setCell ⟨w4.heap.size, 1, none⟩ (.slice (some ⟨g0, 0, none⟩) n0 cap) = w6 at HWI ⊢; generalize w4.heap.size = T at HWI ⊢)
      | (have HWI := Lib.hid (wri_a (w3 := w4) (p := pn) hW h35); generalize w5.alloc (.cells #[.int .i64 pn, (.slice (some ⟨g0, 0, none⟩) n0 cap)] 31) = w6 at HWI ⊢; generalize w5.heap.size = T at HWI ⊢)
    all_goals clear hW h35 hk hb5 h30 h31
    all_goals
      generalize hGG : (fun i j => f j i) = G at HPO
      have HGG := Lib.hid hGG
      have HGE := Lib.hid (show ∀ a b, (fun i j => f j i) a b = G a b from fun a b => by rw [hGG])
      have HST := Lib.hid (show WrI w4 T pn (.slice (some ⟨g0, 0, none⟩) n0 cap) n0 m (stgT G 0 0 0) w6 from by rw [stgT_start]; exact HWI.out)
      have HEND := Lib.hid (show ∀ wr, WrI w4 T pn (.slice (some ⟨g0, 0, none⟩) n0 cap) n0 m (stgT G m 0 0) wr → WrI w4 T pn (.slice (some ⟨g0, 0, none⟩) n0 cap) n0 m G wr from fun wr h => h.congr fun a ha b hb => stg_end _ _ b hb a)
      have hp9 : ¬ pn = 0 := by omega
      have hp8 : ((pn : Int) != 0) = true := by simp; omega
      clear c0 c1 c3 HWI HBL HKA HKC HAL HRT HTT HDR hGG
      go_wp2
      go_loopw [6] (fun t6 wr => ∃ i : Nat, t6 = .int .i64 i ∧ i ≤ m ∧ WrI w4 T pn (.slice (some ⟨g0, 0, none⟩) n0 cap) n0 m (stgT G i 0 0) wr) (fun t6 _ => m - (intOf t6).toNat)
      case atStart => exact ⟨0, rfl, Nat.zero_le _, HST.out⟩
      case round =>
        obtain ⟨i, rfl, hi, hW⟩ := hrel
        obtain ⟨c0, c1, c3⟩ := HKB.out _ hW.b
        by_cases him : i < m
        · have hd : decide ((i : Int) < (m : Int)) = true := decide_eq_true (by omega)
          have HW0 := Lib.hid hW
          clear hW
          go_wp2
          clear c0 c1 c3
          go_loopw [7] (fun t7 wr => ∃ k : Nat, t7 = .int .i64 k ∧ k ≤ n0 ∧ WrI w4 T pn (.slice (some ⟨g0, 0, none⟩) n0 cap) n0 m (stgT G i k 0) wr) (fun t7 _ => n0 - (intOf t7).toNat)
          case atStart => exact ⟨0, rfl, Nat.zero_le _, HW0.out⟩
          case round =>
            obtain ⟨k, rfl, hk, hW⟩ := hrel
            rename World => W2
            obtain ⟨c0, c1, c3⟩ := HKB.out _ hW.b
            by_cases hkn : k < n0
            · have hd2 : decide ((k : Int) < (n0 : Int)) = true := decide_eq_true (by omega)
              obtain ⟨g', cap', rb', e, hcl⟩ := hW.at_
              cases e
              obtain ⟨e1, e2⟩ := hcl k (by omega)
              obtain ⟨e3, e4, e5⟩ := e2 i (by omega)
              have c4 := hW.box.cell (i := 1) rfl
              have hBw := HJ1.out.trans (hW.b.mono HJ1.out.size)
              obtain ⟨u1, u2⟩ := HAG.out i him
              obtain ⟨ub, uo, uc, ue, _, uS, ucl⟩ := u2.at_ (by omega)
              rw [ue] at u1
              have u3 := (hBw.cell (p := ⟨ag, ao + i, none⟩) hab).trans u1
              have u4 := (hBw.cell (p := ⟨ub, uo + k, none⟩) uS).trans (ucl k hkn)
              have hx := HIN.out i him k hkn
              have hGv := HGE.out k i
              have HE5 := Lib.hid (fun x => (e5 x).drew)
              generalize stgT G i k 0 k i = s at e3
              have hGv2 : f i k = G k i := hGv
              generalize f i k = y at u4 hx hGv2
              have HNX := Lib.hid (show WrI w4 T pn (.slice (some ⟨g0, 0, none⟩) n0 cap) n0 m (stgT G i (k + 1) 0) (W2.setCell ⟨rb' k, i, none⟩ (.int .i64 y)).drew from by
                have := HE5.out y
                rw [stgT_upd, hGv2] at this
                rw [← stgT_next, hGv2]
                exact this)
              clear hGv hGv2
              have i1 : (i : Int) < (m : Int) := by omega
              have i2 : (0 : Int) ≤ (i : Int) := by omega
              have i3 : (k : Int) < (n0 : Int) := by omega
              have i4 : (0 : Int) ≤ (k : Int) := by omega
              clear hcl e2 e5 hBw u1 u2 ucl ue hW HE5 hx
              go_wp2_with fail
              go_still_tail 15, (by kernel_rfl)
              repeat still_step
              change wpList _ _ _ _ _ W2.drew
              go_wp2_with fail
              go_roundw
              case rel => exact ⟨k + 1, by go_num, by omega, HNX.out⟩
              case measure => simp [intOf]; omega
            · have e : k = n0 := by omega
              subst e
              have HN := Lib.hid (hW.congr (G := stgT G (i + 1) 0 0) fun a ha b hb => stg_row _ i k b a ha)
              clear hW
              go_wp2
              go_roundw
              case rel => exact ⟨i + 1, by go_num, by omega, HN.out⟩
              case measure => simp [intOf]; omega
        · have e : i = m := by omega
          subst e
          have hE := HEND.out _ hW
          have c4 := hE.box.cell (i := 0) rfl
          have c5 := hE.box.cell (i := 1) rfl
          have hR := HJ3.out.below hE.b HJ3.out.lt
          have d0 := hR.cell (i := 0) rfl
          have d1 := hR.cell (i := 1) rfl
          have f0 := hR.frozen 0
          have f1 := hR.frozen 1
          have hBw := HJ1.out.trans (hE.b.mono HJ1.out.size)
          have HXR := Lib.hid (agg_res hR hBw (by omega) (.int .i64 pn) (.slice (some ⟨g0, 0, none⟩) n0 cap))
          have HGR := Lib.hid ((hE.wm.grid.set2 (R := w.heap.size + 1) (fun h => by have := h.1; omega) (.int .i64 pn) (.slice (some ⟨g0, 0, none⟩) n0 cap)).more (S' := New w ((wr.setCell ⟨w.heap.size + 1, 0, none⟩ (.int .i64 pn)).setCell ⟨w.heap.size + 1, 1, none⟩ (.slice (some ⟨g0, 0, none⟩) n0 cap))) (fun b h => ⟨by have := h.1; omega, by rw [size_set2]; exact h.2⟩))
          clear hW hE hR hBw
          go_wp2
          obtain ⟨k3, k2⟩ := HXR.out
          have hc0 := k3.cell (i := 0) rfl
          have hc1 := k3.cell (i := 1) rfl
          refine bodyPost_ret (v := .tuple #[.agg #[.int .i64 pn, (.slice (some ⟨g0, 0, none⟩) n0 cap)], .int .i64 0]) ?_ rfl (HPO.out _ _ ⟨_, rfl, HGR.out, k2⟩)
          simp [results, Tryz.results13, go_sem, hc0, hc1]
  · have hd2 : (x != 0) = true := by simpa using hx0
    have HPO := Lib.hid (fun (e : Ending) (w' : World) (h : BadM w x e w') => (show MPost x True w p (n 0) m (fun i j => f j i) e w' from ⟨fun _ => h, fun h => absurd h hx0, fun h => absurd h hx0⟩))
    generalize MPost x True w p (n 0) m (fun i j => f j i) = PP at HPO ⊢
    obtain ⟨A, c, rfl, hcm⟩ := ha.form
    have HX2 := Lib.hid (box2 w #[.int .i64 p, .slice A m c])
    clear ha hn hx0 HX
    go_enter Tryz.func13, Tryz.ntmps13
    go_wp2_with fail
    generalize (w.alloc (.cells #[.int .i64 p, .slice A m c] 31)).alloc (.cells #[.int .i64 0, .slice none 0 0] 31) = w3 at HX2
    refine (HC _ (HA.out.on HX2.out.be)).out.mono ?_
    rintro e w4 ⟨rfl, hb4⟩
    obtain ⟨j1, j2, j3⟩ := HX2.out.on hb4
    have HE := Lib.hid (end_bad (w := w) j3 j1 (B := w.heap.size) (by omega))
    have d0 := j3.cell (i := 0) rfl
    have d1 := j3.cell (i := 1) rfl
    have f0 := j3.frozen 0
    have f1 := j3.frozen 1
    clear j1 j2 j3 hb4
    go_wp2_with fail
    obtain ⟨k3, k2⟩ := HE.out
    have hc0 := k3.cell (i := 0) rfl
    have hc1 := k3.cell (i := 1) rfl
    refine bodyPost_ret (v := .tuple #[.agg #[.int .i64 0, .slice none 0 0], .int .i64 x]) ?_ rfl (HPO.out _ _ ⟨rfl, k2⟩)
    simp [results, Tryz.results13, go_sem, hc0, hc1]
end Go.Proofs.YtinoomcboinokaaGreat
