/- cayleykit.One and cayleykit.Perm: a permutation that numbers select. -/
import Derived.Test.YtpchomhfpfpckaaDoorTaker
import Derived.Test.YtpchomhfpfpckaaDoorGroupMath
import Derived.Maps.AppendAt
import Derived.BigRegion
namespace Go.Proofs.YtpchomhfpfpckaaDoor
open Go Go.RowKit

def icells (l : List Int) : List Value := l.map fun x => Value.int .i64 x
/-- The slice v owns just the integers l, in a block from B on. -/
def OwnsI (w : World) (B : Nat) (v : Value) (l : List Int) : Prop := w.ownsRow B 3 1 v l.length (icells l)
theorem icells_append (l m : List Int) : icells (l ++ m) = icells l ++ icells m := by simp [icells]
theorem idL_succ (k : Nat) : idL (k + 1) = idL k ++ [(k : Int)] := by simp [idL, List.range_succ]
theorem info3' : (Tryd.prog.info? 3).map (fun i => (i.zero, i.size, i.bytes)) = some (some (.int .i64 0), 1, 8) := by kernel_rfl

set_option maxRecDepth 100000 in
set_option maxHeartbeats 400000 in
theorem kitOne_any (n : Nat) (w : World) (hn : n ≤ 1000000) :
    Calls Tryd.prog 28 #[.int .i64 n] w fun e w' => ∃ v, e = .returned v ∧ OwnsI w' w.heap.size v (idL n) ∧ Below w.heap.size w w' := by
  obtain ⟨i0, hi, hz0, hz1, hz2⟩ := info_parts info3'
  have h00 : OwnsI w w.heap.size (.slice none 0 0) (idL 0) := World.ownsRow_nil _ _ _ _
  have H0 := Lib.hid h00
  clear h00
  go_enter Tryd.func28, Tryd.ntmps28
  go_wp2
  go_loopw [3, 4] (fun v i wr => ∃ k : Nat, i = .int .i64 k ∧ k ≤ n ∧ OwnsI wr w.heap.size v (idL k) ∧ Below w.heap.size w wr) (fun _ i _ => n - (intOf i).toNat)
  case atStart => exact ⟨0, rfl, Nat.zero_le _, H0.out, Below.refl _ _⟩
  case round =>
    obtain ⟨k, rfl, hk, hO, hB⟩ := hrel
    have hBs := hB.size
    by_cases hlt : k < n
    · have hL : (idL k).length = k := idL_len k
      have HB := Lib.hid hB
      clear hB
      go_wp2_with (at_builtin; refine wpList_append_own _ rfl (.tmp 10) (.tmp 12) 24 rfl w.heap.size 3 i0 (.int .i64 0) 1 8 Tryd.underlying24 hi hz0 hz1 hz2 rfl (by decide) _ _ _ rfl (World.ownsRow.alloc hO _) ⟨wr.heap.size, 0, none⟩ 1 1 [.int .i64 (k : Int)] rfl rfl (cell_one_new _ _ _) (by simp [Value.oneCell']) (by unfold maxLen; omega) (by omega) (by simp; omega) ?_; intro v1 w1 hown' hgrow _)
      have HB1 := Lib.hid ((HB.out.alloc hBs _).grown hgrow (by simp; omega) (fun q hq => (hO.lt q hq).1))
      have hx : w1.ownsRow w.heap.size 3 1 v1 (idL (k + 1)).length (icells (idL (k + 1))) := by
        rw [idL_succ, icells_append, List.length_append]; exact hown'
      have HX := Lib.hid hx
      clear hx hown' hgrow hO hL
      go_wp2
      go_roundw
      case rel => exact ⟨k + 1, by go_num, by omega, HX.out, HB1.out⟩
      case measure => simp [intOf]; omega
    · have hkn : k = n := by omega
      subst hkn
      have HO := Lib.hid hO
      have HB := Lib.hid hB
      clear hO hB
      go_wp2
      go_ret
      exact ⟨_, rfl, HO.out, HB.out⟩

/-- Below B only block t has turned. -/
def But (t B : Nat) (w w' : World) : Prop := Below t w w' ∧ ∀ i, i < B → i ≠ t → w'.heap[i]? = w.heap[i]?
theorem But.refl (t B : Nat) (w : World) : But t B w w := ⟨Below.refl _ _, fun _ _ _ => rfl⟩
theorem But.trans {t B : Nat} {a b c : World} (h : But t B a b) (k : But t B b c) : But t B a c := ⟨h.1.trans k.1, fun i hi hn => (k.2 i hi hn).trans (h.2 i hi hn)⟩
theorem But.of {t B : Nat} {a b : World} (h : Below B a b) (ht : t ≤ B) : But t B a b := ⟨h.mono ht, fun i hi _ => h.block i hi⟩
theorem But.set {t B : Nat} (w : World) {p : Addr} (hp : p.block = t ∨ B ≤ p.block) (ht : t ≤ B) (u : Value) : But t B w (w.setCell p u) :=
  ⟨(Below.refl _ _).setCell (by omega) u, fun i hi hn => Below.heap_setCell w p u i (by omega)⟩
theorem But.mono {t B B' : Nat} {w w' : World} (h : But t B w w') (hB : B' ≤ B) : But t B' w w' := ⟨h.1, fun i hi hn => h.2 i (by omega) hn⟩
/-- A list in one block between t and B. -/
def Held (w : World) (t B : Nat) (v : Value) (l : List Int) : Prop := ∃ g c, v = .slice (some ⟨g, 0, none⟩) l.length c ∧ t < g ∧ g < B ∧ ∀ j, j < l.length → w.cell? ⟨g, j, none⟩ = some (.int .i64 (l.getD j 0))
theorem Held.keep {w w' : World} {t B : Nat} {v : Value} {l : List Int} (h : Held w t B v l) (hk : But t B w w') : Held w' t B v l := by
  obtain ⟨g, c, rfl, h1, h2, hc⟩ := h
  exact ⟨g, c, rfl, h1, h2, fun j hj => (World.cell?_of_block (hk.2 g h2 (by omega))).trans (hc j hj)⟩
theorem Held.more {w : World} {t B B' : Nat} {v : Value} {l : List Int} (h : Held w t B v l) (hB : B ≤ B') : Held w t B' v l := by
  obtain ⟨g, c, rfl, h1, h2, hc⟩ := h
  exact ⟨g, c, rfl, h1, by omega, hc⟩
theorem Held.ints {w : World} {t B : Nat} {v : Value} {l : List Int} (h : Held w t B v l) : Ints w B v l := by
  obtain ⟨g, c, rfl, h1, h2, hc⟩ := h
  exact ⟨_, c, rfl, fun _ => ⟨g, 0, rfl, h2, fun j hj => by rw [Nat.zero_add]; exact hc j hj⟩⟩

/-- Two images exchanged. -/
def swp (i j q : Nat) : Nat := if q = j then i else if q = i then j else q
theorem swp_at {l : List Int} {i j q : Nat} (hi : i < l.length) (hj : j < l.length) (hq : q < l.length) : ((l.set i (l.getD j 0)).set j (l.getD i 0)).getD q 0 = l.getD (swp i j q) 0 := by
  unfold swp
  simp only [List.getD_eq_getElem?_getD, List.getElem?_set, List.length_set]
  by_cases e : q = j
  · subst e; simp [hq]
  · rw [if_neg (Ne.symm e), if_neg e]
    by_cases e' : q = i
    · subst e'; simp [hq]
    · rw [if_neg (Ne.symm e'), if_neg e']
def pswap {n : Nat} (a : PL n) (i j : Nat) (hi : i < n) (hj : j < n) : PL n := ⟨(a.1.set i (a.1.getD j 0)).set j (a.1.getD i 0), by simp [a.2.1], by
  have hl : ((a.1.set i (a.1.getD j 0)).set j (a.1.getD i 0)).length = n := by simp [a.2.1]
  have hal := a.2.1
  have hs : ∀ q, q < n → swp i j q < n := fun q hq => by unfold swp; split <;> (try split) <;> omega
  refine fine_of (fun q hq => ?_) (fun p q hp hq e => ?_)
  · rw [hl] at hq ⊢
    rw [swp_at (by omega) (by omega) (by omega)]
    exact a.at_ (hs q hq)
  · rw [hl] at hp hq
    rw [swp_at (by omega) (by omega) (by omega), swp_at (by omega) (by omega) (by omega)] at e
    have h1 := fine_inj a.2.2 (by rw [hal]; exact hs p hp) (by rw [hal]; exact hs q hq) e
    unfold swp at h1
    split at h1 <;> split at h1 <;> (try split at h1) <;> (try split at h1) <;> omega⟩

theorem Took.keep {w w' : World} {t k g B cap n : Nat} {y : Int} {e : Ending} {v : Value} {zs l : List Int} (h : Took w t k y e w') (hT : TakerAt w t v zs k) (hO : w.ownsRow B 3 1 (.slice (some ⟨g, 0, none⟩) n cap) n (icells l)) (hg : t < g) (ht : t ≤ B) :
    ∃ x m, e = .returned (.int .i64 x) ∧ 0 ≤ x ∧ (x = 0 ∨ x < y) ∧ TakerAt w' t v zs m ∧ w'.ownsRow B 3 1 (.slice (some ⟨g, 0, none⟩) n cap) n (icells l) ∧ But t B w w' := by
  obtain ⟨x, q, he, h0, h1, rfl | rfl⟩ := h
  · exact ⟨x, k, he, h0, h1, hT, hO, ⟨⟨rfl, rfl, rfl, Nat.le_refl _, fun _ _ => rfl⟩, fun _ _ _ => rfl⟩⟩
  · refine ⟨x, k + 1, he, h0, h1, ⟨?_, ?_⟩, ?_, ?_⟩
    · have := hT.1.set 1 (.int .i64 ((k + 1 : Nat) : Int))
      exact this
    · exact hT.2.keep fun p hp => World.cell?_of_block (Below.heap_setCell w ⟨t, 1, none⟩ _ _ (by simp; omega))
    · have hs := But.set (t := t) (B := B) w (p := ⟨t, 1, none⟩) (.inl rfl) ht (.int .i64 ((k + 1 : Nat) : Int))
      have : (w.setCell ⟨t, 1, none⟩ (.int .i64 ((k + 1 : Nat) : Int))).ownsRow B 3 1 (.slice (some ⟨g, 0, none⟩) n cap) n (icells l) := by
        refine ⟨hO.1, hO.2.imp id ?_⟩
        rintro ⟨g', cap', cur, hv, hb, hgg, hr⟩
        refine ⟨g', cap', cur, hv, hb, ?_, hr⟩
        have : g' = g := by injection hv with h1 _ _; injection h1 with h1; injection h1 with h1 _; exact h1.symm
        subst this
        exact (Below.heap_setCell w ⟨t, 1, none⟩ _ _ (by simp; omega)).trans hgg
      exact this
    · have := But.set (t := t) (B := B) w (p := ⟨t, 1, none⟩) (.inl rfl) ht (.int .i64 ((k + 1 : Nat) : Int))
      exact ⟨⟨this.1.os, this.1.tape, this.1.output, this.1.size, this.1.block⟩, this.2⟩
end Go.Proofs.YtpchomhfpfpckaaDoor
