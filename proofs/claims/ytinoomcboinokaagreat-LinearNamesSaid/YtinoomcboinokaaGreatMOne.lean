/- matrix.one, matrix.One. -/
import Derived.Test.YtinoomcboinokaaGreatMScale
namespace Go.Proofs.YtinoomcboinokaaGreat
open Go Go.RowKit Num

def oneF (i j : Nat) : Int := if j = i then 1 else 0
theorem world_eq {w v : World} (h1 : w.heap = v.heap) (h2 : { w with heap := #[] } = { v with heap := #[] }) : w = v := by
  cases w; cases v; simp_all
theorem setCell_comm (w : World) (p q : Addr) (u v : Value) (h : p.block ≠ q.block) : (w.setCell p u).setCell q v = (w.setCell q v).setCell p u := by
  refine world_eq ?_ rfl
  apply Array.ext
  · simp [World.setCell]
  · intro i h1 h2
    simp only [World.setCell, Array.getElem_modify]
    by_cases e1 : p.block = i
    · by_cases e2 : q.block = i
      · exact absurd (e1.trans e2.symm) h
      · simp [e1, e2]
    · by_cases e2 : q.block = i
      · simp [e1, e2]
      · simp [e1, e2]
/-- Row k is made: a new block of zeros, and 1 at k. -/
theorem one_step {g0 n k : Nat} {w : World} (h : FillG g0 n (fun _ => n) oneF k w) (hk : k < n) :
    FillG g0 n (fun _ => n) oneF (k + 1) (((w.alloc (.cells (CTab n fun _ => .int .i64 0) 3)).setCell ⟨g0, k, none⟩ (.slice (some ⟨w.heap.size, 0, none⟩) n n)).setCell ⟨w.heap.size, k, none⟩ (.int .i64 1)) := by
  have hlt := h.lt
  rw [setCell_comm _ _ _ _ _ (by simp; omega)]
  have hB : Below w.heap.size w ((w.alloc (.cells (CTab n fun _ => .int .i64 0) 3)).setCell ⟨w.heap.size, k, none⟩ (.int .i64 1)) := ((Below.refl _ _).alloc (Nat.le_refl _) _).setCell (p := ⟨w.heap.size, k, none⟩) (Nat.le_refl _) _
  have hR := (row_new (W := w) rfl 3 (CTab n fun _ => .int .i64 0)).set k (.int .i64 1)
  have h2 : CTab n (fun j => if j = k then Value.int .i64 1 else Value.int .i64 0) = CTab n (iv (oneF k)) := CTab_congr _ _ _ fun i _ => by
    unfold iv oneF
    by_cases e : i = k
    · simp only [if_pos e]
    · simp only [if_neg e]
  rw [CTab_set, h2] at hR
  refine (h.on hB).step hk (Row.vec hR ⟨hlt, hR.lt⟩ (Nat.le_refl _))

set_option maxRecDepth 100000 in
set_option maxHeartbeats 1000000 in
theorem one_any (n : Nat) (p : Int) (w : World) (hn : n ≤ 1000) : Calls Tryz.prog 54 #[.int .i64 n, .int .i64 p] w (GivesM w p n n oneF) := by
  have hmk := fun W => make_rows n (by omega) W
  have hmi := fun W => make_ints n (by omega) W
  have hr := row_new (W := w) rfl 31 #[.int .i64 0, .slice none 0 0]
  have hb := (Below.refl w.heap.size w).alloc (Nat.le_refl _) (.cells #[.int .i64 0, .slice none 0 0] 31)
  have hs : (w.alloc (.cells #[.int .i64 0, .slice none 0 0] 31)).heap.size = w.heap.size + 1 := by simp
  go_enter Tryz.func54, Tryz.ntmps54
  go_wp2
  generalize w.alloc (.cells #[.int .i64 0, .slice none 0 0] 31) = w1 at hr hb hs
  have HR := Lib.hid hr
  have HB := Lib.hid hb
  have H0 := Lib.hid (FillG.start (fun _ => n) oneF (row_new (W := w1) (g := w.heap.size + 1) hs 22 (CTab n fun _ => .slice none 0 0)))
  have HB0 := Lib.hid ((Below.refl w1.heap.size w1).alloc (Nat.le_refl _) (.cells (CTab n fun _ => .slice none 0 0) 22))
  clear hr hb
  go_loopw [11] (fun i wr => ∃ t : Nat, i = .int .i64 t ∧ Below w1.heap.size w1 wr ∧ FillG (w.heap.size + 1) n (fun _ => n) oneF t wr) (fun i _ => n - (intOf i).toNat)
  case atStart => exact ⟨0, rfl, HB0.out, H0.out⟩
  case round =>
    obtain ⟨t, rfl, hB, hF⟩ := hrel
    have ht := hF.1
    have hz := hB.size
    have hl := hF.lt
    by_cases hlt : t < n
    · have HS := Lib.hid (one_step hF hlt)
      have hB1 : Below w1.heap.size w1 (wr.alloc (.cells (CTab n fun _ => .int .i64 0) 3)) := hB.alloc hz _
      have HB2 := Lib.hid ((hB1.setCell (p := ⟨w.heap.size + 1, t, none⟩) (by simp; omega) (.slice (some ⟨wr.heap.size, 0, none⟩) n n)).setCell (p := ⟨wr.heap.size, t, none⟩) hz (.int .i64 1))
      have hF1 := hF.on ((Below.refl _ _).alloc (Nat.le_refl _) (.cells (CTab n fun _ => .int .i64 0) 3))
      obtain ⟨⟨u, hct⟩, hft⟩ := hF1.put hlt
      have hnr := Row.far (row_new (W := wr) rfl 3 (CTab n fun _ => .int .i64 0)) (p := ⟨w.heap.size + 1, t, none⟩) (show wr.heap.size ≠ w.heap.size + 1 by omega) (.slice (some ⟨wr.heap.size, 0, none⟩) n n)
      have hc2 := hnr.cell (CTab_get n (fun _ => .int .i64 0) t hlt)
      have hf2 := hnr.frozen t
      have hc3 : ((wr.alloc (.cells (CTab n fun _ => .int .i64 0) 3)).setCell ⟨w.heap.size + 1, t, none⟩ (.slice (some ⟨wr.heap.size, 0, none⟩) n n)).cell? ⟨w.heap.size + 1, t, none⟩ = some (.slice (some ⟨wr.heap.size, 0, none⟩) n n) := World.cell?_setCell_same _ _ _ hct
      have hpast := World.setCell_alloc_past (w := wr) (.cells (CTab n fun _ => .int .i64 0) 3) (w.heap.size + 1) t (.slice (some ⟨wr.heap.size, 0, none⟩) n n) hl
      rw [hpast] at hc2 hf2 hc3
      have hW : ((wr.alloc (.cells (CTab n fun _ => .int .i64 0) 3)).setCell ⟨w.heap.size + 1, t, none⟩ (.slice (some ⟨wr.heap.size, 0, none⟩) n n)).setCell ⟨wr.heap.size, t, none⟩ (.int .i64 1) = (wr.setCell ⟨w.heap.size + 1, t, none⟩ (.slice (some ⟨wr.heap.size, 0, none⟩) n n)).alloc (.cells ((CTab n fun _ => .int .i64 0).setIfInBounds t (.int .i64 1)) 3) := by
        rw [hpast]; exact World.setCell_alloc_at _ _ _ _ _ (by simp [World.setCell])
      rw [hW] at HS HB2
      clear hB hF hB1 hF1 hnr hpast hW
      go_wp2
      go_roundw
      case rel => exact ⟨t + 1, by go_num, HB2.out, HS.out⟩
      case measure => simp [intOf]; omega
    · have e : t = n := by omega
      subst e
      have hr3 := Row.below HR.out hB HR.out.lt
      have HE := Lib.hid (end_ok hr3 (HB.out.trans (hB.mono HB.out.size)) (by omega) (by omega) hF p)
      have d0 := hr3.cell (i := 0) rfl
      have d1 := hr3.cell (i := 1) rfl
      have f0 := hr3.frozen 0
      have f1 := hr3.frozen 1
      clear hr3 hB hF
      go_wp2
      obtain ⟨k3, k2, k1⟩ := HE.out
      have hc0 := k3.cell (i := 0) rfl
      have hc1 := k3.cell (i := 1) rfl
      refine bodyPost_ret (v := .agg #[.int .i64 p, .slice (some ⟨w.heap.size + 1, 0, none⟩) t t]) ?_ rfl ⟨_, rfl, k1, k2⟩
      simp [results, Tryz.results54, go_sem, hc0, hc1]
end Go.Proofs.YtinoomcboinokaaGreat
