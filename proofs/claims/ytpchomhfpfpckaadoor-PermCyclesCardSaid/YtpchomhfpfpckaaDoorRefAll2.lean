/- The reference's all: its walk. -/
import Derived.Test.YtpchomhfpfpckaaDoorRefAll
namespace Go.Proofs.YtpchomhfpfpckaaDoor
open Go Go.RowKit

theorem cell_at_ (w : World) (x : Value) (t : TypeId) {k : Nat} (hk : k = w.heap.size) : ∀ j u, [x][j]? = some u → (w.alloc (.cells #[x] t)).cell? ((⟨k, 0, none⟩ : Addr).add j) = some u := by
  subst hk; exact cell_one_new w x t
def lenV : Value → Nat | .slice _ n _ => n | _ => 0
theorem owns_slice {w : World} {base : Nat} {e : TypeId} {size : Nat} {v : Value} {n : Nat} {xs : List Value} (h : w.ownsRow base e size v n xs) : ∃ A c, v = .slice A n c := by
  rcases h.2 with ⟨rfl, rfl⟩ | ⟨g, cap, cur, hv, _⟩
  · exact ⟨none, 0, rfl⟩
  · exact ⟨_, cap, hv⟩
theorem lenV_own {w : World} {base : Nat} {e : TypeId} {size : Nat} {v : Value} {n : Nat} {xs : List Value} (h : w.ownsRow base e size v n xs) : lenV v = n := by
  obtain ⟨A, c, rfl⟩ := owns_slice h; rfl
theorem upTo_len (zs : List Int) (k : Nat) : (upTo zs k).2.length ≤ k := by
  induction k with
  | zero => simp [upTo]
  | succ k ih =>
    rw [upTo]
    split
    · omega
    · simp; omega
theorem info23 : (Tryd.prog.info? 23).map (fun i => (i.zero, i.size, i.bytes)) = some (some (.slice none 0 0), 1, 24) := by kernel_rfl

set_option maxRecDepth 100000 in
set_option maxHeartbeats 1000000 in
theorem all_walk (b o c : Nat) (zs : List Int) (w : World) (hf : Fine zs) (h64 : zs.length ≤ 64) (hb : b < w.heap.size)
    (hc : ∀ j, j < zs.length → w.cell? ⟨b, o + j, none⟩ = some (.int .i64 (zs.getD j 0))) :
    Calls Tryd.prog 74 #[.slice (some ⟨b, o, none⟩) zs.length c] w (Cycles w zs) := by
  obtain ⟨i0, hi0, hz0, hz1, hz2⟩ := info_parts info3'
  obtain ⟨i1, hi1, hy0, hy1, hy2⟩ := info_parts info23
  have h00 : AllAt w zs (.slice none 0 0) [] 0 (w.alloc (.cells (marksN zs 0) 4)) := ⟨by omega, World.ownsRow_nil _ _ _ _, rfl, fun j hj => absurd hj (by simp), by rw [marksLN_nil]; exact Row.new _ _ _, (Below.refl _ _).alloc (Nat.le_refl _) _, by simp⟩
  have H0 := Lib.hid h00
  clear h00
  have hmk := make_marks zs (by omega)
  go_enter Tryd.func74, Tryd.ntmps74
  go_wp2
  go_loopw [3, 5] (fun vo i wr => ∃ (k : Nat) (ws : List Value), i = .int .i64 k ∧ AllAt w zs vo ws k wr) (fun _ i _ => zs.length - (intOf i).toNat)
  case atStart => exact ⟨0, [], rfl, H0.out⟩
  case round =>
    obtain ⟨k, ws0, rfl, hA⟩ := hrel
    have hk := hA.1
    clear hmk
    by_cases hlt : k < zs.length
    · rename World => W0
      have HA := Lib.hid hA
      have hst : CycIn W0 zs w.heap.size (upTo zs k).1 k (.slice none 0 0) k [] W0 := by
        obtain ⟨_, h1, h2, h3, h4, h5, h6⟩ := hA
        exact ⟨AtCyc.start _ hlt, World.ownsRow_nil _ _ _ _, by simpa using h4, But.refl _ _ _, h6⟩
      have HS := Lib.hid hst
      obtain ⟨-, ho0, hwl0, -, -, hb0, hs0⟩ := hA
      have HWL := Lib.hid hwl0
      have HO0 := Lib.hid ho0
      have HB0 := Lib.hid hb0
      have hls0 := owns_slice ho0
      obtain ⟨Ao, co, rfl⟩ := hls0
      clear ho0 hb0 hst hwl0
      go_wp2
      go_loopw [6, 7] (fun v i w1 => ∃ (q : Nat) (cl : List Int), i = .int .i64 q ∧ CycIn W0 zs w.heap.size (upTo zs k).1 k v q cl w1) (fun v _ _ => 65 - lenV v)
      case atStart => exact ⟨k, [], rfl, HS.out⟩
      case round =>
        obtain ⟨q, cl, rfl, hI⟩ := hrel
        have HI := Lib.hid hI
        obtain ⟨hA, hO, hR, hB, hT⟩ := hI
        have hq : q < zs.length := by have := hA.2.1; omega
        have hcl := hA.len
        have hBs := hB.1.size
        have hcq := hR.cell (marksLN_get _ q hq)
        have hfq := hR.frozen q
        have hcell : wr.cell? ⟨b, o + q, none⟩ = some (.int .i64 (zs.getD q 0)) := ((HB0.out.trans hB.1).cell (p := ⟨b, o + q, none⟩) hb).trans (hc q hq)
        by_cases hin : (q : Int) ∈ (upTo zs k).1 ++ cl
        · rw [decide_eq_true hin] at hcq
          have HN := Lib.hid hin
          obtain ⟨Ac, cc, rfl⟩ := owns_slice hO
          by_cases h0 : cl = []
          · subst h0
            have HF := Lib.hid (HA.out.none_ hlt HI.out HN.out)
            clear hin hA hO hR hB hcell hc
            go_wp2
            go_roundw
            case rel => exact ⟨k + 1, _, by go_num, HF.out⟩
            case measure => simp [intOf]; omega
          · have hpos : 0 < cl.length := List.length_pos_iff.2 h0
            have hO1 := owns_but HO0.out (by omega) (Nat.le_refl _) hB
            have hwl : ws0.length ≤ 64 := by rw [HWL.out]; have := upTo_len zs k; omega
            have hpos' : (0 : Int) < (cl.length : Int) := by omega
            have hsz : w.heap.size + 1 ≤ wr.heap.size := by omega
            clear hin hA hO hR hB hcell hc h0 HS H0
            go_wp2_with (at_builtin; refine wpList_append_own _ rfl (.tmp 37) (.tmp 39) 32 rfl (w.heap.size + 1) 23 i1 (.slice none 0 0) 1 24 Tryd.underlying32 hi1 hy0 hy1 hy2 rfl (by decide) _ _ _ rfl (World.ownsRow.alloc hO1 _) ⟨wr.heap.size, 0, none⟩ 1 1 [.slice Ac cl.length cc] rfl rfl (cell_one_new _ _ _) (by simp [Value.oneCell']) (by unfold maxLen; omega) (by omega) (by simp; omega) ?_; intro v1 w1 hown' hgrow _)
            have HF := Lib.hid (HA.out.some_ hlt HI.out HN.out hpos hgrow hown')
            clear hown' hgrow hO1
            go_wp2
            go_roundw
            case rel => exact ⟨k + 1, _, by go_num, HF.out⟩
            case measure => simp [intOf]; omega
        · rw [decide_eq_false hin] at hcq
          have HN := Lib.hid hin
          have hO2 : (wr.setCell ⟨w.heap.size, q, none⟩ (.bool true)).ownsRow W0.heap.size 3 1 _ cl.length (icells cl) := ownsRow_setCell_below (a := ⟨w.heap.size, q, none⟩) hO hT _
          have HL := Lib.hid (lenV_own hO)
          have hne : ¬ b = w.heap.size := by omega
          have hcq0 := hc q hq
          clear hin hA hO hR hB hc HS H0
          go_wp2_with (at_builtin; refine wpList_append_own _ rfl (.tmp 30) (.tmp 32) 23 rfl W0.heap.size 3 i0 (.int .i64 0) 1 8 Tryd.underlying23 hi0 hz0 hz1 hz2 rfl (by decide) _ _ _ rfl (World.ownsRow.alloc hO2 _) ⟨wr.heap.size, 0, none⟩ 1 1 [.int .i64 (q : Int)] rfl rfl (cell_at_ _ _ _ (by simp)) (by simp [Value.oneCell']) (by unfold maxLen; omega) (by omega) (by simp; omega) ?_; intro v1 w1 hown' hgrow _; obtain ⟨hx1, hx2, hx3, hx4⟩ := HI.out.step hf h64 HN.out hgrow hown'; have HX1 := Lib.hid hx1; have HL' := Lib.hid (lenV_own hown'); have hcell' : w1.cell? ⟨b, o + q, none⟩ = some (.int .i64 (zs.getD q 0)) := ((HB0.out.trans hx1.2.2.2.1.1).cell (p := ⟨b, o + q, none⟩) hb).trans hcq0; clear hown' hgrow hx1 hO2; generalize zs.getD q 0 = y at hcell' hx3 hx4 HX1 hcell hcq0)
          go_roundw
          case rel => exact ⟨_, _, (by rw [Int.toNat_of_nonneg (by assumption)]), HX1.out⟩
          case measure => rw [HL'.out, HL.out]; omega
    · have hA' : AllAt w zs u3 ws0 zs.length wr := by rw [show k = zs.length by omega] at hA; exact hA
      obtain ⟨_, h1, h2, h3, h4, h5, h6⟩ := hA'
      have HF := Lib.hid (show Cycles w zs (.returned u3) wr from ⟨_, ws0, rfl, h1, h2, h3, h5⟩)
      clear hA h1 h2 h3 h4 h5 h6 H0
      go_wp2
      go_ret
      exact HF.out
end Go.Proofs.YtpchomhfpfpckaaDoor
