/- slices.Concat of two lists; linear.longer. -/
import Derived.Test.YtinoomcboinokaaLIn
import Derived.Lib.AppendZeros
import Derived.OwnWalk
namespace Go.Proofs.Ytinoomcboinokaa
open Go Go.RowKit Num

/-- A slice of its own, written out. -/
theorem owns_at {w : World} {base n : Nat} {e : TypeId} {v : Value} {xs : List Value} (h : w.ownsRow base e 1 v n xs) (hn : 0 < n) :
    ∃ (g cap : Nat) (cs : Array Value), v = .slice (some ⟨g, 0, none⟩) n cap ∧ base ≤ g ∧ n ≤ cap ∧ Row w g e cs ∧ ∀ (j : Nat) (u : Value), xs[j]? = some u → cs[j]? = some u := by
  rcases h.2 with ⟨rfl, h0⟩ | ⟨g, cap, cur, rfl, hb, hg, hnc, hcm, hcs, htake⟩
  · omega
  · refine ⟨g, cap, cur, rfl, hb, hnc, hg, fun j u hj => ?_⟩
    have hj' : j < xs.length := (List.getElem?_eq_some_iff.1 hj).1
    have : (cur.toList.take (n * 1))[j]? = some u := by rw [htake]; exact hj
    rw [List.getElem?_take] at this
    split at this
    · simpa using this
    · cases this

theorem underlying_int : Try.prog.underlying 3 = some (.int .i64) := by kernel_rfl
set_option maxRecDepth 100000 in
set_option maxHeartbeats 400000 in
theorem grow_any (n : Nat) (w : World) (h0 : n ≠ 0) (hn : n ≤ 1000000000) :
    Calls Try.prog 59 #[.slice none 0 0, .int .i64 n] w fun e w' => ∃ r, e = .returned r ∧ w'.ownsRow w.heap.size 3 1 r 0 [] ∧ Below w.heap.size w w' := by
  obtain ⟨i0, hi, hz0, hz1, hz2⟩ := info_parts info3m
  have hpos : (0 : Int) < (n : Int) := by omega
  have hge : ¬ ((n : Int) < 0) := by omega
  have hr := fun ty => Lib.run_append_nil_zeros (P := Try.prog) w 22 3 ty 3 i0 (.int .i64 0) .i64 .i64 Try.underlying22 underlying_int hi hz0 n (by omega) (by omega) (by omega) (by rw [hz2]; omega)
  have hcap := grownCap_ge w n 0 3
  have hcm : grownCap w n 0 3 ≤ maxLen := grownCap_le_maxLen w n 0 3 (by unfold maxLen; omega)
  generalize grownCap w n 0 3 = cp at hr hcap hcm
  have hsz : (Builtin.zeroCells (Value.int .i64 0).cells n ++ Builtin.zeroCells (Value.int .i64 0).cells (cp - n)).size = cp * 1 := by
    rw [Array.size_append, size_zeroCells, size_zeroCells]; simp [Value.cells]; omega
  generalize Builtin.zeroCells (Value.int .i64 0).cells n ++ Builtin.zeroCells (Value.int .i64 0).cells (cp - n) = cs at hr hsz
  have HO := Lib.hid (show (w.drew.alloc (.cells cs 3)).ownsRow w.heap.size 3 1 (.slice (some ⟨w.heap.size, 0, none⟩) 0 cp) 0 [] from World.ownsRow_made w.drew cs cp (Nat.le_refl _) hcm hsz)
  have HB := Lib.hid (show Below w.heap.size w (w.drew.alloc (.cells cs 3)) from (show Below w.heap.size w w.drew from ⟨rfl, rfl, rfl, Nat.le_refl _, fun _ _ => rfl⟩).alloc (Nat.le_refl _) _)
  have HR := fun ty => Lib.hid (hr ty)
  clear hr hsz
  go_enter Try.func59, Try.ntmps59
  go_wp2_with (at_builtin; refine Lib.wpList_append_run _ rfl (.tmp 20) (.tmp 21) 22 3 rfl _ _ rfl rfl _ _ (HR _).out ?_)
  go_ret
  exact ⟨_, rfl, HO.out, HB.out⟩

/-- Two lists, one behind the other. -/
def catF (n : Nat) (f g : Nat → Int) (j : Nat) : Int := if j < n then f j else g (j - n)
def tot (n0 n1 : Nat) : Nat → Nat
  | 0 => 0
  | 1 => n0
  | _ => n0 + n1
def segs (n0 n1 : Nat) (f g : Nat → Int) : Nat → List Value
  | 0 => []
  | 1 => (List.range n0).map (iv f)
  | _ => (List.range n0).map (iv f) ++ (List.range n1).map (iv g)

theorem iv_news {w : World} {b o n : Nat} {f : Nat → Int} (h : ∀ j, j < n → w.cell? ⟨b, o + j, none⟩ = some (.int .i64 (f j))) : ∀ (j : Nat) (u : Value), ((List.range n).map (iv f))[j]? = some u → w.cell? ((⟨b, o, none⟩ : Addr).add j) = some u := fun j u hj => by
  have hjn : j < n := by
    have := (List.getElem?_eq_some_iff.1 hj).1
    simpa using this
  rw [Addr.add_lit, h j hjn]
  have e : ((List.range n).map (iv f))[j]? = some (.int .i64 (f j)) := by simp [hjn, iv]
  rw [e] at hj
  exact hj

set_option maxRecDepth 100000 in
set_option maxHeartbeats 2000000 in
theorem concat_any (B O c2 b0 o0 c0 b1 o1 c1 n0 n1 : Nat) (f g : Nat → Int) (w : World) (h0 : 1 ≤ n0) (h1 : 1 ≤ n1) (hl0 : n0 ≤ 1000) (hl1 : n1 ≤ 1000) (hB : B < w.heap.size) (hb0 : b0 < w.heap.size) (hb1 : b1 < w.heap.size)
    (hr0 : w.cell? ⟨B, O, none⟩ = some (.slice (some ⟨b0, o0, none⟩) n0 c0)) (hr1 : w.cell? ⟨B, O + 1, none⟩ = some (.slice (some ⟨b1, o1, none⟩) n1 c1))
    (hc0 : ∀ j, j < n0 → w.cell? ⟨b0, o0 + j, none⟩ = some (.int .i64 (f j))) (hc1 : ∀ j, j < n1 → w.cell? ⟨b1, o1 + j, none⟩ = some (.int .i64 (g j))) :
    Calls Try.prog 43 #[.slice (some ⟨B, O, none⟩) 2 c2] w (GivesR w (n0 + n1) (catF n0 f g)) := by
  obtain ⟨i0, hi, hz0, hz1, hz2⟩ := info_parts info3m
  have HC0 := Lib.hid hc0
  have HC1 := Lib.hid hc1
  clear hc0 hc1
  go_enter Try.func43, Try.ntmps43
  go_wp2
  go_loopw [3, 11] (fun s i wr => ∃ k : Nat, i = .int .i64 k ∧ k ≤ 2 ∧ s = .int .i64 (tot n0 n1 k : Nat) ∧ w = wr) (fun _ i _ => 2 - (intOf i).toNat)
  case atStart => exact ⟨0, rfl, by omega, rfl, rfl⟩
  case round =>
    obtain ⟨k, rfl, hk, rfl, rfl⟩ := hrel
    obtain rfl | rfl | rfl : k = 0 ∨ k = 1 ∨ k = 2 := by omega
    · have hge : ¬ ((n0 : Int) < 0) := by omega
      simp only [tot]
      go_wp2
      go_roundw
      case rel => exact ⟨1, by go_num, by omega, by first | rfl | simp only [tot], by trivial⟩
      case measure => simp [intOf]
    · have hge : ¬ ((n0 : Int) + (n1 : Int) < 0) := by omega
      simp only [tot]
      go_wp2
      go_roundw
      case rel => exact ⟨2, by go_num, by omega, by first | rfl | (go_num; done) | (simp only [tot]; go_num), by trivial⟩
      case measure => simp [intOf]
    · simp only [tot]
      obtain ⟨N, hN⟩ : ∃ N, n0 + n1 = N := ⟨_, rfl⟩
      rw [hN]
      have HG := Lib.hid (grow_any N w (by omega) (by omega))
      have HNN := Lib.hid hN
      clear hN
      go_wp2_with fail
      refine HG.out.mono ?_
      rintro e w1 ⟨r, rfl, ho, hb⟩
      have HO := Lib.hid ho
      have HB := Lib.hid hb
      clear ho hb HG
      go_wp2_with fail
      go_loopw [6, 27] (fun v i wr => ∃ k : Nat, i = .int .i64 k ∧ k ≤ 2 ∧ wr.ownsRow w.heap.size 3 1 v (tot n0 n1 k) (segs n0 n1 f g k) ∧ Below w.heap.size w wr) (fun _ i _ => 2 - (intOf i).toNat)
      case atStart => exact ⟨0, rfl, by omega, HO.out, HB.out⟩
      case round =>
        obtain ⟨k, rfl, hk, hO, hBr⟩ := hrel
        obtain rfl | rfl | rfl : k = 0 ∨ k = 1 ∨ k = 2 := by omega
        · have hcr := (hBr.cell (p := ⟨B, O, none⟩) hB).trans hr0
          have hnews := iv_news (w := wr) (b := b0) (o := o0) (n := n0) (f := f) fun j hj => (hBr.cell (p := ⟨b0, o0 + j, none⟩) hb0).trans (HC0.out j hj)
          have hBs := hBr.size
          have HBr := Lib.hid hBr
          simp only [tot, segs] at hO
          have HN := Lib.hid hnews
          clear hBr hnews
          go_wp2_with (at_builtin; refine wpList_append_own _ rfl (.tmp 31) (.tmp 32) 22 rfl w.heap.size 3 i0 (.int .i64 0) 1 8 Try.underlying22 hi hz0 hz1 hz2 rfl (by decide) _ _ _ rfl hO ⟨b0, o0, none⟩ n0 c0 ((List.range n0).map (iv f)) rfl (by simp) HN.out (fun u hu => by obtain ⟨x, _, rfl⟩ := List.mem_map.1 hu; rfl) (by unfold maxLen; omega) (by omega) hBs ?_; intro v1 w2 hown hgrow _)
          have HX := Lib.hid (show w2.ownsRow w.heap.size 3 1 v1 (tot n0 n1 1) (segs n0 n1 f g 1) from by simpa [tot, segs] using hown)
          have HB2 := Lib.hid (HBr.out.grown hgrow hBs (fun q hq => (World.ownsRow.lt hO q hq).1))
          clear hown hgrow hO
          go_wp2
          go_roundw
          case rel => exact ⟨1, by go_num, by omega, HX.out, HB2.out⟩
          case measure => simp [intOf]
        · have hcr := (hBr.cell (p := ⟨B, O + 1, none⟩) hB).trans hr1
          have hnews := iv_news (w := wr) (b := b1) (o := o1) (n := n1) (f := g) fun j hj => (hBr.cell (p := ⟨b1, o1 + j, none⟩) hb1).trans (HC1.out j hj)
          have hBs := hBr.size
          have HBr := Lib.hid hBr
          simp only [tot, segs] at hO
          have HN := Lib.hid hnews
          clear hBr hnews
          go_wp2_with (at_builtin; refine wpList_append_own _ rfl (.tmp 31) (.tmp 32) 22 rfl w.heap.size 3 i0 (.int .i64 0) 1 8 Try.underlying22 hi hz0 hz1 hz2 rfl (by decide) _ _ _ rfl hO ⟨b1, o1, none⟩ n1 c1 ((List.range n1).map (iv g)) rfl (by simp) HN.out (fun u hu => by obtain ⟨x, _, rfl⟩ := List.mem_map.1 hu; rfl) (by unfold maxLen; omega) (by omega) hBs ?_; intro v1 w2 hown hgrow _)
          have HX := Lib.hid (show w2.ownsRow w.heap.size 3 1 v1 (tot n0 n1 2) (segs n0 n1 f g 2) from by simpa [tot, segs] using hown)
          have HB2 := Lib.hid (HBr.out.grown hgrow hBs (fun q hq => (World.ownsRow.lt hO q hq).1))
          clear hown hgrow hO
          go_wp2
          go_roundw
          case rel => exact ⟨2, by go_num, by omega, HX.out, HB2.out⟩
          case measure => simp [intOf]
        · simp only [tot, segs] at hO
          rw [HNN.out] at hO
          have hNp : 0 < N := by have := HNN.out; omega
          obtain ⟨gb, cap, cs, rfl, hg, hcap, hrow, hcs⟩ := owns_at hO hNp
          have HV := Lib.hid (show RowI wr gb N (catF n0 f g) from ⟨cs, hrow, by
            have h1 := hcs (N - 1) ((((List.range n0).map (iv f) ++ (List.range n1).map (iv g))[N - 1]?).getD undef) (by
              have := HNN.out
              rw [List.getElem?_eq_getElem (by simp; omega)]; rfl)
            have := (Array.getElem?_eq_some_iff.1 h1).1
            omega, fun j hj => by
            refine hcs j _ ?_
            unfold catF
            by_cases h : j < n0
            · rw [if_pos h, List.getElem?_append_left (by simp; exact h)]; simp [h, iv]
            · rw [if_neg h, List.getElem?_append_right (by simp; omega)]
              simp only [List.length_map, List.length_range]
              simp [iv, show j - n0 < n1 by have := HNN.out; omega]⟩)
          have hg' := hg
          have HBr := Lib.hid hBr
          clear hO hcs hrow hBr
          go_wp2
          go_ret
          exact ⟨some ⟨gb, 0, none⟩, cap, by rw [HNN.out]; rfl, by rw [HNN.out]; exact hcap, fun _ => ⟨gb, rfl, hg', by rw [HNN.out]; exact HV.out⟩, HBr.out⟩

set_option maxRecDepth 100000 in
set_option maxHeartbeats 1000000 in
theorem longer_any (v : Value) (n k : Nat) (f : Nat → Int) (w : World) (hn0 : 1 ≤ n) (hk0 : 1 ≤ k) (hn : n ≤ 1000) (hk : k ≤ 1000) (hv : Vec w (· < w.heap.size) v n f) :
    Calls Try.prog 27 #[v, .int .i64 k] w (GivesR w (n + k) (catF n f (fun _ => 0))) := by
  obtain ⟨b0, o0, c0, rfl, hc0, hb0, hcc0⟩ := hv.at_ (by omega)
  have hmk := fun W => make_ints k (by omega) W
  have hB1 : Below w.heap.size w ((w.alloc (.cells (CTab k fun _ => .int .i64 0) 3)).alloc (.cells #[.slice (some ⟨b0, o0, none⟩) n c0, .slice (some ⟨w.heap.size, 0, none⟩) k k] 22)) := ((Below.refl _ _).alloc (Nat.le_refl _) _).alloc (by simp) _
  have hz := row_new (W := w) rfl 3 (CTab k fun _ => .int .i64 0)
  have hr : Row ((w.alloc (.cells (CTab k fun _ => .int .i64 0) 3)).alloc (.cells #[.slice (some ⟨b0, o0, none⟩) n c0, .slice (some ⟨w.heap.size, 0, none⟩) k k] 22)) (w.heap.size + 1) 22 #[.slice (some ⟨b0, o0, none⟩) n c0, .slice (some ⟨w.heap.size, 0, none⟩) k k] := row_new (by simp) _ _
  have HC := Lib.hid (concat_any (w.heap.size + 1) 0 2 b0 o0 c0 w.heap.size 0 k n k f (fun _ => 0) ((w.alloc (.cells (CTab k fun _ => .int .i64 0) 3)).alloc (.cells #[.slice (some ⟨b0, o0, none⟩) n c0, .slice (some ⟨w.heap.size, 0, none⟩) k k] 22)) hn0 hk0 hn hk hr.lt (by simp; omega) (by simp; omega) (hr.cell rfl) (hr.cell rfl) (fun j hj => (hB1.cell (p := ⟨b0, o0 + j, none⟩) hb0).trans (hcc0 j hj))
    (fun j hj => by rw [Nat.zero_add]; exact (hz.alloc _).cell (CTab_get k _ j hj)))
  have HB := Lib.hid hB1
  clear hv hB1 hr hcc0 hz
  go_enter Try.func27, Try.ntmps27
  go_wp2_with fail
  refine HC.out.mono ?_
  rintro e w' ⟨A, c, rfl, hc, hg, hb⟩
  have HG := Lib.hid hg
  have HB2 := Lib.hid (HB.out.trans (hb.mono HB.out.size))
  have hs := HB.out.size
  clear hg hb
  go_wp2
  go_ret
  refine ⟨A, c, rfl, hc, fun h => ?_, HB2.out⟩
  obtain ⟨g, e, h1, h2⟩ := HG.out h
  exact ⟨g, e, by omega, h2⟩
end Go.Proofs.Ytinoomcboinokaa
