/- slices.Concat of two lists of rows. -/
import Derived.Test.YtinoomcboinokaaGreatLMarked
import Derived.Test.YtinoomcboinokaaGreatLOwn
import Derived.Deep.Upon
namespace Go.Proofs.YtinoomcboinokaaGreat
open Go Go.RowKit Num

set_option maxRecDepth 100000 in
set_option maxHeartbeats 400000 in
theorem growR_any (n : Nat) (w : World) (hn : n ≤ 1000000) :
    Calls Tryz.prog 72 #[.slice none 0 0, .int .i64 n] w fun e w' => ∃ r, e = .returned r ∧ w'.ownsRow w.heap.size 22 1 r 0 [] ∧ Below w.heap.size w w' := by
  obtain ⟨j0, hj0, hy0, hy1, hy2⟩ := info_parts infoSl
  have hge : ¬ ((n : Int) < 0) := by omega
  by_cases h0 : n = 0
  · subst h0
    go_enter Tryz.func72, Tryz.ntmps72
    go_wp2
    go_ret
    exact ⟨_, rfl, World.ownsRow_nil _ _ _ _, Below.refl _ _⟩
  · have hpos : (0 : Int) < (n : Int) := by omega
    have hr := fun ty => Lib.run_append_nil_zeros (P := Tryz.prog) w 25 3 ty 22 j0 (.slice none 0 0) .i64 .i64 Tryz.underlying25 underlying_int hj0 hy0 n (by omega) (by omega) (by omega) (by rw [hy2]; omega)
    have hcap := grownCap_ge w n 0 22
    have hcm : grownCap w n 0 22 ≤ maxLen := grownCap_le_maxLen w n 0 22 (by unfold maxLen; omega)
    generalize grownCap w n 0 22 = cp at hr hcap hcm
    have hsz : (Builtin.zeroCells (Value.slice none 0 0).cells n ++ Builtin.zeroCells (Value.slice none 0 0).cells (cp - n)).size = cp * 1 := by
      rw [Array.size_append, size_zeroCells, size_zeroCells]; simp [Value.cells]; omega
    generalize Builtin.zeroCells (Value.slice none 0 0).cells n ++ Builtin.zeroCells (Value.slice none 0 0).cells (cp - n) = cs at hr hsz
    have HO := Lib.hid (show (w.drew.alloc (.cells cs 22)).ownsRow w.heap.size 22 1 (.slice (some ⟨w.heap.size, 0, none⟩) 0 cp) 0 [] from World.ownsRow_made w.drew cs cp (Nat.le_refl _) hcm hsz)
    have HB := Lib.hid (show Below w.heap.size w (w.drew.alloc (.cells cs 22)) from (show Below w.heap.size w w.drew from ⟨rfl, rfl, rfl, Nat.le_refl _, fun _ _ => rfl⟩).alloc (Nat.le_refl _) _)
    have HR := fun ty => Lib.hid (hr ty)
    clear hr hsz
    go_enter Tryz.func72, Tryz.ntmps72
    go_wp2_with (at_builtin; refine Lib.wpList_append_run _ rfl (.tmp 20) (.tmp 21) 25 3 rfl _ _ rfl rfl _ _ (HR _).out ?_)
    go_ret
    exact ⟨_, rfl, HO.out, HB.out⟩

/-- What a list of rows yields when it is appended. -/
structure RSrc (B : Nat) (x : Value) (m : Nat) (news : List Value) (w : World) : Prop where
  form : ∃ A c, x = .slice A m c ∧ (0 < m → ∃ b o, A = some ⟨b, o, none⟩ ∧ b < B ∧ ∀ (j : Nat) (u : Value), news[j]? = some u → w.cell? ⟨b, o + j, none⟩ = some u)
  len : news.length = m
  one : ∀ u ∈ news, u.oneCell' = true
theorem RSrc.below {B : Nat} {x : Value} {m : Nat} {news : List Value} {w w' : World} (h : RSrc B x m news w) (hb : Below B w w') : RSrc B x m news w' := by
  obtain ⟨⟨A, c, rfl, h1⟩, h2, h3⟩ := h
  refine ⟨⟨A, c, rfl, fun hm => ?_⟩, h2, h3⟩
  obtain ⟨b, o, rfl, hlt, hc⟩ := h1 hm
  exact ⟨b, o, rfl, hlt, fun j u hj => (hb.cell (p := ⟨b, o + j, none⟩) hlt).trans (hc j u hj)⟩
theorem grid_src {B : Nat} {S : Nat → Prop} {v : Value} {m n : Nat} {F : Nat → Nat → Int} {w : World} (h : Grid w S v m (fun _ => n) F) (hS : ∀ b, S b → b < B) : ∃ rs, RSrc B v m ((List.range m).map rs) w ∧ ∀ i, i < m → Vec w S (rs i) n (F i) := by
  by_cases h0 : m = 0
  · subst h0
    obtain ⟨A, c, rfl, _⟩ := h.form
    exact ⟨fun _ => undef, ⟨⟨A, c, rfl, fun h => absurd h (by omega)⟩, rfl, fun u hu => by simp at hu⟩, fun i hi => absurd hi (by omega)⟩
  · obtain ⟨b, o, c, RA, RC, rfl, -, hb, hgc⟩ := h.at_ (by omega)
    refine ⟨fun i => .slice (RA i) n (RC i), ⟨⟨_, c, rfl, fun _ => ⟨b, o, rfl, hS b hb, fun j u hj => ?_⟩⟩, by simp, fun u hu => ?_⟩, fun i hi => (hgc i hi).2⟩
    · rw [List.getElem?_map] at hj
      obtain ⟨i, hi, rfl⟩ := Option.map_eq_some_iff.1 hj
      obtain ⟨hl, rfl⟩ := List.getElem?_eq_some_iff.1 hi
      rw [List.getElem_range]
      exact (hgc j (by simpa using hl)).1
    · obtain ⟨i, _, rfl⟩ := List.mem_map.1 hu
      rfl
theorem append_rows {w : World} {base B n m : Nat} {v x : Value} {xs news : List Value} (ty : TypeId) (hown : w.ownsRow base 22 1 v n xs) (hs : RSrc B x m news w) (hn : n ≤ 1000000) (hm : m ≤ 1000000) (hbase : base ≤ w.heap.size) :
    ∃ v' w', (Builtin.append_ #[25, 25] ty #[v, x]).run Tryz.prog w = .ok v' w' ∧ w'.ownsRow base 22 1 v' (n + m) (xs ++ news) ∧ w.grownBy w' v.ownBlock := by
  obtain ⟨i0, hi, hz0, hz1, hz2⟩ := info_parts infoSl
  obtain ⟨⟨A, c, rfl, hf⟩, hl, h1⟩ := hs
  by_cases h0 : m = 0
  · subst h0
    obtain rfl : news = [] := List.length_eq_zero_iff.1 hl
    have hsrc : Src Tryz.prog i0.size 25 (.slice A 0 c) 0 [] w := by
      cases A with
      | none => exact Src.ofNil w (e' := 22) (by kernel_rfl) c
      | some a => exact Src.ofSlice w (e' := 22) (by kernel_rfl) a 0 c [] (by simp) (fun j u h => by simp at h) (fun u h => by cases h)
    have hform : ∃ A' c', v = .slice A' n c' ∧ n ≤ c' := by
      rcases hown.2 with ⟨rfl, hz⟩ | ⟨g, cap, cur, rfl, _, _, hnc, _⟩
      · exact ⟨none, 0, by rw [hz], by omega⟩
      · exact ⟨_, cap, rfl, hnc⟩
    obtain ⟨A', c', rfl, hle⟩ := hform
    refine ⟨_, w, run_append_nothing w 25 25 ty 22 i0 (by kernel_rfl) hi A' n c' hle _ hsrc, ?_, ⟨rfl, rfl, rfl, Nat.le_refl _, fun _ _ _ => rfl⟩⟩
    rw [List.append_nil, Nat.add_zero]
    exact hown
  · obtain ⟨b, o, rfl, -, hc⟩ := hf (by omega)
    obtain ⟨v', w', hr, h2, h3, _, _⟩ := run_append_own_at (P := Tryz.prog) w base 25 ty 22 i0 (.slice none 0 0) 1 24 Tryz.underlying25 hi hz0 hz1 hz2 rfl (by decide) v n xs hown ⟨b, o, none⟩ m c news (by rw [hl, Nat.mul_one]) (fun j u hj => by rw [Addr.add_lit]; exact hc j u hj) h1 (by unfold maxLen; omega) (by omega) hbase
    exact ⟨v', w', hr, h2, h3⟩

def segR (xs ys : List Value) : Nat → List Value
  | 0 => []
  | 1 => xs
  | _ => xs ++ ys
/-- A list of rows has been made of two. -/
def CatRet (n0 n1 : Nat) (xs ys : List Value) (w : World) (e : Ending) (w' : World) : Prop := ∃ r, e = .returned r ∧ w'.ownsRow w.heap.size 22 1 r (n0 + n1) (xs ++ ys) ∧ Below w.heap.size w w'
set_option maxRecDepth 100000 in
set_option maxHeartbeats 2000000 in
theorem concatR_any (B O c2 : Nat) (A0 A1 : Option Addr) (c0 c1 n0 n1 : Nat) (xs ys : List Value) (w : World) (hl0 : n0 ≤ 1000) (hl1 : n1 ≤ 1000) (hB : B < w.heap.size)
    (hr0 : w.cell? ⟨B, O, none⟩ = some (.slice A0 n0 c0)) (hr1 : w.cell? ⟨B, O + 1, none⟩ = some (.slice A1 n1 c1)) (hs0 : RSrc w.heap.size (.slice A0 n0 c0) n0 xs w) (hs1 : RSrc w.heap.size (.slice A1 n1 c1) n1 ys w) :
    Calls Tryz.prog 41 #[.slice (some ⟨B, O, none⟩) 2 c2] w (CatRet n0 n1 xs ys w) := by
  have HS0 := Lib.hid hs0
  have HS1 := Lib.hid hs1
  clear hs0 hs1
  go_enter Tryz.func41, Tryz.ntmps41
  go_wp2
  go_loopw [3, 11] (fun s i wr => ∃ k : Nat, i = .int .i64 k ∧ k ≤ 2 ∧ s = .int .i64 (tot n0 n1 k : Nat) ∧ w = wr) (fun _ i _ => 2 - (intOf i).toNat)
  case atStart => exact ⟨0, rfl, by omega, rfl, rfl⟩
  case round =>
    obtain ⟨k, rfl, hk, rfl, rfl⟩ := hrel
    obtain rfl | rfl | rfl : k = 0 ∨ k = 1 ∨ k = 2 := by omega
    · have hge : ¬ ((n0 : Int) < 0) := by omega
      simp only [tot]
      go_wp2
      go_roundw
      case rel => exact ⟨1, by go_num, by omega, by first | rfl | simp only [tot], by trivial⟩
      case measure => simp [intOf]
    · have hge : ¬ ((n0 : Int) + (n1 : Int) < 0) := by omega
      simp only [tot]
      go_wp2
      go_roundw
      case rel => exact ⟨2, by go_num, by omega, by first | rfl | (go_num; done) | (simp only [tot]; go_num), by trivial⟩
      case measure => simp [intOf]
    · simp only [tot]
      obtain ⟨N, hN⟩ : ∃ N, n0 + n1 = N := ⟨_, rfl⟩
      rw [hN]
      have HG := Lib.hid (growR_any N w (by omega))
      have HNN := Lib.hid hN
      clear hN
      go_wp2_with fail
      refine HG.out.mono ?_
      rintro e w1 ⟨r, rfl, ho, hb⟩
      have HO := Lib.hid ho
      have HB := Lib.hid hb
      clear ho hb HG
      go_wp2_with fail
      go_loopw [6, 27] (fun v i wr => ∃ k : Nat, i = .int .i64 k ∧ k ≤ 2 ∧ wr.ownsRow w.heap.size 22 1 v (tot n0 n1 k) (segR xs ys k) ∧ Below w.heap.size w wr) (fun _ i _ => 2 - (intOf i).toNat)
      case atStart => exact ⟨0, rfl, by omega, HO.out, HB.out⟩
      case round =>
        obtain ⟨k, rfl, hk, hO, hBr⟩ := hrel
        obtain rfl | rfl | rfl : k = 0 ∨ k = 1 ∨ k = 2 := by omega
        · have hcr := (hBr.cell (p := ⟨B, O, none⟩) hB).trans hr0
          have hBs := hBr.size
          simp only [tot, segR] at hO
          obtain ⟨v1, w2, hr, hown, hgrow⟩ := append_rows 25 hO (HS0.out.below hBr) (by omega) (by omega) hBs
          have HX := Lib.hid (show w2.ownsRow w.heap.size 22 1 v1 (tot n0 n1 1) (segR xs ys 1) from by simpa [tot, segR] using hown)
          have HB2 := Lib.hid (hBr.grown hgrow hBs (fun q hq => (World.ownsRow.lt hO q hq).1))
          clear hown hgrow hO hBr
          go_wp2_with (at_builtin; refine Lib.wpList_append_run _ rfl (.tmp 31) (.tmp 32) 25 25 rfl _ _ rfl rfl _ _ hr ?_)
          go_roundw
          case rel => exact ⟨1, by go_num, by omega, HX.out, HB2.out⟩
          case measure => simp [intOf]
        · have hcr := (hBr.cell (p := ⟨B, O + 1, none⟩) hB).trans hr1
          have hBs := hBr.size
          simp only [tot, segR] at hO
          obtain ⟨v1, w2, hr, hown, hgrow⟩ := append_rows 25 hO (HS1.out.below hBr) (by omega) (by omega) hBs
          have HX := Lib.hid (show w2.ownsRow w.heap.size 22 1 v1 (tot n0 n1 2) (segR xs ys 2) from by simpa [tot, segR] using hown)
          have HB2 := Lib.hid (hBr.grown hgrow hBs (fun q hq => (World.ownsRow.lt hO q hq).1))
          clear hown hgrow hO hBr
          go_wp2_with (at_builtin; refine Lib.wpList_append_run _ rfl (.tmp 31) (.tmp 32) 25 25 rfl _ _ rfl rfl _ _ hr ?_)
          go_roundw
          case rel => exact ⟨2, by go_num, by omega, HX.out, HB2.out⟩
          case measure => simp [intOf]
        · have HX := Lib.hid hO
          have HB2 := Lib.hid hBr
          clear hO hBr
          go_wp2
          go_ret
          exact ⟨_, rfl, HX.out, HB2.out⟩
end Go.Proofs.YtinoomcboinokaaGreat
