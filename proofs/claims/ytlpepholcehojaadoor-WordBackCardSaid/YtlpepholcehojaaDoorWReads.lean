/- cayleylaw02.reads, .same and .lives. -/
import Derived.Test.YtlpepholcehojaaDoorWLives
import Derived.Laws.StructEq
namespace Go.Proofs.YtlpepholcehojaaDoor
open Go Go.RowKit

set_option maxRecDepth 100000 in
set_option maxHeartbeats 1000000 in
theorem reads_ok {s : ByteArray} {g : Nat} {v : List Int} (hg : Good s g v) (u : Value) (w : World) (hl : v.length ≤ 100000) (hu : Ints w w.heap.size u v) :
    Calls Tryd.prog 12 #[.string s, .int .i64 g, u] w fun e w' => e = .returned (.bool true) ∧ Below w.heap.size w w' := by
  have HP := fun W => Lib.hid (Parse_ok hg W)
  have HU := Lib.hid hu
  obtain ⟨A, c, rfl⟩ := hu.form
  clear hu hg
  go_enter Tryd.func12, Tryd.ntmps12
  go_wp2_with fail
  refine ((HP _).out).mono ?_
  rintro e w1 ⟨r, rfl, hi1, hb1⟩
  obtain ⟨A1, c1, rfl⟩ := hi1.form
  have HI1 := Lib.hid hi1
  have HB1 := Lib.hid hb1
  clear hi1 hb1
  go_wp2_with fail
  have HS := Lib.hid (same_any (w1.heap.size + 1) (.slice A1 v.length c1) (.slice A v.length c) v v (w1.alloc (.cells #[.int .i64 0, .int .i64 0] 38)) (by omega) ((HI1.out.alloc (Nat.le_refl _) _).more (by omega)) (((HU.out.grow HB1.out).alloc (Nat.le_refl _) _).more (by omega)))
  rw [show sameB v v = true from decide_eq_true rfl] at HS
  refine HS.out.mono ?_
  rintro e w2 ⟨rfl, n, rfl⟩
  go_wp2_with fail
  go_ret
  exact ⟨rfl, (HB1.out.alloc HB1.out.size _).trans ⟨rfl, rfl, rfl, Nat.le_refl _, fun _ _ => rfl⟩⟩

/-- Two slices that read as one list. -/
theorem sameT {l l' : List Int} (v u : Value) (w : World) (hl : l.length ≤ 100000) (h : l = l') (hv : Ints w w.heap.size v l) (hu : Ints w w.heap.size u l') :
    Calls Tryd.prog 8 #[v, u] w fun e w' => e = .returned (.bool true) ∧ ∃ m, w' = w.drewN m := by
  have := same_any w.heap.size v u l l' w (by omega) hv hu
  rw [sameB_eq h] at this
  exact this
theorem lawSame {l l' : List Int} (v u : Value) (w : World) (hl : l.length ≤ 100000) (h : l = l') (hv : Ints w w.heap.size v l) (hu : Ints w w.heap.size u l') :
    Calls Tryd.prog 17 #[v, u] w fun e w' => e = .returned (.bool true) ∧ ∃ m, w' = w.drewN m := by
  have HC := Lib.hid (sameT v u w hl h hv hu)
  clear hv hu
  go_enter Tryd.func17, Tryd.ntmps17
  go_wp2_with fail
  refine HC.out.mono ?_
  rintro e w' ⟨rfl, n, rfl⟩
  go_wp2_with fail
  go_ret
  exact ⟨rfl, n, rfl⟩
/-- A list that is written out, in a new block. -/
theorem ints_lit (w : World) (zs : List Int) (cs : Array Value) (c : Nat) (h : cs = (icells zs).toArray) :
    Ints (w.alloc (.cells cs 3)) (w.alloc (.cells cs 3)).heap.size (.slice (some ⟨w.heap.size, 0, none⟩) zs.length c) zs := by
  subst h
  refine ⟨_, c, rfl, fun _ => ⟨w.heap.size, 0, rfl, by simp, fun j hj => ?_⟩⟩
  rw [Nat.zero_add]
  exact (Row.new w 3 _).cell (show ((icells zs).toArray)[j]? = some (.int .i64 (zs.getD j 0)) by rw [List.getElem?_toArray]; exact icells_get hj)
/-- An empty own slice. -/
theorem owns_nil (w : World) (B : Nat) : OwnsI w B (.slice none 0 0) [] := World.ownsRow_nil _ _ _ _
theorem live_text : textW [1, 1, 1, -2, 3, -3] = [97, 94, 51, 42, 98, 94, 45, 49, 42, 99, 42, 99, 94, 45, 49] := by
  decide +kernel
theorem live_red : red [1, 2, -2, -1, 3] = [3] := by decide
theorem live_mul : wmul [1, 2] [-2, 1] = [1, 1] := by decide

theorem tab_on {w w' : World} {n : String} {k : IntKind} {zs : List Int} (h : Lib.TabIs Tryd.prog w n k zs) (hb : Below w.heap.size w w') : Lib.TabIs Tryd.prog w' n k zs := ((Lib.tabBelow_of_tabIs h).on hb).here
theorem Ints.drawn {w q : World} {v : Value} {l : List Int} (h : Ints w w.heap.size v l) (hm : ∃ m, q = w.drewN m) : Ints q q.heap.size v l := by obtain ⟨m, rfl⟩ := hm; exact h
theorem validD {g : Nat} {zs : List Int} (h : zs.all (fun x => decide (x ≠ 0) && decide (x.natAbs ≤ g)) = true) : Valid g zs := fun x hx => by
  have := List.all_eq_true.1 h x hx
  simpa using this
theorem rngD {zs : List Int} (h : zs.all (fun x => decide (-1000 ≤ x) && decide (x ≤ 1000)) = true) : Rng zs := fun x hx => by
  have := List.all_eq_true.1 h x hx
  simp at this
  omega

/-- .. behind another one. -/
theorem ints_lit2 (w : World) (o : Obj) (zs : List Int) (cs : Array Value) (c : Nat) (h : cs = (icells zs).toArray) :
    Ints ((w.alloc o).alloc (.cells cs 3)) ((w.alloc o).alloc (.cells cs 3)).heap.size (.slice (some ⟨w.heap.size + 1, 0, none⟩) zs.length c) zs := by
  have := ints_lit (w.alloc o) zs cs c h
  rwa [show (w.alloc o).heap.size = w.heap.size + 1 from World.size_alloc w o] at this

set_option maxRecDepth 100000 in
set_option maxHeartbeats 2000000 in
/-- The examples that each statement calls first hold. -/
theorem lives_any (w : World) (htab : Lib.TabIs Tryd.prog w "internal/strconv.uint64pow10" .u64 Lib.pow10Tab) :
    Calls Tryd.prog 4 #[] w fun e w' => e = .returned (.bool true) ∧ Below w.heap.size w w' := by
  have HT := Lib.hid htab
  have hX : ((⟨(textW [1, 1, 1, -2, 3, -3]).toArray⟩ : ByteArray)) = ⟨#[97, 94, 51, 42, 98, 94, 45, 49, 42, 99, 42, 99, 94, 45, 49]⟩ := by rw [live_text]
  have HX := Lib.hid hX
  clear htab hX
  go_enter Tryd.func4, Tryd.ntmps4
  go_wp2_with fail
  refine (Text_ok _ [1, 1, 1, -2, 3, -3] _ (by decide) (by decide) (validD (by decide)) (ints_lit w [1, 1, 1, -2, 3, -3] _ 6 rfl) (Lib.tabBelow_of_tabIs (tab_on HT.out ((Below.refl _ w).alloc (Nat.le_refl _) _)))).mono ?_
  rw [HX.out]
  rintro e w1 ⟨rfl, hb1⟩
  have HB1 := Lib.hid (((Below.refl w.heap.size w).alloc (Nat.le_refl _) _).trans (hb1.mono (by simp)))
  clear hb1
  go_wp2_with fail
  refine (Reduce_any _ [1, 2, -2, -1, 3] _ (by decide) (rngD (by decide)) (ints_lit w1 [1, 2, -2, -1, 3] _ 5 rfl)).mono ?_
  rw [live_red]
  rintro e w2 ⟨r2, rfl, ho, hb⟩
  have HB2 := Lib.hid ((HB1.out.alloc HB1.out.size _).trans (hb.mono (by have := HB1.out.size; simp; omega)))
  have HI2 := Lib.hid ho.ints
  clear ho hb HB1
  go_wp2_with fail
  have HB3 := Lib.hid ((Below.refl w2.heap.size w2).alloc (Nat.le_refl _) (.cells #[.int .i64 3] 3))
  refine (lawSame _ _ _ (by decide) rfl (HI2.out.grow HB3.out) (ints_lit w2 [3] _ 1 rfl)).mono ?_
  rintro e w3 ⟨rfl, hm⟩
  have HB4 := Lib.hid ((HB2.out.trans (HB3.out.mono HB2.out.size)).trans (below_drawn _ hm))
  clear hm HB2 HB3 HI2
  go_wp2_with fail
  have HBa := Lib.hid ((Below.refl w3.heap.size w3).alloc (Nat.le_refl _) (.cells #[.int .i64 1, .int .i64 2] 3))
  have HBb := Lib.hid ((Below.refl (w3.alloc (.cells #[.int .i64 1, .int .i64 2] 3)).heap.size (w3.alloc (.cells #[.int .i64 1, .int .i64 2] 3))).alloc (Nat.le_refl _) (.cells #[.int .i64 (-2), .int .i64 1] 3))
  refine (Mul_any _ _ [1, 2] [-2, 1] _ (by decide) (by decide) (rngD (by decide)) (rngD (by decide)) ((ints_lit w3 [1, 2] _ 2 rfl).grow HBb.out) (ints_lit2 w3 _ [-2, 1] _ 2 rfl)).mono ?_
  rw [live_mul]
  rintro e w4 ⟨r4, rfl, ho, hb⟩
  have HB5 := Lib.hid (((HB4.out.trans (HBa.out.mono HB4.out.size)).trans (HBb.out.mono (by have := HB4.out.size; simp; omega))).trans (hb.mono (by have := HB4.out.size; simp; omega)))
  have HI4 := Lib.hid ho.ints
  clear ho hb HB4 HBa HBb
  go_wp2_with fail
  have HB6 := Lib.hid ((Below.refl w4.heap.size w4).alloc (Nat.le_refl _) (.cells #[.int .i64 1, .int .i64 1] 3))
  refine (lawSame _ _ _ (by decide) rfl (HI4.out.grow HB6.out) (ints_lit w4 [1, 1] _ 2 rfl)).mono ?_
  rintro e w5 ⟨rfl, hm⟩
  have HB7 := Lib.hid ((HB5.out.trans (HB6.out.mono HB5.out.size)).trans (below_drawn _ hm))
  clear hm HB5 HB6 HI4
  go_wp2_with fail
  refine (reads_ok live_good _ _ (by decide) (ints_lit w5 [1, -2, 1, 3, 1, 3] _ 6 rfl)).mono ?_
  rintro e w6 ⟨rfl, hb⟩
  have HB8 := Lib.hid ((HB7.out.alloc HB7.out.size _).trans (hb.mono (by have := HB7.out.size; simp; omega)))
  clear hb HB7
  go_wp2_with fail
  have HBa := Lib.hid ((Below.refl w6.heap.size w6).alloc (Nat.le_refl _) (.cells #[.int .i64 2] 3))
  have HBb := Lib.hid ((Below.refl (w6.alloc (.cells #[.int .i64 2] 3)).heap.size (w6.alloc (.cells #[.int .i64 2] 3))).alloc (Nat.le_refl _) (.cells #[.int .i64 1, .int .i64 1] 3))
  refine (Cmp_len _ _ [2] [1, 1] _ (by decide) ((ints_lit w6 [2] _ 1 rfl).grow HBb.out) (ints_lit2 w6 _ [1, 1] _ 2 rfl)).mono ?_
  rintro e w7 ⟨rfl, rfl⟩
  have hsg : sgn (([2] : List Int).length : Int) (([1, 1] : List Int).length : Int) = -1 := by decide
  rw [hsg]
  go_wp2_with fail
  go_ret
  exact ⟨rfl, (HB8.out.trans (HBa.out.mono HB8.out.size)).trans (HBb.out.mono (by have := HB8.out.size; simp; omega))⟩
end Go.Proofs.YtlpepholcehojaaDoor
