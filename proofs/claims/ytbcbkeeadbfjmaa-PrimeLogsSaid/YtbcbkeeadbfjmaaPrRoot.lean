/- prime.root, Root. -/
import Derived.Test.YtbcbkeeadbfjmaaPrOrd
import Derived.WalkMore
namespace Go.Proofs.Ytbcbkeeadbfjmaa
open Go Go.RowKit Go.Shelf Num
attribute [local go_sem] Oper.semAt_some

/-- The marks of loops that are over. -/
def mark (D : Nat) : Deferred := { target := .collected D, args := #[] }
def Marks (B : Nat) (ds : List Deferred) (W : World) : Prop := ∃ Ds : List Nat, ds = Ds.map mark ∧ Ds.Nodup ∧ ∀ D ∈ Ds, B ≤ D ∧ W.heap[D]? = some (.deferred (some []))
theorem Marks.nil (B : Nat) (W : World) : Marks B [] W := ⟨[], rfl, .nil, fun _ h => by simp at h⟩
theorem Marks.keep {B : Nat} {ds : List Deferred} {W W' : World} (h : Marks B ds W) (hk : KeepsOthers W W') : Marks B ds W' := by
  obtain ⟨Ds, h1, h2, h3⟩ := h
  exact ⟨Ds, h1, h2, fun D hD => ⟨(h3 D hD).1, hk.same D _ (h3 D hD).2 rfl⟩⟩
theorem Marks.own {β : Type} (B : Nat) (ds : List Deferred) {W0 : World} : OwnFrom (β := β) W0.heap.size (fun _ W => W0.heap.size ≤ W.heap.size ∧ ∃ Ds : List Nat, ds = Ds.map mark ∧ Ds.Nodup ∧ ∀ D ∈ Ds, D < W0.heap.size ∧ B ≤ D ∧ W.heap[D]? = some (.deferred (some []))) := by
  rintro s A C row ⟨h0, Ds, h1, h2, h3⟩ hg hr
  refine ⟨Nat.le_trans h0 hg.size, Ds, h1, h2, fun D hD => ⟨(h3 D hD).1, (h3 D hD).2.1, ?_⟩⟩
  have h4 := (h3 D hD).2.2
  refine (hg.block D (Array.getElem?_eq_some_iff.1 h4).1 fun e => ?_).trans h4
  have := (hr D e.symm).1
  have := (h3 D hD).1
  omega
theorem Marks.lt {B : Nat} {ds : List Deferred} {W : World} (h : Marks B ds W) : W.heap.size ≤ W.heap.size ∧ ∃ Ds : List Nat, ds = Ds.map mark ∧ Ds.Nodup ∧ ∀ D ∈ Ds, D < W.heap.size ∧ B ≤ D ∧ W.heap[D]? = some (.deferred (some [])) := by
  obtain ⟨Ds, h1, h2, h3⟩ := h
  exact ⟨Nat.le_refl _, Ds, h1, h2, fun D hD => ⟨(Array.getElem?_eq_some_iff.1 (h3 D hD).2).1, h3 D hD⟩⟩
theorem Marks.cons {B D : Nat} {ds : List Deferred} {W0 W : World} (h : ∃ Ds : List Nat, ds = Ds.map mark ∧ Ds.Nodup ∧ ∀ D ∈ Ds, D < W0.heap.size ∧ B ≤ D ∧ W.heap[D]? = some (.deferred (some []))) (hB : B ≤ W0.heap.size) (hD : W0.heap.size ≤ D) (hK : W.heap[D]? = some (.deferred (some []))) :
    Marks B ({ target := .collected D, args := #[] } :: ds) W := by
  obtain ⟨Ds, h1, h2, h3⟩ := h
  refine ⟨D :: Ds, by rw [h1]; rfl, List.nodup_cons.2 ⟨fun hm => ?_, h2⟩, fun E hE => ?_⟩
  · have := (h3 D hm).1; omega
  · rcases List.mem_cons.1 hE with rfl | hE
    · exact ⟨by omega, hK⟩
    · exact (h3 E hE).2
theorem Marks.leaves {F : Fence} {n : Nat} {P : Program} {fn : Func} {T : Array Value} {R : Ending → World → Prop} {B : Nat} {ds : List Deferred} {W : World} {u : FrameMode} (hu : u ≠ .run) (h : Marks B ds W)
    (hR : ∀ W', Below B W W' → LeavesIn F n P fn T R [] u W') (hB : B ≤ W.heap.size) : LeavesInM F n P fn T R ds u W := by
  obtain ⟨Ds, rfl, hn, h⟩ := h
  induction Ds generalizing W with
  | nil => exact hR W (Below.refl _ _)
  | cons D Ds ih =>
    obtain ⟨hD, hn⟩ := List.nodup_cons.1 hn
    obtain ⟨h1, h2⟩ := h D (List.mem_cons_self ..)
    refine ⟨hu, .inl ⟨_, _, rfl, run_takeDeferred h2, ih ?_ ?_ hn fun E hE => ?_⟩⟩
    · exact fun W' hb => hR W' (((Below.refl B W).grown (grownBy_putObj' W D (.deferred none)) hB (fun k e => by cases e; exact h1)).trans hb)
    · have := (grownBy_putObj' W D (.deferred none)).size; omega
    · obtain ⟨h3, h4⟩ := h E (List.mem_cons_of_mem _ hE)
      exact ⟨h3, (World.putObj_heap_other (fun e => hD (by subst e; exact hE))).trans h4⟩
theorem scope_in {n : Nat} {P : Program} {c : Code} {Q : Exit → Act → World → Prop} {a : Act} {w : World} (h : c.wpIn Fence.wide n P (Exit.noGoto Q) a w) : (Code.scope c).wpIn Fence.wide n P Q a w :=
  wpIn_wide.2 (wp_scope_straight (wpIn_wide.1 h))
theorem label_in {n l : Nat} {P : Program} {Q : Exit → Act → World → Prop} {a : Act} {w : World} (h : Q .normal a w) : (Code.label l).wpIn Fence.wide n P Q a w :=
  wpIn_wide.2 (wp_label h)
theorem Marks.own_keep {B n0 : Nat} {ds : List Deferred} {W W' : World} (h : ∃ Ds : List Nat, ds = Ds.map mark ∧ Ds.Nodup ∧ ∀ D ∈ Ds, D < n0 ∧ B ≤ D ∧ W.heap[D]? = some (.deferred (some []))) (hk : KeepsOthers W W') (hn : n0 ≤ W.heap.size) :
    n0 ≤ W'.heap.size ∧ ∃ Ds : List Nat, ds = Ds.map mark ∧ Ds.Nodup ∧ ∀ D ∈ Ds, D < n0 ∧ B ≤ D ∧ W'.heap[D]? = some (.deferred (some [])) := by
  obtain ⟨Ds, h1, h2, h3⟩ := h
  exact ⟨Nat.le_trans hn hk.size, Ds, h1, h2, fun D hD => ⟨(h3 D hD).1, (h3 D hD).2.1, hk.same D _ (h3 D hD).2.2 rfl⟩⟩
/-- Between two candidates: all below x have failed. -/
def RootW (w : World) (p x : Nat) (ds : List Deferred) (W : World) : Prop :=
  Boxed W w.heap.size 3 (.int .i64 p) ∧ Boxed W (w.heap.size + 1) 3 (.int .i64 x) ∧ Marks w.heap.size ds W ∧ Below w.heap.size w W ∧ 1 ≤ x ∧ x ≤ p - 1 ∧ ∀ r, 1 ≤ r → r < x → ¬ Tried p r
/-- In the loop over the prime factors. -/
def RootI (w : World) (p x : Nat) {N : Nat} (pre : List (FP N)) (W : World) : Prop :=
  Boxed W w.heap.size 3 (.int .i64 p) ∧ Boxed W (w.heap.size + 1) 3 (.int .i64 x) ∧ ∀ y ∈ pre, x ^ ((p - 1) / y.1.1) % p ≠ 1
def RootX (w : World) (p x : Nat) (c : Code) (W : World) : Prop :=
  c = .exit 1 ∧ Boxed W w.heap.size 3 (.int .i64 p) ∧ Boxed W (w.heap.size + 1) 3 (.int .i64 (x + 1 : Nat)) ∧ ¬ Tried p x
theorem boxed_cells {W W' : World} {row : Option Nat} {B : Nat} {t : TypeId} {v : Value} (h : Boxed W B t v) (hg : W.grownBy W' row) (hr : ∀ r, row = some r → ∃ o : Obj, W.heap[r]? = some o ∧ o.isCells = false) : Boxed W' B t v :=
  h.kept hg fun e => by
    obtain ⟨o, ho, hc⟩ := hr _ e.symm
    rw [show W.heap[_]? = _ from h] at ho; cases ho; cases hc
theorem RootI.own (w : World) (p x : Nat) {N : Nat} : Own (fun (pre : List (FP N)) W => RootI w p x pre W) :=
  fun _ _ _ _ ⟨h1, h2, h3⟩ hg hr => ⟨boxed_cells h1 hg hr, boxed_cells h2 hg hr, h3⟩
theorem RootX.own {β : Type} (w : World) (p x : Nat) (c : Code) : Own (fun (_ : β) W => RootX w p x c W) :=
  fun _ _ _ _ ⟨h0, h1, h2, h3⟩ hg hr => ⟨h0, boxed_cells h1 hg hr, boxed_cells h2 hg hr, h3⟩

set_option maxRecDepth 100000 in
set_option maxHeartbeats 2000000 in
theorem root_any (p g : Nat) (w : World) (hp : P6 p) (hg : RootOf p g) : Calls Try.prog 47 #[.int .i64 p] w (Ret w (.int .i64 g)) := by
  have h2 := hp.ge
  have hlt := hp.2
  have HP := Lib.hid hp
  have HG := Lib.hid hg
  clear hp hg
  refine (callsIn_wide (n := 5)).1 ?_
  refine callsIn_of_wp_marks Try.func47 rfl trivial ?_ rfl
  simp only [Try.ntmps47, List.size_toArray, List.length_cons, List.length_nil, Nat.reduceAdd, Nat.reduceSub, Array.replicate_succ, Array.replicate_zero, List.push_toArray, List.append_toArray, List.nil_append, List.cons_append]
  gi_wp2_with fail
  refine scope_in ?_
  gi_wp2_with fail
  refine label_in ?_
  gi_wp2_with fail
  refine wpIn_loop (fun a' w' => ∃ (x : Nat) (u5 u6 u7 u8 u9 u10 u11 : Value) (ds : List Deferred), a' = { tmps := #[.int .i64 p, .pointer (some ⟨w.heap.size, 0, none⟩), .int .i64 0, .pointer (some ⟨w.heap.size + 1, 0, none⟩), undef, u5, u6, u7, u8, u9, u10, u11, undef, undef, undef, undef, undef, undef, undef, undef, undef, undef, undef, undef, undef, undef], defers := ds } ∧ RootW w p x ds w')
    (fun _ w' => p - (intOf ((w'.cell? ⟨w.heap.size + 1, 0, none⟩).getD undef)).toNat) ?start ?round
  case start =>
    refine ⟨1, undef, undef, undef, undef, undef, undef, undef, [], rfl, (Boxed.new w 3 _).alloc _, ?_, Marks.nil _ _, ((Below.refl _ w).alloc (Nat.le_refl _) _).alloc (by simp) _, Nat.le_refl _, by omega, fun r h1 h2 => by omega⟩
    have := Boxed.new (w.alloc (.cells #[.int .i64 p] 3)) 3 (.int .i64 1)
    rwa [World.size_alloc] at this
  case round =>
    rintro a1 wr ⟨x, u5, u6, u7, u8, u9, u10, u11, ds, rfl, hbp, hbx, hmk, hB, hx1, hxp, hno⟩
    have hcp := hbp.cell
    have hcx := hbx.cell
    have HBP := Lib.hid hbp
    have HBX := Lib.hid hbx
    have HMK := Lib.hid hmk
    have HBB := Lib.hid hB
    have HNO := Lib.hid hno
    have hszB := hB.size
    clear hbp hbx hmk hB hno
    by_cases hxl : x < p - 1
    · have hlt1 : decide ((x : Int) < (p : Int) - 1) = true := decide_eq_true (by omega)
      have hw1 : IntKind.i64.wrap ((p : Int) - 1) = ((p - 1 : Nat) : Int) := by
        rw [show ((p - 1 : Nat) : Int) = (p : Int) - 1 by omega]; exact IntWalk.i64_in _ ⟨by omega, by omega⟩
      have hlt2 : decide ((x : Int) < ((p - 1 : Nat) : Int)) = true := decide_eq_true (by omega)
      have hlt3 : decide (x < p - 1) = true := decide_eq_true (by omega)
      gi_wp2_with fail
      refine ⟨trivial, (factors_in Fence.wide 4 trivial rfl _ _).mono ?_⟩
      rintro e w2 ⟨rfl, rfl⟩
      gi_wp2_with fail
      obtain ⟨w0, hw0⟩ : ∃ w0, wr.alloc (Obj.cells #[Value.int IntKind.i64 ↑(p - 1)] 3) = w0 := ⟨_, rfl⟩
      have hz0 : w0.heap.size = wr.heap.size + 1 := by rw [← hw0]; simp
      have hN1 : 1 ≤ p - 1 := by omega
      have hb3 : Boxed w0 wr.heap.size 3 (.int .i64 (p - 1 : Nat)) := by rw [← hw0]; exact Boxed.new wr 3 _
      have HBP0 : Hid (Boxed w0 w.heap.size 3 (.int .i64 p)) := Lib.hid (by rw [← hw0]; exact HBP.out.alloc _)
      have HBX0 : Hid (Boxed w0 (w.heap.size + 1) 3 (.int .i64 x)) := Lib.hid (by rw [← hw0]; exact HBX.out.alloc _)
      have HMK0 : Hid (Marks w.heap.size ds w0) := Lib.hid (by rw [← hw0]; exact HMK.out.keep (KeepsOthers.alloc _ _))
      have HBB0 : Hid (Below w.heap.size w w0) := Lib.hid (by rw [← hw0]; exact HBB.out.alloc hszB _)
      rw [hw0]
      clear hw0 hcp hcx hlt1 hlt2 hlt3
      refine wpIn_rangeFunc_ownF rfl (by omega) (gf := 51) (lb := #[.pointer (some ⟨wr.heap.size, 0, none⟩)]) rfl trivial (enters_of Try.func51 (by kernel_rfl) rfl)
        (fac_stops (fun _ _ => True) 4 wr.heap.size (p - 1) (by omega) hN1 (by omega) w0 hb3) (fun _ _ => trivial) (fun _ _ _ _ _ _ _ _ => trivial) (Below.refl _ _) (fun _ => rfl)
        (fun pre W => RootI w p x pre W ∧ Below w.heap.size w W ∧ (w0.heap.size ≤ W.heap.size ∧ ∃ Ds : List Nat, ds = Ds.map mark ∧ Ds.Nodup ∧ ∀ D ∈ Ds, D < w0.heap.size ∧ w.heap.size ≤ D ∧ W.heap[D]? = some (.deferred (some []))))
        (fun c pre W => RootX w p x c W ∧ Below w.heap.size w W ∧ (w0.heap.size ≤ W.heap.size ∧ ∃ Ds : List Nat, ds = Ds.map mark ∧ Ds.Nodup ∧ ∀ D ∈ Ds, D < w0.heap.size ∧ w.heap.size ≤ D ∧ W.heap[D]? = some (.deferred (some []))))
        (OwnFrom.and (Own.from (RootI.own w p x) _) (OwnFrom.and (ownFrom_below (Nat.le_refl _) (by omega)) (Marks.own _ _)))
        (fun c => OwnFrom.and (Own.from (RootX.own w p x c) _) (OwnFrom.and (ownFrom_below (Nat.le_refl _) (by omega)) (Marks.own _ _)))
        ⟨⟨HBP0.out, HBX0.out, fun y hy => by simp at hy⟩, HBB0.out, HMK0.out.lt⟩
        (fun y => { tmps := #[.int .i64 p, .pointer (some ⟨w.heap.size, 0, none⟩), .int .i64 0, .pointer (some ⟨w.heap.size + 1, 0, none⟩), .int .i64 y.1.1, .int .i64 x, .int .i64 p, .int .i64 (p - 1 : Nat), .bool true, .int .i64 p, .int .i64 (p - 1 : Nat), .func (.func 51) #[] #[.pointer (some ⟨wr.heap.size, 0, none⟩)], .int .i64 y.1.1, .int .i64 y.1.2, undef, undef, undef, undef, undef, undef, undef, undef, undef, undef, undef, undef], defers := [] }) ?assign ?body ?done ?stop
      case assign =>
        intro l y W K hK
        gi_wp2
        exact hK
      case stop =>
        rintro D c pre W hD _ ⟨⟨rfl, hbp, hbx, hnt⟩, hB, _, hm⟩ hK
        have hmk := Marks.cons hm HBB0.out.size hD hK
        have HR : Hid (RootW w p (x + 1) ({ target := .collected D, args := #[] } :: ds) W) := Lib.hid ⟨hbp, hbx, hmk, hB, by omega, by omega, fun r h1 h2 => by
          by_cases e : r = x
          · subst e; exact hnt
          · exact HNO.out r h1 (by omega)⟩
        have e1 := hbx.cell
        have e2 := HBX.out.cell
        have HE1 := Lib.hid e1
        have HE2 := Lib.hid e2
        clear hbp hbx hnt hB hm hmk hK e1 e2
        gi_wp2
        refine ⟨⟨x + 1, _, _, _, _, _, _, _, _, rfl, HR.out⟩, ?_⟩
        rw [HE1.out, HE2.out]
        simp only [Option.getD_some, intOf]
        omega
      case done =>
        rintro D xs W hD hS ⟨⟨hbp, hbx, hall⟩, hB, _, hm⟩ hK
        have hmk := Marks.cons hm HBB0.out.size hD hK
        have htr : Tried p x := fun q hq hdv => by
          obtain ⟨k, hk⟩ := ((facs_fac hN1).mem q).2 ⟨hq, hdv⟩
          rw [← hS] at hk
          obtain ⟨y, hy, e⟩ := List.mem_map.1 hk
          have := hall y hy
          rwa [e] at this
        have hxg : x = g := (root_of_last HP.out.1 hx1 hxp HNO.out (.inr htr)).unique HG.out
        subst hxg
        have hc := hbx.cell
        have HMK1 := Lib.hid hmk
        have HB1 := Lib.hid hB
        clear hbp hbx hall hm hmk htr hS hB hK
        gi_wp2
        refine Marks.leaves (by simp) HMK1.out (fun W' hb => ?_) HB1.out.size
        exact ⟨_, results_tmp rfl _ _ _, rfl, HB1.out.trans hb⟩
      case body =>
        rintro l pre y W ⟨⟨hbp, hbx, hall⟩, hB, hsz, hm⟩ _
        obtain ⟨hq, hqd, _, _⟩ := y.pr hN1
        have hq2 := hq.1
        have hqp : y.1.1 ≤ p - 1 := Nat.le_of_dvd (by omega) hqd
        have HQ := Lib.hid (And.intro hq hqd)
        have hmix : Try.prog.follows .mixedOrders = true := by kernel_rfl
        have HX1 := Lib.hid hbx
        have HP1 := Lib.hid hbp
        have HA := Lib.hid hall
        have HB1 := Lib.hid hB
        have HM1 := Lib.hid hm
        have hne : ((y.1.1 : Int) != 0) = true := by simp; omega
        have hq0 : ¬ y.1.1 = 0 := by omega
        have hqm : (p - 1) / y.1.1 ≤ p - 1 := Nat.div_le_self _ _
        have HP2 := fun W => Lib.hid (pow_any x ((p - 1) / y.1.1) p W (by omega) h2 (by omega) (by omega))
        have HN1 := Lib.hid (fun h : x ^ ((p - 1) / y.1.1) % p = 1 => (fun ht : Tried p x => ht y.1.1 hq hqd h))
        have HN2 := Lib.hid (fun h : x ^ ((p - 1) / y.1.1) % p ≠ 1 => (show ∀ z ∈ pre ++ [y], x ^ ((p - 1) / z.1.1) % p ≠ 1 from fun z hz => by
          rcases List.mem_append.1 hz with hz | hz
          · exact hall z hz
          · rw [List.mem_singleton.1 hz]; exact h))
        have hgi : ((p - 1 : Nat) : Int) / (y.1.1 : Int) = (((p - 1) / y.1.1 : Nat) : Int) := by rw [Int.natCast_ediv]
        obtain ⟨v, hv⟩ : ∃ v, x ^ ((p - 1) / y.1.1) % p = v := ⟨_, rfl⟩
        rw [hv] at HN1 HN2 HP2
        generalize (p - 1) / y.1.1 = k at HP2 hgi hqm hv
        have HGI := Lib.hid hgi
        have hkl : k ≤ 1000000 := by omega
        obtain ⟨Z, hZ⟩ : ∃ Z, y.1.2 = Z := ⟨_, rfl⟩
        rw [hZ]
        clear hgi hbp hbx hall hB hm hq hqd hv hZ
        gi_wp2
        refine region_round_held (S := fun W1 => W1.cell? ⟨w.heap.size + 1, 0, none⟩ = some (.int .i64 x) ∧ W1.cell? ⟨w.heap.size, 0, none⟩ = some (.int .i64 p)) l (by kernel_rfl) hmix (by rintro ⟨_, _, h⟩; exact h) ?_
        have hS : W.drew.cell? ⟨w.heap.size + 1, 0, none⟩ = some (.int .i64 x) ∧ W.drew.cell? ⟨w.heap.size, 0, none⟩ = some (.int .i64 p) := ⟨HX1.out.cell, HP1.out.cell⟩
        refine takeH (i := 0) (d := 14) (v := .int .i64 x) rfl rfl (by kernel_rfl) (by kernel_rfl) (by kernel_rfl) (fun _ _ _ h => h) (by kernel_rfl) ?_ hS ?_
        · (rintro W1 ⟨h1, h2⟩; go_simp)
        simp only [List.setIfInBounds_toArray, List.set_cons_zero, List.set_cons_succ]
        refine takeH (i := 1) (d := 15) (v := .int .i64 p) rfl rfl (by kernel_rfl) (by kernel_rfl) (by kernel_rfl) (fun _ _ _ h => h) (by kernel_rfl) ?_ hS ?_
        · (rintro W1 ⟨h1, h2⟩; go_simp)
        simp only [List.setIfInBounds_toArray, List.set_cons_zero, List.set_cons_succ]
        refine takeH (i := 2) (d := 16) (v := .int .i64 (p - 1 : Nat)) rfl rfl (by kernel_rfl) (by kernel_rfl) (by kernel_rfl) (fun _ _ _ h => h) (by kernel_rfl) ?_ hS ?_
        · (rintro W1 ⟨h1, h2⟩; go_simp; first | done | exact hw1)
        simp only [List.setIfInBounds_toArray, List.set_cons_zero, List.set_cons_succ]
        refine takeH (i := 3) (d := 17) (v := .int .i64 y.1.1) rfl rfl (by kernel_rfl) (by kernel_rfl) (by kernel_rfl) (fun _ _ _ h => h) (by kernel_rfl) ?_ hS ?_
        · (rintro W1 ⟨h1, h2⟩; go_simp)
        simp only [List.setIfInBounds_toArray, List.set_cons_zero, List.set_cons_succ]
        refine takeH (i := 4) (d := 18) (v := .int .i64 k) rfl rfl (by kernel_rfl) (by kernel_rfl) (by kernel_rfl) (fun _ _ _ h => h) (by kernel_rfl) ?_ hS ?_
        · (rintro W1 ⟨h1, h2⟩; go_simp; first | done | (rw [HGI.out]; exact IntWalk.i64_in _ ⟨by omega, by omega⟩))
        simp only [List.setIfInBounds_toArray, List.set_cons_zero, List.set_cons_succ]
        refine takeH (i := 5) (d := 19) (v := .int .u64 k) rfl rfl (by kernel_rfl) (by kernel_rfl) (by kernel_rfl) (fun _ _ _ h => h) (by kernel_rfl) ?_ hS ?_
        · (rintro W1 ⟨h1, h2⟩; go_simp; rw [IntKind.wrap_u64]; omega)
        simp only [List.setIfInBounds_toArray, List.set_cons_zero, List.set_cons_succ]
        refine takeH (i := 6) (d := 20) (v := .int .i64 p) rfl rfl (by kernel_rfl) (by kernel_rfl) (by kernel_rfl) (fun _ _ _ h => h) (by kernel_rfl) ?_ hS ?_
        · (rintro W1 ⟨h1, h2⟩; go_simp)
        simp only [List.setIfInBounds_toArray, List.set_cons_zero, List.set_cons_succ]
        refine wpAnyH_ready (rs := [7]) (by kernel_rfl) (by simp) (AllReadyH.cons rfl (fun K hK => ?_) AllReadyH.nil)
        go_simp
        refine (HP2 _).out.mono ?_
        rintro e w3 ⟨rfl, rfl⟩
        have hlt3 := HX1.out.lt
        have hS3 : (W.drew.alloc (.cells #[.int .i64 p] 3)).cell? ⟨w.heap.size + 1, 0, none⟩ = some (.int .i64 x) ∧ (W.drew.alloc (.cells #[.int .i64 p] 3)).cell? ⟨w.heap.size, 0, none⟩ = some (.int .i64 p) := ⟨(HX1.out.drew_.alloc _).cell, (HP1.out.drew_.alloc _).cell⟩
        refine hK.out _ _ hS3 (fun hS4 => ?_)
        clear hK K hS
        have HKO := Lib.hid (((KeepsOthers.refl W).trans (KeepsOthers.drew W)).trans (KeepsOthers.alloc _ (.cells #[.int .i64 p] 3)))
        by_cases hpw : v = 1
        · have hd1 : ((v : Int) == 1) = true := by rw [hpw]; rfl
          have HNT := Lib.hid (HN1.out hpw)
          refine takeH (i := 8) (d := 22) (v := .bool true) rfl rfl (by kernel_rfl) (by kernel_rfl) (by kernel_rfl) (fun _ _ _ h => h) (by kernel_rfl) ?_ hS4 ?_
          · (rintro W1 ⟨h1, h2⟩; go_simp)
          simp only [List.setIfInBounds_toArray, List.set_cons_zero, List.set_cons_succ]
          refine wpAnyH_done (by kernel_rfl) ?_ _
          clear hS4 hS3
          have hcx := (HX1.out.alloc (.cells #[.int .i64 p] 3)).cell
          have hfx := (HX1.out.alloc (.cells #[.int .i64 p] 3)).frozen
          subst hpw
          gi_wp2
          refine ⟨((KeepsOthers.setCell W _ _).trans (KeepsOthers.alloc _ _)).trans (KeepsOthers.drew _), ⟨rfl, ?_, ?_, HNT.out⟩, ?_, ?_⟩
          · exact ((HP1.out.other (show w.heap.size ≠ w.heap.size + 1 by omega) _).alloc _).drew_
          · exact ((HX1.out.set _).alloc _).drew_
          · exact ((HB1.out.setCell (p := ⟨w.heap.size + 1, 0, none⟩) (by simp) _).alloc (by simpa using HB1.out.size) _).drew
          · rw [← hz0]
            exact Marks.own_keep HM1.out (((KeepsOthers.setCell W _ _).trans (KeepsOthers.alloc _ _)).trans (KeepsOthers.drew _)) hsz
        · have hd1 : ((v : Int) == 1) = false := by simp; omega
          have HNT := Lib.hid (HN2.out hpw)
          refine takeH (i := 8) (d := 22) (v := .bool false) rfl rfl (by kernel_rfl) (by kernel_rfl) (by kernel_rfl) (fun _ _ _ h => h) (by kernel_rfl) ?_ hS4 ?_
          · (rintro W1 ⟨h1, h2⟩; go_simp)
          simp only [List.setIfInBounds_toArray, List.set_cons_zero, List.set_cons_succ]
          refine wpAnyH_done (by kernel_rfl) ?_ _
          clear hS4 hS3
          gi_wp2
          exact ⟨HKO.out, trivial, ⟨(HP1.out.drew_.alloc _), (HX1.out.drew_.alloc _), HNT.out⟩, HB1.out.drew.alloc HB1.out.size _, Marks.own_keep HM1.out HKO.out hsz⟩
    · have hxe : x = p - 1 := by omega
      have hxg : x = g := (root_of_last HP.out.1 hx1 hxp HNO.out (.inl hxe)).unique HG.out
      subst hxg
      have hw1 : IntKind.i64.wrap ((p : Int) - 1) = ((p - 1 : Nat) : Int) := by
        rw [show ((p - 1 : Nat) : Int) = (p : Int) - 1 by omega]; exact IntWalk.i64_in _ ⟨by omega, by omega⟩
      have hlt2 : decide ((x : Int) < ((p - 1 : Nat) : Int)) = false := decide_eq_false (by omega)
      have hlt3 : decide (x < p - 1) = false := decide_eq_false (by omega)
      clear hxe
      gi_wp2
      refine Marks.leaves (by simp) HMK.out (fun W' hb => ?_) HBB.out.size
      exact ⟨_, results_tmp rfl _ _ _, rfl, HBB.out.trans hb⟩

set_option maxRecDepth 100000 in
set_option maxHeartbeats 400000 in
theorem Root_bad (p : Int) (w : World) (hp : isP p = false) : Calls Try.prog 22 #[.int .i64 p] w fun e w' => e = .returned (.tuple #[.int .i64 0, .int .i64 3]) ∧ w' = w := by
  have HC := Lib.hid (Is_any p w)
  rw [hp] at HC
  go_enter Try.func22, Try.ntmps22
  go_wp2_with fail
  refine HC.out.mono ?_
  rintro e w' ⟨rfl, rfl⟩
  go_wp2
  go_ret2
  exact ⟨rfl, rfl⟩
set_option maxRecDepth 100000 in
set_option maxHeartbeats 400000 in
theorem Root_any (p g : Nat) (w : World) (hp : P6 p) (hg : RootOf p g) : Calls Try.prog 22 #[.int .i64 p] w (RetE w g 0) := by
  have HC := Lib.hid (Is_any p w)
  rw [hp.isP] at HC
  have HR := Lib.hid (root_any p g w hp hg)
  go_enter Try.func22, Try.ntmps22
  go_wp2_with fail
  refine HC.out.mono ?_
  rintro e w' ⟨rfl, rfl⟩
  go_wp2_with fail
  refine HR.out.mono ?_
  rintro e w1 ⟨rfl, hb⟩
  have HB := Lib.hid hb
  clear hb
  go_wp2
  go_ret2
  exact ⟨rfl, HB.out⟩
end Go.Proofs.Ytbcbkeeadbfjmaa
