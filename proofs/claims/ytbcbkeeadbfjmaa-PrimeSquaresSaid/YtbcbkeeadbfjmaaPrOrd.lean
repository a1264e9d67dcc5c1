/- prime.Order. -/
import Derived.Test.YtbcbkeeadbfjmaaPrFac
import Derived.Test.YtbcbkeeadbfjmaaPrRes
import Derived.Test.YtbcbkeeadbfjmaaRegH
import Derived.Deep.RegionHeld3
namespace Go.Proofs.Ytbcbkeeadbfjmaa
open Go Go.RowKit Go.Shelf Num
attribute [local go_sem] Oper.semAt_some

/-- Between two prime factors: m is what is left of p-1, x's powers by m are 1, and the primes of pre are done. -/
def OrdAt (p x m : Nat) (done : Nat → Prop) : Prop := 1 ≤ m ∧ m ∣ p - 1 ∧ x ^ m % p = 1 ∧ ∀ q, Pr q → done q → ¬ (q ∣ m ∧ x ^ (m / q) % p = 1)
theorem OrdAt.next {p x m q : Nat} {done : Nat → Prop} (hp : 2 ≤ p) (hq : 2 ≤ q) (h : OrdAt p x m done) (hd : m % q = 0) (h1 : x ^ (m / q) % p = 1) : OrdAt p x (m / q) done ∧ m / q < m := by
  obtain ⟨a, b, c, d⟩ := h
  obtain ⟨k, hk⟩ := Nat.dvd_of_mod_eq_zero hd
  have hmk : m / q = k := by rw [hk]; exact Nat.mul_div_cancel_left _ (by omega)
  rw [hmk] at h1 ⊢
  have hk1 : 1 ≤ k := Nat.pos_of_ne_zero fun h => by subst h; omega
  have hkm : k < m := by
    rw [hk]
    calc k = 1 * k := (Nat.one_mul k).symm
      _ < q * k := Nat.mul_lt_mul_of_pos_right (by omega) hk1
  have hkd : k ∣ m := ⟨q, by rw [hk, Nat.mul_comm]⟩
  exact ⟨⟨hk1, Nat.dvd_trans hkd b, h1, fun r hr hdr => order_stays hp hkd (d r hr hdr) (by have := hr.1; omega)⟩, hkm⟩
theorem OrdAt.close {p x m q : Nat} {done : Nat → Prop} (h : OrdAt p x m done) (hd : ¬ (m % q = 0 ∧ x ^ (m / q) % p = 1)) : OrdAt p x m (fun r => done r ∨ r = q) :=
  ⟨h.1, h.2.1, h.2.2.1, fun r hr hdr hh => by
    rcases hdr with hdr | rfl
    · exact h.2.2.2 r hr hdr hh
    · exact hd ⟨Nat.mod_eq_zero_of_dvd hh.1, hh.2⟩⟩
theorem OrdAt.snoc {p x m N : Nat} {pre : List (FP N)} {y : FP N} (h : OrdAt p x m (fun r => (∃ z ∈ pre, z.1.1 = r) ∨ r = y.1.1)) : OrdAt p x m (fun r => ∃ z ∈ pre ++ [y], z.1.1 = r) :=
  ⟨h.1, h.2.1, h.2.2.1, fun q hq ⟨z, hz, e⟩ => h.2.2.2 q hq (by
    rcases List.mem_append.1 hz with hz | hz
    · exact .inl ⟨z, hz, e⟩
    · rw [List.mem_singleton.1 hz] at e; exact .inr e.symm)⟩
theorem OrdAt.end_ {p x m : Nat} {done : Nat → Prop} (hp : 2 ≤ p) (h : OrdAt p x m done) (hall : ∀ q, Pr q → q ∣ p - 1 → done q) : Ord p x m :=
  order_end hp h.1 h.2.2.1 fun q hq hdv => h.2.2.2 q hq (hall q hq (Nat.dvd_trans hdv h.2.1))

set_option maxRecDepth 100000 in
set_option maxHeartbeats 400000 in
theorem Order_bad (a p : Int) (w : World) (hp : isP p = false) : Calls Try.prog 21 #[.int .i64 a, .int .i64 p] w (RetE w 0 3) := by
  have HC := fun W => Lib.hid (unit_bad a p W hp)
  refine (callsIn_wide (n := 3)).1 ?_
  refine callsIn_of_wp_marks Try.func21 rfl trivial ?_ rfl
  simp only [Try.ntmps21, List.size_toArray, List.length_cons, List.length_nil, Nat.reduceAdd, Nat.reduceSub, Array.replicate_succ, Array.replicate_zero, List.push_toArray, List.append_toArray, List.nil_append, List.cons_append]
  gi_wp2_with fail
  refine ⟨trivial, (callsIn_wide.2 (HC _).out).mono ?_⟩
  rintro e w1 ⟨rfl, rfl⟩
  gi_wp2_with fail
  exact ⟨_, results_tmp2 rfl _ _ _, rfl, ((Below.refl _ w).alloc (Nat.le_refl _) _).alloc (by simp) _⟩
set_option maxRecDepth 100000 in
set_option maxHeartbeats 400000 in
theorem Order_zero (a : Int) (p : Nat) (w : World) (hp : P6 p) (h0 : resV a p = 0) : Calls Try.prog 21 #[.int .i64 a, .int .i64 p] w (RetE w 0 6) := by
  have HC := fun W => Lib.hid (unit_zero a p W hp h0)
  refine (callsIn_wide (n := 3)).1 ?_
  refine callsIn_of_wp_marks Try.func21 rfl trivial ?_ rfl
  simp only [Try.ntmps21, List.size_toArray, List.length_cons, List.length_nil, Nat.reduceAdd, Nat.reduceSub, Array.replicate_succ, Array.replicate_zero, List.push_toArray, List.append_toArray, List.nil_append, List.cons_append]
  gi_wp2_with fail
  refine ⟨trivial, (callsIn_wide.2 (HC _).out).mono ?_⟩
  rintro e w1 ⟨rfl, rfl⟩
  gi_wp2_with fail
  exact ⟨_, results_tmp2 rfl _ _ _, rfl, ((Below.refl _ w).alloc (Nat.le_refl _) _).alloc (by simp) _⟩

/-- Between two rounds of Order's loop over the prime factors. -/
def OrdI (w : World) (p x : Nat) {N : Nat} (pre : List (FP N)) (W : World) : Prop :=
  (∃ m : Nat, Boxed W (w.heap.size + 1 + 1) 3 (.int .i64 m) ∧ OrdAt p x m (fun q => ∃ y ∈ pre, y.1.1 = q)) ∧ Boxed W w.heap.size 3 (.int .i64 p) ∧ Boxed W (w.heap.size + 1) 3 (.int .i64 x)
theorem OrdI.own (w : World) (p x : Nat) {N : Nat} : Own (fun (pre : List (FP N)) W => OrdI w p x pre W) := by
  rintro s A B row ⟨⟨m, hm, ho⟩, hp, hx⟩ hg hr
  have far : ∀ {b : Nat} {t : TypeId} {v : Value}, Boxed A b t v → some b ≠ row := fun hb e => by
    obtain ⟨o, ho, hc⟩ := hr _ e.symm
    rw [show A.heap[_]? = _ from hb] at ho; cases ho; cases hc
  exact ⟨⟨m, hm.kept hg (far hm), ho⟩, hp.kept hg (far hp), hx.kept hg (far hx)⟩

set_option maxRecDepth 100000 in
set_option maxHeartbeats 2000000 in
theorem Order_ok (a : Int) (p d : Nat) (w : World) (hp : P6 p) (h0 : resV a p ≠ 0) (hd : Ord p (resV a p) d) : Calls Try.prog 21 #[.int .i64 a, .int .i64 p] w (RetE w d 0) := by
  have HC := fun W => Lib.hid (unit_ok a p W hp h0)
  have h2 := hp.ge
  have hlt := hp.2
  have hxp := resV_lt a h2
  have HD := Lib.hid hd
  have hnd : ¬ p ∣ resV a p := pr_not_dvd (by omega) hxp
  have hfer : Hid (resV a p ^ (p - 1) % p = 1) := Lib.hid (fermat hp.1 hnd)
  have HP := Lib.hid hp
  generalize resV a p = x at HC HD hfer hxp h0
  have hw : IntKind.i64.wrap ((p : Int) - 1) = ((p - 1 : Nat) : Int) := by
    rw [show ((p - 1 : Nat) : Int) = (p : Int) - 1 by omega]; exact IntWalk.i64_in _ ⟨by omega, by omega⟩
  clear hp hnd hd
  refine (callsIn_wide (n := 5)).1 ?_
  refine callsIn_of_wp_marks Try.func21 rfl trivial ?_ rfl
  simp only [Try.ntmps21, List.size_toArray, List.length_cons, List.length_nil, Nat.reduceAdd, Nat.reduceSub, Array.replicate_succ, Array.replicate_zero, List.push_toArray, List.append_toArray, List.nil_append, List.cons_append]
  gi_wp2_with fail
  refine ⟨trivial, (callsIn_wide.2 (HC _).out).mono ?_⟩
  rintro e w1 ⟨rfl, rfl⟩
  gi_wp2_with fail
  refine ⟨trivial, (factors_in Fence.wide 4 trivial rfl _ _).mono ?_⟩
  rintro e w2 ⟨rfl, rfl⟩
  gi_wp2_with fail
  have hN1 : 1 ≤ p - 1 := by omega
  obtain ⟨w0, hw0⟩ : ∃ w0, ((((w.alloc (Obj.cells #[Value.int IntKind.i64 ↑p] 3)).alloc (Obj.cells #[Value.int IntKind.i64 ↑x] 3)).alloc (Obj.cells #[Value.int IntKind.i64 ↑(p - 1)] 3)).alloc (Obj.cells #[Value.int IntKind.i64 ↑(p - 1)] 3)) = w0 := ⟨_, rfl⟩
  have hz0 : w0.heap.size = w.heap.size + 1 + 1 + 1 + 1 := by rw [← hw0]; simp
  have hB0 : Below w.heap.size w w0 := by
    rw [← hw0]; exact ((((Below.refl _ w).alloc (Nat.le_refl _) _).alloc (by simp) _).alloc (by simp; omega) _).alloc (by simp; omega) _
  have hb3 : Boxed w0 (w.heap.size + 1 + 1 + 1) 3 (.int .i64 (p - 1 : Nat)) := by
    rw [← hw0]
    have := Boxed.new (((w.alloc (Obj.cells #[Value.int IntKind.i64 ↑p] 3)).alloc (Obj.cells #[Value.int IntKind.i64 ↑x] 3)).alloc (Obj.cells #[Value.int IntKind.i64 ↑(p - 1)] 3)) 3 (.int .i64 (p - 1 : Nat))
    simpa using this
  have hb2 : Boxed w0 (w.heap.size + 1 + 1) 3 (.int .i64 (p - 1 : Nat)) := by
    rw [← hw0]
    have := (Boxed.new ((w.alloc (Obj.cells #[Value.int IntKind.i64 ↑p] 3)).alloc (Obj.cells #[Value.int IntKind.i64 ↑x] 3)) 3 (.int .i64 (p - 1 : Nat))).alloc (Obj.cells #[Value.int IntKind.i64 ↑(p - 1)] 3)
    simpa using this
  have hb1 : Boxed w0 (w.heap.size + 1) 3 (.int .i64 x) := by
    rw [← hw0]
    have := ((Boxed.new (w.alloc (Obj.cells #[Value.int IntKind.i64 ↑p] 3)) 3 (.int .i64 x)).alloc (Obj.cells #[Value.int IntKind.i64 ↑(p - 1)] 3)).alloc (Obj.cells #[Value.int IntKind.i64 ↑(p - 1)] 3)
    simpa using this
  have hb0 : Boxed w0 w.heap.size 3 (.int .i64 p) := by
    rw [← hw0]
    exact (((Boxed.new w 3 (.int .i64 p)).alloc _).alloc _).alloc _
  have H0 : Hid (OrdI w p x ([] : List (FP (p - 1))) w0) := Lib.hid ⟨⟨p - 1, hb2, hN1, ⟨1, by omega⟩, hfer.out, by rintro q _ ⟨y, hy, _⟩; simp at hy⟩, hb0, hb1⟩
  rw [hw0]
  have HB0 := Lib.hid hB0
  clear hw0 hb2 hb1 hb0 hB0 hw
  refine wpIn_rangeFunc_ownF rfl (by omega) (gf := 51) (lb := #[.pointer (some ⟨w.heap.size + 1 + 1 + 1, 0, none⟩)]) rfl trivial (enters_of Try.func51 (by kernel_rfl) rfl)
    (fac_stops (fun _ _ => True) 4 (w.heap.size + 1 + 1 + 1) (p - 1) (by omega) hN1 (by omega) w0 hb3) (fun _ _ => trivial) (fun _ _ _ _ _ _ _ _ => trivial) (Below.refl _ _) (fun _ => rfl)
    (fun pre W => OrdI w p x pre W ∧ Below w.heap.size w W) (fun _ _ _ => False)
    (OwnFrom.and (Own.from (OrdI.own w p x) _) (ownFrom_below (Nat.le_refl _) (by omega)))
    (fun _ _ _ _ _ hs _ _ => hs) ⟨H0.out, HB0.out⟩
    (fun y => { tmps := #[.int .i64 a, .int .i64 p, undef, .pointer (some ⟨w.heap.size, 0, none⟩), .int .i64 0, .int .i64 0, .pointer (some ⟨w.heap.size + 1, 0, none⟩), .int .i64 0, .pointer (some ⟨w.heap.size + 1 + 1, 0, none⟩), .int .i64 y.1.1, .tuple #[.int .i64 x, .int .i64 0], .int .i64 a, .int .i64 p, .tuple #[.int .i64 x, .int .i64 0], .int .i64 x, .int .i64 0, .int .i64 0, .bool false, undef, .int .i64 p, .int .i64 (p - 1 : Nat), .int .i64 p, .int .i64 (p - 1 : Nat), .func (.func 51) #[] #[.pointer (some ⟨w.heap.size + 1 + 1 + 1, 0, none⟩)], .int .i64 y.1.1, .int .i64 y.1.2, undef, undef, undef, undef, undef, undef, undef, undef, undef, undef, undef, undef, undef, undef, undef, undef, undef, undef], defers := [] }) ?assign ?body ?done ?stop
  case assign =>
    intro l y W K hK
    gi_wp2
    exact hK
  case stop =>
    rintro D c pre W _ _ h _
    exact h.elim
  case done =>
    rintro D xs W hD hS ⟨⟨⟨m, hm, ho⟩, _, _⟩, hB⟩ hK
    have hmd : m = d := (ho.end_ h2 fun q hq hdv => by
      obtain ⟨k, hk⟩ := ((facs_fac hN1).mem q).2 ⟨hq, hdv⟩
      rw [← hS] at hk
      obtain ⟨y, hy, e⟩ := List.mem_map.1 hk
      exact ⟨y, hy, by rw [e]⟩).unique h2 HD.out
    subst hmd
    have hc := hm.cell
    have HK := Lib.hid hK
    have HBB := Lib.hid hB
    clear ho hS hm hK hB
    gi_wp2
    refine ⟨by simp, .inl ⟨_, _, rfl, run_takeDeferred HK.out, ?_⟩⟩
    exact ⟨_, results_tmp2 rfl _ _ _, rfl, HBB.out.trans (belowK_b (w := w) (Nat.le_refl _) W D _ _ (by omega) HK.out rfl rfl)⟩
  case body =>
    rintro l pre y W ⟨⟨⟨m, hm, ho⟩, hbp, hbx⟩, hB⟩ _
    obtain ⟨hq, hqd, _, _⟩ := y.pr hN1
    have hq2 := hq.1
    have hqp : y.1.1 ≤ p - 1 := Nat.le_of_dvd (by omega) hqd
    have HQ := Lib.hid hq
    have hmix : Try.prog.follows .mixedOrders = true := by kernel_rfl
    have HM := Lib.hid hm
    have HO := Lib.hid ho
    have HBP := Lib.hid hbp
    have HBX := Lib.hid hbx
    have HBB := Lib.hid hB
    obtain ⟨Z, hZ⟩ : ∃ Z, y.1.2 = Z := ⟨_, rfl⟩
    rw [hZ]
    clear hm ho hbp hbx hB hq hZ
    gi_wp2
    gi_loopw [] (fun wr => ∃ m : Nat, Hid (Boxed wr (w.heap.size + 1 + 1) 3 (.int .i64 m)) ∧ Hid (OrdAt p x m (fun q => ∃ y ∈ pre, y.1.1 = q)) ∧ Hid (Boxed wr w.heap.size 3 (.int .i64 p)) ∧ Hid (Boxed wr (w.heap.size + 1) 3 (.int .i64 x)) ∧ Hid (KeepsOthers W wr) ∧ Hid (Below w.heap.size w wr))
      (fun wr => match wr.cell? ⟨w.heap.size + 1 + 1, 0, none⟩ with | some v => (intOf v).toNat | none => 0)
    case atStart => exact ⟨m, HM, HO, HBP, HBX, Lib.hid (KeepsOthers.refl W), HBB⟩
    case round =>
      clear HM HO HBP HBX HBB m
      obtain ⟨m, HM, HO, HBP, HBX, HKO, HBB⟩ := hrel
      have hm1 := HO.out.1
      have hmp := Nat.le_of_dvd (by omega) HO.out.2.1
      have hne : ((y.1.1 : Int) != 0) = true := by simp; omega
      have hq0 : ¬ y.1.1 = 0 := by omega
      by_cases hdv : m % y.1.1 = 0
      · have hdd : (((m : Int) % (y.1.1 : Int)) == 0) = true := by rw [← Int.natCast_emod, hdv]; rfl
        have hqm : m / y.1.1 ≤ m := Nat.div_le_self _ _
        have HP2 := fun W => Lib.hid (pow_any x (m / y.1.1) p W hxp h2 (by omega) (by omega))
        have HN := Lib.hid (fun h : x ^ (m / y.1.1) % p = 1 => HO.out.next h2 hq2 hdv h)
        have HC2 := Lib.hid (fun h : ¬ x ^ (m / y.1.1) % p = 1 => HO.out.close (q := y.1.1) (fun hh => h hh.2))
        have hgi : (m : Int) / (y.1.1 : Int) = ((m / y.1.1 : Nat) : Int) := by rw [Int.natCast_ediv]
        generalize m / y.1.1 = g at HP2 HN HC2 hgi hqm
        have HGI := Lib.hid hgi
        clear hgi
        generalize x ^ g % p = v at HP2 HN HC2
        clear hdv
        gi_wp2
        refine region_round_held (S := fun W1 => W1.cell? ⟨w.heap.size + 1 + 1, 0, none⟩ = some (.int .i64 m) ∧ W1.cell? ⟨w.heap.size + 1, 0, none⟩ = some (.int .i64 x) ∧ W1.cell? ⟨w.heap.size, 0, none⟩ = some (.int .i64 p)) l (by kernel_rfl) hmix (by rintro ⟨_, _, h⟩; exact h) ?_
        have hS : wr.drew.cell? ⟨w.heap.size + 1 + 1, 0, none⟩ = some (.int .i64 m) ∧ wr.drew.cell? ⟨w.heap.size + 1, 0, none⟩ = some (.int .i64 x) ∧ wr.drew.cell? ⟨w.heap.size, 0, none⟩ = some (.int .i64 p) := ⟨HM.out.cell, HBX.out.cell, HBP.out.cell⟩
        refine takeH (i := 0) (d := 26) (v := .int .i64 m) rfl rfl (by kernel_rfl) (by kernel_rfl) (by kernel_rfl) (fun _ _ _ h => h) (by kernel_rfl) ?_ hS ?_
        · (rintro W1 ⟨h1, h2, h3⟩; go_simp)
        simp only [List.setIfInBounds_toArray, List.set_cons_zero, List.set_cons_succ]
        refine takeH (i := 1) (d := 27) (v := .int .i64 y.1.1) rfl rfl (by kernel_rfl) (by kernel_rfl) (by kernel_rfl) (fun _ _ _ h => h) (by kernel_rfl) ?_ hS ?_
        · (rintro W1 ⟨h1, h2, h3⟩; go_simp)
        simp only [List.setIfInBounds_toArray, List.set_cons_zero, List.set_cons_succ]
        refine takeH (i := 2) (d := 28) (v := .int .i64 ((m : Int) % (y.1.1 : Int))) rfl rfl (by kernel_rfl) (by kernel_rfl) (by kernel_rfl) (fun _ _ _ h => h) (by kernel_rfl) ?_ hS ?_
        · (rintro W1 ⟨h1, h2, h3⟩; go_simp; exact Int.tmod_eq_emod_of_nonneg (by omega))
        simp only [List.setIfInBounds_toArray, List.set_cons_zero, List.set_cons_succ]
        refine takeH (i := 3) (d := 29) (v := .bool true) rfl rfl (by kernel_rfl) (by kernel_rfl) (by kernel_rfl) (fun _ _ _ h => h) (by kernel_rfl) ?_ hS ?_
        · (rintro W1 ⟨h1, h2, h3⟩; go_simp)
        simp only [List.setIfInBounds_toArray, List.set_cons_zero, List.set_cons_succ]
        refine takeH (i := 4) (d := 30) (v := .bool true) rfl rfl (by kernel_rfl) (by kernel_rfl) (by kernel_rfl) (fun _ _ _ h => h) (by kernel_rfl) ?_ hS ?_
        · (rintro W1 ⟨h1, h2, h3⟩; go_simp)
        simp only [List.setIfInBounds_toArray, List.set_cons_zero, List.set_cons_succ]
        refine takeH (i := 5) (d := 31) (v := .int .i64 x) rfl rfl (by kernel_rfl) (by kernel_rfl) (by kernel_rfl) (fun _ _ _ h => h) (by kernel_rfl) ?_ hS ?_
        · (rintro W1 ⟨h1, h2, h3⟩; go_simp)
        simp only [List.setIfInBounds_toArray, List.set_cons_zero, List.set_cons_succ]
        refine takeH (i := 6) (d := 32) (v := .int .i64 m) rfl rfl (by kernel_rfl) (by kernel_rfl) (by kernel_rfl) (fun _ _ _ h => h) (by kernel_rfl) ?_ hS ?_
        · (rintro W1 ⟨h1, h2, h3⟩; go_simp)
        simp only [List.setIfInBounds_toArray, List.set_cons_zero, List.set_cons_succ]
        refine takeH (i := 7) (d := 33) (v := .int .i64 y.1.1) rfl rfl (by kernel_rfl) (by kernel_rfl) (by kernel_rfl) (fun _ _ _ h => h) (by kernel_rfl) ?_ hS ?_
        · (rintro W1 ⟨h1, h2, h3⟩; go_simp)
        simp only [List.setIfInBounds_toArray, List.set_cons_zero, List.set_cons_succ]
        refine takeH (i := 8) (d := 34) (v := .int .i64 g) rfl rfl (by kernel_rfl) (by kernel_rfl) (by kernel_rfl) (fun _ _ _ h => h) (by kernel_rfl) ?_ hS ?_
        · (rintro W1 ⟨h1, h2, h3⟩; go_simp; rw [HGI.out]; exact IntWalk.i64_in _ ⟨by omega, by omega⟩)
        simp only [List.setIfInBounds_toArray, List.set_cons_zero, List.set_cons_succ]
        refine takeH (i := 9) (d := 35) (v := .int .u64 g) rfl rfl (by kernel_rfl) (by kernel_rfl) (by kernel_rfl) (fun _ _ _ h => h) (by kernel_rfl) ?_ hS ?_
        · (rintro W1 ⟨h1, h2, h3⟩; go_simp; rw [IntKind.wrap_u64]; omega)
        simp only [List.setIfInBounds_toArray, List.set_cons_zero, List.set_cons_succ]
        refine takeH (i := 10) (d := 36) (v := .int .i64 p) rfl rfl (by kernel_rfl) (by kernel_rfl) (by kernel_rfl) (fun _ _ _ h => h) (by kernel_rfl) ?_ hS ?_
        · (rintro W1 ⟨h1, h2, h3⟩; go_simp)
        simp only [List.setIfInBounds_toArray, List.set_cons_zero, List.set_cons_succ]
        refine wpAnyH_ready (rs := [11]) (by kernel_rfl) (by simp) (AllReadyH.cons rfl (fun K hK => ?_) AllReadyH.nil)
        go_simp
        refine (HP2 _).out.mono ?_
        rintro e w3 ⟨rfl, rfl⟩
        have hlt3 := HM.out.lt
        have hS3 : (wr.drew.alloc (.cells #[.int .i64 p] 3)).cell? ⟨w.heap.size + 1 + 1, 0, none⟩ = some (.int .i64 m) ∧ (wr.drew.alloc (.cells #[.int .i64 p] 3)).cell? ⟨w.heap.size + 1, 0, none⟩ = some (.int .i64 x) ∧ (wr.drew.alloc (.cells #[.int .i64 p] 3)).cell? ⟨w.heap.size, 0, none⟩ = some (.int .i64 p) := ⟨((HM.out : Boxed wr.drew _ _ _).alloc _).cell, ((HBX.out : Boxed wr.drew _ _ _).alloc _).cell, ((HBP.out : Boxed wr.drew _ _ _).alloc _).cell⟩
        refine hK.out _ _ hS3 (fun hS4 => ?_)
        clear hK K hS
        have HM3 := Lib.hid ((HM.out : Boxed wr.drew _ _ _).alloc (.cells #[.int .i64 p] 3))
        have HBX3 := Lib.hid ((HBX.out : Boxed wr.drew _ _ _).alloc (.cells #[.int .i64 p] 3))
        have HBP3 := Lib.hid ((HBP.out : Boxed wr.drew _ _ _).alloc (.cells #[.int .i64 p] 3))
        have HKO3 := Lib.hid ((HKO.out.trans (KeepsOthers.drew wr)).trans (KeepsOthers.alloc _ (.cells #[.int .i64 p] 3)))
        have HBB3 := Lib.hid ((HBB.out.drew).alloc HBB.out.size (.cells #[.int .i64 p] 3))
        by_cases hpw : v = 1
        · have hd1 : ((v : Int) == 1) = true := by rw [hpw]; rfl
          obtain ⟨hn1, hn2⟩ := HN.out hpw
          have HN1 := Lib.hid hn1
          clear hn1
          refine takeH (i := 12) (d := 38) (v := .bool true) rfl rfl (by kernel_rfl) (by kernel_rfl) (by kernel_rfl) (fun _ _ _ h => h) (by kernel_rfl) ?_ hS4 ?_
          · (rintro W1 ⟨h1, h2, h3⟩; go_simp)
          simp only [List.setIfInBounds_toArray, List.set_cons_zero, List.set_cons_succ]
          refine takeH (i := 13) (d := 39) (v := .bool true) rfl rfl (by kernel_rfl) (by kernel_rfl) (by kernel_rfl) (fun _ _ _ h => h) (by kernel_rfl) ?_ hS4 ?_
          · (rintro W1 ⟨h1, h2, h3⟩; go_simp)
          simp only [List.setIfInBounds_toArray, List.set_cons_zero, List.set_cons_succ]
          refine wpAnyH_done (by kernel_rfl) ?_ _
          clear hS4 hS3
          have hcm := HM3.out.cell
          have hfm := HM3.out.frozen
          have hw2 : IntKind.i64.wrap ((m : Int) / (y.1.1 : Int)) = (g : Int) := by
            rw [HGI.out]
            exact IntWalk.i64_in _ ⟨by omega, by omega⟩
          subst hpw
          gi_wp2
          go_roundw
          case rel => exact ⟨g, Lib.hid ((HM.out.set _).alloc _).drew_, HN1, Lib.hid ((HBP.out.other (show w.heap.size ≠ w.heap.size + 1 + 1 by omega) _).alloc _).drew_, Lib.hid ((HBX.out.other (show w.heap.size + 1 ≠ w.heap.size + 1 + 1 by omega) _).alloc _).drew_, Lib.hid (((HKO.out.trans (KeepsOthers.setCell wr _ _)).trans (KeepsOthers.alloc _ _)).trans (KeepsOthers.drew _)), Lib.hid (((HBB.out.setCell (p := ⟨w.heap.size + 1 + 1, 0, none⟩) (by simp; omega) _).alloc (by simpa using HBB.out.size) _).drew)⟩
          case measure =>
            have e1 := ((HM.out.set (.int .i64 g)).alloc (.cells #[.int .i64 p] 3)).cell
            have e2 := HM.out.cell
            rw [show ∀ W : World, W.drew.cell? ⟨w.heap.size + 1 + 1, 0, none⟩ = W.cell? ⟨w.heap.size + 1 + 1, 0, none⟩ from fun _ => rfl]
            simp only [e1, e2, intOf]
            omega
        · have hd1 : ((v : Int) == 1) = false := by simp; omega
          have HN1 := Lib.hid (HC2.out hpw)
          refine takeH (i := 12) (d := 38) (v := .bool false) rfl rfl (by kernel_rfl) (by kernel_rfl) (by kernel_rfl) (fun _ _ _ h => h) (by kernel_rfl) ?_ hS4 ?_
          · (rintro W1 ⟨h1, h2, h3⟩; go_simp)
          simp only [List.setIfInBounds_toArray, List.set_cons_zero, List.set_cons_succ]
          refine takeH (i := 13) (d := 39) (v := .bool false) rfl rfl (by kernel_rfl) (by kernel_rfl) (by kernel_rfl) (fun _ _ _ h => h) (by kernel_rfl) ?_ hS4 ?_
          · (rintro W1 ⟨h1, h2, h3⟩; go_simp)
          simp only [List.setIfInBounds_toArray, List.set_cons_zero, List.set_cons_succ]
          refine wpAnyH_done (by kernel_rfl) ?_ _
          clear hS4 hS3 hd1 hpw HC2 HN
          gi_wp2
          refine ⟨HKO3.out, trivial, ⟨⟨m, HM3.out, ?_⟩, HBP3.out, HBX3.out⟩, HBB3.out⟩
          exact HN1.out.snoc
      · have hdd : (((m : Int) % (y.1.1 : Int)) == 0) = false := by rw [← Int.natCast_emod]; simp; omega
        have HC2 := Lib.hid (HO.out.close (q := y.1.1) fun h => hdv h.1)
        clear hdv
        gi_wp2
        refine region_round_held (S := fun W1 => W1.cell? ⟨w.heap.size + 1 + 1, 0, none⟩ = some (.int .i64 m) ∧ W1.cell? ⟨w.heap.size + 1, 0, none⟩ = some (.int .i64 x) ∧ W1.cell? ⟨w.heap.size, 0, none⟩ = some (.int .i64 p)) l (by kernel_rfl) hmix (by rintro ⟨_, _, h⟩; exact h) ?_
        have hS : wr.drew.cell? ⟨w.heap.size + 1 + 1, 0, none⟩ = some (.int .i64 m) ∧ wr.drew.cell? ⟨w.heap.size + 1, 0, none⟩ = some (.int .i64 x) ∧ wr.drew.cell? ⟨w.heap.size, 0, none⟩ = some (.int .i64 p) := ⟨HM.out.cell, HBX.out.cell, HBP.out.cell⟩
        refine takeH (i := 0) (d := 26) (v := .int .i64 m) rfl rfl (by kernel_rfl) (by kernel_rfl) (by kernel_rfl) (fun _ _ _ h => h) (by kernel_rfl) ?_ hS ?_
        · (rintro W1 ⟨h1, h2, h3⟩; go_simp)
        simp only [List.setIfInBounds_toArray, List.set_cons_zero, List.set_cons_succ]
        refine takeH (i := 1) (d := 27) (v := .int .i64 y.1.1) rfl rfl (by kernel_rfl) (by kernel_rfl) (by kernel_rfl) (fun _ _ _ h => h) (by kernel_rfl) ?_ hS ?_
        · (rintro W1 ⟨h1, h2, h3⟩; go_simp)
        simp only [List.setIfInBounds_toArray, List.set_cons_zero, List.set_cons_succ]
        refine takeH (i := 2) (d := 28) (v := .int .i64 ((m : Int) % (y.1.1 : Int))) rfl rfl (by kernel_rfl) (by kernel_rfl) (by kernel_rfl) (fun _ _ _ h => h) (by kernel_rfl) ?_ hS ?_
        · (rintro W1 ⟨h1, h2, h3⟩; go_simp; exact Int.tmod_eq_emod_of_nonneg (by omega))
        simp only [List.setIfInBounds_toArray, List.set_cons_zero, List.set_cons_succ]
        refine takeH (i := 3) (d := 29) (v := .bool false) rfl rfl (by kernel_rfl) (by kernel_rfl) (by kernel_rfl) (fun _ _ _ h => h) (by kernel_rfl) ?_ hS ?_
        · (rintro W1 ⟨h1, h2, h3⟩; go_simp)
        simp only [List.setIfInBounds_toArray, List.set_cons_zero, List.set_cons_succ]
        refine takeH (i := 4) (d := 30) (v := .bool false) rfl rfl (by kernel_rfl) (by kernel_rfl) (by kernel_rfl) (fun _ _ _ h => h) (by kernel_rfl) ?_ hS ?_
        · (rintro W1 ⟨h1, h2, h3⟩; go_simp)
        simp only [List.setIfInBounds_toArray, List.set_cons_zero, List.set_cons_succ]
        refine skipH (i := 5) (d := 31) rfl rfl (by kernel_rfl) (by kernel_rfl) (by kernel_rfl) (fun _ _ _ h => h) (by kernel_rfl) hS ?_
        simp only [List.setIfInBounds_toArray, List.set_cons_zero, List.set_cons_succ]
        refine skipH (i := 6) (d := 32) rfl rfl (by kernel_rfl) (by kernel_rfl) (by kernel_rfl) (fun _ _ _ h => h) (by kernel_rfl) hS ?_
        simp only [List.setIfInBounds_toArray, List.set_cons_zero, List.set_cons_succ]
        refine skipH (i := 7) (d := 33) rfl rfl (by kernel_rfl) (by kernel_rfl) (by kernel_rfl) (fun _ _ _ h => h) (by kernel_rfl) hS ?_
        simp only [List.setIfInBounds_toArray, List.set_cons_zero, List.set_cons_succ]
        refine skipH (i := 8) (d := 34) rfl rfl (by kernel_rfl) (by kernel_rfl) (by kernel_rfl) (fun _ _ _ h => h) (by kernel_rfl) hS ?_
        simp only [List.setIfInBounds_toArray, List.set_cons_zero, List.set_cons_succ]
        refine skipH (i := 9) (d := 35) rfl rfl (by kernel_rfl) (by kernel_rfl) (by kernel_rfl) (fun _ _ _ h => h) (by kernel_rfl) hS ?_
        simp only [List.setIfInBounds_toArray, List.set_cons_zero, List.set_cons_succ]
        refine skipH (i := 10) (d := 36) rfl rfl (by kernel_rfl) (by kernel_rfl) (by kernel_rfl) (fun _ _ _ h => h) (by kernel_rfl) hS ?_
        simp only [List.setIfInBounds_toArray, List.set_cons_zero, List.set_cons_succ]
        refine skipH (i := 11) (d := 37) rfl rfl (by kernel_rfl) (by kernel_rfl) (by kernel_rfl) (fun _ _ _ h => h) (by kernel_rfl) hS ?_
        simp only [List.setIfInBounds_toArray, List.set_cons_zero, List.set_cons_succ]
        refine skipH (i := 12) (d := 38) rfl rfl (by kernel_rfl) (by kernel_rfl) (by kernel_rfl) (fun _ _ _ h => h) (by kernel_rfl) hS ?_
        simp only [List.setIfInBounds_toArray, List.set_cons_zero, List.set_cons_succ]
        refine takeH (i := 13) (d := 39) (v := .bool false) rfl rfl (by kernel_rfl) (by kernel_rfl) (by kernel_rfl) (fun _ _ _ h => h) (by kernel_rfl) ?_ hS ?_
        · (rintro W1 ⟨h1, h2, h3⟩; go_simp)
        simp only [List.setIfInBounds_toArray, List.set_cons_zero, List.set_cons_succ]
        refine wpAnyH_done (by kernel_rfl) ?_ _
        clear hS
        gi_wp2
        exact ⟨HKO.out.trans (KeepsOthers.drew wr), trivial, ⟨⟨m, HM.out, HC2.out.snoc⟩, HBP.out, HBX.out⟩, HBB.out.drew⟩
end Go.Proofs.Ytbcbkeeadbfjmaa
