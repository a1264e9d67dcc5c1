/- Words for this package's walks: lists that a call gives, letters in range, word.cancel, cayleykit.Same, cayleykit.Pick. -/
import Derived.Test.YtlpepholcehojaaDoorBase
import Derived.Test.YtlpepholcehojaaDoorWMath
import Derived.Maps.AppendAt
import Derived.BigRegion
import Derived.BigQuiet
import Derived.Deep.QuietTactic
import Derived.Deep.AppendSrc
import Derived.OwnWalk
namespace Go.Proofs.YtlpepholcehojaaDoor
open Go Go.RowKit

def icells (l : List Int) : List Value := l.map fun x => Value.int .i64 x
/-- The slice v owns just the integers l, in a block from B on. -/
def OwnsI (w : World) (B : Nat) (v : Value) (l : List Int) : Prop := w.ownsRow B 3 1 v l.length (icells l)
theorem icells_append (l m : List Int) : icells (l ++ m) = icells l ++ icells m := by simp [icells]
theorem icells_get {l : List Int} {j : Nat} (hj : j < l.length) : (icells l)[j]? = some (.int .i64 (l.getD j 0)) := by
  simp [icells, List.getD_eq_getElem?_getD, hj]
theorem info3' : (Tryd.prog.info? 3).map (fun i => (i.zero, i.size, i.bytes)) = some (some (.int .i64 0), 1, 8) := by kernel_rfl

/-- Letters that an int holds. -/
def Rng (l : List Int) : Prop := ∀ x ∈ l, -9223372036854775808 ≤ x ∧ x ≤ 9223372036854775807
theorem Rng.append {u v : List Int} (h : Rng u) (k : Rng v) : Rng (u ++ v) := fun x hx => by
  rcases List.mem_append.1 hx with hx | hx
  · exact h x hx
  · exact k x hx
theorem Rng.at {l : List Int} (h : Rng l) {j : Nat} (hj : j < l.length) : -9223372036854775808 ≤ l.getD j 0 ∧ l.getD j 0 ≤ 9223372036854775807 := by
  have : l.getD j 0 = l[j] := by simp [List.getD_eq_getElem?_getD, hj]
  rw [this]; exact h _ (List.getElem_mem hj)
theorem Lets.rng {l : List Int} (h : Lets l) : Rng l := fun x hx => by have := h x hx; omega
theorem wrap_nlet {y : Int} (h : -9223372036854775808 ≤ y ∧ y ≤ 9223372036854775807) : IntKind.i64.wrap (-y) = nlet y := by
  unfold nlet
  split
  · rename_i e; subst e; rfl
  · rw [IntKind.wrap_i64]; omega

/-- A call has given a list. -/
def Gives (w : World) (l : List Int) (e : Ending) (w' : World) : Prop := ∃ r, e = .returned r ∧ Ints w' w'.heap.size r l ∧ Below w.heap.size w w'
theorem OwnsI.ints {w : World} {B : Nat} {v : Value} {l : List Int} (h : OwnsI w B v l) : Ints w w.heap.size v l := by
  rcases h.2 with ⟨rfl, h0⟩ | ⟨g, cap, cur, rfl, hb, hg, hnc, hcm, hcs, htake⟩
  · have : l.length = 0 := by omega
    have e : l = [] := List.length_eq_zero_iff.1 this
    subst e
    exact ⟨none, 0, rfl, fun h => absurd h (by simp)⟩
  · refine ⟨_, cap, rfl, fun h0 => ⟨g, 0, rfl, (Array.getElem?_eq_some_iff.1 hg).1, fun j hj => ?_⟩⟩
    rw [Nat.zero_add]
    have := World.ownsRow.cells h (g := g) rfl j _ (icells_get hj)
    rwa [Addr.add_lit, Nat.zero_add] at this
theorem ext_getD {zs ys : List Int} (hl : zs.length = ys.length) (h : ∀ j, j < zs.length → zs.getD j 0 = ys.getD j 0) : zs = ys := by
  apply List.ext_getElem hl
  intro j h1 h2
  have := h j h1
  simpa [List.getD_eq_getElem?_getD, h1, h2] using this

/-- 'append(v, x...)', v a slice of the call's own, x any list of ints. -/
theorem append_types {P : Program} {t tx ty e e' : TypeId} (ht : P.underlying t = some (.slice e)) (htx : P.underlying tx = some (.slice e')) (B : Option Addr) (n k : Nat) (A : Option Addr) (m c : Nat) (w : World) :
    (Builtin.append_ #[t, tx] ty #[.slice B n k, .slice A m c]).run P w = (Builtin.append_ #[t, t] ty #[.slice B n k, .slice A m c]).run P w := by
  simp [Builtin.append_, run_underlying ht, run_underlying htx]
theorem append_empty {P : Program} (w : World) (base : Nat) (t ty e : TypeId) (i : TypeInfo) (ht : P.underlying t = some (.slice e)) (hi : P.info? e = some i) (v : Value) (n : Nat) (xs : List Value) (hown : w.ownsRow base e 1 v n xs) (A : Option Addr) (c : Nat) :
    (Builtin.append_ #[t, t] ty #[v, .slice A 0 c]).run P w = .ok v w := by
  have hs : Src P i.size t (.slice A 0 c) 0 [] w := by
    cases A with
    | none => exact Src.ofNil w ht c
    | some a => exact Src.ofSlice w ht a 0 c [] (by simp) (fun j u h => by simp at h) (fun u h => by cases h)
  rcases hown.2 with ⟨rfl, rfl⟩ | ⟨g, cap, cur, rfl, hbg, hg, hnc, hcm, hcs, htake⟩
  · simp [Builtin.append_, run_underlying ht, sizeOf, typeInfo, hi, hs.len, hs.cells]
  · have := run_append_room_src (P := P) w t t ty e i ht hi g 0 n cap (.slice A 0 c) 0 [] hs (by omega) (fun j hj => absurd hj (by simp)) (fun j hj => absurd hj (by simp))
    rw [this]
    rfl
theorem run_append_ints {P : Program} (w : World) (base : Nat) (t tx ty : TypeId) (e' : TypeId) (i : TypeInfo) (ht : P.underlying t = some (.slice 3)) (htx : P.underlying tx = some (.slice e')) (hi : P.info? 3 = some i) (hz : i.zero = some (.int .i64 0)) (hsize : i.size = 1) (hby : i.bytes = 8)
    (v x : Value) (l ys : List Int) (D : Nat) (hown : OwnsI w base v l) (hx : Ints w D x ys) (hlim : l.length + ys.length ≤ 17592186044400) (hbase : base ≤ w.heap.size) :
    ∃ v' w', (Builtin.append_ #[t, tx] ty #[v, x]).run P w = .ok v' w' ∧ OwnsI w' base v' (l ++ ys) ∧ w.grownBy w' v.ownBlock ∧ (v'.ownBlock = v.ownBlock ∨ v'.ownBlock = some w.heap.size) := by
  obtain ⟨A, c, rfl, hc⟩ := hx
  have hv : ∃ B n k, v = .slice B n k := by
    rcases hown.2 with ⟨rfl, _⟩ | ⟨g, cap, cur, rfl, _⟩
    · exact ⟨_, _, _, rfl⟩
    · exact ⟨_, _, _, rfl⟩
  rw [show (Builtin.append_ #[t, tx] ty #[v, .slice A ys.length c]).run P w = (Builtin.append_ #[t, t] ty #[v, .slice A ys.length c]).run P w by
    obtain ⟨B, n, k, rfl⟩ := hv
    exact append_types ht htx B n k A ys.length c w]
  by_cases h0 : ys.length = 0
  · have e : ys = [] := List.length_eq_zero_iff.1 h0
    subst e
    refine ⟨v, w, append_empty w base t ty 3 i ht hi v _ _ hown A c, by simpa using hown, ⟨rfl, rfl, rfl, Nat.le_refl _, fun _ _ _ => rfl⟩, .inl rfl⟩
  · obtain ⟨b, o, rfl, hb, hcell⟩ := hc (by omega)
    obtain ⟨v', w', hr, h2, h3, -, h5⟩ := run_append_own_at (P := P) w base t ty 3 i (.int .i64 0) 1 8 ht hi hz hsize hby rfl (by decide) v l.length (icells l) hown ⟨b, o, none⟩ ys.length c (icells ys) (by simp [icells])
      (fun j u hj => by
        have hj' : j < ys.length := by have := (List.getElem?_eq_some_iff.1 hj).1; simpa [icells] using this
        rw [icells_get hj'] at hj
        injection hj with hj
        subst hj
        rw [Addr.add_lit]
        exact hcell j hj')
      (by simp [icells, Value.oneCell']) (by unfold maxLen; omega) (by omega) hbase
    refine ⟨v', w', hr, ?_, h3, h5⟩
    unfold OwnsI
    rw [icells_append, List.length_append]
    exact h2
theorem wpList_append_ints {P : Program} (w : World) {ops : Array Oper} {rest : List Oper} {o : Oper} {a : Act} {Q : Exit → Act → World → Prop} (hgd : o.guard = none) (sl xo : Operand) (t tx : TypeId)
    (ho : o.op = .call { callee := .builtin .append, args := #[sl, xo], argTypes := #[t, tx] })
    (base : Nat) (e' : TypeId) (i : TypeInfo) (ht : P.underlying t = some (.slice 3)) (htx : P.underlying tx = some (.slice e')) (hi : P.info? 3 = some i) (hz : i.zero = some (.int .i64 0)) (hsize : i.size = 1) (hby : i.bytes = 8)
    (v x : Value) (l ys : List Int) (D : Nat) (hs : a.eval sl = v) (hown : OwnsI w base v l) (hxe : a.eval xo = x) (hx : Ints w D x ys) (hlim : l.length + ys.length ≤ 17592186044400) (hbase : base ≤ w.heap.size)
    (h : ∀ v' w', OwnsI w' base v' (l ++ ys) → w.grownBy w' v.ownBlock → (v'.ownBlock = v.ownBlock ∨ v'.ownBlock = some w.heap.size) → wpList P ops Q rest (a.put o.dst v') w') : wpList P ops Q (o :: rest) a w := by
  refine wpList_plain hgd fun K hK => ?_
  obtain ⟨v', w', hr, h2, h3, h4⟩ := run_append_ints (P := P) w base t tx o.type e' i ht htx hi hz hsize hby v x l ys D hown hx hlim hbase
  unfold Oper.wp execOp
  simp only [ho, resolve, invoke, builtin, Sem.run_bind, Sem.run_pure, Result.andThen_ok, List.map_toArray, List.map_cons, List.map_nil, hs, hxe, hr]
  exact hK _ _ (h v' w' h2 h3 h4)

/-- 'make(Word, 0, n)'. -/
def zeroCells (n : Nat) : Array Value := madeCells (Value.int .i64 0).cells (n * 1)
theorem make_cap (n : Nat) (hn : n ≤ 17592186044400) (W : World) : (Instr.makeSlice 24 (.int .i64 0) (.int .i64 (n : Int))).run Tryd.prog W = .ok (.slice (some ⟨W.heap.size, 0, none⟩) 0 n) (W.alloc (.cells (zeroCells n) 3)) := by
  obtain ⟨i0, hi, hz0, hz1, hz2⟩ := info_parts info3'
  have h := run_make (P := Tryd.prog) W 24 3 i0 (.int .i64 0) (by kernel_rfl) hi hz0 .i64 .i64 0 (n : Int) (by omega) (by omega) (by rw [hz2]; omega) (by omega)
  rw [h, hz1, Int.toNat_natCast]
  rfl
theorem made_owns (w : World) (n B : Nat) (hB : B ≤ w.heap.size) (hn : n ≤ 17592186044400) : OwnsI (w.alloc (.cells (zeroCells n) 3)) B (.slice (some ⟨w.heap.size, 0, none⟩) 0 n) [] :=
  World.ownsRow_made w _ n hB (by unfold maxLen; omega) (by unfold zeroCells; rw [size_madeCells])

theorem ints_one (w : World) (x : Int) : Ints (w.alloc (.cells #[.int .i64 x] 3)) (w.heap.size + 1) (.slice (some ⟨w.heap.size, 0, none⟩) 1 1) [x] :=
  ⟨_, 1, rfl, fun _ => ⟨w.heap.size, 0, rfl, by omega, fun j hj => by
    have : j = 0 := by simp at hj; omega
    subst this
    exact (Row.new w 3 #[.int .i64 x]).cell (i := 0) rfl⟩⟩
theorem OwnsI.alloc {w : World} {B : Nat} {v : Value} {l : List Int} (h : OwnsI w B v l) (o : Obj) : OwnsI (w.alloc o) B v l := World.ownsRow.alloc h o
theorem below_append {B : Nat} {w wr w1 : World} {v : Value} {l : List Int} {o : Obj} (h : Below B w wr) (hB : B ≤ wr.heap.size) (hO : OwnsI wr B v l) (hg : (wr.alloc o).grownBy w1 v.ownBlock) : Below B w w1 :=
  (h.alloc hB o).grown hg (by simp; omega) (fun q hq => (hO.lt q hq).1)

set_option maxRecDepth 100000 in
theorem cancel_any (x y : Int) (w : World) (hx : -9223372036854775808 ≤ x ∧ x ≤ 9223372036854775807) (hy : -9223372036854775808 ≤ y ∧ y ≤ 9223372036854775807) :
    Calls Tryd.prog 31 #[.int .i64 x, .int .i64 y] w fun e w' => e = .returned (.bool (canc x y)) ∧ w' = w := by
  have hw := wrap_nlet hy
  by_cases h : x = nlet y
  · have h1 : (x == nlet y) = true := by simpa using h
    by_cases h0 : x = 0
    · have h2 : (x != 0) = false := by simpa using h0
      have hr : canc x y = false := by
        cases hc : canc x y with
        | false => rfl
        | true => have := canc_iff.1 hc; omega
      rw [hr]
      clear h h0 hx hy hr
      go_enter Tryd.func31, Tryd.ntmps31
      go_wp2
      go_ret
      exact ⟨rfl, rfl⟩
    · have h2 : (x != 0) = true := by simpa using h0
      by_cases hm : x = -9223372036854775808
      · have h3 : (x != -9223372036854775808) = false := by simpa using hm
        have hr : canc x y = false := by
          cases hc : canc x y with
          | false => rfl
          | true => have := canc_iff.1 hc; omega
        rw [hr]
        clear h h0 hx hy hr hm
        go_enter Tryd.func31, Tryd.ntmps31
        go_wp2
        go_ret
        exact ⟨rfl, rfl⟩
      · have h3 : (x != -9223372036854775808) = true := by simpa using hm
        have hr : canc x y = true := by
          rw [canc_iff]
          unfold nlet at h
          split at h <;> omega
        rw [hr]
        clear h h0 hx hy hr hm
        go_enter Tryd.func31, Tryd.ntmps31
        go_wp2
        go_ret
        exact ⟨rfl, rfl⟩
  · have h1 : (x == nlet y) = false := by simpa using h
    have hr : canc x y = false := by
      cases hc : canc x y with
      | false => rfl
      | true =>
        have := canc_iff.1 hc
        unfold nlet at h
        split at h <;> omega
    rw [hr]
    clear h hx hy hr
    go_enter Tryd.func31, Tryd.ntmps31
    go_wp2
    go_ret
    exact ⟨rfl, rfl⟩
end Go.Proofs.YtlpepholcehojaaDoor
