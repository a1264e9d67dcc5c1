/- A slice of bytes that a call appends to: what becomes of memory; strconv.AppendInt below 100; perm.appendCycle. -/
import Derived.Test.YtpchomhfpfpckaaDoorSmall
import Derived.Maps.AppendAt
import Derived.Laws.IdiomStrings
namespace Go.Proofs.YtpchomhfpfpckaaDoor
open Go Go.RowKit

/-- From w to w': only v's own row has turned, and what is new; v' lies there or in a new row. -/
def AppTo (w w' : World) (v v' : Value) : Prop := w.grownBy w' v.ownBlock ∧ (v'.ownBlock = v.ownBlock ∨ ∃ g, v'.ownBlock = some g ∧ w.heap.size ≤ g)
theorem AppTo.refl (w : World) (v : Value) : AppTo w w v v := ⟨⟨rfl, rfl, rfl, Nat.le_refl _, fun _ _ _ => rfl⟩, .inl rfl⟩
theorem AppTo.trans {a b c : World} {v u t : Value} (h : AppTo a b v u) (k : AppTo b c u t) : AppTo a c v t := by
  obtain ⟨h1, h2⟩ := h
  obtain ⟨k1, k2⟩ := k
  have hs := h1.size
  refine ⟨⟨k1.os.trans h1.os, k1.tape.trans h1.tape, k1.output.trans h1.output, Nat.le_trans h1.size k1.size, fun i hi hn => ?_⟩, ?_⟩
  · refine (k1.block i (by omega) ?_).trans (h1.block i hi hn)
    rcases h2 with h2 | ⟨g, h2, hg⟩
    · rw [h2]; exact hn
    · rw [h2]; intro e; have : i = g := by injection e
      omega
  · rcases k2 with k2 | ⟨g, k2, hg⟩
    · rw [k2]; exact h2
    · exact .inr ⟨g, k2, by omega⟩
theorem AppTo.alloc {a c : World} {v t : Value} {o : Obj} (k : AppTo (a.alloc o) c v t) : AppTo a c v t :=
  AppTo.trans (b := a.alloc o) (u := v) ⟨World.grownBy_alloc a o _, .inl rfl⟩ k
theorem AppTo.of_at {a c : World} {v t : Value} (h : a.grownBy c v.ownBlock) (k : t.ownBlock = v.ownBlock ∨ t.ownBlock = some a.heap.size) : AppTo a c v t :=
  ⟨h, k.imp id fun e => ⟨_, e, Nat.le_refl _⟩⟩
theorem AppTo.cell {a c : World} {v t : Value} (h : AppTo a c v t) {p : Addr} {x : Value} (hc : a.cell? p = some x) (hne : some p.block ≠ v.ownBlock) : c.cell? p = some x := h.1.cell hc hne

/-- Bytes as cells. -/
def bcells (l : List UInt8) : List Value := l.map fun b => Value.int .u8 (b.toNat : Int)
theorem bcells_append (l m : List UInt8) : bcells (l ++ m) = bcells l ++ bcells m := by simp [bcells]
/-- The slice v owns just the bytes l, in a block from B on. -/
def Owns (w : World) (B : Nat) (v : Value) (l : List UInt8) : Prop := w.ownsRow B 5 1 v l.length (bcells l)

theorem info5 : (Tryd.prog.info? 5).map (fun i => (i.zero, i.size, i.bytes)) = some (some (.int .u8 0), 1, 1) := by kernel_rfl

/-- 'append(b, s...)' of a string, told where the new row lies. -/
theorem run_append_str_at {P : Program} (w : World) (base : Nat) (t u ty e : TypeId) (i : TypeInfo) (ht : P.underlying t = some (.slice e)) (hu : P.underlying u = some .string) (hi : P.info? e = some i) (hz : i.zero = some (.int .u8 0))
    (hsize : i.size = 1) (hby : i.bytes = 1) (v : Value) (n : Nat) (xs : List Value) (hown : w.ownsRow base e 1 v n xs) (s : ByteArray) (hs0 : 0 < s.size)
    (hb : n + s.size ≤ 140737488355328) (hbase : base ≤ w.heap.size) :
    ∃ v' w', (Builtin.append_ #[t, u] ty #[v, .string s]).run P w = .ok v' w' ∧ w'.ownsRow base e 1 v' (n + s.size) (xs ++ Lib.strCells s) ∧ AppTo w w' v v' := by
  obtain ⟨v', w', hr, h2, h3, _⟩ := Lib.run_append_own_string (P := P) w base t u ty e i ht hu hi hz hsize hby v n xs hown s (by unfold maxLen; omega) hb hbase
  refine ⟨v', w', hr, h2, h3, ?_⟩
  have hxl : xs.length = n := by simpa using hown.1
  rcases hown.2 with ⟨rfl, rfl⟩ | ⟨g, cap, cur, rfl, hbg, hg, hnc, hcm, hcs, htake⟩
  · have hx := run_append_nil_string (P := P) w t u ty e i (.int .u8 0) ht hu hi hz s hs0 (by omega) (by rw [hby]; omega)
    rw [hx] at hr
    injection hr with e1 e2
    subst e1
    exact .inr ⟨w.heap.size, rfl, Nat.le_refl _⟩
  · by_cases hroom : n + s.size ≤ cap
    · have hcs' : cur.size = cap := by simpa using hcs
      have hx := Lib.run_append_room_string (P := P) w t u ty e i ht hu hi hsize g n cap cur hg s hroom (by omega)
      rw [hx] at hr
      injection hr with e1 e2
      subst e1
      exact .inl rfl
    · have holds : ∀ j u, xs[j]? = some u → w.cell? ((⟨g, 0, none⟩ : Addr).add j) = some u := hown.cells (g := g) rfl
      have hx := Lib.run_append_grow_string (P := P) w t u ty e i (.int .u8 0) ht hu hi hz ⟨g, 0, none⟩ n cap xs (by rw [hsize]; simpa using hxl) holds s (by omega) (by omega) (by rw [hby]; exact growslice_fits (by omega) (by omega))
      rw [hx] at hr
      injection hr with e1 e2
      subst e1
      exact .inr ⟨w.heap.size, rfl, Nat.le_refl _⟩

theorem wpList_append_str_at {P : Program} (w : World) {ops : Array Oper} {rest : List Oper} {o : Oper} {a : Act} {Q : Exit → Act → World → Prop} (hgd : o.guard = none) (sl x : Operand) (t u : TypeId)
    (ho : o.op = .call { callee := .builtin .append, args := #[sl, x], argTypes := #[t, u] })
    (base : Nat) (e : TypeId) (i : TypeInfo) (ht : P.underlying t = some (.slice e)) (hu : P.underlying u = some .string) (hi : P.info? e = some i) (hz : i.zero = some (.int .u8 0))
    (hsize : i.size = 1) (hby : i.bytes = 1)
    (v : Value) (n : Nat) (xs : List Value) (hs : a.eval sl = v) (hown : w.ownsRow base e 1 v n xs) (s : ByteArray) (hx : a.eval x = .string s) (hs0 : 0 < s.size)
    (hbytes : n + s.size ≤ 140737488355328) (hbase : base ≤ w.heap.size)
    (h : ∀ v' w', w'.ownsRow base e 1 v' (n + s.size) (xs ++ Lib.strCells s) → AppTo w w' v v' → wpList P ops Q rest (a.put o.dst v') w') : wpList P ops Q (o :: rest) a w := by
  refine wpList_plain hgd fun K hK => ?_
  obtain ⟨v', w', hr, h2, h3⟩ := run_append_str_at (P := P) w base t u o.type e i ht hu hi hz hsize hby v n xs hown s hs0 hbytes hbase
  unfold Oper.wp execOp
  simp only [ho, resolve, invoke, builtin, Sem.run_bind, Sem.run_pure, Result.andThen_ok, List.map_toArray, List.map_cons, List.map_nil, hs, hx, hr]
  exact hK _ _ (h v' w' h2 h3)

/-- What an appending function has done. -/
def Appended (w : World) (B : Nat) (v : Value) (l : List UInt8) (e : Ending) (w' : World) : Prop := ∃ v', e = .returned v' ∧ Owns w' B v' l ∧ AppTo w w' v v'

theorem dig_pos (u : Nat) : 0 < (dig u).length := by unfold dig; split <;> simp

set_option maxRecDepth 100000 in
set_option maxHeartbeats 400000 in
theorem appendUint_any (u : Nat) (hu : u < 100) (B : Nat) (v : Value) (l : List UInt8) (w : World) (hown : Owns w B v l) (hB : B ≤ w.heap.size) (hl : l.length ≤ 1000000) :
    Calls Tryd.prog 109 #[v, .int .u64 u, .int .i64 10] w (Appended w B v (l ++ dig u)) := by
  obtain ⟨i0, hi, hz0, hz1, hz2⟩ := info_parts info5
  have hd := dig_len u
  have hp := dig_pos u
  have hsz : (⟨(dig u).toArray⟩ : ByteArray).size = (dig u).length := by simp [ByteArray.size]
  go_enter Tryd.func109, Tryd.ntmps109
  go_wp2_with (first
    | (go_at_call 111; refine (small_any u hu _).mono ?_; rintro e w' ⟨rfl, rfl⟩)
    | (at_builtin; refine wpList_append_str_at _ rfl _ _ 81 9 rfl B 5 i0 Tryd.underlying81 Tryd.underlying9 hi hz0 hz1 hz2 v l.length (bcells l) rfl hown ⟨(dig u).toArray⟩ rfl (by rw [hsz]; omega) (by rw [hsz]; omega) hB ?_; intro v' w1 hown' happ))
  go_ret
  refine ⟨v', rfl, ?_, happ⟩
  rw [hsz] at hown'
  unfold Owns
  rw [bcells_append, List.length_append]
  exact hown'

set_option maxRecDepth 100000 in
set_option maxHeartbeats 400000 in
theorem appendInt_any (u : Nat) (hu : u < 100) (B : Nat) (v : Value) (l : List UInt8) (w : World) (hown : Owns w B v l) (hB : B ≤ w.heap.size) (hl : l.length ≤ 1000000) :
    Calls Tryd.prog 85 #[v, .int .i64 u, .int .i64 10] w (Appended w B v (l ++ dig u)) := by
  have HC := fun W h1 h2 => Lib.hid (appendUint_any u hu B v l W h1 h2 hl)
  have HO := Lib.hid hown
  clear hown
  have hw : IntKind.u64.wrap (u : Int) = u := by rw [IntKind.wrap_u64]; omega
  go_enter Tryd.func85, Tryd.ntmps85
  go_wp2_with (first | (go_at_call 109; refine (HC _ HO.out hB).out.mono ?_; rintro e w' ⟨v', rfl, ho, ha⟩) | go_in)
  go_ret
  exact ⟨v', rfl, ho, ha⟩
end Go.Proofs.YtpchomhfpfpckaaDoor
