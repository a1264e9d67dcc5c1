/- linear.elimination.after. -/
import Derived.Test.YtinoomcboinokaaGreatLElim
import Derived.Test.YtinoomcboinokaaGreatLinA
namespace Go.Proofs.YtinoomcboinokaaGreat
open Go Go.RowKit Go.Shelf Num Go.ChangeMaps
attribute [local go_sem] Oper.semAt_some

theorem op_append_own {P : Program} {w : World} {o : Oper} {a : Act} {K : Act → World → Prop} {Q : Exit → Act → World → Prop} (s x : Operand) (t : TypeId)
    (ho : o.op = .call { callee := .builtin .append, args := #[s, x], argTypes := #[t, t] })
    (base : Nat) (e : TypeId) (i : TypeInfo) (z : Value) (size bytes : Nat) (ht : P.underlying t = some (.slice e)) (hi : P.info? e = some i) (hz : i.zero = some z)
    (hsize : i.size = size) (hby : i.bytes = bytes) (hzs : z.cells.size = size) (hsz : 0 < size)
    (v : Value) (n : Nat) (xs : List Value) (hs : a.eval s = v) (hown : w.ownsRow base e size v n xs)
    (ad : Addr) (m c : Nat) (news : List Value) (hx : a.eval x = .slice (some ad) m c) (hl : news.length = m * size) (hnews : ∀ j u, news[j]? = some u → w.cell? (ad.add j) = some u) (h1 : ∀ u ∈ news, u.oneCell' = true)
    (h63 : n + m ≤ maxLen) (hbytes : (n + m) * bytes ≤ 140737488355328) (hbase : base ≤ w.heap.size)
    (h : ∀ v' w', w'.ownsRow base e size v' (n + m) (xs ++ news) → w.grownBy w' v.ownBlock → (v'.ownBlock = v.ownBlock ∨ v'.ownBlock = some w.heap.size) → K (a.put o.dst v') w') : o.wp P a w K Q := by
  obtain ⟨v', w', hr, h2, h3, _, h5⟩ := run_append_own_at (P := P) w base t o.type e i z size bytes ht hi hz hsize hby hzs hsz v n xs hown ad m c news hl hnews h1 h63 hbytes hbase
  unfold Oper.wp execOp
  simp only [ho, resolve, invoke, builtin, Sem.run_bind, Sem.run_pure, Result.andThen_ok, List.map_toArray, List.map_cons, List.map_nil, hs, hx, hr]
  exact h v' w' h2 h3 h5
theorem wpAnyH_mid {P : Program} {md : Region.Mode} {ops : Array Oper} {Q : Exit → Act → World → Prop} {S : World → Prop} {fuel : Nat} {listed : Array Bool} {a : Act} {w : World} (fuel' : Nat) (listed' : Array Bool) (T : Array Value) (D : List Deferred) (W2 : World) (h : wpAnyH P md ops Q S fuel' listed' { tmps := T, defers := D } W2)
    (k : wpAnyH P md ops Q S fuel' listed' { tmps := T, defers := D } W2 → wpAnyH P md ops Q S fuel listed a w) : wpAnyH P md ops Q S fuel listed a w := k h

/-- The values of the rows whose pivots are not below n, without n entries, of the first k. -/
def aftV (n L : Nat) (g c : Nat → Nat) (ls : List Nat) : List Value := (ls.filter fun j => decide (n ≤ j)).map fun j => .slice (some ⟨g j, n, none⟩) (L - n) (c j - n)
/-- Between two rows. -/
structure AfI (w : World) (eb n L : Nat) (g c : Nat → Nat) (ls : List Nat) (k : Nat) (X : World) : Prop where
  be : Below w.heap.size w X
  nb : Boxed X w.heap.size 3 (.int .i64 n)
  lb : ∃ v, Boxed X (w.heap.size + 1) 25 v ∧ X.ownsRow (w.heap.size + 1) 22 1 v (aftV n L g c (ls.take k)).length (aftV n L g c (ls.take k))
  pb : Boxed X (w.heap.size + 2) 65 (.pointer (some ⟨eb, 0, none⟩))
theorem AfI.below {w : World} {eb n L : Nat} {g c : Nat → Nat} {ls : List Nat} {k : Nat} {X Y : World} (h : AfI w eb n L g c ls k X) (hb : Below X.heap.size X Y) : AfI w eb n L g c ls k Y := by
  obtain ⟨v, h1, h2⟩ := h.lb
  refine ⟨h.be.trans (hb.mono h.be.size), (hb.block _ h.nb.lt).trans h.nb, ⟨v, (hb.block _ h1.lt).trans h1, h2.kept ⟨hb.os, hb.tape, hb.output, hb.size, fun q hq _ => hb.block q hq⟩ (row := none) ?_⟩, (hb.block _ h.pb.lt).trans h.pb⟩
  cases hv : v.ownBlock with
  | none => exact .inl rfl
  | some b => exact .inr (by simp)
theorem AfI.put {w : World} {eb n L : Nat} {g c : Nat → Nat} {ls : List Nat} {k : Nat} {X : World} (h : AfI w eb n L g c ls k X) {l : Nat} {o : Obj} (hl : X.heap[l]? = some o) (hc : o.isCells = false) (h0 : w.heap.size ≤ l) (o' : Obj) : AfI w eb n L g c ls k (X.putObj l o') := by
  have ne : ∀ q (o2 : Obj), X.heap[q]? = some o2 → o2.isCells = true → q ≠ l := fun q o2 h1 h2 e => by subst e; rw [hl] at h1; cases h1; rw [hc] at h2; cases h2
  obtain ⟨v, h1, h2⟩ := h.lb
  exact ⟨⟨h.be.os, h.be.tape, h.be.output, by simp; exact h.be.size, fun q hq => (World.putObj_heap_other (by omega)).trans (h.be.block q hq)⟩, (World.putObj_heap_other (ne _ _ h.nb rfl)).trans h.nb, ⟨v, (World.putObj_heap_other (ne _ _ h1 rfl)).trans h1, ownsRow_putObj h2 o' hl hc⟩, (World.putObj_heap_other (ne _ _ h.pb rfl)).trans h.pb⟩
/-- The rows that after gives, at the end. -/
def AfterRet (base n L : Nat) (R : Nat → Option (Nat → Int)) (ls : List Nat) (w : World) (e : Ending) (w' : World) : Prop :=
  ∃ v, e = .returned v ∧ Grid w' (fun b => base ≤ b ∧ b < w'.heap.size) v ls.length (fun _ => L - n) (fun i x => rowAt R (ls.getD i 0) (n + x)) ∧ Below w.heap.size w w'

theorem after_grid {X : World} {p : Int} {W L N n eb mb base base2 : Nat} {R : Nat → Option (Nat → Int)} {g c : Nat → Nat} {v : Value} (hn : n < L) (hE : Ech p W R) (h : EL X p W L N eb mb R g c) (hgb : ∀ i, (R i).isSome → base ≤ g i)
    (hrow : X.ownsRow base2 22 1 v (aftV n L g c (pivL W R)).length (aftV n L g c (pivL W R))) (hb2 : base ≤ base2) :
    Grid X (fun b => base ≤ b ∧ b < X.heap.size) v ((pivL W R).filter fun j => decide (n ≤ j)).length (fun _ => L - n) (fun i x => rowAt R (((pivL W R).filter fun j => decide (n ≤ j)).getD i 0) (n + x)) := by
  have hlen : (aftV n L g c (pivL W R)).length = ((pivL W R).filter fun j => decide (n ≤ j)).length := by unfold aftV; rw [List.length_map]
  rw [hlen] at hrow
  rcases hrow.2 with ⟨rfl, hz⟩ | ⟨gb, cap, cur, rfl, hbase, hgbk, r1, r2, r3, r4⟩
  · rw [hz]; exact ⟨none, 0, rfl, Nat.le_refl _, fun h => absurd h (by omega)⟩
  · refine ⟨_, cap, rfl, r1, fun _ => ⟨gb, 0, rfl, ⟨by omega, (Array.getElem?_eq_some_iff.1 hgbk).1⟩, fun i hi => ?_⟩⟩
    have hmem : ((pivL W R).filter fun j => decide (n ≤ j)).getD i 0 ∈ pivL W R := (List.mem_filter.1 (getD_mem hi)).1
    have h1 : (aftV n L g c (pivL W R))[i]? = some (.slice (some ⟨g (((pivL W R).filter fun j => decide (n ≤ j)).getD i 0), n, none⟩) (L - n) (c (((pivL W R).filter fun j => decide (n ≤ j)).getD i 0) - n)) := by
      unfold aftV
      rw [List.getElem?_map, List.getD_eq_getElem?_getD, List.getElem?_eq_getElem hi]; rfl
    rw [← r4, List.getElem?_take_of_lt (by omega)] at h1
    obtain ⟨j, hj⟩ : ∃ j, ((pivL W R).filter fun j => decide (n ≤ j)).getD i 0 = j := ⟨_, rfl⟩
    rw [hj] at hmem h1
    have hsome := (pivL_mem hE).1 hmem
    obtain ⟨r, hr⟩ := Option.isSome_iff_exists.1 hsome
    obtain ⟨hrow2, hrc, _⟩ := h.row j r hr
    refine ⟨_, by rw [Nat.zero_add]; exact Row.cell (show Row X gb 22 cur from hgbk) (by rw [← Array.getElem?_toList]; exact h1), ?_⟩
    refine (hrow2.suf hrc (Nat.le_of_lt hn) (fun b => base ≤ b ∧ b < X.heap.size) ⟨hgb j hsome, hrow2.lt⟩).congr fun x _ => ?_
    show r (n + x) = rowAt R (((pivL W R).filter fun j => decide (n ≤ j)).getD i 0) (n + x)
    rw [hj, rowAt_some hr]
theorem infoSl : (Tryz.prog.info? 22).map (fun i => (i.zero, i.size, i.bytes)) = some (some (.slice none 0 0), 1, 24) := by kernel_rfl
set_option maxRecDepth 100000 in
set_option maxHeartbeats 4000000 in
theorem after_any (p : Int) (W L N n eb mb base : Nat) (R : Nat → Option (Nat → Int)) (g c : Nat → Nat) (w : World) (hWL : W ≤ L) (hL : L ≤ 1000) (hn : n < L) (hN : N ≤ 1000000) (hE : Ech p W R)
    (h : EL w p W L N eb mb R g c) (hbase : base ≤ w.heap.size) (hgb : ∀ i, (R i).isSome → base ≤ g i) :
    Calls Tryz.prog 39 #[.pointer (some ⟨eb, 0, none⟩), .int .i64 n] w (AfterRet base n L R ((pivL W R).filter fun j => decide (n ≤ j)) w) := by
  refine (callsIn_wide (n := 9)).1 ?_
  refine callsIn_of_wp_marks Tryz.func39 rfl trivial ?_ rfl
  simp only [Tryz.ntmps39, List.size_toArray, List.length_cons, List.length_nil, Nat.reduceAdd, Nat.reduceSub, Array.replicate_succ, Array.replicate_zero, List.push_toArray, List.append_toArray, List.nil_append, List.cons_append]
  have H := Lib.hid h
  have HGB := Lib.hid hgb
  clear h hgb
  gi_wp2
  refine ⟨trivial, (pivots_in Fence.wide 8 trivial rfl _ _).mono ?_⟩
  rintro e w5 ⟨rfl, rfl⟩
  gi_wp2
  obtain ⟨w0, hw0⟩ : ∃ w0, (((w.alloc (.cells #[.int .i64 n] 3)).alloc (.cells #[.slice none 0 0] 25)).alloc (.cells #[.pointer (some ⟨eb, 0, none⟩)] 65)) = w0 := ⟨_, rfl⟩
  have hz0 : w0.heap.size = w.heap.size + 3 := by rw [← hw0]; simp
  have HI0 : Hid (AfI w eb n L g c (pivL W R) 0 w0) := Lib.hid (by
    rw [← hw0]
    refine ⟨(((Below.refl _ w).alloc (Nat.le_refl _) _).alloc (by simp) _).alloc (by simp; omega) _, ((Boxed.new w _ _).alloc _).alloc _, ⟨.slice none 0 0, ?_, by rw [List.take_zero]; exact World.ownsRow_nil _ _ _ _⟩, ?_⟩
    · exact (row_new' (W := w.alloc (.cells #[.int .i64 n] 3)) (by simp) 25 #[.slice none 0 0]).alloc _
    · exact row_new' (by simp) _ _)
  rw [hw0]
  clear hw0
  refine wpIn_rangeJ rfl (by omega) (gf := 88) (lb := #[.pointer (some ⟨w.heap.size + 1 + 1, 0, none⟩)]) rfl trivial (enters_of Tryz.func88 (by kernel_rfl) rfl)
    (pivL W R).length (AfI w eb n L g c (pivL W R)) (fun k x X => x = #[.int .i64 ((pivL W R).getD k 0 : Nat), rowVal L g c ((pivL W R).getD k 0)] ∧ AfI w eb n L g c (pivL W R) k X) (KeepA (w0.heap.size + 2))
    (fun k X o o' h ho hc _ => h.put ho hc (by omega) o') (fun k x X o o' h ho hc _ => ⟨h.1, h.2.put ho hc (by omega) o'⟩) (fun _ _ _ h k => h.trans k)
    (fun X o o' ho _ _ => ⟨by simp, fun q o2 hq h2 => (World.putObj_heap_other (by omega)).trans h2⟩) (fun k x X h => by rw [h.1]; rfl)
    (fun o1 o2 => HI0.out.below (((Below.refl _ _).alloc (Nat.le_refl _) _).alloc (by simp) _)) ?iter
    (fun x => { tmps := #[.pointer (some ⟨eb, 0, none⟩), .int .i64 n, undef, .pointer (some ⟨w.heap.size, 0, none⟩), .slice none 0 0, .pointer (some ⟨w.heap.size + 1, 0, none⟩), x.getD 0 undef, x.getD 1 undef, .pointer (some ⟨eb, 0, none⟩), .func (.func 88) #[] #[.pointer (some ⟨w.heap.size + 1 + 1, 0, none⟩)], x.getD 0 undef, x.getD 1 undef,
      undef, undef, undef, undef, undef, undef, undef, undef, undef, undef], defers := [] }) ?assign ?body ?done
  case assign =>
    rintro l k x X K ⟨rfl, _⟩ hK
    gi_wp2
    exact hK
  case iter =>
    intro Lo W1 hLc hLw hb1 hz1 hl1 hd1 hi1 hy
    have hEL := H.out
    refine (pivots1_in 8 (by omega) (w0.heap.size + 1) (w.heap.size + 1 + 1) eb mb N W p (pivL W R) (pivL_less W R) (fun i hi => ?_) ?_ hN (rowVal L g c) (fun k X => AfI w eb n L g c (pivL W R) k X ∧ X.heap[w0.heap.size + 1]? = some Lo ∧ X.heap[w0.heap.size]? = some (.deferred (some []))) W1
      (fun k X h => ⟨h.1.pb.cell, hEL.mp.below h.1.be⟩) ⟨hi1, hl1, hd1⟩ (fun X hb => ⟨hi1.below hb, (hb.block _ (by omega)).trans hl1, (hb.block _ (by omega)).trans hd1⟩) ?_).mono ?_
    · have := (pivL_mem hE).1 hi
      obtain ⟨r, hr⟩ := Option.isSome_iff_exists.1 this
      have := hE.below i r hr
      omega
    · have : (pivL W R).length ≤ (List.range W).length := List.length_filter_le _ _
      rw [List.length_range] at this
      omega
    · rintro k X hk ⟨hi, hl, hd⟩
      have hg : (pivL W R).getD k 0 = (pivL W R)[k] := by simp [List.getD_eq_getElem?_getD, hk]
      rw [← hg]
      exact (hy k _ X hk ⟨rfl, hi⟩ hl hd).mono fun e X3 h => ⟨h.1, ⟨h.2.1, h.2.2.2.1, h.2.2.2.2⟩, by rw [hz1]; exact h.2.2.1⟩
    · rintro e X2 ⟨hv, h⟩
      exact ⟨hv, h⟩
  case body =>
    rintro l k x X Lo hk ⟨rfl, hi⟩ hl hLc hLw hd
    have hmem := getD_mem hk
    have hsome := (pivL_mem hE).1 hmem
    obtain ⟨r, hr⟩ := Option.isSome_iff_exists.1 hsome
    obtain ⟨-, hrc, -⟩ := H.out.row _ _ hr
    have htk : (pivL W R).take (k + 1) = (pivL W R).take k ++ [(pivL W R).getD k 0] := by
      rw [List.take_add_one, List.getD_eq_getElem?_getD, List.getElem?_eq_getElem hk]; rfl
    have hval : aftV n L g c ((pivL W R).take (k + 1)) = aftV n L g c ((pivL W R).take k) ++ (if n ≤ (pivL W R).getD k 0 then [.slice (some ⟨g ((pivL W R).getD k 0), n, none⟩) (L - n) (c ((pivL W R).getD k 0) - n)] else []) := by
      rw [htk]
      unfold aftV
      rw [List.filter_append, List.map_append]
      by_cases e : n ≤ (pivL W R).getD k 0
      · rw [if_pos e]; simp only [List.filter_cons, decide_eq_true e, if_true, List.filter_nil, List.map_cons, List.map_nil]
      · rw [if_neg e]; simp only [List.filter_cons, decide_eq_false e, List.filter_nil]; rfl
    have hlen : (aftV n L g c ((pivL W R).take k)).length ≤ 1000 := by
      unfold aftV
      rw [List.length_map]
      have h1 := List.length_filter_le (fun j => decide (n ≤ j)) ((pivL W R).take k)
      have h2 : (pivL W R).length ≤ (List.range W).length := List.length_filter_le _ _
      rw [List.length_range] at h2
      rw [List.length_take] at h1
      omega
    obtain ⟨v, hv, hrow⟩ := hi.lb
    have HVAL := Lib.hid hval
    have hlX := (Array.getElem?_eq_some_iff.1 hl).1
    have HI := Lib.hid hi
    have HD := Lib.hid hd
    have HLo := Lib.hid hl
    have hnb := hi.nb.cell
    clear hi hd hl hmem hsome hr htk hval
    simp only [show ∀ a b : Value, (#[a, b] : Array Value).getD 0 undef = a from fun _ _ => rfl, show ∀ a b : Value, (#[a, b] : Array Value).getD 1 undef = b from fun _ _ => rfl]
    unfold rowVal
    generalize (pivL W R).getD k 0 = j at hrc HVAL ⊢
    by_cases hjn : n ≤ j
    · rw [if_pos hjn] at HVAL
      have hdec : decide ((j : Int) ≥ (n : Int)) = true := decide_eq_true (by omega)
      obtain ⟨A', hcut, hA'⟩ := run_cutL (some ⟨g j, 0, none⟩) L (c j) n (by omega) hrc
      have hA2 : A' = some ⟨g j, n, none⟩ := by rw [hA' hn, addr_map _ _ (g j) 0 rfl, Nat.zero_add]
      subst hA2
      have HV := Lib.hid hv
      have HRW := Lib.hid hrow
      have hlb := hv.cell
      have hmix : Tryz.prog.follows .mixedOrders = true := by kernel_rfl
      clear hA' hv hrow
      gi_wp2
      refine region_round_held (S := fun W1 => W1.cell? ⟨w.heap.size, 0, none⟩ = some (.int .i64 n)) l (by kernel_rfl) hmix (by rintro ⟨_, _, h⟩; exact h) ?_
      have hiY : AfI w eb n L g c (pivL W R) k X.drew := HI.out.below ⟨rfl, rfl, rfl, Nat.le_refl _, fun _ _ => rfl⟩
      have hnY : Boxed X.drew w.heap.size 3 (.int .i64 n) := hiY.nb
      have hvY : Boxed X.drew (w.heap.size + 1) 25 v := HV.out
      have hpY := hiY.pb
      have hrY : X.drew.ownsRow (w.heap.size + 1) 22 1 v (aftV n L g c ((pivL W R).take k)).length (aftV n L g c ((pivL W R).take k)) := HRW.out.kept (w' := X.drew) ⟨rfl, rfl, rfl, Nat.le_refl _, fun _ _ _ => rfl⟩ (row := none) (by
        cases hv : v.ownBlock with
        | none => exact .inl rfl
        | some b => exact .inr (by simp))
      have hXY : KeepA (w0.heap.size + 2) X X.drew := ⟨Nat.le_refl _, fun _ _ _ h => h⟩
      have hXl : X.drew.heap[w0.heap.size + 1]? = X.heap[w0.heap.size + 1]? := rfl
      have hXd : X.drew.heap[w0.heap.size]? = X.heap[w0.heap.size]? := rfl
      have hbY := hiY.be
      clear hiY HI HV HRW hlb hnb
      generalize X.drew = Y at hnY hvY hpY hrY hXY hXl hXd hbY ⊢
      have hHeld : Y.cell? ⟨w.heap.size, 0, none⟩ = some (.int .i64 n) := hnY.cell
      refine takeH (i := 1) (v := (.slice (some ⟨g j, 0, none⟩) L (c j))) rfl rfl (by kernel_rfl) (by kernel_rfl) (by kernel_rfl) (fun _ _ _ h => h) (by rfl) (fun W hW => by (skip); go_simp) (by assumption) ?_
      simp only [List.setIfInBounds_toArray, List.set_cons_zero, List.set_cons_succ]
      refine takeH (i := 2) (v := (.int .i64 n)) rfl rfl (by kernel_rfl) (by kernel_rfl) (by kernel_rfl) (fun _ _ _ h => h) (by rfl) (fun W hW => by (skip); go_simp) (by assumption) ?_
      simp only [List.setIfInBounds_toArray, List.set_cons_zero, List.set_cons_succ]
      refine takeH (i := 3) (v := (.slice (some ⟨g j, n, none⟩) (L - n) (c j - n))) rfl rfl (by kernel_rfl) (by kernel_rfl) (by kernel_rfl) (fun _ _ _ h => h) (by rfl) (fun W hW => by (skip); go_simp) (by assumption) ?_
      simp only [List.setIfInBounds_toArray, List.set_cons_zero, List.set_cons_succ]
      have hlbd := hvY.cell
      have hlbf := hvY.frozen
      have hnba := (hnY.alloc (.cells #[.slice (some ⟨g j, n, none⟩) (L - n) (c j - n)] 22)).cell
      have hlba := (hvY.alloc (.cells #[.slice (some ⟨g j, n, none⟩) (L - n) (c j - n)] 22)).cell
      refine wpAnyH_mid 2 #[true, true, true, true, true, false, false] #[.pointer (some ⟨eb, 0, none⟩), .int .i64 n, undef, .pointer (some ⟨w.heap.size, 0, none⟩), .slice none 0 0, .pointer (some ⟨w.heap.size + 1, 0, none⟩), .int .i64 j, .slice (some ⟨g j, 0, none⟩) L (c j), .pointer (some ⟨eb, 0, none⟩), .func (.func 88) #[] #[.pointer (some ⟨w.heap.size + 1 + 1, 0, none⟩)], .int .i64 j, .slice (some ⟨g j, 0, none⟩) L (c j),
        .int .i64 j, .int .i64 n, .bool true, v, .slice (some ⟨g j, 0, none⟩) L (c j), .int .i64 n, .slice (some ⟨g j, n, none⟩) (L - n) (c j - n), .slice (some ⟨Y.heap.size, 0, none⟩) 1 1, undef, undef] [] (Y.alloc (.cells #[.slice (some ⟨g j, n, none⟩) (L - n) (c j - n)] 22)) ?tail ?walk
      case walk =>
        intro htail
        refine wpAnyH_ready (rs := [0, 4]) (by kernel_rfl) (by simp) ?_
        refine (AllReadyH.cons rfl (fun K hK => ?_) (AllReadyH.cons rfl (fun K hK => ?_) AllReadyH.nil))
        · go_simp
          refine hK.out _ _ hHeld (fun hHeld => ?_)
          clear hK K
          try simp only [Act.put, List.setIfInBounds_toArray, List.set_cons_zero, List.set_cons_succ]
          refine wpAnyH_ready (rs := [4]) (by kernel_rfl) (by simp) ?_
          refine (AllReadyH.cons rfl (fun K hK => ?_) AllReadyH.nil)
          go_simp
          refine hK.out _ _ hnba (fun hHeld => ?_)
          clear hK K
          try simp only [Act.put, List.setIfInBounds_toArray, List.set_cons_zero, List.set_cons_succ]
          exact htail
        · go_simp
          refine hK.out _ _ hnba (fun hHeld => ?_)
          clear hK K
          try simp only [Act.put, List.setIfInBounds_toArray, List.set_cons_zero, List.set_cons_succ]
          refine wpAnyH_ready (rs := [0]) (by kernel_rfl) (by simp) ?_
          refine (AllReadyH.cons rfl (fun K hK => ?_) AllReadyH.nil)
          go_simp
          refine hK.out _ _ hnba (fun hHeld => ?_)
          clear hK K
          try simp only [Act.put, List.setIfInBounds_toArray, List.set_cons_zero, List.set_cons_succ]
          exact htail
      case tail =>
        obtain ⟨j0, hj0, hy0, hy1, hy2⟩ := info_parts infoSl
        refine wpAnyH_ready (rs := [5]) (by kernel_rfl) (by simp) ?_
        refine (AllReadyH.cons rfl (fun K hK => ?_) AllReadyH.nil)
        refine op_append_own (.tmp 15) (.tmp 19) 25 rfl (w.heap.size + 1) 22 j0 (.slice none 0 0) 1 24 Tryz.underlying25 hj0 hy0 hy1 hy2 rfl (by decide) _ _ _ rfl (hrY.alloc _) ⟨Y.heap.size, 0, none⟩ 1 1 [.slice (some ⟨g j, n, none⟩) (L - n) (c j - n)] rfl rfl (cell_one_new _ _ _) (by simp [Value.oneCell']) (by unfold maxLen; omega) (by omega) (by have := hvY.lt; simp; omega) ?_
        intro v' w1 hown' hgrow _
        obtain ⟨g', cap', rfl⟩ := ownsRow_succ hown'
        obtain ⟨hv1, hv2, hr2, hk2, hb2⟩ := hvY.appended (by decide) hrY (by have := hvY.lt; omega) (Nat.le_refl _) hown' hgrow
        have hn1 : Boxed w1 w.heap.size 3 (.int .i64 n) := (hnY.alloc _).kept hgrow (hnY.not_row (by decide) hrY)
        have hp1 : Boxed w1 (w.heap.size + 2) 65 (.pointer (some ⟨eb, 0, none⟩)) := (hpY.alloc _).kept hgrow (hpY.not_row (by decide) hrY)
        have hc1 := hv1.cell
        have hf1 := hv1.frozen
        have ht2 : ∀ u, Turn (· = w.heap.size + 1) w1 (w1.setCell ⟨w.heap.size + 1, 0, none⟩ u) := fun u => (Turn.refl (· = w.heap.size + 1) w1).setCell ⟨w.heap.size + 1, 0, none⟩ rfl u
        have HN2 := Lib.hid (fun u => boxTurn hn1 (ht2 u) (fun (e : w.heap.size = w.heap.size + 1) => by omega))
        have HP2 := Lib.hid (fun u => boxTurn hp1 (ht2 u) (fun (e : w.heap.size + 2 = w.heap.size + 1) => by omega))
        have HKR := Lib.hid (fun u q cs (hq : w.heap.size + 1 < q) (hr : Row Y q 3 cs) => show Row (w1.setCell ⟨w.heap.size + 1, 0, none⟩ u) q 3 cs from by
          refine Row.turn (S := (· = w.heap.size + 1)) ?_ (ht2 u) (fun (e : q = w.heap.size + 1) => by omega)
          refine (hgrow.block q (by have := hr.lt; simp; omega) ?_).trans ((Below.heap_alloc _ _ _ hr.lt).trans hr)
          intro e
          rcases hrY.2 with ⟨rfl, _⟩ | ⟨g3, cap3, cur3, rfl, _, hgb, _⟩
          · cases e
          · injection e with e
            have e' : q = g3 := e
            rw [← e', show Y.heap[q]? = _ from hr] at hgb
            cases hgb)
        have HV2 := Lib.hid hv2
        have HR2 := Lib.hid hr2
        have HK2 := Lib.hid hk2
        have HB2 := Lib.hid hb2
        have hnc := hn1.cell
        clear hv1 hv2 hr2 hk2 hb2 hown' hgrow hp1 ht2
        refine hK.out _ _ hnc (fun hHeld => ?_)
        clear hK K
        try simp only [Act.put, List.setIfInBounds_toArray, List.set_cons_zero, List.set_cons_succ]
        refine wpAnyH_ready (rs := [6]) (by kernel_rfl) (by simp) ?_
        refine (AllReadyH.cons rfl (fun K hK => ?_) AllReadyH.nil)
        go_simp
        refine hK.out _ _ ((HN2.out _).cell) (fun hHeld => ?_)
        clear hK K
        simp only [List.setIfInBounds_toArray, List.set_cons_zero, List.set_cons_succ]
        refine wpAnyH_done (by kernel_rfl) ?_ _
        have hk2 := HK2.out
        have hb2 := HB2.out
        refine ⟨⟨hbY.trans (hb2.mono (Nat.le_succ _)), HN2.out _, ⟨_, HV2.out, ?_⟩, HP2.out _⟩, hXY.trans ⟨hk2.size, fun q cs hq ho => HKR.out _ q cs (by omega) ho⟩, ?_, ?_⟩
        · rw [HVAL.out, List.length_append]; exact HR2.out
        · exact (hk2.same _ _ (hXl.trans HLo.out) hLc).trans HLo.out.symm
        · exact (hk2.same _ _ (hXd.trans HD.out) rfl).trans HD.out.symm
    · rw [if_neg hjn, List.append_nil] at HVAL
      have hdec : decide ((j : Int) ≥ (n : Int)) = false := decide_eq_false (by omega)
      have HV := Lib.hid hv
      have HRW := Lib.hid hrow
      clear hv hrow
      gi_wp2
      refine ⟨⟨HI.out.be, HI.out.nb, ⟨v, HV.out, ?_⟩, HI.out.pb⟩, KeepA.refl _ _, rfl, rfl⟩
      rw [HVAL.out]; exact HRW.out
  case done =>
    rintro X hi hK
    obtain ⟨v, hv, hrow⟩ := hi.lb
    have hlb := hv.cell
    rw [hz0] at hK
    have HK := Lib.hid hK
    have HI := Lib.hid (hi.put hK rfl (by omega) (.deferred none))
    have HRW := Lib.hid (ownsRow_putObj hrow (.deferred none) hK rfl)
    clear hK hi hv hrow
    gi_wp2
    have hK := HK.out
    rw [← hz0] at hK
    refine ⟨by simp, .inl ⟨_, _, rfl, run_takeDeferred hK, ?_⟩⟩
    refine ⟨_, results_tmp rfl _ _ _, ?_⟩
    have hR := HRW.out
    rw [List.take_length] at hR
    rw [hz0]
    exact ⟨v, rfl, after_grid hn hE (H.out.below HI.out.be) HGB.out hR (by omega), HI.out.be⟩
end Go.Proofs.YtinoomcboinokaaGreat
