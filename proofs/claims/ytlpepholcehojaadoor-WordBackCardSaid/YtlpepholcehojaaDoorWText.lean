/- word.runs and word.Text, of a valid word. -/
import Derived.Test.YtlpepholcehojaaDoorWRun
import Derived.Test.YtlpepholcehojaaDoorWCheck
import Derived.Test.YtlpepholcehojaaDoorWIter
import Derived.RangeFuncNested
import Derived.Laws.IdiomStrings
namespace Go.Proofs.YtlpepholcehojaaDoor
open Go Go.RowKit Go.Shelf
attribute [local go_sem] Oper.semAt_some

/-- A run that a valid word can have. -/
abbrev Pr : Type := { x : Int × Int // (x.1 ≠ 0 ∧ x.1.natAbs ≤ 16) ∧ 1 ≤ x.2 ∧ x.2 ≤ 4000 }
abbrev encR (x : Pr) : Array Value := #[.int .i64 x.1.1, .int .i64 x.1.2]
/-- The runs that end among the first k letters, and where the next one begins. -/
def runsTo (zs : List Int) : Nat → List (Int × Int) × Nat
  | 0 => ([], 0)
  | k + 1 => if k + 1 < zs.length ∧ zs.getD (k + 1) 0 = zs.getD k 0 then runsTo zs k else ((runsTo zs k).1 ++ [(zs.getD k 0, ((k + 1 - (runsTo zs k).2 : Nat) : Int))], k + 1)
theorem runsTo_le (zs : List Int) : ∀ k, (runsTo zs k).2 ≤ k ∧ (runsTo zs k).1.length ≤ k
  | 0 => ⟨Nat.le_refl _, Nat.le_refl _⟩
  | k + 1 => by
    have := runsTo_le zs k
    unfold runsTo
    split
    · omega
    · simp; omega
/-- The text of runs, with signs between them. -/
def joinR : List (Int × Int) → List UInt8
  | [] => []
  | x :: t => t.foldl (fun l y => l ++ 42 :: runB y.1 y.2) (runB x.1 x.2)
theorem joinR_snoc (l : List (Int × Int)) (x : Int × Int) : joinR (l ++ [x]) = if l = [] then runB x.1 x.2 else joinR l ++ 42 :: runB x.1 x.2 := by
  cases l with
  | nil => rfl
  | cons y t => simp [joinR]
theorem runB_pos (x n : Int) : 0 < (runB x n).length := by unfold runB; split <;> (try split) <;> simp
theorem joinR_nil {l : List (Int × Int)} : joinR l = [] ↔ l = [] := by
  cases l with
  | nil => simp [joinR]
  | cons y t =>
    simp only [reduceCtorEq, iff_false]
    have : ∀ (t : List (Int × Int)) (a : List UInt8), a ≠ [] → t.foldl (fun l y => l ++ 42 :: runB y.1 y.2) a ≠ [] := by
      intro t
      induction t with
      | nil => exact fun a h => h
      | cons y t ih => exact fun a _ => ih _ (by simp)
    refine this t _ (fun e => ?_)
    have := runB_pos y.1 y.2
    rw [e] at this; cases this

theorem runs_in (F : Fence) (n : Nat) (hf : F.fn 24) (hro : F.round = none) (A : Option Addr) (k c : Nat) (w : World) :
    CallsIn F n Tryd.prog 24 #[.slice A k c] w fun e w' => e = .returned (.func (.func 38) #[] #[.pointer (some ⟨w.heap.size, 0, none⟩)]) ∧ w' = w.alloc (.cells #[.slice A k c] 24) := by
  refine callsIn_of_wp Tryd.func24 rfl hf ?_ hro
  simp only [Tryd.ntmps24, List.size_toArray, List.length_cons, List.length_nil, Nat.reduceAdd, Nat.reduceSub, Array.replicate_succ, Array.replicate_zero, List.push_toArray, List.append_toArray, List.nil_append, List.cons_append]
  gi_wp2
  go_ret
  exact ⟨rfl, rfl⟩

set_option maxRecDepth 100000 in
set_option maxHeartbeats 2000000 in
theorem runs_seq (F : Fence) (n : Nat) (hf : F.fn 38) (hro : F.round = none) (hn : 1 ≤ n) (Bs : Nat) (A : Option Addr) (c : Nat) (zs : List Int) (K0 : Nat → Prop) (w : World) (hl : zs.length ≤ 4000) (hz : Valid 16 zs)
    (hBs : Bs < w.heap.size) (hKB : K0 Bs) (hbox : Boxed w Bs 24 (.slice A zs.length c))
    (hA : 0 < zs.length → ∃ b o, A = some ⟨b, o, none⟩ ∧ b < w.heap.size ∧ K0 b ∧ ∀ j, j < zs.length → w.cell? ⟨b, o + j, none⟩ = some (.int .i64 (zs.getD j 0))) :
    SeqStopsK F n Tryd.prog 38 #[.pointer (some ⟨Bs, 0, none⟩)] encR (KpC K0) (fun xs => xs.map (·.1) = (runsTo zs zs.length).1) (fun _ => True) zs.length w := by
  intro l J Jx W hW _ _ hY h0
  have hbW : Boxed W Bs 24 (.slice A zs.length c) := (hW.block Bs hBs).trans hbox
  have hcW : 0 < zs.length → ∃ b o, A = some ⟨b, o, none⟩ ∧ K0 b ∧ ∀ j, j < zs.length → W.cell? ⟨b, o + j, none⟩ = some (.int .i64 (zs.getD j 0)) := fun h => by
    obtain ⟨b, o, e, hb, hk, hc⟩ := hA h
    exact ⟨b, o, e, hk, fun j hj => (hW.cell (p := ⟨b, o + j, none⟩) hb).trans (hc j hj)⟩
  have HY := Lib.hid hY
  have HC := Lib.hid hcW
  have hbc := hbW.cell
  have HBW := Lib.hid hbW
  have HZ := Lib.hid hz
  clear hY hcW hA hbW hbox hz
  refine callsIn_of_wp Tryd.func38 rfl hf ?_ hro
  simp only [Tryd.ntmps38, List.size_toArray, List.length_cons, List.length_nil, Nat.reduceAdd, Nat.reduceSub, Array.replicate_succ, Array.replicate_zero, List.push_toArray, List.append_toArray, List.nil_append, List.cons_append]
  gi_wp2
  gi_loopw [3, 8] (fun f i wr => ∃ (k : Nat) (xs : List Pr), k ≤ zs.length ∧ i = .int .i64 k ∧ f = .int .i64 ((runsTo zs k).2 : Int) ∧ xs.map (·.1) = (runsTo zs k).1 ∧ J xs wr ∧ KpC K0 W wr)
    (fun _ i _ => zs.length - (intOf i).toNat)
  case atStart => exact ⟨0, [], Nat.zero_le _, rfl, rfl, rfl, h0, KpC.refl _ _⟩
  case round =>
    obtain ⟨k, xs, hk, rfl, rfl, hxs, hJ, hKp⟩ := hrel
    by_cases hlt : k < zs.length
    · obtain ⟨b, o, rfl, hkb, hc⟩ := HC.out (by omega)
      have hcx := hKp.cell (hc k hlt) hkb
      have hbx := (hKp.boxed HBW.out hKB).cell
      have HJ := Lib.hid hJ
      have HXS := Lib.hid hxs
      have HK := Lib.hid hKp
      have hfl := (runsTo_le zs k).1
      have hxl := (runsTo_le zs k).2
      have hstep : runsTo zs (k + 1) = if k + 1 < zs.length ∧ zs.getD (k + 1) 0 = zs.getD k 0 then runsTo zs k else ((runsTo zs k).1 ++ [(zs.getD k 0, ((k + 1 - (runsTo zs k).2 : Nat) : Int))], k + 1) := rfl
      have HST := Lib.hid hstep
      have hxlen : xs.length ≤ k := by have := congrArg List.length hxs; simp at this; omega
      obtain ⟨hv1, hv2⟩ := HZ.out.at_ hlt
      have hcx2 : k + 1 < zs.length → wr.cell? ⟨b, o + (k + 1), none⟩ = some (.int .i64 (zs.getD (k + 1) 0)) := fun h => hKp.cell (hc (k + 1) h) hkb
      clear hbc hJ h0 hc hKp hxs hstep
      generalize hf0 : (runsTo zs k).2 = f at hfl HST
      generalize hr0 : (runsTo zs k).1 = rs at hxl HST HXS
      by_cases h1 : k + 1 < zs.length
      · have hc2 := hcx2 h1
        by_cases h2 : zs.getD (k + 1) 0 = zs.getD k 0
        · have HE := Lib.hid (HST.out.trans (if_pos ⟨h1, h2⟩))
          rw [h2] at hc2
          generalize zs.getD k 0 = x at hcx hc2 hv1 hv2 HST
          have hxx : (x == x) = true := by simp
          have h1' : (k : Int) + 1 < (zs.length : Int) := by omega
          clear HST h2 hcx2 HY hv1 hv2 hxl hxlen
          gi_wp2
          go_roundw
          case rel => exact ⟨k + 1, xs, by omega, by go_num, by rw [HE.out, hf0], by rw [HE.out, hr0]; exact HXS.out, HJ.out, HK.out⟩
          case measure => simp [intOf]; omega
        · have HE := Lib.hid (HST.out.trans (if_neg (fun h => h2 h.2)))
          have hyx : (zs.getD (k + 1) 0 == zs.getD k 0) = false := by simpa using h2
          generalize zs.getD (k + 1) 0 = y at hc2 hyx HST
          generalize zs.getD k 0 = x at hcx hv1 hv2 hyx HST HE
          have h1' : (k : Int) + 1 < (zs.length : Int) := by omega
          clear HST h2 hcx2
          obtain ⟨X, hX⟩ : ∃ X : Pr, X.1 = (x, ((k + 1 - f : Nat) : Int)) := ⟨⟨_, ⟨hv1, hv2⟩, by dsimp only; omega, by dsimp only; omega⟩, rfl⟩
          obtain ⟨fn, tmps, assign, body, hy, hR⟩ := HY.out xs X wr HJ.out (by omega)
          dsimp only [encR] at hy
          rw [hX] at hy
          dsimp only at hy
          have HXX := Lib.hid hX
          clear hX
          have HR := Lib.hid hR
          have hin : (k : Int) + 1 - (f : Int) = ((k + 1 - f : Nat) : Int) := by omega
          clear hR HY hv1 hv2
          gi_wp2
          refine HR.out.mono ?_
          rintro e W3 (⟨rfl, hJ3, hk3⟩ | ⟨rfl, hJx3⟩)
          · gi_wp2
            go_roundw
            case rel => exact ⟨k + 1, xs ++ [X], by omega, by go_num, by rw [HE.out]; rfl, by rw [HE.out, List.map_append, HXS.out, List.map_cons, List.map_nil, HXX.out], hJ3, HK.out.trans hk3⟩
            case measure => simp [intOf]; omega
          · gi_wp2
            refine bodyPost_ret (results_none rfl _ _ _) rfl ?_
            exact ⟨⟨_, rfl⟩, .inr ⟨_, trivial, hJx3⟩⟩

      · have HE := Lib.hid (HST.out.trans (if_neg (fun h => h1 h.1)))
        generalize zs.getD k 0 = x at hcx hv1 hv2 HST HE
        have h1' : ¬ (k : Int) + 1 < (zs.length : Int) := by omega
        clear HST hcx2
        obtain ⟨X, hX⟩ : ∃ X : Pr, X.1 = (x, ((k + 1 - f : Nat) : Int)) := ⟨⟨_, ⟨hv1, hv2⟩, by dsimp only; omega, by dsimp only; omega⟩, rfl⟩
        obtain ⟨fn, tmps, assign, body, hy, hR⟩ := HY.out xs X wr HJ.out (by omega)
        dsimp only [encR] at hy
        rw [hX] at hy
        dsimp only at hy
        have HXX := Lib.hid hX
        clear hX
        have HR := Lib.hid hR
        have hin : (k : Int) + 1 - (f : Int) = ((k + 1 - f : Nat) : Int) := by omega
        clear hR HY hv1 hv2
        gi_wp2
        refine HR.out.mono ?_
        rintro e W3 (⟨rfl, hJ3, hk3⟩ | ⟨rfl, hJx3⟩)
        · gi_wp2
          go_roundw
          case rel => exact ⟨k + 1, xs ++ [X], by omega, by go_num, by rw [HE.out]; rfl, by rw [HE.out, List.map_append, HXS.out, List.map_cons, List.map_nil, HXX.out], hJ3, HK.out.trans hk3⟩
          case measure => simp [intOf]; omega
        · gi_wp2
          refine bodyPost_ret (results_none rfl _ _ _) rfl ?_
          exact ⟨⟨_, rfl⟩, .inr ⟨_, trivial, hJx3⟩⟩
    · obtain rfl : k = zs.length := by omega
      have HJ := Lib.hid hJ
      have HXS := Lib.hid hxs
      clear hJ h0 hKp hxs
      gi_wp2
      go_end0
      exact ⟨⟨_, rfl⟩, .inl ⟨_, HXS.out, HJ.out⟩⟩

/-- All but block b and rows of bytes stays. -/
structure Keeps (B b : Nat) (W W' : World) : Prop where
  below : Below B W W'
  others : Lib.OthersKept 5 (some b) W W'
theorem Keeps.refl (B b : Nat) (W : World) : Keeps B b W W := ⟨Below.refl _ _, Lib.OthersKept.refl _ _ _⟩
theorem Keeps.trans {B b : Nat} {A C D : World} (h : Keeps B b A C) (k : Keeps B b C D) : Keeps B b A D := ⟨h.below.trans k.below, h.others.trans k.others⟩
theorem Keeps.wrote {B b : Nat} {W W1 W2 : World} {l : List UInt8} {r : Value} (h : Keeps B b W W1) (k : Wrote W1 B l r W2) : Keeps B b W W2 :=
  h.trans ⟨k.below, fun i o hi _ ho => k.others i o hi (by simp) ho⟩
theorem Keeps.store {B b : Nat} {W W1 : World} (h : Keeps B b W W1) (hb : B ≤ b) (u : Value) : Keeps B b W (W1.setCell ⟨b, 0, none⟩ u) :=
  h.trans ⟨(Below.refl _ _).setCell (p := ⟨b, 0, none⟩) hb u, fun i o hi hn _ => (Below.heap_setCell W1 ⟨b, 0, none⟩ u i (fun e => hn (by rw [e]))).trans hi⟩
theorem Keeps.boxed {B b Bs : Nat} {W W' : World} {t : TypeId} {v : Value} (h : Keeps B b W W') (hb : Boxed W Bs t v) (hne : Bs ≠ b) (ht : t ≠ 5) : Boxed W' Bs t v :=
  h.others Bs _ hb (by simpa using hne) (fun c fz e => by injection e with _ e _; exact ht e)
theorem Keeps.kp {B b Bs : Nat} {W W' : World} {t : TypeId} {v : Value} (h : Keeps B b W W') (hb : Boxed W Bs t v) (hne : Bs ≠ b) (ht : t ≠ 5) : KpC (fun k => k < B ∨ k = Bs) W W' :=
  ⟨h.below.size, fun k o hk h0 _ => by
    rcases h0 with h0 | h0
    · exact (h.below.block k h0).trans hk
    · subst h0
      have h1 := h.boxed hb hne ht
      have h2 : W.heap[k]? = some _ := hb
      rw [h2] at hk
      cases hk
      exact h1⟩
theorem Keeps.keepsOthers {B b : Nat} {W W' : World} {t : TypeId} {v : Value} (h : Keeps B b W W') (hb : Boxed W b t v) : KeepsOthers W W' := by
  refine ⟨h.below.size, fun k o hk ho => h.others k o hk (fun e => ?_) (fun c fz e => by subst e; cases ho)⟩
  injection e with e
  subst e
  have h2 : W.heap[k]? = some _ := hb
  rw [h2] at hk
  cases hk
  cases ho

theorem appendRun_any (B : Nat) (v : Value) (l : List UInt8) (x n : Int) (w : World) (hx : x ≠ 0 ∧ x.natAbs ≤ 16) (hn : 1 ≤ n ∧ n ≤ 4000) (hown : Owns w B v l) (hB : B ≤ w.heap.size) (hl : l.length ≤ 900000)
    (htab : Lib.TabBelow Tryd.prog B w "internal/strconv.uint64pow10" .u64 Lib.pow10Tab) :
    Calls Tryd.prog 25 #[v, .int .i64 x, .int .i64 n] w fun e w' => ∃ r, e = .returned r ∧ Wrote w B (l ++ runB x n) r w' := by
  by_cases h : x < 0
  · obtain ⟨k, rfl⟩ : ∃ k : Nat, x = -(k : Int) := ⟨x.natAbs, by omega⟩
    exact appendRun_neg B v l k n w (by omega) hn hown hB hl htab
  · obtain ⟨k, rfl⟩ : ∃ k : Nat, x = (k : Int) := ⟨x.natAbs, by omega⟩
    exact appendRun_pos B v l k n w (by omega) hn hown hB hl htab
theorem runB_len {x n : Int} (hn : -9223372036854775807 ≤ n ∧ n ≤ 9223372036854775807) : (runB x n).length ≤ 23 := by
  have h1 := Lib.itoa_length_le n (by omega) (by omega)
  have h2 := Lib.itoa_length_le (-n) (by omega) (by omega)
  unfold runB
  split
  · simp; omega
  · split <;> simp <;> omega
theorem joinR_len (l : List Pr) : (joinR (l.map (·.1))).length ≤ 24 * l.length := by
  cases l with
  | nil => simp [joinR]
  | cons x t =>
    have : ∀ (t : List Pr) (a : List UInt8), ((t.map (·.1)).foldl (fun l y => l ++ 42 :: runB y.1 y.2) a).length ≤ a.length + 24 * t.length := by
      intro t
      induction t with
      | nil => intro a; simp
      | cons y t ih =>
        intro a
        have h1 := ih (a ++ 42 :: runB y.1.1 y.1.2)
        have h2 := runB_len (x := y.1.1) (n := y.1.2) (by have := y.2.2; omega)
        simp only [List.map_cons, List.foldl_cons, List.length_cons, List.length_append] at h1 ⊢
        omega
    have h1 := this t (runB x.1.1 x.1.2)
    have h2 := runB_len (x := x.1.1) (n := x.1.2) (by have := x.2.2; omega)
    simp only [List.map_cons, joinR, List.length_cons]
    omega

theorem Wrote.boxed {w w' : World} {B b : Nat} {l : List UInt8} {r v : Value} {t : TypeId} (h : Wrote w B l r w') (hb : Boxed w b t v) (ht : t ≠ 5) : Boxed w' b t v :=
  h.others b _ hb (by simp) (fun c fz e => by injection e with _ e _; exact ht e)
/-- The text of a word that is not empty. -/
def textW (zs : List Int) : List UInt8 := joinR (runsTo zs zs.length).1
/-- Between two rounds of Text's loop. -/
def TxtI (w : World) (Bs : Nat) (sv : Value) (pre : List Pr) (W : World) : Prop :=
  (∃ v, Boxed W w.heap.size 52 v ∧ W.ownsRow w.heap.size 5 1 v (joinR (pre.map (·.1))).length (Lib.byteCells (joinR (pre.map (·.1)))) ∧ True) ∧ Boxed W Bs 24 sv ∧ Below w.heap.size w W
theorem TxtI.own {w : World} {Bs : Nat} {sv : Value} {B : Nat} (hB : w.heap.size ≤ B) : OwnFrom B (TxtI w Bs sv) :=
  OwnFrom.and (Own.from (holdsRow_own w.heap.size w.heap.size 52 5 1 (fun (pre : List Pr) => (joinR (pre.map (·.1))).length) (fun pre => Lib.byteCells (joinR (pre.map (·.1)))) (fun _ _ => True)) _) (OwnFrom.and (Own.from (boxed_own Bs 24 (fun _ => sv)) _) (ownFrom_below (Nat.le_refl _) hB))

theorem textW_pos {zs : List Int} (h : 1 ≤ zs.length) : 0 < (textW zs).length := by
  have h1 : (runsTo zs zs.length).1 ≠ [] := by
    obtain ⟨k, hk⟩ : ∃ k, zs.length = k + 1 := ⟨zs.length - 1, by omega⟩
    rw [hk]
    unfold runsTo
    rw [if_neg (by omega)]
    simp
  rcases Nat.eq_zero_or_pos (textW zs).length with e | e
  · exact absurd (joinR_nil.1 (List.length_eq_zero_iff.1 e)) h1
  · exact e
set_option maxRecDepth 100000 in
set_option maxHeartbeats 2000000 in
theorem Text_ok (v : Value) (zs : List Int) (w : World) (h1 : 1 ≤ zs.length) (hl : zs.length ≤ 4000) (hz : Valid 16 zs) (hv : Ints w w.heap.size v zs)
    (htab : Lib.TabBelow Tryd.prog w.heap.size w "internal/strconv.uint64pow10" .u64 Lib.pow10Tab) :
    Calls Tryd.prog 9 #[v] w fun e w' => e = .returned (.tuple #[.string ⟨(textW zs).toArray⟩, .int .i64 0]) ∧ Below w.heap.size w w' := by
  obtain ⟨i0, hi, hz0, hz1, hz2⟩ := info_parts info5
  have HC := Lib.hid (Check_ok 16 v zs w hl (by omega) hz hv)
  have HT := Lib.hid htab
  have HZ := Lib.hid hz
  obtain ⟨A, c, rfl, h⟩ := hv
  have HA := Lib.hid h
  clear h hz htab
  have hne : ((zs.length : Int) == 0) = false := by rw [beq_eq_false_iff_ne]; omega
  refine (callsIn_wide (n := 3)).1 ?_
  refine callsIn_of_wp_marks Tryd.func9 rfl trivial ?_ rfl
  simp only [Tryd.ntmps9, List.size_toArray, List.length_cons, List.length_nil, Nat.reduceAdd, Nat.reduceSub, Array.replicate_succ, Array.replicate_zero, List.push_toArray, List.append_toArray, List.nil_append, List.cons_append]
  gi_wp2_with fail
  refine ⟨trivial, (callsIn_wide.2 HC.out).mono ?_⟩
  rintro e w1 ⟨rfl, rfl⟩
  gi_wp2_with fail
  refine ⟨trivial, (runs_in Fence.wide 2 trivial rfl _ _ _ _).mono ?_⟩
  rintro e w2 ⟨rfl, rfl⟩
  gi_wp2_with fail
  obtain ⟨W0, hW0⟩ : ∃ W0, (w.alloc (.cells #[.slice none 0 0] 52)).alloc (.cells #[.slice A zs.length c] 24) = W0 := ⟨_, rfl⟩
  have hzW : W0.heap.size = w.heap.size + 2 := by rw [← hW0]; simp
  have hB0 : Below w.heap.size w W0 := by
    rw [← hW0]; exact ((Below.refl _ w).alloc (Nat.le_refl _) _).alloc (by simp) _
  have bV : Boxed W0 w.heap.size 52 (.slice none 0 0) := by
    rw [← hW0]; exact (Boxed.new w _ _).alloc _
  have bS : Boxed W0 (w.heap.size + 1) 24 (.slice A zs.length c) := by
    have := Boxed.new (w.alloc (.cells #[.slice none 0 0] 52)) 24 (.slice A zs.length c)
    rw [World.size_alloc] at this
    rw [← hW0]; exact this
  have hA : 0 < zs.length → ∃ b o, A = some ⟨b, o, none⟩ ∧ b < W0.heap.size ∧ (b < w.heap.size ∨ b = w.heap.size + 1) ∧ ∀ j, j < zs.length → W0.cell? ⟨b, o + j, none⟩ = some (.int .i64 (zs.getD j 0)) := fun h0 => by
    obtain ⟨b, o, e, hb, hc⟩ := HA.out h0
    exact ⟨b, o, e, by omega, .inl hb, fun j hj => (hB0.cell (p := ⟨b, o + j, none⟩) hb).trans (hc j hj)⟩
  rw [hW0]
  clear hW0 hne
  refine wpIn_rangeFunc_ownF rfl (by omega) (gf := 38) (lb := #[.pointer (some ⟨w.heap.size + 1, 0, none⟩)]) rfl trivial (enters_of Tryd.func38 (by kernel_rfl) rfl)
    (runs_seq Fence.wide 2 trivial rfl (by omega) (w.heap.size + 1) A c zs (fun k => k < w.heap.size ∨ k = w.heap.size + 1) W0 hl HZ.out (by omega) (.inr rfl) bS hA) KpC.trans (KpC.put _ _) (Below.refl _ _) (fun _ => rfl)
    (TxtI w (w.heap.size + 1) (.slice A zs.length c)) (fun _ _ _ => False) (TxtI.own (by omega)) (fun _ _ _ _ _ hs _ _ => hs)
    ⟨⟨_, bV, World.ownsRow_nil _ _ _ _, trivial⟩, bS, hB0⟩
    (fun x => { tmps := #[.slice A zs.length c, undef, .string ⟨#[]⟩, .int .i64 0, .int .i64 0, .pointer (some ⟨w.heap.size, 0, none⟩), .int .i64 x.1.1, .int .i64 x.1.2, .slice A zs.length c, .int .i64 0, .int .i64 0, .bool false, undef, .slice A zs.length c, .int .i64 zs.length, .bool false, .slice A zs.length c,
      .func (.func 38) #[] #[.pointer (some ⟨w.heap.size + 1, 0, none⟩)], .int .i64 x.1.1, .int .i64 x.1.2, undef, undef, undef, undef, undef, undef, undef, undef, undef, undef, undef, undef], defers := [] }) ?assign ?body ?done ?stop
  case assign =>
    intro l x W K hK
    dsimp only [encR]
    gi_wp2
    exact hK
  case body =>
    rintro l pre x W ⟨⟨v, hV, hO, -⟩, hS, hB⟩ hlt
    have hjl := joinR_len pre
    have HTW := Lib.hid (HT.out.on hB)
    have HR := fun v l W h1 h2 h3 h4 => Lib.hid (appendRun_any w.heap.size v l x.1.1 x.1.2 W x.2.1 x.2.2 h1 h2 h3 h4)
    have hbc := hV.cell
    have hW := hB.size
    have HV := Lib.hid hV
    have HO := Lib.hid hO
    have HS := Lib.hid hS
    have HB := Lib.hid hB
    have hsn : joinR ((pre ++ [x]).map (·.1)) = if pre.map (·.1) = [] then runB x.1.1 x.1.2 else joinR (pre.map (·.1)) ++ 42 :: runB x.1.1 x.1.2 := by
      rw [List.map_append, List.map_cons, List.map_nil]; exact joinR_snoc _ _
    have HN := Lib.hid hsn
    clear hV hS hB bV bS hA hsn HT HZ HA
    generalize x.1.1 = a at HR HN
    generalize x.1.2 = b at HR HN
    have hnil := joinR_nil (l := pre.map (·.1))
    generalize joinR (pre.map (·.1)) = L at hjl hO HO HN hnil
    have hLl : L.length ≤ 800000 := by omega
    by_cases h0 : L.length = 0
    · have hL : L = [] := List.length_eq_zero_iff.1 h0
      have HN2 := Lib.hid (show joinR ((pre ++ [x]).map (·.1)) = L ++ runB a b by rw [HN.out, if_pos (hnil.1 hL), hL]; rfl)
      have hf : ∃ A' cp', v = .slice A' L.length cp' := by
        rcases hO.2 with ⟨e, h⟩ | ⟨g, cap, cur, e, _⟩
        · exact ⟨none, 0, by rw [e, h]⟩
        · exact ⟨_, cap, e⟩
      obtain ⟨A', cp', rfl⟩ := hf
      have hnp : ¬ (0 : Int) < (L.length : Int) := by omega
      clear hO hnil HN h0 hL hjl
      gi_wp2_with fail
      refine ⟨trivial, (callsIn_wide.2 (HR _ L _ HO.out hW (by omega) HTW.out).out).mono ?_⟩
      rintro e W2 ⟨r, rfl, hw⟩
      have HVB := HV
      clear hbc
      obtain ⟨M, hM⟩ : ∃ M, L ++ runB a b = M := ⟨_, rfl⟩
      have hpos : 0 < M.length := by rw [← hM, List.length_append]; have := runB_pos a b; omega
      rw [hM] at hw
      have HM := Lib.hid hM
      have hbx := hw.boxed HVB.out (by decide)
      have hbc2 := hbx.cell
      have hbf2 := hbx.frozen
      obtain ⟨g, cp, rfl⟩ : ∃ g cp, r = .slice (some ⟨g, 0, none⟩) M.length cp := by
        rcases hw.own.2 with ⟨_, h⟩ | ⟨g, cap, cur, e, _⟩
        · omega
        · exact ⟨g, cap, e⟩
      have HWW := Lib.hid hw
      have HK := Lib.hid ((Keeps.refl w.heap.size w.heap.size W).wrote hw)
      have HBX := Lib.hid hbx
      clear hw hbx hpos hM
      gi_wp2_with fail
      have hk := HK.out.store (Nat.le_refl _) (.slice (some ⟨g, 0, none⟩) M.length cp)
      refine ⟨hk.keepsOthers HV.out, hk.kp HS.out (by omega) (by decide), ⟨_, HBX.out.set _, ?_, trivial⟩, hk.boxed HS.out (by omega) (by decide), HB.out.trans hk.below⟩
      have := HWW.out.own.kept (grownBy_setCell' W2 w.heap.size (.slice (some ⟨g, 0, none⟩) M.length cp)) (.inr (HBX.out.not_row (by decide) HWW.out.own).symm)
      rw [HN2.out, HM.out]
      exact this
    · have hL : L ≠ [] := fun e => h0 (by rw [e]; rfl)
      have HN2 := Lib.hid (show joinR ((pre ++ [x]).map (·.1)) = (L ++ [42]) ++ runB a b by rw [HN.out, if_neg (fun e => hL (hnil.2 e))]; simp)
      obtain ⟨g0, cp0, rfl⟩ : ∃ g cp, v = .slice (some ⟨g, 0, none⟩) L.length cp := by
        rcases hO.2 with ⟨_, h⟩ | ⟨g, cap, cur, e, _⟩
        · omega
        · exact ⟨g, cap, e⟩
      have hp : (0 : Int) < (L.length : Int) := by omega
      clear hO hnil HN h0 hL hjl
      gi_wp2_with (gi_at_builtin; refine wpListIn_append_own _ rfl (.tmp 23) (.tmp 24) 52 rfl w.heap.size 5 i0 (.int .u8 0) 1 1 Tryd.underlying52 hi hz0 hz1 hz2 rfl (by decide) _ _ _ rfl (World.ownsRow.alloc HO.out _) ⟨W.heap.size, 0, none⟩ 1 1 [.int .u8 42] rfl rfl (cell_one_new _ _ _) (by simp [Value.oneCell']) (by unfold maxLen; omega) (by omega) (by simp; omega) ?_; intro v1 w1 hown hgrow _; obtain ⟨g1, cp1, rfl⟩ := own_form hown; have hw := Owns.wrote (m := [42]) HO.out hW hown hgrow; have hbx := hw.boxed HV.out (by decide); have hbc1 := hbx.cell; have hbf1 := hbx.frozen; have HW := Lib.hid hw; have HBX := Lib.hid hbx; clear hown hgrow hw hbx hbc)
      have HVB := Lib.hid (HBX.out.set (.slice (some ⟨g1, 0, none⟩) (L.length + 1) cp1))
      have HK1 := Lib.hid (((Keeps.refl w.heap.size w.heap.size W).wrote HW.out).store (Nat.le_refl _) (.slice (some ⟨g1, 0, none⟩) (L.length + 1) cp1))
      have hown1 : Owns (w1.setCell ⟨w.heap.size, 0, none⟩ (.slice (some ⟨g1, 0, none⟩) (L.length + 1) cp1)) w.heap.size (.slice (some ⟨g1, 0, none⟩) (L.length + 1) cp1) (L ++ [42]) :=
        HW.out.own.kept (grownBy_setCell' w1 w.heap.size _) (.inr (HBX.out.not_row (by decide) HW.out.own).symm)
      refine ⟨trivial, (callsIn_wide.2 (HR _ (L ++ [42]) _ hown1 (Nat.le_trans hW HK1.out.below.size) (by simp; omega) (HTW.out.on HK1.out.below)).out).mono ?_⟩
      rintro e W2 ⟨r, rfl, hw⟩
      clear hbc1 hbf1 HBX
      obtain ⟨M, hM⟩ : ∃ M, (L ++ [42]) ++ runB a b = M := ⟨_, rfl⟩
      have hpos : 0 < M.length := by rw [← hM, List.length_append]; have := runB_pos a b; omega
      rw [hM] at hw
      have HM := Lib.hid hM
      have hbx := hw.boxed HVB.out (by decide)
      have hbc2 := hbx.cell
      have hbf2 := hbx.frozen
      obtain ⟨g, cp, rfl⟩ : ∃ g cp, r = .slice (some ⟨g, 0, none⟩) M.length cp := by
        rcases hw.own.2 with ⟨_, h⟩ | ⟨g, cap, cur, e, _⟩
        · omega
        · exact ⟨g, cap, e⟩
      have HWW := Lib.hid hw
      have HK := Lib.hid (HK1.out.wrote hw)
      have HBX := Lib.hid hbx
      clear hw hbx hpos hM
      gi_wp2_with fail
      have hk := HK.out.store (Nat.le_refl _) (.slice (some ⟨g, 0, none⟩) M.length cp)
      refine ⟨hk.keepsOthers HV.out, hk.kp HS.out (by omega) (by decide), ⟨_, HBX.out.set _, ?_, trivial⟩, hk.boxed HS.out (by omega) (by decide), HB.out.trans hk.below⟩
      have := HWW.out.own.kept (grownBy_setCell' W2 w.heap.size (.slice (some ⟨g, 0, none⟩) M.length cp)) (.inr (HBX.out.not_row (by decide) HWW.out.own).symm)
      rw [HN2.out, HM.out]
      exact this
  case done =>
    rintro D ys W hD hys ⟨⟨v, hV, hO, -⟩, hS, hB⟩ hK
    rw [show joinR (ys.map (·.1)) = textW zs from congrArg joinR hys] at hO
    have hpos := textW_pos h1
    obtain ⟨T, hT⟩ : ∃ T, textW zs = T := ⟨_, rfl⟩
    rw [hT] at hO hpos
    have HTT := Lib.hid hT
    clear hT
    obtain ⟨g, cp, rfl⟩ : ∃ g cp, v = .slice (some ⟨g, 0, none⟩) T.length cp := by
      rcases hO.2 with ⟨_, h⟩ | ⟨g, cap, cur, e, _⟩
      · omega
      · exact ⟨g, cap, e⟩
    have hcv := run_convert_bytes_back (P := Tryd.prog) W 52 9 5 ⟨g, 0, none⟩ cp T Tryd.underlying52 Tryd.underlying5 Tryd.underlying9 (fun j hj => hO.cells (g := g) rfl j _ (by simp [Lib.byteCells, hj]))
    have hbc := hV.cell
    have HB := Lib.hid hB
    have HK := Lib.hid hK
    clear hV hO hS hB bV bS hA hys HA HZ HT HC hpos
    gi_wp2
    refine ⟨by simp, .inl ⟨_, _, rfl, run_takeDeferred HK.out, ?_⟩⟩
    exact ⟨_, results_tmp2 rfl _ _ _, by rw [HTT.out]; rfl, HB.out.trans (belowK_b (w := w) (Nat.le_refl _) W D _ _ (by omega) HK.out rfl rfl)⟩
  case stop =>
    rintro D c pre W _ _ h _
    exact h.elim
end Go.Proofs.YtlpepholcehojaaDoor
