/- word.appendRun: a run of a letter, written. -/
import Derived.Test.YtlpepholcehojaaDoorWRead
import Derived.Test.YtlpepholcehojaaDoorWShelf
import Derived.Lib.OthersKept
import Derived.Lib.ItoaLen
namespace Go.Proofs.YtlpepholcehojaaDoor
open Go Go.RowKit

theorem info5 : (Tryd.prog.info? 5).map (fun i => (i.zero, i.size, i.bytes)) = some (some (.int .u8 0), 1, 1) := by kernel_rfl
/-- The slice v owns just the bytes l, in a block from B on. -/
def Owns (w : World) (B : Nat) (v : Value) (l : List UInt8) : Prop := w.ownsRow B 5 1 v l.length (Lib.byteCells l)
/-- What writing into an own row of bytes leaves. -/
structure Wrote (w : World) (B : Nat) (l : List UInt8) (r : Value) (w' : World) : Prop where
  own : Owns w' B r l
  below : Below B w w'
  others : Lib.OthersKept 5 none w w'
theorem others_append {w w1 : World} {B n : Nat} {v : Value} {xs : List Value} {o : Obj} (h : w.ownsRow B 5 1 v n xs) (hg : (w.alloc o).grownBy w1 v.ownBlock) : Lib.OthersKept 5 none w w1 := by
  intro k u hk _ hu
  have h1 := (Lib.OthersKept.refl 5 none w).alloc o k u hk (by simp) hu
  refine (hg.block k (Array.getElem?_eq_some_iff.1 h1).1 (fun e => ?_)).trans h1
  rcases h.2 with ⟨rfl, _⟩ | ⟨g, cap, cur, rfl, hb, hgg, _⟩
  · simp [Value.ownBlock] at e
  · simp [Value.ownBlock] at e
    subst e
    rw [hgg] at hk
    injection hk with hk
    exact hu cur (0, 0) hk.symm
theorem Owns.wrote {w w1 : World} {B : Nat} {v v1 : Value} {l m : List UInt8} {o : Obj} (h : Owns w B v l) (hB : B ≤ w.heap.size) (hown : w1.ownsRow B 5 1 v1 (l.length + m.length) (Lib.byteCells l ++ Lib.byteCells m)) (hg : (w.alloc o).grownBy w1 v.ownBlock) : Wrote w B (l ++ m) v1 w1 := by
  refine ⟨?_, ((Below.refl B w).alloc hB o).grown hg (by simp; omega) (fun q hq => (World.ownsRow.lt h q hq).1), others_append h hg⟩
  unfold Owns
  rw [List.length_append, show Lib.byteCells (l ++ m) = Lib.byteCells l ++ Lib.byteCells m by simp [Lib.byteCells]]
  exact hown
theorem Wrote.trans {w w1 w2 : World} {B : Nat} {l m : List UInt8} {r r' : Value} (h : Wrote w B l r w1) (k : Wrote w1 B m r' w2) : Wrote w B m r' w2 := ⟨k.own, h.below.trans k.below, h.others.trans k.others⟩

/-- A run of a letter, as the document writes it. -/
def runB (x n : Int) : List UInt8 :=
  if x < 0 then UInt8.ofNat (96 + (-x).toNat) :: 94 :: Lib.itoa (-n) else if n = 1 then [UInt8.ofNat (96 + x.toNat)] else UInt8.ofNat (96 + x.toNat) :: 94 :: Lib.itoa n

theorem appendInt_any (B : Nat) (v : Value) (l : List UInt8) (n : Int) (w : World) (hn : -4000 ≤ n ∧ n ≤ 4000) (hown : Owns w B v l) (hB : B ≤ w.heap.size) (hl : l.length ≤ 1000000)
    (htab : Lib.TabBelow Tryd.prog B w "internal/strconv.uint64pow10" .u64 Lib.pow10Tab) :
    Calls Tryd.prog 39 #[v, .int .i64 n, .int .i64 10] w fun e w' => ∃ r, e = .returned r ∧ Wrote w B (l ++ Lib.itoa n) r w' := by
  refine (Any.strconv_AppendInt_10 Tryd.laysAI B l.length n (by omega) (by omega) v (Lib.byteCells l) w hown hB (by omega) htab).mono ?_
  rintro e w' ⟨v', rfl, h1, h2, h3⟩
  refine ⟨v', rfl, ?_, h2, h3⟩
  unfold Owns
  rw [List.length_append, show Lib.byteCells (l ++ Lib.itoa n) = Lib.byteCells l ++ Lib.byteCells (Lib.itoa n) by simp [Lib.byteCells]]
  exact h1

theorem byte_u8 (n : Nat) (h : n ≤ 255) : Lib.byteCells [UInt8.ofNat n] = [.int .u8 (n : Int)] := by
  simp [Lib.byteCells]; omega

set_option maxRecDepth 100000 in
set_option maxHeartbeats 1000000 in
theorem appendRun_pos (B : Nat) (v : Value) (l : List UInt8) (x : Nat) (n : Int) (w : World) (hx : 1 ≤ x ∧ x ≤ 16) (hn : 1 ≤ n ∧ n ≤ 4000) (hown : Owns w B v l) (hB : B ≤ w.heap.size) (hl : l.length ≤ 900000)
    (htab : Lib.TabBelow Tryd.prog B w "internal/strconv.uint64pow10" .u64 Lib.pow10Tab) :
    Calls Tryd.prog 25 #[v, .int .i64 x, .int .i64 n] w fun e w' => ∃ r, e = .returned r ∧ Wrote w B (l ++ runB x n) r w' := by
  obtain ⟨i0, hi, hz0, hz1, hz2⟩ := info_parts info5
  have HO := Lib.hid hown
  have HT := Lib.hid htab
  have hx0 : ¬ (x : Int) < 0 := by omega
  have hw1 : IntKind.i64.wrap (97 + (x : Int)) = 97 + (x : Int) := IntWalk.i64_in _ ⟨by omega, by omega⟩
  have hw2 : IntKind.i64.wrap (97 + (x : Int) - 1) = 96 + (x : Int) := by rw [IntWalk.i64_in _ ⟨by omega, by omega⟩]; omega
  have hw3 : IntKind.u8.wrap (96 + (x : Int)) = ((96 + x : Nat) : Int) := by rw [IntWalk.u8_in _ ⟨by omega, by omega⟩]; omega
  have hb := byte_u8 (96 + x) (by omega)
  have HBY := Lib.hid hb
  clear hown htab hb
  by_cases h1 : n = 1
  · subst h1
    have hr : runB x 1 = [UInt8.ofNat (96 + x)] := by unfold runB; rw [if_neg hx0, if_pos rfl]; simp
    have HR := Lib.hid hr
    have hq : ((1 : Int) == 1) = true := rfl
    clear hr
    go_enter Tryd.func25, Tryd.ntmps25
    go_wp2_with (at_builtin; refine wpList_append_own _ rfl (.tmp 13) (.tmp 18) 52 rfl B 5 i0 (.int .u8 0) 1 1 Tryd.underlying52 hi hz0 hz1 hz2 rfl (by decide) v l.length (Lib.byteCells l) rfl (World.ownsRow.alloc HO.out _) ⟨w.heap.size, 0, none⟩ 1 1 [.int .u8 ((96 + x : Nat) : Int)] rfl rfl (cell_one_new _ _ _) (by simp [Value.oneCell']) (by unfold maxLen; omega) (by omega) (by simp; omega) ?_; intro v1 w1 hown' hgrow _; have HW := Lib.hid (HO.out.wrote (m := [UInt8.ofNat (96 + x)]) hB (by rw [HBY.out]; exact hown') hgrow); clear hown' hgrow)
    go_ret
    exact ⟨_, rfl, by rw [HR.out]; exact HW.out⟩
  · have hr : runB x n = [UInt8.ofNat (96 + x)] ++ ([94] ++ Lib.itoa n) := by unfold runB; rw [if_neg hx0, if_neg h1]; simp
    have HR := Lib.hid hr
    have hq : (n == 1) = false := by simpa using h1
    clear hr h1
    go_enter Tryd.func25, Tryd.ntmps25
    go_wp2_with (at_builtin; refine wpList_append_own _ rfl (.tmp 13) (.tmp 18) 52 rfl B 5 i0 (.int .u8 0) 1 1 Tryd.underlying52 hi hz0 hz1 hz2 rfl (by decide) v l.length (Lib.byteCells l) rfl (World.ownsRow.alloc HO.out _) ⟨w.heap.size, 0, none⟩ 1 1 [.int .u8 ((96 + x : Nat) : Int)] rfl rfl (cell_one_new _ _ _) (by simp [Value.oneCell']) (by unfold maxLen; omega) (by omega) (by simp; omega) ?_; intro v1 w1 hown' hgrow _; have HW := Lib.hid (HO.out.wrote (m := [UInt8.ofNat (96 + x)]) hB (by rw [HBY.out]; exact hown') hgrow); clear hown' hgrow; refine Hid.out ?_)
    refine Lib.hid ?_
    have hBs := HW.out.below.size
    go_wp2_with (at_builtin; refine wpList_append_own _ rfl (.tmp 23) (.tmp 24) 52 rfl B 5 i0 (.int .u8 0) 1 1 Tryd.underlying52 hi hz0 hz1 hz2 rfl (by decide) v1 _ _ rfl (World.ownsRow.alloc HW.out.own _) ⟨w1.heap.size, 0, none⟩ 1 1 [.int .u8 94] rfl rfl (cell_one_new _ _ _) (by simp [Value.oneCell']) (by unfold maxLen; simp; omega) (by simp; omega) (by simp; omega) ?_; intro v2 w2 hown' hgrow _; have HW2 := Lib.hid (HW.out.trans (HW.out.own.wrote (m := [94]) (by omega) hown' hgrow)); clear hown' hgrow; refine Hid.out ?_)
    refine Lib.hid ?_
    have hBs2 := HW2.out.below.size
    go_wp2_with (go_at_call 39; refine (appendInt_any B v2 _ n w2 (by omega) HW2.out.own (by omega) (by simp; omega) (HT.out.on HW2.out.below)).mono ?_; rintro e w3 ⟨r, rfl, hw3⟩; have HW3 := Lib.hid (HW2.out.trans hw3); clear hw3)
    go_ret
    exact ⟨_, rfl, by rw [HR.out, ← List.append_assoc, ← List.append_assoc]; exact HW3.out⟩

set_option maxRecDepth 100000 in
set_option maxHeartbeats 1000000 in
theorem appendRun_neg (B : Nat) (v : Value) (l : List UInt8) (x : Nat) (n : Int) (w : World) (hx : 1 ≤ x ∧ x ≤ 16) (hn : 1 ≤ n ∧ n ≤ 4000) (hown : Owns w B v l) (hB : B ≤ w.heap.size) (hl : l.length ≤ 900000)
    (htab : Lib.TabBelow Tryd.prog B w "internal/strconv.uint64pow10" .u64 Lib.pow10Tab) :
    Calls Tryd.prog 25 #[v, .int .i64 (-(x : Int)), .int .i64 n] w fun e w' => ∃ r, e = .returned r ∧ Wrote w B (l ++ runB (-(x : Int)) n) r w' := by
  obtain ⟨i0, hi, hz0, hz1, hz2⟩ := info_parts info5
  have HO := Lib.hid hown
  have HT := Lib.hid htab
  have hx0 : -(x : Int) < 0 := by omega
  have hw0 : IntKind.i64.wrap (-(-(x : Int))) = (x : Int) := by rw [Int.neg_neg]; exact IntWalk.i64_in _ ⟨by omega, by omega⟩
  have hwn : IntKind.i64.wrap (-n) = -n := IntWalk.i64_in _ ⟨by omega, by omega⟩
  have hw1 : IntKind.i64.wrap (97 + (x : Int)) = 97 + (x : Int) := IntWalk.i64_in _ ⟨by omega, by omega⟩
  have hw2 : IntKind.i64.wrap (97 + (x : Int) - 1) = 96 + (x : Int) := by rw [IntWalk.i64_in _ ⟨by omega, by omega⟩]; omega
  have hw3 : IntKind.u8.wrap (96 + (x : Int)) = ((96 + x : Nat) : Int) := by rw [IntWalk.u8_in _ ⟨by omega, by omega⟩]; omega
  have hb := byte_u8 (96 + x) (by omega)
  have HBY := Lib.hid hb
  have hr : runB (-(x : Int)) n = [UInt8.ofNat (96 + x)] ++ ([94] ++ Lib.itoa (-n)) := by unfold runB; rw [if_pos hx0, Int.neg_neg]; simp
  have HR := Lib.hid hr
  have hq : (-n == 1) = false := by simp; omega
  obtain ⟨X, hX⟩ : ∃ X : Int, X = -(x : Int) := ⟨_, rfl⟩
  rw [← hX] at hx0 hw0 HR ⊢
  clear hown htab hb hr hX
  go_enter Tryd.func25, Tryd.ntmps25
  go_wp2_with (at_builtin; refine wpList_append_own _ rfl (.tmp 13) (.tmp 18) 52 rfl B 5 i0 (.int .u8 0) 1 1 Tryd.underlying52 hi hz0 hz1 hz2 rfl (by decide) v l.length (Lib.byteCells l) rfl (World.ownsRow.alloc HO.out _) ⟨w.heap.size, 0, none⟩ 1 1 [.int .u8 ((96 + x : Nat) : Int)] rfl rfl (cell_one_new _ _ _) (by simp [Value.oneCell']) (by unfold maxLen; omega) (by omega) (by simp; omega) ?_; intro v1 w1 hown' hgrow _; have HW := Lib.hid (HO.out.wrote (m := [UInt8.ofNat (96 + x)]) hB (by rw [HBY.out]; exact hown') hgrow); clear hown' hgrow; refine Hid.out ?_)
  refine Lib.hid ?_
  have hBs := HW.out.below.size
  go_wp2_with (at_builtin; refine wpList_append_own _ rfl (.tmp 23) (.tmp 24) 52 rfl B 5 i0 (.int .u8 0) 1 1 Tryd.underlying52 hi hz0 hz1 hz2 rfl (by decide) v1 _ _ rfl (World.ownsRow.alloc HW.out.own _) ⟨w1.heap.size, 0, none⟩ 1 1 [.int .u8 94] rfl rfl (cell_one_new _ _ _) (by simp [Value.oneCell']) (by unfold maxLen; simp; omega) (by simp; omega) (by simp; omega) ?_; intro v2 w2 hown' hgrow _; have HW2 := Lib.hid (HW.out.trans (HW.out.own.wrote (m := [94]) (by omega) hown' hgrow)); clear hown' hgrow; refine Hid.out ?_)
  refine Lib.hid ?_
  have hBs2 := HW2.out.below.size
  go_wp2_with (go_at_call 39; refine (appendInt_any B v2 _ (-n) w2 (by omega) HW2.out.own (by omega) (by simp; omega) (HT.out.on HW2.out.below)).mono ?_; rintro e w3 ⟨r, rfl, hw3⟩; have HW3 := Lib.hid (HW2.out.trans hw3); clear hw3)
  go_ret
  exact ⟨_, rfl, by rw [HR.out, ← List.append_assoc, ← List.append_assoc]; exact HW3.out⟩
end Go.Proofs.YtlpepholcehojaaDoor
