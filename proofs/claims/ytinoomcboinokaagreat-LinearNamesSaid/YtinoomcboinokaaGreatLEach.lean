/- LKeys, LPivots, LEach, joined. -/
import Derived.Test.YtinoomcboinokaaGreatLTurn
import Derived.Test.YtinoomcboinokaaGreatLShelf
import Derived.Maps.OwnSet
import Derived.Maps.OwnIn
import Derived.OwnWalkIn
import Derived.TacticsInMore
import Derived.LoopNIn
import Derived.Sort.LoopGhostIn
import Derived.LoopIn
import Derived.Shelf.Abstract
import Derived.WalkSpells

/- The map of an elimination: its rows by their pivots; slices.Sorted(maps.Keys(m)). -/
namespace Go.Proofs.YtinoomcboinokaaGreat
open Go Go.RowKit Num Go.ChangeMaps Go.Shelf
open Go.Maps (Keyed IsMap has int_keyed keyOf_int_mk)

/-- A map's values as they are. -/
def heldE (v : Value) : Option (DataW Value × List MemPlace) := some (.held v, [])
theorem key_law : Keyed Tryz.prog 3 := int_keyed Tryz.underlying3
/-- The keys of a map are the numbers of a list, each with its value. -/
structure MapAt (D : DataW Value) (ls : List Nat) (val : Nat → Value) : Prop where
  has_iff : ∀ x : Int, has D (.int .i64 x) = true ↔ ∃ j, j ∈ ls ∧ x = (j : Int)
  at_ : ∀ j, j ∈ ls → ∀ zd, D.atKey (.int .i64 j) zd = .held (val j)
theorem MapAt.congr {D : DataW Value} {ls : List Nat} {val val' : Nat → Value} (h : MapAt D ls val) (e : ∀ j, j ∈ ls → val j = val' j) : MapAt D ls val' := ⟨h.has_iff, fun j hj zd => by rw [h.at_ j hj zd, e j hj]⟩
theorem key_wf {j : Nat} (h : j < 1000000) : (Lit.int .i64 (j : Int)).wf = true := by
  have h1 : IntKind.i64.min = -9223372036854775808 := by decide
  have h2 : IntKind.i64.max = 9223372036854775807 := by decide
  simp [Lit.wf]; omega
theorem key_differ {a b : Int} (h : a ≠ b) : Lit.int .i64 a ≠ Lit.int .i64 b := fun e => h (by injection e)
theorem MapAt.nil (val : Nat → Value) : MapAt (.map []) [] val := ⟨fun x => by simp [Maps.has], fun j h => by simp at h⟩
theorem MapAt.put {D : DataW Value} {ls ls' : List Nat} {val : Nat → Value} (h : MapAt D ls val) (hD : IsMap D) (j : Nat) (v : Value) (hl : ∀ i, i ∈ ls' ↔ i ∈ ls ∨ i = j) (hj : j ∉ ls) : MapAt (D.put (.int .i64 j) (.held v)) ls' (fun i => if i = j then v else val i) := by
  refine ⟨fun x => ?_, fun i hi zd => ?_⟩
  · by_cases e : x = (j : Int)
    · subst e
      rw [Maps.has_put_same hD (by simp [WideAt.IsKeyLit])]
      exact ⟨fun _ => ⟨j, (hl j).2 (.inr rfl), rfl⟩, fun _ => rfl⟩
    · rw [Maps.has_put_other (key_differ e), h.has_iff]
      constructor
      · rintro ⟨i, hi, rfl⟩; exact ⟨i, (hl i).2 (.inl hi), rfl⟩
      · rintro ⟨i, hi, rfl⟩
        rcases (hl i).1 hi with hi | rfl
        · exact ⟨i, hi, rfl⟩
        · exact absurd rfl e
  · by_cases e : i = j
    · subst e
      rw [if_pos rfl]
      exact Maps.atKey_put_same hD (by simp [WideAt.IsKeyLit]) _ zd
    · rw [if_neg e, Maps.atKey_put_other (key_differ (by omega))]
      rcases (hl i).1 hi with hi | rfl
      · exact h.at_ i hi zd
      · exact absurd rfl e
theorem zero_ints (w : World) : (zeroValue 22).run Tryz.prog w = .ok (.slice none 0 0) w := by kernel_rfl
theorem look_held {w : World} {b n : Nat} {D : DataW Value} {ls : List Nat} {val : Nat → Value} {j : Nat} (h : w.ownsMap Tryz.prog 3 heldE b n D) (hm : MapAt D ls val) (hj : j ∈ ls) (hl : j < 1000000) :
    (Instr.lookup 75 (.map (some b)) (.int .i64 j) false).run Tryz.prog w = .ok (val j) w := by
  obtain ⟨v, ps, hr, hv⟩ := h.lookup key_law Tryz.underlying75 (zero_ints w) (zd := .held (.slice none 0 0)) (zp := []) rfl (keyOf_int_mk Tryz.underlying3 (key_wf hl))
  rw [hm.at_ j hj] at hv
  simp only [heldE, Option.some.injEq, Prod.mk.injEq, DataW.held.injEq] at hv
  rw [hr, hv.1]
theorem map_make (w : World) : (Instr.makeMap 75 none).run Tryz.prog w = .ok (.map (some w.heap.size)) (w.alloc (.map #[] 0)) := by
  simp [Instr.makeMap, Result.andThen]
/-- The ints of a list. -/
def natZ (ls : List Nat) : List Int := ls.map fun (j : Nat) => (j : Int)
theorem sorted_natZ {ls : List Nat} (h : ls.Pairwise (· < ·)) {ss : List Int} (hp : ss.Perm (natZ ls)) : ss.mergeSort (fun x y => decide (x ≤ y)) = natZ ls := by
  have h1 := mergeSort_of_perm_i hp
  rw [show ss.mergeSort (fun x y => decide (x ≤ y)) = ss.mergeSort leI from rfl, h1]
  refine List.mergeSort_of_pairwise ?_
  unfold natZ
  refine List.pairwise_map.2 (h.imp fun {a b} hab => ?_)
  simp only [leI, decide_eq_true_eq]
  omega
theorem Tryz.sortsL (m : Nat) : AnyZI.SortsIn Tryz.prog Tryz.sortedL_ren Fence.wide m :=
  ⟨fun blk off cap ss W hH hblk hsz => callsIn_wide.2 (AnyM.slices_Sort_int Tryz.sortL blk off cap ss W hH hblk hsz),
   fun p cap W => callsIn_wide.2 (AnyM.slices_Sort_int_none Tryz.sortL p cap W)⟩
/-- The list of the keys, ascending, in new memory. -/
def KeysRet (ls : List Nat) (w : World) (e : Ending) (w' : World) : Prop := ∃ A c, e = .returned (.slice A ls.length c) ∧ (0 < ls.length → ∃ g cs, A = some ⟨g, 0, none⟩ ∧ w.heap.size ≤ g ∧ Row w' g 3 cs ∧ ∀ i (hi : i < ls.length), cs[i]? = some (.int .i64 (ls[i] : Nat))) ∧ Below w.heap.size w w'
theorem keys_in (n : Nat) (mb : Option Nat) (w : World) : CallsIn Fence.wide n Tryz.prog 90 #[.map mb] w fun e w' => e = .returned (.func (.func 95) #[] #[.pointer (some ⟨w.heap.size, 0, none⟩)]) ∧ w' = w.alloc (.cells #[.map mb] 75) :=
  AnyZI.keys_in Tryz.keysL Fence.wide n trivial rfl mb w
theorem sorted_in (n : Nat) (hn : 5 ≤ n) (b N : Nat) (D : DataW Value) (ls : List Nat) (val : Nat → Value) (w : World) (hown : w.ownsMap Tryz.prog 3 heldE b N D) (hm : MapAt D ls val) (hls : ls.Pairwise (· < ·)) (hN : N ≤ 1000000) :
    CallsIn Fence.wide n Tryz.prog 89 #[.func (.func 95) #[] #[.pointer (some ⟨w.heap.size, 0, none⟩)]] (w.alloc (.cells #[.map (some b)] 75)) (KeysRet ls w) := by
  have hbl := hown.lt
  have hown' : (w.alloc (.cells #[.map (some b)] 75)).ownsMap Tryz.prog 3 heldE b N D := hown.alloc _
  have hsz := hown.size_le
  have hseq : SeqGives Fence.wide (n - 1 - 1 - 1) Tryz.prog 95 #[.pointer (some ⟨w.heap.size, 0, none⟩)] encZ (fun ss => ss.Perm (intKeys D)) (Maps.size D) (w.alloc (.cells #[.map (some b)] 75)) :=
    AnyZI.keys_gives (ρ := Tryz.keysL_ren) { Tryz.keysL with } Fence.wide _ trivial rfl (by omega) w.heap.size b N D _ (by simp) (by have := Row.cell (i := 0) (Row.new w 75 #[.map (some b)]) rfl; exact this) hown'
  have hmx : (maxLen : Nat) = 9223372036854775807 := by decide
  have cS := AnyZI.sorted_in Tryz.sortedL Fence.wide n trivial trivial trivial trivial rfl (by omega) (Tryz.sortsL _) (enters_of Tryz.func94 (by kernel_rfl) rfl) 95 #[.pointer (some ⟨w.heap.size, 0, none⟩)] trivial (enters_of Tryz.func95 (by kernel_rfl) rfl) _ (Maps.size D) (by omega) (by omega) _ hseq
  refine CallsIn.mono cS ?_
  rintro e w' ⟨v, ss, rfl, hS, hrow, hnil, hb⟩
  have hcol : CollectedI D (fun _ => false) (natZ ls) := by
    refine ⟨?_, fun x => ?_⟩
    · unfold natZ
      exact List.pairwise_map.2 (hls.imp fun {a b} hab e => by omega)
    · rw [hm.has_iff]
      unfold natZ
      rw [List.mem_map]
      constructor
      · rintro ⟨j, hj, rfl⟩; exact ⟨⟨j, hj, rfl⟩, rfl⟩
      · rintro ⟨⟨j, hj, rfl⟩, _⟩; exact ⟨j, hj, rfl⟩
  have hp : ss.Perm (natZ ls) := hS.trans (hcol.perm hown key_law Tryz.underlying3 (fun _ => rfl)).symm
  have hlen : ss.length = ls.length := by rw [hp.length_eq]; simp [natZ]
  rw [sorted_natZ hls hp, hlen] at hrow
  have hbw : Below w.heap.size w w' := ((Below.refl _ w).alloc (Nat.le_refl _) _).trans (hb.mono (by simp))
  rcases hrow.2 with ⟨rfl, hz⟩ | ⟨gb, cap, cur, rfl, hbase, hgb, r1, r2, r3, r4⟩
  · exact ⟨none, 0, by rw [hz], fun h => by omega, hbw⟩
  · refine ⟨_, cap, rfl, fun h0 => ⟨gb, cur, rfl, by simp at hbase; omega, hgb, fun i hi => ?_⟩, hbw⟩
    have h1 : ((natZ ls).map encZ)[i]? = some (.int .i64 (ls[i] : Nat)) := by simp [natZ, hi]
    rw [← r4, List.getElem?_take_of_lt (by omega)] at h1
    rw [← Array.getElem?_toList]; simpa using h1
end Go.Proofs.YtinoomcboinokaaGreat

/- linear.elimination.pivots: the iterator over the pivots, ascending, with their rows. -/
namespace Go.Proofs.YtinoomcboinokaaGreat
open Go Go.RowKit Go.Shelf Num
attribute [local go_sem] Oper.semAt_some

theorem cell_obj {w : World} {p : Addr} {u : Value} (h : w.cell? p = some u) : ∃ o, w.heap[p.block]? = some o ∧ o.isCells = true := by
  unfold World.cell? at h
  split at h
  · rename_i cs t fz hb; exact ⟨_, hb, rfl⟩
  · cases h
theorem cell_same {w w' : World} {p : Addr} {u : Value} (h : w.cell? p = some u) (hk : ∀ o, w.heap[p.block]? = some o → o.isCells = true → w'.heap[p.block]? = some o) : w'.cell? p = some u := by
  obtain ⟨o, ho, hc⟩ := cell_obj h
  rw [← h]
  unfold World.cell?
  rw [(hk o ho hc).trans ho.symm]
/-- What ints lie from B on stay. -/
def KeepA (B : Nat) (w w' : World) : Prop := w.heap.size ≤ w'.heap.size ∧ ∀ q cs, B ≤ q → Row w q 3 cs → Row w' q 3 cs
theorem KeepA.refl (B : Nat) (w : World) : KeepA B w w := ⟨Nat.le_refl _, fun _ _ _ h => h⟩
theorem KeepA.trans {B : Nat} {X Y Z : World} (h : KeepA B X Y) (k : KeepA B Y Z) : KeepA B X Z := ⟨Nat.le_trans h.1 k.1, fun q o hq ho => k.2 q o hq (h.2 q o hq ho)⟩
/-- The elimination at eb: its map, in block mb, has the keys ls with their values. -/
def EMap (w : World) (p : Int) (W eb mb N : Nat) (ls : List Nat) (val : Nat → Value) : Prop :=
  Row w eb 77 #[.int .i64 p, .int .i64 W, .map (some mb)] ∧ ∃ D : DataW Value, w.ownsMap Tryz.prog 3 heldE mb N D ∧ MapAt D ls val
theorem EMap.below {w w' : World} {p : Int} {W eb mb N : Nat} {ls : List Nat} {val : Nat → Value} (h : EMap w p W eb mb N ls val) (hb : Below w.heap.size w w') : EMap w' p W eb mb N ls val := by
  obtain ⟨h1, D, h2, h3⟩ := h
  refine ⟨Row.below h1 hb h1.lt, D, ?_, h3⟩
  obtain ⟨es, clock, hc, r⟩ := h2
  exact ⟨es, clock, (hb.block _ (Array.getElem?_eq_some_iff.1 hc).1).trans hc, r⟩
theorem EMap.turn {S : Nat → Prop} {w w' : World} {p : Int} {W eb mb N : Nat} {ls : List Nat} {val : Nat → Value} (h : EMap w p W eb mb N ls val) (hb : Turn S w w') (he : ¬ S eb) (hm : ¬ S mb) : EMap w' p W eb mb N ls val := by
  obtain ⟨h1, D, h2, h3⟩ := h
  refine ⟨h1.turn hb he, D, ?_, h3⟩
  obtain ⟨es, clock, hc, r⟩ := h2
  exact ⟨es, clock, hb.keep hc hm, r⟩

theorem pivots_in (F : Fence) (n : Nat) (hf : F.fn 71) (hro : F.round = none) (eb : Nat) (w : World) :
    CallsIn F n Tryz.prog 71 #[.pointer (some ⟨eb, 0, none⟩)] w fun e w' => e = .returned (.func (.func 88) #[] #[.pointer (some ⟨w.heap.size, 0, none⟩)]) ∧ w' = w.alloc (.cells #[.pointer (some ⟨eb, 0, none⟩)] 65) := by
  refine callsIn_of_wp Tryz.func71 rfl hf ?_ hro
  simp only [Tryz.ntmps71, List.size_toArray, List.length_cons, List.length_nil, Nat.reduceAdd, Nat.reduceSub, Array.replicate_succ, Array.replicate_zero, List.push_toArray, List.append_toArray, List.nil_append, List.cons_append]
  gi_wp2
  go_ret
  exact ⟨rfl, rfl⟩

set_option maxRecDepth 100000 in
set_option maxHeartbeats 4000000 in
theorem pivots1_in (n : Nat) (hn : 7 ≤ n) (l sb eb mb N W : Nat) (p : Int) (ls : List Nat) (hls : ls.Pairwise (· < ·)) (hlt : ∀ j, j ∈ ls → j < 1000) (hlen : ls.length ≤ 1000) (hN : N ≤ 1000000) (val : Nat → Value) (J : Nat → World → Prop) (w : World)
    (hJ : ∀ k w', J k w' → w'.cell? ⟨sb, 0, none⟩ = some (.pointer (some ⟨eb, 0, none⟩)) ∧ EMap w' p W eb mb N ls val)
    (h0 : J 0 w) (hJ0 : ∀ w', Below w.heap.size w w' → J 0 w')
    (hY : ∀ k w' (hk : k < ls.length), J k w' → YieldAt Fence.wide (n - 1) Tryz.prog l #[.int .i64 (ls[k] : Nat), val ls[k]] w' fun e w2 => e = .returned (.bool true) ∧ J (k + 1) w2 ∧ KeepA w.heap.size w' w2) :
    CallsIn Fence.wide n Tryz.prog 88 #[.func (.yield l) #[] #[], .pointer (some ⟨sb, 0, none⟩)] w fun e w' => (∃ v, e = .returned v) ∧ J ls.length w' := by
  obtain ⟨c0, hE⟩ := hJ 0 w h0
  obtain ⟨hr, D, hown, hm⟩ := hE
  have c1 : w.cell? ⟨eb, 2, none⟩ = some (.map (some mb)) := hr.cell rfl
  have h1 : 1 ≤ n := by omega
  have HS := Lib.hid (sorted_in (n - 1) (by omega) mb N D ls val w hown hm hls hN)
  have HJ := Lib.hid hJ
  have HJ0 := Lib.hid hJ0
  have HY := Lib.hid hY
  have HL := Lib.hid hlt
  clear hJ hJ0 hY hlt h0 hr hown hm
  refine callsIn_of_wp Tryz.func88 rfl trivial ?_ rfl
  simp only [Tryz.ntmps88, List.size_toArray, List.length_cons, List.length_nil, Nat.reduceAdd, Nat.reduceSub, Array.replicate_succ, Array.replicate_zero, List.push_toArray, List.append_toArray, List.nil_append, List.cons_append]
  gi_wp2
  refine ⟨trivial, (keys_in _ _ _).mono ?_⟩
  rintro e w' ⟨rfl, rfl⟩
  gi_wp2
  refine ⟨trivial, HS.out.mono ?_⟩
  rintro e w' ⟨A, c, rfl, hg, hb⟩
  gi_wp2
  have HG := Lib.hid hg
  have HB := Lib.hid hb
  have hz := hb.size
  clear hg hb c0 c1
  gi_loopw [12] (fun t wr => ∃ k : Nat, t = .int .i64 k ∧ k ≤ ls.length ∧ Hid (J k wr) ∧ Hid (KeepA w.heap.size w' wr)) (fun t _ => ls.length - (intOf t).toNat)
  case atStart => exact ⟨0, rfl, Nat.zero_le _, Lib.hid (HJ0.out _ HB.out), Lib.hid (KeepA.refl _ _)⟩
  case round =>
    obtain ⟨k, rfl, hk, HI, HK⟩ := hrel
    by_cases hlt : k < ls.length
    · obtain ⟨g, cs, rfl, hg1, hg2, hgc⟩ := HG.out (by omega)
      have hx : wr.cell? ⟨g, k, none⟩ = some (.int .i64 (ls[k] : Nat)) := (HK.out.2 _ _ hg1 hg2).cell (hgc k hlt)
      obtain ⟨c0, hE⟩ := HJ.out k wr HI.out
      obtain ⟨hr, D2, hown, hm⟩ := hE
      have c1 : wr.cell? ⟨eb, 2, none⟩ = some (.map (some mb)) := hr.cell rfl
      have hmem : ls[k] ∈ ls := List.getElem_mem hlt
      have hlook := look_held hown hm hmem (by have := HL.out _ hmem; omega)
      obtain ⟨fn, tmps, assign, body, hy, hR⟩ := HY.out k wr hlt HI.out
      have HR := Lib.hid hR
      clear hr hown hm hR hgc hg2 hmem
      generalize ls[k] = j at hx hlook hy
      generalize val j = vj at hlook hy
      gi_wp2
      refine HR.out.mono ?_
      rintro e W3 ⟨rfl, hJ3, hk3⟩
      have HJ3 := Lib.hid hJ3
      have HK3 := Lib.hid (HK.out.trans hk3)
      clear hJ3 hk3
      gi_wp2
      go_roundw
      case rel => exact ⟨k + 1, by go_num, by omega, HJ3, HK3⟩
      case measure => simp [intOf]; omega
    · obtain rfl : k = ls.length := by omega
      gi_wp2
      go_end0
      exact ⟨⟨_, rfl⟩, HI.out⟩
end Go.Proofs.YtinoomcboinokaaGreat

/- linear.each: the iterator over the values of a function, one entry after the other. -/
namespace Go.Proofs.YtinoomcboinokaaGreat
open Go Go.RowKit Go.Shelf Num
attribute [local go_sem] Oper.semAt_some

theorem eachI_in (F : Fence) (n : Nat) (hf : F.fn 70) (hro : F.round = none) (A : Option Addr) (m c gf : Nat) (bv : Value) (w : World) :
    CallsIn F n Tryz.prog 70 #[.slice A m c, .func (.func gf) #[bv] #[]] w fun e w' => e = .returned (.func (.func 87) #[] #[.pointer (some ⟨w.heap.size, 0, none⟩), .pointer (some ⟨w.heap.size + 1, 0, none⟩)]) ∧ w' = (w.alloc (.cells #[.slice A m c] 22)).alloc (.cells #[.func (.func gf) #[bv] #[]] 54) := by
  refine callsIn_of_wp Tryz.func70 rfl hf ?_ hro
  simp only [Tryz.ntmps70, List.size_toArray, List.length_cons, List.length_nil, Nat.reduceAdd, Nat.reduceSub, Array.replicate_succ, Array.replicate_zero, List.push_toArray, List.append_toArray, List.nil_append, List.cons_append]
  gi_wp2
  go_ret
  exact ⟨rfl, rfl⟩
theorem eachL_in (F : Fence) (n : Nat) (hf : F.fn 67) (hro : F.round = none) (A : Option Addr) (m c gf : Nat) (bv : Value) (w : World) :
    CallsIn F n Tryz.prog 67 #[.slice A m c, .func (.func gf) #[bv] #[]] w fun e w' => e = .returned (.func (.func 84) #[] #[.pointer (some ⟨w.heap.size, 0, none⟩), .pointer (some ⟨w.heap.size + 1, 0, none⟩)]) ∧ w' = (w.alloc (.cells #[.slice A m c] 25)).alloc (.cells #[.func (.func gf) #[bv] #[]] 67) := by
  refine callsIn_of_wp Tryz.func67 rfl hf ?_ hro
  simp only [Tryz.ntmps67, List.size_toArray, List.length_cons, List.length_nil, Nat.reduceAdd, Nat.reduceSub, Array.replicate_succ, Array.replicate_zero, List.push_toArray, List.append_toArray, List.nil_append, List.cons_append]
  gi_wp2
  go_ret
  exact ⟨rfl, rfl⟩

set_option maxRecDepth 100000 in
set_option maxHeartbeats 4000000 in
theorem eachI1_in (n : Nat) (h1 : 1 ≤ n) (l Lb Fb m c : Nat) (A : Option Addr) (bv : Value) (x : Nat → Value) (hm : m ≤ 1000000) (J : Nat → World → Prop) (w : World)
    (hL : w.cell? ⟨Lb, 0, none⟩ = some (.slice A m c)) (hF : ∀ k w', J k w' → w'.cell? ⟨Fb, 0, none⟩ = some (.func (.func 30) #[bv] #[])) (h0 : J 0 w)
    (hR : ∀ k w', k < m → J k w' → (∃ b o, A = some ⟨b, o, none⟩ ∧ w'.cell? ⟨b, o + k, none⟩ = some (x k)) ∧ CallsIn Fence.wide (n - 1) Tryz.prog 30 #[bv, x k] w' fun e w1 => ∃ r, e = .returned r ∧ YieldAt Fence.wide (n - 1) Tryz.prog l #[r] w1 fun e w2 => e = .returned (.bool true) ∧ J (k + 1) w2) :
    CallsIn Fence.wide n Tryz.prog 87 #[.func (.yield l) #[] #[], .pointer (some ⟨Lb, 0, none⟩), .pointer (some ⟨Fb, 0, none⟩)] w fun e w' => (∃ v, e = .returned v) ∧ J m w' := by
  have HF := Lib.hid hF
  have HR := Lib.hid hR
  have H0 := Lib.hid h0
  clear hF hR h0
  refine callsIn_of_wp Tryz.func87 rfl trivial ?_ rfl
  simp only [Tryz.ntmps87, List.size_toArray, List.length_cons, List.length_nil, Nat.reduceAdd, Nat.reduceSub, Array.replicate_succ, Array.replicate_zero, List.push_toArray, List.append_toArray, List.nil_append, List.cons_append]
  gi_wp2
  gi_loopw [8] (fun t wr => ∃ k : Nat, t = .int .i64 k ∧ k ≤ m ∧ Hid (J k wr)) (fun t _ => m - (intOf t).toNat)
  case atStart => exact ⟨0, rfl, Nat.zero_le _, H0⟩
  case round =>
    obtain ⟨k, rfl, hk, HI⟩ := hrel
    by_cases hlt : k < m
    · have c1 := HF.out k wr HI.out
      obtain ⟨⟨b, o, rfl, hx⟩, hc⟩ := HR.out k wr hlt HI.out
      have HC := Lib.hid hc
      clear hc
      generalize x k = xk at hx HC
      gi_wp2
      refine ⟨trivial, HC.out.mono ?_⟩
      rintro e W1 ⟨r, rfl, fn, tmps, assign, body, hy, hR⟩
      have HRR := Lib.hid hR
      clear hR
      gi_wp2
      refine HRR.out.mono ?_
      rintro e W3 ⟨rfl, hJ3⟩
      have HJ3 := Lib.hid hJ3
      clear hJ3
      gi_wp2
      go_roundw
      case rel => exact ⟨k + 1, by go_num, by omega, HJ3⟩
      case measure => simp [intOf]; omega
    · obtain rfl : k = m := by omega
      gi_wp2
      go_end0
      exact ⟨⟨_, rfl⟩, HI.out⟩
set_option maxRecDepth 100000 in
set_option maxHeartbeats 4000000 in
theorem eachL1_in (n : Nat) (h1 : 1 ≤ n) (l Lb Fb m c : Nat) (A : Option Addr) (bv : Value) (x : Nat → Value) (hm : m ≤ 1000000) (J : Nat → World → Prop) (w : World)
    (hL : w.cell? ⟨Lb, 0, none⟩ = some (.slice A m c)) (hF : ∀ k w', J k w' → w'.cell? ⟨Fb, 0, none⟩ = some (.func (.func 38) #[bv] #[])) (h0 : J 0 w)
    (hR : ∀ k w', k < m → J k w' → (∃ b o, A = some ⟨b, o, none⟩ ∧ w'.cell? ⟨b, o + k, none⟩ = some (x k)) ∧ CallsIn Fence.wide (n - 1) Tryz.prog 38 #[bv, x k] w' fun e w1 => ∃ r, e = .returned r ∧ YieldAt Fence.wide (n - 1) Tryz.prog l #[r] w1 fun e w2 => e = .returned (.bool true) ∧ J (k + 1) w2) :
    CallsIn Fence.wide n Tryz.prog 84 #[.func (.yield l) #[] #[], .pointer (some ⟨Lb, 0, none⟩), .pointer (some ⟨Fb, 0, none⟩)] w fun e w' => (∃ v, e = .returned v) ∧ J m w' := by
  have HF := Lib.hid hF
  have HR := Lib.hid hR
  have H0 := Lib.hid h0
  clear hF hR h0
  refine callsIn_of_wp Tryz.func84 rfl trivial ?_ rfl
  simp only [Tryz.ntmps84, List.size_toArray, List.length_cons, List.length_nil, Nat.reduceAdd, Nat.reduceSub, Array.replicate_succ, Array.replicate_zero, List.push_toArray, List.append_toArray, List.nil_append, List.cons_append]
  gi_wp2
  gi_loopw [8] (fun t wr => ∃ k : Nat, t = .int .i64 k ∧ k ≤ m ∧ Hid (J k wr)) (fun t _ => m - (intOf t).toNat)
  case atStart => exact ⟨0, rfl, Nat.zero_le _, H0⟩
  case round =>
    obtain ⟨k, rfl, hk, HI⟩ := hrel
    by_cases hlt : k < m
    · have c1 := HF.out k wr HI.out
      obtain ⟨⟨b, o, rfl, hx⟩, hc⟩ := HR.out k wr hlt HI.out
      have HC := Lib.hid hc
      clear hc
      generalize x k = xk at hx HC
      gi_wp2
      refine ⟨trivial, HC.out.mono ?_⟩
      rintro e W1 ⟨r, rfl, fn, tmps, assign, body, hy, hR⟩
      have HRR := Lib.hid hR
      clear hR
      gi_wp2
      refine HRR.out.mono ?_
      rintro e W3 ⟨rfl, hJ3⟩
      have HJ3 := Lib.hid hJ3
      clear hJ3
      gi_wp2
      go_roundw
      case rel => exact ⟨k + 1, by go_num, by omega, HJ3⟩
      case measure => simp [intOf]; omega
    · obtain rfl : k = m := by omega
      gi_wp2
      go_end0
      exact ⟨⟨_, rfl⟩, HI.out⟩
end Go.Proofs.YtinoomcboinokaaGreat
