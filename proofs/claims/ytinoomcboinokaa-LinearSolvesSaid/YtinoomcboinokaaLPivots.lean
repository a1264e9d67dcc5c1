/- linear.elimination.pivots: the iterator over the pivots, ascending, with their rows. -/
import Derived.Test.YtinoomcboinokaaLJ
import Derived.Test.YtinoomcboinokaaLKeys
import Derived.OwnWalkIn
import Derived.TacticsInMore
import Derived.LoopNIn
import Derived.Sort.LoopGhostIn
import Derived.LoopIn
import Derived.Shelf.Abstract
import Derived.WalkSpells
namespace Go.Proofs.Ytinoomcboinokaa
open Go Go.RowKit Go.Shelf Num
attribute [local go_sem] Oper.semAt_some

theorem cell_obj {w : World} {p : Addr} {u : Value} (h : w.cell? p = some u) : ∃ o, w.heap[p.block]? = some o ∧ o.isCells = true := by
  unfold World.cell? at h
  split at h
  · rename_i cs t fz hb; exact ⟨_, hb, rfl⟩
  · cases h
theorem cell_same {w w' : World} {p : Addr} {u : Value} (h : w.cell? p = some u) (hk : ∀ o, w.heap[p.block]? = some o → o.isCells = true → w'.heap[p.block]? = some o) : w'.cell? p = some u := by
  obtain ⟨o, ho, hc⟩ := cell_obj h
  rw [← h]
  unfold World.cell?
  rw [(hk o ho hc).trans ho.symm]
/-- What ints lie from B on stay. -/
def KeepA (B : Nat) (w w' : World) : Prop := w.heap.size ≤ w'.heap.size ∧ ∀ q cs, B ≤ q → Row w q 3 cs → Row w' q 3 cs
theorem KeepA.refl (B : Nat) (w : World) : KeepA B w w := ⟨Nat.le_refl _, fun _ _ _ h => h⟩
theorem KeepA.trans {B : Nat} {X Y Z : World} (h : KeepA B X Y) (k : KeepA B Y Z) : KeepA B X Z := ⟨Nat.le_trans h.1 k.1, fun q o hq ho => k.2 q o hq (h.2 q o hq ho)⟩
/-- The elimination at eb: its map, in block mb, has the keys ls with their values. -/
def EMap (w : World) (p : Int) (W eb mb N : Nat) (ls : List Nat) (val : Nat → Value) : Prop :=
  Row w eb 64 #[.int .i64 p, .int .i64 W, .map (some mb)] ∧ ∃ D : DataW Value, w.ownsMap Try.prog 3 heldE mb N D ∧ MapAt D ls val
theorem EMap.below {w w' : World} {p : Int} {W eb mb N : Nat} {ls : List Nat} {val : Nat → Value} (h : EMap w p W eb mb N ls val) (hb : Below w.heap.size w w') : EMap w' p W eb mb N ls val := by
  obtain ⟨h1, D, h2, h3⟩ := h
  refine ⟨Row.below h1 hb h1.lt, D, ?_, h3⟩
  obtain ⟨es, clock, hc, r⟩ := h2
  exact ⟨es, clock, (hb.block _ (Array.getElem?_eq_some_iff.1 hc).1).trans hc, r⟩
theorem EMap.turn {S : Nat → Prop} {w w' : World} {p : Int} {W eb mb N : Nat} {ls : List Nat} {val : Nat → Value} (h : EMap w p W eb mb N ls val) (hb : Turn S w w') (he : ¬ S eb) (hm : ¬ S mb) : EMap w' p W eb mb N ls val := by
  obtain ⟨h1, D, h2, h3⟩ := h
  refine ⟨h1.turn hb he, D, ?_, h3⟩
  obtain ⟨es, clock, hc, r⟩ := h2
  exact ⟨es, clock, hb.keep hc hm, r⟩

theorem pivots_in (F : Fence) (n : Nat) (hf : F.fn 38) (hro : F.round = none) (eb : Nat) (w : World) :
    CallsIn F n Try.prog 38 #[.pointer (some ⟨eb, 0, none⟩)] w fun e w' => e = .returned (.func (.func 52) #[] #[.pointer (some ⟨w.heap.size, 0, none⟩)]) ∧ w' = w.alloc (.cells #[.pointer (some ⟨eb, 0, none⟩)] 52) := by
  refine callsIn_of_wp Try.func38 rfl hf ?_ hro
  simp only [Try.ntmps38, List.size_toArray, List.length_cons, List.length_nil, Nat.reduceAdd, Nat.reduceSub, Array.replicate_succ, Array.replicate_zero, List.push_toArray, List.append_toArray, List.nil_append, List.cons_append]
  gi_wp2
  go_ret
  exact ⟨rfl, rfl⟩

set_option maxRecDepth 100000 in
set_option maxHeartbeats 4000000 in
theorem pivots1_in (n : Nat) (hn : 7 ≤ n) (l sb eb mb N W : Nat) (p : Int) (ls : List Nat) (hls : ls.Pairwise (· < ·)) (hlt : ∀ j, j ∈ ls → j < 1000) (hlen : ls.length ≤ 1000) (hN : N ≤ 1000000) (val : Nat → Value) (J : Nat → World → Prop) (w : World)
    (hJ : ∀ k w', J k w' → w'.cell? ⟨sb, 0, none⟩ = some (.pointer (some ⟨eb, 0, none⟩)) ∧ EMap w' p W eb mb N ls val)
    (h0 : J 0 w) (hJ0 : ∀ w', Below w.heap.size w w' → J 0 w')
    (hY : ∀ k w' (hk : k < ls.length), J k w' → YieldAt Fence.wide (n - 1) Try.prog l #[.int .i64 (ls[k] : Nat), val ls[k]] w' fun e w2 => e = .returned (.bool true) ∧ J (k + 1) w2 ∧ KeepA w.heap.size w' w2) :
    CallsIn Fence.wide n Try.prog 52 #[.func (.yield l) #[] #[], .pointer (some ⟨sb, 0, none⟩)] w fun e w' => (∃ v, e = .returned v) ∧ J ls.length w' := by
  obtain ⟨c0, hE⟩ := hJ 0 w h0
  obtain ⟨hr, D, hown, hm⟩ := hE
  have c1 : w.cell? ⟨eb, 2, none⟩ = some (.map (some mb)) := hr.cell rfl
  have h1 : 1 ≤ n := by omega
  have HS := Lib.hid (sorted_in (n - 1) (by omega) mb N D ls val w hown hm hls hN)
  have HJ := Lib.hid hJ
  have HJ0 := Lib.hid hJ0
  have HY := Lib.hid hY
  have HL := Lib.hid hlt
  clear hJ hJ0 hY hlt h0 hr hown hm
  refine callsIn_of_wp Try.func52 rfl trivial ?_ rfl
  simp only [Try.ntmps52, List.size_toArray, List.length_cons, List.length_nil, Nat.reduceAdd, Nat.reduceSub, Array.replicate_succ, Array.replicate_zero, List.push_toArray, List.append_toArray, List.nil_append, List.cons_append]
  gi_wp2
  refine ⟨trivial, (keys_in _ _ _).mono ?_⟩
  rintro e w' ⟨rfl, rfl⟩
  gi_wp2
  refine ⟨trivial, HS.out.mono ?_⟩
  rintro e w' ⟨A, c, rfl, hg, hb⟩
  gi_wp2
  have HG := Lib.hid hg
  have HB := Lib.hid hb
  have hz := hb.size
  clear hg hb c0 c1
  gi_loopw [12] (fun t wr => ∃ k : Nat, t = .int .i64 k ∧ k ≤ ls.length ∧ Hid (J k wr) ∧ Hid (KeepA w.heap.size w' wr)) (fun t _ => ls.length - (intOf t).toNat)
  case atStart => exact ⟨0, rfl, Nat.zero_le _, Lib.hid (HJ0.out _ HB.out), Lib.hid (KeepA.refl _ _)⟩
  case round =>
    obtain ⟨k, rfl, hk, HI, HK⟩ := hrel
    by_cases hlt : k < ls.length
    · obtain ⟨g, cs, rfl, hg1, hg2, hgc⟩ := HG.out (by omega)
      have hx : wr.cell? ⟨g, k, none⟩ = some (.int .i64 (ls[k] : Nat)) := (HK.out.2 _ _ hg1 hg2).cell (hgc k hlt)
      obtain ⟨c0, hE⟩ := HJ.out k wr HI.out
      obtain ⟨hr, D2, hown, hm⟩ := hE
      have c1 : wr.cell? ⟨eb, 2, none⟩ = some (.map (some mb)) := hr.cell rfl
      have hmem : ls[k] ∈ ls := List.getElem_mem hlt
      have hlook := look_held hown hm hmem (by have := HL.out _ hmem; omega)
      obtain ⟨fn, tmps, assign, body, hy, hR⟩ := HY.out k wr hlt HI.out
      have HR := Lib.hid hR
      clear hr hown hm hR hgc hg2 hmem
      generalize ls[k] = j at hx hlook hy
      generalize val j = vj at hlook hy
      gi_wp2
      refine HR.out.mono ?_
      rintro e W3 ⟨rfl, hJ3, hk3⟩
      have HJ3 := Lib.hid hJ3
      have HK3 := Lib.hid (HK.out.trans hk3)
      clear hJ3 hk3
      gi_wp2
      go_roundw
      case rel => exact ⟨k + 1, by go_num, by omega, HJ3, HK3⟩
      case measure => simp [intOf]; omega
    · obtain rfl : k = ls.length := by omega
      gi_wp2
      go_end0
      exact ⟨⟨_, rfl⟩, HI.out⟩
end Go.Proofs.Ytinoomcboinokaa
