/- The map of an elimination: its rows by their pivots; slices.Sorted(maps.Keys(m)). -/
import Derived.Test.YtinoomcboinokaaLTurn
import Derived.Test.YtinoomcboinokaaLShelf
import Derived.Maps.OwnSet
import Derived.Maps.OwnIn
namespace Go.Proofs.Ytinoomcboinokaa
open Go Go.RowKit Num Go.ChangeMaps Go.Shelf
open Go.Maps (Keyed IsMap has int_keyed keyOf_int_mk)

/-- A map's values as they are. -/
def heldE (v : Value) : Option (DataW Value × List MemPlace) := some (.held v, [])
theorem key_law : Keyed Try.prog 3 := int_keyed Try.underlying3
/-- The keys of a map are the numbers of a list, each with its value. -/
structure MapAt (D : DataW Value) (ls : List Nat) (val : Nat → Value) : Prop where
  has_iff : ∀ x : Int, has D (.int .i64 x) = true ↔ ∃ j, j ∈ ls ∧ x = (j : Int)
  at_ : ∀ j, j ∈ ls → ∀ zd, D.atKey (.int .i64 j) zd = .held (val j)
theorem MapAt.congr {D : DataW Value} {ls : List Nat} {val val' : Nat → Value} (h : MapAt D ls val) (e : ∀ j, j ∈ ls → val j = val' j) : MapAt D ls val' := ⟨h.has_iff, fun j hj zd => by rw [h.at_ j hj zd, e j hj]⟩
theorem key_wf {j : Nat} (h : j < 1000000) : (Lit.int .i64 (j : Int)).wf = true := by
  have h1 : IntKind.i64.min = -9223372036854775808 := by decide
  have h2 : IntKind.i64.max = 9223372036854775807 := by decide
  simp [Lit.wf]; omega
theorem key_differ {a b : Int} (h : a ≠ b) : Lit.int .i64 a ≠ Lit.int .i64 b := fun e => h (by injection e)
theorem MapAt.nil (val : Nat → Value) : MapAt (.map []) [] val := ⟨fun x => by simp [Maps.has], fun j h => by simp at h⟩
theorem MapAt.put {D : DataW Value} {ls ls' : List Nat} {val : Nat → Value} (h : MapAt D ls val) (hD : IsMap D) (j : Nat) (v : Value) (hl : ∀ i, i ∈ ls' ↔ i ∈ ls ∨ i = j) (hj : j ∉ ls) : MapAt (D.put (.int .i64 j) (.held v)) ls' (fun i => if i = j then v else val i) := by
  refine ⟨fun x => ?_, fun i hi zd => ?_⟩
  · by_cases e : x = (j : Int)
    · subst e
      rw [Maps.has_put_same hD (by simp [WideAt.IsKeyLit])]
      exact ⟨fun _ => ⟨j, (hl j).2 (.inr rfl), rfl⟩, fun _ => rfl⟩
    · rw [Maps.has_put_other (key_differ e), h.has_iff]
      constructor
      · rintro ⟨i, hi, rfl⟩; exact ⟨i, (hl i).2 (.inl hi), rfl⟩
      · rintro ⟨i, hi, rfl⟩
        rcases (hl i).1 hi with hi | rfl
        · exact ⟨i, hi, rfl⟩
        · exact absurd rfl e
  · by_cases e : i = j
    · subst e
      rw [if_pos rfl]
      exact Maps.atKey_put_same hD (by simp [WideAt.IsKeyLit]) _ zd
    · rw [if_neg e, Maps.atKey_put_other (key_differ (by omega))]
      rcases (hl i).1 hi with hi | rfl
      · exact h.at_ i hi zd
      · exact absurd rfl e
theorem zero_ints (w : World) : (zeroValue 22).run Try.prog w = .ok (.slice none 0 0) w := by kernel_rfl
theorem look_held {w : World} {b n : Nat} {D : DataW Value} {ls : List Nat} {val : Nat → Value} {j : Nat} (h : w.ownsMap Try.prog 3 heldE b n D) (hm : MapAt D ls val) (hj : j ∈ ls) (hl : j < 1000000) :
    (Instr.lookup 62 (.map (some b)) (.int .i64 j) false).run Try.prog w = .ok (val j) w := by
  obtain ⟨v, ps, hr, hv⟩ := h.lookup key_law Try.underlying62 (zero_ints w) (zd := .held (.slice none 0 0)) (zp := []) rfl (keyOf_int_mk Try.underlying3 (key_wf hl))
  rw [hm.at_ j hj] at hv
  simp only [heldE, Option.some.injEq, Prod.mk.injEq, DataW.held.injEq] at hv
  rw [hr, hv.1]
theorem map_make (w : World) : (Instr.makeMap 62 none).run Try.prog w = .ok (.map (some w.heap.size)) (w.alloc (.map #[] 0)) := by
  simp [Instr.makeMap, Result.andThen]
/-- The ints of a list. -/
def natZ (ls : List Nat) : List Int := ls.map fun (j : Nat) => (j : Int)
theorem sorted_natZ {ls : List Nat} (h : ls.Pairwise (· < ·)) {ss : List Int} (hp : ss.Perm (natZ ls)) : ss.mergeSort (fun x y => decide (x ≤ y)) = natZ ls := by
  have h1 := mergeSort_of_perm_i hp
  rw [show ss.mergeSort (fun x y => decide (x ≤ y)) = ss.mergeSort leI from rfl, h1]
  refine List.mergeSort_of_pairwise ?_
  unfold natZ
  refine List.pairwise_map.2 (h.imp fun {a b} hab => ?_)
  simp only [leI, decide_eq_true_eq]
  omega
theorem Try.sortsL (m : Nat) : AnyZI.SortsIn Try.prog Try.sortedL_ren Fence.wide m :=
  ⟨fun blk off cap ss W hH hblk hsz => callsIn_wide.2 (AnyM.slices_Sort_int Try.sortL blk off cap ss W hH hblk hsz),
   fun p cap W => callsIn_wide.2 (AnyM.slices_Sort_int_none Try.sortL p cap W)⟩
/-- The list of the keys, ascending, in new memory. -/
def KeysRet (ls : List Nat) (w : World) (e : Ending) (w' : World) : Prop := ∃ A c, e = .returned (.slice A ls.length c) ∧ (0 < ls.length → ∃ g cs, A = some ⟨g, 0, none⟩ ∧ w.heap.size ≤ g ∧ Row w' g 3 cs ∧ ∀ i (hi : i < ls.length), cs[i]? = some (.int .i64 (ls[i] : Nat))) ∧ Below w.heap.size w w'
theorem keys_in (n : Nat) (mb : Option Nat) (w : World) : CallsIn Fence.wide n Try.prog 54 #[.map mb] w fun e w' => e = .returned (.func (.func 65) #[] #[.pointer (some ⟨w.heap.size, 0, none⟩)]) ∧ w' = w.alloc (.cells #[.map mb] 62) :=
  AnyZI.keys_in Try.keysL Fence.wide n trivial rfl mb w
theorem sorted_in (n : Nat) (hn : 5 ≤ n) (b N : Nat) (D : DataW Value) (ls : List Nat) (val : Nat → Value) (w : World) (hown : w.ownsMap Try.prog 3 heldE b N D) (hm : MapAt D ls val) (hls : ls.Pairwise (· < ·)) (hN : N ≤ 1000000) :
    CallsIn Fence.wide n Try.prog 53 #[.func (.func 65) #[] #[.pointer (some ⟨w.heap.size, 0, none⟩)]] (w.alloc (.cells #[.map (some b)] 62)) (KeysRet ls w) := by
  have hbl := hown.lt
  have hown' : (w.alloc (.cells #[.map (some b)] 62)).ownsMap Try.prog 3 heldE b N D := hown.alloc _
  have hsz := hown.size_le
  have hseq : SeqGives Fence.wide (n - 1 - 1 - 1) Try.prog 65 #[.pointer (some ⟨w.heap.size, 0, none⟩)] encZ (fun ss => ss.Perm (intKeys D)) (Maps.size D) (w.alloc (.cells #[.map (some b)] 62)) :=
    AnyZI.keys_gives (ρ := Try.keysL_ren) { Try.keysL with } Fence.wide _ trivial rfl (by omega) w.heap.size b N D _ (by simp) (by have := Row.cell (i := 0) (Row.new w 62 #[.map (some b)]) rfl; exact this) hown'
  have hmx : (maxLen : Nat) = 9223372036854775807 := by decide
  have cS := AnyZI.sorted_in Try.sortedL Fence.wide n trivial trivial trivial trivial rfl (by omega) (Try.sortsL _) (enters_of Try.func64 (by kernel_rfl) rfl) 65 #[.pointer (some ⟨w.heap.size, 0, none⟩)] trivial (enters_of Try.func65 (by kernel_rfl) rfl) _ (Maps.size D) (by omega) (by omega) _ hseq
  refine CallsIn.mono cS ?_
  rintro e w' ⟨v, ss, rfl, hS, hrow, hnil, hb⟩
  have hcol : CollectedI D (fun _ => false) (natZ ls) := by
    refine ⟨?_, fun x => ?_⟩
    · unfold natZ
      exact List.pairwise_map.2 (hls.imp fun {a b} hab e => by omega)
    · rw [hm.has_iff]
      unfold natZ
      rw [List.mem_map]
      constructor
      · rintro ⟨j, hj, rfl⟩; exact ⟨⟨j, hj, rfl⟩, rfl⟩
      · rintro ⟨⟨j, hj, rfl⟩, _⟩; exact ⟨j, hj, rfl⟩
  have hp : ss.Perm (natZ ls) := hS.trans (hcol.perm hown key_law Try.underlying3 (fun _ => rfl)).symm
  have hlen : ss.length = ls.length := by rw [hp.length_eq]; simp [natZ]
  rw [sorted_natZ hls hp, hlen] at hrow
  have hbw : Below w.heap.size w w' := ((Below.refl _ w).alloc (Nat.le_refl _) _).trans (hb.mono (by simp))
  rcases hrow.2 with ⟨rfl, hz⟩ | ⟨gb, cap, cur, rfl, hbase, hgb, r1, r2, r3, r4⟩
  · exact ⟨none, 0, by rw [hz], fun h => by omega, hbw⟩
  · refine ⟨_, cap, rfl, fun h0 => ⟨gb, cur, rfl, by simp at hbase; omega, hgb, fun i hi => ?_⟩, hbw⟩
    have h1 : ((natZ ls).map encZ)[i]? = some (.int .i64 (ls[i] : Nat)) := by simp [natZ, hi]
    rw [← r4, List.getElem?_take_of_lt (by omega)] at h1
    rw [← Array.getElem?_toList]; simpa using h1
end Go.Proofs.Ytinoomcboinokaa
