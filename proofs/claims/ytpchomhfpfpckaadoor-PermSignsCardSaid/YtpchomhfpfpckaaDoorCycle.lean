/- perm.appendCycle. -/
import Derived.Test.YtpchomhfpfpckaaDoorBytes
import Derived.Test.YtpchomhfpfpckaaDoorCyc
namespace Go.Proofs.YtpchomhfpfpckaaDoor
open Go Go.RowKit

/-- The text of the first k points of a cycle. -/
def cycTo (cl : List Int) : Nat → List UInt8
  | 0 => []
  | k + 1 => (cycTo cl k ++ [if k = 0 then 40 else 32]) ++ dig (cl.getD k 0).toNat
def cycText (cl : List Int) : List UInt8 := cycTo cl cl.length ++ [41]
theorem cycTo_len (cl : List Int) (k : Nat) : (cycTo cl k).length ≤ 3 * k := by
  induction k with
  | zero => simp [cycTo]
  | succ k ih => have := dig_len (cl.getD k 0).toNat; simp only [cycTo, List.length_append, List.length_singleton]; omega
theorem cycText_len (cl : List Int) : (cycText cl).length ≤ 3 * cl.length + 1 := by
  have := cycTo_len cl cl.length
  simp only [cycText, List.length_append, List.length_singleton]; omega

def CycAt (w : World) (B : Nat) (v : Value) (l : List UInt8) (cl : List Int) (k : Nat) (v0 : Value) (wr : World) : Prop :=
  k ≤ cl.length ∧ Owns wr B v0 (l ++ cycTo cl k) ∧ AppTo w wr v v0 ∧ B ≤ wr.heap.size

/-- One byte appended. -/
theorem Owns.byte {w w1 : World} {B : Nat} {v v1 : Value} {L : List UInt8} (b : UInt8) {tmp : Obj} (hown' : w1.ownsRow B 5 1 v1 (L.length + 1) (bcells L ++ [.int .u8 (b.toNat : Int)]))
    (hgrow : (w.alloc tmp).grownBy w1 v.ownBlock) (hat : v1.ownBlock = v.ownBlock ∨ v1.ownBlock = some (w.alloc tmp).heap.size) : Owns w1 B v1 (L ++ [b]) ∧ AppTo w w1 v v1 ∧ w.heap.size ≤ w1.heap.size := by
  refine ⟨?_, (AppTo.of_at hgrow hat).alloc, by have := hgrow.size; simp at this; omega⟩
  unfold Owns
  rw [bcells_append, List.length_append]
  exact hown'

theorem cellu8 (w : World) (x : Value) (t : TypeId) : ∀ j u, [x][j]? = some u → (w.alloc (.cells #[x] t)).cell? ((⟨w.heap.size, 0, none⟩ : Addr).add j) = some u := cell_one_new w x t

set_option maxRecDepth 100000 in
set_option maxHeartbeats 1000000 in
theorem appendCycle_any (B : Nat) (v : Value) (l : List UInt8) (cl : List Int) (bc oc cc : Nat) (w : World) (hown : Owns w B v l) (hB : B ≤ w.heap.size) (hl : l.length ≤ 900000) (h64 : cl.length ≤ 64) (hin : InR 100 cl)
    (hne : some bc ≠ v.ownBlock) (hc : ∀ j, j < cl.length → w.cell? ⟨bc, oc + j, none⟩ = some (.int .i64 (cl.getD j 0))) :
    Calls Tryd.prog 67 #[v, .slice (some ⟨bc, oc, none⟩) cl.length cc] w (Appended w B v (l ++ cycText cl)) := by
  obtain ⟨i0, hi, hz0, hz1, hz2⟩ := info_parts info5
  have h00 : CycAt w B v l cl 0 v w := ⟨by omega, by simpa [cycTo] using hown, AppTo.refl _ _, hB⟩
  have H0 := Lib.hid h00
  clear h00 hown
  go_enter Tryd.func67, Tryd.ntmps67
  go_wp2
  go_loopw [0, 9] (fun v0 i wr => ∃ k : Nat, i = .int .i64 k ∧ CycAt w B v l cl k v0 wr) (fun _ i _ => cl.length - (intOf i).toNat)
  case atStart => exact ⟨0, rfl, H0.out⟩
  case round =>
    obtain ⟨k, rfl, hA⟩ := hrel
    obtain ⟨hk, hO, hT, hBr⟩ := hA
    have hLl : (l ++ cycTo cl k).length ≤ 900192 := by have := cycTo_len cl k; simp only [List.length_append]; omega
    by_cases hlt : k < cl.length
    · have hcell : wr.cell? ⟨bc, oc + k, none⟩ = some (.int .i64 (cl.getD k 0)) := hT.cell (hc k hlt) hne
      have hxr : 0 ≤ cl.getD k 0 ∧ cl.getD k 0 < 100 := hin _ (by simp [List.getD_eq_getElem?_getD, hlt])
      have HS : Hid (l ++ cycTo cl (k + 1) = ((l ++ cycTo cl k) ++ [if k = 0 then 40 else 32]) ++ dig (cl.getD k 0).toNat) := by
        have : l ++ cycTo cl (k + 1) = ((l ++ cycTo cl k) ++ [if k = 0 then 40 else 32]) ++ dig (cl.getD k 0).toNat := by simp [cycTo]
        exact this
      have HT := Lib.hid hT
      generalize hL : l ++ cycTo cl k = L at hO hLl HS
      clear hL hT hc hin H0
      generalize cl.getD k 0 = x at hcell hxr HS
      obtain ⟨u, rfl⟩ : ∃ u : Nat, x = (u : Int) := ⟨x.toNat, by omega⟩
      by_cases hk0 : k = 0
      · subst hk0
        rw [Nat.add_zero] at hcell
        go_wp2_with (first
          | (at_builtin; refine wpList_append_own_at _ rfl (.tmp 16) (.tmp 17) 81 rfl B 5 i0 (.int .u8 0) 1 1 Tryd.underlying81 hi hz0 hz1 hz2 rfl (by decide) _ _ _ rfl (World.ownsRow.alloc hO _) ⟨wr.heap.size, 0, none⟩ 1 1 [.int .u8 40] rfl rfl (cellu8 _ _ _) (by simp [Value.oneCell']) (by unfold maxLen; omega) (by omega) (by simp; omega) ?_; intro v1 w1 hown' hgrow _ hat; obtain ⟨hO1, hT1, hs1⟩ := Owns.byte 40 hown' hgrow hat; clear hown' hgrow hat)
          | (go_at_call 85; refine (appendInt_any u (by omega) B v1 (L ++ [40]) w1 hO1 (by omega) (by simp; omega)).mono ?_; rintro e w2 ⟨v2, rfl, hO2, hT2⟩; have hs2 := hT2.1.size))
        go_roundw
        case rel => exact ⟨1, by go_num, by omega, by rw [HS.out]; simpa using hO2, (HT.out.trans hT1).trans hT2, by omega⟩
        case measure => simp [intOf]; omega
      · have hk0' : ((k : Int) == 0) = false := by simp; omega
        go_wp2_with (first
          | (at_builtin; refine wpList_append_own_at _ rfl (.tmp 19) (.tmp 20) 81 rfl B 5 i0 (.int .u8 0) 1 1 Tryd.underlying81 hi hz0 hz1 hz2 rfl (by decide) _ _ _ rfl (World.ownsRow.alloc hO _) ⟨wr.heap.size, 0, none⟩ 1 1 [.int .u8 32] rfl rfl (cellu8 _ _ _) (by simp [Value.oneCell']) (by unfold maxLen; omega) (by omega) (by simp; omega) ?_; intro v1 w1 hown' hgrow _ hat; obtain ⟨hO1, hT1, hs1⟩ := Owns.byte 32 hown' hgrow hat; clear hown' hgrow hat)
          | (go_at_call 85; refine (appendInt_any u (by omega) B v1 (L ++ [32]) w1 hO1 (by omega) (by simp; omega)).mono ?_; rintro e w2 ⟨v2, rfl, hO2, hT2⟩; have hs2 := hT2.1.size))
        go_roundw
        case rel => exact ⟨k + 1, by go_num, by omega, by rw [HS.out, if_neg hk0]; simpa using hO2, (HT.out.trans hT1).trans hT2, by omega⟩
        case measure => simp [intOf]; omega
    · have hkk : k = cl.length := by omega
      have HS : Hid (l ++ cycText cl = (l ++ cycTo cl k) ++ [41]) := by
        have : l ++ cycText cl = (l ++ cycTo cl k) ++ [41] := by rw [hkk]; simp [cycText]
        exact this
      have HT := Lib.hid hT
      generalize hL : l ++ cycTo cl k = L at hO hLl HS
      clear hL hT hc hin H0 hkk
      go_wp2_with (at_builtin; refine wpList_append_own_at _ rfl (.tmp 26) (.tmp 27) 81 rfl B 5 i0 (.int .u8 0) 1 1 Tryd.underlying81 hi hz0 hz1 hz2 rfl (by decide) _ _ _ rfl (World.ownsRow.alloc hO _) ⟨wr.heap.size, 0, none⟩ 1 1 [.int .u8 41] rfl rfl (cellu8 _ _ _) (by simp [Value.oneCell']) (by unfold maxLen; omega) (by omega) (by simp; omega) ?_; intro v1 w1 hown' hgrow _ hat; obtain ⟨hO1, hT1, hs1⟩ := Owns.byte 41 hown' hgrow hat; clear hown' hgrow hat)
      go_ret
      exact ⟨v1, rfl, by rw [HS.out]; exact hO1, HT.out.trans hT1⟩
end Go.Proofs.YtpchomhfpfpckaaDoor
