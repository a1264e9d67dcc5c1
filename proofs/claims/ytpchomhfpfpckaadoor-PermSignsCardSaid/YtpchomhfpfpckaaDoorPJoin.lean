/- The reader's join. -/
import Derived.Test.YtpchomhfpfpckaaDoorPPoint
import Derived.Test.YtpchomhfpfpckaaDoorTab
import Derived.StillTailTactics
namespace Go.Proofs.YtpchomhfpfpckaaDoor
open Go Go.RowKit

/-- The images lie in a row of their own. -/
def ImgP (w : World) (I n : Nat) (m : List Int) : Prop := Row w I 3 (Tab n fun i => m.getD i 0) ∧ m.length = n
theorem ImgP.set {w : World} {I n : Nat} {m : List Int} (h : ImgP w I n m) {j : Nat} (hj : j < n) (y : Int) : ImgP (w.setCell ⟨I, j, none⟩ (.int .i64 y)) I n (m.set j y) := by
  refine ⟨?_, by simp [h.2]⟩
  have := h.1.set j (.int .i64 y)
  rw [Tab_set] at this
  rw [Tab_congr n (fun i => (m.set j y).getD i 0) (fun i => if i = j then y else m.getD i 0) (fun i hi => ?_)]
  · exact this
  · have hl := h.2
    simp only [List.getD_eq_getElem?_getD, List.getElem?_set]
    by_cases e : j = i
    · subst e
      rw [if_pos rfl, if_pos rfl, if_pos (by omega)]
      rfl
    · rw [if_neg e, if_neg (fun h => e h.symm)]
theorem ImgP.but {w w' : World} {I n t : Nat} {m : List Int} (h : ImgP w I n m) (hb : But t w.heap.size w w') (ht : I ≠ t) : ImgP w' I n m := ⟨(hb.2 I (Row.lt h.1) ht).trans h.1, h.2⟩

set_option maxRecDepth 100000 in
set_option maxHeartbeats 2000000 in
theorem join_any (w : World) (R I : Nat) (s : ByteArray) (n p c : Nat) (u m cl : List Int) (v : Value) (hRI : R ≠ I) (hr : RdP w R s p u (.slice (some ⟨I, 0, none⟩) n c)) (hi : ImgP w I n m) (hl : cl.length ≤ 1000000) (hin : InR n cl) (hv : Ints w w.heap.size v cl)
    (hvI : ∀ b o k q, v = .slice (some ⟨b, o, none⟩) k q → b ≠ I) :
    Calls Tryd.prog 86 #[.pointer (some ⟨R, 0, none⟩), v] w fun e w' => e = .returned (.tuple #[]) ∧ RdP w' R s p u (.slice (some ⟨I, 0, none⟩) n c) ∧ ImgP w' I n (joinL m cl) ∧ But I w.heap.size w w' := by
  obtain ⟨A, cv, rfl, h⟩ := hv
  have hat : ∀ j, j < cl.length → ∃ b o, A = some ⟨b, o, none⟩ ∧ b < w.heap.size ∧ b ≠ I ∧ w.cell? ⟨b, o + j, none⟩ = some (.int .i64 (cl.getD j 0)) := fun j hj => by
    obtain ⟨b, o, e, hb, hc⟩ := h (by omega)
    exact ⟨b, o, e, hb, hvI b o _ _ (by rw [e]), hc j hj⟩
  have HA := Lib.hid hat
  have HIN := Lib.hid hin
  have HR := Lib.hid hr
  have HI := Lib.hid hi
  have hIlt : I < w.heap.size := Row.lt hi.1
  clear h hvI hat hin hr hi
  go_enter Tryd.func86, Tryd.ntmps86
  go_wp2
  go_loopw [8] (fun i wr => ∃ k : Nat, i = .int .i64 k ∧ k ≤ cl.length ∧ ImgP wr I n (joinTo m cl k) ∧ But I w.heap.size w wr) (fun i _ => cl.length - (intOf i).toNat)
  case atStart => exact ⟨0, rfl, Nat.zero_le _, HI.out, But.refl _ _ _⟩
  case round =>
    obtain ⟨k, rfl, hk, hm, hb⟩ := hrel
    have hrr : RdP wr R s p u (.slice (some ⟨I, 0, none⟩) n c) := HR.out.but hb hRI
    have HRR := Lib.hid hrr
    by_cases hlt : k < cl.length
    · obtain ⟨b, o, rfl, hbl, hbI, hc0⟩ := HA.out k hlt
      have hne : ¬ cl = [] := by intro e; rw [e] at hlt; simp at hlt
      obtain ⟨j, hj⟩ : ∃ j, (k + 1) % cl.length = j := ⟨_, rfl⟩
      have hjl : j < cl.length := by rw [← hj]; exact Nat.mod_lt _ (by omega)
      have hrem : ((k : Int) + 1) % (cl.length : Int) = (j : Int) := by rw [← hj]; simp
      have hrem2 : ((k : Int) + 1).tmod (cl.length : Int) = (j : Int) := by rw [Int.tmod_eq_emod_of_nonneg (by omega)]; exact hrem
      obtain ⟨b', o', e', hbl', hbI', hc1⟩ := HA.out j hjl
      injection e' with e'
      injection e' with e1 e2
      subst e1; subst e2
      have hk0 : wr.cell? ⟨b, o + k, none⟩ = some (.int .i64 (cl.getD k 0)) := (World.cell?_of_block (a := ⟨b, o + k, none⟩) (hb.2 b hbl hbI)).trans hc0
      have hk1 : wr.cell? ⟨b, o + j, none⟩ = some (.int .i64 (cl.getD j 0)) := (World.cell?_of_block (a := ⟨b, o + j, none⟩) (hb.2 b hbl hbI)).trans hc1
      have hmem : cl.getD k 0 ∈ cl := by simp [List.getD_eq_getElem?_getD, hlt]
      obtain ⟨r0, r1⟩ := HIN.out _ hmem
      have HJ := Lib.hid (show joinTo m cl (k + 1) = (joinTo m cl k).set (cl.getD k 0).toNat (cl.getD j 0) by rw [joinTo, hj])
      clear hc0 hc1 hmem
      generalize cl.getD k 0 = x at hk0 r0 r1 HJ
      generalize cl.getD j 0 = y at hk1 HJ
      obtain ⟨z, rfl⟩ : ∃ z : Nat, x = (z : Int) := ⟨x.toNat, by omega⟩
      rw [Int.toNat_natCast] at HJ
      have hzn : z < n := by omega
      have hl66 := Row.cell hrr (rd_66 s p u (.slice (some ⟨I, 0, none⟩) n c))
      have hfz := Row.frozen hm.1 z
      have hcz := Row.cell hm.1 (Tab_get n (fun i => (joinTo m cl k).getD i 0) z hzn)
      have hwr : IntKind.i64.wrap ((k : Int) + 1) = (k : Int) + 1 := IntWalk.i64_in _ (by omega)
      have HM := Lib.hid hm
      have HB := Lib.hid hb
      clear hm hb hrr hj
      generalize (joinTo m cl k).getD z 0 = old at hcz
      go_wp2_with fail
      go_still_tail 14, (by kernel_rfl)
      repeat still_step
      change wpList _ _ _ _ _ wr.drew
      go_wp2_with fail
      go_roundw
      case rel => exact ⟨k + 1, by go_num, by omega, by rw [HJ.out]; have h5 : ImgP wr.drew I n (joinTo m cl k) := HM.out; exact h5.set hzn y, (HB.out.drawnB 1).trans ((But.set wr.drew (p := ⟨I, z, none⟩) (.inl rfl) (Nat.le_of_lt (Nat.lt_of_lt_of_le hIlt HB.out.1.size)) _).mono HB.out.1.size)⟩
      case measure => simp [intOf]; omega
    · have hkk : k = cl.length := by omega
      rw [hkk] at hm
      have HM := Lib.hid hm
      have HB := Lib.hid hb
      clear hm hb hkk hrr
      go_wp2_with fail
      go_end0
      exact ⟨rfl, HRR.out, HM.out, HB.out⟩
end Go.Proofs.YtpchomhfpfpckaaDoor
