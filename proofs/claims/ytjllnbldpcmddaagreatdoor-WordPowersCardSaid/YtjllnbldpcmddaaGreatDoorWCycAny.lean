/- Cyclic of any word, the code's and the reference's (seat ZD alone). -/
import Derived.Test.YtjllnbldpcmddaaGreatDoorWRefC
import Derived.Test.YtjllnbldpcmddaaGreatDoorWOwn
import Derived.Test.YtjllnbldpcmddaaGreatDoorWEndsMath
namespace Go.Proofs.YtjllnbldpcmddaaGreatDoor
open Go Go.RowKit

theorem no_pair' {l : List Int} (h : Red l) {j : Nat} (hj : j + 1 < l.length) : canc (l.getD j 0) (l.getD (j + 1) 0) = false := by
  have e1 : l = l.take j ++ l[j] :: l[j + 1] :: l.drop (j + 2) := by
    conv => lhs; rw [← List.take_append_drop j l, List.drop_eq_getElem_cons (show j < l.length by omega), List.drop_eq_getElem_cons (show j + 1 < l.length by omega)]
  have hc : canc l[j] l[j + 1] = false := by rw [e1] at h; exact h.mid
  simpa [List.getD_eq_getElem?_getD, List.getElem?_eq_getElem (show j < l.length by omega), List.getElem?_eq_getElem hj] using hc
theorem ends_short' {l : List Int} {k : Nat} (hr : Red l) (h0 : 0 < l.length) (h : EndsAt l k) : 2 * k < l.length := by
  obtain ⟨h1, h2, h3⟩ := h
  apply Nat.lt_of_not_le
  intro hc
  obtain ⟨j, hj | hj⟩ : ∃ j, l.length = 2 * j ∨ l.length = 2 * j + 1 := ⟨l.length / 2, by omega⟩
  · have := h2 (j - 1) (by omega)
    unfold pairAt at this
    rw [show l.length - 1 - (j - 1) = (j - 1) + 1 by omega, canc_comm, no_pair' hr (by omega)] at this
    cases this
  · have := h2 j (by omega)
    unfold pairAt at this
    rw [show l.length - 1 - j = j by omega, canc_self] at this
    cases this
theorem ends_one {l : List Int} {k k' : Nat} (h : EndsAt l k) (h' : EndsAt l k') : k = k' := by
  obtain ⟨a1, a2, a3⟩ := h
  obtain ⟨b1, b2, b3⟩ := h'
  rcases Nat.lt_trichotomy k k' with c | c | c
  · have x := a3 (by omega)
    rw [b2 k c] at x
    cases x
  · exact c
  · have x := b3 (by omega)
    rw [a2 k' c] at x
    cases x
/-- The reference's loop has found the ends. -/
theorem ends_of {l : List Int} {k : Nat} (hr : Red l) (h1 : 2 * k ≤ l.length) (h2 : ∀ j, j < k → pairAt l j = true) (h3 : l.length - 2 * k ≤ 1 ∨ pairAt l k = false) : EndsAt l k := by
  refine ⟨by omega, h2, fun hk => ?_⟩
  rcases h3 with h3 | h3
  · by_cases he : l.length = 2 * k
    · exfalso
      have := h2 (k - 1) (by omega)
      unfold pairAt at this
      rw [show l.length - 1 - (k - 1) = (k - 1) + 1 by omega, canc_comm, no_pair' hr (by omega)] at this
      cases this
    · unfold pairAt
      rw [show l.length - 1 - k = k by omega]
      exact canc_self _
  · exact h3
theorem midW_zero (l : List Int) : midW l 0 = l := by simp [midW]
theorem midW_len (l : List Int) {k : Nat} (h : 2 * k ≤ l.length) : (midW l k).length = l.length - 2 * k := by simp [midW]; omega
theorem midW_step {l : List Int} {k : Nat} (h : 2 * k + 1 < l.length) : midW (midW l k) 1 = midW l (k + 1) := by
  have e1 := midW_len l (k := k) (by omega)
  have e2 := midW_len l (k := k + 1) (by omega)
  have e3 := midW_len (midW l k) (k := 1) (by omega)
  refine ext_getD (by omega) fun i hi => ?_
  rw [midW_get (by omega), midW_get (by omega), midW_get (by omega)]
  congr 1
  omega

def lenW : Value → Nat | .slice _ n _ => n | _ => 0
theorem OwnsI.capLe {w : World} {B n c : Nat} {A : Option Addr} {l : List Int} (h : OwnsI w B (.slice A n c) l) : l.length ≤ c := by
  rcases h.2 with ⟨e, h0⟩ | ⟨g, cap, cur, e, hb, hg, hnc, _⟩
  · omega
  · injection e with _ _ e3
    omega
/-- 'v[1:len(v)-1]'. -/
theorem cut_mid1 {w : World} {B : Nat} {A : Option Addr} {c : Nat} {l : List Int} (h : Ints w B (.slice A l.length c) l) (hc : l.length ≤ c) (h1 : 1 < l.length) :
    ∃ A' c', (∀ W, (Instr.slice 23 (.slice A l.length c) (some (.int .i64 1)) (some (.int .i64 ((l.length - 1 : Nat) : Int))) none).run Tryz.prog W = .ok (.slice A' (midW l 1).length c') W) ∧ (midW l 1).length ≤ c' ∧ Ints w B (.slice A' (midW l 1).length c') (midW l 1) := by
  obtain ⟨i0, hi, hz0, hz1, hz2⟩ := info_parts info3'
  have hlen := midW_len l (k := 1) (by omega)
  obtain ⟨A', c', e, h⟩ := h
  injection e with e1 _ e3
  subst e1; subst e3
  obtain ⟨b, o, rfl, hb, hcell⟩ := h (by omega)
  refine ⟨some ⟨b, o + 1, none⟩, c - 1, fun W => ?_, by omega, ?_⟩
  · rw [run_slice_lh W 23 (some ⟨b, o, none⟩) l.length c (by kernel_rfl) .i64 .i64 1 ((l.length - 1 : Nat) : Int) (by omega) (by omega) (by omega)]
    have : (sizeOf (Tryz.prog.elem 23)).run Tryz.prog W = .ok 1 W := by
      have e : Tryz.prog.elem 23 = 3 := by kernel_rfl
      rw [e]; simp [sizeOf, typeInfo, hi, hz1]
    rw [this, Int.toNat_natCast, show ((1 : Int)).toNat = 1 by rfl]
    show Result.ok (sliced (some ⟨b, o, none⟩) 1 (l.length - 1) c 1) W = _
    unfold sliced
    rw [if_neg (by omega), addr_map _ 1 b o rfl, hlen, Nat.sub_sub]
  · refine ⟨_, _, rfl, fun _ => ⟨b, o + 1, rfl, hb, fun j hj => ?_⟩⟩
    rw [hlen] at hj
    rw [Nat.add_assoc, hcell (1 + j) (by omega), midW_get (by omega)]

/-- 'v[k:len(v)-k]', k the ends. -/
theorem cut_ends' {w : World} {B : Nat} {A : Option Addr} {cap : Nat} {l : List Int} (h : OwnsI w B (.slice A l.length cap) l) {k : Nat} (hr : Red l) (hE : EndsAt l k) :
    ∃ A' c, (∀ W, (Instr.slice 23 (.slice A l.length cap) (some (.int .i64 (k : Int))) (some (.int .i64 ((l.length - k : Nat) : Int))) none).run Tryz.prog W = .ok (.slice A' (midW l k).length c) W) ∧ (midW l k).length ≤ c ∧ Ints w w.heap.size (.slice A' (midW l k).length c) (midW l k) := by
  obtain ⟨i0, hi, hz0, hz1, hz2⟩ := info_parts info3'
  have hsz : ∀ W, (sizeOf (Tryz.prog.elem 23)).run Tryz.prog W = .ok 1 W := fun W => by
    have e : Tryz.prog.elem 23 = 3 := by kernel_rfl
    rw [e]; simp [sizeOf, typeInfo, hi, hz1]
  by_cases h0 : l.length = 0
  · have hk : k = 0 := by have := hE.1; omega
    have e : l = [] := List.length_eq_zero_iff.1 h0
    subst e hk
    have hm : midW [] 0 = [] := rfl
    rw [hm]
    refine ⟨if cap = 0 then A else A.map (·.add (0 * 1)), cap, fun W => ?_, Nat.zero_le _, ⟨_, cap, rfl, fun h => absurd h (by simp)⟩⟩
    rw [run_slice_lh W 23 A ([] : List Int).length cap (by kernel_rfl) .i64 .i64 ((0 : Nat) : Int) (((([] : List Int).length - 0 : Nat)) : Int) (by omega) (by simp) (by simp)]
    rw [hsz]
    rfl
  · have hsh := ends_short' hr (by omega) hE
    have hlen := midW_length l hsh
    obtain ⟨g, cap', e, hb, hg, hcap, hcell⟩ := h.form (by omega)
    injection e with e1 _ e3
    subst e1; subst e3
    refine ⟨some ⟨g, k, none⟩, cap - k, fun W => ?_, by omega, ?_⟩
    · rw [run_slice_lh W 23 (some ⟨g, 0, none⟩) l.length cap (by kernel_rfl) .i64 .i64 k ((l.length - k : Nat) : Int) (by omega) (by omega) (by omega)]
      rw [hsz, Int.toNat_natCast, Int.toNat_natCast]
      show Result.ok (sliced (some ⟨g, 0, none⟩) k (l.length - k) cap 1) W = _
      unfold sliced
      rw [if_neg (by omega), addr_map _ k g 0 rfl, Nat.zero_add, hlen, show l.length - k - k = l.length - 2 * k by omega]
    · refine ⟨_, _, rfl, fun _ => ⟨g, k, rfl, hg, fun j hj => ?_⟩⟩
      rw [hlen] at hj
      rw [hcell (k + j) (by omega), midW_get (by omega)]

/-- A call has given a list that can be read. -/
def GivesR (w : World) (l : List Int) (e : Ending) (w' : World) : Prop := ∃ r, e = .returned r ∧ Ints w' w'.heap.size r l ∧ Below w.heap.size w w'
/-- The cyclically reduced form. -/
def IsCyc (zs l : List Int) : Prop := ∃ k, EndsAt (red zs) k ∧ l = midW (red zs) k
theorem IsCyc.one {zs l l' : List Int} (h : IsCyc zs l) (h' : IsCyc zs l') : l = l' := by
  obtain ⟨k, a, rfl⟩ := h
  obtain ⟨k', b, rfl⟩ := h'
  rw [ends_one a b]

set_option maxRecDepth 100000 in
set_option maxHeartbeats 1000000 in
theorem refCyclic_any (v : Value) (a : List Int) (w : World) (ha : a.length ≤ 100000) (ra : Rng a) (hv : Ints w w.heap.size v a) :
    Calls Tryz.prog 26 #[v] w fun e w' => ∃ l, IsCyc a l ∧ GivesR w l e w' := by
  have HR := Lib.hid (refReduce_any v a w (by omega) ra hv)
  have Hrr := Lib.hid (red_red a)
  have Hrg := Lib.hid ra.red
  have hrl : (red a).length ≤ 100000 := Nat.le_trans (red_length a) ha
  obtain ⟨A, c, rfl⟩ := hv.form
  have HC : Hid (∀ k, EndsAt (red a) k → IsCyc a (midW (red a) k)) := fun k h => ⟨k, h, rfl⟩
  clear hv ha ra
  generalize red a = l at HR Hrr Hrg HC hrl
  go_enter Tryz.func26, Tryz.ntmps26
  go_wp2_with fail
  refine (HR.out).mono ?_
  rintro e w1 ⟨r1, rfl, ho, hb⟩
  obtain ⟨A1, c1, rfl⟩ := ho.len
  have hcap0 : l.length ≤ c1 := ho.capLe
  have HI0 := Lib.hid ho.ints
  have HB := Lib.hid hb
  have HP0 : Hid (∀ j, j < 0 → pairAt l j = true) := fun j hj => absurd hj (by omega)
  clear ho hb HR
  go_wp2_with fail
  go_loopw [0] (fun v wr => ∃ (k n : Nat) (A2 : Option Addr) (c2 : Nat), v = .slice A2 (midW l k).length c2 ∧ (midW l k).length ≤ c2 ∧ 2 * k ≤ l.length ∧ Hid (∀ j, j < k → pairAt l j = true) ∧ Ints wr wr.heap.size (.slice A2 (midW l k).length c2) (midW l k) ∧ wr = w1.drewN n) (fun v _ => lenW v)
  case atStart => exact ⟨0, 0, A1, c1, by rw [midW_zero], by rw [midW_zero]; exact hcap0, by omega, HP0, by rw [midW_zero]; exact HI0.out, rfl⟩
  case round =>
    obtain ⟨k, n, A2, c2, rfl, hcap, hk2, HE, hI, hwr⟩ := hrel
    have HW := Lib.hid (show ∀ m q, q = wr.drewN m → ∃ n', q = w1.drewN n' from fun m q e => ⟨n + m, by rw [e, hwr, World.drewN_drewN]⟩)
    have hml := midW_len l hk2
    have hRm : Rng (midW l k) := fun x hx => Hrg.out x (List.mem_of_mem_take (List.mem_of_mem_drop hx))
    have HI := Lib.hid hI
    by_cases h1 : 1 < (midW l k).length
    · have hp : pairAt l k = canc ((midW l k).getD 0 0) ((midW l k).getD ((midW l k).length - 1) 0) := by
        unfold pairAt
        rw [midW_get (by omega), midW_get (by omega), canc_comm, hml, Nat.add_zero, show k + (l.length - 2 * k - 1) = l.length - 1 - k by omega]
      have HC0 := fun W => refCancel_any ((midW l k).getD 0 0) ((midW l k).getD ((midW l k).length - 1) 0) W (hRm.at (by omega)) (hRm.at (by omega))
      have HSt := Lib.hid (midW_step (l := l) (k := k) (by omega))
      have hml2 := midW_len l (k := k + 1) (by omega)
      obtain ⟨A3, c3, hcut, hcap3, hI3⟩ := cut_mid1 hI hcap h1
      rw [HSt.out] at hcut hcap3 hI3
      have HI3 := Lib.hid hI3
      obtain ⟨A', c', e, hh⟩ := hI
      injection e with e1 _ e3
      subst e1; subst e3
      obtain ⟨b, o, rfl, hb, hcell⟩ := hh (by omega)
      have hc0 := hcell 0 (by omega)
      have hc1 := hcell ((midW l k).length - 1) (by omega)
      rw [Nat.add_zero] at hc0
      have HEX := Lib.hid (fun h3 => ends_of Hrr.out hk2 HE h3)
      have HE2 : pairAt l k = true → Hid (∀ j, j < k + 1 → pairAt l j = true) := fun e j hj => by
        by_cases e' : j = k
        · subst e'; exact e
        · exact HE j (by omega)
      have HE3 := Lib.hid HE2
      rw [hp] at HE3 HEX
      have HR3 := Lib.hid hRm
      clear hcell hh hI3 HE2 hRm hp hwr HE
      obtain ⟨m2, hm2⟩ : ∃ m2, m2 = midW l (k + 1) := ⟨_, rfl⟩
      have HM2 := Lib.hid hm2
      rw [← hm2] at hcut hcap3 HI3 hml2
      obtain ⟨m, hm⟩ : ∃ m, m = midW l k := ⟨_, rfl⟩
      have HM := Lib.hid hm
      rw [← hm] at hcut hcap HI hml HC0 hc0 hc1 HE3 HEX h1 HR3 ⊢
      clear hm2 hm HSt
      have hlen2 : m2.length + 2 = m.length := by omega
      have hpos : (1 : Int) < (m.length : Int) := by omega
      have hdec : decide (1 < m.length) = true := by simpa using h1
      have hlt0 : 0 < m.length := by omega
      have hlt1 : m.length - 1 < m.length := by omega
      have hin : ((m.length : Int) - 1) = ((m.length - 1 : Nat) : Int) := by omega
      have hw1 : IntKind.i64.wrap ((m.length : Int) - 1) = ((m.length - 1 : Nat) : Int) := by rw [IntKind.wrap_i64]; omega
      have hw3 : IntKind.i64.wrap ((m.length - 1 : Nat) : Int) = ((m.length - 1 : Nat) : Int) := by rw [IntKind.wrap_i64]; omega
      by_cases hcn : canc (m.getD 0 0) (m.getD (m.length - 1) 0) = true
      · rw [hcn] at HC0
        have HE4 := Lib.hid (HE3.out hcn)
        have HCC := Lib.hid HC0
        have HN2 := Lib.hid hlen2
        have HK2 := Lib.hid hk2
        have HML2 := Lib.hid hml2
        have HML := Lib.hid hml
        clear HE3 HEX hcn HC0 hml hml2 hlen2 hk2
        generalize m.getD 0 0 = x at hc0 HCC
        generalize m.getD (m.length - 1) 0 = y at hc1 HCC
        go_wp2_with fail
        go_quiet (refine Calls.quiet_of_same (HCC.out _))
        go_wp2_with fail
        go_roundw
        case rel =>
          obtain ⟨n', e⟩ := HW.out _ _ rfl
          have e2 := HM2.out
          subst e2
          exact ⟨k + 1, n', A3, c3, rfl, hcap3, by have h1 := HML2.out; have h2 := HML.out; have h3 := HN2.out; omega, HE4.out, HI3.out, e⟩
        case measure => have h3 := HN2.out; simp [lenW]; omega
      · have hcn' : canc (m.getD 0 0) (m.getD (m.length - 1) 0) = false := by simpa using hcn
        rw [hcn'] at HC0
        have HCC := Lib.hid HC0
        have HX := Lib.hid (HC _ (HEX.out (.inr hcn')))
        have hml3 : m.length ≤ 100000 := by omega
        clear HE3 HEX hcn hcn' HC0 hml hml2 hlen2 HC
        generalize m.getD 0 0 = x at hc0 HCC
        generalize m.getD (m.length - 1) 0 = y at hc1 HCC
        go_wp2_with fail
        go_quiet (refine Calls.quiet_of_same (HCC.out _))
        generalize hW1 : wr.drewN nq = W1
        have HI1 : Hid (Ints W1 W1.heap.size (.slice (some ⟨b, o, none⟩) m.length c2) m) := by subst hW1; exact HI.out
        have HB1 : Hid (Below w.heap.size w W1) := HB.out.trans (below_drawn _ (HW.out _ _ hW1.symm))
        clear hW1
        go_wp2_with fail
        refine (ownB_any _ m _ (by omega) HI1.out).mono ?_
        rintro e wf ⟨r, rfl, ho, hb⟩
        have HO := Lib.hid ho.ints
        have HBf := Lib.hid (HB1.out.trans (hb.mono HB1.out.size))
        clear ho hb
        go_wp2_with fail
        go_ret
        exact ⟨_, HX.out, _, rfl, by have := HM.out; subst this; exact HO.out, HBf.out⟩
    · have HX := Lib.hid (HC _ (ends_of Hrr.out hk2 HE (.inl (by omega))))
      have hml3 : (midW l k).length ≤ 100000 := by omega
      have hdec : decide (1 < (midW l k).length) = false := by simpa using h1
      have hpos : decide ((1 : Int) < ((midW l k).length : Int)) = false := by rw [decide_eq_false_iff_not]; omega
      obtain ⟨m, hm⟩ : ∃ m, m = midW l k := ⟨_, rfl⟩
      have HM := Lib.hid hm
      rw [← hm] at hcap HI hml3 hdec hpos ⊢
      clear hm hI hRm hml h1 HE HC hwr
      go_wp2_with fail
      go_quiet (fail)
      generalize hW1 : wr.drewN nq = W1
      have HI1 : Hid (Ints W1 W1.heap.size (.slice A2 m.length c2) m) := by subst hW1; exact HI.out
      have HB1 : Hid (Below w.heap.size w W1) := HB.out.trans (below_drawn _ (HW.out _ _ hW1.symm))
      clear hW1
      go_wp2_with fail
      refine (ownB_any _ m _ (by omega) HI1.out).mono ?_
      rintro e wf ⟨r, rfl, ho, hb⟩
      have HO := Lib.hid ho.ints
      have HBf := Lib.hid (HB1.out.trans (hb.mono HB1.out.size))
      clear ho hb
      go_wp2_with fail
      go_ret
      exact ⟨_, HX.out, _, rfl, by have := HM.out; subst this; exact HO.out, HBf.out⟩
end Go.Proofs.YtjllnbldpcmddaaGreatDoor
