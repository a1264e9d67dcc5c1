/- The reader's point and join. -/
import Derived.Test.YtpchomhfpfpckaaDoorPRead
namespace Go.Proofs.YtpchomhfpfpckaaDoor
open Go Go.RowKit

/-- What point answers: the point, the error, and the points met from then on. -/
def ptX (s : ByteArray) (n p e : Nat) (u : List Int) : Int × Int × List Int :=
  if chB s p = 48 ∧ p + 1 < e then (0, 11, u)
  else if n ≤ rv s p (e - p) then (0, 2, u)
  else if ((rv s p (e - p) : Nat) : Int) ∈ u then (0, 8, u)
  else (((rv s p (e - p) : Nat) : Int), 0, u ++ [((rv s p (e - p) : Nat) : Int)])
def PtPost (w : World) (R : Nat) (s : ByteArray) (n p e : Nat) (u : List Int) (v : Value) (r : Ending) (w' : World) : Prop :=
  r = .returned (.tuple #[.int .i64 (ptX s n p e u).1, .agg #[.int .i64 (ptX s n p e u).2.1, .int .i64 (if (ptX s n p e u).2.1 = 0 then 0 else (p : Int))]]) ∧ RdP w' R s e (ptX s n p e u).2.2 v ∧ But R w.heap.size w w'

theorem But.drawnB {t B : Nat} {w wr : World} (h : But t B w wr) (n : Nat) : But t B w (wr.drewN n) := ⟨⟨h.1.os, h.1.tape, h.1.output, h.1.size, h.1.block⟩, h.2⟩
/-- The result's own cells are set. -/
theorem res_set {w W : World} {R : Nat} {s : ByteArray} {p : Nat} {u : List Int} {v a b x y : Value} (hR : R < w.heap.size) (hr : RdP W R s p u v) (hb : But R w.heap.size w W) (hf : Row W w.heap.size 45 #[x, y]) :
    RdP ((W.setCell ⟨w.heap.size, 0, none⟩ a).setCell ⟨w.heap.size, 1, none⟩ b) R s p u v ∧ But R w.heap.size w ((W.setCell ⟨w.heap.size, 0, none⟩ a).setCell ⟨w.heap.size, 1, none⟩ b) ∧ Row ((W.setCell ⟨w.heap.size, 0, none⟩ a).setCell ⟨w.heap.size, 1, none⟩ b) w.heap.size 45 #[a, b] :=
  ⟨Row.far (Row.far hr (by show R ≠ w.heap.size; omega) _) (by show R ≠ w.heap.size; omega) _,
   (hb.trans (But.set W (p := ⟨w.heap.size, 0, none⟩) (.inr (Nat.le_refl _)) (Nat.le_of_lt hR) _)).trans (But.set _ (p := ⟨w.heap.size, 1, none⟩) (.inr (Nat.le_refl _)) (Nat.le_of_lt hR) _),
   by have := (hf.set 0 a).set 1 b; exact this⟩
theorem ptX_zero {s : ByteArray} {n p e : Nat} {u : List Int} (h : chB s p = 48 ∧ p + 1 < e) : ptX s n p e u = (0, 11, u) := if_pos h
theorem ptX_big {s : ByteArray} {n p e : Nat} {u : List Int} (h : ¬ (chB s p = 48 ∧ p + 1 < e)) (h2 : n ≤ rv s p (e - p)) : ptX s n p e u = (0, 2, u) := by unfold ptX; rw [if_neg h, if_pos h2]
theorem ptX_double {s : ByteArray} {n p e : Nat} {u : List Int} (h : ¬ (chB s p = 48 ∧ p + 1 < e)) (h2 : ¬ n ≤ rv s p (e - p)) (h3 : ((rv s p (e - p) : Nat) : Int) ∈ u) : ptX s n p e u = (0, 8, u) := by unfold ptX; rw [if_neg h, if_neg h2, if_pos h3]
theorem ptX_ok {s : ByteArray} {n p e : Nat} {u : List Int} (h : ¬ (chB s p = 48 ∧ p + 1 < e)) (h2 : ¬ n ≤ rv s p (e - p)) (h3 : ((rv s p (e - p) : Nat) : Int) ∉ u) : ptX s n p e u = (((rv s p (e - p) : Nat) : Int), 0, u ++ [((rv s p (e - p) : Nat) : Int)]) := by unfold ptX; rw [if_neg h, if_neg h2, if_neg h3]

set_option maxRecDepth 100000 in
set_option maxHeartbeats 4000000 in
theorem point_any (w : World) (R : Nat) (s : ByteArray) (n p e : Nat) (u : List Int) (A : Option Addr) (c : Nat) (hs : s.size ≤ 20000) (h1 : 1 ≤ n) (h64 : n ≤ 64) (hD : Digs s p e) (hpe : p < e) (hr : RdP w R s p u (.slice A n c)) :
    Calls Tryd.prog 88 #[.pointer (some ⟨R, 0, none⟩)] w (PtPost w R s n p e u (.slice A n c)) := by
  have hR : R < w.heap.size := Row.lt hr
  have hc1 := Row.cell hr (rd_1 s p u (.slice A n c))
  have hr0 : RdP (w.alloc (.cells #[.int .i64 0, .int .i64 0] 45)) R s p u (.slice A n c) := Row.alloc hr _
  have hc1' := Row.cell hr0 (rd_1 s p u (.slice A n c))
  have HR0 := Lib.hid hr0
  have HB0 := Lib.hid (But.of (t := R) ((Below.refl w.heap.size w).alloc (Nat.le_refl _) (.cells #[.int .i64 0, .int .i64 0] 45)) (Nat.le_of_lt hR))
  have HF0 := Lib.hid (Row.new w 45 #[.int .i64 0, .int .i64 0])
  have HD := Lib.hid hD
  have HCV := Lib.hid (cv_rv h1 h64 hD)
  have HCL := Lib.hid (cv_le h64 hD)
  clear hr hr0 hD hc1
  go_enter Tryd.func88, Tryd.ntmps88
  go_wp2_with fail
  go_loopg [5] (e - p) (fun gk x wr => ∃ k : Nat, gk = e - p - k ∧ k ≤ e - p ∧ x = .int .i64 (cv n s p k) ∧ RdP wr R s (p + k) u (.slice A n c) ∧ But R w.heap.size w wr ∧ Row wr w.heap.size 45 #[.int .i64 0, .int .i64 0])
  case atStart => exact ⟨0, rfl, Nat.zero_le _, rfl, HR0.out, HB0.out, HF0.out⟩
  case round =>
    obtain ⟨k, rfl, hk, rfl, hr, hb, hf⟩ := hrel
    have hl0 := Row.cell hr (rd_0 s (p + k) u (.slice A n c))
    have hl1 := Row.cell hr (rd_1 s (p + k) u (.slice A n c))
    have hl66 := Row.cell hr (rd_66 s (p + k) u (.slice A n c))
    have hf1 := Row.frozen hr 1
    have HR := Lib.hid hr
    have HB := Lib.hid hb
    have HF := Lib.hid hf
    clear hr hb hf
    obtain ⟨q, hq⟩ : ∃ q, q = p + k := ⟨_, rfl⟩
    have HQ := Lib.hid hq
    rw [← hq] at hl1 HR
    by_cases hlt : k < e - p
    · have hqs : q < s.size := by have := HD.out.2.1; omega
      have hdg := HD.out.2.2.1 q (by omega) (by omega)
      have hch := chB_in hqs
      have hrg : (0 : Int) ≤ (s[q].toNat : Int) ∧ (s[q].toNat : Int) ≤ 255 := by unfold Dg at hdg; omega
      have HDg := Lib.hid (fun W => isDigit_any (s[q].toNat : Int) W hrg)
      rw [show decide (Dg (s[q].toNat : Int)) = true from decide_eq_true (by rw [← hch]; exact hdg)] at HDg
      have hlt1 : decide ((q : Int) < (s.size : Int)) = true := by simp; omega
      have hlt2 : decide (q < s.size) = true := by simp; omega
      have HCk := Lib.hid (show cv n s p (k + 1) = if cv n s p k < n then 10 * cv n s p k + ((s[q].toNat : Int) - 48).toNat else cv n s p k by rw [cv, ← hq, hch])
      have hcl := HCL.out k (by omega)
      have hdg2 : 48 ≤ s[q].toNat ∧ s[q].toNat ≤ 57 := by rw [hch] at hdg; unfold Dg at hdg; omega
      clear hrg hdg hch
      generalize cv n s p k = x at HCk hcl
      obtain ⟨b, hbe⟩ : ∃ b, s[q].toNat = b := ⟨_, rfl⟩
      rw [hbe] at HCk hdg2 HDg
      by_cases hx : x < n
      · have hx1 : (x : Int) < (n : Int) := by omega
        have hw1 : IntKind.u8.wrap ((b : Int) - 48) = ((b - 48 : Nat) : Int) := by rw [IntKind.wrap_u8]; omega
        have hw2 : IntKind.i64.wrap (10 * (x : Int)) = 10 * (x : Int) := IntWalk.i64_in _ (by omega)
        have hw3 : IntKind.i64.wrap (10 * (x : Int) + ((b - 48 : Nat) : Int)) = 10 * (x : Int) + ((b - 48 : Nat) : Int) := IntWalk.i64_in _ (by omega)
        have HX : Hid (cv n s p (k + 1) = 10 * x + (b - 48)) := by
          show _ = _
          rw [HCk.out, if_pos hx]
          omega
        clear HCk hq
        go_wp2
        go_quiet (refine Calls.quiet_of_same (HDg.out _))
        generalize hW1 : wr.drewN nq = W1
        have hr1 : RdP W1 R s q u (.slice A n c) := by rw [← hW1]; exact HR.out
        have hb1 : But R w.heap.size w W1 := by rw [← hW1]; exact HB.out.drawnB _
        have hf1' : Row W1 w.heap.size 45 #[.int .i64 0, .int .i64 0] := by rw [← hW1]; exact HF.out
        clear hW1 hl0 hl1 hl66 hf1
        have hl0 := Row.cell hr1 (rd_0 s q u (.slice A n c))
        have hl1 := Row.cell hr1 (rd_1 s q u (.slice A n c))
        have hl66 := Row.cell hr1 (rd_66 s q u (.slice A n c))
        have hf1 := Row.frozen hr1 1
        have HR1 := Lib.hid hr1
        have HB1 := Lib.hid hb1
        have HF1 := Lib.hid hf1'
        clear hr1 hb1 hf1' HR HB HF
        go_wp2
        go_quiet (fail)
        generalize hW2 : W1.drewN _ = W2
        have hr2 : RdP W2 R s q u (.slice A n c) := by rw [← hW2]; exact HR1.out
        have HB2 : Hid (But R w.heap.size w W2) := by show But _ _ _ _; rw [← hW2]; exact HB1.out.drawnB _
        have HF2 : Hid (Row W2 w.heap.size 45 #[.int .i64 0, .int .i64 0]) := by show Row _ _ _ _; rw [← hW2]; exact HF1.out
        have hm1 := Row.cell hr2 (rd_1 s q u (.slice A n c))
        have hg1 := Row.frozen hr2 1
        have HR2 := Lib.hid hr2
        clear hW2 hr2 hl0 hl1 hl66 hf1 HR1 HB1 HF1
        go_wp2
        go_roundg (e - p - (k + 1))
        case measure => omega
        case rel =>
          refine ⟨k + 1, rfl, by omega, by rw [HX.out]; simp, ?_, HB2.out.trans (But.set W2 (p := ⟨R, 1, none⟩) (.inl rfl) (Nat.le_of_lt hR) _), Row.far HF2.out (by show w.heap.size ≠ R; omega) _⟩
          have := HR2.out.at_ (q + 1)
          rw [show p + (k + 1) = q + 1 by have := HQ.out; omega]
          exact this
      · have hx1 : ¬ (x : Int) < (n : Int) := by omega
        have HX : Hid (cv n s p (k + 1) = x) := by
          show _ = _
          rw [HCk.out, if_neg hx]
        clear HCk hq
        go_wp2
        go_quiet (refine Calls.quiet_of_same (HDg.out _))
        generalize hW1 : wr.drewN nq = W1
        have hr1 : RdP W1 R s q u (.slice A n c) := by rw [← hW1]; exact HR.out
        have hb1 : But R w.heap.size w W1 := by rw [← hW1]; exact HB.out.drawnB _
        have hf1' : Row W1 w.heap.size 45 #[.int .i64 0, .int .i64 0] := by rw [← hW1]; exact HF.out
        clear hW1 hl0 hl1 hl66 hf1
        have hl1 := Row.cell hr1 (rd_1 s q u (.slice A n c))
        have hl66 := Row.cell hr1 (rd_66 s q u (.slice A n c))
        have hf1 := Row.frozen hr1 1
        have HR1 := Lib.hid hr1
        have HB1 := Lib.hid hb1
        have HF1 := Lib.hid hf1'
        clear hr1 hb1 hf1' HR HB HF
        go_wp2
        go_roundg (e - p - (k + 1))
        case measure => omega
        case rel =>
          refine ⟨k + 1, rfl, by omega, by rw [HX.out], ?_, HB1.out.trans (But.set W1 (p := ⟨R, 1, none⟩) (.inl rfl) (Nat.le_of_lt hR) _), Row.far HF1.out (by show w.heap.size ≠ R; omega) _⟩
          have := HR1.out.at_ (q + 1)
          rw [show p + (k + 1) = q + 1 by have := HQ.out; omega]
          exact this
    · have hqe : q = e := by omega
      have hke : k = e - p := by omega
      subst hqe
      have hps : p < s.size := by have := HD.out.2.1; omega
      have hcv := HCV.out (q - p) (by omega)
      rw [hke]
      clear hq
      have HCV2 := Lib.hid hcv
      have hcl := HCL.out (q - p) (by omega)
      have hpch := chB_in hps
      clear hcv
      generalize cv n s p (q - p) = x at HCV2 hcl
      by_cases hqs : q < s.size
      · have hdg := HD.out.2.2.2
        have hch := chB_in hqs
        have hrg : (0 : Int) ≤ (s[q].toNat : Int) ∧ (s[q].toNat : Int) ≤ 255 := by
          have := UInt8.toNat_lt s[q]
          omega
        have HDg := Lib.hid (fun W => isDigit_any (s[q].toNat : Int) W hrg)
        rw [show decide (Dg (s[q].toNat : Int)) = false from decide_eq_false (by rw [← hch]; exact hdg)] at HDg
        have hlt1 : decide ((q : Int) < (s.size : Int)) = true := by simp; omega
        have hlt2 : decide (q < s.size) = true := by simp; omega
        clear hdg hch hrg
        go_wp2
        go_quiet (refine Calls.quiet_of_same (HDg.out _))
        generalize hW1 : wr.drewN nq = W1
        have hr1 : RdP W1 R s q u (.slice A n c) := by rw [← hW1]; exact HR.out
        have hb1 : But R w.heap.size w W1 := by rw [← hW1]; exact HB.out.drawnB _
        have hf1' : Row W1 w.heap.size 45 #[.int .i64 0, .int .i64 0] := by rw [← hW1]; exact HF.out
        clear hW1 hl0 hl1 hl66 hf1 hlt1 hlt2 HR HB HF HDg
        have hl0 := Row.cell hr1 (rd_0 s q u (.slice A n c))
        have hl1 := Row.cell hr1 (rd_1 s q u (.slice A n c))
        have hl66 := Row.cell hr1 (rd_66 s q u (.slice A n c))
        have HR1 := Lib.hid hr1
        have HB1 := Lib.hid hb1
        have HF1 := Lib.hid hf1'
        by_cases hz : chB s p = 48 ∧ p + 1 < q
        · have HPX := Lib.hid (ptX_zero (n := n) (u := u) hz)
          have hz3 : ((s[p].toNat : Int) == 48) = true := by rw [← hpch]; simpa using hz.1
          have hz4 : (p : Int) + 1 < (q : Int) := by omega
          clear hz hr1 hb1 hf1' hpch
          go_wp2_with fail
          refine (fault_any 11 p _).mono ?_
          rintro e' W2 ⟨rfl, hbl⟩
          have hlt := HB1.out.1.size
          have hR1 := Row.lt HR1.out
          have hr2 : RdP W2 R s q u (.slice A n c) := Row.below HR1.out hbl hR1
          have hb2 : But R w.heap.size w W2 := HB1.out.trans ((But.of hbl (Nat.le_of_lt hR1)).mono hlt)
          have hf2 : Row W2 w.heap.size 45 #[.int .i64 0, .int .i64 0] := Row.below HF1.out hbl (Row.lt HF1.out)
          have hz0 := hf2.frozen 0
          have hz1 := hf2.frozen 1
          have hy0 := hf2.cell (i := 0) rfl
          have hy1 := hf2.cell (i := 1) rfl
          have HRS := Lib.hid (res_set (a := .int .i64 11) (b := .int .i64 (p : Int)) hR hr2 hb2 hf2)
          clear hbl hr2 hb2 hf2
          go_wp2_with fail
          obtain ⟨k1, k2, k3⟩ := HRS.out
          have hc0 := k3.cell (i := 0) rfl
          have hc1 := k3.cell (i := 1) rfl
          refine bodyPost_ret (v := .tuple #[.int .i64 0, .agg #[.int .i64 11, .int .i64 (p : Int)]]) ?_ rfl ⟨by rw [HPX.out]; rfl, by rw [HPX.out]; exact k1, k2⟩
          simp [results, Tryd.results88, go_sem, hc0, hc1]
        · have HZ := Lib.hid hz
          have hcase : ((s[p].toNat : Int) == 48) = false ∨ (((s[p].toNat : Int) == 48) = true ∧ ¬ (p : Int) + 1 < (q : Int)) := by
            by_cases h48 : chB s p = 48
            · right
              rw [← hpch]
              exact ⟨by simpa using h48, fun h => hz ⟨h48, by omega⟩⟩
            · left
              rw [← hpch]
              simpa using h48
          clear hz hpch
          by_cases hb : n ≤ rv s p (q - p)
          · have HPX := Lib.hid (ptX_big (u := u) HZ.out hb)
            have hxn : ¬ (x : Int) < (n : Int) := by have := HCV2.out.1; omega
            have hxn2 : (n : Int) ≤ (x : Int) := by omega
            clear hr1 hb1 hf1' hb
            rcases hcase with hcs | ⟨hcs, hcs2⟩
            · skip
              skip
              go_wp2_with fail
              refine (fault_any 2 p _).mono ?_
              rintro e' W2 ⟨rfl, hbl⟩
              have hlt := HB1.out.1.size
              have hR1 := Row.lt HR1.out
              have hr2 : RdP W2 R s q u (.slice A n c) := Row.below HR1.out hbl hR1
              have hb2 : But R w.heap.size w W2 := HB1.out.trans ((But.of hbl (Nat.le_of_lt hR1)).mono hlt)
              have hf2 : Row W2 w.heap.size 45 #[.int .i64 0, .int .i64 0] := Row.below HF1.out hbl (Row.lt HF1.out)
              have hz0 := hf2.frozen 0
              have hz1 := hf2.frozen 1
              have hy0 := hf2.cell (i := 0) rfl
              have hy1 := hf2.cell (i := 1) rfl
              have HRS := Lib.hid (res_set (a := .int .i64 2) (b := .int .i64 (p : Int)) hR hr2 hb2 hf2)
              clear hbl hr2 hb2 hf2
              go_wp2_with fail
              obtain ⟨k1, k2, k3⟩ := HRS.out
              have hc0 := k3.cell (i := 0) rfl
              have hc1 := k3.cell (i := 1) rfl
              refine bodyPost_ret (v := .tuple #[.int .i64 0, .agg #[.int .i64 2, .int .i64 (p : Int)]]) ?_ rfl ⟨by rw [HPX.out]; rfl, by rw [HPX.out]; exact k1, k2⟩
              simp [results, Tryd.results88, go_sem, hc0, hc1]
            · skip
              skip
              go_wp2_with fail
              refine (fault_any 2 p _).mono ?_
              rintro e' W2 ⟨rfl, hbl⟩
              have hlt := HB1.out.1.size
              have hR1 := Row.lt HR1.out
              have hr2 : RdP W2 R s q u (.slice A n c) := Row.below HR1.out hbl hR1
              have hb2 : But R w.heap.size w W2 := HB1.out.trans ((But.of hbl (Nat.le_of_lt hR1)).mono hlt)
              have hf2 : Row W2 w.heap.size 45 #[.int .i64 0, .int .i64 0] := Row.below HF1.out hbl (Row.lt HF1.out)
              have hz0 := hf2.frozen 0
              have hz1 := hf2.frozen 1
              have hy0 := hf2.cell (i := 0) rfl
              have hy1 := hf2.cell (i := 1) rfl
              have HRS := Lib.hid (res_set (a := .int .i64 2) (b := .int .i64 (p : Int)) hR hr2 hb2 hf2)
              clear hbl hr2 hb2 hf2
              go_wp2_with fail
              obtain ⟨k1, k2, k3⟩ := HRS.out
              have hc0 := k3.cell (i := 0) rfl
              have hc1 := k3.cell (i := 1) rfl
              refine bodyPost_ret (v := .tuple #[.int .i64 0, .agg #[.int .i64 2, .int .i64 (p : Int)]]) ?_ rfl ⟨by rw [HPX.out]; rfl, by rw [HPX.out]; exact k1, k2⟩
              simp [results, Tryd.results88, go_sem, hc0, hc1]
          · have hxl : x < n := HCV2.out.1.2 (by omega)
            have hxe : x = rv s p (q - p) := HCV2.out.2 hxl
            have hxn : (x : Int) < (n : Int) := by omega
            have hxn2 : ¬ (n : Int) ≤ (x : Int) := by omega
            have hm := Row.cell hr1 (rd_m s q u (.slice A n c) (i := x) (by omega))
            have hmf := Row.frozen hr1 (2 + x)
            have hx64 : x < 64 := by omega
            by_cases hd : ((rv s p (q - p) : Nat) : Int) ∈ u
            · have HPX := Lib.hid (ptX_double HZ.out hb hd)
              rw [show decide ((x : Int) ∈ u) = true from decide_eq_true (by rw [hxe]; exact hd)] at hm
              clear hr1 hb1 hf1' hb hd hxe hxl
              rcases hcase with hcs | ⟨hcs, hcs2⟩
              · skip
                skip
                go_wp2_with fail
                refine (fault_any 8 p _).mono ?_
                rintro e' W2 ⟨rfl, hbl⟩
                have hlt := HB1.out.1.size
                have hR1 := Row.lt HR1.out
                have hr2 : RdP W2 R s q u (.slice A n c) := Row.below HR1.out hbl hR1
                have hb2 : But R w.heap.size w W2 := HB1.out.trans ((But.of hbl (Nat.le_of_lt hR1)).mono hlt)
                have hf2 : Row W2 w.heap.size 45 #[.int .i64 0, .int .i64 0] := Row.below HF1.out hbl (Row.lt HF1.out)
                have hz0 := hf2.frozen 0
                have hz1 := hf2.frozen 1
                have hy0 := hf2.cell (i := 0) rfl
                have hy1 := hf2.cell (i := 1) rfl
                have HRS := Lib.hid (res_set (a := .int .i64 8) (b := .int .i64 (p : Int)) hR hr2 hb2 hf2)
                clear hbl hr2 hb2 hf2
                go_wp2_with fail
                obtain ⟨k1, k2, k3⟩ := HRS.out
                have hc0 := k3.cell (i := 0) rfl
                have hc1 := k3.cell (i := 1) rfl
                refine bodyPost_ret (v := .tuple #[.int .i64 0, .agg #[.int .i64 8, .int .i64 (p : Int)]]) ?_ rfl ⟨by rw [HPX.out]; rfl, by rw [HPX.out]; exact k1, k2⟩
                simp [results, Tryd.results88, go_sem, hc0, hc1]
              · skip
                skip
                go_wp2_with fail
                refine (fault_any 8 p _).mono ?_
                rintro e' W2 ⟨rfl, hbl⟩
                have hlt := HB1.out.1.size
                have hR1 := Row.lt HR1.out
                have hr2 : RdP W2 R s q u (.slice A n c) := Row.below HR1.out hbl hR1
                have hb2 : But R w.heap.size w W2 := HB1.out.trans ((But.of hbl (Nat.le_of_lt hR1)).mono hlt)
                have hf2 : Row W2 w.heap.size 45 #[.int .i64 0, .int .i64 0] := Row.below HF1.out hbl (Row.lt HF1.out)
                have hz0 := hf2.frozen 0
                have hz1 := hf2.frozen 1
                have hy0 := hf2.cell (i := 0) rfl
                have hy1 := hf2.cell (i := 1) rfl
                have HRS := Lib.hid (res_set (a := .int .i64 8) (b := .int .i64 (p : Int)) hR hr2 hb2 hf2)
                clear hbl hr2 hb2 hf2
                go_wp2_with fail
                obtain ⟨k1, k2, k3⟩ := HRS.out
                have hc0 := k3.cell (i := 0) rfl
                have hc1 := k3.cell (i := 1) rfl
                refine bodyPost_ret (v := .tuple #[.int .i64 0, .agg #[.int .i64 8, .int .i64 (p : Int)]]) ?_ rfl ⟨by rw [HPX.out]; rfl, by rw [HPX.out]; exact k1, k2⟩
                simp [results, Tryd.results88, go_sem, hc0, hc1]
            · have HPX := Lib.hid (ptX_ok HZ.out hb hd)
              rw [show decide ((x : Int) ∈ u) = false from decide_eq_false (by rw [hxe]; exact hd)] at hm
              have HXE := Lib.hid hxe
              clear hr1 hb1 hf1' hb hd hxe hxl
              rcases hcase with hcs | ⟨hcs, hcs2⟩
              · skip
                have hr2 := HR1.out.mark hx64
                have hb2 : But R w.heap.size w (W1.setCell ⟨R, 2 + x, none⟩ (.bool true)) := HB1.out.trans (But.set W1 (p := ⟨R, 2 + x, none⟩) (.inl rfl) (Nat.le_of_lt hR) _)
                have hf2 : Row (W1.setCell ⟨R, 2 + x, none⟩ (.bool true)) w.heap.size 45 #[.int .i64 0, .int .i64 0] := Row.far HF1.out (by show w.heap.size ≠ R; omega) _
                have hz0 := hf2.frozen 0
                have hz1 := hf2.frozen 1
                have hy0 := hf2.cell (i := 0) rfl
                have hy1 := hf2.cell (i := 1) rfl
                have HRS := Lib.hid (res_set (a := .int .i64 0) (b := .int .i64 0) hR hr2 hb2 hf2)
                clear hr2 hb2 hf2
                go_wp2_with fail
                obtain ⟨k1, k2, k3⟩ := HRS.out
                have hc0 := k3.cell (i := 0) rfl
                have hc1 := k3.cell (i := 1) rfl
                refine bodyPost_ret (v := .tuple #[.int .i64 x, .agg #[.int .i64 0, .int .i64 0]]) ?_ rfl ⟨by rw [HPX.out, HXE.out]; rfl, by rw [HPX.out, ← HXE.out]; exact k1, k2⟩
                simp [results, Tryd.results88, go_sem, hc0, hc1]
              · skip
                have hr2 := HR1.out.mark hx64
                have hb2 : But R w.heap.size w (W1.setCell ⟨R, 2 + x, none⟩ (.bool true)) := HB1.out.trans (But.set W1 (p := ⟨R, 2 + x, none⟩) (.inl rfl) (Nat.le_of_lt hR) _)
                have hf2 : Row (W1.setCell ⟨R, 2 + x, none⟩ (.bool true)) w.heap.size 45 #[.int .i64 0, .int .i64 0] := Row.far HF1.out (by show w.heap.size ≠ R; omega) _
                have hz0 := hf2.frozen 0
                have hz1 := hf2.frozen 1
                have hy0 := hf2.cell (i := 0) rfl
                have hy1 := hf2.cell (i := 1) rfl
                have HRS := Lib.hid (res_set (a := .int .i64 0) (b := .int .i64 0) hR hr2 hb2 hf2)
                clear hr2 hb2 hf2
                go_wp2_with fail
                obtain ⟨k1, k2, k3⟩ := HRS.out
                have hc0 := k3.cell (i := 0) rfl
                have hc1 := k3.cell (i := 1) rfl
                refine bodyPost_ret (v := .tuple #[.int .i64 x, .agg #[.int .i64 0, .int .i64 0]]) ?_ rfl ⟨by rw [HPX.out, HXE.out]; rfl, by rw [HPX.out, ← HXE.out]; exact k1, k2⟩
                simp [results, Tryd.results88, go_sem, hc0, hc1]
      · have hlt1 : decide ((q : Int) < (s.size : Int)) = false := by simp; omega
        have hlt2 : decide (q < s.size) = false := by simp; omega
        go_wp2
        go_quiet (fail)
        generalize hW1 : wr.drewN _ = W1
        have hr1 : RdP W1 R s q u (.slice A n c) := by rw [← hW1]; exact HR.out
        have hb1 : But R w.heap.size w W1 := by rw [← hW1]; exact HB.out.drawnB _
        have hf1' : Row W1 w.heap.size 45 #[.int .i64 0, .int .i64 0] := by rw [← hW1]; exact HF.out
        clear hW1 hl0 hl1 hl66 hf1 hlt1 hlt2 HR HB HF
        have hl0 := Row.cell hr1 (rd_0 s q u (.slice A n c))
        have hl1 := Row.cell hr1 (rd_1 s q u (.slice A n c))
        have hl66 := Row.cell hr1 (rd_66 s q u (.slice A n c))
        have HR1 := Lib.hid hr1
        have HB1 := Lib.hid hb1
        have HF1 := Lib.hid hf1'
        by_cases hz : chB s p = 48 ∧ p + 1 < q
        · have HPX := Lib.hid (ptX_zero (n := n) (u := u) hz)
          have hz3 : ((s[p].toNat : Int) == 48) = true := by rw [← hpch]; simpa using hz.1
          have hz4 : (p : Int) + 1 < (q : Int) := by omega
          clear hz hr1 hb1 hf1' hpch
          go_wp2_with fail
          refine (fault_any 11 p _).mono ?_
          rintro e' W2 ⟨rfl, hbl⟩
          have hlt := HB1.out.1.size
          have hR1 := Row.lt HR1.out
          have hr2 : RdP W2 R s q u (.slice A n c) := Row.below HR1.out hbl hR1
          have hb2 : But R w.heap.size w W2 := HB1.out.trans ((But.of hbl (Nat.le_of_lt hR1)).mono hlt)
          have hf2 : Row W2 w.heap.size 45 #[.int .i64 0, .int .i64 0] := Row.below HF1.out hbl (Row.lt HF1.out)
          have hz0 := hf2.frozen 0
          have hz1 := hf2.frozen 1
          have hy0 := hf2.cell (i := 0) rfl
          have hy1 := hf2.cell (i := 1) rfl
          have HRS := Lib.hid (res_set (a := .int .i64 11) (b := .int .i64 (p : Int)) hR hr2 hb2 hf2)
          clear hbl hr2 hb2 hf2
          go_wp2_with fail
          obtain ⟨k1, k2, k3⟩ := HRS.out
          have hc0 := k3.cell (i := 0) rfl
          have hc1 := k3.cell (i := 1) rfl
          refine bodyPost_ret (v := .tuple #[.int .i64 0, .agg #[.int .i64 11, .int .i64 (p : Int)]]) ?_ rfl ⟨by rw [HPX.out]; rfl, by rw [HPX.out]; exact k1, k2⟩
          simp [results, Tryd.results88, go_sem, hc0, hc1]
        · have HZ := Lib.hid hz
          have hcase : ((s[p].toNat : Int) == 48) = false ∨ (((s[p].toNat : Int) == 48) = true ∧ ¬ (p : Int) + 1 < (q : Int)) := by
            by_cases h48 : chB s p = 48
            · right
              rw [← hpch]
              exact ⟨by simpa using h48, fun h => hz ⟨h48, by omega⟩⟩
            · left
              rw [← hpch]
              simpa using h48
          clear hz hpch
          by_cases hb : n ≤ rv s p (q - p)
          · have HPX := Lib.hid (ptX_big (u := u) HZ.out hb)
            have hxn : ¬ (x : Int) < (n : Int) := by have := HCV2.out.1; omega
            have hxn2 : (n : Int) ≤ (x : Int) := by omega
            clear hr1 hb1 hf1' hb
            rcases hcase with hcs | ⟨hcs, hcs2⟩
            · skip
              skip
              go_wp2_with fail
              refine (fault_any 2 p _).mono ?_
              rintro e' W2 ⟨rfl, hbl⟩
              have hlt := HB1.out.1.size
              have hR1 := Row.lt HR1.out
              have hr2 : RdP W2 R s q u (.slice A n c) := Row.below HR1.out hbl hR1
              have hb2 : But R w.heap.size w W2 := HB1.out.trans ((But.of hbl (Nat.le_of_lt hR1)).mono hlt)
              have hf2 : Row W2 w.heap.size 45 #[.int .i64 0, .int .i64 0] := Row.below HF1.out hbl (Row.lt HF1.out)
              have hz0 := hf2.frozen 0
              have hz1 := hf2.frozen 1
              have hy0 := hf2.cell (i := 0) rfl
              have hy1 := hf2.cell (i := 1) rfl
              have HRS := Lib.hid (res_set (a := .int .i64 2) (b := .int .i64 (p : Int)) hR hr2 hb2 hf2)
              clear hbl hr2 hb2 hf2
              go_wp2_with fail
              obtain ⟨k1, k2, k3⟩ := HRS.out
              have hc0 := k3.cell (i := 0) rfl
              have hc1 := k3.cell (i := 1) rfl
              refine bodyPost_ret (v := .tuple #[.int .i64 0, .agg #[.int .i64 2, .int .i64 (p : Int)]]) ?_ rfl ⟨by rw [HPX.out]; rfl, by rw [HPX.out]; exact k1, k2⟩
              simp [results, Tryd.results88, go_sem, hc0, hc1]
            · skip
              skip
              go_wp2_with fail
              refine (fault_any 2 p _).mono ?_
              rintro e' W2 ⟨rfl, hbl⟩
              have hlt := HB1.out.1.size
              have hR1 := Row.lt HR1.out
              have hr2 : RdP W2 R s q u (.slice A n c) := Row.below HR1.out hbl hR1
              have hb2 : But R w.heap.size w W2 := HB1.out.trans ((But.of hbl (Nat.le_of_lt hR1)).mono hlt)
              have hf2 : Row W2 w.heap.size 45 #[.int .i64 0, .int .i64 0] := Row.below HF1.out hbl (Row.lt HF1.out)
              have hz0 := hf2.frozen 0
              have hz1 := hf2.frozen 1
              have hy0 := hf2.cell (i := 0) rfl
              have hy1 := hf2.cell (i := 1) rfl
              have HRS := Lib.hid (res_set (a := .int .i64 2) (b := .int .i64 (p : Int)) hR hr2 hb2 hf2)
              clear hbl hr2 hb2 hf2
              go_wp2_with fail
              obtain ⟨k1, k2, k3⟩ := HRS.out
              have hc0 := k3.cell (i := 0) rfl
              have hc1 := k3.cell (i := 1) rfl
              refine bodyPost_ret (v := .tuple #[.int .i64 0, .agg #[.int .i64 2, .int .i64 (p : Int)]]) ?_ rfl ⟨by rw [HPX.out]; rfl, by rw [HPX.out]; exact k1, k2⟩
              simp [results, Tryd.results88, go_sem, hc0, hc1]
          · have hxl : x < n := HCV2.out.1.2 (by omega)
            have hxe : x = rv s p (q - p) := HCV2.out.2 hxl
            have hxn : (x : Int) < (n : Int) := by omega
            have hxn2 : ¬ (n : Int) ≤ (x : Int) := by omega
            have hm := Row.cell hr1 (rd_m s q u (.slice A n c) (i := x) (by omega))
            have hmf := Row.frozen hr1 (2 + x)
            have hx64 : x < 64 := by omega
            by_cases hd : ((rv s p (q - p) : Nat) : Int) ∈ u
            · have HPX := Lib.hid (ptX_double HZ.out hb hd)
              rw [show decide ((x : Int) ∈ u) = true from decide_eq_true (by rw [hxe]; exact hd)] at hm
              clear hr1 hb1 hf1' hb hd hxe hxl
              rcases hcase with hcs | ⟨hcs, hcs2⟩
              · skip
                skip
                go_wp2_with fail
                refine (fault_any 8 p _).mono ?_
                rintro e' W2 ⟨rfl, hbl⟩
                have hlt := HB1.out.1.size
                have hR1 := Row.lt HR1.out
                have hr2 : RdP W2 R s q u (.slice A n c) := Row.below HR1.out hbl hR1
                have hb2 : But R w.heap.size w W2 := HB1.out.trans ((But.of hbl (Nat.le_of_lt hR1)).mono hlt)
                have hf2 : Row W2 w.heap.size 45 #[.int .i64 0, .int .i64 0] := Row.below HF1.out hbl (Row.lt HF1.out)
                have hz0 := hf2.frozen 0
                have hz1 := hf2.frozen 1
                have hy0 := hf2.cell (i := 0) rfl
                have hy1 := hf2.cell (i := 1) rfl
                have HRS := Lib.hid (res_set (a := .int .i64 8) (b := .int .i64 (p : Int)) hR hr2 hb2 hf2)
                clear hbl hr2 hb2 hf2
                go_wp2_with fail
                obtain ⟨k1, k2, k3⟩ := HRS.out
                have hc0 := k3.cell (i := 0) rfl
                have hc1 := k3.cell (i := 1) rfl
                refine bodyPost_ret (v := .tuple #[.int .i64 0, .agg #[.int .i64 8, .int .i64 (p : Int)]]) ?_ rfl ⟨by rw [HPX.out]; rfl, by rw [HPX.out]; exact k1, k2⟩
                simp [results, Tryd.results88, go_sem, hc0, hc1]
              · skip
                skip
                go_wp2_with fail
                refine (fault_any 8 p _).mono ?_
                rintro e' W2 ⟨rfl, hbl⟩
                have hlt := HB1.out.1.size
                have hR1 := Row.lt HR1.out
                have hr2 : RdP W2 R s q u (.slice A n c) := Row.below HR1.out hbl hR1
                have hb2 : But R w.heap.size w W2 := HB1.out.trans ((But.of hbl (Nat.le_of_lt hR1)).mono hlt)
                have hf2 : Row W2 w.heap.size 45 #[.int .i64 0, .int .i64 0] := Row.below HF1.out hbl (Row.lt HF1.out)
                have hz0 := hf2.frozen 0
                have hz1 := hf2.frozen 1
                have hy0 := hf2.cell (i := 0) rfl
                have hy1 := hf2.cell (i := 1) rfl
                have HRS := Lib.hid (res_set (a := .int .i64 8) (b := .int .i64 (p : Int)) hR hr2 hb2 hf2)
                clear hbl hr2 hb2 hf2
                go_wp2_with fail
                obtain ⟨k1, k2, k3⟩ := HRS.out
                have hc0 := k3.cell (i := 0) rfl
                have hc1 := k3.cell (i := 1) rfl
                refine bodyPost_ret (v := .tuple #[.int .i64 0, .agg #[.int .i64 8, .int .i64 (p : Int)]]) ?_ rfl ⟨by rw [HPX.out]; rfl, by rw [HPX.out]; exact k1, k2⟩
                simp [results, Tryd.results88, go_sem, hc0, hc1]
            · have HPX := Lib.hid (ptX_ok HZ.out hb hd)
              rw [show decide ((x : Int) ∈ u) = false from decide_eq_false (by rw [hxe]; exact hd)] at hm
              have HXE := Lib.hid hxe
              clear hr1 hb1 hf1' hb hd hxe hxl
              rcases hcase with hcs | ⟨hcs, hcs2⟩
              · skip
                have hr2 := HR1.out.mark hx64
                have hb2 : But R w.heap.size w (W1.setCell ⟨R, 2 + x, none⟩ (.bool true)) := HB1.out.trans (But.set W1 (p := ⟨R, 2 + x, none⟩) (.inl rfl) (Nat.le_of_lt hR) _)
                have hf2 : Row (W1.setCell ⟨R, 2 + x, none⟩ (.bool true)) w.heap.size 45 #[.int .i64 0, .int .i64 0] := Row.far HF1.out (by show w.heap.size ≠ R; omega) _
                have hz0 := hf2.frozen 0
                have hz1 := hf2.frozen 1
                have hy0 := hf2.cell (i := 0) rfl
                have hy1 := hf2.cell (i := 1) rfl
                have HRS := Lib.hid (res_set (a := .int .i64 0) (b := .int .i64 0) hR hr2 hb2 hf2)
                clear hr2 hb2 hf2
                go_wp2_with fail
                obtain ⟨k1, k2, k3⟩ := HRS.out
                have hc0 := k3.cell (i := 0) rfl
                have hc1 := k3.cell (i := 1) rfl
                refine bodyPost_ret (v := .tuple #[.int .i64 x, .agg #[.int .i64 0, .int .i64 0]]) ?_ rfl ⟨by rw [HPX.out, HXE.out]; rfl, by rw [HPX.out, ← HXE.out]; exact k1, k2⟩
                simp [results, Tryd.results88, go_sem, hc0, hc1]
              · skip
                have hr2 := HR1.out.mark hx64
                have hb2 : But R w.heap.size w (W1.setCell ⟨R, 2 + x, none⟩ (.bool true)) := HB1.out.trans (But.set W1 (p := ⟨R, 2 + x, none⟩) (.inl rfl) (Nat.le_of_lt hR) _)
                have hf2 : Row (W1.setCell ⟨R, 2 + x, none⟩ (.bool true)) w.heap.size 45 #[.int .i64 0, .int .i64 0] := Row.far HF1.out (by show w.heap.size ≠ R; omega) _
                have hz0 := hf2.frozen 0
                have hz1 := hf2.frozen 1
                have hy0 := hf2.cell (i := 0) rfl
                have hy1 := hf2.cell (i := 1) rfl
                have HRS := Lib.hid (res_set (a := .int .i64 0) (b := .int .i64 0) hR hr2 hb2 hf2)
                clear hr2 hb2 hf2
                go_wp2_with fail
                obtain ⟨k1, k2, k3⟩ := HRS.out
                have hc0 := k3.cell (i := 0) rfl
                have hc1 := k3.cell (i := 1) rfl
                refine bodyPost_ret (v := .tuple #[.int .i64 x, .agg #[.int .i64 0, .int .i64 0]]) ?_ rfl ⟨by rw [HPX.out, HXE.out]; rfl, by rw [HPX.out, ← HXE.out]; exact k1, k2⟩
                simp [results, Tryd.results88, go_sem, hc0, hc1]
end Go.Proofs.YtpchomhfpfpckaaDoor
