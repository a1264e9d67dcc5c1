/- perm.Parse. -/
import Derived.Test.YtpchomhfpfpckaaDoorPCyc
import Derived.Deep.WholeRow
namespace Go.Proofs.YtpchomhfpfpckaaDoor
open Go Go.RowKit

def ParseO (s : ByteArray) (n : Int) (o : POut) : Prop :=
  if n < 1 ∨ 64 < n then o = .bad 2 0 else if 20000 < s.size then o = .bad 4 20000 else ParR s n.toNat 0 [] (pone n.toNat).1 o
theorem parse_total (s : ByteArray) (n : Int) : ∃ o, ParseO s n o := by
  unfold ParseO
  split
  · exact ⟨_, rfl⟩
  · split
    · exact ⟨_, rfl⟩
    · exact par_total s _ _ 0 [] _ (Nat.le_refl _) (Nat.zero_le _)
def ParsePost (w : World) : POut → Ending → World → Prop
  | .bad e q, r, w' => r = .returned (.tuple #[.slice none 0 0, .agg #[.int .i64 e, .int .i64 (q : Int)]]) ∧ Below w.heap.size w w'
  | .ok m, r, w' => ∃ v, r = .returned (.tuple #[v, .agg #[.int .i64 0, .int .i64 0]]) ∧ Ints w' w'.heap.size v m ∧ Below w.heap.size w w'

theorem CycR.badE {s : ByteArray} {n p : Nat} {u c : List Int} {o : COut} (h : CycR s n p u c o) : ∀ e q, o = .bad e q → e = 11 ∨ e = 2 ∨ e = 8 := by
  induction h with
  | stop _ => intro e q h; injection h with h _; omega
  | blank _ _ ih => exact ih
  | close _ => intro e q h; cases h
  | zero _ _ _ => intro e q h; injection h with h _; omega
  | big _ _ => intro e q h; injection h with h _; omega
  | double _ _ _ => intro e q h; injection h with h _; omega
  | point _ _ _ _ ih => exact ih
  | other _ _ _ _ => intro e q h; injection h with h _; omega

structure PaSt (w : World) (R I : Nat) (s : ByteArray) (n c : Nat) (m : List Int) (p : Nat) (u : List Int) (W : World) : Prop where
  rd : RdP W R s p u (.slice (some ⟨I, 0, none⟩) n c)
  im : ImgP W I n m
  fr : Row W w.heap.size 45 #[.int .i64 0, .int .i64 0]
  be : Below w.heap.size w W
section
variable {w W W' : World} {R I n c p q : Nat} {s : ByteArray} {m m' u u' : List Int}
theorem PaSt.drewN (h : PaSt w R I s n c m p u W) (k : Nat) : PaSt w R I s n c m p u (W.drewN k) := ⟨h.rd, h.im, h.fr, ⟨h.be.os, h.be.tape, h.be.output, h.be.size, h.be.block⟩⟩
theorem PaSt.at_ (h : PaSt w R I s n c m p u W) (hRI : R ≠ I) (hR : w.heap.size < R) (q : Nat) : PaSt w R I s n c m q u (W.setCell ⟨R, 1, none⟩ (.int .i64 (q : Int))) :=
  ⟨h.rd.at_ q, ⟨Row.far h.im.1 (by show I ≠ R; omega) _, h.im.2⟩, Row.far h.fr (by show w.heap.size ≠ R; omega) _, h.be.setCell (by show w.heap.size ≤ R; omega) _⟩
end
/-- The result's fault is set. -/
theorem paRes {w W : World} {a b x y : Value} (hb : Below w.heap.size w W) (hf : Row W w.heap.size 45 #[x, y]) :
    Below w.heap.size w ((W.setCell ⟨w.heap.size, 0, none⟩ a).setCell ⟨w.heap.size, 1, none⟩ b) ∧ Row ((W.setCell ⟨w.heap.size, 0, none⟩ a).setCell ⟨w.heap.size, 1, none⟩ b) w.heap.size 45 #[a, b] :=
  cyRes hb (Nat.le_refl _) hf

set_option maxRecDepth 100000 in
theorem rd_zero (s : ByteArray) (A : Option Addr) (k c : Nat) : (rdCells s 0 [] (.slice A k c)).toList = (Tryd.zeroCells86.toList.set 0 (Value.string s)).set 66 (.slice A k c) := by kernel_rfl
set_option maxRecDepth 100000 in
theorem rd_one (s : ByteArray) (A : Option Addr) (k c : Nat) : (rdCells s 0 [] (.slice A k c)).all (·.oneCell') = true := by kernel_rfl
set_option maxRecDepth 100000 in
theorem rd_store (W : World) (s : ByteArray) (A : Option Addr) (k c : Nat) :
    (storeCells ⟨W.heap.size, 0, none⟩ ((Tryd.zeroCells86.toList.set 0 (Value.string s)).set 66 (.slice A k c))).run Tryd.prog (W.alloc (.cells Tryd.zeroCells86 86)) = .ok () (W.alloc (.cells (rdCells s 0 [] (.slice A k c)) 86)) := by
  rw [← rd_zero]
  exact run_storeCells_new W 86 _ _ (by rw [show (rdCells s 0 [] (.slice A k c)).size = 67 by simp [rdCells]]; kernel_rfl) (by rw [show (rdCells s 0 [] (.slice A k c)).size = 67 by simp [rdCells]]; kernel_rfl) (rd_one s A k c)

set_option maxRecDepth 100000 in
set_option maxHeartbeats 4000000 in
theorem Parse_any (w : World) (s : ByteArray) (n : Int) (o : POut) (hn0 : -9223372036854775808 ≤ n) (hn1 : n ≤ 9223372036854775807) (hs : s.size ≤ 9223372036854775807) (ho : ParseO s n o) :
    Calls Tryd.prog 27 #[.string s, .int .i64 n] w (ParsePost w o) := by
  have hfr := Row.new w 45 #[.int .i64 0, .int .i64 0]
  have hbe : Below w.heap.size w (w.alloc (.cells #[.int .i64 0, .int .i64 0] 45)) := (Below.refl _ w).alloc (Nat.le_refl _) _
  unfold ParseO at ho
  by_cases hbad : n < 1 ∨ 64 < n
  · rw [if_pos hbad] at ho
    subst ho
    have HF := Lib.hid (fault_any 2 0 (w.alloc (.cells #[.int .i64 0, .int .i64 0] 45)))
    have HFR := Lib.hid hfr
    have HBE := Lib.hid hbe
    clear hfr hbe
    rcases hbad with hlt | hgt
    · go_enter Tryd.func27, Tryd.ntmps27
      go_wp2_with fail
      refine HF.out.mono ?_
      rintro e' W3 ⟨rfl, hbl⟩
      have hb2 : Below w.heap.size w W3 := HBE.out.trans (hbl.mono (by simp))
      have hf2 : Row W3 w.heap.size 45 #[.int .i64 0, .int .i64 0] := Row.below HFR.out hbl (by simp)
      clear hbl
      have hz0 := hf2.frozen 0
      have hz1 := hf2.frozen 1
      have hy0 := hf2.cell (i := 0) rfl
      have hy1 := hf2.cell (i := 1) rfl
      have HRS := Lib.hid (paRes (a := .int .i64 2) (b := .int .i64 0) hb2 hf2)
      clear hb2 hf2
      go_wp2_with fail
      obtain ⟨k2, k3⟩ := HRS.out
      have hc0 := k3.cell (i := 0) rfl
      have hc1 := k3.cell (i := 1) rfl
      refine bodyPost_ret (v := .tuple #[.slice none 0 0, .agg #[.int .i64 2, .int .i64 0]]) ?_ rfl ⟨rfl, k2⟩
      simp [results, Tryd.results27, go_sem, hc0, hc1]
    · have hlt : ¬ n < 1 := by omega
      go_enter Tryd.func27, Tryd.ntmps27
      go_wp2_with fail
      refine HF.out.mono ?_
      rintro e' W3 ⟨rfl, hbl⟩
      have hb2 : Below w.heap.size w W3 := HBE.out.trans (hbl.mono (by simp))
      have hf2 : Row W3 w.heap.size 45 #[.int .i64 0, .int .i64 0] := Row.below HFR.out hbl (by simp)
      clear hbl
      have hz0 := hf2.frozen 0
      have hz1 := hf2.frozen 1
      have hy0 := hf2.cell (i := 0) rfl
      have hy1 := hf2.cell (i := 1) rfl
      have HRS := Lib.hid (paRes (a := .int .i64 2) (b := .int .i64 0) hb2 hf2)
      clear hb2 hf2
      go_wp2_with fail
      obtain ⟨k2, k3⟩ := HRS.out
      have hc0 := k3.cell (i := 0) rfl
      have hc1 := k3.cell (i := 1) rfl
      refine bodyPost_ret (v := .tuple #[.slice none 0 0, .agg #[.int .i64 2, .int .i64 0]]) ?_ rfl ⟨rfl, k2⟩
      simp [results, Tryd.results27, go_sem, hc0, hc1]
  · rw [if_neg hbad] at ho
    obtain ⟨k, rfl⟩ : ∃ k : Nat, n = (k : Int) := ⟨n.toNat, by omega⟩
    have h1 : 1 ≤ k := by omega
    have h64 : k ≤ 64 := by omega
    have hnl : ¬ (k : Int) < 1 := by omega
    have hng : ¬ 64 < (k : Int) := by omega
    rw [Int.toNat_natCast] at ho
    clear hbad hn0 hn1
    by_cases hbig : 20000 < s.size
    · rw [if_pos hbig] at ho
      subst ho
      have HF := Lib.hid (fault_any 4 20000 (w.alloc (.cells #[.int .i64 0, .int .i64 0] 45)))
      have HFR := Lib.hid hfr
      have HBE := Lib.hid hbe
      have hbg : (20000 : Int) < (s.size : Int) := by omega
      clear hfr hbe
      go_enter Tryd.func27, Tryd.ntmps27
      go_wp2_with fail
      refine HF.out.mono ?_
      rintro e' W3 ⟨rfl, hbl⟩
      have hb2 : Below w.heap.size w W3 := HBE.out.trans (hbl.mono (by simp))
      have hf2 : Row W3 w.heap.size 45 #[.int .i64 0, .int .i64 0] := Row.below HFR.out hbl (by simp)
      clear hbl
      have hz0 := hf2.frozen 0
      have hz1 := hf2.frozen 1
      have hy0 := hf2.cell (i := 0) rfl
      have hy1 := hf2.cell (i := 1) rfl
      have HRS := Lib.hid (paRes (a := .int .i64 4) (b := .int .i64 20000) hb2 hf2)
      clear hb2 hf2
      go_wp2_with fail
      obtain ⟨k2, k3⟩ := HRS.out
      have hc0 := k3.cell (i := 0) rfl
      have hc1 := k3.cell (i := 1) rfl
      refine bodyPost_ret (v := .tuple #[.slice none 0 0, .agg #[.int .i64 4, .int .i64 20000]]) ?_ rfl ⟨rfl, k2⟩
      simp [results, Tryd.results27, go_sem, hc0, hc1]
    · rw [if_neg hbig] at ho
      have HO := Lib.hid ho
      have hsl : s.size ≤ 20000 := by omega
      have hbg : ¬ (20000 : Int) < (s.size : Int) := by omega
      have HON := Lib.hid (one_walk k (w.alloc (.cells #[.int .i64 0, .int .i64 0] 45)) h64)
      have HFR := Lib.hid hfr
      have HBE := Lib.hid hbe
      clear hfr hbe ho hbig
      go_enter Tryd.func27, Tryd.ntmps27
      go_wp2_with fail
      refine HON.out.mono ?_
      rintro e' W3 ⟨rfl, hfa⟩
      have hI0 : (w.alloc (.cells #[.int .i64 0, .int .i64 0] 45)).heap.size = w.heap.size + 1 := by simp
      obtain ⟨_, hrow, hbl⟩ := hfa
      rw [hI0] at hrow ⊢
      have hb1 : Below w.heap.size w W3 := HBE.out.trans (hbl.mono (by simp))
      have hf1 : Row W3 w.heap.size 45 #[.int .i64 0, .int .i64 0] := Row.below HFR.out hbl (by simp)
      have HB1 := Lib.hid hb1
      have HF1 := Lib.hid hf1
      have HRW := Lib.hid hrow
      clear hb1 hf1 hrow hbl HON hI0 HFR HBE
      have hsto := rd_store W3 s (some ⟨w.heap.size + 1, 0, none⟩) k k
      have HST := Lib.hid (show PaSt w W3.heap.size (w.heap.size + 1) s k k (pone k).1 0 [] (W3.alloc (.cells (rdCells s 0 [] (.slice (some ⟨w.heap.size + 1, 0, none⟩) k k)) 86)) from
        ⟨Row.new _ _ _, ⟨by
          rw [Tab_congr k (fun i => (pone k).1.getD i 0) (oneF k) (fun i hi => by unfold oneF; rw [if_pos hi]; exact idL_get hi)]
          exact Row.alloc HRW.out _, (pone k).2.1⟩, Row.alloc HF1.out _, HB1.out.alloc HB1.out.size _⟩)
      have hR : w.heap.size + 1 < W3.heap.size := Row.lt HRW.out
      clear HRW HF1 HB1
      go_wp2_with fail
      clear hsto
      generalize W3.heap.size = R at hR HST ⊢
      go_loopg [] (s.size - 0) (fun gk wr => ∃ (q : Nat) (u m : List Int), gk = s.size - q ∧ q ≤ s.size ∧ ParR s k q u m o ∧ PaSt w R (w.heap.size + 1) s k k m q u wr)
      case atStart => exact ⟨0, [], (pone k).1, rfl, Nat.zero_le _, HO.out, HST.out⟩
      case round =>
        obtain ⟨q, u, m, rfl, hq, hpa, hst⟩ := hrel
        have hl0 := Row.cell hst.rd (rd_0 s q u (.slice (some ⟨w.heap.size + 1, 0, none⟩) k k))
        have hl1 := Row.cell hst.rd (rd_1 s q u (.slice (some ⟨w.heap.size + 1, 0, none⟩) k k))
        have hz1 := Row.frozen hst.rd 1
        clear HST HO
        by_cases hqs : q < s.size
        · have hd1 : decide ((q : Int) < (s.size : Int)) = true := by simp; omega
          have hd2 : decide (q < s.size) = true := by simp; omega
          have hd3 : (q : Int) < (s.size : Int) := by omega
          have hch := chB_in hqs
          cases hpa with
          | stop he => omega
          | blank h32 hn =>
            have HN := Lib.hid hn
            have HS := Lib.hid (hst.at_ (by omega) (by omega) (q + 1))
            have e32 : ((s[q].toNat : Int) == 32) = true := by rw [← hch]; simpa using h32
            have f32 : (s[q].toNat : Int) = 32 := by rw [← hch]; exact h32
            clear hn hch h32 hst
            go_wp2_with fail
            go_roundg (s.size - (q + 1))
            case measure => omega
            case rel => exact ⟨q + 1, u, m, rfl, by omega, HN.out, HS.out⟩
          | @bad _ q' e _ _ h40 hc =>
            have e32 : ((s[q].toNat : Int) == 32) = false := by rw [← hch, h40]; decide
            have e40 : ((s[q].toNat : Int) == 40) = true := by rw [← hch]; simpa using h40
            have hE := hc.badE _ _ rfl
            have hS := hst.at_ (by omega) (by omega) (q + 1)
            have HCY := Lib.hid (cycle_any _ (w.heap.size + 1) R (w.heap.size + 1) s k (q + 1) k u m _ hsl h1 h64 (by omega) (by omega) (by omega) (by omega) hS.rd hS.im hc)
            have hq1 : ((q + 1 : Nat) : Int) = (q : Int) + 1 := by omega
            rw [hq1] at HCY hS
            have HS := Lib.hid hS
            clear hst hS hch h40 hc
            go_wp2_with fail
            refine HCY.out.mono ?_
            rintro e' W4 ⟨rfl, hbl⟩
            have hb4 : Below w.heap.size w W4 := HS.out.be.trans (hbl.mono (by omega))
            have hf4 : Row W4 w.heap.size 45 #[.int .i64 0, .int .i64 0] := Row.below HS.out.fr hbl (by omega)
            clear hbl HCY HS
            have hfn := Row.new W4 45 #[.int .i64 0, .int .i64 0]
            have hn0 := hfn.cell (i := 0) rfl
            have hn1 := hfn.cell (i := 1) rfl
            have hg0 := hfn.frozen 0
            have hg1 := hfn.frozen 1
            have hfs : Row (((W4.alloc (.cells #[.int .i64 0, .int .i64 0] 45)).setCell ⟨W4.heap.size, 0, none⟩ (.int .i64 e)).setCell ⟨W4.heap.size, 1, none⟩ (.int .i64 (q' : Int))) W4.heap.size 45 #[.int .i64 e, .int .i64 (q' : Int)] := (hfn.set 0 _).set 1 _
            have hs0 := hfs.cell (i := 0) rfl
            have hs1 := hfs.cell (i := 1) rfl
            have eE : (e == 0) = false := by simp; omega
            clear hfn hfs
            have hb5 : Below w.heap.size w (W4.alloc (.cells #[.int .i64 e, .int .i64 (q' : Int)] 45)) := hb4.alloc hb4.size _
            have hf5 := Row.alloc hf4 (.cells #[.int .i64 e, .int .i64 (q' : Int)] 45)
            have hfF := Row.new W4 45 #[.int .i64 e, .int .i64 (q' : Int)]
            go_wp2_with fail
            generalize W4.alloc (.cells #[.int .i64 e, .int .i64 (q' : Int)] 45) = W5 at *
            clear hn0 hn1 hg0 hg1 hs0 hs1 hf4 hb4
            generalize W4.heap.size = F at *
            have hc0 := hfF.cell (i := 0) rfl
            have hc1 := hfF.cell (i := 1) rfl
            have hz0' := hf5.frozen 0
            have hz1' := hf5.frozen 1
            have hy0 := hf5.cell (i := 0) rfl
            have hy1 := hf5.cell (i := 1) rfl
            clear hfF hz1 hl0 hl1
            have HB5 := Lib.hid hb5
            have HF5 := Lib.hid hf5
            clear hb5 hf5
            go_region
            obtain ⟨k2, k3⟩ := paRes (a := .int .i64 e) (b := .int .i64 (q' : Int)) HB5.out HF5.out
            generalize (W5.setCell ⟨w.heap.size, 0, none⟩ (.int .i64 e)).setCell ⟨w.heap.size, 1, none⟩ (.int .i64 (q' : Int)) = W6 at *
            have k2' : Below w.heap.size w W6.drew := drawB k2 1
            have k3' : Row W6.drew w.heap.size 45 #[.int .i64 e, .int .i64 (q' : Int)] := k3
            clear k2 k3 hc0 hc1 hz0' hz1' hy0 hy1
            generalize W6.drew = W7 at *
            have HK := Lib.hid k2'
            clear k2'
            have hc0 := k3'.cell (i := 0) rfl
            have hc1 := k3'.cell (i := 1) rfl
            go_wp2
            refine bodyPost_ret (v := .tuple #[.slice none 0 0, .agg #[.int .i64 e, .int .i64 (q' : Int)]]) ?_ rfl ⟨rfl, HK.out⟩
            simp [results, Tryd.results27, go_sem, hc0, hc1]
          | @good _ q' _ u' _ cl _ h40 hc hn =>
            have HN := Lib.hid hn
            have hqq := hc.adv q' u' cl rfl
            have e32 : ((s[q].toNat : Int) == 32) = false := by rw [← hch, h40]; decide
            have e40 : ((s[q].toNat : Int) == 40) = true := by rw [← hch]; simpa using h40
            have hS := hst.at_ (by omega) (by omega) (q + 1)
            have HCY := Lib.hid (cycle_any _ (w.heap.size + 1) R (w.heap.size + 1) s k (q + 1) k u m _ hsl h1 h64 (by omega) (by omega) (by omega) (by omega) hS.rd hS.im hc)
            have hq1 : ((q + 1 : Nat) : Int) = (q : Int) + 1 := by omega
            rw [hq1] at HCY hS
            have HS := Lib.hid hS
            clear hst hS hch h40 hc hn
            go_wp2_with fail
            refine HCY.out.mono ?_
            rintro e' W4 ⟨rfl, hrd, him, hbl⟩
            have hst4 : PaSt w R (w.heap.size + 1) s k k (joinL m cl) q' u' W4 := ⟨hrd, him, Row.below HS.out.fr hbl (by omega), HS.out.be.trans (hbl.mono (by omega))⟩
            have HS4 := Lib.hid (show PaSt w R (w.heap.size + 1) s k k (joinL m cl) q' u' (W4.alloc (.cells #[.int .i64 0, .int .i64 0] 45)) from
              ⟨Row.alloc hst4.rd _, ⟨Row.alloc hst4.im.1 _, hst4.im.2⟩, Row.alloc hst4.fr _, hst4.be.alloc hst4.be.size _⟩)
            clear hbl HCY HS hst4 hrd him
            have hfn := Row.new W4 45 #[.int .i64 0, .int .i64 0]
            have hn0 := hfn.cell (i := 0) rfl
            have hn1 := hfn.cell (i := 1) rfl
            have hg0 := hfn.frozen 0
            have hg1 := hfn.frozen 1
            clear hfn
            go_wp2_with fail
            go_roundg (s.size - q')
            case measure => omega
            case rel => exact ⟨q', u', joinL m cl, rfl, by omega, HN.out, HS4.out⟩
          | other _ h32 h40 =>
            have e32 : ((s[q].toNat : Int) == 32) = false := by rw [← hch]; simpa using h32
            have e40 : ((s[q].toNat : Int) == 40) = false := by rw [← hch]; simpa using h40
            have HS := Lib.hid hst
            clear hch h32 h40 hst
            go_wp2_with fail
            refine (fault_any 11 q _).mono ?_
            rintro e' W3' ⟨rfl, hbl⟩
            have hb2 : Below w.heap.size w W3' := HS.out.be.trans (hbl.mono HS.out.be.size)
            have hf2 : Row W3' w.heap.size 45 #[.int .i64 0, .int .i64 0] := Row.below HS.out.fr hbl (Row.lt HS.out.fr)
            clear hbl
            have hz0 := hf2.frozen 0
            have hz1 := hf2.frozen 1
            have hy0 := hf2.cell (i := 0) rfl
            have hy1 := hf2.cell (i := 1) rfl
            have HRS := Lib.hid (paRes (a := .int .i64 11) (b := .int .i64 q) hb2 hf2)
            clear hb2 hf2
            go_wp2_with fail
            obtain ⟨k2, k3⟩ := HRS.out
            have hc0 := k3.cell (i := 0) rfl
            have hc1 := k3.cell (i := 1) rfl
            refine bodyPost_ret (v := .tuple #[.slice none 0 0, .agg #[.int .i64 11, .int .i64 q]]) ?_ rfl ⟨rfl, k2⟩
            simp [results, Tryd.results27, go_sem, hc0, hc1]
        · have hqe : q = s.size := by omega
          have hoo : o = .ok m := by
            cases hpa with
            | stop _ => rfl
            | blank h _ => rw [chB_out (by omega)] at h; omega
            | bad h _ => rw [chB_out (by omega)] at h; omega
            | good h _ _ => rw [chB_out (by omega)] at h; omega
            | other h _ _ => omega
          subst hoo
          have hd3 : ¬ (q : Int) < (s.size : Int) := by omega
          have hl66 := Row.cell hst.rd (rd_66 s q u (.slice (some ⟨w.heap.size + 1, 0, none⟩) k k))
          have hz0 := hst.fr.frozen 0
          have hz1' := hst.fr.frozen 1
          have hy0 := hst.fr.cell (i := 0) rfl
          have hy1 := hst.fr.cell (i := 1) rfl
          have HRS := Lib.hid (paRes (a := .int .i64 0) (b := .int .i64 0) hst.be hst.fr)
          have HIM := Lib.hid hst.im
          clear hpa hst hqe
          go_wp2_with fail
          obtain ⟨k2, k3⟩ := HRS.out
          have hc0 := k3.cell (i := 0) rfl
          have hc1 := k3.cell (i := 1) rfl
          refine bodyPost_ret (v := .tuple #[.slice (some ⟨w.heap.size + 1, 0, none⟩) k k, .agg #[.int .i64 0, .int .i64 0]]) ?_ rfl ⟨_, rfl, ?_, k2⟩
          · simp [results, Tryd.results27, go_sem, hc0, hc1]
          · have hml : m.length = k := HIM.out.2
            have hr2 := Row.far (Row.far HIM.out.1 (p := ⟨w.heap.size, 0, none⟩) (by show w.heap.size + 1 ≠ w.heap.size; omega) (.int .i64 0)) (p := ⟨w.heap.size, 1, none⟩) (by show w.heap.size + 1 ≠ w.heap.size; omega) (.int .i64 0)
            rw [← hml] at hr2 ⊢
            exact Row.ints hr2
end Go.Proofs.YtpchomhfpfpckaaDoor
