/- The reader's cycle. -/
import Derived.Test.YtpchomhfpfpckaaDoorPJoin
import Derived.Test.YtpchomhfpfpckaaDoorRowI
namespace Go.Proofs.YtpchomhfpfpckaaDoor
open Go Go.RowKit

structure CySt (w : World) (B R I : Nat) (s : ByteArray) (n : Nat) (m : List Int) (v pts : Value) (cl : List Int) (p : Nat) (u : List Int) (W : World) : Prop where
  rd : RdP W R s p u v
  im : ImgP W I n m
  ow : W.ownsRow (w.heap.size + 1) 3 1 pts cl.length (icells cl)
  fr : Row W w.heap.size 45 #[.int .i64 0, .int .i64 0]
  be : Below B w W
section
variable {w W W' : World} {B R I n p q : Nat} {s : ByteArray} {m u u' cl : List Int} {v pts pts' : Value}
theorem CySt.drewN (h : CySt w B R I s n m v pts cl p u W) (k : Nat) : CySt w B R I s n m v pts cl p u (W.drewN k) := ⟨h.rd, h.im, h.ow, h.fr, ⟨h.be.os, h.be.tape, h.be.output, h.be.size, h.be.block⟩⟩
theorem owns_but' {base e size k : Nat} {x : Value} {xs : List Value} {t : Nat} (h : W.ownsRow base e size x k xs) (hk : But t W.heap.size W W') (ht : t < base) : W'.ownsRow base e size x k xs := by
  refine ⟨h.1, h.2.imp id ?_⟩
  rintro ⟨g, cap, cur, hv, hb, hg, hr⟩
  have := (Array.getElem?_eq_some_iff.1 hg).1
  exact ⟨g, cap, cur, hv, hb, (hk.2 g (by omega) (by omega)).trans hg, hr⟩
theorem CySt.but (h : CySt w B R I s n m v pts cl p u W) (hRI : R ≠ I) (hR : R < w.heap.size) (hBR : B ≤ R) (hb : But R W.heap.size W W') (hr : RdP W' R s q u' v) : CySt w B R I s n m v pts cl q u' W' :=
  ⟨hr, h.im.but hb (fun e => hRI e.symm), owns_but' h.ow hb (by omega), (hb.2 _ (Row.lt h.fr) (by omega)).trans h.fr, h.be.trans (hb.1.mono hBR)⟩
theorem CySt.at_ (h : CySt w B R I s n m v pts cl p u W) (hRI : R ≠ I) (hR : R < w.heap.size) (hBR : B ≤ R) (q : Nat) : CySt w B R I s n m v pts cl q u (W.setCell ⟨R, 1, none⟩ (.int .i64 (q : Int))) :=
  h.but hRI hR hBR (But.set W (p := ⟨R, 1, none⟩) (.inl rfl) (Nat.le_of_lt (Nat.lt_of_lt_of_le hR h.be.size)) _) (h.rd.at_ q)
theorem CySt.app (h : CySt w B R I s n m v pts cl p u W) (hR : R < w.heap.size) (hI : I < w.heap.size) (hBR : B ≤ R) {tmp : Obj} {x : Int} (hg : (W.alloc tmp).grownBy W' pts.ownBlock) (hown : W'.ownsRow (w.heap.size + 1) 3 1 pts' (cl.length + 1) (icells cl ++ [.int .i64 x])) : CySt w B R I s n m v pts' (cl ++ [x]) p u W' := by
  have ho : ∀ r, pts.ownBlock = some r → w.heap.size + 1 ≤ r := fun r e => (h.ow.lt r e).1
  refine ⟨Row.kept (Row.alloc h.rd tmp) hg (fun e => ?_), ⟨Row.kept (Row.alloc h.im.1 tmp) hg (fun e => ?_), h.im.2⟩, ?_, Row.kept (Row.alloc h.fr tmp) hg (fun e => ?_), (h.be.alloc (by have := h.be.size; omega) tmp).grown hg (by have := h.be.size; simp; omega) (fun r e => ?_)⟩
  · have := ho R e.symm; omega
  · have := ho I e.symm; omega
  · rw [List.length_append, icells_append]; exact hown
  · have := ho _ e.symm; omega
  · have := ho r e; omega
end

/-- What cycle answers. -/
def CycPost (w : World) (B R I : Nat) (s : ByteArray) (n : Nat) (m : List Int) (v : Value) : COut → Ending → World → Prop
  | .bad e q, r, w' => r = .returned (.agg #[.int .i64 e, .int .i64 (q : Int)]) ∧ Below B w w'
  | .done q u' cl, r, w' => r = .returned (.agg #[.int .i64 0, .int .i64 0]) ∧ RdP w' R s q u' v ∧ ImgP w' I n (joinL m cl) ∧ Below B w w'
/-- The result's own cells are set. -/
theorem cyRes {w W : World} {B : Nat} {a b x y : Value} (hb : Below B w W) (hB : B ≤ w.heap.size) (hf : Row W w.heap.size 45 #[x, y]) :
    Below B w ((W.setCell ⟨w.heap.size, 0, none⟩ a).setCell ⟨w.heap.size, 1, none⟩ b) ∧ Row ((W.setCell ⟨w.heap.size, 0, none⟩ a).setCell ⟨w.heap.size, 1, none⟩ b) w.heap.size 45 #[a, b] :=
  ⟨(hb.setCell (p := ⟨w.heap.size, 0, none⟩) hB _).setCell (p := ⟨w.heap.size, 1, none⟩) hB _, by have := (hf.set 0 a).set 1 b; exact this⟩
theorem drawB {B : Nat} {w W : World} (h : Below B w W) (n : Nat) : Below B w (W.drewN n) := ⟨h.os, h.tape, h.output, h.size, h.block⟩

set_option maxRecDepth 100000 in
set_option maxHeartbeats 8000000 in
theorem cycle_any (w : World) (B R I : Nat) (s : ByteArray) (n p c : Nat) (u m : List Int) (o : COut) (hs : s.size ≤ 20000) (h1 : 1 ≤ n) (h64 : n ≤ 64) (hp : p ≤ s.size) (hRI : R ≠ I) (hBR : B ≤ R) (hBI : B ≤ I)
    (hr : RdP w R s p u (.slice (some ⟨I, 0, none⟩) n c)) (hi : ImgP w I n m) (hc : CycR s n p u [] o) :
    Calls Tryd.prog 69 #[.pointer (some ⟨R, 0, none⟩)] w (CycPost w B R I s n m (.slice (some ⟨I, 0, none⟩) n c) o) := by
  obtain ⟨i0, hi0, hz0, hz1, hz2⟩ := info_parts info3
  have hR : R < w.heap.size := Row.lt hr
  have hI : I < w.heap.size := Row.lt hi.1
  have HC := Lib.hid hc
  have HST := Lib.hid (show CySt w B R I s n m (.slice (some ⟨I, 0, none⟩) n c) (.slice none 0 0) [] p u (w.alloc (.cells #[.int .i64 0, .int .i64 0] 45)) from
    ⟨Row.alloc hr _, ⟨Row.alloc hi.1 _, hi.2⟩, World.ownsRow_nil _ _ _ _, Row.new _ _ _, (Below.refl _ w).alloc (by omega) _⟩)
  clear hr hi hc
  go_enter Tryd.func69, Tryd.ntmps69
  go_wp2
  go_loopg [3] (s.size - p) (fun gk pts wr => ∃ (q : Nat) (u' cl : List Int), gk = s.size - q ∧ q ≤ s.size ∧ CycR s n q u' cl o ∧ Hid (InR n cl) ∧ cl.length ≤ q ∧ CySt w B R I s n m (.slice (some ⟨I, 0, none⟩) n c) pts cl q u' wr)
  case atStart => exact ⟨p, u, [], rfl, hp, HC.out, (fun x h => by cases h), Nat.zero_le _, HST.out⟩
  case round =>
    obtain ⟨q, u', cl, rfl, hq, hcy, HIN, hcl, hst⟩ := hrel
    have hl0 := Row.cell hst.rd (rd_0 s q u' (.slice (some ⟨I, 0, none⟩) n c))
    have hl1 := Row.cell hst.rd (rd_1 s q u' (.slice (some ⟨I, 0, none⟩) n c))
    have HS := Lib.hid hst
    obtain ⟨Ap, cp, rfl⟩ := slice_of_own hst.ow
    clear hst HST HC
    by_cases hqs : q < s.size
    · have hd1 : decide ((q : Int) < (s.size : Int)) = true := by simp; omega
      have hd2 : decide (q < s.size) = true := by simp; omega
      have hd3 : (q : Int) < (s.size : Int) := by omega
      have hch := chB_in hqs
      go_wp2
      go_quiet (fail)
      generalize hW1 : wr.drewN _ = W1
      have hst1 : CySt w B R I s n m (.slice (some ⟨I, 0, none⟩) n c) (.slice Ap cl.length cp) cl q u' W1 := by rw [← hW1]; exact HS.out.drewN _
      clear hW1 HS hl0 hl1
      have hl0 := Row.cell hst1.rd (rd_0 s q u' (.slice (some ⟨I, 0, none⟩) n c))
      have hl1 := Row.cell hst1.rd (rd_1 s q u' (.slice (some ⟨I, 0, none⟩) n c))
      have HS1 := Lib.hid hst1
      clear hst1
      go_wp2
      go_quiet (fail)
      generalize hW2 : W1.drewN _ = W2
      have hst2 : CySt w B R I s n m (.slice (some ⟨I, 0, none⟩) n c) (.slice Ap cl.length cp) cl q u' W2 := by rw [← hW2]; exact HS1.out.drewN _
      clear hW2 HS1 hl0 hl1 hd1 hd2
      have hl0 := Row.cell hst2.rd (rd_0 s q u' (.slice (some ⟨I, 0, none⟩) n c))
      have hl1 := Row.cell hst2.rd (rd_1 s q u' (.slice (some ⟨I, 0, none⟩) n c))
      have hf1 := Row.frozen hst2.rd 1
      have HS2 := Lib.hid hst2
      clear hst2
      have hrg : (0 : Int) ≤ (s[q].toNat : Int) ∧ (s[q].toNat : Int) ≤ 255 := by
        have := UInt8.toNat_lt s[q]
        omega
      have HDg := Lib.hid (fun W => isDigit_any (s[q].toNat : Int) W hrg)
      rw [← hch] at HDg
      cases hcy with
      | stop he => omega
      | blank h32 hn =>
        have HN := Lib.hid hn
        have e32 : ((s[q].toNat : Int) == 32) = true := by rw [← hch]; simpa using h32
        clear hn hch h32 HDg
        go_wp2_with fail
        go_roundg (s.size - (q + 1))
        case measure => omega
        case rel => exact ⟨q + 1, u', cl, rfl, by omega, HN.out, HIN, by omega, HS2.out.at_ hRI hR hBR (q + 1)⟩
      | close h41 =>
        have e32 : ((s[q].toNat : Int) == 32) = false := by rw [← hch, h41]; decide
        have e41 : ((s[q].toNat : Int) == 41) = true := by rw [← hch]; simpa using h41
        have hst3 := HS2.out.at_ hRI hR hBR (q + 1)
        have HS3 := Lib.hid hst3
        have how := hst3.ow
        have hii : Ints (W2.setCell ⟨R, 1, none⟩ (.int .i64 ((q + 1 : Nat) : Int))) (W2.setCell ⟨R, 1, none⟩ (.int .i64 ((q + 1 : Nat) : Int))).heap.size (.slice Ap cl.length cp) cl := ints_of_own how rfl
        have hdI : ∀ b o k q', (Value.slice Ap cl.length cp) = .slice (some ⟨b, o, none⟩) k q' → b ≠ I := fun b o k q' e => by
          rcases how.2 with ⟨h0, _⟩ | ⟨g, cap, cur, hv, hbg, _⟩
          · rw [h0] at e; cases e
          · rw [hv] at e
            injection e with e _ _
            injection e with e
            injection e with e _ _
            omega
        have HJ := Lib.hid (join_any _ R I s n (q + 1) c u' m cl (.slice Ap cl.length cp) hRI hst3.rd hst3.im (by omega) HIN hii hdI)
        have hq1 : ((q + 1 : Nat) : Int) = (q : Int) + 1 := by omega
        rw [hq1] at HJ HS3
        clear hst3 how hii hdI hch h41 HDg HS2
        go_wp2_with fail
        refine HJ.out.mono ?_
        rintro e' W3 ⟨rfl, hr3, hi3, hb3⟩
        have hb2 : Below B w W3 := HS3.out.be.trans (hb3.1.mono hBI)
        have hf2 : Row W3 w.heap.size 45 #[.int .i64 0, .int .i64 0] := (hb3.2 _ (Row.lt HS3.out.fr) (by omega)).trans HS3.out.fr
        have HR3 := Lib.hid hr3
        have HI3 := Lib.hid hi3
        clear hr3 hi3 hb3
        have hy0 := hf2.cell (i := 0) rfl
        have hy1 := hf2.cell (i := 1) rfl
        have hz0' := hf2.frozen 0
        have hz1' := hf2.frozen 1
        have HRS := Lib.hid (cyRes (a := .int .i64 0) (b := .int .i64 0) hb2 (by omega) hf2)
        clear hb2 hf2
        go_wp2_with fail
        obtain ⟨k2, k3⟩ := HRS.out
        have hc0 := k3.cell (i := 0) rfl
        have hc1 := k3.cell (i := 1) rfl
        refine bodyPost_ret (v := .agg #[.int .i64 0, .int .i64 0]) ?_ rfl ⟨rfl, Row.far (Row.far HR3.out (by show R ≠ w.heap.size; omega) _) (by show R ≠ w.heap.size; omega) _, ⟨Row.far (Row.far HI3.out.1 (by show I ≠ w.heap.size; omega) _) (by show I ≠ w.heap.size; omega) _, HI3.out.2⟩, k2⟩
        simp [results, Tryd.results69, go_sem, hc0, hc1]
      | @zero _ e _ _ hD h48 hpe =>
        have hqe : q < e := by omega
        have hX : ptX s n q e u' = (0, 11, u') := ptX_zero ⟨h48, hpe⟩
        have hdq : Dg (chB s q) := hD.2.2.1 q (Nat.le_refl _) hqe
        rw [show decide (Dg (chB s q)) = true from decide_eq_true hdq] at HDg
        have hnn : ¬ chB s q = 32 ∧ ¬ chB s q = 41 := by unfold Dg at hdq; omega
        have e32 : ((s[q].toNat : Int) == 32) = false := by rw [← hch]; simpa using hnn.1
        have e41 : ((s[q].toNat : Int) == 41) = false := by rw [← hch]; simpa using hnn.2
        have HPt := Lib.hid (point_any W2 R s n q e u' (some ⟨I, 0, none⟩) c hs h1 h64 hD hqe HS2.out.rd)
        unfold PtPost at HPt
        rw [hX] at HPt
        clear hX hdq hnn
        rw [hch] at HDg
        clear hch
        go_wp2_with fail
        refine ((HDg.out _)).mono ?_
        rintro e' W3 ⟨rfl, hq3⟩
        subst hq3
        go_wp2_with fail
        refine HPt.out.mono ?_
        rintro e' W3 ⟨rfl, hr3, hb3⟩
        have hst3 := HS2.out.but hRI hR hBR hb3 hr3
        have HS3 := Lib.hid hst3
        clear hst3 hr3 hb3 HPt HDg HS2
        have HFA := Lib.hid (Row.new W3 45 #[.int .i64 11, .int .i64 (q : Int)])
        have hfa0 := HFA.out.cell (i := 0) rfl
        have hfa1 := HFA.out.cell (i := 1) rfl
        have hb2 : Below B w (W3.alloc (.cells #[.int .i64 11, .int .i64 (q : Int)] 45)) := HS3.out.be.alloc (by have := HS3.out.be.size; omega) _
        have hf2 : Row (W3.alloc (.cells #[.int .i64 11, .int .i64 (q : Int)] 45)) w.heap.size 45 #[.int .i64 0, .int .i64 0] := Row.alloc HS3.out.fr _
        have hy0 := hf2.cell (i := 0) rfl
        have hy1 := hf2.cell (i := 1) rfl
        have hz0' := hf2.frozen 0
        have hz1' := hf2.frozen 1
        have HRS := Lib.hid (cyRes (a := .int .i64 11) (b := .int .i64 (q : Int)) hb2 (by omega) hf2)
        clear hb2 hf2
        go_wp2_with fail
        obtain ⟨k2, k3⟩ := HRS.out
        have hc0 := k3.cell (i := 0) rfl
        have hc1 := k3.cell (i := 1) rfl
        refine bodyPost_ret (v := .agg #[.int .i64 11, .int .i64 (q : Int)]) ?_ rfl ⟨rfl, k2⟩
        simp [results, Tryd.results69, go_sem, hc0, hc1]
      | @big _ e _ _ hN hb =>
        obtain ⟨hD, hqe, hnz⟩ := hN
        have hX : ptX s n q e u' = (0, 2, u') := ptX_big hnz hb
        have hdq : Dg (chB s q) := hD.2.2.1 q (Nat.le_refl _) hqe
        rw [show decide (Dg (chB s q)) = true from decide_eq_true hdq] at HDg
        have hnn : ¬ chB s q = 32 ∧ ¬ chB s q = 41 := by unfold Dg at hdq; omega
        have e32 : ((s[q].toNat : Int) == 32) = false := by rw [← hch]; simpa using hnn.1
        have e41 : ((s[q].toNat : Int) == 41) = false := by rw [← hch]; simpa using hnn.2
        have HPt := Lib.hid (point_any W2 R s n q e u' (some ⟨I, 0, none⟩) c hs h1 h64 hD hqe HS2.out.rd)
        unfold PtPost at HPt
        rw [hX] at HPt
        clear hX hdq hnn
        rw [hch] at HDg
        clear hch
        go_wp2_with fail
        refine ((HDg.out _)).mono ?_
        rintro e' W3 ⟨rfl, hq3⟩
        subst hq3
        go_wp2_with fail
        refine HPt.out.mono ?_
        rintro e' W3 ⟨rfl, hr3, hb3⟩
        have hst3 := HS2.out.but hRI hR hBR hb3 hr3
        have HS3 := Lib.hid hst3
        clear hst3 hr3 hb3 HPt HDg HS2
        have HFA := Lib.hid (Row.new W3 45 #[.int .i64 2, .int .i64 (q : Int)])
        have hfa0 := HFA.out.cell (i := 0) rfl
        have hfa1 := HFA.out.cell (i := 1) rfl
        have hb2 : Below B w (W3.alloc (.cells #[.int .i64 2, .int .i64 (q : Int)] 45)) := HS3.out.be.alloc (by have := HS3.out.be.size; omega) _
        have hf2 : Row (W3.alloc (.cells #[.int .i64 2, .int .i64 (q : Int)] 45)) w.heap.size 45 #[.int .i64 0, .int .i64 0] := Row.alloc HS3.out.fr _
        have hy0 := hf2.cell (i := 0) rfl
        have hy1 := hf2.cell (i := 1) rfl
        have hz0' := hf2.frozen 0
        have hz1' := hf2.frozen 1
        have HRS := Lib.hid (cyRes (a := .int .i64 2) (b := .int .i64 (q : Int)) hb2 (by omega) hf2)
        clear hb2 hf2
        go_wp2_with fail
        obtain ⟨k2, k3⟩ := HRS.out
        have hc0 := k3.cell (i := 0) rfl
        have hc1 := k3.cell (i := 1) rfl
        refine bodyPost_ret (v := .agg #[.int .i64 2, .int .i64 (q : Int)]) ?_ rfl ⟨rfl, k2⟩
        simp [results, Tryd.results69, go_sem, hc0, hc1]
      | @double _ e _ _ hN hb hm =>
        obtain ⟨hD, hqe, hnz⟩ := hN
        have hX : ptX s n q e u' = (0, 8, u') := ptX_double hnz (by omega) hm
        have hdq : Dg (chB s q) := hD.2.2.1 q (Nat.le_refl _) hqe
        rw [show decide (Dg (chB s q)) = true from decide_eq_true hdq] at HDg
        have hnn : ¬ chB s q = 32 ∧ ¬ chB s q = 41 := by unfold Dg at hdq; omega
        have e32 : ((s[q].toNat : Int) == 32) = false := by rw [← hch]; simpa using hnn.1
        have e41 : ((s[q].toNat : Int) == 41) = false := by rw [← hch]; simpa using hnn.2
        have HPt := Lib.hid (point_any W2 R s n q e u' (some ⟨I, 0, none⟩) c hs h1 h64 hD hqe HS2.out.rd)
        unfold PtPost at HPt
        rw [hX] at HPt
        clear hX hdq hnn
        rw [hch] at HDg
        clear hch
        go_wp2_with fail
        refine ((HDg.out _)).mono ?_
        rintro e' W3 ⟨rfl, hq3⟩
        subst hq3
        go_wp2_with fail
        refine HPt.out.mono ?_
        rintro e' W3 ⟨rfl, hr3, hb3⟩
        have hst3 := HS2.out.but hRI hR hBR hb3 hr3
        have HS3 := Lib.hid hst3
        clear hst3 hr3 hb3 HPt HDg HS2
        have HFA := Lib.hid (Row.new W3 45 #[.int .i64 8, .int .i64 (q : Int)])
        have hfa0 := HFA.out.cell (i := 0) rfl
        have hfa1 := HFA.out.cell (i := 1) rfl
        have hb2 : Below B w (W3.alloc (.cells #[.int .i64 8, .int .i64 (q : Int)] 45)) := HS3.out.be.alloc (by have := HS3.out.be.size; omega) _
        have hf2 : Row (W3.alloc (.cells #[.int .i64 8, .int .i64 (q : Int)] 45)) w.heap.size 45 #[.int .i64 0, .int .i64 0] := Row.alloc HS3.out.fr _
        have hy0 := hf2.cell (i := 0) rfl
        have hy1 := hf2.cell (i := 1) rfl
        have hz0' := hf2.frozen 0
        have hz1' := hf2.frozen 1
        have HRS := Lib.hid (cyRes (a := .int .i64 8) (b := .int .i64 (q : Int)) hb2 (by omega) hf2)
        clear hb2 hf2
        go_wp2_with fail
        obtain ⟨k2, k3⟩ := HRS.out
        have hc0 := k3.cell (i := 0) rfl
        have hc1 := k3.cell (i := 1) rfl
        refine bodyPost_ret (v := .agg #[.int .i64 8, .int .i64 (q : Int)]) ?_ rfl ⟨rfl, k2⟩
        simp [results, Tryd.results69, go_sem, hc0, hc1]
      | @point _ e _ _ _ hN hb hm hn =>
        obtain ⟨hD, hqe, hnz⟩ := hN
        have HN := Lib.hid hn
        have hX : ptX s n q e u' = (((rv s q (e - q) : Nat) : Int), 0, u' ++ [((rv s q (e - q) : Nat) : Int)]) := ptX_ok hnz (by omega) hm
        have hdq : Dg (chB s q) := hD.2.2.1 q (Nat.le_refl _) hqe
        rw [show decide (Dg (chB s q)) = true from decide_eq_true hdq] at HDg
        have hnn : ¬ chB s q = 32 ∧ ¬ chB s q = 41 := by unfold Dg at hdq; omega
        have e32 : ((s[q].toNat : Int) == 32) = false := by rw [← hch]; simpa using hnn.1
        have e41 : ((s[q].toNat : Int) == 41) = false := by rw [← hch]; simpa using hnn.2
        have HPt := Lib.hid (point_any W2 R s n q e u' (some ⟨I, 0, none⟩) c hs h1 h64 hD hqe HS2.out.rd)
        unfold PtPost at HPt
        rw [hX] at HPt
        clear hX hdq hnn
        rw [hch] at HDg
        clear hch
        go_wp2_with fail
        refine ((HDg.out _)).mono ?_
        rintro e' W3 ⟨rfl, hq3⟩
        subst hq3
        go_wp2_with fail
        refine HPt.out.mono ?_
        rintro e' W3 ⟨rfl, hr3, hb3⟩
        have hst3 := HS2.out.but hRI hR hBR hb3 hr3
        have HS3 := Lib.hid hst3
        clear hst3 hr3 hb3 HPt HDg HS2
        have hxx : (rv s q (e - q) : Int) < n := by omega
        have HXX := Lib.hid hb
        obtain ⟨x, hx⟩ : ∃ x, rv s q (e - q) = x := ⟨_, rfl⟩
        rw [hx] at HS3 HN HXX
        rw [hx]
        have hes : e ≤ s.size := hD.2.1
        clear hx hn hm hb hxx hnz hD
        have hfa := Row.new W3 45 #[.int .i64 0, .int .i64 0]
        have hfa0 := hfa.cell (i := 0) rfl
        have hfa1 := hfa.cell (i := 1) rfl
        have hal : CySt w B R I s n m (.slice (some ⟨I, 0, none⟩) n c) (.slice Ap cl.length cp) cl e (u' ++ [(x : Int)]) (W3.alloc (.cells #[.int .i64 0, .int .i64 0] 45)) :=
          ⟨Row.alloc HS3.out.rd _, ⟨Row.alloc HS3.out.im.1 _, HS3.out.im.2⟩, World.ownsRow.alloc HS3.out.ow _, Row.alloc HS3.out.fr _, HS3.out.be.alloc (by have := HS3.out.be.size; omega) _⟩
        have HAL := Lib.hid hal
        have HO2 := Lib.hid (World.ownsRow.alloc hal.ow (.cells #[.int .i64 (x : Int)] 3))
        have hsz := hal.be.size
        clear hal hfa
        go_wp2_with (at_builtin; refine wpList_append_own _ rfl (.tmp 67) (.tmp 69) 23 rfl (w.heap.size + 1) 3 i0 (.int .i64 0) 1 8 Tryd.underlying23 hi0 hz0 hz1 hz2 rfl (by decide) _ _ _ rfl HO2.out ⟨W3.heap.size + 1, 0, none⟩ 1 1 [.int .i64 (x : Int)] rfl rfl (cell_at0 _ _ _ (by simp)) (by simp [Value.oneCell']) (by unfold maxLen; omega) (by omega) (by simp at hsz ⊢; omega) ?_; intro v1 w4 hown' hgrow _; have HX := Lib.hid (HAL.out.app hR hI hBR hgrow hown'); clear hown' hgrow)
        go_roundg (s.size - e)
        case measure => omega
        case rel => exact ⟨e, u' ++ [(x : Int)], cl ++ [(x : Int)], rfl, hes, HN.out, (fun y hy => by
          rcases List.mem_append.1 hy with hy | hy
          · exact HIN y hy
          · rw [List.mem_singleton] at hy
            subst hy
            have := HXX.out
            omega), by simp; omega, HX.out⟩
      | other _ h32 h41 hnd =>
        rw [show decide (Dg (chB s q)) = false from decide_eq_false hnd] at HDg
        have e32 : ((s[q].toNat : Int) == 32) = false := by rw [← hch]; simpa using h32
        have e41 : ((s[q].toNat : Int) == 41) = false := by rw [← hch]; simpa using h41
        rw [hch] at HDg
        clear hch h32 h41 hnd
        go_wp2_with fail
        refine ((HDg.out _)).mono ?_
        rintro e' W3 ⟨rfl, hq3⟩
        subst hq3
        go_wp2_with fail
        refine (fault_any 11 q _).mono ?_
        rintro e' W3 ⟨rfl, hbl⟩
        have hb2 : Below B w W3 := HS2.out.be.trans (hbl.mono (by have := HS2.out.be.size; omega))
        have hf2 : Row W3 w.heap.size 45 #[.int .i64 0, .int .i64 0] := Row.below HS2.out.fr hbl (Row.lt HS2.out.fr)
        clear hbl
        have hy0 := hf2.cell (i := 0) rfl
        have hy1 := hf2.cell (i := 1) rfl
        have hz0' := hf2.frozen 0
        have hz1' := hf2.frozen 1
        have HRS := Lib.hid (cyRes (a := .int .i64 11) (b := .int .i64 q) hb2 (by omega) hf2)
        clear hb2 hf2
        go_wp2_with fail
        obtain ⟨k2, k3⟩ := HRS.out
        have hc0 := k3.cell (i := 0) rfl
        have hc1 := k3.cell (i := 1) rfl
        refine bodyPost_ret (v := .agg #[.int .i64 11, .int .i64 q]) ?_ rfl ⟨rfl, k2⟩
        simp [results, Tryd.results69, go_sem, hc0, hc1]
    · have hqe : q = s.size := by omega
      have ho : o = .bad 11 s.size := by
        cases hcy with
        | stop _ => rfl
        | blank h _ => rw [chB_out (by omega)] at h; omega
        | close h => rw [chB_out (by omega)] at h; omega
        | zero _ h _ => rw [chB_out (by omega)] at h; omega
        | big hN _ => have := hN.1.2.1; have := hN.2.1; omega
        | double hN _ _ => have := hN.1.2.1; have := hN.2.1; omega
        | point hN _ _ _ => have := hN.1.2.1; have := hN.2.1; omega
        | other h _ _ _ => omega
      subst ho
      have hd1 : decide ((q : Int) < (s.size : Int)) = false := by simp; omega
      have hd2 : decide (q < s.size) = false := by simp; omega
      have hd3 : ¬ (q : Int) < (s.size : Int) := by omega
      clear hcy hqs hqe
      go_wp2
      go_quiet (fail)
      generalize hW1 : wr.drewN _ = W2
      have hst2 : CySt w B R I s n m (.slice (some ⟨I, 0, none⟩) n c) (.slice Ap cl.length cp) cl q u' W2 := by rw [← hW1]; exact HS.out.drewN _
      clear hW1 HS hl0 hl1 hd1 hd2
      have hl0 := Row.cell hst2.rd (rd_0 s q u' (.slice (some ⟨I, 0, none⟩) n c))
      have HS2 := Lib.hid hst2
      clear hst2
      go_wp2_with fail
      refine (fault_any 11 s.size _).mono ?_
      rintro e' W3 ⟨rfl, hbl⟩
      have hb2 : Below B w W3 := HS2.out.be.trans (hbl.mono (by have := HS2.out.be.size; omega))
      have hf2 : Row W3 w.heap.size 45 #[.int .i64 0, .int .i64 0] := Row.below HS2.out.fr hbl (Row.lt HS2.out.fr)
      clear hbl
      have hy0 := hf2.cell (i := 0) rfl
      have hy1 := hf2.cell (i := 1) rfl
      have hz0' := hf2.frozen 0
      have hz1' := hf2.frozen 1
      have HRS := Lib.hid (cyRes (a := .int .i64 11) (b := .int .i64 s.size) hb2 (by omega) hf2)
      clear hb2 hf2
      go_wp2_with fail
      obtain ⟨k2, k3⟩ := HRS.out
      have hc0 := k3.cell (i := 0) rfl
      have hc1 := k3.cell (i := 1) rfl
      refine bodyPost_ret (v := .agg #[.int .i64 11, .int .i64 s.size]) ?_ rfl ⟨rfl, k2⟩
      simp [results, Tryd.results69, go_sem, hc0, hc1]
end Go.Proofs.YtpchomhfpfpckaaDoor
