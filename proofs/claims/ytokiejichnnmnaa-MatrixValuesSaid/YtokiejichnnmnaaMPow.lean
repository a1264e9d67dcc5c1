/- matrix.power. -/
import Derived.Test.YtokiejichnnmnaaMPowI
namespace Go.Proofs.Ytokiejichnnmnaa
open Go Go.RowKit Go.Shelf Num
attribute [local go_sem] Oper.semAt_some

/-- The world behind the boxes of the two arguments and the zero result. -/
structure PwB (w w3 : World) (a : Array Value) (x : Value) : Prop where
  be : Below w.heap.size w w3
  ra : Row w3 w.heap.size 61 a
  rn : Boxed w3 (w.heap.size + 1) 135 x
  rr : Row w3 (w.heap.size + 1 + 1) 61 #[.int .i64 0, .slice none 0 0]
  sz : w3.heap.size = w.heap.size + 1 + 1 + 1
theorem pwB (w : World) (a : Array Value) (x : Value) : PwB w (((w.alloc (.cells a 61)).alloc (.cells #[x] 135)).alloc (.cells #[.int .i64 0, .slice none 0 0] 61)) a x :=
  ⟨(((Below.refl w.heap.size w).alloc (Nat.le_refl _) _).alloc (by simp) _).alloc (by simp; omega) _, ((row_new rfl _ _).alloc _).alloc _, (by have := Boxed.new (w.alloc (.cells a 61)) 135 x; rw [World.size_alloc] at this; exact this.alloc _), row_new (by simp) _ _, by simp⟩
theorem PwB.on {w w3 w' : World} {a : Array Value} {x : Value} (h : PwB w w3 a x) (hb : Below w3.heap.size w3 w') : Below w.heap.size w w' ∧ Row w' w.heap.size 61 a ∧ Boxed w' (w.heap.size + 1) 135 x ∧ Row w' (w.heap.size + 1 + 1) 61 #[.int .i64 0, .slice none 0 0] :=
  ⟨h.be.trans (hb.mono h.be.size), Row.below h.ra hb h.ra.lt, (hb.block _ h.rn.lt).trans h.rn, Row.below h.rr hb h.rr.lt⟩

set_option maxRecDepth 100000 in
set_option maxHeartbeats 4000000 in
theorem mpower_any (ra : Value) (m n : Nat) (f : Nat → Nat → Int) (p : Int) (w : World) (hm0 : 1 ≤ m) (hm : m ≤ 64) (hp0 : 2 ≤ p) (hp1 : p ≤ 10000) (hn : n < 18446744073709551616) (hf : InG p m m f)
    (ha : Grid w (· < w.heap.size) ra m (fun _ => m) f) :
    Calls Try.prog 116 #[.agg #[.int .i64 p, ra], .int .u64 n] w (GivesM w p m m (powF p m n f)) := by
  have HA := Lib.hid ha
  have HF := Lib.hid hf
  obtain ⟨A, c, rfl, hcm⟩ := ha.form
  have HO := fun W => Lib.hid (one_any m p W (by omega))
  have HX := Lib.hid (pwB w #[.int .i64 p, .slice A m c] (.int .u64 n))
  clear ha hf
  refine (callsIn_wide (n := 5)).1 ?_
  refine callsIn_of_wp_marks Try.func116 rfl trivial ?_ rfl
  simp only [Try.ntmps116, List.size_toArray, List.length_cons, List.length_nil, Nat.reduceAdd, Nat.reduceSub, Array.replicate_succ, Array.replicate_zero, List.push_toArray, List.append_toArray, List.nil_append, List.cons_append]
  gi_wp2
  generalize ((w.alloc (.cells #[.int .i64 p, .slice A m c] 61)).alloc (.cells #[.int .u64 (n : Int)] 135)).alloc (.cells #[.int .i64 0, .slice none 0 0] 61) = w3 at HX ⊢
  refine ⟨trivial, (callsIn_wide.2 (HO _).out).mono ?_⟩
  rintro e w4 ⟨r, rfl, hg, hb⟩
  obtain ⟨A0, c0, rfl, -⟩ := hg.form
  obtain ⟨hb4, j1, j2, j3⟩ := HX.out.on hb
  have c1 := (j1.alloc (.cells #[.int .i64 p, .slice A0 m c0] 61)).cell (i := 0) rfl
  have c2 := (j1.alloc (.cells #[.int .i64 p, .slice A0 m c0] 61)).cell (i := 1) rfl
  have HG := Lib.hid hg
  have HB := Lib.hid hb4
  have H1 := Lib.hid j1
  have H2 := Lib.hid j2
  have H3 := Lib.hid j3
  have HBB := Lib.hid hb
  clear hg hb4 j1 j2 j3 hb
  gi_wp2
  refine ⟨trivial, (squares_in Fence.wide 4 trivial rfl _ _ _).mono ?_⟩
  rintro e w5 ⟨rfl, rfl⟩
  gi_wp2
  have hz3 := HX.out.sz
  have hz4 := HBB.out.size
  obtain ⟨w0, hw0⟩ : ∃ w0, (w4.alloc (.cells #[.int .i64 p, .slice A0 m c0] 61)).alloc (.cells #[.int .i64 p, .slice A m c] 61) = w0 := ⟨_, rfl⟩
  have hz0 : w0.heap.size = w4.heap.size + 1 + 1 := by rw [← hw0]; simp
  have hN : PwN w w0.heap.size (w.heap.size + 1) w4.heap.size (w.heap.size + 1 + 1) := ⟨by omega, by omega, by omega, by omega, by omega, by omega, by omega, by omega, by omega⟩
  have hbw : Below w.heap.size w w0 := by rw [← hw0]; exact (HB.out.alloc (by omega) _).alloc (by simp; omega) _
  have hk0 : Below w4.heap.size w4 w0 := by rw [← hw0]; exact ((Below.refl w4.heap.size w4).alloc (Nat.le_refl _) _).alloc (by simp) _
  have hrow : Row w0 (w4.heap.size + 1) 61 #[.int .i64 p, .slice A m c] := by rw [← hw0]; exact row_new (by simp) _ _
  have hgr : Grid w0 (· < w.heap.size) (.slice A m c) m (fun _ => m) f := HA.out.below (fun b h => h) hbw
  have hI0 : PwI w w0.heap.size (w.heap.size + 1) w4.heap.size (w.heap.size + 1 + 1) p m n f [] (fun _ => False) w0 := by
    refine ⟨hbw, Nat.le_refl _, fun k h => h.elim, ?_, Row.below H3.out hk0 H3.out.lt, by simp, (A0, c0), oneF, by rw [← hw0]; exact (row_new rfl _ _).alloc _, ?_, ?_, by simp [powF, sqF]⟩
    · rw [List.length_nil, Nat.pow_zero, Nat.div_one]; exact (hk0.block _ H2.out.lt).trans H2.out
    · refine (HG.out.below (B := w4.heap.size) (fun b h => h.2) hk0).more fun b h => ?_
      have h1 := h.1
      have h2 := h.2
      exact ⟨by omega, by omega, id, by omega, by omega, by omega⟩
    · intro i _ j _
      unfold oneF
      split <;> omega
  have HI0 := Lib.hid hI0
  have HNN := Lib.hid hN
  rw [hw0]
  clear hw0 hI0 hN hbw hk0 c1 c2
  refine wpIn_rangeX rfl (by omega) (gf := 190) (lb := #[.pointer (some ⟨w4.heap.size + 1, 0, none⟩)]) rfl trivial (enters_of Try.func190 (by kernel_rfl) rfl)
    (sq_seq 4 (by omega) (w4.heap.size + 1) m 64 p (.slice A m c) f (· < w.heap.size) w0 hm0 hm hp0 hp1 HF.out (fun k (hk : k < w.heap.size) => (by omega : k < w0.heap.size)) hrow hgr) (fun _ => rfl) (fun pre x W l o o' h ho hoc => SqH.put h o' ho hoc)
    (PwI w w0.heap.size (w.heap.size + 1) w4.heap.size (w.heap.size + 1 + 1) p m n f) (PwI.abides HNN.out) (fun pre G W h => h.le)
    (fun cc W => cc = Code.exit 0 ∧ PwX w w4.heap.size (w.heap.size + 1 + 1) p m n f W) (fun cc W l o o' h hl ho hoc => ⟨h.1, h.2.put o' (by omega) ho hoc⟩) HI0.out (fun x => .cells #[.int .i64 p, .slice x.1 m x.2] 61) (fun _ => rfl) (fun pre x W o h => SqH.alloc h o) (fun pre G W h k hk => (h.gl k hk).2)
    (fun x B => { tmps := #[.agg #[.int .i64 p, .slice A m c], .int .u64 n, .pointer (some ⟨w.heap.size, 0, none⟩), .pointer (some ⟨w.heap.size + 1, 0, none⟩), .pointer (some ⟨w.heap.size + 1 + 1, 0, none⟩), .pointer (some ⟨w4.heap.size, 0, none⟩), .pointer (some ⟨B, 0, none⟩),
      .pointer (some ⟨w.heap.size, 1, none⟩), .slice A m c, .int .i64 m, .pointer (some ⟨w.heap.size, 0, none⟩), .int .i64 p, .agg #[.int .i64 p, .slice A0 m c0], .agg #[.int .i64 p, .slice A m c], .func (.func 190) #[] #[.pointer (some ⟨w4.heap.size + 1, 0, none⟩)], .agg #[.int .i64 p, .slice x.1 m x.2], undef, undef, undef, undef, undef, undef, undef, undef, undef, undef, undef], defers := [] }) ?assign ?body ?stop
  case assign =>
    intro l x W K hK
    gi_wp2
    rfl
  case stop =>
    rintro D cc W hD ⟨rfl, hx⟩ hK
    obtain ⟨r, g1, g2⟩ := hx.go
    have d0 := g1.cell (i := 0) rfl
    have d1 := g1.cell (i := 1) rfl
    have e0 := hx.rr.cell (i := 0) rfl
    have f0 := hx.rr.frozen 0
    have q1 := hx.rr.set 0 (.int .i64 p)
    have f1 := q1.frozen 1
    have e1 := q1.cell (i := 1) rfl
    have HG2 := Lib.hid g2
    have HXX := Lib.hid hx
    have HK := Lib.hid hK
    clear g1 g2 hx q1 hK hrow hgr
    dsimp only
    gi_wp2
    have hne : D ≠ w.heap.size + 1 + 1 := by omega
    have hK2 := (Below.heap_setCell (W.setCell ⟨w.heap.size + 1 + 1, 0, none⟩ (.int .i64 p)) ⟨w.heap.size + 1 + 1, 1, none⟩ (.slice r.1 m r.2) D hne).trans ((Below.heap_setCell W ⟨w.heap.size + 1 + 1, 0, none⟩ (.int .i64 p) D hne).trans HK.out)
    refine ⟨by simp, .inl ⟨_, _, rfl, run_takeDeferred hK2, ?_⟩⟩
    have X1 := Row.row_set HXX.out.rr (.int .i64 p) (.slice r.1 m r.2)
    have X2 := (HXX.out.b.setCell (p := ⟨w.heap.size + 1 + 1, 0, none⟩) (by show w.heap.size ≤ w.heap.size + 1 + 1; omega) (.int .i64 p)).setCell (p := ⟨w.heap.size + 1 + 1, 1, none⟩) (by show w.heap.size ≤ w.heap.size + 1 + 1; omega) (.slice r.1 m r.2)
    have X3 := (HG2.out.set (p := ⟨w.heap.size + 1 + 1, 0, none⟩) (fun h => h.2.2 rfl) (.int .i64 p)).set (p := ⟨w.heap.size + 1 + 1, 1, none⟩) (fun h => h.2.2 rfl) (.slice r.1 m r.2)
    have hzW : ((W.setCell ⟨w.heap.size + 1 + 1, 0, none⟩ (.int .i64 p)).setCell ⟨w.heap.size + 1 + 1, 1, none⟩ (.slice r.1 m r.2)).heap.size = W.heap.size := by simp only [World.size_setCell]
    generalize (W.setCell ⟨w.heap.size + 1 + 1, 0, none⟩ (.int .i64 p)).setCell ⟨w.heap.size + 1 + 1, 1, none⟩ (.slice r.1 m r.2) = W2 at X1 X2 X3 hK2 hzW ⊢
    have keep : ∀ k (o2 : Obj), W2.heap[k]? = some o2 → o2.isCells = true → (W2.putObj D (.deferred none)).heap[k]? = some o2 := fun k o2 hk h2 => (World.putObj_heap_other (fun e => by subst e; rw [hK2] at hk; cases hk; cases h2)).trans hk
    have Y1 : Row (W2.putObj D (.deferred none)) (w.heap.size + 1 + 1) 61 #[.int .i64 p, .slice r.1 m r.2] := keep _ _ X1 rfl
    have y0 := Y1.cell (i := 0) rfl
    have y1 := Y1.cell (i := 1) rfl
    refine ⟨.agg #[.int .i64 p, .slice r.1 m r.2], by simp [results, Try.results116, go_sem, y0, y1], .slice r.1 m r.2, rfl, ?_, ?_⟩
    · exact grid_grown X3 (fun b hb hbl => ⟨hb.1, by simpa using hbl⟩) fun k o hk ho hoc => keep k o ho hoc
    · exact ⟨X2.os, X2.tape, X2.output, by simpa using X2.size, fun k hk => (World.putObj_heap_other (by omega)).trans (X2.block k hk)⟩
  case body =>
    rintro l pre x G W B hI hH hB hlt hnB
    have hBr : Row W B 61 #[.int .i64 p, .slice x.1 m x.2] := hB
    obtain ⟨r, F, q1, q2, q3, q4⟩ := hI.go
    obtain ⟨k, hk⟩ : ∃ k, n / 2 ^ pre.length = k := ⟨_, rfl⟩
    have hkn : k < 18446744073709551616 := by rw [← hk]; exact Nat.lt_of_le_of_lt (Nat.div_le_self _ _) hn
    have n0 : W.cell? ⟨w.heap.size + 1, 0, none⟩ = some (.int .u64 (k : Int)) := by have := hI.nb.cell; rwa [hk] at this
    have hq : IntKind.u64.wrap ((k : Int) / 2) = ((k / 2 : Nat) : Int) := by rw [IntKind.wrap_u64]; omega
    have b0 := hBr.cell (i := 0) rfl
    have b1 := hBr.cell (i := 1) rfl
    have r0 := q1.cell (i := 0) rfl
    have r1 := q1.cell (i := 1) rfl
    have HII := Lib.hid hI
    have HH := Lib.hid (show Grid W (· < W.heap.size) (.slice x.1 m x.2) m (fun _ => m) (sqF p m f pre.length) from hH)
    have Q1 := Lib.hid q1
    have Q2 := Lib.hid (q2.more (S' := (· < W.heap.size)) fun b h => h.2.1)
    have Q3 := Lib.hid q3
    have Q4 := Lib.hid q4
    have HKE := Lib.hid hk
    clear hI hH hB hlt hnB hBr q1 q2 q3 q4 hk hrow hgr
    by_cases ho : k % 2 = 1
    · have hd : (((k : Int) % 2) == 1) = true := by simp; omega
      gi_wp2
      refine ⟨trivial, (CallsIn.inRound l (callsIn_wide.2 (mul_any (.slice r.1 m r.2) (.slice x.1 m x.2) m m m F (sqF p m f pre.length) p p W (by omega) hm0 (by omega) (by omega) Q2.out HH.out hp0 hp1 Q3.out (sqF_in (by omega) HF.out _)))).mono ?_⟩
      rintro e W1 ⟨r', rfl, hg, hb⟩
      obtain ⟨A1, c1, rfl, -⟩ := hg.form
      have HM := Lib.hid (HII.out.mul (r0 := r) (r := (A1, c1)) HNN.out (by omega) Q1.out Q4.out (by rw [HKE.out]; exact ho) hb hg)
      have j := Row.below Q1.out hb Q1.out.lt
      have e0 := j.cell (i := 0) rfl
      have e1 := j.cell (i := 1) rfl
      have f0 := j.frozen 0
      have j1 := j.set 0 (.int .i64 p)
      have f1 := j1.frozen 1
      have e2 := j1.cell (i := 1) rfl
      have n1 : ((W1.setCell ⟨w4.heap.size, 0, none⟩ (.int .i64 p)).setCell ⟨w4.heap.size, 1, none⟩ (.slice A1 m c1)).cell? ⟨w.heap.size + 1, 0, none⟩ = some (.int .u64 (k : Int)) := by have := HM.out.nb.cell; rwa [HKE.out] at this
      have n2 := HM.out.nb.frozen
      clear j j1 hg hb n0 b0 b1 r0 r1 hd
      by_cases hz : k / 2 = 0
      · have hzz : (((k / 2 : Nat) : Int) == 0) = true := by simp; omega
        gi_wp2
        obtain ⟨s1, s2⟩ := HM.out.stop HNN.out (by rw [HKE.out]; exact hz) (.int .u64 0)
        exact ⟨s1, rfl, s2⟩
      · have hzz : (((k / 2 : Nat) : Int) == 0) = false := by simp; omega
        gi_wp2
        obtain ⟨s1, s2⟩ := HM.out.next HNN.out hn x (by rw [HKE.out]; exact hz)
        rw [HKE.out] at s1 s2
        exact ⟨s1, s2⟩
    · have hd : (((k : Int) % 2) == 1) = false := by simp; omega
      have HM := Lib.hid (HII.out.skip (by rw [HKE.out]; exact ho))
      have n2 := HM.out.nb.frozen
      clear b0 b1 r0 r1
      by_cases hz : k / 2 = 0
      · have hzz : (((k / 2 : Nat) : Int) == 0) = true := by simp; omega
        gi_wp2
        obtain ⟨s1, s2⟩ := HM.out.stop HNN.out (by rw [HKE.out]; exact hz) (.int .u64 0)
        exact ⟨s1, rfl, s2⟩
      · have hzz : (((k / 2 : Nat) : Int) == 0) = false := by simp; omega
        gi_wp2
        obtain ⟨s1, s2⟩ := HM.out.next HNN.out hn x (by rw [HKE.out]; exact hz)
        rw [HKE.out] at s1 s2
        exact ⟨s1, s2⟩
end Go.Proofs.Ytokiejichnnmnaa
