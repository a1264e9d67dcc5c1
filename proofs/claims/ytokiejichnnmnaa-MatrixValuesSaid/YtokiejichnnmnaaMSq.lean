/- matrix.squares: the iterator. -/
import Derived.Test.YtokiejichnnmnaaMFound
import Derived.Test.YtokiejichnnmnaaMInv
import Derived.OwnWalkIn
import Derived.TacticsInMore
import Derived.LoopNIn
import Derived.Sort.LoopGhostIn
import Derived.LoopIn
import Derived.Shelf.Abstract
import Derived.WalkSpells
namespace Go.Proofs.Ytokiejichnnmnaa
open Go Go.RowKit Go.Shelf Num
attribute [local go_sem] Oper.semAt_some

theorem Vec.keep2 {w w' : World} {S S' : Nat → Prop} {v : Value} {n : Nat} {f : Nat → Int} (h : Vec w S v n f) (hk : ∀ (p : Addr) u, S p.block → w.cell? p = some u → S' p.block ∧ w'.cell? p = some u) : Vec w' S' v n f := by
  obtain ⟨A, c, rfl, hc, h⟩ := h
  refine ⟨A, c, rfl, hc, fun hn => ?_⟩
  obtain ⟨b, o, rfl, hb, hcc⟩ := h hn
  exact ⟨b, o, rfl, (hk ⟨b, o + 0, none⟩ _ hb (hcc 0 hn)).1, fun j hj => (hk _ _ hb (hcc j hj)).2⟩
theorem Grid.keep2 {w w' : World} {S S' : Nat → Prop} {v : Value} {m : Nat} {n : Nat → Nat} {f : Nat → Nat → Int} (h : Grid w S v m n f) (hk : ∀ (p : Addr) u, S p.block → w.cell? p = some u → S' p.block ∧ w'.cell? p = some u) : Grid w' S' v m n f := by
  obtain ⟨A, c, rfl, hc, h⟩ := h
  refine ⟨A, c, rfl, hc, fun hn0 => ?_⟩
  obtain ⟨b, o, rfl, hb, hcc⟩ := h hn0
  obtain ⟨r0, h00, _⟩ := hcc 0 hn0
  refine ⟨b, o, rfl, (hk ⟨b, o + 0, none⟩ _ hb h00).1, fun i hi => ?_⟩
  obtain ⟨r, h1, h2⟩ := hcc i hi
  exact ⟨r, (hk _ _ hb h1).2, h2.keep2 hk⟩
theorem cell_obj {w : World} {p : Addr} {u : Value} (h : w.cell? p = some u) : ∃ o, w.heap[p.block]? = some o ∧ o.isCells = true := by
  unfold World.cell? at h
  split at h
  · rename_i cs t fz hb; exact ⟨_, hb, rfl⟩
  · cases h
theorem cell_same {w w' : World} {p : Addr} {u : Value} (h : w.cell? p = some u) (hk : ∀ o, w.heap[p.block]? = some o → o.isCells = true → w'.heap[p.block]? = some o) : w'.cell? p = some u := by
  obtain ⟨o, ho, hc⟩ := cell_obj h
  rw [← h]
  exact cell_of_block ((hk o ho hc).trans ho.symm)

theorem squares_in (F : Fence) (n : Nat) (hf : F.fn 155) (hro : F.round = none) (p : Int) (r : Value) (w : World) :
    CallsIn F n Try.prog 155 #[.agg #[.int .i64 p, r]] w fun e w' => e = .returned (.func (.func 190) #[] #[.pointer (some ⟨w.heap.size, 0, none⟩)]) ∧ w' = w.alloc (.cells #[.int .i64 p, r] 61) := by
  refine callsIn_of_wp Try.func155 rfl hf ?_ hro
  simp only [Try.ntmps155, List.size_toArray, List.length_cons, List.length_nil, Nat.reduceAdd, Nat.reduceSub, Array.replicate_succ, Array.replicate_zero, List.push_toArray, List.append_toArray, List.nil_append, List.cons_append]
  gi_wp2
  go_ret
  exact ⟨rfl, rfl⟩

/-- The squares: f, f*f, .. -/
def sqF (p : Int) (m : Nat) (f : Nat → Nat → Int) : Nat → Nat → Nat → Int
  | 0 => f
  | k + 1 => mulF p m (sqF p m f k) (sqF p m f k)
theorem mulF_in {p : Int} (hp : 0 < p) (q m n : Nat) (f g : Nat → Nat → Int) : InG p m n (mulF p q f g) := fun i _ j _ => ⟨Int.emod_nonneg _ (by omega), Int.emod_lt_of_pos _ hp⟩
theorem sqF_in {p : Int} {m : Nat} {f : Nat → Nat → Int} (hp : 0 < p) (h : InG p m m f) : ∀ k, InG p m m (sqF p m f k)
  | 0 => h
  | _ + 1 => mulF_in hp _ _ _ _ _
/-- A slice's address and room. -/
abbrev SV := Option Addr × Nat
/-- What is handed over in round number pre.length. -/
def SqH (p : Int) (m : Nat) (f : Nat → Nat → Int) (pre : List SV) (x : SV) (W : World) : Prop := Grid W (· < W.heap.size) (.slice x.1 m x.2) m (fun _ => m) (sqF p m f pre.length)


/-- The iterator's state ahead of a round. -/
structure SqAt (p : Int) (m : Nat) (f : Nat → Nat → Int) (K0 : Nat → Prop) (J : List SV → (Nat → Prop) → World → Prop) (pre : List SV) (G : Nat → Prop) (W : World) (sb : Nat) (rows : SV) : Prop where
  j : J pre G W
  gs : G sb
  gl : ∀ k, G k → k < W.heap.size
  kl : ∀ k, K0 k → k < W.heap.size
  row : Row W sb 61 #[.int .i64 p, .slice rows.1 m rows.2]
  grid : Grid W (fun k => K0 k ∨ G k) (.slice rows.1 m rows.2) m (fun _ => m) (sqF p m f pre.length)
theorem SqAt.over {p : Int} {m : Nat} {f : Nat → Nat → Int} {K0 : Nat → Prop} {J : List SV → (Nat → Prop) → World → Prop} {pre : List SV} {G : Nat → Prop} {W : World} {sb : Nat} {rows : SV} (h : SqAt p m f K0 J pre G W sb rows) : SqH p m f pre rows W :=
  h.grid.more fun b hb => hb.elim (h.kl b) (h.gl b)
/-- Behind the round's yield. -/
structure SqMid (p : Int) (m : Nat) (f : Nat → Nat → Int) (K0 : Nat → Prop) (J : List SV → (Nat → Prop) → World → Prop) (pre : List SV) (G : Nat → Prop) (W : World) (sb : Nat) (rows : SV) : Prop where
  j : J (pre ++ [rows]) G W
  gs : G sb
  gl : ∀ k, G k → k < W.heap.size
  kl : ∀ k, K0 k → k < W.heap.size
  row : Row W sb 61 #[.int .i64 p, .slice rows.1 m rows.2]
  grid : Grid W (· < W.heap.size) (.slice rows.1 m rows.2) m (fun _ => m) (sqF p m f pre.length)
theorem SqAt.mid {p : Int} {m : Nat} {f : Nat → Nat → Int} {K0 : Nat → Prop} {J : List SV → (Nat → Prop) → World → Prop} {pre : List SV} {G : Nat → Prop} {W W' : World} {sb : Nat} {rows : SV} (h : SqAt p m f K0 J pre G W sb rows)
    (hj : J (pre ++ [rows]) G W') (hz : W.heap.size ≤ W'.heap.size) (hk : ∀ (k : Nat) (o : Obj), W.heap[k]? = some o → o.isCells = true → (K0 k ∨ G k) → W'.heap[k]? = some o) : SqMid p m f K0 J pre G W' sb rows :=
  ⟨hj, h.gs, fun k hg => Nat.lt_of_lt_of_le (h.gl k hg) hz, fun k hg => Nat.lt_of_lt_of_le (h.kl k hg) hz, hk _ _ h.row rfl (.inr h.gs),
    h.grid.keep2 fun _ _ hq hc => ⟨Nat.lt_of_lt_of_le (hq.elim (h.kl _) (h.gl _)) hz, cell_same hc fun o ho hoc => hk _ o ho hoc hq⟩⟩
theorem sq_grown (w : World) (a : Addr) (u : Value) : w.grownBy (w.setCell a u) (some a.block) := ⟨rfl, rfl, rfl, by simp, fun k _ hne => Below.heap_setCell w a u k (by rintro rfl; exact hne rfl)⟩
theorem SqMid.next {p : Int} {m B0 : Nat} {f : Nat → Nat → Int} {K0 : Nat → Prop} {J : List SV → (Nat → Prop) → World → Prop} {pre : List SV} {G : Nat → Prop} {W W1 : World} {sb : Nat} {rows r : SV} (hJ : AbidesG B0 J) (h : SqMid p m f K0 J pre G W sb rows)
    (hb : Below W.heap.size W W1) (hg : Grid W1 (New W W1) (.slice r.1 m r.2) m (fun _ => m) (mulF p m (sqF p m f pre.length) (sqF p m f pre.length))) :
    ∃ G2, SqAt p m f K0 J (pre ++ [rows]) G2 (((W1.setCell ⟨sb, 0, none⟩ (.int .i64 p)).setCell ⟨sb, 1, none⟩ (.slice r.1 m r.2)).alloc (.cells #[.int .i64 p, .slice r.1 m r.2] 61)) W1.heap.size r := by
  have hsb := h.gl _ h.gs
  have hz := hb.size
  have j1 : J (pre ++ [rows]) (fun k => G k ∨ (W.heap.size ≤ k ∧ k < W1.heap.size)) W1 := hJ _ _ _ _ _ none h.j ⟨hb.os, hb.tape, hb.output, hb.size, fun k hk _ => hb.block k hk⟩ (fun r e => by cases e) (fun k hk => hk)
  have j2 := hJ _ _ (fun k => G k ∨ (W.heap.size ≤ k ∧ k < W1.heap.size)) _ _ (some sb) j1 (sq_grown W1 ⟨sb, 0, none⟩ (.int .i64 p)) (fun r e => by cases e; exact .inl (.inl h.gs)) (fun k hk => .inl hk)
  have j3 := hJ _ _ (fun k => G k ∨ (W.heap.size ≤ k ∧ k < W1.heap.size)) _ _ (some sb) j2 (sq_grown _ ⟨sb, 1, none⟩ (.slice r.1 m r.2)) (fun r e => by cases e; exact .inl (.inl h.gs)) (fun k hk => .inl hk)
  have j4 := hJ _ _ (fun k => G k ∨ (W.heap.size ≤ k ∧ k < W1.heap.size + 1)) _ _ none j3 (World.grownBy_alloc _ (.cells #[.int .i64 p, .slice r.1 m r.2] 61) none) (fun r e => by cases e) (fun k hk => ?_)
  · refine ⟨_, j4, .inr ⟨hz, by omega⟩, fun k hk => ?_, fun k hk => ?_, row_new (by simp) _ _, ?_⟩
    · have := h.gl k
      simp only [World.size_alloc, World.size_setCell]
      rcases hk with hk | hk
      · have := this hk; omega
      · omega
    · have := h.kl k hk
      simp only [World.size_alloc, World.size_setCell]
      omega
    · have g1 := (hg.set (p := ⟨sb, 0, none⟩) (fun hh => by have h1 : W.heap.size ≤ sb := hh.1; omega) (.int .i64 p)).set (p := ⟨sb, 1, none⟩) (fun hh => by have h1 : W.heap.size ≤ sb := hh.1; omega) (.slice r.1 m r.2)
      have g2 := g1.below (B := W1.heap.size) (fun b hb => hb.2) ((Below.refl W1.heap.size ((W1.setCell ⟨sb, 0, none⟩ (.int .i64 p)).setCell ⟨sb, 1, none⟩ (.slice r.1 m r.2))).alloc (by simp) (.cells #[.int .i64 p, .slice r.1 m r.2] 61))
      rw [List.length_append, List.length_cons, List.length_nil]
      exact g2.more fun b hb => .inr (.inr ⟨hb.1, by have := hb.2; omega⟩)
  · rcases hk with hk | hk
    · exact .inl (.inl hk)
    · by_cases hk1 : k < W1.heap.size
      · exact .inl (.inr ⟨hk.1, hk1⟩)
      · refine .inr ?_
        simp only [World.size_alloc, World.size_setCell]
        omega

set_option maxRecDepth 100000 in
set_option maxHeartbeats 4000000 in
theorem sq_seq (n : Nat) (hn : 1 ≤ n) (B m N : Nat) (p : Int) (ra : Value) (f : Nat → Nat → Int) (K0 : Nat → Prop) (w : World) (hm0 : 1 ≤ m) (hm : m ≤ 64) (hp0 : 2 ≤ p) (hp1 : p ≤ 10000) (hf : InG p m m f)
    (hK0 : ∀ k, K0 k → k < w.heap.size) (hb : Row w B 61 #[.int .i64 p, ra]) (hg : Grid w K0 ra m (fun _ => m) f) :
    SeqX Fence.wide n Try.prog 190 #[.pointer (some ⟨B, 0, none⟩)] (fun x : SV => #[.agg #[.int .i64 p, .slice x.1 m x.2]]) K0 (SqH p m f) N w := by
  intro l J Jx W hW hJ hN hY h0
  obtain ⟨A, c, rfl, hc⟩ := hg.form
  have hbW := hb.below hW hb.lt
  have hgW := hg.below hK0 hW
  have c0 := hbW.cell (i := 0) rfl
  have c1 := hbW.cell (i := 1) rfl
  have HY := Lib.hid hY
  have HJ := Lib.hid hJ
  have HNN := Lib.hid hN
  have H0 := Lib.hid h0
  have HG := Lib.hid hgW
  have HF := Lib.hid (sqF_in (show 0 < p by omega) hf)
  have HK := Lib.hid (fun k h => Nat.lt_of_lt_of_le (hK0 k h) hW.size)
  clear hY h0 hJ hN hbW hgW hb hg hf hW
  refine callsIn_of_wp Try.func190 rfl trivial ?_ rfl
  simp only [Try.ntmps190, List.size_toArray, List.length_cons, List.length_nil, Nat.reduceAdd, Nat.reduceSub, Array.replicate_succ, Array.replicate_zero, List.push_toArray, List.append_toArray, List.nil_append, List.cons_append]
  gi_wp2
  gi_loopg [3] N (fun k t wr => ∃ (sb : Nat) (rows : SV) (pre : List SV) (G : Nat → Prop), t = .pointer (some ⟨sb, 0, none⟩) ∧ Hid (SqAt p m f K0 J pre G wr sb rows) ∧ Hid (N = pre.length + k))
  case atStart =>
    refine ⟨W.heap.size, (A, c), [], fun k => k = W.heap.size, rfl, Lib.hid ⟨?_, rfl, fun k hk => ?_, fun k hk => ?_, row_new rfl _ _, ?_⟩, Lib.hid (by simp)⟩
    · exact HJ.out _ _ _ _ _ none H0.out (World.grownBy_alloc W _ none) (fun r e => by cases e) (fun k hk => .inr ⟨by omega, by simp; omega⟩)
    · subst hk; simp
    · have := HK.out k hk; simp; omega
    · exact (HG.out.below HK.out ((Below.refl W.heap.size W).alloc (Nat.le_refl _) _)).more fun b hb => .inl hb
  case round =>
    obtain ⟨sb, rows, pre, G, rfl, HI, HL⟩ := hrel
    have c0 := HI.out.row.cell (i := 0) rfl
    have c1 := HI.out.row.cell (i := 1) rfl
    obtain ⟨fn, tmps, assign, body, hy, hR⟩ := HY.out pre rows G wr HI.out.j HI.out.over
    have HR := Lib.hid hR
    clear hR
    gi_wp2
    refine HR.out.mono ?_
    rintro e W' (⟨rfl, hJ', hz', hk'⟩ | ⟨rfl, hJx'⟩)
    · have HM := Lib.hid (HI.out.mid hJ' hz' hk')
      have HLT := Lib.hid (HNN.out _ _ _ hJ')
      clear hJ' hz' hk'
      have d0 := HM.out.row.cell (i := 0) rfl
      have d1 := HM.out.row.cell (i := 1) rfl
      gi_wp2
      refine ⟨trivial, (callsIn_wide.2 (mul_any (.slice rows.1 m rows.2) (.slice rows.1 m rows.2) m m m _ _ p p W' (by omega) hm0 (by omega) (by omega) HM.out.grid HM.out.grid hp0 hp1 (HF.out _) (HF.out _))).mono ?_⟩
      rintro e W2 ⟨r, rfl, hg2, hb2⟩
      obtain ⟨A2, c2, rfl, -⟩ := hg2.form
      have HN := Lib.hid (HM.out.next (r := (A2, c2)) HJ.out hb2 hg2)
      have e0 := (Row.below HM.out.row hb2 HM.out.row.lt).cell (i := 0) rfl
      have e1 := (Row.below HM.out.row hb2 HM.out.row.lt).cell (i := 1) rfl
      have f0 := (Row.below HM.out.row hb2 HM.out.row.lt).frozen 0
      have f1 := (Row.below HM.out.row hb2 HM.out.row.lt).frozen 1
      have q1 := (Row.below HM.out.row hb2 HM.out.row.lt).set 0 (.int .i64 p)
      have q2 := q1.set 1 (.slice A2 m c2)
      have g1 := q1.frozen 1
      have g2 := q1.cell (i := 1) rfl
      have r0 := q2.cell (i := 0) rfl
      have r1 := q2.cell (i := 1) rfl
      clear hg2 hb2 d0 d1 c0 c1 q1 q2
      gi_wp2
      obtain ⟨G2, hG2⟩ := HN.out
      gi_roundg (gk - 1)
      case measure => have h1 := HL.out; have h2 := HLT.out; rw [List.length_append, List.length_cons, List.length_nil] at h2; omega
      case rel => exact ⟨_, _, _, _, rfl, Lib.hid hG2, Lib.hid (by have h1 := HL.out; have h2 := HLT.out; rw [List.length_append, List.length_cons, List.length_nil] at h2 ⊢; omega)⟩
    · have HX := Lib.hid hJx'
      clear hJx'
      gi_wp2
      go_end0
      exact ⟨⟨_, rfl⟩, HX.out⟩
end Go.Proofs.Ytokiejichnnmnaa
