/- linear.Meet of lists that pass. -/
import Derived.Test.YtinoomcboinokaaGreatLSum
import Derived.Test.YtinoomcboinokaaGreatLMeetM
namespace Go.Proofs.YtinoomcboinokaaGreat
open Go Go.RowKit Num

/-- Between two rows of the wide list. -/
structure MtI (w : World) (L : Nat) (H : Nat → Nat → Int) (k : Nat) (v : Value) (rs : Nat → Value) (X : World) : Prop where
  own : X.ownsRow w.heap.size 22 1 v k ((List.range k).map rs)
  row : ∀ i, i < k → Vec X (fun b => (w.heap.size ≤ b ∧ b < X.heap.size) ∧ v.ownBlock ≠ some b) (rs i) L (H i)
  be : Below w.heap.size w X
theorem MtI.next {w X X1 X2 : World} {L : Nat} {H : Nat → Nat → Int} {k : Nat} {v v1 r : Value} {rs : Nat → Value} (h : MtI w L H k v rs X) (hb : Below X.heap.size X X1) (hr : Vec X1 (New X X1) r L (H k)) (o : Obj)
    (hown : X2.ownsRow w.heap.size 22 1 v1 (k + 1) ((List.range k).map rs ++ [r])) (hg : (X1.alloc o).grownBy X2 v.ownBlock) (hv1 : v1.ownBlock = v.ownBlock ∨ v1.ownBlock = some (X1.alloc o).heap.size) : MtI w L H (k + 1) v1 (fun i => if i = k then r else rs i) X2 := by
  have hX := h.be.size
  have hX1 := hb.size
  have hz : (X1.alloc o).heap.size = X1.heap.size + 1 := by simp
  have hvb : ∀ b, v.ownBlock = some b → w.heap.size ≤ b ∧ b < X.heap.size := fun b e => h.own.lt b e
  have ht : Turn (fun b => v.ownBlock = some b) X1 X2 := ⟨hg.os, hg.tape, hg.output, Nat.le_trans (by simp) hg.size, fun q hq hn => (hg.block q (by simp; omega) (fun e => hn e.symm)).trans (Below.heap_alloc _ _ _ hq)⟩
  have hs2 := ht.size
  refine ⟨?_, fun i hi => ?_, ?_⟩
  · have hl : (List.range k).map rs ++ [r] = (List.range (k + 1)).map fun i => if i = k then r else rs i := by
      rw [List.range_succ, List.map_append, List.map_cons, List.map_nil, if_pos rfl]
      congr 1
      refine List.map_congr_left fun i hi => ?_
      have : i < k := List.mem_range.1 hi
      rw [if_neg (by omega)]
    rw [hl] at hown
    exact hown
  · by_cases e : i = k
    · subst e
      rw [if_pos rfl]
      refine (hr.turn ht (fun b hb e => by have := hb.1; have := (hvb b e).2; omega)).more fun b hb => ⟨⟨?_, ?_⟩, fun e => ?_⟩
      · have := hb.1; omega
      · have := hb.2; omega
      · have h1 := hb.1
        have h2 := hb.2
        rcases hv1 with e3 | e3
        · have := (hvb b (e3.symm.trans e)).2; omega
        · rw [e3] at e
          injection e with e
          omega
    · rw [if_neg e]
      refine (((h.row i (by omega)).below (fun b hb => hb.1.2) hb).turn ht (fun b hb e => hb.2 e)).more fun b hb => ⟨⟨hb.1.1, ?_⟩, fun e => ?_⟩
      · have := hb.1.2; omega
      · have h2 := hb.1.2
        rcases hv1 with e3 | e3
        · exact hb.2 (e3.symm.trans e)
        · rw [e3] at e
          injection e with e
          omega
  · refine h.be.trans (Turn.to_below (S := fun b => v.ownBlock = some b) ((Turn.below hb).trans (ht.more fun b _ e => e)) hX ?_)
    exact fun q e => (hvb q e).1
theorem MtI.grid {w X : World} {L : Nat} {H : Nat → Nat → Int} {k : Nat} {v : Value} {rs : Nat → Value} (h : MtI w L H k v rs X) : Grid X (· < X.heap.size) v k (fun _ => L) H := by
  rcases h.own.2 with ⟨rfl, hz⟩ | ⟨gb, cap, cur, rfl, hbase, hgbk, r1, r2, r3, r4⟩
  · rw [hz]; exact ⟨none, 0, rfl, Nat.le_refl _, fun h => absurd h (by omega)⟩
  · refine ⟨_, cap, rfl, r1, fun _ => ⟨gb, 0, rfl, (Array.getElem?_eq_some_iff.1 hgbk).1, fun i hi => ?_⟩⟩
    have h1 : ((List.range k).map rs)[i]? = some (rs i) := by simp [hi]
    rw [← r4, List.getElem?_take_of_lt (by omega)] at h1
    exact ⟨_, by rw [Nat.zero_add]; exact Row.cell (show Row X gb 22 cur from hgbk) (by rw [← Array.getElem?_toList]; exact h1), (h.row i hi).more fun b hb => hb.1.2⟩
/-- The wide list. -/
def wideR (m n : Nat) (F G : Nat → Nat → Int) (i : Nat) : Nat → Int := if i < m then catF n (F i) (F i) else catF n (G (i - m)) (fun _ => 0)
/-- Concat of a row with itself. -/
theorem concat_self (v : Value) (n : Nat) (f : Nat → Int) (w : World) (hn0 : 1 ≤ n) (hn : n ≤ 1000) (hv : Vec w (· < w.heap.size) v n f) :
    Calls Tryz.prog 42 #[.slice (some ⟨w.heap.size, 0, none⟩) 2 2] (w.alloc (.cells #[v, v] 22)) (GivesR (w.alloc (.cells #[v, v] 22)) (n + n) (catF n f f)) := by
  obtain ⟨b0, o0, c0, rfl, hc0, hb0, hcc0⟩ := hv.at_ (by omega)
  have hB1 := (Below.refl w.heap.size w).alloc (Nat.le_refl _) (.cells #[.slice (some ⟨b0, o0, none⟩) n c0, .slice (some ⟨b0, o0, none⟩) n c0] 22)
  have hr := row_new (W := w) rfl 22 #[.slice (some ⟨b0, o0, none⟩) n c0, .slice (some ⟨b0, o0, none⟩) n c0]
  exact concat_any w.heap.size 0 2 b0 o0 c0 b0 o0 c0 n n f f _ hn0 hn0 hn hn hr.lt (by simp; omega) (by simp; omega) (hr.cell rfl) (hr.cell rfl) (fun j hj => (hB1.cell (p := ⟨b0, o0 + j, none⟩) hb0).trans (hcc0 j hj)) (fun j hj => (hB1.cell (p := ⟨b0, o0 + j, none⟩) hb0).trans (hcc0 j hj))

set_option maxRecDepth 100000 in
set_option maxHeartbeats 4000000 in
theorem Meet_ok (p n m k : Nat) (av bv : Value) (F G : Nat → Nat → Int) (w : World) (hmod : modB (p : Int) = true) (hn1 : 1 ≤ n) (hn : n ≤ 64) (hm : m ≤ 100) (hk : k ≤ 100) (ha : Grid w (· < w.heap.size) av m (fun _ => n) F) (hb : Grid w (· < w.heap.size) bv k (fun _ => n) G) :
    Calls Tryz.prog 20 #[.int .i64 p, .int .i64 n, av, bv] w (OkB n (afterR n (elimR p (n + n) (invI p) (rowsL (n + n) (wideR m n F G) (m + k)))) w) := by
  obtain ⟨hp0, hp1, hp6⟩ := modB_true hmod
  have HP6 := Lib.hid hp6
  obtain ⟨Aa, ca, rfl, -⟩ := ha.form
  obtain ⟨Ab, cb, rfl, -⟩ := hb.form
  obtain ⟨j0, hj0, hy0, hy1, hy2⟩ := info_parts infoSl
  have HC := Lib.hid (check_two p n m k _ _ F G w hmod hn1 hn (by omega) (by omega) ha hb)
  have HA := Lib.hid ha
  have HB' := Lib.hid hb
  have HBW := Lib.hid ((Below.refl w.heap.size w).alloc (Nat.le_refl _) (.cells #[.slice Aa m ca, .slice Ab k cb] 25))
  generalize hPP : OkB n (afterR n (elimR p (n + n) (invI p) (rowsL (n + n) (wideR m n F G) (m + k)))) w = PP
  have HPP := Lib.hid (show ∀ e w', OkB n (afterR n (elimR p (n + n) (invI p) (rowsL (n + n) (wideR m n F G) (m + k)))) w e w' → PP e w' from fun e w' h => by rw [← hPP]; exact h)
  clear hp6 hmod ha hb hPP
  go_enter Tryz.func20, Tryz.ntmps20
  go_wp2_with fail
  refine HC.out.mono ?_
  rintro e w1 ⟨rfl, hb1⟩
  have HB1 := Lib.hid (HBW.out.trans (hb1.mono HBW.out.size))
  clear hb1 HBW HC
  obtain ⟨L, hL⟩ : ∃ L, n + n = L := ⟨_, rfl⟩
  rw [hL] at HPP
  have HLN := Lib.hid hL
  have hL1 : L ≤ 128 := by omega
  have hL0 : 1 ≤ L := by omega
  have hLn : n < L := by omega
  have hw2 : IntKind.i64.wrap (2 * (n : Int)) = (L : Int) := by rw [show 2 * (n : Int) = ((n + n : Nat) : Int) by omega, hL]; exact IntWalk.i64_in _ ⟨by omega, by omega⟩
  clear hL
  go_wp2_with fail
  go_loopw [11, 27] (fun v t wr => ∃ (i : Nat) (rs : Nat → Value), t = .int .i64 i ∧ i ≤ m ∧ Hid (MtI w1 L (wideR m n F G) i v rs wr)) (fun _ t _ => m - (intOf t).toNat)
  case atStart => exact ⟨0, fun _ => undef, rfl, Nat.zero_le _, Lib.hid ⟨World.ownsRow_nil _ _ _ _, fun i h => absurd h (by omega), Below.refl _ _⟩⟩
  case round =>
    obtain ⟨i, rs, rfl, hi, HI⟩ := hrel
    by_cases hlt : i < m
    · obtain ⟨b, o, c, RA, RC, he, -, hb, hgc⟩ := HA.out.at_ (by omega)
      injection he with e1 _ e3
      subst e1; subst e3
      have hbe := HI.out.be
      have hb1 : b < w1.heap.size := Nat.lt_of_lt_of_le hb HB1.out.size
      have hbw : Below w.heap.size w wr := HB1.out.trans (hbe.mono HB1.out.size)
      have hx : wr.cell? ⟨b, o + i, none⟩ = some (.slice (RA i) n (RC i)) := (hbw.cell (p := ⟨b, o + i, none⟩) hb).trans (hgc i hlt).1
      have hvk : Vec wr (· < wr.heap.size) (.slice (RA i) n (RC i)) n (F i) := ((hgc i hlt).2.below (fun _ h => h) hbw).more fun b h => Nat.lt_of_lt_of_le h hbw.size
      have hcs := concat_self (.slice (RA i) n (RC i)) n (F i) wr hn1 (by omega) hvk
      rw [HLN.out] at hcs
      have HCS := Lib.hid hcs
      generalize RA i = Ak at hx HCS
      generalize RC i = ck at hx HCS
      have hsz := hbe.size
      clear hvk hbe hcs hbw hgc hb hb1
      go_wp2_with fail
      refine HCS.out.mono ?_
      rintro e w2 ⟨Ar, cr, rfl, hcr, hgr, hb2⟩
      obtain ⟨gr, rfl, hgr1, hrow⟩ := hgr (by omega)
      have hba := (Below.refl wr.heap.size wr).alloc (Nat.le_refl _) (.cells #[.slice Ak n ck, .slice Ak n ck] 22)
      have hbb := hba.trans (hb2.mono hba.size)
      have hal : wr.heap.size ≤ gr := Nat.le_trans hba.size hgr1
      have HBB := Lib.hid hbb
      have HVR := Lib.hid (show Vec w2 (New wr w2) (.slice (some ⟨gr, 0, none⟩) L cr) L (wideR m n F G i) from by unfold wideR; rw [if_pos hlt]; exact hrow.vec hcr _ ⟨hal, hrow.lt⟩)
      have hs2 := hbb.size
      have HOwn := Lib.hid (HI.out.own.kept (w' := w2) (row := none) ⟨hbb.os, hbb.tape, hbb.output, hbb.size, fun q hq _ => hbb.block q hq⟩ (Classical.em _))
      clear hgr hb2 hrow hba hbb HCS hal
      go_wp2_with (at_builtin; refine wpList_append_own_at _ rfl (.tmp 31) (.tmp 36) 25 rfl w1.heap.size 22 j0 (.slice none 0 0) 1 24 Tryz.underlying25 hj0 hy0 hy1 hy2 rfl (by decide) _ _ _ rfl (World.ownsRow.alloc HOwn.out _) ⟨w2.heap.size, 0, none⟩ 1 1 [.slice (some ⟨gr, 0, none⟩) L cr] rfl rfl (cell_one_new _ _ _) (by simp [Value.oneCell']) (by unfold maxLen; omega) (by omega) (by simp; omega) ?_; intro v1 w3 hown hgrow _ hv1; obtain ⟨g8, c8, rfl⟩ := ownsRow_succ hown; have HNX := Lib.hid (HI.out.next HBB.out HVR.out _ hown hgrow hv1); clear hown hgrow hv1)
      go_roundw
      case rel => exact ⟨i + 1, _, by go_num, by omega, HNX⟩
      case measure => simp [intOf]; omega
    · obtain rfl : m = i := by omega
      go_wp2_with fail
      go_loopw [11, 41] (fun v t wr2 => ∃ (i : Nat) (rs : Nat → Value), t = .int .i64 i ∧ i ≤ k ∧ Hid (MtI w1 L (wideR m n F G) (m + i) v rs wr2)) (fun _ t _ => k - (intOf t).toNat)
      case atStart => exact ⟨0, rs, rfl, Nat.zero_le _, HI⟩
      case round =>
        obtain ⟨i, rs, rfl, hi, HI⟩ := hrel
        by_cases hlt : i < k
        · obtain ⟨b, o, c, RA, RC, he, -, hb, hgc⟩ := HB'.out.at_ (by omega)
          injection he with e1 _ e3
          subst e1; subst e3
          have hbe := HI.out.be
          have hbw : Below w.heap.size w wr := HB1.out.trans (hbe.mono HB1.out.size)
          have hx : wr.cell? ⟨b, o + i, none⟩ = some (.slice (RA i) n (RC i)) := (hbw.cell (p := ⟨b, o + i, none⟩) hb).trans (hgc i hlt).1
          have hvk : Vec wr (· < wr.heap.size) (.slice (RA i) n (RC i)) n (G i) := ((hgc i hlt).2.below (fun _ h => h) hbw).more fun b h => Nat.lt_of_lt_of_le h hbw.size
          have hcs := longer_any (.slice (RA i) n (RC i)) n n (G i) wr hn1 hn1 (by omega) (by omega) hvk
          rw [HLN.out] at hcs
          have HCS := Lib.hid hcs
          generalize RA i = Ak at hx HCS
          generalize RC i = ck at hx HCS
          have hsz := hbe.size
          clear hvk hbe hcs hbw hgc hb
          go_wp2_with fail
          refine HCS.out.mono ?_
          rintro e w2 ⟨Ar, cr, rfl, hcr, hgr, hbb⟩
          obtain ⟨gr, rfl, hal, hrow⟩ := hgr (by omega)
          have HBB := Lib.hid hbb
          have HVR := Lib.hid (show Vec w2 (New wr w2) (.slice (some ⟨gr, 0, none⟩) L cr) L (wideR m n F G (m + i)) from by unfold wideR; rw [if_neg (by omega), Nat.add_sub_cancel_left]; exact hrow.vec hcr _ ⟨hal, hrow.lt⟩)
          have hs2 := hbb.size
          have HOwn := Lib.hid (HI.out.own.kept (w' := w2) (row := none) ⟨hbb.os, hbb.tape, hbb.output, hbb.size, fun q hq _ => hbb.block q hq⟩ (Classical.em _))
          clear hgr hrow hbb HCS hal
          go_wp2_with (at_builtin; refine wpList_append_own_at _ rfl (.tmp 45) (.tmp 49) 25 rfl w1.heap.size 22 j0 (.slice none 0 0) 1 24 Tryz.underlying25 hj0 hy0 hy1 hy2 rfl (by decide) _ _ _ rfl (World.ownsRow.alloc HOwn.out _) ⟨w2.heap.size, 0, none⟩ 1 1 [.slice (some ⟨gr, 0, none⟩) L cr] rfl rfl (cell_one_new _ _ _) (by simp [Value.oneCell']) (by unfold maxLen; omega) (by omega) (by simp; omega) ?_; intro v1 w3 hown hgrow _ hv1; obtain ⟨g8, c8, rfl⟩ := ownsRow_succ hown; have HNX := Lib.hid (HI.out.next HBB.out HVR.out _ hown hgrow hv1); clear hown hgrow hv1)
          go_roundw
          case rel => exact ⟨i + 1, _, by go_num, by omega, HNX⟩
          case measure => simp [intOf]; omega
        · obtain rfl : k = i := by omega
          have HB2 := Lib.hid (HB1.out.trans (HI.out.be.mono HB1.out.size))
          have HGR := Lib.hid HI.out.grid
          clear HI
          go_wp2_with fail
          refine (eliminate_any p L L (m + k) (wideR m n F G) _ wr HP6.out hp0 (by omega) hL0 (Nat.le_refl _) (by omega) (by omega) HGR.out).mono ?_
          rintro e w4 ⟨eb, mb, g, c2, rfl, heb, hgn, hel, hb4⟩
          have HB4 := Lib.hid (HB2.out.trans (hb4.mono HB2.out.size))
          have HEL := Lib.hid hel
          have HGN := Lib.hid hgn
          have hs1 := hb4.size
          have hs0 := HB2.out.size
          clear hb4 hel hgn
          go_wp2_with fail
          refine (after_any p L L (m + k) n eb mb wr.heap.size _ g c2 w4 (Nat.le_refl _) (by omega) hLn (by omega) (elimR_ech (by omega) (invF HP6.out hp0) L _) HEL.out hs1 HGN.out).mono ?_
          rintro e w5 ⟨v, rfl, hgv, hb5⟩
          have HB5 := Lib.hid (HB4.out.trans (hb5.mono HB4.out.size))
          have hL := HLN.out
          have hHE : ∃ q, ((pivL L (elimR p L (invI p) (rowsL L (wideR m n F G) (m + k)))).filter fun j => decide (n ≤ j)).length = q ∧ OkB n (afterR n (elimR p L (invI p) (rowsL L (wideR m n F G) (m + k)))) w (.returned (.tuple #[v, .int .i64 0])) w5 := by
            subst hL
            have hlen : ((pivL (n + n) (elimR p (n + n) (invI p) (rowsL (n + n) (wideR m n F G) (m + k)))).filter fun j => decide (n ≤ j)).length = (pivL n (afterR n (elimR p (n + n) (invI p) (rowsL (n + n) (wideR m n F G) (m + k))))).length := by rw [filter_after, List.length_map]
            refine ⟨_, rfl, v, rfl, ?_, HB5.out⟩
            rw [hlen] at hgv
            exact hgv.keep (S' := New w w5) (fun b h => ⟨by omega, h.2⟩) (fun _ _ => rfl) (fun i _ => by omega) (fun i hi x _ => meet_bas hi x)
          obtain ⟨q, hq, hE⟩ := hHE
          rw [hq] at hgv
          obtain ⟨A4, c4, rfl, -⟩ := hgv.form
          have HE := Lib.hid (HPP.out _ _ hE)
          clear hgv hb5 hE hq
          go_wp2
          exact HE.out
end Go.Proofs.YtinoomcboinokaaGreat
