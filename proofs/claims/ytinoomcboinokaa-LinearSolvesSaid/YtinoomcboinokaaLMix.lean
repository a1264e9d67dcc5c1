/- cayleylaw05: mix. -/
import Derived.Test.YtinoomcboinokaaLDrawn
namespace Go.Proofs.Ytinoomcboinokaa
open Go Go.RowKit Num

/-- A combination of the first rows. -/
def mixF (p : Int) (x : Nat → Int) (F : Nat → Nat → Int) : Nat → Nat → Int
  | 0, _ => 0
  | i + 1, j => (mixF p x F i j + x i * F i j) % p
theorem mixF_congr {p : Int} {x y : Nat → Int} {F : Nat → Nat → Int} : ∀ {k : Nat}, (∀ i, i < k → x i = y i) → ∀ j, mixF p x F k j = mixF p y F k j
  | 0, _, _ => rfl
  | k + 1, h, j => by
    have ih := mixF_congr (p := p) (F := F) (k := k) (fun i hi => h i (by omega)) j
    simp only [mixF, ih, h k (by omega)]
theorem mixF_in {p : Int} (hp : 0 < p) (x : Nat → Int) (F : Nat → Nat → Int) (k n : Nat) : InP p n (mixF p x F k) := fun j _ => by
  cases k with
  | zero => exact ⟨Int.le_refl _, hp⟩
  | succ k => exact ⟨Int.emod_nonneg _ (by omega), Int.emod_lt_of_pos _ hp⟩
/-- Part of a round. -/
def mixTo (p : Int) (x : Nat → Int) (F : Nat → Nat → Int) (i k j : Nat) : Int := if j < k then mixF p x F (i + 1) j else mixF p x F i j
theorem mixTo_step (p : Int) (x : Nat → Int) (F : Nat → Nat → Int) (i k : Nat) : (fun j => if j = k then (mixF p x F i k + x i * F i k) % p else mixTo p x F i k j) = mixTo p x F i (k + 1) := by
  funext j
  unfold mixTo
  by_cases e : j = k
  · subst e; rw [if_pos rfl, if_pos (by omega)]; rfl
  · rw [if_neg e]
    by_cases h : j < k
    · rw [if_pos h, if_pos (by omega)]
    · rw [if_neg h, if_neg (by omega)]
/-- Between two rows. -/
structure MxO (w1 : World) (t g0 : Nat) (A : Option Addr) (c N : Nat) (z : Nat → Int) (n : Nat) (f : Nat → Int) (X : World) : Prop where
  tk : ∃ q, MTk X t A c N z q
  tu : Turn (fun b => b = t ∨ b = g0) w1 X
  row : RowI X g0 n f
/-- A combination of rows is given; below only block t has turned. -/
def MixP (w : World) (t : Nat) (A : Option Addr) (c N : Nat) (z : Nat → Int) (m n : Nat) (p : Int) (F : Nat → Nat → Int) (e : Ending) (w' : World) : Prop :=
  ∃ r x q, e = .returned r ∧ Vec w' (New w w') r n (mixF p x F m) ∧ MTk w' t A c N z q ∧ Turn (· = t) w w'

set_option maxRecDepth 100000 in
set_option maxHeartbeats 4000000 in
theorem mix_any (t : Nat) (A : Option Addr) (c N q0 : Nat) (z : Nat → Int) (p m n : Nat) (lv : Value) (F : Nat → Nat → Int) (w : World) (hp : 2 ≤ p) (hp1 : p ≤ 10000) (hm : m ≤ 1000) (hn0 : 1 ≤ n) (hn : n ≤ 1000) (hN : N ≤ 17592186044400) (hT : MTk w t A c N z q0)
    (hg : Grid w (fun b => b < w.heap.size ∧ b ≠ t) lv m (fun _ => n) F) (hF : ∀ i, i < m → InP p n (F i)) :
    Calls Try.prog 9 #[.pointer (some ⟨t, 0, none⟩), .int .i64 p, .int .i64 n, lv] w (MixP w t A c N z m n p F) := by
  obtain ⟨Al, cl, rfl, hcl, hg⟩ := hg
  have hmk := fun W => make_ints n (by omega) W
  have htl := hT.1.lt
  have hr1 := row_new (W := w) rfl 3 (CTab n fun _ => .int .i64 0)
  have hb1 := (Below.refl w.heap.size w).alloc (Nat.le_refl _) (.cells (CTab n fun _ => .int .i64 0) 3)
  have hz1 : (w.alloc (.cells (CTab n fun _ => .int .i64 0) 3)).heap.size = w.heap.size + 1 := by simp
  have HG := Lib.hid hg
  have HFI := Lib.hid hF
  have H0 := Lib.hid (show MxO (w.alloc (.cells (CTab n fun _ => .int .i64 0) 3)) t w.heap.size A c N z n (mixF p (fun _ => 0) F 0) (w.alloc (.cells (CTab n fun _ => .int .i64 0) 3)) from
    ⟨⟨q0, hT.but hb1 htl⟩, Turn.refl _ _, _, hr1, by rw [CTab_size]; exact Nat.le_refl _, fun j hj => CTab_get n _ j hj⟩)
  have HB := Lib.hid hb1
  clear hg hF hT hr1 hb1
  have hpz : ((p : Int) != 0) = true := by simp; omega
  have hpz0 : ¬ p = 0 := by omega
  go_enter Try.func9, Try.ntmps9
  go_wp2
  generalize w.alloc (.cells (CTab n fun _ => .int .i64 0) 3) = w1 at hz1 H0 HB
  go_loopw [10] (fun i wr => ∃ k x, i = .int .i64 (k : Nat) ∧ k ≤ m ∧ Hid (MxO w1 t w.heap.size A c N z n (mixF p x F k) wr)) (fun i _ => m - (intOf i).toNat)
  case atStart => exact ⟨0, _, rfl, Nat.zero_le _, H0⟩
  case round =>
    obtain ⟨i, x, rfl, hk, HO⟩ := hrel
    by_cases hlt : i < m
    · obtain ⟨q1, hq1⟩ := HO.out.tk
      have HTK := Lib.hid hq1
      have HTC := Lib.hid (take_any t A c N z q1 p _ hN hp (by omega) hq1)
      clear hq1
      go_wp2_with fail
      refine HTC.out.mono ?_
      rintro e w2 hT2
      obtain ⟨xi, q3, rfl, hx0, hx1, hT3, hB3, hs3⟩ := hT2.keep HTK.out
      have htu := butTurn (hB3 _) (by omega)
      obtain ⟨x2, hx2⟩ : ∃ x2 : Nat → Int, x2 = fun a => if a = i then xi else x a := ⟨_, rfl⟩
      have hxi : x2 i = xi := by rw [hx2]; exact if_pos rfl
      have hmc : ∀ j, mixF p x F i j = mixF p x2 F i j := mixF_congr fun a ha => by rw [hx2]; exact (if_neg (by omega)).symm
      have HS := Lib.hid (show MxO w1 t w.heap.size A c N z n (mixTo p x2 F i 0) w2 from ⟨⟨q3, hT3⟩, HO.out.tu.trans (htu.more fun _ _ e => .inl e), (HO.out.row.turn htu (fun (e : w.heap.size = t) => by omega)).congr fun j _ => by rw [hmc]; simp [mixTo]⟩)
      have HXI := Lib.hid hxi
      obtain ⟨b, o, rfl, hb, hgc⟩ := HG.out (by omega)
      obtain ⟨r, hr1, hr2⟩ := hgc i hlt
      obtain ⟨Ar, cr, rfl, -, hrv⟩ := hr2
      obtain ⟨br, or_, rfl, hbr, hrc⟩ := hrv (by omega)
      have HROW := Lib.hid hr1
      have HRC := Lib.hid hrc
      have hbw := hb.1
      have hbt := hb.2
      have hbrw := hbr.1
      have hbrt := hbr.2
      clear hT2 hT3 hB3 hs3 htu hgc hr1 hrv hrc hx2 hmc hb hbr hxi
      go_wp2
      go_loopw [12] (fun k wr2 => ∃ j : Nat, k = .int .i64 j ∧ j ≤ n ∧ Hid (MxO w1 t w.heap.size A c N z n (mixTo p x2 F i j) wr2)) (fun k _ => n - (intOf k).toNat)
      case atStart => exact ⟨0, rfl, Nat.zero_le _, HS⟩
      case round =>
        obtain ⟨j, rfl, hj, HI⟩ := hrel
        by_cases hlt2 : j < n
        · have hnot : ∀ q, q < w.heap.size → q ≠ t → ¬ (q = t ∨ q = w.heap.size) := fun q h1 h2 h3 => by omega
          have hc1 : wr.cell? ⟨b, o + i, none⟩ = some (.slice (some ⟨br, or_, none⟩) n cr) := HI.out.tu.cell ((HB.out.cell (p := ⟨b, o + i, none⟩) hbw).trans HROW.out) (hnot _ hbw hbt)
          have hc2 : wr.cell? ⟨br, or_ + j, none⟩ = some (.int .i64 (F i j)) := HI.out.tu.cell ((HB.out.cell (p := ⟨br, or_ + j, none⟩) hbrw).trans (HRC.out j hlt2)) (hnot _ hbrw hbrt)
          have hc3 : wr.cell? ⟨w.heap.size, j, none⟩ = some (.int .i64 (mixF p x2 F i j)) := by have := HI.out.row.cell hlt2; rwa [show mixTo p x2 F i j j = mixF p x2 F i j by simp [mixTo]] at this
          have hf3 := HI.out.row.frozen j
          have hin1 := HFI.out i hlt j hlt2
          have hin2 := mixF_in (p := (p : Int)) (by omega) x2 F i n j hlt2
          have HSET := Lib.hid (HI.out.row.set j ((mixF p x2 F i j + x2 i * F i j) % p))
          rw [mixTo_step, HXI.out] at HSET
          have hmm := mul_in (a := xi) (b := F i j) (p := p) (q := p) ⟨hx0, by omega⟩ ⟨hin1.1, by omega⟩ (by omega) (by omega)
          generalize F i j = y at hc2 hin1 hmm HSET
          generalize mixF p x2 F i j = v0 at hc3 hin2 HSET
          obtain ⟨m1, hm1⟩ : ∃ m1, xi * y = m1 := ⟨_, rfl⟩
          have hw1 : IntKind.i64.wrap (xi * y) = m1 := by rw [hm1]; exact IntWalk.i64_in _ ⟨by omega, by omega⟩
          rw [hm1] at hmm HSET
          have hw2 : IntKind.i64.wrap (v0 + m1) = v0 + m1 := IntWalk.i64_in _ ⟨by omega, by omega⟩
          have hr : (v0 + m1).tmod p = (v0 + m1) % p := Int.tmod_eq_emod_of_nonneg (by omega)
          have hr1 : 0 ≤ (v0 + m1) % (p : Int) := Int.emod_nonneg _ (by omega)
          have hr2 : (v0 + m1) % (p : Int) < p := Int.emod_lt_of_pos _ (by omega)
          have hw3 : IntKind.i64.wrap ((v0 + m1) % (p : Int)) = (v0 + m1) % (p : Int) := IntWalk.i64_in _ ⟨by omega, by omega⟩
          have HMX := Lib.hid (show MxO w1 t w.heap.size A c N z n (mixTo p x2 F i (j + 1)) (wr.setCell ⟨w.heap.size, j, none⟩ (.int .i64 ((v0 + m1) % p))) from by
            obtain ⟨q, hq⟩ := HI.out.tk
            have hs := (Turn.refl (· = w.heap.size) wr).setCell ⟨w.heap.size, j, none⟩ rfl (.int .i64 ((v0 + m1) % p))
            exact ⟨⟨q, hq.turn hs fun b hb (e : b = w.heap.size) => by omega⟩, HI.out.tu.trans (hs.more fun _ _ e => .inr e), HSET.out⟩)
          have d1 : (0 : Int) ≤ i := by omega
          have d2 : (i : Int) < (m : Int) := by omega
          have d3 : (j : Int) < (n : Int) := by omega
          clear hm1
          go_wp2_with fail
          refine wp_region_held_drew (S := (fun W1 => W1.cell? ⟨b, o + i, none⟩ = some (.slice (some ⟨br, or_, none⟩) n cr) ∧ W1.cell? ⟨br, or_ + j, none⟩ = some (.int .i64 y))) (by kernel_rfl) ⟨hc1, hc2⟩ (fun hHeld => ?_)
          have HMD := Lib.hid (show MxO w1 t w.heap.size A c N z n (mixTo p x2 F i (j + 1)) (wr.drew.setCell ⟨w.heap.size, j, none⟩ (.int .i64 ((v0 + m1) % p))) from by
            obtain ⟨q, hq⟩ := HMX.out.tk
            exact ⟨⟨q, hq.1, hq.2.keep (fun _ h => h) (fun _ _ => rfl) (fun _ _ => rfl)⟩, ⟨HMX.out.tu.os, HMX.out.tu.tape, HMX.out.tu.output, HMX.out.tu.size, HMX.out.tu.block⟩, HMX.out.row⟩)
          have hc3d : wr.drew.cell? ⟨w.heap.size, j, none⟩ = some (.int .i64 v0) := hc3
          have hf3d : wr.drew.frozen? ⟨w.heap.size, j, none⟩ = false := hf3
          have hHS : (wr.drew.setCell ⟨w.heap.size, j, none⟩ (.int .i64 ((v0 + m1) % p))).cell? ⟨b, o + i, none⟩ = some (.slice (some ⟨br, or_, none⟩) n cr) ∧ (wr.drew.setCell ⟨w.heap.size, j, none⟩ (.int .i64 ((v0 + m1) % p))).cell? ⟨br, or_ + j, none⟩ = some (.int .i64 y) :=
            ⟨(World.cell?_setCell_far _ _ _ _ (show w.heap.size ≠ b by omega)).trans hHeld.1, (World.cell?_setCell_far _ _ _ _ (show w.heap.size ≠ br by omega)).trans hHeld.2⟩
          clear HMX HSET hc1 hc2 hc3 hf3
          generalize wr.drew = X at hHeld HMD hc3d hf3d hHS ⊢
          refine takeH (i := 0) (v := (.slice (some ⟨w.heap.size, 0, none⟩) n n)) rfl rfl (by kernel_rfl) (by kernel_rfl) (by kernel_rfl) (fun _ _ _ h => h) (by rfl) (fun W hW => by (skip); go_simp) (by assumption) ?_
          simp only [List.setIfInBounds_toArray, List.set_cons_zero, List.set_cons_succ]
          refine takeH (i := 1) (v := (.int .i64 j)) rfl rfl (by kernel_rfl) (by kernel_rfl) (by kernel_rfl) (fun _ _ _ h => h) (by rfl) (fun W hW => by (skip); go_simp) (by assumption) ?_
          simp only [List.setIfInBounds_toArray, List.set_cons_zero, List.set_cons_succ]
          refine takeH (i := 2) (v := (.slice (some ⟨w.heap.size, 0, none⟩) n n)) rfl rfl (by kernel_rfl) (by kernel_rfl) (by kernel_rfl) (fun _ _ _ h => h) (by rfl) (fun W hW => by (skip); go_simp) (by assumption) ?_
          simp only [List.setIfInBounds_toArray, List.set_cons_zero, List.set_cons_succ]
          refine takeH (i := 3) (v := (.int .i64 j)) rfl rfl (by kernel_rfl) (by kernel_rfl) (by kernel_rfl) (fun _ _ _ h => h) (by rfl) (fun W hW => by (skip); go_simp) (by assumption) ?_
          simp only [List.setIfInBounds_toArray, List.set_cons_zero, List.set_cons_succ]
          refine takeH (i := 4) (v := (.pointer (some ⟨w.heap.size, j, none⟩))) rfl rfl (by kernel_rfl) (by kernel_rfl) (by kernel_rfl) (fun _ _ _ h => h) (by rfl) (fun W hW => by (skip); go_simp) (by assumption) ?_
          simp only [List.setIfInBounds_toArray, List.set_cons_zero, List.set_cons_succ]
          refine takeH (i := 6) (v := (.int .i64 xi)) rfl rfl (by kernel_rfl) (by kernel_rfl) (by kernel_rfl) (fun _ _ _ h => h) (by rfl) (fun W hW => by (skip); go_simp) (by assumption) ?_
          simp only [List.setIfInBounds_toArray, List.set_cons_zero, List.set_cons_succ]
          refine takeH (i := 7) (v := (.slice (some ⟨b, o, none⟩) m cl)) rfl rfl (by kernel_rfl) (by kernel_rfl) (by kernel_rfl) (fun _ _ _ h => h) (by rfl) (fun W hW => by (skip); go_simp) (by assumption) ?_
          simp only [List.setIfInBounds_toArray, List.set_cons_zero, List.set_cons_succ]
          refine takeH (i := 8) (v := (.int .i64 i)) rfl rfl (by kernel_rfl) (by kernel_rfl) (by kernel_rfl) (fun _ _ _ h => h) (by rfl) (fun W hW => by (skip); go_simp) (by assumption) ?_
          simp only [List.setIfInBounds_toArray, List.set_cons_zero, List.set_cons_succ]
          refine takeH (i := 9) (v := (.pointer (some ⟨b, o + i, none⟩))) rfl rfl (by kernel_rfl) (by kernel_rfl) (by kernel_rfl) (fun _ _ _ h => h) (by rfl) (fun W hW => by (skip); go_simp) (by assumption) ?_
          simp only [List.setIfInBounds_toArray, List.set_cons_zero, List.set_cons_succ]
          refine takeH (i := 10) (v := (.slice (some ⟨br, or_, none⟩) n cr)) rfl rfl (by kernel_rfl) (by kernel_rfl) (by kernel_rfl) (fun _ _ _ h => h) (by rfl) (fun W hW => by (obtain ⟨h1, h2⟩ := hW); go_simp) (by assumption) ?_
          simp only [List.setIfInBounds_toArray, List.set_cons_zero, List.set_cons_succ]
          refine takeH (i := 11) (v := (.int .i64 j)) rfl rfl (by kernel_rfl) (by kernel_rfl) (by kernel_rfl) (fun _ _ _ h => h) (by rfl) (fun W hW => by (skip); go_simp) (by assumption) ?_
          simp only [List.setIfInBounds_toArray, List.set_cons_zero, List.set_cons_succ]
          refine takeH (i := 12) (v := (.pointer (some ⟨br, or_ + j, none⟩))) rfl rfl (by kernel_rfl) (by kernel_rfl) (by kernel_rfl) (fun _ _ _ h => h) (by rfl) (fun W hW => by (skip); go_simp) (by assumption) ?_
          simp only [List.setIfInBounds_toArray, List.set_cons_zero, List.set_cons_succ]
          refine takeH (i := 13) (v := (.int .i64 y)) rfl rfl (by kernel_rfl) (by kernel_rfl) (by kernel_rfl) (fun _ _ _ h => h) (by rfl) (fun W hW => by (obtain ⟨h1, h2⟩ := hW); go_simp) (by assumption) ?_
          simp only [List.setIfInBounds_toArray, List.set_cons_zero, List.set_cons_succ]
          refine takeH (i := 14) (v := (.int .i64 m1)) rfl rfl (by kernel_rfl) (by kernel_rfl) (by kernel_rfl) (fun _ _ _ h => h) (by rfl) (fun W hW => by (skip); go_simp) (by assumption) ?_
          simp only [List.setIfInBounds_toArray, List.set_cons_zero, List.set_cons_succ]
          refine takeH (i := 16) (v := (.int .i64 p)) rfl rfl (by kernel_rfl) (by kernel_rfl) (by kernel_rfl) (fun _ _ _ h => h) (by rfl) (fun W hW => by (skip); go_simp) (by assumption) ?_
          simp only [List.setIfInBounds_toArray, List.set_cons_zero, List.set_cons_succ]
          refine wpAnyH_ready (rs := [5]) (by kernel_rfl) (by simp) ?_
          refine (AllReadyH.cons rfl (fun K hK => ?_) AllReadyH.nil)
          go_simp
          refine hK.out _ _ hHeld (fun hHeld => ?_)
          clear hK K
          try simp only [Act.put, List.setIfInBounds_toArray, List.set_cons_zero, List.set_cons_succ]
          refine takeH (i := 15) (v := (.int .i64 (v0 + m1))) rfl rfl (by kernel_rfl) (by kernel_rfl) (by kernel_rfl) (fun _ _ _ h => h) (by rfl) (fun W hW => by (skip); go_simp) (by assumption) ?_
          simp only [List.setIfInBounds_toArray, List.set_cons_zero, List.set_cons_succ]
          refine takeH (i := 17) (v := (.int .i64 ((v0 + m1) % p))) rfl rfl (by kernel_rfl) (by kernel_rfl) (by kernel_rfl) (fun _ _ _ h => h) (by rfl) (fun W hW => by (skip); go_simp) (by assumption) ?_
          simp only [List.setIfInBounds_toArray, List.set_cons_zero, List.set_cons_succ]
          refine takeH (i := 18) (v := (.pointer (some ⟨w.heap.size, j, none⟩))) rfl rfl (by kernel_rfl) (by kernel_rfl) (by kernel_rfl) (fun _ _ _ h => h) (by rfl) (fun W hW => by (skip); go_simp) (by assumption) ?_
          simp only [List.setIfInBounds_toArray, List.set_cons_zero, List.set_cons_succ]
          refine wpAnyH_ready (rs := [19]) (by kernel_rfl) (by simp) ?_
          refine (AllReadyH.cons rfl (fun K hK => ?_) AllReadyH.nil)
          go_simp
          refine hK.out _ _ hHS (fun hHeld => ?_)
          clear hK K
          try simp only [Act.put, List.setIfInBounds_toArray, List.set_cons_zero, List.set_cons_succ]
          refine wpAnyH_done (by kernel_rfl) ?_ _
          go_wp2
          go_roundw
          case rel => exact ⟨j + 1, by go_num, by omega, HMD⟩
          case measure => simp [intOf]; omega
        · obtain rfl : j = n := by omega
          have HNX := Lib.hid (show MxO w1 t w.heap.size A c N z j (mixF p x2 F (i + 1)) wr from ⟨HI.out.tk, HI.out.tu, HI.out.row.congr fun a ha => by unfold mixTo; rw [if_pos ha]⟩)
          go_wp2
          go_roundw
          case rel => exact ⟨i + 1, x2, by go_num, by omega, HNX⟩
          case measure => simp [intOf]; omega
    · obtain rfl : i = m := by omega
      go_wp2
      go_ret
      obtain ⟨q, hq⟩ := HO.out.tk
      have hsz := HO.out.tu.size
      refine ⟨_, x, q, rfl, HO.out.row.vec (Nat.le_refl _) _ ⟨Nat.le_refl _, HO.out.row.lt⟩, hq, ?_⟩
      have ht := HO.out.tu
      have hb := HB.out
      exact ⟨ht.os.trans hb.os, ht.tape.trans hb.tape, ht.output.trans hb.output, Nat.le_trans hb.size ht.size, fun b hb' hn' => (ht.block b (by omega) (fun e => by omega)).trans (hb.block b hb')⟩
end Go.Proofs.Ytinoomcboinokaa
