/- cayleylaw04.MatrixNames: the walk; written by a generator (gennam.py). -/
import Derived.Test.YthdilpaffcidmaaMNamM
import Derived.Deep.Cut
import Derived.Deep.CutRange
namespace Go.Proofs.Ythdilpaffcidmaa
open Go Go.RowKit Num

theorem ofp_any (p : Nat) (hp : p = 5) (A : Option Addr) (m c : Nat) (w : World) : Calls Try.prog 54 #[.slice A m c] w fun e w' => e = .returned (.agg #[.int .i64 p, .slice A m c]) ∧ Below w.heap.size w w' := by
  subst hp
  exact of_any A m c w
theorem row_v2 {w : World} {g : Nat} {a b : Int} {S : Nat → Prop} (h : Row w g 3 #[.int .i64 a, .int .i64 b]) (hS : S g) : Vec w S (.slice (some ⟨g, 0, none⟩) 2 2) 2 (V2 a b) :=
  ⟨_, 2, rfl, Nat.le_refl _, fun _ => ⟨g, 0, rfl, hS, fun j hj => by
    rcases (by omega : j = 0 ∨ j = 1) with rfl | rfl
    · exact h.cell (i := 0) rfl
    · exact h.cell (i := 1) rfl⟩⟩
theorem row_v3 {w : World} {g : Nat} {a b c : Int} {S : Nat → Prop} (h : Row w g 3 #[.int .i64 a, .int .i64 b, .int .i64 c]) (hS : S g) : Vec w S (.slice (some ⟨g, 0, none⟩) 3 3) 3 (V3 a b c) :=
  ⟨_, 3, rfl, Nat.le_refl _, fun _ => ⟨g, 0, rfl, hS, fun j hj => by
    rcases (by omega : j = 0 ∨ j = 1 ∨ j = 2) with rfl | rfl | rfl
    · exact h.cell (i := 0) rfl
    · exact h.cell (i := 1) rfl
    · exact h.cell (i := 2) rfl⟩⟩
theorem row_v7 {w : World} {g : Nat} {S : Nat → Prop} (h : Row w g 3 #[.int .i64 0, .int .i64 5, .int .i64 10, .int .i64 15, .int .i64 20, .int .i64 1, .int .i64 6]) (hS : S g) : Vec w S (.slice (some ⟨g, 0, none⟩) 7 7) 7 V7 :=
  ⟨_, 7, rfl, Nat.le_refl _, fun _ => ⟨g, 0, rfl, hS, fun j hj => by
    rcases (by omega : j = 0 ∨ j = 1 ∨ j = 2 ∨ j = 3 ∨ j = 4 ∨ j = 5 ∨ j = 6) with rfl | rfl | rfl | rfl | rfl | rfl | rfl
    · exact h.cell (i := 0) rfl
    · exact h.cell (i := 1) rfl
    · exact h.cell (i := 2) rfl
    · exact h.cell (i := 3) rfl
    · exact h.cell (i := 4) rfl
    · exact h.cell (i := 5) rfl
    · exact h.cell (i := 6) rfl⟩⟩
theorem size3P (W : World) : (sizeOf (Try.prog.elem 70)).run Try.prog W = .ok 1 W := by
  obtain ⟨i0, hi, hz0, hz1, hz2⟩ := info_parts info3m
  have e : Try.prog.elem 70 = 3 := by kernel_rfl
  rw [e]; simp [sizeOf, typeInfo, hi, hz1]
/-- 'v[:k]' of a permutation. -/
theorem cut_preP {w : World} {S : Nat → Prop} {A : Option Addr} {n c : Nat} {f : Nat → Int} (h : Vec w S (.slice A n c) n f) {k : Nat} (hk : k ≤ n) :
    ∃ A', (∀ W, (Instr.slice 70 (.slice A n c) none (some (.int .i64 (k : Int))) none).run Try.prog W = .ok (.slice A' k c) W) ∧ Vec w S (.slice A' k c) k f := by
  obtain ⟨A0, c0, e, hc, hv⟩ := h
  injection e with e1 _ e3
  subst e1; subst e3
  refine ⟨if c = 0 then A else A.map (·.add (0 * 1)), fun W => by rw [run_slice_h W 70 A n c (by kernel_rfl) .i64 k (by omega) (by omega), size3P, Int.toNat_natCast]; rfl, _, c, rfl, by omega, fun h0 => ?_⟩
  obtain ⟨b, o, e, hb, hcc⟩ := hv (by omega)
  exact ⟨b, o + 0, by rw [if_neg (by omega), addr_map A 0 b o e], hb, fun j hj => hcc j (by omega)⟩
/-- A written matrix of one row of one entry. -/
theorem of1 (w : World) (a : Int) : Grid ((w.alloc (.cells #[.int .i64 a] 3)).alloc (.cells #[.slice (some ⟨w.heap.size, 0, none⟩) 1 1] 23)) (New w ((w.alloc (.cells #[.int .i64 a] 3)).alloc (.cells #[.slice (some ⟨w.heap.size, 0, none⟩) 1 1] 23))) (.slice (some ⟨w.heap.size + 1, 0, none⟩) 1 1) 1 (fun _ => 1) (fun _ _ => a) ∧
    Below w.heap.size w ((w.alloc (.cells #[.int .i64 a] 3)).alloc (.cells #[.slice (some ⟨w.heap.size, 0, none⟩) 1 1] 23)) := by
  have h1 := (row_new (W := w) rfl 3 #[.int .i64 a]).alloc (.cells #[.slice (some ⟨w.heap.size, 0, none⟩) 1 1] 23)
  have h3 := row_new (W := w.alloc (.cells #[.int .i64 a] 3)) (g := w.heap.size + 1) (by simp) 23 #[.slice (some ⟨w.heap.size, 0, none⟩) 1 1]
  have hz : ((w.alloc (.cells #[.int .i64 a] 3)).alloc (.cells #[.slice (some ⟨w.heap.size, 0, none⟩) 1 1] 23)).heap.size = w.heap.size + 1 + 1 := by simp
  have hb : Below w.heap.size w ((w.alloc (.cells #[.int .i64 a] 3)).alloc (.cells #[.slice (some ⟨w.heap.size, 0, none⟩) 1 1] 23)) := ((Below.refl w.heap.size w).alloc (Nat.le_refl _) _).alloc (by simp) _
  generalize (w.alloc (.cells #[.int .i64 a] 3)).alloc (.cells #[.slice (some ⟨w.heap.size, 0, none⟩) 1 1] 23) = W at h1 h3 hz hb ⊢
  refine ⟨⟨_, 1, rfl, Nat.le_refl _, fun _ => ⟨_, 0, rfl, ⟨by omega, by omega⟩, fun i hi => ?_⟩⟩, hb⟩
  obtain rfl : i = 0 := by omega
  refine ⟨_, h3.cell (i := 0) rfl, _, 1, rfl, Nat.le_refl _, fun _ => ⟨_, 0, rfl, ⟨by omega, by omega⟩, fun j hj => ?_⟩⟩
  have hj2 : j < 1 := hj
  obtain rfl : j = 0 := by omega
  exact h1.cell (i := 0) rfl
/-- Four rows of four, in the order in which they are written. -/
theorem of4 {w W : World} {r : Nat → Nat} {f : Nat → Nat → Int} {g : Nat} (hr : ∀ i, i < 4 → Row W (r i) 3 #[.int .i64 (f i 0), .int .i64 (f i 1), .int .i64 (f i 2), .int .i64 (f i 3)] ∧ New w W (r i))
    (hg : Row W g 23 #[.slice (some ⟨r 0, 0, none⟩) 4 4, .slice (some ⟨r 1, 0, none⟩) 4 4, .slice (some ⟨r 2, 0, none⟩) 4 4, .slice (some ⟨r 3, 0, none⟩) 4 4]) (hn : New w W g) : Grid W (New w W) (.slice (some ⟨g, 0, none⟩) 4 4) 4 (fun _ => 4) f := by
  refine ⟨_, 4, rfl, Nat.le_refl _, fun _ => ⟨_, 0, rfl, hn, fun i hi => ?_⟩⟩
  have hv : ∀ i, i < 4 → Vec W (New w W) (.slice (some ⟨r i, 0, none⟩) 4 4) 4 (f i) := fun i hi => ⟨_, 4, rfl, Nat.le_refl _, fun _ => ⟨_, 0, rfl, (hr i hi).2, fun j hj => by
    rcases (by omega : j = 0 ∨ j = 1 ∨ j = 2 ∨ j = 3) with rfl | rfl | rfl | rfl
    · exact (hr i hi).1.cell (i := 0) rfl
    · exact (hr i hi).1.cell (i := 1) rfl
    · exact (hr i hi).1.cell (i := 2) rfl
    · exact (hr i hi).1.cell (i := 3) rfl⟩⟩
  rcases (by omega : i = 0 ∨ i = 1 ∨ i = 2 ∨ i = 3) with rfl | rfl | rfl | rfl
  · exact ⟨_, hg.cell (i := 0) rfl, hv 0 hi⟩
  · exact ⟨_, hg.cell (i := 1) rfl, hv 1 hi⟩
  · exact ⟨_, hg.cell (i := 2) rfl, hv 2 hi⟩
  · exact ⟨_, hg.cell (i := 3) rfl, hv 3 hi⟩
theorem of3 {W : World} {gr gh : Nat} {a b c : Int} {S : Nat → Prop} (hr : Row W gr 3 #[.int .i64 a, .int .i64 b, .int .i64 c]) (hg : Row W gh 23 #[.slice (some ⟨gr, 0, none⟩) 3 3]) (h1 : S gr) (h2 : S gh) : Grid W S (.slice (some ⟨gh, 0, none⟩) 1 1) 1 (fun _ => 3) (fun _ => V3 a b c) := by
  refine ⟨_, 1, rfl, Nat.le_refl _, fun _ => ⟨_, 0, rfl, h2, fun i hi => ?_⟩⟩
  obtain rfl : i = 0 := by omega
  exact ⟨_, hg.cell (i := 0) rfl, row_v3 hr h1⟩
theorem nam_c3 : chkM ((5 : Nat) : Int) 1 (fun _ => 3) (fun _ => V3 1 2 3) = 0 := chkM_full mod5 (by omega) (by omega) (by omega) (by omega) fun i _ j _ => by
  unfold V3
  split
  · omega
  · split <;> omega
/-- A header over one nil row. -/
theorem of0 {W : World} {gh : Nat} {S : Nat → Prop} (hg : Row W gh 23 #[.slice none 0 0]) (h2 : S gh) : Grid W S (.slice (some ⟨gh, 0, none⟩) 1 1) 1 (fun _ => 0) (fun _ _ => 0) := by
  refine ⟨_, 1, rfl, Nat.le_refl _, fun _ => ⟨_, 0, rfl, h2, fun i hi => ?_⟩⟩
  obtain rfl : i = 0 := by omega
  exact ⟨_, hg.cell (i := 0) rfl, none, 0, rfl, Nat.le_refl _, fun h => absurd h (by show ¬ 0 < 0; omega)⟩
/-- A header over two rows of different lengths. -/
theorem of21 {W : World} {g1 g2 gh : Nat} {a b c : Int} {S : Nat → Prop} (h1 : Row W g1 3 #[.int .i64 a, .int .i64 b]) (h2 : Row W g2 3 #[.int .i64 c]) (hg : Row W gh 23 #[.slice (some ⟨g1, 0, none⟩) 2 2, .slice (some ⟨g2, 0, none⟩) 1 1]) (s1 : S g1) (s2 : S g2) (s3 : S gh) :
    Grid W S (.slice (some ⟨gh, 0, none⟩) 2 2) 2 (fun i => 2 - i) (fun i j => if i = 0 then V2 a b j else c) := by
  refine ⟨_, 2, rfl, Nat.le_refl _, fun _ => ⟨_, 0, rfl, s3, fun i hi => ?_⟩⟩
  rcases (by omega : i = 0 ∨ i = 1) with rfl | rfl
  · exact ⟨_, hg.cell (i := 0) rfl, row_v2 h1 s1⟩
  · refine ⟨_, hg.cell (i := 1) rfl, _, 1, rfl, Nat.le_refl _, fun _ => ⟨_, 0, rfl, s2, fun j hj => ?_⟩⟩
    have hj2 : j < 1 := hj
    obtain rfl : j = 0 := by omega
    exact h2.cell (i := 0) rfl
theorem nam_c21 {a b c : Int} : chkM ((5 : Nat) : Int) 2 (fun i => 2 - i) (fun i j => if i = 0 then V2 a b j else c) = 3 := by
  unfold chkM
  rw [if_neg (by rw [mod5]; simp), if_neg (by simp), if_neg (fun h => by
    have := (h 1 (by omega)).1
    simp at this)]

set_option maxRecDepth 100000 in
set_option maxHeartbeats 60000000 in
theorem matrixNames_main (w : World) : Calls Try.prog 10 #[] w fun e w' => e = .returned (.bool true) ∧ Below w.heap.size w w' := by
  obtain ⟨p, hp5⟩ : ∃ p : Nat, p = 5 := ⟨5, rfl⟩
  have HS := Lib.hid (show Sized p 2 from ⟨by rw [hp5]; exact mod5, by omega, by omega⟩)
  have HP := Lib.hid hp5
  have HOF := Lib.hid (fun A m c W => ofp_any p hp5 A m c W)
  clear hp5
  go_enter Try.func10, Try.ntmps10
  go_wp2_with fail
  refine (lives_any _).mono ?_
  rintro e w0 ⟨rfl, hb⟩
  have HB := Lib.hid hb
  clear hb
  have hO := of2 w0 1 2 3 4
  go_wp2_with fail
  generalize ((w0.alloc (.cells #[.int .i64 1, .int .i64 2] 3)).alloc (.cells #[.int .i64 3, .int .i64 4] 3)).alloc (.cells #[.slice (some ⟨w0.heap.size, 0, none⟩) 2 2, .slice (some ⟨w0.heap.size + 1, 0, none⟩) 2 2] 23) = w1 at hO ⊢
  obtain ⟨hg, hb, hz⟩ := hO
  replace HB := Lib.hid (HB.out.trans (hb.mono HB.out.size))
  have GA := Lib.hid hg.new_lt
  clear hg hb hz
  refine (HOF.out _ _ _ _).mono ?_
  rintro e w2 ⟨rfl, hb⟩
  replace HB := Lib.hid (HB.out.trans (hb.mono HB.out.size))
  replace GA := Lib.hid (GA.out.on hb)
  clear hb
  generalize w0.heap.size + 1 + 1 = ga at GA ⊢
  have hO := of2 w2 0 1 1 0
  go_wp2_with fail
  generalize ((w2.alloc (.cells #[.int .i64 0, .int .i64 1] 3)).alloc (.cells #[.int .i64 1, .int .i64 0] 3)).alloc (.cells #[.slice (some ⟨w2.heap.size, 0, none⟩) 2 2, .slice (some ⟨w2.heap.size + 1, 0, none⟩) 2 2] 23) = w3 at hO ⊢
  obtain ⟨hg, hb, hz⟩ := hO
  replace HB := Lib.hid (HB.out.trans (hb.mono HB.out.size))
  replace GA := Lib.hid (GA.out.on hb)
  have GB := Lib.hid hg.new_lt
  clear hg hb hz
  refine (HOF.out _ _ _ _).mono ?_
  rintro e w4 ⟨rfl, hb⟩
  replace HB := Lib.hid (HB.out.trans (hb.mono HB.out.size))
  replace GA := Lib.hid (GA.out.on hb)
  replace GB := Lib.hid (GB.out.on hb)
  clear hb
  generalize w2.heap.size + 1 + 1 = gb at GB ⊢
  have hA : InG (p : Int) 2 2 (M2 1 2 3 4) := by rw [HP.out]; exact M2_in (by omega)
  have hBB : InG (p : Int) 2 2 (M2 0 1 1 0) := by rw [HP.out]; exact M2_in (by omega)
  have HL := Lib.hid (ml_2 (p := (p : Int)) GA.out GB.out hA hBB)
  have hb2 := ((Below.refl w4.heap.size w4).alloc (Nat.le_refl _) (.cells #[.int .i64 p, .slice (some ⟨ga, 0, none⟩) 2 2] 58)).alloc (by simp) (.cells #[.int .i64 p, .slice (some ⟨gb, 0, none⟩) 2 2] 58)
  replace HB := Lib.hid (HB.out.trans (hb2.mono HB.out.size))
  clear hA hBB hb2 GA GB
  have k0 := HL.out.c0 1 rfl
  have k1 := HL.out.c1 1 rfl
  have k2 := HL.out.c0 0 rfl
  have k3 := HL.out.c1 0 rfl
  go_wp2_with fail
  clear k0 k1 k2 k3
  generalize (w4.alloc (.cells #[.int .i64 p, .slice (some ⟨ga, 0, none⟩) 2 2] 58)).alloc (.cells #[.int .i64 p, .slice (some ⟨gb, 0, none⟩) 2 2] 58) = wab at HL HB ⊢
  generalize w4.heap.size + 1 = Bb at HL ⊢
  generalize w4.heap.size = Ba at HL ⊢
  refine (addL HS.out HL.out 1 0 rfl rfl).mono ?_
  rintro e w5 ⟨Aw5, cw5, rfl, hg, hf, hb⟩
  replace HL := Lib.hid (HL.out.cons hb hg hf)
  replace HB := Lib.hid (HB.out.trans (hb.mono HB.out.size))
  have hba : Below w5.heap.size w5 (w5.alloc (.cells #[.int .i64 p, .slice Aw5 2 cw5] 58)) := (Below.refl _ _).alloc (Nat.le_refl _) _
  replace HB := Lib.hid (HB.out.trans (hba.mono HB.out.size))
  clear hb hg hf hba
  have k0 := HL.out.c0 2 rfl
  have k1 := HL.out.c1 2 rfl
  go_wp2_with fail
  clear k0 k1
  refine (scaleL HS.out HL.out (-1) 2 rfl).mono ?_
  rintro e w6 ⟨Aw6, cw6, rfl, hg, hf, hb⟩
  replace HL := Lib.hid (HL.out.cons hb hg hf)
  replace HB := Lib.hid (HB.out.trans (hb.mono HB.out.size))
  have hba : Below w6.heap.size w6 (w6.alloc (.cells #[.int .i64 p, .slice Aw6 2 cw6] 58)) := (Below.refl _ _).alloc (Nat.le_refl _) _
  replace HB := Lib.hid (HB.out.trans (hba.mono HB.out.size))
  clear hb hg hf hba
  have k0 := HL.out.c0 3 rfl
  have k1 := HL.out.c1 3 rfl
  go_wp2_with fail
  clear k0 k1
  refine (turnL HS.out HL.out 3 rfl).mono ?_
  rintro e w7 ⟨Aw7, cw7, rfl, hg, hf, hb⟩
  replace HL := Lib.hid (HL.out.cons hb hg hf)
  replace HB := Lib.hid (HB.out.trans (hb.mono HB.out.size))
  have hba : Below w7.heap.size w7 (w7.alloc (.cells #[.int .i64 p, .slice Aw7 2 cw7] 58)) := (Below.refl _ _).alloc (Nat.le_refl _) _
  replace HB := Lib.hid (HB.out.trans (hba.mono HB.out.size))
  clear hb hg hf hba
  have k0 := HL.out.c0 4 rfl
  have k1 := HL.out.c1 4 rfl
  have hr0 := row_new (W := w7.alloc (.cells #[.int .i64 p, .slice Aw7 2 cw7] 58)) (g := w7.heap.size + 1) (by simp) 3 #[.int .i64 1, .int .i64 6]
  have hba : Below (w7.alloc (.cells #[.int .i64 p, .slice Aw7 2 cw7] 58)).heap.size (w7.alloc (.cells #[.int .i64 p, .slice Aw7 2 cw7] 58)) ((w7.alloc (.cells #[.int .i64 p, .slice Aw7 2 cw7] 58)).alloc (.cells #[.int .i64 1, .int .i64 6] 3)) := (Below.refl _ _).alloc (Nat.le_refl _) _
  clear k0 k1
  replace HB := Lib.hid (HB.out.trans (hba.mono HB.out.size))
  replace HL := Lib.hid (HL.out.below hba)
  clear hba
  have k0 := HL.out.c0 4 rfl
  have k1 := HL.out.c1 4 rfl
  go_wp2_with fail
  clear k0 k1
  generalize (w7.alloc (.cells #[.int .i64 p, .slice Aw7 2 cw7] 58)).alloc (.cells #[.int .i64 1, .int .i64 6] 3) = wv at HL HB hr0 ⊢
  generalize w7.heap.size + 1 = gv at hr0 ⊢
  generalize w7.heap.size = B3 at HL ⊢
  generalize w6.heap.size = B2 at HL ⊢
  generalize w5.heap.size = B1 at HL ⊢
  have HV := Lib.hid (row_v2 (S := (· < wv.heap.size)) hr0 hr0.lt)
  clear hr0
  have hap := Apply_any (.slice (some ⟨gv, 0, none⟩) 2 2) (.slice (some ⟨ga, 0, none⟩) 2 2) 2 2 (fun _ => 2) (V2 1 6) (M2 1 2 3 4) p wv (by omega) (by omega) (fun _ _ => by omega) HV.out (HL.out 4 _ rfl).2.1 0 (HS.out.chk (HL.out 4 _ rfl).2.2).symm
  rw [if_neg (by simp), if_neg (by simp)] at hap
  refine hap.mono ?_
  rintro e w8 h
  obtain ⟨r, rfl, hv, hb⟩ := h.2 rfl
  obtain ⟨Av, cv, rfl, -⟩ := hv.form
  clear h HV
  replace HB := Lib.hid (HB.out.trans (hb.mono HB.out.size))
  replace HL := Lib.hid (HL.out.below hb)
  have HV := Lib.hid hv.new_lt
  clear hv hb hap
  go_upto_region 8 with fail
  go_cut [11] from 75 to 108 (fun s wx => s = .bool true ∧ ML wx (p : Int) 2 [⟨Bb, some ⟨gb, 0, none⟩, 2, M2 0 1 1 0⟩, ⟨Ba, some ⟨ga, 0, none⟩, 2, M2 1 2 3 4⟩] ∧ Below w.heap.size w wx)
  case first =>
    have hbd : Below w8.heap.size w8 w8.drew := below_drew (Below.refl _ _)
    replace HB := Lib.hid (HB.out.trans (hbd.mono HB.out.size))
    replace HL := Lib.hid (HL.out.below hbd)
    replace HV := Lib.hid (HV.out.on hbd)
    clear hbd
    refine wp_region_held_drew (S := (fun W => W.cell? ⟨B1, 0, none⟩ = some (.int .i64 p) ∧ W.cell? ⟨B1, 1, none⟩ = some (.slice Aw5 2 cw5) ∧ W.cell? ⟨B2, 0, none⟩ = some (.int .i64 p) ∧ W.cell? ⟨B2, 1, none⟩ = some (.slice Aw6 2 cw6) ∧ W.cell? ⟨B3, 0, none⟩ = some (.int .i64 p) ∧ W.cell? ⟨B3, 1, none⟩ = some (.slice Aw7 2 cw7))) (by as_aux_lemma => kernel_rfl) ⟨HL.out.c0 2 rfl, HL.out.c1 2 rfl, HL.out.c0 1 rfl, HL.out.c1 1 rfl, HL.out.c0 0 rfl, HL.out.c1 0 rfl⟩ (fun hHeld => ?_)
    generalize w8.drew = W0 at HL HB HV hHeld ⊢
    refine takeH (i := 0) (v := (.agg #[.int .i64 p, .slice Aw5 2 cw5])) rfl rfl (by as_aux_lemma => kernel_rfl) (by as_aux_lemma => kernel_rfl) (by as_aux_lemma => kernel_rfl) (fun _ _ _ h => h) (by rfl) (fun W hW => by (obtain ⟨q0, q1, q2, q3, q4, q5⟩ := hW); go_simp) (by assumption) ?_
    simp only [List.setIfInBounds_toArray, List.set_cons_zero, List.set_cons_succ]
    refine takeH (i := 1) (v := (.int .i64 0)) rfl rfl (by as_aux_lemma => kernel_rfl) (by as_aux_lemma => kernel_rfl) (by as_aux_lemma => kernel_rfl) (fun _ _ _ h => h) (by rfl) (fun W hW => by (skip); go_simp) (by assumption) ?_
    simp only [List.setIfInBounds_toArray, List.set_cons_zero, List.set_cons_succ]
    have HSF1 := Lib.hid (fun W (hb : Below W0.heap.size W0 W) => (show (fun W => W.cell? ⟨B1, 0, none⟩ = some (.int .i64 p) ∧ W.cell? ⟨B1, 1, none⟩ = some (.slice Aw5 2 cw5) ∧ W.cell? ⟨B2, 0, none⟩ = some (.int .i64 p) ∧ W.cell? ⟨B2, 1, none⟩ = some (.slice Aw6 2 cw6) ∧ W.cell? ⟨B3, 0, none⟩ = some (.int .i64 p) ∧ W.cell? ⟨B3, 1, none⟩ = some (.slice Aw7 2 cw7)) W from (fun (HL : Hid (ML W (p : Int) 2 _)) => ⟨HL.out.c0 2 rfl, HL.out.c1 2 rfl, HL.out.c0 1 rfl, HL.out.c1 1 rfl, HL.out.c0 0 rfl, HL.out.c1 0 rfl⟩) (Lib.hid (HL.out.below hb))))
    refine wpAnyH_ready (rs := [2, 3]) (by as_aux_lemma => kernel_rfl) (by simp) ?_
    refine (AllReadyH.cons rfl (fun K hK => ?_) (AllReadyH.cons rfl (fun K hK => ?_) AllReadyH.nil))
    · go_simp
      refine hK.out _ _ (HSF1.out _ ((Below.refl _ _).alloc (Nat.le_refl _) _)) (fun hHeld => ?_)
      clear hK K
      try simp only [Act.put, List.setIfInBounds_toArray, List.set_cons_zero, List.set_cons_succ]
      refine wpAnyH_ready (rs := [3]) (by as_aux_lemma => kernel_rfl) (by simp) ?_
      refine (AllReadyH.cons rfl (fun K hK => ?_) AllReadyH.nil)
      go_simp
      refine hK.out _ _ (HSF1.out _ (((Below.refl _ _).alloc (Nat.le_refl _) _).alloc (by simp) _)) (fun hHeld => ?_)
      clear hK K
      try simp only [Act.put, List.setIfInBounds_toArray, List.set_cons_zero, List.set_cons_succ]
      have hO := of2 W0 1 3 4 4
      refine wpAnyH_ready (rs := [4]) (by as_aux_lemma => kernel_rfl) (by simp) ?_
      refine (AllReadyH.cons rfl (fun K hK => ?_) AllReadyH.nil)
      go_simp
      refine hK.out _ _ (HSF1.out _ hO.2.1) (fun hHeld => ?_)
      clear hK K
      try simp only [Act.put, List.setIfInBounds_toArray, List.set_cons_zero, List.set_cons_succ]
      generalize ((W0.alloc (.cells #[.int .i64 1, .int .i64 3] 3)).alloc (.cells #[.int .i64 4, .int .i64 4] 3)).alloc (.cells #[.slice (some ⟨W0.heap.size, 0, none⟩) 2 2, .slice (some ⟨W0.heap.size + 1, 0, none⟩) 2 2] 23) = w9 at hO hHeld ⊢
      obtain ⟨hg, hb, hz⟩ := hO
      replace HB := Lib.hid (HB.out.trans (hb.mono HB.out.size))
      replace HL := Lib.hid (HL.out.below hb)
      replace HV := Lib.hid (HV.out.on hb)
      have GN := Lib.hid hg.new_lt
      clear hg hb hz HSF1
      generalize W0.heap.size + 1 + 1 = gn at GN ⊢
      refine wpAnyH_ready (rs := [5]) (by as_aux_lemma => kernel_rfl) (by simp) ?_
      refine (AllReadyH.cons rfl (fun K hK => ?_) AllReadyH.nil)
      go_simp
      go_at_call 54
      refine (HOF.out _ _ _ _).mono ?_
      rintro e w10 ⟨rfl, hb⟩
      replace HB := Lib.hid (HB.out.trans (hb.mono HB.out.size))
      replace HL := Lib.hid (HL.out.below hb)
      replace HV := Lib.hid (HV.out.on hb)
      replace GN := Lib.hid (GN.out.on hb)
      clear hb
      refine hK.out _ _ ⟨HL.out.c0 2 rfl, HL.out.c1 2 rfl, HL.out.c0 1 rfl, HL.out.c1 1 rfl, HL.out.c0 0 rfl, HL.out.c1 0 rfl⟩ (fun hHeld => ?_)
      clear hK K
      try simp only [Act.put, List.setIfInBounds_toArray, List.set_cons_zero, List.set_cons_succ]
      refine wpAnyH_ready (rs := [6]) (by as_aux_lemma => kernel_rfl) (by simp) ?_
      refine (AllReadyH.cons rfl (fun K hK => ?_) AllReadyH.nil)
      go_simp
      go_at_call 59
      have his := is_any (.slice Aw5 2 cw5) (.slice (some ⟨gn, 0, none⟩) 2 2) p 2 (fun _ => 2) _ (M2 1 3 4 4) _ (by omega) (fun _ _ => by omega) (HL.out 2 _ rfl).2.1 GN.out
      rw [show gridB 2 (fun _ => 2) (fun i => axpy 1 (p : Int) (M2 1 2 3 4 i) (M2 0 1 1 0 i)) (M2 1 3 4 4) = true by have := HP.out; subst this; exact nam_add] at his
      refine his.mono ?_
      rintro e w11 ⟨rfl, hb⟩
      clear his
      clear GN
      replace HB := Lib.hid (HB.out.trans (hb.mono HB.out.size))
      replace HL := Lib.hid (HL.out.below hb)
      replace HV := Lib.hid (HV.out.on hb)
      clear hb
      refine hK.out _ _ ⟨HL.out.c0 2 rfl, HL.out.c1 2 rfl, HL.out.c0 1 rfl, HL.out.c1 1 rfl, HL.out.c0 0 rfl, HL.out.c1 0 rfl⟩ (fun hHeld => ?_)
      clear hK K
      try simp only [Act.put, List.setIfInBounds_toArray, List.set_cons_zero, List.set_cons_succ]
      refine takeH (i := 7) (v := (.bool true)) rfl rfl (by as_aux_lemma => kernel_rfl) (by as_aux_lemma => kernel_rfl) (by as_aux_lemma => kernel_rfl) (fun _ _ _ h => h) (by rfl) (fun W hW => by (skip); go_simp) (by assumption) ?_
      simp only [List.setIfInBounds_toArray, List.set_cons_zero, List.set_cons_succ]
      refine takeH (i := 8) (v := (.agg #[.int .i64 p, .slice Aw6 2 cw6])) rfl rfl (by as_aux_lemma => kernel_rfl) (by as_aux_lemma => kernel_rfl) (by as_aux_lemma => kernel_rfl) (fun _ _ _ h => h) (by rfl) (fun W hW => by (obtain ⟨q0, q1, q2, q3, q4, q5⟩ := hW); go_simp) (by assumption) ?_
      simp only [List.setIfInBounds_toArray, List.set_cons_zero, List.set_cons_succ]
      refine takeH (i := 9) (v := (.int .i64 0)) rfl rfl (by as_aux_lemma => kernel_rfl) (by as_aux_lemma => kernel_rfl) (by as_aux_lemma => kernel_rfl) (fun _ _ _ h => h) (by rfl) (fun W hW => by (skip); go_simp) (by assumption) ?_
      simp only [List.setIfInBounds_toArray, List.set_cons_zero, List.set_cons_succ]
      have HSF2 := Lib.hid (fun W (hb : Below w11.heap.size w11 W) => (show (fun W => W.cell? ⟨B1, 0, none⟩ = some (.int .i64 p) ∧ W.cell? ⟨B1, 1, none⟩ = some (.slice Aw5 2 cw5) ∧ W.cell? ⟨B2, 0, none⟩ = some (.int .i64 p) ∧ W.cell? ⟨B2, 1, none⟩ = some (.slice Aw6 2 cw6) ∧ W.cell? ⟨B3, 0, none⟩ = some (.int .i64 p) ∧ W.cell? ⟨B3, 1, none⟩ = some (.slice Aw7 2 cw7)) W from (fun (HL : Hid (ML W (p : Int) 2 _)) => ⟨HL.out.c0 2 rfl, HL.out.c1 2 rfl, HL.out.c0 1 rfl, HL.out.c1 1 rfl, HL.out.c0 0 rfl, HL.out.c1 0 rfl⟩) (Lib.hid (HL.out.below hb))))
      refine wpAnyH_ready (rs := [10, 11]) (by as_aux_lemma => kernel_rfl) (by simp) ?_
      refine (AllReadyH.cons rfl (fun K hK => ?_) (AllReadyH.cons rfl (fun K hK => ?_) AllReadyH.nil))
      · go_simp
        refine hK.out _ _ (HSF2.out _ ((Below.refl _ _).alloc (Nat.le_refl _) _)) (fun hHeld => ?_)
        clear hK K
        try simp only [Act.put, List.setIfInBounds_toArray, List.set_cons_zero, List.set_cons_succ]
        refine wpAnyH_ready (rs := [11]) (by as_aux_lemma => kernel_rfl) (by simp) ?_
        refine (AllReadyH.cons rfl (fun K hK => ?_) AllReadyH.nil)
        go_simp
        refine hK.out _ _ (HSF2.out _ (((Below.refl _ _).alloc (Nat.le_refl _) _).alloc (by simp) _)) (fun hHeld => ?_)
        clear hK K
        try simp only [Act.put, List.setIfInBounds_toArray, List.set_cons_zero, List.set_cons_succ]
        have hO := of2 w11 4 3 2 1
        refine wpAnyH_ready (rs := [12]) (by as_aux_lemma => kernel_rfl) (by simp) ?_
        refine (AllReadyH.cons rfl (fun K hK => ?_) AllReadyH.nil)
        go_simp
        refine hK.out _ _ (HSF2.out _ hO.2.1) (fun hHeld => ?_)
        clear hK K
        try simp only [Act.put, List.setIfInBounds_toArray, List.set_cons_zero, List.set_cons_succ]
        generalize ((w11.alloc (.cells #[.int .i64 4, .int .i64 3] 3)).alloc (.cells #[.int .i64 2, .int .i64 1] 3)).alloc (.cells #[.slice (some ⟨w11.heap.size, 0, none⟩) 2 2, .slice (some ⟨w11.heap.size + 1, 0, none⟩) 2 2] 23) = w12 at hO hHeld ⊢
        obtain ⟨hg, hb, hz⟩ := hO
        replace HB := Lib.hid (HB.out.trans (hb.mono HB.out.size))
        replace HL := Lib.hid (HL.out.below hb)
        replace HV := Lib.hid (HV.out.on hb)
        have GN := Lib.hid hg.new_lt
        clear hg hb hz HSF2
        generalize w11.heap.size + 1 + 1 = gn at GN ⊢
        refine wpAnyH_ready (rs := [13]) (by as_aux_lemma => kernel_rfl) (by simp) ?_
        refine (AllReadyH.cons rfl (fun K hK => ?_) AllReadyH.nil)
        go_simp
        go_at_call 54
        refine (HOF.out _ _ _ _).mono ?_
        rintro e w13 ⟨rfl, hb⟩
        replace HB := Lib.hid (HB.out.trans (hb.mono HB.out.size))
        replace HL := Lib.hid (HL.out.below hb)
        replace HV := Lib.hid (HV.out.on hb)
        replace GN := Lib.hid (GN.out.on hb)
        clear hb
        refine hK.out _ _ ⟨HL.out.c0 2 rfl, HL.out.c1 2 rfl, HL.out.c0 1 rfl, HL.out.c1 1 rfl, HL.out.c0 0 rfl, HL.out.c1 0 rfl⟩ (fun hHeld => ?_)
        clear hK K
        try simp only [Act.put, List.setIfInBounds_toArray, List.set_cons_zero, List.set_cons_succ]
        refine wpAnyH_ready (rs := [14]) (by as_aux_lemma => kernel_rfl) (by simp) ?_
        refine (AllReadyH.cons rfl (fun K hK => ?_) AllReadyH.nil)
        go_simp
        go_at_call 59
        have his := is_any (.slice Aw6 2 cw6) (.slice (some ⟨gn, 0, none⟩) 2 2) p 2 (fun _ => 2) _ (M2 4 3 2 1) _ (by omega) (fun _ _ => by omega) (HL.out 1 _ rfl).2.1 GN.out
        rw [show gridB 2 (fun _ => 2) (fun i => axpy (resV (-1) p : Nat) (p : Int) (fun _ => 0) (M2 1 2 3 4 i)) (M2 4 3 2 1) = true by have := HP.out; subst this; exact nam_scale] at his
        refine his.mono ?_
        rintro e w14 ⟨rfl, hb⟩
        clear his
        clear GN
        replace HB := Lib.hid (HB.out.trans (hb.mono HB.out.size))
        replace HL := Lib.hid (HL.out.below hb)
        replace HV := Lib.hid (HV.out.on hb)
        clear hb
        refine hK.out _ _ ⟨HL.out.c0 2 rfl, HL.out.c1 2 rfl, HL.out.c0 1 rfl, HL.out.c1 1 rfl, HL.out.c0 0 rfl, HL.out.c1 0 rfl⟩ (fun hHeld => ?_)
        clear hK K
        try simp only [Act.put, List.setIfInBounds_toArray, List.set_cons_zero, List.set_cons_succ]
        refine takeH (i := 15) (v := (.bool true)) rfl rfl (by as_aux_lemma => kernel_rfl) (by as_aux_lemma => kernel_rfl) (by as_aux_lemma => kernel_rfl) (fun _ _ _ h => h) (by rfl) (fun W hW => by (skip); go_simp) (by assumption) ?_
        simp only [List.setIfInBounds_toArray, List.set_cons_zero, List.set_cons_succ]
        refine takeH (i := 16) (v := (.bool true)) rfl rfl (by as_aux_lemma => kernel_rfl) (by as_aux_lemma => kernel_rfl) (by as_aux_lemma => kernel_rfl) (fun _ _ _ h => h) (by rfl) (fun W hW => by (skip); go_simp) (by assumption) ?_
        simp only [List.setIfInBounds_toArray, List.set_cons_zero, List.set_cons_succ]
        refine takeH (i := 17) (v := (.agg #[.int .i64 p, .slice Aw7 2 cw7])) rfl rfl (by as_aux_lemma => kernel_rfl) (by as_aux_lemma => kernel_rfl) (by as_aux_lemma => kernel_rfl) (fun _ _ _ h => h) (by rfl) (fun W hW => by (obtain ⟨q0, q1, q2, q3, q4, q5⟩ := hW); go_simp) (by assumption) ?_
        simp only [List.setIfInBounds_toArray, List.set_cons_zero, List.set_cons_succ]
        refine takeH (i := 18) (v := (.int .i64 0)) rfl rfl (by as_aux_lemma => kernel_rfl) (by as_aux_lemma => kernel_rfl) (by as_aux_lemma => kernel_rfl) (fun _ _ _ h => h) (by rfl) (fun W hW => by (skip); go_simp) (by assumption) ?_
        simp only [List.setIfInBounds_toArray, List.set_cons_zero, List.set_cons_succ]
        have HSF3 := Lib.hid (fun W (hb : Below w14.heap.size w14 W) => (show (fun W => W.cell? ⟨B1, 0, none⟩ = some (.int .i64 p) ∧ W.cell? ⟨B1, 1, none⟩ = some (.slice Aw5 2 cw5) ∧ W.cell? ⟨B2, 0, none⟩ = some (.int .i64 p) ∧ W.cell? ⟨B2, 1, none⟩ = some (.slice Aw6 2 cw6) ∧ W.cell? ⟨B3, 0, none⟩ = some (.int .i64 p) ∧ W.cell? ⟨B3, 1, none⟩ = some (.slice Aw7 2 cw7)) W from (fun (HL : Hid (ML W (p : Int) 2 _)) => ⟨HL.out.c0 2 rfl, HL.out.c1 2 rfl, HL.out.c0 1 rfl, HL.out.c1 1 rfl, HL.out.c0 0 rfl, HL.out.c1 0 rfl⟩) (Lib.hid (HL.out.below hb))))
        refine wpAnyH_ready (rs := [19, 20]) (by as_aux_lemma => kernel_rfl) (by simp) ?_
        refine (AllReadyH.cons rfl (fun K hK => ?_) (AllReadyH.cons rfl (fun K hK => ?_) AllReadyH.nil))
        · go_simp
          refine hK.out _ _ (HSF3.out _ ((Below.refl _ _).alloc (Nat.le_refl _) _)) (fun hHeld => ?_)
          clear hK K
          try simp only [Act.put, List.setIfInBounds_toArray, List.set_cons_zero, List.set_cons_succ]
          refine wpAnyH_ready (rs := [20]) (by as_aux_lemma => kernel_rfl) (by simp) ?_
          refine (AllReadyH.cons rfl (fun K hK => ?_) AllReadyH.nil)
          go_simp
          refine hK.out _ _ (HSF3.out _ (((Below.refl _ _).alloc (Nat.le_refl _) _).alloc (by simp) _)) (fun hHeld => ?_)
          clear hK K
          try simp only [Act.put, List.setIfInBounds_toArray, List.set_cons_zero, List.set_cons_succ]
          have hO := of2 w14 1 3 2 4
          refine wpAnyH_ready (rs := [21]) (by as_aux_lemma => kernel_rfl) (by simp) ?_
          refine (AllReadyH.cons rfl (fun K hK => ?_) AllReadyH.nil)
          go_simp
          refine hK.out _ _ (HSF3.out _ hO.2.1) (fun hHeld => ?_)
          clear hK K
          try simp only [Act.put, List.setIfInBounds_toArray, List.set_cons_zero, List.set_cons_succ]
          generalize ((w14.alloc (.cells #[.int .i64 1, .int .i64 3] 3)).alloc (.cells #[.int .i64 2, .int .i64 4] 3)).alloc (.cells #[.slice (some ⟨w14.heap.size, 0, none⟩) 2 2, .slice (some ⟨w14.heap.size + 1, 0, none⟩) 2 2] 23) = w15 at hO hHeld ⊢
          obtain ⟨hg, hb, hz⟩ := hO
          replace HB := Lib.hid (HB.out.trans (hb.mono HB.out.size))
          replace HL := Lib.hid (HL.out.below hb)
          replace HV := Lib.hid (HV.out.on hb)
          have GN := Lib.hid hg.new_lt
          clear hg hb hz HSF3
          generalize w14.heap.size + 1 + 1 = gn at GN ⊢
          refine wpAnyH_ready (rs := [22]) (by as_aux_lemma => kernel_rfl) (by simp) ?_
          refine (AllReadyH.cons rfl (fun K hK => ?_) AllReadyH.nil)
          go_simp
          go_at_call 54
          refine (HOF.out _ _ _ _).mono ?_
          rintro e w16 ⟨rfl, hb⟩
          replace HB := Lib.hid (HB.out.trans (hb.mono HB.out.size))
          replace HL := Lib.hid (HL.out.below hb)
          replace HV := Lib.hid (HV.out.on hb)
          replace GN := Lib.hid (GN.out.on hb)
          clear hb
          refine hK.out _ _ ⟨HL.out.c0 2 rfl, HL.out.c1 2 rfl, HL.out.c0 1 rfl, HL.out.c1 1 rfl, HL.out.c0 0 rfl, HL.out.c1 0 rfl⟩ (fun hHeld => ?_)
          clear hK K
          try simp only [Act.put, List.setIfInBounds_toArray, List.set_cons_zero, List.set_cons_succ]
          refine wpAnyH_ready (rs := [23]) (by as_aux_lemma => kernel_rfl) (by simp) ?_
          refine (AllReadyH.cons rfl (fun K hK => ?_) AllReadyH.nil)
          go_simp
          go_at_call 59
          have his := is_any (.slice Aw7 2 cw7) (.slice (some ⟨gn, 0, none⟩) 2 2) p 2 (fun _ => 2) _ (M2 1 3 2 4) _ (by omega) (fun _ _ => by omega) (HL.out 0 _ rfl).2.1 GN.out
          rw [show gridB 2 (fun _ => 2) (fun i j => M2 1 2 3 4 j i) (M2 1 3 2 4) = true by have := HP.out; subst this; exact nam_turn] at his
          refine his.mono ?_
          rintro e w17 ⟨rfl, hb⟩
          clear his
          clear GN
          replace HB := Lib.hid (HB.out.trans (hb.mono HB.out.size))
          replace HL := Lib.hid (HL.out.below hb)
          replace HV := Lib.hid (HV.out.on hb)
          clear hb
          refine hK.out _ _ ⟨HL.out.c0 2 rfl, HL.out.c1 2 rfl, HL.out.c0 1 rfl, HL.out.c1 1 rfl, HL.out.c0 0 rfl, HL.out.c1 0 rfl⟩ (fun hHeld => ?_)
          clear hK K
          try simp only [Act.put, List.setIfInBounds_toArray, List.set_cons_zero, List.set_cons_succ]
          refine takeH (i := 24) (v := (.bool true)) rfl rfl (by as_aux_lemma => kernel_rfl) (by as_aux_lemma => kernel_rfl) (by as_aux_lemma => kernel_rfl) (fun _ _ _ h => h) (by rfl) (fun W hW => by (skip); go_simp) (by assumption) ?_
          simp only [List.setIfInBounds_toArray, List.set_cons_zero, List.set_cons_succ]
          refine takeH (i := 25) (v := (.bool true)) rfl rfl (by as_aux_lemma => kernel_rfl) (by as_aux_lemma => kernel_rfl) (by as_aux_lemma => kernel_rfl) (fun _ _ _ h => h) (by rfl) (fun W hW => by (skip); go_simp) (by assumption) ?_
          simp only [List.setIfInBounds_toArray, List.set_cons_zero, List.set_cons_succ]
          refine takeH (i := 26) (v := (.int .i64 0)) rfl rfl (by as_aux_lemma => kernel_rfl) (by as_aux_lemma => kernel_rfl) (by as_aux_lemma => kernel_rfl) (fun _ _ _ h => h) (by rfl) (fun W hW => by (skip); go_simp) (by assumption) ?_
          simp only [List.setIfInBounds_toArray, List.set_cons_zero, List.set_cons_succ]
          refine takeH (i := 27) (v := (.bool true)) rfl rfl (by as_aux_lemma => kernel_rfl) (by as_aux_lemma => kernel_rfl) (by as_aux_lemma => kernel_rfl) (fun _ _ _ h => h) (by rfl) (fun W hW => by (skip); go_simp) (by assumption) ?_
          simp only [List.setIfInBounds_toArray, List.set_cons_zero, List.set_cons_succ]
          refine takeH (i := 28) (v := (.bool true)) rfl rfl (by as_aux_lemma => kernel_rfl) (by as_aux_lemma => kernel_rfl) (by as_aux_lemma => kernel_rfl) (fun _ _ _ h => h) (by rfl) (fun W hW => by (skip); go_simp) (by assumption) ?_
          simp only [List.setIfInBounds_toArray, List.set_cons_zero, List.set_cons_succ]
          refine takeH (i := 29) (v := (.bool true)) rfl rfl (by as_aux_lemma => kernel_rfl) (by as_aux_lemma => kernel_rfl) (by as_aux_lemma => kernel_rfl) (fun _ _ _ h => h) (by rfl) (fun W hW => by (skip); go_simp) (by assumption) ?_
          simp only [List.setIfInBounds_toArray, List.set_cons_zero, List.set_cons_succ]
          refine takeH (i := 30) (v := (.slice Av 2 cv)) rfl rfl (by as_aux_lemma => kernel_rfl) (by as_aux_lemma => kernel_rfl) (by as_aux_lemma => kernel_rfl) (fun _ _ _ h => h) (by rfl) (fun W hW => by (skip); go_simp) (by assumption) ?_
          simp only [List.setIfInBounds_toArray, List.set_cons_zero, List.set_cons_succ]
          have hr0 := row_new (W := w17) rfl 3 #[.int .i64 4, .int .i64 1]
          have hba : Below w17.heap.size w17 (w17.alloc (.cells #[.int .i64 4, .int .i64 1] 3)) := (Below.refl _ _).alloc (Nat.le_refl _) _
          replace HB := Lib.hid (HB.out.trans (hba.mono HB.out.size))
          replace HL := Lib.hid (HL.out.below hba)
          replace HV := Lib.hid (HV.out.on hba)
          clear hba
          refine wpAnyH_ready (rs := [31]) (by as_aux_lemma => kernel_rfl) (by simp) ?_
          refine (AllReadyH.cons rfl (fun K hK => ?_) AllReadyH.nil)
          go_simp
          refine hK.out _ _ ⟨HL.out.c0 2 rfl, HL.out.c1 2 rfl, HL.out.c0 1 rfl, HL.out.c1 1 rfl, HL.out.c0 0 rfl, HL.out.c1 0 rfl⟩ (fun hHeld => ?_)
          clear hK K
          try simp only [Act.put, List.setIfInBounds_toArray, List.set_cons_zero, List.set_cons_succ]
          generalize w17.alloc (.cells #[.int .i64 4, .int .i64 1] 3) = w18 at HL HB HV hr0 hHeld ⊢
          have HQ := Lib.hid (row_v2 (S := (· < w18.heap.size)) hr0 hr0.lt)
          clear hr0
          refine wpAnyH_ready (rs := [32]) (by as_aux_lemma => kernel_rfl) (by simp) ?_
          refine (AllReadyH.cons rfl (fun K hK => ?_) AllReadyH.nil)
          go_simp
          go_at_call 17
          refine (row_same _ _ 2 _ _ _ _ _ (by omega) HV.out HQ.out).mono ?_
          rintro e wq ⟨rfl, kq, rfl⟩
          rw [show eqB 2 (fun j => dotTo (fun i => (resV (V2 1 6 i) (p : Int).toNat : Nat)) (M2 1 2 3 4) j 2 % (p : Int)) (V2 4 1) = true by have := HP.out; subst this; exact nam_apply]
          have hbq := below_drewN (Below.refl w18.heap.size w18) kq
          replace HB := Lib.hid (HB.out.trans (hbq.mono HB.out.size))
          replace HL := Lib.hid (HL.out.below hbq)
          replace HV := Lib.hid (HV.out.on hbq)
          clear hbq HQ
          refine hK.out _ _ ⟨HL.out.c0 2 rfl, HL.out.c1 2 rfl, HL.out.c0 1 rfl, HL.out.c1 1 rfl, HL.out.c0 0 rfl, HL.out.c1 0 rfl⟩ (fun hHeld => ?_)
          clear hK K
          try simp only [Act.put, List.setIfInBounds_toArray, List.set_cons_zero, List.set_cons_succ]
          refine takeH (i := 33) (v := (.bool true)) rfl rfl (by as_aux_lemma => kernel_rfl) (by as_aux_lemma => kernel_rfl) (by as_aux_lemma => kernel_rfl) (fun _ _ _ h => h) (by rfl) (fun W hW => by (skip); go_simp) (by assumption) ?_
          simp only [List.setIfInBounds_toArray, List.set_cons_zero, List.set_cons_succ]
          refine takeH (i := 34) (v := (.bool true)) rfl rfl (by as_aux_lemma => kernel_rfl) (by as_aux_lemma => kernel_rfl) (by as_aux_lemma => kernel_rfl) (fun _ _ _ h => h) (by rfl) (fun W hW => by (skip); go_simp) (by assumption) ?_
          simp only [List.setIfInBounds_toArray, List.set_cons_zero, List.set_cons_succ]
          refine wpAnyH_done (by as_aux_lemma => kernel_rfl) ?_ _
          have HE := Lib.hid (show ML _ (p : Int) 2 [⟨Bb, some ⟨gb, 0, none⟩, 2, M2 0 1 1 0⟩, ⟨Ba, some ⟨ga, 0, none⟩, 2, M2 1 2 3 4⟩] from fun i x hx => HL.out (i + 3) x (by cases i with | zero => exact hx | succ i => cases i with | zero => exact hx | succ i => cases hx))
          have HBE := Lib.hid HB.out
          clear HL HB HV hHeld
          go_wp2_with fail
          go_meet
          exact ⟨rfl, HE.out, HBE.out⟩
        · go_simp
          refine hK.out _ _ (HSF3.out _ ((Below.refl _ _).alloc (Nat.le_refl _) _)) (fun hHeld => ?_)
          clear hK K
          try simp only [Act.put, List.setIfInBounds_toArray, List.set_cons_zero, List.set_cons_succ]
          refine wpAnyH_ready (rs := [19]) (by as_aux_lemma => kernel_rfl) (by simp) ?_
          refine (AllReadyH.cons rfl (fun K hK => ?_) AllReadyH.nil)
          go_simp
          refine hK.out _ _ (HSF3.out _ (((Below.refl _ _).alloc (Nat.le_refl _) _).alloc (by simp) _)) (fun hHeld => ?_)
          clear hK K
          try simp only [Act.put, List.setIfInBounds_toArray, List.set_cons_zero, List.set_cons_succ]
          have hO := of2r w14 1 3 2 4
          refine wpAnyH_ready (rs := [21]) (by as_aux_lemma => kernel_rfl) (by simp) ?_
          refine (AllReadyH.cons rfl (fun K hK => ?_) AllReadyH.nil)
          go_simp
          refine hK.out _ _ (HSF3.out _ hO.2.1) (fun hHeld => ?_)
          clear hK K
          try simp only [Act.put, List.setIfInBounds_toArray, List.set_cons_zero, List.set_cons_succ]
          generalize ((w14.alloc (.cells #[.int .i64 2, .int .i64 4] 3)).alloc (.cells #[.int .i64 1, .int .i64 3] 3)).alloc (.cells #[.slice (some ⟨w14.heap.size + 1, 0, none⟩) 2 2, .slice (some ⟨w14.heap.size, 0, none⟩) 2 2] 23) = w19 at hO hHeld ⊢
          obtain ⟨hg, hb, hz⟩ := hO
          replace HB := Lib.hid (HB.out.trans (hb.mono HB.out.size))
          replace HL := Lib.hid (HL.out.below hb)
          replace HV := Lib.hid (HV.out.on hb)
          have GN := Lib.hid hg.new_lt
          clear hg hb hz HSF3
          generalize w14.heap.size + 1 + 1 = gn at GN ⊢
          refine wpAnyH_ready (rs := [22]) (by as_aux_lemma => kernel_rfl) (by simp) ?_
          refine (AllReadyH.cons rfl (fun K hK => ?_) AllReadyH.nil)
          go_simp
          go_at_call 54
          refine (HOF.out _ _ _ _).mono ?_
          rintro e w20 ⟨rfl, hb⟩
          replace HB := Lib.hid (HB.out.trans (hb.mono HB.out.size))
          replace HL := Lib.hid (HL.out.below hb)
          replace HV := Lib.hid (HV.out.on hb)
          replace GN := Lib.hid (GN.out.on hb)
          clear hb
          refine hK.out _ _ ⟨HL.out.c0 2 rfl, HL.out.c1 2 rfl, HL.out.c0 1 rfl, HL.out.c1 1 rfl, HL.out.c0 0 rfl, HL.out.c1 0 rfl⟩ (fun hHeld => ?_)
          clear hK K
          try simp only [Act.put, List.setIfInBounds_toArray, List.set_cons_zero, List.set_cons_succ]
          refine wpAnyH_ready (rs := [23]) (by as_aux_lemma => kernel_rfl) (by simp) ?_
          refine (AllReadyH.cons rfl (fun K hK => ?_) AllReadyH.nil)
          go_simp
          go_at_call 59
          have his := is_any (.slice Aw7 2 cw7) (.slice (some ⟨gn, 0, none⟩) 2 2) p 2 (fun _ => 2) _ (M2 1 3 2 4) _ (by omega) (fun _ _ => by omega) (HL.out 0 _ rfl).2.1 GN.out
          rw [show gridB 2 (fun _ => 2) (fun i j => M2 1 2 3 4 j i) (M2 1 3 2 4) = true by have := HP.out; subst this; exact nam_turn] at his
          refine his.mono ?_
          rintro e w21 ⟨rfl, hb⟩
          clear his
          clear GN
          replace HB := Lib.hid (HB.out.trans (hb.mono HB.out.size))
          replace HL := Lib.hid (HL.out.below hb)
          replace HV := Lib.hid (HV.out.on hb)
          clear hb
          refine hK.out _ _ ⟨HL.out.c0 2 rfl, HL.out.c1 2 rfl, HL.out.c0 1 rfl, HL.out.c1 1 rfl, HL.out.c0 0 rfl, HL.out.c1 0 rfl⟩ (fun hHeld => ?_)
          clear hK K
          try simp only [Act.put, List.setIfInBounds_toArray, List.set_cons_zero, List.set_cons_succ]
          refine takeH (i := 24) (v := (.bool true)) rfl rfl (by as_aux_lemma => kernel_rfl) (by as_aux_lemma => kernel_rfl) (by as_aux_lemma => kernel_rfl) (fun _ _ _ h => h) (by rfl) (fun W hW => by (skip); go_simp) (by assumption) ?_
          simp only [List.setIfInBounds_toArray, List.set_cons_zero, List.set_cons_succ]
          refine takeH (i := 25) (v := (.bool true)) rfl rfl (by as_aux_lemma => kernel_rfl) (by as_aux_lemma => kernel_rfl) (by as_aux_lemma => kernel_rfl) (fun _ _ _ h => h) (by rfl) (fun W hW => by (skip); go_simp) (by assumption) ?_
          simp only [List.setIfInBounds_toArray, List.set_cons_zero, List.set_cons_succ]
          refine takeH (i := 26) (v := (.int .i64 0)) rfl rfl (by as_aux_lemma => kernel_rfl) (by as_aux_lemma => kernel_rfl) (by as_aux_lemma => kernel_rfl) (fun _ _ _ h => h) (by rfl) (fun W hW => by (skip); go_simp) (by assumption) ?_
          simp only [List.setIfInBounds_toArray, List.set_cons_zero, List.set_cons_succ]
          refine takeH (i := 27) (v := (.bool true)) rfl rfl (by as_aux_lemma => kernel_rfl) (by as_aux_lemma => kernel_rfl) (by as_aux_lemma => kernel_rfl) (fun _ _ _ h => h) (by rfl) (fun W hW => by (skip); go_simp) (by assumption) ?_
          simp only [List.setIfInBounds_toArray, List.set_cons_zero, List.set_cons_succ]
          refine takeH (i := 28) (v := (.bool true)) rfl rfl (by as_aux_lemma => kernel_rfl) (by as_aux_lemma => kernel_rfl) (by as_aux_lemma => kernel_rfl) (fun _ _ _ h => h) (by rfl) (fun W hW => by (skip); go_simp) (by assumption) ?_
          simp only [List.setIfInBounds_toArray, List.set_cons_zero, List.set_cons_succ]
          refine takeH (i := 29) (v := (.bool true)) rfl rfl (by as_aux_lemma => kernel_rfl) (by as_aux_lemma => kernel_rfl) (by as_aux_lemma => kernel_rfl) (fun _ _ _ h => h) (by rfl) (fun W hW => by (skip); go_simp) (by assumption) ?_
          simp only [List.setIfInBounds_toArray, List.set_cons_zero, List.set_cons_succ]
          refine takeH (i := 30) (v := (.slice Av 2 cv)) rfl rfl (by as_aux_lemma => kernel_rfl) (by as_aux_lemma => kernel_rfl) (by as_aux_lemma => kernel_rfl) (fun _ _ _ h => h) (by rfl) (fun W hW => by (skip); go_simp) (by assumption) ?_
          simp only [List.setIfInBounds_toArray, List.set_cons_zero, List.set_cons_succ]
          have hr0 := row_new (W := w21) rfl 3 #[.int .i64 4, .int .i64 1]
          have hba : Below w21.heap.size w21 (w21.alloc (.cells #[.int .i64 4, .int .i64 1] 3)) := (Below.refl _ _).alloc (Nat.le_refl _) _
          replace HB := Lib.hid (HB.out.trans (hba.mono HB.out.size))
          replace HL := Lib.hid (HL.out.below hba)
          replace HV := Lib.hid (HV.out.on hba)
          clear hba
          refine wpAnyH_ready (rs := [31]) (by as_aux_lemma => kernel_rfl) (by simp) ?_
          refine (AllReadyH.cons rfl (fun K hK => ?_) AllReadyH.nil)
          go_simp
          refine hK.out _ _ ⟨HL.out.c0 2 rfl, HL.out.c1 2 rfl, HL.out.c0 1 rfl, HL.out.c1 1 rfl, HL.out.c0 0 rfl, HL.out.c1 0 rfl⟩ (fun hHeld => ?_)
          clear hK K
          try simp only [Act.put, List.setIfInBounds_toArray, List.set_cons_zero, List.set_cons_succ]
          generalize w21.alloc (.cells #[.int .i64 4, .int .i64 1] 3) = w22 at HL HB HV hr0 hHeld ⊢
          have HQ := Lib.hid (row_v2 (S := (· < w22.heap.size)) hr0 hr0.lt)
          clear hr0
          refine wpAnyH_ready (rs := [32]) (by as_aux_lemma => kernel_rfl) (by simp) ?_
          refine (AllReadyH.cons rfl (fun K hK => ?_) AllReadyH.nil)
          go_simp
          go_at_call 17
          refine (row_same _ _ 2 _ _ _ _ _ (by omega) HV.out HQ.out).mono ?_
          rintro e wq ⟨rfl, kq, rfl⟩
          rw [show eqB 2 (fun j => dotTo (fun i => (resV (V2 1 6 i) (p : Int).toNat : Nat)) (M2 1 2 3 4) j 2 % (p : Int)) (V2 4 1) = true by have := HP.out; subst this; exact nam_apply]
          have hbq := below_drewN (Below.refl w22.heap.size w22) kq
          replace HB := Lib.hid (HB.out.trans (hbq.mono HB.out.size))
          replace HL := Lib.hid (HL.out.below hbq)
          replace HV := Lib.hid (HV.out.on hbq)
          clear hbq HQ
          refine hK.out _ _ ⟨HL.out.c0 2 rfl, HL.out.c1 2 rfl, HL.out.c0 1 rfl, HL.out.c1 1 rfl, HL.out.c0 0 rfl, HL.out.c1 0 rfl⟩ (fun hHeld => ?_)
          clear hK K
          try simp only [Act.put, List.setIfInBounds_toArray, List.set_cons_zero, List.set_cons_succ]
          refine takeH (i := 33) (v := (.bool true)) rfl rfl (by as_aux_lemma => kernel_rfl) (by as_aux_lemma => kernel_rfl) (by as_aux_lemma => kernel_rfl) (fun _ _ _ h => h) (by rfl) (fun W hW => by (skip); go_simp) (by assumption) ?_
          simp only [List.setIfInBounds_toArray, List.set_cons_zero, List.set_cons_succ]
          refine takeH (i := 34) (v := (.bool true)) rfl rfl (by as_aux_lemma => kernel_rfl) (by as_aux_lemma => kernel_rfl) (by as_aux_lemma => kernel_rfl) (fun _ _ _ h => h) (by rfl) (fun W hW => by (skip); go_simp) (by assumption) ?_
          simp only [List.setIfInBounds_toArray, List.set_cons_zero, List.set_cons_succ]
          refine wpAnyH_done (by as_aux_lemma => kernel_rfl) ?_ _
          have HE := Lib.hid (show ML _ (p : Int) 2 [⟨Bb, some ⟨gb, 0, none⟩, 2, M2 0 1 1 0⟩, ⟨Ba, some ⟨ga, 0, none⟩, 2, M2 1 2 3 4⟩] from fun i x hx => HL.out (i + 3) x (by cases i with | zero => exact hx | succ i => cases i with | zero => exact hx | succ i => cases hx))
          have HBE := Lib.hid HB.out
          clear HL HB HV hHeld
          go_wp2_with fail
          go_meet
          exact ⟨rfl, HE.out, HBE.out⟩
      · go_simp
        refine hK.out _ _ (HSF2.out _ ((Below.refl _ _).alloc (Nat.le_refl _) _)) (fun hHeld => ?_)
        clear hK K
        try simp only [Act.put, List.setIfInBounds_toArray, List.set_cons_zero, List.set_cons_succ]
        refine wpAnyH_ready (rs := [10]) (by as_aux_lemma => kernel_rfl) (by simp) ?_
        refine (AllReadyH.cons rfl (fun K hK => ?_) AllReadyH.nil)
        go_simp
        refine hK.out _ _ (HSF2.out _ (((Below.refl _ _).alloc (Nat.le_refl _) _).alloc (by simp) _)) (fun hHeld => ?_)
        clear hK K
        try simp only [Act.put, List.setIfInBounds_toArray, List.set_cons_zero, List.set_cons_succ]
        have hO := of2r w11 4 3 2 1
        refine wpAnyH_ready (rs := [12]) (by as_aux_lemma => kernel_rfl) (by simp) ?_
        refine (AllReadyH.cons rfl (fun K hK => ?_) AllReadyH.nil)
        go_simp
        refine hK.out _ _ (HSF2.out _ hO.2.1) (fun hHeld => ?_)
        clear hK K
        try simp only [Act.put, List.setIfInBounds_toArray, List.set_cons_zero, List.set_cons_succ]
        generalize ((w11.alloc (.cells #[.int .i64 2, .int .i64 1] 3)).alloc (.cells #[.int .i64 4, .int .i64 3] 3)).alloc (.cells #[.slice (some ⟨w11.heap.size + 1, 0, none⟩) 2 2, .slice (some ⟨w11.heap.size, 0, none⟩) 2 2] 23) = w23 at hO hHeld ⊢
        obtain ⟨hg, hb, hz⟩ := hO
        replace HB := Lib.hid (HB.out.trans (hb.mono HB.out.size))
        replace HL := Lib.hid (HL.out.below hb)
        replace HV := Lib.hid (HV.out.on hb)
        have GN := Lib.hid hg.new_lt
        clear hg hb hz HSF2
        generalize w11.heap.size + 1 + 1 = gn at GN ⊢
        refine wpAnyH_ready (rs := [13]) (by as_aux_lemma => kernel_rfl) (by simp) ?_
        refine (AllReadyH.cons rfl (fun K hK => ?_) AllReadyH.nil)
        go_simp
        go_at_call 54
        refine (HOF.out _ _ _ _).mono ?_
        rintro e w24 ⟨rfl, hb⟩
        replace HB := Lib.hid (HB.out.trans (hb.mono HB.out.size))
        replace HL := Lib.hid (HL.out.below hb)
        replace HV := Lib.hid (HV.out.on hb)
        replace GN := Lib.hid (GN.out.on hb)
        clear hb
        refine hK.out _ _ ⟨HL.out.c0 2 rfl, HL.out.c1 2 rfl, HL.out.c0 1 rfl, HL.out.c1 1 rfl, HL.out.c0 0 rfl, HL.out.c1 0 rfl⟩ (fun hHeld => ?_)
        clear hK K
        try simp only [Act.put, List.setIfInBounds_toArray, List.set_cons_zero, List.set_cons_succ]
        refine wpAnyH_ready (rs := [14]) (by as_aux_lemma => kernel_rfl) (by simp) ?_
        refine (AllReadyH.cons rfl (fun K hK => ?_) AllReadyH.nil)
        go_simp
        go_at_call 59
        have his := is_any (.slice Aw6 2 cw6) (.slice (some ⟨gn, 0, none⟩) 2 2) p 2 (fun _ => 2) _ (M2 4 3 2 1) _ (by omega) (fun _ _ => by omega) (HL.out 1 _ rfl).2.1 GN.out
        rw [show gridB 2 (fun _ => 2) (fun i => axpy (resV (-1) p : Nat) (p : Int) (fun _ => 0) (M2 1 2 3 4 i)) (M2 4 3 2 1) = true by have := HP.out; subst this; exact nam_scale] at his
        refine his.mono ?_
        rintro e w25 ⟨rfl, hb⟩
        clear his
        clear GN
        replace HB := Lib.hid (HB.out.trans (hb.mono HB.out.size))
        replace HL := Lib.hid (HL.out.below hb)
        replace HV := Lib.hid (HV.out.on hb)
        clear hb
        refine hK.out _ _ ⟨HL.out.c0 2 rfl, HL.out.c1 2 rfl, HL.out.c0 1 rfl, HL.out.c1 1 rfl, HL.out.c0 0 rfl, HL.out.c1 0 rfl⟩ (fun hHeld => ?_)
        clear hK K
        try simp only [Act.put, List.setIfInBounds_toArray, List.set_cons_zero, List.set_cons_succ]
        refine takeH (i := 15) (v := (.bool true)) rfl rfl (by as_aux_lemma => kernel_rfl) (by as_aux_lemma => kernel_rfl) (by as_aux_lemma => kernel_rfl) (fun _ _ _ h => h) (by rfl) (fun W hW => by (skip); go_simp) (by assumption) ?_
        simp only [List.setIfInBounds_toArray, List.set_cons_zero, List.set_cons_succ]
        refine takeH (i := 16) (v := (.bool true)) rfl rfl (by as_aux_lemma => kernel_rfl) (by as_aux_lemma => kernel_rfl) (by as_aux_lemma => kernel_rfl) (fun _ _ _ h => h) (by rfl) (fun W hW => by (skip); go_simp) (by assumption) ?_
        simp only [List.setIfInBounds_toArray, List.set_cons_zero, List.set_cons_succ]
        refine takeH (i := 17) (v := (.agg #[.int .i64 p, .slice Aw7 2 cw7])) rfl rfl (by as_aux_lemma => kernel_rfl) (by as_aux_lemma => kernel_rfl) (by as_aux_lemma => kernel_rfl) (fun _ _ _ h => h) (by rfl) (fun W hW => by (obtain ⟨q0, q1, q2, q3, q4, q5⟩ := hW); go_simp) (by assumption) ?_
        simp only [List.setIfInBounds_toArray, List.set_cons_zero, List.set_cons_succ]
        refine takeH (i := 18) (v := (.int .i64 0)) rfl rfl (by as_aux_lemma => kernel_rfl) (by as_aux_lemma => kernel_rfl) (by as_aux_lemma => kernel_rfl) (fun _ _ _ h => h) (by rfl) (fun W hW => by (skip); go_simp) (by assumption) ?_
        simp only [List.setIfInBounds_toArray, List.set_cons_zero, List.set_cons_succ]
        have HSF4 := Lib.hid (fun W (hb : Below w25.heap.size w25 W) => (show (fun W => W.cell? ⟨B1, 0, none⟩ = some (.int .i64 p) ∧ W.cell? ⟨B1, 1, none⟩ = some (.slice Aw5 2 cw5) ∧ W.cell? ⟨B2, 0, none⟩ = some (.int .i64 p) ∧ W.cell? ⟨B2, 1, none⟩ = some (.slice Aw6 2 cw6) ∧ W.cell? ⟨B3, 0, none⟩ = some (.int .i64 p) ∧ W.cell? ⟨B3, 1, none⟩ = some (.slice Aw7 2 cw7)) W from (fun (HL : Hid (ML W (p : Int) 2 _)) => ⟨HL.out.c0 2 rfl, HL.out.c1 2 rfl, HL.out.c0 1 rfl, HL.out.c1 1 rfl, HL.out.c0 0 rfl, HL.out.c1 0 rfl⟩) (Lib.hid (HL.out.below hb))))
        refine wpAnyH_ready (rs := [19, 20]) (by as_aux_lemma => kernel_rfl) (by simp) ?_
        refine (AllReadyH.cons rfl (fun K hK => ?_) (AllReadyH.cons rfl (fun K hK => ?_) AllReadyH.nil))
        · go_simp
          refine hK.out _ _ (HSF4.out _ ((Below.refl _ _).alloc (Nat.le_refl _) _)) (fun hHeld => ?_)
          clear hK K
          try simp only [Act.put, List.setIfInBounds_toArray, List.set_cons_zero, List.set_cons_succ]
          refine wpAnyH_ready (rs := [20]) (by as_aux_lemma => kernel_rfl) (by simp) ?_
          refine (AllReadyH.cons rfl (fun K hK => ?_) AllReadyH.nil)
          go_simp
          refine hK.out _ _ (HSF4.out _ (((Below.refl _ _).alloc (Nat.le_refl _) _).alloc (by simp) _)) (fun hHeld => ?_)
          clear hK K
          try simp only [Act.put, List.setIfInBounds_toArray, List.set_cons_zero, List.set_cons_succ]
          have hO := of2 w25 1 3 2 4
          refine wpAnyH_ready (rs := [21]) (by as_aux_lemma => kernel_rfl) (by simp) ?_
          refine (AllReadyH.cons rfl (fun K hK => ?_) AllReadyH.nil)
          go_simp
          refine hK.out _ _ (HSF4.out _ hO.2.1) (fun hHeld => ?_)
          clear hK K
          try simp only [Act.put, List.setIfInBounds_toArray, List.set_cons_zero, List.set_cons_succ]
          generalize ((w25.alloc (.cells #[.int .i64 1, .int .i64 3] 3)).alloc (.cells #[.int .i64 2, .int .i64 4] 3)).alloc (.cells #[.slice (some ⟨w25.heap.size, 0, none⟩) 2 2, .slice (some ⟨w25.heap.size + 1, 0, none⟩) 2 2] 23) = w26 at hO hHeld ⊢
          obtain ⟨hg, hb, hz⟩ := hO
          replace HB := Lib.hid (HB.out.trans (hb.mono HB.out.size))
          replace HL := Lib.hid (HL.out.below hb)
          replace HV := Lib.hid (HV.out.on hb)
          have GN := Lib.hid hg.new_lt
          clear hg hb hz HSF4
          generalize w25.heap.size + 1 + 1 = gn at GN ⊢
          refine wpAnyH_ready (rs := [22]) (by as_aux_lemma => kernel_rfl) (by simp) ?_
          refine (AllReadyH.cons rfl (fun K hK => ?_) AllReadyH.nil)
          go_simp
          go_at_call 54
          refine (HOF.out _ _ _ _).mono ?_
          rintro e w27 ⟨rfl, hb⟩
          replace HB := Lib.hid (HB.out.trans (hb.mono HB.out.size))
          replace HL := Lib.hid (HL.out.below hb)
          replace HV := Lib.hid (HV.out.on hb)
          replace GN := Lib.hid (GN.out.on hb)
          clear hb
          refine hK.out _ _ ⟨HL.out.c0 2 rfl, HL.out.c1 2 rfl, HL.out.c0 1 rfl, HL.out.c1 1 rfl, HL.out.c0 0 rfl, HL.out.c1 0 rfl⟩ (fun hHeld => ?_)
          clear hK K
          try simp only [Act.put, List.setIfInBounds_toArray, List.set_cons_zero, List.set_cons_succ]
          refine wpAnyH_ready (rs := [23]) (by as_aux_lemma => kernel_rfl) (by simp) ?_
          refine (AllReadyH.cons rfl (fun K hK => ?_) AllReadyH.nil)
          go_simp
          go_at_call 59
          have his := is_any (.slice Aw7 2 cw7) (.slice (some ⟨gn, 0, none⟩) 2 2) p 2 (fun _ => 2) _ (M2 1 3 2 4) _ (by omega) (fun _ _ => by omega) (HL.out 0 _ rfl).2.1 GN.out
          rw [show gridB 2 (fun _ => 2) (fun i j => M2 1 2 3 4 j i) (M2 1 3 2 4) = true by have := HP.out; subst this; exact nam_turn] at his
          refine his.mono ?_
          rintro e w28 ⟨rfl, hb⟩
          clear his
          clear GN
          replace HB := Lib.hid (HB.out.trans (hb.mono HB.out.size))
          replace HL := Lib.hid (HL.out.below hb)
          replace HV := Lib.hid (HV.out.on hb)
          clear hb
          refine hK.out _ _ ⟨HL.out.c0 2 rfl, HL.out.c1 2 rfl, HL.out.c0 1 rfl, HL.out.c1 1 rfl, HL.out.c0 0 rfl, HL.out.c1 0 rfl⟩ (fun hHeld => ?_)
          clear hK K
          try simp only [Act.put, List.setIfInBounds_toArray, List.set_cons_zero, List.set_cons_succ]
          refine takeH (i := 24) (v := (.bool true)) rfl rfl (by as_aux_lemma => kernel_rfl) (by as_aux_lemma => kernel_rfl) (by as_aux_lemma => kernel_rfl) (fun _ _ _ h => h) (by rfl) (fun W hW => by (skip); go_simp) (by assumption) ?_
          simp only [List.setIfInBounds_toArray, List.set_cons_zero, List.set_cons_succ]
          refine takeH (i := 25) (v := (.bool true)) rfl rfl (by as_aux_lemma => kernel_rfl) (by as_aux_lemma => kernel_rfl) (by as_aux_lemma => kernel_rfl) (fun _ _ _ h => h) (by rfl) (fun W hW => by (skip); go_simp) (by assumption) ?_
          simp only [List.setIfInBounds_toArray, List.set_cons_zero, List.set_cons_succ]
          refine takeH (i := 26) (v := (.int .i64 0)) rfl rfl (by as_aux_lemma => kernel_rfl) (by as_aux_lemma => kernel_rfl) (by as_aux_lemma => kernel_rfl) (fun _ _ _ h => h) (by rfl) (fun W hW => by (skip); go_simp) (by assumption) ?_
          simp only [List.setIfInBounds_toArray, List.set_cons_zero, List.set_cons_succ]
          refine takeH (i := 27) (v := (.bool true)) rfl rfl (by as_aux_lemma => kernel_rfl) (by as_aux_lemma => kernel_rfl) (by as_aux_lemma => kernel_rfl) (fun _ _ _ h => h) (by rfl) (fun W hW => by (skip); go_simp) (by assumption) ?_
          simp only [List.setIfInBounds_toArray, List.set_cons_zero, List.set_cons_succ]
          refine takeH (i := 28) (v := (.bool true)) rfl rfl (by as_aux_lemma => kernel_rfl) (by as_aux_lemma => kernel_rfl) (by as_aux_lemma => kernel_rfl) (fun _ _ _ h => h) (by rfl) (fun W hW => by (skip); go_simp) (by assumption) ?_
          simp only [List.setIfInBounds_toArray, List.set_cons_zero, List.set_cons_succ]
          refine takeH (i := 29) (v := (.bool true)) rfl rfl (by as_aux_lemma => kernel_rfl) (by as_aux_lemma => kernel_rfl) (by as_aux_lemma => kernel_rfl) (fun _ _ _ h => h) (by rfl) (fun W hW => by (skip); go_simp) (by assumption) ?_
          simp only [List.setIfInBounds_toArray, List.set_cons_zero, List.set_cons_succ]
          refine takeH (i := 30) (v := (.slice Av 2 cv)) rfl rfl (by as_aux_lemma => kernel_rfl) (by as_aux_lemma => kernel_rfl) (by as_aux_lemma => kernel_rfl) (fun _ _ _ h => h) (by rfl) (fun W hW => by (skip); go_simp) (by assumption) ?_
          simp only [List.setIfInBounds_toArray, List.set_cons_zero, List.set_cons_succ]
          have hr0 := row_new (W := w28) rfl 3 #[.int .i64 4, .int .i64 1]
          have hba : Below w28.heap.size w28 (w28.alloc (.cells #[.int .i64 4, .int .i64 1] 3)) := (Below.refl _ _).alloc (Nat.le_refl _) _
          replace HB := Lib.hid (HB.out.trans (hba.mono HB.out.size))
          replace HL := Lib.hid (HL.out.below hba)
          replace HV := Lib.hid (HV.out.on hba)
          clear hba
          refine wpAnyH_ready (rs := [31]) (by as_aux_lemma => kernel_rfl) (by simp) ?_
          refine (AllReadyH.cons rfl (fun K hK => ?_) AllReadyH.nil)
          go_simp
          refine hK.out _ _ ⟨HL.out.c0 2 rfl, HL.out.c1 2 rfl, HL.out.c0 1 rfl, HL.out.c1 1 rfl, HL.out.c0 0 rfl, HL.out.c1 0 rfl⟩ (fun hHeld => ?_)
          clear hK K
          try simp only [Act.put, List.setIfInBounds_toArray, List.set_cons_zero, List.set_cons_succ]
          generalize w28.alloc (.cells #[.int .i64 4, .int .i64 1] 3) = w29 at HL HB HV hr0 hHeld ⊢
          have HQ := Lib.hid (row_v2 (S := (· < w29.heap.size)) hr0 hr0.lt)
          clear hr0
          refine wpAnyH_ready (rs := [32]) (by as_aux_lemma => kernel_rfl) (by simp) ?_
          refine (AllReadyH.cons rfl (fun K hK => ?_) AllReadyH.nil)
          go_simp
          go_at_call 17
          refine (row_same _ _ 2 _ _ _ _ _ (by omega) HV.out HQ.out).mono ?_
          rintro e wq ⟨rfl, kq, rfl⟩
          rw [show eqB 2 (fun j => dotTo (fun i => (resV (V2 1 6 i) (p : Int).toNat : Nat)) (M2 1 2 3 4) j 2 % (p : Int)) (V2 4 1) = true by have := HP.out; subst this; exact nam_apply]
          have hbq := below_drewN (Below.refl w29.heap.size w29) kq
          replace HB := Lib.hid (HB.out.trans (hbq.mono HB.out.size))
          replace HL := Lib.hid (HL.out.below hbq)
          replace HV := Lib.hid (HV.out.on hbq)
          clear hbq HQ
          refine hK.out _ _ ⟨HL.out.c0 2 rfl, HL.out.c1 2 rfl, HL.out.c0 1 rfl, HL.out.c1 1 rfl, HL.out.c0 0 rfl, HL.out.c1 0 rfl⟩ (fun hHeld => ?_)
          clear hK K
          try simp only [Act.put, List.setIfInBounds_toArray, List.set_cons_zero, List.set_cons_succ]
          refine takeH (i := 33) (v := (.bool true)) rfl rfl (by as_aux_lemma => kernel_rfl) (by as_aux_lemma => kernel_rfl) (by as_aux_lemma => kernel_rfl) (fun _ _ _ h => h) (by rfl) (fun W hW => by (skip); go_simp) (by assumption) ?_
          simp only [List.setIfInBounds_toArray, List.set_cons_zero, List.set_cons_succ]
          refine takeH (i := 34) (v := (.bool true)) rfl rfl (by as_aux_lemma => kernel_rfl) (by as_aux_lemma => kernel_rfl) (by as_aux_lemma => kernel_rfl) (fun _ _ _ h => h) (by rfl) (fun W hW => by (skip); go_simp) (by assumption) ?_
          simp only [List.setIfInBounds_toArray, List.set_cons_zero, List.set_cons_succ]
          refine wpAnyH_done (by as_aux_lemma => kernel_rfl) ?_ _
          have HE := Lib.hid (show ML _ (p : Int) 2 [⟨Bb, some ⟨gb, 0, none⟩, 2, M2 0 1 1 0⟩, ⟨Ba, some ⟨ga, 0, none⟩, 2, M2 1 2 3 4⟩] from fun i x hx => HL.out (i + 3) x (by cases i with | zero => exact hx | succ i => cases i with | zero => exact hx | succ i => cases hx))
          have HBE := Lib.hid HB.out
          clear HL HB HV hHeld
          go_wp2_with fail
          go_meet
          exact ⟨rfl, HE.out, HBE.out⟩
        · go_simp
          refine hK.out _ _ (HSF4.out _ ((Below.refl _ _).alloc (Nat.le_refl _) _)) (fun hHeld => ?_)
          clear hK K
          try simp only [Act.put, List.setIfInBounds_toArray, List.set_cons_zero, List.set_cons_succ]
          refine wpAnyH_ready (rs := [19]) (by as_aux_lemma => kernel_rfl) (by simp) ?_
          refine (AllReadyH.cons rfl (fun K hK => ?_) AllReadyH.nil)
          go_simp
          refine hK.out _ _ (HSF4.out _ (((Below.refl _ _).alloc (Nat.le_refl _) _).alloc (by simp) _)) (fun hHeld => ?_)
          clear hK K
          try simp only [Act.put, List.setIfInBounds_toArray, List.set_cons_zero, List.set_cons_succ]
          have hO := of2r w25 1 3 2 4
          refine wpAnyH_ready (rs := [21]) (by as_aux_lemma => kernel_rfl) (by simp) ?_
          refine (AllReadyH.cons rfl (fun K hK => ?_) AllReadyH.nil)
          go_simp
          refine hK.out _ _ (HSF4.out _ hO.2.1) (fun hHeld => ?_)
          clear hK K
          try simp only [Act.put, List.setIfInBounds_toArray, List.set_cons_zero, List.set_cons_succ]
          generalize ((w25.alloc (.cells #[.int .i64 2, .int .i64 4] 3)).alloc (.cells #[.int .i64 1, .int .i64 3] 3)).alloc (.cells #[.slice (some ⟨w25.heap.size + 1, 0, none⟩) 2 2, .slice (some ⟨w25.heap.size, 0, none⟩) 2 2] 23) = w30 at hO hHeld ⊢
          obtain ⟨hg, hb, hz⟩ := hO
          replace HB := Lib.hid (HB.out.trans (hb.mono HB.out.size))
          replace HL := Lib.hid (HL.out.below hb)
          replace HV := Lib.hid (HV.out.on hb)
          have GN := Lib.hid hg.new_lt
          clear hg hb hz HSF4
          generalize w25.heap.size + 1 + 1 = gn at GN ⊢
          refine wpAnyH_ready (rs := [22]) (by as_aux_lemma => kernel_rfl) (by simp) ?_
          refine (AllReadyH.cons rfl (fun K hK => ?_) AllReadyH.nil)
          go_simp
          go_at_call 54
          refine (HOF.out _ _ _ _).mono ?_
          rintro e w31 ⟨rfl, hb⟩
          replace HB := Lib.hid (HB.out.trans (hb.mono HB.out.size))
          replace HL := Lib.hid (HL.out.below hb)
          replace HV := Lib.hid (HV.out.on hb)
          replace GN := Lib.hid (GN.out.on hb)
          clear hb
          refine hK.out _ _ ⟨HL.out.c0 2 rfl, HL.out.c1 2 rfl, HL.out.c0 1 rfl, HL.out.c1 1 rfl, HL.out.c0 0 rfl, HL.out.c1 0 rfl⟩ (fun hHeld => ?_)
          clear hK K
          try simp only [Act.put, List.setIfInBounds_toArray, List.set_cons_zero, List.set_cons_succ]
          refine wpAnyH_ready (rs := [23]) (by as_aux_lemma => kernel_rfl) (by simp) ?_
          refine (AllReadyH.cons rfl (fun K hK => ?_) AllReadyH.nil)
          go_simp
          go_at_call 59
          have his := is_any (.slice Aw7 2 cw7) (.slice (some ⟨gn, 0, none⟩) 2 2) p 2 (fun _ => 2) _ (M2 1 3 2 4) _ (by omega) (fun _ _ => by omega) (HL.out 0 _ rfl).2.1 GN.out
          rw [show gridB 2 (fun _ => 2) (fun i j => M2 1 2 3 4 j i) (M2 1 3 2 4) = true by have := HP.out; subst this; exact nam_turn] at his
          refine his.mono ?_
          rintro e w32 ⟨rfl, hb⟩
          clear his
          clear GN
          replace HB := Lib.hid (HB.out.trans (hb.mono HB.out.size))
          replace HL := Lib.hid (HL.out.below hb)
          replace HV := Lib.hid (HV.out.on hb)
          clear hb
          refine hK.out _ _ ⟨HL.out.c0 2 rfl, HL.out.c1 2 rfl, HL.out.c0 1 rfl, HL.out.c1 1 rfl, HL.out.c0 0 rfl, HL.out.c1 0 rfl⟩ (fun hHeld => ?_)
          clear hK K
          try simp only [Act.put, List.setIfInBounds_toArray, List.set_cons_zero, List.set_cons_succ]
          refine takeH (i := 24) (v := (.bool true)) rfl rfl (by as_aux_lemma => kernel_rfl) (by as_aux_lemma => kernel_rfl) (by as_aux_lemma => kernel_rfl) (fun _ _ _ h => h) (by rfl) (fun W hW => by (skip); go_simp) (by assumption) ?_
          simp only [List.setIfInBounds_toArray, List.set_cons_zero, List.set_cons_succ]
          refine takeH (i := 25) (v := (.bool true)) rfl rfl (by as_aux_lemma => kernel_rfl) (by as_aux_lemma => kernel_rfl) (by as_aux_lemma => kernel_rfl) (fun _ _ _ h => h) (by rfl) (fun W hW => by (skip); go_simp) (by assumption) ?_
          simp only [List.setIfInBounds_toArray, List.set_cons_zero, List.set_cons_succ]
          refine takeH (i := 26) (v := (.int .i64 0)) rfl rfl (by as_aux_lemma => kernel_rfl) (by as_aux_lemma => kernel_rfl) (by as_aux_lemma => kernel_rfl) (fun _ _ _ h => h) (by rfl) (fun W hW => by (skip); go_simp) (by assumption) ?_
          simp only [List.setIfInBounds_toArray, List.set_cons_zero, List.set_cons_succ]
          refine takeH (i := 27) (v := (.bool true)) rfl rfl (by as_aux_lemma => kernel_rfl) (by as_aux_lemma => kernel_rfl) (by as_aux_lemma => kernel_rfl) (fun _ _ _ h => h) (by rfl) (fun W hW => by (skip); go_simp) (by assumption) ?_
          simp only [List.setIfInBounds_toArray, List.set_cons_zero, List.set_cons_succ]
          refine takeH (i := 28) (v := (.bool true)) rfl rfl (by as_aux_lemma => kernel_rfl) (by as_aux_lemma => kernel_rfl) (by as_aux_lemma => kernel_rfl) (fun _ _ _ h => h) (by rfl) (fun W hW => by (skip); go_simp) (by assumption) ?_
          simp only [List.setIfInBounds_toArray, List.set_cons_zero, List.set_cons_succ]
          refine takeH (i := 29) (v := (.bool true)) rfl rfl (by as_aux_lemma => kernel_rfl) (by as_aux_lemma => kernel_rfl) (by as_aux_lemma => kernel_rfl) (fun _ _ _ h => h) (by rfl) (fun W hW => by (skip); go_simp) (by assumption) ?_
          simp only [List.setIfInBounds_toArray, List.set_cons_zero, List.set_cons_succ]
          refine takeH (i := 30) (v := (.slice Av 2 cv)) rfl rfl (by as_aux_lemma => kernel_rfl) (by as_aux_lemma => kernel_rfl) (by as_aux_lemma => kernel_rfl) (fun _ _ _ h => h) (by rfl) (fun W hW => by (skip); go_simp) (by assumption) ?_
          simp only [List.setIfInBounds_toArray, List.set_cons_zero, List.set_cons_succ]
          have hr0 := row_new (W := w32) rfl 3 #[.int .i64 4, .int .i64 1]
          have hba : Below w32.heap.size w32 (w32.alloc (.cells #[.int .i64 4, .int .i64 1] 3)) := (Below.refl _ _).alloc (Nat.le_refl _) _
          replace HB := Lib.hid (HB.out.trans (hba.mono HB.out.size))
          replace HL := Lib.hid (HL.out.below hba)
          replace HV := Lib.hid (HV.out.on hba)
          clear hba
          refine wpAnyH_ready (rs := [31]) (by as_aux_lemma => kernel_rfl) (by simp) ?_
          refine (AllReadyH.cons rfl (fun K hK => ?_) AllReadyH.nil)
          go_simp
          refine hK.out _ _ ⟨HL.out.c0 2 rfl, HL.out.c1 2 rfl, HL.out.c0 1 rfl, HL.out.c1 1 rfl, HL.out.c0 0 rfl, HL.out.c1 0 rfl⟩ (fun hHeld => ?_)
          clear hK K
          try simp only [Act.put, List.setIfInBounds_toArray, List.set_cons_zero, List.set_cons_succ]
          generalize w32.alloc (.cells #[.int .i64 4, .int .i64 1] 3) = w33 at HL HB HV hr0 hHeld ⊢
          have HQ := Lib.hid (row_v2 (S := (· < w33.heap.size)) hr0 hr0.lt)
          clear hr0
          refine wpAnyH_ready (rs := [32]) (by as_aux_lemma => kernel_rfl) (by simp) ?_
          refine (AllReadyH.cons rfl (fun K hK => ?_) AllReadyH.nil)
          go_simp
          go_at_call 17
          refine (row_same _ _ 2 _ _ _ _ _ (by omega) HV.out HQ.out).mono ?_
          rintro e wq ⟨rfl, kq, rfl⟩
          rw [show eqB 2 (fun j => dotTo (fun i => (resV (V2 1 6 i) (p : Int).toNat : Nat)) (M2 1 2 3 4) j 2 % (p : Int)) (V2 4 1) = true by have := HP.out; subst this; exact nam_apply]
          have hbq := below_drewN (Below.refl w33.heap.size w33) kq
          replace HB := Lib.hid (HB.out.trans (hbq.mono HB.out.size))
          replace HL := Lib.hid (HL.out.below hbq)
          replace HV := Lib.hid (HV.out.on hbq)
          clear hbq HQ
          refine hK.out _ _ ⟨HL.out.c0 2 rfl, HL.out.c1 2 rfl, HL.out.c0 1 rfl, HL.out.c1 1 rfl, HL.out.c0 0 rfl, HL.out.c1 0 rfl⟩ (fun hHeld => ?_)
          clear hK K
          try simp only [Act.put, List.setIfInBounds_toArray, List.set_cons_zero, List.set_cons_succ]
          refine takeH (i := 33) (v := (.bool true)) rfl rfl (by as_aux_lemma => kernel_rfl) (by as_aux_lemma => kernel_rfl) (by as_aux_lemma => kernel_rfl) (fun _ _ _ h => h) (by rfl) (fun W hW => by (skip); go_simp) (by assumption) ?_
          simp only [List.setIfInBounds_toArray, List.set_cons_zero, List.set_cons_succ]
          refine takeH (i := 34) (v := (.bool true)) rfl rfl (by as_aux_lemma => kernel_rfl) (by as_aux_lemma => kernel_rfl) (by as_aux_lemma => kernel_rfl) (fun _ _ _ h => h) (by rfl) (fun W hW => by (skip); go_simp) (by assumption) ?_
          simp only [List.setIfInBounds_toArray, List.set_cons_zero, List.set_cons_succ]
          refine wpAnyH_done (by as_aux_lemma => kernel_rfl) ?_ _
          have HE := Lib.hid (show ML _ (p : Int) 2 [⟨Bb, some ⟨gb, 0, none⟩, 2, M2 0 1 1 0⟩, ⟨Ba, some ⟨ga, 0, none⟩, 2, M2 1 2 3 4⟩] from fun i x hx => HL.out (i + 3) x (by cases i with | zero => exact hx | succ i => cases i with | zero => exact hx | succ i => cases hx))
          have HBE := Lib.hid HB.out
          clear HL HB HV hHeld
          go_wp2_with fail
          go_meet
          exact ⟨rfl, HE.out, HBE.out⟩
    · go_simp
      refine hK.out _ _ (HSF1.out _ ((Below.refl _ _).alloc (Nat.le_refl _) _)) (fun hHeld => ?_)
      clear hK K
      try simp only [Act.put, List.setIfInBounds_toArray, List.set_cons_zero, List.set_cons_succ]
      refine wpAnyH_ready (rs := [2]) (by as_aux_lemma => kernel_rfl) (by simp) ?_
      refine (AllReadyH.cons rfl (fun K hK => ?_) AllReadyH.nil)
      go_simp
      refine hK.out _ _ (HSF1.out _ (((Below.refl _ _).alloc (Nat.le_refl _) _).alloc (by simp) _)) (fun hHeld => ?_)
      clear hK K
      try simp only [Act.put, List.setIfInBounds_toArray, List.set_cons_zero, List.set_cons_succ]
      have hO := of2r W0 1 3 4 4
      refine wpAnyH_ready (rs := [4]) (by as_aux_lemma => kernel_rfl) (by simp) ?_
      refine (AllReadyH.cons rfl (fun K hK => ?_) AllReadyH.nil)
      go_simp
      refine hK.out _ _ (HSF1.out _ hO.2.1) (fun hHeld => ?_)
      clear hK K
      try simp only [Act.put, List.setIfInBounds_toArray, List.set_cons_zero, List.set_cons_succ]
      generalize ((W0.alloc (.cells #[.int .i64 4, .int .i64 4] 3)).alloc (.cells #[.int .i64 1, .int .i64 3] 3)).alloc (.cells #[.slice (some ⟨W0.heap.size + 1, 0, none⟩) 2 2, .slice (some ⟨W0.heap.size, 0, none⟩) 2 2] 23) = w34 at hO hHeld ⊢
      obtain ⟨hg, hb, hz⟩ := hO
      replace HB := Lib.hid (HB.out.trans (hb.mono HB.out.size))
      replace HL := Lib.hid (HL.out.below hb)
      replace HV := Lib.hid (HV.out.on hb)
      have GN := Lib.hid hg.new_lt
      clear hg hb hz HSF1
      generalize W0.heap.size + 1 + 1 = gn at GN ⊢
      refine wpAnyH_ready (rs := [5]) (by as_aux_lemma => kernel_rfl) (by simp) ?_
      refine (AllReadyH.cons rfl (fun K hK => ?_) AllReadyH.nil)
      go_simp
      go_at_call 54
      refine (HOF.out _ _ _ _).mono ?_
      rintro e w35 ⟨rfl, hb⟩
      replace HB := Lib.hid (HB.out.trans (hb.mono HB.out.size))
      replace HL := Lib.hid (HL.out.below hb)
      replace HV := Lib.hid (HV.out.on hb)
      replace GN := Lib.hid (GN.out.on hb)
      clear hb
      refine hK.out _ _ ⟨HL.out.c0 2 rfl, HL.out.c1 2 rfl, HL.out.c0 1 rfl, HL.out.c1 1 rfl, HL.out.c0 0 rfl, HL.out.c1 0 rfl⟩ (fun hHeld => ?_)
      clear hK K
      try simp only [Act.put, List.setIfInBounds_toArray, List.set_cons_zero, List.set_cons_succ]
      refine wpAnyH_ready (rs := [6]) (by as_aux_lemma => kernel_rfl) (by simp) ?_
      refine (AllReadyH.cons rfl (fun K hK => ?_) AllReadyH.nil)
      go_simp
      go_at_call 59
      have his := is_any (.slice Aw5 2 cw5) (.slice (some ⟨gn, 0, none⟩) 2 2) p 2 (fun _ => 2) _ (M2 1 3 4 4) _ (by omega) (fun _ _ => by omega) (HL.out 2 _ rfl).2.1 GN.out
      rw [show gridB 2 (fun _ => 2) (fun i => axpy 1 (p : Int) (M2 1 2 3 4 i) (M2 0 1 1 0 i)) (M2 1 3 4 4) = true by have := HP.out; subst this; exact nam_add] at his
      refine his.mono ?_
      rintro e w36 ⟨rfl, hb⟩
      clear his
      clear GN
      replace HB := Lib.hid (HB.out.trans (hb.mono HB.out.size))
      replace HL := Lib.hid (HL.out.below hb)
      replace HV := Lib.hid (HV.out.on hb)
      clear hb
      refine hK.out _ _ ⟨HL.out.c0 2 rfl, HL.out.c1 2 rfl, HL.out.c0 1 rfl, HL.out.c1 1 rfl, HL.out.c0 0 rfl, HL.out.c1 0 rfl⟩ (fun hHeld => ?_)
      clear hK K
      try simp only [Act.put, List.setIfInBounds_toArray, List.set_cons_zero, List.set_cons_succ]
      refine takeH (i := 7) (v := (.bool true)) rfl rfl (by as_aux_lemma => kernel_rfl) (by as_aux_lemma => kernel_rfl) (by as_aux_lemma => kernel_rfl) (fun _ _ _ h => h) (by rfl) (fun W hW => by (skip); go_simp) (by assumption) ?_
      simp only [List.setIfInBounds_toArray, List.set_cons_zero, List.set_cons_succ]
      refine takeH (i := 8) (v := (.agg #[.int .i64 p, .slice Aw6 2 cw6])) rfl rfl (by as_aux_lemma => kernel_rfl) (by as_aux_lemma => kernel_rfl) (by as_aux_lemma => kernel_rfl) (fun _ _ _ h => h) (by rfl) (fun W hW => by (obtain ⟨q0, q1, q2, q3, q4, q5⟩ := hW); go_simp) (by assumption) ?_
      simp only [List.setIfInBounds_toArray, List.set_cons_zero, List.set_cons_succ]
      refine takeH (i := 9) (v := (.int .i64 0)) rfl rfl (by as_aux_lemma => kernel_rfl) (by as_aux_lemma => kernel_rfl) (by as_aux_lemma => kernel_rfl) (fun _ _ _ h => h) (by rfl) (fun W hW => by (skip); go_simp) (by assumption) ?_
      simp only [List.setIfInBounds_toArray, List.set_cons_zero, List.set_cons_succ]
      have HSF5 := Lib.hid (fun W (hb : Below w36.heap.size w36 W) => (show (fun W => W.cell? ⟨B1, 0, none⟩ = some (.int .i64 p) ∧ W.cell? ⟨B1, 1, none⟩ = some (.slice Aw5 2 cw5) ∧ W.cell? ⟨B2, 0, none⟩ = some (.int .i64 p) ∧ W.cell? ⟨B2, 1, none⟩ = some (.slice Aw6 2 cw6) ∧ W.cell? ⟨B3, 0, none⟩ = some (.int .i64 p) ∧ W.cell? ⟨B3, 1, none⟩ = some (.slice Aw7 2 cw7)) W from (fun (HL : Hid (ML W (p : Int) 2 _)) => ⟨HL.out.c0 2 rfl, HL.out.c1 2 rfl, HL.out.c0 1 rfl, HL.out.c1 1 rfl, HL.out.c0 0 rfl, HL.out.c1 0 rfl⟩) (Lib.hid (HL.out.below hb))))
      refine wpAnyH_ready (rs := [10, 11]) (by as_aux_lemma => kernel_rfl) (by simp) ?_
      refine (AllReadyH.cons rfl (fun K hK => ?_) (AllReadyH.cons rfl (fun K hK => ?_) AllReadyH.nil))
      · go_simp
        refine hK.out _ _ (HSF5.out _ ((Below.refl _ _).alloc (Nat.le_refl _) _)) (fun hHeld => ?_)
        clear hK K
        try simp only [Act.put, List.setIfInBounds_toArray, List.set_cons_zero, List.set_cons_succ]
        refine wpAnyH_ready (rs := [11]) (by as_aux_lemma => kernel_rfl) (by simp) ?_
        refine (AllReadyH.cons rfl (fun K hK => ?_) AllReadyH.nil)
        go_simp
        refine hK.out _ _ (HSF5.out _ (((Below.refl _ _).alloc (Nat.le_refl _) _).alloc (by simp) _)) (fun hHeld => ?_)
        clear hK K
        try simp only [Act.put, List.setIfInBounds_toArray, List.set_cons_zero, List.set_cons_succ]
        have hO := of2 w36 4 3 2 1
        refine wpAnyH_ready (rs := [12]) (by as_aux_lemma => kernel_rfl) (by simp) ?_
        refine (AllReadyH.cons rfl (fun K hK => ?_) AllReadyH.nil)
        go_simp
        refine hK.out _ _ (HSF5.out _ hO.2.1) (fun hHeld => ?_)
        clear hK K
        try simp only [Act.put, List.setIfInBounds_toArray, List.set_cons_zero, List.set_cons_succ]
        generalize ((w36.alloc (.cells #[.int .i64 4, .int .i64 3] 3)).alloc (.cells #[.int .i64 2, .int .i64 1] 3)).alloc (.cells #[.slice (some ⟨w36.heap.size, 0, none⟩) 2 2, .slice (some ⟨w36.heap.size + 1, 0, none⟩) 2 2] 23) = w37 at hO hHeld ⊢
        obtain ⟨hg, hb, hz⟩ := hO
        replace HB := Lib.hid (HB.out.trans (hb.mono HB.out.size))
        replace HL := Lib.hid (HL.out.below hb)
        replace HV := Lib.hid (HV.out.on hb)
        have GN := Lib.hid hg.new_lt
        clear hg hb hz HSF5
        generalize w36.heap.size + 1 + 1 = gn at GN ⊢
        refine wpAnyH_ready (rs := [13]) (by as_aux_lemma => kernel_rfl) (by simp) ?_
        refine (AllReadyH.cons rfl (fun K hK => ?_) AllReadyH.nil)
        go_simp
        go_at_call 54
        refine (HOF.out _ _ _ _).mono ?_
        rintro e w38 ⟨rfl, hb⟩
        replace HB := Lib.hid (HB.out.trans (hb.mono HB.out.size))
        replace HL := Lib.hid (HL.out.below hb)
        replace HV := Lib.hid (HV.out.on hb)
        replace GN := Lib.hid (GN.out.on hb)
        clear hb
        refine hK.out _ _ ⟨HL.out.c0 2 rfl, HL.out.c1 2 rfl, HL.out.c0 1 rfl, HL.out.c1 1 rfl, HL.out.c0 0 rfl, HL.out.c1 0 rfl⟩ (fun hHeld => ?_)
        clear hK K
        try simp only [Act.put, List.setIfInBounds_toArray, List.set_cons_zero, List.set_cons_succ]
        refine wpAnyH_ready (rs := [14]) (by as_aux_lemma => kernel_rfl) (by simp) ?_
        refine (AllReadyH.cons rfl (fun K hK => ?_) AllReadyH.nil)
        go_simp
        go_at_call 59
        have his := is_any (.slice Aw6 2 cw6) (.slice (some ⟨gn, 0, none⟩) 2 2) p 2 (fun _ => 2) _ (M2 4 3 2 1) _ (by omega) (fun _ _ => by omega) (HL.out 1 _ rfl).2.1 GN.out
        rw [show gridB 2 (fun _ => 2) (fun i => axpy (resV (-1) p : Nat) (p : Int) (fun _ => 0) (M2 1 2 3 4 i)) (M2 4 3 2 1) = true by have := HP.out; subst this; exact nam_scale] at his
        refine his.mono ?_
        rintro e w39 ⟨rfl, hb⟩
        clear his
        clear GN
        replace HB := Lib.hid (HB.out.trans (hb.mono HB.out.size))
        replace HL := Lib.hid (HL.out.below hb)
        replace HV := Lib.hid (HV.out.on hb)
        clear hb
        refine hK.out _ _ ⟨HL.out.c0 2 rfl, HL.out.c1 2 rfl, HL.out.c0 1 rfl, HL.out.c1 1 rfl, HL.out.c0 0 rfl, HL.out.c1 0 rfl⟩ (fun hHeld => ?_)
        clear hK K
        try simp only [Act.put, List.setIfInBounds_toArray, List.set_cons_zero, List.set_cons_succ]
        refine takeH (i := 15) (v := (.bool true)) rfl rfl (by as_aux_lemma => kernel_rfl) (by as_aux_lemma => kernel_rfl) (by as_aux_lemma => kernel_rfl) (fun _ _ _ h => h) (by rfl) (fun W hW => by (skip); go_simp) (by assumption) ?_
        simp only [List.setIfInBounds_toArray, List.set_cons_zero, List.set_cons_succ]
        refine takeH (i := 16) (v := (.bool true)) rfl rfl (by as_aux_lemma => kernel_rfl) (by as_aux_lemma => kernel_rfl) (by as_aux_lemma => kernel_rfl) (fun _ _ _ h => h) (by rfl) (fun W hW => by (skip); go_simp) (by assumption) ?_
        simp only [List.setIfInBounds_toArray, List.set_cons_zero, List.set_cons_succ]
        refine takeH (i := 17) (v := (.agg #[.int .i64 p, .slice Aw7 2 cw7])) rfl rfl (by as_aux_lemma => kernel_rfl) (by as_aux_lemma => kernel_rfl) (by as_aux_lemma => kernel_rfl) (fun _ _ _ h => h) (by rfl) (fun W hW => by (obtain ⟨q0, q1, q2, q3, q4, q5⟩ := hW); go_simp) (by assumption) ?_
        simp only [List.setIfInBounds_toArray, List.set_cons_zero, List.set_cons_succ]
        refine takeH (i := 18) (v := (.int .i64 0)) rfl rfl (by as_aux_lemma => kernel_rfl) (by as_aux_lemma => kernel_rfl) (by as_aux_lemma => kernel_rfl) (fun _ _ _ h => h) (by rfl) (fun W hW => by (skip); go_simp) (by assumption) ?_
        simp only [List.setIfInBounds_toArray, List.set_cons_zero, List.set_cons_succ]
        have HSF6 := Lib.hid (fun W (hb : Below w39.heap.size w39 W) => (show (fun W => W.cell? ⟨B1, 0, none⟩ = some (.int .i64 p) ∧ W.cell? ⟨B1, 1, none⟩ = some (.slice Aw5 2 cw5) ∧ W.cell? ⟨B2, 0, none⟩ = some (.int .i64 p) ∧ W.cell? ⟨B2, 1, none⟩ = some (.slice Aw6 2 cw6) ∧ W.cell? ⟨B3, 0, none⟩ = some (.int .i64 p) ∧ W.cell? ⟨B3, 1, none⟩ = some (.slice Aw7 2 cw7)) W from (fun (HL : Hid (ML W (p : Int) 2 _)) => ⟨HL.out.c0 2 rfl, HL.out.c1 2 rfl, HL.out.c0 1 rfl, HL.out.c1 1 rfl, HL.out.c0 0 rfl, HL.out.c1 0 rfl⟩) (Lib.hid (HL.out.below hb))))
        refine wpAnyH_ready (rs := [19, 20]) (by as_aux_lemma => kernel_rfl) (by simp) ?_
        refine (AllReadyH.cons rfl (fun K hK => ?_) (AllReadyH.cons rfl (fun K hK => ?_) AllReadyH.nil))
        · go_simp
          refine hK.out _ _ (HSF6.out _ ((Below.refl _ _).alloc (Nat.le_refl _) _)) (fun hHeld => ?_)
          clear hK K
          try simp only [Act.put, List.setIfInBounds_toArray, List.set_cons_zero, List.set_cons_succ]
          refine wpAnyH_ready (rs := [20]) (by as_aux_lemma => kernel_rfl) (by simp) ?_
          refine (AllReadyH.cons rfl (fun K hK => ?_) AllReadyH.nil)
          go_simp
          refine hK.out _ _ (HSF6.out _ (((Below.refl _ _).alloc (Nat.le_refl _) _).alloc (by simp) _)) (fun hHeld => ?_)
          clear hK K
          try simp only [Act.put, List.setIfInBounds_toArray, List.set_cons_zero, List.set_cons_succ]
          have hO := of2 w39 1 3 2 4
          refine wpAnyH_ready (rs := [21]) (by as_aux_lemma => kernel_rfl) (by simp) ?_
          refine (AllReadyH.cons rfl (fun K hK => ?_) AllReadyH.nil)
          go_simp
          refine hK.out _ _ (HSF6.out _ hO.2.1) (fun hHeld => ?_)
          clear hK K
          try simp only [Act.put, List.setIfInBounds_toArray, List.set_cons_zero, List.set_cons_succ]
          generalize ((w39.alloc (.cells #[.int .i64 1, .int .i64 3] 3)).alloc (.cells #[.int .i64 2, .int .i64 4] 3)).alloc (.cells #[.slice (some ⟨w39.heap.size, 0, none⟩) 2 2, .slice (some ⟨w39.heap.size + 1, 0, none⟩) 2 2] 23) = w40 at hO hHeld ⊢
          obtain ⟨hg, hb, hz⟩ := hO
          replace HB := Lib.hid (HB.out.trans (hb.mono HB.out.size))
          replace HL := Lib.hid (HL.out.below hb)
          replace HV := Lib.hid (HV.out.on hb)
          have GN := Lib.hid hg.new_lt
          clear hg hb hz HSF6
          generalize w39.heap.size + 1 + 1 = gn at GN ⊢
          refine wpAnyH_ready (rs := [22]) (by as_aux_lemma => kernel_rfl) (by simp) ?_
          refine (AllReadyH.cons rfl (fun K hK => ?_) AllReadyH.nil)
          go_simp
          go_at_call 54
          refine (HOF.out _ _ _ _).mono ?_
          rintro e w41 ⟨rfl, hb⟩
          replace HB := Lib.hid (HB.out.trans (hb.mono HB.out.size))
          replace HL := Lib.hid (HL.out.below hb)
          replace HV := Lib.hid (HV.out.on hb)
          replace GN := Lib.hid (GN.out.on hb)
          clear hb
          refine hK.out _ _ ⟨HL.out.c0 2 rfl, HL.out.c1 2 rfl, HL.out.c0 1 rfl, HL.out.c1 1 rfl, HL.out.c0 0 rfl, HL.out.c1 0 rfl⟩ (fun hHeld => ?_)
          clear hK K
          try simp only [Act.put, List.setIfInBounds_toArray, List.set_cons_zero, List.set_cons_succ]
          refine wpAnyH_ready (rs := [23]) (by as_aux_lemma => kernel_rfl) (by simp) ?_
          refine (AllReadyH.cons rfl (fun K hK => ?_) AllReadyH.nil)
          go_simp
          go_at_call 59
          have his := is_any (.slice Aw7 2 cw7) (.slice (some ⟨gn, 0, none⟩) 2 2) p 2 (fun _ => 2) _ (M2 1 3 2 4) _ (by omega) (fun _ _ => by omega) (HL.out 0 _ rfl).2.1 GN.out
          rw [show gridB 2 (fun _ => 2) (fun i j => M2 1 2 3 4 j i) (M2 1 3 2 4) = true by have := HP.out; subst this; exact nam_turn] at his
          refine his.mono ?_
          rintro e w42 ⟨rfl, hb⟩
          clear his
          clear GN
          replace HB := Lib.hid (HB.out.trans (hb.mono HB.out.size))
          replace HL := Lib.hid (HL.out.below hb)
          replace HV := Lib.hid (HV.out.on hb)
          clear hb
          refine hK.out _ _ ⟨HL.out.c0 2 rfl, HL.out.c1 2 rfl, HL.out.c0 1 rfl, HL.out.c1 1 rfl, HL.out.c0 0 rfl, HL.out.c1 0 rfl⟩ (fun hHeld => ?_)
          clear hK K
          try simp only [Act.put, List.setIfInBounds_toArray, List.set_cons_zero, List.set_cons_succ]
          refine takeH (i := 24) (v := (.bool true)) rfl rfl (by as_aux_lemma => kernel_rfl) (by as_aux_lemma => kernel_rfl) (by as_aux_lemma => kernel_rfl) (fun _ _ _ h => h) (by rfl) (fun W hW => by (skip); go_simp) (by assumption) ?_
          simp only [List.setIfInBounds_toArray, List.set_cons_zero, List.set_cons_succ]
          refine takeH (i := 25) (v := (.bool true)) rfl rfl (by as_aux_lemma => kernel_rfl) (by as_aux_lemma => kernel_rfl) (by as_aux_lemma => kernel_rfl) (fun _ _ _ h => h) (by rfl) (fun W hW => by (skip); go_simp) (by assumption) ?_
          simp only [List.setIfInBounds_toArray, List.set_cons_zero, List.set_cons_succ]
          refine takeH (i := 26) (v := (.int .i64 0)) rfl rfl (by as_aux_lemma => kernel_rfl) (by as_aux_lemma => kernel_rfl) (by as_aux_lemma => kernel_rfl) (fun _ _ _ h => h) (by rfl) (fun W hW => by (skip); go_simp) (by assumption) ?_
          simp only [List.setIfInBounds_toArray, List.set_cons_zero, List.set_cons_succ]
          refine takeH (i := 27) (v := (.bool true)) rfl rfl (by as_aux_lemma => kernel_rfl) (by as_aux_lemma => kernel_rfl) (by as_aux_lemma => kernel_rfl) (fun _ _ _ h => h) (by rfl) (fun W hW => by (skip); go_simp) (by assumption) ?_
          simp only [List.setIfInBounds_toArray, List.set_cons_zero, List.set_cons_succ]
          refine takeH (i := 28) (v := (.bool true)) rfl rfl (by as_aux_lemma => kernel_rfl) (by as_aux_lemma => kernel_rfl) (by as_aux_lemma => kernel_rfl) (fun _ _ _ h => h) (by rfl) (fun W hW => by (skip); go_simp) (by assumption) ?_
          simp only [List.setIfInBounds_toArray, List.set_cons_zero, List.set_cons_succ]
          refine takeH (i := 29) (v := (.bool true)) rfl rfl (by as_aux_lemma => kernel_rfl) (by as_aux_lemma => kernel_rfl) (by as_aux_lemma => kernel_rfl) (fun _ _ _ h => h) (by rfl) (fun W hW => by (skip); go_simp) (by assumption) ?_
          simp only [List.setIfInBounds_toArray, List.set_cons_zero, List.set_cons_succ]
          refine takeH (i := 30) (v := (.slice Av 2 cv)) rfl rfl (by as_aux_lemma => kernel_rfl) (by as_aux_lemma => kernel_rfl) (by as_aux_lemma => kernel_rfl) (fun _ _ _ h => h) (by rfl) (fun W hW => by (skip); go_simp) (by assumption) ?_
          simp only [List.setIfInBounds_toArray, List.set_cons_zero, List.set_cons_succ]
          have hr0 := row_new (W := w42) rfl 3 #[.int .i64 4, .int .i64 1]
          have hba : Below w42.heap.size w42 (w42.alloc (.cells #[.int .i64 4, .int .i64 1] 3)) := (Below.refl _ _).alloc (Nat.le_refl _) _
          replace HB := Lib.hid (HB.out.trans (hba.mono HB.out.size))
          replace HL := Lib.hid (HL.out.below hba)
          replace HV := Lib.hid (HV.out.on hba)
          clear hba
          refine wpAnyH_ready (rs := [31]) (by as_aux_lemma => kernel_rfl) (by simp) ?_
          refine (AllReadyH.cons rfl (fun K hK => ?_) AllReadyH.nil)
          go_simp
          refine hK.out _ _ ⟨HL.out.c0 2 rfl, HL.out.c1 2 rfl, HL.out.c0 1 rfl, HL.out.c1 1 rfl, HL.out.c0 0 rfl, HL.out.c1 0 rfl⟩ (fun hHeld => ?_)
          clear hK K
          try simp only [Act.put, List.setIfInBounds_toArray, List.set_cons_zero, List.set_cons_succ]
          generalize w42.alloc (.cells #[.int .i64 4, .int .i64 1] 3) = w43 at HL HB HV hr0 hHeld ⊢
          have HQ := Lib.hid (row_v2 (S := (· < w43.heap.size)) hr0 hr0.lt)
          clear hr0
          refine wpAnyH_ready (rs := [32]) (by as_aux_lemma => kernel_rfl) (by simp) ?_
          refine (AllReadyH.cons rfl (fun K hK => ?_) AllReadyH.nil)
          go_simp
          go_at_call 17
          refine (row_same _ _ 2 _ _ _ _ _ (by omega) HV.out HQ.out).mono ?_
          rintro e wq ⟨rfl, kq, rfl⟩
          rw [show eqB 2 (fun j => dotTo (fun i => (resV (V2 1 6 i) (p : Int).toNat : Nat)) (M2 1 2 3 4) j 2 % (p : Int)) (V2 4 1) = true by have := HP.out; subst this; exact nam_apply]
          have hbq := below_drewN (Below.refl w43.heap.size w43) kq
          replace HB := Lib.hid (HB.out.trans (hbq.mono HB.out.size))
          replace HL := Lib.hid (HL.out.below hbq)
          replace HV := Lib.hid (HV.out.on hbq)
          clear hbq HQ
          refine hK.out _ _ ⟨HL.out.c0 2 rfl, HL.out.c1 2 rfl, HL.out.c0 1 rfl, HL.out.c1 1 rfl, HL.out.c0 0 rfl, HL.out.c1 0 rfl⟩ (fun hHeld => ?_)
          clear hK K
          try simp only [Act.put, List.setIfInBounds_toArray, List.set_cons_zero, List.set_cons_succ]
          refine takeH (i := 33) (v := (.bool true)) rfl rfl (by as_aux_lemma => kernel_rfl) (by as_aux_lemma => kernel_rfl) (by as_aux_lemma => kernel_rfl) (fun _ _ _ h => h) (by rfl) (fun W hW => by (skip); go_simp) (by assumption) ?_
          simp only [List.setIfInBounds_toArray, List.set_cons_zero, List.set_cons_succ]
          refine takeH (i := 34) (v := (.bool true)) rfl rfl (by as_aux_lemma => kernel_rfl) (by as_aux_lemma => kernel_rfl) (by as_aux_lemma => kernel_rfl) (fun _ _ _ h => h) (by rfl) (fun W hW => by (skip); go_simp) (by assumption) ?_
          simp only [List.setIfInBounds_toArray, List.set_cons_zero, List.set_cons_succ]
          refine wpAnyH_done (by as_aux_lemma => kernel_rfl) ?_ _
          have HE := Lib.hid (show ML _ (p : Int) 2 [⟨Bb, some ⟨gb, 0, none⟩, 2, M2 0 1 1 0⟩, ⟨Ba, some ⟨ga, 0, none⟩, 2, M2 1 2 3 4⟩] from fun i x hx => HL.out (i + 3) x (by cases i with | zero => exact hx | succ i => cases i with | zero => exact hx | succ i => cases hx))
          have HBE := Lib.hid HB.out
          clear HL HB HV hHeld
          go_wp2_with fail
          go_meet
          exact ⟨rfl, HE.out, HBE.out⟩
        · go_simp
          refine hK.out _ _ (HSF6.out _ ((Below.refl _ _).alloc (Nat.le_refl _) _)) (fun hHeld => ?_)
          clear hK K
          try simp only [Act.put, List.setIfInBounds_toArray, List.set_cons_zero, List.set_cons_succ]
          refine wpAnyH_ready (rs := [19]) (by as_aux_lemma => kernel_rfl) (by simp) ?_
          refine (AllReadyH.cons rfl (fun K hK => ?_) AllReadyH.nil)
          go_simp
          refine hK.out _ _ (HSF6.out _ (((Below.refl _ _).alloc (Nat.le_refl _) _).alloc (by simp) _)) (fun hHeld => ?_)
          clear hK K
          try simp only [Act.put, List.setIfInBounds_toArray, List.set_cons_zero, List.set_cons_succ]
          have hO := of2r w39 1 3 2 4
          refine wpAnyH_ready (rs := [21]) (by as_aux_lemma => kernel_rfl) (by simp) ?_
          refine (AllReadyH.cons rfl (fun K hK => ?_) AllReadyH.nil)
          go_simp
          refine hK.out _ _ (HSF6.out _ hO.2.1) (fun hHeld => ?_)
          clear hK K
          try simp only [Act.put, List.setIfInBounds_toArray, List.set_cons_zero, List.set_cons_succ]
          generalize ((w39.alloc (.cells #[.int .i64 2, .int .i64 4] 3)).alloc (.cells #[.int .i64 1, .int .i64 3] 3)).alloc (.cells #[.slice (some ⟨w39.heap.size + 1, 0, none⟩) 2 2, .slice (some ⟨w39.heap.size, 0, none⟩) 2 2] 23) = w44 at hO hHeld ⊢
          obtain ⟨hg, hb, hz⟩ := hO
          replace HB := Lib.hid (HB.out.trans (hb.mono HB.out.size))
          replace HL := Lib.hid (HL.out.below hb)
          replace HV := Lib.hid (HV.out.on hb)
          have GN := Lib.hid hg.new_lt
          clear hg hb hz HSF6
          generalize w39.heap.size + 1 + 1 = gn at GN ⊢
          refine wpAnyH_ready (rs := [22]) (by as_aux_lemma => kernel_rfl) (by simp) ?_
          refine (AllReadyH.cons rfl (fun K hK => ?_) AllReadyH.nil)
          go_simp
          go_at_call 54
          refine (HOF.out _ _ _ _).mono ?_
          rintro e w45 ⟨rfl, hb⟩
          replace HB := Lib.hid (HB.out.trans (hb.mono HB.out.size))
          replace HL := Lib.hid (HL.out.below hb)
          replace HV := Lib.hid (HV.out.on hb)
          replace GN := Lib.hid (GN.out.on hb)
          clear hb
          refine hK.out _ _ ⟨HL.out.c0 2 rfl, HL.out.c1 2 rfl, HL.out.c0 1 rfl, HL.out.c1 1 rfl, HL.out.c0 0 rfl, HL.out.c1 0 rfl⟩ (fun hHeld => ?_)
          clear hK K
          try simp only [Act.put, List.setIfInBounds_toArray, List.set_cons_zero, List.set_cons_succ]
          refine wpAnyH_ready (rs := [23]) (by as_aux_lemma => kernel_rfl) (by simp) ?_
          refine (AllReadyH.cons rfl (fun K hK => ?_) AllReadyH.nil)
          go_simp
          go_at_call 59
          have his := is_any (.slice Aw7 2 cw7) (.slice (some ⟨gn, 0, none⟩) 2 2) p 2 (fun _ => 2) _ (M2 1 3 2 4) _ (by omega) (fun _ _ => by omega) (HL.out 0 _ rfl).2.1 GN.out
          rw [show gridB 2 (fun _ => 2) (fun i j => M2 1 2 3 4 j i) (M2 1 3 2 4) = true by have := HP.out; subst this; exact nam_turn] at his
          refine his.mono ?_
          rintro e w46 ⟨rfl, hb⟩
          clear his
          clear GN
          replace HB := Lib.hid (HB.out.trans (hb.mono HB.out.size))
          replace HL := Lib.hid (HL.out.below hb)
          replace HV := Lib.hid (HV.out.on hb)
          clear hb
          refine hK.out _ _ ⟨HL.out.c0 2 rfl, HL.out.c1 2 rfl, HL.out.c0 1 rfl, HL.out.c1 1 rfl, HL.out.c0 0 rfl, HL.out.c1 0 rfl⟩ (fun hHeld => ?_)
          clear hK K
          try simp only [Act.put, List.setIfInBounds_toArray, List.set_cons_zero, List.set_cons_succ]
          refine takeH (i := 24) (v := (.bool true)) rfl rfl (by as_aux_lemma => kernel_rfl) (by as_aux_lemma => kernel_rfl) (by as_aux_lemma => kernel_rfl) (fun _ _ _ h => h) (by rfl) (fun W hW => by (skip); go_simp) (by assumption) ?_
          simp only [List.setIfInBounds_toArray, List.set_cons_zero, List.set_cons_succ]
          refine takeH (i := 25) (v := (.bool true)) rfl rfl (by as_aux_lemma => kernel_rfl) (by as_aux_lemma => kernel_rfl) (by as_aux_lemma => kernel_rfl) (fun _ _ _ h => h) (by rfl) (fun W hW => by (skip); go_simp) (by assumption) ?_
          simp only [List.setIfInBounds_toArray, List.set_cons_zero, List.set_cons_succ]
          refine takeH (i := 26) (v := (.int .i64 0)) rfl rfl (by as_aux_lemma => kernel_rfl) (by as_aux_lemma => kernel_rfl) (by as_aux_lemma => kernel_rfl) (fun _ _ _ h => h) (by rfl) (fun W hW => by (skip); go_simp) (by assumption) ?_
          simp only [List.setIfInBounds_toArray, List.set_cons_zero, List.set_cons_succ]
          refine takeH (i := 27) (v := (.bool true)) rfl rfl (by as_aux_lemma => kernel_rfl) (by as_aux_lemma => kernel_rfl) (by as_aux_lemma => kernel_rfl) (fun _ _ _ h => h) (by rfl) (fun W hW => by (skip); go_simp) (by assumption) ?_
          simp only [List.setIfInBounds_toArray, List.set_cons_zero, List.set_cons_succ]
          refine takeH (i := 28) (v := (.bool true)) rfl rfl (by as_aux_lemma => kernel_rfl) (by as_aux_lemma => kernel_rfl) (by as_aux_lemma => kernel_rfl) (fun _ _ _ h => h) (by rfl) (fun W hW => by (skip); go_simp) (by assumption) ?_
          simp only [List.setIfInBounds_toArray, List.set_cons_zero, List.set_cons_succ]
          refine takeH (i := 29) (v := (.bool true)) rfl rfl (by as_aux_lemma => kernel_rfl) (by as_aux_lemma => kernel_rfl) (by as_aux_lemma => kernel_rfl) (fun _ _ _ h => h) (by rfl) (fun W hW => by (skip); go_simp) (by assumption) ?_
          simp only [List.setIfInBounds_toArray, List.set_cons_zero, List.set_cons_succ]
          refine takeH (i := 30) (v := (.slice Av 2 cv)) rfl rfl (by as_aux_lemma => kernel_rfl) (by as_aux_lemma => kernel_rfl) (by as_aux_lemma => kernel_rfl) (fun _ _ _ h => h) (by rfl) (fun W hW => by (skip); go_simp) (by assumption) ?_
          simp only [List.setIfInBounds_toArray, List.set_cons_zero, List.set_cons_succ]
          have hr0 := row_new (W := w46) rfl 3 #[.int .i64 4, .int .i64 1]
          have hba : Below w46.heap.size w46 (w46.alloc (.cells #[.int .i64 4, .int .i64 1] 3)) := (Below.refl _ _).alloc (Nat.le_refl _) _
          replace HB := Lib.hid (HB.out.trans (hba.mono HB.out.size))
          replace HL := Lib.hid (HL.out.below hba)
          replace HV := Lib.hid (HV.out.on hba)
          clear hba
          refine wpAnyH_ready (rs := [31]) (by as_aux_lemma => kernel_rfl) (by simp) ?_
          refine (AllReadyH.cons rfl (fun K hK => ?_) AllReadyH.nil)
          go_simp
          refine hK.out _ _ ⟨HL.out.c0 2 rfl, HL.out.c1 2 rfl, HL.out.c0 1 rfl, HL.out.c1 1 rfl, HL.out.c0 0 rfl, HL.out.c1 0 rfl⟩ (fun hHeld => ?_)
          clear hK K
          try simp only [Act.put, List.setIfInBounds_toArray, List.set_cons_zero, List.set_cons_succ]
          generalize w46.alloc (.cells #[.int .i64 4, .int .i64 1] 3) = w47 at HL HB HV hr0 hHeld ⊢
          have HQ := Lib.hid (row_v2 (S := (· < w47.heap.size)) hr0 hr0.lt)
          clear hr0
          refine wpAnyH_ready (rs := [32]) (by as_aux_lemma => kernel_rfl) (by simp) ?_
          refine (AllReadyH.cons rfl (fun K hK => ?_) AllReadyH.nil)
          go_simp
          go_at_call 17
          refine (row_same _ _ 2 _ _ _ _ _ (by omega) HV.out HQ.out).mono ?_
          rintro e wq ⟨rfl, kq, rfl⟩
          rw [show eqB 2 (fun j => dotTo (fun i => (resV (V2 1 6 i) (p : Int).toNat : Nat)) (M2 1 2 3 4) j 2 % (p : Int)) (V2 4 1) = true by have := HP.out; subst this; exact nam_apply]
          have hbq := below_drewN (Below.refl w47.heap.size w47) kq
          replace HB := Lib.hid (HB.out.trans (hbq.mono HB.out.size))
          replace HL := Lib.hid (HL.out.below hbq)
          replace HV := Lib.hid (HV.out.on hbq)
          clear hbq HQ
          refine hK.out _ _ ⟨HL.out.c0 2 rfl, HL.out.c1 2 rfl, HL.out.c0 1 rfl, HL.out.c1 1 rfl, HL.out.c0 0 rfl, HL.out.c1 0 rfl⟩ (fun hHeld => ?_)
          clear hK K
          try simp only [Act.put, List.setIfInBounds_toArray, List.set_cons_zero, List.set_cons_succ]
          refine takeH (i := 33) (v := (.bool true)) rfl rfl (by as_aux_lemma => kernel_rfl) (by as_aux_lemma => kernel_rfl) (by as_aux_lemma => kernel_rfl) (fun _ _ _ h => h) (by rfl) (fun W hW => by (skip); go_simp) (by assumption) ?_
          simp only [List.setIfInBounds_toArray, List.set_cons_zero, List.set_cons_succ]
          refine takeH (i := 34) (v := (.bool true)) rfl rfl (by as_aux_lemma => kernel_rfl) (by as_aux_lemma => kernel_rfl) (by as_aux_lemma => kernel_rfl) (fun _ _ _ h => h) (by rfl) (fun W hW => by (skip); go_simp) (by assumption) ?_
          simp only [List.setIfInBounds_toArray, List.set_cons_zero, List.set_cons_succ]
          refine wpAnyH_done (by as_aux_lemma => kernel_rfl) ?_ _
          have HE := Lib.hid (show ML _ (p : Int) 2 [⟨Bb, some ⟨gb, 0, none⟩, 2, M2 0 1 1 0⟩, ⟨Ba, some ⟨ga, 0, none⟩, 2, M2 1 2 3 4⟩] from fun i x hx => HL.out (i + 3) x (by cases i with | zero => exact hx | succ i => cases i with | zero => exact hx | succ i => cases hx))
          have HBE := Lib.hid HB.out
          clear HL HB HV hHeld
          go_wp2_with fail
          go_meet
          exact ⟨rfl, HE.out, HBE.out⟩
      · go_simp
        refine hK.out _ _ (HSF5.out _ ((Below.refl _ _).alloc (Nat.le_refl _) _)) (fun hHeld => ?_)
        clear hK K
        try simp only [Act.put, List.setIfInBounds_toArray, List.set_cons_zero, List.set_cons_succ]
        refine wpAnyH_ready (rs := [10]) (by as_aux_lemma => kernel_rfl) (by simp) ?_
        refine (AllReadyH.cons rfl (fun K hK => ?_) AllReadyH.nil)
        go_simp
        refine hK.out _ _ (HSF5.out _ (((Below.refl _ _).alloc (Nat.le_refl _) _).alloc (by simp) _)) (fun hHeld => ?_)
        clear hK K
        try simp only [Act.put, List.setIfInBounds_toArray, List.set_cons_zero, List.set_cons_succ]
        have hO := of2r w36 4 3 2 1
        refine wpAnyH_ready (rs := [12]) (by as_aux_lemma => kernel_rfl) (by simp) ?_
        refine (AllReadyH.cons rfl (fun K hK => ?_) AllReadyH.nil)
        go_simp
        refine hK.out _ _ (HSF5.out _ hO.2.1) (fun hHeld => ?_)
        clear hK K
        try simp only [Act.put, List.setIfInBounds_toArray, List.set_cons_zero, List.set_cons_succ]
        generalize ((w36.alloc (.cells #[.int .i64 2, .int .i64 1] 3)).alloc (.cells #[.int .i64 4, .int .i64 3] 3)).alloc (.cells #[.slice (some ⟨w36.heap.size + 1, 0, none⟩) 2 2, .slice (some ⟨w36.heap.size, 0, none⟩) 2 2] 23) = w48 at hO hHeld ⊢
        obtain ⟨hg, hb, hz⟩ := hO
        replace HB := Lib.hid (HB.out.trans (hb.mono HB.out.size))
        replace HL := Lib.hid (HL.out.below hb)
        replace HV := Lib.hid (HV.out.on hb)
        have GN := Lib.hid hg.new_lt
        clear hg hb hz HSF5
        generalize w36.heap.size + 1 + 1 = gn at GN ⊢
        refine wpAnyH_ready (rs := [13]) (by as_aux_lemma => kernel_rfl) (by simp) ?_
        refine (AllReadyH.cons rfl (fun K hK => ?_) AllReadyH.nil)
        go_simp
        go_at_call 54
        refine (HOF.out _ _ _ _).mono ?_
        rintro e w49 ⟨rfl, hb⟩
        replace HB := Lib.hid (HB.out.trans (hb.mono HB.out.size))
        replace HL := Lib.hid (HL.out.below hb)
        replace HV := Lib.hid (HV.out.on hb)
        replace GN := Lib.hid (GN.out.on hb)
        clear hb
        refine hK.out _ _ ⟨HL.out.c0 2 rfl, HL.out.c1 2 rfl, HL.out.c0 1 rfl, HL.out.c1 1 rfl, HL.out.c0 0 rfl, HL.out.c1 0 rfl⟩ (fun hHeld => ?_)
        clear hK K
        try simp only [Act.put, List.setIfInBounds_toArray, List.set_cons_zero, List.set_cons_succ]
        refine wpAnyH_ready (rs := [14]) (by as_aux_lemma => kernel_rfl) (by simp) ?_
        refine (AllReadyH.cons rfl (fun K hK => ?_) AllReadyH.nil)
        go_simp
        go_at_call 59
        have his := is_any (.slice Aw6 2 cw6) (.slice (some ⟨gn, 0, none⟩) 2 2) p 2 (fun _ => 2) _ (M2 4 3 2 1) _ (by omega) (fun _ _ => by omega) (HL.out 1 _ rfl).2.1 GN.out
        rw [show gridB 2 (fun _ => 2) (fun i => axpy (resV (-1) p : Nat) (p : Int) (fun _ => 0) (M2 1 2 3 4 i)) (M2 4 3 2 1) = true by have := HP.out; subst this; exact nam_scale] at his
        refine his.mono ?_
        rintro e w50 ⟨rfl, hb⟩
        clear his
        clear GN
        replace HB := Lib.hid (HB.out.trans (hb.mono HB.out.size))
        replace HL := Lib.hid (HL.out.below hb)
        replace HV := Lib.hid (HV.out.on hb)
        clear hb
        refine hK.out _ _ ⟨HL.out.c0 2 rfl, HL.out.c1 2 rfl, HL.out.c0 1 rfl, HL.out.c1 1 rfl, HL.out.c0 0 rfl, HL.out.c1 0 rfl⟩ (fun hHeld => ?_)
        clear hK K
        try simp only [Act.put, List.setIfInBounds_toArray, List.set_cons_zero, List.set_cons_succ]
        refine takeH (i := 15) (v := (.bool true)) rfl rfl (by as_aux_lemma => kernel_rfl) (by as_aux_lemma => kernel_rfl) (by as_aux_lemma => kernel_rfl) (fun _ _ _ h => h) (by rfl) (fun W hW => by (skip); go_simp) (by assumption) ?_
        simp only [List.setIfInBounds_toArray, List.set_cons_zero, List.set_cons_succ]
        refine takeH (i := 16) (v := (.bool true)) rfl rfl (by as_aux_lemma => kernel_rfl) (by as_aux_lemma => kernel_rfl) (by as_aux_lemma => kernel_rfl) (fun _ _ _ h => h) (by rfl) (fun W hW => by (skip); go_simp) (by assumption) ?_
        simp only [List.setIfInBounds_toArray, List.set_cons_zero, List.set_cons_succ]
        refine takeH (i := 17) (v := (.agg #[.int .i64 p, .slice Aw7 2 cw7])) rfl rfl (by as_aux_lemma => kernel_rfl) (by as_aux_lemma => kernel_rfl) (by as_aux_lemma => kernel_rfl) (fun _ _ _ h => h) (by rfl) (fun W hW => by (obtain ⟨q0, q1, q2, q3, q4, q5⟩ := hW); go_simp) (by assumption) ?_
        simp only [List.setIfInBounds_toArray, List.set_cons_zero, List.set_cons_succ]
        refine takeH (i := 18) (v := (.int .i64 0)) rfl rfl (by as_aux_lemma => kernel_rfl) (by as_aux_lemma => kernel_rfl) (by as_aux_lemma => kernel_rfl) (fun _ _ _ h => h) (by rfl) (fun W hW => by (skip); go_simp) (by assumption) ?_
        simp only [List.setIfInBounds_toArray, List.set_cons_zero, List.set_cons_succ]
        have HSF7 := Lib.hid (fun W (hb : Below w50.heap.size w50 W) => (show (fun W => W.cell? ⟨B1, 0, none⟩ = some (.int .i64 p) ∧ W.cell? ⟨B1, 1, none⟩ = some (.slice Aw5 2 cw5) ∧ W.cell? ⟨B2, 0, none⟩ = some (.int .i64 p) ∧ W.cell? ⟨B2, 1, none⟩ = some (.slice Aw6 2 cw6) ∧ W.cell? ⟨B3, 0, none⟩ = some (.int .i64 p) ∧ W.cell? ⟨B3, 1, none⟩ = some (.slice Aw7 2 cw7)) W from (fun (HL : Hid (ML W (p : Int) 2 _)) => ⟨HL.out.c0 2 rfl, HL.out.c1 2 rfl, HL.out.c0 1 rfl, HL.out.c1 1 rfl, HL.out.c0 0 rfl, HL.out.c1 0 rfl⟩) (Lib.hid (HL.out.below hb))))
        refine wpAnyH_ready (rs := [19, 20]) (by as_aux_lemma => kernel_rfl) (by simp) ?_
        refine (AllReadyH.cons rfl (fun K hK => ?_) (AllReadyH.cons rfl (fun K hK => ?_) AllReadyH.nil))
        · go_simp
          refine hK.out _ _ (HSF7.out _ ((Below.refl _ _).alloc (Nat.le_refl _) _)) (fun hHeld => ?_)
          clear hK K
          try simp only [Act.put, List.setIfInBounds_toArray, List.set_cons_zero, List.set_cons_succ]
          refine wpAnyH_ready (rs := [20]) (by as_aux_lemma => kernel_rfl) (by simp) ?_
          refine (AllReadyH.cons rfl (fun K hK => ?_) AllReadyH.nil)
          go_simp
          refine hK.out _ _ (HSF7.out _ (((Below.refl _ _).alloc (Nat.le_refl _) _).alloc (by simp) _)) (fun hHeld => ?_)
          clear hK K
          try simp only [Act.put, List.setIfInBounds_toArray, List.set_cons_zero, List.set_cons_succ]
          have hO := of2 w50 1 3 2 4
          refine wpAnyH_ready (rs := [21]) (by as_aux_lemma => kernel_rfl) (by simp) ?_
          refine (AllReadyH.cons rfl (fun K hK => ?_) AllReadyH.nil)
          go_simp
          refine hK.out _ _ (HSF7.out _ hO.2.1) (fun hHeld => ?_)
          clear hK K
          try simp only [Act.put, List.setIfInBounds_toArray, List.set_cons_zero, List.set_cons_succ]
          generalize ((w50.alloc (.cells #[.int .i64 1, .int .i64 3] 3)).alloc (.cells #[.int .i64 2, .int .i64 4] 3)).alloc (.cells #[.slice (some ⟨w50.heap.size, 0, none⟩) 2 2, .slice (some ⟨w50.heap.size + 1, 0, none⟩) 2 2] 23) = w51 at hO hHeld ⊢
          obtain ⟨hg, hb, hz⟩ := hO
          replace HB := Lib.hid (HB.out.trans (hb.mono HB.out.size))
          replace HL := Lib.hid (HL.out.below hb)
          replace HV := Lib.hid (HV.out.on hb)
          have GN := Lib.hid hg.new_lt
          clear hg hb hz HSF7
          generalize w50.heap.size + 1 + 1 = gn at GN ⊢
          refine wpAnyH_ready (rs := [22]) (by as_aux_lemma => kernel_rfl) (by simp) ?_
          refine (AllReadyH.cons rfl (fun K hK => ?_) AllReadyH.nil)
          go_simp
          go_at_call 54
          refine (HOF.out _ _ _ _).mono ?_
          rintro e w52 ⟨rfl, hb⟩
          replace HB := Lib.hid (HB.out.trans (hb.mono HB.out.size))
          replace HL := Lib.hid (HL.out.below hb)
          replace HV := Lib.hid (HV.out.on hb)
          replace GN := Lib.hid (GN.out.on hb)
          clear hb
          refine hK.out _ _ ⟨HL.out.c0 2 rfl, HL.out.c1 2 rfl, HL.out.c0 1 rfl, HL.out.c1 1 rfl, HL.out.c0 0 rfl, HL.out.c1 0 rfl⟩ (fun hHeld => ?_)
          clear hK K
          try simp only [Act.put, List.setIfInBounds_toArray, List.set_cons_zero, List.set_cons_succ]
          refine wpAnyH_ready (rs := [23]) (by as_aux_lemma => kernel_rfl) (by simp) ?_
          refine (AllReadyH.cons rfl (fun K hK => ?_) AllReadyH.nil)
          go_simp
          go_at_call 59
          have his := is_any (.slice Aw7 2 cw7) (.slice (some ⟨gn, 0, none⟩) 2 2) p 2 (fun _ => 2) _ (M2 1 3 2 4) _ (by omega) (fun _ _ => by omega) (HL.out 0 _ rfl).2.1 GN.out
          rw [show gridB 2 (fun _ => 2) (fun i j => M2 1 2 3 4 j i) (M2 1 3 2 4) = true by have := HP.out; subst this; exact nam_turn] at his
          refine his.mono ?_
          rintro e w53 ⟨rfl, hb⟩
          clear his
          clear GN
          replace HB := Lib.hid (HB.out.trans (hb.mono HB.out.size))
          replace HL := Lib.hid (HL.out.below hb)
          replace HV := Lib.hid (HV.out.on hb)
          clear hb
          refine hK.out _ _ ⟨HL.out.c0 2 rfl, HL.out.c1 2 rfl, HL.out.c0 1 rfl, HL.out.c1 1 rfl, HL.out.c0 0 rfl, HL.out.c1 0 rfl⟩ (fun hHeld => ?_)
          clear hK K
          try simp only [Act.put, List.setIfInBounds_toArray, List.set_cons_zero, List.set_cons_succ]
          refine takeH (i := 24) (v := (.bool true)) rfl rfl (by as_aux_lemma => kernel_rfl) (by as_aux_lemma => kernel_rfl) (by as_aux_lemma => kernel_rfl) (fun _ _ _ h => h) (by rfl) (fun W hW => by (skip); go_simp) (by assumption) ?_
          simp only [List.setIfInBounds_toArray, List.set_cons_zero, List.set_cons_succ]
          refine takeH (i := 25) (v := (.bool true)) rfl rfl (by as_aux_lemma => kernel_rfl) (by as_aux_lemma => kernel_rfl) (by as_aux_lemma => kernel_rfl) (fun _ _ _ h => h) (by rfl) (fun W hW => by (skip); go_simp) (by assumption) ?_
          simp only [List.setIfInBounds_toArray, List.set_cons_zero, List.set_cons_succ]
          refine takeH (i := 26) (v := (.int .i64 0)) rfl rfl (by as_aux_lemma => kernel_rfl) (by as_aux_lemma => kernel_rfl) (by as_aux_lemma => kernel_rfl) (fun _ _ _ h => h) (by rfl) (fun W hW => by (skip); go_simp) (by assumption) ?_
          simp only [List.setIfInBounds_toArray, List.set_cons_zero, List.set_cons_succ]
          refine takeH (i := 27) (v := (.bool true)) rfl rfl (by as_aux_lemma => kernel_rfl) (by as_aux_lemma => kernel_rfl) (by as_aux_lemma => kernel_rfl) (fun _ _ _ h => h) (by rfl) (fun W hW => by (skip); go_simp) (by assumption) ?_
          simp only [List.setIfInBounds_toArray, List.set_cons_zero, List.set_cons_succ]
          refine takeH (i := 28) (v := (.bool true)) rfl rfl (by as_aux_lemma => kernel_rfl) (by as_aux_lemma => kernel_rfl) (by as_aux_lemma => kernel_rfl) (fun _ _ _ h => h) (by rfl) (fun W hW => by (skip); go_simp) (by assumption) ?_
          simp only [List.setIfInBounds_toArray, List.set_cons_zero, List.set_cons_succ]
          refine takeH (i := 29) (v := (.bool true)) rfl rfl (by as_aux_lemma => kernel_rfl) (by as_aux_lemma => kernel_rfl) (by as_aux_lemma => kernel_rfl) (fun _ _ _ h => h) (by rfl) (fun W hW => by (skip); go_simp) (by assumption) ?_
          simp only [List.setIfInBounds_toArray, List.set_cons_zero, List.set_cons_succ]
          refine takeH (i := 30) (v := (.slice Av 2 cv)) rfl rfl (by as_aux_lemma => kernel_rfl) (by as_aux_lemma => kernel_rfl) (by as_aux_lemma => kernel_rfl) (fun _ _ _ h => h) (by rfl) (fun W hW => by (skip); go_simp) (by assumption) ?_
          simp only [List.setIfInBounds_toArray, List.set_cons_zero, List.set_cons_succ]
          have hr0 := row_new (W := w53) rfl 3 #[.int .i64 4, .int .i64 1]
          have hba : Below w53.heap.size w53 (w53.alloc (.cells #[.int .i64 4, .int .i64 1] 3)) := (Below.refl _ _).alloc (Nat.le_refl _) _
          replace HB := Lib.hid (HB.out.trans (hba.mono HB.out.size))
          replace HL := Lib.hid (HL.out.below hba)
          replace HV := Lib.hid (HV.out.on hba)
          clear hba
          refine wpAnyH_ready (rs := [31]) (by as_aux_lemma => kernel_rfl) (by simp) ?_
          refine (AllReadyH.cons rfl (fun K hK => ?_) AllReadyH.nil)
          go_simp
          refine hK.out _ _ ⟨HL.out.c0 2 rfl, HL.out.c1 2 rfl, HL.out.c0 1 rfl, HL.out.c1 1 rfl, HL.out.c0 0 rfl, HL.out.c1 0 rfl⟩ (fun hHeld => ?_)
          clear hK K
          try simp only [Act.put, List.setIfInBounds_toArray, List.set_cons_zero, List.set_cons_succ]
          generalize w53.alloc (.cells #[.int .i64 4, .int .i64 1] 3) = w54 at HL HB HV hr0 hHeld ⊢
          have HQ := Lib.hid (row_v2 (S := (· < w54.heap.size)) hr0 hr0.lt)
          clear hr0
          refine wpAnyH_ready (rs := [32]) (by as_aux_lemma => kernel_rfl) (by simp) ?_
          refine (AllReadyH.cons rfl (fun K hK => ?_) AllReadyH.nil)
          go_simp
          go_at_call 17
          refine (row_same _ _ 2 _ _ _ _ _ (by omega) HV.out HQ.out).mono ?_
          rintro e wq ⟨rfl, kq, rfl⟩
          rw [show eqB 2 (fun j => dotTo (fun i => (resV (V2 1 6 i) (p : Int).toNat : Nat)) (M2 1 2 3 4) j 2 % (p : Int)) (V2 4 1) = true by have := HP.out; subst this; exact nam_apply]
          have hbq := below_drewN (Below.refl w54.heap.size w54) kq
          replace HB := Lib.hid (HB.out.trans (hbq.mono HB.out.size))
          replace HL := Lib.hid (HL.out.below hbq)
          replace HV := Lib.hid (HV.out.on hbq)
          clear hbq HQ
          refine hK.out _ _ ⟨HL.out.c0 2 rfl, HL.out.c1 2 rfl, HL.out.c0 1 rfl, HL.out.c1 1 rfl, HL.out.c0 0 rfl, HL.out.c1 0 rfl⟩ (fun hHeld => ?_)
          clear hK K
          try simp only [Act.put, List.setIfInBounds_toArray, List.set_cons_zero, List.set_cons_succ]
          refine takeH (i := 33) (v := (.bool true)) rfl rfl (by as_aux_lemma => kernel_rfl) (by as_aux_lemma => kernel_rfl) (by as_aux_lemma => kernel_rfl) (fun _ _ _ h => h) (by rfl) (fun W hW => by (skip); go_simp) (by assumption) ?_
          simp only [List.setIfInBounds_toArray, List.set_cons_zero, List.set_cons_succ]
          refine takeH (i := 34) (v := (.bool true)) rfl rfl (by as_aux_lemma => kernel_rfl) (by as_aux_lemma => kernel_rfl) (by as_aux_lemma => kernel_rfl) (fun _ _ _ h => h) (by rfl) (fun W hW => by (skip); go_simp) (by assumption) ?_
          simp only [List.setIfInBounds_toArray, List.set_cons_zero, List.set_cons_succ]
          refine wpAnyH_done (by as_aux_lemma => kernel_rfl) ?_ _
          have HE := Lib.hid (show ML _ (p : Int) 2 [⟨Bb, some ⟨gb, 0, none⟩, 2, M2 0 1 1 0⟩, ⟨Ba, some ⟨ga, 0, none⟩, 2, M2 1 2 3 4⟩] from fun i x hx => HL.out (i + 3) x (by cases i with | zero => exact hx | succ i => cases i with | zero => exact hx | succ i => cases hx))
          have HBE := Lib.hid HB.out
          clear HL HB HV hHeld
          go_wp2_with fail
          go_meet
          exact ⟨rfl, HE.out, HBE.out⟩
        · go_simp
          refine hK.out _ _ (HSF7.out _ ((Below.refl _ _).alloc (Nat.le_refl _) _)) (fun hHeld => ?_)
          clear hK K
          try simp only [Act.put, List.setIfInBounds_toArray, List.set_cons_zero, List.set_cons_succ]
          refine wpAnyH_ready (rs := [19]) (by as_aux_lemma => kernel_rfl) (by simp) ?_
          refine (AllReadyH.cons rfl (fun K hK => ?_) AllReadyH.nil)
          go_simp
          refine hK.out _ _ (HSF7.out _ (((Below.refl _ _).alloc (Nat.le_refl _) _).alloc (by simp) _)) (fun hHeld => ?_)
          clear hK K
          try simp only [Act.put, List.setIfInBounds_toArray, List.set_cons_zero, List.set_cons_succ]
          have hO := of2r w50 1 3 2 4
          refine wpAnyH_ready (rs := [21]) (by as_aux_lemma => kernel_rfl) (by simp) ?_
          refine (AllReadyH.cons rfl (fun K hK => ?_) AllReadyH.nil)
          go_simp
          refine hK.out _ _ (HSF7.out _ hO.2.1) (fun hHeld => ?_)
          clear hK K
          try simp only [Act.put, List.setIfInBounds_toArray, List.set_cons_zero, List.set_cons_succ]
          generalize ((w50.alloc (.cells #[.int .i64 2, .int .i64 4] 3)).alloc (.cells #[.int .i64 1, .int .i64 3] 3)).alloc (.cells #[.slice (some ⟨w50.heap.size + 1, 0, none⟩) 2 2, .slice (some ⟨w50.heap.size, 0, none⟩) 2 2] 23) = w55 at hO hHeld ⊢
          obtain ⟨hg, hb, hz⟩ := hO
          replace HB := Lib.hid (HB.out.trans (hb.mono HB.out.size))
          replace HL := Lib.hid (HL.out.below hb)
          replace HV := Lib.hid (HV.out.on hb)
          have GN := Lib.hid hg.new_lt
          clear hg hb hz HSF7
          generalize w50.heap.size + 1 + 1 = gn at GN ⊢
          refine wpAnyH_ready (rs := [22]) (by as_aux_lemma => kernel_rfl) (by simp) ?_
          refine (AllReadyH.cons rfl (fun K hK => ?_) AllReadyH.nil)
          go_simp
          go_at_call 54
          refine (HOF.out _ _ _ _).mono ?_
          rintro e w56 ⟨rfl, hb⟩
          replace HB := Lib.hid (HB.out.trans (hb.mono HB.out.size))
          replace HL := Lib.hid (HL.out.below hb)
          replace HV := Lib.hid (HV.out.on hb)
          replace GN := Lib.hid (GN.out.on hb)
          clear hb
          refine hK.out _ _ ⟨HL.out.c0 2 rfl, HL.out.c1 2 rfl, HL.out.c0 1 rfl, HL.out.c1 1 rfl, HL.out.c0 0 rfl, HL.out.c1 0 rfl⟩ (fun hHeld => ?_)
          clear hK K
          try simp only [Act.put, List.setIfInBounds_toArray, List.set_cons_zero, List.set_cons_succ]
          refine wpAnyH_ready (rs := [23]) (by as_aux_lemma => kernel_rfl) (by simp) ?_
          refine (AllReadyH.cons rfl (fun K hK => ?_) AllReadyH.nil)
          go_simp
          go_at_call 59
          have his := is_any (.slice Aw7 2 cw7) (.slice (some ⟨gn, 0, none⟩) 2 2) p 2 (fun _ => 2) _ (M2 1 3 2 4) _ (by omega) (fun _ _ => by omega) (HL.out 0 _ rfl).2.1 GN.out
          rw [show gridB 2 (fun _ => 2) (fun i j => M2 1 2 3 4 j i) (M2 1 3 2 4) = true by have := HP.out; subst this; exact nam_turn] at his
          refine his.mono ?_
          rintro e w57 ⟨rfl, hb⟩
          clear his
          clear GN
          replace HB := Lib.hid (HB.out.trans (hb.mono HB.out.size))
          replace HL := Lib.hid (HL.out.below hb)
          replace HV := Lib.hid (HV.out.on hb)
          clear hb
          refine hK.out _ _ ⟨HL.out.c0 2 rfl, HL.out.c1 2 rfl, HL.out.c0 1 rfl, HL.out.c1 1 rfl, HL.out.c0 0 rfl, HL.out.c1 0 rfl⟩ (fun hHeld => ?_)
          clear hK K
          try simp only [Act.put, List.setIfInBounds_toArray, List.set_cons_zero, List.set_cons_succ]
          refine takeH (i := 24) (v := (.bool true)) rfl rfl (by as_aux_lemma => kernel_rfl) (by as_aux_lemma => kernel_rfl) (by as_aux_lemma => kernel_rfl) (fun _ _ _ h => h) (by rfl) (fun W hW => by (skip); go_simp) (by assumption) ?_
          simp only [List.setIfInBounds_toArray, List.set_cons_zero, List.set_cons_succ]
          refine takeH (i := 25) (v := (.bool true)) rfl rfl (by as_aux_lemma => kernel_rfl) (by as_aux_lemma => kernel_rfl) (by as_aux_lemma => kernel_rfl) (fun _ _ _ h => h) (by rfl) (fun W hW => by (skip); go_simp) (by assumption) ?_
          simp only [List.setIfInBounds_toArray, List.set_cons_zero, List.set_cons_succ]
          refine takeH (i := 26) (v := (.int .i64 0)) rfl rfl (by as_aux_lemma => kernel_rfl) (by as_aux_lemma => kernel_rfl) (by as_aux_lemma => kernel_rfl) (fun _ _ _ h => h) (by rfl) (fun W hW => by (skip); go_simp) (by assumption) ?_
          simp only [List.setIfInBounds_toArray, List.set_cons_zero, List.set_cons_succ]
          refine takeH (i := 27) (v := (.bool true)) rfl rfl (by as_aux_lemma => kernel_rfl) (by as_aux_lemma => kernel_rfl) (by as_aux_lemma => kernel_rfl) (fun _ _ _ h => h) (by rfl) (fun W hW => by (skip); go_simp) (by assumption) ?_
          simp only [List.setIfInBounds_toArray, List.set_cons_zero, List.set_cons_succ]
          refine takeH (i := 28) (v := (.bool true)) rfl rfl (by as_aux_lemma => kernel_rfl) (by as_aux_lemma => kernel_rfl) (by as_aux_lemma => kernel_rfl) (fun _ _ _ h => h) (by rfl) (fun W hW => by (skip); go_simp) (by assumption) ?_
          simp only [List.setIfInBounds_toArray, List.set_cons_zero, List.set_cons_succ]
          refine takeH (i := 29) (v := (.bool true)) rfl rfl (by as_aux_lemma => kernel_rfl) (by as_aux_lemma => kernel_rfl) (by as_aux_lemma => kernel_rfl) (fun _ _ _ h => h) (by rfl) (fun W hW => by (skip); go_simp) (by assumption) ?_
          simp only [List.setIfInBounds_toArray, List.set_cons_zero, List.set_cons_succ]
          refine takeH (i := 30) (v := (.slice Av 2 cv)) rfl rfl (by as_aux_lemma => kernel_rfl) (by as_aux_lemma => kernel_rfl) (by as_aux_lemma => kernel_rfl) (fun _ _ _ h => h) (by rfl) (fun W hW => by (skip); go_simp) (by assumption) ?_
          simp only [List.setIfInBounds_toArray, List.set_cons_zero, List.set_cons_succ]
          have hr0 := row_new (W := w57) rfl 3 #[.int .i64 4, .int .i64 1]
          have hba : Below w57.heap.size w57 (w57.alloc (.cells #[.int .i64 4, .int .i64 1] 3)) := (Below.refl _ _).alloc (Nat.le_refl _) _
          replace HB := Lib.hid (HB.out.trans (hba.mono HB.out.size))
          replace HL := Lib.hid (HL.out.below hba)
          replace HV := Lib.hid (HV.out.on hba)
          clear hba
          refine wpAnyH_ready (rs := [31]) (by as_aux_lemma => kernel_rfl) (by simp) ?_
          refine (AllReadyH.cons rfl (fun K hK => ?_) AllReadyH.nil)
          go_simp
          refine hK.out _ _ ⟨HL.out.c0 2 rfl, HL.out.c1 2 rfl, HL.out.c0 1 rfl, HL.out.c1 1 rfl, HL.out.c0 0 rfl, HL.out.c1 0 rfl⟩ (fun hHeld => ?_)
          clear hK K
          try simp only [Act.put, List.setIfInBounds_toArray, List.set_cons_zero, List.set_cons_succ]
          generalize w57.alloc (.cells #[.int .i64 4, .int .i64 1] 3) = w58 at HL HB HV hr0 hHeld ⊢
          have HQ := Lib.hid (row_v2 (S := (· < w58.heap.size)) hr0 hr0.lt)
          clear hr0
          refine wpAnyH_ready (rs := [32]) (by as_aux_lemma => kernel_rfl) (by simp) ?_
          refine (AllReadyH.cons rfl (fun K hK => ?_) AllReadyH.nil)
          go_simp
          go_at_call 17
          refine (row_same _ _ 2 _ _ _ _ _ (by omega) HV.out HQ.out).mono ?_
          rintro e wq ⟨rfl, kq, rfl⟩
          rw [show eqB 2 (fun j => dotTo (fun i => (resV (V2 1 6 i) (p : Int).toNat : Nat)) (M2 1 2 3 4) j 2 % (p : Int)) (V2 4 1) = true by have := HP.out; subst this; exact nam_apply]
          have hbq := below_drewN (Below.refl w58.heap.size w58) kq
          replace HB := Lib.hid (HB.out.trans (hbq.mono HB.out.size))
          replace HL := Lib.hid (HL.out.below hbq)
          replace HV := Lib.hid (HV.out.on hbq)
          clear hbq HQ
          refine hK.out _ _ ⟨HL.out.c0 2 rfl, HL.out.c1 2 rfl, HL.out.c0 1 rfl, HL.out.c1 1 rfl, HL.out.c0 0 rfl, HL.out.c1 0 rfl⟩ (fun hHeld => ?_)
          clear hK K
          try simp only [Act.put, List.setIfInBounds_toArray, List.set_cons_zero, List.set_cons_succ]
          refine takeH (i := 33) (v := (.bool true)) rfl rfl (by as_aux_lemma => kernel_rfl) (by as_aux_lemma => kernel_rfl) (by as_aux_lemma => kernel_rfl) (fun _ _ _ h => h) (by rfl) (fun W hW => by (skip); go_simp) (by assumption) ?_
          simp only [List.setIfInBounds_toArray, List.set_cons_zero, List.set_cons_succ]
          refine takeH (i := 34) (v := (.bool true)) rfl rfl (by as_aux_lemma => kernel_rfl) (by as_aux_lemma => kernel_rfl) (by as_aux_lemma => kernel_rfl) (fun _ _ _ h => h) (by rfl) (fun W hW => by (skip); go_simp) (by assumption) ?_
          simp only [List.setIfInBounds_toArray, List.set_cons_zero, List.set_cons_succ]
          refine wpAnyH_done (by as_aux_lemma => kernel_rfl) ?_ _
          have HE := Lib.hid (show ML _ (p : Int) 2 [⟨Bb, some ⟨gb, 0, none⟩, 2, M2 0 1 1 0⟩, ⟨Ba, some ⟨ga, 0, none⟩, 2, M2 1 2 3 4⟩] from fun i x hx => HL.out (i + 3) x (by cases i with | zero => exact hx | succ i => cases i with | zero => exact hx | succ i => cases hx))
          have HBE := Lib.hid HB.out
          clear HL HB HV hHeld
          go_wp2_with fail
          go_meet
          exact ⟨rfl, HE.out, HBE.out⟩
  case rest =>
    obtain ⟨rfl, hml, hbw⟩ := hcut
    clear HL HB HV
    have HL := Lib.hid hml
    have HB := Lib.hid hbw
    clear hml hbw
    have k0 := HL.out.c0 1 rfl
    have k1 := HL.out.c1 1 rfl
    go_wp2_with fail
    clear k0 k1
    refine (traceL HS.out HL.out 1 rfl 0 (by have := HP.out; subst this; exact nam_trace)).mono ?_
    rintro e w59 ⟨rfl, hb⟩
    replace HL := Lib.hid (HL.out.below hb)
    replace HB := Lib.hid (HB.out.trans (hb.mono HB.out.size))
    clear hb
    have k0 := HL.out.c0 1 rfl
    have k1 := HL.out.c1 1 rfl
    go_wp2_with fail
    clear k0 k1
    refine (polyL HS.out HL.out 1 rfl).mono ?_
    rintro e w60 ⟨Ap, cp, rfl, hvp, hb⟩
    replace HL := Lib.hid (HL.out.below hb)
    replace HB := Lib.hid (HB.out.trans (hb.mono HB.out.size))
    have HVP := Lib.hid hvp.new_lt
    clear hvp hb
    have k0 := HL.out.c0 1 rfl
    have k1 := HL.out.c1 1 rfl
    go_wp2_with fail
    clear k0 k1
    have HDA := Lib.hid (show detV (p : Int) 2 (M2 1 2 3 4) ≠ 0 by have := HP.out; subst this; exact nam_det)
    refine (powL HS.out HL.out 1 rfl HDA.out 2 (by decide)).mono ?_
    rintro e w61 ⟨Aw61, cw61, rfl, hg, hf, hb⟩
    replace HL := Lib.hid (HL.out.cons hb hg hf)
    replace HB := Lib.hid (HB.out.trans (hb.mono HB.out.size))
    replace HVP := Lib.hid (HVP.out.on hb)
    have hba : Below w61.heap.size w61 (w61.alloc (.cells #[.int .i64 p, .slice Aw61 2 cw61] 58)) := (Below.refl _ _).alloc (Nat.le_refl _) _
    replace HB := Lib.hid (HB.out.trans (hba.mono HB.out.size))
    replace HVP := Lib.hid (HVP.out.on hba)
    clear hb hg hf hba
    have k0 := HL.out.c0 2 rfl
    have k1 := HL.out.c1 2 rfl
    go_wp2_with fail
    clear k0 k1
    refine (powL HS.out HL.out 2 rfl HDA.out 0 (by decide)).mono ?_
    rintro e w62 ⟨Aw62, cw62, rfl, hg, hf, hb⟩
    replace HL := Lib.hid (HL.out.cons hb hg hf)
    replace HB := Lib.hid (HB.out.trans (hb.mono HB.out.size))
    replace HVP := Lib.hid (HVP.out.on hb)
    have hba : Below w62.heap.size w62 (w62.alloc (.cells #[.int .i64 p, .slice Aw62 2 cw62] 58)) := (Below.refl _ _).alloc (Nat.le_refl _) _
    replace HB := Lib.hid (HB.out.trans (hba.mono HB.out.size))
    replace HVP := Lib.hid (HVP.out.on hba)
    clear hb hg hf hba
    have hO := of2 (w62.alloc (.cells #[.int .i64 p, .slice Aw62 2 cw62] 58)) 1 2 2 4
    rw [show (w62.alloc (.cells #[.int .i64 p, .slice Aw62 2 cw62] 58)).heap.size = w62.heap.size + 1 by simp] at hO
    go_wp2_with fail
    generalize (((w62.alloc (.cells #[.int .i64 p, .slice Aw62 2 cw62] 58)).alloc (.cells #[.int .i64 1, .int .i64 2] 3)).alloc (.cells #[.int .i64 2, .int .i64 4] 3)).alloc (.cells #[.slice (some ⟨w62.heap.size + 1, 0, none⟩) 2 2, .slice (some ⟨w62.heap.size + 1 + 1, 0, none⟩) 2 2] 23) = w63 at hO ⊢
    obtain ⟨hg, hb, hz⟩ := hO
    have hb : Below (w62.alloc (.cells #[.int .i64 p, .slice Aw62 2 cw62] 58)).heap.size (w62.alloc (.cells #[.int .i64 p, .slice Aw62 2 cw62] 58)) w63 := by rw [show (w62.alloc (.cells #[.int .i64 p, .slice Aw62 2 cw62] 58)).heap.size = w62.heap.size + 1 by simp]; exact hb
    replace HL := Lib.hid (HL.out.below hb)
    replace HB := Lib.hid (HB.out.trans (hb.mono HB.out.size))
    replace HVP := Lib.hid (HVP.out.on hb)
    have GS := Lib.hid hg.new_lt
    clear hg hb hz
    generalize w62.heap.size + 1 + 1 + 1 = gs at GS ⊢
    generalize w62.heap.size = B5 at HL ⊢
    generalize w61.heap.size = B4 at HL ⊢
    refine (HOF.out _ _ _ _).mono ?_
    rintro e w64 ⟨rfl, hb⟩
    replace HL := Lib.hid (HL.out.below hb)
    replace HB := Lib.hid (HB.out.trans (hb.mono HB.out.size))
    replace HVP := Lib.hid (HVP.out.on hb)
    replace GS := Lib.hid (GS.out.on hb)
    clear hb
    go_wp2_with fail
    refine ((Inv_any (.slice (some ⟨gs, 0, none⟩) 2 2) 2 (fun _ => 2) (M2 1 2 2 4) p w64 (by omega) (fun _ _ => by omega) GS.out 0 (HS.out.chkS (show InG (p : Int) 2 2 (M2 1 2 2 4) by rw [HP.out]; exact M2_in (by omega)))).mono fun e w' h => (h.2 rfl).1 (by rw [detV_aug HS.out.p1 HS.out.inv (show InG (p : Int) 2 2 (M2 1 2 2 4) by rw [HP.out]; exact M2_in (by omega))]; have := HP.out; subst this; exact nam_sing)).mono ?_
    rintro e w65 ⟨rfl, hb⟩
    clear GS
    replace HL := Lib.hid (HL.out.below hb)
    replace HB := Lib.hid (HB.out.trans (hb.mono HB.out.size))
    replace HVP := Lib.hid (HVP.out.on hb)
    clear hb
    have hba : Below w65.heap.size w65 (w65.alloc (.cells #[.int .i64 0, .slice none 0 0] 58)) := (Below.refl _ _).alloc (Nat.le_refl _) _
    have HR6 := Lib.hid (row_new (W := w65) rfl 58 #[.int .i64 0, .slice none 0 0])
    replace HL := Lib.hid (HL.out.below hba)
    replace HB := Lib.hid (HB.out.trans (hba.mono HB.out.size))
    replace HVP := Lib.hid (HVP.out.on hba)
    clear hba
    go_upto_region 14 with fail
    generalize w65.alloc (.cells #[.int .i64 0, .slice none 0 0] 58) = w14 at HL HB HVP HR6 ⊢
    generalize w65.heap.size = B6 at HR6 ⊢
    go_cut [22] from 137 to 174 (fun s wx => s = .bool true ∧ ML wx (p : Int) 2 [⟨Bb, some ⟨gb, 0, none⟩, 2, M2 0 1 1 0⟩, ⟨Ba, some ⟨ga, 0, none⟩, 2, M2 1 2 3 4⟩] ∧ Below w.heap.size w wx)
    case first =>
      have hbd : Below w14.heap.size w14 w14.drew := below_drew (Below.refl _ _)
      replace HL := Lib.hid (HL.out.below hbd)
      replace HB := Lib.hid (HB.out.trans (hbd.mono HB.out.size))
      replace HVP := Lib.hid (HVP.out.on hbd)
      replace HR6 := Lib.hid (HR6.out.below hbd HR6.out.lt)
      clear hbd
      refine wp_region_held_drew (S := (fun W => W.cell? ⟨B4, 0, none⟩ = some (.int .i64 p) ∧ W.cell? ⟨B4, 1, none⟩ = some (.slice Aw61 2 cw61) ∧ W.cell? ⟨B5, 0, none⟩ = some (.int .i64 p) ∧ W.cell? ⟨B5, 1, none⟩ = some (.slice Aw62 2 cw62) ∧ W.cell? ⟨B6, 0, none⟩ = some (.int .i64 0) ∧ W.cell? ⟨B6, 1, none⟩ = some (.slice none 0 0))) (by as_aux_lemma => kernel_rfl) ⟨HL.out.c0 1 rfl, HL.out.c1 1 rfl, HL.out.c0 0 rfl, HL.out.c1 0 rfl, HR6.out.cell (i := 0) rfl, HR6.out.cell (i := 1) rfl⟩ (fun hHeld => ?_)
      generalize w14.drew = W0 at HL HB HVP HR6 hHeld ⊢
      refine takeH (i := 0) (v := (.int .i64 0)) rfl rfl (by as_aux_lemma => kernel_rfl) (by as_aux_lemma => kernel_rfl) (by as_aux_lemma => kernel_rfl) (fun _ _ _ h => h) (by rfl) (fun W hW => by (skip); go_simp) (by assumption) ?_
      simp only [List.setIfInBounds_toArray, List.set_cons_zero, List.set_cons_succ]
      refine takeH (i := 1) (v := (.bool true)) rfl rfl (by as_aux_lemma => kernel_rfl) (by as_aux_lemma => kernel_rfl) (by as_aux_lemma => kernel_rfl) (fun _ _ _ h => h) (by rfl) (fun W hW => by (skip); go_simp) (by assumption) ?_
      simp only [List.setIfInBounds_toArray, List.set_cons_zero, List.set_cons_succ]
      refine takeH (i := 2) (v := (.bool true)) rfl rfl (by as_aux_lemma => kernel_rfl) (by as_aux_lemma => kernel_rfl) (by as_aux_lemma => kernel_rfl) (fun _ _ _ h => h) (by rfl) (fun W hW => by (skip); go_simp) (by assumption) ?_
      simp only [List.setIfInBounds_toArray, List.set_cons_zero, List.set_cons_succ]
      refine takeH (i := 3) (v := (.int .i64 0)) rfl rfl (by as_aux_lemma => kernel_rfl) (by as_aux_lemma => kernel_rfl) (by as_aux_lemma => kernel_rfl) (fun _ _ _ h => h) (by rfl) (fun W hW => by (skip); go_simp) (by assumption) ?_
      simp only [List.setIfInBounds_toArray, List.set_cons_zero, List.set_cons_succ]
      refine takeH (i := 4) (v := (.bool true)) rfl rfl (by as_aux_lemma => kernel_rfl) (by as_aux_lemma => kernel_rfl) (by as_aux_lemma => kernel_rfl) (fun _ _ _ h => h) (by rfl) (fun W hW => by (skip); go_simp) (by assumption) ?_
      simp only [List.setIfInBounds_toArray, List.set_cons_zero, List.set_cons_succ]
      refine takeH (i := 5) (v := (.bool true)) rfl rfl (by as_aux_lemma => kernel_rfl) (by as_aux_lemma => kernel_rfl) (by as_aux_lemma => kernel_rfl) (fun _ _ _ h => h) (by rfl) (fun W hW => by (skip); go_simp) (by assumption) ?_
      simp only [List.setIfInBounds_toArray, List.set_cons_zero, List.set_cons_succ]
      refine takeH (i := 6) (v := (.bool true)) rfl rfl (by as_aux_lemma => kernel_rfl) (by as_aux_lemma => kernel_rfl) (by as_aux_lemma => kernel_rfl) (fun _ _ _ h => h) (by rfl) (fun W hW => by (skip); go_simp) (by assumption) ?_
      simp only [List.setIfInBounds_toArray, List.set_cons_zero, List.set_cons_succ]
      refine takeH (i := 7) (v := (.int .i64 0)) rfl rfl (by as_aux_lemma => kernel_rfl) (by as_aux_lemma => kernel_rfl) (by as_aux_lemma => kernel_rfl) (fun _ _ _ h => h) (by rfl) (fun W hW => by (skip); go_simp) (by assumption) ?_
      simp only [List.setIfInBounds_toArray, List.set_cons_zero, List.set_cons_succ]
      refine takeH (i := 8) (v := (.bool true)) rfl rfl (by as_aux_lemma => kernel_rfl) (by as_aux_lemma => kernel_rfl) (by as_aux_lemma => kernel_rfl) (fun _ _ _ h => h) (by rfl) (fun W hW => by (skip); go_simp) (by assumption) ?_
      simp only [List.setIfInBounds_toArray, List.set_cons_zero, List.set_cons_succ]
      refine takeH (i := 9) (v := (.bool true)) rfl rfl (by as_aux_lemma => kernel_rfl) (by as_aux_lemma => kernel_rfl) (by as_aux_lemma => kernel_rfl) (fun _ _ _ h => h) (by rfl) (fun W hW => by (skip); go_simp) (by assumption) ?_
      simp only [List.setIfInBounds_toArray, List.set_cons_zero, List.set_cons_succ]
      refine takeH (i := 10) (v := (.bool true)) rfl rfl (by as_aux_lemma => kernel_rfl) (by as_aux_lemma => kernel_rfl) (by as_aux_lemma => kernel_rfl) (fun _ _ _ h => h) (by rfl) (fun W hW => by (skip); go_simp) (by assumption) ?_
      simp only [List.setIfInBounds_toArray, List.set_cons_zero, List.set_cons_succ]
      refine takeH (i := 11) (v := (.slice Ap 3 cp)) rfl rfl (by as_aux_lemma => kernel_rfl) (by as_aux_lemma => kernel_rfl) (by as_aux_lemma => kernel_rfl) (fun _ _ _ h => h) (by rfl) (fun W hW => by (skip); go_simp) (by assumption) ?_
      simp only [List.setIfInBounds_toArray, List.set_cons_zero, List.set_cons_succ]
      have hr0 := row_new (W := W0) rfl 3 #[.int .i64 3, .int .i64 0, .int .i64 1]
      have hba : Below W0.heap.size W0 (W0.alloc (.cells #[.int .i64 3, .int .i64 0, .int .i64 1] 3)) := (Below.refl _ _).alloc (Nat.le_refl _) _
      replace HL := Lib.hid (HL.out.below hba)
      replace HB := Lib.hid (HB.out.trans (hba.mono HB.out.size))
      replace HVP := Lib.hid (HVP.out.on hba)
      replace HR6 := Lib.hid (HR6.out.below hba HR6.out.lt)
      clear hba
      refine wpAnyH_ready (rs := [12]) (by as_aux_lemma => kernel_rfl) (by simp) ?_
      refine (AllReadyH.cons rfl (fun K hK => ?_) AllReadyH.nil)
      go_simp
      refine hK.out _ _ ⟨HL.out.c0 1 rfl, HL.out.c1 1 rfl, HL.out.c0 0 rfl, HL.out.c1 0 rfl, HR6.out.cell (i := 0) rfl, HR6.out.cell (i := 1) rfl⟩ (fun hHeld => ?_)
      clear hK K
      try simp only [Act.put, List.setIfInBounds_toArray, List.set_cons_zero, List.set_cons_succ]
      generalize W0.alloc (.cells #[.int .i64 3, .int .i64 0, .int .i64 1] 3) = W1 at HL HB HVP HR6 hr0 hHeld ⊢
      have HQ := Lib.hid (row_v3 (S := (· < W1.heap.size)) hr0 hr0.lt)
      clear hr0
      refine wpAnyH_ready (rs := [13]) (by as_aux_lemma => kernel_rfl) (by simp) ?_
      refine (AllReadyH.cons rfl (fun K hK => ?_) AllReadyH.nil)
      go_simp
      go_at_call 17
      refine (row_same _ _ 3 _ _ _ _ _ (by omega) HVP.out HQ.out).mono ?_
      rintro e wq ⟨rfl, kq, rfl⟩
      rw [show eqB 3 (polyF (p : Int) (M2 1 2 3 4) 2) (V3 3 0 1) = true by have := HP.out; subst this; exact nam_poly]
      have hbq := below_drewN (Below.refl W1.heap.size W1) kq
      replace HL := Lib.hid (HL.out.below hbq)
      replace HB := Lib.hid (HB.out.trans (hbq.mono HB.out.size))
      replace HR6 := Lib.hid (HR6.out.below hbq HR6.out.lt)
      clear hbq HQ HVP
      refine hK.out _ _ ⟨HL.out.c0 1 rfl, HL.out.c1 1 rfl, HL.out.c0 0 rfl, HL.out.c1 0 rfl, HR6.out.cell (i := 0) rfl, HR6.out.cell (i := 1) rfl⟩ (fun hHeld => ?_)
      clear hK K
      try simp only [Act.put, List.setIfInBounds_toArray, List.set_cons_zero, List.set_cons_succ]
      generalize W1.drewN kq = W2 at HL HB HR6 hHeld ⊢
      refine takeH (i := 14) (v := (.bool true)) rfl rfl (by as_aux_lemma => kernel_rfl) (by as_aux_lemma => kernel_rfl) (by as_aux_lemma => kernel_rfl) (fun _ _ _ h => h) (by rfl) (fun W hW => by (skip); go_simp) (by assumption) ?_
      simp only [List.setIfInBounds_toArray, List.set_cons_zero, List.set_cons_succ]
      refine takeH (i := 15) (v := (.bool true)) rfl rfl (by as_aux_lemma => kernel_rfl) (by as_aux_lemma => kernel_rfl) (by as_aux_lemma => kernel_rfl) (fun _ _ _ h => h) (by rfl) (fun W hW => by (skip); go_simp) (by assumption) ?_
      simp only [List.setIfInBounds_toArray, List.set_cons_zero, List.set_cons_succ]
      refine takeH (i := 16) (v := (.agg #[.int .i64 p, .slice Aw61 2 cw61])) rfl rfl (by as_aux_lemma => kernel_rfl) (by as_aux_lemma => kernel_rfl) (by as_aux_lemma => kernel_rfl) (fun _ _ _ h => h) (by rfl) (fun W hW => by (obtain ⟨q0, q1, q2, q3, q4, q5⟩ := hW); go_simp) (by assumption) ?_
      simp only [List.setIfInBounds_toArray, List.set_cons_zero, List.set_cons_succ]
      refine takeH (i := 17) (v := (.int .i64 0)) rfl rfl (by as_aux_lemma => kernel_rfl) (by as_aux_lemma => kernel_rfl) (by as_aux_lemma => kernel_rfl) (fun _ _ _ h => h) (by rfl) (fun W hW => by (skip); go_simp) (by assumption) ?_
      simp only [List.setIfInBounds_toArray, List.set_cons_zero, List.set_cons_succ]
      have HSF8 := Lib.hid (fun W (hb : Below W2.heap.size W2 W) => (show (fun W => W.cell? ⟨B4, 0, none⟩ = some (.int .i64 p) ∧ W.cell? ⟨B4, 1, none⟩ = some (.slice Aw61 2 cw61) ∧ W.cell? ⟨B5, 0, none⟩ = some (.int .i64 p) ∧ W.cell? ⟨B5, 1, none⟩ = some (.slice Aw62 2 cw62) ∧ W.cell? ⟨B6, 0, none⟩ = some (.int .i64 0) ∧ W.cell? ⟨B6, 1, none⟩ = some (.slice none 0 0)) W from (fun (HL : Hid (ML W (p : Int) 2 _)) (HR6 : Hid (Row W B6 58 #[.int .i64 0, .slice none 0 0])) => ⟨HL.out.c0 1 rfl, HL.out.c1 1 rfl, HL.out.c0 0 rfl, HL.out.c1 0 rfl, HR6.out.cell (i := 0) rfl, HR6.out.cell (i := 1) rfl⟩) (Lib.hid (HL.out.below hb)) (Lib.hid (HR6.out.below hb HR6.out.lt))))
      refine wpAnyH_ready (rs := [18, 19]) (by as_aux_lemma => kernel_rfl) (by simp) ?_
      refine (AllReadyH.cons rfl (fun K hK => ?_) (AllReadyH.cons rfl (fun K hK => ?_) AllReadyH.nil))
      · go_simp
        refine hK.out _ _ (HSF8.out _ ((Below.refl _ _).alloc (Nat.le_refl _) _)) (fun hHeld => ?_)
        clear hK K
        try simp only [Act.put, List.setIfInBounds_toArray, List.set_cons_zero, List.set_cons_succ]
        refine wpAnyH_ready (rs := [19]) (by as_aux_lemma => kernel_rfl) (by simp) ?_
        refine (AllReadyH.cons rfl (fun K hK => ?_) AllReadyH.nil)
        go_simp
        refine hK.out _ _ (HSF8.out _ (((Below.refl _ _).alloc (Nat.le_refl _) _).alloc (by simp) _)) (fun hHeld => ?_)
        clear hK K
        try simp only [Act.put, List.setIfInBounds_toArray, List.set_cons_zero, List.set_cons_succ]
        have hO := of2 W2 2 0 0 2
        refine wpAnyH_ready (rs := [20]) (by as_aux_lemma => kernel_rfl) (by simp) ?_
        refine (AllReadyH.cons rfl (fun K hK => ?_) AllReadyH.nil)
        go_simp
        refine hK.out _ _ (HSF8.out _ hO.2.1) (fun hHeld => ?_)
        clear hK K
        try simp only [Act.put, List.setIfInBounds_toArray, List.set_cons_zero, List.set_cons_succ]
        generalize ((W2.alloc (.cells #[.int .i64 2, .int .i64 0] 3)).alloc (.cells #[.int .i64 0, .int .i64 2] 3)).alloc (.cells #[.slice (some ⟨W2.heap.size, 0, none⟩) 2 2, .slice (some ⟨W2.heap.size + 1, 0, none⟩) 2 2] 23) = w66 at hO hHeld ⊢
        obtain ⟨hg, hb, hz⟩ := hO
        replace HL := Lib.hid (HL.out.below hb)
        replace HB := Lib.hid (HB.out.trans (hb.mono HB.out.size))
        replace HR6 := Lib.hid (HR6.out.below hb HR6.out.lt)
        have GN := Lib.hid hg.new_lt
        clear hg hb hz HSF8
        generalize W2.heap.size + 1 + 1 = gn at GN ⊢
        refine wpAnyH_ready (rs := [21]) (by as_aux_lemma => kernel_rfl) (by simp) ?_
        refine (AllReadyH.cons rfl (fun K hK => ?_) AllReadyH.nil)
        go_simp
        go_at_call 54
        refine (HOF.out _ _ _ _).mono ?_
        rintro e w67 ⟨rfl, hb⟩
        replace HL := Lib.hid (HL.out.below hb)
        replace HB := Lib.hid (HB.out.trans (hb.mono HB.out.size))
        replace HR6 := Lib.hid (HR6.out.below hb HR6.out.lt)
        replace GN := Lib.hid (GN.out.on hb)
        clear hb
        refine hK.out _ _ ⟨HL.out.c0 1 rfl, HL.out.c1 1 rfl, HL.out.c0 0 rfl, HL.out.c1 0 rfl, HR6.out.cell (i := 0) rfl, HR6.out.cell (i := 1) rfl⟩ (fun hHeld => ?_)
        clear hK K
        try simp only [Act.put, List.setIfInBounds_toArray, List.set_cons_zero, List.set_cons_succ]
        refine wpAnyH_ready (rs := [22]) (by as_aux_lemma => kernel_rfl) (by simp) ?_
        refine (AllReadyH.cons rfl (fun K hK => ?_) AllReadyH.nil)
        go_simp
        go_at_call 59
        have his := is_any (.slice Aw61 2 cw61) (.slice (some ⟨gn, 0, none⟩) 2 2) p 2 (fun _ => 2) _ (M2 2 0 0 2) _ (by omega) (fun _ _ => by omega) (HL.out 1 _ rfl).2.1 GN.out
        rw [show gridB 2 (fun _ => 2) (powZ (p : Int) 2 (M2 1 2 3 4) 2) (M2 2 0 0 2) = true by have := HP.out; subst this; exact nam_pow2] at his
        refine his.mono ?_
        rintro e w68 ⟨rfl, hb⟩
        clear his
        clear GN
        replace HL := Lib.hid (HL.out.below hb)
        replace HB := Lib.hid (HB.out.trans (hb.mono HB.out.size))
        replace HR6 := Lib.hid (HR6.out.below hb HR6.out.lt)
        clear hb
        refine hK.out _ _ ⟨HL.out.c0 1 rfl, HL.out.c1 1 rfl, HL.out.c0 0 rfl, HL.out.c1 0 rfl, HR6.out.cell (i := 0) rfl, HR6.out.cell (i := 1) rfl⟩ (fun hHeld => ?_)
        clear hK K
        try simp only [Act.put, List.setIfInBounds_toArray, List.set_cons_zero, List.set_cons_succ]
        refine takeH (i := 23) (v := (.bool true)) rfl rfl (by as_aux_lemma => kernel_rfl) (by as_aux_lemma => kernel_rfl) (by as_aux_lemma => kernel_rfl) (fun _ _ _ h => h) (by rfl) (fun W hW => by (skip); go_simp) (by assumption) ?_
        simp only [List.setIfInBounds_toArray, List.set_cons_zero, List.set_cons_succ]
        refine takeH (i := 24) (v := (.bool true)) rfl rfl (by as_aux_lemma => kernel_rfl) (by as_aux_lemma => kernel_rfl) (by as_aux_lemma => kernel_rfl) (fun _ _ _ h => h) (by rfl) (fun W hW => by (skip); go_simp) (by assumption) ?_
        simp only [List.setIfInBounds_toArray, List.set_cons_zero, List.set_cons_succ]
        refine takeH (i := 25) (v := (.agg #[.int .i64 p, .slice Aw62 2 cw62])) rfl rfl (by as_aux_lemma => kernel_rfl) (by as_aux_lemma => kernel_rfl) (by as_aux_lemma => kernel_rfl) (fun _ _ _ h => h) (by rfl) (fun W hW => by (obtain ⟨q0, q1, q2, q3, q4, q5⟩ := hW); go_simp) (by assumption) ?_
        simp only [List.setIfInBounds_toArray, List.set_cons_zero, List.set_cons_succ]
        refine takeH (i := 26) (v := (.int .i64 0)) rfl rfl (by as_aux_lemma => kernel_rfl) (by as_aux_lemma => kernel_rfl) (by as_aux_lemma => kernel_rfl) (fun _ _ _ h => h) (by rfl) (fun W hW => by (skip); go_simp) (by assumption) ?_
        simp only [List.setIfInBounds_toArray, List.set_cons_zero, List.set_cons_succ]
        have HSF9 := Lib.hid (fun W (hb : Below w68.heap.size w68 W) => (show (fun W => W.cell? ⟨B4, 0, none⟩ = some (.int .i64 p) ∧ W.cell? ⟨B4, 1, none⟩ = some (.slice Aw61 2 cw61) ∧ W.cell? ⟨B5, 0, none⟩ = some (.int .i64 p) ∧ W.cell? ⟨B5, 1, none⟩ = some (.slice Aw62 2 cw62) ∧ W.cell? ⟨B6, 0, none⟩ = some (.int .i64 0) ∧ W.cell? ⟨B6, 1, none⟩ = some (.slice none 0 0)) W from (fun (HL : Hid (ML W (p : Int) 2 _)) (HR6 : Hid (Row W B6 58 #[.int .i64 0, .slice none 0 0])) => ⟨HL.out.c0 1 rfl, HL.out.c1 1 rfl, HL.out.c0 0 rfl, HL.out.c1 0 rfl, HR6.out.cell (i := 0) rfl, HR6.out.cell (i := 1) rfl⟩) (Lib.hid (HL.out.below hb)) (Lib.hid (HR6.out.below hb HR6.out.lt))))
        refine wpAnyH_ready (rs := [27, 28]) (by as_aux_lemma => kernel_rfl) (by simp) ?_
        refine (AllReadyH.cons rfl (fun K hK => ?_) (AllReadyH.cons rfl (fun K hK => ?_) AllReadyH.nil))
        · go_simp
          refine hK.out _ _ (HSF9.out _ ((Below.refl _ _).alloc (Nat.le_refl _) _)) (fun hHeld => ?_)
          clear hK K
          try simp only [Act.put, List.setIfInBounds_toArray, List.set_cons_zero, List.set_cons_succ]
          refine wpAnyH_ready (rs := [28]) (by as_aux_lemma => kernel_rfl) (by simp) ?_
          refine (AllReadyH.cons rfl (fun K hK => ?_) AllReadyH.nil)
          go_simp
          refine hK.out _ _ (HSF9.out _ (((Below.refl _ _).alloc (Nat.le_refl _) _).alloc (by simp) _)) (fun hHeld => ?_)
          clear hK K
          try simp only [Act.put, List.setIfInBounds_toArray, List.set_cons_zero, List.set_cons_succ]
          have hO := of2 w68 1 0 0 1
          refine wpAnyH_ready (rs := [29]) (by as_aux_lemma => kernel_rfl) (by simp) ?_
          refine (AllReadyH.cons rfl (fun K hK => ?_) AllReadyH.nil)
          go_simp
          refine hK.out _ _ (HSF9.out _ hO.2.1) (fun hHeld => ?_)
          clear hK K
          try simp only [Act.put, List.setIfInBounds_toArray, List.set_cons_zero, List.set_cons_succ]
          generalize ((w68.alloc (.cells #[.int .i64 1, .int .i64 0] 3)).alloc (.cells #[.int .i64 0, .int .i64 1] 3)).alloc (.cells #[.slice (some ⟨w68.heap.size, 0, none⟩) 2 2, .slice (some ⟨w68.heap.size + 1, 0, none⟩) 2 2] 23) = w69 at hO hHeld ⊢
          obtain ⟨hg, hb, hz⟩ := hO
          replace HL := Lib.hid (HL.out.below hb)
          replace HB := Lib.hid (HB.out.trans (hb.mono HB.out.size))
          replace HR6 := Lib.hid (HR6.out.below hb HR6.out.lt)
          have GN := Lib.hid hg.new_lt
          clear hg hb hz HSF9
          generalize w68.heap.size + 1 + 1 = gn at GN ⊢
          refine wpAnyH_ready (rs := [30]) (by as_aux_lemma => kernel_rfl) (by simp) ?_
          refine (AllReadyH.cons rfl (fun K hK => ?_) AllReadyH.nil)
          go_simp
          go_at_call 54
          refine (HOF.out _ _ _ _).mono ?_
          rintro e w70 ⟨rfl, hb⟩
          replace HL := Lib.hid (HL.out.below hb)
          replace HB := Lib.hid (HB.out.trans (hb.mono HB.out.size))
          replace HR6 := Lib.hid (HR6.out.below hb HR6.out.lt)
          replace GN := Lib.hid (GN.out.on hb)
          clear hb
          refine hK.out _ _ ⟨HL.out.c0 1 rfl, HL.out.c1 1 rfl, HL.out.c0 0 rfl, HL.out.c1 0 rfl, HR6.out.cell (i := 0) rfl, HR6.out.cell (i := 1) rfl⟩ (fun hHeld => ?_)
          clear hK K
          try simp only [Act.put, List.setIfInBounds_toArray, List.set_cons_zero, List.set_cons_succ]
          refine wpAnyH_ready (rs := [31]) (by as_aux_lemma => kernel_rfl) (by simp) ?_
          refine (AllReadyH.cons rfl (fun K hK => ?_) AllReadyH.nil)
          go_simp
          go_at_call 59
          have his := is_any (.slice Aw62 2 cw62) (.slice (some ⟨gn, 0, none⟩) 2 2) p 2 (fun _ => 2) _ (M2 1 0 0 1) _ (by omega) (fun _ _ => by omega) (HL.out 0 _ rfl).2.1 GN.out
          rw [show gridB 2 (fun _ => 2) (powZ (p : Int) 2 (M2 1 2 3 4) 0) (M2 1 0 0 1) = true by have := HP.out; subst this; exact nam_pow0] at his
          refine his.mono ?_
          rintro e w71 ⟨rfl, hb⟩
          clear his
          clear GN
          replace HL := Lib.hid (HL.out.below hb)
          replace HB := Lib.hid (HB.out.trans (hb.mono HB.out.size))
          replace HR6 := Lib.hid (HR6.out.below hb HR6.out.lt)
          clear hb
          refine hK.out _ _ ⟨HL.out.c0 1 rfl, HL.out.c1 1 rfl, HL.out.c0 0 rfl, HL.out.c1 0 rfl, HR6.out.cell (i := 0) rfl, HR6.out.cell (i := 1) rfl⟩ (fun hHeld => ?_)
          clear hK K
          try simp only [Act.put, List.setIfInBounds_toArray, List.set_cons_zero, List.set_cons_succ]
          refine takeH (i := 32) (v := (.bool true)) rfl rfl (by as_aux_lemma => kernel_rfl) (by as_aux_lemma => kernel_rfl) (by as_aux_lemma => kernel_rfl) (fun _ _ _ h => h) (by rfl) (fun W hW => by (skip); go_simp) (by assumption) ?_
          simp only [List.setIfInBounds_toArray, List.set_cons_zero, List.set_cons_succ]
          refine takeH (i := 33) (v := (.bool true)) rfl rfl (by as_aux_lemma => kernel_rfl) (by as_aux_lemma => kernel_rfl) (by as_aux_lemma => kernel_rfl) (fun _ _ _ h => h) (by rfl) (fun W hW => by (skip); go_simp) (by assumption) ?_
          simp only [List.setIfInBounds_toArray, List.set_cons_zero, List.set_cons_succ]
          refine takeH (i := 34) (v := (.agg #[.int .i64 0, .slice none 0 0])) rfl rfl (by as_aux_lemma => kernel_rfl) (by as_aux_lemma => kernel_rfl) (by as_aux_lemma => kernel_rfl) (fun _ _ _ h => h) (by rfl) (fun W hW => by (obtain ⟨q0, q1, q2, q3, q4, q5⟩ := hW); go_simp) (by assumption) ?_
          simp only [List.setIfInBounds_toArray, List.set_cons_zero, List.set_cons_succ]
          refine takeH (i := 35) (v := (.int .i64 15)) rfl rfl (by as_aux_lemma => kernel_rfl) (by as_aux_lemma => kernel_rfl) (by as_aux_lemma => kernel_rfl) (fun _ _ _ h => h) (by rfl) (fun W hW => by (skip); go_simp) (by assumption) ?_
          simp only [List.setIfInBounds_toArray, List.set_cons_zero, List.set_cons_succ]
          refine wpAnyH_ready (rs := [36]) (by as_aux_lemma => kernel_rfl) (by simp) ?_
          refine (AllReadyH.cons rfl (fun K hK => ?_) AllReadyH.nil)
          go_simp
          go_at_call 64
          refine (bad_yes _).mono ?_
          rintro e w72 ⟨rfl, hb⟩
          replace HL := Lib.hid (HL.out.below hb)
          replace HB := Lib.hid (HB.out.trans (hb.mono HB.out.size))
          replace HR6 := Lib.hid (HR6.out.below hb HR6.out.lt)
          clear hb
          refine hK.out _ _ ⟨HL.out.c0 1 rfl, HL.out.c1 1 rfl, HL.out.c0 0 rfl, HL.out.c1 0 rfl, HR6.out.cell (i := 0) rfl, HR6.out.cell (i := 1) rfl⟩ (fun hHeld => ?_)
          clear hK K
          try simp only [Act.put, List.setIfInBounds_toArray, List.set_cons_zero, List.set_cons_succ]
          refine takeH (i := 37) (v := (.bool true)) rfl rfl (by as_aux_lemma => kernel_rfl) (by as_aux_lemma => kernel_rfl) (by as_aux_lemma => kernel_rfl) (fun _ _ _ h => h) (by rfl) (fun W hW => by (skip); go_simp) (by assumption) ?_
          simp only [List.setIfInBounds_toArray, List.set_cons_zero, List.set_cons_succ]
          refine takeH (i := 38) (v := (.bool true)) rfl rfl (by as_aux_lemma => kernel_rfl) (by as_aux_lemma => kernel_rfl) (by as_aux_lemma => kernel_rfl) (fun _ _ _ h => h) (by rfl) (fun W hW => by (skip); go_simp) (by assumption) ?_
          simp only [List.setIfInBounds_toArray, List.set_cons_zero, List.set_cons_succ]
          refine wpAnyH_done (by as_aux_lemma => kernel_rfl) ?_ _
          have HE := Lib.hid (show ML _ (p : Int) 2 [⟨Bb, some ⟨gb, 0, none⟩, 2, M2 0 1 1 0⟩, ⟨Ba, some ⟨ga, 0, none⟩, 2, M2 1 2 3 4⟩] from fun i x hx => HL.out (i + 2) x (by cases i with | zero => exact hx | succ i => cases i with | zero => exact hx | succ i => cases hx))
          have HBE := Lib.hid HB.out
          clear HL HB HR6 hHeld
          go_wp2_with fail
          go_meet
          exact ⟨rfl, HE.out, HBE.out⟩
        · go_simp
          refine hK.out _ _ (HSF9.out _ ((Below.refl _ _).alloc (Nat.le_refl _) _)) (fun hHeld => ?_)
          clear hK K
          try simp only [Act.put, List.setIfInBounds_toArray, List.set_cons_zero, List.set_cons_succ]
          refine wpAnyH_ready (rs := [27]) (by as_aux_lemma => kernel_rfl) (by simp) ?_
          refine (AllReadyH.cons rfl (fun K hK => ?_) AllReadyH.nil)
          go_simp
          refine hK.out _ _ (HSF9.out _ (((Below.refl _ _).alloc (Nat.le_refl _) _).alloc (by simp) _)) (fun hHeld => ?_)
          clear hK K
          try simp only [Act.put, List.setIfInBounds_toArray, List.set_cons_zero, List.set_cons_succ]
          have hO := of2r w68 1 0 0 1
          refine wpAnyH_ready (rs := [29]) (by as_aux_lemma => kernel_rfl) (by simp) ?_
          refine (AllReadyH.cons rfl (fun K hK => ?_) AllReadyH.nil)
          go_simp
          refine hK.out _ _ (HSF9.out _ hO.2.1) (fun hHeld => ?_)
          clear hK K
          try simp only [Act.put, List.setIfInBounds_toArray, List.set_cons_zero, List.set_cons_succ]
          generalize ((w68.alloc (.cells #[.int .i64 0, .int .i64 1] 3)).alloc (.cells #[.int .i64 1, .int .i64 0] 3)).alloc (.cells #[.slice (some ⟨w68.heap.size + 1, 0, none⟩) 2 2, .slice (some ⟨w68.heap.size, 0, none⟩) 2 2] 23) = w73 at hO hHeld ⊢
          obtain ⟨hg, hb, hz⟩ := hO
          replace HL := Lib.hid (HL.out.below hb)
          replace HB := Lib.hid (HB.out.trans (hb.mono HB.out.size))
          replace HR6 := Lib.hid (HR6.out.below hb HR6.out.lt)
          have GN := Lib.hid hg.new_lt
          clear hg hb hz HSF9
          generalize w68.heap.size + 1 + 1 = gn at GN ⊢
          refine wpAnyH_ready (rs := [30]) (by as_aux_lemma => kernel_rfl) (by simp) ?_
          refine (AllReadyH.cons rfl (fun K hK => ?_) AllReadyH.nil)
          go_simp
          go_at_call 54
          refine (HOF.out _ _ _ _).mono ?_
          rintro e w74 ⟨rfl, hb⟩
          replace HL := Lib.hid (HL.out.below hb)
          replace HB := Lib.hid (HB.out.trans (hb.mono HB.out.size))
          replace HR6 := Lib.hid (HR6.out.below hb HR6.out.lt)
          replace GN := Lib.hid (GN.out.on hb)
          clear hb
          refine hK.out _ _ ⟨HL.out.c0 1 rfl, HL.out.c1 1 rfl, HL.out.c0 0 rfl, HL.out.c1 0 rfl, HR6.out.cell (i := 0) rfl, HR6.out.cell (i := 1) rfl⟩ (fun hHeld => ?_)
          clear hK K
          try simp only [Act.put, List.setIfInBounds_toArray, List.set_cons_zero, List.set_cons_succ]
          refine wpAnyH_ready (rs := [31]) (by as_aux_lemma => kernel_rfl) (by simp) ?_
          refine (AllReadyH.cons rfl (fun K hK => ?_) AllReadyH.nil)
          go_simp
          go_at_call 59
          have his := is_any (.slice Aw62 2 cw62) (.slice (some ⟨gn, 0, none⟩) 2 2) p 2 (fun _ => 2) _ (M2 1 0 0 1) _ (by omega) (fun _ _ => by omega) (HL.out 0 _ rfl).2.1 GN.out
          rw [show gridB 2 (fun _ => 2) (powZ (p : Int) 2 (M2 1 2 3 4) 0) (M2 1 0 0 1) = true by have := HP.out; subst this; exact nam_pow0] at his
          refine his.mono ?_
          rintro e w75 ⟨rfl, hb⟩
          clear his
          clear GN
          replace HL := Lib.hid (HL.out.below hb)
          replace HB := Lib.hid (HB.out.trans (hb.mono HB.out.size))
          replace HR6 := Lib.hid (HR6.out.below hb HR6.out.lt)
          clear hb
          refine hK.out _ _ ⟨HL.out.c0 1 rfl, HL.out.c1 1 rfl, HL.out.c0 0 rfl, HL.out.c1 0 rfl, HR6.out.cell (i := 0) rfl, HR6.out.cell (i := 1) rfl⟩ (fun hHeld => ?_)
          clear hK K
          try simp only [Act.put, List.setIfInBounds_toArray, List.set_cons_zero, List.set_cons_succ]
          refine takeH (i := 32) (v := (.bool true)) rfl rfl (by as_aux_lemma => kernel_rfl) (by as_aux_lemma => kernel_rfl) (by as_aux_lemma => kernel_rfl) (fun _ _ _ h => h) (by rfl) (fun W hW => by (skip); go_simp) (by assumption) ?_
          simp only [List.setIfInBounds_toArray, List.set_cons_zero, List.set_cons_succ]
          refine takeH (i := 33) (v := (.bool true)) rfl rfl (by as_aux_lemma => kernel_rfl) (by as_aux_lemma => kernel_rfl) (by as_aux_lemma => kernel_rfl) (fun _ _ _ h => h) (by rfl) (fun W hW => by (skip); go_simp) (by assumption) ?_
          simp only [List.setIfInBounds_toArray, List.set_cons_zero, List.set_cons_succ]
          refine takeH (i := 34) (v := (.agg #[.int .i64 0, .slice none 0 0])) rfl rfl (by as_aux_lemma => kernel_rfl) (by as_aux_lemma => kernel_rfl) (by as_aux_lemma => kernel_rfl) (fun _ _ _ h => h) (by rfl) (fun W hW => by (obtain ⟨q0, q1, q2, q3, q4, q5⟩ := hW); go_simp) (by assumption) ?_
          simp only [List.setIfInBounds_toArray, List.set_cons_zero, List.set_cons_succ]
          refine takeH (i := 35) (v := (.int .i64 15)) rfl rfl (by as_aux_lemma => kernel_rfl) (by as_aux_lemma => kernel_rfl) (by as_aux_lemma => kernel_rfl) (fun _ _ _ h => h) (by rfl) (fun W hW => by (skip); go_simp) (by assumption) ?_
          simp only [List.setIfInBounds_toArray, List.set_cons_zero, List.set_cons_succ]
          refine wpAnyH_ready (rs := [36]) (by as_aux_lemma => kernel_rfl) (by simp) ?_
          refine (AllReadyH.cons rfl (fun K hK => ?_) AllReadyH.nil)
          go_simp
          go_at_call 64
          refine (bad_yes _).mono ?_
          rintro e w76 ⟨rfl, hb⟩
          replace HL := Lib.hid (HL.out.below hb)
          replace HB := Lib.hid (HB.out.trans (hb.mono HB.out.size))
          replace HR6 := Lib.hid (HR6.out.below hb HR6.out.lt)
          clear hb
          refine hK.out _ _ ⟨HL.out.c0 1 rfl, HL.out.c1 1 rfl, HL.out.c0 0 rfl, HL.out.c1 0 rfl, HR6.out.cell (i := 0) rfl, HR6.out.cell (i := 1) rfl⟩ (fun hHeld => ?_)
          clear hK K
          try simp only [Act.put, List.setIfInBounds_toArray, List.set_cons_zero, List.set_cons_succ]
          refine takeH (i := 37) (v := (.bool true)) rfl rfl (by as_aux_lemma => kernel_rfl) (by as_aux_lemma => kernel_rfl) (by as_aux_lemma => kernel_rfl) (fun _ _ _ h => h) (by rfl) (fun W hW => by (skip); go_simp) (by assumption) ?_
          simp only [List.setIfInBounds_toArray, List.set_cons_zero, List.set_cons_succ]
          refine takeH (i := 38) (v := (.bool true)) rfl rfl (by as_aux_lemma => kernel_rfl) (by as_aux_lemma => kernel_rfl) (by as_aux_lemma => kernel_rfl) (fun _ _ _ h => h) (by rfl) (fun W hW => by (skip); go_simp) (by assumption) ?_
          simp only [List.setIfInBounds_toArray, List.set_cons_zero, List.set_cons_succ]
          refine wpAnyH_done (by as_aux_lemma => kernel_rfl) ?_ _
          have HE := Lib.hid (show ML _ (p : Int) 2 [⟨Bb, some ⟨gb, 0, none⟩, 2, M2 0 1 1 0⟩, ⟨Ba, some ⟨ga, 0, none⟩, 2, M2 1 2 3 4⟩] from fun i x hx => HL.out (i + 2) x (by cases i with | zero => exact hx | succ i => cases i with | zero => exact hx | succ i => cases hx))
          have HBE := Lib.hid HB.out
          clear HL HB HR6 hHeld
          go_wp2_with fail
          go_meet
          exact ⟨rfl, HE.out, HBE.out⟩
      · go_simp
        refine hK.out _ _ (HSF8.out _ ((Below.refl _ _).alloc (Nat.le_refl _) _)) (fun hHeld => ?_)
        clear hK K
        try simp only [Act.put, List.setIfInBounds_toArray, List.set_cons_zero, List.set_cons_succ]
        refine wpAnyH_ready (rs := [18]) (by as_aux_lemma => kernel_rfl) (by simp) ?_
        refine (AllReadyH.cons rfl (fun K hK => ?_) AllReadyH.nil)
        go_simp
        refine hK.out _ _ (HSF8.out _ (((Below.refl _ _).alloc (Nat.le_refl _) _).alloc (by simp) _)) (fun hHeld => ?_)
        clear hK K
        try simp only [Act.put, List.setIfInBounds_toArray, List.set_cons_zero, List.set_cons_succ]
        have hO := of2r W2 2 0 0 2
        refine wpAnyH_ready (rs := [20]) (by as_aux_lemma => kernel_rfl) (by simp) ?_
        refine (AllReadyH.cons rfl (fun K hK => ?_) AllReadyH.nil)
        go_simp
        refine hK.out _ _ (HSF8.out _ hO.2.1) (fun hHeld => ?_)
        clear hK K
        try simp only [Act.put, List.setIfInBounds_toArray, List.set_cons_zero, List.set_cons_succ]
        generalize ((W2.alloc (.cells #[.int .i64 0, .int .i64 2] 3)).alloc (.cells #[.int .i64 2, .int .i64 0] 3)).alloc (.cells #[.slice (some ⟨W2.heap.size + 1, 0, none⟩) 2 2, .slice (some ⟨W2.heap.size, 0, none⟩) 2 2] 23) = w77 at hO hHeld ⊢
        obtain ⟨hg, hb, hz⟩ := hO
        replace HL := Lib.hid (HL.out.below hb)
        replace HB := Lib.hid (HB.out.trans (hb.mono HB.out.size))
        replace HR6 := Lib.hid (HR6.out.below hb HR6.out.lt)
        have GN := Lib.hid hg.new_lt
        clear hg hb hz HSF8
        generalize W2.heap.size + 1 + 1 = gn at GN ⊢
        refine wpAnyH_ready (rs := [21]) (by as_aux_lemma => kernel_rfl) (by simp) ?_
        refine (AllReadyH.cons rfl (fun K hK => ?_) AllReadyH.nil)
        go_simp
        go_at_call 54
        refine (HOF.out _ _ _ _).mono ?_
        rintro e w78 ⟨rfl, hb⟩
        replace HL := Lib.hid (HL.out.below hb)
        replace HB := Lib.hid (HB.out.trans (hb.mono HB.out.size))
        replace HR6 := Lib.hid (HR6.out.below hb HR6.out.lt)
        replace GN := Lib.hid (GN.out.on hb)
        clear hb
        refine hK.out _ _ ⟨HL.out.c0 1 rfl, HL.out.c1 1 rfl, HL.out.c0 0 rfl, HL.out.c1 0 rfl, HR6.out.cell (i := 0) rfl, HR6.out.cell (i := 1) rfl⟩ (fun hHeld => ?_)
        clear hK K
        try simp only [Act.put, List.setIfInBounds_toArray, List.set_cons_zero, List.set_cons_succ]
        refine wpAnyH_ready (rs := [22]) (by as_aux_lemma => kernel_rfl) (by simp) ?_
        refine (AllReadyH.cons rfl (fun K hK => ?_) AllReadyH.nil)
        go_simp
        go_at_call 59
        have his := is_any (.slice Aw61 2 cw61) (.slice (some ⟨gn, 0, none⟩) 2 2) p 2 (fun _ => 2) _ (M2 2 0 0 2) _ (by omega) (fun _ _ => by omega) (HL.out 1 _ rfl).2.1 GN.out
        rw [show gridB 2 (fun _ => 2) (powZ (p : Int) 2 (M2 1 2 3 4) 2) (M2 2 0 0 2) = true by have := HP.out; subst this; exact nam_pow2] at his
        refine his.mono ?_
        rintro e w79 ⟨rfl, hb⟩
        clear his
        clear GN
        replace HL := Lib.hid (HL.out.below hb)
        replace HB := Lib.hid (HB.out.trans (hb.mono HB.out.size))
        replace HR6 := Lib.hid (HR6.out.below hb HR6.out.lt)
        clear hb
        refine hK.out _ _ ⟨HL.out.c0 1 rfl, HL.out.c1 1 rfl, HL.out.c0 0 rfl, HL.out.c1 0 rfl, HR6.out.cell (i := 0) rfl, HR6.out.cell (i := 1) rfl⟩ (fun hHeld => ?_)
        clear hK K
        try simp only [Act.put, List.setIfInBounds_toArray, List.set_cons_zero, List.set_cons_succ]
        refine takeH (i := 23) (v := (.bool true)) rfl rfl (by as_aux_lemma => kernel_rfl) (by as_aux_lemma => kernel_rfl) (by as_aux_lemma => kernel_rfl) (fun _ _ _ h => h) (by rfl) (fun W hW => by (skip); go_simp) (by assumption) ?_
        simp only [List.setIfInBounds_toArray, List.set_cons_zero, List.set_cons_succ]
        refine takeH (i := 24) (v := (.bool true)) rfl rfl (by as_aux_lemma => kernel_rfl) (by as_aux_lemma => kernel_rfl) (by as_aux_lemma => kernel_rfl) (fun _ _ _ h => h) (by rfl) (fun W hW => by (skip); go_simp) (by assumption) ?_
        simp only [List.setIfInBounds_toArray, List.set_cons_zero, List.set_cons_succ]
        refine takeH (i := 25) (v := (.agg #[.int .i64 p, .slice Aw62 2 cw62])) rfl rfl (by as_aux_lemma => kernel_rfl) (by as_aux_lemma => kernel_rfl) (by as_aux_lemma => kernel_rfl) (fun _ _ _ h => h) (by rfl) (fun W hW => by (obtain ⟨q0, q1, q2, q3, q4, q5⟩ := hW); go_simp) (by assumption) ?_
        simp only [List.setIfInBounds_toArray, List.set_cons_zero, List.set_cons_succ]
        refine takeH (i := 26) (v := (.int .i64 0)) rfl rfl (by as_aux_lemma => kernel_rfl) (by as_aux_lemma => kernel_rfl) (by as_aux_lemma => kernel_rfl) (fun _ _ _ h => h) (by rfl) (fun W hW => by (skip); go_simp) (by assumption) ?_
        simp only [List.setIfInBounds_toArray, List.set_cons_zero, List.set_cons_succ]
        have HSF10 := Lib.hid (fun W (hb : Below w79.heap.size w79 W) => (show (fun W => W.cell? ⟨B4, 0, none⟩ = some (.int .i64 p) ∧ W.cell? ⟨B4, 1, none⟩ = some (.slice Aw61 2 cw61) ∧ W.cell? ⟨B5, 0, none⟩ = some (.int .i64 p) ∧ W.cell? ⟨B5, 1, none⟩ = some (.slice Aw62 2 cw62) ∧ W.cell? ⟨B6, 0, none⟩ = some (.int .i64 0) ∧ W.cell? ⟨B6, 1, none⟩ = some (.slice none 0 0)) W from (fun (HL : Hid (ML W (p : Int) 2 _)) (HR6 : Hid (Row W B6 58 #[.int .i64 0, .slice none 0 0])) => ⟨HL.out.c0 1 rfl, HL.out.c1 1 rfl, HL.out.c0 0 rfl, HL.out.c1 0 rfl, HR6.out.cell (i := 0) rfl, HR6.out.cell (i := 1) rfl⟩) (Lib.hid (HL.out.below hb)) (Lib.hid (HR6.out.below hb HR6.out.lt))))
        refine wpAnyH_ready (rs := [27, 28]) (by as_aux_lemma => kernel_rfl) (by simp) ?_
        refine (AllReadyH.cons rfl (fun K hK => ?_) (AllReadyH.cons rfl (fun K hK => ?_) AllReadyH.nil))
        · go_simp
          refine hK.out _ _ (HSF10.out _ ((Below.refl _ _).alloc (Nat.le_refl _) _)) (fun hHeld => ?_)
          clear hK K
          try simp only [Act.put, List.setIfInBounds_toArray, List.set_cons_zero, List.set_cons_succ]
          refine wpAnyH_ready (rs := [28]) (by as_aux_lemma => kernel_rfl) (by simp) ?_
          refine (AllReadyH.cons rfl (fun K hK => ?_) AllReadyH.nil)
          go_simp
          refine hK.out _ _ (HSF10.out _ (((Below.refl _ _).alloc (Nat.le_refl _) _).alloc (by simp) _)) (fun hHeld => ?_)
          clear hK K
          try simp only [Act.put, List.setIfInBounds_toArray, List.set_cons_zero, List.set_cons_succ]
          have hO := of2 w79 1 0 0 1
          refine wpAnyH_ready (rs := [29]) (by as_aux_lemma => kernel_rfl) (by simp) ?_
          refine (AllReadyH.cons rfl (fun K hK => ?_) AllReadyH.nil)
          go_simp
          refine hK.out _ _ (HSF10.out _ hO.2.1) (fun hHeld => ?_)
          clear hK K
          try simp only [Act.put, List.setIfInBounds_toArray, List.set_cons_zero, List.set_cons_succ]
          generalize ((w79.alloc (.cells #[.int .i64 1, .int .i64 0] 3)).alloc (.cells #[.int .i64 0, .int .i64 1] 3)).alloc (.cells #[.slice (some ⟨w79.heap.size, 0, none⟩) 2 2, .slice (some ⟨w79.heap.size + 1, 0, none⟩) 2 2] 23) = w80 at hO hHeld ⊢
          obtain ⟨hg, hb, hz⟩ := hO
          replace HL := Lib.hid (HL.out.below hb)
          replace HB := Lib.hid (HB.out.trans (hb.mono HB.out.size))
          replace HR6 := Lib.hid (HR6.out.below hb HR6.out.lt)
          have GN := Lib.hid hg.new_lt
          clear hg hb hz HSF10
          generalize w79.heap.size + 1 + 1 = gn at GN ⊢
          refine wpAnyH_ready (rs := [30]) (by as_aux_lemma => kernel_rfl) (by simp) ?_
          refine (AllReadyH.cons rfl (fun K hK => ?_) AllReadyH.nil)
          go_simp
          go_at_call 54
          refine (HOF.out _ _ _ _).mono ?_
          rintro e w81 ⟨rfl, hb⟩
          replace HL := Lib.hid (HL.out.below hb)
          replace HB := Lib.hid (HB.out.trans (hb.mono HB.out.size))
          replace HR6 := Lib.hid (HR6.out.below hb HR6.out.lt)
          replace GN := Lib.hid (GN.out.on hb)
          clear hb
          refine hK.out _ _ ⟨HL.out.c0 1 rfl, HL.out.c1 1 rfl, HL.out.c0 0 rfl, HL.out.c1 0 rfl, HR6.out.cell (i := 0) rfl, HR6.out.cell (i := 1) rfl⟩ (fun hHeld => ?_)
          clear hK K
          try simp only [Act.put, List.setIfInBounds_toArray, List.set_cons_zero, List.set_cons_succ]
          refine wpAnyH_ready (rs := [31]) (by as_aux_lemma => kernel_rfl) (by simp) ?_
          refine (AllReadyH.cons rfl (fun K hK => ?_) AllReadyH.nil)
          go_simp
          go_at_call 59
          have his := is_any (.slice Aw62 2 cw62) (.slice (some ⟨gn, 0, none⟩) 2 2) p 2 (fun _ => 2) _ (M2 1 0 0 1) _ (by omega) (fun _ _ => by omega) (HL.out 0 _ rfl).2.1 GN.out
          rw [show gridB 2 (fun _ => 2) (powZ (p : Int) 2 (M2 1 2 3 4) 0) (M2 1 0 0 1) = true by have := HP.out; subst this; exact nam_pow0] at his
          refine his.mono ?_
          rintro e w82 ⟨rfl, hb⟩
          clear his
          clear GN
          replace HL := Lib.hid (HL.out.below hb)
          replace HB := Lib.hid (HB.out.trans (hb.mono HB.out.size))
          replace HR6 := Lib.hid (HR6.out.below hb HR6.out.lt)
          clear hb
          refine hK.out _ _ ⟨HL.out.c0 1 rfl, HL.out.c1 1 rfl, HL.out.c0 0 rfl, HL.out.c1 0 rfl, HR6.out.cell (i := 0) rfl, HR6.out.cell (i := 1) rfl⟩ (fun hHeld => ?_)
          clear hK K
          try simp only [Act.put, List.setIfInBounds_toArray, List.set_cons_zero, List.set_cons_succ]
          refine takeH (i := 32) (v := (.bool true)) rfl rfl (by as_aux_lemma => kernel_rfl) (by as_aux_lemma => kernel_rfl) (by as_aux_lemma => kernel_rfl) (fun _ _ _ h => h) (by rfl) (fun W hW => by (skip); go_simp) (by assumption) ?_
          simp only [List.setIfInBounds_toArray, List.set_cons_zero, List.set_cons_succ]
          refine takeH (i := 33) (v := (.bool true)) rfl rfl (by as_aux_lemma => kernel_rfl) (by as_aux_lemma => kernel_rfl) (by as_aux_lemma => kernel_rfl) (fun _ _ _ h => h) (by rfl) (fun W hW => by (skip); go_simp) (by assumption) ?_
          simp only [List.setIfInBounds_toArray, List.set_cons_zero, List.set_cons_succ]
          refine takeH (i := 34) (v := (.agg #[.int .i64 0, .slice none 0 0])) rfl rfl (by as_aux_lemma => kernel_rfl) (by as_aux_lemma => kernel_rfl) (by as_aux_lemma => kernel_rfl) (fun _ _ _ h => h) (by rfl) (fun W hW => by (obtain ⟨q0, q1, q2, q3, q4, q5⟩ := hW); go_simp) (by assumption) ?_
          simp only [List.setIfInBounds_toArray, List.set_cons_zero, List.set_cons_succ]
          refine takeH (i := 35) (v := (.int .i64 15)) rfl rfl (by as_aux_lemma => kernel_rfl) (by as_aux_lemma => kernel_rfl) (by as_aux_lemma => kernel_rfl) (fun _ _ _ h => h) (by rfl) (fun W hW => by (skip); go_simp) (by assumption) ?_
          simp only [List.setIfInBounds_toArray, List.set_cons_zero, List.set_cons_succ]
          refine wpAnyH_ready (rs := [36]) (by as_aux_lemma => kernel_rfl) (by simp) ?_
          refine (AllReadyH.cons rfl (fun K hK => ?_) AllReadyH.nil)
          go_simp
          go_at_call 64
          refine (bad_yes _).mono ?_
          rintro e w83 ⟨rfl, hb⟩
          replace HL := Lib.hid (HL.out.below hb)
          replace HB := Lib.hid (HB.out.trans (hb.mono HB.out.size))
          replace HR6 := Lib.hid (HR6.out.below hb HR6.out.lt)
          clear hb
          refine hK.out _ _ ⟨HL.out.c0 1 rfl, HL.out.c1 1 rfl, HL.out.c0 0 rfl, HL.out.c1 0 rfl, HR6.out.cell (i := 0) rfl, HR6.out.cell (i := 1) rfl⟩ (fun hHeld => ?_)
          clear hK K
          try simp only [Act.put, List.setIfInBounds_toArray, List.set_cons_zero, List.set_cons_succ]
          refine takeH (i := 37) (v := (.bool true)) rfl rfl (by as_aux_lemma => kernel_rfl) (by as_aux_lemma => kernel_rfl) (by as_aux_lemma => kernel_rfl) (fun _ _ _ h => h) (by rfl) (fun W hW => by (skip); go_simp) (by assumption) ?_
          simp only [List.setIfInBounds_toArray, List.set_cons_zero, List.set_cons_succ]
          refine takeH (i := 38) (v := (.bool true)) rfl rfl (by as_aux_lemma => kernel_rfl) (by as_aux_lemma => kernel_rfl) (by as_aux_lemma => kernel_rfl) (fun _ _ _ h => h) (by rfl) (fun W hW => by (skip); go_simp) (by assumption) ?_
          simp only [List.setIfInBounds_toArray, List.set_cons_zero, List.set_cons_succ]
          refine wpAnyH_done (by as_aux_lemma => kernel_rfl) ?_ _
          have HE := Lib.hid (show ML _ (p : Int) 2 [⟨Bb, some ⟨gb, 0, none⟩, 2, M2 0 1 1 0⟩, ⟨Ba, some ⟨ga, 0, none⟩, 2, M2 1 2 3 4⟩] from fun i x hx => HL.out (i + 2) x (by cases i with | zero => exact hx | succ i => cases i with | zero => exact hx | succ i => cases hx))
          have HBE := Lib.hid HB.out
          clear HL HB HR6 hHeld
          go_wp2_with fail
          go_meet
          exact ⟨rfl, HE.out, HBE.out⟩
        · go_simp
          refine hK.out _ _ (HSF10.out _ ((Below.refl _ _).alloc (Nat.le_refl _) _)) (fun hHeld => ?_)
          clear hK K
          try simp only [Act.put, List.setIfInBounds_toArray, List.set_cons_zero, List.set_cons_succ]
          refine wpAnyH_ready (rs := [27]) (by as_aux_lemma => kernel_rfl) (by simp) ?_
          refine (AllReadyH.cons rfl (fun K hK => ?_) AllReadyH.nil)
          go_simp
          refine hK.out _ _ (HSF10.out _ (((Below.refl _ _).alloc (Nat.le_refl _) _).alloc (by simp) _)) (fun hHeld => ?_)
          clear hK K
          try simp only [Act.put, List.setIfInBounds_toArray, List.set_cons_zero, List.set_cons_succ]
          have hO := of2r w79 1 0 0 1
          refine wpAnyH_ready (rs := [29]) (by as_aux_lemma => kernel_rfl) (by simp) ?_
          refine (AllReadyH.cons rfl (fun K hK => ?_) AllReadyH.nil)
          go_simp
          refine hK.out _ _ (HSF10.out _ hO.2.1) (fun hHeld => ?_)
          clear hK K
          try simp only [Act.put, List.setIfInBounds_toArray, List.set_cons_zero, List.set_cons_succ]
          generalize ((w79.alloc (.cells #[.int .i64 0, .int .i64 1] 3)).alloc (.cells #[.int .i64 1, .int .i64 0] 3)).alloc (.cells #[.slice (some ⟨w79.heap.size + 1, 0, none⟩) 2 2, .slice (some ⟨w79.heap.size, 0, none⟩) 2 2] 23) = w84 at hO hHeld ⊢
          obtain ⟨hg, hb, hz⟩ := hO
          replace HL := Lib.hid (HL.out.below hb)
          replace HB := Lib.hid (HB.out.trans (hb.mono HB.out.size))
          replace HR6 := Lib.hid (HR6.out.below hb HR6.out.lt)
          have GN := Lib.hid hg.new_lt
          clear hg hb hz HSF10
          generalize w79.heap.size + 1 + 1 = gn at GN ⊢
          refine wpAnyH_ready (rs := [30]) (by as_aux_lemma => kernel_rfl) (by simp) ?_
          refine (AllReadyH.cons rfl (fun K hK => ?_) AllReadyH.nil)
          go_simp
          go_at_call 54
          refine (HOF.out _ _ _ _).mono ?_
          rintro e w85 ⟨rfl, hb⟩
          replace HL := Lib.hid (HL.out.below hb)
          replace HB := Lib.hid (HB.out.trans (hb.mono HB.out.size))
          replace HR6 := Lib.hid (HR6.out.below hb HR6.out.lt)
          replace GN := Lib.hid (GN.out.on hb)
          clear hb
          refine hK.out _ _ ⟨HL.out.c0 1 rfl, HL.out.c1 1 rfl, HL.out.c0 0 rfl, HL.out.c1 0 rfl, HR6.out.cell (i := 0) rfl, HR6.out.cell (i := 1) rfl⟩ (fun hHeld => ?_)
          clear hK K
          try simp only [Act.put, List.setIfInBounds_toArray, List.set_cons_zero, List.set_cons_succ]
          refine wpAnyH_ready (rs := [31]) (by as_aux_lemma => kernel_rfl) (by simp) ?_
          refine (AllReadyH.cons rfl (fun K hK => ?_) AllReadyH.nil)
          go_simp
          go_at_call 59
          have his := is_any (.slice Aw62 2 cw62) (.slice (some ⟨gn, 0, none⟩) 2 2) p 2 (fun _ => 2) _ (M2 1 0 0 1) _ (by omega) (fun _ _ => by omega) (HL.out 0 _ rfl).2.1 GN.out
          rw [show gridB 2 (fun _ => 2) (powZ (p : Int) 2 (M2 1 2 3 4) 0) (M2 1 0 0 1) = true by have := HP.out; subst this; exact nam_pow0] at his
          refine his.mono ?_
          rintro e w86 ⟨rfl, hb⟩
          clear his
          clear GN
          replace HL := Lib.hid (HL.out.below hb)
          replace HB := Lib.hid (HB.out.trans (hb.mono HB.out.size))
          replace HR6 := Lib.hid (HR6.out.below hb HR6.out.lt)
          clear hb
          refine hK.out _ _ ⟨HL.out.c0 1 rfl, HL.out.c1 1 rfl, HL.out.c0 0 rfl, HL.out.c1 0 rfl, HR6.out.cell (i := 0) rfl, HR6.out.cell (i := 1) rfl⟩ (fun hHeld => ?_)
          clear hK K
          try simp only [Act.put, List.setIfInBounds_toArray, List.set_cons_zero, List.set_cons_succ]
          refine takeH (i := 32) (v := (.bool true)) rfl rfl (by as_aux_lemma => kernel_rfl) (by as_aux_lemma => kernel_rfl) (by as_aux_lemma => kernel_rfl) (fun _ _ _ h => h) (by rfl) (fun W hW => by (skip); go_simp) (by assumption) ?_
          simp only [List.setIfInBounds_toArray, List.set_cons_zero, List.set_cons_succ]
          refine takeH (i := 33) (v := (.bool true)) rfl rfl (by as_aux_lemma => kernel_rfl) (by as_aux_lemma => kernel_rfl) (by as_aux_lemma => kernel_rfl) (fun _ _ _ h => h) (by rfl) (fun W hW => by (skip); go_simp) (by assumption) ?_
          simp only [List.setIfInBounds_toArray, List.set_cons_zero, List.set_cons_succ]
          refine takeH (i := 34) (v := (.agg #[.int .i64 0, .slice none 0 0])) rfl rfl (by as_aux_lemma => kernel_rfl) (by as_aux_lemma => kernel_rfl) (by as_aux_lemma => kernel_rfl) (fun _ _ _ h => h) (by rfl) (fun W hW => by (obtain ⟨q0, q1, q2, q3, q4, q5⟩ := hW); go_simp) (by assumption) ?_
          simp only [List.setIfInBounds_toArray, List.set_cons_zero, List.set_cons_succ]
          refine takeH (i := 35) (v := (.int .i64 15)) rfl rfl (by as_aux_lemma => kernel_rfl) (by as_aux_lemma => kernel_rfl) (by as_aux_lemma => kernel_rfl) (fun _ _ _ h => h) (by rfl) (fun W hW => by (skip); go_simp) (by assumption) ?_
          simp only [List.setIfInBounds_toArray, List.set_cons_zero, List.set_cons_succ]
          refine wpAnyH_ready (rs := [36]) (by as_aux_lemma => kernel_rfl) (by simp) ?_
          refine (AllReadyH.cons rfl (fun K hK => ?_) AllReadyH.nil)
          go_simp
          go_at_call 64
          refine (bad_yes _).mono ?_
          rintro e w87 ⟨rfl, hb⟩
          replace HL := Lib.hid (HL.out.below hb)
          replace HB := Lib.hid (HB.out.trans (hb.mono HB.out.size))
          replace HR6 := Lib.hid (HR6.out.below hb HR6.out.lt)
          clear hb
          refine hK.out _ _ ⟨HL.out.c0 1 rfl, HL.out.c1 1 rfl, HL.out.c0 0 rfl, HL.out.c1 0 rfl, HR6.out.cell (i := 0) rfl, HR6.out.cell (i := 1) rfl⟩ (fun hHeld => ?_)
          clear hK K
          try simp only [Act.put, List.setIfInBounds_toArray, List.set_cons_zero, List.set_cons_succ]
          refine takeH (i := 37) (v := (.bool true)) rfl rfl (by as_aux_lemma => kernel_rfl) (by as_aux_lemma => kernel_rfl) (by as_aux_lemma => kernel_rfl) (fun _ _ _ h => h) (by rfl) (fun W hW => by (skip); go_simp) (by assumption) ?_
          simp only [List.setIfInBounds_toArray, List.set_cons_zero, List.set_cons_succ]
          refine takeH (i := 38) (v := (.bool true)) rfl rfl (by as_aux_lemma => kernel_rfl) (by as_aux_lemma => kernel_rfl) (by as_aux_lemma => kernel_rfl) (fun _ _ _ h => h) (by rfl) (fun W hW => by (skip); go_simp) (by assumption) ?_
          simp only [List.setIfInBounds_toArray, List.set_cons_zero, List.set_cons_succ]
          refine wpAnyH_done (by as_aux_lemma => kernel_rfl) ?_ _
          have HE := Lib.hid (show ML _ (p : Int) 2 [⟨Bb, some ⟨gb, 0, none⟩, 2, M2 0 1 1 0⟩, ⟨Ba, some ⟨ga, 0, none⟩, 2, M2 1 2 3 4⟩] from fun i x hx => HL.out (i + 2) x (by cases i with | zero => exact hx | succ i => cases i with | zero => exact hx | succ i => cases hx))
          have HBE := Lib.hid HB.out
          clear HL HB HR6 hHeld
          go_wp2_with fail
          go_meet
          exact ⟨rfl, HE.out, HBE.out⟩
    case rest =>
      obtain ⟨rfl, hml, hbw⟩ := hcut
      clear HL HB HVP HR6
      have HL := Lib.hid hml
      have HB := Lib.hid hbw
      clear hml hbw
      have k0 := HL.out.c0 0 rfl
      have k1 := HL.out.c1 0 rfl
      go_wp2_with fail
      clear k0 k1
      refine (ordL HS.out HL.out 0 rfl).mono ?_
      rintro e w88 ⟨he, hb⟩
      rw [show ordV (p : Int) 2 (M2 0 1 1 0) 0 = (2, 0) by have := HP.out; subst this; exact nam_ord] at he
      obtain rfl := he
      replace HL := Lib.hid (HL.out.below hb)
      replace HB := Lib.hid (HB.out.trans (hb.mono HB.out.size))
      clear hb
      have k0 := HL.out.c0 0 rfl
      have k1 := HL.out.c1 0 rfl
      go_wp2_with fail
      clear k0 k1
      refine (Perm_ok _ p 2 (M2 0 1 1 0) _ HS.out (HL.out 0 _ rfl).2.1 (HL.out 0 _ rfl).2.2).mono ?_
      rintro e w89 h
      obtain ⟨r, rfl, hv⟩ := h.2.2.2 (by rw [HP.out]; decide) (by have := HP.out; subst this; exact nam_detb)
      have hb := h.1
      rw [show p ^ 2 = 25 by rw [HP.out]] at hv
      obtain ⟨Aq, cq, rfl, -⟩ := hv.form
      clear h
      replace HL := Lib.hid (HL.out.below hb)
      replace HB := Lib.hid (HB.out.trans (hb.mono HB.out.size))
      have HPV := Lib.hid hv.new_lt
      clear hv hb
      have hO := of2 w89 1 1 0 1
      go_wp2_with fail
      generalize ((w89.alloc (.cells #[.int .i64 1, .int .i64 1] 3)).alloc (.cells #[.int .i64 0, .int .i64 1] 3)).alloc (.cells #[.slice (some ⟨w89.heap.size, 0, none⟩) 2 2, .slice (some ⟨w89.heap.size + 1, 0, none⟩) 2 2] 23) = w90 at hO ⊢
      obtain ⟨hg, hb, hz⟩ := hO
      replace HL := Lib.hid (HL.out.below hb)
      replace HB := Lib.hid (HB.out.trans (hb.mono HB.out.size))
      replace HPV := Lib.hid (HPV.out.on hb)
      have GO := Lib.hid hg.new_lt
      clear hg hb hz
      generalize w89.heap.size + 1 + 1 = go at GO ⊢
      refine (Order_any (.slice (some ⟨go, 0, none⟩) 2 2) 2 (fun _ => 2) (M2 1 1 0 1) 9973 w90 (by omega) (fun _ _ => by omega) GO.out 0 (chkS_0 (chkM_full (p := 9973) big_mod (by omega) (by omega) (by omega) (by omega) big_in) rfl).symm).mono ?_
      rintro e w91 ⟨he, hb⟩
      rw [big_ord] at he
      obtain rfl := he
      clear GO
      replace HL := Lib.hid (HL.out.below hb)
      replace HB := Lib.hid (HB.out.trans (hb.mono HB.out.size))
      replace HPV := Lib.hid (HPV.out.on hb)
      clear hb
      have e1 := ((((row_new (W := w91) rfl 3 #[.int .i64 1, .int .i64 0, .int .i64 0, .int .i64 0]).alloc (.cells #[.int .i64 0, .int .i64 1, .int .i64 0, .int .i64 0] 3)).alloc (.cells #[.int .i64 0, .int .i64 0, .int .i64 1, .int .i64 0] 3)).alloc (.cells #[.int .i64 0, .int .i64 0, .int .i64 0, .int .i64 1] 3)).alloc (.cells #[.slice (some ⟨w91.heap.size, 0, none⟩) 4 4, .slice (some ⟨w91.heap.size + 1, 0, none⟩) 4 4, .slice (some ⟨w91.heap.size + 1 + 1, 0, none⟩) 4 4, .slice (some ⟨w91.heap.size + 1 + 1 + 1, 0, none⟩) 4 4] 23)
      have e2 := (((row_new (W := w91.alloc (.cells #[.int .i64 1, .int .i64 0, .int .i64 0, .int .i64 0] 3)) (g := w91.heap.size + 1) (by simp) 3 #[.int .i64 0, .int .i64 1, .int .i64 0, .int .i64 0]).alloc (.cells #[.int .i64 0, .int .i64 0, .int .i64 1, .int .i64 0] 3)).alloc (.cells #[.int .i64 0, .int .i64 0, .int .i64 0, .int .i64 1] 3)).alloc (.cells #[.slice (some ⟨w91.heap.size, 0, none⟩) 4 4, .slice (some ⟨w91.heap.size + 1, 0, none⟩) 4 4, .slice (some ⟨w91.heap.size + 1 + 1, 0, none⟩) 4 4, .slice (some ⟨w91.heap.size + 1 + 1 + 1, 0, none⟩) 4 4] 23)
      have e3 := ((row_new (W := (w91.alloc (.cells #[.int .i64 1, .int .i64 0, .int .i64 0, .int .i64 0] 3)).alloc (.cells #[.int .i64 0, .int .i64 1, .int .i64 0, .int .i64 0] 3)) (g := w91.heap.size + 1 + 1) (by simp) 3 #[.int .i64 0, .int .i64 0, .int .i64 1, .int .i64 0]).alloc (.cells #[.int .i64 0, .int .i64 0, .int .i64 0, .int .i64 1] 3)).alloc (.cells #[.slice (some ⟨w91.heap.size, 0, none⟩) 4 4, .slice (some ⟨w91.heap.size + 1, 0, none⟩) 4 4, .slice (some ⟨w91.heap.size + 1 + 1, 0, none⟩) 4 4, .slice (some ⟨w91.heap.size + 1 + 1 + 1, 0, none⟩) 4 4] 23)
      have e4 := (row_new (W := ((w91.alloc (.cells #[.int .i64 1, .int .i64 0, .int .i64 0, .int .i64 0] 3)).alloc (.cells #[.int .i64 0, .int .i64 1, .int .i64 0, .int .i64 0] 3)).alloc (.cells #[.int .i64 0, .int .i64 0, .int .i64 1, .int .i64 0] 3)) (g := w91.heap.size + 1 + 1 + 1) (by simp) 3 #[.int .i64 0, .int .i64 0, .int .i64 0, .int .i64 1]).alloc (.cells #[.slice (some ⟨w91.heap.size, 0, none⟩) 4 4, .slice (some ⟨w91.heap.size + 1, 0, none⟩) 4 4, .slice (some ⟨w91.heap.size + 1 + 1, 0, none⟩) 4 4, .slice (some ⟨w91.heap.size + 1 + 1 + 1, 0, none⟩) 4 4] 23)
      have e5 := row_new (W := ((((w91.alloc (.cells #[.int .i64 1, .int .i64 0, .int .i64 0, .int .i64 0] 3)).alloc (.cells #[.int .i64 0, .int .i64 1, .int .i64 0, .int .i64 0] 3)).alloc (.cells #[.int .i64 0, .int .i64 0, .int .i64 1, .int .i64 0] 3)).alloc (.cells #[.int .i64 0, .int .i64 0, .int .i64 0, .int .i64 1] 3))) (g := w91.heap.size + 1 + 1 + 1 + 1) (by simp) 23 #[.slice (some ⟨w91.heap.size, 0, none⟩) 4 4, .slice (some ⟨w91.heap.size + 1, 0, none⟩) 4 4, .slice (some ⟨w91.heap.size + 1 + 1, 0, none⟩) 4 4, .slice (some ⟨w91.heap.size + 1 + 1 + 1, 0, none⟩) 4 4]
      have hz : (((((w91.alloc (.cells #[.int .i64 1, .int .i64 0, .int .i64 0, .int .i64 0] 3)).alloc (.cells #[.int .i64 0, .int .i64 1, .int .i64 0, .int .i64 0] 3)).alloc (.cells #[.int .i64 0, .int .i64 0, .int .i64 1, .int .i64 0] 3)).alloc (.cells #[.int .i64 0, .int .i64 0, .int .i64 0, .int .i64 1] 3)).alloc (.cells #[.slice (some ⟨w91.heap.size, 0, none⟩) 4 4, .slice (some ⟨w91.heap.size + 1, 0, none⟩) 4 4, .slice (some ⟨w91.heap.size + 1 + 1, 0, none⟩) 4 4, .slice (some ⟨w91.heap.size + 1 + 1 + 1, 0, none⟩) 4 4] 23)).heap.size = w91.heap.size + 1 + 1 + 1 + 1 + 1 := by simp
      have hb : Below w91.heap.size w91 (((((w91.alloc (.cells #[.int .i64 1, .int .i64 0, .int .i64 0, .int .i64 0] 3)).alloc (.cells #[.int .i64 0, .int .i64 1, .int .i64 0, .int .i64 0] 3)).alloc (.cells #[.int .i64 0, .int .i64 0, .int .i64 1, .int .i64 0] 3)).alloc (.cells #[.int .i64 0, .int .i64 0, .int .i64 0, .int .i64 1] 3)).alloc (.cells #[.slice (some ⟨w91.heap.size, 0, none⟩) 4 4, .slice (some ⟨w91.heap.size + 1, 0, none⟩) 4 4, .slice (some ⟨w91.heap.size + 1 + 1, 0, none⟩) 4 4, .slice (some ⟨w91.heap.size + 1 + 1 + 1, 0, none⟩) 4 4] 23)) := (((((Below.refl _ _).alloc (Nat.le_refl _) _).alloc (by simp) _).alloc (by simp; omega) _).alloc (by simp; omega) _).alloc (by simp; omega) _
      go_wp2_with fail
      generalize ((((w91.alloc (.cells #[.int .i64 1, .int .i64 0, .int .i64 0, .int .i64 0] 3)).alloc (.cells #[.int .i64 0, .int .i64 1, .int .i64 0, .int .i64 0] 3)).alloc (.cells #[.int .i64 0, .int .i64 0, .int .i64 1, .int .i64 0] 3)).alloc (.cells #[.int .i64 0, .int .i64 0, .int .i64 0, .int .i64 1] 3)).alloc (.cells #[.slice (some ⟨w91.heap.size, 0, none⟩) 4 4, .slice (some ⟨w91.heap.size + 1, 0, none⟩) 4 4, .slice (some ⟨w91.heap.size + 1 + 1, 0, none⟩) 4 4, .slice (some ⟨w91.heap.size + 1 + 1 + 1, 0, none⟩) 4 4] 23) = w92 at e1 e2 e3 e4 e5 hz hb ⊢
      have G4 := Lib.hid (Grid.new_lt (of4 (w := w91) (W := w92) (r := fun i => w91.heap.size + i) (f := oneF) (g := w91.heap.size + 1 + 1 + 1 + 1) (fun i hi => by
        rcases (by omega : i = 0 ∨ i = 1 ∨ i = 2 ∨ i = 3) with rfl | rfl | rfl | rfl
        · exact ⟨e1, ⟨by omega, by omega⟩⟩
        · exact ⟨e2, ⟨by omega, by omega⟩⟩
        · exact ⟨e3, ⟨by omega, by omega⟩⟩
        · exact ⟨e4, ⟨by omega, by omega⟩⟩) e5 ⟨by omega, by omega⟩))
      replace HL := Lib.hid (HL.out.below hb)
      replace HB := Lib.hid (HB.out.trans (hb.mono HB.out.size))
      replace HPV := Lib.hid (HPV.out.on hb)
      clear e1 e2 e3 e4 e5 hz hb
      generalize w91.heap.size + 1 + 1 + 1 + 1 = g4 at G4 ⊢
      refine (Perm_ok _ 3 4 oneF _ ⟨nam_mod3, by omega, by omega⟩ G4.out (oneF_in (by omega))).mono ?_
      rintro e w93 h
      obtain rfl := h.2.1 (by decide)
      have hb := h.1
      clear h G4
      replace HL := Lib.hid (HL.out.below hb)
      replace HB := Lib.hid (HB.out.trans (hb.mono HB.out.size))
      replace HPV := Lib.hid (HPV.out.on hb)
      clear hb
      have hO := of1 w93 60
      go_wp2_with fail
      generalize (w93.alloc (.cells #[.int .i64 60] 3)).alloc (.cells #[.slice (some ⟨w93.heap.size, 0, none⟩) 1 1] 23) = w94 at hO ⊢
      obtain ⟨hg, hb⟩ := hO
      have G1 := Lib.hid hg.new_lt
      replace HL := Lib.hid (HL.out.below hb)
      replace HB := Lib.hid (HB.out.trans (hb.mono HB.out.size))
      replace HPV := Lib.hid (HPV.out.on hb)
      clear hg hb
      generalize w93.heap.size + 1 = g1 at G1 ⊢
      refine (Perm_ok _ 61 1 (fun _ _ => 60) _ ⟨nam_mod61, by omega, by omega⟩ G1.out (fun i _ j _ => ⟨by show (0 : Int) ≤ 60; omega, by show (60 : Int) < 61; omega⟩)).mono ?_
      rintro e w95 h
      obtain ⟨r, rfl, hv⟩ := h.2.2.2 (by decide) nam_det61
      have hb := h.1
      rw [show 61 ^ 1 = 61 from rfl] at hv
      obtain ⟨b61, o61, c61, rfl, -, hb61, hcell⟩ := hv.at_ (by decide)
      have hq1 := hcell 1 (by decide)
      rw [nam_perm61] at hq1
      obtain ⟨A7, hr7, hV7⟩ := cut_preP HPV.out (k := 7) (by omega)
      have hr7 : ∀ W, (Instr.slice 70 (.slice Aq 25 cq) none (some (.int .i64 7)) none).run Try.prog W = .ok (.slice A7 7 cq) W := hr7
      have hV7 := Lib.hid (hV7.on hb)
      clear h G1 hcell
      replace HL := Lib.hid (HL.out.below hb)
      replace HB := Lib.hid (HB.out.trans (hb.mono HB.out.size))
      clear hb HPV hv
      have hr0 := row_new (W := w95) rfl 3 #[.int .i64 0, .int .i64 5, .int .i64 10, .int .i64 15, .int .i64 20, .int .i64 1, .int .i64 6]
      have hba : Below w95.heap.size w95 (w95.alloc (.cells #[.int .i64 0, .int .i64 5, .int .i64 10, .int .i64 15, .int .i64 20, .int .i64 1, .int .i64 6] 3)) := (Below.refl _ _).alloc (Nat.le_refl _) _
      have hq2 := (hba.cell (p := ⟨b61, o61 + 1, none⟩) hb61.2).trans hq1
      go_wp2_with fail
      clear hr7
      generalize w95.alloc (.cells #[.int .i64 0, .int .i64 5, .int .i64 10, .int .i64 15, .int .i64 20, .int .i64 1, .int .i64 6] 3) = w96 at hr0 hba hq2 ⊢
      replace hV7 := Lib.hid (hV7.out.on hba)
      have HQ := Lib.hid (row_v7 (S := (· < w96.heap.size)) hr0 hr0.lt)
      refine (row_same _ _ 7 _ _ _ _ _ (by omega) hV7.out HQ.out).mono ?_
      rintro e wq ⟨rfl, kq, rfl⟩
      rw [show eqB 7 (permF p 2 (M2 0 1 1 0)) V7 = true by have := HP.out; subst this; exact nam_perm]
      replace HL := Lib.hid (HL.out.below hba)
      replace HB := Lib.hid (HB.out.trans (hba.mono HB.out.size))
      have hbq := below_drewN (Below.refl w96.heap.size w96) kq
      have hq3 : (w96.drewN kq).cell? ⟨b61, o61 + 1, none⟩ = some (.int .i64 60) := hq2
      replace HL := Lib.hid (HL.out.below hbq)
      replace HB := Lib.hid (HB.out.trans (hbq.mono HB.out.size))
      clear hbq hba hr0 HQ hV7 hq1 hq2
      generalize w96.drewN kq = w20 at HL HB hq3 ⊢
      go_upto_region 21 with fail
      go_cut [35] from 259 to 265 (fun s wx => s = .int .i64 10 ∧ ML wx (p : Int) 2 [⟨Bb, some ⟨gb, 0, none⟩, 2, M2 0 1 1 0⟩, ⟨Ba, some ⟨ga, 0, none⟩, 2, M2 1 2 3 4⟩] ∧ Below w.heap.size w wx)
      case first =>
        have hbd : Below w20.heap.size w20 w20.drew := below_drew (Below.refl _ _)
        replace HL := Lib.hid (HL.out.below hbd)
        replace HB := Lib.hid (HB.out.trans (hbd.mono HB.out.size))
        clear hbd
        refine wp_region_held_drew (S := (fun W => W.cell? ⟨Ba, 0, none⟩ = some (.int .i64 p) ∧ W.cell? ⟨Ba, 1, none⟩ = some (.slice (some ⟨ga, 0, none⟩) 2 2))) (by as_aux_lemma => kernel_rfl) ⟨HL.out.c0 1 rfl, HL.out.c1 1 rfl⟩ (fun hHeld => ?_)
        generalize w20.drew = W0 at HL HB hHeld ⊢
        refine takeH (i := 0) (v := (.agg #[.int .i64 p, .slice (some ⟨ga, 0, none⟩) 2 2])) rfl rfl (by as_aux_lemma => kernel_rfl) (by as_aux_lemma => kernel_rfl) (by as_aux_lemma => kernel_rfl) (fun _ _ _ h => h) (by rfl) (fun W hW => by (obtain ⟨q0, q1⟩ := hW); go_simp) (by assumption) ?_
        simp only [List.setIfInBounds_toArray, List.set_cons_zero, List.set_cons_succ]
        refine wpAnyH_ready (rs := [1, 8]) (by as_aux_lemma => kernel_rfl) (by simp) ?_
        refine (AllReadyH.cons rfl (fun K hK => ?_) (AllReadyH.cons rfl (fun K hK => ?_) AllReadyH.nil))
        · go_simp
          have hr0 := row_new (W := W0) rfl 3 #[.int .i64 1, .int .i64 2, .int .i64 3]
          have hba : Below W0.heap.size W0 (W0.alloc (.cells #[.int .i64 1, .int .i64 2, .int .i64 3] 3)) := (Below.refl _ _).alloc (Nat.le_refl _) _
          replace HL := Lib.hid (HL.out.below hba)
          replace HB := Lib.hid (HB.out.trans (hba.mono HB.out.size))
          clear hba
          refine hK.out _ _ ⟨HL.out.c0 1 rfl, HL.out.c1 1 rfl⟩ (fun hHeld => ?_)
          clear hK K
          try simp only [Act.put, List.setIfInBounds_toArray, List.set_cons_zero, List.set_cons_succ]
          generalize W0.alloc (.cells #[.int .i64 1, .int .i64 2, .int .i64 3] 3) = w97 at HL HB hr0 hHeld ⊢
          generalize W0.heap.size = gr at hr0 ⊢
          have RR := Lib.hid hr0
          clear hr0
          refine wpAnyH_ready (rs := [2, 8]) (by as_aux_lemma => kernel_rfl) (by simp) ?_
          refine (AllReadyH.cons rfl (fun K hK => ?_) (AllReadyH.cons rfl (fun K hK => ?_) AllReadyH.nil))
          · go_simp
            have hr0 := row_new (W := w97) rfl 23 #[.slice (some ⟨gr, 0, none⟩) 3 3]
            have hba : Below w97.heap.size w97 (w97.alloc (.cells #[.slice (some ⟨gr, 0, none⟩) 3 3] 23)) := (Below.refl _ _).alloc (Nat.le_refl _) _
            replace HL := Lib.hid (HL.out.below hba)
            replace HB := Lib.hid (HB.out.trans (hba.mono HB.out.size))
            replace RR := Lib.hid (RR.out.below hba RR.out.lt)
            clear hba
            refine hK.out _ _ ⟨HL.out.c0 1 rfl, HL.out.c1 1 rfl⟩ (fun hHeld => ?_)
            clear hK K
            try simp only [Act.put, List.setIfInBounds_toArray, List.set_cons_zero, List.set_cons_succ]
            generalize w97.alloc (.cells #[.slice (some ⟨gr, 0, none⟩) 3 3] 23) = w98 at HL HB RR hr0 hHeld ⊢
            generalize w97.heap.size = gh at hr0 ⊢
            have G3 := Lib.hid (of3 (S := (· < w98.heap.size)) RR.out hr0 RR.out.lt hr0.lt)
            clear hr0 RR
            refine wpAnyH_ready (rs := [3, 8]) (by as_aux_lemma => kernel_rfl) (by simp) ?_
            refine (AllReadyH.cons rfl (fun K hK => ?_) (AllReadyH.cons rfl (fun K hK => ?_) AllReadyH.nil))
            · go_simp
              go_at_call 54
              refine (HOF.out _ _ _ _).mono ?_
              rintro e w99 ⟨rfl, hb⟩
              replace HL := Lib.hid (HL.out.below hb)
              replace HB := Lib.hid (HB.out.trans (hb.mono HB.out.size))
              replace G3 := Lib.hid (G3.out.on hb)
              clear hb
              refine hK.out _ _ ⟨HL.out.c0 1 rfl, HL.out.c1 1 rfl⟩ (fun hHeld => ?_)
              clear hK K
              try simp only [Act.put, List.setIfInBounds_toArray, List.set_cons_zero, List.set_cons_succ]
              refine wpAnyH_ready (rs := [4, 8]) (by as_aux_lemma => kernel_rfl) (by simp) ?_
              refine (AllReadyH.cons rfl (fun K hK => ?_) (AllReadyH.cons rfl (fun K hK => ?_) AllReadyH.nil))
              · go_simp
                go_at_call 67
                refine (Mul_any (.slice (some ⟨ga, 0, none⟩) 2 2) (.slice (some ⟨gh, 0, none⟩) 1 1) 2 1 (fun _ => 2) (fun _ => 3) (M2 1 2 3 4) (fun _ => V3 1 2 3) p p w99 (by omega) (fun _ _ => by omega) (by omega) (fun _ _ => by omega) (HL.out 1 _ rfl).2.1 G3.out 0 (chkP_0 (HS.out.chk (HL.out 1 _ rfl).2.2) (by rw [HP.out]; exact nam_c3) rfl).symm).mono ?_
                rintro e w100 h
                obtain ⟨rfl, hb⟩ := h.2.1 rfl (by decide)
                clear h G3
                replace HL := Lib.hid (HL.out.below hb)
                replace HB := Lib.hid (HB.out.trans (hb.mono HB.out.size))
                clear hb
                refine hK.out _ _ ⟨HL.out.c0 1 rfl, HL.out.c1 1 rfl⟩ (fun hHeld => ?_)
                clear hK K
                try simp only [Act.put, List.setIfInBounds_toArray, List.set_cons_zero, List.set_cons_succ]
                refine takeH (i := 5) (v := (.tuple #[.agg #[.int .i64 0, .slice none 0 0], .int .i64 10])) rfl rfl (by as_aux_lemma => kernel_rfl) (by as_aux_lemma => kernel_rfl) (by as_aux_lemma => kernel_rfl) (fun _ _ _ h => h) (by rfl) (fun W hW => by (skip); go_simp) (by assumption) ?_
                simp only [List.setIfInBounds_toArray, List.set_cons_zero, List.set_cons_succ]
                refine takeH (i := 6) (v := (.agg #[.int .i64 0, .slice none 0 0])) rfl rfl (by as_aux_lemma => kernel_rfl) (by as_aux_lemma => kernel_rfl) (by as_aux_lemma => kernel_rfl) (fun _ _ _ h => h) (by rfl) (fun W hW => by (skip); go_simp) (by assumption) ?_
                simp only [List.setIfInBounds_toArray, List.set_cons_zero, List.set_cons_succ]
                refine takeH (i := 7) (v := (.int .i64 10)) rfl rfl (by as_aux_lemma => kernel_rfl) (by as_aux_lemma => kernel_rfl) (by as_aux_lemma => kernel_rfl) (fun _ _ _ h => h) (by rfl) (fun W hW => by (skip); go_simp) (by assumption) ?_
                simp only [List.setIfInBounds_toArray, List.set_cons_zero, List.set_cons_succ]
                refine wpAnyH_ready (rs := [8]) (by as_aux_lemma => kernel_rfl) (by simp) ?_
                refine (AllReadyH.cons rfl (fun K hK => ?_) AllReadyH.nil)
                go_simp
                have HLZ := Lib.hid HL.out
                have BZ := Lib.hid ((Below.refl w100.heap.size w100))
                have HZ2 := Lib.hid (Nat.le_refl w100.heap.size)
                have HZW := Lib.hid HB.out.size
                have hr0 := row_new (W := w100) rfl 58 #[.int .i64 0, .slice none 0 0]
                have hba : Below w100.heap.size w100 (w100.alloc (.cells #[.int .i64 0, .slice none 0 0] 58)) := (Below.refl _ _).alloc (Nat.le_refl _) _
                replace HL := Lib.hid (HL.out.below hba)
                replace HB := Lib.hid (HB.out.trans (hba.mono HB.out.size))
                replace BZ := Lib.hid (BZ.out.trans (hba.mono BZ.out.size))
                clear hba
                refine hK.out _ _ ⟨HL.out.c0 1 rfl, HL.out.c1 1 rfl⟩ (fun hHeld => ?_)
                clear hK K
                try simp only [Act.put, List.setIfInBounds_toArray, List.set_cons_zero, List.set_cons_succ]
                generalize w100.alloc (.cells #[.int .i64 0, .slice none 0 0] 58) = w101 at HL HB BZ hr0 hHeld ⊢
                generalize hbz : w100.heap.size = Bz at hr0 HZ2 HZW ⊢
                replace HZ2 := Lib.hid (show w100.heap.size ≤ Bz by omega)
                clear hbz
                have RZ := Lib.hid hr0
                clear hr0
                have r0 := RZ.out.cell (i := 0) rfl
                have r1 := RZ.out.cell (i := 1) rfl
                have y0 := RZ.out.frozen 0
                have y1 := RZ.out.frozen 1
                have hbz := (BZ.out.setCell (p := ⟨Bz, 0, none⟩) HZ2.out (.int .i64 0)).setCell (p := ⟨Bz, 1, none⟩) HZ2.out (.slice none 0 0)
                replace HB := Lib.hid ((HB.out.setCell (p := ⟨Bz, 0, none⟩) HZW.out (.int .i64 0)).setCell (p := ⟨Bz, 1, none⟩) HZW.out (.slice none 0 0))
                replace HL := Lib.hid (HLZ.out.below hbz)
                clear hbz BZ RZ
                refine wpAnyH_ready (rs := [9]) (by as_aux_lemma => kernel_rfl) (by simp) ?_
                refine (AllReadyH.cons rfl (fun K hK => ?_) AllReadyH.nil)
                go_simp
                refine hK.out _ _ ⟨HL.out.c0 1 rfl, HL.out.c1 1 rfl⟩ (fun hHeld => ?_)
                clear hK K
                try simp only [Act.put, List.setIfInBounds_toArray, List.set_cons_zero, List.set_cons_succ]
                clear r0 r1 y0 y1
                refine takeH (i := 10) (v := (.int .i64 10)) rfl rfl (by as_aux_lemma => kernel_rfl) (by as_aux_lemma => kernel_rfl) (by as_aux_lemma => kernel_rfl) (fun _ _ _ h => h) (by rfl) (fun W hW => by (skip); go_simp) (by assumption) ?_
                simp only [List.setIfInBounds_toArray, List.set_cons_zero, List.set_cons_succ]
                refine wpAnyH_done (by as_aux_lemma => kernel_rfl) ?_ _
                have HE := Lib.hid HL.out
                have HBE := Lib.hid HB.out
                clear HL HB hHeld
                go_wp2_with fail
                go_meet
                exact ⟨rfl, HE.out, HBE.out⟩
              · go_simp
                have HLZ := Lib.hid HL.out
                have BZ := Lib.hid ((Below.refl w99.heap.size w99))
                have HZ2 := Lib.hid (Nat.le_refl w99.heap.size)
                have HZW := Lib.hid HB.out.size
                have hr0 := row_new (W := w99) rfl 58 #[.int .i64 0, .slice none 0 0]
                have hba : Below w99.heap.size w99 (w99.alloc (.cells #[.int .i64 0, .slice none 0 0] 58)) := (Below.refl _ _).alloc (Nat.le_refl _) _
                replace HL := Lib.hid (HL.out.below hba)
                replace HB := Lib.hid (HB.out.trans (hba.mono HB.out.size))
                replace G3 := Lib.hid (G3.out.on hba)
                replace BZ := Lib.hid (BZ.out.trans (hba.mono BZ.out.size))
                clear hba
                refine hK.out _ _ ⟨HL.out.c0 1 rfl, HL.out.c1 1 rfl⟩ (fun hHeld => ?_)
                clear hK K
                try simp only [Act.put, List.setIfInBounds_toArray, List.set_cons_zero, List.set_cons_succ]
                generalize w99.alloc (.cells #[.int .i64 0, .slice none 0 0] 58) = w102 at HL HB G3 BZ hr0 hHeld ⊢
                generalize hbz : w99.heap.size = Bz at hr0 HZ2 HZW ⊢
                replace HZ2 := Lib.hid (show w99.heap.size ≤ Bz by omega)
                clear hbz
                have RZ := Lib.hid hr0
                clear hr0
                refine wpAnyH_ready (rs := [4]) (by as_aux_lemma => kernel_rfl) (by simp) ?_
                refine (AllReadyH.cons rfl (fun K hK => ?_) AllReadyH.nil)
                go_simp
                go_at_call 67
                refine (Mul_any (.slice (some ⟨ga, 0, none⟩) 2 2) (.slice (some ⟨gh, 0, none⟩) 1 1) 2 1 (fun _ => 2) (fun _ => 3) (M2 1 2 3 4) (fun _ => V3 1 2 3) p p w102 (by omega) (fun _ _ => by omega) (by omega) (fun _ _ => by omega) (HL.out 1 _ rfl).2.1 G3.out 0 (chkP_0 (HS.out.chk (HL.out 1 _ rfl).2.2) (by rw [HP.out]; exact nam_c3) rfl).symm).mono ?_
                rintro e w103 h
                obtain ⟨rfl, hb⟩ := h.2.1 rfl (by decide)
                clear h G3
                replace HL := Lib.hid (HL.out.below hb)
                replace HB := Lib.hid (HB.out.trans (hb.mono HB.out.size))
                replace BZ := Lib.hid (BZ.out.trans (hb.mono BZ.out.size))
                replace RZ := Lib.hid (RZ.out.below hb RZ.out.lt)
                clear hb
                refine hK.out _ _ ⟨HL.out.c0 1 rfl, HL.out.c1 1 rfl⟩ (fun hHeld => ?_)
                clear hK K
                try simp only [Act.put, List.setIfInBounds_toArray, List.set_cons_zero, List.set_cons_succ]
                refine takeH (i := 5) (v := (.tuple #[.agg #[.int .i64 0, .slice none 0 0], .int .i64 10])) rfl rfl (by as_aux_lemma => kernel_rfl) (by as_aux_lemma => kernel_rfl) (by as_aux_lemma => kernel_rfl) (fun _ _ _ h => h) (by rfl) (fun W hW => by (skip); go_simp) (by assumption) ?_
                simp only [List.setIfInBounds_toArray, List.set_cons_zero, List.set_cons_succ]
                refine takeH (i := 6) (v := (.agg #[.int .i64 0, .slice none 0 0])) rfl rfl (by as_aux_lemma => kernel_rfl) (by as_aux_lemma => kernel_rfl) (by as_aux_lemma => kernel_rfl) (fun _ _ _ h => h) (by rfl) (fun W hW => by (skip); go_simp) (by assumption) ?_
                simp only [List.setIfInBounds_toArray, List.set_cons_zero, List.set_cons_succ]
                refine takeH (i := 7) (v := (.int .i64 10)) rfl rfl (by as_aux_lemma => kernel_rfl) (by as_aux_lemma => kernel_rfl) (by as_aux_lemma => kernel_rfl) (fun _ _ _ h => h) (by rfl) (fun W hW => by (skip); go_simp) (by assumption) ?_
                simp only [List.setIfInBounds_toArray, List.set_cons_zero, List.set_cons_succ]
                have r0 := RZ.out.cell (i := 0) rfl
                have r1 := RZ.out.cell (i := 1) rfl
                have y0 := RZ.out.frozen 0
                have y1 := RZ.out.frozen 1
                have hbz := (BZ.out.setCell (p := ⟨Bz, 0, none⟩) HZ2.out (.int .i64 0)).setCell (p := ⟨Bz, 1, none⟩) HZ2.out (.slice none 0 0)
                replace HB := Lib.hid ((HB.out.setCell (p := ⟨Bz, 0, none⟩) HZW.out (.int .i64 0)).setCell (p := ⟨Bz, 1, none⟩) HZW.out (.slice none 0 0))
                replace HL := Lib.hid (HLZ.out.below hbz)
                clear hbz BZ RZ
                refine wpAnyH_ready (rs := [9]) (by as_aux_lemma => kernel_rfl) (by simp) ?_
                refine (AllReadyH.cons rfl (fun K hK => ?_) AllReadyH.nil)
                go_simp
                refine hK.out _ _ ⟨HL.out.c0 1 rfl, HL.out.c1 1 rfl⟩ (fun hHeld => ?_)
                clear hK K
                try simp only [Act.put, List.setIfInBounds_toArray, List.set_cons_zero, List.set_cons_succ]
                clear r0 r1 y0 y1
                refine takeH (i := 10) (v := (.int .i64 10)) rfl rfl (by as_aux_lemma => kernel_rfl) (by as_aux_lemma => kernel_rfl) (by as_aux_lemma => kernel_rfl) (fun _ _ _ h => h) (by rfl) (fun W hW => by (skip); go_simp) (by assumption) ?_
                simp only [List.setIfInBounds_toArray, List.set_cons_zero, List.set_cons_succ]
                refine wpAnyH_done (by as_aux_lemma => kernel_rfl) ?_ _
                have HE := Lib.hid HL.out
                have HBE := Lib.hid HB.out
                clear HL HB hHeld
                go_wp2_with fail
                go_meet
                exact ⟨rfl, HE.out, HBE.out⟩
            · go_simp
              have HLZ := Lib.hid HL.out
              have BZ := Lib.hid ((Below.refl w98.heap.size w98))
              have HZ2 := Lib.hid (Nat.le_refl w98.heap.size)
              have HZW := Lib.hid HB.out.size
              have hr0 := row_new (W := w98) rfl 58 #[.int .i64 0, .slice none 0 0]
              have hba : Below w98.heap.size w98 (w98.alloc (.cells #[.int .i64 0, .slice none 0 0] 58)) := (Below.refl _ _).alloc (Nat.le_refl _) _
              replace HL := Lib.hid (HL.out.below hba)
              replace HB := Lib.hid (HB.out.trans (hba.mono HB.out.size))
              replace G3 := Lib.hid (G3.out.on hba)
              replace BZ := Lib.hid (BZ.out.trans (hba.mono BZ.out.size))
              clear hba
              refine hK.out _ _ ⟨HL.out.c0 1 rfl, HL.out.c1 1 rfl⟩ (fun hHeld => ?_)
              clear hK K
              try simp only [Act.put, List.setIfInBounds_toArray, List.set_cons_zero, List.set_cons_succ]
              generalize w98.alloc (.cells #[.int .i64 0, .slice none 0 0] 58) = w104 at HL HB G3 BZ hr0 hHeld ⊢
              generalize hbz : w98.heap.size = Bz at hr0 HZ2 HZW ⊢
              replace HZ2 := Lib.hid (show w98.heap.size ≤ Bz by omega)
              clear hbz
              have RZ := Lib.hid hr0
              clear hr0
              refine wpAnyH_ready (rs := [3]) (by as_aux_lemma => kernel_rfl) (by simp) ?_
              refine (AllReadyH.cons rfl (fun K hK => ?_) AllReadyH.nil)
              go_simp
              go_at_call 54
              refine (HOF.out _ _ _ _).mono ?_
              rintro e w105 ⟨rfl, hb⟩
              replace HL := Lib.hid (HL.out.below hb)
              replace HB := Lib.hid (HB.out.trans (hb.mono HB.out.size))
              replace G3 := Lib.hid (G3.out.on hb)
              replace BZ := Lib.hid (BZ.out.trans (hb.mono BZ.out.size))
              replace RZ := Lib.hid (RZ.out.below hb RZ.out.lt)
              clear hb
              refine hK.out _ _ ⟨HL.out.c0 1 rfl, HL.out.c1 1 rfl⟩ (fun hHeld => ?_)
              clear hK K
              try simp only [Act.put, List.setIfInBounds_toArray, List.set_cons_zero, List.set_cons_succ]
              refine wpAnyH_ready (rs := [4]) (by as_aux_lemma => kernel_rfl) (by simp) ?_
              refine (AllReadyH.cons rfl (fun K hK => ?_) AllReadyH.nil)
              go_simp
              go_at_call 67
              refine (Mul_any (.slice (some ⟨ga, 0, none⟩) 2 2) (.slice (some ⟨gh, 0, none⟩) 1 1) 2 1 (fun _ => 2) (fun _ => 3) (M2 1 2 3 4) (fun _ => V3 1 2 3) p p w105 (by omega) (fun _ _ => by omega) (by omega) (fun _ _ => by omega) (HL.out 1 _ rfl).2.1 G3.out 0 (chkP_0 (HS.out.chk (HL.out 1 _ rfl).2.2) (by rw [HP.out]; exact nam_c3) rfl).symm).mono ?_
              rintro e w106 h
              obtain ⟨rfl, hb⟩ := h.2.1 rfl (by decide)
              clear h G3
              replace HL := Lib.hid (HL.out.below hb)
              replace HB := Lib.hid (HB.out.trans (hb.mono HB.out.size))
              replace BZ := Lib.hid (BZ.out.trans (hb.mono BZ.out.size))
              replace RZ := Lib.hid (RZ.out.below hb RZ.out.lt)
              clear hb
              refine hK.out _ _ ⟨HL.out.c0 1 rfl, HL.out.c1 1 rfl⟩ (fun hHeld => ?_)
              clear hK K
              try simp only [Act.put, List.setIfInBounds_toArray, List.set_cons_zero, List.set_cons_succ]
              refine takeH (i := 5) (v := (.tuple #[.agg #[.int .i64 0, .slice none 0 0], .int .i64 10])) rfl rfl (by as_aux_lemma => kernel_rfl) (by as_aux_lemma => kernel_rfl) (by as_aux_lemma => kernel_rfl) (fun _ _ _ h => h) (by rfl) (fun W hW => by (skip); go_simp) (by assumption) ?_
              simp only [List.setIfInBounds_toArray, List.set_cons_zero, List.set_cons_succ]
              refine takeH (i := 6) (v := (.agg #[.int .i64 0, .slice none 0 0])) rfl rfl (by as_aux_lemma => kernel_rfl) (by as_aux_lemma => kernel_rfl) (by as_aux_lemma => kernel_rfl) (fun _ _ _ h => h) (by rfl) (fun W hW => by (skip); go_simp) (by assumption) ?_
              simp only [List.setIfInBounds_toArray, List.set_cons_zero, List.set_cons_succ]
              refine takeH (i := 7) (v := (.int .i64 10)) rfl rfl (by as_aux_lemma => kernel_rfl) (by as_aux_lemma => kernel_rfl) (by as_aux_lemma => kernel_rfl) (fun _ _ _ h => h) (by rfl) (fun W hW => by (skip); go_simp) (by assumption) ?_
              simp only [List.setIfInBounds_toArray, List.set_cons_zero, List.set_cons_succ]
              have r0 := RZ.out.cell (i := 0) rfl
              have r1 := RZ.out.cell (i := 1) rfl
              have y0 := RZ.out.frozen 0
              have y1 := RZ.out.frozen 1
              have hbz := (BZ.out.setCell (p := ⟨Bz, 0, none⟩) HZ2.out (.int .i64 0)).setCell (p := ⟨Bz, 1, none⟩) HZ2.out (.slice none 0 0)
              replace HB := Lib.hid ((HB.out.setCell (p := ⟨Bz, 0, none⟩) HZW.out (.int .i64 0)).setCell (p := ⟨Bz, 1, none⟩) HZW.out (.slice none 0 0))
              replace HL := Lib.hid (HLZ.out.below hbz)
              clear hbz BZ RZ
              refine wpAnyH_ready (rs := [9]) (by as_aux_lemma => kernel_rfl) (by simp) ?_
              refine (AllReadyH.cons rfl (fun K hK => ?_) AllReadyH.nil)
              go_simp
              refine hK.out _ _ ⟨HL.out.c0 1 rfl, HL.out.c1 1 rfl⟩ (fun hHeld => ?_)
              clear hK K
              try simp only [Act.put, List.setIfInBounds_toArray, List.set_cons_zero, List.set_cons_succ]
              clear r0 r1 y0 y1
              refine takeH (i := 10) (v := (.int .i64 10)) rfl rfl (by as_aux_lemma => kernel_rfl) (by as_aux_lemma => kernel_rfl) (by as_aux_lemma => kernel_rfl) (fun _ _ _ h => h) (by rfl) (fun W hW => by (skip); go_simp) (by assumption) ?_
              simp only [List.setIfInBounds_toArray, List.set_cons_zero, List.set_cons_succ]
              refine wpAnyH_done (by as_aux_lemma => kernel_rfl) ?_ _
              have HE := Lib.hid HL.out
              have HBE := Lib.hid HB.out
              clear HL HB hHeld
              go_wp2_with fail
              go_meet
              exact ⟨rfl, HE.out, HBE.out⟩
          · go_simp
            have HLZ := Lib.hid HL.out
            have BZ := Lib.hid ((Below.refl w97.heap.size w97))
            have HZ2 := Lib.hid (Nat.le_refl w97.heap.size)
            have HZW := Lib.hid HB.out.size
            have hr0 := row_new (W := w97) rfl 58 #[.int .i64 0, .slice none 0 0]
            have hba : Below w97.heap.size w97 (w97.alloc (.cells #[.int .i64 0, .slice none 0 0] 58)) := (Below.refl _ _).alloc (Nat.le_refl _) _
            replace HL := Lib.hid (HL.out.below hba)
            replace HB := Lib.hid (HB.out.trans (hba.mono HB.out.size))
            replace RR := Lib.hid (RR.out.below hba RR.out.lt)
            replace BZ := Lib.hid (BZ.out.trans (hba.mono BZ.out.size))
            clear hba
            refine hK.out _ _ ⟨HL.out.c0 1 rfl, HL.out.c1 1 rfl⟩ (fun hHeld => ?_)
            clear hK K
            try simp only [Act.put, List.setIfInBounds_toArray, List.set_cons_zero, List.set_cons_succ]
            generalize w97.alloc (.cells #[.int .i64 0, .slice none 0 0] 58) = w107 at HL HB RR BZ hr0 hHeld ⊢
            generalize hbz : w97.heap.size = Bz at hr0 HZ2 HZW ⊢
            replace HZ2 := Lib.hid (show w97.heap.size ≤ Bz by omega)
            clear hbz
            have RZ := Lib.hid hr0
            clear hr0
            refine wpAnyH_ready (rs := [2]) (by as_aux_lemma => kernel_rfl) (by simp) ?_
            refine (AllReadyH.cons rfl (fun K hK => ?_) AllReadyH.nil)
            go_simp
            have hr0 := row_new (W := w107) rfl 23 #[.slice (some ⟨gr, 0, none⟩) 3 3]
            have hba : Below w107.heap.size w107 (w107.alloc (.cells #[.slice (some ⟨gr, 0, none⟩) 3 3] 23)) := (Below.refl _ _).alloc (Nat.le_refl _) _
            replace HL := Lib.hid (HL.out.below hba)
            replace HB := Lib.hid (HB.out.trans (hba.mono HB.out.size))
            replace RR := Lib.hid (RR.out.below hba RR.out.lt)
            replace BZ := Lib.hid (BZ.out.trans (hba.mono BZ.out.size))
            replace RZ := Lib.hid (RZ.out.below hba RZ.out.lt)
            clear hba
            refine hK.out _ _ ⟨HL.out.c0 1 rfl, HL.out.c1 1 rfl⟩ (fun hHeld => ?_)
            clear hK K
            try simp only [Act.put, List.setIfInBounds_toArray, List.set_cons_zero, List.set_cons_succ]
            generalize w107.alloc (.cells #[.slice (some ⟨gr, 0, none⟩) 3 3] 23) = w108 at HL HB RR BZ RZ hr0 hHeld ⊢
            generalize w107.heap.size = gh at hr0 ⊢
            have G3 := Lib.hid (of3 (S := (· < w108.heap.size)) RR.out hr0 RR.out.lt hr0.lt)
            clear hr0 RR
            refine wpAnyH_ready (rs := [3]) (by as_aux_lemma => kernel_rfl) (by simp) ?_
            refine (AllReadyH.cons rfl (fun K hK => ?_) AllReadyH.nil)
            go_simp
            go_at_call 54
            refine (HOF.out _ _ _ _).mono ?_
            rintro e w109 ⟨rfl, hb⟩
            replace HL := Lib.hid (HL.out.below hb)
            replace HB := Lib.hid (HB.out.trans (hb.mono HB.out.size))
            replace BZ := Lib.hid (BZ.out.trans (hb.mono BZ.out.size))
            replace RZ := Lib.hid (RZ.out.below hb RZ.out.lt)
            replace G3 := Lib.hid (G3.out.on hb)
            clear hb
            refine hK.out _ _ ⟨HL.out.c0 1 rfl, HL.out.c1 1 rfl⟩ (fun hHeld => ?_)
            clear hK K
            try simp only [Act.put, List.setIfInBounds_toArray, List.set_cons_zero, List.set_cons_succ]
            refine wpAnyH_ready (rs := [4]) (by as_aux_lemma => kernel_rfl) (by simp) ?_
            refine (AllReadyH.cons rfl (fun K hK => ?_) AllReadyH.nil)
            go_simp
            go_at_call 67
            refine (Mul_any (.slice (some ⟨ga, 0, none⟩) 2 2) (.slice (some ⟨gh, 0, none⟩) 1 1) 2 1 (fun _ => 2) (fun _ => 3) (M2 1 2 3 4) (fun _ => V3 1 2 3) p p w109 (by omega) (fun _ _ => by omega) (by omega) (fun _ _ => by omega) (HL.out 1 _ rfl).2.1 G3.out 0 (chkP_0 (HS.out.chk (HL.out 1 _ rfl).2.2) (by rw [HP.out]; exact nam_c3) rfl).symm).mono ?_
            rintro e w110 h
            obtain ⟨rfl, hb⟩ := h.2.1 rfl (by decide)
            clear h G3
            replace HL := Lib.hid (HL.out.below hb)
            replace HB := Lib.hid (HB.out.trans (hb.mono HB.out.size))
            replace BZ := Lib.hid (BZ.out.trans (hb.mono BZ.out.size))
            replace RZ := Lib.hid (RZ.out.below hb RZ.out.lt)
            clear hb
            refine hK.out _ _ ⟨HL.out.c0 1 rfl, HL.out.c1 1 rfl⟩ (fun hHeld => ?_)
            clear hK K
            try simp only [Act.put, List.setIfInBounds_toArray, List.set_cons_zero, List.set_cons_succ]
            refine takeH (i := 5) (v := (.tuple #[.agg #[.int .i64 0, .slice none 0 0], .int .i64 10])) rfl rfl (by as_aux_lemma => kernel_rfl) (by as_aux_lemma => kernel_rfl) (by as_aux_lemma => kernel_rfl) (fun _ _ _ h => h) (by rfl) (fun W hW => by (skip); go_simp) (by assumption) ?_
            simp only [List.setIfInBounds_toArray, List.set_cons_zero, List.set_cons_succ]
            refine takeH (i := 6) (v := (.agg #[.int .i64 0, .slice none 0 0])) rfl rfl (by as_aux_lemma => kernel_rfl) (by as_aux_lemma => kernel_rfl) (by as_aux_lemma => kernel_rfl) (fun _ _ _ h => h) (by rfl) (fun W hW => by (skip); go_simp) (by assumption) ?_
            simp only [List.setIfInBounds_toArray, List.set_cons_zero, List.set_cons_succ]
            refine takeH (i := 7) (v := (.int .i64 10)) rfl rfl (by as_aux_lemma => kernel_rfl) (by as_aux_lemma => kernel_rfl) (by as_aux_lemma => kernel_rfl) (fun _ _ _ h => h) (by rfl) (fun W hW => by (skip); go_simp) (by assumption) ?_
            simp only [List.setIfInBounds_toArray, List.set_cons_zero, List.set_cons_succ]
            have r0 := RZ.out.cell (i := 0) rfl
            have r1 := RZ.out.cell (i := 1) rfl
            have y0 := RZ.out.frozen 0
            have y1 := RZ.out.frozen 1
            have hbz := (BZ.out.setCell (p := ⟨Bz, 0, none⟩) HZ2.out (.int .i64 0)).setCell (p := ⟨Bz, 1, none⟩) HZ2.out (.slice none 0 0)
            replace HB := Lib.hid ((HB.out.setCell (p := ⟨Bz, 0, none⟩) HZW.out (.int .i64 0)).setCell (p := ⟨Bz, 1, none⟩) HZW.out (.slice none 0 0))
            replace HL := Lib.hid (HLZ.out.below hbz)
            clear hbz BZ RZ
            refine wpAnyH_ready (rs := [9]) (by as_aux_lemma => kernel_rfl) (by simp) ?_
            refine (AllReadyH.cons rfl (fun K hK => ?_) AllReadyH.nil)
            go_simp
            refine hK.out _ _ ⟨HL.out.c0 1 rfl, HL.out.c1 1 rfl⟩ (fun hHeld => ?_)
            clear hK K
            try simp only [Act.put, List.setIfInBounds_toArray, List.set_cons_zero, List.set_cons_succ]
            clear r0 r1 y0 y1
            refine takeH (i := 10) (v := (.int .i64 10)) rfl rfl (by as_aux_lemma => kernel_rfl) (by as_aux_lemma => kernel_rfl) (by as_aux_lemma => kernel_rfl) (fun _ _ _ h => h) (by rfl) (fun W hW => by (skip); go_simp) (by assumption) ?_
            simp only [List.setIfInBounds_toArray, List.set_cons_zero, List.set_cons_succ]
            refine wpAnyH_done (by as_aux_lemma => kernel_rfl) ?_ _
            have HE := Lib.hid HL.out
            have HBE := Lib.hid HB.out
            clear HL HB hHeld
            go_wp2_with fail
            go_meet
            exact ⟨rfl, HE.out, HBE.out⟩
        · go_simp
          have HLZ := Lib.hid HL.out
          have BZ := Lib.hid ((Below.refl W0.heap.size W0))
          have HZ2 := Lib.hid (Nat.le_refl W0.heap.size)
          have HZW := Lib.hid HB.out.size
          have hr0 := row_new (W := W0) rfl 58 #[.int .i64 0, .slice none 0 0]
          have hba : Below W0.heap.size W0 (W0.alloc (.cells #[.int .i64 0, .slice none 0 0] 58)) := (Below.refl _ _).alloc (Nat.le_refl _) _
          replace HL := Lib.hid (HL.out.below hba)
          replace HB := Lib.hid (HB.out.trans (hba.mono HB.out.size))
          replace BZ := Lib.hid (BZ.out.trans (hba.mono BZ.out.size))
          clear hba
          refine hK.out _ _ ⟨HL.out.c0 1 rfl, HL.out.c1 1 rfl⟩ (fun hHeld => ?_)
          clear hK K
          try simp only [Act.put, List.setIfInBounds_toArray, List.set_cons_zero, List.set_cons_succ]
          generalize W0.alloc (.cells #[.int .i64 0, .slice none 0 0] 58) = w111 at HL HB BZ hr0 hHeld ⊢
          generalize hbz : W0.heap.size = Bz at hr0 HZ2 HZW ⊢
          replace HZ2 := Lib.hid (show W0.heap.size ≤ Bz by omega)
          clear hbz
          have RZ := Lib.hid hr0
          clear hr0
          refine wpAnyH_ready (rs := [1]) (by as_aux_lemma => kernel_rfl) (by simp) ?_
          refine (AllReadyH.cons rfl (fun K hK => ?_) AllReadyH.nil)
          go_simp
          have hr0 := row_new (W := w111) rfl 3 #[.int .i64 1, .int .i64 2, .int .i64 3]
          have hba : Below w111.heap.size w111 (w111.alloc (.cells #[.int .i64 1, .int .i64 2, .int .i64 3] 3)) := (Below.refl _ _).alloc (Nat.le_refl _) _
          replace HL := Lib.hid (HL.out.below hba)
          replace HB := Lib.hid (HB.out.trans (hba.mono HB.out.size))
          replace BZ := Lib.hid (BZ.out.trans (hba.mono BZ.out.size))
          replace RZ := Lib.hid (RZ.out.below hba RZ.out.lt)
          clear hba
          refine hK.out _ _ ⟨HL.out.c0 1 rfl, HL.out.c1 1 rfl⟩ (fun hHeld => ?_)
          clear hK K
          try simp only [Act.put, List.setIfInBounds_toArray, List.set_cons_zero, List.set_cons_succ]
          generalize w111.alloc (.cells #[.int .i64 1, .int .i64 2, .int .i64 3] 3) = w112 at HL HB BZ RZ hr0 hHeld ⊢
          generalize w111.heap.size = gr at hr0 ⊢
          have RR := Lib.hid hr0
          clear hr0
          refine wpAnyH_ready (rs := [2]) (by as_aux_lemma => kernel_rfl) (by simp) ?_
          refine (AllReadyH.cons rfl (fun K hK => ?_) AllReadyH.nil)
          go_simp
          have hr0 := row_new (W := w112) rfl 23 #[.slice (some ⟨gr, 0, none⟩) 3 3]
          have hba : Below w112.heap.size w112 (w112.alloc (.cells #[.slice (some ⟨gr, 0, none⟩) 3 3] 23)) := (Below.refl _ _).alloc (Nat.le_refl _) _
          replace HL := Lib.hid (HL.out.below hba)
          replace HB := Lib.hid (HB.out.trans (hba.mono HB.out.size))
          replace BZ := Lib.hid (BZ.out.trans (hba.mono BZ.out.size))
          replace RZ := Lib.hid (RZ.out.below hba RZ.out.lt)
          replace RR := Lib.hid (RR.out.below hba RR.out.lt)
          clear hba
          refine hK.out _ _ ⟨HL.out.c0 1 rfl, HL.out.c1 1 rfl⟩ (fun hHeld => ?_)
          clear hK K
          try simp only [Act.put, List.setIfInBounds_toArray, List.set_cons_zero, List.set_cons_succ]
          generalize w112.alloc (.cells #[.slice (some ⟨gr, 0, none⟩) 3 3] 23) = w113 at HL HB BZ RZ RR hr0 hHeld ⊢
          generalize w112.heap.size = gh at hr0 ⊢
          have G3 := Lib.hid (of3 (S := (· < w113.heap.size)) RR.out hr0 RR.out.lt hr0.lt)
          clear hr0 RR
          refine wpAnyH_ready (rs := [3]) (by as_aux_lemma => kernel_rfl) (by simp) ?_
          refine (AllReadyH.cons rfl (fun K hK => ?_) AllReadyH.nil)
          go_simp
          go_at_call 54
          refine (HOF.out _ _ _ _).mono ?_
          rintro e w114 ⟨rfl, hb⟩
          replace HL := Lib.hid (HL.out.below hb)
          replace HB := Lib.hid (HB.out.trans (hb.mono HB.out.size))
          replace BZ := Lib.hid (BZ.out.trans (hb.mono BZ.out.size))
          replace RZ := Lib.hid (RZ.out.below hb RZ.out.lt)
          replace G3 := Lib.hid (G3.out.on hb)
          clear hb
          refine hK.out _ _ ⟨HL.out.c0 1 rfl, HL.out.c1 1 rfl⟩ (fun hHeld => ?_)
          clear hK K
          try simp only [Act.put, List.setIfInBounds_toArray, List.set_cons_zero, List.set_cons_succ]
          refine wpAnyH_ready (rs := [4]) (by as_aux_lemma => kernel_rfl) (by simp) ?_
          refine (AllReadyH.cons rfl (fun K hK => ?_) AllReadyH.nil)
          go_simp
          go_at_call 67
          refine (Mul_any (.slice (some ⟨ga, 0, none⟩) 2 2) (.slice (some ⟨gh, 0, none⟩) 1 1) 2 1 (fun _ => 2) (fun _ => 3) (M2 1 2 3 4) (fun _ => V3 1 2 3) p p w114 (by omega) (fun _ _ => by omega) (by omega) (fun _ _ => by omega) (HL.out 1 _ rfl).2.1 G3.out 0 (chkP_0 (HS.out.chk (HL.out 1 _ rfl).2.2) (by rw [HP.out]; exact nam_c3) rfl).symm).mono ?_
          rintro e w115 h
          obtain ⟨rfl, hb⟩ := h.2.1 rfl (by decide)
          clear h G3
          replace HL := Lib.hid (HL.out.below hb)
          replace HB := Lib.hid (HB.out.trans (hb.mono HB.out.size))
          replace BZ := Lib.hid (BZ.out.trans (hb.mono BZ.out.size))
          replace RZ := Lib.hid (RZ.out.below hb RZ.out.lt)
          clear hb
          refine hK.out _ _ ⟨HL.out.c0 1 rfl, HL.out.c1 1 rfl⟩ (fun hHeld => ?_)
          clear hK K
          try simp only [Act.put, List.setIfInBounds_toArray, List.set_cons_zero, List.set_cons_succ]
          refine takeH (i := 5) (v := (.tuple #[.agg #[.int .i64 0, .slice none 0 0], .int .i64 10])) rfl rfl (by as_aux_lemma => kernel_rfl) (by as_aux_lemma => kernel_rfl) (by as_aux_lemma => kernel_rfl) (fun _ _ _ h => h) (by rfl) (fun W hW => by (skip); go_simp) (by assumption) ?_
          simp only [List.setIfInBounds_toArray, List.set_cons_zero, List.set_cons_succ]
          refine takeH (i := 6) (v := (.agg #[.int .i64 0, .slice none 0 0])) rfl rfl (by as_aux_lemma => kernel_rfl) (by as_aux_lemma => kernel_rfl) (by as_aux_lemma => kernel_rfl) (fun _ _ _ h => h) (by rfl) (fun W hW => by (skip); go_simp) (by assumption) ?_
          simp only [List.setIfInBounds_toArray, List.set_cons_zero, List.set_cons_succ]
          refine takeH (i := 7) (v := (.int .i64 10)) rfl rfl (by as_aux_lemma => kernel_rfl) (by as_aux_lemma => kernel_rfl) (by as_aux_lemma => kernel_rfl) (fun _ _ _ h => h) (by rfl) (fun W hW => by (skip); go_simp) (by assumption) ?_
          simp only [List.setIfInBounds_toArray, List.set_cons_zero, List.set_cons_succ]
          have r0 := RZ.out.cell (i := 0) rfl
          have r1 := RZ.out.cell (i := 1) rfl
          have y0 := RZ.out.frozen 0
          have y1 := RZ.out.frozen 1
          have hbz := (BZ.out.setCell (p := ⟨Bz, 0, none⟩) HZ2.out (.int .i64 0)).setCell (p := ⟨Bz, 1, none⟩) HZ2.out (.slice none 0 0)
          replace HB := Lib.hid ((HB.out.setCell (p := ⟨Bz, 0, none⟩) HZW.out (.int .i64 0)).setCell (p := ⟨Bz, 1, none⟩) HZW.out (.slice none 0 0))
          replace HL := Lib.hid (HLZ.out.below hbz)
          clear hbz BZ RZ
          refine wpAnyH_ready (rs := [9]) (by as_aux_lemma => kernel_rfl) (by simp) ?_
          refine (AllReadyH.cons rfl (fun K hK => ?_) AllReadyH.nil)
          go_simp
          refine hK.out _ _ ⟨HL.out.c0 1 rfl, HL.out.c1 1 rfl⟩ (fun hHeld => ?_)
          clear hK K
          try simp only [Act.put, List.setIfInBounds_toArray, List.set_cons_zero, List.set_cons_succ]
          clear r0 r1 y0 y1
          refine takeH (i := 10) (v := (.int .i64 10)) rfl rfl (by as_aux_lemma => kernel_rfl) (by as_aux_lemma => kernel_rfl) (by as_aux_lemma => kernel_rfl) (fun _ _ _ h => h) (by rfl) (fun W hW => by (skip); go_simp) (by assumption) ?_
          simp only [List.setIfInBounds_toArray, List.set_cons_zero, List.set_cons_succ]
          refine wpAnyH_done (by as_aux_lemma => kernel_rfl) ?_ _
          have HE := Lib.hid HL.out
          have HBE := Lib.hid HB.out
          clear HL HB hHeld
          go_wp2_with fail
          go_meet
          exact ⟨rfl, HE.out, HBE.out⟩
      case rest =>
        obtain ⟨rfl, hml, hbw⟩ := hcut
        clear HL HB
        have HB := Lib.hid hbw
        clear hml hbw
        go_wp2_with fail
        refine (One_any 64 2 _).mono ?_
        rintro e w116 h
        obtain ⟨r, rfl, hg, hb⟩ := h.2 (by unfold chk1; rw [if_neg (by rw [show modB 2 = true from nam_mod2]; simp), if_neg (by unfold sizeB; decide)])
        obtain ⟨A7, c7, rfl, -⟩ := hg.form
        replace hg : Grid w116 (· < w116.heap.size) (.slice A7 64 c7) 64 (fun _ => 64) oneF := hg.new_lt
        clear h
        replace HB := Lib.hid (HB.out.trans (hb.mono HB.out.size))
        have G7 := Lib.hid hg
        clear hg hb
        have hba : Below w116.heap.size w116 (w116.alloc (.cells #[.int .i64 2, .slice A7 64 c7] 58)) := (Below.refl _ _).alloc (Nat.le_refl _) _
        have R7 := Lib.hid (row_new (W := w116) rfl 58 #[.int .i64 2, .slice A7 64 c7])
        replace HB := Lib.hid (HB.out.trans (hba.mono HB.out.size))
        replace G7 := Lib.hid (G7.out.on hba)
        clear hba
        go_wp2_with fail
        generalize w116.alloc (.cells #[.int .i64 2, .slice A7 64 c7] 58) = wa2 at HB G7 R7 ⊢
        generalize w116.heap.size = B7 at R7 ⊢
        refine (One_any 65 2 _).mono ?_
        rintro e w117 h
        obtain ⟨rfl, hb⟩ := h.1 (by rw [show chk1 65 2 = 2 from by unfold chk1; rw [if_neg (by rw [show modB 2 = true from nam_mod2]; simp), if_pos (by unfold sizeB; decide)]]; decide)
        clear h
        rw [show chk1 65 2 = 2 from by unfold chk1; rw [if_neg (by rw [show modB 2 = true from nam_mod2]; simp), if_pos (by unfold sizeB; decide)]]
        replace HB := Lib.hid (HB.out.trans (hb.mono HB.out.size))
        replace G7 := Lib.hid (G7.out.on hb)
        replace R7 := Lib.hid (R7.out.below hb R7.out.lt)
        clear hb
        have hba : Below w117.heap.size w117 (w117.alloc (.cells #[.int .i64 0, .slice none 0 0] 58)) := (Below.refl _ _).alloc (Nat.le_refl _) _
        replace HB := Lib.hid (HB.out.trans (hba.mono HB.out.size))
        replace G7 := Lib.hid (G7.out.on hba)
        replace R7 := Lib.hid (R7.out.below hba R7.out.lt)
        clear hba
        go_wp2_with fail
        generalize w117.alloc (.cells #[.int .i64 0, .slice none 0 0] 58) = wb2 at HB G7 R7 ⊢
        refine (One_any 2 10007 _).mono ?_
        rintro e w118 h
        obtain ⟨rfl, hb⟩ := h.1 (by rw [show chk1 2 10007 = 3 from by unfold chk1; rw [if_pos nam_mod10007]]; decide)
        clear h
        rw [show chk1 2 10007 = 3 from by unfold chk1; rw [if_pos nam_mod10007]]
        replace HB := Lib.hid (HB.out.trans (hb.mono HB.out.size))
        replace G7 := Lib.hid (G7.out.on hb)
        replace R7 := Lib.hid (R7.out.below hb R7.out.lt)
        clear hb
        have hba : Below w118.heap.size w118 (w118.alloc (.cells #[.int .i64 0, .slice none 0 0] 58)) := (Below.refl _ _).alloc (Nat.le_refl _) _
        replace HB := Lib.hid (HB.out.trans (hba.mono HB.out.size))
        replace G7 := Lib.hid (G7.out.on hba)
        replace R7 := Lib.hid (R7.out.below hba R7.out.lt)
        clear hba
        have hO := of1 (w118.alloc (.cells #[.int .i64 0, .slice none 0 0] 58)) 1
        rw [show (w118.alloc (.cells #[.int .i64 0, .slice none 0 0] 58)).heap.size = w118.heap.size + 1 by simp] at hO
        go_wp2_with fail
        generalize ((w118.alloc (.cells #[.int .i64 0, .slice none 0 0] 58)).alloc (.cells #[.int .i64 1] 3)).alloc (.cells #[.slice (some ⟨w118.heap.size + 1, 0, none⟩) 1 1] 23) = w119 at hO ⊢
        obtain ⟨hg, hb⟩ := hO
        replace hb : Below (w118.alloc (.cells #[.int .i64 0, .slice none 0 0] 58)).heap.size (w118.alloc (.cells #[.int .i64 0, .slice none 0 0] 58)) w119 := by rw [show (w118.alloc (.cells #[.int .i64 0, .slice none 0 0] 58)).heap.size = w118.heap.size + 1 by simp]; exact hb
        replace HB := Lib.hid (HB.out.trans (hb.mono HB.out.size))
        replace G7 := Lib.hid (G7.out.on hb)
        replace R7 := Lib.hid (R7.out.below hb R7.out.lt)
        have GC := Lib.hid hg.new_lt
        clear hg hb
        generalize w118.heap.size + 1 + 1 = gc at GC ⊢
        refine (Check_any (.slice (some ⟨gc, 0, none⟩) 1 1) 1 (fun _ => 1) (fun _ _ => 1) 4 _ (by omega) (fun _ _ => by omega) GC.out).mono ?_
        rintro e w120 ⟨rfl, hb⟩
        rw [chkM_mod nam_mod4]
        clear GC
        replace HB := Lib.hid (HB.out.trans (hb.mono HB.out.size))
        replace G7 := Lib.hid (G7.out.on hb)
        replace R7 := Lib.hid (R7.out.below hb R7.out.lt)
        clear hb
        go_wp2_with fail
        refine (HOF.out _ _ _ _).mono ?_
        rintro e w121 ⟨rfl, hb⟩
        replace HB := Lib.hid (HB.out.trans (hb.mono HB.out.size))
        replace G7 := Lib.hid (G7.out.on hb)
        replace R7 := Lib.hid (R7.out.below hb R7.out.lt)
        clear hb
        go_wp2_with fail
        refine (Check_any (.slice none 0 0) 0 (fun _ => 0) (fun _ _ => 0) p _ (by omega) (fun _ _ => by omega) ⟨none, 0, rfl, Nat.le_refl _, fun h => absurd h (by omega)⟩).mono ?_
        rintro e w122 ⟨rfl, hb⟩
        rw [chkM_size HS.out.hp (by omega)]
        replace HB := Lib.hid (HB.out.trans (hb.mono HB.out.size))
        replace G7 := Lib.hid (G7.out.on hb)
        replace R7 := Lib.hid (R7.out.below hb R7.out.lt)
        clear hb
        have hr0 := row_new (W := w122) rfl 23 #[.slice none 0 0]
        have hba : Below w122.heap.size w122 (w122.alloc (.cells #[.slice none 0 0] 23)) := (Below.refl _ _).alloc (Nat.le_refl _) _
        go_wp2_with fail
        generalize w122.alloc (.cells #[.slice none 0 0] 23) = w123 at hr0 hba ⊢
        replace HB := Lib.hid (HB.out.trans (hba.mono HB.out.size))
        replace G7 := Lib.hid (G7.out.on hba)
        replace R7 := Lib.hid (R7.out.below hba R7.out.lt)
        generalize w122.heap.size = gc at hr0 ⊢
        have GC := Lib.hid (of0 (S := (· < w123.heap.size)) hr0 hr0.lt)
        clear hr0 hba
        refine (HOF.out _ _ _ _).mono ?_
        rintro e w124 ⟨rfl, hb⟩
        replace HB := Lib.hid (HB.out.trans (hb.mono HB.out.size))
        replace G7 := Lib.hid (G7.out.on hb)
        replace R7 := Lib.hid (R7.out.below hb R7.out.lt)
        replace GC := Lib.hid (GC.out.on hb)
        clear hb
        go_wp2_with fail
        refine (Check_any (.slice (some ⟨gc, 0, none⟩) 1 1) 1 (fun _ => 0) (fun _ _ => 0) p _ (by omega) (fun _ _ => by omega) GC.out).mono ?_
        rintro e w125 ⟨rfl, hb⟩
        rw [chkM_size HS.out.hp (by omega)]
        clear GC
        replace HB := Lib.hid (HB.out.trans (hb.mono HB.out.size))
        replace G7 := Lib.hid (G7.out.on hb)
        replace R7 := Lib.hid (R7.out.below hb R7.out.lt)
        clear hb
        have e1 := ((row_new (W := w125) rfl 3 #[.int .i64 1, .int .i64 2]).alloc (.cells #[.int .i64 3] 3)).alloc (.cells #[.slice (some ⟨w125.heap.size, 0, none⟩) 2 2, .slice (some ⟨w125.heap.size + 1, 0, none⟩) 1 1] 23)
        have e2 := (row_new (W := w125.alloc (.cells #[.int .i64 1, .int .i64 2] 3)) (g := w125.heap.size + 1) (by simp) 3 #[.int .i64 3]).alloc (.cells #[.slice (some ⟨w125.heap.size, 0, none⟩) 2 2, .slice (some ⟨w125.heap.size + 1, 0, none⟩) 1 1] 23)
        have e3 := row_new (W := (w125.alloc (.cells #[.int .i64 1, .int .i64 2] 3)).alloc (.cells #[.int .i64 3] 3)) (g := w125.heap.size + 1 + 1) (by simp) 23 #[.slice (some ⟨w125.heap.size, 0, none⟩) 2 2, .slice (some ⟨w125.heap.size + 1, 0, none⟩) 1 1]
        have hba : Below w125.heap.size w125 (((w125.alloc (.cells #[.int .i64 1, .int .i64 2] 3)).alloc (.cells #[.int .i64 3] 3)).alloc (.cells #[.slice (some ⟨w125.heap.size, 0, none⟩) 2 2, .slice (some ⟨w125.heap.size + 1, 0, none⟩) 1 1] 23)) := (((Below.refl _ _).alloc (Nat.le_refl _) _).alloc (by simp) _).alloc (by simp; omega) _
        go_wp2_with fail
        generalize ((w125.alloc (.cells #[.int .i64 1, .int .i64 2] 3)).alloc (.cells #[.int .i64 3] 3)).alloc (.cells #[.slice (some ⟨w125.heap.size, 0, none⟩) 2 2, .slice (some ⟨w125.heap.size + 1, 0, none⟩) 1 1] 23) = w126 at e1 e2 e3 hba ⊢
        replace HB := Lib.hid (HB.out.trans (hba.mono HB.out.size))
        replace G7 := Lib.hid (G7.out.on hba)
        replace R7 := Lib.hid (R7.out.below hba R7.out.lt)
        have GC := Lib.hid (of21 (S := (· < w126.heap.size)) e1 e2 e3 e1.lt e2.lt e3.lt)
        clear e1 e2 e3 hba
        generalize w125.heap.size + 1 + 1 = gc at GC ⊢
        refine (HOF.out _ _ _ _).mono ?_
        rintro e w127 ⟨rfl, hb⟩
        replace HB := Lib.hid (HB.out.trans (hb.mono HB.out.size))
        replace G7 := Lib.hid (G7.out.on hb)
        replace R7 := Lib.hid (R7.out.below hb R7.out.lt)
        replace GC := Lib.hid (GC.out.on hb)
        clear hb
        go_wp2_with fail
        refine (Check_any (.slice (some ⟨gc, 0, none⟩) 2 2) 2 (fun i => 2 - i) (fun i j => if i = 0 then V2 1 2 j else 3) p _ (by omega) (fun _ _ => by omega) GC.out).mono ?_
        rintro e w128 ⟨rfl, hb⟩
        rw [show chkM (p : Int) 2 (fun i => 2 - i) (fun i j => if i = 0 then V2 1 2 j else 3) = 3 by rw [HP.out]; exact nam_c21]
        clear GC
        replace HB := Lib.hid (HB.out.trans (hb.mono HB.out.size))
        replace G7 := Lib.hid (G7.out.on hb)
        replace R7 := Lib.hid (R7.out.below hb R7.out.lt)
        clear hb
        have k0 := R7.out.cell (i := 0) rfl
        have k1 := R7.out.cell (i := 1) rfl
        go_wp2_with fail
        clear k0 k1
        refine (Check_any (.slice A7 64 c7) 64 (fun _ => 64) oneF 2 _ (by omega) (fun _ _ => by omega) G7.out).mono ?_
        rintro e w129 ⟨rfl, hb⟩
        rw [show chkM 2 64 (fun _ => 64) oneF = 0 from chkM_full (p := 2) nam_mod2 (by omega) (by omega) (by omega) (by omega) (oneF_in (by omega))]
        replace HB := Lib.hid (HB.out.trans (hb.mono HB.out.size))
        replace G7 := Lib.hid (G7.out.on hb)
        replace R7 := Lib.hid (R7.out.below hb R7.out.lt)
        clear hb
        have k0 := R7.out.cell (i := 0) rfl
        have k1 := R7.out.cell (i := 1) rfl
        go_wp2_with fail
        go_ret
        exact ⟨rfl, HB.out⟩
end Go.Proofs.Ythdilpaffcidmaa
