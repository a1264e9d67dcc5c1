/- cayleylaw05.LinearMeets. -/
import Derived.Test.YtikggkahlpplpaaLBasLaw
import Derived.Test.YtikggkahlpplpaaLMeetN
namespace Go.Proofs.Ytikggkahlpplpaa
open Go Go.RowKit Num

/-- A drawn list, its own. -/
structure OwnB (w5 : World) (t : Nat) (v : Value) (k n : Nat) (G : Nat → Nat → Int) (rs : Nat → Value) (X : World) : Prop where
  own : X.ownsRow w5.heap.size 22 1 v k ((List.range k).map rs)
  row : ∀ i, i < k → Vec X (fun b => Far t X b ∧ v.ownBlock ≠ some b) (rs i) n (G i)
theorem ownB_of {w : World} {t : Nat} {A : Option Addr} {c N : Nat} {z : Nat → Int} {n : Nat} {p : Int} {k : Nat} {v : Value} {g cc : Nat → Nat} {F : Nat → Nat → Int} {X : World} (h : DrO w t A c N z n p k v g cc F X) (ht : t < w.heap.size) : OwnB w t v k n F (fun i => .slice (some ⟨g i, 0, none⟩) n (cc i)) X := by
  refine ⟨h.own, fun i hi => ?_⟩
  obtain ⟨h1, h2, h3, _⟩ := h.row i hi
  refine h1.vec h2 _ ⟨⟨by omega, h1.lt⟩, fun e => ?_⟩
  obtain ⟨cs, h4, _⟩ := h1
  rcases h.own.2 with ⟨rfl, _⟩ | ⟨g3, cap3, cur3, rfl, _, hgb, _⟩
  · cases e
  · injection e with e
    have e' : g3 = g i := e
    rw [e', show X.heap[g i]? = _ from h4] at hgb
    cases hgb
theorem OwnB.turn {w5 X Y : World} {t : Nat} {v : Value} {k n : Nat} {G : Nat → Nat → Int} {rs : Nat → Value} (h : OwnB w5 t v k n G rs X) (ht : t < w5.heap.size) (hu : Turn (· = t) X Y) : OwnB w5 t v k n G rs Y :=
  ⟨own_turn h.own hu (fun b e (e2 : b = t) => by have := (h.own.lt b e).1; omega), fun i hi => ((h.row i hi).turn hu (fun b hb (e : b = t) => by have := hb.1.1; omega)).more fun b hb => ⟨⟨hb.1.1, Nat.lt_of_lt_of_le hb.1.2 hu.size⟩, hb.2⟩⟩
theorem OwnB.grid {w5 X : World} {t : Nat} {v : Value} {k n : Nat} {G : Nat → Nat → Int} {rs : Nat → Value} (h : OwnB w5 t v k n G rs X) (ht : t < w5.heap.size) : Grid X (Far t X) v k (fun _ => n) G := by
  rcases h.own.2 with ⟨rfl, hz⟩ | ⟨gb, cap, cur, rfl, hbase, hgbk, r1, r2, r3, r4⟩
  · exact ⟨none, 0, by rw [hz], by omega, fun h => absurd h (by omega)⟩
  · refine ⟨_, cap, rfl, r1, fun _ => ⟨gb, 0, rfl, ⟨by omega, (Array.getElem?_eq_some_iff.1 hgbk).1⟩, fun i hi => ?_⟩⟩
    have h1 : ((List.range k).map rs)[i]? = some (rs i) := by simp [hi]
    rw [← r4, List.getElem?_take_of_lt (by omega)] at h1
    exact ⟨_, by rw [Nat.zero_add]; exact Row.cell (show Row X gb 22 cur from hgbk) (by rw [← Array.getElem?_toList]; exact h1), (h.row i hi).more fun b hb => hb.1⟩
/-- The last row that is appended. -/
def lastF (k : Nat) (G : Nat → Nat → Int) (f : Nat → Int) (i : Nat) : Nat → Int := if i < k then G i else f
theorem OwnB.next {w5 X X2 : World} {t : Nat} {v v2 cv : Value} {k n : Nat} {G : Nat → Nat → Int} {f : Nat → Int} {rs : Nat → Value} (h : OwnB w5 t v k n G rs X) (ht : t < w5.heap.size) (hc : Vec X (fun b => Far t X b ∧ v.ownBlock ≠ some b) cv n f) (o : Obj)
    (hown : X2.ownsRow w5.heap.size 22 1 v2 (k + 1) ((List.range k).map rs ++ [cv])) (hg : (X.alloc o).grownBy X2 v.ownBlock) :
    Grid X2 (Far t X2) v2 (k + 1) (fun _ => n) (lastF k G f) ∧ Vec X2 (Far t X2) cv n f ∧ Turn (fun b => v.ownBlock = some b) X X2 := by
  have ht2 : Turn (fun b => v.ownBlock = some b) X X2 := ⟨hg.os, hg.tape, hg.output, Nat.le_trans (by simp) hg.size, fun q hq hn => (hg.block q (by simp; omega) (fun e => hn e.symm)).trans (Below.heap_alloc _ _ _ hq)⟩
  have hvk : ∀ (u : Value) (f : Nat → Int), Vec X (fun b => Far t X b ∧ v.ownBlock ≠ some b) u n f → Vec X2 (Far t X2) u n f := fun u f hu => (hu.turn ht2 (fun b hb e => hb.2 e)).more fun b hb => ⟨hb.1.1, Nat.lt_of_lt_of_le hb.1.2 ht2.size⟩
  refine ⟨?_, hvk _ _ hc, ht2⟩
  rcases hown.2 with ⟨rfl, hz0⟩ | ⟨gb, cap, cur, rfl, hbase, hgbk, r1, r2, r3, r4⟩
  · exact absurd hz0 (by omega)
  · refine ⟨_, cap, rfl, r1, fun _ => ⟨gb, 0, rfl, ⟨by omega, (Array.getElem?_eq_some_iff.1 hgbk).1⟩, fun i hi => ?_⟩⟩
    have h1 : ((List.range k).map rs ++ [cv])[i]? = some (if i < k then rs i else cv) := by
      by_cases e : i < k
      · rw [if_pos e, List.getElem?_append_left (by simpa using e)]; simp [e]
      · obtain rfl : i = k := by omega
        rw [if_neg (Nat.lt_irrefl _), List.getElem?_append_right (by simp)]; simp
    rw [← r4, List.getElem?_take_of_lt (by omega)] at h1
    refine ⟨_, by rw [Nat.zero_add]; exact Row.cell (show Row X2 gb 22 cur from hgbk) (by rw [← Array.getElem?_toList]; exact h1), ?_⟩
    unfold lastF
    by_cases e : i < k
    · rw [if_pos e, if_pos e]; exact hvk _ _ (h.row i e)
    · rw [if_neg e, if_neg e]; exact hvk _ _ hc
theorem turn_own {w5 X Y : World} {t : Nat} {S : Nat → Prop} (h : Turn (· = t) w5 X) (h2 : Turn S X Y) (hS : ∀ b, S b → w5.heap.size ≤ b) : Turn (· = t) w5 Y :=
  ⟨h2.os.trans h.os, h2.tape.trans h.tape, h2.output.trans h.output, Nat.le_trans h.size h2.size, fun b hb hn => (h2.block b (Nat.lt_of_lt_of_le hb h.size) (fun e => by have := hS b e; omega)).trans (h.block b hb hn)⟩
theorem pivL_le (n : Nat) (R : Nat → Option (Nat → Int)) : (pivL n R).length ≤ n := by
  unfold pivL
  exact Nat.le_trans (List.length_filter_le _ _) (by simp)
theorem vecFar_calls {u : Nat} {X Y : World} {v : Value} {n : Nat} {f : Nat → Int} (h : Vec X (Far u X) v n f) (hb : Below X.heap.size X Y) : Vec Y (Far u Y) v n f := (h.below (fun _ h => h.2) hb).more fun _ h => ⟨h.1, Nat.lt_of_lt_of_le h.2 hb.size⟩

set_option maxRecDepth 100000 in
set_option maxHeartbeats 16000000 in
theorem linearMeets_main (A : Option Addr) (c N : Nat) (z : Nat → Int) (p0 m0 k0 n0 : Int) (w : World) (hv : Vec w (· < w.heap.size) (.slice A N c) N z) :
    Calls Try.prog 3 #[.slice A N c, .int .i64 p0, .int .i64 m0, .int .i64 k0, .int .i64 n0] w fun e w' => e = .returned (.bool true) ∧ Below w.heap.size w w' := by
  have HV := Lib.hid hv
  clear hv
  by_cases h1 : 80 < N
  · have hd : decide ((N : Int) > 80) = true := decide_eq_true (by omega)
    clear HV
    go_enter Try.func3, Try.ntmps3
    go_wp2_with fail
    refine (lives_any _).mono ?_
    rintro e w0 ⟨rfl, hb⟩
    have HB := Lib.hid hb
    clear hb
    go_wp2_with fail
    go_ret
    exact ⟨rfl, HB.out⟩
  · have hN : N ≤ 17592186044400 := by omega
    have hd : decide ((N : Int) > 80) = false := decide_eq_false (by omega)
    have HF := fun W => Lib.hid (field_any p0 W)
    have HP := fun W => Lib.hid (Pick_any m0 5 W (by omega) (by omega))
    have HPK := fun W => Lib.hid (Pick_any k0 5 W (by omega) (by omega))
    have HPN := fun W => Lib.hid (Pick_any n0 6 W (by omega) (by omega))
    have hm6 := resV_lt m0 (p := 5) (by omega)
    obtain ⟨j0, hj0, hy0, hy1, hy2⟩ := info_parts infoSl
    have hk6 := resV_lt k0 (p := 5) (by omega)
    have hlt := resV_lt n0 (p := 6) (by omega)
    generalize resV m0 5 = m at HP hm6
    generalize resV k0 5 = k at HPK hk6
    generalize resV n0 6 = x at HPN hlt
    obtain ⟨n, hn⟩ : ∃ n : Nat, 1 + (x : Int) = (n : Int) := ⟨1 + x, by omega⟩
    have hn1 : 1 ≤ n := by omega
    have hn6 : n ≤ 6 := by omega
    go_enter Try.func3, Try.ntmps3
    go_wp2_with fail
    refine (lives_any _).mono ?_
    rintro e w0 ⟨rfl, hb⟩
    have HB0 := Lib.hid hb
    have HV0 := Lib.hid (vec_on HV.out hb)
    clear hb HV
    go_wp2_with fail
    refine (HF _).out.mono ?_
    rintro e w1 ⟨⟨p, rfl, hp⟩, hb⟩
    have HB1 := Lib.hid (HB0.out.trans (hb.mono HB0.out.size))
    have HV1 := Lib.hid (vec_on HV0.out hb)
    obtain ⟨hp2, hp3, hp6⟩ := modB_true hp
    rw [Int.toNat_natCast] at hp6
    have HMOD := Lib.hid hp
    clear hb hp HB0 HV0 HF
    go_wp2_with fail
    refine (HP _).out.mono ?_
    rintro e w2 ⟨rfl, rfl⟩
    go_wp2_with fail
    refine (HPK _).out.mono ?_
    rintro e w2' ⟨rfl, rfl⟩
    go_wp2_with fail
    refine (HPN _).out.mono ?_
    rintro e w3 ⟨rfl, rfl⟩
    clear HP HPN HPK
    have hsz := HB1.out.size
    have HT0 := Lib.hid (taker_new w3 A c N z HV1.out)
    have HB2 := Lib.hid (HB1.out.alloc hsz (.cells #[.slice A N c, .int .i64 0] 28))
    clear HV1 HB1
    go_wp2_with fail
    have hz4 : (w3.alloc (.cells #[.slice A N c, .int .i64 0] 28)).heap.size = w3.heap.size + 1 := by simp
    generalize w3.alloc (.cells #[.slice A N c, .int .i64 0] 28) = w4 at HT0 HB2 hz4
    generalize w3.heap.size = t at HT0 hsz hz4
    refine (drawn_any t A c N 0 z p m n w4 (by omega) (by omega) (by omega) hn1 (by omega) hN HT0.out).mono ?_
    rintro e w5 ⟨ra, F, q5, rfl, hg, hf, hT, htu⟩
    obtain ⟨Aa, ca, rfl, -⟩ := hg.form
    have HG5 := Lib.hid (show Grid w5 (Far t w5) (.slice Aa m ca) m (fun _ => n) F from hg.more fun b hb => ⟨by have := hb.1; omega, hb.2⟩)
    have HB5 := Lib.hid (below_turn HB2.out htu hsz)
    have HFA := Lib.hid hf
    have HT5 := Lib.hid hT
    have ht5 := hT.1.lt
    clear hg hf hT htu HT0 HB2 hz4
    go_wp2_with fail
    refine (drawn_own t A c N q5 z p k n w5 (by omega) (by omega) (by omega) hn1 (by omega) hN HT5.out).mono ?_
    rintro e w6 ⟨vb, g, cc, G, rfl, hD⟩
    have HO6 := Lib.hid (ownB_of hD ht5)
    have hD1 := hD.tu
    have HTU6 := Lib.hid hD1
    obtain ⟨q6, hq6⟩ := hD.tk
    obtain ⟨Ab, cb, rfl⟩ := owned_form hD.own
    have HQ6 := Lib.hid hq6
    clear hD hD1 hq6 HT5
    go_wp2_with fail
    refine (mix_any t A c N q6 z p m n (.slice Aa m ca) F w6 (by omega) (by omega) (by omega) hn1 (by omega) hN HQ6.out ((grid_far HG5.out HTU6.out).more fun b hb => ⟨hb.2, by have := hb.1; omega⟩) HFA.out).mono ?_
    rintro e w7 ⟨r, y, q7, rfl, hrv, hq7, ht7⟩
    have hrf := hrv.form
    obtain ⟨A7, c7, rfl, -⟩ := hrf
    have HO7 := Lib.hid (HO6.out.turn ht5 ht7)
    have HT57 := Lib.hid (HTU6.out.trans ht7)
    have hs56 := HTU6.out.size
    have HV7 := Lib.hid (show Vec w7 (fun b => Far t w7 b ∧ (Value.slice Ab k cb).ownBlock ≠ some b) (.slice A7 n c7) n (mixF p y F m) from hrv.more fun b hb => ⟨⟨by have := hb.1; omega, hb.2⟩, fun e => by have h1 := hb.1; have := (HO6.out.own.lt b e).2; omega⟩)
    have HQ7 := Lib.hid hq7
    clear hrv hq7 ht7 HQ6 HO6 HTU6
    go_wp2_with fail
    refine (take_any t A c N z q7 2 w7 hN (by omega) (by omega) HQ7.out).mono ?_
    rintro e w8 hT8
    obtain ⟨x8, q8, rfl, hx0, hx1, -, hB8, hs8⟩ := hT8.keep HQ7.out
    have htu8 := butTurn (hB8 _) (by omega)
    have HT58 := Lib.hid (HT57.out.trans htu8)
    have HO8 := Lib.hid (HO7.out.turn ht5 htu8)
    have HV8 := Lib.hid (show Vec w8 (fun b => Far t w8 b ∧ (Value.slice Ab k cb).ownBlock ≠ some b) (.slice A7 n c7) n (mixF p y F m) from (HV7.out.turn htu8 (fun b hb (e : b = t) => by have := hb.1.1; omega)).more fun b hb => ⟨⟨hb.1.1, Nat.lt_of_lt_of_le hb.1.2 htu8.size⟩, hb.2⟩)
    clear hT8 hB8 hs8 htu8 HQ7 HT57 HO7 HV7
    have HBO := Lib.hid (fun M (hM : M ≤ 200) => (chkB_ok (p := (p : Int)) (n := (n : Int)) (m := M) (l := fun _ => n) HMOD.out (by omega) (by omega) hM (fun _ _ => rfl)))
    have HIO := Lib.hid (fun M (hM : M ≤ 200) => (chkI_ok (p := (p : Int)) (n := (n : Int)) (m := M) (k := n) (l := fun _ => n) HMOD.out (by omega) (by omega) hM (fun _ _ => rfl) rfl))
    have HIV := Lib.hid (invF (p := (p : Int)) (by rw [Int.toNat_natCast]; exact hp6) hp2)
    have HSP := Lib.hid (mix_span (p := (p : Int)) (n := n) (m := m) (F := F) y m (Nat.le_refl _))
    generalize mixF p y F m = f at HV8 HSP
    have hs58 := HT58.out.size
    rcases (by omega : x8 = 0 ∨ x8 = 1) with rfl | rfl
    · have HT5Y := Lib.hid HT58.out
      have HGBs0 := Lib.hid (HO8.out.grid ht5)
      have HVs0 := Lib.hid (show Vec w8 (Far t w8) (.slice A7 n c7) n f from HV8.out.more fun _ h => h.1)
      clear HT58 HO8 HV8
      have HGAs0 := Lib.hid (grid_far HG5.out HT5Y.out)
      have HBs0 := Lib.hid (below_turn HB5.out HT5Y.out hsz)
      have hY1 : t < w8.heap.size := Nat.lt_of_lt_of_le ht5 HT5Y.out.size
      have HME := Lib.hid (meets_all (p := (p : Int)) (by omega) HIV.out m n k F G)
      have HEM := Lib.hid (basis_ech HME.out.ech)
      have HES := Lib.hid (basis_ech (elimR_ech (p := (p : Int)) (by omega) HIV.out n (rowsL n (catR m F G) (m + k))))
      have hrank := HME.out.rank
      have hal := HME.out.also f HSP.out
      have hia := HME.out.ina
      have hib := HME.out.inb
      have hlS := pivL_le n (elimR p n (invI p) (rowsL n (catR m F G) (m + k)))
      have hlM := pivL_le n (meetR p (invI p) m n k F G)
      have hlA := pivL_le n (elimR p n (invI p) (rowsL n F m))
      have hlB := pivL_le n (elimR p n (invI p) (rowsL n G k))
      obtain ⟨LS, hLS⟩ : ∃ L, (pivL n (elimR p n (invI p) (rowsL n (catR m F G) (m + k)))).length = L := ⟨_, rfl⟩
      obtain ⟨LM, hLM⟩ : ∃ L, (pivL n (meetR p (invI p) m n k F G)).length = L := ⟨_, rfl⟩
      obtain ⟨rA, hRA⟩ : ∃ L, (pivL n (elimR p n (invI p) (rowsL n F m))).length = L := ⟨_, rfl⟩
      obtain ⟨rB, hRB⟩ : ∃ L, (pivL n (elimR p n (invI p) (rowsL n G k))).length = L := ⟨_, rfl⟩
      rw [hLS, hLM, hRA, hRB] at hrank
      rw [hLS] at hlS HES
      rw [hLM] at hlM hal hia hib HEM
      rw [hRA] at hlA
      rw [hRB] at hlB
      obtain ⟨b0, hb0⟩ : ∃ b0, inB p n (elimR p n (invI p) (rowsL n G k)) f = b0 := ⟨_, rfl⟩
      rw [hb0] at hal
      have HIA := Lib.hid hia
      have HIB := Lib.hid hib
      have HAL := Lib.hid hal
      have HB00 := Lib.hid hb0
      have HLS := Lib.hid hLS
      have HLM := Lib.hid hLM
      have HRA := Lib.hid hRA
      have HRB := Lib.hid hRB
      have hsum : (LS : Int) + (LM : Int) = (rA : Int) + (rB : Int) := by omega
      have hws : IntKind.i64.wrap ((LS : Int) + (LM : Int)) = (rA : Int) + (rB : Int) := by rw [hsum]; exact IntWalk.i64_in _ ⟨by omega, by omega⟩
      have hwr : IntKind.i64.wrap ((rA : Int) + (rB : Int)) = (rA : Int) + (rB : Int) := IntWalk.i64_in _ ⟨by omega, by omega⟩
      clear hia hib hal hb0 hLS hLM hRA hRB hrank hsum HT5Y HME HG5 HB5 HSP
      go_wp2_with fail
      refine (Sum_ok p n m k (.slice Aa m ca) (.slice Ab k cb) F G w8 HMOD.out hn1 (by omega) (by omega) (by omega) (HGAs0.out.more fun _ h => h.2) (HGBs0.out.more fun _ h => h.2)).mono ?_
      rintro e s1 ⟨vs, rfl, hgs, hb⟩
      change Grid s1 _ vs (pivL n (elimR p n (invI p) (rowsL n (catR m F G) (m + k)))).length _ (basF n (elimR p n (invI p) (rowsL n (catR m F G) (m + k)))) at hgs
      rw [HLS.out] at hgs
      obtain ⟨As, cs, rfl, -⟩ := hgs.form
      have HGSs1 := Lib.hid (show Grid s1 (Far t s1) (.slice As LS cs) LS (fun _ => n) (basF n (elimR p n (invI p) (rowsL n (catR m F G) (m + k)))) from hgs.more fun b hb => ⟨by have := hb.1; omega, hb.2⟩)
      have hY2 : t < s1.heap.size := Nat.lt_of_lt_of_le hY1 hb.size
      clear hgs
      have HGAs1 := Lib.hid (far_calls HGAs0.out hb)
      have HGBs1 := Lib.hid (far_calls HGBs0.out hb)
      have HVs1 := Lib.hid (vecFar_calls HVs0.out hb)
      have HBs1 := Lib.hid (HBs0.out.trans (hb.mono HBs0.out.size))
      clear hb HGAs0 HGBs0 HVs0 HBs0
      go_wp2_with fail
      refine (Meet_ok p n m k (.slice Aa m ca) (.slice Ab k cb) F G s1 HMOD.out hn1 (by omega) (by omega) (by omega) (HGAs1.out.more fun _ h => h.2) (HGBs1.out.more fun _ h => h.2)).mono ?_
      rintro e s2 ⟨vm, rfl, hgm, hb⟩
      change Grid s2 _ vm (pivL n (meetR p (invI p) m n k F G)).length _ (basF n (meetR p (invI p) m n k F G)) at hgm
      rw [HLM.out] at hgm
      obtain ⟨Am, cm, rfl, -⟩ := hgm.form
      have HGMs2 := Lib.hid (show Grid s2 (Far t s2) (.slice Am LM cm) LM (fun _ => n) (basF n (meetR p (invI p) m n k F G)) from hgm.more fun b hb => ⟨by have := hb.1; omega, hb.2⟩)
      clear hgm
      have HGAs2 := Lib.hid (far_calls HGAs1.out hb)
      have HGBs2 := Lib.hid (far_calls HGBs1.out hb)
      have HVs2 := Lib.hid (vecFar_calls HVs1.out hb)
      have HBs2 := Lib.hid (HBs1.out.trans (hb.mono HBs1.out.size))
      have HGSs2 := Lib.hid (far_calls HGSs1.out hb)
      clear hb HGAs1 HGBs1 HVs1 HBs1 HGSs1
      go_wp2_with fail
      refine (Rank_any p n (.slice Aa m ca) m (fun _ => n) F s2 (by omega) (HGAs2.out.more fun _ h => h.2)).mono ?_
      rintro e s3 ⟨y3, rfl, -, hy, hb⟩
      rw [HBO.out m (by omega)]
      have hy := hy (HBO.out m (by omega))
      rw [Int.toNat_natCast] at hy
      change y3 = (pivL n (elimR p n (invI p) (rowsL n F m))).length at hy
      rw [HRA.out] at hy
      subst hy
      have HGAs3 := Lib.hid (far_calls HGAs2.out hb)
      have HGBs3 := Lib.hid (far_calls HGBs2.out hb)
      have HVs3 := Lib.hid (vecFar_calls HVs2.out hb)
      have HBs3 := Lib.hid (HBs2.out.trans (hb.mono HBs2.out.size))
      have HGSs3 := Lib.hid (far_calls HGSs2.out hb)
      have HGMs3 := Lib.hid (far_calls HGMs2.out hb)
      clear hb HGAs2 HGBs2 HVs2 HBs2 HGSs2 HGMs2
      go_wp2_with fail
      refine (Rank_any p n (.slice Ab k cb) k (fun _ => n) G s3 (by omega) (HGBs3.out.more fun _ h => h.2)).mono ?_
      rintro e s4 ⟨y4, rfl, -, hy, hb⟩
      rw [HBO.out (k) (by omega)]
      have hy := hy (HBO.out (k) (by omega))
      rw [Int.toNat_natCast] at hy
      change y4 = (pivL n (elimR p n (invI p) (rowsL n G k))).length at hy
      rw [HRB.out] at hy
      subst hy
      have HGAs4 := Lib.hid (far_calls HGAs3.out hb)
      have HGBs4 := Lib.hid (far_calls HGBs3.out hb)
      have HVs4 := Lib.hid (vecFar_calls HVs3.out hb)
      have HBs4 := Lib.hid (HBs3.out.trans (hb.mono HBs3.out.size))
      have HGSs4 := Lib.hid (far_calls HGSs3.out hb)
      have HGMs4 := Lib.hid (far_calls HGMs3.out hb)
      clear hb HGAs3 HGBs3 HVs3 HBs3 HGSs3 HGMs3
      go_wp2_with fail
      refine (In_any p n (.slice Ab k cb) (.slice A7 n c7) (k) n (fun _ => n) G f s4 (by omega) (by omega) (HGBs4.out.more fun _ h => h.2) (HVs4.out.more fun _ h => h.2)).mono ?_
      rintro e s5 h5
      rw [HIO.out (k) (by omega), if_pos rfl, Int.toNat_natCast] at h5
      change RetI (inB p n (elimR p n (invI p) (rowsL n G k)) f) 0 s4 e s5 at h5
      rw [HB00.out] at h5
      obtain ⟨rfl, hb⟩ := h5
      have HGAs5 := Lib.hid (far_calls HGAs4.out hb)
      have HGBs5 := Lib.hid (far_calls HGBs4.out hb)
      have HVs5 := Lib.hid (vecFar_calls HVs4.out hb)
      have HBs5 := Lib.hid (HBs4.out.trans (hb.mono HBs4.out.size))
      have HGSs5 := Lib.hid (far_calls HGSs4.out hb)
      have HGMs5 := Lib.hid (far_calls HGMs4.out hb)
      clear hb HGAs4 HGBs4 HVs4 HBs4 HGSs4 HGMs4
      go_wp2_with fail
      refine (In_any p n (.slice Am LM cm) (.slice A7 n c7) LM n (fun _ => n) (basF n (meetR p (invI p) m n k F G)) f s5 (by omega) (by omega) (HGMs5.out.more fun _ h => h.2) (HVs5.out.more fun _ h => h.2)).mono ?_
      rintro e s6 h6
      rw [HIO.out LM (by omega), if_pos rfl, Int.toNat_natCast] at h6
      change RetI (inB p n (elimR p n (invI p) (rowsL n (basF n (meetR p (invI p) m n k F G)) LM)) f) 0 s5 e s6 at h6
      rw [HAL.out] at h6
      obtain ⟨rfl, hb⟩ := h6
      have HGAs6 := Lib.hid (far_calls HGAs5.out hb)
      have HGBs6 := Lib.hid (far_calls HGBs5.out hb)
      have HVs6 := Lib.hid (vecFar_calls HVs5.out hb)
      have HBs6 := Lib.hid (HBs5.out.trans (hb.mono HBs5.out.size))
      have HGSs6 := Lib.hid (far_calls HGSs5.out hb)
      have HGMs6 := Lib.hid (far_calls HGMs5.out hb)
      clear hb HGAs5 HGBs5 HVs5 HBs5 HGSs5 HGMs5
      go_wp2_with fail
      refine (echelon_any p LM n (.slice Am LM cm) (basF n (meetR p (invI p) m n k F G)) _ _ s6 (by omega) (by omega) HGMs6.out HEM.out).mono ?_
      rintro e s7 ⟨rfl, rfl⟩
      go_wp2_with fail
      refine (echelon_any p LS n (.slice As LS cs) (basF n (elimR p n (invI p) (rowsL n (catR m F G) (m + k)))) _ _ s7 (by omega) (by omega) HGSs6.out HES.out).mono ?_
      rintro e s8 ⟨rfl, rfl⟩
      clear HEM HES HAL HB00 HVs6 HGSs6
      go_wp2_with fail
      go_loopw [27] (fun i wr => ∃ j : Nat, i = .int .i64 j ∧ j ≤ LM ∧ Hid (Below s8.heap.size s8 wr)) (fun i _ => LM - (intOf i).toNat)
      case atStart => exact ⟨0, rfl, Nat.zero_le _, Lib.hid (Below.refl _ _)⟩
      case round =>
        obtain ⟨j, rfl, hj, HBw⟩ := hrel
        by_cases hlt : j < LM
        · have HGAr := Lib.hid (far_calls HGAs6.out HBw.out)
          have HGBr := Lib.hid (far_calls HGBs6.out HBw.out)
          obtain ⟨Al, cl, e, -, hgg⟩ := far_calls HGMs6.out HBw.out
          injection e with e1 _ e3
          subst e1; subst e3
          obtain ⟨b, o, rfl, hb, hgc⟩ := hgg (by omega)
          obtain ⟨ai, hr1, hr2⟩ := hgc j hlt
          have hrf := hr2.form
          obtain ⟨Ar, cr, rfl, -⟩ := hrf
          have HVr := Lib.hid hr2
          have hbw := hb.2
          have d1 : (0 : Int) ≤ j := by omega
          have d2 : (j : Int) < (LM : Int) := by omega
          clear hgg hgc hr2 hb
          go_wp2_with fail
          refine (In_any p n (.slice Aa m ca) (.slice Ar n cr) m n (fun _ => n) F (basF n (meetR p (invI p) m n k F G) j) wr (by omega) (by omega) (HGAr.out.more fun _ h => h.2) (HVr.out.more fun _ h => h.2)).mono ?_
          rintro e r1 h1
          rw [HIO.out m (by omega), if_pos rfl, Int.toNat_natCast] at h1
          change RetI (inB p n (elimR p n (invI p) (rowsL n F m)) (basF n (meetR p (invI p) m n k F G) j)) 0 wr e r1 at h1
          rw [HIA.out j hlt] at h1
          obtain ⟨rfl, hb1⟩ := h1
          have hr3 := (hb1.cell (p := ⟨b, o + j, none⟩) hbw).trans hr1
          have HGBq := Lib.hid (far_calls HGBr.out hb1)
          have HVq := Lib.hid (vecFar_calls HVr.out hb1)
          have HBq := Lib.hid (HBw.out.trans (hb1.mono HBw.out.size))
          clear hb1 hr1 HGBr HVr HGAr
          go_wp2_with fail
          refine (In_any p n (.slice Ab k cb) (.slice Ar n cr) (k) n (fun _ => n) G (basF n (meetR p (invI p) m n k F G) j) r1 (by omega) (by omega) (HGBq.out.more fun _ h => h.2) (HVq.out.more fun _ h => h.2)).mono ?_
          rintro e r2 h2
          rw [HIO.out (k) (by omega), if_pos rfl, Int.toNat_natCast] at h2
          change RetI (inB p n (elimR p n (invI p) (rowsL n G k)) (basF n (meetR p (invI p) m n k F G) j)) 0 r1 e r2 at h2
          rw [HIB.out j hlt] at h2
          obtain ⟨rfl, hb2⟩ := h2
          have HBz := Lib.hid (HBq.out.trans (hb2.mono HBq.out.size))
          clear hb2 HGBq HVq HBq hr3
          go_wp2_with fail
          go_roundw
          case rel => exact ⟨j + 1, by go_num, by omega, HBz⟩
          case measure => simp [intOf]; omega
        · obtain rfl : j = LM := by omega
          go_wp2
          go_ret
          exact ⟨rfl, HBs6.out.trans (HBw.out.mono HBs6.out.size)⟩
    · have hov := HO8.out.own.alloc (.cells #[.slice A7 n c7] 22)
      go_wp2_with (at_builtin; refine wpList_append_own _ rfl (.tmp 67) (.tmp 69) 29 rfl w5.heap.size 22 j0 (.slice none 0 0) 1 24 Try.underlying29 hj0 hy0 hy1 hy2 rfl (by decide) _ _ _ rfl hov ⟨w8.heap.size, 0, none⟩ 1 1 [.slice A7 n c7] rfl rfl (cell_one_new _ _ _) (by simp [Value.oneCell']) (by unfold maxLen; omega) (by omega) (by simp; omega) ?_; intro v1 w9 hown hgrow _; obtain ⟨g3, c3, rfl⟩ := ownsRow_succ hown; have hnx := HO8.out.next ht5 HV8.out _ hown hgrow; have HT5Y := Lib.hid (turn_own HT58.out hnx.2.2 (fun b e => (HO8.out.own.lt b e).1)); have HGBs0 := Lib.hid hnx.1; have HVs0 := Lib.hid hnx.2.1; clear hown hgrow hnx HT58 HO8 HV8 hov)
      have HGAs0 := Lib.hid (grid_far HG5.out HT5Y.out)
      have HBs0 := Lib.hid (below_turn HB5.out HT5Y.out hsz)
      have hY1 : t < w9.heap.size := Nat.lt_of_lt_of_le ht5 HT5Y.out.size
      have HME := Lib.hid (meets_all (p := (p : Int)) (by omega) HIV.out m n (k + 1) F (lastF k G f))
      have HEM := Lib.hid (basis_ech HME.out.ech)
      have HES := Lib.hid (basis_ech (elimR_ech (p := (p : Int)) (by omega) HIV.out n (rowsL n (catR m F (lastF k G f)) (m + (k + 1)))))
      have hrank := HME.out.rank
      have hal := HME.out.also f HSP.out
      have hia := HME.out.ina
      have hib := HME.out.inb
      have hlS := pivL_le n (elimR p n (invI p) (rowsL n (catR m F (lastF k G f)) (m + (k + 1))))
      have hlM := pivL_le n (meetR p (invI p) m n (k + 1) F (lastF k G f))
      have hlA := pivL_le n (elimR p n (invI p) (rowsL n F m))
      have hlB := pivL_le n (elimR p n (invI p) (rowsL n (lastF k G f) (k + 1)))
      obtain ⟨LS, hLS⟩ : ∃ L, (pivL n (elimR p n (invI p) (rowsL n (catR m F (lastF k G f)) (m + (k + 1))))).length = L := ⟨_, rfl⟩
      obtain ⟨LM, hLM⟩ : ∃ L, (pivL n (meetR p (invI p) m n (k + 1) F (lastF k G f))).length = L := ⟨_, rfl⟩
      obtain ⟨rA, hRA⟩ : ∃ L, (pivL n (elimR p n (invI p) (rowsL n F m))).length = L := ⟨_, rfl⟩
      obtain ⟨rB, hRB⟩ : ∃ L, (pivL n (elimR p n (invI p) (rowsL n (lastF k G f) (k + 1)))).length = L := ⟨_, rfl⟩
      rw [hLS, hLM, hRA, hRB] at hrank
      rw [hLS] at hlS HES
      rw [hLM] at hlM hal hia hib HEM
      rw [hRA] at hlA
      rw [hRB] at hlB
      obtain ⟨b0, hb0⟩ : ∃ b0, inB p n (elimR p n (invI p) (rowsL n (lastF k G f) (k + 1))) f = b0 := ⟨_, rfl⟩
      rw [hb0] at hal
      have HIA := Lib.hid hia
      have HIB := Lib.hid hib
      have HAL := Lib.hid hal
      have HB00 := Lib.hid hb0
      have HLS := Lib.hid hLS
      have HLM := Lib.hid hLM
      have HRA := Lib.hid hRA
      have HRB := Lib.hid hRB
      have hsum : (LS : Int) + (LM : Int) = (rA : Int) + (rB : Int) := by omega
      have hws : IntKind.i64.wrap ((LS : Int) + (LM : Int)) = (rA : Int) + (rB : Int) := by rw [hsum]; exact IntWalk.i64_in _ ⟨by omega, by omega⟩
      have hwr : IntKind.i64.wrap ((rA : Int) + (rB : Int)) = (rA : Int) + (rB : Int) := IntWalk.i64_in _ ⟨by omega, by omega⟩
      clear hia hib hal hb0 hLS hLM hRA hRB hrank hsum HT5Y HME HG5 HB5 HSP
      refine (Sum_ok p n m (k + 1) (.slice Aa m ca) (.slice (some ⟨g3, 0, none⟩) (k + 1) c3) F (lastF k G f) w9 HMOD.out hn1 (by omega) (by omega) (by omega) (HGAs0.out.more fun _ h => h.2) (HGBs0.out.more fun _ h => h.2)).mono ?_
      rintro e s1 ⟨vs, rfl, hgs, hb⟩
      change Grid s1 _ vs (pivL n (elimR p n (invI p) (rowsL n (catR m F (lastF k G f)) (m + (k + 1))))).length _ (basF n (elimR p n (invI p) (rowsL n (catR m F (lastF k G f)) (m + (k + 1))))) at hgs
      rw [HLS.out] at hgs
      obtain ⟨As, cs, rfl, -⟩ := hgs.form
      have HGSs1 := Lib.hid (show Grid s1 (Far t s1) (.slice As LS cs) LS (fun _ => n) (basF n (elimR p n (invI p) (rowsL n (catR m F (lastF k G f)) (m + (k + 1))))) from hgs.more fun b hb => ⟨by have := hb.1; omega, hb.2⟩)
      have hY2 : t < s1.heap.size := Nat.lt_of_lt_of_le hY1 hb.size
      clear hgs
      have HGAs1 := Lib.hid (far_calls HGAs0.out hb)
      have HGBs1 := Lib.hid (far_calls HGBs0.out hb)
      have HVs1 := Lib.hid (vecFar_calls HVs0.out hb)
      have HBs1 := Lib.hid (HBs0.out.trans (hb.mono HBs0.out.size))
      clear hb HGAs0 HGBs0 HVs0 HBs0
      go_wp2_with fail
      refine (Meet_ok p n m (k + 1) (.slice Aa m ca) (.slice (some ⟨g3, 0, none⟩) (k + 1) c3) F (lastF k G f) s1 HMOD.out hn1 (by omega) (by omega) (by omega) (HGAs1.out.more fun _ h => h.2) (HGBs1.out.more fun _ h => h.2)).mono ?_
      rintro e s2 ⟨vm, rfl, hgm, hb⟩
      change Grid s2 _ vm (pivL n (meetR p (invI p) m n (k + 1) F (lastF k G f))).length _ (basF n (meetR p (invI p) m n (k + 1) F (lastF k G f))) at hgm
      rw [HLM.out] at hgm
      obtain ⟨Am, cm, rfl, -⟩ := hgm.form
      have HGMs2 := Lib.hid (show Grid s2 (Far t s2) (.slice Am LM cm) LM (fun _ => n) (basF n (meetR p (invI p) m n (k + 1) F (lastF k G f))) from hgm.more fun b hb => ⟨by have := hb.1; omega, hb.2⟩)
      clear hgm
      have HGAs2 := Lib.hid (far_calls HGAs1.out hb)
      have HGBs2 := Lib.hid (far_calls HGBs1.out hb)
      have HVs2 := Lib.hid (vecFar_calls HVs1.out hb)
      have HBs2 := Lib.hid (HBs1.out.trans (hb.mono HBs1.out.size))
      have HGSs2 := Lib.hid (far_calls HGSs1.out hb)
      clear hb HGAs1 HGBs1 HVs1 HBs1 HGSs1
      go_wp2_with fail
      refine (Rank_any p n (.slice Aa m ca) m (fun _ => n) F s2 (by omega) (HGAs2.out.more fun _ h => h.2)).mono ?_
      rintro e s3 ⟨y3, rfl, -, hy, hb⟩
      rw [HBO.out m (by omega)]
      have hy := hy (HBO.out m (by omega))
      rw [Int.toNat_natCast] at hy
      change y3 = (pivL n (elimR p n (invI p) (rowsL n F m))).length at hy
      rw [HRA.out] at hy
      subst hy
      have HGAs3 := Lib.hid (far_calls HGAs2.out hb)
      have HGBs3 := Lib.hid (far_calls HGBs2.out hb)
      have HVs3 := Lib.hid (vecFar_calls HVs2.out hb)
      have HBs3 := Lib.hid (HBs2.out.trans (hb.mono HBs2.out.size))
      have HGSs3 := Lib.hid (far_calls HGSs2.out hb)
      have HGMs3 := Lib.hid (far_calls HGMs2.out hb)
      clear hb HGAs2 HGBs2 HVs2 HBs2 HGSs2 HGMs2
      go_wp2_with fail
      refine (Rank_any p n (.slice (some ⟨g3, 0, none⟩) (k + 1) c3) (k + 1) (fun _ => n) (lastF k G f) s3 (by omega) (HGBs3.out.more fun _ h => h.2)).mono ?_
      rintro e s4 ⟨y4, rfl, -, hy, hb⟩
      rw [HBO.out ((k + 1)) (by omega)]
      have hy := hy (HBO.out ((k + 1)) (by omega))
      rw [Int.toNat_natCast] at hy
      change y4 = (pivL n (elimR p n (invI p) (rowsL n (lastF k G f) (k + 1)))).length at hy
      rw [HRB.out] at hy
      subst hy
      have HGAs4 := Lib.hid (far_calls HGAs3.out hb)
      have HGBs4 := Lib.hid (far_calls HGBs3.out hb)
      have HVs4 := Lib.hid (vecFar_calls HVs3.out hb)
      have HBs4 := Lib.hid (HBs3.out.trans (hb.mono HBs3.out.size))
      have HGSs4 := Lib.hid (far_calls HGSs3.out hb)
      have HGMs4 := Lib.hid (far_calls HGMs3.out hb)
      clear hb HGAs3 HGBs3 HVs3 HBs3 HGSs3 HGMs3
      go_wp2_with fail
      refine (In_any p n (.slice (some ⟨g3, 0, none⟩) (k + 1) c3) (.slice A7 n c7) ((k + 1)) n (fun _ => n) (lastF k G f) f s4 (by omega) (by omega) (HGBs4.out.more fun _ h => h.2) (HVs4.out.more fun _ h => h.2)).mono ?_
      rintro e s5 h5
      rw [HIO.out ((k + 1)) (by omega), if_pos rfl, Int.toNat_natCast] at h5
      change RetI (inB p n (elimR p n (invI p) (rowsL n (lastF k G f) (k + 1))) f) 0 s4 e s5 at h5
      rw [HB00.out] at h5
      obtain ⟨rfl, hb⟩ := h5
      have HGAs5 := Lib.hid (far_calls HGAs4.out hb)
      have HGBs5 := Lib.hid (far_calls HGBs4.out hb)
      have HVs5 := Lib.hid (vecFar_calls HVs4.out hb)
      have HBs5 := Lib.hid (HBs4.out.trans (hb.mono HBs4.out.size))
      have HGSs5 := Lib.hid (far_calls HGSs4.out hb)
      have HGMs5 := Lib.hid (far_calls HGMs4.out hb)
      clear hb HGAs4 HGBs4 HVs4 HBs4 HGSs4 HGMs4
      go_wp2_with fail
      refine (In_any p n (.slice Am LM cm) (.slice A7 n c7) LM n (fun _ => n) (basF n (meetR p (invI p) m n (k + 1) F (lastF k G f))) f s5 (by omega) (by omega) (HGMs5.out.more fun _ h => h.2) (HVs5.out.more fun _ h => h.2)).mono ?_
      rintro e s6 h6
      rw [HIO.out LM (by omega), if_pos rfl, Int.toNat_natCast] at h6
      change RetI (inB p n (elimR p n (invI p) (rowsL n (basF n (meetR p (invI p) m n (k + 1) F (lastF k G f))) LM)) f) 0 s5 e s6 at h6
      rw [HAL.out] at h6
      obtain ⟨rfl, hb⟩ := h6
      have HGAs6 := Lib.hid (far_calls HGAs5.out hb)
      have HGBs6 := Lib.hid (far_calls HGBs5.out hb)
      have HVs6 := Lib.hid (vecFar_calls HVs5.out hb)
      have HBs6 := Lib.hid (HBs5.out.trans (hb.mono HBs5.out.size))
      have HGSs6 := Lib.hid (far_calls HGSs5.out hb)
      have HGMs6 := Lib.hid (far_calls HGMs5.out hb)
      clear hb HGAs5 HGBs5 HVs5 HBs5 HGSs5 HGMs5
      go_wp2_with fail
      refine (echelon_any p LM n (.slice Am LM cm) (basF n (meetR p (invI p) m n (k + 1) F (lastF k G f))) _ _ s6 (by omega) (by omega) HGMs6.out HEM.out).mono ?_
      rintro e s7 ⟨rfl, rfl⟩
      go_wp2_with fail
      refine (echelon_any p LS n (.slice As LS cs) (basF n (elimR p n (invI p) (rowsL n (catR m F (lastF k G f)) (m + (k + 1))))) _ _ s7 (by omega) (by omega) HGSs6.out HES.out).mono ?_
      rintro e s8 ⟨rfl, rfl⟩
      clear HEM HES HAL HB00 HVs6 HGSs6
      go_wp2_with fail
      go_loopw [27] (fun i wr => ∃ j : Nat, i = .int .i64 j ∧ j ≤ LM ∧ Hid (Below s8.heap.size s8 wr)) (fun i _ => LM - (intOf i).toNat)
      case atStart => exact ⟨0, rfl, Nat.zero_le _, Lib.hid (Below.refl _ _)⟩
      case round =>
        obtain ⟨j, rfl, hj, HBw⟩ := hrel
        by_cases hlt : j < LM
        · have HGAr := Lib.hid (far_calls HGAs6.out HBw.out)
          have HGBr := Lib.hid (far_calls HGBs6.out HBw.out)
          obtain ⟨Al, cl, e, -, hgg⟩ := far_calls HGMs6.out HBw.out
          injection e with e1 _ e3
          subst e1; subst e3
          obtain ⟨b, o, rfl, hb, hgc⟩ := hgg (by omega)
          obtain ⟨ai, hr1, hr2⟩ := hgc j hlt
          have hrf := hr2.form
          obtain ⟨Ar, cr, rfl, -⟩ := hrf
          have HVr := Lib.hid hr2
          have hbw := hb.2
          have d1 : (0 : Int) ≤ j := by omega
          have d2 : (j : Int) < (LM : Int) := by omega
          clear hgg hgc hr2 hb
          go_wp2_with fail
          refine (In_any p n (.slice Aa m ca) (.slice Ar n cr) m n (fun _ => n) F (basF n (meetR p (invI p) m n (k + 1) F (lastF k G f)) j) wr (by omega) (by omega) (HGAr.out.more fun _ h => h.2) (HVr.out.more fun _ h => h.2)).mono ?_
          rintro e r1 h1
          rw [HIO.out m (by omega), if_pos rfl, Int.toNat_natCast] at h1
          change RetI (inB p n (elimR p n (invI p) (rowsL n F m)) (basF n (meetR p (invI p) m n (k + 1) F (lastF k G f)) j)) 0 wr e r1 at h1
          rw [HIA.out j hlt] at h1
          obtain ⟨rfl, hb1⟩ := h1
          have hr3 := (hb1.cell (p := ⟨b, o + j, none⟩) hbw).trans hr1
          have HGBq := Lib.hid (far_calls HGBr.out hb1)
          have HVq := Lib.hid (vecFar_calls HVr.out hb1)
          have HBq := Lib.hid (HBw.out.trans (hb1.mono HBw.out.size))
          clear hb1 hr1 HGBr HVr HGAr
          go_wp2_with fail
          refine (In_any p n (.slice (some ⟨g3, 0, none⟩) (k + 1) c3) (.slice Ar n cr) ((k + 1)) n (fun _ => n) (lastF k G f) (basF n (meetR p (invI p) m n (k + 1) F (lastF k G f)) j) r1 (by omega) (by omega) (HGBq.out.more fun _ h => h.2) (HVq.out.more fun _ h => h.2)).mono ?_
          rintro e r2 h2
          rw [HIO.out ((k + 1)) (by omega), if_pos rfl, Int.toNat_natCast] at h2
          change RetI (inB p n (elimR p n (invI p) (rowsL n (lastF k G f) (k + 1))) (basF n (meetR p (invI p) m n (k + 1) F (lastF k G f)) j)) 0 r1 e r2 at h2
          rw [HIB.out j hlt] at h2
          obtain ⟨rfl, hb2⟩ := h2
          have HBz := Lib.hid (HBq.out.trans (hb2.mono HBq.out.size))
          clear hb2 HGBq HVq HBq hr3
          go_wp2_with fail
          go_roundw
          case rel => exact ⟨j + 1, by go_num, by omega, HBz⟩
          case measure => simp [intOf]; omega
        · obtain rfl : j = LM := by omega
          go_wp2
          go_ret
          exact ⟨rfl, HBs6.out.trans (HBw.out.mono HBs6.out.size)⟩
end Go.Proofs.Ytikggkahlpplpaa
