/- cayleykit.Mul and cayleykit.Inv; the reference's One, Mul, Inv, Conj and Comm. -/
import Derived.Test.YtpchomhfpfpckaaDoorRefCheck
import Derived.Test.YtpchomhfpfpckaaDoorConj
import Derived.Test.YtpchomhfpfpckaaDoorSel
namespace Go.Proofs.YtpchomhfpfpckaaDoor
open Go Go.RowKit

set_option maxRecDepth 100000 in
set_option maxHeartbeats 400000 in
theorem kitInv_walk (b o c : Nat) (zs : List Int) (w : World) (h64 : zs.length ≤ 64) (hb : b < w.heap.size) (hin : ∀ k, k < zs.length → 0 ≤ zs.getD k 0 ∧ zs.getD k 0 < zs.length)
    (hc : ∀ j, j < zs.length → w.cell? ⟨b, o + j, none⟩ = some (.int .i64 (zs.getD j 0))) :
    Calls Tryd.prog 73 #[.slice (some ⟨b, o, none⟩) zs.length c] w fun e w' => e = .returned (.slice (some ⟨w.heap.size, 0, none⟩) zs.length zs.length) ∧ FillAt w zs.length (invF zs) zs.length w' := by
  have h00 : FillAt w zs.length (invF zs) 0 (w.alloc (.cells (Tab zs.length fun _ => 0) 3)) := ⟨by omega, Row.new _ _ _, (Below.refl _ _).alloc (Nat.le_refl _) _⟩
  have H0 := Lib.hid h00
  clear h00
  have hmk := make_ints zs.length (by omega)
  go_enter Tryd.func73, Tryd.ntmps73
  go_wp2
  go_loopw [4] (fun i wr => ∃ k : Nat, i = .int .i64 k ∧ FillAt w zs.length (invF zs) k wr) (fun i _ => zs.length - (intOf i).toNat)
  case atStart => exact ⟨0, rfl, H0.out⟩
  case round =>
    obtain ⟨k, rfl, hA⟩ := hrel
    have hk := hA.1
    by_cases hlt : k < zs.length
    · have hcell : wr.cell? ⟨b, o + k, none⟩ = some (.int .i64 (zs.getD k 0)) := (hA.2.2.cell (p := ⟨b, o + k, none⟩) hb).trans (hc k hlt)
      have hxx := hin k hlt
      have hS := fun i (hi : zs.getD k 0 = ((i : Nat) : Int)) => Lib.hid (hA.step (i := i) (x := (k : Int)) hlt (fun j _ => by
        unfold invF
        rw [posTo, hi]
        by_cases e : j = i
        · rw [if_pos e, if_pos (by rw [e])]
        · rw [if_neg e, if_neg (by omega)]))
      generalize hx : zs.getD k 0 = x at hcell hxx hS
      obtain ⟨i, rfl⟩ : ∃ i : Nat, x = (i : Int) := ⟨x.toNat, by omega⟩
      have hi : i < zs.length := by omega
      have HS := hS i rfl
      have hct := hA.2.1.cell (Tab_get zs.length (invF zs k) i hi)
      have hft := hA.2.1.frozen i
      generalize invF zs k i = u at hct
      clear hA hc hx hin hmk hS
      go_wp2
      go_roundw
      case rel => exact ⟨k + 1, by go_num, HS.out⟩
      case measure => simp [intOf]; omega
    · have hA' : FillAt w zs.length (invF zs) zs.length wr := by rw [show k = zs.length by omega] at hA; exact hA
      have HF := Lib.hid hA'
      clear hA' hA hc hin
      go_wp2
      go_ret
      exact ⟨rfl, HF.out⟩


theorem kitInv_any {n : Nat} (a : PL n) (v : Value) (w : World) (h1 : 1 ≤ n) (h64 : n ≤ 64) (hv : Ints w w.heap.size v a.1) : Calls Tryd.prog 73 #[v] w (NewPerm w (pinv a).1) := by
  obtain ⟨b, o, c, rfl, hb, hc⟩ := hv.at_ (by rw [a.2.1]; omega)
  refine (kitInv_walk b o c a.1 w (by rw [a.2.1]; exact h64) hb (fun k hk => ⟨(a.2.2 k hk).1, (a.2.2 k hk).2.1⟩) hc).mono ?_
  rintro e w' ⟨rfl, h⟩
  exact ⟨_, rfl, h.ints (l := (pinv a).1) (by rw [(pinv a).2.1, a.2.1]) (fun i hi => (invL_get hi).symm), h.2.2⟩

theorem OwnsI.asInts {w : World} {B : Nat} {v : Value} {l : List Int} (h : OwnsI w B v l) (hl : 0 < l.length) : Ints w w.heap.size v l := by
  obtain ⟨g, cap, rfl, h1, h2⟩ := owns_form h hl
  exact ⟨_, cap, rfl, fun _ => ⟨g, 0, rfl, h2, fun j hj => by rw [Nat.zero_add]; exact (World.ownsRow.cellAt h j (by omega)).trans (icells_get hj)⟩⟩
theorem take_more {l : List Int} {k : Nat} (h : k < l.length) : l.take (k + 1) = l.take k ++ [l.getD k 0] := by
  rw [List.take_succ_eq_append_getElem h]; simp [List.getD_eq_getElem?_getD, h]

set_option maxRecDepth 100000 in
set_option maxHeartbeats 400000 in
theorem kitMul_walk (b o c b' o' c' : Nat) (zs ys : List Int) (w : World) (h64 : zs.length ≤ 64) (hb : b < w.heap.size) (hb' : b' < w.heap.size)
    (hin : ∀ k, k < zs.length → 0 ≤ zs.getD k 0 ∧ zs.getD k 0 < ys.length)
    (hc : ∀ j, j < zs.length → w.cell? ⟨b, o + j, none⟩ = some (.int .i64 (zs.getD j 0)))
    (hc' : ∀ j, j < ys.length → w.cell? ⟨b', o' + j, none⟩ = some (.int .i64 (ys.getD j 0))) :
    Calls Tryd.prog 55 #[.slice (some ⟨b, o, none⟩) zs.length c, .slice (some ⟨b', o', none⟩) ys.length c'] w fun e w' => ∃ v, e = .returned v ∧ OwnsI w' w.heap.size v (mulL zs ys) ∧ Below w.heap.size w w' := by
  obtain ⟨i0, hi, hz0, hz1, hz2⟩ := info_parts info3'
  have h00 : OwnsI w w.heap.size (.slice none 0 0) ((mulL zs ys).take 0) := World.ownsRow_nil _ _ _ _
  have H0 := Lib.hid h00
  clear h00
  have hml := mulL_len zs ys
  go_enter Tryd.func55, Tryd.ntmps55
  go_wp2
  go_loopw [5, 6] (fun v i wr => ∃ k : Nat, i = .int .i64 k ∧ k ≤ zs.length ∧ OwnsI wr w.heap.size v ((mulL zs ys).take k) ∧ Below w.heap.size w wr) (fun _ i _ => zs.length - (intOf i).toNat)
  case atStart => exact ⟨0, rfl, Nat.zero_le _, H0.out, Below.refl _ _⟩
  case round =>
    obtain ⟨k, rfl, hk, hO, hB⟩ := hrel
    have hBs := hB.size
    by_cases hlt : k < zs.length
    · have hcell : wr.cell? ⟨b, o + k, none⟩ = some (.int .i64 (zs.getD k 0)) := (hB.cell (p := ⟨b, o + k, none⟩) hb).trans (hc k hlt)
      have hxx := hin k hlt
      have HG := Lib.hid (mulL_get zs ys k)
      generalize hx : zs.getD k 0 = x at hcell hxx HG
      obtain ⟨i, rfl⟩ : ∃ i : Nat, x = (i : Int) := ⟨x.toNat, by omega⟩
      have hiy : i < ys.length := by omega
      have hcell' : wr.cell? ⟨b', o' + i, none⟩ = some (.int .i64 (ys.getD i 0)) := (hB.cell (p := ⟨b', o' + i, none⟩) hb').trans (hc' i hiy)
      have hg := HG.out i hlt rfl
      have hL : ((mulL zs ys).take k).length = k := by rw [List.length_take, hml]; omega
      have hT := take_more (l := mulL zs ys) (k := k) (by omega)
      rw [hg] at hT
      have HT := Lib.hid hT
      have HB := Lib.hid hB
      generalize ys.getD i 0 = y at hcell' HT
      clear hB hc hc' HG hg hx hin hT hml
      go_wp2_with (at_builtin; refine wpList_append_own _ rfl (.tmp 13) (.tmp 21) 24 rfl w.heap.size 3 i0 (.int .i64 0) 1 8 Tryd.underlying24 hi hz0 hz1 hz2 rfl (by decide) _ _ _ rfl (World.ownsRow.alloc hO _) ⟨wr.heap.size, 0, none⟩ 1 1 [.int .i64 y] rfl rfl (cell_one_new _ _ _) (by simp [Value.oneCell']) (by unfold maxLen; omega) (by omega) (by simp; omega) ?_; intro v1 w1 hown' hgrow _)
      have HB1 := Lib.hid ((HB.out.alloc hBs _).grown hgrow (by simp; omega) (fun q hq => (hO.lt q hq).1))
      have hx : w1.ownsRow w.heap.size 3 1 v1 ((mulL zs ys).take (k + 1)).length (icells ((mulL zs ys).take (k + 1))) := by
        rw [HT.out, icells_append, List.length_append]; exact hown'
      have HX := Lib.hid hx
      clear hx hown' hgrow hO hL
      go_wp2
      go_roundw
      case rel => exact ⟨k + 1, by go_num, by omega, HX.out, HB1.out⟩
      case measure => simp [intOf]; omega
    · have hkn : k = (mulL zs ys).length := by omega
      rw [hkn, List.take_length] at hO
      have HO := Lib.hid hO
      have HB := Lib.hid hB
      clear hO hB hkn hml hin hc hc'
      go_wp2
      go_ret
      exact ⟨_, rfl, HO.out, HB.out⟩
theorem kitMul_any {n : Nat} (a b : PL n) (v u : Value) (w : World) (h1 : 1 ≤ n) (h64 : n ≤ 64) (hv : Ints w w.heap.size v a.1) (hu : Ints w w.heap.size u b.1) : Calls Tryd.prog 55 #[v, u] w (NewPerm w (pmul a b).1) := by
  obtain ⟨b1, o, c, rfl, hb, hc⟩ := hv.at_ (by rw [a.2.1]; omega)
  obtain ⟨b2, o', c', rfl, hb', hc'⟩ := hu.at_ (by rw [b.2.1]; omega)
  refine (kitMul_walk b1 o c b2 o' c' a.1 b.1 w (by rw [a.2.1]; exact h64) hb hb' (fun k hk => ⟨(a.2.2 k hk).1, by have := (a.2.2 k hk).2.1; rw [b.2.1]; rwa [a.2.1] at this⟩) hc hc').mono ?_
  rintro e w' ⟨r, rfl, h, hbel⟩
  exact ⟨r, rfl, OwnsI.asInts h (by rw [(pmul a b).2.1]; exact h1), hbel⟩

/-- The lists that live. -/
def Live (w : World) (L : List (Value × List Int)) : Prop := ∀ (i : Nat) p, L[i]? = some p → Ints w w.heap.size p.1 p.2
theorem Live.below {w w' : World} {L : List (Value × List Int)} (h : Live w L) (hb : Below w.heap.size w w') : Live w' L := fun i p hp => ((h i p hp).below hb).more hb.size
theorem Live.step {w w' : World} {L : List (Value × List Int)} {r : Value} {l : List Int} (h : Live w L) (hb : Below w.heap.size w w') (hi : Ints w' w'.heap.size r l) : Live w' (L ++ [(r, l)]) := fun i p hp => by
  by_cases hlt : i < L.length
  · rw [List.getElem?_append_left hlt] at hp; exact h.below hb i p hp
  · rw [List.getElem?_append_right (by omega)] at hp
    have hp0 := (List.getElem?_eq_some_iff.1 hp).1
    have : i - L.length = 0 := by simpa using hp0
    rw [this] at hp
    injection hp with hp
    subst hp
    exact hi

set_option maxRecDepth 100000 in
set_option maxHeartbeats 800000 in
/-- The reference's Mul. -/
theorem refMul_any (v u : Value) (zs ys : List Int) (w : World) (hl : zs.length ≤ 17592186044400) (hl' : ys.length ≤ 17592186044400) (hv : Ints w w.heap.size v zs) (hu : Ints w w.heap.size u ys) :
    Calls Tryd.prog 36 #[v, u] w (PermErr (chk2 zs ys) (mulL zs ys) w) := by
  have HC := fun W h4 h5 => Lib.hid (both_any v u zs ys W hl hl' h4 h5)
  have HV := Lib.hid hv
  have HU := Lib.hid hu
  have hs : ∃ A n c, v = .slice A n c := by obtain ⟨A, c, h, _⟩ := hv; exact ⟨A, _, c, h⟩
  have hs' : ∃ A n c, u = .slice A n c := by obtain ⟨A, c, h, _⟩ := hu; exact ⟨A, _, c, h⟩
  obtain ⟨A, n, c, rfl⟩ := hs
  obtain ⟨A', n', c', rfl⟩ := hs'
  clear hv hu
  by_cases hx : chk2 zs ys = 0
  · obtain ⟨hz, hy, hzn⟩ := chk2_zero hx
    obtain ⟨h1, h64, hf⟩ := chk_zero hz
    obtain ⟨_, _, hg⟩ := chk_zero hy
    rw [hx] at HC ⊢
    obtain ⟨a, ha⟩ : ∃ a : PL zs.length, a.1 = zs := ⟨⟨zs, rfl, hf⟩, rfl⟩
    obtain ⟨b, hb⟩ : ∃ b : PL zs.length, b.1 = ys := ⟨⟨ys, hzn.symm, hg⟩, rfl⟩
    have G := perm_grp zs.length
    obtain ⟨r0, er⟩ : ∃ r : PL zs.length, pmul a b = r := ⟨_, rfl⟩
    have hres : mulL zs ys = r0.1 := by rw [← er]; show _ = mulL a.1 b.1; rw [ha, hb]
    rw [hres, ← er]
    have HV2 := Lib.hid (show Ints w w.heap.size (.slice A n c) a.1 by rw [ha]; exact HV.out)
    have HU2 := Lib.hid (show Ints w w.heap.size (.slice A' n' c') b.1 by rw [hb]; exact HU.out)
    clear hx hz hy hzn hf hg ha hb hres G er
    go_enter Tryd.func36, Tryd.ntmps36
    go_wp2_with fail
    refine ((HC _ HV.out HU.out).out).mono ?_
    rintro e w1 ⟨rfl, hb1⟩
    have HB := Lib.hid hb1
    have hl0 : Live w1 [(.slice A n c, a.1), (.slice A' n' c', b.1)] := fun i p hp => by
      match i, hp with
      | 0, hp => injection hp with hp; subst hp; exact (HV2.out.below HB.out).more HB.out.size
      | 1, hp => injection hp with hp; subst hp; exact (HU2.out.below HB.out).more HB.out.size
    have HL := Lib.hid hl0
    clear hb1 hl0
    go_wp2_with fail
    refine (kitMul_any a b _ _ _ h1 h64 (HL.out 0 _ rfl) (HL.out 1 _ rfl)).mono ?_
    rintro e q2 ⟨r2, rfl, hi, hb⟩
    replace HL := Lib.hid (HL.out.step hb hi); replace HB := Lib.hid (HB.out.trans (hb.mono HB.out.size))
    clear hi hb
    go_wp2_with fail
    go_ret2
    exact ⟨r2, rfl, HB.out, fun _ => HL.out 2 _ rfl, fun h => absurd rfl h⟩
  · have hx' : (chk2 zs ys != 0) = true := by simpa using hx
    have HX := Lib.hid hx
    clear hx
    generalize chk2 zs ys = x at HC hx' HX
    go_enter Tryd.func36, Tryd.ntmps36
    go_wp2_with fail
    refine ((HC _ HV.out HU.out).out).mono ?_
    rintro e w1 ⟨rfl, hb1⟩
    have HB := Lib.hid hb1
    clear hb1
    go_wp2_with fail
    go_ret2
    exact ⟨_, rfl, HB.out, fun h => absurd h HX.out, fun _ => rfl⟩

set_option maxRecDepth 100000 in
set_option maxHeartbeats 800000 in
/-- The reference's Conj. -/
theorem refConj_any (v u : Value) (zs ys : List Int) (w : World) (hl : zs.length ≤ 17592186044400) (hl' : ys.length ≤ 17592186044400) (hv : Ints w w.heap.size v zs) (hu : Ints w w.heap.size u ys) :
    Calls Tryd.prog 39 #[v, u] w (PermErr (chk2 zs ys) (conjL zs ys) w) := by
  have HC := fun W h4 h5 => Lib.hid (both_any v u zs ys W hl hl' h4 h5)
  have HV := Lib.hid hv
  have HU := Lib.hid hu
  have hs : ∃ A n c, v = .slice A n c := by obtain ⟨A, c, h, _⟩ := hv; exact ⟨A, _, c, h⟩
  have hs' : ∃ A n c, u = .slice A n c := by obtain ⟨A, c, h, _⟩ := hu; exact ⟨A, _, c, h⟩
  obtain ⟨A, n, c, rfl⟩ := hs
  obtain ⟨A', n', c', rfl⟩ := hs'
  clear hv hu
  by_cases hx : chk2 zs ys = 0
  · obtain ⟨hz, hy, hzn⟩ := chk2_zero hx
    obtain ⟨h1, h64, hf⟩ := chk_zero hz
    obtain ⟨_, _, hg⟩ := chk_zero hy
    rw [hx] at HC ⊢
    obtain ⟨a, ha⟩ : ∃ a : PL zs.length, a.1 = zs := ⟨⟨zs, rfl, hf⟩, rfl⟩
    obtain ⟨b, hb⟩ : ∃ b : PL zs.length, b.1 = ys := ⟨⟨ys, hzn.symm, hg⟩, rfl⟩
    have G := perm_grp zs.length
    obtain ⟨r0, er⟩ : ∃ r : PL zs.length, pmul (pmul (pinv b) a) b = r := ⟨_, rfl⟩
    have hres : conjL zs ys = r0.1 := by rw [← er, G.assoc]; show _ = mulL (invL b.1) (mulL a.1 b.1); rw [ha, hb]; rfl
    rw [hres, ← er]
    have HV2 := Lib.hid (show Ints w w.heap.size (.slice A n c) a.1 by rw [ha]; exact HV.out)
    have HU2 := Lib.hid (show Ints w w.heap.size (.slice A' n' c') b.1 by rw [hb]; exact HU.out)
    clear hx hz hy hzn hf hg ha hb hres G er
    go_enter Tryd.func39, Tryd.ntmps39
    go_wp2_with fail
    refine ((HC _ HV.out HU.out).out).mono ?_
    rintro e w1 ⟨rfl, hb1⟩
    have HB := Lib.hid hb1
    have hl0 : Live w1 [(.slice A n c, a.1), (.slice A' n' c', b.1)] := fun i p hp => by
      match i, hp with
      | 0, hp => injection hp with hp; subst hp; exact (HV2.out.below HB.out).more HB.out.size
      | 1, hp => injection hp with hp; subst hp; exact (HU2.out.below HB.out).more HB.out.size
    have HL := Lib.hid hl0
    clear hb1 hl0
    go_wp2_with fail
    refine (kitInv_any b _ _ h1 h64 (HL.out 1 _ rfl)).mono ?_
    rintro e q2 ⟨r2, rfl, hi, hb⟩
    replace HL := Lib.hid (HL.out.step hb hi); replace HB := Lib.hid (HB.out.trans (hb.mono HB.out.size))
    clear hi hb
    go_wp2_with fail
    refine (kitMul_any (pinv b) a _ _ _ h1 h64 (HL.out 2 _ rfl) (HL.out 0 _ rfl)).mono ?_
    rintro e q3 ⟨r3, rfl, hi, hb⟩
    replace HL := Lib.hid (HL.out.step hb hi); replace HB := Lib.hid (HB.out.trans (hb.mono HB.out.size))
    clear hi hb
    go_wp2_with fail
    refine (kitMul_any (pmul (pinv b) a) b _ _ _ h1 h64 (HL.out 3 _ rfl) (HL.out 1 _ rfl)).mono ?_
    rintro e q4 ⟨r4, rfl, hi, hb⟩
    replace HL := Lib.hid (HL.out.step hb hi); replace HB := Lib.hid (HB.out.trans (hb.mono HB.out.size))
    clear hi hb
    go_wp2_with fail
    go_ret2
    exact ⟨r4, rfl, HB.out, fun _ => HL.out 4 _ rfl, fun h => absurd rfl h⟩
  · have hx' : (chk2 zs ys != 0) = true := by simpa using hx
    have HX := Lib.hid hx
    clear hx
    generalize chk2 zs ys = x at HC hx' HX
    go_enter Tryd.func39, Tryd.ntmps39
    go_wp2_with fail
    refine ((HC _ HV.out HU.out).out).mono ?_
    rintro e w1 ⟨rfl, hb1⟩
    have HB := Lib.hid hb1
    clear hb1
    go_wp2_with fail
    go_ret2
    exact ⟨_, rfl, HB.out, fun h => absurd h HX.out, fun _ => rfl⟩

set_option maxRecDepth 100000 in
set_option maxHeartbeats 800000 in
/-- The reference's Comm. -/
theorem refComm_any (v u : Value) (zs ys : List Int) (w : World) (hl : zs.length ≤ 17592186044400) (hl' : ys.length ≤ 17592186044400) (hv : Ints w w.heap.size v zs) (hu : Ints w w.heap.size u ys) :
    Calls Tryd.prog 40 #[v, u] w (PermErr (chk2 zs ys) (commL zs ys) w) := by
  have HC := fun W h4 h5 => Lib.hid (both_any v u zs ys W hl hl' h4 h5)
  have HV := Lib.hid hv
  have HU := Lib.hid hu
  have hs : ∃ A n c, v = .slice A n c := by obtain ⟨A, c, h, _⟩ := hv; exact ⟨A, _, c, h⟩
  have hs' : ∃ A n c, u = .slice A n c := by obtain ⟨A, c, h, _⟩ := hu; exact ⟨A, _, c, h⟩
  obtain ⟨A, n, c, rfl⟩ := hs
  obtain ⟨A', n', c', rfl⟩ := hs'
  clear hv hu
  by_cases hx : chk2 zs ys = 0
  · obtain ⟨hz, hy, hzn⟩ := chk2_zero hx
    obtain ⟨h1, h64, hf⟩ := chk_zero hz
    obtain ⟨_, _, hg⟩ := chk_zero hy
    rw [hx] at HC ⊢
    obtain ⟨a, ha⟩ : ∃ a : PL zs.length, a.1 = zs := ⟨⟨zs, rfl, hf⟩, rfl⟩
    obtain ⟨b, hb⟩ : ∃ b : PL zs.length, b.1 = ys := ⟨⟨ys, hzn.symm, hg⟩, rfl⟩
    have G := perm_grp zs.length
    obtain ⟨r0, er⟩ : ∃ r : PL zs.length, pmul (pmul (pinv a) (pinv b)) (pmul a b) = r := ⟨_, rfl⟩
    have hres : commL zs ys = r0.1 := by
      have hinv : pmul (pinv a) (pinv b) = pinv (pmul b a) := by
        have h3 : pmul (pmul (pinv a) (pinv b)) (pmul b a) = pone _ := by rw [G.assoc, ← G.assoc (pinv b), G.inv_mul, G.one_mul, G.inv_mul]
        have h4 := congrArg (fun z => pmul z (pinv (pmul b a))) h3
        rw [G.assoc, G.mul_inv, G.mul_one, G.one_mul] at h4
        exact h4
      rw [← er, hinv]; show _ = mulL (invL (mulL b.1 a.1)) (mulL a.1 b.1); rw [ha, hb]; rfl
    rw [hres, ← er]
    have HV2 := Lib.hid (show Ints w w.heap.size (.slice A n c) a.1 by rw [ha]; exact HV.out)
    have HU2 := Lib.hid (show Ints w w.heap.size (.slice A' n' c') b.1 by rw [hb]; exact HU.out)
    clear hx hz hy hzn hf hg ha hb hres G er
    go_enter Tryd.func40, Tryd.ntmps40
    go_wp2_with fail
    refine ((HC _ HV.out HU.out).out).mono ?_
    rintro e w1 ⟨rfl, hb1⟩
    have HB := Lib.hid hb1
    have hl0 : Live w1 [(.slice A n c, a.1), (.slice A' n' c', b.1)] := fun i p hp => by
      match i, hp with
      | 0, hp => injection hp with hp; subst hp; exact (HV2.out.below HB.out).more HB.out.size
      | 1, hp => injection hp with hp; subst hp; exact (HU2.out.below HB.out).more HB.out.size
    have HL := Lib.hid hl0
    clear hb1 hl0
    go_wp2_with fail
    refine (kitInv_any a _ _ h1 h64 (HL.out 0 _ rfl)).mono ?_
    rintro e q2 ⟨r2, rfl, hi, hb⟩
    replace HL := Lib.hid (HL.out.step hb hi); replace HB := Lib.hid (HB.out.trans (hb.mono HB.out.size))
    clear hi hb
    go_wp2_with fail
    refine (kitInv_any b _ _ h1 h64 (HL.out 1 _ rfl)).mono ?_
    rintro e q3 ⟨r3, rfl, hi, hb⟩
    replace HL := Lib.hid (HL.out.step hb hi); replace HB := Lib.hid (HB.out.trans (hb.mono HB.out.size))
    clear hi hb
    go_wp2_with fail
    refine (kitMul_any (pinv a) (pinv b) _ _ _ h1 h64 (HL.out 2 _ rfl) (HL.out 3 _ rfl)).mono ?_
    rintro e q4 ⟨r4, rfl, hi, hb⟩
    replace HL := Lib.hid (HL.out.step hb hi); replace HB := Lib.hid (HB.out.trans (hb.mono HB.out.size))
    clear hi hb
    go_wp2_with fail
    refine (kitMul_any a b _ _ _ h1 h64 (HL.out 0 _ rfl) (HL.out 1 _ rfl)).mono ?_
    rintro e q5 ⟨r5, rfl, hi, hb⟩
    replace HL := Lib.hid (HL.out.step hb hi); replace HB := Lib.hid (HB.out.trans (hb.mono HB.out.size))
    clear hi hb
    go_wp2_with fail
    refine (kitMul_any (pmul (pinv a) (pinv b)) (pmul a b) _ _ _ h1 h64 (HL.out 4 _ rfl) (HL.out 5 _ rfl)).mono ?_
    rintro e q6 ⟨r6, rfl, hi, hb⟩
    replace HL := Lib.hid (HL.out.step hb hi); replace HB := Lib.hid (HB.out.trans (hb.mono HB.out.size))
    clear hi hb
    go_wp2_with fail
    go_ret2
    exact ⟨r6, rfl, HB.out, fun _ => HL.out 6 _ rfl, fun h => absurd rfl h⟩
  · have hx' : (chk2 zs ys != 0) = true := by simpa using hx
    have HX := Lib.hid hx
    clear hx
    generalize chk2 zs ys = x at HC hx' HX
    go_enter Tryd.func40, Tryd.ntmps40
    go_wp2_with fail
    refine ((HC _ HV.out HU.out).out).mono ?_
    rintro e w1 ⟨rfl, hb1⟩
    have HB := Lib.hid hb1
    clear hb1
    go_wp2_with fail
    go_ret2
    exact ⟨_, rfl, HB.out, fun h => absurd h HX.out, fun _ => rfl⟩

set_option maxRecDepth 100000 in
set_option maxHeartbeats 400000 in
/-- The reference's Inv. -/
theorem refInv_any (v : Value) (zs : List Int) (w : World) (hl : zs.length ≤ 17592186044400) (hv : Ints w w.heap.size v zs) :
    Calls Tryd.prog 37 #[v] w (PermErr (chk zs) (invL zs) w) := by
  have HC := fun W h3 => Lib.hid (refCheck_any v zs W hl h3)
  have HI : ∀ u W, Ints W W.heap.size u zs → Hid (chk zs = 0 → Calls Tryd.prog 73 #[u] W (NewPerm W (invL zs))) := fun u W h hz => kitInv_any (n := zs.length) ⟨zs, rfl, (chk_zero hz).2.2⟩ u W (chk_zero hz).1 (chk_zero hz).2.1 h
  have HV := Lib.hid hv
  have hs : ∃ A n c, v = .slice A n c := by obtain ⟨A, c, h, _⟩ := hv; exact ⟨A, _, c, h⟩
  obtain ⟨A, n, c, rfl⟩ := hs
  clear hv
  generalize chk zs = x at HC HI
  by_cases hx : x = 0
  · subst hx
    go_enter Tryd.func37, Tryd.ntmps37
    go_wp2_with fail
    refine ((HC _ HV.out).out).mono ?_
    rintro e w1 ⟨rfl, hb1⟩
    have HB := Lib.hid hb1
    clear hb1
    go_wp2_with fail
    refine ((HI _ _ ((HV.out.below HB.out).more HB.out.size)).out (by trivial)).mono ?_
    rintro e w2 ⟨r, rfl, hr, hb2⟩
    have HB2 := Lib.hid (HB.out.trans (hb2.mono HB.out.size))
    have HR := Lib.hid hr
    clear hr hb2
    go_wp2_with fail
    go_ret2
    exact ⟨r, rfl, HB2.out, fun _ => HR.out, fun h => absurd rfl h⟩
  · have hx' : (x != 0) = true := by simpa using hx
    have HX := Lib.hid hx
    clear hx HI
    go_enter Tryd.func37, Tryd.ntmps37
    go_wp2_with fail
    refine ((HC _ HV.out).out).mono ?_
    rintro e w1 ⟨rfl, hb1⟩
    have HB := Lib.hid hb1
    clear hb1
    go_wp2_with fail
    go_ret2
    exact ⟨_, rfl, HB.out, fun h => absurd h HX.out, fun _ => rfl⟩

set_option maxRecDepth 100000 in
set_option maxHeartbeats 400000 in
/-- The reference's One. -/
theorem refOne_any (x : Int) (w : World) : Calls Tryd.prog 41 #[.int .i64 x] w (PermErr (oneErr x) (idL x.toNat) w) := by
  by_cases h1 : x < 1
  · have h : oneErr x = 2 := if_pos (.inl h1)
    rw [h]
    go_enter Tryd.func41, Tryd.ntmps41
    go_wp2_with fail
    go_ret2
    exact ⟨_, rfl, Below.refl _ _, fun h => absurd h (by decide), fun _ => rfl⟩
  · by_cases h2 : 64 < x
    · have h : oneErr x = 2 := if_pos (.inr h2)
      rw [h]
      go_enter Tryd.func41, Tryd.ntmps41
      go_wp2_with fail
      go_ret2
      exact ⟨_, rfl, Below.refl _ _, fun h => absurd h (by decide), fun _ => rfl⟩
    · have h : oneErr x = 0 := if_neg (by omega)
      rw [h]
      obtain ⟨n, rfl⟩ : ∃ n : Nat, x = (n : Int) := ⟨x.toNat, by omega⟩
      have hn1 : 1 ≤ n := by omega
      have HO := fun W => Lib.hid (kitOne_any n W (by omega))
      rw [Int.toNat_natCast]
      go_enter Tryd.func41, Tryd.ntmps41
      go_wp2_with fail
      refine ((HO _).out).mono ?_
      rintro e w2 ⟨r, rfl, hr, hb2⟩
      have HB2 := Lib.hid hb2
      have HR2 := Lib.hid (OwnsI.asInts hr (by rw [idL_len]; exact hn1))
      clear hr hb2
      go_wp2_with fail
      go_ret2
      exact ⟨r, rfl, HB2.out, fun _ => HR2.out, fun h => absurd rfl h⟩
end Go.Proofs.YtpchomhfpfpckaaDoor
