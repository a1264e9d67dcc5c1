/- PermGroup's walk. -/
import Derived.Test.YtpchomhfpfpckaaDoorThree
import Derived.Test.YtpchomhfpfpckaaDoorPow2
import Derived.Test.YtpchomhfpfpckaaDoorLives
namespace Go.Proofs.YtpchomhfpfpckaaDoor
open Go Go.RowKit

/-- A function has returned a list and no error. -/
def Got (w : World) (l : List Int) (e : Ending) (w' : World) : Prop := ∃ r, e = .returned (.tuple #[r, .int .i64 0]) ∧ Ints w' w'.heap.size r l ∧ Below w.heap.size w w'
theorem PermErr.got {l : List Int} {w w' : World} {e : Ending} (h : PermErr 0 l w e w') : Got w l e w' := by
  obtain ⟨r, he, hb, hi, _⟩ := h
  exact ⟨r, he, hi rfl, hb⟩
theorem PL.chk {n : Nat} (a : PL n) (h1 : 1 ≤ n) (h64 : n ≤ 64) : chk a.1 = 0 := chk_ok (by rw [a.2.1]; exact h1) (by rw [a.2.1]; exact h64) a.2.2
theorem mulG {n : Nat} (a b r : PL n) (v u : Value) (w : World) (h1 : 1 ≤ n) (h64 : n ≤ 64) (h : pmul a b = r) (hv : Ints w w.heap.size v a.1) (hu : Ints w w.heap.size u b.1) : Calls Tryd.prog 12 #[v, u] w (Got w r.1) := by
  subst h
  have := Mul_any v u a.1 b.1 w (by rw [a.2.1]; omega) (by rw [b.2.1]; omega) hv hu
  rw [chk2_d (a.chk h1 h64) (b.chk h1 h64) (by rw [a.2.1, b.2.1])] at this
  exact this.mono fun _ _ h => PermErr.got h
theorem invG {n : Nat} (a r : PL n) (v : Value) (w : World) (h1 : 1 ≤ n) (h64 : n ≤ 64) (h : pinv a = r) (hv : Ints w w.heap.size v a.1) : Calls Tryd.prog 15 #[v] w (Got w r.1) := by
  subst h
  have := Inv_any v a.1 w (by rw [a.2.1]; omega) hv
  rw [a.chk h1 h64] at this
  exact this.mono fun _ _ h => PermErr.got h
theorem powG {n : Nat} (a r : PL n) (x : Int) (v : Value) (w : World) (h1 : 1 ≤ n) (h64 : n ≤ 64) (hx : -1000000 ≤ x ∧ x ≤ 1000000) (h : zpow pmul (pone n) pinv a x = r) (hv : Ints w w.heap.size v a.1) : Calls Tryd.prog 16 #[v, .int .i64 x] w (Got w r.1) := by
  subst h
  have := Pow_any v a.1 x w (by omega) (by omega) (by rw [a.2.1]; omega) hv
  rw [a.chk h1 h64, powL_of] at this
  exact this.mono fun _ _ h => PermErr.got h

/-- The lists that live. -/
def Live (w : World) (L : List (Value × List Int)) : Prop := ∀ (i : Nat) p, L[i]? = some p → Ints w w.heap.size p.1 p.2
theorem Live.below {w w' : World} {L : List (Value × List Int)} (h : Live w L) (hb : Below w.heap.size w w') : Live w' L := fun i p hp => ((h i p hp).below hb).more hb.size
theorem Live.step {w w' : World} {L : List (Value × List Int)} {r : Value} {l : List Int} (h : Live w L) (hb : Below w.heap.size w w') (hi : Ints w' w'.heap.size r l) : Live w' (L ++ [(r, l)]) := fun i p hp => by
  by_cases hlt : i < L.length
  · rw [List.getElem?_append_left hlt] at hp; exact h.below hb i p hp
  · rw [List.getElem?_append_right (by omega)] at hp
    have hp0 := (List.getElem?_eq_some_iff.1 hp).1
    have : i - L.length = 0 := by simpa using hp0
    rw [this] at hp
    injection hp with hp
    subst hp
    exact hi
theorem Live.drewN {w : World} {L : List (Value × List Int)} (h : Live w L) (n : Nat) : Live (w.drewN n) L := h
theorem Live.drawn {w q : World} {L : List (Value × List Int)} (h : Live w L) (hm : ∃ m, q = w.drewN m) : Live q L := by obtain ⟨m, rfl⟩ := hm; exact h
theorem below_drawn (B : Nat) {w q : World} (hm : ∃ m, q = w.drewN m) : Below B w q := by obtain ⟨m, rfl⟩ := hm; exact ⟨rfl, rfl, rfl, Nat.le_refl _, fun _ _ => rfl⟩
theorem sameB_eq {zs ys : List Int} (h : zs = ys) : sameB zs ys = true := decide_eq_true h
theorem OwnsI.ints {w : World} {B : Nat} {v : Value} {l : List Int} (h : OwnsI w B v l) (hl : 0 < l.length) : Ints w w.heap.size v l := by
  obtain ⟨g, cap, rfl, h1, h2⟩ := owns_form h hl
  exact ⟨_, cap, rfl, fun _ => ⟨g, 0, rfl, h2, fun j hj => by rw [Nat.zero_add]; exact (World.ownsRow.cellAt h j (by omega)).trans (icells_get hj)⟩⟩
theorem sameG {n : Nat} (a b : PL n) (v u : Value) (w : World) (h64 : n ≤ 64) (h : a = b) (hv : Ints w w.heap.size v a.1) (hu : Ints w w.heap.size u b.1) :
    Calls Tryd.prog 24 #[v, u] w fun e w' => e = .returned (.bool true) ∧ ∃ m, w' = w.drewN m := by
  have := same_any w.heap.size v u a.1 b.1 w (by rw [a.2.1]; omega) hv hu
  rw [sameB_eq (by rw [h])] at this
  exact this

theorem mul_in {X Y : Int} (hX : -1000 ≤ X ∧ X ≤ 1000) (hY : -1000 ≤ Y ∧ Y ≤ 1000) : -1000000 ≤ X * Y ∧ X * Y ≤ 1000000 := by
  have h : (X * Y).natAbs ≤ 1000 * 1000 := by rw [Int.natAbs_mul]; exact Nat.mul_le_mul (by omega) (by omega)
  omega

set_option maxRecDepth 100000 in
set_option maxHeartbeats 8000000 in
theorem permGroup_any (v : Value) (zs : List Int) (n0 x0 y0 : Int) (w : World) (hl : zs.length ≤ 9223372036854775807) (hv : Ints w w.heap.size v zs) :
    Calls Tryd.prog 8 #[v, .int .i64 n0, .int .i64 x0, .int .i64 y0] w fun e w' => e = .returned (.bool true) ∧ Below w.heap.size w w' := by
  have HV := Lib.hid hv
  have hs : ∃ A c, v = .slice A zs.length c := by obtain ⟨A, c, h, _⟩ := hv; exact ⟨A, c, h⟩
  obtain ⟨A, c, rfl⟩ := hs
  clear hv
  have hpx := pickV_in x0 2001 (by omega)
  have hpy := pickV_in y0 2001 (by omega)
  have HPx := fun W => Lib.hid (pick_any x0 2001 W (by omega) (by omega))
  have HPy := fun W => Lib.hid (pick_any y0 2001 W (by omega) (by omega))
  by_cases h100 : (100 : Int) < (zs.length : Int)
  · go_enter Tryd.func8, Tryd.ntmps8
    go_wp2_with fail
    refine (lives_any _).mono ?_
    rintro e w1 ⟨rfl, hb1⟩
    have HB := Lib.hid hb1
    clear hb1 HPx HPy hpx hpy
    go_wp2_with fail
    go_ret
    exact ⟨rfl, HB.out⟩
  · have HTh := fun W h => Lib.hid (three_any (.slice A zs.length c) zs n0 W (by omega) h)
    generalize pickV x0 2001 = px at hpx HPx
    generalize pickV y0 2001 = py at hpy HPy
    obtain ⟨X, hX⟩ : ∃ X, px - 1000 = X := ⟨_, rfl⟩
    obtain ⟨Y, hY⟩ : ∃ Y, py - 1000 = Y := ⟨_, rfl⟩
    have hXr : -1000 ≤ X ∧ X ≤ 1000 := by omega
    have hYr : -1000 ≤ Y ∧ Y ≤ 1000 := by omega
    go_enter Tryd.func8, Tryd.ntmps8
    go_wp2_with fail
    refine (lives_any _).mono ?_
    rintro e w1 ⟨rfl, hb1⟩
    have HB1 := Lib.hid hb1
    clear hb1
    go_wp2_with fail
    refine (HTh _ ((HV.out.below HB1.out).more HB1.out.size)).out.mono ?_
    rintro e w2 ⟨n, a, b, cc, ra, rb, rc, h1, h12, rfl, hia, hib, hic, hb2⟩
    have hl0 : Live w2 [(ra, a.1), (rb, b.1), (rc, cc.1)] := fun i p hp => by
      match i, hp with
      | 0, hp => injection hp with hp; subst hp; exact hia
      | 1, hp => injection hp with hp; subst hp; exact hib
      | 2, hp => injection hp with hp; subst hp; exact hic
    have hsa : ∃ A' c', ra = .slice A' n c' := by obtain ⟨A', c', h, _⟩ := hia; rw [a.2.1] at h; exact ⟨A', c', h⟩
    obtain ⟨A', c', rfl⟩ := hsa
    have HL := Lib.hid hl0
    have HB2 := Lib.hid (HB1.out.trans (hb2.mono HB1.out.size))
    clear hl0 hia hib hic hb2 HTh HV HB1
    have h64 : n ≤ 64 := by omega
    go_wp2_with fail
    refine (HPx _).out.mono ?_
    rintro e w2' ⟨rfl, rfl⟩
    go_wp2_with fail
    refine (HPy _).out.mono ?_
    rintro e w2' ⟨rfl, rfl⟩
    clear HPx HPy
    obtain ⟨AB, eAB⟩ : ∃ r : PL n, pmul a b = r := ⟨_, rfl⟩
    obtain ⟨BC, eBC⟩ : ∃ r : PL n, pmul b cc = r := ⟨_, rfl⟩
    obtain ⟨LE, eLE⟩ : ∃ r : PL n, pmul AB cc = r := ⟨_, rfl⟩
    obtain ⟨RI, eRI⟩ : ∃ r : PL n, pmul a BC = r := ⟨_, rfl⟩
    obtain ⟨IV, eIV⟩ : ∃ r : PL n, pinv a = r := ⟨_, rfl⟩
    obtain ⟨ID, eID⟩ : ∃ r : PL n, pmul a IV = r := ⟨_, rfl⟩
    obtain ⟨DI, eDI⟩ : ∃ r : PL n, pmul IV a = r := ⟨_, rfl⟩
    obtain ⟨PX, ePX⟩ : ∃ r : PL n, zpow pmul (pone n) pinv a X = r := ⟨_, rfl⟩
    obtain ⟨PY, ePY⟩ : ∃ r : PL n, zpow pmul (pone n) pinv a Y = r := ⟨_, rfl⟩
    obtain ⟨SM, eSM⟩ : ∃ r : PL n, zpow pmul (pone n) pinv a (X + Y) = r := ⟨_, rfl⟩
    obtain ⟨BT, eBT⟩ : ∃ r : PL n, pmul PX PY = r := ⟨_, rfl⟩
    obtain ⟨PR, ePR⟩ : ∃ r : PL n, zpow pmul (pone n) pinv a (X * Y) = r := ⟨_, rfl⟩
    obtain ⟨TW, eTW⟩ : ∃ r : PL n, zpow pmul (pone n) pinv PX Y = r := ⟨_, rfl⟩
    obtain ⟨ZR, eZR⟩ : ∃ r : PL n, zpow pmul (pone n) pinv a 0 = r := ⟨_, rfl⟩
    obtain ⟨ON, eON⟩ : ∃ r : PL n, zpow pmul (pone n) pinv a 1 = r := ⟨_, rfl⟩
    have G := perm_grp n
    have S1 := Lib.hid (show LE = RI by rw [← eLE, ← eRI, ← eAB, ← eBC]; exact G.assoc a b cc)
    have hid1 : ID = pone n := by rw [← eID, ← eIV]; exact G.mul_inv a
    have S2 := Lib.hid hid1
    have S3 := Lib.hid (show DI = ID by rw [hid1, ← eDI, ← eIV]; exact G.inv_mul a)
    have S4 := Lib.hid (show SM = BT by rw [← eSM, ← eBT, ← ePX, ← ePY]; exact zpow_add G a X Y)
    have S5 := Lib.hid (show PR = TW by rw [← ePR, ← eTW, ← ePX]; exact zpow_mul G a X Y)
    have S6 := Lib.hid (show ZR = ID by rw [hid1, ← eZR]; rfl)
    have S7 := Lib.hid (show ON = a by rw [← eON]; exact G.one_mul a)
    have EAB := Lib.hid eAB
    have EBC := Lib.hid eBC
    have ELE := Lib.hid eLE
    have ERI := Lib.hid eRI
    have EIV := Lib.hid eIV
    have EID := Lib.hid eID
    have EDI := Lib.hid eDI
    have EPX := Lib.hid ePX
    have EPY := Lib.hid ePY
    have ESM := Lib.hid eSM
    have EBT := Lib.hid eBT
    have EPR := Lib.hid ePR
    have ETW := Lib.hid eTW
    have EZR := Lib.hid eZR
    have EON := Lib.hid eON
    clear G hid1 eAB eBC eLE eRI eIV eID eDI ePX ePY eSM eBT ePR eTW eZR eON
    have hXY : -1000000 ≤ X * Y ∧ X * Y ≤ 1000000 := mul_in hXr hYr
    clear hpx hpy
    go_wp2_with fail
    refine (mulG a b AB _ _ _ h1 h64 EAB.out (HL.out 0 _ rfl) (HL.out 1 _ rfl)).mono ?_
    rintro e q3 ⟨r3, rfl, hi, hb⟩
    replace HL := Lib.hid (HL.out.step hb hi); replace HB2 := Lib.hid (HB2.out.trans (hb.mono HB2.out.size))
    clear hi hb
    go_wp2_with fail
    refine (mulG b cc BC _ _ _ h1 h64 EBC.out (HL.out 1 _ rfl) (HL.out 2 _ rfl)).mono ?_
    rintro e q4 ⟨r4, rfl, hi, hb⟩
    replace HL := Lib.hid (HL.out.step hb hi); replace HB2 := Lib.hid (HB2.out.trans (hb.mono HB2.out.size))
    clear hi hb
    go_wp2_with fail
    refine (mulG AB cc LE _ _ _ h1 h64 ELE.out (HL.out 3 _ rfl) (HL.out 2 _ rfl)).mono ?_
    rintro e q5 ⟨r5, rfl, hi, hb⟩
    replace HL := Lib.hid (HL.out.step hb hi); replace HB2 := Lib.hid (HB2.out.trans (hb.mono HB2.out.size))
    clear hi hb
    go_wp2_with fail
    refine (mulG a BC RI _ _ _ h1 h64 ERI.out (HL.out 0 _ rfl) (HL.out 4 _ rfl)).mono ?_
    rintro e q6 ⟨r6, rfl, hi, hb⟩
    replace HL := Lib.hid (HL.out.step hb hi); replace HB2 := Lib.hid (HB2.out.trans (hb.mono HB2.out.size))
    clear hi hb
    go_wp2_with fail
    refine (invG a IV _ _ h1 h64 EIV.out (HL.out 0 _ rfl)).mono ?_
    rintro e q7 ⟨r7, rfl, hi, hb⟩
    replace HL := Lib.hid (HL.out.step hb hi); replace HB2 := Lib.hid (HB2.out.trans (hb.mono HB2.out.size))
    clear hi hb
    go_wp2_with fail
    refine (mulG a IV ID _ _ _ h1 h64 EID.out (HL.out 0 _ rfl) (HL.out 7 _ rfl)).mono ?_
    rintro e q8 ⟨r8, rfl, hi, hb⟩
    replace HL := Lib.hid (HL.out.step hb hi); replace HB2 := Lib.hid (HB2.out.trans (hb.mono HB2.out.size))
    clear hi hb
    go_wp2_with fail
    refine (mulG IV a DI _ _ _ h1 h64 EDI.out (HL.out 7 _ rfl) (HL.out 0 _ rfl)).mono ?_
    rintro e q9 ⟨r9, rfl, hi, hb⟩
    replace HL := Lib.hid (HL.out.step hb hi); replace HB2 := Lib.hid (HB2.out.trans (hb.mono HB2.out.size))
    clear hi hb
    go_wp2_with fail
    refine (sameG LE RI _ _ _ h64 S1.out (HL.out 5 _ rfl) (HL.out 6 _ rfl)).mono ?_
    rintro e q ⟨rfl, hm⟩
    replace HL := Lib.hid (HL.out.drawn hm); replace HB2 := Lib.hid (HB2.out.trans (below_drawn _ hm))
    clear hm
    go_wp2_with fail
    refine (kitOne_any n _ (by omega)).mono ?_
    rintro e q10 ⟨r10, rfl, ho, hb⟩
    have hi : Ints q10 q10.heap.size r10 (pone n).1 := OwnsI.ints ho (by rw [(pone n).2.1]; exact h1)
    replace HL := Lib.hid (HL.out.step hb hi); replace HB2 := Lib.hid (HB2.out.trans (hb.mono HB2.out.size))
    clear hi hb ho
    go_wp2_with fail
    refine (sameG ID (pone n) _ _ _ h64 S2.out (HL.out 8 _ rfl) (HL.out 10 _ rfl)).mono ?_
    rintro e q ⟨rfl, hm⟩
    replace HL := Lib.hid (HL.out.drawn hm); replace HB2 := Lib.hid (HB2.out.trans (below_drawn _ hm))
    clear hm
    go_wp2_with fail
    refine (sameG DI ID _ _ _ h64 S3.out (HL.out 9 _ rfl) (HL.out 8 _ rfl)).mono ?_
    rintro e q ⟨rfl, hm⟩
    replace HL := Lib.hid (HL.out.drawn hm); replace HB2 := Lib.hid (HB2.out.trans (below_drawn _ hm))
    clear hm
    go_wp2_with fail
    refine (powG a PX (X) _ _ h1 h64 (by omega) EPX.out (HL.out 0 _ rfl)).mono ?_
    rintro e q11 ⟨r11, rfl, hi, hb⟩
    replace HL := Lib.hid (HL.out.step hb hi); replace HB2 := Lib.hid (HB2.out.trans (hb.mono HB2.out.size))
    clear hi hb
    go_wp2_with fail
    refine (powG a PY (Y) _ _ h1 h64 (by omega) EPY.out (HL.out 0 _ rfl)).mono ?_
    rintro e q12 ⟨r12, rfl, hi, hb⟩
    replace HL := Lib.hid (HL.out.step hb hi); replace HB2 := Lib.hid (HB2.out.trans (hb.mono HB2.out.size))
    clear hi hb
    go_wp2_with fail
    refine (powG a SM (X + Y) _ _ h1 h64 (by omega) ESM.out (HL.out 0 _ rfl)).mono ?_
    rintro e q13 ⟨r13, rfl, hi, hb⟩
    replace HL := Lib.hid (HL.out.step hb hi); replace HB2 := Lib.hid (HB2.out.trans (hb.mono HB2.out.size))
    clear hi hb
    go_wp2_with fail
    refine (mulG PX PY BT _ _ _ h1 h64 EBT.out (HL.out 11 _ rfl) (HL.out 12 _ rfl)).mono ?_
    rintro e q14 ⟨r14, rfl, hi, hb⟩
    replace HL := Lib.hid (HL.out.step hb hi); replace HB2 := Lib.hid (HB2.out.trans (hb.mono HB2.out.size))
    clear hi hb
    go_wp2_with fail
    refine (powG a PR (X * Y) _ _ h1 h64 (by omega) EPR.out (HL.out 0 _ rfl)).mono ?_
    rintro e q15 ⟨r15, rfl, hi, hb⟩
    replace HL := Lib.hid (HL.out.step hb hi); replace HB2 := Lib.hid (HB2.out.trans (hb.mono HB2.out.size))
    clear hi hb
    go_wp2_with fail
    refine (powG PX TW (Y) _ _ h1 h64 (by omega) ETW.out (HL.out 11 _ rfl)).mono ?_
    rintro e q16 ⟨r16, rfl, hi, hb⟩
    replace HL := Lib.hid (HL.out.step hb hi); replace HB2 := Lib.hid (HB2.out.trans (hb.mono HB2.out.size))
    clear hi hb
    go_wp2_with fail
    refine (powG a ZR (0) _ _ h1 h64 (by omega) EZR.out (HL.out 0 _ rfl)).mono ?_
    rintro e q17 ⟨r17, rfl, hi, hb⟩
    replace HL := Lib.hid (HL.out.step hb hi); replace HB2 := Lib.hid (HB2.out.trans (hb.mono HB2.out.size))
    clear hi hb
    go_wp2_with fail
    refine (powG a ON (1) _ _ h1 h64 (by omega) EON.out (HL.out 0 _ rfl)).mono ?_
    rintro e q18 ⟨r18, rfl, hi, hb⟩
    replace HL := Lib.hid (HL.out.step hb hi); replace HB2 := Lib.hid (HB2.out.trans (hb.mono HB2.out.size))
    clear hi hb
    go_wp2_with fail
    refine (sameG SM BT _ _ _ h64 S4.out (HL.out 13 _ rfl) (HL.out 14 _ rfl)).mono ?_
    rintro e q ⟨rfl, hm⟩
    replace HL := Lib.hid (HL.out.drawn hm); replace HB2 := Lib.hid (HB2.out.trans (below_drawn _ hm))
    clear hm
    go_wp2_with fail
    refine (sameG PR TW _ _ _ h64 S5.out (HL.out 15 _ rfl) (HL.out 16 _ rfl)).mono ?_
    rintro e q ⟨rfl, hm⟩
    replace HL := Lib.hid (HL.out.drawn hm); replace HB2 := Lib.hid (HB2.out.trans (below_drawn _ hm))
    clear hm
    go_wp2_with fail
    refine (sameG ZR ID _ _ _ h64 S6.out (HL.out 17 _ rfl) (HL.out 8 _ rfl)).mono ?_
    rintro e q ⟨rfl, hm⟩
    replace HL := Lib.hid (HL.out.drawn hm); replace HB2 := Lib.hid (HB2.out.trans (below_drawn _ hm))
    clear hm
    go_wp2_with fail
    refine (sameG ON a _ _ _ h64 S7.out (HL.out 18 _ rfl) (HL.out 0 _ rfl)).mono ?_
    rintro e q ⟨rfl, hm⟩
    replace HL := Lib.hid (HL.out.drawn hm); replace HB2 := Lib.hid (HB2.out.trans (below_drawn _ hm))
    clear hm
    go_wp2_with fail
    go_ret
    exact ⟨rfl, HB2.out⟩
end Go.Proofs.YtpchomhfpfpckaaDoor
