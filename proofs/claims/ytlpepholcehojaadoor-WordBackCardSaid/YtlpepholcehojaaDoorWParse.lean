/- The reader of package word: words, factors and items, where no fault is met. -/
import Derived.Test.YtlpepholcehojaaDoorWExpo
import Derived.Test.YtlpepholcehojaaDoorWRepeat
import Derived.Test.YtlpepholcehojaaDoorWOps
namespace Go.Proofs.YtlpepholcehojaaDoor
open Go Go.RowKit

inductive RK | word | factor | item

/-- What a text reads as, from a place to a place, by the document's table. -/
inductive RP (s : ByteArray) (g : Nat) : RK → Nat → List Int → Nat → Nat → List Int → Prop
  | last {o p p1 p2 q : Nat} {acc f : List Int} : Skp s p p1 → RP s g .factor o [] p1 p2 f → (acc ++ f).length ≤ 4000 → Skp s p2 q → chAt s q ≠ 42 → RP s g .word o acc p q (acc ++ f)
  | more {o p p1 p2 p3 q : Nat} {acc f v : List Int} : Skp s p p1 → RP s g .factor o [] p1 p2 f → (acc ++ f).length ≤ 4000 → Skp s p2 p3 → chAt s p3 = 42 → RP s g .word o (acc ++ f) (p3 + 1) q v → RP s g .word o acc p q v
  | plain {o p p1 q : Nat} {v : List Int} : RP s g .item o [] p p1 v → v.length ≤ 4000 → Skp s p1 q → chAt s q ≠ 94 → RP s g .factor o [] p q v
  | power {o p p1 p2 q : Nat} {v : List Int} {n : Int} : RP s g .item o [] p p1 v → v.length ≤ 4000 → Skp s p1 p2 → chAt s p2 = 94 → Expo s (p2 + 1) q n → n.natAbs * v.length ≤ 4000 → RP s g .factor o [] p q (zp v n)
  | one {o p p1 : Nat} : Skp s p p1 → chAt s p1 = 49 → RP s g .item o [] p (p1 + 1) []
  | group {o p p1 p2 p3 : Nat} {v : List Int} : Skp s p p1 → chAt s p1 = 40 → o < 50 → RP s g .word (o + 1) [] (p1 + 1) p2 v → Skp s p2 p3 → chAt s p3 = 41 → RP s g .item o [] p (p3 + 1) v
  | comm {o p p1 p2 p3 p4 p5 : Nat} {x y : List Int} : Skp s p p1 → chAt s p1 = 91 → o < 50 → RP s g .word (o + 1) [] (p1 + 1) p2 x → Skp s p2 p3 → chAt s p3 = 44 → RP s g .word (o + 1) [] (p3 + 1) p4 y → Skp s p4 p5 → chAt s p5 = 93 → x.length ≤ 4000 → y.length ≤ 4000 → RP s g .item o [] p (p5 + 1) (winv x ++ (winv y ++ (x ++ y)))
  | letter {o p q k : Nat} : Skp s p q → k < g → chAt s q = 97 + (k : Int) → RP s g .item o [] p (q + 1) [(k : Int) + 1]

theorem Lets.rep {v : List Int} (h : Lets v) : ∀ n, Lets (rep v n)
  | 0 => fun x hx => by cases hx
  | n + 1 => h.append (Lets.rep h n)
theorem Lets.zp {v : List Int} (h : Lets v) (n : Int) : Lets (zp v n) := by
  unfold Go.Proofs.YtlpepholcehojaaDoor.zp
  split
  · exact h.winv.rep _
  · exact h.rep _
theorem RP.lets {s : ByteArray} {g : Nat} (hg : g ≤ 16) {k : RK} {o p q : Nat} {acc v : List Int} (h : RP s g k o acc p q v) : Lets acc → Lets v := by
  induction h with
  | last _ _ _ _ _ ih => exact fun ha => ha.append (ih (fun _ h => by cases h))
  | more _ _ _ _ _ _ ih ih2 => exact fun ha => ih2 (ha.append (ih (fun _ h => by cases h)))
  | plain _ _ _ _ ih => exact ih
  | power _ _ _ _ _ _ ih => exact fun ha => (ih ha).zp _
  | one _ _ => exact id
  | group _ _ _ _ _ _ ih => exact ih
  | comm _ _ _ _ _ _ _ _ _ _ _ ih ih2 => exact fun _ => (ih (fun _ h => by cases h)).winv.append ((ih2 (fun _ h => by cases h)).winv.append ((ih (fun _ h => by cases h)).append (ih2 (fun _ h => by cases h))))
  | letter _ hk _ => exact fun _ x hx => by simp at hx; subst hx; omega

/-- A slice of a call's own stays, whatever becomes of the reader. -/
theorem OwnsI.but {w w' : World} {R B : Nat} {v : Value} {l : List Int} (h : OwnsI w B v l) (hb : But R w.heap.size w w') (hR : R < B) : OwnsI w' B v l := by
  refine ⟨h.1, ?_⟩
  rcases h.2 with h | ⟨g, cap, cur, e, hbg, hg, r⟩
  · exact .inl h
  · exact .inr ⟨g, cap, cur, e, hbg, (hb.2 g (Array.getElem?_eq_some_iff.1 hg).1 (by omega)).trans hg, r⟩

/-- What a reading call leaves. -/
def RdPost (w : World) (R : Nat) (s : ByteArray) (g : Nat) (q o : Nat) (v : List Int) (e : Ending) (w' : World) : Prop := ∃ r, e = .returned r ∧ Rd w w' R s g q o ∧ OwnsI w' w.heap.size r v
def FacC (s : ByteArray) (g o p q : Nat) (v : List Int) : Prop := ∀ (w : World) (R : Nat), RdRow w R s g p o → Calls Tryd.prog 53 #[.pointer (some ⟨R, 0, none⟩)] w (RdPost w R s g q o v)
def ItemC (s : ByteArray) (g o p q : Nat) (v : List Int) : Prop := ∀ (w : World) (R : Nat), RdRow w R s g p o → Calls Tryd.prog 59 #[.pointer (some ⟨R, 0, none⟩)] w (RdPost w R s g q o v)
def WordC (s : ByteArray) (g o p q : Nat) (v : List Int) : Prop := ∀ (w : World) (R : Nat), RdRow w R s g p o → Calls Tryd.prog 43 #[.pointer (some ⟨R, 0, none⟩)] w (RdPost w R s g q o v)
/-- The rounds of a word that are still to come. -/
inductive WOK (s : ByteArray) (g o q : Nat) (v : List Int) : Nat → List Int → Nat → Prop
  | last {p p1 p2 : Nat} {acc f : List Int} : Skp s p p1 → FacC s g o p1 p2 f → (acc ++ f).length ≤ 4000 → Skp s p2 q → chAt s q ≠ 42 → acc ++ f = v → WOK s g o q v 0 acc p
  | more {n p p1 p2 p3 : Nat} {acc f : List Int} : Skp s p p1 → FacC s g o p1 p2 f → (acc ++ f).length ≤ 4000 → Skp s p2 p3 → chAt s p3 = 42 → WOK s g o q v n (acc ++ f) (p3 + 1) → WOK s g o q v (n + 1) acc p

set_option maxRecDepth 100000 in
set_option maxHeartbeats 2000000 in
theorem word_call {s : ByteArray} {g o p q n : Nat} {v : List Int} (hs : s.size ≤ 20000) (hw : WOK s g o q v n [] p) : WordC s g o p q v := by
  intro w R hrow
  obtain ⟨i0, hi, hz0, hz1, hz2⟩ := info_parts info3'
  have hR := hrow.lt
  have HR := Lib.hid (Rd.refl hrow)
  have HW := Lib.hid hw
  have HN := Lib.hid (show OwnsI w w.heap.size (.slice none 0 0) [] from World.ownsRow_nil _ _ _ _)
  clear hrow hw
  go_enter Tryd.func43, Tryd.ntmps43
  go_wp2
  go_loopg [3] n (fun gk v3 wr => ∃ (acc : List Int) (p' : Nat), WOK s g o q v gk acc p' ∧ Rd w wr R s g p' o ∧ OwnsI wr w.heap.size v3 acc)
  case atStart => exact ⟨[], p, HW.out, HR.out, HN.out⟩
  case round =>
    obtain ⟨acc, p', hwk, hRd, hO⟩ := hrel
    cases hwk with
    | @last _ p1 p2 _ f hk hf hl hk2 hc he =>
      have HS := Lib.hid (skip_any wr R s g p' p1 o hs hRd.row hk)
      have HRd := Lib.hid hRd
      have HO := Lib.hid hO
      have HF := Lib.hid hf
      have HK2 := Lib.hid hk2
      have HC := Lib.hid hc
      have HE := Lib.hid he
      rw [List.length_append] at hl
      clear hRd hO hk hf hk2 hc he
      go_wp2_with fail
      refine HS.out.mono ?_
      rintro e w1 ⟨rfl, hr1⟩
      have hR2 := HRd.out.trans hr1
      have hl2 := hR2.row.cell (i := 2) rfl
      have HR2 := Lib.hid hR2
      have HO2 := Lib.hid ((HO.out.but hr1.but hR))
      clear hr1 hR2 HS HRd HO
      go_wp2_with fail
      refine (HF.out _ _ HR2.out.row).mono ?_
      rintro e w2 ⟨r, rfl, hr2, hO2⟩
      have HR3 := Lib.hid (HR2.out.trans hr2)
      have HO3 := Lib.hid (HO2.out.but hr2.but hR)
      have HX := Lib.hid hO2.ints
      have hBw : w.heap.size ≤ w2.heap.size := HR3.out.but.1.size
      have hw1 : IntKind.i64.wrap ((acc.length : Int) + (f.length : Int)) = (acc.length : Int) + (f.length : Int) := IntWalk.i64_in _ ⟨by omega, by omega⟩
      clear hr2 hO2 HR2 HO2 hl2
      obtain ⟨Av, cv, rfl⟩ := HO3.out.len
      go_wp2_with (at_builtin; refine wpList_append_ints _ rfl (.tmp 11) (.tmp 13) 24 24 rfl w.heap.size 3 i0 Tryd.underlying24 Tryd.underlying24 hi hz0 hz1 hz2 _ _ acc f _ rfl HO3.out rfl HX.out (by omega) hBw ?_; intro v1 w3 hown hgrow hat; have HR4 := Lib.hid (HR3.out.grown hgrow (fun q hq => (HO3.out.lt q hq).1) hR); obtain ⟨A1, c1, rfl⟩ := hown.len; have hlen2 : (acc ++ f).length = acc.length + f.length := List.length_append; rw [hlen2] at hown; have HO4 := Lib.hid hown; have HLN := Lib.hid hlen2; clear hown hgrow hat hlen2)
      refine (limit_ok _ _ _ (by have := HLN.out; omega)).mono ?_
      rintro e w4 ⟨rfl, rfl⟩
      go_wp2_with fail
      refine (take_no _ R s g p2 q o 42 hs HR4.out.row HK2.out HC.out).mono ?_
      rintro e w5 ⟨rfl, hr5⟩
      have HR5 := Lib.hid (HR4.out.trans hr5)
      have HO5 := Lib.hid (HO4.out.but hr5.but hR)
      clear hr5
      go_wp2_with fail
      go_ret
      exact ⟨_, rfl, HR5.out, by have := HO5.out; rw [← HE.out]; exact this⟩
    | @more m _ p1 p2 p3 _ f hk hf hl hk2 hc he =>
      have HS := Lib.hid (skip_any wr R s g p' p1 o hs hRd.row hk)
      have HRd := Lib.hid hRd
      have HO := Lib.hid hO
      have HF := Lib.hid hf
      have HK2 := Lib.hid hk2
      have HC := Lib.hid hc
      have HE := Lib.hid he
      rw [List.length_append] at hl
      clear hRd hO hk hf hk2 hc he
      go_wp2_with fail
      refine HS.out.mono ?_
      rintro e w1 ⟨rfl, hr1⟩
      have hR2 := HRd.out.trans hr1
      have hl2 := hR2.row.cell (i := 2) rfl
      have HR2 := Lib.hid hR2
      have HO2 := Lib.hid ((HO.out.but hr1.but hR))
      clear hr1 hR2 HS HRd HO
      go_wp2_with fail
      refine (HF.out _ _ HR2.out.row).mono ?_
      rintro e w2 ⟨r, rfl, hr2, hO2⟩
      have HR3 := Lib.hid (HR2.out.trans hr2)
      have HO3 := Lib.hid (HO2.out.but hr2.but hR)
      have HX := Lib.hid hO2.ints
      have hBw : w.heap.size ≤ w2.heap.size := HR3.out.but.1.size
      have hw1 : IntKind.i64.wrap ((acc.length : Int) + (f.length : Int)) = (acc.length : Int) + (f.length : Int) := IntWalk.i64_in _ ⟨by omega, by omega⟩
      clear hr2 hO2 HR2 HO2 hl2
      obtain ⟨Av, cv, rfl⟩ := HO3.out.len
      go_wp2_with (at_builtin; refine wpList_append_ints _ rfl (.tmp 11) (.tmp 13) 24 24 rfl w.heap.size 3 i0 Tryd.underlying24 Tryd.underlying24 hi hz0 hz1 hz2 _ _ acc f _ rfl HO3.out rfl HX.out (by omega) hBw ?_; intro v1 w3 hown hgrow hat; have HR4 := Lib.hid (HR3.out.grown hgrow (fun q hq => (HO3.out.lt q hq).1) hR); obtain ⟨A1, c1, rfl⟩ := hown.len; have hlen2 : (acc ++ f).length = acc.length + f.length := List.length_append; rw [hlen2] at hown; have HO4 := Lib.hid hown; have HLN := Lib.hid hlen2; clear hown hgrow hat hlen2)
      refine (limit_ok _ _ _ (by have := HLN.out; omega)).mono ?_
      rintro e w4 ⟨rfl, rfl⟩
      go_wp2_with fail
      refine (take_yes _ R s g p2 p3 o 42 hs HR4.out.row HK2.out (by omega) HC.out).mono ?_
      rintro e w5 ⟨rfl, hr5⟩
      have HR5 := Lib.hid (HR4.out.trans hr5)
      have HO5 := Lib.hid (HO4.out.but hr5.but hR)
      clear hr5
      go_wp2_with fail
      go_roundg m
      case measure => omega
      case rel => exact ⟨acc ++ f, p3 + 1, HE.out, HR5.out, HO5.out⟩

set_option maxRecDepth 100000 in
set_option maxHeartbeats 2000000 in
theorem factor_plain {s : ByteArray} {g o p p1 q : Nat} {v : List Int} (hs : s.size ≤ 20000) (hi : ItemC s g o p p1 v) (hl : v.length ≤ 4000) (hk : Skp s p1 q) (hc : chAt s q ≠ 94) : FacC s g o p q v := by
  intro w R hrow
  have hR := hrow.lt
  have HR := Lib.hid (Rd.refl hrow)
  have hl2 := hrow.cell (i := 2) rfl
  have HI := Lib.hid (hi w R hrow)
  have HK := Lib.hid hk
  have HC := Lib.hid hc
  clear hrow hi hk hc
  go_enter Tryd.func53, Tryd.ntmps53
  go_wp2_with fail
  refine HI.out.mono ?_
  rintro e w1 ⟨r, rfl, hr1, hO1⟩
  obtain ⟨A1, c1, rfl⟩ := hO1.len
  have HR1 := Lib.hid hr1
  have HO1 := Lib.hid hO1
  clear hr1 hO1 hl2 HI
  go_wp2_with fail
  refine (limit_ok _ _ _ (by omega)).mono ?_
  rintro e w2 ⟨rfl, rfl⟩
  go_wp2_with fail
  refine (take_no _ R s g p1 q o 94 hs HR1.out.row HK.out HC.out).mono ?_
  rintro e w3 ⟨rfl, hr3⟩
  have HR3 := Lib.hid (HR1.out.trans hr3)
  have HO3 := Lib.hid (HO1.out.but hr3.but hR)
  clear hr3
  go_wp2_with fail
  go_ret
  exact ⟨_, rfl, HR3.out, HO3.out⟩

set_option maxRecDepth 100000 in
set_option maxHeartbeats 2000000 in
theorem factor_power {s : ByteArray} {g o p p1 p2 q : Nat} {v : List Int} {n : Int} (hs : s.size ≤ 20000) (hi : ItemC s g o p p1 v) (hv : Lets v) (hl : v.length ≤ 4000) (hk : Skp s p1 p2) (hc : chAt s p2 = 94) (he : Expo s (p2 + 1) q n) (hn : n.natAbs * v.length ≤ 4000) : FacC s g o p q (zp v n) := by
  intro w R hrow
  have hR := hrow.lt
  have hl2 := hrow.cell (i := 2) rfl
  have HI := Lib.hid (hi w R hrow)
  have HK := Lib.hid hk
  have HC := Lib.hid hc
  have HE := Lib.hid he
  have hsm := he.small
  have HV := Lib.hid hv
  clear hrow hi hk hc he hv
  obtain ⟨T, hT⟩ : ∃ T, n.natAbs * v.length = T := ⟨_, rfl⟩
  have hTT : ((n.natAbs : Int) * (v.length : Int)) = (T : Int) := by rw [← hT]; simp
  have HT := Lib.hid hT
  have hTs : T ≤ 4000 := by omega
  clear hT hn
  by_cases hneg : n < 0
  · obtain ⟨m, rfl⟩ : ∃ m : Nat, n = -(m : Int) := ⟨n.natAbs, by omega⟩
    have hm : (-(m : Int)).natAbs = m := by omega
    rw [hm] at hTT HT
    have hz : zp v (-(m : Int)) = rep (winv v) m := by unfold zp; rw [if_pos hneg, hm]
    rw [hz]
    have hw1 : IntKind.i64.wrap (-(-(m : Int))) = (m : Int) := by rw [Int.neg_neg]; exact IntWalk.i64_in _ ⟨by omega, by omega⟩
    have hw2 : IntKind.i64.wrap ((m : Int) * (v.length : Int)) = (T : Int) := by rw [hTT]; exact IntWalk.i64_in _ ⟨by omega, by omega⟩
    clear hz hm hTT
    go_enter Tryd.func53, Tryd.ntmps53
    go_wp2_with fail
    refine HI.out.mono ?_
    rintro e w1 ⟨r, rfl, hr1, hO1⟩
    obtain ⟨A1, c1, rfl⟩ := hO1.len
    have HR1 := Lib.hid hr1
    have HO1 := Lib.hid hO1
    clear hr1 hO1 hl2 HI
    go_wp2_with fail
    refine (limit_ok _ _ _ (by omega)).mono ?_
    rintro e w2 ⟨rfl, rfl⟩
    go_wp2_with fail
    refine (take_yes _ R s g p1 p2 o 94 hs HR1.out.row HK.out (by omega) HC.out).mono ?_
    rintro e w3 ⟨rfl, hr3⟩
    have HR3 := Lib.hid (HR1.out.trans hr3)
    have HO3 := Lib.hid (HO1.out.but hr3.but hR)
    clear hr3 HR1 HO1
    go_wp2_with fail
    refine (exponent_ok _ R s g (p2 + 1) q o _ hs HR3.out.row HE.out).mono ?_
    rintro e w4 ⟨rfl, hr4⟩
    have HR4 := Lib.hid (HR3.out.trans hr4)
    have HO4 := Lib.hid (HO3.out.but hr4.but hR)
    clear hr4 HR3 HO3
    go_wp2_with fail
    refine (inverse_any _ v _ (by omega) HV.out.rng HO4.out.ints).mono ?_
    rintro e w5 ⟨r5, rfl, hO5, hb5⟩
    have HR5 := Lib.hid (HR4.out.below hb5 hR)
    have hsz : (winv v).length = v.length := winv_length v
    obtain ⟨A5, c5, rfl⟩ := hO5.len
    rw [hsz] at hO5 ⊢
    have HO5 := Lib.hid hO5
    have HSZ := Lib.hid hsz
    clear hO5 hb5 hsz
    go_wp2_with fail
    refine (limit_ok _ _ _ (by omega)).mono ?_
    rintro e w6 ⟨rfl, rfl⟩
    go_wp2_with fail
    refine (repeat_any _ (winv v) m _ (by have := HSZ.out; omega) (by omega) (by have := HSZ.out; have := HT.out; rw [HSZ.out]; omega) HO5.out.ints).mono ?_
    rintro e w7 ⟨r7, rfl, hO7, hb7⟩
    have HR7 := Lib.hid (HR5.out.below hb7 hR)
    have HO7 := Lib.hid (hO7.base HR5.out.but.1.size)
    clear hO7 hb7
    go_wp2_with fail
    go_ret
    exact ⟨_, rfl, HR7.out, HO7.out⟩
  · obtain ⟨m, rfl⟩ : ∃ m : Nat, n = (m : Int) := ⟨n.natAbs, by omega⟩
    have hm : ((m : Int)).natAbs = m := by omega
    rw [hm] at hTT HT
    have hz : zp v (m : Int) = rep v m := by unfold zp; rw [if_neg hneg, hm]
    rw [hz]
    have hw2 : IntKind.i64.wrap ((m : Int) * (v.length : Int)) = (T : Int) := by rw [hTT]; exact IntWalk.i64_in _ ⟨by omega, by omega⟩
    clear hz hm hTT
    go_enter Tryd.func53, Tryd.ntmps53
    go_wp2_with fail
    refine HI.out.mono ?_
    rintro e w1 ⟨r, rfl, hr1, hO1⟩
    obtain ⟨A1, c1, rfl⟩ := hO1.len
    have HR1 := Lib.hid hr1
    have HO1 := Lib.hid hO1
    clear hr1 hO1 hl2 HI
    go_wp2_with fail
    refine (limit_ok _ _ _ (by omega)).mono ?_
    rintro e w2 ⟨rfl, rfl⟩
    go_wp2_with fail
    refine (take_yes _ R s g p1 p2 o 94 hs HR1.out.row HK.out (by omega) HC.out).mono ?_
    rintro e w3 ⟨rfl, hr3⟩
    have HR3 := Lib.hid (HR1.out.trans hr3)
    have HO3 := Lib.hid (HO1.out.but hr3.but hR)
    clear hr3 HR1 HO1
    go_wp2_with fail
    refine (exponent_ok _ R s g (p2 + 1) q o _ hs HR3.out.row HE.out).mono ?_
    rintro e w4 ⟨rfl, hr4⟩
    have HR4 := Lib.hid (HR3.out.trans hr4)
    have HO4 := Lib.hid (HO3.out.but hr4.but hR)
    clear hr4 HR3 HO3
    go_wp2_with fail
    refine (limit_ok _ _ _ (by omega)).mono ?_
    rintro e w6 ⟨rfl, rfl⟩
    go_wp2_with fail
    refine (repeat_any _ v m _ (by omega) (by omega) (by have := HT.out; omega) HO4.out.ints).mono ?_
    rintro e w7 ⟨r7, rfl, hO7, hb7⟩
    have HR7 := Lib.hid (HR4.out.below hb7 hR)
    have HO7 := Lib.hid (hO7.base HR4.out.but.1.size)
    clear hO7 hb7
    go_wp2_with fail
    go_ret
    exact ⟨_, rfl, HR7.out, HO7.out⟩

set_option maxRecDepth 100000 in
theorem item_one {s : ByteArray} {g o p p1 : Nat} (hs : s.size ≤ 20000) (hk : Skp s p p1) (hc : chAt s p1 = 49) : ItemC s g o p (p1 + 1) [] := by
  intro w R hrow
  have HT := Lib.hid (take_yes w R s g p p1 o 49 hs hrow hk (by omega) hc)
  clear hrow hk hc
  go_enter Tryd.func59, Tryd.ntmps59
  go_wp2_with fail
  refine HT.out.mono ?_
  rintro e w1 ⟨rfl, hr1⟩
  have HR1 := Lib.hid hr1
  clear hr1
  go_wp2_with fail
  go_ret
  exact ⟨_, rfl, HR1.out, World.ownsRow_nil _ _ _ _⟩

set_option maxRecDepth 100000 in
set_option maxHeartbeats 1000000 in
theorem item_letter {s : ByteArray} {g o p q k : Nat} (hs : s.size ≤ 20000) (hg : g ≤ 16) (hk : Skp s p q) (hkg : k < g) (hc : chAt s q = 97 + (k : Int)) : ItemC s g o p (q + 1) [(k : Int) + 1] := by
  intro w R hrow
  have hR := hrow.lt
  have hq : Skp s q q := Skp.here hk.2.1 hk.2.2.2
  have HT := Lib.hid (take_no w R s g p q o 49 hs hrow hk (by omega))
  have HU := fun W h => Lib.hid (take_no W R s g q q o 40 hs h hq (by omega))
  have HV := fun W h => Lib.hid (take_no W R s g q q o 91 hs h hq (by omega))
  have HL := fun W h => Lib.hid (letter_ok W R s g q o k hs hg h hkg hc)
  clear hrow hk hc
  go_enter Tryd.func59, Tryd.ntmps59
  go_wp2_with fail
  refine HT.out.mono ?_
  rintro e w1 ⟨rfl, hr1⟩
  have HR1 := Lib.hid hr1
  clear hr1
  go_wp2_with fail
  refine (HU _ HR1.out.row).out.mono ?_
  rintro e w2 ⟨rfl, hr2⟩
  have HR2 := Lib.hid (HR1.out.trans hr2)
  clear hr2
  go_wp2_with fail
  refine (HV _ HR2.out.row).out.mono ?_
  rintro e w3 ⟨rfl, hr3⟩
  have HR3 := Lib.hid (HR2.out.trans hr3)
  clear hr3
  go_wp2_with fail
  refine (HL _ HR3.out.row).out.mono ?_
  rintro e w4 ⟨rfl, hr4⟩
  have HR4 := Lib.hid (HR3.out.trans hr4)
  clear hr4
  have HB := Lib.hid ((Below.refl w4.heap.size w4).alloc (Nat.le_refl _) (.cells #[.int .i64 ((k : Int) + 1)] 3))
  go_wp2_with fail
  go_ret
  exact ⟨_, rfl, HR4.out.below HB.out hR, World.ownsRow_lit w4 #[.int .i64 ((k : Int) + 1)] 1 (by have := HR4.out.but.1.size; omega) (by unfold maxLen; omega) rfl⟩

set_option maxRecDepth 100000 in
theorem enter_ok (w : World) (R : Nat) (s : ByteArray) (g : Int) (p o : Nat) (h : RdRow w R s g p o) (ho : o < 50) :
    Calls Tryd.prog 74 #[.pointer (some ⟨R, 0, none⟩)] w fun e w' => e = .returned (.tuple #[]) ∧ Rd w w' R s g p (o + 1) := by
  have hR := h.lt
  have HR := Lib.hid (Rd.refl h)
  have hl3 := h.cell (i := 3) rfl
  have hf3 := h.frozen 3
  have hne : ((o : Int) == 50) = false := by simp; omega
  clear h
  go_enter Tryd.func74, Tryd.ntmps74
  go_wp2_with fail
  go_end0
  exact ⟨rfl, HR.out.op hR (o + 1)⟩

set_option maxRecDepth 100000 in
theorem must_ok (w : World) (R : Nat) (s : ByteArray) (g : Int) (p q o : Nat) (c : Int) (hs : s.size ≤ 20000) (h : RdRow w R s g p o) (hk : Skp s p q) (hc0 : 0 ≤ c) (hc : chAt s q = c) :
    Calls Tryd.prog 76 #[.pointer (some ⟨R, 0, none⟩), .int .u8 c] w fun e w' => e = .returned (.tuple #[]) ∧ Rd w w' R s g (q + 1) o := by
  have HT := Lib.hid (take_yes w R s g p q o c hs h hk hc0 hc)
  clear h hk hc
  go_enter Tryd.func76, Tryd.ntmps76
  go_wp2_with fail
  refine HT.out.mono ?_
  rintro e w1 ⟨rfl, hr1⟩
  have HR1 := Lib.hid hr1
  clear hr1
  go_wp2_with fail
  go_end0
  exact ⟨rfl, HR1.out⟩

set_option maxRecDepth 100000 in
theorem leave_ok (w : World) (R : Nat) (s : ByteArray) (g : Int) (p q o : Nat) (c : Int) (hs : s.size ≤ 20000) (ho : o ≤ 50) (h : RdRow w R s g p (o + 1)) (hk : Skp s p q) (hc0 : 0 ≤ c) (hc : chAt s q = c) :
    Calls Tryd.prog 75 #[.pointer (some ⟨R, 0, none⟩), .int .u8 c] w fun e w' => e = .returned (.tuple #[]) ∧ Rd w w' R s g (q + 1) o := by
  have hR := h.lt
  have HT := Lib.hid (must_ok w R s g p q (o + 1) c hs h hk hc0 hc)
  clear h hk hc
  go_enter Tryd.func75, Tryd.ntmps75
  go_wp2_with fail
  refine HT.out.mono ?_
  rintro e w1 ⟨rfl, hr1⟩
  have HR1 := Lib.hid hr1
  have hl3 := hr1.row.cell (i := 3) rfl
  have hf3 := hr1.row.frozen 3
  clear hr1
  go_wp2_with fail
  go_end0
  refine ⟨rfl, ?_⟩
  have := HR1.out.op hR o
  simpa using this

set_option maxRecDepth 100000 in
set_option maxHeartbeats 1000000 in
theorem item_group {s : ByteArray} {g o p p1 p2 p3 : Nat} {v : List Int} (hs : s.size ≤ 20000) (hk : Skp s p p1) (hc : chAt s p1 = 40) (ho : o < 50) (hw : WordC s g (o + 1) (p1 + 1) p2 v) (hk2 : Skp s p2 p3) (hc2 : chAt s p3 = 41) : ItemC s g o p (p3 + 1) v := by
  intro w R hrow
  have hR := hrow.lt
  have hq : Skp s p1 p1 := Skp.here hk.2.1 hk.2.2.2
  have HT := Lib.hid (take_no w R s g p p1 o 49 hs hrow hk (by omega))
  have HU := fun W h => Lib.hid (take_yes W R s g p1 p1 o 40 hs h hq (by omega) hc)
  have HW := fun W h => Lib.hid (hw W R h)
  have HV := fun W h => Lib.hid (leave_ok W R s g p2 p3 o 41 hs (by omega) h hk2 (by omega) hc2)
  clear hrow hk hc hw hk2 hc2
  have HG : ∀ W, RdRow W R s g (p1 + 1) o → Hid (Calls Tryd.prog 65 #[.pointer (some ⟨R, 0, none⟩)] W (RdPost W R s g (p3 + 1) o v)) := by
    intro W hrw
    show Calls _ _ _ _ _
    have hRW := hrw.lt
    have HE := Lib.hid (enter_ok W R s g (p1 + 1) o hrw ho)
    clear hrw HT HU
    go_enter Tryd.func65, Tryd.ntmps65
    go_wp2_with fail
    refine HE.out.mono ?_
    rintro e w1 ⟨rfl, hr1⟩
    have HR1 := Lib.hid hr1
    clear hr1
    go_wp2_with fail
    refine (HW _ HR1.out.row).out.mono ?_
    rintro e w2 ⟨r, rfl, hr2, hO2⟩
    have HR2 := Lib.hid (HR1.out.trans hr2)
    have HO2 := Lib.hid (hO2.base HR1.out.but.1.size)
    clear hr2 hO2
    go_wp2_with fail
    refine (HV _ HR2.out.row).out.mono ?_
    rintro e w3 ⟨rfl, hr3⟩
    have HR3 := Lib.hid (HR2.out.trans hr3)
    have HO3 := Lib.hid (HO2.out.but hr3.but hRW)
    clear hr3
    go_wp2_with fail
    go_ret
    exact ⟨_, rfl, HR3.out, HO3.out⟩
  clear HW HV
  go_enter Tryd.func59, Tryd.ntmps59
  go_wp2_with fail
  refine HT.out.mono ?_
  rintro e w1 ⟨rfl, hr1⟩
  have HR1 := Lib.hid hr1
  clear hr1
  go_wp2_with fail
  refine (HU _ HR1.out.row).out.mono ?_
  rintro e w2 ⟨rfl, hr2⟩
  have HR2 := Lib.hid (HR1.out.trans hr2)
  clear hr2
  go_wp2_with fail
  refine (HG _ HR2.out.row).out.mono ?_
  rintro e w3 ⟨r, rfl, hr3, hO3⟩
  have HR3 := Lib.hid (HR2.out.trans hr3)
  have HO3 := Lib.hid (hO3.base HR2.out.but.1.size)
  clear hr3 hO3
  go_wp2_with fail
  go_ret
  exact ⟨_, rfl, HR3.out, HO3.out⟩

theorem OwnsI.onBel {w w' : World} {B : Nat} {v : Value} {l : List Int} (h : OwnsI w B v l) (hb : Below w.heap.size w w') : OwnsI w' B v l := by
  refine ⟨h.1, ?_⟩
  rcases h.2 with ⟨a, b⟩ | ⟨g, cap, cur, rfl, hb0, hg, hnc, hcm, hcs, ht⟩
  · exact .inl ⟨a, b⟩
  · exact .inr ⟨g, cap, cur, rfl, hb0, (hb.block g (Array.getElem?_eq_some_iff.1 hg).1).trans hg, hnc, hcm, hcs, ht⟩
set_option maxRecDepth 100000 in
set_option maxHeartbeats 2000000 in
theorem item_comm {s : ByteArray} {g o p p1 p2 p3 p4 p5 : Nat} {x y : List Int} (hs : s.size ≤ 20000) (hk : Skp s p p1) (hc : chAt s p1 = 91) (ho : o < 50) (hw : WordC s g (o + 1) (p1 + 1) p2 x) (hk2 : Skp s p2 p3) (hc2 : chAt s p3 = 44) (hw2 : WordC s g (o + 1) (p3 + 1) p4 y) (hk3 : Skp s p4 p5) (hc3 : chAt s p5 = 93)
    (hx : Lets x) (hy : Lets y) (hxl : x.length ≤ 4000) (hyl : y.length ≤ 4000) : ItemC s g o p (p5 + 1) (winv x ++ (winv y ++ (x ++ y))) := by
  intro w R hrow
  have hR := hrow.lt
  have hq : Skp s p1 p1 := Skp.here hk.2.1 hk.2.2.2
  have HT := Lib.hid (take_no w R s g p p1 o 49 hs hrow hk (by omega))
  have HU := fun W h => Lib.hid (take_no W R s g p1 p1 o 40 hs h hq (by omega))
  have HU2 := fun W h => Lib.hid (take_yes W R s g p1 p1 o 91 hs h hq (by omega) hc)
  have HW := fun W h => Lib.hid (hw W R h)
  have HW2 := fun W h => Lib.hid (hw2 W R h)
  have HM := fun W h => Lib.hid (must_ok W R s g p2 p3 (o + 1) 44 hs h hk2 (by omega) hc2)
  have HV := fun W h => Lib.hid (leave_ok W R s g p4 p5 o 93 hs (by omega) h hk3 (by omega) hc3)
  have HX := Lib.hid hx
  have HY := Lib.hid hy
  clear hrow hk hc hw hk2 hc2 hw2 hk3 hc3 hx hy
  have HG : ∀ W, RdRow W R s g (p1 + 1) o → Hid (Calls Tryd.prog 66 #[.pointer (some ⟨R, 0, none⟩)] W (RdPost W R s g (p5 + 1) o (winv x ++ (winv y ++ (x ++ y))))) := by
    intro W hrw
    show Calls _ _ _ _ _
    have hRW := hrw.lt
    have HE := Lib.hid (enter_ok W R s g (p1 + 1) o hrw ho)
    clear hrw HT HU HU2
    go_enter Tryd.func66, Tryd.ntmps66
    go_wp2_with fail
    refine HE.out.mono ?_
    rintro e w1 ⟨rfl, hr1⟩
    have HR1 := Lib.hid hr1
    clear hr1
    go_wp2_with fail
    refine (HW _ HR1.out.row).out.mono ?_
    rintro e w2 ⟨r, rfl, hr2, hO2⟩
    have HR2 := Lib.hid (HR1.out.trans hr2)
    have HO2 := Lib.hid (hO2.base HR1.out.but.1.size)
    clear hr2 hO2
    go_wp2_with fail
    refine (HM _ HR2.out.row).out.mono ?_
    rintro e w3 ⟨rfl, hr3⟩
    have HR3 := Lib.hid (HR2.out.trans hr3)
    have HO3 := Lib.hid (HO2.out.but hr3.but hRW)
    clear hr3 HO2
    go_wp2_with fail
    refine (HW2 _ HR3.out.row).out.mono ?_
    rintro e w4 ⟨ry, rfl, hr4, hO4⟩
    have HR4 := Lib.hid (HR3.out.trans hr4)
    have HOX4 := Lib.hid (HO3.out.but hr4.but hRW)
    have HOY4 := Lib.hid (hO4.base HR3.out.but.1.size)
    clear hr4 hO4 HO3
    go_wp2_with fail
    refine (HV _ HR4.out.row).out.mono ?_
    rintro e w5 ⟨rfl, hr5⟩
    have HR5 := Lib.hid (HR4.out.trans hr5)
    have HOX5 := Lib.hid (HOX4.out.but hr5.but hRW)
    have HOY5 := Lib.hid (HOY4.out.but hr5.but hRW)
    clear hr5 HOX4 HOY4
    obtain ⟨Ax, cx, rfl⟩ := HOX5.out.len
    obtain ⟨Ay, cy, rfl⟩ := HOY5.out.len
    go_wp2_with fail
    refine (inverse_any _ x _ (by omega) HX.out.rng HOX5.out.ints).mono ?_
    rintro e w6 ⟨r6, rfl, hO6, hb6⟩
    have HR6 := Lib.hid (HR5.out.below hb6 hRW)
    have HOX6 := Lib.hid (HOX5.out.onBel hb6)
    have HOY6 := Lib.hid (HOY5.out.onBel hb6)
    have HO6 := Lib.hid hO6
    have HS6 := Lib.hid hb6.size
    clear hO6 hb6 HOX5 HOY5
    go_wp2_with fail
    refine (inverse_any _ y _ (by omega) HY.out.rng HOY6.out.ints).mono ?_
    rintro e w7 ⟨r7, rfl, hO7, hb7⟩
    have HR7 := Lib.hid (HR6.out.below hb7 hRW)
    obtain ⟨A6, c6, rfl⟩ := HO6.out.len
    obtain ⟨A7, c7, rfl⟩ := hO7.len
    have HL := Lib.hid (lists_new w7 [(.slice A6 (winv x).length c6, winv x), (.slice A7 (winv y).length c7, winv y), (.slice Ax x.length cx, x), (.slice Ay y.length cy, y)] 4 (fun p hp => by
      simp only [List.mem_cons, List.not_mem_nil, or_false] at hp
      rcases hp with rfl | rfl | rfl | rfl
      · exact (HO6.out.onBel hb7).ints
      · exact hO7.ints
      · exact (HOX6.out.onBel hb7).ints
      · exact (HOY6.out.onBel hb7).ints))
    have hfl : flat [(.slice A6 (winv x).length c6, winv x), (.slice A7 (winv y).length c7, winv y), (.slice Ax x.length cx, x), (.slice Ay y.length cy, y)] = winv x ++ (winv y ++ (x ++ y)) := by simp [flat]
    have HC := Lib.hid (concat_any (.slice (some ⟨w7.heap.size, 0, none⟩) 4 4) _ _ (by simp) (by rw [hfl]; simp [winv_length]; omega) HL.out)
    rw [hfl] at HC
    clear hO7 hb7 hfl HL
    go_wp2_with fail
    refine HC.out.mono ?_
    rintro e w8 ⟨r8, rfl, hO8, hb8⟩
    have HB8 := Lib.hid (((Below.refl w7.heap.size w7).alloc (Nat.le_refl _) _).trans (hb8.mono (by simp)))
    have HR8 := Lib.hid (HR7.out.below HB8.out hRW)
    have HO8 := Lib.hid (hO8.base (B' := W.heap.size) (by have := HR7.out.but.1.size; simp; omega))
    clear hO8 hb8 HC
    go_wp2_with fail
    go_ret
    exact ⟨_, rfl, HR8.out, HO8.out⟩
  clear HW HW2 HM HV
  go_enter Tryd.func59, Tryd.ntmps59
  go_wp2_with fail
  refine HT.out.mono ?_
  rintro e w1 ⟨rfl, hr1⟩
  have HR1 := Lib.hid hr1
  clear hr1
  go_wp2_with fail
  refine (HU _ HR1.out.row).out.mono ?_
  rintro e w2 ⟨rfl, hr2⟩
  have HR2 := Lib.hid (HR1.out.trans hr2)
  clear hr2
  go_wp2_with fail
  refine (HU2 _ HR2.out.row).out.mono ?_
  rintro e w2' ⟨rfl, hr2⟩
  have HR2' := Lib.hid (HR2.out.trans hr2)
  clear hr2
  go_wp2_with fail
  refine (HG _ HR2'.out.row).out.mono ?_
  rintro e w3 ⟨r, rfl, hr3, hO3⟩
  have HR3 := Lib.hid (HR2'.out.trans hr3)
  have HO3 := Lib.hid (hO3.base HR2'.out.but.1.size)
  clear hr3 hO3
  go_wp2_with fail
  go_ret
  exact ⟨_, rfl, HR3.out, HO3.out⟩

/-- .. of each kind. -/
def RdAll (s : ByteArray) (g q : Nat) : RK → Nat → List Int → Nat → List Int → Prop
  | .word, o, acc, p, v => ∃ n, WOK s g o q v n acc p
  | .factor, o, _, p, v => FacC s g o p q v
  | .item, o, _, p, v => ItemC s g o p q v
theorem RP.calls {s : ByteArray} {g : Nat} (hs : s.size ≤ 20000) (hg : g ≤ 16) {k : RK} {o p q : Nat} {acc v : List Int} (h : RP s g k o acc p q v) : RdAll s g q k o acc p v := by
  induction h with
  | last h1 _ h3 h4 h5 ih => exact ⟨0, .last h1 ih h3 h4 h5 rfl⟩
  | more h1 _ h3 h4 h5 _ ih ih2 =>
    obtain ⟨n, ih2⟩ := ih2
    exact ⟨n + 1, .more h1 ih h3 h4 h5 ih2⟩
  | plain _ h2 h3 h4 ih => exact factor_plain hs ih h2 h3 h4
  | power h1 h2 h3 h4 h5 h6 ih => exact factor_power hs ih (h1.lets hg (fun _ h => by cases h)) h2 h3 h4 h5 h6
  | one h1 h2 => exact item_one hs h1 h2
  | group h1 h2 h3 _ h5 h6 ih =>
    obtain ⟨n, ih⟩ := ih
    exact item_group hs h1 h2 h3 (word_call hs ih) h5 h6
  | comm h1 h2 h3 h4 h5 h6 h7 h8 h9 h10 h11 ih ih2 =>
    obtain ⟨n, ih⟩ := ih
    obtain ⟨n2, ih2⟩ := ih2
    exact item_comm hs h1 h2 h3 (word_call hs ih) h5 h6 (word_call hs ih2) h8 h9 (h4.lets hg (fun _ h => by cases h)) (h7.lets hg (fun _ h => by cases h)) h10 h11
  | letter h1 h2 h3 => exact item_letter hs hg h1 h2 h3
end Go.Proofs.YtlpepholcehojaaDoor
