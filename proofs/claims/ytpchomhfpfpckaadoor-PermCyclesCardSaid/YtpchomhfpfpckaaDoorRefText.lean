/- cayleykit.Decimal below 100; the reference's Text; perm.Text in general. -/
import Derived.Test.YtpchomhfpfpckaaDoorRefCyc
import Derived.Test.YtpchomhfpfpckaaDoorRefType
import Derived.Test.YtpchomhfpfpckaaDoorRefNum
namespace Go.Proofs.YtpchomhfpfpckaaDoor
open Go Go.RowKit

theorem enc_dig {u : Nat} (h : u < 10) {x : Int} (hx : x = 48 + (u : Int)) : (Utf8.encode x).size ≤ 4 ∧ (Utf8.encode x).data.toList = [UInt8.ofNat (48 + u)] := by
  have e : x = ((48 + u : Nat) : Int) := by omega
  rw [e, encode_dig u h]
  exact ⟨(by show 1 ≤ 4; omega), rfl⟩

set_option maxRecDepth 100000 in
set_option maxHeartbeats 400000 in
theorem dec_one (u : Nat) (hu : u < 10) (w : World) :
    Calls Tryd.prog 57 #[.int .i64 u] w fun e w' => ∃ s : ByteArray, e = .returned (.string s) ∧ s.data.toList = dig u ∧ s.size ≤ 4 ∧ w = w' := by
  obtain ⟨h1, h2⟩ := enc_dig hu (x := 48 + (u : Int)) rfl
  have hd : dig u = [UInt8.ofNat (48 + u)] := by unfold dig; rw [if_pos hu]
  have H2 := Lib.hid (h2.trans hd.symm)
  have H1 := Lib.hid h1
  have hlt : (u : Int) < 10 := by omega
  have hw0 : IntKind.i64.wrap (48 + (u : Int)) = 48 + (u : Int) := IntWalk.i64_in _ (by omega)
  have hw1 : IntKind.i32.wrap (48 + (u : Int)) = 48 + (u : Int) := by rw [IntKind.wrap_i32]; omega
  clear h1 h2 hd hu
  go_enter Tryd.func57, Tryd.ntmps57
  go_wp2_with fail
  go_ret
  exact ⟨_, rfl, H2.out, H1.out, rfl⟩

set_option maxRecDepth 100000 in
set_option maxHeartbeats 400000 in
theorem dec_any (u : Nat) (hu : u < 100) (w : World) :
    Calls Tryd.prog 57 #[.int .i64 u] w fun e w' => ∃ s : ByteArray, e = .returned (.string s) ∧ s.data.toList = dig u ∧ s.size ≤ 8 ∧ w = w' := by
  by_cases h10 : u < 10
  · exact (dec_one u h10 w).mono fun e w' ⟨s, h1, h2, h3, h4⟩ => ⟨s, h1, h2, by omega, h4⟩
  · obtain ⟨q, r, hqr, hq, hr⟩ : ∃ q r : Nat, u = 10 * q + r ∧ q < 10 ∧ r < 10 := ⟨u / 10, u % 10, by omega, by omega, by omega⟩
    have hd : dig u = [UInt8.ofNat (48 + q)] ++ [UInt8.ofNat (48 + r)] := by
      unfold dig
      rw [if_neg h10, show u / 10 = q by omega, show u % 10 = r by omega]
      rfl
    have hdq : dig q = [UInt8.ofNat (48 + q)] := by unfold dig; rw [if_pos hq]
    rw [← hdq] at hd
    have HD := Lib.hid hd
    have HC := fun W => Lib.hid (dec_one q hq W)
    obtain ⟨h1, h2⟩ := enc_dig hr (x := 48 + (r : Int)) rfl
    have H2 := Lib.hid h2
    have H1 := Lib.hid h1
    have hu1 : (u : Int) / 10 = (q : Int) := by omega
    have hu2 : (u : Int) % 10 = (r : Int) := by omega
    have hu3 : ¬ (u : Int) < 10 := by omega
    have hadd := fun (s : ByteArray) (hs : s.size ≤ 4) (W : World) => Lib.hid (run_string_add_sum (P := Tryd.prog) W s (Utf8.encode (48 + (r : Int))) (by omega))
    clear h1 h2 hd hdq hqr
    go_enter Tryd.func57, Tryd.ntmps57
    go_wp2_with fail
    refine ((HC _).out).mono ?_
    rintro e w1 ⟨s, rfl, hs1, hs2, rfl⟩
    have ha := fun W => (hadd s hs2 W).out
    have HS := Lib.hid (show (s ++ Utf8.encode (48 + (r : Int))).data.toList = dig u by rw [HD.out, ByteArray.data_append, Array.toList_append, hs1, H2.out])
    have HZ := Lib.hid (show (s ++ Utf8.encode (48 + (r : Int))).size ≤ 8 by have := H1.out; rw [ByteArray.size_append]; omega)
    clear hs1 hs2 hadd
    go_wp2_with fail
    go_ret
    exact ⟨_, rfl, HS.out, HZ.out, rfl⟩

/-- The text of a cycle up to point k, its parenthesis open. -/
def inner (cl : List Int) (k : Nat) : List UInt8 := if k = 0 then [40] else cycTo cl k
theorem inner_len (cl : List Int) (k : Nat) : (inner cl k).length ≤ 3 * k + 1 := by
  unfold inner
  split
  · simp
  · have := cycTo_len cl k; omega
theorem inner_succ (cl : List Int) (k : Nat) : inner cl (k + 1) = (inner cl k ++ if k = 0 then [] else [32]) ++ dig (cl.getD k 0).toNat := by
  unfold inner
  rw [if_neg (by omega)]
  by_cases h : k = 0
  · subst h; simp [cycTo]
  · rw [if_neg h, if_neg h, cycTo, if_neg h]
/-- The text of the first k of some cycles. -/
def txtC (cs : List (List Int)) (k : Nat) : List UInt8 := (cs.take k).flatMap cycText
theorem txt_sel (cs : List (List Int)) : (selC cs).flatMap cycText = txt cs := by
  induction cs with
  | nil => rfl
  | cons c cs ih =>
    have e : txt (c :: cs) = (if 1 < c.length then cycText c else []) ++ txt cs := by simp [txt]
    rw [e, ← ih]
    unfold selC
    by_cases h : 1 < c.length
    · rw [List.filter_cons_of_pos (by simpa using h), if_pos h]; simp
    · rw [List.filter_cons_of_neg (by simpa using h), if_neg h]; simp
theorem txtC_len (cs : List (List Int)) (h : ∀ c ∈ cs, c.length ≤ 64) (k : Nat) (hk : k ≤ 64) : (txtC cs k).length ≤ 200 * k := by
  induction k with
  | zero => simp [txtC]
  | succ k ih =>
    have h1 := ih (by omega)
    unfold txtC at h1 ⊢
    rw [List.take_add_one]
    cases e : cs[k]? with
    | none => simp at h1 ⊢; omega
    | some c =>
      have h2 := cycText_len c
      have h3 := h c (List.mem_of_getElem? e)
      simp at h1 h2 ⊢
      omega
theorem cat_list {a b : ByteArray} {l m : List UInt8} (ha : a.data.toList = l) (hb : b.data.toList = m) : (a ++ b).data.toList = l ++ m := by simp [ByteArray.data_append, ha, hb]
theorem size_list {a : ByteArray} {l : List UInt8} (ha : a.data.toList = l) : a.size = l.length := by rw [← ha]; exact (len_bytes a).symm

/-- The text that Text returns. -/
def textV (zs : List Int) : List UInt8 := if chk zs = 0 then textOk zs else []
theorem cyc_in (zs : List Int) (hf : Fine zs) (h64 : zs.length ≤ 64) : ∀ c ∈ cycs zs, InR zs.length c := fun c hc => ((upOk hf h64 zs.length (Nat.le_refl _)).2.1 c hc).2.1
end Go.Proofs.YtpchomhfpfpckaaDoor

namespace Go.Proofs.YtpchomhfpfpckaaDoor
open Go Go.RowKit

theorem txtC_all (cs : List (List Int)) : txtC cs cs.length = cs.flatMap cycText := by unfold txtC; rw [List.take_length]
theorem txtC_succ {cs : List (List Int)} {k : Nat} {cl : List Int} (h : cs[k]? = some cl) : txtC cs (k + 1) = txtC cs k ++ cycText cl := by
  unfold txtC
  rw [List.take_add_one, h]
  simp
theorem inner_close {cl : List Int} (h : 1 ≤ cl.length) : inner cl cl.length ++ [41] = cycText cl := by
  unfold inner cycText
  rw [if_neg (by omega)]
theorem textOk_none {zs : List Int} (h : selC (cycs zs) = []) : textOk zs = [40, 41] := by
  have : txt (cycs zs) = [] := by rw [← txt_sel, h]; rfl
  unfold textOk; rw [if_pos this]
theorem textOk_some {zs : List Int} (h : selC (cycs zs) ≠ []) : textOk zs = (selC (cycs zs)).flatMap cycText := by
  have : txt (cycs zs) ≠ [] := by
    rw [← txt_sel]
    cases e : selC (cycs zs) with
    | nil => exact absurd e h
    | cons c t => simp [cycText]
  unfold textOk; rw [if_neg this, txt_sel]

set_option maxRecDepth 100000 in
set_option maxHeartbeats 2000000 in
theorem refText_any (v : Value) (zs : List Int) (w : World) (hl : zs.length ≤ 17592186044400) (hv : Ints w w.heap.size v zs) :
    Calls Tryd.prog 49 #[v] w (StrErr (chk zs) (textV zs) w) := by
  have HC := Lib.hid (refCycles_any v zs w hl hv)
  obtain ⟨A0, c0, rfl⟩ : ∃ A c, v = .slice A zs.length c := by obtain ⟨A, c, e, _⟩ := hv; exact ⟨A, c, e⟩
  by_cases hz : chk zs = 0
  · obtain ⟨h1, h64, hf⟩ := chk_zero hz
    have hcy : cyclesV zs = selC (cycs zs) := by unfold cyclesV; rw [if_pos hz]
    have htv : textV zs = textOk zs := by unfold textV; rw [if_pos hz]
    have hfacts : ∀ c ∈ selC (cycs zs), 1 ≤ c.length ∧ c.length ≤ 64 ∧ ∀ j, j < c.length → 0 ≤ c.getD j 0 ∧ c.getD j 0 < 100 := fun c hc => by
      have hc' := (List.mem_filter.1 hc).1
      have h3 := cyc_pos zs hf h64 c hc'
      refine ⟨h3.1, by omega, fun j hj => ?_⟩
      have := cyc_in zs hf h64 c hc' _ (getD_mem hj)
      omega
    have hcount : (selC (cycs zs)).length ≤ 64 := Nat.le_trans (List.length_filter_le _ _) (cycs_count zs h64)
    rw [hz, hcy] at HC
    rw [hz, htv]
    have HN := Lib.hid (@textOk_none zs)
    have HS := Lib.hid (@textOk_some zs)
    have HF := Lib.hid hfacts
    clear hv hz hf hcy htv hfacts
    generalize selC (cycs zs) = cs at HC HN HS HF hcount
    unfold ListsErr at HC
    go_enter Tryd.func49, Tryd.ntmps49
    go_wp2_with fail
    refine (HC.out).mono ?_
    rintro e w2 ⟨r, ps, rfl, hb, hL, hP⟩
    obtain ⟨Ar, cr, rfl⟩ := hL.form
    have HB := Lib.hid hb
    have HL := Lib.hid hL
    have HP := Lib.hid hP
    have HPL := Lib.hid (show ps.length = cs.length by rw [← hP]; simp)
    have hp64 : ps.length ≤ 64 := by have := HPL.out; omega
    clear hL hP hb HC
    by_cases h0 : ps.length = 0
    · have e : cs = [] := List.eq_nil_of_length_eq_zero (by have := HPL.out; omega)
      have hT := HN.out e
      have hp0 : ((ps.length : Int) == 0) = true := by rw [beq_iff_eq]; omega
      clear h0
      have HTX := Lib.hid hT
      clear hT e
      go_wp2_with fail
      go_ret2
      exact ⟨by rw [HTX.out]; rfl, HB.out⟩
    · have hT := HS.out (fun e => h0 (by rw [HPL.out, e]; rfl))
      have HT := Lib.hid (hT.trans (txtC_all cs).symm)
      have hp0 : ((ps.length : Int) == 0) = false := by rw [beq_eq_false_iff_ne]; omega
      clear hT h0
      have H0 : Hid ((⟨#[]⟩ : ByteArray).data.toList = txtC cs 0) := rfl
      go_wp2_with fail
      go_loopw [6, 7] (fun s i wr => ∃ (k : Nat) (t : ByteArray), i = .int .i64 k ∧ k ≤ ps.length ∧ s = .string t ∧ Hid (t.data.toList = txtC cs k) ∧ w2 = wr) (fun _ i _ => ps.length - (intOf i).toNat)
      case atStart => exact ⟨0, _, rfl, Nat.zero_le _, rfl, H0.out, rfl⟩
      case round =>
        obtain ⟨k, t, rfl, hk, rfl, HD, rfl⟩ := hrel
        by_cases hlt : k < ps.length
        · obtain ⟨b, o, c, A, c', p, e, hb, hpk, hp1, hcell, hin⟩ := HL.out.at hlt
          injection e with e1 _ e3
          subst e1; subst e3
          have hck : cs[k]? = some p.2 := by rw [← HP.out]; simp [hpk]
          have HSc := Lib.hid (txtC_succ hck)
          obtain ⟨g1, g2, g3⟩ := HF.out p.2 (List.mem_of_getElem? hck)
          have htl : (txtC cs k).length ≤ 12800 := by have := txtC_len cs (fun c hc => (HF.out c hc).2.1) k (by omega); omega
          have hts : t.size ≤ 12800 := by rw [size_list HD]; exact htl
          obtain ⟨bi, oi, ci, hv2, hbi, hci⟩ := hin.at_ (by omega)
          rw [hv2] at hp1
          injection hp1 with f1 _ f3
          subst f1; subst f3
          have HCI := Lib.hid hci
          have HG3 := Lib.hid g3
          have hadd := fun W : World => run_string_add_sum (P := Tryd.prog) W t ⟨#[40]⟩ (by have : (⟨#[40]⟩ : ByteArray).size = 1 := rfl; omega)
          have HD1 : Hid ((t ++ ⟨#[40]⟩).data.toList = txtC cs k ++ inner p.2 0) := cat_list HD rfl
          have HTS := Lib.hid htl
          clear hpk hck hin hci g3 hts htl hv2
          have HCL := Lib.hid (inner_close g1)
          generalize p.2 = cl at hcell g1 g2 HCI HG3 HSc HD1 HCL
          generalize txtC cs k = T at HD HSc HD1 HTS
          generalize t ++ ⟨#[40]⟩ = t1 at hadd HD1
          go_wp2_with fail
          go_loopw [6, 8] (fun s i wr => ∃ (j : Nat) (u : ByteArray), i = .int .i64 j ∧ j ≤ cl.length ∧ s = .string u ∧ Hid (u.data.toList = T ++ inner cl j) ∧ w2 = wr) (fun _ i _ => cl.length - (intOf i).toNat)
          case atStart => exact ⟨0, t1, rfl, Nat.zero_le _, rfl, HD1, rfl⟩
          case round =>
            obtain ⟨j, u, rfl, hj, rfl, HU, rfl⟩ := hrel
            have hus : u.size ≤ 13100 := by
              rw [size_list HU, List.length_append]
              have := inner_len cl j
              have := HTS.out
              omega
            by_cases hjl : j < cl.length
            · obtain ⟨r0, r1⟩ := HG3.out j hjl
              have hcj := HCI.out j hjl
              have HIS := Lib.hid (inner_succ cl j)
              generalize cl.getD j 0 = x at r0 r1 hcj HIS
              obtain ⟨q, rfl⟩ : ∃ q : Nat, x = (q : Int) := ⟨x.toNat, by omega⟩
              rw [Int.toNat_natCast] at HIS
              have HDc := fun W => Lib.hid (dec_any q (by omega) W)
              by_cases hj0 : j = 0
              · subst hj0
                rw [Nat.add_zero] at hcj
                have hadd2 := fun (s : ByteArray) (hs : s.size ≤ 8) (W : World) => Lib.hid (run_string_add_sum (P := Tryd.prog) W u s (by omega))
                clear hus hadd HD
                go_wp2_with fail
                refine ((HDc _).out).mono ?_
                rintro e w5 ⟨s, rfl, hs1, hs2, rfl⟩
                have ha := fun W => (hadd2 s hs2 W).out
                have HX : Hid ((u ++ s).data.toList = T ++ inner cl 1) := by
                  have := cat_list HU hs1
                  show _ = _
                  rw [this, show inner cl 1 = _ from HIS.out]
                  simp
                clear hs1 hs2 hadd2
                generalize u ++ s = u2 at ha HX
                go_wp2_with fail
                go_roundw
                case rel => exact ⟨1, u2, by go_num, by omega, rfl, HX, by trivial⟩
                case measure => simp [intOf]; omega
              · have hj1 : (0 : Int) < (j : Int) := by omega
                have hadd1 := fun W : World => run_string_add_sum (P := Tryd.prog) W u ⟨#[32]⟩ (by have : (⟨#[32]⟩ : ByteArray).size = 1 := rfl; omega)
                have HU1 := Lib.hid (show (u ++ ⟨#[32]⟩).data.toList = (T ++ inner cl j) ++ [32] from cat_list HU rfl)
                have hus1 : (u ++ ⟨#[32]⟩).size ≤ 13200 := by rw [ByteArray.size_append]; have : (⟨#[32]⟩ : ByteArray).size = 1 := rfl; omega
                generalize u ++ ⟨#[32]⟩ = u1 at hadd1 HU1 hus1
                have hadd2 := fun (s : ByteArray) (hs : s.size ≤ 8) (W : World) => Lib.hid (run_string_add_sum (P := Tryd.prog) W u1 s (by omega))
                have HJ0 := Lib.hid hj0
                clear hus hus1 hadd HD hj0
                go_wp2_with fail
                refine ((HDc _).out).mono ?_
                rintro e w5 ⟨s, rfl, hs1, hs2, rfl⟩
                have ha := fun W => (hadd2 s hs2 W).out
                have HX : Hid ((u1 ++ s).data.toList = T ++ inner cl (j + 1)) := by
                  have := cat_list HU1.out hs1
                  show _ = _
                  rw [this, HIS.out, if_neg HJ0.out]
                  simp
                clear hs1 hs2 hadd2 hadd1
                generalize u1 ++ s = u2 at ha HX
                go_wp2_with fail
                go_roundw
                case rel => exact ⟨j + 1, u2, by go_num, by omega, rfl, HX, by trivial⟩
                case measure => simp [intOf]; omega
            · have hjj : j = cl.length := by omega
              rw [hjj] at HU
              have hadd3 := fun W : World => run_string_add_sum (P := Tryd.prog) W u ⟨#[41]⟩ (by have : (⟨#[41]⟩ : ByteArray).size = 1 := rfl; omega)
              have HX : Hid ((u ++ ⟨#[41]⟩).data.toList = txtC cs (k + 1)) := by
                have := cat_list (b := ⟨#[41]⟩) (m := [41]) HU rfl
                show _ = _
                rw [this, HSc.out, List.append_assoc, HCL.out]
              clear hus hadd HD HU hjj
              generalize u ++ ⟨#[41]⟩ = u2 at hadd3 HX
              go_wp2_with fail
              go_roundw
              case rel => exact ⟨k + 1, u2, by go_num, by omega, rfl, HX, by trivial⟩
              case measure => simp [intOf]; omega
        · have hkk : k = cs.length := by have := HPL.out; omega
          rw [hkk] at HD
          have HX := Lib.hid (show (⟨(textOk zs).toArray⟩ : ByteArray) = t from str_of (HD.trans HT.out.symm))
          clear HD
          go_wp2_with fail
          go_ret2
          exact ⟨by rw [HX.out]; rfl, HB.out⟩
  · have hcy : cyclesV zs = [] := by unfold cyclesV; rw [if_neg hz]
    rw [show textV zs = [] by unfold textV; rw [if_neg hz]]
    rw [hcy] at HC
    generalize chk zs = x at HC hz
    have hx : (x != 0) = true := by simpa using hz
    clear hz hv
    unfold ListsErr at HC
    go_enter Tryd.func49, Tryd.ntmps49
    go_wp2_with fail
    refine (HC.out).mono ?_
    rintro e w2 ⟨r, ps, rfl, hb, hL, hP⟩
    obtain ⟨Ar, cr, rfl⟩ := hL.form
    have HB := Lib.hid hb
    clear hL hP hb HC
    go_wp2_with fail
    go_ret2
    exact ⟨rfl, HB.out⟩


set_option maxRecDepth 100000 in
set_option maxHeartbeats 400000 in
/-- perm.Text of any list. -/
theorem TextV_any (v : Value) (zs : List Int) (w : World) (hl : zs.length ≤ 17592186044400) (hv : Ints w w.heap.size v zs) :
    Calls Tryd.prog 26 #[v] w (StrErr (chk zs) (textV zs) w) := by
  by_cases hz : chk zs = 0
  · obtain ⟨h1, _, _⟩ := chk_zero hz
    obtain ⟨b, o, c, rfl, hb, hc⟩ := hv.at_ (by omega)
    rw [hz, show textV zs = textOk zs by unfold textV; rw [if_pos hz]]
    exact Text_ok b o c zs w hz hb hc
  · rw [show textV zs = [] by unfold textV; rw [if_neg hz]]
    have HV := Lib.hid hv
    obtain ⟨A, c, rfl, h⟩ := hv
    clear h
    have HC := fun W h1 h2 h3 => Lib.hid (checks_one w.heap.size (.slice A zs.length c) zs W hl h1 h2 h3)
    generalize chk zs = x at HC hz
    have hx : (x != 0) = true := by simpa using hz
    clear hz
    refine (callsIn_wide (n := 3)).1 ?_
    refine callsIn_of_wp_marks Tryd.func26 rfl trivial ?_ rfl
    simp only [Tryd.ntmps26, List.size_toArray, List.length_cons, List.length_nil, Nat.reduceAdd, Nat.reduceSub, Array.replicate_succ, Array.replicate_zero, List.push_toArray, List.append_toArray, List.nil_append, List.cons_append]
    gi_wp2_with fail
    refine ⟨trivial, (callsIn_wide.2 (HC _ (by simp) (by simp) ((HV.out.alloc (Nat.le_refl _) _).more (by simp))).out).mono ?_⟩
    rintro e w1 ⟨rfl, hb1⟩
    have HB := Lib.hid (((Below.refl _ w).alloc (Nat.le_refl _) _).trans (hb1.mono (by simp)))
    clear hb1
    gi_wp2_with fail
    exact ⟨_, results_tmp2 rfl _ _ _, rfl, HB.out⟩
end Go.Proofs.YtpchomhfpfpckaaDoor
