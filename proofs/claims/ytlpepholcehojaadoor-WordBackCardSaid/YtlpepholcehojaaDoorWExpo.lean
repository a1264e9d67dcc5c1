/- The reader's exponent, where no fault is met. -/
import Derived.Test.YtlpepholcehojaaDoorWRead
import Derived.Test.YtlpepholcehojaaDoorWShelf
import Derived.Lib.AtoiErrMem
namespace Go.Proofs.YtlpepholcehojaaDoor
open Go Go.RowKit

/-- An exponent stands there: its digits from f to q. -/
structure Digs (s : ByteArray) (f q : Nat) (v : Int) : Prop where
  lt : f < q
  le : q ≤ s.size
  digit : ∀ i, f ≤ i → i < q → 48 ≤ chAt s i ∧ chAt s i ≤ 57
  stop : ¬ (48 ≤ chAt s q ∧ chAt s q ≤ 57)
  few : q - f ≤ 4
  lead : 1 < q - f → chAt s f ≠ 48
  val : Lib.atoi (s.extract f q).data.toList = some v
  small : 0 ≤ v ∧ v ≤ 9999

/-- The digits, as a text of their own. -/
structure DigText (D : ByteArray) (v : Int) : Prop where
  le : D.size ≤ 4
  pos : 0 < D.size
  val : Lib.atoi D.data.toList = some v
  lead : ¬ (1 : Int) < (D.size : Int) ∨ ((1 : Int) < (D.size : Int) ∧ ((D[0].toNat : Int) == 48) = false)
theorem Digs.text {s : ByteArray} {f q : Nat} {v : Int} (h : Digs s f q v) : DigText (s.extract f q) v := by
  have hlt := h.lt
  have hle := h.le
  have hsz : (s.extract f q).size = q - f := by
    rw [ByteArray.size_extract]; omega
  have hfew := h.few
  have h0 : 0 < (s.extract f q).size := by rw [hsz]; exact Nat.sub_pos_of_lt hlt
  refine ⟨by rw [hsz]; exact hfew, h0, h.val, ?_⟩
  by_cases h1 : 1 < q - f
  · refine .inr ⟨by rw [hsz]; exact Int.ofNat_lt.2 h1, ?_⟩
    have h2 := h.lead h1
    have hfs : f < s.size := Nat.lt_of_lt_of_le hlt hle
    rw [chAt_in hfs] at h2
    have h3 : (s.extract f q)[0] = s[f] := by
      have := ByteArray.getElem_extract (b := s) (h := h0)
      simpa using this
    rw [h3]
    simpa using h2
  · exact .inl (by rw [hsz]; exact fun h => h1 (Int.ofNat_lt.1 h))

theorem atoi_any (s : ByteArray) (n : Int) (hl : s.size ≤ 18) (h : Lib.atoi s.data.toList = some n) (w : World) :
    Calls Tryd.prog 68 #[.string s] w fun e w' => e = .returned (.tuple #[.int .i64 n, .nilIface]) ∧ Below w.heap.size w w' := by
  refine (Any.strconv_Atoi Tryd.laysAtoi s n hl h w).mono ?_
  rintro e w' ⟨h1, t, rfl⟩
  exact ⟨h1, Lib.bytesWorld_below _ _ _⟩

set_option maxRecDepth 100000 in
set_option maxHeartbeats 2000000 in
theorem exponent_walk (w : World) (R : Nat) (s : ByteArray) (g : Int) (f q o : Nat) (v : Int) (neg : Bool) (hs : s.size ≤ 20000) (hR : R < w.heap.size) (hd : Digs s f q v)
    (ht : Calls Tryd.prog 55 #[.pointer (some ⟨R, 0, none⟩), .int .u8 45] w fun e w' => e = .returned (.bool neg) ∧ Rd w w' R s g f o) :
    Calls Tryd.prog 60 #[.pointer (some ⟨R, 0, none⟩)] w fun e w' => e = .returned (.int .i64 (if neg then -v else v)) ∧ Rd w w' R s g q o := by
  have hdt := hd.text
  obtain ⟨hlt, hle, hdig, hstop, hfew, hlead, hval, hsm⟩ := hd
  have HT := Lib.hid ht
  have HD := Lib.hid hdig
  have HST := Lib.hid hstop
  obtain ⟨D, hD⟩ : ∃ D, s.extract f q = D := ⟨_, rfl⟩
  rw [hD] at hdt
  have HX := Lib.hid hD
  have HDT := Lib.hid hdt
  have hvn : IntKind.i64.wrap (-v) = -v := IntWalk.i64_in _ ⟨by omega, by omega⟩
  have HVN := Lib.hid hvn
  clear ht hdig hstop hlead hval hD hdt hfew hsm hvn
  go_enter Tryd.func60, Tryd.ntmps60
  go_wp2_with fail
  refine HT.out.mono ?_
  rintro e w1 ⟨rfl, hRd⟩
  have hl2 := hRd.row.cell (i := 2) rfl
  have HR := Lib.hid hRd
  clear hRd HT
  go_wp2_with fail
  clear hl2
  go_loopg [] (q - f) (fun gk wr => ∃ k : Nat, f ≤ k ∧ k ≤ q ∧ gk = q - k ∧ Rd w wr R s g k o)
  case atStart => exact ⟨f, Nat.le_refl _, by omega, rfl, HR.out⟩
  case round =>
    obtain ⟨k, hfk, hkq, rfl, hRk⟩ := hrel
    have hc0 := hRk.row.cell (i := 0) rfl
    have hc2 := hRk.row.cell (i := 2) rfl
    have hf2 := hRk.row.frozen 2
    have HRd := Lib.hid hRk
    clear hRk
    by_cases hlt2 : k < q
    · have hks : k < s.size := by omega
      have hdk := HD.out k hfk hlt2
      rw [chAt_in hks] at hdk
      obtain ⟨hd1, hd2⟩ := hdk
      go_wp2_with fail
      go_quiet (fail)
      go_wp2_with fail
      go_roundg (q - (k + 1))
      case measure => omega
      case rel => exact ⟨k + 1, by omega, by omega, rfl, (HRd.out.drewN nq).at_ hR (k + 1)⟩
    · have e : k = q := by omega
      subst e
      have hcs : (¬ (k : Int) < (s.size : Int) ∧ ¬ k < s.size) ∨ (∃ hks : k < s.size, ¬ (48 : Int) ≤ (s[k].toNat : Int) ∧ decide ((48 : Int) ≤ (s[k].toNat : Int)) = false) ∨ (∃ hks : k < s.size, ((48 : Int) ≤ (s[k].toNat : Int) ∧ 48 ≤ s[k].toNat) ∧ ¬ (s[k].toNat : Int) ≤ 57 ∧ ¬ s[k].toNat ≤ 57) := by
        by_cases hks : k < s.size
        · have := HST.out
          rw [chAt_in hks] at this
          by_cases h1 : (48 : Int) ≤ (s[k].toNat : Int)
          · exact .inr (.inr ⟨hks, ⟨h1, by omega⟩, fun h2 => this ⟨h1, h2⟩, by omega⟩)
          · exact .inr (.inl ⟨hks, h1, decide_eq_false h1⟩)
        · exact .inl ⟨by omega, hks⟩
      have hks2 : k ≤ s.size := hle
      rcases hcs with ⟨hk1, hk1n⟩ | ⟨hks, hk1, hk1n⟩ | ⟨hks, ⟨hk1, hk1n⟩, hk2, hk2n⟩ <;> cases neg
      all_goals clear hlt2 hkq hfk hs
      all_goals go_wp2_with fail
      all_goals go_quiet (fail)
      all_goals rename Nat => n1
      all_goals go_wp2_with fail
      all_goals go_quiet (fail)
      all_goals rw [HX.out]
      all_goals obtain ⟨hd4, hd0, hdv, hdl⟩ := HDT.out
      all_goals have HR2 := Lib.hid (HRd.out.drewN (n1 + nq))
      all_goals have HA := fun W => Lib.hid (atoi_any D v (by omega) hdv W)
      all_goals have hd4' : ¬ (4 : Int) < (D.size : Int) := by omega
      all_goals have hd4n : ¬ 4 < D.size := by omega
      all_goals clear hdv HRd hc0 hc2 hf2
      all_goals have hvn := HVN.out
      all_goals rcases hdl with hd1 | ⟨hd1, hd2⟩
      all_goals go_wp2_with fail
      all_goals refine ((HA _).out).mono ?_
      all_goals rintro e w3 ⟨rfl, hb3⟩
      all_goals have HR3 := Lib.hid (HR2.out.below hb3 hR)
      all_goals clear hb3
      all_goals go_wp2_with fail
      all_goals go_ret
      all_goals exact ⟨by simp, HR3.out⟩

/-- An exponent, with its sign. -/
def Expo (s : ByteArray) (p q : Nat) (n : Int) : Prop :=
  ∃ p1 f v, Skp s p p1 ∧ Digs s f q v ∧ ((chAt s p1 = 45 ∧ f = p1 + 1 ∧ n = -v) ∨ (chAt s p1 ≠ 45 ∧ f = p1 ∧ n = v))
theorem Expo.small {s : ByteArray} {p q : Nat} {n : Int} (h : Expo s p q n) : -9999 ≤ n ∧ n ≤ 9999 := by
  obtain ⟨p1, f, v, _, hd, h⟩ := h
  have := hd.small
  rcases h with ⟨_, _, h⟩ | ⟨_, _, h⟩ <;> omega
theorem exponent_ok (w : World) (R : Nat) (s : ByteArray) (g : Int) (p q o : Nat) (n : Int) (hs : s.size ≤ 20000) (h : RdRow w R s g p o) (he : Expo s p q n) :
    Calls Tryd.prog 60 #[.pointer (some ⟨R, 0, none⟩)] w fun e w' => e = .returned (.int .i64 n) ∧ Rd w w' R s g q o := by
  obtain ⟨p1, f, v, hk, hd, ⟨hc, rfl, rfl⟩ | ⟨hc, rfl, rfl⟩⟩ := he
  · have := exponent_walk w R s g (p1 + 1) q o v true hs h.lt hd (take_yes w R s g p p1 o 45 hs h hk (by omega) hc)
    simpa using this
  · have := exponent_walk w R s g f q o n false hs h.lt hd (take_no w R s g p f o 45 hs h hk hc)
    simpa using this
end Go.Proofs.YtlpepholcehojaaDoor
