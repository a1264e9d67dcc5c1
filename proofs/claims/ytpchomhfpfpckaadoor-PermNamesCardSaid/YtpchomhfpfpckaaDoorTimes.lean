/- perm.Times. -/
import Derived.Test.YtpchomhfpfpckaaDoorNum
import Derived.Laws.IdiomStrings
namespace Go.Proofs.YtpchomhfpfpckaaDoor
open Go Go.RowKit

/-- What a function that returns a text and an error has returned. -/
def NumErr (V : List UInt8 × Int) (w : World) (e : Ending) (w' : World) : Prop :=
  e = .returned (.tuple #[.string ⟨V.1.toArray⟩, .int .i64 V.2]) ∧ Below w.heap.size w w'
theorem ordB_true {l : List UInt8} : ordB l = true ↔ OrdOk l := by unfold ordB; exact decide_eq_true_iff
theorem numE_cases (l : List UInt8) (n : Int) : (numE l n = 3 ∧ ¬ OrdOk l) ∨ (numE l n = 2 ∧ OrdOk l ∧ (n < 1 ∨ 1000000000 < n)) ∨ (numE l n = 0 ∧ OrdOk l ∧ 1 ≤ n ∧ n ≤ 1000000000) := by
  by_cases ho : OrdOk l
  · have hb := ordB_true.2 ho
    by_cases hn : n < 1 ∨ 1000000000 < n
    · exact .inr (.inl ⟨numE_range hb hn, ho, hn⟩)
    · exact .inr (.inr ⟨numE_ok hb hn, ho, by omega, by omega⟩)
  · exact .inl ⟨numE_form (by cases h : ordB l; rfl; exact absurd (ordB_true.1 h) ho), ho⟩

/-- 200 bytes, of which the last ones are written. -/
def rowB (a : Nat) (out : List UInt8) : Array Value := ((List.replicate a (0 : UInt8) ++ out).map fun b => Value.int .u8 (b.toNat : Int)).toArray
theorem rowB_nil : rowB 200 [] = Array.replicate 200 (.int .u8 0) := by
  apply Array.ext'
  show List.map _ (List.replicate 200 0 ++ []) = _
  rw [List.append_nil, List.map_replicate, Array.toList_replicate]
  rfl
theorem rowB_set (a : Nat) (out : List UInt8) (b : UInt8) (x : Int) (hx : x = (b.toNat : Int)) : (rowB (a + 1) out).setIfInBounds a (.int .u8 x) = rowB a (b :: out) := by
  subst hx
  have h : ∀ a : Nat, (List.replicate (a + 1) (0 : UInt8) ++ out).set a b = List.replicate a 0 ++ b :: out := by
    intro a
    induction a with
    | zero => simp
    | succ a ih => rw [List.replicate_succ, List.cons_append, List.set_cons_succ, ih]; simp [List.replicate_succ]
  apply Array.ext'
  unfold rowB
  rw [← h a]
  simp
theorem rowB_get (a : Nat) (out : List UInt8) (j : Nat) (hj : j < out.length) : (rowB a out)[a + j]? = some (.int .u8 (out[j].toNat : Int)) := by
  simp [rowB, hj]
theorem rowB_any (a : Nat) (out : List UInt8) (h : a + 1 + out.length = 200) : ∃ u, (rowB (a + 1) out)[a]? = some u := by
  refine ⟨(rowB (a + 1) out)[a]'?_, Array.getElem?_eq_getElem _⟩
  simp [rowB]; omega

theorem slice_tail (g a : Nat) (ha : a < 200) (W : World) : (Instr.sliceAt 89 (.pointer (some ⟨g, 0, none⟩)) (some (.int .i64 (a : Int))) none none).run Tryd.prog W = .ok (.slice (some ⟨g, a, none⟩) (200 - a) (200 - a)) W := by
  have ht : Tryd.prog.underlying 89 = some (.array (Tryd.prog.arrayLen 89) (Tryd.prog.elem 89)) := by kernel_rfl
  have hl : Tryd.prog.arrayLen 89 = 200 := by kernel_rfl
  have hs : (sizeOf (Tryd.prog.elem 89)).run Tryd.prog W = .ok 1 W := by kernel_rfl
  rw [run_sliceAt_array_l W 89 ⟨g, 0, none⟩ ht .i64 (a : Int) (by omega) (by rw [hl]; omega), hs, hl]
  have e : (⟨g, 0, none⟩ : Addr).add a = ⟨g, a, none⟩ := by unfold Addr.add; split <;> simp_all
  simp only [Result.andThen, slicedAt, Int.toNat_natCast, Nat.mul_one, if_neg (show ¬ (200 = a) by omega), e]

/-- The loop of Times. -/
def TimesAt (w : World) (l : List UInt8) (N r a c : Nat) (out : List UInt8) (wr : World) : Prop :=
  AtT l N r out c ∧ a + r = 200 ∧ Row wr w.heap.size 89 (rowB a out) ∧ Below w.heap.size w wr
theorem TimesAt.step {w wr : World} {l : List UInt8} {N r a c : Nat} {out : List UInt8} (h : TimesAt w l N r (a + 1) c out wr) (ho : OrdOk l) (hN1 : 1 ≤ N) (hN : N ≤ 1000000000) (hgo : r < l.length ∨ 0 < c) {k : Nat} (hk : carryIn l N r c = k)
    {x : Int} (hx : x = ((48 + k % 10 : Nat) : Int)) : TimesAt w l N (r + 1) a (k / 10) (digB k :: out) (wr.setCell ⟨w.heap.size, a, none⟩ (.int .u8 x)) := by
  subst hk
  obtain ⟨h1, h2, h3, h4⟩ := h
  refine ⟨h1.step ho.2.2.2 ho.noZero hN1 hN ho.2.1 hgo, by omega, ?_, h4.setCell (p := ⟨w.heap.size, a, none⟩) (Nat.le_refl _) _⟩
  have := h3.set a (.int .u8 x)
  rwa [rowB_set a out (digB (carryIn l N r c)) x (by rw [hx, digB_nat])] at this

set_option maxRecDepth 100000 in
set_option maxHeartbeats 1000000 in
theorem times_ok (s : ByteArray) (N : Nat) (hs : s.size ≤ 300) (w : World) (he : numE s.data.toList N = 0) (ho : OrdOk s.data.toList) (hN1 : 1 ≤ N) (hN : N ≤ 1000000000) :
    Calls Tryd.prog 33 #[.string s, .int .i64 N] w (NumErr (timesV s.data.toList N) w) := by
  have HC := fun W => Lib.hid (checkNum_any s N hs W)
  rw [he] at HC
  have hl := len_bytes s
  have h200 := ho.2.1
  rw [hl] at h200
  have h1s := ho.1
  rw [hl] at h1s
  have hst : TimesAt w s.data.toList N 0 200 0 [] (w.alloc (.cells (rowB 200 []) 89)) :=
    ⟨AtT.start _ hN1 (fun e => by have := ho.1; rw [e] at this; simp at this), rfl, Row.new _ _ _, (Below.refl _ _).alloc (Nat.le_refl _) _⟩
  rw [rowB_nil] at hst
  have HST := Lib.hid hst
  have HO := Lib.hid ho
  have HL := Lib.hid hl
  clear hst ho hl he
  have hw64 : IntKind.u64.wrap (N : Int) = N := by rw [IntKind.wrap_u64]; omega
  go_enter Tryd.func33, Tryd.ntmps33
  go_wp2_with fail
  refine ((HC _).out).mono ?_
  rintro e w1 ⟨rfl, rfl⟩
  go_wp2_with fail
  go_loopw [8, 9, 10] (fun at_ c i wr => ∃ (r a k : Nat) (out : List UInt8), at_ = .int .i64 a ∧ c = .int .u64 k ∧ i = .int .i64 ((s.size : Int) - 1 - r) ∧ TimesAt w s.data.toList N r a k out wr) (fun _ _ i _ => (intOf i + 400).toNat)
  case atStart => exact ⟨0, 200, 0, [], rfl, rfl, by simp, HST.out⟩
  case round =>
    obtain ⟨r, a, c, out, rfl, rfl, rfl, hA⟩ := hrel
    have hcar := (hA.1.carry HO.out.2.2.2).1
    have har := hA.2.1
    have hlow : ∀ hgo : r < s.size ∨ 0 < c, r ≤ 300 := fun hgo => (hA.1.small hN HO.out.2.1 (by rw [HL.out]; exact hgo)).1
    by_cases hrl : r < s.size
    · have hr3 := hlow (.inl hrl)
      obtain ⟨i, hi⟩ : ∃ i : Nat, (s.size : Int) - 1 - r = i := ⟨s.size - 1 - r, by omega⟩
      rw [hi]
      have hil : i < s.size := by omega
      have hib : i = s.data.toList.length - 1 - r := by rw [HL.out]; omega
      have hdig := HO.out.2.2.2 s[i] (List.mem_of_getElem? (get_bytes s i hil))
      obtain ⟨d, hd⟩ : ∃ d : Nat, (s[i].toNat : Int) = d + 48 := ⟨s[i].toNat - 48, by omega⟩
      have hk : carryIn s.data.toList N r c = c + d * N := by
        unfold carryIn
        rw [if_pos (by rw [HL.out]; exact hrl), ← hib, List.getD_eq_getElem?_getD, get_bytes s i hil]
        simp only [Option.getD_some]
        unfold dv
        congr 2
        omega
      have hd9 : d ≤ 9 := by omega
      have hdN : d * N ≤ 9000000000 := Nat.le_trans (Nat.mul_le_mul hd9 hN) (by omega)
      have hmN : ((d * N : Nat) : Int) = (d : Int) * (N : Int) := Int.natCast_mul d N
      have hm1 : (d : Int) * (N : Int) ≤ 9000000000 := by omega
      have hm0 : 0 ≤ (d : Int) * (N : Int) := by omega
      obtain ⟨a, rfl⟩ : ∃ a', a = a' + 1 := ⟨a - 1, by omega⟩
      have HS := Lib.hid (hA.step HO.out hN1 hN (.inl (by rw [HL.out]; exact hrl)) hk (x := 48 + ((c : Int) + (d : Int) * (N : Int)) % 10) (by simp))
      have hlen := hA.1.len
      obtain ⟨u, hu⟩ := rowB_any a out (by omega)
      have hcm := hA.2.2.1.cell hu
      have hfm := hA.2.2.1.frozen a
      have HI := Lib.hid hi
      clear hA hlow hu hk hib hdig hi hlen hmN hdN
      go_wp2
      go_roundw
      case rel => exact ⟨r + 1, a, (c + d * N) / 10, _, rfl, by simp, by have := HI.out; go_num, HS.out⟩
      case measure => simp [intOf]; omega
    · by_cases hc : 0 < c
      · have hr3 := hlow (.inr hc)
        have hk : carryIn s.data.toList N r c = c := by unfold carryIn; rw [if_neg (by rw [HL.out]; exact hrl), Nat.add_zero]
        by_cases ha : a = 0
        · subst ha
          have hr : r = 200 := by omega
          subst hr
          have hov := hA.1.over (.inr hc)
          have HV : Hid (timesV s.data.toList N = ([], 5)) := by
            have : timesV s.data.toList N = ([], 5) := by
              unfold timesV
              rw [if_neg (fun h => h HO.out), if_neg (by omega), Int.toNat_natCast, if_pos hov]
            exact this
          have HB := Lib.hid hA.2.2.2
          clear hA hlow hk hov
          go_wp2
          go_ret2
          exact ⟨by rw [HV.out]; rfl, HB.out⟩
        · obtain ⟨a, rfl⟩ : ∃ a', a = a' + 1 := ⟨a - 1, by omega⟩
          have HS := Lib.hid (hA.step HO.out hN1 hN (.inr hc) hk (x := 48 + (c : Int) % 10) (by simp))
          have hlen := hA.1.len
          obtain ⟨u, hu⟩ := rowB_any a out (by omega)
          have hcm := hA.2.2.1.cell hu
          have hfm := hA.2.2.1.frozen a
          clear hA hlow hu hk hlen
          go_wp2
          go_roundw
          case rel => exact ⟨r + 1, a, c / 10, _, rfl, by simp, by go_num, HS.out⟩
          case measure => simp [intOf]; omega
      · obtain rfl : c = 0 := by omega
        obtain ⟨hp, -, -, -⟩ := hA.1.done (by rw [HL.out]; omega)
        have hlen := hA.1.len
        have ha : a < 200 := by omega
        have HV : Hid (timesV s.data.toList N = (out, 0)) := by
          have : timesV s.data.toList N = (out, 0) := by
            unfold timesV
            rw [if_neg (fun h => h HO.out), if_neg (by omega), Int.toNat_natCast, hp, if_neg (by omega)]
          exact this
        have hr : out.length = 200 - a := by omega
        have hcv := run_convert_bytes_back (P := Tryd.prog) wr 81 53 5 ⟨w.heap.size, a, none⟩ (200 - a) out Tryd.underlying81 Tryd.underlying5 (by kernel_rfl) (fun j hj => by
          have := hA.2.2.1.cell (rowB_get a out j hj)
          rw [← this]
          congr 1
          unfold Addr.add; split <;> simp_all)
        rw [hr] at hcv
        have HB := Lib.hid hA.2.2.2
        clear hA hlow hp hlen hr
        have hsl := slice_tail w.heap.size a ha
        go_wp2
        go_ret2
        exact ⟨by rw [HV.out]; rfl, HB.out⟩

theorem timesV_err {l : List UInt8} {n : Int} (h : ¬ numE l n = 0) : timesV l n = ([], numE l n) := by
  rcases numE_cases l n with ⟨e, ho⟩ | ⟨e, ho, hn⟩ | ⟨e, _⟩
  · rw [e]; unfold timesV; rw [if_pos ho]
  · rw [e]; unfold timesV; rw [if_neg (fun h => h ho), if_pos hn]
  · exact absurd e h

set_option maxRecDepth 100000 in
set_option maxHeartbeats 400000 in
/-- perm.Times. -/
theorem times_any (s : ByteArray) (n : Int) (hs : s.size ≤ 300) (w : World) :
    Calls Tryd.prog 33 #[.string s, .int .i64 n] w (NumErr (timesV s.data.toList n) w) := by
  by_cases he : numE s.data.toList n = 0
  · rcases numE_cases s.data.toList n with ⟨e, _⟩ | ⟨e, _⟩ | ⟨_, ho, h1, h2⟩
    · rw [e] at he; simp at he
    · rw [e] at he; simp at he
    · obtain ⟨N, rfl⟩ : ∃ N : Nat, n = (N : Int) := ⟨n.toNat, by omega⟩
      exact times_ok s N hs w he ho (by omega) (by omega)
  · rw [timesV_err he]
    have HC := fun W => Lib.hid (checkNum_any s n hs W)
    generalize numE s.data.toList n = x at he HC
    have hx : (x != 0) = true := by simpa using he
    clear he
    go_enter Tryd.func33, Tryd.ntmps33
    go_wp2_with fail
    refine ((HC _).out).mono ?_
    rintro e w1 ⟨rfl, rfl⟩
    go_wp2_with fail
    go_ret2
    exact ⟨rfl, Below.refl _ _⟩
end Go.Proofs.YtpchomhfpfpckaaDoor
