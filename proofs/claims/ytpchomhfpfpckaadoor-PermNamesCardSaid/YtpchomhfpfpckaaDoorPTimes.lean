/- cayleykit.Times of one byte; cayleylaw01.faults. -/
import Derived.Test.YtpchomhfpfpckaaDoorPEval
import Derived.Test.YtpchomhfpfpckaaDoorCycle
import Derived.Laws.MakeOwn
import Derived.Laws.IdiomStrings
namespace Go.Proofs.YtpchomhfpfpckaaDoor
open Go Go.RowKit

theorem rep_one (k : Nat) (c : UInt8) : List.replicate (k + 1) c = List.replicate k c ++ [c] := by
  rw [List.replicate_succ']
set_option maxRecDepth 100000 in
set_option maxHeartbeats 1000000 in
theorem kitTimes_any (c : UInt8) (n : Nat) (w : World) (h1 : 1 ≤ n) (hn : n ≤ 30000) :
    Calls Tryd.prog 30 #[.string ⟨#[c]⟩, .int .i64 (n : Int)] w fun e w' => e = .returned (.string ⟨(List.replicate n c).toArray⟩) ∧ Below w.heap.size w w' := by
  obtain ⟨i0, hi, hz0, hz1, hz2⟩ := info_parts info5
  have hmx : ∀ (ts : Array TypeId) (t : TypeId) (W : World), (Builtin.max_ ts t #[.int .i64 0, .int .i64 (n : Int)]).run Tryd.prog W = .ok (.int .i64 (n : Int)) W := fun ts t W => by
    rw [run_max_int2]
    congr 2
    split <;> omega
  have hwr : IntKind.i64.wrap (n : Int) = (n : Int) := IntWalk.i64_in _ (by omega)
  have hwr1 : IntKind.i64.wrap ((n : Int) * 1) = (n : Int) := by rw [Int.mul_one]; exact hwr
  have hsz : (⟨#[c]⟩ : ByteArray).size = 1 := rfl
  obtain ⟨W0, hmk, hO, hg⟩ := run_make_own (P := Tryd.prog) (w := w) w.heap.size 81 5 i0 (.int .u8 0) 1 Tryd.underlying81 hi hz0 hz1 .i64 .i64 n (by rw [hz2]; omega) (by unfold maxLen; omega) (Nat.le_refl _)
  have HO := Lib.hid (show Owns W0 w.heap.size (.slice (some ⟨w.heap.size, 0, none⟩) 0 n) (List.replicate 0 c) from hO)
  have HB := Lib.hid ((Below.refl w.heap.size w).grown hg (Nat.le_refl _) (fun r h => by cases h))
  clear hO hg
  go_enter Tryd.func30, Tryd.ntmps30
  go_wp2_with fail
  clear hmk hmx
  go_loopw [5, 6] (fun v i wr => ∃ k : Nat, i = .int .i64 k ∧ k ≤ n ∧ Hid (Owns wr w.heap.size v (List.replicate k c)) ∧ Hid (Below w.heap.size w wr)) (fun _ i _ => n - (intOf i).toNat)
  case atStart => exact ⟨0, rfl, Nat.zero_le _, HO.out, HB.out⟩
  case round =>
    obtain ⟨k, rfl, hk, HK, HBK⟩ := hrel
    clear HO HB
    by_cases hlt : k < n
    · have hlen : (List.replicate k c).length = k := by simp
      go_wp2_with (at_builtin; refine wpList_append_str_at _ rfl _ _ 81 9 rfl w.heap.size 5 i0 Tryd.underlying81 Tryd.underlying9 hi hz0 hz1 hz2 _ (List.replicate k c).length (bcells (List.replicate k c)) rfl HK.out ⟨#[c]⟩ rfl (by rw [hsz]; omega) (by rw [hsz, hlen]; omega) HBK.out.size ?_; intro v' w1 hown' happ; have HX := Lib.hid hown'; have HP := Lib.hid happ; clear hown' happ)
      go_roundw
      case rel =>
        refine ⟨k + 1, by go_num, by omega, ?_, HBK.out.grown HP.out.1 HBK.out.size (fun r h => (HK.out.lt r h).1)⟩
        rw [rep_one]
        show World.ownsRow _ _ _ _ _ _ _
        rw [bcells_append, List.length_append]
        exact HX.out
      case measure => simp [intOf]; omega
    · have hkn : k = n := by omega
      subst hkn
      have hpos : 0 < (List.replicate k c).length := by simp; omega
      obtain ⟨L, hL⟩ : ∃ L, List.replicate k c = L := ⟨_, rfl⟩
      rw [hL] at HK hpos
      have HL := Lib.hid hL
      clear hL
      obtain ⟨g, cap, rfl, _, _⟩ := owns_form HK.out hpos
      have hcell : ∀ j (hj : j < L.length), wr.cell? ((⟨g, 0, none⟩ : Addr).add j) = some (.int .u8 ((L[j]'hj).toNat : Int)) := fun j hj =>
        HK.out.cells (g := g) rfl j _ (by rw [bcells, List.getElem?_map, List.getElem?_eq_getElem hj]; rfl)
      have hcv := run_convert_bytes_back (P := Tryd.prog) wr 81 9 5 ⟨g, 0, none⟩ cap L Tryd.underlying81 Tryd.underlying5 Tryd.underlying9 hcell
      obtain ⟨tx, htx⟩ : ∃ tx : ByteArray, (⟨L.toArray⟩ : ByteArray) = tx := ⟨_, rfl⟩
      rw [htx] at hcv
      have HTX := Lib.hid htx
      clear hcell HK htx
      go_wp2_with fail
      go_ret
      exact ⟨by rw [HL.out, HTX.out]; rfl, HBK.out⟩

set_option maxRecDepth 100000 in
set_option maxHeartbeats 1000000 in
theorem faults_any (s : ByteArray) (n e : Int) (q : Nat) (w : World) (hn0 : -9223372036854775808 ≤ n) (hn1 : n ≤ 9223372036854775807) (hs : s.size ≤ 9223372036854775807) (ho : ParseO s n (.bad e q)) :
    Calls Tryd.prog 29 #[.string s, .int .i64 n, .int .i64 e, .int .i64 (q : Int)] w fun r w' => r = .returned (.bool true) ∧ Below w.heap.size w w' := by
  have HP := Lib.hid (fun W => Parse_any W s n _ hn0 hn1 hs ho)
  clear ho
  go_enter Tryd.func29, Tryd.ntmps29
  go_wp2_with fail
  refine (HP.out _).mono ?_
  rintro e' w1 ⟨rfl, hb⟩
  have hf := Row.new w1 45 #[.int .i64 e, .int .i64 (q : Int)]
  have HB := Lib.hid (hb.alloc hb.size (.cells #[.int .i64 e, .int .i64 (q : Int)] 45))
  have hc0 := hf.cell (i := 0) rfl
  have hc1 := hf.cell (i := 1) rfl
  clear hb hf HP
  go_wp2_with fail
  go_ret
  exact ⟨rfl, HB.out⟩
end Go.Proofs.YtpchomhfpfpckaaDoor
