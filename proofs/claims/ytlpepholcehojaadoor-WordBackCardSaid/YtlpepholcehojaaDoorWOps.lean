/- word.Mul, Invert, Conj, Comm. -/
import Derived.Test.YtlpepholcehojaaDoorWConcat
import Derived.Test.YtlpepholcehojaaDoorWInv
namespace Go.Proofs.YtlpepholcehojaaDoor
open Go Go.RowKit

/-- A call has given a list in memory of its own. -/
def GivesO (w : World) (l : List Int) (e : Ending) (w' : World) : Prop := ∃ r, e = .returned r ∧ OwnsI w' w.heap.size r l ∧ Below w.heap.size w w'
theorem OwnsI.base {w : World} {B B' : Nat} {v : Value} {l : List Int} (h : OwnsI w B v l) (hB : B' ≤ B) : OwnsI w B' v l := by
  refine ⟨h.1, ?_⟩
  rcases h.2 with h | ⟨g, cap, cur, e, hb, r⟩
  · exact .inl h
  · exact .inr ⟨g, cap, cur, e, by omega, r⟩
theorem lists_new (w : World) (ps : List (Value × List Int)) (n : Nat) (h : ∀ p ∈ ps, Ints w w.heap.size p.1 p.2) :
    Lists (w.alloc (.cells (ps.map (·.1)).toArray 24)) (w.alloc (.cells (ps.map (·.1)).toArray 24)).heap.size (.slice (some ⟨w.heap.size, 0, none⟩) ps.length n) ps := by
  refine ⟨⟨_, n, rfl, fun _ => ⟨w.heap.size, 0, rfl, by simp, fun j p hj => ?_⟩⟩, fun p hp => ((h p hp).alloc (Nat.le_refl _) _).more (by simp)⟩
  rw [Nat.zero_add]
  exact (Row.new w 24 (ps.map (·.1)).toArray).cell (show ((ps.map (·.1)).toArray)[j]? = some p.1 by simp [hj])
theorem Ints.form {w : World} {B : Nat} {v : Value} {l : List Int} (h : Ints w B v l) : ∃ A c, v = .slice A l.length c := by obtain ⟨A, c, e, _⟩ := h; exact ⟨A, c, e⟩
theorem Ints.grow {w w' : World} {v : Value} {l : List Int} (h : Ints w w.heap.size v l) (hb : Below w.heap.size w w') : Ints w' w'.heap.size v l := (h.below hb).more hb.size

set_option maxRecDepth 100000 in
set_option maxHeartbeats 400000 in
theorem Mul_any (v u : Value) (a b : List Int) (w : World) (ha : a.length ≤ 100000) (hb : b.length ≤ 100000) (ra : Rng a) (rb : Rng b) (hv : Ints w w.heap.size v a) (hu : Ints w w.heap.size u b) :
    Calls Tryd.prog 7 #[v, u] w (GivesO w (wmul a b)) := by
  obtain ⟨Av, cv, rfl⟩ := hv.form
  obtain ⟨Au, cu, rfl⟩ := hu.form
  have HL := Lib.hid (lists_new w [((.slice Av a.length cv), a), ((.slice Au b.length cu), b)] 2 (fun p hp => by
    simp at hp
    rcases hp with rfl | rfl
    · exact hv
    · exact hu))
  have HC := fun W h => Lib.hid (concat_any (.slice (some ⟨w.heap.size, 0, none⟩) 2 2) [((.slice Av a.length cv), a), ((.slice Au b.length cu), b)] W (by simp) (by simp [flat]; omega) h)
  have HR := fun r W h => Lib.hid (Reduce_any r (a ++ b) W (by simp; omega) (ra.append rb) h)
  rw [show flat [((.slice Av a.length cv), a), ((.slice Au b.length cu), b)] = a ++ b by simp [flat]] at HC
  rw [show red (a ++ b) = wmul a b from rfl] at HR
  clear hv hu
  go_enter Tryd.func7, Tryd.ntmps7
  go_wp2_with fail
  refine ((HC _ HL.out).out).mono ?_
  rintro e w1 ⟨r, rfl, ho, hb1⟩
  have HB := Lib.hid (((Below.refl _ w).alloc (Nat.le_refl _) _).trans (hb1.mono (by simp)))
  have HO := Lib.hid ho.ints
  clear ho hb1
  go_wp2_with fail
  refine ((HR _ _ HO.out).out).mono ?_
  rintro e w2 ⟨r2, rfl, ho2, hb2⟩
  have HB2 := Lib.hid (HB.out.trans (hb2.mono HB.out.size))
  have HO2 := Lib.hid (ho2.base HB.out.size)
  clear ho2 hb2
  go_wp2_with fail
  go_ret
  exact ⟨_, rfl, HO2.out, HB2.out⟩

theorem nlet_rng {x : Int} (h : -9223372036854775808 ≤ x ∧ x ≤ 9223372036854775807) : -9223372036854775808 ≤ nlet x ∧ nlet x ≤ 9223372036854775807 := by
  unfold nlet; split <;> omega
theorem Rng.winv {a : List Int} (h : Rng a) : Rng (winv a) := fun x hx => by
  simp only [Go.Proofs.YtlpepholcehojaaDoor.winv, List.mem_reverse, List.mem_map] at hx
  obtain ⟨y, hy, rfl⟩ := hx
  exact nlet_rng (h y hy)

set_option maxRecDepth 100000 in
set_option maxHeartbeats 400000 in
theorem Comm_any (v u : Value) (a b : List Int) (w : World) (ha : a.length ≤ 100000) (hb : b.length ≤ 100000) (ra : Rng a) (rb : Rng b) (hv : Ints w w.heap.size v a) (hu : Ints w w.heap.size u b) :
    Calls Tryd.prog 16 #[v, u] w (GivesO w (red (winv a ++ winv b ++ a ++ b))) := by
  obtain ⟨Av, cv, rfl⟩ := hv.form
  obtain ⟨Au, cu, rfl⟩ := hu.form
  have HI := Lib.hid (inverse_any (.slice Av a.length cv) a w (by omega) ra hv)
  have HJ := fun W h => Lib.hid (inverse_any (.slice Au b.length cu) b W (by omega) rb h)
  have HC := fun x y n W h => Lib.hid (concat_any (.slice (some ⟨n, 0, none⟩) 4 4) [(x, winv a), (y, winv b), ((.slice Av a.length cv), a), ((.slice Au b.length cu), b)] W (by simp) (by simp [flat, winv_length]; omega) h)
  have HR := fun r W h => Lib.hid (Reduce_any r (winv a ++ winv b ++ a ++ b) W (by simp [winv_length]; omega) (((ra.winv.append rb.winv).append ra).append rb) h)
  have HF := fun x y => Lib.hid (show flat [(x, winv a), (y, winv b), ((.slice Av a.length cv), a), ((.slice Au b.length cu), b)] = winv a ++ winv b ++ a ++ b by simp [flat])
  have HV := Lib.hid hv
  have HU := Lib.hid hu
  clear hv hu
  generalize red (winv a ++ winv b ++ a ++ b) = res at HR
  go_enter Tryd.func16, Tryd.ntmps16
  go_wp2_with fail
  refine (HI.out).mono ?_
  rintro e w1 ⟨x, rfl, ho, hb1⟩
  obtain ⟨Ax, cx, rfl⟩ := ho.len
  have HB := Lib.hid hb1
  have HX := Lib.hid ho.ints
  have HV1 := Lib.hid (HV.out.grow hb1)
  have HU1 := Lib.hid (HU.out.grow hb1)
  clear ho hb1 HV HU
  go_wp2_with fail
  refine ((HJ _ HU1.out).out).mono ?_
  rintro e w2 ⟨y, rfl, ho, hb1⟩
  obtain ⟨Ay, cy, rfl⟩ := ho.len
  have HB2 := Lib.hid (HB.out.trans (hb1.mono HB.out.size))
  have HL := Lib.hid (lists_new w2 [(.slice Ax (winv a).length cx, winv a), (.slice Ay (winv b).length cy, winv b), ((.slice Av a.length cv), a), ((.slice Au b.length cu), b)] 4 (fun p hp => by
    simp at hp
    rcases hp with rfl | rfl | rfl | rfl
    · exact HX.out.grow hb1
    · exact ho.ints
    · exact HV1.out.grow hb1
    · exact HU1.out.grow hb1))
  clear ho hb1 HV1 HU1 HX HB
  go_wp2_with fail
  refine ((HC _ _ _ _ HL.out).out).mono ?_
  rw [(HF _ _).out]
  rintro e w3 ⟨r, rfl, ho, hb1⟩
  have HB3 := Lib.hid ((HB2.out.alloc HB2.out.size _).trans (hb1.mono (by have := HB2.out.size; simp; omega)))
  have HO := Lib.hid ho.ints
  clear ho hb1 HB2 HL
  go_wp2_with fail
  refine ((HR _ _ HO.out).out).mono ?_
  rintro e w4 ⟨r2, rfl, ho2, hb2⟩
  have HB4 := Lib.hid (HB3.out.trans (hb2.mono HB3.out.size))
  have HO2 := Lib.hid (ho2.base HB3.out.size)
  clear ho2 hb2
  go_wp2_with fail
  go_ret
  exact ⟨_, rfl, HO2.out, HB4.out⟩
end Go.Proofs.YtlpepholcehojaaDoor
