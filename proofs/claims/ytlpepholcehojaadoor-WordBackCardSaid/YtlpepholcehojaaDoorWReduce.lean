/- word.Reduce. -/
import Derived.Test.YtlpepholcehojaaDoorWBase
import Derived.WalkMore
namespace Go.Proofs.YtlpepholcehojaaDoor
open Go Go.RowKit

theorem red_snoc (u : List Int) (x : Int) : red (u ++ [x]) = (push (act [] u) x).reverse := by
  unfold red; rw [act_append]; rfl
theorem red_snoc_nil {u : List Int} (h : (red u).length = 0) (x : Int) : red (u ++ [x]) = red u ++ [x] := by
  have e : act [] u = [] := by
    have : (act [] u).length = 0 := by simpa [red] using h
    exact List.length_eq_zero_iff.1 this
  rw [red_snoc]; unfold red; rw [e]; rfl
theorem red_top {u : List Int} (h : 0 < (red u).length) : ∃ y t, act [] u = y :: t ∧ (red u).getD ((red u).length - 1) 0 = y ∧ (red u).take ((red u).length - 1) = t.reverse := by
  cases e : act [] u with
  | nil => simp [red, e] at h
  | cons y t =>
    refine ⟨y, t, rfl, ?_, ?_⟩
    · simp [red, e, List.getD_eq_getElem?_getD]
    · simp [red, e]
theorem red_snoc_cancel {u : List Int} (h : 0 < (red u).length) {x : Int} (hc : canc ((red u).getD ((red u).length - 1) 0) x = true) : red (u ++ [x]) = (red u).take ((red u).length - 1) := by
  obtain ⟨y, t, e, h1, h2⟩ := red_top h
  rw [h1] at hc
  rw [red_snoc, e, h2]
  simp [push, hc]
theorem red_snoc_keep {u : List Int} (h : 0 < (red u).length) {x : Int} (hc : canc ((red u).getD ((red u).length - 1) 0) x = false) : red (u ++ [x]) = red u ++ [x] := by
  obtain ⟨y, t, e, h1, h2⟩ := red_top h
  rw [h1] at hc
  rw [red_snoc, e]
  unfold red
  rw [e]
  simp [push, hc]
theorem mem_push {s : List Int} {x z : Int} (h : z ∈ push s x) : z = x ∨ z ∈ s := by
  cases s with
  | nil => simp [push] at h; exact .inl h
  | cons y t =>
    simp only [push] at h
    split at h
    · exact .inr (by simp [h])
    · rcases List.mem_cons.1 h with h | h
      · exact .inl h
      · exact .inr h
theorem mem_act {s w : List Int} {z : Int} (h : z ∈ act s w) : z ∈ s ∨ z ∈ w := by
  induction w generalizing s with
  | nil => exact .inl h
  | cons x w ih =>
    rcases ih (s := push s x) h with h | h
    · rcases mem_push h with h | h
      · exact .inr (by simp [h])
      · exact .inl h
    · exact .inr (by simp [h])
theorem mem_red {w : List Int} {z : Int} (h : z ∈ red w) : z ∈ w := by
  have : z ∈ act [] w := by simpa [red] using h
  rcases mem_act this with h | h
  · cases h
  · exact h
theorem Rng.red {w : List Int} (h : Rng w) : Rng (red w) := fun x hx => h x (mem_red hx)
theorem Rng.take {w : List Int} (h : Rng w) (k : Nat) : Rng (w.take k) := fun x hx => h x (List.mem_of_mem_take hx)
theorem take_snoc {zs : List Int} {k : Nat} (h : k < zs.length) : zs.take (k + 1) = zs.take k ++ [zs.getD k 0] := by
  rw [List.take_succ_eq_append_getElem h]
  simp [List.getD_eq_getElem?_getD, h]

/-- A slice cut short. -/
theorem OwnsI.cut {w : World} {B : Nat} {A : Option Addr} {cap : Nat} {l : List Int} (h : OwnsI w B (.slice A l.length cap) l) {m : Nat} (hm : m ≤ l.length) (h0 : 0 < l.length) : OwnsI w B (.slice A m cap) (l.take m) := by
  have hl : (l.take m).length = m := by simp; omega
  unfold OwnsI
  rw [hl]
  refine ⟨by simp [icells]; omega, ?_⟩
  rcases h.2 with ⟨_, h1⟩ | ⟨g, cap', cur, he, hb, hg, hnc, hcm, hcs, htake⟩
  · omega
  · injection he with e1 e2 e3
    subst e1; subst e3
    refine .inr ⟨g, cap, cur, rfl, hb, hg, by omega, hcm, hcs, ?_⟩
    have : cur.toList.take (m * 1) = (cur.toList.take (l.length * 1)).take m := by
      rw [List.take_take]; congr 1; omega
    rw [this, htake]
    simp [icells, List.map_take]
theorem OwnsI.form {w : World} {B : Nat} {v : Value} {l : List Int} (h : OwnsI w B v l) (h0 : 0 < l.length) : ∃ g cap, v = .slice (some ⟨g, 0, none⟩) l.length cap ∧ B ≤ g ∧ g < w.heap.size ∧ l.length ≤ cap ∧ ∀ j, j < l.length → w.cell? ⟨g, j, none⟩ = some (.int .i64 (l.getD j 0)) := by
  rcases h.2 with ⟨_, h1⟩ | ⟨g, cap, cur, rfl, hb, hg, hnc, hcm, hcs, htake⟩
  · omega
  · refine ⟨g, cap, rfl, hb, (Array.getElem?_eq_some_iff.1 hg).1, hnc, fun j hj => ?_⟩
    have := World.ownsRow.cells h (g := g) rfl j _ (icells_get hj)
    rwa [Addr.add_lit, Nat.zero_add] at this
theorem OwnsI.len {w : World} {B : Nat} {v : Value} {l : List Int} (h : OwnsI w B v l) : ∃ A cap, v = .slice A l.length cap := by
  rcases h.2 with ⟨rfl, h1⟩ | ⟨g, cap, cur, rfl, _⟩
  · exact ⟨none, 0, by rw [h1]⟩
  · exact ⟨_, cap, rfl⟩

set_option maxRecDepth 100000 in
set_option maxHeartbeats 400000 in
theorem Reduce_any (v : Value) (zs : List Int) (w : World) (hl : zs.length ≤ 1000000000) (hr : Rng zs) (hv : Ints w w.heap.size v zs) :
    Calls Tryd.prog 15 #[v] w fun e w' => ∃ r, e = .returned r ∧ OwnsI w' w.heap.size r (red zs) ∧ Below w.heap.size w w' := by
  obtain ⟨i0, hi, hz0, hz1, hz2⟩ := info_parts info3'
  obtain ⟨A, c, rfl, h⟩ := hv
  have hat : ∀ j, j < zs.length → ∃ b o, A = some ⟨b, o, none⟩ ∧ b < w.heap.size ∧ w.cell? ⟨b, o + j, none⟩ = some (.int .i64 (zs.getD j 0)) := fun j hj => by
    obtain ⟨b, o, e, hb, hc⟩ := h (by omega)
    exact ⟨b, o, e, hb, hc j hj⟩
  have HA := Lib.hid hat
  have HR := Lib.hid hr
  clear h hat hr
  have hmk := make_cap zs.length (by omega)
  have H0 : OwnsI (w.alloc (.cells (zeroCells zs.length) 3)) w.heap.size (.slice (some ⟨w.heap.size, 0, none⟩) 0 zs.length) (red (zs.take 0)) := made_owns w _ _ (Nat.le_refl _) (by omega)
  have HO := Lib.hid H0
  have HB := Lib.hid ((Below.refl w.heap.size w).alloc (Nat.le_refl _) (.cells (zeroCells zs.length) 3))
  clear H0
  go_enter Tryd.func15, Tryd.ntmps15
  go_wp2
  go_step3
  go_wp2
  go_step3
  go_wp2
  go_loopw [3, 12] (fun v i wr => ∃ k : Nat, i = .int .i64 k ∧ k ≤ zs.length ∧ OwnsI wr w.heap.size v (red (zs.take k)) ∧ Below w.heap.size w wr) (fun _ i _ => zs.length - (intOf i).toNat)
  case atStart => exact ⟨0, rfl, Nat.zero_le _, HO.out, HB.out⟩
  case round =>
    obtain ⟨k, rfl, hk, hO, hB⟩ := hrel
    have hBs := hB.size
    by_cases hlt : k < zs.length
    · obtain ⟨b, o, rfl, hbl, hc⟩ := HA.out k hlt
      have hcr : wr.cell? ⟨b, o + k, none⟩ = some (.int .i64 (zs.getD k 0)) := (hB.cell hbl).trans hc
      have hxr := HR.out.at hlt
      have hlen : (red (zs.take k)).length ≤ 1000000000 := by have := red_length (zs.take k); simp at this; omega
      have E := take_snoc hlt
      have HC := fun y hy W => Lib.hid (cancel_any y (zs.getD k 0) W hy hxr)
      have S0 := fun h => Lib.hid (red_snoc_nil (u := zs.take k) h (zs.getD k 0))
      have S1 := fun h hc => Lib.hid (red_snoc_cancel (u := zs.take k) h (x := zs.getD k 0) hc)
      have S2 := fun h hc => Lib.hid (red_snoc_keep (u := zs.take k) h (x := zs.getD k 0) hc)
      rw [← E] at S0 S1 S2
      clear E hxr hc
      have hyr : ∀ j, j < (red (zs.take k)).length → _ := fun j hj => (HR.out.take k).red.at hj
      have HY := Lib.hid hyr
      clear hyr
      generalize red (zs.take k) = s at hO hlen S0 S1 S2 HY
      generalize zs.getD k 0 = x at hcr HC S1 S2 S0
      obtain ⟨A', cp, rfl⟩ := hO.len
      by_cases h0 : s.length = 0
      · have HE := Lib.hid (S0 h0)
        have hnp : ¬ (0 : Int) < (s.length : Int) := by omega
        have HO2 := Lib.hid hO
        have HB2 := Lib.hid hB
        clear S0 S1 S2 hO hB HC h0 HY
        go_wp2_with (at_builtin; refine wpList_append_ints _ rfl (.tmp 33) (.tmp 35) 24 24 rfl w.heap.size 3 i0 Tryd.underlying24 Tryd.underlying24 hi hz0 hz1 hz2 _ _ s [x] _ rfl (HO2.out.alloc _) rfl (ints_one _ _) (by simp; omega) (by simp; omega) ?_; intro v1 w1 hown hgrow _; have HX := Lib.hid hown; have HB3 := Lib.hid (below_append HB2.out hBs HO2.out hgrow); clear hown hgrow)
        go_roundw
        case rel => exact ⟨k + 1, by go_num, by omega, by rw [HE.out.out]; exact HX.out, HB3.out⟩
        case measure => simp [intOf]; omega
      · have h0' : 0 < s.length := by omega
        have HY2 := HY.out (s.length - 1) (by omega)
        have hpos : (0 : Int) < (s.length : Int) := by omega
        obtain ⟨g, cp2, he, hg1, hg2, hcap, hcell⟩ := hO.form h0'
        injection he with e1 _ e3
        subst e1; subst e3
        have hct := hcell (s.length - 1) (by omega)
        have hin : ((s.length : Int) - 1) = ((s.length - 1 : Nat) : Int) := by omega
        have HC2 := fun W => HC (s.getD (s.length - 1) 0) HY2 W
        by_cases hcn : canc (s.getD (s.length - 1) 0) x = true
        · have HE := Lib.hid (S1 h0' hcn)
          rw [hcn] at HC2
          have HO2 := Lib.hid (hO.cut (m := s.length - 1) (by omega) h0')
          have HB2 := Lib.hid hB
          clear S0 S1 S2 hO hB HC h0 HY HY2 hcn
          generalize s.getD (s.length - 1) 0 = y at hct HC2
          go_wp2_with fail
          refine ((HC2 _).out).mono ?_
          rintro e w1 ⟨rfl, rfl⟩
          go_wp2_with fail
          go_roundw
          case rel => exact ⟨k + 1, by go_num, by omega, by rw [HE.out.out]; exact HO2.out, HB2.out⟩
          case measure => simp [intOf]; omega
        · have hcn' : canc (s.getD (s.length - 1) 0) x = false := by simpa using hcn
          have HE := Lib.hid (S2 h0' hcn')
          rw [hcn'] at HC2
          have HO2 := Lib.hid hO
          have HB2 := Lib.hid hB
          clear S0 S1 S2 hO hB HC h0 HY HY2 hcn hcn'
          generalize s.getD (s.length - 1) 0 = y at hct HC2
          go_wp2_with fail
          refine ((HC2 _).out).mono ?_
          rintro e w1 ⟨rfl, rfl⟩
          go_wp2_with (at_builtin; refine wpList_append_ints _ rfl (.tmp 33) (.tmp 35) 24 24 rfl w.heap.size 3 i0 Tryd.underlying24 Tryd.underlying24 hi hz0 hz1 hz2 _ _ s [x] _ rfl (HO2.out.alloc _) rfl (ints_one _ _) (by simp; omega) (by simp; omega) ?_; intro v1 w1 hown hgrow _; have HX := Lib.hid hown; have HB3 := Lib.hid (below_append HB2.out hBs HO2.out hgrow); clear hown hgrow)
          go_roundw
          case rel => exact ⟨k + 1, by go_num, by omega, by rw [HE.out.out]; exact HX.out, HB3.out⟩
          case measure => simp [intOf]; omega
    · have e : zs.take k = zs := List.take_of_length_le (by omega)
      rw [e] at hO
      have HO2 := Lib.hid hO
      have HB2 := Lib.hid hB
      clear hO hB
      go_wp2
      try rw [Exit.noGoto_ret]
      go_ret
      exact ⟨_, rfl, HO2.out, HB2.out⟩
end Go.Proofs.YtlpepholcehojaaDoor
