/- slices.Repeat. -/
import Derived.Test.YtlpepholcehojaaDoorWTab
import Derived.Test.YtlpepholcehojaaDoorWPowMath
import Derived.Test.YtlpepholcehojaaDoorWShelf
import Derived.Laws.CopyRow
import Derived.Lib.SlBuf
import Derived.StillTailTactics
namespace Go.Proofs.YtlpepholcehojaaDoor
open Go Go.RowKit

theorem getD_cases {a b : List Int} (i : Nat) : (a ++ b).getD i 0 = if i < a.length then a.getD i 0 else b.getD (i - a.length) 0 := by
  simp only [List.getD_eq_getElem?_getD, List.getElem?_append]
  split <;> rfl
theorem rep_getD (zs : List Int) (c : Nat) : ∀ i, i < c * zs.length → (rep zs c).getD i 0 = zs.getD (i % zs.length) 0 := by
  induction c with
  | zero => intro i h; omega
  | succ c ih =>
    intro i h
    rw [show rep zs (c + 1) = zs ++ rep zs c from rfl, getD_cases]
    rw [Nat.add_mul] at h
    split
    · rename_i hlt
      rw [Nat.mod_eq_of_lt hlt]
    · rename_i hge
      rw [ih _ (by omega), ← Nat.mod_eq_sub_mod (by omega)]

/-- The row when n elements lie there. -/
def repF (r : List Int) (n i : Nat) : Int := if i < n then r.getD i 0 else 0
theorem tab_q (n : Nat) (f : Nat → Int) (i : Nat) : (Tab n f).toList[i]? = if i < n then some (.int .i64 (f i)) else none := by
  rw [Array.getElem?_toList]
  split
  · rename_i h; exact Tab_get n f i h
  · rename_i h; simp [Tab]; omega
theorem icells_q (l : List Int) (i : Nat) : (icells l)[i]? = if i < l.length then some (.int .i64 (l.getD i 0)) else none := by
  split
  · rename_i h; exact icells_get h
  · rename_i h; simp [icells]; omega
theorem take_getD (l : List Int) (m i : Nat) (h : i < m) : (l.take m).getD i 0 = l.getD i 0 := by
  simp [List.getD_eq_getElem?_getD, h]
theorem repF_copy {zs : List Int} {c n m : Nat} (hp : zs.length ∣ n) (hm : n + m ≤ c * zs.length) :
    ((Tab (c * zs.length) (repF (rep zs c) n)).toList.take n ++ icells ((rep zs c).take m) ++ (Tab (c * zs.length) (repF (rep zs c) n)).toList.drop (n + (icells ((rep zs c).take m)).length)).toArray = Tab (c * zs.length) (repF (rep zs c) (n + m)) := by
  have hl : (rep zs c).length = c * zs.length := rep_len zs c
  have hcl : (icells ((rep zs c).take m)).length = m := by simp [icells]; omega
  have htl : ((rep zs c).take m).length = m := by simp; omega
  have hts : ((Tab (c * zs.length) (repF (rep zs c) n)).toList.take n).length = n := by simp [Tab]; omega
  rw [hcl]
  apply Array.ext'
  apply List.ext_getElem?
  intro i
  rw [tab_q]
  show (((Tab (c * zs.length) (repF (rep zs c) n)).toList.take n ++ icells ((rep zs c).take m)) ++ (Tab (c * zs.length) (repF (rep zs c) n)).toList.drop (n + m))[i]? = _
  rw [List.getElem?_append, List.getElem?_append, List.length_append, hts, hcl, List.getElem?_take, List.getElem?_drop, tab_q, icells_q, htl, tab_q]
  by_cases h3 : i < n
  · rw [if_pos (by omega), if_pos h3, if_pos h3, if_pos (by omega), if_pos (by omega)]
    unfold repF
    rw [if_pos h3, if_pos (by omega)]
  · by_cases h4 : i < n + m
    · rw [if_pos h4, if_neg h3, if_pos (by omega), if_pos (by omega), take_getD _ _ _ (by omega)]
      have e1 : (rep zs c).getD i 0 = (rep zs c).getD (i - n) 0 := by
        rw [rep_getD zs c i (by omega), rep_getD zs c (i - n) (by omega)]
        obtain ⟨q, rfl⟩ := hp
        congr 1
        have e : i = zs.length * q + (i - zs.length * q) := by omega
        have h5 := Nat.mul_add_mod zs.length q (i - zs.length * q)
        rw [← e] at h5
        exact h5
      unfold repF
      rw [if_pos h4, e1]
    · rw [if_neg h4]
      by_cases h5 : i < c * zs.length
      · rw [if_pos (by omega), if_pos h5]
        unfold repF
        rw [if_neg (by omega), if_neg h4]
      · rw [if_neg (by omega), if_neg h5]

theorem bitsMul_any (x y T : Nat) (hT : x * y = T) (hs : T ≤ 1000000) (hx : x ≤ 1000000) (hy : y ≤ 1000000) (w : World) :
    Calls Tryd.prog 40 #[.int .u64 x, .int .u64 y] w fun e w' => e = .returned (.tuple #[.int .u64 0, .int .u64 T]) ∧ w = w' := by
  have h := Any.bits_Mul Tryd.laysMul x y (by omega) (by omega) w
  have e1 : x * y / 18446744073709551616 = 0 := by omega
  have e2 : x * y % 18446744073709551616 = T := by omega
  rw [e1, e2] at h
  exact h.mono fun e w' ⟨h1, h2⟩ => ⟨h1, h2.symm⟩

/-- What is known when n elements lie in the new row. -/
structure RepAt (w : World) (G : Nat) (zs : List Int) (c n : Nat) (wr : World) : Prop where
  row : Row wr G 3 (Tab (c * zs.length) (repF (rep zs c) n))
  below : Below w.heap.size w wr
  le : n ≤ c * zs.length
  dvd : n < c * zs.length → zs.length ∣ n ∧ 0 < n
theorem RepAt.copied {w wr : World} {G : Nat} {zs : List Int} {c n m : Nat} (h : RepAt w G zs c n wr) (hG : w.heap.size ≤ G) (hn : n < c * zs.length) (hm : m = min n (c * zs.length - n)) :
    RepAt w G zs c (n + m) (wr.setRow G ((Tab (c * zs.length) (repF (rep zs c) n)).toList.take n ++ icells ((rep zs c).take m) ++ (Tab (c * zs.length) (repF (rep zs c) n)).toList.drop (n + (icells ((rep zs c).take m)).length)).toArray) := by
  obtain ⟨h1, h2⟩ := h.dvd hn
  rw [repF_copy h1 (by omega)]
  refine ⟨setRow_heap wr G _ _ _ _ h.row, ?_, by omega, fun hlt => ?_⟩
  · refine h.below.grown (row := some G) ⟨rfl, rfl, rfl, by simp, fun k _ hk => setRow_other wr G k _ (fun e => hk (by rw [e]))⟩ h.below.size (fun q e => by cases e; exact hG)
  · have : m = n := by omega
    subst this
    obtain ⟨q, hq⟩ := h1
    exact ⟨⟨q + q, by rw [Nat.mul_add]; omega⟩, by omega⟩
theorem RepAt.done {w wr : World} {G : Nat} {zs : List Int} {c n : Nat} (h : RepAt w G zs c n wr) (hG : w.heap.size ≤ G) (hn : n = c * zs.length) (hs : c * zs.length ≤ 1000000) : OwnsI wr w.heap.size (.slice (some ⟨G, 0, none⟩) (c * zs.length) (c * zs.length)) (rep zs c) := by
  have hl := rep_len zs c
  unfold OwnsI
  rw [hl]
  refine ⟨by simp [icells, hl], .inr ⟨G, _, _, rfl, hG, h.row, Nat.le_refl _, by unfold maxLen; omega, by simp [Tab], ?_⟩⟩
  apply List.ext_getElem?
  intro i
  rw [List.getElem?_take, tab_q, icells_q, hl, Nat.mul_one]
  by_cases hi : i < c * zs.length
  · rw [if_pos hi, if_pos hi, if_pos hi]
    unfold repF
    rw [if_pos (by omega)]
  · rw [if_neg hi, if_neg hi]

theorem rep_take {zs : List Int} {c : Nat} (hc : 1 ≤ c) : (rep zs c).take zs.length = zs := by
  obtain ⟨k, rfl⟩ : ∃ k, c = k + 1 := ⟨c - 1, by omega⟩
  simp [rep]
theorem RepAt.start {w : World} {zs : List Int} {c : Nat} (hc : 1 ≤ c) (hp : 0 < zs.length) :
    RepAt w w.heap.size zs c zs.length ((w.alloc (.cells (Tab (c * zs.length) fun _ => 0) 3)).setRow w.heap.size ((Tab (c * zs.length) fun _ => 0).toList.take 0 ++ icells zs ++ (Tab (c * zs.length) fun _ => 0).toList.drop (0 + (icells zs).length)).toArray) := by
  have hle : zs.length ≤ c * zs.length := Nat.le_mul_of_pos_left _ hc
  have e0 : Tab (c * zs.length) (fun _ => 0) = Tab (c * zs.length) (repF (rep zs c) 0) := Tab_congr _ _ _ (fun i _ => by unfold repF; rw [if_neg (by omega)])
  have e1 := repF_copy (zs := zs) (c := c) (n := 0) (m := zs.length) ⟨0, by simp⟩ (by omega)
  rw [rep_take hc, ← e0] at e1
  rw [e1, Nat.zero_add]
  refine ⟨setRow_heap _ w.heap.size _ _ _ _ (World.alloc_heap_new w _), ?_, hle, fun _ => ⟨⟨1, by omega⟩, hp⟩⟩
  refine Below.grown (((Below.refl _ w).alloc (Nat.le_refl _) (.cells (Tab (c * zs.length) fun _ => 0) 3))) (row := some w.heap.size) ⟨rfl, rfl, rfl, by simp, fun k _ hk => setRow_other _ _ k _ (fun e => hk (by rw [e]))⟩ (by simp) (fun q e => by cases e; exact Nat.le_refl _)

set_option maxRecDepth 100000 in
set_option maxHeartbeats 2000000 in
theorem repeat_any (v : Value) (zs : List Int) (c : Nat) (w : World) (hl : zs.length ≤ 1000000) (hc : c ≤ 1000000) (ht : c * zs.length ≤ 1000000) (hv : Ints w w.heap.size v zs) :
    Calls Tryd.prog 28 #[v, .int .i64 c] w fun e w' => ∃ r, e = .returned r ∧ OwnsI w' w.heap.size r (rep zs c) ∧ Below w.heap.size w w' := by
  obtain ⟨A, cp, rfl, h⟩ := hv
  obtain ⟨i0, hi, hz0, hz1, hz2⟩ := info_parts info3'
  have hs1 : (Tryd.prog.info? 3).map (·.size) = some 1 := by rw [hi]; simp [hz1]
  obtain ⟨T, hT⟩ : ∃ T, c * zs.length = T := ⟨_, rfl⟩
  have hTs : T ≤ 1000000 := by omega
  have HM := fun W => Lib.hid (bitsMul_any zs.length c T (by rw [← hT, Nat.mul_comm]) hTs hl hc W)
  have hmk := make_ints T (by omega)
  have hw1 : IntKind.u64.wrap (zs.length : Int) = zs.length := by rw [IntKind.wrap_u64]; omega
  have hw2 : IntKind.u64.wrap (c : Int) = c := by rw [IntKind.wrap_u64]; omega
  have hw3 : IntKind.i64.wrap (T : Int) = T := by rw [IntKind.wrap_i64]; omega
  have HT := Lib.hid hT
  by_cases h0 : T = 0
  · have hz : (rep zs c) = [] := List.length_eq_zero_iff.1 (by rw [rep_len]; omega)
    have HR := Lib.hid (show OwnsI (w.alloc (.cells (Tab T fun _ => 0) 3)) w.heap.size (.slice (some ⟨w.heap.size, 0, none⟩) T T) (rep zs c) by
      rw [hz, h0]; exact World.ownsRow_made w _ 0 (Nat.le_refl _) (by unfold maxLen; omega) (by simp [Tab]))
    have HB := Lib.hid ((Below.refl w.heap.size w).alloc (Nat.le_refl _) (.cells (Tab T fun _ => 0) 3))
    have hcp := run_copy_none (P := Tryd.prog) (w.alloc (.cells (Tab T fun _ => 0) 3)) 24 24 3 3 (some ⟨w.heap.size, 0, none⟩) A T T zs.length cp Tryd.underlying24 hs1 (by rw [h0]; exact Nat.min_zero _)
    have hge : ¬ (0 : Int) < (T : Int) := by omega
    clear hT h hz HT h0
    go_enter Tryd.func28, Tryd.ntmps28
    go_wp2_with fail
    refine ((HM _).out).mono ?_
    rintro e w1 ⟨rfl, rfl⟩
    go_wp2_with fail
    go_loopw [8] (fun i wr => i = .int .i64 0 ∧ w.alloc (.cells (Tab T fun _ => 0) 3) = wr) (fun _ _ => 0)
    case atStart => exact ⟨rfl, rfl⟩
    case round =>
      obtain ⟨rfl, rfl⟩ := hrel
      go_wp2_with fail
      go_ret
      exact ⟨_, rfl, HR.out, HB.out⟩
  · have hp : 0 < zs.length := by
      rcases Nat.eq_zero_or_pos zs.length with e | e
      · rw [e, Nat.mul_zero] at hT; omega
      · exact e
    have hc0 : 1 ≤ c := by
      rcases Nat.eq_zero_or_pos c with e | e
      · rw [e, Nat.zero_mul] at hT; omega
      · exact e
    have hpT : zs.length ≤ T := by rw [← hT]; exact Nat.le_mul_of_pos_left _ hc0
    obtain ⟨b, o, rfl, hb, hcell⟩ := h hp
    have hlen : (icells zs).length = zs.length := by simp [icells]
    have hcp := run_copy_row (P := Tryd.prog) (w.alloc (.cells (Tab T fun _ => 0) 3)) 24 24 3 3 w.heap.size 0 T T ⟨b, o, none⟩ zs.length cp (Tab T fun _ => 0) 3 (icells zs) Tryd.underlying24 hs1
      (World.alloc_heap_new w _) (by rw [hlen]; exact (Nat.min_eq_left hpT).symm) (fun j u hj => by
        have hj' : j < zs.length := by have := (List.getElem?_eq_some_iff.1 hj).1; simpa [icells] using this
        rw [icells_get hj'] at hj
        injection hj with hj
        subst hj
        rw [Addr.add_lit, World.cell?_alloc_lt _ _ _ hb]
        exact hcell j hj') (by simp [icells, Tab]; omega) (by simp [icells, Value.oneCell'])
    have hst := RepAt.start (w := w) hc0 hp
    rw [hT] at hst
    generalize ((w.alloc (.cells (Tab T fun _ => 0) 3)).setRow w.heap.size ((Tab T fun _ => 0).toList.take 0 ++ icells zs ++ (Tab T fun _ => 0).toList.drop (0 + (icells zs).length)).toArray) = W1 at hcp hst
    rw [hlen] at hcp
    have HS := Lib.hid hst
    clear hlen h hcell hst hT h0
    go_enter Tryd.func28, Tryd.ntmps28
    go_wp2_with fail
    refine ((HM _).out).mono ?_
    rintro e w1 ⟨rfl, rfl⟩
    go_wp2_with fail
    go_loopw [8] (fun i wr => ∃ n : Nat, i = .int .i64 n ∧ RepAt w w.heap.size zs c n wr) (fun i _ => T - (intOf i).toNat)
    case atStart => exact ⟨zs.length, rfl, HS.out⟩
    case round =>
      obtain ⟨n, rfl, hR⟩ := hrel
      have hTT := HT.out
      have hn := hR.le
      by_cases hlt : n < T
      · obtain ⟨m, hm⟩ : ∃ m, m = min n (T - n) := ⟨_, rfl⟩
        have hlr := rep_len zs c
        have hcl : (icells ((rep zs c).take m)).length = m := by simp [icells]; omega
        have hcq := run_copy_row (P := Tryd.prog) wr.drew 24 24 3 3 w.heap.size n (T - n) (T - n) ⟨w.heap.size, 0, none⟩ n T (Tab (c * zs.length) (repF (rep zs c) n)) 3 (icells ((rep zs c).take m)) Tryd.underlying24 hs1
          hR.row (hcl.trans hm) (fun j u hj => by
            rw [icells_q] at hj
            have htl : ((rep zs c).take m).length = m := by simp; omega
            rw [htl] at hj
            split at hj
            · rename_i hjm
              injection hj with hj
              subst hj
              rw [Addr.add_lit, Nat.zero_add, take_getD _ _ _ hjm]
              have := hR.row.cell (Tab_get (c * zs.length) (repF (rep zs c) n) j (by omega))
              unfold repF at this
              rw [if_pos (by omega)] at this
              exact this
            · cases hj) (by rw [hcl]; simp [Tab]; omega) (fun u hu => by
              obtain ⟨_, _, rfl⟩ := List.mem_map.1 hu
              rfl)
        have hcd := (show RepAt w w.heap.size zs c n wr.drew from ⟨hR.row, ⟨hR.below.os, hR.below.tape, hR.below.output, hR.below.size, hR.below.block⟩, hR.le, hR.dvd⟩).copied (m := m) (Nat.le_refl _) (by omega) (by rw [hTT]; exact hm)
        generalize wr.drew.setRow w.heap.size ((Tab (c * zs.length) (repF (rep zs c) n)).toList.take n ++ icells ((rep zs c).take m) ++ (Tab (c * zs.length) (repF (rep zs c) n)).toList.drop (n + (icells ((rep zs c).take m)).length)).toArray = W2 at hcq hcd
        rw [hcl] at hcq
        have HD := Lib.hid hcd
        have hmp : 0 < m := by have := (hR.dvd (by omega)).2; omega
        have hmT : n + m ≤ T := by omega
        clear hcd hcl hlr hR hTT hm hn
        have hmix : Tryd.prog.follows .mixedOrders = true := by kernel_rfl
        have hle : n ≤ T := by omega
        have hne : ¬ T = n := by omega
        have hw4 : IntKind.i64.wrap ((n : Int) + (m : Int)) = (n : Int) + (m : Int) := IntWalk.i64_in _ ⟨by omega, by omega⟩
        go_wp2_with fail
        refine wp_region_any hmix ?_
        refine wpAny_take (i := 0) (v := .int .i64 n) rfl (by kernel_rfl) (by kernel_rfl) (by kernel_rfl) (fun _ _ _ h => h) (Or.inl ⟨by rfl, fun w => by go_simp⟩) ?_
        go_simp
        refine wpAny_take (i := 1) (v := .slice (some ⟨w.heap.size, 0, none⟩) T T) rfl (by kernel_rfl) (by kernel_rfl) (by kernel_rfl) (fun _ _ _ h => h) (Or.inl ⟨by rfl, fun w => by go_simp⟩) ?_
        go_simp
        refine wpAny_take (i := 2) (v := .int .i64 n) rfl (by kernel_rfl) (by kernel_rfl) (by kernel_rfl) (fun _ _ _ h => h) (Or.inl ⟨by rfl, fun w => by go_simp⟩) ?_
        go_simp
        refine wpAny_take (i := 4) (v := .slice (some ⟨w.heap.size, 0, none⟩) T T) rfl (by kernel_rfl) (by kernel_rfl) (by kernel_rfl) (fun _ _ _ h => h) (Or.inl ⟨by rfl, fun w => by go_simp⟩) ?_
        go_simp
        refine wpAny_take (i := 5) (v := .int .i64 n) rfl (by kernel_rfl) (by kernel_rfl) (by kernel_rfl) (fun _ _ _ h => h) (Or.inl ⟨by rfl, fun w => by go_simp⟩) ?_
        go_simp
        refine wpAny_ready (rs := [3, 6]) (by kernel_rfl) (by simp) ?_
        refine AllReady.cons rfl (fun K hK => ?_) (AllReady.cons rfl (fun K hK => ?_) AllReady.nil)
        · go_simp
          refine hK _ _ ?_
          clear hK K
          refine wpAny_ready (rs := [6]) (by kernel_rfl) (by simp) ?_
          refine AllReady.cons rfl (fun K hK => ?_) AllReady.nil
          go_simp
          refine hK _ _ ?_
          clear hK K
          refine wpAny_ready (rs := [7]) (by kernel_rfl) (by simp) ?_
          refine AllReady.cons rfl (fun K hK => ?_) AllReady.nil
          go_simp
          refine hK _ _ ?_
          clear hK K
          refine wpAny_ready (rs := [8]) (by kernel_rfl) (by simp) ?_
          refine AllReady.cons rfl (fun K hK => ?_) AllReady.nil
          go_simp
          refine hK _ _ ?_
          clear hK K
          refine wpAny_ready (rs := [9]) (by kernel_rfl) (by simp) ?_
          refine AllReady.cons rfl (fun K hK => ?_) AllReady.nil
          go_simp
          refine hK _ _ ?_
          clear hK K
          refine wpAny_done (by kernel_rfl) ?_ _
          go_wp2_with fail
          go_roundw
          case rel => exact ⟨n + m, by go_num, HD.out⟩
          case measure => simp [intOf]; omega
        · go_simp
          refine hK _ _ ?_
          clear hK K
          refine wpAny_ready (rs := [3]) (by kernel_rfl) (by simp) ?_
          refine AllReady.cons rfl (fun K hK => ?_) AllReady.nil
          go_simp
          refine hK _ _ ?_
          clear hK K
          refine wpAny_ready (rs := [7]) (by kernel_rfl) (by simp) ?_
          refine AllReady.cons rfl (fun K hK => ?_) AllReady.nil
          go_simp
          refine hK _ _ ?_
          clear hK K
          refine wpAny_ready (rs := [8]) (by kernel_rfl) (by simp) ?_
          refine AllReady.cons rfl (fun K hK => ?_) AllReady.nil
          go_simp
          refine hK _ _ ?_
          clear hK K
          refine wpAny_ready (rs := [9]) (by kernel_rfl) (by simp) ?_
          refine AllReady.cons rfl (fun K hK => ?_) AllReady.nil
          go_simp
          refine hK _ _ ?_
          clear hK K
          refine wpAny_done (by kernel_rfl) ?_ _
          go_wp2_with fail
          go_roundw
          case rel => exact ⟨n + m, by go_num, HD.out⟩
          case measure => simp [intOf]; omega
      · have e : n = T := by omega
        have HX := Lib.hid (hR.done (Nat.le_refl _) (by omega) (by omega))
        have HB := Lib.hid hR.below
        clear hR hTT
        rw [e]
        go_wp2_with fail
        go_ret
        exact ⟨_, rfl, by have := HX.out; rw [HT.out] at this; exact this, HB.out⟩
end Go.Proofs.YtlpepholcehojaaDoor
