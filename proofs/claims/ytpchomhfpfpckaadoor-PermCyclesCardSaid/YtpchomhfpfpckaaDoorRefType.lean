/- The reference's Type. -/
import Derived.Test.YtpchomhfpfpckaaDoorTypeC
import Derived.Test.YtpchomhfpfpckaaDoorRefCyc
namespace Go.Proofs.YtpchomhfpfpckaaDoor
open Go Go.RowKit

/-- The members of a list from n down to 1. -/
def dsc (L : List Int) : Nat → List Int
  | 0 => []
  | n + 1 => L.filter (fun x => x == (n : Int) + 1) ++ dsc L n
theorem dsc_mem {L : List Int} : ∀ {n : Nat} {x : Int}, x ∈ dsc L n → 1 ≤ x ∧ x ≤ n := by
  intro n
  induction n with
  | zero => intro x h; cases h
  | succ n ih =>
    intro x h
    rcases List.mem_append.1 h with h | h
    · have := (List.mem_filter.1 h).2
      simp at this
      omega
    · have := ih h
      omega
theorem dsc_count (L : List Int) (a : Int) : ∀ n : Nat, List.count a (dsc L n) = if 1 ≤ a ∧ a ≤ n then List.count a L else 0 := by
  intro n
  induction n with
  | zero => rw [if_neg (by omega)]; rfl
  | succ n ih =>
    show List.count a (L.filter (fun x => x == (n : Int) + 1) ++ dsc L n) = _
    rw [List.count_append, ih]
    by_cases e : a = (n : Int) + 1
    · subst e
      rw [List.count_filter (by simp), if_neg (by omega), if_pos (by omega)]
      rfl
    · rw [List.count_eq_zero_of_not_mem (fun h => e (by simpa using (List.mem_filter.1 h).2)), Nat.zero_add]
      by_cases h : 1 ≤ a ∧ a ≤ n
      · rw [if_pos h, if_pos (by omega)]
      · rw [if_neg h, if_neg (by omega)]
theorem dsc_perm {L : List Int} {n : Nat} (h : ∀ x ∈ L, 1 ≤ x ∧ x ≤ n) : (dsc L n).Perm L := by
  rw [List.perm_iff_count]
  intro a
  rw [dsc_count]
  by_cases e : 1 ≤ a ∧ a ≤ n
  · rw [if_pos e]
  · rw [if_neg e]
    exact (List.count_eq_zero_of_not_mem (fun hm => e (h a hm))).symm
theorem dsc_sorted (L : List Int) : ∀ n : Nat, (dsc L n).Pairwise (fun a b => b ≤ a) := by
  intro n
  induction n with
  | zero => exact List.Pairwise.nil
  | succ n ih =>
    show (L.filter (fun x => x == (n : Int) + 1) ++ dsc L n).Pairwise _
    rw [List.pairwise_append]
    refine ⟨?_, ih, fun a ha b hb => ?_⟩
    · have hall : ∀ x ∈ L.filter (fun x => x == (n : Int) + 1), x = (n : Int) + 1 := fun x hx => by simpa using (List.mem_filter.1 hx).2
      exact List.pairwise_of_forall_mem_list (fun a ha b hb => by rw [hall a ha, hall b hb]; omega)
    · have h1 : a = (n : Int) + 1 := by simpa using (List.mem_filter.1 ha).2
      have h2 := dsc_mem hb
      omega
theorem type_eq {L : List Int} {n : Nat} (h : ∀ x ∈ L, 1 ≤ x ∧ x ≤ n) : (srt L).reverse = dsc L n := by
  have tr : ∀ a b c : Int, decide (a ≤ b) = true → decide (b ≤ c) = true → decide (a ≤ c) = true := fun a b c h1 h2 => by simp at *; omega
  have to : ∀ a b : Int, (decide (a ≤ b) || decide (b ≤ a)) = true := fun a b => by simp; omega
  have hs := List.pairwise_mergeSort tr to L
  have hp : (srt L).reverse.Perm (dsc L n) := ((List.reverse_perm _).trans (List.mergeSort_perm L _)).trans (dsc_perm h).symm
  refine List.Perm.eq_of_pairwise (le := fun a b => b ≤ a) (fun a b _ _ h1 h2 => by omega) ?_ (dsc_sorted L n) hp
  rw [List.pairwise_reverse]
  exact hs.imp (fun h => by simpa using h)

theorem nodup_len : ∀ (n : Nat) (c : List Int), c.Nodup → (∀ x ∈ c, 0 ≤ x ∧ x < (n : Int)) → c.length ≤ n := by
  intro n
  induction n with
  | zero =>
    intro c _ h
    cases c with
    | nil => simp
    | cons x t => have := h x (by simp); omega
  | succ n ih =>
    intro c hn h
    have h1 := ih (c.erase (n : Int)) (hn.erase _) (fun x hx => by
      have h2 := (List.Nodup.mem_erase_iff hn).1 hx
      have h3 := h x h2.2
      have h4 := h2.1
      omega)
    by_cases hm : (n : Int) ∈ c
    · rw [List.length_erase_of_mem hm] at h1
      omega
    · rw [List.erase_of_not_mem hm] at h1
      omega
theorem cyc_pos (zs : List Int) (hf : Fine zs) (h64 : zs.length ≤ 64) : ∀ c ∈ cycs zs, 1 ≤ c.length ∧ c.length ≤ zs.length := by
  obtain ⟨_, hU2, hU3, hU4⟩ := upOk hf h64 zs.length (Nat.le_refl _)
  have hnd : ∀ k, k ≤ zs.length → ∀ c ∈ (upTo zs k).2, c.Nodup ∧ InR zs.length c := by
    intro k
    induction k with
    | zero => intro _ c h; simp [upTo] at h
    | succ k ih =>
      intro hk c h
      rw [upTo] at h
      split at h
      · exact ih (by omega) c h
      · rcases List.mem_append.1 h with h | h
        · exact ih (by omega) c h
        · rw [List.mem_singleton] at h
          subst h
          have hfr := free_le zs.length (upTo zs k).1
          have := walk_ok hf 65 (upTo zs k).1 k (by omega) (by omega) (by omega)
          exact ⟨this.2.1, this.2.2.1⟩
  intro c hc
  have h1 := hnd zs.length (Nat.le_refl _) c hc
  have h2 := hU2 c hc
  exact ⟨h2.1, nodup_len zs.length c h1.1 h1.2⟩

set_option maxRecDepth 100000 in
set_option maxHeartbeats 1000000 in
theorem refType_any (v : Value) (zs : List Int) (w : World) (hl : zs.length ≤ 17592186044400) (hv : Ints w w.heap.size v zs) :
    Calls Tryd.prog 47 #[v] w (IntsErr (chk zs) (typeV zs) w) := by
  obtain ⟨i0, hi0, hz0, hz1, hz2⟩ := info_parts info3
  have HC := fun W h => Lib.hid (refCheck_any v zs W hl h)
  have HV := Lib.hid hv
  by_cases hz : chk zs = 0
  · obtain ⟨h1, h64, hf⟩ := chk_zero hz
    have HA := fun W h => Lib.hid (all_any v zs W hf h1 h64 h)
    have hT : typeV zs = dsc (lens (cycs zs)) zs.length := by
      unfold typeV
      rw [if_pos hz]
      refine type_eq (fun x hx => ?_)
      obtain ⟨c, hc, rfl⟩ := List.mem_map.1 hx
      have := cyc_pos zs hf h64 c hc
      omega
    have hTl : (dsc (lens (cycs zs)) zs.length).length ≤ 64 := by
      have := (dsc_perm (L := lens (cycs zs)) (n := zs.length) (fun x hx => by
        obtain ⟨c, hc, rfl⟩ := List.mem_map.1 hx
        have := cyc_pos zs hf h64 c hc
        omega)).length_eq
      rw [this]
      simp only [lens, List.length_map]
      exact cycs_count zs h64
    rw [hT]
    rw [hz] at HC ⊢
    have hcc := cycs_count zs h64
    unfold AllL at HA
    generalize cycs zs = cs at HA hcc hTl
    generalize hTT : dsc (lens cs) zs.length = T at hTl
    have HTT := Lib.hid hTT
    obtain ⟨A0, c0, rfl⟩ : ∃ A c, v = .slice A zs.length c := by obtain ⟨A, c, e, _⟩ := hv; exact ⟨A, c, e⟩
    clear hv hz hf hT hTT
    go_enter Tryd.func47, Tryd.ntmps47
    go_wp2_with fail
    refine ((HC _ HV.out).out).mono ?_
    rintro e w1 ⟨rfl, hb1⟩
    have HB := Lib.hid hb1
    have HV1 := Lib.hid ((HV.out.below hb1).more hb1.size)
    clear hb1
    go_wp2_with fail
    refine ((HA _ HV1.out).out).mono ?_
    rintro e w2 ⟨r, ps, rfl, hL, hP, hb2⟩
    obtain ⟨Ar, cr, rfl⟩ := hL.form
    have HB2 := Lib.hid (HB.out.trans (hb2.mono HB.out.size))
    have hs2 := HB2.out.size
    have HL := Lib.hid hL
    have hpl : ps.length = cs.length := by rw [← hP]; simp
    have hLS : (lens cs) = ps.map (fun p => (p.2.length : Int)) := by rw [← hP]; simp [lens]
    have HLS := Lib.hid hLS
    clear hL hP hb2 HA HC hLS
    go_wp2_with fail
    go_loopw [5, 7] (fun s i wr => ∃ (m : Nat) (acc : List Int), i = .int .i64 m ∧ m ≤ zs.length ∧ Hid (acc ++ dsc (lens cs) m = T) ∧ wr.ownsRow w2.heap.size 3 1 s acc.length (icells acc) ∧ Below w2.heap.size w2 wr) (fun _ i _ => (intOf i).toNat)
    case atStart => exact ⟨zs.length, [], rfl, Nat.le_refl _, HTT.out, World.ownsRow_nil _ _ _ _, Below.refl _ _⟩
    case round =>
      obtain ⟨m, acc, rfl, hm, HE, hO, hB⟩ := hrel
      have hBs := hB.size
      by_cases h0 : m = 0
      · subst h0
        have hE : acc = T := by have := HE; unfold Hid at this; simpa [dsc] using this
        subst hE
        have HX := Lib.hid (ints_of_own (zs := acc) hO rfl)
        have HBX := Lib.hid (HB2.out.trans (hB.mono hs2))
        obtain ⟨As, cs', rfl⟩ := slice_of_own hO
        clear hO hB HE
        go_wp2_with fail
        go_ret2
        exact ⟨_, rfl, HBX.out, HX.out⟩
      · obtain ⟨n, rfl⟩ : ∃ n, m = n + 1 := ⟨m - 1, by omega⟩
        have hal : acc.length ≤ 64 := by
          have : (acc ++ dsc (lens cs) (n + 1)).length = T.length := by rw [show acc ++ dsc (lens cs) (n + 1) = T from HE]
          rw [List.length_append] at this
          omega
        have hnp : (0 : Int) < ((n + 1 : Nat) : Int) := by omega
        have HO0 := Lib.hid hO
        have HBw := Lib.hid hB
        clear hO hB
        rename World => W0
        go_wp2_with fail
        go_loopw [5, 8] (fun s i wr => ∃ k : Nat, i = .int .i64 k ∧ k ≤ ps.length ∧ wr.ownsRow w2.heap.size 3 1 s (acc ++ ((lens cs).take k).filter (fun x => x == (n : Int) + 1)).length (icells (acc ++ ((lens cs).take k).filter (fun x => x == (n : Int) + 1))) ∧ Below w2.heap.size w2 wr) (fun _ i _ => ps.length - (intOf i).toNat)
        case atStart => exact ⟨0, rfl, Nat.zero_le _, by simpa using HO0.out, HBw.out⟩
        case round =>
          obtain ⟨k, rfl, hk, hO, hB⟩ := hrel
          have hBs2 := hB.size
          by_cases hlt : k < ps.length
          · obtain ⟨b, o, c, A, c', p, e, hb, hpk, hp1, hcell0, _⟩ := HL.out.at hlt
            injection e with e1 _ e3
            subst e1; subst e3
            have hcell : wr.cell? ⟨b, o + k, none⟩ = some (.slice A p.2.length c') := (hB.cell (p := ⟨b, o + k, none⟩) hb).trans hcell0
            have hTk : (lens cs).take (k + 1) = (lens cs).take k ++ [(p.2.length : Int)] := by
              rw [List.take_add_one]
              congr 1
              rw [HLS.out, List.getElem?_map, hpk]
              rfl
            have hfl : (acc ++ ((lens cs).take k).filter (fun x => x == (n : Int) + 1)).length ≤ 200 := by
              have h1 := List.length_filter_le (fun x => x == (n : Int) + 1) ((lens cs).take k)
              have h2 : ((lens cs).take k).length ≤ k := by simp; omega
              rw [List.length_append]
              omega
            clear hcell0 hpk hp1
            by_cases h1c : p.2.length = n + 1
            · have h2 : ((p.2.length : Int) == ((n + 1 : Nat) : Int)) = true := by simp; omega
              have HE2 := Lib.hid (show acc ++ ((lens cs).take (k + 1)).filter (fun x => x == (n : Int) + 1) = (acc ++ ((lens cs).take k).filter (fun x => x == (n : Int) + 1)) ++ [((n + 1 : Nat) : Int)] by
                rw [hTk, List.filter_append, List.append_assoc]
                congr 2
                simp [h1c])
              have HO2 := Lib.hid (World.ownsRow.alloc hO (.cells #[.int .i64 ((n + 1 : Nat) : Int)] 3))
              have HB3 := Lib.hid hB
              have HOl := Lib.hid (fun q hq => (hO.lt q hq).1)
              obtain ⟨As, cs', rfl⟩ := slice_of_own hO
              clear hO hB h1c hTk
              generalize acc ++ ((lens cs).take k).filter (fun x => x == (n : Int) + 1) = s at HO2 HE2 hfl HOl
              generalize p.2.length = q at hcell h2
              go_wp2_with (at_builtin; refine wpList_append_own _ rfl (.tmp 35) (.tmp 37) 23 rfl w2.heap.size 3 i0 (.int .i64 0) 1 8 Tryd.underlying23 hi0 hz0 hz1 hz2 rfl (by decide) _ _ _ rfl HO2.out ⟨wr.heap.size, 0, none⟩ 1 1 [.int .i64 ((n + 1 : Nat) : Int)] rfl rfl (cell_at_ _ _ _ rfl) (by simp [Value.oneCell']) (by unfold maxLen; omega) (by omega) (by simp; omega) ?_; intro v1 w4 hown' hgrow _; have HX := Lib.hid hown'; have HBX := Lib.hid ((HB3.out.alloc hBs2 _).grown hgrow (by simp; omega) HOl.out); clear hown' hgrow)
              go_roundw
              case rel =>
                refine ⟨k + 1, by go_num, by omega, ?_, HBX.out⟩
                have h3 : (acc ++ ((lens cs).take (k + 1)).filter (fun x => x == (n : Int) + 1)).length = s.length + 1 := by rw [HE2.out]; simp
                have h4 := HX.out
                have h5 : icells s ++ [Value.int .i64 ((n + 1 : Nat) : Int)] = icells (acc ++ ((lens cs).take (k + 1)).filter (fun x => x == (n : Int) + 1)) := by rw [HE2.out, icells_append]; rfl
                rw [← h3, h5] at h4
                simpa using h4
              case measure => simp [intOf]; omega
            · have h2 : ((p.2.length : Int) == ((n + 1 : Nat) : Int)) = false := by simp; omega
              have HE2 := Lib.hid (show acc ++ ((lens cs).take (k + 1)).filter (fun x => x == (n : Int) + 1) = acc ++ ((lens cs).take k).filter (fun x => x == (n : Int) + 1) by
                rw [hTk, List.filter_append]
                have : [(p.2.length : Int)].filter (fun x => x == (n : Int) + 1) = [] := by
                  rw [List.filter_cons_of_neg (by simp; omega)]
                  rfl
                rw [this, List.append_nil])
              have HO2 := Lib.hid hO
              have HB3 := Lib.hid hB
              obtain ⟨As, cs', rfl⟩ := slice_of_own hO
              clear hO hB h1c hTk
              generalize acc ++ ((lens cs).take k).filter (fun x => x == (n : Int) + 1) = s at HO2 HE2 hfl
              generalize p.2.length = q at hcell h2
              go_wp2_with fail
              go_roundw
              case rel => exact ⟨k + 1, by go_num, by omega, by rw [HE2.out]; exact HO2.out, HB3.out⟩
              case measure => simp [intOf]; omega
          · have e : (lens cs).take k = lens cs := List.take_of_length_le (by rw [HLS.out, List.length_map]; omega)
            rw [e] at hO
            have HX := Lib.hid hO
            have HBX := Lib.hid hB
            have HE3 : Hid ((acc ++ (lens cs).filter (fun x => x == (n : Int) + 1)) ++ dsc (lens cs) n = T) := by
              have : acc ++ dsc (lens cs) (n + 1) = T := HE
              show _ = _
              rw [← this, List.append_assoc]
              rfl
            obtain ⟨As, cs', rfl⟩ := slice_of_own hO
            clear hO hB e HE
            generalize acc ++ (lens cs).filter (fun x => x == (n : Int) + 1) = s at HX HE3
            go_wp2_with fail
            go_roundw
            case rel => exact ⟨n, s, by go_num, by omega, HE3, HX.out, HBX.out⟩
            case measure => simp [intOf]
  · rw [show typeV zs = [] by unfold typeV; rw [if_neg hz]]
    obtain ⟨A0, c0, rfl⟩ : ∃ A c, v = .slice A zs.length c := by obtain ⟨A, c, e, _⟩ := hv; exact ⟨A, c, e⟩
    generalize chk zs = x at HC hz
    have hx : (x != 0) = true := by simpa using hz
    clear hz hv
    go_enter Tryd.func47, Tryd.ntmps47
    go_wp2_with fail
    refine ((HC _ HV.out).out).mono ?_
    rintro e w1 ⟨rfl, hb1⟩
    have HB := Lib.hid hb1
    clear hb1
    go_wp2_with fail
    go_ret2
    exact ⟨.slice none 0 0, rfl, HB.out, ⟨none, 0, rfl, fun h => absurd h (by simp)⟩⟩
end Go.Proofs.YtpchomhfpfpckaaDoor
