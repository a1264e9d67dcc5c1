/- perm.Ratio. -/
import Derived.Test.YtpchomhfpfpckaaDoorTimes
import Derived.Test.YtpchomhfpfpckaaDoorCycle
namespace Go.Proofs.YtpchomhfpfpckaaDoor
open Go Go.RowKit

/-- The loop of Ratio: k digits are divided. -/
def RatAt (w : World) (l : List UInt8) (N k : Nat) (v : Value) (q : Nat) (wr : World) : Prop :=
  q = (rat (l.take k) N).2 ∧ Owns wr w.heap.size v (rat (l.take k) N).1 ∧ Below w.heap.size w wr
theorem rat_take {l : List UInt8} {N k : Nat} {b : UInt8} (hk : l[k]? = some b) : rat (l.take (k + 1)) N = ratStep N (rat (l.take k) N) b := by
  have hlt := (List.getElem?_eq_some_iff.1 hk).1
  rw [List.take_succ_eq_append_getElem hlt, rat_snoc]
  congr 1
  exact (List.getElem?_eq_some_iff.1 hk).2
theorem rat_len (l : List UInt8) (N k : Nat) : (rat (l.take k) N).1.length ≤ k := by
  have h : ∀ (m : List UInt8) (s : List UInt8 × Nat), (m.foldl (ratStep N) s).1.length ≤ s.1.length + m.length := by
    intro m
    induction m with
    | nil => intro s; simp
    | cons b m ih =>
      intro s
      have := ih (ratStep N s b)
      have h2 : (ratStep N s b).1.length ≤ s.1.length + 1 := by
        unfold ratStep
        by_cases h : s.1 ≠ [] ∨ N ≤ 10 * s.2 + dv b
        · rw [if_pos h]; simp
        · rw [if_neg h]; simp
      simp only [List.foldl_cons, List.length_cons]
      omega
  have := h (l.take k) ([], 0)
  have h3 : (l.take k).length ≤ k := List.length_take_le _ _
  simp at this
  unfold rat
  omega

theorem RatAt.app {w wr w1 : World} {l out : List UInt8} {N k r Q : Nat} {v v1 : Value} (hOw : Owns wr w.heap.size v out) (hB : Below w.heap.size w wr) (hstep : rat (l.take (k + 1)) N = (out ++ [UInt8.ofNat (48 + Q)], r)) (hQ : Q ≤ 9) {x : Int} (hx : x = ((48 + Q : Nat) : Int))
    {tmp : Obj} (hown' : w1.ownsRow w.heap.size 5 1 v1 (out.length + 1) (bcells out ++ [.int .u8 x])) (hgrow : (wr.alloc tmp).grownBy w1 v.ownBlock) (hat : v1.ownBlock = v.ownBlock ∨ v1.ownBlock = some (wr.alloc tmp).heap.size) :
    RatAt w l N (k + 1) v1 r w1 := by
  have hn : (UInt8.ofNat (48 + Q)).toNat = 48 + Q := by rw [UInt8.toNat_ofNat']; omega
  rw [hx, ← hn] at hown'
  obtain ⟨h1, h2, _⟩ := Owns.byte _ hown' hgrow hat
  refine ⟨by rw [hstep], by rw [hstep]; exact h1, hB.grown h2.1 hB.size (fun g e => (hOw.lt g e).1)⟩

set_option maxRecDepth 100000 in
set_option maxHeartbeats 1000000 in
theorem ratio_ok (s : ByteArray) (N : Nat) (hs : s.size ≤ 300) (w : World) (he : numE s.data.toList N = 0) (ho : OrdOk s.data.toList) (hN1 : 1 ≤ N) (hN : N ≤ 1000000000) :
    Calls Tryd.prog 34 #[.string s, .int .i64 N] w (NumErr (ratioV s.data.toList N) w) := by
  obtain ⟨i0, hi5, hz0, hz1, hz2⟩ := info_parts info5
  have HC := fun W => Lib.hid (checkNum_any s N hs W)
  rw [he] at HC
  have hl := len_bytes s
  have h200 := ho.2.1
  rw [hl] at h200
  have hst : RatAt w s.data.toList N 0 (.slice none 0 0) 0 w := ⟨by simp [rat], World.ownsRow_nil w _ 5 1, Below.refl _ _⟩
  have HST := Lib.hid hst
  have HO := Lib.hid ho
  have HL := Lib.hid hl
  clear hst ho hl he
  have hw64 : IntKind.u64.wrap (N : Int) = N := by rw [IntKind.wrap_u64]; omega
  have hN0 : ¬ N = 0 := by omega
  go_enter Tryd.func34, Tryd.ntmps34
  go_wp2_with fail
  refine ((HC _).out).mono ?_
  rintro e w1 ⟨rfl, rfl⟩
  go_wp2_with fail
  go_loopw [7, 8, 9] (fun v q i wr => ∃ k r : Nat, q = .int .u64 r ∧ i = .int .i64 k ∧ k ≤ s.size ∧ RatAt w s.data.toList N k v r wr) (fun _ _ i _ => s.size - (intOf i).toNat)
  case atStart => exact ⟨0, 0, rfl, rfl, Nat.zero_le _, HST.out⟩
  case round =>
    obtain ⟨k, r, rfl, rfl, hk, hA⟩ := hrel
    by_cases hlt : k < s.size
    · have hb := get_bytes s k hlt
      have hdig := HO.out.2.2.2 s[k] (List.mem_of_getElem? hb)
      have hro := rat_ok hN1 (s.data.toList.take k) (fun b hb => HO.out.2.2.2 b (List.mem_of_mem_take hb))
      have hstep := rat_take (N := N) hb
      have hlen := rat_len s.data.toList N k
      obtain ⟨hr, hOw, hB⟩ := hA
      obtain ⟨hq9, hq0⟩ := hro.quot hdig
      have hlt' := hro.lt
      rw [← hr] at hq9 hq0 hlt'
      obtain ⟨d, hd⟩ : ∃ d : Nat, (s[k].toNat : Int) = d + 48 := ⟨s[k].toNat - 48, by omega⟩
      have hdv : dv s[k] = d := by unfold dv; omega
      rw [hdv] at hq9 hq0
      unfold ratStep at hstep
      rw [← hr, hdv] at hstep
      have hd9 : d ≤ 9 := by omega
      generalize (rat (s.data.toList.take k) N).1 = out at hOw hstep hlen
      have hQi : (((10 * r + d) / N : Nat) : Int) = (10 * (r : Int) + (d : Int)) / (N : Int) := by simp
      have hq9i : (10 * (r : Int) + (d : Int)) / (N : Int) ≤ 9 := by omega
      have hq0i : 0 ≤ (10 * (r : Int) + (d : Int)) / (N : Int) := by rw [← hQi]; exact Int.natCast_nonneg _
      have hMi : (((10 * r + d) % N : Nat) : Int) = (10 * (r : Int) + (d : Int)) % (N : Int) := by simp
      have hmm : (10 * r + d) % N < N := Nat.mod_lt _ (by omega)
      have hm0 : 0 ≤ (10 * (r : Int) + (d : Int)) % (N : Int) := by rw [← hMi]; exact Int.natCast_nonneg _
      have hm1 : (10 * (r : Int) + (d : Int)) % (N : Int) ≤ 1000000000 := by omega
      have hxq : Hid ((48 + (10 * (r : Int) + (d : Int)) / (N : Int)) = ((48 + (10 * r + d) / N : Nat) : Int)) := by
        have : (48 + (10 * (r : Int) + (d : Int)) / (N : Int)) = ((48 + (10 * r + d) / N : Nat) : Int) := by omega
        exact this
      have HM := Lib.hid hMi
      have hbs := hB.size
      have hr9 : r ≤ 1000000000 := by omega
      clear hQi hMi hro hdig hb hlt' hdv hr hmm
      by_cases hout : out = []
      · subst hout
        by_cases hq : 0 < (10 * r + d) / N
        · rw [if_pos (.inr (hq0.2 hq))] at hstep
          have HST2 := Lib.hid hstep
          have hqi : 0 < (10 * (r : Int) + (d : Int)) / (N : Int) := by
            have : (((10 * r + d) / N : Nat) : Int) = (10 * (r : Int) + (d : Int)) / (N : Int) := by simp
            omega
          clear hstep hq0 hq
          have hform : ∃ A c, u7 = .slice A 0 c := by
            rcases hOw.2 with ⟨rfl, _⟩ | ⟨g', cap, cur', rfl, _⟩
            · exact ⟨_, _, rfl⟩
            · exact ⟨_, _, rfl⟩
          obtain ⟨A, c, rfl⟩ := hform
          go_wp2_with (first | (at_builtin; refine wpList_append_own_at _ rfl (.tmp 55) (.tmp 58) 81 rfl w.heap.size 5 i0 (.int .u8 0) 1 1 Tryd.underlying81 hi5 hz0 hz1 hz2 rfl (by decide) _ _ _ rfl (World.ownsRow.alloc hOw _) ⟨wr.heap.size, 0, none⟩ 1 1 [.int .u8 (48 + (10 * (r : Int) + (d : Int)) / (N : Int))] rfl rfl (cellu8 _ _ _) (by simp [Value.oneCell']) (by unfold maxLen; omega) (by omega) (by simp; omega) ?_; intro v1 w2 hown' hgrow _ hat; have HT := Lib.hid (RatAt.app hOw hB HST2.out hq9 hxq.out hown' hgrow hat); clear hown' hgrow hat))
          go_roundw
          case rel => exact ⟨k + 1, (10 * r + d) % N, by rw [HM.out], by go_num, by omega, HT.out⟩
          case measure => simp [intOf]; omega
        · rw [if_neg (fun h => by rcases h with h | h; exact h rfl; exact hq (hq0.1 h))] at hstep
          have HT : Hid (RatAt w s.data.toList N (k + 1) u7 ((10 * r + d) % N) wr) := by
            have : RatAt w s.data.toList N (k + 1) u7 ((10 * r + d) % N) wr := ⟨by rw [hstep], by rw [hstep]; exact hOw, hB⟩
            exact this
          have hqi : (10 * (r : Int) + (d : Int)) / (N : Int) ≤ 0 := by
            have : (((10 * r + d) / N : Nat) : Int) = (10 * (r : Int) + (d : Int)) / (N : Int) := by simp
            omega
          have hform : ∃ A c, u7 = .slice A 0 c := by
            rcases hOw.2 with ⟨rfl, _⟩ | ⟨g', cap, cur', rfl, _⟩
            · exact ⟨_, _, rfl⟩
            · exact ⟨_, _, rfl⟩
          obtain ⟨A, c, rfl⟩ := hform
          clear hstep hq0 hq hOw hB
          go_wp2
          go_roundw
          case rel => exact ⟨k + 1, (10 * r + d) % N, by rw [HM.out], by go_num, by omega, HT.out⟩
          case measure => simp [intOf]; omega
      · rw [if_pos (.inl hout)] at hstep
        have HST2 := Lib.hid hstep
        have hform : ∃ g c, u7 = .slice (some ⟨g, 0, none⟩) out.length c := by
          rcases hOw.2 with ⟨rfl, h0⟩ | ⟨g', cap, cur', rfl, _⟩
          · exact absurd (List.eq_nil_of_length_eq_zero h0) hout
          · exact ⟨_, _, rfl⟩
        obtain ⟨g, c, rfl⟩ := hform
        have hem : out.isEmpty = false := by simpa using hout
        have hop : 0 < out.length := List.length_pos_iff.2 hout
        clear hstep hq0
        go_wp2_with (first | (at_builtin; refine wpList_append_own_at _ rfl (.tmp 55) (.tmp 58) 81 rfl w.heap.size 5 i0 (.int .u8 0) 1 1 Tryd.underlying81 hi5 hz0 hz1 hz2 rfl (by decide) (.slice (some ⟨g, 0, none⟩) out.length c) out.length (bcells out) rfl (World.ownsRow.alloc hOw _) ⟨wr.heap.size, 0, none⟩ 1 1 [.int .u8 (48 + (10 * (r : Int) + (d : Int)) / (N : Int))] rfl rfl (cellu8 _ _ _) (by simp [Value.oneCell']) (by unfold maxLen; omega) (by omega) (by simp; omega) ?_; intro v1 w2 hown' hgrow _ hat; have HT := Lib.hid (RatAt.app hOw hB HST2.out hq9 hxq.out hown' hgrow hat); clear hown' hgrow hat))
        go_roundw
        case rel => exact ⟨k + 1, (10 * r + d) % N, by rw [HM.out], by go_num, by omega, HT.out⟩
        case measure => simp [intOf]; omega
    · have hke : s.data.toList.take k = s.data.toList := List.take_of_length_le (by rw [HL.out]; omega)
      obtain ⟨hr, hOw, hB⟩ := hA
      rw [hke] at hr hOw
      have hro := rat_ok hN1 s.data.toList HO.out.2.2.2
      have hNn : ((N : Int)).toNat = N := Int.toNat_natCast N
      by_cases hr0 : 0 < r
      · have HV : Hid (ratioV s.data.toList N = ([], 18)) := by
          have : ratioV s.data.toList N = ([], 18) := by
            unfold ratioV
            rw [if_neg (fun h => h HO.out), if_neg (by omega), if_neg (by omega), hNn, if_pos (by omega)]
          exact this
        have HB := Lib.hid hB
        clear hr hOw hB hro hke hNn
        go_wp2
        go_ret2
        exact ⟨by rw [HV.out]; rfl, HB.out⟩
      · obtain rfl : r = 0 := by omega
        have HV : Hid (ratioV s.data.toList N = ((rat s.data.toList N).1, 0)) := by
          have : ratioV s.data.toList N = ((rat s.data.toList N).1, 0) := by
            unfold ratioV
            rw [if_neg (fun h => h HO.out), if_neg (by omega), if_neg (by omega), hNn, if_neg (by omega)]
          exact this
        have hne : (rat s.data.toList N).1 ≠ [] := by
          intro e
          have h1 := hro.eq
          rw [← hr, e] at h1
          have := val_pos HO.out.2.2.2 HO.out.noZero (fun e => by have := HO.out.1; rw [e] at this; simp at this)
          simp [val] at h1 this
          omega
        generalize (rat s.data.toList N).1 = out at hOw HV hne
        have hform : ∃ g c, u7 = .slice (some ⟨g, 0, none⟩) out.length c := by
          rcases hOw.2 with ⟨rfl, h0⟩ | ⟨g', cap, cur', rfl, _⟩
          · exact absurd (List.eq_nil_of_length_eq_zero h0) hne
          · exact ⟨_, _, rfl⟩
        obtain ⟨g, c, rfl⟩ := hform
        have hcv := run_convert_bytes_back (P := Tryd.prog) wr 81 53 5 ⟨g, 0, none⟩ c out Tryd.underlying81 Tryd.underlying5 (by kernel_rfl) (fun j hj => hOw.cells (g := g) rfl j _ (by simp [bcells, hj]))
        have HB := Lib.hid hB
        clear hr hOw hB hro hke hne hNn
        go_wp2
        go_ret2
        exact ⟨by rw [HV.out]; rfl, HB.out⟩

theorem ratioV_err {l : List UInt8} {n : Int} (h : ¬ numE l n = 0) : ratioV l n = ([], if n = 0 ∧ numE l n = 2 then 6 else numE l n) := by
  rcases numE_cases l n with ⟨e, ho⟩ | ⟨e, ho, hn⟩ | ⟨e, _⟩
  · rw [e]; unfold ratioV; rw [if_pos ho, if_neg (by omega)]
  · rw [e]; unfold ratioV; rw [if_neg (fun h => h ho)]
    by_cases h0 : n = 0
    · rw [if_pos h0, if_pos ⟨h0, rfl⟩]
    · rw [if_neg h0, if_pos hn, if_neg (fun h => h0 h.1)]
  · exact absurd e h

set_option maxRecDepth 100000 in
set_option maxHeartbeats 400000 in
/-- perm.Ratio. -/
theorem ratio_any (s : ByteArray) (n : Int) (hs : s.size ≤ 300) (w : World) :
    Calls Tryd.prog 34 #[.string s, .int .i64 n] w (NumErr (ratioV s.data.toList n) w) := by
  by_cases he : numE s.data.toList n = 0
  · rcases numE_cases s.data.toList n with ⟨e, _⟩ | ⟨e, _⟩ | ⟨_, ho, h1, h2⟩
    · rw [e] at he; simp at he
    · rw [e] at he; simp at he
    · obtain ⟨N, rfl⟩ : ∃ N : Nat, n = (N : Int) := ⟨n.toNat, by omega⟩
      exact ratio_ok s N hs w he ho (by omega) (by omega)
  · rw [ratioV_err he]
    have HC := fun W => Lib.hid (checkNum_any s n hs W)
    by_cases h2 : numE s.data.toList n = 2
    · rw [h2] at HC ⊢
      by_cases h0 : n = 0
      · subst h0
        rw [if_pos ⟨rfl, rfl⟩]
        go_enter Tryd.func34, Tryd.ntmps34
        go_wp2_with fail
        refine ((HC _).out).mono ?_
        rintro e w1 ⟨rfl, rfl⟩
        go_wp2_with fail
        go_ret2
        exact ⟨rfl, Below.refl _ _⟩
      · rw [if_neg (fun h => h0 h.1)]
        have hn0 : (n == 0) = false := by simpa using h0
        clear h0 he h2
        go_enter Tryd.func34, Tryd.ntmps34
        go_wp2_with fail
        refine ((HC _).out).mono ?_
        rintro e w1 ⟨rfl, rfl⟩
        go_wp2_with fail
        go_ret2
        exact ⟨rfl, Below.refl _ _⟩
    · rw [if_neg (fun h => h2 h.2)]
      generalize numE s.data.toList n = x at he h2 HC
      have hx : (x != 0) = true := by simpa using he
      have hx2 : (x == 2) = false := by simpa using h2
      clear he h2
      go_enter Tryd.func34, Tryd.ntmps34
      go_wp2_with fail
      refine ((HC _).out).mono ?_
      rintro e w1 ⟨rfl, rfl⟩
      go_wp2_with fail
      go_ret2
      exact ⟨rfl, Below.refl _ _⟩
end Go.Proofs.YtpchomhfpfpckaaDoor
