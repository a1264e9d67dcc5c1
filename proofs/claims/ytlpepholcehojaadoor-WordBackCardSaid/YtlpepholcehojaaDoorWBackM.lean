/- WordBack: Subst is a homomorphism; Text at every word; Decimal; pieces of a slice. -/
import Derived.Test.YtlpepholcehojaaDoorWSubst
import Derived.Test.YtlpepholcehojaaDoorWTextRP
import Derived.Test.YtlpepholcehojaaDoorWReads
import Derived.Test.YtlpepholcehojaaDoorWLetters
namespace Go.Proofs.YtlpepholcehojaaDoor
open Go Go.RowKit

theorem subW_app (ims : List (List Int)) (u v : List Int) : subW ims (u ++ v) = subW ims u ++ subW ims v := by simp [subW]
theorem letW_canc {ims : List (List Int)} (hl : ∀ i, Lets (ims.getD i [])) {x y : Int} (h : canc y x = true) : sim (letW ims y ++ letW ims x) [] := by
  have h1 := canc_iff.1 h
  have e : x.natAbs = y.natAbs := by omega
  unfold letW
  rw [e]
  by_cases hy : 0 < y
  · rw [if_pos hy, if_neg (by omega)]
    exact sim_winv (hl _)
  · rw [if_neg hy, if_pos (by omega)]
    exact sim_winv' (hl _)
theorem sim_subW_act {ims : List (List Int)} (hl : ∀ i, Lets (ims.getD i [])) : ∀ (u st : List Int), sim (subW ims (act st u).reverse) (subW ims (st.reverse ++ u))
  | [], st => by simp [act]; exact sim.refl _
  | x :: u, st => by
    have h := sim_subW_act hl u (Go.Proofs.YtlpepholcehojaaDoor.push st x)
    refine (show sim (subW ims (act st (x :: u)).reverse) (subW ims ((Go.Proofs.YtlpepholcehojaaDoor.push st x).reverse ++ u)) from h).trans ?_
    cases st with
    | nil => exact sim.refl _
    | cons y t =>
      simp only [Go.Proofs.YtlpepholcehojaaDoor.push]
      by_cases hc : canc y x = true
      · rw [if_pos hc]
        have e : (y :: t).reverse ++ x :: u = t.reverse ++ ([y, x] ++ u) := by simp
        rw [e, subW_app, subW_app, subW_app ims [y, x]]
        have e2 : subW ims [y, x] = letW ims y ++ letW ims x := by simp [subW]
        rw [e2]
        have h2 := (sim.refl (subW ims t.reverse)).append ((letW_canc hl hc).symm.append (sim.refl (subW ims u)))
        simpa using h2
      · rw [if_neg hc]
        have e : (x :: y :: t).reverse ++ u = (y :: t).reverse ++ x :: u := by simp
        rw [e]
        exact sim.refl _
theorem subst_hom {ims : List (List Int)} (hl : ∀ i, Lets (ims.getD i [])) (a b : List Int) : red (subW ims (wmul a b)) = wmul (red (subW ims a)) (red (subW ims b)) := by
  have h := sim_subW_act hl (a ++ b) []
  have e : red (subW ims (wmul a b)) = red (subW ims (a ++ b)) := red_of_sim (by simpa [wmul, red] using h)
  rw [e, subW_app, wmul_red_left, wmul_red_right]; rfl
theorem act_mem : ∀ (u st : List Int) (x : Int), x ∈ act st u → x ∈ st ∨ x ∈ u
  | [], _, _, h => .inl h
  | z :: u, st, x, h => by
    have h1 := act_mem u (Go.Proofs.YtlpepholcehojaaDoor.push st z) x h
    rcases h1 with h1 | h1
    · cases st with
      | nil =>
        have : x = z := by simpa [Go.Proofs.YtlpepholcehojaaDoor.push] using h1
        exact .inr (by simp [this])
      | cons y t =>
        simp only [Go.Proofs.YtlpepholcehojaaDoor.push] at h1
        split at h1
        · exact .inl (List.mem_cons_of_mem _ h1)
        · rcases List.mem_cons.1 h1 with e | h1
          · exact .inr (by simp [e])
          · exact .inl h1
    · exact .inr (List.mem_cons_of_mem _ h1)
theorem red_mem {u : List Int} {x : Int} (h : x ∈ red u) : x ∈ u := by
  rcases act_mem u [] x (by simpa [red] using h) with h | h
  · cases h
  · exact h
theorem okW_of {g : Nat} {zs : List Int} (h : ∀ x ∈ zs, x ≠ 0 ∧ x.natAbs ≤ g) : okW g zs = true := by
  unfold okW
  exact List.all_eq_true.2 fun x hx => decide_eq_true (h x hx)
theorem subE_zero {ims : List (List Int)} {zs : List Int} {N : Nat} (h : ∀ i, (ims.getD i []).length ≤ N) (hz : ∀ x ∈ zs, x ≠ 0 ∧ x.natAbs ≤ ims.length) (hl : zs.length * N ≤ 4000) : subE ims zs = 0 ∧ subL ims zs = red (subW ims zs) := by
  have h1 : subE ims zs = 0 := by
    unfold subE
    rw [okW_of hz, if_pos rfl, if_neg]
    have := red_length (subW ims zs)
    have := subW_len h zs
    omega
  exact ⟨h1, by unfold subL; rw [if_pos h1]⟩
theorem powW_nat {a : List Int} (n : Nat) : red (rep a n) = powW a (n : Int) := by
  have e : zp (red a) (n : Int) = rep (red a) n := by unfold Go.Proofs.YtlpepholcehojaaDoor.zp; rw [if_neg (by omega)]; rfl
  unfold powW
  rw [e]
  exact red_of_sim (rep_sim (sim_red a).symm n)
theorem let4 (zs : List Int) : ∀ x ∈ letL zs, x ≠ 0 ∧ x.natAbs ≤ 4 := fun x hx => by have := letL_small zs x hx; omega

theorem sizeInts (W : World) : (sizeOf (Tryd.prog.elem 22)).run Tryd.prog W = .ok 1 W := by
  obtain ⟨i0, hi, hz0, hz1, hz2⟩ := info_parts info3'
  have e : Tryd.prog.elem 22 = 3 := by kernel_rfl
  rw [e]; simp [sizeOf, typeInfo, hi, hz1]
theorem cut_preI {w : World} {B : Nat} {v : Value} {l : List Int} (h : IntsC w B v l) {k : Nat} (hk : k ≤ l.length) :
    ∃ A' c', (∀ W, (Instr.slice 22 v none (some (.int .i64 (k : Int))) none).run Tryd.prog W = .ok (.slice A' k c') W) ∧ IntsC w B (.slice A' k c') (l.take k) := by
  obtain ⟨A, c, rfl, hc, h2⟩ := h
  have hlen : (l.take k).length = k := by simp; omega
  refine ⟨if c = 0 then A else A.map (·.add (0 * 1)), c - 0, fun W => ?_, _, _, by rw [hlen], by rw [hlen]; omega, fun h0 => ?_⟩
  · rw [run_slice_h W 22 A l.length c (by kernel_rfl) .i64 k (by omega) (by omega), sizeInts, Int.toNat_natCast]
    rfl
  · rw [hlen] at h0 ⊢
    obtain ⟨b, o, rfl, hb, hcc⟩ := h2 (by omega)
    refine ⟨b, o, ?_, hb, fun j hj => ?_⟩
    · rw [if_neg (by omega), addr_map _ 0 b o rfl, Nat.add_zero]
    · rw [getD_take hj]; exact hcc j (by omega)
theorem cut_sufI {w : World} {B : Nat} {v : Value} {l : List Int} (h : IntsC w B v l) {k : Nat} (hk : k ≤ l.length) :
    ∃ A' c', (∀ W, (Instr.slice 22 v (some (.int .i64 (k : Int))) none none).run Tryd.prog W = .ok (.slice A' (l.length - k) c') W) ∧ IntsC w B (.slice A' (l.length - k) c') (l.drop k) := by
  obtain ⟨A, c, rfl, hc, h2⟩ := h
  have hlen : (l.drop k).length = l.length - k := by simp
  refine ⟨if c = k then A else A.map (·.add (k * 1)), c - k, fun W => ?_, _, _, by rw [hlen], by rw [hlen]; omega, fun h0 => ?_⟩
  · rw [run_slice_l W 22 A l.length c (by kernel_rfl) .i64 k (by omega) (by omega), sizeInts, Int.toNat_natCast]
    rfl
  · rw [hlen] at h0 ⊢
    obtain ⟨b, o, rfl, hb, hcc⟩ := h2 (by omega)
    refine ⟨b, o + k, ?_, hb, fun j hj => ?_⟩
    · rw [if_neg (by omega), addr_map _ k b o rfl]
    · rw [getD_drop, Nat.add_assoc]; exact hcc (k + j) (by omega)
theorem cut_midC {w : World} {B : Nat} {v : Value} {l : List Int} (h : IntsC w B v l) {lo hi : Nat} (hlo : lo ≤ hi) (hhi : hi ≤ l.length) :
    ∃ A' c', (∀ W, (Instr.slice 22 v (some (.int .i64 (lo : Int))) (some (.int .i64 (hi : Int))) none).run Tryd.prog W = .ok (.slice A' (hi - lo) c') W) ∧ IntsC w B (.slice A' (hi - lo) c') ((l.drop lo).take (hi - lo)) := by
  obtain ⟨A, c, rfl, hc, h2⟩ := h
  have hlen : ((l.drop lo).take (hi - lo)).length = hi - lo := by simp; omega
  refine ⟨if c = lo then A else A.map (·.add (lo * 1)), c - lo, fun W => ?_, _, _, by rw [hlen], by rw [hlen]; omega, fun h0 => ?_⟩
  · rw [run_slice_lh W 22 A l.length c (by kernel_rfl) .i64 .i64 lo hi (by omega) (by omega) (by omega), sizeInts, Int.toNat_natCast, Int.toNat_natCast]
    rfl
  · rw [hlen] at h0 ⊢
    obtain ⟨b, o, rfl, hb, hcc⟩ := h2 (by omega)
    refine ⟨b, o + lo, ?_, hb, fun j hj => ?_⟩
    · rw [if_neg (by omega), addr_map _ lo b o rfl]
    · rw [getD_take hj, getD_drop, Nat.add_assoc]; exact hcc (lo + j) (by omega)

theorem decimal_any (n : Nat) (hn : n < 9) (w : World) : Calls Tryd.prog 14 #[.int .i64 (n : Int)] w fun e w' => e = .returned (.string (bytesOf (Lib.decDigits n))) ∧ w' = w := by
  have h : n = 0 ∨ n = 1 ∨ n = 2 ∨ n = 3 ∨ n = 4 ∨ n = 5 ∨ n = 6 ∨ n = 7 ∨ n = 8 := by omega
  rcases h with rfl | rfl | rfl | rfl | rfl | rfl | rfl | rfl | rfl
  all_goals
    go_enter Tryd.func14, Tryd.ntmps14
    go_wp2_with fail
    go_ret
    exact ⟨by kernel_rfl, rfl⟩
theorem Text_any (v : Value) (zs : List Int) (w : World) (hl : zs.length ≤ 4000) (hz : Valid 16 zs) (hv : Ints w w.heap.size v zs)
    (htab : Lib.TabBelow Tryd.prog w.heap.size w "internal/strconv.uint64pow10" .u64 Lib.pow10Tab) :
    Calls Tryd.prog 9 #[v] w fun e w' => e = .returned (.tuple #[.string (bytesOf (textA zs)), .int .i64 0]) ∧ Below w.heap.size w w' := by
  by_cases h0 : zs = []
  · subst h0
    have HC := Lib.hid (Check_ok 16 v [] w (by simp) (by omega) hz hv)
    obtain ⟨A, c, rfl, -⟩ := hv
    clear hz htab
    go_enter Tryd.func9, Tryd.ntmps9
    go_wp2_with fail
    refine HC.out.mono ?_
    rintro e w1 ⟨rfl, rfl⟩
    go_wp2_with fail
    go_ret2
    exact ⟨rfl, Below.refl _ _⟩
  · have h1 : 1 ≤ zs.length := by
      cases zs with
      | nil => exact absurd rfl h0
      | cons => simp
    have := Text_ok v zs w h1 hl hz hv htab
    unfold textA
    rw [if_neg h0]
    exact this
end Go.Proofs.YtlpepholcehojaaDoor
