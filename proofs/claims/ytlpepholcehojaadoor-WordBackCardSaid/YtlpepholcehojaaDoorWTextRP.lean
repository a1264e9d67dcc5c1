/- What Text writes is what Parse reads: runs, words of runs, and what stands in brackets. -/
import Derived.Test.YtlpepholcehojaaDoorWWhole
import Derived.Test.YtlpepholcehojaaDoorWText
namespace Go.Proofs.YtlpepholcehojaaDoor
open Go Go.RowKit

/-- The byte that comes next, or -1. -/
def nx : List UInt8 → Int
  | [] => -1
  | c :: _ => (c.toNat : Int)
theorem chAt_at {s : ByteArray} {pre suf : List UInt8} (h : s.data.toList = pre ++ suf) : chAt s pre.length = nx suf := by
  have hl : s.size = pre.length + suf.length := by
    have := congrArg List.length h
    simpa using this
  cases suf with
  | nil => exact chAt_out (by simp at hl; omega)
  | cons c t =>
    have hlt : pre.length < s.size := by rw [hl]; simp
    rw [chAt_in hlt]
    have h1 : s.data.toList[pre.length]? = some c := by rw [h]; simp
    have h2 : s.data.toList[pre.length]? = some s[pre.length] := by
      rw [List.getElem?_eq_getElem (by simpa using hlt)]
      rfl
    rw [h2] at h1
    injection h1 with h1
    rw [h1]; rfl
theorem chAt_mid {s : ByteArray} {pre d suf : List UInt8} (h : s.data.toList = pre ++ (d ++ suf)) {i : Nat} (h1 : pre.length ≤ i) (h2 : i < pre.length + d.length) : chAt s i = ((d.getD (i - pre.length) 0).toNat : Int) := by
  have e : d = d.take (i - pre.length) ++ d.drop (i - pre.length) := (List.take_append_drop _ _).symm
  have h3 : s.data.toList = (pre ++ d.take (i - pre.length)) ++ (d.drop (i - pre.length) ++ suf) := by
    rw [List.append_assoc, ← List.append_assoc (d.take _), ← e]; exact h
  have h4 := chAt_at h3
  have h5 : (pre ++ d.take (i - pre.length)).length = i := by simp; omega
  rw [h5] at h4
  have h6 : i - pre.length < d.length := by omega
  rw [List.drop_eq_getElem_cons h6, List.cons_append] at h4
  rw [h4]
  simp [nx, List.getD_eq_getElem?_getD, List.getElem?_eq_getElem h6]
theorem skp_at {s : ByteArray} {pre suf : List UInt8} (h : s.data.toList = pre ++ suf) (h1 : nx suf ≠ 32) : Skp s pre.length pre.length := by
  have hl : s.size = pre.length + suf.length := by
    have := congrArg List.length h
    simpa using this
  exact .here (by omega) (by rw [chAt_at h]; exact h1)

/-- The digits of a number below 4001. -/
def digB (n : Nat) : Bool :=
  let d := Lib.decDigits n
  decide (1 ≤ d.length) && decide (d.length ≤ 4) && d.all (fun c => decide (48 ≤ c.toNat) && decide (c.toNat ≤ 57)) && (decide (d.length = 1) || decide (d.getD 0 0 ≠ 48)) && decide (Lib.atoi d = some (n : Int))
theorem digB_all : (List.range 4001).all digB = true := by decide +kernel
structure DigL (d : List UInt8) (n : Nat) : Prop where
  pos : 1 ≤ d.length
  few : d.length ≤ 4
  digit : ∀ c ∈ d, 48 ≤ c.toNat ∧ c.toNat ≤ 57
  lead : 1 < d.length → d.getD 0 0 ≠ 48
  val : Lib.atoi d = some (n : Int)
theorem digL (n : Nat) (h : n ≤ 4000) : DigL (Lib.decDigits n) n := by
  have h1 := List.all_eq_true.1 digB_all n (List.mem_range.2 (by omega))
  simp only [digB, Bool.and_eq_true, decide_eq_true_eq, List.all_eq_true, Bool.or_eq_true] at h1
  obtain ⟨⟨⟨⟨a, b⟩, c⟩, d⟩, e⟩ := h1
  exact ⟨a, b, c, fun h => d.resolve_left (by omega), e⟩

/-- No digit, no blank, no power. -/
structure Free (c : Int) : Prop where
  blank : c ≠ 32
  hat : c ≠ 94
  digit : ¬ (48 ≤ c ∧ c ≤ 57)
theorem digs_at {s : ByteArray} {pre suf : List UInt8} {n : Nat} (hn : n ≤ 4000) (h : s.data.toList = pre ++ (Lib.decDigits n ++ suf)) (hf : Free (nx suf)) : Digs s pre.length (pre.length + (Lib.decDigits n).length) (n : Int) := by
  have hd := digL n hn
  have hl : s.size = pre.length + ((Lib.decDigits n).length + suf.length) := by
    have := congrArg List.length h
    simpa using this
  have hp := hd.pos
  have hfw := hd.few
  have hat : ∀ i, pre.length ≤ i → i < pre.length + (Lib.decDigits n).length → chAt s i = (((Lib.decDigits n).getD (i - pre.length) 0).toNat : Int) := fun i h1 h2 => chAt_mid h h1 h2
  have hend : chAt s (pre.length + (Lib.decDigits n).length) = nx suf := by
    have h3 : s.data.toList = (pre ++ Lib.decDigits n) ++ suf := by rw [List.append_assoc]; exact h
    have := chAt_at h3
    simpa using this
  refine ⟨by omega, by omega, fun i h1 h2 => ?_, ?_, by omega, fun h1 => ?_, ?_, by omega, by omega⟩
  · rw [hat i h1 h2]
    have h6 : i - pre.length < (Lib.decDigits n).length := by omega
    have := hd.digit ((Lib.decDigits n).getD (i - pre.length) 0) (by
      rw [List.getD_eq_getElem?_getD, List.getElem?_eq_getElem h6]; exact List.getElem_mem h6)
    omega
  · rw [hend]; exact hf.digit
  · rw [hat _ (Nat.le_refl _) (by omega), Nat.sub_self]
    have := hd.lead (by omega)
    intro e
    apply this
    apply UInt8.toNat_inj.1
    have e2 : ((48 : UInt8).toNat) = 48 := rfl
    omega
  · have h7 : (s.extract pre.length (pre.length + (Lib.decDigits n).length)).data.toList = Lib.decDigits n := by
      rw [ByteArray.data_extract, Array.toList_extract, h]
      simp [List.extract_eq_take_drop]
    rw [h7]; exact hd.val

theorem zp_one (k : Int) (n : Nat) : zp [k] (n : Int) = rep [k] n := by
  unfold Go.Proofs.YtlpepholcehojaaDoor.zp
  rw [if_neg (by omega)]; rfl
theorem zp_neg (k : Int) (n : Nat) (h : 1 ≤ n) : zp [k] (-(n : Int)) = rep [nlet k] n := by
  unfold Go.Proofs.YtlpepholcehojaaDoor.zp
  rw [if_pos (by omega)]
  simp [winv]

/-- A run that may stand there. -/
structure RunOK (g : Nat) (r : Int × Int) : Prop where
  ne : r.1 ≠ 0
  le : r.1.natAbs ≤ g
  pos : 1 ≤ r.2
  max : r.2 ≤ 4000
theorem letter_nat (k : Nat) (h : k ≤ 200) : (UInt8.ofNat k).toNat = k := by
  simp; omega
theorem item_at {s : ByteArray} {pre suf : List UInt8} {g o k : Nat} (hg : g ≤ 16) (hk : k < g) (h : s.data.toList = pre ++ UInt8.ofNat (97 + k) :: suf) : RP s g .item o [] pre.length (pre.length + 1) [(k : Int) + 1] := by
  have hc : nx (UInt8.ofNat (97 + k) :: suf) = 97 + (k : Int) := by
    show ((UInt8.ofNat (97 + k)).toNat : Int) = _
    rw [letter_nat _ (by omega)]; omega
  exact .letter (skp_at h (by rw [hc]; omega)) hk (by rw [chAt_at h]; exact hc)
theorem dig_first (n : Nat) (h : n ≤ 4000) : ∃ c t, Lib.decDigits n = c :: t ∧ 48 ≤ c.toNat ∧ c.toNat ≤ 57 := by
  have hd := digL n h
  cases e : Lib.decDigits n with
  | nil => have := hd.pos; rw [e] at this; cases this
  | cons c t => exact ⟨c, t, rfl, hd.digit c (by rw [e]; exact List.mem_cons_self ..)⟩

theorem factor_pow {s : ByteArray} {pre it suf : List UInt8} {g o n : Nat} {v : List Int} {p : Nat} (hn : n ≤ 4000) (hv : n * v.length ≤ 4000) (hvl : v.length ≤ 4000) (h : s.data.toList = pre ++ (it ++ 94 :: (Lib.decDigits n ++ suf))) (hi : RP s g .item o [] p (pre.length + it.length) v) (hf : Free (nx suf)) :
    RP s g .factor o [] p (pre.length + it.length + 1 + (Lib.decDigits n).length) (zp v (n : Int)) := by
  have h1 : s.data.toList = (pre ++ it) ++ 94 :: (Lib.decDigits n ++ suf) := by rw [h, List.append_assoc]
  have h2 : s.data.toList = (pre ++ it ++ [94]) ++ (Lib.decDigits n ++ suf) := by rw [h]; simp
  have e1 : (pre ++ it).length = pre.length + it.length := by simp
  have e2 : (pre ++ it ++ [94]).length = pre.length + it.length + 1 := by simp; omega
  have hk := skp_at h1 (by simp [nx])
  have hc := chAt_at h1
  have hd := digs_at hn h2 hf
  obtain ⟨c, t, hct, hlo, hhi⟩ := dig_first n hn
  have hc2 := chAt_at h2
  have hk2 := skp_at h2 (by rw [hct]; simp [nx]; omega)
  rw [e1] at hk hc
  rw [e2] at hd hc2 hk2
  exact .power hi hvl hk hc ⟨_, _, _, hk2, hd, .inr ⟨by rw [hc2, hct]; simp [nx]; omega, rfl, rfl⟩⟩ (by simpa using hv)
theorem factor_npow {s : ByteArray} {pre it suf : List UInt8} {g o n : Nat} {v : List Int} {p : Nat} (hn : n ≤ 4000) (hv : n * v.length ≤ 4000) (hvl : v.length ≤ 4000) (h : s.data.toList = pre ++ (it ++ 94 :: 45 :: (Lib.decDigits n ++ suf))) (hi : RP s g .item o [] p (pre.length + it.length) v) (hf : Free (nx suf)) :
    RP s g .factor o [] p (pre.length + it.length + 2 + (Lib.decDigits n).length) (zp v (-(n : Int))) := by
  have h1 : s.data.toList = (pre ++ it) ++ 94 :: 45 :: (Lib.decDigits n ++ suf) := by rw [h, List.append_assoc]
  have h2 : s.data.toList = (pre ++ it ++ [94]) ++ 45 :: (Lib.decDigits n ++ suf) := by rw [h]; simp
  have h3 : s.data.toList = (pre ++ it ++ [94, 45]) ++ (Lib.decDigits n ++ suf) := by rw [h]; simp
  have e1 : (pre ++ it).length = pre.length + it.length := by simp
  have e2 : (pre ++ it ++ [94]).length = pre.length + it.length + 1 := by simp; omega
  have e3 : (pre ++ it ++ [94, 45]).length = pre.length + it.length + 2 := by simp; omega
  have hk := skp_at h1 (by simp [nx])
  have hc := chAt_at h1
  have hd := digs_at hn h3 hf
  have hc2 := chAt_at h2
  have hk2 := skp_at h2 (by simp [nx])
  rw [e1] at hk hc
  rw [e2] at hc2 hk2
  rw [e3] at hd
  exact .power hi hvl hk hc ⟨_, _, _, hk2, hd, .inl ⟨by rw [hc2]; simp [nx], rfl, rfl⟩⟩ (by simpa using hv)

theorem run_at {s : ByteArray} {pre suf : List UInt8} {g o : Nat} {r : Int × Int} (hg : g ≤ 16) (hr : RunOK g r) (h : s.data.toList = pre ++ (runB r.1 r.2 ++ suf)) (hf : Free (nx suf)) :
    RP s g .factor o [] pre.length (pre.length + (runB r.1 r.2).length) (rep [r.1] r.2.toNat) := by
  obtain ⟨x, n⟩ := r
  have h1 := hr.ne
  have h2 := hr.le
  have h3 := hr.pos
  have h4 := hr.max
  simp only at h1 h2 h3 h4 h ⊢
  obtain ⟨m, rfl⟩ := Int.eq_ofNat_of_zero_le (by omega : 0 ≤ n)
  by_cases hx : x < 0
  · obtain ⟨k, hk⟩ : ∃ k : Nat, x = -((k : Int) + 1) := ⟨x.natAbs - 1, by omega⟩
    subst hk
    have hb : runB (-((k : Int) + 1)) (m : Int) = [UInt8.ofNat (97 + k)] ++ 94 :: 45 :: Lib.decDigits m := by
      unfold runB
      rw [if_pos (by omega), Lib.itoa_neg m (by omega)]
      have : 96 + (- -((k : Int) + 1)).toNat = 97 + k := by omega
      rw [this]; rfl
    rw [hb] at h ⊢
    have h' : s.data.toList = pre ++ ([UInt8.ofNat (97 + k)] ++ 94 :: 45 :: (Lib.decDigits m ++ suf)) := by rw [h]; simp
    have hi : RP s g .item o [] pre.length (pre.length + [UInt8.ofNat (97 + k)].length) [(k : Int) + 1] := item_at hg (by omega) h'
    have := factor_npow (n := m) (by omega) (by simp; omega) (by simp) h' hi hf
    rw [zp_neg _ _ (by omega)] at this
    have e : nlet ((k : Int) + 1) = -((k : Int) + 1) := by unfold nlet; rw [if_neg (by omega)]
    rw [e] at this
    have e2 : pre.length + ([UInt8.ofNat (97 + k)] ++ 94 :: 45 :: Lib.decDigits m).length = pre.length + [UInt8.ofNat (97 + k)].length + 2 + (Lib.decDigits m).length := by simp; omega
    rw [e2]; exact this
  · obtain ⟨k, hk⟩ : ∃ k : Nat, x = (k : Int) + 1 := ⟨x.toNat - 1, by omega⟩
    subst hk
    have e1 : 96 + ((k : Int) + 1).toNat = 97 + k := by omega
    by_cases hm : m = 1
    · subst hm
      have hb : runB ((k : Int) + 1) ((1 : Nat) : Int) = [UInt8.ofNat (97 + k)] := by
        unfold runB
        rw [if_neg (by omega), if_pos (by rfl), e1]
      rw [hb] at h ⊢
      have h' : s.data.toList = (pre ++ [UInt8.ofNat (97 + k)]) ++ suf := by rw [h]; simp
      have hi : RP s g .item o [] pre.length (pre.length + 1) [(k : Int) + 1] := item_at hg (by omega) h
      have hk := skp_at h' hf.blank
      have hc := chAt_at h'
      have e2 : (pre ++ [UInt8.ofNat (97 + k)]).length = pre.length + 1 := by simp
      rw [e2] at hk hc
      refine .plain hi (by simp [rep]) hk ?_
      show chAt s (pre.length + 1) ≠ 94
      rw [hc]; exact hf.hat
    · have hb : runB ((k : Int) + 1) (m : Int) = [UInt8.ofNat (97 + k)] ++ 94 :: Lib.decDigits m := by
        unfold runB
        rw [if_neg (by omega), if_neg (by omega), Lib.itoa_nonneg, e1]; rfl
      rw [hb] at h ⊢
      have h' : s.data.toList = pre ++ ([UInt8.ofNat (97 + k)] ++ 94 :: (Lib.decDigits m ++ suf)) := by rw [h]; simp
      have hi : RP s g .item o [] pre.length (pre.length + [UInt8.ofNat (97 + k)].length) [(k : Int) + 1] := item_at hg (by omega) h'
      have := factor_pow (n := m) (by omega) (by simp; omega) (by simp) h' hi hf
      rw [zp_one] at this
      have e2 : pre.length + ([UInt8.ofNat (97 + k)] ++ 94 :: Lib.decDigits m).length = pre.length + [UInt8.ofNat (97 + k)].length + 1 + (Lib.decDigits m).length := by simp; omega
      rw [e2]; exact this

theorem run_first {g : Nat} {r : Int × Int} (hg : g ≤ 16) (hr : RunOK g r) (suf : List UInt8) : nx (runB r.1 r.2 ++ suf) ≠ 32 := by
  have h1 := hr.ne
  have h2 := hr.le
  have h : ∃ k t, k ≤ 30 ∧ runB r.1 r.2 = UInt8.ofNat (96 + k) :: t := by
    unfold runB
    split
    · exact ⟨_, _, by omega, rfl⟩
    · split
      · exact ⟨_, _, by omega, rfl⟩
      · exact ⟨_, _, by omega, rfl⟩
  obtain ⟨k, t, hk, e⟩ := h
  rw [e]
  show ((UInt8.ofNat (96 + k)).toNat : Int) ≠ 32
  rw [letter_nat _ (by omega)]; omega
/-- Runs, one behind another. -/
def joinT : List (Int × Int) → List UInt8
  | [] => []
  | [x] => runB x.1 x.2
  | x :: y :: t => runB x.1 x.2 ++ 42 :: joinT (y :: t)
theorem joinT_snoc (x : Int × Int) : ∀ l : List (Int × Int), joinT (l ++ [x]) = if l = [] then runB x.1 x.2 else joinT l ++ 42 :: runB x.1 x.2
  | [] => rfl
  | [y] => rfl
  | y :: z :: t => by
    have := joinT_snoc x (z :: t)
    rw [if_neg (by simp)] at this
    rw [if_neg (by simp)]
    show runB y.1 y.2 ++ 42 :: joinT (z :: t ++ [x]) = _
    rw [this]
    simp [joinT]
theorem joinR_T (l : List (Int × Int)) : ∀ n, l.length = n → joinR l = joinT l := by
  intro n
  induction n generalizing l with
  | zero => intro h; rw [List.length_eq_zero_iff.1 h]; rfl
  | succ n ih =>
    intro h
    obtain ⟨l', x, rfl⟩ : ∃ l' x, l = l' ++ [x] := ⟨l.dropLast, l.getLast (by intro e; rw [e] at h; cases h), (List.dropLast_concat_getLast (by intro e; rw [e] at h; cases h)).symm⟩
    rw [joinR_snoc, joinT_snoc]
    have := ih l' (by simpa using h)
    rw [this]
def flatR (l : List (Int × Int)) : List Int := l.flatMap fun r => rep [r.1] r.2.toNat
theorem word_at {s : ByteArray} {g o : Nat} (hg : g ≤ 16) {suf : List UInt8} (hf : Free (nx suf)) (hs42 : nx suf ≠ 42) :
    ∀ (l : List (Int × Int)) (pre : List UInt8) (acc : List Int), l ≠ [] → (∀ r ∈ l, RunOK g r) → s.data.toList = pre ++ (joinT l ++ suf) → (acc ++ flatR l).length ≤ 4000 →
      RP s g .word o acc pre.length (pre.length + (joinT l).length) (acc ++ flatR l)
  | [], _, _, h, _, _, _ => absurd rfl h
  | [x], pre, acc, _, hr, h, hl => by
    have hx := hr x (by simp)
    have hff : Free (nx suf) := hf
    have h1 := run_at (o := o) hg hx h hf
    have h2 : s.data.toList = (pre ++ runB x.1 x.2) ++ suf := by rw [h]; simp [joinT]
    have hk := skp_at h2 hf.blank
    have hc := chAt_at h2
    have e : (pre ++ runB x.1 x.2).length = pre.length + (runB x.1 x.2).length := by simp
    rw [e] at hk hc
    have e2 : flatR [x] = rep [x.1] x.2.toNat := by simp [flatR]
    rw [e2] at hl ⊢
    have hk0 : Skp s pre.length pre.length := skp_at h (run_first hg hx suf)
    refine .last hk0 h1 hl hk ?_
    show chAt s (pre.length + (runB x.1 x.2).length) ≠ 42
    rw [hc]; exact hs42
  | x :: y :: t, pre, acc, _, hr, h, hl => by
    have hx := hr x (by simp)
    have h0 : s.data.toList = pre ++ (runB x.1 x.2 ++ (42 :: joinT (y :: t) ++ suf)) := by rw [h]; simp [joinT]
    have hst : Free (nx (42 :: joinT (y :: t) ++ suf)) := ⟨by simp [nx], by simp [nx], by simp [nx]⟩
    have h1 := run_at (o := o) hg hx h0 hst
    have h2 : s.data.toList = (pre ++ runB x.1 x.2) ++ (42 :: joinT (y :: t) ++ suf) := by rw [h0]; simp
    have h3 : s.data.toList = (pre ++ runB x.1 x.2 ++ [42]) ++ (joinT (y :: t) ++ suf) := by rw [h0]; simp
    have hk := skp_at h2 (by simp [nx])
    have hc := chAt_at h2
    have e : (pre ++ runB x.1 x.2).length = pre.length + (runB x.1 x.2).length := by simp
    rw [e] at hk hc
    have e2 : flatR (x :: y :: t) = rep [x.1] x.2.toNat ++ flatR (y :: t) := by simp [flatR]
    rw [e2] at hl ⊢
    have hk0 : Skp s pre.length pre.length := skp_at h0 (run_first hg hx _)
    have h4 := word_at (o := o) hg hf hs42 (y :: t) (pre ++ runB x.1 x.2 ++ [42]) (acc ++ rep [x.1] x.2.toNat) (by simp) (fun r hr' => hr r (List.mem_cons_of_mem _ hr')) h3 (by rw [List.append_assoc]; exact hl)
    have e3 : (pre ++ runB x.1 x.2 ++ [42]).length = pre.length + (runB x.1 x.2).length + 1 := by simp; omega
    have e4 : pre.length + (joinT (x :: y :: t)).length = (pre ++ runB x.1 x.2 ++ [42]).length + (joinT (y :: t)).length := by simp [joinT]; omega
    rw [e4]
    rw [e3] at h4 ⊢
    rw [List.append_assoc] at h4
    exact .more hk0 h1 (by simp at hl ⊢; omega) hk (by rw [hc]; rfl) h4

theorem rep_one (x : Int) : ∀ n, rep [x] n = List.replicate n x
  | 0 => rfl
  | n + 1 => by
    show [x] ++ rep [x] n = _
    rw [rep_one x n, List.replicate_succ]; rfl
theorem flatR_append (l m : List (Int × Int)) : flatR (l ++ m) = flatR l ++ flatR m := by simp [flatR]
/-- The runs that have ended are the word so far, and all behind is one letter. -/
theorem runsTo_flat (zs : List Int) : ∀ k, k ≤ zs.length → flatR (runsTo zs k).1 = zs.take (runsTo zs k).2 ∧ (∀ i, (runsTo zs k).2 ≤ i → i ≤ k → i < zs.length → zs.getD i 0 = zs.getD k 0)
  | 0, _ => ⟨by simp [runsTo, flatR], fun i _ h _ => by rw [Nat.le_zero.1 h]⟩
  | k + 1, hk => by
    obtain ⟨h1, h2⟩ := runsTo_flat zs k (by omega)
    have hle := (runsTo_le zs k).1
    unfold runsTo
    split
    · rename_i hc
      refine ⟨h1, fun i ha hb hl => ?_⟩
      rcases Nat.lt_or_ge k i with hi | hi
      · rw [show i = k + 1 by omega]
      · rw [h2 i ha hi hl, hc.2]
    · refine ⟨?_, fun i ha hb _ => by rw [show i = k + 1 by simp at ha; omega]⟩
      rw [flatR_append, h1]
      have e : flatR [(zs.getD k 0, ((k + 1 - (runsTo zs k).2 : Nat) : Int))] = List.replicate (k + 1 - (runsTo zs k).2) (zs.getD k 0) := by
        simp only [flatR, List.flatMap_cons, List.flatMap_nil, List.append_nil]
        rw [rep_one, Int.toNat_natCast]
      rw [e]
      generalize (runsTo zs k).2 = b at *
      show zs.take b ++ List.replicate (k + 1 - b) (zs.getD k 0) = zs.take (k + 1)
      apply List.ext_getElem
      · simp; omega
      · intro i ha hb
        simp only [List.length_take] at hb
        by_cases hi : i < b
        · rw [List.getElem_append_left (by simp; omega)]
          simp
        · rw [List.getElem_append_right (by simp; omega)]
          simp only [List.getElem_replicate, List.getElem_take]
          have := h2 i (by omega) (by omega) (by omega)
          rw [← this, List.getD_eq_getElem?_getD, List.getElem?_eq_getElem (by omega)]; rfl
theorem runsTo_end (zs : List Int) (h : 1 ≤ zs.length) : (runsTo zs zs.length).2 = zs.length := by
  obtain ⟨k, hk⟩ : ∃ k, zs.length = k + 1 := ⟨zs.length - 1, by omega⟩
  rw [hk]
  unfold runsTo
  rw [if_neg (by omega)]
theorem runsTo_ok {g : Nat} (zs : List Int) (hz : ∀ x ∈ zs, x ≠ 0 ∧ x.natAbs ≤ g) (hl : zs.length ≤ 4000) : ∀ k, k ≤ zs.length → ∀ r ∈ (runsTo zs k).1, RunOK g r
  | 0, _ => fun r hr => by simp [runsTo] at hr
  | k + 1, hk => by
    have ih := runsTo_ok zs hz hl k (by omega)
    have hle := (runsTo_le zs k).1
    unfold runsTo
    split
    · exact ih
    · intro r hr
      simp only [List.mem_append, List.mem_singleton] at hr
      rcases hr with hr | rfl
      · exact ih r hr
      · have hm : zs.getD k 0 ∈ zs := by
          rw [List.getD_eq_getElem?_getD, List.getElem?_eq_getElem (by omega)]
          exact List.getElem_mem (by omega)
        have := hz _ hm
        exact ⟨this.1, this.2, by simp only; omega, by simp only; omega⟩

/-- The text of any word. -/
def textA (zs : List Int) : List UInt8 := if zs = [] then [49] else textW zs
theorem word_text {s : ByteArray} {g o : Nat} {zs : List Int} {pre suf : List UInt8} (hg : g ≤ 16) (hz : ∀ x ∈ zs, x ≠ 0 ∧ x.natAbs ≤ g) (hl : zs.length ≤ 4000) (hf : Free (nx suf)) (hst : nx suf ≠ 42)
    (h : s.data.toList = pre ++ (textA zs ++ suf)) : RP s g .word o [] pre.length (pre.length + (textA zs).length) zs := by
  unfold textA at h ⊢
  split at h
  · rename_i e
    subst e
    rw [if_pos rfl]
    have h2 : s.data.toList = (pre ++ [49]) ++ suf := by rw [h]; simp
    have hk := skp_at h (by simp [nx])
    have hc := chAt_at h
    have hk2 := skp_at h2 hf.blank
    have hc2 := chAt_at h2
    have e : (pre ++ [(49 : UInt8)]).length = pre.length + 1 := by simp
    rw [e] at hk2 hc2
    have hi : RP s g .item o [] pre.length (pre.length + 1) [] := .one hk (by rw [hc]; rfl)
    have hfac : RP s g .factor o [] pre.length (pre.length + 1) [] := .plain hi (by simp) hk2 (by rw [hc2]; exact hf.hat)
    refine RP.last (acc := []) hk hfac (by simp) hk2 ?_
    show chAt s (pre.length + 1) ≠ 42
    rw [hc2]; exact hst
  · rename_i e
    rw [if_neg e]
    have hp : 1 ≤ zs.length := by cases zs with
      | nil => exact absurd rfl e
      | cons => simp
    have h1 := runsTo_flat zs zs.length (Nat.le_refl _)
    rw [runsTo_end zs hp, List.take_length] at h1
    have h2 : textW zs = joinT (runsTo zs zs.length).1 := joinR_T _ _ rfl
    have hne : (runsTo zs zs.length).1 ≠ [] := by
      intro e
      have := textW_pos hp
      rw [h2, e] at this; cases this
    rw [h2] at h ⊢
    have := word_at (o := o) hg hf hst (runsTo zs zs.length).1 pre [] hne (runsTo_ok zs hz hl zs.length (Nat.le_refl _)) h (by rw [List.nil_append, h1.1]; exact hl)
    rw [List.nil_append, h1.1] at this
    exact this
theorem joinT_len {g : Nat} : ∀ l : List (Int × Int), (∀ r ∈ l, RunOK g r) → (joinT l).length ≤ 24 * l.length
  | [], _ => by simp [joinT]
  | [x], h => by
    have hx := h x (by simp)
    have := hx.pos
    have := hx.max
    have := runB_len (x := x.1) (n := x.2) (by omega)
    simp [joinT]; omega
  | x :: y :: t, h => by
    have hx := h x (by simp)
    have := hx.pos
    have := hx.max
    have := runB_len (x := x.1) (n := x.2) (by omega)
    have := joinT_len (y :: t) (fun r hr => h r (List.mem_cons_of_mem _ hr))
    simp [joinT] at this ⊢; omega
theorem textA_len {g : Nat} {zs : List Int} (hz : ∀ x ∈ zs, x ≠ 0 ∧ x.natAbs ≤ g) (hl : zs.length ≤ 200) : 1 ≤ (textA zs).length ∧ (textA zs).length ≤ 4800 := by
  unfold textA
  split
  · simp
  · rename_i e
    have hp : 1 ≤ zs.length := by cases zs with
      | nil => exact absurd rfl e
      | cons => simp
    have h1 := textW_pos hp
    have h2 : textW zs = joinT (runsTo zs zs.length).1 := joinR_T _ _ rfl
    have h3 := joinT_len _ (runsTo_ok zs hz (by omega) zs.length (Nat.le_refl _))
    have h4 := (runsTo_le zs zs.length).2
    rw [h2] at h1 ⊢
    omega
theorem textA_first {g : Nat} {zs : List Int} (hg : g ≤ 16) (hz : ∀ x ∈ zs, x ≠ 0 ∧ x.natAbs ≤ g) (hl : zs.length ≤ 200) (suf : List UInt8) : nx (textA zs ++ suf) ≠ 32 := by
  unfold textA
  split
  · simp [nx]
  · rename_i e
    have hp : 1 ≤ zs.length := by cases zs with
      | nil => exact absurd rfl e
      | cons => simp
    have h2 : textW zs = joinT (runsTo zs zs.length).1 := joinR_T _ _ rfl
    have h3 := runsTo_ok zs hz (by omega) zs.length (Nat.le_refl _)
    have h1 := textW_pos hp
    rw [h2] at h1 ⊢
    generalize (runsTo zs zs.length).1 = l at *
    match l, h1, h3 with
    | [], h1, _ => cases h1
    | [x], _, h3 => exact run_first hg (h3 x (by simp)) suf
    | x :: y :: t, _, h3 =>
      show nx (runB x.1 x.2 ++ 42 :: joinT (y :: t) ++ suf) ≠ 32
      rw [List.append_assoc]
      exact run_first hg (h3 x (by simp)) _
/-- The last byte of a text is no blank, when something is read up to its end. -/
theorem free_end : Free (nx []) := ⟨by simp [nx], by simp [nx], by simp [nx]⟩
def bytesOf (l : List UInt8) : ByteArray := ⟨l.toArray⟩
theorem bytesOf_size (l : List UInt8) : (bytesOf l).size = l.length := by
  show l.toArray.size = _
  simp
theorem bytesOf_list (l : List UInt8) : (bytesOf l).data.toList = l := rfl
/-- No blank stands in what Text writes. -/
theorem run_noblank {g : Nat} {r : Int × Int} (hg : g ≤ 16) (hr : RunOK g r) : ∀ c ∈ runB r.1 r.2, c ≠ 32 := by
  have h1 := hr.ne
  have h2 := hr.le
  have h3 := hr.pos
  have h4 := hr.max
  obtain ⟨m, hm⟩ := Int.eq_ofNat_of_zero_le (by omega : 0 ≤ r.2)
  have hd := digL m (by omega)
  have hlet : ∀ k : Nat, k ≤ 30 → UInt8.ofNat (96 + k) ≠ 32 := fun k hk e => by
    have := congrArg UInt8.toNat e
    rw [letter_nat _ (by omega)] at this
    have e2 : ((32 : UInt8).toNat) = 32 := rfl
    omega
  have hdig : ∀ c ∈ Lib.decDigits m, c ≠ 32 := fun c hc e => by
    have := hd.digit c hc
    rw [e] at this
    have e2 : ((32 : UInt8).toNat) = 32 := rfl
    omega
  rw [hm]
  unfold runB
  intro c hc
  split at hc
  · rw [Lib.itoa_neg m (by omega)] at hc
    simp only [List.mem_cons] at hc
    rcases hc with rfl | rfl | rfl | hc
    · exact hlet _ (by omega)
    · decide
    · decide
    · exact hdig c hc
  · split at hc
    · simp only [List.mem_cons, List.not_mem_nil, or_false] at hc
      subst hc; exact hlet _ (by omega)
    · rw [Lib.itoa_nonneg] at hc
      simp only [List.mem_cons] at hc
      rcases hc with rfl | rfl | hc
      · exact hlet _ (by omega)
      · decide
      · exact hdig c hc
theorem join_noblank {g : Nat} (hg : g ≤ 16) : ∀ l : List (Int × Int), (∀ r ∈ l, RunOK g r) → ∀ c ∈ joinT l, c ≠ 32
  | [], _ => fun c hc => by cases hc
  | [x], h => run_noblank hg (h x (by simp))
  | x :: y :: t, h => fun c hc => by
    have ih := join_noblank hg (y :: t) (fun r hr => h r (List.mem_cons_of_mem _ hr))
    rw [joinT] at hc
    simp only [List.mem_append, List.mem_cons] at hc
    rcases hc with hc | rfl | hc
    · exact run_noblank hg (h x (by simp)) c hc
    · decide
    · exact ih c hc
theorem textA_noblank {g : Nat} {zs : List Int} (hg : g ≤ 16) (hz : ∀ x ∈ zs, x ≠ 0 ∧ x.natAbs ≤ g) (hl : zs.length ≤ 200) : ∀ c ∈ textA zs, c ≠ 32 := by
  unfold textA
  split
  · intro c hc
    simp only [List.mem_cons, List.not_mem_nil, or_false] at hc
    subst hc; decide
  · have h2 : textW zs = joinT (runsTo zs zs.length).1 := joinR_T _ _ rfl
    rw [h2]
    exact join_noblank hg _ (runsTo_ok zs hz (by omega) zs.length (Nat.le_refl _))
theorem noblank_at {l : List UInt8} (h : ∀ c ∈ l, c ≠ 32) (i : Nat) : chAt (bytesOf l) i ≠ 32 := by
  rcases Nat.lt_or_ge i l.length with hi | hi
  · have := chAt_mid (s := bytesOf l) (pre := []) (d := l) (suf := []) (by simp [bytesOf_list]) (i := i) (by simp) (by simpa using hi)
    rw [this]
    have hm := h (l.getD i 0) (by rw [List.getD_eq_getElem?_getD, List.getElem?_eq_getElem hi]; exact List.getElem_mem hi)
    intro e
    apply hm
    apply UInt8.toNat_inj.1
    have e2 : ((32 : UInt8).toNat) = 32 := rfl
    simp at e
    simp
    omega
  · rw [chAt_out (by rw [bytesOf_size]; exact hi)]; decide
theorem good_text {g : Nat} {zs : List Int} (hg : 1 ≤ g ∧ g ≤ 16) (hz : ∀ x ∈ zs, x ≠ 0 ∧ x.natAbs ≤ g) (hl : zs.length ≤ 200) : Good (bytesOf (textA zs)) g zs := by
  have hlen := textA_len hz hl
  have hnb := textA_noblank hg.2 hz hl
  refine ⟨by rw [bytesOf_size]; omega, by rw [bytesOf_size]; omega, hg, noblank_at hnb _, noblank_at hnb _, ?_⟩
  have := word_text (s := bytesOf (textA zs)) (o := 0) (pre := []) (suf := []) hg.2 hz (by omega) free_end (by simp [nx]) (by simp [bytesOf_list])
  rw [bytesOf_size]
  simpa using this
/-- "(" ++ s ++ ")^" ++ a digit. -/
theorem good_power {g n : Nat} {zs : List Int} (hg : 1 ≤ g ∧ g ≤ 16) (hz : ∀ x ∈ zs, x ≠ 0 ∧ x.natAbs ≤ g) (hl : zs.length ≤ 200) (hn : n ≤ 9) : Good (bytesOf (40 :: (textA zs ++ 41 :: 94 :: Lib.decDigits n))) g (rep zs n) := by
  have hlen := textA_len hz hl
  have hnb := textA_noblank hg.2 hz hl
  have hd := digL n (by omega)
  have hnb2 : ∀ c ∈ 40 :: (textA zs ++ 41 :: 94 :: Lib.decDigits n), c ≠ 32 := by
    intro c hc
    simp only [List.mem_cons, List.mem_append] at hc
    rcases hc with rfl | hc | rfl | rfl | hc
    · decide
    · exact hnb c hc
    · decide
    · decide
    · intro e
      have := hd.digit c hc
      rw [e] at this
      have e2 : ((32 : UInt8).toNat) = 32 := rfl
      omega
  have hsz : (40 :: (textA zs ++ 41 :: 94 :: Lib.decDigits n)).length = (textA zs).length + (Lib.decDigits n).length + 3 := by simp; omega
  have hfew := hd.few
  refine ⟨by rw [bytesOf_size, hsz]; omega, by rw [bytesOf_size, hsz]; omega, hg, noblank_at hnb2 _, noblank_at hnb2 _, ?_⟩
  have hlist : (bytesOf (40 :: (textA zs ++ 41 :: 94 :: Lib.decDigits n))).data.toList = 40 :: (textA zs ++ 41 :: 94 :: Lib.decDigits n) := rfl
  generalize bytesOf (40 :: (textA zs ++ 41 :: 94 :: Lib.decDigits n)) = s at *
  have hss : s.size = (textA zs).length + (Lib.decDigits n).length + 3 := by rw [← hsz, ← hlist]; simp
  have h0 : s.data.toList = [] ++ (40 :: (textA zs ++ 41 :: 94 :: Lib.decDigits n)) := by rw [hlist]; rfl
  have h1 : s.data.toList = [40] ++ (textA zs ++ (41 :: 94 :: Lib.decDigits n)) := by rw [hlist]; rfl
  have h2 : s.data.toList = ([40] ++ textA zs) ++ (41 :: 94 :: Lib.decDigits n) := by rw [hlist]; simp
  have h3 : s.data.toList = [] ++ ((40 :: (textA zs ++ [41])) ++ 94 :: (Lib.decDigits n ++ [])) := by rw [hlist]; simp
  have h4 : s.data.toList = (40 :: (textA zs ++ 41 :: 94 :: Lib.decDigits n)) ++ [] := by rw [hlist]; simp
  have hw := word_text (s := s) (o := 1) (pre := [40]) hg.2 hz (by omega) ⟨by simp [nx], by simp [nx], by simp [nx]⟩ (by simp [nx]) h1
  have hk0 := skp_at h0 (by simp [nx])
  have hc0 := chAt_at h0
  have hk2 := skp_at h2 (by simp [nx])
  have hc2 := chAt_at h2
  have hk4 := skp_at h4 (by simp [nx])
  have hc4 := chAt_at h4
  have e1 : ([40] ++ textA zs).length = 1 + (textA zs).length := by simp; omega
  rw [e1] at hk2 hc2
  rw [hsz] at hk4 hc4
  simp only [List.length_nil, List.length_cons, Nat.zero_add] at hw hk0 hc0
  have hi : RP s g .item 0 [] 0 (1 + (textA zs).length + 1) zs := .group hk0 (by rw [hc0]; rfl) (by omega) hw hk2 (by rw [hc2]; rfl)
  have hnl : n * zs.length ≤ 4000 := Nat.le_trans (Nat.mul_le_mul hn hl) (by decide)
  have e5 : ([] : List UInt8).length + (40 :: (textA zs ++ [41])).length = 1 + (textA zs).length + 1 := by simp; omega
  have hp := factor_pow (n := n) (p := 0) (v := zs) (o := 0) (g := g) (by omega) hnl (by omega) h3 (by rw [e5]; exact hi) free_end
  rw [e5] at hp
  have e6 : zp zs (n : Int) = rep zs n := by unfold Go.Proofs.YtlpepholcehojaaDoor.zp; rw [if_neg (by omega)]; rfl
  rw [e6] at hp
  have e7 : 1 + (textA zs).length + 1 + 1 + (Lib.decDigits n).length = s.size := by rw [hss]; omega
  rw [e7] at hp
  rw [← hss] at hk4 hc4
  exact RP.last (acc := []) hk0 hp (by rw [List.nil_append, rep_len]; exact hnl) hk4 (by rw [hc4]; simp [nx])
/-- "[" ++ s ++ "," ++ t ++ "]". -/
theorem good_comm {g : Nat} {xs ys : List Int} (hg : 1 ≤ g ∧ g ≤ 16) (hx : ∀ x ∈ xs, x ≠ 0 ∧ x.natAbs ≤ g) (hy : ∀ x ∈ ys, x ≠ 0 ∧ x.natAbs ≤ g) (hxl : xs.length ≤ 200) (hyl : ys.length ≤ 200) : Good (bytesOf (91 :: (textA xs ++ 44 :: (textA ys ++ [93])))) g (winv xs ++ (winv ys ++ (xs ++ ys))) := by
  have hlen := textA_len hx hxl
  have hlen2 := textA_len hy hyl
  have hnb := textA_noblank hg.2 hx hxl
  have hnb2 := textA_noblank hg.2 hy hyl
  have hnb3 : ∀ c ∈ 91 :: (textA xs ++ 44 :: (textA ys ++ [93])), c ≠ 32 := by
    intro c hc
    simp only [List.mem_cons, List.mem_append, List.not_mem_nil, or_false] at hc
    rcases hc with rfl | hc | rfl | hc | rfl
    · decide
    · exact hnb c hc
    · decide
    · exact hnb2 c hc
    · decide
  have hsz : (91 :: (textA xs ++ 44 :: (textA ys ++ [93]))).length = (textA xs).length + (textA ys).length + 3 := by simp; omega
  refine ⟨by rw [bytesOf_size, hsz]; omega, by rw [bytesOf_size, hsz]; omega, hg, noblank_at hnb3 _, noblank_at hnb3 _, ?_⟩
  have hlist : (bytesOf (91 :: (textA xs ++ 44 :: (textA ys ++ [93])))).data.toList = 91 :: (textA xs ++ 44 :: (textA ys ++ [93])) := rfl
  generalize bytesOf (91 :: (textA xs ++ 44 :: (textA ys ++ [93]))) = s at *
  have hss : s.size = (textA xs).length + (textA ys).length + 3 := by rw [← hsz, ← hlist]; simp
  have h0 : s.data.toList = [] ++ (91 :: (textA xs ++ 44 :: (textA ys ++ [93]))) := by rw [hlist]; rfl
  have h1 : s.data.toList = [91] ++ (textA xs ++ (44 :: (textA ys ++ [93]))) := by rw [hlist]; rfl
  have h2 : s.data.toList = ([91] ++ textA xs) ++ (44 :: (textA ys ++ [93])) := by rw [hlist]; simp
  have h3 : s.data.toList = ([91] ++ textA xs ++ [44]) ++ (textA ys ++ [93]) := by rw [hlist]; simp
  have h4 : s.data.toList = ([91] ++ textA xs ++ [44] ++ textA ys) ++ [93] := by rw [hlist]; simp
  have h5 : s.data.toList = (91 :: (textA xs ++ 44 :: (textA ys ++ [93]))) ++ [] := by rw [hlist]; simp
  have hw := word_text (s := s) (o := 1) (pre := [91]) hg.2 hx (by omega) ⟨by simp [nx], by simp [nx], by simp [nx]⟩ (by simp [nx]) h1
  have hw2 := word_text (s := s) (o := 1) hg.2 hy (by omega) ⟨by simp [nx], by simp [nx], by simp [nx]⟩ (by simp [nx]) h3
  have hk0 := skp_at h0 (by simp [nx])
  have hc0 := chAt_at h0
  have hk2 := skp_at h2 (by simp [nx])
  have hc2 := chAt_at h2
  have hk4 := skp_at h4 (by simp [nx])
  have hc4 := chAt_at h4
  have hk5 := skp_at h5 (by simp [nx])
  have hc5 := chAt_at h5
  have e1 : ([91] ++ textA xs).length = 1 + (textA xs).length := by simp; omega
  have e3 : ([91] ++ textA xs ++ [44]).length = 1 + (textA xs).length + 1 := by simp; omega
  have e4 : ([91] ++ textA xs ++ [44] ++ textA ys).length = 1 + (textA xs).length + 1 + (textA ys).length := by simp; omega
  rw [e1] at hk2 hc2
  rw [e3] at hw2
  rw [e4] at hk4 hc4
  rw [hsz, ← hss] at hk5 hc5
  simp only [List.length_nil, List.length_cons, Nat.zero_add] at hw hk0 hc0
  have hi : RP s g .item 0 [] 0 (1 + (textA xs).length + 1 + (textA ys).length + 1) (winv xs ++ (winv ys ++ (xs ++ ys))) :=
    .comm hk0 (by rw [hc0]; rfl) (by omega) hw hk2 (by rw [hc2]; rfl) hw2 hk4 (by rw [hc4]; rfl) (by omega) (by omega)
  have e7 : 1 + (textA xs).length + 1 + (textA ys).length + 1 = s.size := by rw [hss]; omega
  rw [e7] at hi
  have hvl : (winv xs ++ (winv ys ++ (xs ++ ys))).length ≤ 4000 := by simp [winv_length]; omega
  exact RP.last (acc := []) hk0 (.plain hi hvl hk5 (by rw [hc5]; simp [nx])) (by simpa using hvl) hk5 (by rw [hc5]; simp [nx])
end Go.Proofs.YtlpepholcehojaaDoor
