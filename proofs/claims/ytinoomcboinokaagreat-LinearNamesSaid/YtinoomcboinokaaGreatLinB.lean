/- LinMeet, LinPre, LinRank, joined. -/
import Derived.Test.YtinoomcboinokaaGreatLinA

/- MATHEMATICS: rows written twice, and rows followed by zeros: what begins with zeros in their span lies in both spans (the intersection). -/
namespace Go.Proofs.YtinoomcboinokaaGreat

theorem SpL.append {p : Int} {M : List (Nat → Int)} : ∀ {L : List (Nat → Int)} {y : Nat → Int}, SpL p (L ++ M) y ↔ ∃ u, SpL p L u ∧ SpL p M (fun i => y i - u i)
  | [], y => by
    constructor
    · exact fun h => ⟨fun _ => 0, fun _ => ⟨0, by simp⟩, SpL.congr h fun i => ⟨0, by show y i - 0 - y i = p * 0; omega⟩⟩
    · rintro ⟨u, hu, h⟩
      exact h.congr fun i => by
        show p ∣ y i - (y i - u i)
        rw [show y i - (y i - u i) = u i by omega]
        exact hu i
  | v :: L, y => by
    constructor
    · rintro ⟨t, ht⟩
      obtain ⟨u, hu, h⟩ := (SpL.append (L := L)).1 ht
      refine ⟨fun i => u i + t * v i, ⟨t, hu.congr fun i => ⟨0, by show u i + t * v i - t * v i - u i = p * 0; omega⟩⟩, h.congr fun i => ⟨0, ?_⟩⟩
      show y i - (u i + t * v i) - (y i - t * v i - u i) = p * 0
      omega
    · rintro ⟨u, ⟨t, ht⟩, h⟩
      refine ⟨t, (SpL.append (L := L)).2 ⟨_, ht, h.congr fun i => ⟨0, ?_⟩⟩⟩
      show y i - t * v i - (u i - t * v i) - (y i - u i) = p * 0
      omega
/-- A row of n entries, written twice. -/
def twice (n : Nat) (a : Nat → Int) (i : Nat) : Int := if i < n then a i else a (i - n)
theorem SpL.twice {p : Int} {n : Nat} : ∀ {A : List (Nat → Int)} {u : Nat → Int}, SpL p (A.map (Go.Proofs.YtinoomcboinokaaGreat.twice n)) u ↔ ∃ a, SpL p A a ∧ ∀ i, p ∣ u i - Go.Proofs.YtinoomcboinokaaGreat.twice n a i
  | [], u => by
    constructor
    · intro h
      refine ⟨fun _ => 0, fun _ => ⟨0, by simp⟩, fun i => ?_⟩
      have e : Go.Proofs.YtinoomcboinokaaGreat.twice n (fun _ => 0) i = 0 := by unfold Go.Proofs.YtinoomcboinokaaGreat.twice; split <;> rfl
      rw [e, Int.sub_zero]; exact h i
    · rintro ⟨a, ha, h⟩ i
      have h1 : p ∣ Go.Proofs.YtinoomcboinokaaGreat.twice n a i := by
        unfold Go.Proofs.YtinoomcboinokaaGreat.twice
        split
        · exact ha _
        · exact ha _
      have := Int.dvd_add (h i) h1
      rwa [Int.sub_add_cancel] at this
  | v :: A, u => by
    have htw : ∀ (t : Int) (a : Nat → Int) (i : Nat), Go.Proofs.YtinoomcboinokaaGreat.twice n (fun i => a i + t * v i) i = Go.Proofs.YtinoomcboinokaaGreat.twice n a i + t * Go.Proofs.YtinoomcboinokaaGreat.twice n v i := fun t a i => by
      unfold Go.Proofs.YtinoomcboinokaaGreat.twice
      split <;> rfl
    constructor
    · rintro ⟨t, ht⟩
      obtain ⟨a, ha, h⟩ := (SpL.twice (A := A)).1 ht
      refine ⟨fun i => a i + t * v i, ⟨t, ha.congr fun i => ⟨0, by show a i + t * v i - t * v i - a i = p * 0; omega⟩⟩, fun i => ?_⟩
      rw [htw, show u i - (Go.Proofs.YtinoomcboinokaaGreat.twice n a i + t * Go.Proofs.YtinoomcboinokaaGreat.twice n v i) = u i - t * Go.Proofs.YtinoomcboinokaaGreat.twice n v i - Go.Proofs.YtinoomcboinokaaGreat.twice n a i by omega]
      exact h i
    · rintro ⟨a, ⟨t, ht⟩, h⟩
      refine ⟨t, (SpL.twice (A := A)).2 ⟨_, ht, fun i => ?_⟩⟩
      have h1 := htw t (fun i => a i - t * v i) i
      have e : (fun i => a i - t * v i + t * v i) = a := by funext i; omega
      rw [e] at h1
      have h2 := h i
      rw [h1] at h2
      rwa [show u i - (Go.Proofs.YtinoomcboinokaaGreat.twice n (fun i => a i - t * v i) i + t * Go.Proofs.YtinoomcboinokaaGreat.twice n v i) = u i - t * Go.Proofs.YtinoomcboinokaaGreat.twice n v i - Go.Proofs.YtinoomcboinokaaGreat.twice n (fun i => a i - t * v i) i by omega] at h2
/-- What is in a span of wide rows is 0 behind them. -/
theorem SpL.wide {p : Int} {n : Nat} : ∀ {L : List (Nat → Int)} {x : Nat → Int}, (∀ v ∈ L, Wide n v) → SpL p L x → ∀ i, n ≤ i → p ∣ x i
  | [], _, _, h, i, _ => h i
  | v :: L, x, hv, ⟨t, ht⟩, i, hi => by
    have h1 := SpL.wide (fun u hu => hv u (List.mem_cons_of_mem _ hu)) ht i hi
    have h2 : x i - t * v i = x i := by rw [hv v (by simp) i hi, Int.mul_zero, Int.sub_zero]
    have h3 : p ∣ x i - t * v i := h1
    rwa [h2] at h3
theorem meet_span {p : Int} {n : Nat} {A B : List (Nat → Int)} (hA : ∀ v ∈ A, Wide n v) (hB : ∀ v ∈ B, Wide n v) (x : Nat → Int) :
    SpL p (A.map (twice n) ++ B) (behind n x) ↔ SpL p A x ∧ SpL p B x := by
  constructor
  · intro h
    obtain ⟨u, hu, hb⟩ := SpL.append.1 h
    obtain ⟨a, ha, hua⟩ := SpL.twice.1 hu
    have wa := SpL.wide hA ha
    have wb := SpL.wide hB hb
    have hxa : ∀ i, p ∣ x i - a i := fun i => by
      have h1 := wb (n + i) (by omega)
      have h2 := hua (n + i)
      have e : twice n a (n + i) = a i := by unfold twice; rw [if_neg (by omega), Nat.add_sub_cancel_left]
      rw [e] at h2
      have h3 : p ∣ behind n x (n + i) - u (n + i) := h1
      rw [behind_hi] at h3
      have := Int.dvd_add h3 h2
      rwa [show x i - u (n + i) + (u (n + i) - a i) = x i - a i by omega] at this
    refine ⟨ha.congr hxa, (hb.smul (-1)).congr fun i => ?_⟩
    show p ∣ x i - -1 * (behind n x i - u i)
    rcases Nat.lt_or_ge i n with hi | hi
    · have h2 := hua i
      have e : twice n a i = a i := by unfold twice; rw [if_pos hi]
      rw [e] at h2
      rw [behind_lo x hi]
      have := Int.dvd_sub (hxa i) h2
      rwa [show x i - a i - (u i - a i) = x i - -1 * (0 - u i) by omega] at this
    · have h1 : p ∣ behind n x i - u i := wb i hi
      have h2 := Int.dvd_add (hxa i) (wa i hi)
      have := Int.dvd_add h2 h1
      rwa [show x i - a i + a i + (behind n x i - u i) = x i - -1 * (behind n x i - u i) by omega] at this
  · rintro ⟨ha, hb⟩
    have wb := SpL.wide hB hb
    refine SpL.append.2 ⟨twice n x, SpL.twice.2 ⟨x, ha, fun i => ⟨0, by omega⟩⟩, (hb.smul (-1)).congr fun i => ?_⟩
    show p ∣ behind n x i - twice n x i - -1 * x i
    rcases Nat.lt_or_ge i n with hi | hi
    · rw [behind_lo x hi]
      unfold twice
      rw [if_pos hi]
      exact ⟨0, by omega⟩
    · have e : behind n x i = twice n x i := by unfold behind twice; rw [if_neg (by omega), if_neg (by omega)]
      rw [e, show twice n x i - twice n x i - -1 * x i = x i by omega]
      exact wb i hi
end Go.Proofs.YtinoomcboinokaaGreat

/- MATHEMATICS: the kept rows whose pivots lie below n, cut off behind their first n entries; the number of pivots is that of these and that of the rows behind. -/
namespace Go.Proofs.YtinoomcboinokaaGreat

/-- The first n entries, and zeros. -/
def trunc (n : Nat) (x : Nat → Int) (i : Nat) : Int := if i < n then x i else 0
def preR (n : Nat) (R : Nat → Option (Nat → Int)) (k : Nat) : Option (Nat → Int) := if k < n then (R k).map (trunc n) else none
theorem preR_some {n : Nat} {R : Nat → Option (Nat → Int)} {k : Nat} {s : Nat → Int} (h : preR n R k = some s) : k < n ∧ ∃ r, R k = some r ∧ s = trunc n r := by
  unfold preR at h
  by_cases hk : k < n
  · rw [if_pos hk] at h
    cases hR : R k with
    | none => rw [hR] at h; cases h
    | some r =>
      rw [hR] at h
      injection h with h
      exact ⟨hk, r, rfl, h.symm⟩
  · rw [if_neg hk] at h; cases h
theorem preR_is {n : Nat} {R : Nat → Option (Nat → Int)} {k : Nat} : (preR n R k).isSome = (decide (k < n) && (R k).isSome) := by
  unfold preR
  by_cases hk : k < n
  · rw [if_pos hk, decide_eq_true hk]; simp
  · rw [if_neg hk, decide_eq_false hk]; rfl
theorem pre_ech {p : Int} (hp : 1 < p) {n W : Nat} {R : Nat → Option (Nat → Int)} (hE : Ech p W R) : Ech p n (preR n R) := by
  refine ⟨fun k s h => ?_, fun k s h => ?_, fun k s i h hi => ?_, fun k s l h hl hne => ?_, fun k s i h => ?_⟩
  all_goals obtain ⟨hk, r, hr, rfl⟩ := preR_some h
  · exact hk
  · show (if k < n then r k else 0) = 1
    rw [if_pos hk]; exact hE.one _ r hr
  · show (if i < n then r i else 0) = 0
    rw [hE.lead _ r i hr hi]; split <;> rfl
  · rw [preR_is, Bool.and_eq_true] at hl
    show (if l < n then r l else 0) = 0
    rw [hE.other _ r l hr hl.2 hne]; split <;> rfl
  · show 0 ≤ (if i < n then r i else 0) ∧ (if i < n then r i else 0) < p
    split
    · exact hE.low _ r i hr
    · omega
/-- The span of the cut rows is the span, cut. -/
theorem pre_span {p : Int} (hp : 1 < p) {n W : Nat} {R : Nat → Option (Nat → Int)} (hE : Ech p W R) (x : Nat → Int) : InR p n (preR n R) x ↔ ∃ y, InR p W R y ∧ ∀ i, p ∣ x i - trunc n y i := by
  have hE' := pre_ech hp (n := n) hE
  constructor
  · intro h
    refine InR.ind (P := fun x => ∃ y, InR p W R y ∧ ∀ i, p ∣ x i - trunc n y i) ⟨fun _ => 0, InR.nil, fun i => ⟨0, ?_⟩⟩ ?_ ?_ h
    · unfold trunc; split <;> simp
    · rintro u v ⟨y, hy, hu⟩ e
      refine ⟨y, hy, fun i => ?_⟩
      have := Int.dvd_add (e i) (hu i)
      rwa [show v i - u i + (u i - trunc n y i) = v i - trunc n y i by omega] at this
    · rintro u t k s ⟨y, hy, hu⟩ hs
      obtain ⟨_, r, hr, rfl⟩ := preR_some hs
      refine ⟨fun i => y i + t * r i, hy.add ((InR.row hE hr).smul t), fun i => ?_⟩
      have e : trunc n (fun i => y i + t * r i) i = trunc n y i + t * trunc n r i := by
        unfold trunc
        split
        · rfl
        · rw [Int.mul_zero]; rfl
      rw [e, show u i + t * trunc n r i - (trunc n y i + t * trunc n r i) = u i - trunc n y i by omega]
      exact hu i
  · rintro ⟨y, hy, hx⟩
    refine InR.congr (u := trunc n y) ?_ hx
    refine InR.ind (P := fun y => InR p n (preR n R) (trunc n y)) ?_ ?_ ?_ hy
    · refine InR.nil.congr fun i => ⟨0, ?_⟩
      unfold trunc; split <;> simp
    · intro u v hu e
      refine hu.congr fun i => ?_
      unfold trunc
      split
      · exact e i
      · exact ⟨0, by omega⟩
    · intro u t k r hu hr
      have e : ∀ i, trunc n (fun i => u i + t * r i) i = trunc n u i + t * trunc n r i := fun i => by
        unfold trunc
        split
        · rfl
        · rw [Int.mul_zero]; rfl
      by_cases hk : k < n
      · have hs : preR n R k = some (trunc n r) := by
          unfold preR
          rw [if_pos hk, hr]; rfl
        refine (hu.add ((InR.row hE' hs).smul t)).congr fun i => ⟨0, ?_⟩
        rw [e i]
        show trunc n u i + t * trunc n r i - (trunc n u i + t * trunc n r i) = p * 0
        omega
      · refine hu.congr fun i => ⟨0, ?_⟩
        rw [e i]
        have hz : trunc n r i = 0 := by
          unfold trunc
          split
          · exact hE.lead k r i hr (by omega)
          · rfl
        rw [hz, Int.mul_zero]; omega
/-- The pivots are those below n and those behind. -/
theorem pivL_split (n W : Nat) (R : Nat → Option (Nat → Int)) : (pivL (n + W) R).length = (pivL n (preR n R)).length + (pivL W (afterR n R)).length := by
  unfold pivL
  rw [List.range_add, List.filter_append, List.length_append, List.filter_map, List.length_map]
  congr 1
  · congr 1
    apply List.filter_congr
    intro k hk
    rw [preR_is, decide_eq_true (List.mem_range.1 hk), Bool.true_and]
  · congr 1
    apply List.filter_congr
    intro k _
    show (R (n + k)).isSome = (afterR n R k).isSome
    unfold afterR
    rw [Option.isSome_map]
end Go.Proofs.YtinoomcboinokaaGreat

/- MATHEMATICS: the ranks of the sum and of the intersection are together those of both spans. -/
namespace Go.Proofs.YtinoomcboinokaaGreat

theorem pivL_congr {n : Nat} {R R' : Nat → Option (Nat → Int)} (h : ∀ k, k < n → (R k).isSome = (R' k).isSome) : pivL n R = pivL n R' := by
  unfold pivL
  apply List.filter_congr
  intro k hk
  exact h k (List.mem_range.1 hk)
/-- The rows of two lists side by side. -/
def dirR (n : Nat) (RA RB : Nat → Option (Nat → Int)) (k : Nat) : Option (Nat → Int) := if k < n then RA k else (RB (k - n)).map (behind n)
theorem dirR_some {n : Nat} {RA RB : Nat → Option (Nat → Int)} {k : Nat} {s : Nat → Int} (h : dirR n RA RB k = some s) : (k < n ∧ RA k = some s) ∨ (n ≤ k ∧ ∃ r, RB (k - n) = some r ∧ s = behind n r) := by
  unfold dirR at h
  by_cases hk : k < n
  · rw [if_pos hk] at h
    exact .inl ⟨hk, h⟩
  · rw [if_neg hk] at h
    cases hR : RB (k - n) with
    | none => rw [hR] at h; cases h
    | some r =>
      rw [hR] at h
      injection h with h
      exact .inr ⟨by omega, r, rfl, h.symm⟩
theorem dirR_lo {n : Nat} {RA RB : Nat → Option (Nat → Int)} {k : Nat} (hk : k < n) : dirR n RA RB k = RA k := by unfold dirR; rw [if_pos hk]
theorem dirR_hi {n : Nat} {RA RB : Nat → Option (Nat → Int)} (k : Nat) : dirR n RA RB (n + k) = (RB k).map (behind n) := by unfold dirR; rw [if_neg (by omega), Nat.add_sub_cancel_left]
theorem behind_ge {n i : Nat} (x : Nat → Int) (h : n ≤ i) : behind n x i = x (i - n) := by unfold behind; rw [if_neg (by omega)]
theorem dir_ech {p : Int} (hp : 1 < p) {n : Nat} {RA RB : Nat → Option (Nat → Int)} (hA : Ech p n RA) (wA : WideR n RA) (hB : Ech p n RB) : Ech p (n + n) (dirR n RA RB) := by
  refine ⟨fun k s h => ?_, fun k s h => ?_, fun k s i h hi => ?_, fun k s l h hl hne => ?_, fun k s i h => ?_⟩
  all_goals rcases dirR_some h with ⟨hk, hr⟩ | ⟨hk, r, hr, rfl⟩
  · omega
  · have := hB.below _ r hr
    omega
  · exact hA.one _ s hr
  · rw [behind_ge r hk]; exact hB.one _ r hr
  · exact hA.lead _ s i hr hi
  · rcases Nat.lt_or_ge i n with h1 | h1
    · exact behind_lo r h1
    · rw [behind_ge r h1]; exact hB.lead _ r _ hr (by omega)
  · rcases Nat.lt_or_ge l n with h1 | h1
    · rw [dirR_lo h1] at hl
      exact hA.other _ s l hr hl hne
    · exact wA _ s hr l h1
  · rcases Nat.lt_or_ge l n with h1 | h1
    · exact behind_lo r h1
    · obtain ⟨t, rfl⟩ : ∃ t, l = n + t := ⟨l - n, by omega⟩
      rw [dirR_hi, Option.isSome_map] at hl
      rw [behind_hi]
      exact hB.other _ r t hr hl (by omega)
  · exact hA.low _ s i hr
  · rcases Nat.lt_or_ge i n with h1 | h1
    · rw [behind_lo r h1]; omega
    · rw [behind_ge r h1]; exact hB.low _ r _ hr
theorem dir_piv {n : Nat} (RA RB : Nat → Option (Nat → Int)) : (pivL (n + n) (dirR n RA RB)).length = (pivL n RA).length + (pivL n RB).length := by
  rw [pivL_split]
  congr 2
  · exact pivL_congr fun k hk => by rw [preR_is, decide_eq_true hk, Bool.true_and, dirR_lo hk]
  · exact pivL_congr fun k _ => by
      unfold afterR
      rw [Option.isSome_map, dirR_hi, Option.isSome_map]
theorem dir_out {p : Int} {n : Nat} {RA RB : Nat → Option (Nat → Int)} (hA : Ech p n RA) (wA : WideR n RA) (hB : Ech p n RB) {v : Nat → Int} (h : InR p (n + n) (dirR n RA RB) v) : InR p n RA (trunc n v) ∧ InR p n RB (fun i => v (n + i)) := by
  refine InR.ind (P := fun v => InR p n RA (trunc n v) ∧ InR p n RB (fun i => v (n + i))) ⟨?_, InR.nil⟩ ?_ ?_ h
  · exact InR.nil.congr fun i => ⟨0, by unfold trunc; split <;> simp⟩
  · rintro u v ⟨h1, h2⟩ e
    refine ⟨h1.congr fun i => ?_, h2.congr fun i => e (n + i)⟩
    unfold trunc
    split
    · exact e i
    · exact ⟨0, by omega⟩
  · rintro u t k s ⟨h1, h2⟩ hs
    have e : ∀ i, trunc n (fun i => u i + t * s i) i = trunc n u i + t * trunc n s i := fun i => by
      unfold trunc
      split
      · rfl
      · rw [Int.mul_zero]; rfl
    rcases dirR_some hs with ⟨_, hr⟩ | ⟨_, r, hr, rfl⟩
    · constructor
      · refine (h1.add ((InR.row hA hr).smul t)).congr fun i => ⟨0, ?_⟩
        have e2 : trunc n s i = s i := by
          unfold trunc
          split
          · rfl
          · exact (wA k s hr i (by omega)).symm
        rw [e i, e2]
        show trunc n u i + t * s i - (trunc n u i + t * s i) = p * 0
        omega
      · refine h2.congr fun i => ⟨0, ?_⟩
        show u (n + i) + t * s (n + i) - u (n + i) = p * 0
        rw [wA k s hr (n + i) (by omega), Int.mul_zero]; omega
    · constructor
      · refine h1.congr fun i => ⟨0, ?_⟩
        have e2 : trunc n (behind n r) i = 0 := by
          unfold trunc
          split
          · exact behind_lo r ‹_›
          · rfl
        rw [e i, e2, Int.mul_zero]; omega
      · refine (h2.add ((InR.row hB hr).smul t)).congr fun i => ⟨0, ?_⟩
        show u (n + i) + t * behind n r (n + i) - (u (n + i) + t * r i) = p * 0
        rw [behind_hi]; omega
theorem dir_in {p : Int} (hp : 1 < p) {n : Nat} {RA RB : Nat → Option (Nat → Int)} (hA : Ech p n RA) (wA : WideR n RA) (hB : Ech p n RB) {a b : Nat → Int} (ha : InR p n RA a) (hb : InR p n RB b) : InR p (n + n) (dirR n RA RB) (fun i => a i + behind n b i) := by
  have hE := dir_ech hp hA wA hB
  refine InR.add ?_ ?_
  · refine InR.ind (P := InR p (n + n) (dirR n RA RB)) InR.nil (fun _ _ h e => h.congr e) ?_ ha
    intro u t k r hu hr
    exact hu.add ((InR.row hE (j := k) (by rw [dirR_lo (hA.below k r hr)]; exact hr)).smul t)
  · refine InR.ind (P := fun b => InR p (n + n) (dirR n RA RB) (behind n b)) ?_ ?_ ?_ hb
    · exact InR.nil.congr fun i => ⟨0, by unfold behind; split <;> simp⟩
    · intro u v hu e
      refine hu.congr fun i => ?_
      unfold behind
      split
      · exact ⟨0, by omega⟩
      · exact e _
    · intro u t k r hu hr
      refine (hu.add ((InR.row hE (j := n + k) (r := behind n r) (by rw [dirR_hi, hr]; rfl)).smul t)).congr fun i => ⟨0, ?_⟩
      show behind n (fun i => u i + t * r i) i - (behind n u i + t * behind n r i) = p * 0
      unfold behind
      split
      · rw [Int.mul_zero]; omega
      · show u (i - n) + t * r (i - n) - (u (i - n) + t * r (i - n)) = p * 0
        omega

/-- Rows side by side, added in front and kept behind .. -/
def toMeet (n : Nat) (v : Nat → Int) (i : Nat) : Int := if i < n then v i + v (n + i) else if i < n + n then v (i - n) else 0
/-- .. and back. -/
def ofMeet (n : Nat) (y : Nat → Int) (i : Nat) : Int := if i < n then y (n + i) else if i < n + n then y (i - n) - y i else 0
theorem toMeet_lin (p : Int) (n : Nat) : LinF p (toMeet n) := by
  refine ⟨fun i => ⟨0, ?_⟩, fun u v i => ⟨0, ?_⟩, fun t u i => ⟨0, ?_⟩⟩
  · unfold toMeet
    split
    · simp
    · split <;> simp
  · unfold toMeet
    dsimp only
    split
    · omega
    · split <;> omega
  · unfold toMeet
    dsimp only
    split
    · rw [Int.mul_add]; omega
    · split
      · omega
      · rw [Int.mul_zero]; omega
theorem ofMeet_lin (p : Int) (n : Nat) : LinF p (ofMeet n) := by
  refine ⟨fun i => ⟨0, ?_⟩, fun u v i => ⟨0, ?_⟩, fun t u i => ⟨0, ?_⟩⟩
  · unfold ofMeet
    split
    · simp
    · split <;> simp
  · unfold ofMeet
    dsimp only
    split
    · omega
    · split <;> omega
  · unfold ofMeet
    dsimp only
    split
    · omega
    · split
      · rw [Int.mul_sub]; omega
      · rw [Int.mul_zero]; omega
theorem twice_lo {n i : Nat} (a : Nat → Int) (h : i < n) : twice n a i = a i := by unfold twice; rw [if_pos h]
theorem twice_ge {n i : Nat} (a : Nat → Int) (h : n ≤ i) : twice n a i = a (i - n) := by unfold twice; rw [if_neg (by omega)]
/-- What lies in the span that Meet eliminates. -/
theorem wide_parts {p : Int} {n : Nat} {A B : List (Nat → Int)} {y : Nat → Int} : SpL p (A.map (twice n) ++ B) y ↔ ∃ a b, SpL p A a ∧ SpL p B b ∧ ∀ i, p ∣ y i - (twice n a i + b i) := by
  constructor
  · intro h
    obtain ⟨u, hu, hb⟩ := SpL.append.1 h
    obtain ⟨a, ha, hua⟩ := SpL.twice.1 hu
    refine ⟨a, _, ha, hb, fun i => ?_⟩
    show p ∣ y i - (twice n a i + (y i - u i))
    rw [show y i - (twice n a i + (y i - u i)) = u i - twice n a i by omega]
    exact hua i
  · rintro ⟨a, b, ha, hb, h⟩
    refine SpL.append.2 ⟨twice n a, SpL.twice.2 ⟨a, ha, fun i => ⟨0, by omega⟩⟩, hb.congr fun i => ?_⟩
    show p ∣ y i - twice n a i - b i
    rw [show y i - twice n a i - b i = y i - (twice n a i + b i) by omega]
    exact h i
theorem wide_rank {p : Int} (hp : 1 < p) {ι : Int → Int} (hι : InvF p ι) {n : Nat} {A B : List (Nat → Int)} (hA : ∀ v ∈ A, Wide n v) (hB : ∀ v ∈ B, Wide n v) {R : Nat → Option (Nat → Int)} (hE : Ech p (n + n) R) (hR : ∀ y, InR p (n + n) R y ↔ SpL p (A.map (twice n) ++ B) y) :
    (pivL (n + n) R).length = (pivL n (elimR p n ι A)).length + (pivL n (elimR p n ι B)).length := by
  have eA := elim_ok hp hι A hA
  have eB := elim_ok hp hι B hB
  have hD := dir_ech hp eA.1 eA.2.1 eB.1
  rw [← dir_piv]
  apply Nat.le_antisymm
  · refine rank_inj hp hι hE hD (ofMeet_lin p n) (fun y hy => ?_) fun y hy hz i => ?_
    · obtain ⟨a, b, ha, hb, h⟩ := wide_parts.1 ((hR y).1 hy)
      have wa := SpL.wide hA ha
      have wb := SpL.wide hB hb
      refine (dir_in hp eA.1 eA.2.1 eB.1 ((eA.2.2 a).2 ha) ((eB.2.2 b).2 hb)).congr fun i => ?_
      show p ∣ ofMeet n y i - (a i + behind n b i)
      unfold ofMeet
      rcases Nat.lt_or_ge i n with h1 | h1
      · rw [if_pos h1, behind_lo b h1]
        have h2 := h (n + i)
        rw [twice_ge a (by omega), Nat.add_sub_cancel_left] at h2
        have := Int.dvd_add h2 (wb (n + i) (by omega))
        rwa [show y (n + i) - (a i + b (n + i)) + b (n + i) = y (n + i) - (a i + 0) by omega] at this
      · rw [if_neg (by omega), behind_ge b h1]
        by_cases h3 : i < n + n
        · rw [if_pos h3]
          have h4 := h (i - n)
          have h5 := h i
          rw [twice_lo a (by omega)] at h4
          rw [twice_ge a h1] at h5
          have := Int.dvd_sub (Int.dvd_sub (Int.dvd_sub h4 h5) (wb i h1)) (wa i h1)
          rwa [show y (i - n) - (a (i - n) + b (i - n)) - (y i - (a (i - n) + b i)) - b i - a i = y (i - n) - y i - (a i + b (i - n)) by omega] at this
        · rw [if_neg h3]
          have := Int.dvd_neg.2 (Int.dvd_add (wa i h1) (wb (i - n) (by omega)))
          rwa [show -(a i + b (i - n)) = 0 - (a i + b (i - n)) by omega] at this
    · obtain ⟨a, b, ha, hb, h⟩ := wide_parts.1 ((hR y).1 hy)
      have wa := SpL.wide hA ha
      have wb := SpL.wide hB hb
      have h0 : ∀ j, j < n → p ∣ y (n + j) := fun j hj => by
        have := hz j
        unfold ofMeet at this
        rwa [if_pos hj] at this
      rcases Nat.lt_or_ge i n with h1 | h1
      · have h2 := hz (n + i)
        unfold ofMeet at h2
        rw [if_neg (by omega), if_pos (by omega), Nat.add_sub_cancel_left] at h2
        have := Int.dvd_add h2 (h0 i h1)
        rwa [Int.sub_add_cancel] at this
      · by_cases h3 : i < n + n
        · have := h0 (i - n) (by omega)
          rwa [show n + (i - n) = i by omega] at this
        · have h5 := h i
          rw [twice_ge a h1] at h5
          have := Int.dvd_add h5 (Int.dvd_add (wa (i - n) (by omega)) (wb i h1))
          rwa [Int.sub_add_cancel] at this
  · refine rank_inj hp hι hD hE (toMeet_lin p n) (fun v hv => ?_) fun v hv hz i => ?_
    · obtain ⟨h1, h2⟩ := dir_out eA.1 eA.2.1 eB.1 hv
      have ha := (eA.2.2 _).1 h1
      have hb := (eB.2.2 _).1 h2
      have wb := SpL.wide hB hb
      refine (hR _).2 (wide_parts.2 ⟨_, _, ha, hb, fun i => ?_⟩)
      show p ∣ toMeet n v i - (twice n (trunc n v) i + v (n + i))
      unfold toMeet
      rcases Nat.lt_or_ge i n with h1 | h1
      · rw [if_pos h1, twice_lo _ h1]
        unfold trunc
        rw [if_pos h1]
        exact ⟨0, by omega⟩
      · have h6 : p ∣ v (n + i) := wb i h1
        rw [if_neg (by omega), twice_ge _ h1]
        unfold trunc
        by_cases h3 : i < n + n
        · rw [if_pos h3, if_pos (by omega)]
          have := Int.dvd_neg.2 h6
          rwa [show -v (n + i) = v (i - n) - (v (i - n) + v (n + i)) by omega] at this
        · rw [if_neg h3, if_neg (by omega)]
          have := Int.dvd_neg.2 h6
          rwa [show -v (n + i) = 0 - (0 + v (n + i)) by omega] at this
    · obtain ⟨_, h2⟩ := dir_out eA.1 eA.2.1 eB.1 hv
      have hb := (eB.2.2 _).1 h2
      have wb := SpL.wide hB hb
      have h0 : ∀ j, j < n → p ∣ v j := fun j hj => by
        have := hz (n + j)
        unfold toMeet at this
        rwa [if_neg (by omega), if_pos (by omega), Nat.add_sub_cancel_left] at this
      rcases Nat.lt_or_ge i n with h1 | h1
      · exact h0 i h1
      · obtain ⟨t, rfl⟩ : ∃ t, i = n + t := ⟨i - n, by omega⟩
        rcases Nat.lt_or_ge t n with h3 | h3
        · have h4 := hz t
          unfold toMeet at h4
          rw [if_pos h3] at h4
          have := Int.dvd_sub h4 (h0 t h3)
          rwa [show v t + v (n + t) - v t = v (n + t) by omega] at this
        · exact wb t h3
end Go.Proofs.YtinoomcboinokaaGreat
