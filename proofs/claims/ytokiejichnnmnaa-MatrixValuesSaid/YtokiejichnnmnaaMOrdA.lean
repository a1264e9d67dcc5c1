/- MRefI, MRefS, MRefI2, MRefI3, MRefInv, MOrdR0, MOrdR, MRefO, MPermD, MRefP, MPermR, MOrdersLaw, joined. -/
import Derived.Test.YtokiejichnnmnaaMRefG2
import Derived.Test.YtokiejichnnmnaaMInvD
import Derived.Test.YtokiejichnnmnaaMGLin
import Derived.Test.YtokiejichnnmnaaMDraw
import Derived.Test.YtokiejichnnmnaaMSame
import Derived.Test.YtokiejichnnmnaaMOrd
import Derived.Test.YtokiejichnnmnaaMLawB
import Derived.Test.YtokiejichnnmnaaMLarge
import Derived.Test.YtokiejichnnmnaaMLive2

/- The reference of matrix, Inv: memory (a matrix whose rows lie in blocks of their own, with room to spare), cayleykit.Own, the stages of the loops. -/
namespace Go.Proofs.Ytokiejichnnmnaa
open Go Go.RowKit Num

/-- The header lies in block g, row i in block rb i. -/
structure WrL (w : World) (lo g m n : Nat) (rb cp : Nat → Nat) (F : Nat → Nat → Int) : Prop where
  glo : lo ≤ g
  hd : ∃ cur, Row w g 28 cur ∧ ∀ i, i < m → cur[i]? = some (.slice (some ⟨rb i, 0, none⟩) n (cp i))
  rows : ∀ i, i < m → lo ≤ rb i ∧ rb i ≠ g ∧ n ≤ cp i ∧ ∃ cur, Row w (rb i) 3 cur ∧ ∀ j, j < n → cur[j]? = some (.int .i64 (F i j))
  inj : ∀ i j, i < m → j < m → rb i = rb j → i = j
theorem WrL.hcell {w : World} {lo g m n : Nat} {rb cp : Nat → Nat} {F : Nat → Nat → Int} (h : WrL w lo g m n rb cp F) {i : Nat} (hi : i < m) : w.cell? ⟨g, i, none⟩ = some (.slice (some ⟨rb i, 0, none⟩) n (cp i)) := by
  obtain ⟨cur, hr, hc⟩ := h.hd
  exact hr.cell (hc i hi)
theorem WrL.hfr {w : World} {lo g m n : Nat} {rb cp : Nat → Nat} {F : Nat → Nat → Int} (h : WrL w lo g m n rb cp F) (i : Nat) : w.frozen? ⟨g, i, none⟩ = false := by
  obtain ⟨cur, hr, _⟩ := h.hd
  exact hr.frozen i
theorem WrL.cell {w : World} {lo g m n : Nat} {rb cp : Nat → Nat} {F : Nat → Nat → Int} (h : WrL w lo g m n rb cp F) {i j : Nat} (hi : i < m) (hj : j < n) : w.cell? ⟨rb i, j, none⟩ = some (.int .i64 (F i j)) := by
  obtain ⟨_, _, _, cur, hr, hc⟩ := h.rows i hi
  exact hr.cell (hc j hj)
theorem WrL.fr {w : World} {lo g m n : Nat} {rb cp : Nat → Nat} {F : Nat → Nat → Int} (h : WrL w lo g m n rb cp F) {i : Nat} (hi : i < m) (j : Nat) : w.frozen? ⟨rb i, j, none⟩ = false := by
  obtain ⟨_, _, _, cur, hr, _⟩ := h.rows i hi
  exact hr.frozen j
theorem WrL.congr {w : World} {lo g m n : Nat} {rb cp : Nat → Nat} {F G : Nat → Nat → Int} (h : WrL w lo g m n rb cp F) (hf : ∀ i, i < m → ∀ j, j < n → F i j = G i j) : WrL w lo g m n rb cp G :=
  ⟨h.glo, h.hd, fun i hi => by
    obtain ⟨h1, h2, h3, cur, hr, hc⟩ := h.rows i hi
    exact ⟨h1, h2, h3, cur, hr, fun j hj => by rw [← hf i hi j hj]; exact hc j hj⟩, h.inj⟩
/-- An entry is written. -/
theorem WrL.upd {w : World} {lo g m n : Nat} {rb cp : Nat → Nat} {F : Nat → Nat → Int} (h : WrL w lo g m n rb cp F) {i k : Nat} (hi : i < m) (x : Int) : WrL (w.setCell ⟨rb i, k, none⟩ (.int .i64 x)) lo g m n rb cp (updF F i k x) := by
  refine ⟨h.glo, ?_, fun a ha => ?_, h.inj⟩
  · obtain ⟨cur, hr, hc⟩ := h.hd
    exact ⟨cur, hr.far (p := ⟨rb i, k, none⟩) (Ne.symm (h.rows i hi).2.1) _, hc⟩
  · obtain ⟨h1, h2, h3, cur, hr, hc⟩ := h.rows a ha
    by_cases e : a = i
    · subst e
      refine ⟨h1, h2, h3, _, hr.set k _, fun j hj => ?_⟩
      rw [Array.getElem?_setIfInBounds]
      have hj2 := hc j hj
      have hsz : j < cur.size := (Array.getElem?_eq_some_iff.1 hj2).1
      unfold updF
      by_cases e2 : k = j
      · subst e2
        rw [if_pos rfl, if_pos hsz, if_pos ⟨rfl, rfl⟩]
      · rw [if_neg e2, if_neg (fun h => e2 h.2.symm)]
        exact hj2
    · refine ⟨h1, h2, h3, cur, hr.far (p := ⟨rb i, k, none⟩) (fun he => e (h.inj a i ha hi he)) _, fun j hj => ?_⟩
      unfold updF
      rw [if_neg (fun h => e h.1)]
      exact hc j hj
/-- The header's entries c and k exchanged. -/
def sw (c k a : Nat) : Nat := if a = c then k else if a = k then c else a
theorem WrL.swap {w : World} {lo g m n : Nat} {rb cp : Nat → Nat} {F : Nat → Nat → Int} (h : WrL w lo g m n rb cp F) {c k : Nat} (hc : c < m) (hk : k < m) :
    WrL ((w.setCell ⟨g, c, none⟩ (.slice (some ⟨rb k, 0, none⟩) n (cp k))).setCell ⟨g, k, none⟩ (.slice (some ⟨rb c, 0, none⟩) n (cp c))) lo g m n (fun a => rb (sw c k a)) (fun a => cp (sw c k a)) (fun a => F (sw c k a)) := by
  have hs : ∀ a, a < m → sw c k a < m := fun a ha => by
    unfold sw
    split
    · exact hk
    · split
      · exact hc
      · exact ha
  refine ⟨h.glo, ?_, fun a ha => ?_, fun a b ha hb he => ?_⟩
  · obtain ⟨cur, hr, hcur⟩ := h.hd
    refine ⟨_, (hr.set c _).set k _, fun a ha => ?_⟩
    have h1 := hcur a ha
    have hsz : a < cur.size := (Array.getElem?_eq_some_iff.1 h1).1
    rw [Array.getElem?_setIfInBounds, Array.getElem?_setIfInBounds]
    show _ = some (Value.slice (some ⟨rb (sw c k a), 0, none⟩) n (cp (sw c k a)))
    unfold sw
    by_cases e1 : k = a
    · subst e1
      rw [if_pos rfl, if_pos (by simpa using hsz)]
      by_cases e2 : k = c
      · subst e2; rw [if_pos rfl]
      · rw [if_neg e2, if_pos rfl]
    · rw [if_neg e1]
      by_cases e2 : c = a
      · subst e2; rw [if_pos rfl, if_pos hsz, if_pos rfl]
      · rw [if_neg e2, if_neg (Ne.symm e2), if_neg (Ne.symm e1)]
        exact h1
  · obtain ⟨h1, h2, h3, cur, hr, hcur⟩ := h.rows (sw c k a) (hs a ha)
    exact ⟨h1, h2, h3, cur, (hr.far (p := ⟨g, c, none⟩) h2 _).far (p := ⟨g, k, none⟩) h2 _, hcur⟩
  · have h1 := h.inj _ _ (hs a ha) (hs b hb) he
    unfold sw at h1
    split at h1 <;> split at h1 <;> (try split at h1) <;> (try split at h1) <;> omega
theorem WrL.drew {w : World} {lo g m n : Nat} {rb cp : Nat → Nat} {F : Nat → Nat → Int} (h : WrL w lo g m n rb cp F) : WrL w.drew lo g m n rb cp F := ⟨h.glo, h.hd, h.rows, h.inj⟩
theorem WrL.below {w w' : World} {lo g m n : Nat} {rb cp : Nat → Nat} {F : Nat → Nat → Int} (h : WrL w lo g m n rb cp F) (hb : Below w.heap.size w w') : WrL w' lo g m n rb cp F := by
  refine ⟨h.glo, ?_, fun a ha => ?_, h.inj⟩
  · obtain ⟨cur, hr, hc⟩ := h.hd
    exact ⟨cur, hr.below hb hr.lt, hc⟩
  · obtain ⟨h1, h2, h3, cur, hr, hc⟩ := h.rows a ha
    exact ⟨h1, h2, h3, cur, hr.below hb hr.lt, hc⟩
theorem WrL.vec {w : World} {lo g m n : Nat} {rb cp : Nat → Nat} {F : Nat → Nat → Int} (h : WrL w lo g m n rb cp F) {i : Nat} (hi : i < m) : Vec w (· < w.heap.size) (.slice (some ⟨rb i, 0, none⟩) n (cp i)) n (F i) := by
  obtain ⟨_, _, h3, cur, hr, hc⟩ := h.rows i hi
  exact ⟨_, cp i, rfl, h3, fun _ => ⟨rb i, 0, rfl, hr.lt, fun j hj => by rw [Nat.zero_add]; exact hr.cell (hc j hj)⟩⟩
theorem sw_swapF (F : Nat → Nat → Int) (c k : Nat) : (fun a => F (sw c (c + k) a)) = swapF F c k := by
  funext a
  unfold sw swapF
  split
  · rfl
  · split
    · rfl
    · rfl
/-- Row c times x, as far as entry i. -/
def mulStg (p : Int) (F : Nat → Nat → Int) (c : Nat) (x : Int) (i a b : Nat) : Int := if a = c ∧ b < i then F a b * x % p else F a b
theorem mulStg_zero (p : Int) (F : Nat → Nat → Int) (c : Nat) (x : Int) : mulStg p F c x 0 = F := by
  funext a b; unfold mulStg; rw [if_neg (by omega)]
theorem mulStg_upd (p : Int) (F : Nat → Nat → Int) (c : Nat) (x : Int) (i : Nat) : updF (mulStg p F c x i) c i (F c i * x % p) = mulStg p F c x (i + 1) := by
  funext a b
  unfold updF mulStg
  by_cases h : a = c ∧ b = i
  · rw [if_pos h, if_pos ⟨h.1, by omega⟩, h.1, h.2]
  · rw [if_neg h]
    by_cases h2 : a = c ∧ b < i
    · rw [if_pos h2, if_pos ⟨h2.1, by omega⟩]
    · rw [if_neg h2, if_neg (fun e => by have := e.1; by_cases e3 : b = i <;> omega)]
theorem mulStg_at (p : Int) (F : Nat → Nat → Int) (c : Nat) (x : Int) (i : Nat) : mulStg p F c x i c i = F c i := by
  unfold mulStg; rw [if_neg (by omega)]
theorem mulStg_end {p : Int} (F : Nat → Nat → Int) (c n : Nat) : ∀ a b, b < n → mulStg p F c (invI p (F c c)) n a b = divF p F c a b := fun a b hb => by
  unfold mulStg divF
  by_cases h : a = c
  · subst h
    rw [if_pos ⟨rfl, hb⟩, if_pos rfl]
    show _ = (0 + invI p (F a a) * F a b) % p
    rw [Int.zero_add, Int.mul_comm]
  · rw [if_neg (fun e => h e.1), if_neg h]
/-- A multiple of row c added to row j, as far as entry i. -/
def addStg (p : Int) (F : Nat → Nat → Int) (c j : Nat) (y : Int) (i a b : Nat) : Int := if a = j ∧ b < i then (F j b + (p - y) * F c b) % p else F a b
theorem addStg_zero (p : Int) (F : Nat → Nat → Int) (c j : Nat) (y : Int) : addStg p F c j y 0 = F := by
  funext a b; unfold addStg; rw [if_neg (by omega)]
theorem addStg_upd (p : Int) (F : Nat → Nat → Int) (c j : Nat) (y : Int) (i : Nat) : updF (addStg p F c j y i) j i ((F j i + (p - y) * F c i) % p) = addStg p F c j y (i + 1) := by
  funext a b
  unfold updF addStg
  by_cases h : a = j ∧ b = i
  · rw [if_pos h, if_pos ⟨h.1, by omega⟩, h.2]
  · rw [if_neg h]
    by_cases h2 : a = j ∧ b < i
    · rw [if_pos h2, if_pos ⟨h2.1, by omega⟩]
    · rw [if_neg h2, if_neg (fun e => by have := e.1; by_cases e3 : b = i <;> omega)]
theorem addStg_at (p : Int) (F : Nat → Nat → Int) (c j : Nat) (y : Int) (i : Nat) : addStg p F c j y i j i = F j i := by
  unfold addStg; rw [if_neg (by omega)]
theorem addStg_other (p : Int) (F : Nat → Nat → Int) {c j : Nat} (h : c ≠ j) (y : Int) (i b : Nat) : addStg p F c j y i c b = F c b := by
  unfold addStg; rw [if_neg (fun e => h e.1)]
/-- A row is clear. -/
theorem addStg_end {p : Int} {m n : Nat} {F : Nat → Nat → Int} {c j : Nat} (hcj : j ≠ c) (hF : InG p m n F) (hj : j < m) : ∀ a, a < m → ∀ b, b < n → addStg p (clrTo p F c j) c j (F j c) n a b = clrTo p F c (j + 1) a b := fun a _ b hb => by
  unfold addStg
  by_cases h : a = j
  · subst h
    rw [if_pos ⟨rfl, hb⟩, clrTo_at, clrTo_i]
    unfold clrTo clrF
    rw [if_pos (by omega), if_neg hcj]
    by_cases h0 : F a c = 0
    · rw [if_pos h0, h0, Int.sub_zero]
      have := hF a hj b hb
      rw [Int.add_mul_emod_self_left, Int.emod_eq_of_lt this.1 this.2]
    · rw [if_neg h0]; rfl
  · rw [if_neg (fun e => h e.1)]
    unfold clrTo
    by_cases h2 : a < j
    · rw [if_pos h2, if_pos (by omega)]
    · rw [if_neg h2, if_neg (by omega)]
theorem clrTo_skip {p : Int} (F : Nat → Nat → Int) (c : Nat) : clrTo p F c (c + 1) = clrTo p F c c := by
  funext a
  unfold clrTo
  by_cases h : a < c
  · rw [if_pos h, if_pos (by omega)]
  · rw [if_neg h]
    by_cases h2 : a = c
    · subst h2; rw [if_pos (by omega)]; unfold clrF; rw [if_pos rfl]
    · rw [if_neg (by omega)]
theorem clrTo_end {p : Int} (F : Nat → Nat → Int) (c m : Nat) : ∀ a, a < m → ∀ b, clrTo p F c m a b = clrF p F c a b := fun a ha b => by unfold clrTo; rw [if_pos ha]
theorem clrTo_zero {p : Int} (F : Nat → Nat → Int) (c : Nat) : clrTo p F c 0 = F := by
  funext a; unfold clrTo; rw [if_neg (by omega)]

set_option maxRecDepth 100000 in
theorem own_any (v : Value) (n : Nat) (f : Nat → Int) (w : World) (hn0 : 1 ≤ n) (hl : n ≤ 1000) (hv : Vec w (· < w.heap.size) v n f) :
    Calls Try.prog 34 #[v] w fun e w' => ∃ r, e = .returned r ∧ OwnsI w' w.heap.size r ((List.range n).map f) ∧ Below w.heap.size w w' := by
  obtain ⟨i0, hi, hz0, hz1, hz2⟩ := info_parts info3m
  obtain ⟨b, o, c, rfl, hc, hb, hcc⟩ := hv.at_ (by omega)
  go_enter Try.func34, Try.ntmps34
  have HO := Lib.hid (show (w.alloc (.cells #[] 3)).ownsRow w.heap.size 3 1 (.slice (some ⟨w.heap.size, 0, none⟩) 0 0) 0 [] from World.ownsRow_made w #[] 0 (Nat.le_refl _) (by unfold maxLen; omega) rfl)
  have HB := Lib.hid ((Below.refl w.heap.size w).alloc (Nat.le_refl _) (.cells #[] 3))
  have HN := Lib.hid (show ∀ j u, ((List.range n).map fun j => Value.int .i64 (f j))[j]? = some u → (w.alloc (.cells #[] 3)).cell? ((⟨b, o, none⟩ : Addr).add j) = some u from fun j u h => by
    by_cases hj : j < n
    · simp [hj] at h
      subst h
      rw [Addr.add_lit]
      exact (HB.out.cell (p := ⟨b, o + j, none⟩) hb).trans (hcc j hj)
    · simp [hj] at h)
  clear hv hcc
  go_wp2_with (at_builtin; refine wpList_append_own_at _ rfl (.tmp 3) (.tmp 4) 28 rfl w.heap.size 3 i0 (.int .i64 0) 1 8 Try.underlying28 hi hz0 hz1 hz2 rfl (by decide) _ _ _ rfl HO.out ⟨b, o, none⟩ n c ((List.range n).map fun j => Value.int .i64 (f j)) rfl (by simp) HN.out (by simp [Value.oneCell']) (by unfold maxLen; omega) (by omega) (by simp) ?_; intro v1 w1 hown hgrow _ _; have HX := Lib.hid hown; have HB3 := Lib.hid (HB.out.grown hgrow (by simp) (fun q hq => (HO.out.lt q hq).1)); clear hown hgrow)
  go_ret
  refine ⟨_, rfl, ?_, HB3.out⟩
  unfold OwnsI
  have := HX.out
  rw [List.nil_append, Nat.zero_add] at this
  rw [List.length_map, List.length_range]
  have e : icells ((List.range n).map f) = (List.range n).map fun j => Value.int .i64 (f j) := by simp [icells]
  rw [e]
  exact this
end Go.Proofs.Ytokiejichnnmnaa

/- The reference of matrix: square. -/
namespace Go.Proofs.Ytokiejichnnmnaa
open Go Go.RowKit Num

set_option maxRecDepth 100000 in
set_option maxHeartbeats 1000000 in
theorem rsquare_any (ra : Value) (m : Nat) (n : Nat → Nat) (f : Nat → Nat → Int) (p : Int) (w : World) (hm : m ≤ 1000000) (hn : ∀ i, i < m → n i ≤ 1000000) (ha : Grid w (· < w.heap.size) ra m n f) :
    Calls Try.prog 130 #[.agg #[.int .i64 p, ra]] w (Ret w (.int .i64 (chkS (chkM p m n f) m (n 0)))) := by
  have HC := fun W h => Lib.hid (rCheck_any ra m n f p W hm hn h)
  have HZ := Lib.hid (@chkM_zero p m n f)
  have HA := Lib.hid ha
  generalize chkM p m n f = x at HC HZ ⊢
  by_cases hx : x = 0
  · subst hx
    obtain ⟨_, h1, h2, h3, h4, _⟩ := HZ.out rfl
    obtain ⟨bg, og, cg, RA, RC, rfl, hcg, hbg, hgc⟩ := ha.at_ (by omega)
    have hr0 := (hgc 0 (by omega)).1
    rw [Nat.add_zero] at hr0
    have HB1 := Lib.hid ((Below.refl w.heap.size w).alloc (Nat.le_refl _) (.cells #[.int .i64 p, .slice (some ⟨bg, og, none⟩) m cg] 61))
    have HX1 := Lib.hid (row_new (W := w) rfl 61 #[.int .i64 p, .slice (some ⟨bg, og, none⟩) m cg])
    have he : ∀ b : Bool, ((m : Int) != (n 0 : Int)) = b → chkS 0 m (n 0) = if b then 10 else 0 := fun b h => by
      unfold chkS
      by_cases e : m = n 0
      · rw [show b = false by rw [← h]; simp [← e]]; simp [← e]
      · rw [show b = true by rw [← h]; simp; omega]; simp [e]
    have HE := Lib.hid he
    generalize n 0 = n0 at hr0 h3 h4 HE ⊢
    clear ha hgc he hn HZ
    cases hb : ((m : Int) != (n0 : Int)) with
    | true =>
      have HEE := Lib.hid (HE.out _ hb)
      go_enter Try.func130, Try.ntmps130
      go_wp2_with fail
      refine (HC _ (HA.out.on HB1.out)).out.mono ?_
      rintro e w3 ⟨rfl, hb3⟩
      have HB3 := Lib.hid (HB1.out.trans (hb3.mono HB1.out.size))
      have HY1 := Lib.hid (Row.below HX1.out hb3 HX1.out.lt)
      clear hb3
      have k2 := HY1.out.cell (i := 1) rfl
      have k3 := (HB3.out.cell (p := ⟨bg, og, none⟩) hbg).trans hr0
      go_wp2_with fail
      go_quiet (fail)
      go_wp2
      go_ret
      exact ⟨ret_int HEE.out.symm, below_drewN HB3.out _⟩
    | false =>
      have HEE := Lib.hid (HE.out _ hb)
      go_enter Try.func130, Try.ntmps130
      go_wp2_with fail
      refine (HC _ (HA.out.on HB1.out)).out.mono ?_
      rintro e w3 ⟨rfl, hb3⟩
      have HB3 := Lib.hid (HB1.out.trans (hb3.mono HB1.out.size))
      have HY1 := Lib.hid (Row.below HX1.out hb3 HX1.out.lt)
      clear hb3
      have k2 := HY1.out.cell (i := 1) rfl
      have k3 := (HB3.out.cell (p := ⟨bg, og, none⟩) hbg).trans hr0
      go_wp2_with fail
      go_quiet (fail)
      go_wp2
      go_ret
      exact ⟨ret_int HEE.out.symm, below_drewN HB3.out _⟩
  · have hd : (x == 0) = false := by simpa using hx
    have he := Lib.hid (chkS_1 (m := m) (n := n 0) hx)
    obtain ⟨A, c, rfl, _⟩ := ha.form
    have HB1 := Lib.hid ((Below.refl w.heap.size w).alloc (Nat.le_refl _) (.cells #[.int .i64 p, .slice A m c] 61))
    clear hx ha HZ
    go_enter Try.func130, Try.ntmps130
    go_wp2_with fail
    refine (HC _ (HA.out.on HB1.out)).out.mono ?_
    rintro e w3 ⟨rfl, hb3⟩
    have HB3 := Lib.hid (HB1.out.trans (hb3.mono HB1.out.size))
    clear hb3
    go_wp2_with fail
    go_quiet (fail)
    go_wp2
    go_ret
    exact ⟨ret_int he.out.symm, below_drewN HB3.out _⟩
end Go.Proofs.Ytokiejichnnmnaa

/- The reference of matrix, Inv: while the rows are laid; the end. -/
namespace Go.Proofs.Ytokiejichnnmnaa
open Go Go.RowKit Num

/-- While the rows beside those of the identity are laid. -/
structure BldI (w6 : World) (m n : Nat) (F : Nat → Nat → Int) (i : Nat) (v : Value) (wr : World) : Prop where
  le : i ≤ m
  b : Below w6.heap.size w6 wr
  rows : ∃ (rb cp : Nat → Nat), wr.ownsRow w6.heap.size 28 1 v i ((List.range i).map fun j => .slice (some ⟨rb j, 0, none⟩) n (cp j)) ∧
    (∀ j, j < i → w6.heap.size ≤ rb j ∧ rb j < wr.heap.size ∧ v.ownBlock ≠ some (rb j) ∧ n ≤ cp j ∧ ∃ cur, Row wr (rb j) 3 cur ∧ ∀ k, k < n → cur[k]? = some (.int .i64 (F j k))) ∧ ∀ j k, j < k → k < i → rb j < rb k
theorem bld_start (w6 : World) (m n : Nat) (F : Nat → Nat → Int) : BldI w6 m n F 0 (.slice none 0 0) w6 :=
  ⟨Nat.zero_le _, Below.refl _ _, fun _ => 0, fun _ => 0, World.ownsRow_nil _ _ _ _, fun j hj => absurd hj (by omega), fun j k _ hk => absurd hk (by omega)⟩
theorem BldI.drew {w6 wr : World} {m n i : Nat} {F : Nat → Nat → Int} {v : Value} (h : BldI w6 m n F i v wr) : BldI w6 m n F i v wr.drew := ⟨h.le, below_drew h.b, h.rows⟩
/-- A row more: it lies in a new block of w2; then the append. -/
theorem bld_step {w6 wr w2 w4 : World} {m n i g2 c2 : Nat} {F : Nat → Nat → Int} {v v1 : Value} {rb cp : Nat → Nat} {cur : Array Value} (h : BldI w6 m n F i v wr) (hi : i < m)
    (hO : wr.ownsRow w6.heap.size 28 1 v i ((List.range i).map fun j => .slice (some ⟨rb j, 0, none⟩) n (cp j)))
    (hV : ∀ j, j < i → w6.heap.size ≤ rb j ∧ rb j < wr.heap.size ∧ v.ownBlock ≠ some (rb j) ∧ n ≤ cp j ∧ ∃ cur, Row wr (rb j) 3 cur ∧ ∀ k, k < n → cur[k]? = some (.int .i64 (F j k))) (hM : ∀ j k, j < k → k < i → rb j < rb k)
    (hb : Below wr.heap.size wr w2) (hg2 : wr.heap.size ≤ g2) (hc2 : n ≤ c2) (hrow : Row w2 g2 3 cur) (hcur : ∀ k, k < n → cur[k]? = some (.int .i64 (F i k)))
    (hown : w4.ownsRow w6.heap.size 28 1 v1 (i + 1) (((List.range i).map fun j => .slice (some ⟨rb j, 0, none⟩) n (cp j)) ++ [.slice (some ⟨g2, 0, none⟩) n c2]))
    (hg : (w2.alloc (.cells #[.slice (some ⟨g2, 0, none⟩) n c2] 28)).grownBy w4 v.ownBlock) (hv1 : v1.ownBlock = v.ownBlock ∨ v1.ownBlock = some (w2.alloc (.cells #[.slice (some ⟨g2, 0, none⟩) n c2] 28)).heap.size) : BldI w6 m n F (i + 1) v1 w4 := by
  have hsz := h.b.size
  have hs2 := hb.size
  have hlt2 := hrow.lt
  have hz3 : (w2.alloc (.cells #[.slice (some ⟨g2, 0, none⟩) n c2] 28)).heap.size = w2.heap.size + 1 := by simp
  have hs4 := hg.size
  have hOlt := hO.lt
  have hB4 : Below w6.heap.size w2 w4 := ((Below.refl w6.heap.size w2).alloc (by omega) _).grown hg (by omega) (fun q hq => (hOlt q hq).1)
  have keep : ∀ b t cs, Row w2 b t cs → v.ownBlock ≠ some b → Row w4 b t cs := fun b t cs hr hv => (hr.alloc _).kept hg (fun e => hv e.symm)
  have hv2 : ∀ b, b < w2.heap.size → v.ownBlock ≠ some b → v1.ownBlock ≠ some b := fun b h1 h2 e => by
    rcases hv1 with h | h
    · exact h2 (h ▸ e)
    · rw [h, hz3] at e; injection e with e; omega
  have hvg : v.ownBlock ≠ some g2 := fun e => by have := (hOlt _ e).2; omega
  refine ⟨by omega, h.b.trans ((hb.mono hsz).trans hB4), (fun j => if j = i then g2 else rb j), (fun j => if j = i then c2 else cp j), ?_, fun j hj => ?_, fun j k hjk hk => ?_⟩
  · have e : ((List.range (i + 1)).map fun j => Value.slice (some ⟨if j = i then g2 else rb j, 0, none⟩) n (if j = i then c2 else cp j)) = ((List.range i).map fun j => .slice (some ⟨rb j, 0, none⟩) n (cp j)) ++ [.slice (some ⟨g2, 0, none⟩) n c2] := by
      rw [List.range_succ, List.map_append]
      congr 1
      · refine List.map_congr_left fun j hj => ?_
        have := List.mem_range.1 hj
        rw [if_neg (by omega), if_neg (by omega)]
      · simp
    show w4.ownsRow _ _ _ _ _ ((List.range (i + 1)).map fun j => Value.slice (some ⟨if j = i then g2 else rb j, 0, none⟩) n (if j = i then c2 else cp j))
    rw [e]
    exact hown
  · show w6.heap.size ≤ (if j = i then g2 else rb j) ∧ (if j = i then g2 else rb j) < _ ∧ v1.ownBlock ≠ some (if j = i then g2 else rb j) ∧ n ≤ (if j = i then c2 else cp j) ∧ ∃ cur, Row _ (if j = i then g2 else rb j) _ cur ∧ _
    by_cases e : j = i
    · subst e
      rw [if_pos rfl, if_pos rfl]
      exact ⟨by omega, by omega, hv2 _ hlt2 hvg, hc2, cur, keep _ _ _ hrow hvg, hcur⟩
    · rw [if_neg e, if_neg e]
      obtain ⟨h1, h2, h3, h4, cu, h5, h6⟩ := hV j (by omega)
      exact ⟨h1, by omega, hv2 _ (by omega) h3, h4, cu, keep _ _ _ (h5.below hb h2) h3, h6⟩
  · show (if j = i then g2 else rb j) < (if k = i then g2 else rb k)
    rw [if_neg (by omega)]
    by_cases e : k = i
    · rw [if_pos e]; have := (hV j (by omega)).2.1; omega
    · rw [if_neg e]; exact hM j k hjk (by omega)
/-- All rows are laid. -/
theorem bld_end {w6 wr : World} {m n : Nat} {F : Nat → Nat → Int} {v : Value} (hm : 1 ≤ m) (h : BldI w6 m n F m v wr) : ∃ g cap rb cp, v = .slice (some ⟨g, 0, none⟩) m cap ∧ WrL wr w6.heap.size g m n rb cp F := by
  obtain ⟨rb, cp, hO, hV, hM⟩ := h.rows
  rcases hO.2 with ⟨rfl, h0⟩ | ⟨g, cap, cur, rfl, hb, hg, hnc, hcm, hcs, htake⟩
  · omega
  · refine ⟨g, cap, rb, cp, rfl, hb, ⟨cur, hg, fun i hi => ?_⟩, fun i hi => ?_, fun i j hi hj e => ?_⟩
    · have h1 : (cur.toList.take (m * 1))[i]? = some (.slice (some ⟨rb i, 0, none⟩) n (cp i)) := by rw [htake]; simp [hi]
      rw [List.getElem?_take, if_pos (by omega)] at h1
      simpa using h1
    · obtain ⟨h1, h2, h3, h4, h5⟩ := hV i hi
      exact ⟨h1, fun e => h3 (by rw [e]; rfl), h4, h5⟩
    · rcases Nat.lt_trichotomy i j with h | h | h
      · have := hM i j h hj; omega
      · exact h
      · have := hM j i h hi; omega
/-- A row of one's own as an array. -/
theorem OwnsI.arr {w : World} {B : Nat} {v : Value} {l : List Int} (h : OwnsI w B v l) (hl : 0 < l.length) : ∃ g c cur, v = .slice (some ⟨g, 0, none⟩) l.length c ∧ B ≤ g ∧ l.length ≤ c ∧ Row w g 3 cur ∧ ∀ k, k < l.length → cur[k]? = some (.int .i64 (l.getD k 0)) := by
  rcases h.2 with ⟨rfl, h0⟩ | ⟨g, cap, cur, rfl, hb, hg, hnc, hcm, hcs, htake⟩
  · omega
  · refine ⟨g, cap, cur, rfl, hb, hnc, hg, fun k hk => ?_⟩
    have h1 : (cur.toList.take (l.length * 1))[k]? = some (.int .i64 (l.getD k 0)) := by rw [htake]; exact icells_get hk
    rw [List.getElem?_take, if_pos (by omega)] at h1
    simpa using h1
/-- The pivot that the reference finds is the code's. -/
theorem pivF_some {F : Nat → Nat → Int} {m c k : Nat} (hk : c + k < m) (h0 : F (c + k) c ≠ 0) (h : ∀ a, c ≤ a → a < c + k → F a c = 0) : pivF F m c = some k := by
  have hp := pivF_is F m c
  cases e : pivF F m c with
  | none =>
    rw [e] at hp
    exact absurd (hp k hk) h0
  | some q =>
    rw [e] at hp
    obtain ⟨h1, h2, h3⟩ := hp
    rcases Nat.lt_trichotomy q k with hq | hq | hq
    · exact absurd (h (c + q) (by omega) (by omega)) h2
    · rw [hq]
    · exact absurd (h3 k hq) h0
theorem pivF_none {F : Nat → Nat → Int} {m c : Nat} (h : ∀ a, c ≤ a → a < m → F a c = 0) : pivF F m c = none := by
  have hp := pivF_is F m c
  cases e : pivF F m c with
  | none => rfl
  | some q =>
    rw [e] at hp
    exact absurd (h (c + q) (by omega) hp.1) hp.2.1
theorem elimTo_none {p : Int} {m : Nat} {F : Nat → Nat → Int} {c : Nat} (h : elimTo p m F c = none) : ∀ k, elimTo p m F (c + k) = none
  | 0 => h
  | k + 1 => by
    show (elimTo p m F (c + k)).bind (elimS p m (c + k)) = none
    rw [elimTo_none h k]; rfl
theorem elim_stuck {p : Int} {m : Nat} {F : Nat → Nat → Int} {c : Nat} {s : ElS} (hc : c < m) (h : elimTo p m F c = some s) (hz : ∀ a, c ≤ a → a < m → s.1 a c = 0) : detV p m F = 0 := by
  have h1 : elimTo p m F (c + 1) = none := by
    show (elimTo p m F c).bind (elimS p m c) = none
    rw [h]
    show elimS p m c s = none
    unfold elimS
    rw [pivF_none hz]; rfl
  have h2 := elimTo_none h1 (m - (c + 1))
  rw [show c + 1 + (m - (c + 1)) = m by omega] at h2
  unfold detV
  rw [h2]
theorem elim_next {p : Int} {m : Nat} {F : Nat → Nat → Int} {c k : Nat} {s : ElS} (h : elimTo p m F c = some s) (hk : c + k < m) (h0 : s.1 (c + k) c ≠ 0) (hz : ∀ a, c ≤ a → a < c + k → s.1 a c = 0) :
    ∃ t, elimTo p m F (c + 1) = some t ∧ t.1 = clrF p (divF p (swapF s.1 c k) c) c := by
  refine ⟨(clrF p (divF p (swapF s.1 c k) c) c, (if k = 0 then s.2.1 else !s.2.1), s.2.2 * swapF s.1 c k c c % p), ?_, rfl⟩
  · show (elimTo p m F c).bind (elimS p m c) = _
    rw [h]
    show elimS p m c s = _
    unfold elimS
    rw [pivF_some hk h0 hz]; rfl
theorem rprimeInv_any (a p : Int) (w : World) (hp : P6 p.toNat) (hp0 : 0 ≤ p) (ha : 0 < a ∧ a < p) :
    Calls Try.prog 132 #[.int .i64 a, .int .i64 p] w fun e w' => e = .returned (.tuple #[.int .i64 (invI p a), .int .i64 0]) ∧ w' = w := by
  obtain ⟨pn, rfl⟩ : ∃ pn : Nat, p = pn := ⟨p.toNat, by omega⟩
  obtain ⟨an, rfl⟩ : ∃ an : Nat, a = an := ⟨a.toNat, by omega⟩
  rw [Int.toNat_natCast] at hp
  have h1 : resV (an : Int) pn = an := resV_nat (by omega)
  have h := rInv_ok (an : Int) pn w hp (by rw [h1]; omega)
  rw [h1] at h
  unfold invI
  rw [Int.toNat_natCast, Int.toNat_natCast]
  exact h
end Go.Proofs.Ytokiejichnnmnaa

/- The reference of matrix, Inv: the rows that are given out (a box holds their list). -/
namespace Go.Proofs.Ytokiejichnnmnaa
open Go Go.RowKit Num

theorem cut_world (W : World) (L : Nat) (hL : L ≤ W.heap.size) : ∃ wB : World, wB.heap.size = L ∧ Below L wB W :=
  ⟨{ W with heap := W.heap.extract 0 L }, by simp; omega, rfl, rfl, rfl, by simp; omega, fun k hk => by
    show W.heap[k]? = (W.heap.extract 0 L)[k]?
    rw [Array.getElem?_extract, if_pos (by omega), Nat.zero_add]⟩
/-- A store into an elder box. -/
theorem BldI.store {wB w4 : World} {m n i : Nat} {F : Nat → Nat → Int} {v : Value} (h : BldI wB m n F i v w4) {T : Nat} (hT : T < wB.heap.size) (k : Nat) (x : Value) : ∃ wB' : World, wB'.heap.size = wB.heap.size ∧ BldI wB' m n F i v (w4.setCell ⟨T, k, none⟩ x) := by
  have hs : (w4.setCell ⟨T, k, none⟩ x).heap.size = w4.heap.size := by simp
  obtain ⟨wB', h1, h2⟩ := cut_world (w4.setCell ⟨T, k, none⟩ x) wB.heap.size (by rw [hs]; exact h.b.size)
  obtain ⟨rb, cp, hO, hV, hM⟩ := h.rows
  refine ⟨wB', h1, h.le, by rw [h1]; exact h2, rb, cp, ?_, fun j hj => ?_, hM⟩
  · rw [h1]
    refine ⟨hO.1, ?_⟩
    rcases hO.2 with hn | ⟨g, cap, cur, hv, hb, hg, rest⟩
    · exact .inl hn
    · exact .inr ⟨g, cap, cur, hv, hb, Row.far (p := ⟨T, k, none⟩) (t := 28) hg (show g ≠ T by omega) x, rest⟩
  · obtain ⟨a1, a2, a3, a4, cu, a5, a6⟩ := hV j hj
    exact ⟨by rw [h1]; exact a1, by rw [hs]; exact a2, a3, a4, cu, a5.far (p := ⟨T, k, none⟩) (show rb j ≠ T by omega) x, a6⟩
/-- i rows are given out; the box lies in the first new block. -/
structure OutI (w0 : World) (p : Int) (m n : Nat) (F : Nat → Nat → Int) (i : Nat) (wr : World) : Prop where
  b : Below w0.heap.size w0 wr
  bld : ∃ (wB : World) (v : Value), wB.heap.size = w0.heap.size + 1 ∧ BldI wB m n F i v wr ∧ Row wr w0.heap.size 61 #[.int .i64 p, v]
theorem out_start (w0 : World) (p : Int) (m n : Nat) (F : Nat → Nat → Int) : OutI w0 p m n F 0 (w0.alloc (.cells #[.int .i64 p, .slice none 0 0] 61)) :=
  ⟨(Below.refl _ _).alloc (Nat.le_refl _) _, w0.alloc (.cells #[.int .i64 p, .slice none 0 0] 61), .slice none 0 0, by simp, bld_start _ m n F, row_new rfl _ _⟩
/-- The row that is behind the rest. -/
theorem WrL.off {w : World} {lo g m a n : Nat} {rb cp : Nat → Nat} {F : Nat → Nat → Int} (h : WrL w lo g m (a + n) rb cp F) {i : Nat} (hi : i < m) : a + n ≤ cp i ∧ Vec w (· < w.heap.size) (.slice (some ⟨rb i, a, none⟩) n (cp i - a)) n (fun j => F i (a + j)) := by
  obtain ⟨_, _, h3, cur, hr, hc⟩ := h.rows i hi
  exact ⟨h3, _, cp i - a, rfl, by omega, fun _ => ⟨rb i, a, rfl, hr.lt, fun j hj => hr.cell (hc (a + j) (by omega))⟩⟩
/-- All rows are given out. -/
theorem OutI.done {w0 wr : World} {p : Int} {m n : Nat} {F : Nat → Nat → Int} (hm : 1 ≤ m) (h : OutI w0 p m n F m wr) : ∃ g c, Row wr w0.heap.size 61 #[.int .i64 p, .slice (some ⟨g, 0, none⟩) m c] ∧ Grid wr (fun b => w0.heap.size < b ∧ b < wr.heap.size) (.slice (some ⟨g, 0, none⟩) m c) m (fun _ => n) F := by
  obtain ⟨wB, v, hs, hB, hr⟩ := h.bld
  have hO1 : ∃ g cap rb cp, v = .slice (some ⟨g, 0, none⟩) m cap ∧ m ≤ cap ∧ WrL wr wB.heap.size g m n rb cp F := by
    obtain ⟨g, cap, rb, cp, hv, hw⟩ := bld_end hm hB
    obtain ⟨rb', cp', hO, -, -⟩ := hB.rows
    refine ⟨g, cap, rb, cp, hv, ?_, hw⟩
    rcases hO.2 with ⟨hn, h0⟩ | ⟨g', cap', cur, hv', _, _, hc, _⟩
    · omega
    · rw [hv] at hv'
      injection hv' with _ _ e
      omega
  obtain ⟨g, cap, rb, cp, rfl, hc, hw⟩ := hO1
  have hgl : g < wr.heap.size := by
    obtain ⟨cur, hg, _⟩ := hw.hd
    exact hg.lt
  refine ⟨g, cap, hr, _, cap, rfl, hc, fun _ => ⟨g, 0, rfl, ⟨by have := hw.glo; omega, hgl⟩, fun i hi => ⟨_, by rw [Nat.zero_add]; exact hw.hcell hi, _, cp i, rfl, (hw.rows i hi).2.2.1, fun _ => ⟨rb i, 0, rfl, ⟨?_, ?_⟩, fun j hj => by rw [Nat.zero_add]; exact hw.cell hi hj⟩⟩⟩⟩
  · have := (hw.rows i hi).1; omega
  · obtain ⟨_, _, _, cur, hrr, _⟩ := hw.rows i hi
    exact hrr.lt
/-- A row more is given out. -/
theorem OutI.next {w0 w4 wB : World} {p : Int} {m n i : Nat} {F : Nat → Nat → Int} {v v1 : Value} (hB : BldI wB m n F (i + 1) v1 w4) (hs : wB.heap.size = w0.heap.size + 1) (hb : Below w0.heap.size w0 w4) (hr : Row w4 w0.heap.size 61 #[.int .i64 p, v]) :
    OutI w0 p m n F (i + 1) (w4.setCell ⟨w0.heap.size, 1, none⟩ v1) := by
  obtain ⟨wB', h1, h2⟩ := hB.store (T := w0.heap.size) (by omega) 1 v1
  exact ⟨hb.setCell (p := ⟨w0.heap.size, 1, none⟩) (Nat.le_refl _) v1, wB', v1, h1.trans hs, h2, hr.set 1 v1⟩
end Go.Proofs.Ytokiejichnnmnaa

/- The reference of matrix: Inv. -/
namespace Go.Proofs.Ytokiejichnnmnaa
open Go Go.RowKit Num

theorem aug_list (m : Nat) (f : Nat → Nat → Int) (i : Nat) : icells ((List.range m).map (f i)) ++ ((List.range m).map fun j => Value.int .i64 (oneF i j)) = icells ((List.range (m + m)).map (augF m f i)) := by
  apply List.ext_getElem?
  intro j
  by_cases h : j < m
  · rw [List.getElem?_append_left (by simp [icells]; exact h)]
    simp [icells, h, show j < m + m by omega, augF, catF]
  · rw [List.getElem?_append_right (by simp [icells]; omega)]
    by_cases h2 : j < m + m
    · simp [icells, h, h2, show j - m < m by omega, augF, catF]
    · simp [icells, h2, show ¬ j - m < m by omega]
theorem aug_get (m : Nat) (f : Nat → Nat → Int) (i k : Nat) (hk : k < m + m) : ((List.range (m + m)).map (augF m f i)).getD k 0 = augF m f i k := by
  simp [List.getD_eq_getElem?_getD, hk]
theorem ref_cut {b m c : Nat} (hm : 1 ≤ m) (hc : m + m ≤ c) {W : World} : (Instr.slice 28 (.slice (some ⟨b, 0, none⟩) (m + m) c) (some (.int .i64 m)) none none).run Try.prog W = .ok (.slice (some ⟨b, m, none⟩) m (c - m)) W := by
  obtain ⟨A', h1, h2⟩ := run_cutL (some ⟨b, 0, none⟩) (m + m) c m (by omega) hc
  rw [h1 W, h2 (by omega), addr_map _ m b 0 rfl, Nat.zero_add, show m + m - m = m by omega]
theorem elim_unit {p : Int} {m n : Nat} {F : Nat → Nat → Int} (hp : 1 < p) (hI : Invs p) (hn : m ≤ n) (hF : InG p m n F) : ∀ (c : Nat) (s : ElS), c ≤ m → elimTo p m F c = some s → ∃ u, Cg p (u * s.2.2) 1
  | 0, s, _, e => by
    injection e with e
    subst e
    exact ⟨1, Cg.of (by show (1 : Int) * 1 = 1; rfl)⟩
  | c + 1, s, hc, e => by
    have e : (elimTo p m F c).bind (elimS p m c) = some s := e
    cases h : elimTo p m F c with
    | none => rw [h] at e; cases e
    | some t =>
      rw [h] at e
      have e : elimS p m c t = some s := e
      obtain ⟨u, hu⟩ := elim_unit hp hI hn hF c t (by omega) h
      have hS := elim_is hp hI hn hF c t (by omega) h
      unfold elimS at e
      have hpv := pivF_is t.1 m c
      cases hk : pivF t.1 m c with
      | none => rw [hk] at e; cases e
      | some k =>
        rw [hk] at e hpv
        obtain ⟨hik, hne, -⟩ := hpv
        injection e with e
        subst e
        show ∃ u, Cg p (u * (t.2.2 * swapF t.1 c k c c % p)) 1
        have hcc : swapF t.1 c k c c = t.1 (c + k) c := by unfold swapF; rw [if_pos rfl]
        rw [hcc]
        have hin := hS.inn (c + k) (by omega) c (by omega)
        refine ⟨invI p (t.1 (c + k) c) * u, ?_⟩
        have h1 := hI (t.1 (c + k) c) (by omega) hin.2
        have h2 := hu.mul h1
        refine (((Cg.refl p _).mul (Cg.mod p _)).trans (Cg.of ?_)).trans h2
        ac_rfl
theorem detV_ne {p : Int} {m n : Nat} {F : Nat → Nat → Int} {s : ElS} (hp : 1 < p) (hI : Invs p) (hn : m ≤ n) (hF : InG p m n F) (h : elimTo p m F m = some s) : detV p m F ≠ 0 := by
  obtain ⟨u, hu⟩ := elim_unit hp hI hn hF m s (Nat.le_refl _) h
  have hS := elim_is hp hI hn hF m s (Nat.le_refl _) h
  have h0 : s.2.2 ≠ 0 := fun e => by
    rw [e, Int.mul_zero] at hu
    unfold Cg at hu
    rw [Int.zero_emod, Int.emod_eq_of_lt (by omega) hp] at hu
    omega
  have h1 := hS.d0
  have h2 := hS.d1
  unfold detV
  rw [h]
  show (if s.2.1 then (p - s.2.2) % p else s.2.2) ≠ 0
  split
  · rw [Int.emod_eq_of_lt (by omega) (by omega)]; omega
  · exact h0
theorem swapF_in {p : Int} {F : Nat → Nat → Int} {m n c k : Nat} (hk : c + k < m) (hc : c < m) (h : InG p m n F) : InG p m n (swapF F c k) := fun i hi j hj => by
  rw [← sw_swapF]
  refine h _ ?_ j hj
  unfold sw
  split
  · exact hk
  · split
    · exact hc
    · exact hi

set_option maxRecDepth 100000 in
set_option maxHeartbeats 40000000 in
theorem rInvM_any (ra : Value) (m : Nat) (n : Nat → Nat) (f : Nat → Nat → Int) (p : Int) (w : World) (hm : m ≤ 1000000) (hn : ∀ i, i < m → n i ≤ 1000000) (ha : Grid w (· < w.heap.size) ra m n f) (x : Int) (hx : x = chkS (chkM p m n f) m (n 0)) :
    Calls Try.prog 66 #[.agg #[.int .i64 p, ra]] w (InvP x p m f w) := by
  have HC := fun W h => Lib.hid (rsquare_any ra m n f p W hm hn h)
  rw [← hx] at HC
  have HA := Lib.hid ha
  by_cases hx0 : x = 0
  · subst hx0
    obtain ⟨h1, h2⟩ := chkS_zero hx.symm
    obtain ⟨hmod, g1, g2, g3, g4, g5⟩ := chkM_zero h1
    obtain ⟨hp2, hp4, hp6⟩ := modB_true hmod
    have hIN : InG p m m f := fun i hi => by have := (g5 i hi).2; rw [(g5 i hi).1, ← h2] at this; exact this
    have HA2 := Lib.hid (grid_reg HA.out (fun i hi => ((g5 i hi).1).trans h2.symm))
    have HIN := Lib.hid (augF_in hp2 hIN)
    have HINV := Lib.hid (invs_mod hmod)
    have HPO := Lib.hid (fun (e : Ending) (w' : World) (h : InvPost p m f w e w') => (show InvP 0 p m f w e w' from ⟨fun h => absurd rfl h, fun _ => h⟩))
    generalize InvP 0 p m f w = PP at HPO ⊢
    obtain ⟨bg, og, cg, RA, RC, rfl, hcg, hbg, hgc⟩ := HA2.out.at_ (by omega)
    have HGC := Lib.hid hgc
    have HX2 := Lib.hid (box2 w #[.int .i64 p, .slice (some ⟨bg, og, none⟩) m cg])
    have HONE := Lib.hid (fun W => rone_any m p W g1 (by omega) hp2 (by omega))
    clear ha hn g5 hmod h1 hx h2 hIN hgc
    obtain ⟨i0, hi0, hz0, hz1, hz2⟩ := info_parts info3m
    obtain ⟨j0, hj0, hy0, hy1, hy2⟩ := info_parts info27m
    go_enter Try.func66, Try.ntmps66
    go_wp2_with fail
    generalize (w.alloc (.cells #[.int .i64 p, .slice (some ⟨bg, og, none⟩) m cg] 61)).alloc (.cells #[.int .i64 0, .slice none 0 0] 61) = w3 at HX2
    refine (HC _ (HA.out.on HX2.out.be)).out.mono ?_
    rintro e w4 ⟨rfl, hb4⟩
    obtain ⟨j1, j2, j3⟩ := HX2.out.on hb4
    have HJ1 := Lib.hid j1
    have HJ2 := Lib.hid j2
    have HJ3 := Lib.hid j3
    have c0 := j2.cell (i := 0) rfl
    have c1 := j2.cell (i := 1) rfl
    clear j1 j2 j3 hb4 HX2 HC HA
    go_wp2_with fail
    go_quiet (fail)
    go_wp2_with fail
    refine (HONE.out _).mono ?_
    rintro e w5 ⟨rid, rfl, hid, hb5⟩
    obtain ⟨Ai, ci, rfl, -⟩ := hid.form
    obtain ⟨bi, oi, ci', RI, CI, ei, -, hbi, hic⟩ := hid.at_ (by omega)
    injection ei with ei1 _ ei3
    subst ei1
    clear ei3
    have hb45 : Below w4.heap.size w4 w5 := (below_drewN (Below.refl _ _) nq).trans hb5
    have HB5 := Lib.hid (HJ1.out.trans (hb45.mono HJ1.out.size))
    have HA5 := Lib.hid (HJ2.out.below hb45 HJ2.out.lt)
    have HR5 := Lib.hid (HJ3.out.below hb45 HJ3.out.lt)
    have HIC := Lib.hid hic
    have hbi5 : bi < w5.heap.size := hbi.2
    have hlt5 := HR5.out.lt
    clear hb5 hb45 hid hic hbi HJ1 HJ2 HJ3 c0 c1 HONE
    go_wp2_with fail
    have hb6 : Below w5.heap.size w5 (w5.alloc (.cells #[.int .i64 p, .slice (some ⟨bi, oi, none⟩) m ci] 61)) := (Below.refl _ _).alloc (Nat.le_refl _) _
    have HI6 := Lib.hid (row_new (W := w5) rfl 61 #[.int .i64 p, .slice (some ⟨bi, oi, none⟩) m ci])
    have HB6 := Lib.hid (HB5.out.trans (hb6.mono HB5.out.size))
    have HA6 := Lib.hid (HA5.out.below hb6 HA5.out.lt)
    have HR6 := Lib.hid (HR5.out.below hb6 HR5.out.lt)
    have HG6 := Lib.hid (show ∀ i, i < m → (w5.alloc (.cells #[.int .i64 p, .slice (some ⟨bi, oi, none⟩) m ci] 61)).cell? ⟨bg, og + i, none⟩ = some (.slice (RA i) m (RC i)) ∧ Vec (w5.alloc (.cells #[.int .i64 p, .slice (some ⟨bi, oi, none⟩) m ci] 61)) (· < (w5.alloc (.cells #[.int .i64 p, .slice (some ⟨bi, oi, none⟩) m ci] 61)).heap.size) (.slice (RA i) m (RC i)) m (f i) from fun i hi =>
      ⟨(HB6.out.cell (p := ⟨bg, og + i, none⟩) hbg).trans (HGC.out i hi).1, (HGC.out i hi).2.on HB6.out⟩)
    have HD6 := Lib.hid (show ∀ i, i < m → (w5.alloc (.cells #[.int .i64 p, .slice (some ⟨bi, oi, none⟩) m ci] 61)).cell? ⟨bi, oi + i, none⟩ = some (.slice (RI i) m (CI i)) ∧ Vec (w5.alloc (.cells #[.int .i64 p, .slice (some ⟨bi, oi, none⟩) m ci] 61)) (· < (w5.alloc (.cells #[.int .i64 p, .slice (some ⟨bi, oi, none⟩) m ci] 61)).heap.size) (.slice (RI i) m (CI i)) m (oneF i) from fun i hi =>
      ⟨(hb6.cell (p := ⟨bi, oi + i, none⟩) hbi5).trans (HIC.out i hi).1, ((HIC.out i hi).2.more fun b hb => hb.2).on hb6⟩)
    have hbg6 : bg < (w5.alloc (.cells #[.int .i64 p, .slice (some ⟨bi, oi, none⟩) m ci] 61)).heap.size := Nat.lt_of_lt_of_le hbg HB6.out.size
    have hbi6 : bi < (w5.alloc (.cells #[.int .i64 p, .slice (some ⟨bi, oi, none⟩) m ci] 61)).heap.size := Nat.lt_of_lt_of_le hbi5 hb6.size
    generalize w5.alloc (.cells #[.int .i64 p, .slice (some ⟨bi, oi, none⟩) m ci] 61) = w6 at HI6 HB6 HA6 HR6 HG6 HD6 hbg6 hbi6 ⊢
    generalize w5.heap.size = bx at HI6 ⊢
    clear hb6 HB5 HA5 HR5 HIC HGC HA2 hbi5 hlt5
    have HOLD := Lib.hid (fun (i : Nat) (hi : i < m) (W : World) (hb : Below w6.heap.size w6 W) => (show W.cell? ⟨w.heap.size, 1, none⟩ = some (.slice (some ⟨bg, og, none⟩) m cg) ∧ W.cell? ⟨bg, og + i, none⟩ = some (.slice (RA i) m (RC i)) ∧ W.cell? ⟨bx, 1, none⟩ = some (.slice (some ⟨bi, oi, none⟩) m ci) ∧ W.cell? ⟨bi, oi + i, none⟩ = some (.slice (RI i) m (CI i)) from
      ⟨(HA6.out.below hb HA6.out.lt).cell (i := 1) rfl, (hb.cell (p := ⟨bg, og + i, none⟩) hbg6).trans (HG6.out i hi).1, (HI6.out.below hb HI6.out.lt).cell (i := 1) rfl, (hb.cell (p := ⟨bi, oi + i, none⟩) hbi6).trans (HD6.out i hi).1⟩))
    go_loopw [8, 9] (fun l t wr => ∃ i : Nat, t = .int .i64 i ∧ BldI w6 m (m + m) (augF m f) i l wr) (fun _ t _ => m - (intOf t).toNat)
    case atStart => exact ⟨0, rfl, bld_start w6 m (m + m) (augF m f)⟩
    case round =>
      obtain ⟨i, rfl, hI⟩ := hrel
      have hle := hI.le
      by_cases hlt : i < m
      · have hd : decide ((i : Int) < (m : Int)) = true := decide_eq_true (by omega)
        have HI := Lib.hid hI.drew
        obtain ⟨rb, cp, hO, hV, hM⟩ := hI.drew.rows
        obtain ⟨Al, cl, hl⟩ := owned_form hO
        subst hl
        have HO := Lib.hid hO
        have HV := Lib.hid hV
        have HM := Lib.hid hM
        clear hI hO hV hM
        go_wp2_with fail
        refine wp_region_held_drew (S := (fun W => W.cell? ⟨w.heap.size, 1, none⟩ = some (.slice (some ⟨bg, og, none⟩) m cg) ∧ W.cell? ⟨bg, og + i, none⟩ = some (.slice (RA i) m (RC i)) ∧ W.cell? ⟨bx, 1, none⟩ = some (.slice (some ⟨bi, oi, none⟩) m ci) ∧ W.cell? ⟨bi, oi + i, none⟩ = some (.slice (RI i) m (CI i)))) (by as_aux_lemma => kernel_rfl) (HOLD.out i hlt _ HI.out.b) (fun hHeld => ?_)
        generalize wr.drew = W0 at HI HO HV hHeld ⊢
        refine takeH (i := 0) (v := (.slice Al i cl)) rfl rfl (by as_aux_lemma => kernel_rfl) (by as_aux_lemma => kernel_rfl) (by as_aux_lemma => kernel_rfl) (fun _ _ _ h => h) (by rfl) (fun W hW => by (skip); go_simp) (by assumption) ?_
        simp only [List.setIfInBounds_toArray, List.set_cons_zero, List.set_cons_succ]
        refine takeH (i := 1) (v := (.pointer (some ⟨w.heap.size, 1, none⟩))) rfl rfl (by as_aux_lemma => kernel_rfl) (by as_aux_lemma => kernel_rfl) (by as_aux_lemma => kernel_rfl) (fun _ _ _ h => h) (by rfl) (fun W hW => by (skip); go_simp) (by assumption) ?_
        simp only [List.setIfInBounds_toArray, List.set_cons_zero, List.set_cons_succ]
        refine takeH (i := 2) (v := (.slice (some ⟨bg, og, none⟩) m cg)) rfl rfl (by as_aux_lemma => kernel_rfl) (by as_aux_lemma => kernel_rfl) (by as_aux_lemma => kernel_rfl) (fun _ _ _ h => h) (by rfl) (fun W hW => by (obtain ⟨q0, q1, q2, q3⟩ := hW); go_simp) (by assumption) ?_
        simp only [List.setIfInBounds_toArray, List.set_cons_zero, List.set_cons_succ]
        refine takeH (i := 3) (v := (.int .i64 i)) rfl rfl (by as_aux_lemma => kernel_rfl) (by as_aux_lemma => kernel_rfl) (by as_aux_lemma => kernel_rfl) (fun _ _ _ h => h) (by rfl) (fun W hW => by (skip); go_simp) (by assumption) ?_
        simp only [List.setIfInBounds_toArray, List.set_cons_zero, List.set_cons_succ]
        refine takeH (i := 4) (v := (.pointer (some ⟨bg, og + i, none⟩))) rfl rfl (by as_aux_lemma => kernel_rfl) (by as_aux_lemma => kernel_rfl) (by as_aux_lemma => kernel_rfl) (fun _ _ _ h => h) (by rfl) (fun W hW => by (skip); go_simp) (by assumption) ?_
        simp only [List.setIfInBounds_toArray, List.set_cons_zero, List.set_cons_succ]
        refine takeH (i := 5) (v := (.slice (RA i) m (RC i))) rfl rfl (by as_aux_lemma => kernel_rfl) (by as_aux_lemma => kernel_rfl) (by as_aux_lemma => kernel_rfl) (fun _ _ _ h => h) (by rfl) (fun W hW => by (obtain ⟨q0, q1, q2, q3⟩ := hW); go_simp) (by assumption) ?_
        simp only [List.setIfInBounds_toArray, List.set_cons_zero, List.set_cons_succ]
        refine takeH (i := 7) (v := (.pointer (some ⟨bx, 1, none⟩))) rfl rfl (by as_aux_lemma => kernel_rfl) (by as_aux_lemma => kernel_rfl) (by as_aux_lemma => kernel_rfl) (fun _ _ _ h => h) (by rfl) (fun W hW => by (skip); go_simp) (by assumption) ?_
        simp only [List.setIfInBounds_toArray, List.set_cons_zero, List.set_cons_succ]
        refine takeH (i := 8) (v := (.slice (some ⟨bi, oi, none⟩) m ci)) rfl rfl (by as_aux_lemma => kernel_rfl) (by as_aux_lemma => kernel_rfl) (by as_aux_lemma => kernel_rfl) (fun _ _ _ h => h) (by rfl) (fun W hW => by (obtain ⟨q0, q1, q2, q3⟩ := hW); go_simp) (by assumption) ?_
        simp only [List.setIfInBounds_toArray, List.set_cons_zero, List.set_cons_succ]
        refine takeH (i := 9) (v := (.int .i64 i)) rfl rfl (by as_aux_lemma => kernel_rfl) (by as_aux_lemma => kernel_rfl) (by as_aux_lemma => kernel_rfl) (fun _ _ _ h => h) (by rfl) (fun W hW => by (skip); go_simp) (by assumption) ?_
        simp only [List.setIfInBounds_toArray, List.set_cons_zero, List.set_cons_succ]
        refine takeH (i := 10) (v := (.pointer (some ⟨bi, oi + i, none⟩))) rfl rfl (by as_aux_lemma => kernel_rfl) (by as_aux_lemma => kernel_rfl) (by as_aux_lemma => kernel_rfl) (fun _ _ _ h => h) (by rfl) (fun W hW => by (skip); go_simp) (by assumption) ?_
        simp only [List.setIfInBounds_toArray, List.set_cons_zero, List.set_cons_succ]
        refine takeH (i := 11) (v := (.slice (RI i) m (CI i))) rfl rfl (by as_aux_lemma => kernel_rfl) (by as_aux_lemma => kernel_rfl) (by as_aux_lemma => kernel_rfl) (fun _ _ _ h => h) (by rfl) (fun W hW => by (obtain ⟨q0, q1, q2, q3⟩ := hW); go_simp) (by assumption) ?_
        simp only [List.setIfInBounds_toArray, List.set_cons_zero, List.set_cons_succ]
        have HOWN := Lib.hid (own_any (.slice (RA i) m (RC i)) m (f i) W0 g1 (by omega) ((HG6.out i hlt).2.on HI.out.b))
        refine wpAnyH_ready (rs := [6]) (by as_aux_lemma => kernel_rfl) (by simp) ?_
        refine (AllReadyH.cons rfl (fun K hK => ?_) AllReadyH.nil)
        go_simp
        go_at_call 34
        refine HOWN.out.mono ?_
        rintro e W1 ⟨r1, rfl, hr1, hb1⟩
        have hb61 := HI.out.b.trans (hb1.mono HI.out.b.size)
        obtain ⟨A1, c1, hf1⟩ := hr1.form
        have hlen1 : ((List.range m).map (f i)).length = m := by simp
        rw [hlen1] at hf1
        subst hf1
        have HR1 := Lib.hid hr1
        have HB01 := Lib.hid hb1
        have HB61 := Lib.hid hb61
        refine hK.out _ _ (HOLD.out i hlt _ hb61) (fun hHeld => ?_)
        clear hK K hr1 hb1 hb61 HOWN
        try simp only [Act.put, List.setIfInBounds_toArray, List.set_cons_zero, List.set_cons_succ]
        obtain ⟨br, or_, cr, er, -, hbr, hrc⟩ := ((HD6.out i hlt).2.on HB61.out).at_ (by omega)
        have HN1 := Lib.hid (show ∀ j u, ((List.range m).map fun j => Value.int .i64 (oneF i j))[j]? = some u → W1.cell? ((⟨br, or_, none⟩ : Addr).add j) = some u from fun j u h => by
          by_cases hj : j < m
          · simp [hj] at h
            subst h
            rw [Addr.add_lit]
            exact hrc j hj
          · simp [hj] at h)
        have HER := Lib.hid er
        clear hrc hbr er
        refine wpAnyH_ready (rs := [12]) (by as_aux_lemma => kernel_rfl) (by simp) ?_
        refine (AllReadyH.cons rfl (fun K hK => ?_) AllReadyH.nil)
        refine op_append_own (.tmp 45) (.tmp 50) 28 rfl W0.heap.size 3 i0 (.int .i64 0) 1 8 Try.underlying28 hi0 hz0 hz1 hz2 rfl (by decide) (.slice A1 m c1) m (icells ((List.range m).map (f i))) rfl (by have := HR1.out; unfold OwnsI at this; rw [hlen1] at this; exact this) ⟨br, or_, none⟩ m cr ((List.range m).map fun j => Value.int .i64 (oneF i j)) HER.out (by simp) HN1.out (by simp [Value.oneCell']) (by unfold maxLen; omega) (by omega) HB01.out.size ?_
        intro v2 W2 hown2 hg2 _
        rw [aug_list] at hown2
        have hlen2 : ((List.range (m + m)).map (augF m f i)).length = m + m := by simp
        have hO2 : OwnsI W2 W0.heap.size v2 ((List.range (m + m)).map (augF m f i)) := by
          unfold OwnsI
          rw [hlen2]
          exact hown2
        obtain ⟨gb, c2, cur, hv2, hgb, hc2, hrow2, hcur2⟩ := hO2.arr (by rw [hlen2]; omega)
        rw [hlen2] at hv2 hc2 hcur2
        subst hv2
        have hb02 : Below W0.heap.size W0 W2 := HB01.out.grown hg2 HB01.out.size (fun q hq => (HR1.out.lt q hq).1)
        have hs02 := hb02.size
        have hHO2 := (But.of (t := W0.heap.size) hb02 (Nat.le_refl _)).owns HO.out (fun g hg => ⟨(HO.out.lt g hg).2, by have := (HO.out.lt g hg).2; omega⟩)
        have HROW2 := Lib.hid hrow2
        have HCUR2 := Lib.hid (fun k (hk : k < m + m) => (hcur2 k hk).trans (by rw [aug_get m f i k hk]))
        have HB02 := Lib.hid hb02
        have HO3 := Lib.hid (hHO2.alloc (.cells #[.slice (some ⟨gb, 0, none⟩) (m + m) c2] 28))
        have HCN := Lib.hid (cell_one_new W2 (.slice (some ⟨gb, 0, none⟩) (m + m) c2) 28)
        have hb62 := HI.out.b.trans (hb02.mono HI.out.b.size)
        have HB62 := Lib.hid hb62
        have hsz6 := HI.out.b.size
        refine hK.out _ _ (HOLD.out i hlt _ hb62) (fun hHeld => ?_)
        clear hK K hown2 hg2 hO2 hrow2 hcur2 hb02 hHO2 hb62 HN1 HER
        try simp only [Act.put, List.setIfInBounds_toArray]
        refine wpAnyH_ready (rs := [13]) (by as_aux_lemma => kernel_rfl) (by simp) ?_
        refine (AllReadyH.cons rfl (fun K hK => ?_) AllReadyH.nil)
        go_simp
        refine hK.out _ _ (HOLD.out i hlt _ (HB62.out.alloc HB62.out.size _)) (fun hHeld => ?_)
        clear hK K
        try simp only [Act.put, List.setIfInBounds_toArray, List.set_cons_zero, List.set_cons_succ]
        refine wpAnyH_ready (rs := [14]) (by as_aux_lemma => kernel_rfl) (by simp) ?_
        refine (AllReadyH.cons rfl (fun K hK => ?_) AllReadyH.nil)
        refine op_append_own (.tmp 39) (.tmp 52) 37 rfl w6.heap.size 28 j0 (.slice none 0 0) 1 24 Try.underlying37 hj0 hy0 hy1 hy2 rfl (by decide) _ _ _ rfl HO3.out ⟨W2.heap.size, 0, none⟩ 1 1 [.slice (some ⟨gb, 0, none⟩) (m + m) c2] rfl rfl HCN.out (by simp [Value.oneCell']) (by unfold maxLen; omega) (by omega) (by simp; omega) ?_
        intro v4 W4 hown4 hg4 hob4
        have HN := Lib.hid (bld_step HI.out hlt HO.out HV.out HM.out HB02.out hgb hc2 HROW2.out HCUR2.out hown4 hg4 hob4)
        obtain ⟨A4, c4, rfl⟩ := owned_form hown4
        refine hK.out _ _ (HOLD.out i hlt _ HN.out.b) (fun hHeld => ?_)
        clear hK K hown4 hg4 hob4 HO3 HCN HROW2 HCUR2 HB02 HB62
        try simp only [Act.put, List.setIfInBounds_toArray]
        refine takeH (i := 15) (v := (.slice A4 (i + 1) c4)) rfl rfl (by as_aux_lemma => kernel_rfl) (by as_aux_lemma => kernel_rfl) (by as_aux_lemma => kernel_rfl) (fun _ _ _ h => h) (by rfl) (fun W hW => by (skip); go_simp) (by assumption) ?_
        simp only [List.setIfInBounds_toArray, List.set_cons_zero, List.set_cons_succ]
        refine wpAnyH_done (by as_aux_lemma => kernel_rfl) ?_ _
        go_wp2_with fail
        go_roundw
        case rel => exact ⟨i + 1, by go_num, HN.out⟩
        case measure => simp [intOf]; omega
      · obtain rfl : m = i := by omega
        have hd : decide ((m : Int) < (m : Int)) = false := decide_eq_false (by omega)
        obtain ⟨g, cap, rb, cp, rfl, hW⟩ := bld_end g1 hI
        have HW0 := Lib.hid hW
        have HBW0 := Lib.hid hI.b
        clear hI hW HOLD HG6 HD6 HI6 hbg6 hbi6
        go_wp2_with fail
        clear hd
        go_loopw [10] (fun t wr => ∃ (c : Nat) (rb cp : Nat → Nat) (s : ElS), t = .int .i64 c ∧ c ≤ m ∧ elimTo p m (augF m f) c = some s ∧ WrL wr w6.heap.size g m (m + m) rb cp s.1 ∧ Below w6.heap.size w6 wr) (fun t _ => m - (intOf t).toNat)
        case atStart => exact ⟨0, rb, cp, (augF m f, false, 1), rfl, Nat.zero_le _, rfl, HW0.out, HBW0.out⟩
        case round =>
          obtain ⟨c, rb, cp, s, rfl, hc, hel, hw, hbw⟩ := hrel
          rename World => wr
          have HEL := Lib.hid hel
          have HW := Lib.hid hw
          have HBW := Lib.hid hbw
          clear hel hw hbw HW0 HBW0
          by_cases hlt : c < m
          · have hd : decide ((c : Int) < (m : Int)) = true := decide_eq_true (by omega)
            have HF1 := Lib.hid ((elim_is (by omega) HINV.out (by omega) HIN.out c s hc HEL.out).inn)
            go_wp2_with fail
            go_loopw [11] (fun t wr' => ∃ k : Nat, t = .int .i64 k ∧ c ≤ k ∧ k ≤ m ∧ (∀ a, c ≤ a → a < k → s.1 a c = 0) ∧ wr' = wr) (fun t _ => m - (intOf t).toNat)
            case atStart => exact ⟨c, rfl, Nat.le_refl _, hc, fun a h1 h2 => absurd h2 (by omega), rfl⟩
            case round =>
              obtain ⟨k, rfl, hck, hkm, hz, hwr⟩ := hrel
              subst hwr
              rename World => wr
              have HZ := Lib.hid hz
              clear hz
              by_cases hk : k < m
              · have hd2 : decide ((k : Int) < (m : Int)) = true := decide_eq_true (by omega)
                have hh := HW.out.hcell hk
                have he := HW.out.cell (j := c) hk (by omega)
                by_cases h0 : s.1 k c = 0
                · rw [h0] at he
                  go_wp2_with fail
                  go_roundw
                  case rel => exact ⟨k + 1, by go_num, by omega, by omega, fun a h1 h2 => by
                    by_cases e : a = k
                    · rw [e]; exact h0
                    · exact HZ.out a h1 (by omega), by first | rfl | trivial⟩
                  case measure => simp [intOf]; omega
                · have hF := HF1.out k hk c (by omega)
                  have H0 := Lib.hid h0
                  generalize hy : s.1 k c = y at he h0 hF
                  have HY := Lib.hid hy
                  have hne : (y == 0) = false := by simpa using h0
                  have hkn : ((k : Int) == (m : Int)) = false := by simp; omega
                  have hkn2 : (k == m) = false := by simp; omega
                  clear hy h0
                  go_wp2_with fail
                  clear he hkn hkn2 hne hd hd2
                  have HS := Lib.hid (HW.out.drew.swap hlt hk)
                  have hc0 := HW.out.hcell hlt
                  have HH := Lib.hid hh
                  have HC0 := Lib.hid hc0
                  have HFR := Lib.hid (show ∀ i, wr.drew.frozen? ⟨g, i, none⟩ = false from fun i => HW.out.drew.hfr i)
                  have HBS := Lib.hid (((below_drew HBW.out).setCell (p := ⟨g, c, none⟩) HW.out.glo (.slice (some ⟨rb k, 0, none⟩) (m + m) (cp k))).setCell (p := ⟨g, k, none⟩) HW.out.glo (.slice (some ⟨rb c, 0, none⟩) (m + m) (cp c)))
                  clear hh hc0
                  go_cut [11] from 79 to 92 (fun s11 wx => s11 = .int .i64 k ∧ WrL wx w6.heap.size g m (m + m) (fun a => rb (sw c k a)) (fun a => cp (sw c k a)) (fun a => s.1 (sw c k a)) ∧ Below w6.heap.size w6 wx)
                  case first =>
                    refine wp_region_held_drew (S := (fun _ => True)) (by as_aux_lemma => kernel_rfl) trivial (fun hHeld => ?_)
                    have l0 := show wr.drew.cell? ⟨g, k, none⟩ = _ from HH.out
                    have l1 := show wr.drew.cell? ⟨g, c, none⟩ = _ from HC0.out
                    have y0 := show wr.frozen? ⟨g, c, none⟩ = false from HFR.out c
                    have y1 := show wr.frozen? ⟨g, k, none⟩ = false from HFR.out k
                    refine takeH (i := 0) (v := (.slice (some ⟨g, 0, none⟩) m cap)) rfl rfl (by as_aux_lemma => kernel_rfl) (by as_aux_lemma => kernel_rfl) (by as_aux_lemma => kernel_rfl) (fun _ _ _ h => h) (by rfl) (fun W hW => by (skip); go_simp) (by assumption) ?_
                    simp only [List.setIfInBounds_toArray, List.set_cons_zero, List.set_cons_succ]
                    refine takeH (i := 1) (v := (.int .i64 c)) rfl rfl (by as_aux_lemma => kernel_rfl) (by as_aux_lemma => kernel_rfl) (by as_aux_lemma => kernel_rfl) (fun _ _ _ h => h) (by rfl) (fun W hW => by (skip); go_simp) (by assumption) ?_
                    simp only [List.setIfInBounds_toArray, List.set_cons_zero, List.set_cons_succ]
                    refine takeH (i := 2) (v := (.slice (some ⟨g, 0, none⟩) m cap)) rfl rfl (by as_aux_lemma => kernel_rfl) (by as_aux_lemma => kernel_rfl) (by as_aux_lemma => kernel_rfl) (fun _ _ _ h => h) (by rfl) (fun W hW => by (skip); go_simp) (by assumption) ?_
                    simp only [List.setIfInBounds_toArray, List.set_cons_zero, List.set_cons_succ]
                    refine takeH (i := 3) (v := (.int .i64 k)) rfl rfl (by as_aux_lemma => kernel_rfl) (by as_aux_lemma => kernel_rfl) (by as_aux_lemma => kernel_rfl) (fun _ _ _ h => h) (by rfl) (fun W hW => by (skip); go_simp) (by assumption) ?_
                    simp only [List.setIfInBounds_toArray, List.set_cons_zero, List.set_cons_succ]
                    refine takeH (i := 4) (v := (.slice (some ⟨g, 0, none⟩) m cap)) rfl rfl (by as_aux_lemma => kernel_rfl) (by as_aux_lemma => kernel_rfl) (by as_aux_lemma => kernel_rfl) (fun _ _ _ h => h) (by rfl) (fun W hW => by (skip); go_simp) (by assumption) ?_
                    simp only [List.setIfInBounds_toArray, List.set_cons_zero, List.set_cons_succ]
                    refine takeH (i := 5) (v := (.int .i64 k)) rfl rfl (by as_aux_lemma => kernel_rfl) (by as_aux_lemma => kernel_rfl) (by as_aux_lemma => kernel_rfl) (fun _ _ _ h => h) (by rfl) (fun W hW => by (skip); go_simp) (by assumption) ?_
                    simp only [List.setIfInBounds_toArray, List.set_cons_zero, List.set_cons_succ]
                    refine takeH (i := 6) (v := (.pointer (some ⟨g, k, none⟩))) rfl rfl (by as_aux_lemma => kernel_rfl) (by as_aux_lemma => kernel_rfl) (by as_aux_lemma => kernel_rfl) (fun _ _ _ h => h) (by rfl) (fun W hW => by (skip); go_simp) (by assumption) ?_
                    simp only [List.setIfInBounds_toArray, List.set_cons_zero, List.set_cons_succ]
                    refine takeH (i := 8) (v := (.slice (some ⟨g, 0, none⟩) m cap)) rfl rfl (by as_aux_lemma => kernel_rfl) (by as_aux_lemma => kernel_rfl) (by as_aux_lemma => kernel_rfl) (fun _ _ _ h => h) (by rfl) (fun W hW => by (skip); go_simp) (by assumption) ?_
                    simp only [List.setIfInBounds_toArray, List.set_cons_zero, List.set_cons_succ]
                    refine takeH (i := 9) (v := (.int .i64 c)) rfl rfl (by as_aux_lemma => kernel_rfl) (by as_aux_lemma => kernel_rfl) (by as_aux_lemma => kernel_rfl) (fun _ _ _ h => h) (by rfl) (fun W hW => by (skip); go_simp) (by assumption) ?_
                    simp only [List.setIfInBounds_toArray, List.set_cons_zero, List.set_cons_succ]
                    refine takeH (i := 10) (v := (.pointer (some ⟨g, c, none⟩))) rfl rfl (by as_aux_lemma => kernel_rfl) (by as_aux_lemma => kernel_rfl) (by as_aux_lemma => kernel_rfl) (fun _ _ _ h => h) (by rfl) (fun W hW => by (skip); go_simp) (by assumption) ?_
                    simp only [List.setIfInBounds_toArray, List.set_cons_zero, List.set_cons_succ]
                    have k3 : (wr.setCell ⟨g, c, none⟩ (.slice (some ⟨rb k, 0, none⟩) (m + m) (cp k))).cell? ⟨g, k, none⟩ = some (.slice (some ⟨rb k, 0, none⟩) (m + m) (cp k)) := by
                      by_cases e : k = c
                      · subst e; exact World.cell?_setCell_same _ _ _ (show wr.cell? ⟨g, k, none⟩ = _ from l0)
                      · rw [World.cell?_setCell_other _ _ _ _ (fun e2 => e (by injection e2 with _ e2; exact e2.symm))]; exact l0
                    refine wpAnyH_ready (rs := [7, 11]) (by as_aux_lemma => kernel_rfl) (by simp) ?_
                    refine (AllReadyH.cons rfl (fun K hK => ?_) (AllReadyH.cons rfl (fun K hK => ?_) AllReadyH.nil))
                    · go_simp
                      refine hK.out _ _ trivial (fun hHeld => ?_)
                      clear hK K
                      try simp only [Act.put, List.setIfInBounds_toArray, List.set_cons_zero, List.set_cons_succ]
                      refine wpAnyH_ready (rs := [11]) (by as_aux_lemma => kernel_rfl) (by simp) ?_
                      refine (AllReadyH.cons rfl (fun K hK => ?_) AllReadyH.nil)
                      go_simp
                      refine hK.out _ _ trivial (fun hHeld => ?_)
                      clear hK K
                      try simp only [Act.put, List.setIfInBounds_toArray, List.set_cons_zero, List.set_cons_succ]
                      refine takeH (i := 12) (v := (.pointer (some ⟨g, c, none⟩))) rfl rfl (by as_aux_lemma => kernel_rfl) (by as_aux_lemma => kernel_rfl) (by as_aux_lemma => kernel_rfl) (fun _ _ _ h => h) (by rfl) (fun W hW => by (skip); go_simp) (by assumption) ?_
                      simp only [List.setIfInBounds_toArray, List.set_cons_zero, List.set_cons_succ]
                      refine wpAnyH_ready (rs := [13]) (by as_aux_lemma => kernel_rfl) (by simp) ?_
                      refine (AllReadyH.cons rfl (fun K hK => ?_) AllReadyH.nil)
                      go_simp
                      refine hK.out _ _ trivial (fun hHeld => ?_)
                      clear hK K
                      try simp only [Act.put, List.setIfInBounds_toArray, List.set_cons_zero, List.set_cons_succ]
                      refine takeH (i := 14) (v := (.pointer (some ⟨g, k, none⟩))) rfl rfl (by as_aux_lemma => kernel_rfl) (by as_aux_lemma => kernel_rfl) (by as_aux_lemma => kernel_rfl) (fun _ _ _ h => h) (by rfl) (fun W hW => by (skip); go_simp) (by assumption) ?_
                      simp only [List.setIfInBounds_toArray, List.set_cons_zero, List.set_cons_succ]
                      refine wpAnyH_ready (rs := [15]) (by as_aux_lemma => kernel_rfl) (by simp) ?_
                      refine (AllReadyH.cons rfl (fun K hK => ?_) AllReadyH.nil)
                      go_simp
                      refine hK.out _ _ trivial (fun hHeld => ?_)
                      clear hK K
                      try simp only [Act.put, List.setIfInBounds_toArray, List.set_cons_zero, List.set_cons_succ]
                      refine wpAnyH_done (by as_aux_lemma => kernel_rfl) ?_ _
                      go_wp2_with fail
                      go_meet
                      exact ⟨rfl, HS.out, HBS.out⟩
                    · go_simp
                      refine hK.out _ _ trivial (fun hHeld => ?_)
                      clear hK K
                      try simp only [Act.put, List.setIfInBounds_toArray, List.set_cons_zero, List.set_cons_succ]
                      refine wpAnyH_ready (rs := [7]) (by as_aux_lemma => kernel_rfl) (by simp) ?_
                      refine (AllReadyH.cons rfl (fun K hK => ?_) AllReadyH.nil)
                      go_simp
                      refine hK.out _ _ trivial (fun hHeld => ?_)
                      clear hK K
                      try simp only [Act.put, List.setIfInBounds_toArray, List.set_cons_zero, List.set_cons_succ]
                      refine takeH (i := 12) (v := (.pointer (some ⟨g, c, none⟩))) rfl rfl (by as_aux_lemma => kernel_rfl) (by as_aux_lemma => kernel_rfl) (by as_aux_lemma => kernel_rfl) (fun _ _ _ h => h) (by rfl) (fun W hW => by (skip); go_simp) (by assumption) ?_
                      simp only [List.setIfInBounds_toArray, List.set_cons_zero, List.set_cons_succ]
                      refine wpAnyH_ready (rs := [13]) (by as_aux_lemma => kernel_rfl) (by simp) ?_
                      refine (AllReadyH.cons rfl (fun K hK => ?_) AllReadyH.nil)
                      go_simp
                      refine hK.out _ _ trivial (fun hHeld => ?_)
                      clear hK K
                      try simp only [Act.put, List.setIfInBounds_toArray, List.set_cons_zero, List.set_cons_succ]
                      refine takeH (i := 14) (v := (.pointer (some ⟨g, k, none⟩))) rfl rfl (by as_aux_lemma => kernel_rfl) (by as_aux_lemma => kernel_rfl) (by as_aux_lemma => kernel_rfl) (fun _ _ _ h => h) (by rfl) (fun W hW => by (skip); go_simp) (by assumption) ?_
                      simp only [List.setIfInBounds_toArray, List.set_cons_zero, List.set_cons_succ]
                      refine wpAnyH_ready (rs := [15]) (by as_aux_lemma => kernel_rfl) (by simp) ?_
                      refine (AllReadyH.cons rfl (fun K hK => ?_) AllReadyH.nil)
                      go_simp
                      refine hK.out _ _ trivial (fun hHeld => ?_)
                      clear hK K
                      try simp only [Act.put, List.setIfInBounds_toArray, List.set_cons_zero, List.set_cons_succ]
                      refine wpAnyH_done (by as_aux_lemma => kernel_rfl) ?_ _
                      go_wp2_with fail
                      go_meet
                      exact ⟨rfl, HS.out, HBS.out⟩
                  case rest =>
                    obtain ⟨rfl, hsw, hbsw⟩ := hcut
                    obtain ⟨k', rfl⟩ : ∃ k', k = c + k' := ⟨k - c, by omega⟩
                    rw [sw_swapF] at hsw
                    obtain ⟨s', hel', hs'⟩ := elim_next HEL.out hk H0.out HZ.out
                    have hin1 := swapF_in hk (by omega) HF1.out
                    have hcc : swapF s.1 c k' c c = s.1 (c + k') c := by unfold swapF; rw [if_pos rfl]
                    have hin0 := hin1 c hlt c (by omega)
                    have hne0 : swapF s.1 c k' c c ≠ 0 := by rw [hcc]; exact H0.out
                    generalize (fun a => rb (sw c (c + k') a)) = rb2 at hsw
                    generalize (fun a => cp (sw c (c + k') a)) = cp2 at hsw
                    generalize swapF s.1 c k' = F1 at hsw hs' hin1 hin0 hne0
                    have HEL' := Lib.hid hel'
                    have HS' := Lib.hid hs'
                    have HIN1 := Lib.hid hin1
                    have HI := Lib.hid (fun W => rprimeInv_any (F1 c c) p W hp6 (by omega) ⟨by omega, hin0.2⟩)
                    have HW1 := Lib.hid hsw
                    have HB1 := Lib.hid hbsw
                    have hh := hsw.hcell hlt
                    have he := hsw.cell (j := c) hlt (by omega)
                    clear HS HH HC0 HFR HBS HF1 HEL HZ H0 HY HW HBW hF hin1 hel' hs' hcc hin0 hne0 hsw hbsw
                    generalize ((c + k' : Nat) : Int) = vk
                    go_wp2_with fail
                    refine (HI.out _).mono ?_
                    rintro e w8 ⟨rfl, rfl⟩
                    have HX := Lib.hid (mulStg_end (p := p) F1 c (m + m))
                    have hxx0 := invI_in (a := F1 c c) hp2
                    generalize invI p (F1 c c) = xx at HX hxx0 ⊢
                    have hxx : 0 ≤ xx ∧ xx < p := hxx0
                    clear hh he
                    go_wp2_with fail
                    have hwm : IntKind.i64.wrap (2 * (m : Int)) = 2 * (m : Int) := IntWalk.i64_in _ ⟨by omega, by omega⟩
                    go_loopw [14] (fun t wr' => ∃ i : Nat, t = .int .i64 i ∧ i ≤ m + m ∧ WrL wr' w6.heap.size g m (m + m) rb2 cp2 (mulStg p F1 c xx i) ∧ Below w6.heap.size w6 wr') (fun t _ => (m + m) - (intOf t).toNat)
                    case atStart => exact ⟨0, rfl, Nat.zero_le _, by rw [mulStg_zero]; exact HW1.out, HB1.out⟩
                    case round =>
                      obtain ⟨i, rfl, hi, hw, hbw⟩ := hrel
                      rename World => wr
                      by_cases hlt2 : i < m + m
                      ·
                        have hd : decide ((i : Int) < 2 * (m : Int)) = true := decide_eq_true (by omega)
                        have hh := hw.hcell hlt
                        have he := hw.cell (i := c) (j := i) hlt hlt2
                        have hfr := hw.fr hlt i
                        rw [mulStg_at] at he
                        have hx := HIN1.out c hlt i hlt2
                        have hgv := mulStg_upd p F1 c xx i
                        have hnx : ∀ z, z = F1 c i * xx → WrL (wr.setCell ⟨rb2 c, i, none⟩ (.int .i64 (z % p))).drew w6.heap.size g m (m + m) rb2 cp2 (mulStg p F1 c xx (i + 1)) ∧ Below w6.heap.size w6 (wr.setCell ⟨rb2 c, i, none⟩ (.int .i64 (z % p))).drew := fun z hz => by
                          subst hz
                          refine ⟨?_, below_drew (hbw.setCell (p := ⟨rb2 c, i, none⟩) (hw.rows c hlt).1 _)⟩
                          rw [← hgv]
                          exact (hw.upd hlt (k := i) _).drew
                        generalize F1 c i = y at he hx hnx
                        have hmul := mul_in (a := y) (b := xx) (p := p) (q := p) ⟨hx.1, by omega⟩ ⟨hxx.1, by omega⟩ (by omega) (by omega)
                        obtain ⟨z, hz⟩ : ∃ z, y * xx = z := ⟨_, rfl⟩
                        have HNX := Lib.hid (hnx z hz.symm)
                        have hw1 : IntKind.i64.wrap (y * xx) = z := by rw [hz]; exact IntWalk.i64_in _ ⟨by omega, by omega⟩
                        rw [hz] at hmul
                        have hr : z.tmod p = z % p := Int.tmod_eq_emod_of_nonneg (by omega)
                        have hr1 : 0 ≤ z % p := Int.emod_nonneg _ (by omega)
                        have hr2 : z % p < p := Int.emod_lt_of_pos _ (by omega)
                        have hw3 : IntKind.i64.wrap (z % p) = z % p := IntWalk.i64_in _ ⟨by omega, by omega⟩
                        have hp9 : ¬ p = 0 := by omega
                        have i1 : (i : Int) < ((m + m : Nat) : Int) := by omega
                        have i5 : (i : Int) < (m : Int) + (m : Int) := by omega
                        have i2 : (0 : Int) ≤ (i : Int) := by omega
                        have i3 : (c : Int) < (m : Int) := by omega
                        have i4 : (0 : Int) ≤ (c : Int) := by omega
                        clear hz hgv hnx hw hbw hx hmul
                        go_wp2_with fail
                        go_still_tail 17, (by kernel_rfl)
                        repeat still_step
                        first | (change wpList _ _ _ _ _ wr.drew) | (refine wpStill_nil ?_; change wpList _ _ _ _ _ wr.drew)
                        go_wp2_with fail
                        go_roundw
                        case rel => exact ⟨i + 1, by go_num, by omega, HNX.out.1, HNX.out.2⟩
                        case measure => simp [intOf]; omega
                      · obtain rfl : i = m + m := by omega
                        have hd : decide (((m + m : Nat) : Int) < 2 * (m : Int)) = false := decide_eq_false (by omega)
                        have HD := Lib.hid (hw.congr fun a _ b hb => HX.out a b hb)
                        have HDB := Lib.hid hbw
                        have HDIN := Lib.hid (HIN1.out.divF_ (i := c) (by omega))
                        clear hw hbw HW1 HB1 HX
                        generalize divF p F1 c = F2 at HD HDIN HS'
                        generalize ((m + m : Nat) : Int) = vm at hd ⊢
                        go_wp2_with fail
                        go_loopw [15] (fun t wr' => ∃ j : Nat, t = .int .i64 j ∧ j ≤ m ∧ WrL wr' w6.heap.size g m (m + m) rb2 cp2 (clrTo p F2 c j) ∧ Below w6.heap.size w6 wr') (fun t _ => m - (intOf t).toNat)
                        case atStart => exact ⟨0, rfl, Nat.zero_le _, by rw [clrTo_zero]; exact HD.out, HDB.out⟩
                        case round =>
                          obtain ⟨j, rfl, hj, hw, hbw⟩ := hrel
                          rename World => wr
                          clear hd HD HDB
                          by_cases hjm : j < m
                          · have hd : decide ((j : Int) < (m : Int)) = true := decide_eq_true (by omega)
                            have hh := hw.hcell hjm
                            have he := hw.cell (i := j) (j := c) hjm (by omega)
                            rw [clrTo_at] at he
                            have hy0 := HDIN.out j hjm c (by omega)
                            have HWJ := Lib.hid hw
                            have HBJ := Lib.hid hbw
                            clear hw hbw
                            by_cases hjc : j = c
                            ·
                              subst hjc
                              have hb1 : decide ((0 : Int) < 2 * (m : Int)) = true := decide_eq_true (by omega)
                              go_wp2_with fail
                              clear hh he
                              go_loopw [17] (fun t wr' => t = .int .i64 0 ∧ wr' = wr) (fun t _ => 0)
                              case atStart => exact ⟨rfl, rfl⟩
                              case round =>
                                obtain ⟨rfl, hwr⟩ := hrel
                                subst hwr
                                rename World => wr
                                go_wp2_with fail
                                go_roundw
                                case rel => exact ⟨j + 1, by go_num, by omega, by rw [clrTo_skip]; exact HWJ.out, HBJ.out⟩
                                case measure => simp [intOf]; omega
                            · have hb4 : ((j : Int) != (c : Int)) = true := by simp; omega
                              have hb5 : (j != c) = true := by simp; omega
                              have HJC := Lib.hid hjc
                              clear hjc
                              have hyE := addStg_end (p := p) (c := c) (j := j) HJC.out HDIN.out hjm
                              generalize hy : F2 j c = y at he hy0 hyE
                              have HYE := Lib.hid hyE
                              clear hyE hy
                              go_wp2_with fail
                              clear hh he
                              go_loopw [17] (fun t wr' => ∃ i : Nat, t = .int .i64 i ∧ i ≤ m + m ∧ WrL wr' w6.heap.size g m (m + m) rb2 cp2 (addStg p (clrTo p F2 c j) c j y i) ∧ Below w6.heap.size w6 wr') (fun t _ => (m + m) - (intOf t).toNat)
                              case atStart => exact ⟨0, rfl, Nat.zero_le _, by rw [addStg_zero]; exact HWJ.out, HBJ.out⟩
                              case round =>
                                obtain ⟨i, rfl, hi, hw, hbw⟩ := hrel
                                rename World => wr
                                by_cases hlt2 : i < m + m
                                · have hd2 : decide ((i : Int) < 2 * (m : Int)) = true := decide_eq_true (by omega)
                                  have h1 := hw.hcell hjm
                                  have h2 := hw.hcell hlt
                                  have h3 := hw.cell (i := j) (j := i) hjm hlt2
                                  have h4 := hw.cell (i := c) (j := i) hlt hlt2
                                  have hfr := hw.fr hjm i
                                  rw [addStg_at, clrTo_at] at h3
                                  rw [addStg_other p _ (fun e => HJC.out e.symm), clrTo_i] at h4
                                  have hx1 := HDIN.out j hjm i hlt2
                                  have hx2 := HDIN.out c hlt i hlt2
                                  have hgv := addStg_upd p (clrTo p F2 c j) c j y i
                                  rw [clrTo_at, clrTo_i] at hgv
                                  have hnx : ∀ st, st = F2 j i + (p - y) * F2 c i → WrL (wr.setCell ⟨rb2 j, i, none⟩ (.int .i64 (st % p))).drew w6.heap.size g m (m + m) rb2 cp2 (addStg p (clrTo p F2 c j) c j y (i + 1)) ∧ Below w6.heap.size w6 (wr.setCell ⟨rb2 j, i, none⟩ (.int .i64 (st % p))).drew := fun st hst => by
                                    subst hst
                                    refine ⟨?_, below_drew (hbw.setCell (p := ⟨rb2 j, i, none⟩) (hw.rows j hjm).1 _)⟩
                                    rw [← hgv]
                                    exact (hw.upd hjm (k := i) _).drew
                                  generalize F2 j i = a at h3 hx1 hnx
                                  generalize F2 c i = b at h4 hx2 hnx
                                  obtain ⟨q, hq⟩ : ∃ q, p - y = q := ⟨_, rfl⟩
                                  have hwq : IntKind.i64.wrap (p - y) = q := by rw [hq]; exact IntWalk.i64_in _ ⟨by omega, by omega⟩
                                  have hmul := mul_in (a := q) (b := b) (p := p) (q := p) ⟨by omega, by omega⟩ ⟨hx2.1, by omega⟩ (by omega) (by omega)
                                  rw [hq] at hnx
                                  obtain ⟨z, hz⟩ : ∃ z, q * b = z := ⟨_, rfl⟩
                                  have hw1 : IntKind.i64.wrap (q * b) = z := by rw [hz]; exact IntWalk.i64_in _ ⟨by omega, by omega⟩
                                  rw [hz] at hmul hnx
                                  obtain ⟨st, hst⟩ : ∃ st, a + z = st := ⟨_, rfl⟩
                                  have hw2 : IntKind.i64.wrap (a + z) = st := by rw [hst]; exact IntWalk.i64_in _ ⟨by omega, by omega⟩
                                  have HNX := Lib.hid (hnx st hst.symm)
                                  have hr : st.tmod p = st % p := Int.tmod_eq_emod_of_nonneg (by omega)
                                  have hr1 : 0 ≤ st % p := Int.emod_nonneg _ (by omega)
                                  have hr2 : st % p < p := Int.emod_lt_of_pos _ (by omega)
                                  have hw3 : IntKind.i64.wrap (st % p) = st % p := IntWalk.i64_in _ ⟨by omega, by omega⟩
                                  have hp9 : ¬ p = 0 := by omega
                                  have i1 : (i : Int) < ((m + m : Nat) : Int) := by omega
                                  have i5 : (i : Int) < (m : Int) + (m : Int) := by omega
                                  have i2 : (0 : Int) ≤ (i : Int) := by omega
                                  have i3 : (c : Int) < (m : Int) := by omega
                                  have i4 : (0 : Int) ≤ (c : Int) := by omega
                                  have i6 : (j : Int) < (m : Int) := by omega
                                  have i7 : (0 : Int) ≤ (j : Int) := by omega
                                  clear hq hz hst hgv hnx hw hbw hx1 hx2 hmul
                                  go_wp2_with fail
                                  go_still_tail 27, (by kernel_rfl)
                                  repeat still_step
                                  first | (change wpList _ _ _ _ _ wr.drew) | (refine wpStill_nil ?_; change wpList _ _ _ _ _ wr.drew)
                                  go_wp2_with fail
                                  go_roundw
                                  case rel => exact ⟨i + 1, by go_num, by omega, HNX.out.1, HNX.out.2⟩
                                  case measure => simp [intOf]; omega
                                · obtain rfl : i = m + m := by omega
                                  have hd2 : decide (((m + m : Nat) : Int) < 2 * (m : Int)) = false := decide_eq_false (by omega)
                                  have HN := Lib.hid (hw.congr HYE.out)
                                  have HNB := Lib.hid hbw
                                  clear hw hbw
                                  go_wp2_with fail
                                  go_roundw
                                  case rel => exact ⟨j + 1, by go_num, by omega, HN.out, HNB.out⟩
                                  case measure => simp [intOf]; omega
                          · obtain rfl : j = m := by omega
                            have hd : decide ((j : Int) < (j : Int)) = false := decide_eq_false (by omega)
                            have HE := Lib.hid (hw.congr fun a ha b _ => clrTo_end (p := p) F2 c j a ha b)
                            have HEB := Lib.hid hbw
                            clear hw hbw
                            go_wp2_with fail
                            go_roundw
                            case rel => exact ⟨c + 1, rb2, cp2, s', by go_num, by omega, HEL'.out, by rw [HS'.out]; exact HE.out, HEB.out⟩
                            case measure => simp [intOf]; omega
              · obtain rfl : m = k := by omega
                have hd2 : decide ((m : Int) < (m : Int)) = false := decide_eq_false (by omega)
                have hdet := elim_stuck hlt HEL.out HZ.out
                have hj3 := HR6.out.below HBW.out HR6.out.lt
                have HE := Lib.hid (end_bad (w := w) hj3 (HB6.out.trans (HBW.out.mono HB6.out.size)) (B := w.heap.size) (by omega))
                have HDET := Lib.hid hdet
                have d0 := hj3.cell (i := 0) rfl
                have d1 := hj3.cell (i := 1) rfl
                have f0 := hj3.frozen 0
                have f1 := hj3.frozen 1
                clear hj3 hdet
                go_wp2_with fail
                obtain ⟨k3, k2⟩ := HE.out
                have hc0 := k3.cell (i := 0) rfl
                have hc1 := k3.cell (i := 1) rfl
                refine bodyPost_ret (v := .tuple #[.agg #[.int .i64 0, .slice none 0 0], .int .i64 15]) ?_ rfl (HPO.out _ _ ⟨fun _ => ⟨rfl, k2⟩, fun h => absurd HDET.out h⟩)
                simp [results, Try.results66, go_sem, hc0, hc1]
          · obtain rfl : m = c := by omega
            have hd : decide ((m : Int) < (m : Int)) = false := decide_eq_false (by omega)
            have hne := detV_ne (by omega) HINV.out (by omega) HIN.out HEL.out
            have hinv : invF p m f = fun i j => s.1 i (m + j) := by funext i j; unfold invF; rw [HEL.out]
            have HPO2 := Lib.hid (fun (e : Ending) (w' : World) (h : OkM w p m m (fun i j => s.1 i (m + j)) e w') => HPO.out e w' ⟨fun h0 => absurd h0 hne, fun _ => by rw [hinv]; exact h⟩)
            clear hne hinv HPO HEL HINV HIN
            have HOS := Lib.hid (out_start wr p m m (fun a b => s.1 a (m + b)))
            have HBQ := Lib.hid (HB6.out.trans (HBW.out.mono HB6.out.size))
            have HRQ := Lib.hid (HR6.out.below HBW.out HR6.out.lt)
            have HV0 := Lib.hid (fun (i : Nat) (hi : i < m) (W : World) (hb : Below wr.heap.size wr W) => (show W.cell? ⟨g, i, none⟩ = some (.slice (some ⟨rb i, 0, none⟩) (m + m) (cp i)) ∧ m + m ≤ cp i ∧ Vec W (· < W.heap.size) (.slice (some ⟨rb i, m, none⟩) m (cp i - m)) m (fun b => s.1 i (m + b)) from ⟨(HW.out.below hb).hcell hi, ((HW.out.below hb).off hi).1, ((HW.out.below hb).off hi).2⟩))
            go_wp2_with fail
            clear hd HW HBW HR6 HB6 HA6
            generalize hG : (fun a b => s.1 a (m + b)) = G at HOS HPO2
            have HV1 := Lib.hid (fun (i : Nat) (hi : i < m) (W : World) (hb : Below wr.heap.size wr W) => (show W.cell? ⟨g, i, none⟩ = some (.slice (some ⟨rb i, 0, none⟩) (m + m) (cp i)) ∧ m + m ≤ cp i ∧ Vec W (· < W.heap.size) (.slice (some ⟨rb i, m, none⟩) m (cp i - m)) m (G i) from by rw [← hG]; exact HV0.out i hi W hb))
            clear HV0 hG
            go_loopw [19] (fun t w' => ∃ i : Nat, t = .int .i64 i ∧ i ≤ m ∧ OutI wr p m m G i w') (fun t _ => m - (intOf t).toNat)
            case atStart => exact ⟨0, rfl, Nat.zero_le _, HOS.out⟩
            case round =>
              obtain ⟨i, rfl, hi, hO⟩ := hrel
              rename World => wv
              by_cases hlt : i < m
              · have hd : decide ((i : Int) < (m : Int)) = true := decide_eq_true (by omega)
                obtain ⟨wB, v, hwB, hI, hrow⟩ := hO.bld
                obtain ⟨rb', cp', hO1, hV1, hM1⟩ := hI.rows
                have hsv := hO.b.size
                have hsB := hI.b.size
                have HCP := HV1.out i hlt _ hO.b
                have HSV := Lib.hid (fun (W : World) (hb : Below wv.heap.size wv W) => (HV1.out i hlt W (hO.b.trans (hb.mono hO.b.size))).1)
                have HI := Lib.hid hI
                have HO1 := Lib.hid hO1
                have HV2 := Lib.hid hV1
                have HM := Lib.hid hM1
                have HRW := Lib.hid hrow
                have HOB := Lib.hid hO.b
                have hcp : m + m ≤ cp i := HCP.2.1
                have HVV := Lib.hid HCP.2.2
                have hwrv : wr.heap.size < wv.heap.size := by omega
                have HWB := Lib.hid hwB
                have HOWN := Lib.hid (own_any (.slice (some ⟨rb i, m, none⟩) m (cp i - m)) m (G i) wv.drew g1 (by omega) HVV.out)
                clear hO hI hO1 hV1 hM1 hrow HCP hwB HVV
                go_wp2_with fail
                refine wp_region_held_drew (S := (fun W => W.cell? ⟨g, i, none⟩ = some (.slice (some ⟨rb i, 0, none⟩) (m + m) (cp i)))) (by as_aux_lemma => kernel_rfl) (HSV.out _ (below_drew (Below.refl _ _))) (fun hHeld => ?_)
                have HI' := Lib.hid HI.out.drew
                have HB0 := Lib.hid (show Below wv.heap.size wv wv.drew from below_drew (Below.refl _ _))
                refine takeH (i := 0) (v := (.pointer (some ⟨wr.heap.size, 1, none⟩))) rfl rfl (by as_aux_lemma => kernel_rfl) (by as_aux_lemma => kernel_rfl) (by as_aux_lemma => kernel_rfl) (fun _ _ _ h => h) (by rfl) (fun W hW => by (skip); go_simp) (by assumption) ?_
                simp only [List.setIfInBounds_toArray, List.set_cons_zero, List.set_cons_succ]
                refine takeH (i := 2) (v := (.slice (some ⟨g, 0, none⟩) m cap)) rfl rfl (by as_aux_lemma => kernel_rfl) (by as_aux_lemma => kernel_rfl) (by as_aux_lemma => kernel_rfl) (fun _ _ _ h => h) (by rfl) (fun W hW => by (skip); go_simp) (by assumption) ?_
                simp only [List.setIfInBounds_toArray, List.set_cons_zero, List.set_cons_succ]
                refine takeH (i := 3) (v := (.int .i64 i)) rfl rfl (by as_aux_lemma => kernel_rfl) (by as_aux_lemma => kernel_rfl) (by as_aux_lemma => kernel_rfl) (fun _ _ _ h => h) (by rfl) (fun W hW => by (skip); go_simp) (by assumption) ?_
                simp only [List.setIfInBounds_toArray, List.set_cons_zero, List.set_cons_succ]
                refine takeH (i := 4) (v := (.pointer (some ⟨g, i, none⟩))) rfl rfl (by as_aux_lemma => kernel_rfl) (by as_aux_lemma => kernel_rfl) (by as_aux_lemma => kernel_rfl) (fun _ _ _ h => h) (by rfl) (fun W hW => by (skip); go_simp) (by assumption) ?_
                simp only [List.setIfInBounds_toArray, List.set_cons_zero, List.set_cons_succ]
                refine takeH (i := 5) (v := (.slice (some ⟨rb i, 0, none⟩) (m + m) (cp i))) rfl rfl (by as_aux_lemma => kernel_rfl) (by as_aux_lemma => kernel_rfl) (by as_aux_lemma => kernel_rfl) (fun _ _ _ h => h) (by rfl) (fun W hW => by (skip); go_simp) (by assumption) ?_
                simp only [List.setIfInBounds_toArray, List.set_cons_zero, List.set_cons_succ]
                refine takeH (i := 6) (v := (.int .i64 m)) rfl rfl (by as_aux_lemma => kernel_rfl) (by as_aux_lemma => kernel_rfl) (by as_aux_lemma => kernel_rfl) (fun _ _ _ h => h) (by rfl) (fun W hW => by (skip); go_simp) (by assumption) ?_
                simp only [List.setIfInBounds_toArray, List.set_cons_zero, List.set_cons_succ]
                have hrs : ∀ W, (Instr.slice 28 (.slice (some ⟨rb i, 0, none⟩) (m + m) (cp i)) (some (.int .i64 m)) none none).run Try.prog W = .ok (.slice (some ⟨rb i, m, none⟩) m (cp i - m)) W := fun W => ref_cut (by omega) hcp
                refine takeH (i := 7) (v := (.slice (some ⟨rb i, m, none⟩) m (cp i - m))) rfl rfl (by as_aux_lemma => kernel_rfl) (by as_aux_lemma => kernel_rfl) (by as_aux_lemma => kernel_rfl) (fun _ _ _ h => h) (by rfl) (fun W hW => by (skip); go_simp) (by assumption) ?_
                simp only [List.setIfInBounds_toArray, List.set_cons_zero, List.set_cons_succ]
                clear hrs
                refine wpAnyH_ready (rs := [1, 8]) (by as_aux_lemma => kernel_rfl) (by simp) ?_
                refine (AllReadyH.cons rfl (fun K hK => ?_) (AllReadyH.cons rfl (fun K hK => ?_) AllReadyH.nil))
                · have l0 : (wv).cell? ⟨wr.heap.size, 1, none⟩ = some v := HRW.out.cell (i := 1) rfl
                  go_simp
                  clear l0
                  refine hK.out _ _ (HSV.out _ HB0.out) (fun hHeld => ?_)
                  clear hK K
                  try simp only [Act.put, List.setIfInBounds_toArray, List.set_cons_zero, List.set_cons_succ]
                  refine wpAnyH_ready (rs := [8]) (by as_aux_lemma => kernel_rfl) (by simp) ?_
                  refine (AllReadyH.cons rfl (fun K hK => ?_) AllReadyH.nil)
                  go_simp
                  go_at_call 34
                  refine HOWN.out.mono ?_
                  rintro e W1 ⟨r1, rfl, hr1, hb1⟩
                  have HB1 := Lib.hid (HB0.out.trans hb1)
                  have hlen1 : ((List.range m).map (G i)).length = m := by simp
                  obtain ⟨g1', c1, cur, hv1, hgb, hc1, hrow1, hcur1⟩ := hr1.arr (by rw [hlen1]; omega)
                  rw [hlen1] at hv1 hc1 hcur1
                  subst hv1
                  have HROW1 := Lib.hid hrow1
                  have HCUR1 := Lib.hid (fun k (hk : k < m) => (hcur1 k hk).trans (by rw [List.getD_eq_getElem?_getD, List.getElem?_map, List.getElem?_range hk]))
                  have HGB := Lib.hid (show wv.heap.size ≤ g1' from hgb)
                  have HC1 := Lib.hid hc1
                  clear hlen1 hr1 hb1 hgb hc1 hrow1 hcur1
                  refine hK.out _ _ (HSV.out _ HB1.out) (fun hHeld => ?_)
                  clear hK K HOWN
                  try simp only [Act.put, List.setIfInBounds_toArray, List.set_cons_zero, List.set_cons_succ]
                  refine wpAnyH_ready (rs := [9]) (by as_aux_lemma => kernel_rfl) (by simp) ?_
                  refine (AllReadyH.cons rfl (fun K hK => ?_) AllReadyH.nil)
                  go_simp
                  refine hK.out _ _ (HSV.out _ (HB1.out.alloc HB1.out.size _)) (fun hHeld => ?_)
                  clear hK K
                  try simp only [Act.put, List.setIfInBounds_toArray, List.set_cons_zero, List.set_cons_succ]
                  have HO3 := Lib.hid (((But.of (t := wv.heap.size) HB1.out (Nat.le_refl _)).owns HO1.out (fun g hg => ⟨(HO1.out.lt g hg).2, by have := (HO1.out.lt g hg).2; omega⟩)).alloc (.cells #[.slice (some ⟨g1', 0, none⟩) m c1] 28))
                  have HCN := Lib.hid (cell_one_new W1 (.slice (some ⟨g1', 0, none⟩) m c1) 28)
                  have hs1 := HB1.out.size
                  refine wpAnyH_ready (rs := [10]) (by as_aux_lemma => kernel_rfl) (by simp) ?_
                  refine (AllReadyH.cons rfl (fun K hK => ?_) AllReadyH.nil)
                  refine op_append_own (.tmp 186) (.tmp 194) 37 rfl wB.heap.size 28 j0 (.slice none 0 0) 1 24 Try.underlying37 hj0 hy0 hy1 hy2 rfl (by decide) _ _ _ rfl HO3.out ⟨W1.heap.size, 0, none⟩ 1 1 [.slice (some ⟨g1', 0, none⟩) m c1] rfl rfl HCN.out (by simp [Value.oneCell']) (by unfold maxLen; omega) (by omega) (by simp; omega) ?_
                  intro v4 W4 hown4 hg4 hob4
                  have hBld := bld_step HI.out hlt HO1.out HV2.out HM.out HB1.out HGB.out HC1.out HROW1.out HCUR1.out hown4 hg4 hob4
                  have hb4 : Below wB.heap.size W1 W4 := ((Below.refl wB.heap.size W1).alloc (by omega) _).grown hg4 (by simp <;> omega) (fun q hq => (HO1.out.lt q hq).1)
                  have hb40 : Below wr.heap.size wr W4 := (HOB.out.trans (HB1.out.mono HOB.out.size)).trans (hb4.mono (by have := HWB.out; omega))
                  have hr4 : Row W4 wr.heap.size 61 #[.int .i64 p, v] := (HRW.out.below HB1.out hwrv).below hb4 (by have := HWB.out; omega)
                  have HN := Lib.hid (OutI.next hBld HWB.out hb40 hr4)
                  have HS4 := Lib.hid (HV1.out i hlt _ hb40).1
                  have HS5 := Lib.hid (show (W4.setCell ⟨wr.heap.size, 1, none⟩ v4).cell? ⟨g, i, none⟩ = some (.slice (some ⟨rb i, 0, none⟩) (m + m) (cp i)) from (HV1.out i hlt _ HN.out.b).1)
                  have l4 := hr4.cell (i := 1) rfl
                  have f4 := hr4.frozen 1
                  obtain ⟨A4, c4, rfl⟩ := owned_form hown4
                  refine hK.out _ _ HS4.out (fun hHeld => ?_)
                  clear hK K hown4 hg4 hob4 hBld hb4 hb40 hr4 HO3 HCN HROW1 HCUR1 HGB HC1
                  try simp only [Act.put, List.setIfInBounds_toArray]
                  refine takeH (i := 11) (v := (.pointer (some ⟨wr.heap.size, 1, none⟩))) rfl rfl (by as_aux_lemma => kernel_rfl) (by as_aux_lemma => kernel_rfl) (by as_aux_lemma => kernel_rfl) (fun _ _ _ h => h) (by rfl) (fun W hW => by (skip); go_simp) (by assumption) ?_
                  simp only [List.setIfInBounds_toArray, List.set_cons_zero, List.set_cons_succ]
                  refine wpAnyH_ready (rs := [12]) (by as_aux_lemma => kernel_rfl) (by simp) ?_
                  refine (AllReadyH.cons rfl (fun K hK => ?_) AllReadyH.nil)
                  go_simp
                  refine hK.out _ _ HS5.out (fun hHeld => ?_)
                  clear hK K
                  try simp only [Act.put, List.setIfInBounds_toArray, List.set_cons_zero, List.set_cons_succ]
                  refine wpAnyH_done (by as_aux_lemma => kernel_rfl) ?_ _
                  go_wp2_with fail
                  go_roundw
                  case rel => exact ⟨i + 1, by go_num, by omega, HN.out⟩
                  case measure => simp [intOf]; omega
                · go_simp
                  go_at_call 34
                  refine HOWN.out.mono ?_
                  rintro e W1 ⟨r1, rfl, hr1, hb1⟩
                  have HB1 := Lib.hid (HB0.out.trans hb1)
                  have hlen1 : ((List.range m).map (G i)).length = m := by simp
                  obtain ⟨g1', c1, cur, hv1, hgb, hc1, hrow1, hcur1⟩ := hr1.arr (by rw [hlen1]; omega)
                  rw [hlen1] at hv1 hc1 hcur1
                  subst hv1
                  have HROW1 := Lib.hid hrow1
                  have HCUR1 := Lib.hid (fun k (hk : k < m) => (hcur1 k hk).trans (by rw [List.getD_eq_getElem?_getD, List.getElem?_map, List.getElem?_range hk]))
                  have HGB := Lib.hid (show wv.heap.size ≤ g1' from hgb)
                  have HC1 := Lib.hid hc1
                  clear hlen1 hr1 hb1 hgb hc1 hrow1 hcur1
                  refine hK.out _ _ (HSV.out _ HB1.out) (fun hHeld => ?_)
                  clear hK K HOWN
                  try simp only [Act.put, List.setIfInBounds_toArray, List.set_cons_zero, List.set_cons_succ]
                  refine wpAnyH_ready (rs := [1, 9]) (by as_aux_lemma => kernel_rfl) (by simp) ?_
                  refine (AllReadyH.cons rfl (fun K hK => ?_) (AllReadyH.cons rfl (fun K hK => ?_) AllReadyH.nil))
                  · have l0 : (W1).cell? ⟨wr.heap.size, 1, none⟩ = some v := (HRW.out.below HB1.out hwrv).cell (i := 1) rfl
                    go_simp
                    clear l0
                    refine hK.out _ _ (HSV.out _ HB1.out) (fun hHeld => ?_)
                    clear hK K
                    try simp only [Act.put, List.setIfInBounds_toArray, List.set_cons_zero, List.set_cons_succ]
                    refine wpAnyH_ready (rs := [9]) (by as_aux_lemma => kernel_rfl) (by simp) ?_
                    refine (AllReadyH.cons rfl (fun K hK => ?_) AllReadyH.nil)
                    go_simp
                    refine hK.out _ _ (HSV.out _ (HB1.out.alloc HB1.out.size _)) (fun hHeld => ?_)
                    clear hK K
                    try simp only [Act.put, List.setIfInBounds_toArray, List.set_cons_zero, List.set_cons_succ]
                    have HO3 := Lib.hid (((But.of (t := wv.heap.size) HB1.out (Nat.le_refl _)).owns HO1.out (fun g hg => ⟨(HO1.out.lt g hg).2, by have := (HO1.out.lt g hg).2; omega⟩)).alloc (.cells #[.slice (some ⟨g1', 0, none⟩) m c1] 28))
                    have HCN := Lib.hid (cell_one_new W1 (.slice (some ⟨g1', 0, none⟩) m c1) 28)
                    have hs1 := HB1.out.size
                    refine wpAnyH_ready (rs := [10]) (by as_aux_lemma => kernel_rfl) (by simp) ?_
                    refine (AllReadyH.cons rfl (fun K hK => ?_) AllReadyH.nil)
                    refine op_append_own (.tmp 186) (.tmp 194) 37 rfl wB.heap.size 28 j0 (.slice none 0 0) 1 24 Try.underlying37 hj0 hy0 hy1 hy2 rfl (by decide) _ _ _ rfl HO3.out ⟨W1.heap.size, 0, none⟩ 1 1 [.slice (some ⟨g1', 0, none⟩) m c1] rfl rfl HCN.out (by simp [Value.oneCell']) (by unfold maxLen; omega) (by omega) (by simp; omega) ?_
                    intro v4 W4 hown4 hg4 hob4
                    have hBld := bld_step HI.out hlt HO1.out HV2.out HM.out HB1.out HGB.out HC1.out HROW1.out HCUR1.out hown4 hg4 hob4
                    have hb4 : Below wB.heap.size W1 W4 := ((Below.refl wB.heap.size W1).alloc (by omega) _).grown hg4 (by simp <;> omega) (fun q hq => (HO1.out.lt q hq).1)
                    have hb40 : Below wr.heap.size wr W4 := (HOB.out.trans (HB1.out.mono HOB.out.size)).trans (hb4.mono (by have := HWB.out; omega))
                    have hr4 : Row W4 wr.heap.size 61 #[.int .i64 p, v] := (HRW.out.below HB1.out hwrv).below hb4 (by have := HWB.out; omega)
                    have HN := Lib.hid (OutI.next hBld HWB.out hb40 hr4)
                    have HS4 := Lib.hid (HV1.out i hlt _ hb40).1
                    have HS5 := Lib.hid (show (W4.setCell ⟨wr.heap.size, 1, none⟩ v4).cell? ⟨g, i, none⟩ = some (.slice (some ⟨rb i, 0, none⟩) (m + m) (cp i)) from (HV1.out i hlt _ HN.out.b).1)
                    have l4 := hr4.cell (i := 1) rfl
                    have f4 := hr4.frozen 1
                    obtain ⟨A4, c4, rfl⟩ := owned_form hown4
                    refine hK.out _ _ HS4.out (fun hHeld => ?_)
                    clear hK K hown4 hg4 hob4 hBld hb4 hb40 hr4 HO3 HCN HROW1 HCUR1 HGB HC1
                    try simp only [Act.put, List.setIfInBounds_toArray]
                    refine takeH (i := 11) (v := (.pointer (some ⟨wr.heap.size, 1, none⟩))) rfl rfl (by as_aux_lemma => kernel_rfl) (by as_aux_lemma => kernel_rfl) (by as_aux_lemma => kernel_rfl) (fun _ _ _ h => h) (by rfl) (fun W hW => by (skip); go_simp) (by assumption) ?_
                    simp only [List.setIfInBounds_toArray, List.set_cons_zero, List.set_cons_succ]
                    refine wpAnyH_ready (rs := [12]) (by as_aux_lemma => kernel_rfl) (by simp) ?_
                    refine (AllReadyH.cons rfl (fun K hK => ?_) AllReadyH.nil)
                    go_simp
                    refine hK.out _ _ HS5.out (fun hHeld => ?_)
                    clear hK K
                    try simp only [Act.put, List.setIfInBounds_toArray, List.set_cons_zero, List.set_cons_succ]
                    refine wpAnyH_done (by as_aux_lemma => kernel_rfl) ?_ _
                    go_wp2_with fail
                    go_roundw
                    case rel => exact ⟨i + 1, by go_num, by omega, HN.out⟩
                    case measure => simp [intOf]; omega
                  · go_simp
                    refine hK.out _ _ (HSV.out _ (HB1.out.alloc HB1.out.size _)) (fun hHeld => ?_)
                    clear hK K
                    try simp only [Act.put, List.setIfInBounds_toArray, List.set_cons_zero, List.set_cons_succ]
                    refine wpAnyH_ready (rs := [1]) (by as_aux_lemma => kernel_rfl) (by simp) ?_
                    refine (AllReadyH.cons rfl (fun K hK => ?_) AllReadyH.nil)
                    have l0 : (W1.alloc (.cells #[.slice (some ⟨g1', 0, none⟩) m c1] 28)).cell? ⟨wr.heap.size, 1, none⟩ = some v := ((HRW.out.below HB1.out hwrv).alloc _).cell (i := 1) rfl
                    go_simp
                    clear l0
                    refine hK.out _ _ (HSV.out _ (HB1.out.alloc HB1.out.size _)) (fun hHeld => ?_)
                    clear hK K
                    try simp only [Act.put, List.setIfInBounds_toArray, List.set_cons_zero, List.set_cons_succ]
                    have HO3 := Lib.hid (((But.of (t := wv.heap.size) HB1.out (Nat.le_refl _)).owns HO1.out (fun g hg => ⟨(HO1.out.lt g hg).2, by have := (HO1.out.lt g hg).2; omega⟩)).alloc (.cells #[.slice (some ⟨g1', 0, none⟩) m c1] 28))
                    have HCN := Lib.hid (cell_one_new W1 (.slice (some ⟨g1', 0, none⟩) m c1) 28)
                    have hs1 := HB1.out.size
                    refine wpAnyH_ready (rs := [10]) (by as_aux_lemma => kernel_rfl) (by simp) ?_
                    refine (AllReadyH.cons rfl (fun K hK => ?_) AllReadyH.nil)
                    refine op_append_own (.tmp 186) (.tmp 194) 37 rfl wB.heap.size 28 j0 (.slice none 0 0) 1 24 Try.underlying37 hj0 hy0 hy1 hy2 rfl (by decide) _ _ _ rfl HO3.out ⟨W1.heap.size, 0, none⟩ 1 1 [.slice (some ⟨g1', 0, none⟩) m c1] rfl rfl HCN.out (by simp [Value.oneCell']) (by unfold maxLen; omega) (by omega) (by simp; omega) ?_
                    intro v4 W4 hown4 hg4 hob4
                    have hBld := bld_step HI.out hlt HO1.out HV2.out HM.out HB1.out HGB.out HC1.out HROW1.out HCUR1.out hown4 hg4 hob4
                    have hb4 : Below wB.heap.size W1 W4 := ((Below.refl wB.heap.size W1).alloc (by omega) _).grown hg4 (by simp <;> omega) (fun q hq => (HO1.out.lt q hq).1)
                    have hb40 : Below wr.heap.size wr W4 := (HOB.out.trans (HB1.out.mono HOB.out.size)).trans (hb4.mono (by have := HWB.out; omega))
                    have hr4 : Row W4 wr.heap.size 61 #[.int .i64 p, v] := (HRW.out.below HB1.out hwrv).below hb4 (by have := HWB.out; omega)
                    have HN := Lib.hid (OutI.next hBld HWB.out hb40 hr4)
                    have HS4 := Lib.hid (HV1.out i hlt _ hb40).1
                    have HS5 := Lib.hid (show (W4.setCell ⟨wr.heap.size, 1, none⟩ v4).cell? ⟨g, i, none⟩ = some (.slice (some ⟨rb i, 0, none⟩) (m + m) (cp i)) from (HV1.out i hlt _ HN.out.b).1)
                    have l4 := hr4.cell (i := 1) rfl
                    have f4 := hr4.frozen 1
                    obtain ⟨A4, c4, rfl⟩ := owned_form hown4
                    refine hK.out _ _ HS4.out (fun hHeld => ?_)
                    clear hK K hown4 hg4 hob4 hBld hb4 hb40 hr4 HO3 HCN HROW1 HCUR1 HGB HC1
                    try simp only [Act.put, List.setIfInBounds_toArray]
                    refine takeH (i := 11) (v := (.pointer (some ⟨wr.heap.size, 1, none⟩))) rfl rfl (by as_aux_lemma => kernel_rfl) (by as_aux_lemma => kernel_rfl) (by as_aux_lemma => kernel_rfl) (fun _ _ _ h => h) (by rfl) (fun W hW => by (skip); go_simp) (by assumption) ?_
                    simp only [List.setIfInBounds_toArray, List.set_cons_zero, List.set_cons_succ]
                    refine wpAnyH_ready (rs := [12]) (by as_aux_lemma => kernel_rfl) (by simp) ?_
                    refine (AllReadyH.cons rfl (fun K hK => ?_) AllReadyH.nil)
                    go_simp
                    refine hK.out _ _ HS5.out (fun hHeld => ?_)
                    clear hK K
                    try simp only [Act.put, List.setIfInBounds_toArray, List.set_cons_zero, List.set_cons_succ]
                    refine wpAnyH_done (by as_aux_lemma => kernel_rfl) ?_ _
                    go_wp2_with fail
                    go_roundw
                    case rel => exact ⟨i + 1, by go_num, by omega, HN.out⟩
                    case measure => simp [intOf]; omega
              · obtain rfl : m = i := by omega
                have hd : decide ((m : Int) < (m : Int)) = false := decide_eq_false (by omega)
                obtain ⟨go, co, hrow, hgr⟩ := hO.done g1
                have hb0 := HBQ.out.trans (hO.b.mono HBQ.out.size)
                have c4 := hrow.cell (i := 0) rfl
                have c5 := hrow.cell (i := 1) rfl
                have hR := HRQ.out.below hO.b HRQ.out.lt
                have d0 := hR.cell (i := 0) rfl
                have d1 := hR.cell (i := 1) rfl
                have f0 := hR.frozen 0
                have f1 := hR.frozen 1
                have hlo := HRQ.out.lt
                have HXR := Lib.hid (agg_res (B := w.heap.size) hR hb0 (by omega) (.int .i64 p) (.slice (some ⟨go, 0, none⟩) m co))
                have HGR := Lib.hid ((hgr.set2 (R := w.heap.size + 1) (fun h => by have := h.1; omega) (.int .i64 p) (.slice (some ⟨go, 0, none⟩) m co)).more (S' := New w ((wv.setCell ⟨w.heap.size + 1, 0, none⟩ (.int .i64 p)).setCell ⟨w.heap.size + 1, 1, none⟩ (.slice (some ⟨go, 0, none⟩) m co))) (fun b h => ⟨by have := h.1; omega, by rw [size_set2]; exact h.2⟩))
                clear hO hrow hgr hb0 hR hlo
                go_wp2_with fail
                obtain ⟨k3, k2⟩ := HXR.out
                have hc0 := k3.cell (i := 0) rfl
                have hc1 := k3.cell (i := 1) rfl
                refine bodyPost_ret (v := .tuple #[.agg #[.int .i64 p, .slice (some ⟨go, 0, none⟩) m co], .int .i64 0]) ?_ rfl (HPO2.out _ _ ⟨_, rfl, HGR.out, k2⟩)
                simp [results, Try.results66, go_sem, hc0, hc1]
  · have hd2 : (x != 0) = true := by simpa using hx0
    have HPO := Lib.hid (fun (e : Ending) (w' : World) (h : BadM w x e w') => (show InvP x p m f w e w' from ⟨fun _ => h, fun h => absurd h hx0⟩))
    generalize InvP x p m f w = PP at HPO ⊢
    obtain ⟨A, c, rfl, hcm⟩ := ha.form
    have HX2 := Lib.hid (box2 w #[.int .i64 p, .slice A m c])
    clear ha hn hx0 hx
    go_enter Try.func66, Try.ntmps66
    go_wp2_with fail
    generalize (w.alloc (.cells #[.int .i64 p, .slice A m c] 61)).alloc (.cells #[.int .i64 0, .slice none 0 0] 61) = w3 at HX2
    refine (HC _ (HA.out.on HX2.out.be)).out.mono ?_
    rintro e w4 ⟨rfl, hb4⟩
    obtain ⟨j1, j2, j3⟩ := HX2.out.on hb4
    have HE := Lib.hid (end_bad (w := w) j3 j1 (B := w.heap.size) (by omega))
    have d0 := j3.cell (i := 0) rfl
    have d1 := j3.cell (i := 1) rfl
    have f0 := j3.frozen 0
    have f1 := j3.frozen 1
    clear j1 j2 j3 hb4
    go_wp2_with fail
    obtain ⟨k3, k2⟩ := HE.out
    have hc0 := k3.cell (i := 0) rfl
    have hc1 := k3.cell (i := 1) rfl
    refine bodyPost_ret (v := .tuple #[.agg #[.int .i64 0, .slice none 0 0], .int .i64 x]) ?_ rfl (HPO.out _ _ ⟨rfl, k2⟩)
    simp [results, Try.results66, go_sem, hc0, hc1]
end Go.Proofs.Ytokiejichnnmnaa

/- The reference's Order: what it finds (definitions). -/
namespace Go.Proofs.Ytokiejichnnmnaa
open Go Go.RowKit Num

/-- The powers, one product at a time. -/
def prw (p : Int) (m : Nat) (f : Nat → Nat → Int) : Nat → Nat → Nat → Int
  | 0 => f
  | k + 1 => mulF p m (prw p m f k) f
theorem prw_in {p : Int} {m : Nat} {f : Nat → Nat → Int} (hp : 2 ≤ p) (hf : InG p m m f) : ∀ k, InG p m m (prw p m f k)
  | 0 => hf
  | _ + 1 => fun _ _ _ _ => ⟨Int.emod_nonneg _ (by omega), Int.emod_lt_of_pos _ (by omega)⟩
/-- What the reference's Order finds. -/
def ordS (p : Int) (m : Nat) (f : Nat → Nat → Int) : Nat → Nat → Nat × Int
  | 0, _ => (0, 5)
  | fuel + 1, k => if gridB m (fun _ => m) (prw p m f k) oneF = true then (k + 1, 0) else ordS p m f fuel (k + 1)
def ordR (p : Int) (m : Nat) (f : Nat → Nat → Int) (x : Int) : Nat × Int := if x ≠ 0 then (0, x) else if detV p m (augF m f) = 0 then (0, 15) else ordS p m f 10000 0
end Go.Proofs.Ytokiejichnnmnaa

/- MATHEMATICS: the code's Order and the reference's find the same. -/
namespace Go.Proofs.Ytokiejichnnmnaa

theorem perGo_none {P m : Nat} (hp : 0 < (P : Int)) (g : Nat → Nat → Int) (f0 : Nat → Int) (v : VT (P : Int) m) (h : ∀ j, j < m → f0 j = v.1 j) {r : Nat} (hr : Least (vT hp g) v r) :
    ∀ fuel k, 1 ≤ k → k + fuel ≤ r → perGo (P : Int) m g f0 fuel k = 0
  | 0, k, _, _ => rfl
  | fuel + 1, k, h0, h1 => by
    have key : eqB m (itV (P : Int) m g f0 k) f0 = true → itn (vT hp g) k v = v := by
      unfold eqB
      rw [decide_eq_true_eq]
      exact fun e => VT.ext fun j hj => by rw [← itV_itn hp g f0 v h k j hj, e j hj, h j hj]
    unfold perGo
    rw [if_neg (fun e => hr.2.2 k (by omega) (by omega) (key e))]
    exact perGo_none hp g f0 v h hr fuel (k + 1) (by omega) (by omega)
theorem ordGo_all {P m : Nat} (hp : 1 < (P : Int)) (hI : Invs (P : Int)) {add : VT (P : Int) m → VT (P : Int) m → VT (P : Int) m} {z : VT (P : Int) m} {T : VT (P : Int) m → VT (P : Int) m} (S : Sp add z P T) :
    ∀ (fuel i n : Nat) (g : Nat → Nat → Int), i + fuel = m → 1 ≤ n → n ≤ 10000 → As P m hp T n g → (∀ k, k < i → itn T n (vE P m k hp) = vE P m k hp) → (∀ j, (∀ v, itn T j v = v) → n ∣ j) →
      (∃ n', ordGo (P : Int) m fuel i n g = (n', 0) ∧ 1 ≤ n' ∧ n' ≤ 10000 ∧ (∀ v, itn T n' v = v) ∧ ∀ j, (∀ v, itn T j v = v) → n' ∣ j) ∨
      (ordGo (P : Int) m fuel i n g = (0, 5) ∧ ∀ j, 1 ≤ j → j ≤ 10000 → ¬ ∀ v, itn T j v = v)
  | 0, i, n, g, hi, h1, h2, hA, he, hd => .inl ⟨n, rfl, h1, h2, hA.fix (fun k hk => he k (by omega)), hd⟩
  | fuel + 1, i, n, g, hi, h1, h2, hA, he, hd => by
    have hB : vT (by omega) g = itn T n := funext hA.acts
    obtain ⟨r, hr⟩ := least_ex (S.pow n) (vE P m i hp)
    have hrd : ∀ j, (∀ v, itn T j v = v) → n * r ∣ j := fun j hj => by
      obtain ⟨t, ht⟩ := hd j hj
      have : r ∣ t := hr.dvd t (by rw [← itn_mul, ← ht]; exact hj _)
      obtain ⟨s, hs⟩ := this
      exact ⟨s, by rw [ht, hs, Nat.mul_assoc]⟩
    by_cases hrN : r ≤ 10000 / n
    · have hr1 : r ≤ 10000 := Nat.le_trans hrN (Nat.div_le_self _ _)
      have hnr : n * r ≤ 10000 := by
        have := (Nat.le_div_iff_mul_le h1).1 hrN
        rwa [Nat.mul_comm] at this
      have hper : perGo (P : Int) m g (oneF i) (10000 / n) 1 = r := perGo_least (by omega) g (oneF i) (vE P m i hp) (fun j hj => (vE_at hp hj).symm) (by rw [hB]; exact hr) _ _ (Nat.le_refl 1) hr.1 (by omega)
      unfold ordGo
      rw [hper, if_neg (by have := hr.1; omega)]
      refine ordGo_all hp hI S fuel (i + 1) (n * r) (powF (P : Int) m r g) (by omega) (Nat.mul_pos h1 hr.1) hnr (hA.pow hI r (by omega)) (fun k hk => ?_) hrd
      by_cases hki : k = i
      · subst hki; rw [itn_mul]; exact hr.2.1
      · rw [itn_mul]; exact itn_fix _ _ (he k (by omega)) r
    · have hper : perGo (P : Int) m g (oneF i) (10000 / n) 1 = 0 := perGo_none (by omega) g (oneF i) (vE P m i hp) (fun j hj => (vE_at hp hj).symm) (by rw [hB]; exact hr) _ _ (Nat.le_refl 1) (by omega)
      refine .inr ⟨by unfold ordGo; rw [hper, if_pos rfl], fun j hj1 hj2 hj => ?_⟩
      have h3 := Nat.le_of_dvd (by omega) (hrd j hj)
      have h4 : 10000 < n * r := by
        have := (Nat.div_lt_iff_lt_mul h1).1 (show 10000 / n < r by omega)
        rwa [Nat.mul_comm] at this
      omega
theorem ordS_is (p : Int) (m : Nat) (f : Nat → Nat → Int) : ∀ fuel k,
    (∃ j, k ≤ j ∧ j < k + fuel ∧ gridB m (fun _ => m) (prw p m f j) oneF = true ∧ (∀ i, k ≤ i → i < j → ¬ gridB m (fun _ => m) (prw p m f i) oneF = true) ∧ ordS p m f fuel k = (j + 1, 0)) ∨
    ((∀ j, k ≤ j → j < k + fuel → ¬ gridB m (fun _ => m) (prw p m f j) oneF = true) ∧ ordS p m f fuel k = (0, 5))
  | 0, k => .inr ⟨fun j h1 h2 => by omega, rfl⟩
  | fuel + 1, k => by
    by_cases h : gridB m (fun _ => m) (prw p m f k) oneF = true
    · exact .inl ⟨k, Nat.le_refl _, by omega, h, fun i h1 h2 => by omega, by unfold ordS; rw [if_pos h]⟩
    · have e : ordS p m f (fuel + 1) k = ordS p m f fuel (k + 1) := by
        show (if gridB m (fun _ => m) (prw p m f k) oneF = true then (k + 1, 0) else ordS p m f fuel (k + 1)) = _
        rw [if_neg h]
      rw [e]
      rcases ordS_is p m f fuel (k + 1) with ⟨j, h1, h2, h3, h4, h5⟩ | ⟨h1, h2⟩
      · refine .inl ⟨j, by omega, by omega, h3, fun i hi1 hi2 => ?_, h5⟩
        by_cases hik : i = k
        · rw [hik]; exact h
        · exact h4 i (by omega) hi2
      · refine .inr ⟨fun j hj1 hj2 => ?_, h2⟩
        by_cases hjk : j = k
        · rw [hjk]; exact h
        · exact h1 j (by omega) (by omega)
theorem prw_acts {P m : Nat} (hp : 0 < (P : Int)) (f : Nat → Nat → Int) (v : VT (P : Int) m) : ∀ k, vT hp (prw (P : Int) m f k) v = itn (vT hp f) (k + 1) v
  | 0 => rfl
  | k + 1 => by
    show vT hp (mulF (P : Int) m (prw (P : Int) m f k) f) v = vT hp f (itn (vT hp f) (k + 1) v)
    rw [← vT_mul, prw_acts hp f v k]
theorem prw_good {P m : Nat} (hp : 1 < (P : Int)) {f : Nat → Nat → Int} (hf : InG (P : Int) m m f) (k : Nat) : gridB m (fun _ => m) (prw (P : Int) m f k) oneF = true ↔ ∀ v : VT (P : Int) m, itn (vT (by omega) f) (k + 1) v = v := by
  have hg : gridB m (fun _ => m) (prw (P : Int) m f k) oneF = true ↔ Eqv m (prw (P : Int) m f k) oneF := by
    unfold gridB
    simp only [decide_eq_true_eq]
    exact ⟨fun h i hi j hj => by have := h i hi; unfold eqB at this; simp only [decide_eq_true_eq] at this; exact this j hj, fun h i hi => by unfold eqB; simp only [decide_eq_true_eq]; exact h i hi⟩
  rw [hg]
  constructor
  · intro e v
    rw [← prw_acts, vT_eqv _ e, vT_one]
  · intro h i hi j hj
    have hin := prw_in (p := (P : Int)) (by omega) hf k
    have h1 : (vT (by omega) (prw (P : Int) m f k) (vE P m i hp)).1 j = oneF i j := by rw [prw_acts, h, vE_at hp hj]
    have h2 : (vT (by omega) (prw (P : Int) m f k) (vE P m i hp)).1 j = dotTo (vE P m i hp).1 (prw (P : Int) m f k) j m % (P : Int) := vOf_at _ hj
    rw [h2, dot_congr2 (y := oneF i) (h := prw (P : Int) m f k) m (fun l hl => vE_at hp hl) (fun _ _ => rfl), dot_oneL, if_pos hi, Int.emod_eq_of_lt (hin i hi j hj).1 (hin i hi j hj).2] at h1
    exact h1
/-- The code's and the reference's orders. -/
theorem ordV_ordR {P m : Nat} (hp : 1 < (P : Int)) (hI : Invs (P : Int)) {f : Nat → Nat → Int} (hf : InG (P : Int) m m f) (x : Int) : ordV (P : Int) m f x = ordR (P : Int) m f x := by
  unfold ordV ordR
  by_cases hx : x ≠ 0
  · rw [if_pos hx, if_pos hx]
  · rw [if_neg hx, if_neg hx, detV_aug hp hI hf]
    by_cases hd : detV (P : Int) m f = 0
    · rw [if_pos hd, if_pos hd]
    · rw [if_neg hd, if_neg hd]
      have S := vSp hp hI hf hd
      have key := ordGo_all hp hI S m 0 1 f (by omega) (Nat.le_refl 1) (by omega) ⟨hf, hd, fun v => rfl⟩ (fun k hk => by omega) (fun j _ => Nat.one_dvd j)
      rcases key with ⟨n, h1, h2, h3, h4, h5⟩ | ⟨h1, h2⟩
      · rw [h1]
        rcases ordS_is (P : Int) m f 10000 0 with ⟨j, a1, a2, a3, a4, a5⟩ | ⟨a1, a2⟩
        · rw [a5]
          have b1 := h5 (j + 1) ((prw_good hp hf j).1 a3)
          have b2 := Nat.le_of_dvd (by omega) b1
          by_cases e : n = j + 1
          · rw [e]
          · exact absurd ((prw_good hp hf (n - 1)).2 (by rw [show n - 1 + 1 = n by omega]; exact h4)) (a4 (n - 1) (by omega) (by omega))
        · exact absurd ((prw_good hp hf (n - 1)).2 (by rw [show n - 1 + 1 = n by omega]; exact h4)) (a1 (n - 1) (by omega) (by omega))
      · rw [h1]
        rcases ordS_is (P : Int) m f 10000 0 with ⟨j, a1, a2, a3, a4, a5⟩ | ⟨a1, a2⟩
        · exact absurd ((prw_good hp hf j).1 a3) (h2 (j + 1) (by omega) (by omega))
        · rw [a2]
end Go.Proofs.Ytokiejichnnmnaa

/- The reference of matrix: Order. -/
namespace Go.Proofs.Ytokiejichnnmnaa
open Go Go.RowKit Num

theorem InvP.res {x p : Int} {m : Nat} {f : Nat → Nat → Int} {w : World} {e : Ending} {w' : World} (h : InvP x p m f w e w') : ∃ q A n c, e = .returned (.tuple #[.agg #[.int .i64 q, .slice A n c], .int .i64 (if x ≠ 0 then x else if detV p m (augF m f) = 0 then 15 else 0)]) ∧ Below w.heap.size w w' := by
  by_cases hx : x ≠ 0
  · obtain ⟨rfl, hb⟩ := h.1 hx
    exact ⟨_, _, _, _, by rw [if_pos hx], hb⟩
  · have hx0 : x = 0 := by omega
    rw [if_neg hx]
    by_cases hd : detV p m (augF m f) = 0
    · obtain ⟨rfl, hb⟩ := (h.2 hx0).1 hd
      exact ⟨_, _, _, _, by rw [if_pos hd], hb⟩
    · obtain ⟨r, rfl, hg, hb⟩ := (h.2 hx0).2 hd
      obtain ⟨A, c, rfl, _⟩ := hg.form
      exact ⟨_, _, _, _, by rw [if_neg hd], hb⟩
/-- Before round k: b is the power k + 1, in its box. -/
def OrdI (p : Int) (m : Nat) (f : Nat → Nat → Int) (_A : Option Addr) (_c : Nat) (w7 : World) (k : Nat) (w' : World) : Prop :=
  Below w7.heap.size w7 w' ∧ ∃ Ab cb, Row w' w7.heap.size 61 #[.int .i64 p, .slice Ab m cb] ∧ Grid w' (fun b => b ≠ w7.heap.size ∧ b < w'.heap.size) (.slice Ab m cb) m (fun _ => m) (prw p m f k)

set_option maxRecDepth 100000 in
set_option maxHeartbeats 4000000 in
theorem rOrder_any (ra : Value) (m : Nat) (n : Nat → Nat) (f : Nat → Nat → Int) (p : Int) (w : World) (hm : m ≤ 1000000) (hn : ∀ i, i < m → n i ≤ 1000000) (ha : Grid w (· < w.heap.size) ra m n f) (x : Int) (hx : x = chkS (chkM p m n f) m (n 0)) :
    Calls Try.prog 69 #[.agg #[.int .i64 p, ra]] w (OrdP w (ordR p m f x)) := by
  have HC := fun W h => Lib.hid (rInvM_any ra m n f p W hm hn h x hx)
  have HA := Lib.hid ha
  obtain ⟨A, c, rfl, hcm⟩ := ha.form
  have hbx := row_new (W := w) rfl 61 #[.int .i64 p, .slice A m c]
  have hB1 : Below w.heap.size w (w.alloc (.cells #[.int .i64 p, .slice A m c] 61)) := (Below.refl _ _).alloc (Nat.le_refl _) _
  have HBX := Lib.hid hbx
  have HB1 := Lib.hid hB1
  have HX := Lib.hid hx
  clear hbx hB1 hx
  go_enter Try.func69, Try.ntmps69
  go_wp2_with fail
  refine (HC _ (HA.out.on HB1.out)).out.mono ?_
  rintro e w4 h
  obtain ⟨q, A1, n1, cc1, rfl, hb4⟩ := h.res
  clear h HC
  have hb5 := hb4.alloc hb4.size (.cells #[.int .i64 q, .slice A1 n1 cc1] 61)
  have HB4 := Lib.hid (HB1.out.trans (hb5.mono HB1.out.size))
  have HR4 := Lib.hid (HBX.out.below hb5 HBX.out.lt)
  clear hb4 hb5
  by_cases hy : x ≠ 0 ∨ detV p m (augF m f) = 0
  · have hv : ordR p m f x = (0, (if x ≠ 0 then x else if detV p m (augF m f) = 0 then 15 else 0)) := by
      unfold ordR
      by_cases hx0 : x ≠ 0
      · rw [if_pos hx0, if_pos hx0]
      · rw [if_neg hx0, if_neg hx0]
        have hd : detV p m (augF m f) = 0 := by rcases hy with h | h; exact absurd h hx0; exact h
        rw [if_pos hd, if_pos hd]
    have hne : (if x ≠ 0 then x else if detV p m (augF m f) = 0 then (15 : Int) else 0) ≠ 0 := by
      by_cases hx0 : x ≠ 0
      · rw [if_pos hx0]; exact hx0
      · rw [if_neg hx0, if_pos (by rcases hy with h | h; exact absurd h hx0; exact h)]; omega
    have HV := Lib.hid hv
    generalize (if x ≠ 0 then x else if detV p m (augF m f) = 0 then (15 : Int) else 0) = y at hne HV ⊢
    have hne2 : (y != 0) = true := by simpa using hne
    clear hv hne hy HX
    go_wp2_with fail
    go_ret2
    exact ⟨by rw [HV.out]; rfl, HB4.out⟩
  · have hx0 : x = 0 := by omega
    have hd0 : detV p m (augF m f) ≠ 0 := fun h => hy (.inr h)
    subst hx0
    obtain ⟨h1, h2⟩ := chkS_zero HX.out.symm
    obtain ⟨hmod, g1, g2, g3, g4, g5⟩ := chkM_zero h1
    obtain ⟨hp2, hp4, hp6⟩ := modB_true hmod
    have hIN : InG p m m f := fun i hi => by have := (g5 i hi).2; rw [(g5 i hi).1, ← h2] at this; exact this
    have HIN := Lib.hid hIN
    have HA2 := Lib.hid (grid_reg HA.out (fun i hi => ((g5 i hi).1).trans h2.symm))
    have HONE := Lib.hid (fun W => rone_any m p W g1 (by omega) hp2 (by omega))
    have hv : ordR p m f 0 = ordS p m f 10000 0 := by unfold ordR; rw [if_neg (by omega), if_neg hd0]
    have HORD := Lib.hid hv
    rw [if_neg (by omega), if_neg hd0]
    have c0 := HR4.out.cell (i := 0) rfl
    have c1 := HR4.out.cell (i := 1) rfl
    simp only [List.getElem_toArray, List.getElem_cons_zero, List.getElem_cons_succ] at c0 c1
    clear hv hy hd0 h1 h2 hmod g5 hIN ha hn
    go_wp2_with fail
    clear c0 c1
    generalize w4.alloc (.cells #[.int .i64 q, .slice A1 n1 cc1] 61) = w5 at HB4 HR4 ⊢
    refine (HONE.out _).mono ?_
    rintro e w6 ⟨rid, rfl, hid, hb6⟩
    obtain ⟨Ai, ci, rfl, -⟩ := hid.form
    have HB6 := Lib.hid (HB4.out.trans (hb6.mono HB4.out.size))
    have HR6 := Lib.hid (HR4.out.below hb6 HR4.out.lt)
    have HID := Lib.hid hid.new_lt
    clear hid hb6 HONE HB4 HR4 HB1 HBX
    have hR7 := HR6.out.alloc (.cells #[.int .i64 p, .slice Ai m ci] 61)
    have hb7 : Below w6.heap.size w6 (w6.alloc (.cells #[.int .i64 p, .slice Ai m ci] 61)) := (Below.refl _ _).alloc (Nat.le_refl _) _
    have HI7 := Lib.hid (row_new (W := w6) rfl 61 #[.int .i64 p, .slice Ai m ci])
    have HB7 := Lib.hid (HB6.out.trans (hb7.mono HB6.out.size))
    have HID7 := Lib.hid (HID.out.on hb7)
    have c0 := hR7.cell (i := 0) rfl
    have c1 := hR7.cell (i := 1) rfl
    simp only [List.getElem_toArray, List.getElem_cons_zero, List.getElem_cons_succ] at c0 c1
    have HR7 := Lib.hid hR7
    clear hR7 hb7 HID HR6 HB6
    go_wp2_with fail
    have hz7 : (w6.alloc (.cells #[.int .i64 p, .slice Ai m ci] 61)).heap.size = w6.heap.size + 1 := by simp
    rw [← hz7]
    generalize w6.alloc (.cells #[.int .i64 p, .slice Ai m ci] 61) = w7 at HI7 HB7 HID7 HR7 c0 c1 hz7 ⊢
    have hlt6 : w6.heap.size < w7.heap.size := by omega
    generalize w6.heap.size = bi at HI7 hlt6 ⊢
    have h3 : (w7.alloc (.cells #[.int .i64 p, .slice A m c] 61)).heap.size = w7.heap.size + 1 := by simp
    have hb0 : Below w7.heap.size w7 (w7.alloc (.cells #[.int .i64 p, .slice A m c] 61)) := (Below.refl _ _).alloc (Nat.le_refl _) _
    have hg0 : Grid (w7.alloc (.cells #[.int .i64 p, .slice A m c] 61)) (fun b => b ≠ w7.heap.size ∧ b < (w7.alloc (.cells #[.int .i64 p, .slice A m c] 61)).heap.size) (.slice A m c) m (fun _ => m) (prw p m f 0) := HA2.out.keep (fun b hb => by
      have h1 := HB7.out.size
      have h2 : b < w.heap.size := hb
      exact ⟨by omega, by omega⟩) (fun q hq => (HB7.out.trans (hb0.mono HB7.out.size)).cell hq) (fun _ _ => rfl) (fun _ _ _ _ => rfl)
    have HS0 := Lib.hid (show OrdI p m f A c w7 0 (w7.alloc (.cells #[.int .i64 p, .slice A m c] 61)) from ⟨hb0, A, c, row_new rfl _ _, hg0⟩)
    clear h3 hb0 hg0
    clear hz7 c0 c1
    go_loopw [8] (fun t w' => ∃ k : Nat, t = .int .i64 ((k + 1 : Nat) : Int) ∧ k ≤ 10000 ∧ ordS p m f (10000 - k) k = ordS p m f 10000 0 ∧ OrdI p m f A c w7 k w') (fun t _ => 10001 - (intOf t).toNat)
    case atStart => exact ⟨0, rfl, Nat.zero_le _, rfl, HS0.out⟩
    case round =>
      obtain ⟨k, rfl, hk, hres, hI⟩ := hrel
      rename World => wr
      have HRES := Lib.hid hres
      obtain ⟨hb, Ab, cb, hrow, hgr⟩ := hI
      have HBR := Lib.hid (HB7.out.trans (hb.mono HB7.out.size))
      have HB := Lib.hid hb
      have HROW := Lib.hid hrow
      have HGR := Lib.hid (hgr.more (S' := (· < wr.heap.size)) fun b h => h.2)
      have HIDR := Lib.hid (HID7.out.on hb)
      have hir := HI7.out.below hb HI7.out.lt
      have har := HR7.out.below hb HR7.out.lt
      have c0 := hrow.cell (i := 0) rfl
      have c1 := hrow.cell (i := 1) rfl
      have c2 := hir.cell (i := 0) rfl
      have c3 := hir.cell (i := 1) rfl
      have HAR := Lib.hid har
      have HSM := Lib.hid (mSame_any (.slice Ab m cb) (.slice Ai m ci) p m (fun _ => m) (prw p m f k) oneF wr hm (fun _ _ => hm) HGR.out HIDR.out)
      simp only [List.getElem_toArray, List.getElem_cons_zero, List.getElem_cons_succ] at c0 c1 c2 c3
      clear hres hb hrow hgr hir har
      by_cases hlt : k < 10000
      · have hd : decide (((k + 1 : Nat) : Int) ≤ 10000) = true := decide_eq_true (by omega)
        have hd' : decide ((k : Int) + 1 ≤ 10000) = true := decide_eq_true (by omega)
        go_wp2_with fail
        refine HSM.out.mono ?_
        rintro e w9 ⟨rfl, hb9⟩
        have hst : ordS p m f (10000 - k) k = if gridB m (fun _ => m) (prw p m f k) oneF = true then (k + 1, 0) else ordS p m f (10000 - (k + 1)) (k + 1) := by
          rw [show 10000 - k = (10000 - (k + 1)) + 1 by omega]; rfl
        rw [HRES.out] at hst
        have HST := Lib.hid hst
        clear hst c0 c1 c2 c3 HSM
        have HB9 := Lib.hid (HBR.out.trans (hb9.mono HBR.out.size))
        cases hg : gridB m (fun _ => m) (prw p m f k) oneF with
        | true =>
          have hv2 : ordR p m f 0 = (k + 1, 0) := by
            have h := HST.out
            rw [hg, if_pos rfl] at h
            rw [HORD.out, h]
          have HV2 := Lib.hid hv2
          clear hv2 hg
          go_wp2_with fail
          go_ret2
          exact ⟨by rw [HV2.out]; first | done | rfl, HB9.out⟩
        | false =>
          have hst2 : ordS p m f (10000 - (k + 1)) (k + 1) = ordS p m f 10000 0 := by
            have h := HST.out
            rw [hg, if_neg (by simp)] at h
            exact h.symm
          have HST2 := Lib.hid hst2
          have hrow9 := HROW.out.below hb9 HROW.out.lt
          have har9 := HAR.out.below hb9 HAR.out.lt
          have c0 := hrow9.cell (i := 0) rfl
          have c1 := hrow9.cell (i := 1) rfl
          have c2 := har9.cell (i := 0) rfl
          have c3 := har9.cell (i := 1) rfl
          simp only [List.getElem_toArray, List.getElem_cons_zero, List.getElem_cons_succ] at c0 c1 c2 c3
          have HML := Lib.hid (rmul_any (.slice Ab m cb) (.slice A m c) m m m (prw p m f k) f p p w9 g1 (by omega) g1 (by omega) (by omega) hp2 (by omega) (HGR.out.on hb9) (HA2.out.on HB9.out) (prw_in hp2 HIN.out k) HIN.out)
          have HR9 := Lib.hid hrow9
          have HBB := Lib.hid (HB.out.trans (hb9.mono HB.out.size))
          clear hst2 hg hrow9 har9 hb9 HROW HAR HGR HIDR HBR HB HST HRES
          go_wp2_with fail
          refine HML.out.mono ?_
          rintro e w10 ⟨r, rfl, hg10, hb10⟩
          obtain ⟨A', c', rfl, -⟩ := hg10.form
          have hrow10 := HR9.out.below hb10 HR9.out.lt
          have c0 := hrow10.cell (i := 0) rfl
          have c1 := hrow10.cell (i := 1) rfl
          have f0 := hrow10.frozen 0
          have f1 := hrow10.frozen 1
          simp only [List.getElem_toArray, List.getElem_cons_zero, List.getElem_cons_succ] at c0 c1
          have hlt9 := HR9.out.lt
          have HN := Lib.hid (show OrdI p m f A c w7 (k + 1) ((w10.setCell ⟨w7.heap.size, 0, none⟩ (.int .i64 p)).setCell ⟨w7.heap.size, 1, none⟩ (.slice A' m c')) from
            ⟨((HBB.out.trans (hb10.mono HBB.out.size)).setCell (p := ⟨w7.heap.size, 0, none⟩) (Nat.le_refl _) _).setCell (p := ⟨w7.heap.size, 1, none⟩) (Nat.le_refl _) _, A', c', (hrow10.set 0 _).set 1 _,
              (hg10.set2 (R := w7.heap.size) (fun h => by have := h.1; omega) (.int .i64 p) (.slice A' m c')).more (fun b h => ⟨by have := h.1; omega, by rw [size_set2]; exact h.2⟩)⟩)
          clear hrow10 hg10 hb10 HML hlt9
          go_wp2_with fail
          go_roundw
          case rel => exact ⟨k + 1, by go_num, by omega, HST2.out, HN.out⟩
          case measure => simp [intOf]; omega
      · obtain rfl : k = 10000 := by omega
        have hv2 : ordR p m f 0 = (0, 5) := by rw [HORD.out, ← HRES.out]; rfl
        have HV2 := Lib.hid hv2
        clear hv2 HSM c0 c1 c2 c3
        go_wp2_with fail
        go_ret2
        exact ⟨by rw [HV2.out]; first | done | rfl, HBR.out⟩
end Go.Proofs.Ytokiejichnnmnaa

/- matrix.Perm of a matrix that does not pass. -/
namespace Go.Proofs.Ytokiejichnnmnaa
open Go Go.RowKit Num

set_option maxRecDepth 100000 in
set_option maxHeartbeats 1000000 in
theorem Perm_bad (ra : Value) (m : Nat) (n : Nat → Nat) (f : Nat → Nat → Int) (p : Int) (w : World) (hm : m ≤ 1000000) (hn : ∀ i, i < m → n i ≤ 1000000) (ha : Grid w (· < w.heap.size) ra m n f) (x : Int) (hx : x = chkS (chkM p m n f) m (n 0)) (hx0 : x ≠ 0) :
    Calls Try.prog 57 #[.agg #[.int .i64 p, ra]] w fun e w' => e = .returned (.tuple #[.slice none 0 0, .int .i64 x]) ∧ Below w.heap.size w w' := by
  have HC := fun W h => Lib.hid (checkSquare_any ra m n f p W hm hn h)
  rw [← hx] at HC
  have HA := Lib.hid ha
  obtain ⟨A, c, rfl, hcm⟩ := ha.form
  have HB1 := Lib.hid (show Below w.heap.size w (w.alloc (.cells #[.int .i64 p, .slice A m c] 61)) from (Below.refl _ _).alloc (Nat.le_refl _) _)
  have hd2 : (x != 0) = true := by simpa using hx0
  clear ha hn hx hx0
  go_enter Try.func57, Try.ntmps57
  go_wp2_with fail
  refine (HC _ (HA.out.on HB1.out)).out.mono ?_
  rintro e w4 ⟨rfl, hb4⟩
  have HB4 := Lib.hid (HB1.out.trans (hb4.mono HB1.out.size))
  clear hb4
  go_wp2
  go_ret2
  exact ⟨rfl, HB4.out⟩
set_option maxRecDepth 100000 in
set_option maxHeartbeats 1000000 in
theorem rPerm_bad (ra : Value) (m : Nat) (n : Nat → Nat) (f : Nat → Nat → Int) (p : Int) (w : World) (hm : m ≤ 1000000) (hn : ∀ i, i < m → n i ≤ 1000000) (ha : Grid w (· < w.heap.size) ra m n f) (x : Int) (hx : x = chkS (chkM p m n f) m (n 0)) (hx0 : x ≠ 0) :
    Calls Try.prog 70 #[.agg #[.int .i64 p, ra]] w fun e w' => e = .returned (.tuple #[.slice none 0 0, .int .i64 x]) ∧ Below w.heap.size w w' := by
  have HC := fun W h => Lib.hid (rsquare_any ra m n f p W hm hn h)
  rw [← hx] at HC
  have HA := Lib.hid ha
  obtain ⟨A, c, rfl, hcm⟩ := ha.form
  have HB1 := Lib.hid (show Below w.heap.size w (w.alloc (.cells #[.int .i64 p, .slice A m c] 61)) from (Below.refl _ _).alloc (Nat.le_refl _) _)
  have hd2 : (x != 0) = true := by simpa using hx0
  clear ha hn hx hx0
  go_enter Try.func70, Try.ntmps70
  go_wp2_with fail
  refine (HC _ (HA.out.on HB1.out)).out.mono ?_
  rintro e w4 ⟨rfl, hb4⟩
  have HB4 := Lib.hid (HB1.out.trans (hb4.mono HB1.out.size))
  clear hb4
  go_wp2
  go_ret2
  exact ⟨rfl, HB4.out⟩
end Go.Proofs.Ytokiejichnnmnaa

/- The reference of matrix: Perm of a matrix that passes. -/
namespace Go.Proofs.Ytokiejichnnmnaa
open Go Go.RowKit Num

set_option maxRecDepth 100000 in
set_option maxHeartbeats 4000000 in
theorem rPerm_ok (ra : Value) (p m : Nat) (f : Nat → Nat → Int) (w : World) (hs : Sized p m) (ha : Grid w (· < w.heap.size) ra m (fun _ => m) f) (hf : InG (p : Int) m m f) :
    Calls Try.prog 70 #[.agg #[.int .i64 p, ra]] w (PermP p m f w) := by
  have hm1 := hs.n1
  have hm2 := hs.n2
  have hp2 := hs.p2
  have hp4 : p ≤ 10000 := by have := (modB_true hs.hp).2.1; omega
  have HC := fun W h => Lib.hid (rsquare_any ra m (fun _ => m) f p W (by omega) (fun _ _ => by omega) h)
  have HDT := fun W h => Lib.hid (rInvM_any ra m (fun _ => m) f p W (by omega) (fun _ _ => by omega) h 0 (hs.chkS hf))
  rw [← hs.chkS hf] at HC
  have HA := Lib.hid ha
  obtain ⟨A, c, rfl, hcm⟩ := ha.form
  have HX := Lib.hid (row_new (W := w) rfl 61 #[.int .i64 p, .slice A m c])
  have HXB := Lib.hid ((Below.refl w.heap.size w).alloc (Nat.le_refl _) (.cells #[.int .i64 p, .slice A m c] 61))
  have HPO := Lib.hid (show ∀ e w', PermP p m f w e w' → PermP p m f w e w' from fun _ _ h => h)
  generalize hPP : PermP p m f w = PP at HPO ⊢
  have hpp : ∀ i, i ≤ m → p ^ i ≤ p ^ m := fun i hi => Nat.pow_le_pow_right (by omega) hi
  have HPW := Lib.hid hpp
  clear ha hpp
  go_enter Try.func70, Try.ntmps70
  go_wp2_with fail
  refine (HC _ (HA.out.on HXB.out)).out.mono ?_
  rintro e w4 ⟨rfl, hb4⟩
  have HX4 := Lib.hid (HX.out.below hb4 HX.out.lt)
  have HB4 := Lib.hid (HXB.out.trans (hb4.mono HXB.out.size))
  have c0 := HX4.out.cell (i := 0) rfl
  have c1 := HX4.out.cell (i := 1) rfl
  clear hb4 HX HXB
  go_wp2_with fail
  go_loopw [6, 7] (fun t6 t7 wr => ∃ i : Nat, t7 = .int .i64 i ∧ i ≤ m ∧ t6 = .int .i64 ((p ^ i : Nat) : Int) ∧ p ^ i ≤ 64 ∧ wr = w4) (fun _ t7 _ => m - (intOf t7).toNat)
  case atStart => exact ⟨0, rfl, Nat.zero_le _, rfl, by simp, rfl⟩
  case round =>
    obtain ⟨i, rfl, hi, rfl, hpi, hwr⟩ := hrel
    subst hwr
    rename World => w4
    by_cases him : i < m
    · have HQ := Lib.hid (HPW.out (i + 1) (by omega))
      have hs1 := Nat.pow_succ p i
      generalize p ^ i = u at hpi hs1 ⊢
      obtain ⟨q, hq⟩ : ∃ q, u * p = q := ⟨_, rfl⟩
      have hq2 : q ≤ 1000000 := by rw [← hq]; exact Nat.le_trans (Nat.mul_le_mul hpi hp4) (by omega)
      have HQ2 := Lib.hid (show p ^ (i + 1) = q from hs1.trans hq)
      have mz := wrap_mul hq (by omega)
      clear hq hs1
      have hd1 : decide ((i : Int) < (m : Int)) = true := decide_eq_true (by omega)
      by_cases hq64 : 64 < q
      · have hd : decide ((64 : Int) < (q : Int)) = true := decide_eq_true (by omega)
        have hdn : decide (64 < q) = true := decide_eq_true hq64
        have HE := Lib.hid (show PermP p m f w (.returned (.tuple #[.slice none 0 0, .int .i64 5])) w4 from
          ⟨HB4.out, fun _ => rfl, fun h => by have := HQ.out; rw [HQ2.out] at this; omega, fun h => by have := HQ.out; rw [HQ2.out] at this; omega⟩)
        rw [hPP] at HE
        go_wp2
        exact HE.out
      · have hd : decide ((64 : Int) < (q : Int)) = false := decide_eq_false (by omega)
        have hdn : decide (64 < q) = false := decide_eq_false hq64
        go_wp2
        go_roundw
        case rel => exact ⟨i + 1, by go_num, by omega, by rw [HQ2.out], by rw [HQ2.out]; omega, trivial⟩
        case measure => simp [intOf]; omega
    · obtain rfl : m = i := by omega
      have hd1 : decide ((m : Int) < (m : Int)) = false := decide_eq_false (by omega)
      generalize hQ : p ^ m = Q at hpi ⊢
      have HQ := Lib.hid hQ
      clear HPW hQ
      go_wp2_with fail
      refine (HDT _ (HA.out.on HB4.out)).out.mono ?_
      rintro e w5 h
      obtain ⟨q, A1, n1, cc1, rfl, hb5⟩ := h.res
      clear h
      have hb6 := hb5.alloc hb5.size (.cells #[.int .i64 q, .slice A1 n1 cc1] 61)
      have HX5 := Lib.hid (HX4.out.below hb6 HX4.out.lt)
      have HB5 := Lib.hid (HB4.out.trans (hb6.mono HB4.out.size))
      clear hb5 hb6 c0 c1 HX4 HB4 HDT HC
      rw [if_neg (by omega), detV_aug hs.p1 hs.inv hf]
      by_cases hd0 : detV p m f = 0
      · rw [if_pos hd0]
        have HE := Lib.hid (show PermP p m f w (.returned (.tuple #[.slice none 0 0, .int .i64 15])) (w5.alloc (.cells #[.int .i64 q, .slice A1 n1 cc1] 61)) from
          ⟨HB5.out, (fun h => by rw [HQ.out] at h; omega), (fun _ _ => rfl), fun _ h => absurd hd0 h⟩)
        rw [hPP] at HE
        go_wp2
        exact HE.out
      · rw [if_neg hd0]
        have HD0 := Lib.hid hd0
        clear hd0
        have hQ0 : 1 ≤ Q := by rw [← HQ.out]; exact Nat.pow_pos (by omega)
        go_wp2_with fail
        generalize w5.alloc (.cells #[.int .i64 q, .slice A1 n1 cc1] 61) = w6 at HX5 HB5 ⊢
        have HS0 := Lib.hid (show OwnsI w6 w6.heap.size (.slice none 0 0) ((List.range 0).map (permF p m f)) from World.ownsRow_nil _ _ _ _)
        go_loopw [10, 11] (fun t10 t11 wr => ∃ k : Nat, t11 = .int .i64 k ∧ k ≤ Q ∧ OwnsI wr w6.heap.size t10 ((List.range k).map (permF p m f)) ∧ Below w6.heap.size w6 wr) (fun _ t11 _ => Q - (intOf t11).toNat)
        case atStart => exact ⟨0, rfl, Nat.zero_le _, HS0.out, Below.refl _ _⟩
        case round =>
          obtain ⟨k, rfl, hk, hO, hb⟩ := hrel
          rename World => wr
          have HO := Lib.hid hO
          have HB := Lib.hid hb
          clear hO hb
          by_cases hkq : k < Q
          · have hdk : decide ((k : Int) < (Q : Int)) = true := decide_eq_true (by omega)
            have hmk := fun W => make_ints m (by omega) W
            have HS := Lib.hid (show Row (wr.alloc (.cells (CTab m fun _ => .int .i64 0) 3)) wr.heap.size 3 (CTab m (digC p m k m)) from by rw [digC_start]; exact row_new rfl _ _)
            have HBA := Lib.hid ((Below.refl wr.heap.size wr).alloc (Nat.le_refl _) (.cells (CTab m fun _ => .int .i64 0) 3))
            have HXR := Lib.hid (fun (W : World) (hb : Below wr.heap.size wr W) => (show W.cell? ⟨w.heap.size, 0, none⟩ = some (.int .i64 p) ∧ W.cell? ⟨w.heap.size, 1, none⟩ = some (.slice A m c) from
              ⟨((HX5.out.below HB.out HX5.out.lt).below hb (Nat.lt_of_lt_of_le HX5.out.lt HB.out.size)).cell (i := 0) rfl, ((HX5.out.below HB.out HX5.out.lt).below hb (Nat.lt_of_lt_of_le HX5.out.lt HB.out.size)).cell (i := 1) rfl⟩))
            have hkk : k ≤ 1000000 := by omega
            go_wp2
            clear hmk
            go_loopw [13, 14] (fun t8 t0 w' => ∃ i : Nat, t8 = .int .i64 ((i : Int) - 1) ∧ i ≤ m ∧ t0 = .int .i64 ((k / p ^ (m - i) : Nat) : Int) ∧ Row w' wr.heap.size 3 (CTab m (digC p m k i)) ∧ Below wr.heap.size wr w') (fun t8 _ _ => (intOf t8 + 1).toNat)
            case atStart => exact ⟨m, rfl, Nat.le_refl _, by rw [Nat.sub_self, Nat.pow_zero, Nat.div_one], HS.out, HBA.out⟩
            case round =>
              obtain ⟨i, rfl, hi, rfl, hR, hB⟩ := hrel
              rename World => w9
              obtain ⟨c0, c1⟩ := HXR.out _ hB
              have HR := Lib.hid hR
              have HB2 := Lib.hid hB
              cases i with
              | zero =>
                have hd : decide ((((0 : Nat) : Int) - 1) ≥ 0) = false := by decide
                have HV := Lib.hid (show Vec w9 (New wr w9) (.slice (some ⟨wr.heap.size, 0, none⟩) m m) m (digF p m k) from by
                  rw [digC_end] at hR; exact hR.vec ⟨Nat.le_refl _, hR.lt⟩ (Nat.le_refl _))
                have HG0 := Lib.hid (HA.out.on ((HB5.out.trans (HB.out.mono HB5.out.size)).trans (hB.mono (HB5.out.trans (HB.out.mono HB5.out.size)).size)))
                have HAP := Lib.hid (rApply_any (.slice (some ⟨wr.heap.size, 0, none⟩) m m) (.slice A m c) m m (fun _ => m) (digF p m k) f p w9 (by omega) (by omega) (fun _ _ => by omega) HV.out.new_lt HG0.out 0 (hs.chk hf).symm)
                have hfn : (fun j => dotTo (fun i => (resV (digF p m k i) (p : Int).toNat : Nat)) f j m % (p : Int)) = fun j => dotTo (digF p m k) f j m % (p : Int) := by
                  have e : (fun i => ((resV (digF p m k i) (p : Int).toNat : Nat) : Int)) = digF p m k := by
                    funext i
                    have h1 : digN p m k i < p := Nat.mod_lt _ (by omega)
                    show ((resV ((digN p m k i : Nat) : Int) (p : Int).toNat : Nat) : Int) = (digN p m k i : Nat)
                    rw [Int.toNat_natCast, resV_nat h1]
                  rw [e]
                rw [hfn, if_neg (by omega), if_neg (by omega)] at HAP
                clear hR hB hfn
                go_wp2_with fail
                refine HAP.out.mono ?_
                rintro e w10 h
                obtain ⟨r, rfl, hv10, hb10⟩ := h.2 rfl
                obtain ⟨A10, c10, rfl, -⟩ := hv10.form
                clear h HAP
                go_wp2_with fail
                have hb19 : Below wr.heap.size wr w10 := HB2.out.trans (hb10.mono HB2.out.size)
                have HB19 := Lib.hid hb19
                have HV10 := Lib.hid hv10
                have hin : ∀ j, 0 ≤ dotTo (digF p m k) f j m % (p : Int) ∧ dotTo (digF p m k) f j m % (p : Int) < p := fun j => ⟨Int.emod_nonneg _ (by omega), Int.emod_lt_of_pos _ (by omega)⟩
                have HLT := Lib.hid (numN_lt (p := p) (n := m) (g := fun j => (dotTo (digF p m k) f j m % (p : Int)).toNat) (fun j _ => by have := hin j; omega))
                have HPV := Lib.hid (show permF p m f k = ((numN p (fun j => (dotTo (digF p m k) f j m % (p : Int)).toNat) m : Nat) : Int) from rfl)
                have HPQ := Lib.hid (fun i (hi : i ≤ m) => (show p ^ i ≤ Q from by rw [← HQ.out]; exact Nat.pow_le_pow_right (by omega) hi))
                have HIN := Lib.hid hin
                clear hb19 hb10 hv10 hin c0 c1
                go_loopw [17, 18] (fun t17 t18 w' => ∃ i : Nat, t18 = .int .i64 i ∧ i ≤ m ∧ t17 = .int .i64 ((numN p (fun j => (dotTo (digF p m k) f j m % (p : Int)).toNat) i : Nat) : Int) ∧ Below w10.heap.size w10 w') (fun _ t18 _ => m - (intOf t18).toNat)
                case atStart => exact ⟨0, rfl, Nat.zero_le _, rfl, Below.refl _ _⟩
                case round =>
                  obtain ⟨i, rfl, hi, rfl, hB⟩ := hrel
                  rename World => w11
                  have HB11 := Lib.hid hB
                  have HBW := Lib.hid (HB19.out.trans (hB.mono HB19.out.size))
                  obtain ⟨c0, c1⟩ := HXR.out _ HBW.out
                  clear hB
                  by_cases hin : i < m
                  · have hdi : decide ((i : Int) < (m : Int)) = true := decide_eq_true (by omega)
                    obtain ⟨vb, vo, vc, ve, -, vS, vcl⟩ := HV10.out.at_ (by omega)
                    injection ve with ve1 _ ve3
                    subst ve1
                    clear ve3
                    have hcl := (HB11.out.cell (p := ⟨vb, vo + i, none⟩) vS.2).trans (vcl i hin)
                    have h1 := HLT.out i hi
                    have h2 := HLT.out (i + 1) (by omega)
                    have h3 := HPQ.out i hi
                    have h5 := HPQ.out (i + 1) (by omega)
                    have h4 := HIN.out i
                    have HE2 := Lib.hid (show numN p (fun j => (dotTo (digF p m k) f j m % (p : Int)).toNat) (i + 1) = numN p (fun j => (dotTo (digF p m k) f j m % (p : Int)).toNat) i * p + (dotTo (digF p m k) f i m % (p : Int)).toNat from rfl)
                    rw [HE2.out] at h2
                    obtain ⟨x, hx⟩ : ∃ x : Nat, dotTo (digF p m k) f i m % (p : Int) = x := ⟨(dotTo (digF p m k) f i m % (p : Int)).toNat, by omega⟩
                    rw [hx] at hcl h4 h2 HE2
                    rw [Int.toNat_natCast] at h2 HE2
                    generalize numN p (fun j => (dotTo (digF p m k) f j m % (p : Int)).toNat) i = u at h1 h2 HE2 ⊢
                    obtain ⟨y, hy⟩ : ∃ y, u * p = y := ⟨_, rfl⟩
                    rw [hy] at h2 HE2
                    have mz := wrap_mul hy (by omega)
                    have hqb : y + x ≤ 1000000 := by omega
                    have h0 : (0 : Int) ≤ i := by omega
                    have h00 : (i : Int) < m := by omega
                    clear hy h1 h2 h3 h5 hx h4 vcl
                    go_wp2_with fail
                    go_quiet (fail)
                    go_wp2_with fail
                    go_roundw
                    case rel => exact ⟨i + 1, by go_num, by omega, by rw [HE2.out]; go_num, below_drewN HB11.out nq⟩
                    case measure => simp [intOf]; omega
                  · obtain rfl : m = i := by omega
                    have hdi : decide ((m : Int) < (m : Int)) = false := decide_eq_false (by omega)
                    rw [← HPV.out]
                    obtain ⟨i0, hi0, hz0, hz1, hz2⟩ := info_parts info3m
                    have hO' := (But.of (t := wr.heap.size) HBW.out (Nat.le_refl _)).owns HO.out (fun g hg => ⟨(HO.out.lt g hg).2, by have := (HO.out.lt g hg).2; omega⟩)
                    have hlen : ((List.range k).map (permF p m f)).length = k := by simp
                    have HOO := Lib.hid hO'
                    have HBB := Lib.hid (HB.out.trans (HBW.out.mono HB.out.size))
                    have hss := HBB.out.size
                    clear hO' c0 c1
                    go_wp2_with (at_builtin; refine wpList_append_own _ rfl (.tmp 91) (.tmp 93) 53 rfl w6.heap.size 3 i0 (.int .i64 0) 1 8 Try.underlying53 hi0 hz0 hz1 hz2 rfl (by decide) _ _ _ rfl (World.ownsRow.alloc HOO.out _) ⟨w11.heap.size, 0, none⟩ 1 1 [.int .i64 (permF p m f k)] rfl rfl (cell_one_new _ _ _) (by simp [Value.oneCell']) (by unfold maxLen; omega) (by omega) (by simp; omega) ?_; intro v1 w1 hown' hgrow _)
                    have HB1 := Lib.hid ((HBB.out.alloc hss _).grown hgrow (by simp; omega) (fun q hq => (HOO.out.lt q hq).1))
                    have hx : OwnsI w1 w6.heap.size v1 ((List.range (k + 1)).map (permF p m f)) := by
                      unfold OwnsI
                      rw [List.range_succ, List.map_append, icells_append, List.length_append]; exact hown'
                    have HX := Lib.hid hx
                    clear hx hown' hgrow
                    go_wp2
                    go_roundw
                    case rel => exact ⟨k + 1, by go_num, by omega, HX.out, HB1.out⟩
                    case measure => simp [intOf]; omega
              | succ i =>
                rw [show ((i + 1 : Nat) : Int) - 1 = (i : Int) by omega]
                have hlt : i < m := by omega
                have hu : k / p ^ (m - (i + 1)) ≤ 1000000 := Nat.le_trans (Nat.div_le_self _ _) hkk
                have HD := Lib.hid (show digN p m k i = k / p ^ (m - (i + 1)) % p from by unfold digN; rw [show m - 1 - i = m - (i + 1) by omega])
                have HU := Lib.hid (show k / p ^ (m - i) = k / p ^ (m - (i + 1)) / p from by rw [show m - i = m - (i + 1) + 1 by omega, Nat.pow_succ, Nat.div_div_eq_div_mul])
                generalize k / p ^ (m - (i + 1)) = u at hu HD HU ⊢
                obtain ⟨d, hd⟩ : ∃ d, u % p = d := ⟨_, rfl⟩
                obtain ⟨u2, hu2⟩ : ∃ u2, u / p = u2 := ⟨_, rfl⟩
                have k7 : (u : Int) % (p : Int) = (d : Int) := by rw [← Int.natCast_emod, hd]
                have k8 : (u : Int) / (p : Int) = (u2 : Int) := by rw [← Int.natCast_ediv, hu2]
                have hu2b : u2 ≤ 1000000 := by rw [← hu2]; exact Nat.le_trans (Nat.div_le_self _ _) hu
                have hb9 : d ≤ 10000 := by have := Nat.mod_lt u (show 0 < p by omega); omega
                have HDD := Lib.hid (show digF p m k i = (d : Int) from by unfold digF; rw [HD.out, hd])
                have HUU := Lib.hid (show k / p ^ (m - i) = u2 from HU.out.trans hu2)
                have hc : w9.cell? ⟨wr.heap.size, i, none⟩ = some (.int .i64 0) := by
                  refine hR.cell (CTab_get _ _ i hlt |>.trans ?_)
                  unfold digC; rw [if_neg (by omega)]
                have hf := hR.frozen i
                have HN := Lib.hid (show Row (w9.setCell ⟨wr.heap.size, i, none⟩ (.int .i64 d)) wr.heap.size 3 (CTab m (digC p m k i)) from by
                  have := hR.set i (.int .i64 d)
                  have e := digC_step p m k i
                  rw [HDD.out] at e
                  rwa [e] at this)
                have HNB := Lib.hid (hB.setCell (p := ⟨wr.heap.size, i, none⟩) (Nat.le_refl _) (.int .i64 d))
                have h0 : (0 : Int) ≤ i := by omega
                have hd0 : decide ((i : Int) ≥ 0) = true := decide_eq_true (by omega)
                have h00 : (i : Int) < m := by omega
                have hp0 : ((p : Int) == 0) = false := by simp; omega
                have HS9 := Lib.hid (HXR.out _ HNB.out).1
                have hp9 : ¬ p = 0 := by omega
                have k9 : ((u : Int)).tmod (p : Int) = d := by rw [Int.tmod_eq_emod_of_nonneg (by omega)]; exact k7
                have k10 : IntKind.i64.wrap (u2 : Int) = u2 := IntWalk.i64_in _ ⟨by omega, by omega⟩
                have k11 : IntKind.i64.wrap (d : Int) = d := IntWalk.i64_in _ ⟨by omega, by omega⟩
                have HC0 := Lib.hid c0
                clear hR hB hd hu2 HD HU HDD
                go_wp2_with fail
                refine wp_region_held_drew (S := (fun W => W.cell? ⟨w.heap.size, 0, none⟩ = some (.int .i64 p))) (by kernel_rfl) HC0.out (fun hHeld => ?_)
                have hc := show w9.drew.cell? ⟨wr.heap.size, i, none⟩ = _ from hc
                have hf := show w9.drew.frozen? ⟨wr.heap.size, i, none⟩ = _ from hf
                refine takeH (i := 0) (v := (.slice (some ⟨wr.heap.size, 0, none⟩) m m)) rfl rfl (by kernel_rfl) (by kernel_rfl) (by kernel_rfl) (fun _ _ _ h => h) (by rfl) (fun W hW => by (skip); go_simp) (by assumption) ?_
                simp only [List.setIfInBounds_toArray, List.set_cons_zero, List.set_cons_succ]
                refine takeH (i := 1) (v := (.int .i64 i)) rfl rfl (by kernel_rfl) (by kernel_rfl) (by kernel_rfl) (fun _ _ _ h => h) (by rfl) (fun W hW => by (skip); go_simp) (by assumption) ?_
                simp only [List.setIfInBounds_toArray, List.set_cons_zero, List.set_cons_succ]
                refine takeH (i := 2) (v := (.int .i64 u)) rfl rfl (by kernel_rfl) (by kernel_rfl) (by kernel_rfl) (fun _ _ _ h => h) (by rfl) (fun W hW => by (skip); go_simp) (by assumption) ?_
                simp only [List.setIfInBounds_toArray, List.set_cons_zero, List.set_cons_succ]
                refine takeH (i := 3) (v := (.pointer (some ⟨w.heap.size, 0, none⟩))) rfl rfl (by kernel_rfl) (by kernel_rfl) (by kernel_rfl) (fun _ _ _ h => h) (by rfl) (fun W hW => by (skip); go_simp) (by assumption) ?_
                simp only [List.setIfInBounds_toArray, List.set_cons_zero, List.set_cons_succ]
                refine takeH (i := 4) (v := (.int .i64 p)) rfl rfl (by kernel_rfl) (by kernel_rfl) (by kernel_rfl) (fun _ _ _ h => h) (by rfl) (fun W hW => by (skip); go_simp) (by assumption) ?_
                simp only [List.setIfInBounds_toArray, List.set_cons_zero, List.set_cons_succ]
                refine takeH (i := 5) (v := (.int .i64 d)) rfl rfl (by kernel_rfl) (by kernel_rfl) (by kernel_rfl) (fun _ _ _ h => h) (by rfl) (fun W hW => by (skip); go_simp) (by assumption) ?_
                simp only [List.setIfInBounds_toArray, List.set_cons_zero, List.set_cons_succ]
                refine takeH (i := 6) (v := (.int .i64 u)) rfl rfl (by kernel_rfl) (by kernel_rfl) (by kernel_rfl) (fun _ _ _ h => h) (by rfl) (fun W hW => by (skip); go_simp) (by assumption) ?_
                simp only [List.setIfInBounds_toArray, List.set_cons_zero, List.set_cons_succ]
                refine takeH (i := 7) (v := (.pointer (some ⟨w.heap.size, 0, none⟩))) rfl rfl (by kernel_rfl) (by kernel_rfl) (by kernel_rfl) (fun _ _ _ h => h) (by rfl) (fun W hW => by (skip); go_simp) (by assumption) ?_
                simp only [List.setIfInBounds_toArray, List.set_cons_zero, List.set_cons_succ]
                refine takeH (i := 8) (v := (.int .i64 p)) rfl rfl (by kernel_rfl) (by kernel_rfl) (by kernel_rfl) (fun _ _ _ h => h) (by rfl) (fun W hW => by (skip); go_simp) (by assumption) ?_
                simp only [List.setIfInBounds_toArray, List.set_cons_zero, List.set_cons_succ]
                refine takeH (i := 9) (v := (.int .i64 u2)) rfl rfl (by kernel_rfl) (by kernel_rfl) (by kernel_rfl) (fun _ _ _ h => h) (by rfl) (fun W hW => by (skip); go_simp) (by assumption) ?_
                simp only [List.setIfInBounds_toArray, List.set_cons_zero, List.set_cons_succ]
                refine takeH (i := 10) (v := (.pointer (some ⟨wr.heap.size, i, none⟩))) rfl rfl (by kernel_rfl) (by kernel_rfl) (by kernel_rfl) (fun _ _ _ h => h) (by rfl) (fun W hW => by (skip); go_simp) (by assumption) ?_
                simp only [List.setIfInBounds_toArray, List.set_cons_zero, List.set_cons_succ]
                refine wpAnyH_ready (rs := [11]) (by kernel_rfl) (by simp) ?_
                refine (AllReadyH.cons rfl (fun K hK => ?_) AllReadyH.nil)
                go_simp
                refine hK.out _ _ HS9.out (fun hHeld => ?_)
                clear hK K
                try simp only [Act.put, List.setIfInBounds_toArray, List.set_cons_zero, List.set_cons_succ]
                refine takeH (i := 12) (v := (.int .i64 u2)) rfl rfl (by kernel_rfl) (by kernel_rfl) (by kernel_rfl) (fun _ _ _ h => h) (by rfl) (fun W hW => by (skip); go_simp) (by assumption) ?_
                simp only [List.setIfInBounds_toArray, List.set_cons_zero, List.set_cons_succ]
                refine wpAnyH_done (by kernel_rfl) ?_ _
                go_wp2_with fail
                go_roundw
                case rel => exact ⟨i, by go_num, by omega, by rw [HUU.out], HN.out, below_drew HNB.out⟩
                case measure => simp [intOf]
          · have hkq2 : k = Q := by omega
            subst hkq2
            have hdk : decide ((k : Int) < (k : Int)) = false := decide_eq_false (by omega)
            have hlen : ((List.range k).map (permF p m f)).length = k := by simp
            obtain ⟨g, c1, cur, rfl, hg, hc1, hrow, hcur⟩ := HO.out.arr (by rw [hlen]; omega)
            rw [hlen] at hc1 hcur ⊢
            have hbf := HB5.out.trans (HB.out.mono HB5.out.size)
            have hvec : Vec wr (New w wr) (.slice (some ⟨g, 0, none⟩) k c1) (p ^ m) (permF p m f) := by
              rw [HQ.out]
              exact ⟨_, c1, rfl, hc1, fun _ => ⟨g, 0, rfl, ⟨by have := HB5.out.size; omega, hrow.lt⟩, fun j hj => by rw [Nat.zero_add]; exact hrow.cell ((hcur j hj).trans (by rw [List.getD_eq_getElem?_getD, List.getElem?_map, List.getElem?_range hj]; rfl))⟩⟩
            have HE := Lib.hid (show PermP p m f w (.returned (.tuple #[.slice (some ⟨g, 0, none⟩) k c1, .int .i64 0])) wr from
              ⟨hbf, (fun h => by rw [HQ.out] at h; omega), (fun _ h => absurd h HD0.out), fun _ _ => ⟨_, rfl, hvec⟩⟩)
            rw [hPP] at HE
            clear hrow hcur hbf hvec hg
            go_wp2
            exact HE.out
end Go.Proofs.Ytokiejichnnmnaa

/- Perm of the code and of the reference, for every matrix. -/
namespace Go.Proofs.Ytokiejichnnmnaa
open Go Go.RowKit Num

/-- How many entries Perm gives, and its error. -/
def permN (P m : Nat) (f : Nat → Nat → Int) (x : Int) : Nat × Int := if x ≠ 0 then (0, x) else if 64 < P ^ m then (0, 5) else if detV P m f = 0 then (0, 15) else (P ^ m, 0)
def PermR (P m : Nat) (f : Nat → Nat → Int) (x : Int) (w : World) (e : Ending) (w' : World) : Prop :=
  ∃ A c, e = .returned (.tuple #[.slice A (permN P m f x).1 c, .int .i64 (permN P m f x).2]) ∧ Vec w' (· < w'.heap.size) (.slice A (permN P m f x).1 c) (permN P m f x).1 (permF P m f) ∧ Below w.heap.size w w'
theorem vec_nil (w : World) (S : Nat → Prop) (f : Nat → Int) : Vec w S (.slice none 0 0) 0 f := ⟨none, 0, rfl, Nat.le_refl _, fun h => absurd h (by omega)⟩
theorem PermP.all {P m : Nat} {f : Nat → Nat → Int} {w : World} {e : Ending} {w' : World} (h : PermP P m f w e w') : PermR P m f 0 w e w' := by
  obtain ⟨hb, h1, h2, h3⟩ := h
  unfold PermR permN
  rw [if_neg (by omega)]
  by_cases hq : 64 < P ^ m
  · rw [if_pos hq, h1 hq]
    exact ⟨none, 0, rfl, vec_nil _ _ _, hb⟩
  · rw [if_neg hq]
    by_cases hd : detV P m f = 0
    · rw [if_pos hd, h2 (by omega) hd]
      exact ⟨none, 0, rfl, vec_nil _ _ _, hb⟩
    · rw [if_neg hd]
      obtain ⟨r, rfl, hv⟩ := h3 (by omega) hd
      obtain ⟨A, c, rfl, _⟩ := hv.form
      exact ⟨A, c, rfl, hv.new_lt, hb⟩
theorem perm_bad_all {P m : Nat} {f : Nat → Nat → Int} {x : Int} (hx : x ≠ 0) {w : World} {e : Ending} {w' : World} (h : e = .returned (.tuple #[.slice none 0 0, .int .i64 x]) ∧ Below w.heap.size w w') : PermR P m f x w e w' := by
  unfold PermR permN
  rw [if_pos hx]
  exact ⟨none, 0, h.1, vec_nil _ _ _, h.2⟩
theorem Perm_all (ra : Value) (m : Nat) (n : Nat → Nat) (f : Nat → Nat → Int) (p : Int) (w : World) (hm : m ≤ 1000000) (hn : ∀ i, i < m → n i ≤ 1000000) (ha : Grid w (· < w.heap.size) ra m n f) (x : Int) (hx : x = chkS (chkM p m n f) m (n 0)) :
    Calls Try.prog 57 #[.agg #[.int .i64 p, ra]] w (PermR p.toNat m f x w) := by
  by_cases hx0 : x = 0
  · subst hx0
    obtain ⟨h1, h2⟩ := chkS_zero hx.symm
    obtain ⟨hmod, g1, g2, g3, g4, g5⟩ := chkM_zero h1
    obtain ⟨P, rfl⟩ : ∃ P : Nat, p = P := ⟨p.toNat, by have := (modB_true hmod).1; omega⟩
    have hIN : InG P m m f := fun i hi => by have := (g5 i hi).2; rw [(g5 i hi).1, ← h2] at this; exact this
    exact (Perm_ok ra P m f w ⟨hmod, g1, g2⟩ (grid_reg ha (fun i hi => ((g5 i hi).1).trans h2.symm)) hIN).mono fun e w' h => h.all
  · exact (Perm_bad ra m n f p w hm hn ha x hx hx0).mono fun e w' h => perm_bad_all hx0 h
theorem rPerm_all (ra : Value) (m : Nat) (n : Nat → Nat) (f : Nat → Nat → Int) (p : Int) (w : World) (hm : m ≤ 1000000) (hn : ∀ i, i < m → n i ≤ 1000000) (ha : Grid w (· < w.heap.size) ra m n f) (x : Int) (hx : x = chkS (chkM p m n f) m (n 0)) :
    Calls Try.prog 70 #[.agg #[.int .i64 p, ra]] w (PermR p.toNat m f x w) := by
  by_cases hx0 : x = 0
  · subst hx0
    obtain ⟨h1, h2⟩ := chkS_zero hx.symm
    obtain ⟨hmod, g1, g2, g3, g4, g5⟩ := chkM_zero h1
    obtain ⟨P, rfl⟩ : ∃ P : Nat, p = P := ⟨p.toNat, by have := (modB_true hmod).1; omega⟩
    have hIN : InG P m m f := fun i hi => by have := (g5 i hi).2; rw [(g5 i hi).1, ← h2] at this; exact this
    exact (rPerm_ok ra P m f w ⟨hmod, g1, g2⟩ (grid_reg ha (fun i hi => ((g5 i hi).1).trans h2.symm)) hIN).mono fun e w' h => h.all
  · exact (rPerm_bad ra m n f p w hm hn ha x hx hx0).mono fun e w' h => perm_bad_all hx0 h
end Go.Proofs.Ytokiejichnnmnaa

/- cayleylaw04.MatrixOrders: the walk. -/
namespace Go.Proofs.Ytokiejichnnmnaa
open Go Go.RowKit Num

set_option maxRecDepth 100000 in
set_option maxHeartbeats 8000000 in
theorem matrixOrders_main (A : Option Addr) (m c : Nat) (n : Nat → Nat) (f : Nat → Nat → Int) (p : Int) (w : World) (hm : m ≤ 9223372036854775807) (hn : ∀ i, i < m → n i ≤ 9223372036854775807) (ha : Grid w (· < w.heap.size) (.slice A m c) m n f) :
    Calls Try.prog 12 #[.agg #[.int .i64 p, .slice A m c]] w fun e w' => e = .returned (.bool true) ∧ Below w.heap.size w w' := by
  have HX := Lib.hid (row_new (W := w) rfl 61 #[.int .i64 p, .slice A m c])
  have HB := Lib.hid ((Below.refl w.heap.size w).alloc (Nat.le_refl _) (.cells #[.int .i64 p, .slice A m c] 61))
  have HA := Lib.hid ha
  have HLG := fun W (hg : Grid W (· < W.heap.size) (.slice A m c) m n f) (Lb : Nat) (hr : Row W Lb 61 #[.int .i64 p, .slice A m c]) => Lib.hid (large_any Lb 1 1 (fun _ => p) (fun _ => .slice A m c) (fun _ => m) (fun _ => n) W (by omega)
    (fun k hk => hm) (fun k hk i hi => hn i hi) hr.lt
    (fun k hk => by
      obtain rfl : k = 0 := by omega
      exact ⟨hr.cell (i := 0) rfl, hr.cell (i := 1) rfl, f, hg⟩))
  obtain ⟨big, hbig⟩ : ∃ b : Bool, decide (∃ k, k < 1 ∧ bigM m n = true) = b := ⟨_, rfl⟩
  have HBG := Lib.hid hbig
  rw [hbig] at HLG
  clear hbig ha
  go_enter Try.func12, Try.ntmps12
  go_wp2_with fail
  generalize w.alloc (.cells #[.int .i64 p, .slice A m c] 61) = w1 at HX HB ⊢
  refine (lives_any _).mono ?_
  rintro e w2 ⟨rfl, hb⟩
  replace HX := Lib.hid (HX.out.below hb HX.out.lt)
  replace HB := Lib.hid (HB.out.trans (hb.mono HB.out.size))
  clear hb
  have c0 := HX.out.cell (i := 0) rfl
  have c1 := HX.out.cell (i := 1) rfl
  go_wp2_with fail
  clear c0 c1
  have hr3 := row_new (W := w2) rfl 61 #[.int .i64 p, .slice A m c]
  have hb3 := (Below.refl w2.heap.size w2).alloc (Nat.le_refl _) (.cells #[.int .i64 p, .slice A m c] 61)
  have hB3 := HB.out.trans (hb3.mono HB.out.size)
  have hX3 := HX.out.below hb3 HX.out.lt
  have HL := HLG _ (HA.out.on hB3) w2.heap.size hr3
  generalize w2.alloc (.cells #[.int .i64 p, .slice A m c] 61) = w3 at hB3 hX3 HL ⊢
  refine HL.out.mono ?_
  rintro e w4 ⟨rfl, hb4⟩
  have HB4 := Lib.hid (hB3.trans (hb4.mono hB3.size))
  have HX4 := Lib.hid (hX3.below hb4 hX3.lt)
  clear hr3 hb3 hB3 hX3 HL HLG hb4 HB HX
  have c0 := HX4.out.cell (i := 0) rfl
  have c1 := HX4.out.cell (i := 1) rfl
  cases big with
  | true =>
    go_wp2_with fail
    go_ret
    exact ⟨rfl, HB4.out⟩
  | false =>
    have hbm : bigM m n = false := by
      have h := HBG.out
      cases hb : bigM m n with
      | false => rfl
      | true => rw [decide_eq_false_iff_not] at h; exact absurd ⟨0, by omega, hb⟩ h
    obtain ⟨hm6, hn6⟩ := bigM_off hbm
    clear hbm HBG
    by_cases h4 : 4 < m
    · have hd : decide ((4 : Int) < (m : Int)) = true := decide_eq_true (by omega)
      have hd' : decide (4 < m) = true := decide_eq_true h4
      go_wp2_with fail
      go_ret
      exact ⟨rfl, HB4.out⟩
    · have hd : decide ((4 : Int) < (m : Int)) = false := decide_eq_false (by omega)
      have hd' : decide (4 < m) = false := decide_eq_false h4
      obtain ⟨x, hx⟩ : ∃ x, x = chkS (chkM p m n f) m (n 0) := ⟨_, rfl⟩
      have hn1 : ∀ i, i < m → n i ≤ 1000000 := fun i hi => by have := hn6 i hi; omega
      have heq : ordV p m f x = ordR p m f x := by
        by_cases hx0 : x = 0
        · have hx2 := hx
          rw [hx0] at hx2
          obtain ⟨h1, h2⟩ := chkS_zero hx2.symm
          obtain ⟨hmod, g1, g2, g3, g4, g5⟩ := chkM_zero h1
          obtain ⟨P, rfl⟩ : ∃ P : Nat, p = P := ⟨p.toNat, by have := (modB_true hmod).1; omega⟩
          have hIN : InG P m m f := fun i hi => by have := (g5 i hi).2; rw [(g5 i hi).1, ← h2] at this; exact this
          exact ordV_ordR (by have := (modB_true hmod).1; omega) (invs_mod hmod) hIN x
        · unfold ordV ordR; rw [if_pos hx0, if_pos hx0]
      have H1 := Lib.hid (fun W h => Order_any (.slice A m c) m n f p W (by omega) hn1 h x hx)
      have H2 := Lib.hid (fun W h => rOrder_any (.slice A m c) m n f p W (by omega) hn1 h x hx)
      have H3 := Lib.hid (fun W h => Perm_all (.slice A m c) m n f p W (by omega) hn1 h x hx)
      have H4 := Lib.hid (fun W h => rPerm_all (.slice A m c) m n f p W (by omega) hn1 h x hx)
      rw [← heq] at H2
      generalize ordV p m f x = o at H1 H2
      clear heq hx hn1 hn6 hn hm
      go_wp2_with fail
      refine (H1.out _ (HA.out.on HB4.out)).mono ?_
      rintro e w5 ⟨rfl, hb⟩
      have HB5 := Lib.hid (HB4.out.trans (hb.mono HB4.out.size))
      have HX5 := Lib.hid (HX4.out.below hb HX4.out.lt)
      clear hb c0 c1 HX4 HB4 H1
      have c0 := HX5.out.cell (i := 0) rfl
      have c1 := HX5.out.cell (i := 1) rfl
      go_wp2_with fail
      refine (H2.out _ (HA.out.on HB5.out)).mono ?_
      rintro e w6 ⟨rfl, hb⟩
      have HB6 := Lib.hid (HB5.out.trans (hb.mono HB5.out.size))
      have HX6 := Lib.hid (HX5.out.below hb HX5.out.lt)
      clear hb c0 c1 HX5 HB5 H2
      have c0 := HX6.out.cell (i := 0) rfl
      have c1 := HX6.out.cell (i := 1) rfl
      go_wp2_with fail
      refine (H3.out _ (HA.out.on HB6.out)).mono ?_
      rintro e w7 ⟨A7, c7, rfl, hv7, hb⟩
      have HB7 := Lib.hid (HB6.out.trans (hb.mono HB6.out.size))
      have HX7 := Lib.hid (HX6.out.below hb HX6.out.lt)
      have HV7 := Lib.hid hv7
      clear hb hv7 c0 c1 HX6 HB6 H3
      have c0 := HX7.out.cell (i := 0) rfl
      have c1 := HX7.out.cell (i := 1) rfl
      go_wp2_with fail
      refine (H4.out _ (HA.out.on HB7.out)).mono ?_
      rintro e w8 ⟨A8, c8, rfl, hv8, hb⟩
      have HB8 := Lib.hid (HB7.out.trans (hb.mono HB7.out.size))
      have HV8 := Lib.hid (HV7.out.on hb)
      have HU8 := Lib.hid hv8
      clear hb hv8 c0 c1 HX7 HB7 H4 HV7
      go_wp2_with fail
      have hN : (permN p.toNat m f x).1 ≤ 1000000 := by
        unfold permN
        split
        · exact Nat.zero_le _
        · split
          · exact Nat.zero_le _
          · split
            · exact Nat.zero_le _
            · show p.toNat ^ m ≤ 1000000; omega
      have hs := row_same (.slice A7 (permN p.toNat m f x).1 c7) (.slice A8 (permN p.toNat m f x).1 c8) (permN p.toNat m f x).1 (permF p.toNat m f) (permF p.toNat m f) w8 _ _ hN HV8.out HU8.out
      rw [show eqB (permN p.toNat m f x).1 (permF p.toNat m f) (permF p.toNat m f) = true from decide_eq_true fun _ _ => rfl] at hs
      generalize permN p.toNat m f x = z at hs ⊢
      clear hN HV8 HU8
      refine hs.mono ?_
      rintro e wq ⟨rfl, kq, rfl⟩
      clear hs
      go_wp2_with fail
      go_ret
      exact ⟨rfl, below_drewN HB8.out kq⟩
end Go.Proofs.Ytokiejichnnmnaa
