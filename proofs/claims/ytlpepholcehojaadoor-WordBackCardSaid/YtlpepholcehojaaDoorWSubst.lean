/- word.Subst. -/
import Derived.Test.YtlpepholcehojaaDoorWPile
namespace Go.Proofs.YtlpepholcehojaaDoor
open Go Go.RowKit

/-- Pairs that cancel, turned. -/
theorem winv_pair {x y : Int} (hx : -9223372036854775808 ≤ x ∧ x ≤ 9223372036854775807) (hy : -9223372036854775808 ≤ y ∧ y ≤ 9223372036854775807) (h : canc y x = true) : sim (winv [y, x]) [] := by
  have h1 := canc_iff.1 h
  have e1 : nlet x = -x := by unfold nlet; rw [if_neg (by omega)]
  have e2 : nlet y = -y := by unfold nlet; rw [if_neg (by omega)]
  show sim [nlet x, nlet y] []
  rw [e1, e2]
  exact sim_pair (canc_iff.2 ⟨by omega, by omega⟩)
theorem push_rng {s : List Int} {x : Int} (h : Rng s) (hx : -9223372036854775808 ≤ x ∧ x ≤ 9223372036854775807) : Rng (push s x) := by
  cases s with
  | nil => intro z hz; have : z = x := by simpa [push] using hz
           subst this; exact hx
  | cons y t =>
    show Rng (if canc y x = true then t else x :: y :: t)
    by_cases hc : canc y x = true
    · rw [if_pos hc]; exact fun z hz => h z (List.mem_cons_of_mem _ hz)
    · rw [if_neg hc]
      intro z hz
      rcases List.mem_cons.1 hz with e | hz
      · rw [e]; exact hx
      · exact h z hz
theorem sim_winv_act : ∀ (u st : List Int), Rng u → Rng st → sim (winv (act st u).reverse) (winv (st.reverse ++ u))
  | [], st, _, _ => by simp [act]; exact sim.refl _
  | x :: u, st, hu, hs => by
    have hx := hu x (by simp)
    have hu' : Rng u := fun z hz => hu z (List.mem_cons_of_mem _ hz)
    have h := sim_winv_act u (Go.Proofs.YtlpepholcehojaaDoor.push st x) hu' (push_rng hs hx)
    refine (show sim (winv (act st (x :: u)).reverse) (winv ((Go.Proofs.YtlpepholcehojaaDoor.push st x).reverse ++ u)) from h).trans ?_
    cases st with
    | nil => exact sim.refl _
    | cons y t =>
      simp only [Go.Proofs.YtlpepholcehojaaDoor.push]
      by_cases hc : canc y x = true
      · rw [if_pos hc]
        have e : (y :: t).reverse ++ x :: u = t.reverse ++ ([y, x] ++ u) := by simp
        rw [e, winv_append, winv_append t.reverse, winv_append]
        have h2 := ((sim.refl (winv u)).append (winv_pair hx (hs y (by simp)) hc).symm).append (sim.refl (winv t.reverse))
        simpa using h2
      · rw [if_neg hc]
        have e : (x :: y :: t).reverse ++ u = (y :: t).reverse ++ x :: u := by simp
        rw [e]
        exact sim.refl _
theorem sim_winv_red {u : List Int} (hu : Rng u) : sim (winv (red u)) (winv u) := by
  have := sim_winv_act u [] hu (fun x hx => by simp at hx)
  simpa [red] using this
/-- The reduced word that takes a letter's place. -/
def letR (ims : List (List Int)) (x : Int) : List Int := if 0 < x then red (ims.getD (x.natAbs - 1) []) else winv (red (ims.getD (x.natAbs - 1) []))
theorem letR_sim {ims : List (List Int)} (h : ∀ i, Rng (ims.getD i [])) (x : Int) : sim (letR ims x) (letW ims x) := by
  unfold letR letW
  split
  · exact sim_red _
  · exact sim_winv_red (h _)
def subR (ims : List (List Int)) (zs : List Int) : List Int := (zs.map (letR ims)).flatten
theorem subR_sim {ims : List (List Int)} (h : ∀ i, Rng (ims.getD i [])) : ∀ zs : List Int, sim (subR ims zs) (subW ims zs)
  | [] => sim.refl _
  | x :: zs => by
    have e1 : subR ims (x :: zs) = letR ims x ++ subR ims zs := by simp [subR]
    have e2 : subW ims (x :: zs) = letW ims x ++ subW ims zs := by simp [subW]
    rw [e1, e2]
    exact (letR_sim h x).append (subR_sim h zs)
theorem red_subR {ims : List (List Int)} (h : ∀ i, Rng (ims.getD i [])) (zs : List Int) : red (subR ims zs) = red (subW ims zs) := red_of_sim (subR_sim h zs)
theorem subR_snoc (ims : List (List Int)) (u : List Int) (x : Int) : red (subR ims (u ++ [x])) = wmul (red (subR ims u)) (letR ims x) := by
  have e : subR ims (u ++ [x]) = subR ims u ++ letR ims x := by simp [subR]
  rw [e, wmul_red_left]; rfl

/-- n cells with the values g 0, g 1, .. -/
def VTab (n : Nat) (g : Nat → Value) : Array Value := Array.ofFn (n := n) fun i => g i.val
theorem VTab_get (n : Nat) (g : Nat → Value) (i : Nat) (hi : i < n) : (VTab n g)[i]? = some (g i) := by simp [VTab, hi]
theorem VTab_set (n : Nat) (g : Nat → Value) (i : Nat) (x : Value) : (VTab n g).setIfInBounds i x = VTab n (fun j => if j = i then x else g j) := by
  apply Array.ext
  · simp [VTab]
  · intro j h1 h2
    have hj : j < n := by simpa [VTab] using h2
    rw [Array.getElem_setIfInBounds (by simpa [VTab] using hj)]
    by_cases e : i = j
    · subst e; simp [VTab]
    · simp [VTab, if_neg e, if_neg (Ne.symm e)]
theorem make_words (n : Nat) (hn : n ≤ 1000) (W : World) : (Instr.makeSlice 26 (.int .i64 (n : Int)) (.int .i64 (n : Int))).run Tryd.prog W = .ok (.slice (some ⟨W.heap.size, 0, none⟩) n n) (W.alloc (.cells (VTab n fun _ => .slice none 0 0) 24)) := by
  obtain ⟨i0, hi, hz0, hz1, hz2⟩ := info_parts infoW
  have h := run_make (P := Tryd.prog) W 26 24 i0 (.slice none 0 0) (by kernel_rfl) hi hz0 .i64 .i64 (n : Int) (n : Int) (by omega) (by omega) (by rw [hz2]; omega) (by omega)
  have e : madeCells (Value.slice none 0 0).cells (n * 1) = VTab n (fun _ => .slice none 0 0) := by
    apply Array.ext
    · simp [madeCells, VTab]
    · intro i h1 h2
      simp [madeCells, VTab, Value.cells, Nat.mod_one]
  rw [h, hz1, Int.toNat_natCast, e]
theorem OwnsI.setB {w : World} {B : Nat} {v : Value} {l : List Int} (h : OwnsI w B v l) {a : Addr} (ha : a.block < B) (u : Value) : OwnsI (w.setCell a u) B v l := ownsRow_setCell_below h ha u

/-- While the images are reduced and turned: their arrays P and P+1. -/
structure ArI (w0 : World) (n k : Nat) (ims : List (List Int)) (wr : World) : Prop where
  b : Below w0.heap.size w0 wr
  a : ∃ pv nv : Nat → Value, Row wr w0.heap.size 24 (VTab n pv) ∧ Row wr (w0.heap.size + 1) 24 (VTab n nv) ∧ ∀ i, i < k → OwnsI wr (w0.heap.size + 1 + 1) (pv i) (red (ims.getD i [])) ∧ OwnsI wr (w0.heap.size + 1 + 1) (nv i) (winv (red (ims.getD i [])))
theorem ArI.start (w0 : World) (n : Nat) (ims : List (List Int)) : ArI w0 n 0 ims ((w0.alloc (.cells (VTab n fun _ => .slice none 0 0) 24)).alloc (.cells (VTab n fun _ => .slice none 0 0) 24)) :=
  ⟨((Below.refl _ _).alloc (Nat.le_refl _) _).alloc (by simp) _, fun _ => .slice none 0 0, fun _ => .slice none 0 0, (Row.new w0 _ _).alloc _, by have := Row.new (w0.alloc (.cells (VTab n fun _ => .slice none 0 0) 24)) 24 (VTab n fun _ => .slice none 0 0); simpa using this, fun i hi => absurd hi (by omega)⟩
/-- A round's two stores. -/
theorem ArI.next {w0 wr w1 w2 : World} {n k : Nat} {ims : List (List Int)} {r1 r2 : Value} (h : ArI w0 n k ims wr) (_hk : k < n) (h1 : Below wr.heap.size wr w1) (ho1 : OwnsI w1 wr.heap.size r1 (red (ims.getD k [])))
    (h2 : Below (w1.setCell ⟨w0.heap.size, k, none⟩ r1).heap.size (w1.setCell ⟨w0.heap.size, k, none⟩ r1) w2) (ho2 : OwnsI w2 (w1.setCell ⟨w0.heap.size, k, none⟩ r1).heap.size r2 (winv (red (ims.getD k [])))) :
    ArI w0 n (k + 1) ims (w2.setCell ⟨w0.heap.size + 1, k, none⟩ r2) ∧ Row w2 (w0.heap.size + 1) 24 (VTab n (h.a.choose_spec.choose)) := by
  have hpv := h.a.choose_spec.choose_spec
  generalize h.a.choose_spec.choose = nv at hpv ⊢
  generalize h.a.choose = pv at hpv
  obtain ⟨hP, hN, hO⟩ := hpv
  have l1 := hP.lt
  have l2 := hN.lt
  have s1 := h1.size
  have hBs : Below w0.heap.size wr (w1.setCell ⟨w0.heap.size, k, none⟩ r1) := (h1.mono (Nat.le_of_lt l1)).setCell (p := ⟨w0.heap.size, k, none⟩) (Nat.le_refl _) _
  have hsz : (w1.setCell ⟨w0.heap.size, k, none⟩ r1).heap.size = w1.heap.size := World.size_setCell _ _ _
  have hB2 : Below w0.heap.size wr w2 := hBs.trans (h2.mono (by rw [hsz]; omega))
  have hP1 := (hP.below h1 l1).set k r1
  rw [VTab_set] at hP1
  have hN1 := (hN.below h1 l2).far (p := ⟨w0.heap.size, k, none⟩) (by show w0.heap.size + 1 ≠ w0.heap.size; omega) r1
  have hP2 := hP1.below h2 (by rw [hsz]; omega)
  have hN2 := hN1.below h2 (by rw [hsz]; omega)
  have ho1' : OwnsI w2 (w0.heap.size + 1 + 1) r1 (red (ims.getD k [])) := (((ho1.base (B' := w0.heap.size + 1 + 1) (by omega)).setB (a := ⟨w0.heap.size, k, none⟩) (by show w0.heap.size < _; omega) r1).onB h2)
  refine ⟨⟨(h.b.trans hB2).setCell (p := ⟨w0.heap.size + 1, k, none⟩) (by show w0.heap.size ≤ w0.heap.size + 1; omega) _, (fun j => if j = k then r1 else pv j), (fun j => if j = k then r2 else nv j), hP2.far (p := ⟨w0.heap.size + 1, k, none⟩) (by show w0.heap.size ≠ w0.heap.size + 1; omega) r2, ?_, fun i hi => ?_⟩, hN2⟩
  · have := hN2.set k r2
    rwa [VTab_set] at this
  · by_cases e : i = k
    · subst e
      simp only [if_true]
      exact ⟨ho1'.setB (by show w0.heap.size + 1 < _; omega) _, ((ho2.base (B' := w0.heap.size + 1 + 1) (by rw [hsz]; omega)).setB (by show w0.heap.size + 1 < _; omega) _)⟩
    · simp only [if_neg e]
      obtain ⟨a1, a2⟩ := hO i (by omega)
      exact ⟨(((a1.onB h1).setB (a := ⟨w0.heap.size, k, none⟩) (by show w0.heap.size < _; omega) r1).onB h2).setB (by show w0.heap.size + 1 < _; omega) _, (((a2.onB h1).setB (a := ⟨w0.heap.size, k, none⟩) (by show w0.heap.size < _; omega) r1).onB h2).setB (by show w0.heap.size + 1 < _; omega) _⟩
theorem pile_new (wE : World) : PileV wE (wE.alloc (.cells #[.slice none 0 0, .int .i64 0] 48)) wE.heap.size [] 0 (.slice none 0 0) :=
  ⟨(Below.refl _ _).alloc (Nat.le_refl _) _, Row.new _ _ _, World.ownsRow_nil _ _ _ _, fun p hp => by simp at hp⟩
theorem PileV.lists {w0 W : World} {T : Nat} {ps : List (Value × List Int)} {L : Int} {v : Value} (h : PileV w0 W T ps L v) : Lists W W.heap.size v ps := by
  have hT := h.row.lt
  refine ⟨?_, fun p hp => (h.words p hp).ints.more (Nat.le_of_lt hT)⟩
  by_cases h0 : ps.length = 0
  · obtain ⟨A, c, e⟩ := owned_formW h.own
    exact ⟨A, c, e, fun hh => by omega⟩
  · obtain ⟨g, c, e, hg1, hg2⟩ := World.ownsRow.form h.own (by omega)
    refine ⟨_, c, e, fun _ => ⟨g, 0, rfl, hg2, fun j p hp => ?_⟩⟩
    have := World.ownsRow.cells h.own (g := g) (by rw [e]; rfl) j p.1 (by rw [List.getElem?_map, hp]; rfl)
    rwa [Addr.add_lit] at this

set_option maxRecDepth 100000 in
set_option maxHeartbeats 800000 in
theorem concatL_any (v : Value) (ps : List (Value × List Int)) (w : World) (hn : ps.length ≤ 100000) (hl : (flat ps).length ≤ 1000000000) (hv : Lists w w.heap.size v ps) :
    Calls Tryd.prog 22 #[v] w fun e w' => ∃ r, e = .returned r ∧ OwnsI w' w.heap.size r (flat ps) ∧ Below w.heap.size w w' := by
  obtain ⟨i0, hi, hz0, hz1, hz2⟩ := info_parts info3'
  obtain ⟨⟨A, c, rfl, h⟩, hp⟩ := hv
  have hat : ∀ j p, ps[j]? = some p → ∃ b o A' c', A = some ⟨b, o, none⟩ ∧ b < w.heap.size ∧ p.1 = .slice A' p.2.length c' ∧ w.cell? ⟨b, o + j, none⟩ = some (.slice A' p.2.length c') := fun j p hj => by
    obtain ⟨b, o, e, hb, hc⟩ := h (by have := (List.getElem?_eq_some_iff.1 hj).1; omega)
    obtain ⟨A', c', e', _⟩ := hp p (List.mem_of_getElem? hj)
    exact ⟨b, o, A', c', e, hb, e', by rw [← e']; exact hc j p hj⟩
  have HA := Lib.hid hat
  have HP := Lib.hid hp
  clear h hat hp
  have HL : ∀ k, (flat (ps.take k)).length ≤ 1000000000 := fun k => Nat.le_trans (flat_take_len k) hl
  have HG := Lib.hid HL
  clear HL
  have HF := Lib.hid hl
  clear hl
  go_enter Tryd.func22, Tryd.ntmps22
  go_wp2
  go_loopw [3, 11] (fun s i wr => ∃ k : Nat, i = .int .i64 k ∧ k ≤ ps.length ∧ s = .int .i64 ((flat (ps.take k)).length : Int) ∧ w = wr) (fun _ i _ => ps.length - (intOf i).toNat)
  case atStart => exact ⟨0, rfl, Nat.zero_le _, by simp [flat], rfl⟩
  case round =>
    obtain ⟨k, rfl, hk, rfl, rfl⟩ := hrel
    by_cases hlt : k < ps.length
    · obtain ⟨p, hpk⟩ : ∃ p, ps[k]? = some p := ⟨_, List.getElem?_eq_getElem hlt⟩
      obtain ⟨b, o, A', c', rfl, hb, _, hc⟩ := HA.out k p hpk
      have hs : (flat (ps.take (k + 1))).length = (flat (ps.take k)).length + p.2.length := by rw [take_snoc' hpk, flat_snoc, List.length_append]
      have h1 := HG.out (k + 1)
      have HS := Lib.hid hs
      rw [hs] at h1
      clear hs hpk
      generalize (flat (ps.take k)).length = q at h1 HS
      generalize p.2.length = m at hc h1 HS
      have hge : ¬ ((q : Int) + (m : Int) < 0) := by omega
      go_wp2
      go_roundw
      case rel => exact ⟨k + 1, by go_num, by omega, by rw [HS.out]; go_num, by trivial⟩
      case measure => simp [intOf]; omega
    · have e : ps.take k = ps := List.take_of_length_le (by omega)
      rw [e]
      have hq := HF.out
      generalize hF : (flat ps).length = q at hq
      have HQ := Lib.hid hF
      clear hF
      go_wp2_with fail
      refine (grow_any q _ hq).mono ?_
      rintro e w1 ⟨r, rfl, ho, hb1⟩
      have HO := Lib.hid ho
      have HB := Lib.hid hb1
      clear ho hb1
      go_wp2_with fail
      go_loopw [6, 27] (fun v i wr => ∃ k : Nat, i = .int .i64 k ∧ k ≤ ps.length ∧ OwnsI wr w.heap.size v (flat (ps.take k)) ∧ Below w.heap.size w wr) (fun _ i _ => ps.length - (intOf i).toNat)
      case atStart => exact ⟨0, rfl, Nat.zero_le _, HO.out, HB.out⟩
      case round =>
        obtain ⟨k, rfl, hk, hO, hB⟩ := hrel
        have hBs := hB.size
        by_cases hlt : k < ps.length
        · obtain ⟨p, hpk⟩ : ∃ p, ps[k]? = some p := ⟨_, List.getElem?_eq_getElem hlt⟩
          obtain ⟨b, o, A', c', rfl, hbl, hpe, hc⟩ := HA.out k p hpk
          have hcr := (hB.cell hbl).trans hc
          have h1 := HG.out (k + 1)
          have hpi : Ints wr w.heap.size p.1 p.2 := (HP.out p (List.mem_of_getElem? hpk)).below hB
          rw [hpe] at hpi
          rw [take_snoc' hpk, flat_snoc, List.length_append] at h1
          have hsn : flat (ps.take (k + 1)) = flat (ps.take k) ++ p.2 := by rw [take_snoc' hpk, flat_snoc]
          have HS := Lib.hid hsn
          have HO2 := Lib.hid hO
          have HB2 := Lib.hid hB
          have HPI := Lib.hid hpi
          clear hsn hO hB hpi hc hpk hpe
          generalize flat (ps.take k) = l at h1 HS HO2
          generalize p.2 = ys at hcr h1 HS HPI
          go_wp2_with (at_builtin; refine wpList_append_ints _ rfl (.tmp 31) (.tmp 32) 24 24 rfl w.heap.size 3 i0 Tryd.underlying24 Tryd.underlying24 hi hz0 hz1 hz2 _ _ l ys _ rfl HO2.out rfl HPI.out (by omega) hBs ?_; intro v1 w1 hown hgrow _; have HX := Lib.hid hown; have HB3 := Lib.hid (HB2.out.grown hgrow hBs (fun q hq => (HO2.out.lt q hq).1)); clear hown hgrow)
          go_roundw
          case rel => exact ⟨k + 1, by go_num, by omega, by rw [HS.out]; exact HX.out, HB3.out⟩
          case measure => simp [intOf]; omega
        · have e : ps.take k = ps := List.take_of_length_le (by omega)
          rw [e] at hO
          have HO2 := Lib.hid hO
          have HB2 := Lib.hid hB
          clear hO hB
          go_wp2
          go_ret
          exact ⟨_, rfl, HO2.out, HB2.out⟩

set_option maxRecDepth 100000 in
set_option maxHeartbeats 8000000 in
theorem Subst_any (v u : Value) (zs : List Int) (ps : List (Value × List Int)) (w : World) (hl : zs.length ≤ 300) (hr : Rng zs) (hn : ps.length ≤ 10) (hp : ∀ p ∈ ps, p.2.length ≤ 60 ∧ Rng p.2) (hv : Ints w w.heap.size v zs) (hu : Lists w w.heap.size u ps) :
    Calls Tryd.prog 6 #[v, u] w (GivesE w (subL (ps.map (·.2)) zs) (subE (ps.map (·.2)) zs)) := by
  have hN : ∀ i, ((ps.map (·.2)).getD i []).length ≤ 60 := ims_all (P := fun l => l.length ≤ 60) (by simp) fun p h => (hp p h).1
  have hR : ∀ i, Rng ((ps.map (·.2)).getD i []) := ims_all (P := Rng) (fun x hx => by simp at hx) fun p h => (hp p h).2
  have HIR := Lib.hid (inRange_any ps.length v zs w (by omega) (by omega) hr hv)
  obtain ⟨A, c, rfl, h⟩ := hv
  have hat : ∀ j, j < zs.length → ∃ b o, A = some ⟨b, o, none⟩ ∧ b < w.heap.size ∧ w.cell? ⟨b, o + j, none⟩ = some (.int .i64 (zs.getD j 0)) := fun j hj => by
    obtain ⟨b, o, e, hb, hc⟩ := h (by omega)
    exact ⟨b, o, e, hb, hc j hj⟩
  obtain ⟨⟨B, d, rfl, hB⟩, hI⟩ := hu
  have hbt : ∀ j, j < ps.length → ∃ p b o A' c', ps[j]? = some p ∧ B = some ⟨b, o, none⟩ ∧ b < w.heap.size ∧ p.1 = .slice A' p.2.length c' ∧ w.cell? ⟨b, o + j, none⟩ = some (.slice A' p.2.length c') ∧ Ints w w.heap.size p.1 p.2 := fun j hj => by
    have hj' : ps[j]? = some ps[j] := List.getElem?_eq_getElem hj
    obtain ⟨b, o, e, hb, hc⟩ := hB (by omega)
    have hpp := hI ps[j] (List.getElem_mem hj)
    obtain ⟨A', c', e', _⟩ := id hpp
    exact ⟨ps[j], b, o, A', c', hj', e, hb, e', by have := hc j _ hj'; rwa [e'] at this, hpp⟩
  have HA := Lib.hid hat
  have HBT := Lib.hid hbt
  have HRZ := Lib.hid hr
  have HN := Lib.hid hN
  have HR := Lib.hid hR
  obtain ⟨ims, hims⟩ : ∃ ims, ps.map (·.2) = ims := ⟨_, rfl⟩
  have hil : ims.length = ps.length := by rw [← hims]; simp
  have HG := Lib.hid (show ∀ j p, ps[j]? = some p → ims.getD j [] = p.2 from fun j p hh => by rw [← hims]; exact getD_ims hh)
  rw [hims] at HN HR ⊢
  rw [← hil] at HIR
  have HIL := Lib.hid hil
  clear h hat hB hI hbt hims hil hN hR hr hp
  generalize hPP : GivesE w (subL ims zs) (subE ims zs) = PP
  have HPP := Lib.hid hPP
  clear hPP
  cases hok : okW ims.length zs with
  | false =>
    rw [hok, HIL.out] at HIR
    have HX := Lib.hid (show ∀ e, e = Ending.returned (.tuple #[.slice none 0 0, .int .i64 2]) → PP e w from fun e he => by
      have h2 : subE ims zs = 2 := by unfold subE; rw [hok]; rfl
      rw [← HPP.out]
      unfold subL
      rw [h2]
      exact ⟨_, he, (owns_nil _ w.heap.size).ints, Below.refl _ _⟩)
    clear hok
    go_enter Tryd.func6, Tryd.ntmps6
    go_wp2_with fail
    refine (HIR.out).mono ?_
    rintro e w1 ⟨rfl, hw1⟩
    subst hw1
    go_wp2_with fail
    exact HX.out _ rfl
  | true =>
    rw [hok, HIL.out] at HIR
    have HOK := Lib.hid hok
    have HALL := Lib.hid (show ∀ j, j < zs.length → zs.getD j 0 ≠ 0 ∧ (zs.getD j 0).natAbs ≤ ps.length from fun j hj => by
      have h1 := hok
      unfold okW at h1
      rw [List.all_eq_true] at h1
      have e : zs.getD j 0 = zs[j] := by simp [List.getD_eq_getElem?_getD, hj]
      rw [e]
      have := of_decide_eq_true (h1 zs[j] (List.getElem_mem hj))
      rw [HIL.out] at this
      exact this)
    clear hok
    have HST := Lib.hid (ArI.start w ps.length ims)
    have hmk := fun W => make_words ps.length (by omega) W
    go_enter Tryd.func6, Tryd.ntmps6
    go_wp2_with fail
    refine (HIR.out).mono ?_
    rintro e w1 ⟨rfl, hw1⟩
    subst hw1
    go_wp2_with fail
    clear hmk HIR
    generalize (w.alloc (.cells (VTab ps.length fun _ => .slice none 0 0) 24)).alloc (.cells (VTab ps.length fun _ => .slice none 0 0) 24) = ws at HST ⊢
    go_loopw [26] (fun t26 wr => ∃ k : Nat, t26 = .int .i64 k ∧ k ≤ ps.length ∧ ArI w ps.length k ims wr) (fun t26 _ => ps.length - (intOf t26).toNat)
    case atStart => exact ⟨0, rfl, Nat.zero_le _, HST.out⟩
    case round =>
      obtain ⟨k, rfl, hk, hAr⟩ := hrel
      rename World => wr
      have HAr := Lib.hid hAr
      by_cases hlt : k < ps.length
      · obtain ⟨p, b2, o2, A', c', hpk, rfl, hb2, hp1, hc3, hpi⟩ := HBT.out k hlt
        have hc4 := (hAr.b.cell (p := ⟨b2, o2 + k, none⟩) hb2).trans hc3
        have kd : decide ((k : Int) < (ps.length : Int)) = true := decide_eq_true (by omega)
        have k1 : (k : Int) < (ps.length : Int) := by omega
        have k2 : (0 : Int) ≤ (k : Int) := by omega
        have hpl : p.2.length ≤ 60 := by have := HN.out k; rw [HG.out k p hpk] at this; exact this
        have hpr : Rng p.2 := by have := HR.out k; rw [HG.out k p hpk] at this; exact this
        have HGK := Lib.hid (HG.out k p hpk)
        rw [hp1] at hpi
        have HRD := Lib.hid (Reduce_any (.slice A' p.2.length c') p.2 wr (by omega) hpr (hpi.below hAr.b |>.more hAr.b.size))
        have hrl := red_length p.2
        have HRR := Lib.hid hpr.red
        have hRP := hAr.a.choose_spec.choose_spec.1
        have hRN := hAr.a.choose_spec.choose_spec.2.1
        have HRP := Lib.hid hRP
        have hlP := hRP.lt
        have hlN := hRN.lt
        clear hc3 hp1 hpi hpk hpr hRP hRN
        generalize p.2 = im at hpl hc4 HGK HRD hrl HRR
        go_wp2_with fail
        refine (HRD.out).mono ?_
        rintro e w1 ⟨r1, rfl, ho1, hb1⟩
        obtain ⟨Ar1, cr1, rfl⟩ := ho1.len
        have HO1 := Lib.hid ho1
        have HB1 := Lib.hid hb1
        have hr1 := (HRP.out.below hb1 hlP)
        have q0 := hr1.cell (VTab_get _ _ k hlt)
        have q1 := hr1.frozen k
        have hr1s := hr1.set k (.slice Ar1 (red im).length cr1)
        rw [VTab_set] at hr1s
        have q2 : (w1.setCell ⟨w.heap.size, k, none⟩ (.slice Ar1 (red im).length cr1)).cell? ⟨w.heap.size, k, none⟩ = some (.slice Ar1 (red im).length cr1) := (hr1s.cell (VTab_get _ _ k hlt)).trans (by simp)
        have HI1 := Lib.hid (show Ints (w1.setCell ⟨w.heap.size, k, none⟩ (.slice Ar1 (red im).length cr1)) (w1.setCell ⟨w.heap.size, k, none⟩ (.slice Ar1 (red im).length cr1)).heap.size (.slice Ar1 (red im).length cr1) (red im) from (ho1.setB (a := ⟨w.heap.size, k, none⟩) (by exact hlP) _).ints)
        clear ho1 hb1 hr1 hr1s HRD
        have HIV := Lib.hid (inverse_any (.slice Ar1 (red im).length cr1) (red im) _ (by omega) HRR.out HI1.out)
        go_wp2_with fail
        refine (HIV.out).mono ?_
        rintro e w2 ⟨r2, rfl, ho2, hb2'⟩
        obtain ⟨Ar2, cr2, rfl⟩ := ho2.len
        obtain ⟨hn1, hn2⟩ := HAr.out.next (r1 := .slice Ar1 (red im).length cr1) hlt HB1.out (by rw [HGK.out]; exact HO1.out) hb2' (by rw [HGK.out]; exact ho2)
        have HN1 := Lib.hid hn1
        have u0 := hn2.cell (VTab_get _ _ k hlt)
        have u1 := hn2.frozen k
        clear hn1 hn2 ho2 hb2' q0 q1 q2 HIV HI1
        go_wp2_with fail
        go_roundw
        case rel => exact ⟨k + 1, by go_num, by omega, HN1.out⟩
        case measure => simp [intOf]; omega
      · have kd : decide ((k : Int) < (ps.length : Int)) = false := decide_eq_false (by omega)
        obtain rfl : k = ps.length := by omega
        obtain ⟨pv, nv, hP, hNr, hO⟩ := hAr.a
        have HP := Lib.hid hP
        have HNR := Lib.hid hNr
        have HO := Lib.hid hO
        have HBW := Lib.hid hAr.b
        have HPL := Lib.hid (pile_new wr)
        clear hAr hP hNr hO HAr HST
        go_wp2_with fail
        have hT : wr.heap.size < (wr.alloc (.cells #[.slice none 0 0, .int .i64 0] 48)).heap.size := by simp
        generalize wr.alloc (.cells #[.slice none 0 0, .int .i64 0] 48) = wp at HPL hT ⊢
        go_loopw [47] (fun t47 wx => ∃ (i : Nat) (qs : List (Value × List Int)) (vq : Value), t47 = .int .i64 i ∧ i ≤ zs.length ∧ PileV wr wx wr.heap.size qs ((flat qs).length : Int) vq ∧ Hid ((∀ p ∈ qs, p.2 ≠ []) ∧ flat qs = red (subR ims (zs.take i)))) (fun t47 _ => zs.length - (intOf t47).toNat)
        case atStart => exact ⟨0, [], _, rfl, Nat.zero_le _, HPL.out, ⟨fun p hp => by simp at hp, rfl⟩⟩
        case round =>
          obtain ⟨i, qs, vq, rfl, hi, hQ, HQF⟩ := hrel
          rename World => wx
          have HQ := Lib.hid hQ
          have HBX := Lib.hid (HBW.out.trans (hQ.b.mono HBW.out.size))
          have hrl : (red (subR ims (zs.take i))).length ≤ 18000 := by
            rw [red_subR HR.out]
            have h1 := red_length (subW ims (zs.take i))
            have h2 := subW_len HN.out (zs.take i)
            have h3 : (zs.take i).length ≤ 300 := by simp; omega
            omega
          have HRR := Lib.hid (show Rng (red (subR ims (zs.take i))) from by rw [red_subR HR.out]; exact (subW_rng HR.out (zs.take i)).red)
          by_cases hlt : i < zs.length
          · obtain ⟨b, o, rfl, hb, hc⟩ := HA.out i hlt
            have hc2 := (HBX.out.cell (p := ⟨b, o + i, none⟩) hb).trans hc
            have kd : decide ((i : Int) < (zs.length : Int)) = true := decide_eq_true (by omega)
            have k1 : (i : Int) < (zs.length : Int) := by omega
            have k2 : (0 : Int) ≤ (i : Int) := by omega
            have hxr := HRZ.out.at hlt
            obtain ⟨hxn, hxa⟩ := HALL.out i hlt
            have HSN := Lib.hid (show red (subR ims (zs.take (i + 1))) = wmul (flat qs) (letR ims (zs.getD i 0)) from by
              rw [take_snoc hlt, subR_snoc, HQF.2])
            have hle : letR ims (zs.getD i 0) = if 0 < zs.getD i 0 then red (ims.getD ((zs.getD i 0).natAbs - 1) []) else winv (red (ims.getD ((zs.getD i 0).natAbs - 1) [])) := rfl
            generalize zs.getD i 0 = x at hc hc2 hxr hxn hxa HSN hle
            obtain ⟨q, hq⟩ : ∃ q, x.natAbs = q + 1 := ⟨x.natAbs - 1, by omega⟩
            have hqp : q < ps.length := by omega
            rw [hq, Nat.add_sub_cancel] at hle
            have him := HN.out q
            have himr := HR.out q
            have hrim := red_length (ims.getD q [])
            obtain ⟨hop, hon⟩ := HO.out q hqp
            have hpc := (HP.out.below hQ.b HP.out.lt).cell (VTab_get _ _ q hqp)
            have hnc := (HNR.out.below hQ.b HNR.out.lt).cell (VTab_get _ _ q hqp)
            have m4 : (q : Int) < (ps.length : Int) := by omega
            have m5 : (0 : Int) ≤ (q : Int) := by omega
            have hred : Red (flat qs) := by rw [HQF.2]; exact red_red _
            have hrng : Rng (flat qs) := by rw [HQF.2]; exact HRR.out
            have hfl : (flat qs).length ≤ 100000 := by rw [HQF.2]; omega
            by_cases hx0 : 0 < x
            · have hl2 := hle.trans (if_pos hx0)
              have HI := Lib.hid (show PuI 100000 (wmul (flat qs) (letR ims x)) qs (letR ims x) from by
                rw [hl2]
                exact ⟨HQF.1, hred, red_red _, hrng, himr.red, rfl, hfl, by omega⟩)
              have HPU := Lib.hid (push_any wr.heap.size qs (pv q) (letR ims x) wr wx vq hQ HI.out (by rw [hl2]; exact (hop.intsC.below hQ.b)))
              rw [← HSN.out] at HPU
              have kx : decide ((0 : Int) < x) = true := decide_eq_true hx0
              have m1 : x - 1 = (q : Int) := by omega
              have m2 : IntKind.i64.wrap (x - 1) = (q : Int) := by rw [m1, IntKind.wrap_i64]; omega
              generalize pv q = pq at hpc HPU
              clear hc hxr hxn hxa hle hq hop hon hnc hred hrng hfl hl2 HI m1 hQ him himr hrim
              go_wp2_with fail
              refine (HPU.out).mono ?_
              rintro e w7 ⟨rfl, qs', v', hp7, hn7, hf7⟩
              have H7 := Lib.hid hp7
              have H8 := Lib.hid (show (∀ p ∈ qs', p.2 ≠ []) ∧ flat qs' = red (subR ims (zs.take (i + 1))) from ⟨hn7, hf7⟩)
              clear hp7 hn7 hf7
              go_wp2_with fail
              go_roundw
              case rel => exact ⟨i + 1, qs', v', by go_num, by omega, H7.out, H8.out⟩
              case measure => simp [intOf]; omega
            · have hl2 := hle.trans (if_neg hx0)
              have HI := Lib.hid (show PuI 100000 (wmul (flat qs) (letR ims x)) qs (letR ims x) from by
                rw [hl2]
                exact ⟨HQF.1, hred, Red.winvR himr.red (red_red _), hrng, himr.red.winv, rfl, hfl, by rw [winv_length]; omega⟩)
              have HPU := Lib.hid (push_any wr.heap.size qs (nv q) (letR ims x) wr wx vq hQ HI.out (by rw [hl2]; exact (hon.intsC.below hQ.b)))
              rw [← HSN.out] at HPU
              have kx : decide ((0 : Int) < x) = false := decide_eq_false hx0
              have m0 : IntKind.i64.wrap (-x) = -x := by rw [IntKind.wrap_i64]; omega
              have m1 : -x - 1 = (q : Int) := by omega
              have m2 : IntKind.i64.wrap (-x - 1) = (q : Int) := by rw [m1, IntKind.wrap_i64]; omega
              generalize nv q = pq at hnc HPU
              clear hc hxr hxn hxa hle hq hop hon hpc hred hrng hfl hl2 HI m1 hQ him himr hrim
              go_wp2_with fail
              refine (HPU.out).mono ?_
              rintro e w7 ⟨rfl, qs', v', hp7, hn7, hf7⟩
              have H7 := Lib.hid hp7
              have H8 := Lib.hid (show (∀ p ∈ qs', p.2 ≠ []) ∧ flat qs' = red (subR ims (zs.take (i + 1))) from ⟨hn7, hf7⟩)
              clear hp7 hn7 hf7
              go_wp2_with fail
              go_roundw
              case rel => exact ⟨i + 1, qs', v', by go_num, by omega, H7.out, H8.out⟩
              case measure => simp [intOf]; omega
          · have kd : decide ((i : Int) < (zs.length : Int)) = false := decide_eq_false (by omega)
            have hfe : flat qs = red (subW ims zs) := by
              have := HQF.2
              rwa [List.take_of_length_le (show zs.length ≤ i by omega), red_subR HR.out] at this
            have hfl : (flat qs).length ≤ 18000 := by rw [HQF.2]; exact hrl
            have hql := flat_ne HQF.1
            have x0 := hQ.row.cell (i := 0) rfl
            have x1 := hQ.row.cell (i := 1) rfl
            have HE4 := Lib.hid (show subE ims zs = if 4000 < (red (subW ims zs)).length then 4 else 0 from by unfold subE; rw [HOK.out]; rfl)
            by_cases h4 : 4000 < (flat qs).length
            · have HX := Lib.hid (show ∀ e, e = Ending.returned (.tuple #[.slice none 0 0, .int .i64 4]) → PP e wx from fun e he => by
                have h2 : subE ims zs = 4 := HE4.out.trans (if_pos (by rw [← hfe]; exact h4))
                rw [← HPP.out]
                unfold subL
                rw [h2]
                exact ⟨_, he, (owns_nil _ w.heap.size).ints, HBX.out⟩)
              have k4 : decide ((4000 : Int) < ((flat qs).length : Int)) = true := decide_eq_true (by omega)
              generalize (flat qs).length = fl at x1 k4 h4
              clear hQ hfe hfl hql HE4
              go_wp2_with fail
              exact HX.out _ rfl
            · have HX := Lib.hid (show ∀ v e w', Ints w' w'.heap.size v (flat qs) → Below wx.heap.size wx w' → e = Ending.returned (.tuple #[v, .int .i64 0]) → PP e w' from fun v e w' hv hb he => by
                have h2 : subE ims zs = 0 := HE4.out.trans (if_neg (by rw [← hfe]; exact h4))
                rw [← HPP.out]
                unfold subL
                rw [h2, if_pos rfl, ← hfe]
                exact ⟨_, he, hv, HBX.out.trans (hb.mono HBX.out.size)⟩)
              have HCC := Lib.hid (concatL_any vq qs wx (by omega) (by omega) hQ.lists)
              have k4 : decide ((4000 : Int) < ((flat qs).length : Int)) = false := decide_eq_false (by omega)
              generalize (flat qs).length = fl at x1 k4 h4
              clear hQ hfe hfl hql HE4
              go_wp2_with fail
              refine (HCC.out).mono ?_
              rintro e w8 ⟨r8, rfl, ho8, hb8⟩
              have H8 := Lib.hid (HX.out r8 _ w8 ho8.ints hb8 rfl)
              clear ho8 hb8
              go_wp2_with fail
              exact H8.out
end Go.Proofs.YtlpepholcehojaaDoor
