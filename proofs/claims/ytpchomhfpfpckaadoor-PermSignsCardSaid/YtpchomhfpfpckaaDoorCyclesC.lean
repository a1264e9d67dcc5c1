/- perm.Cycles. -/
import Derived.Test.YtpchomhfpfpckaaDoorRowI
namespace Go.Proofs.YtpchomhfpfpckaaDoor
open Go Go.RowKit
attribute [local go_sem] Oper.semAt_some

/-- A slice of slices of ints. -/
def Lists2 (w : World) (B : Nat) (v : Value) (ps : List Pt) : Prop :=
  (∃ A c, v = .slice A ps.length c ∧ (0 < ps.length → ∃ b o, A = some ⟨b, o, none⟩ ∧ b < B ∧ ∀ j p, ps[j]? = some p → w.cell? ⟨b, o + j, none⟩ = some p.1)) ∧ ∀ p ∈ ps, Ints w B p.1 p.2
/-- The longer cycles. -/
def sel (pre : List Pt) : List Pt := pre.filter fun x => decide (1 < x.2.length)
def selV (pre : List Pt) : List Value := (sel pre).map Prod.fst
theorem sel_in {pre : List Pt} {x : Pt} (h : 1 < x.2.length) : sel (pre ++ [x]) = sel pre ++ [x] := by simp [sel, List.filter_append, h]
theorem sel_out {pre : List Pt} {x : Pt} (h : ¬ 1 < x.2.length) : sel (pre ++ [x]) = sel pre := by simp [sel, List.filter_append, h]
def selC (cs : List (List Int)) : List (List Int) := cs.filter fun c => decide (1 < c.length)
theorem sel_snd (pre : List Pt) : (sel pre).map Prod.snd = selC (pre.map Prod.snd) := by
  unfold sel selC
  rw [List.filter_map]
  rfl
theorem sel_len (pre : List Pt) : (selV pre).length ≤ pre.length := by simp only [selV, sel, List.length_map]; exact List.length_filter_le _ _

/-- A cycle that was handed over: the iterator leaves it alone. -/
def Kept (W : World) (G : Nat → Prop) (p : Pt) : Prop :=
  ∃ b o c cur, p.1 = .slice (some ⟨b, o, none⟩) p.2.length c ∧ W.heap[b]? = some (.cells cur 3 (0, 0)) ∧ ¬ G b ∧ ∀ j, j < p.2.length → cur[o + j]? = some (.int .i64 (p.2.getD j 0))
theorem Kept.ints {W : World} {G : Nat → Prop} {p : Pt} (h : Kept W G p) : Ints W W.heap.size p.1 p.2 := by
  obtain ⟨b, o, c, cur, e, hb, _, hc⟩ := h
  exact ⟨_, c, e, fun _ => ⟨b, o, rfl, (Array.getElem?_eq_some_iff.1 hb).1, fun j hj => by simp [World.cell?, hb, hc j hj]⟩⟩
theorem Kept.less {W : World} {G G2 : Nat → Prop} {p : Pt} (h : Kept W G p) (hG : ∀ k, G2 k → G k) : Kept W G2 p := by
  obtain ⟨b, o, c, cur, e, hb, hg, hc⟩ := h
  exact ⟨b, o, c, cur, e, hb, fun h => hg (hG _ h), hc⟩
def KeptAll (pre : List Pt) (G : Nat → Prop) (W : World) : Prop := ∀ p ∈ sel pre, Kept W G p
theorem KeptAll.abides {m : Nat} : AbidesG m KeptAll := by
  rintro s G G' A W row h hg hr hG p hp
  obtain ⟨b, o, c, cur, e, hb, hg', hc⟩ := h p hp
  have hlt := (Array.getElem?_eq_some_iff.1 hb).1
  refine ⟨b, o, c, cur, e, (hg.block b hlt (fun e => ?_)).trans hb, fun h => ?_, hc⟩
  · rcases hr b e.symm with h | ⟨_, ob, ho, hcs⟩
    · exact hg' h
    · rw [hb] at ho; cases ho; cases hcs
  · rcases hG b h with h | h
    · exact hg' h
    · omega
/-- Over a round's own append and store: the blocks that turn hold no ints. -/
theorem Kept.put {W W2 : World} {G G2 : Nat → Prop} {p : Pt} {v v' : Value} {B base n : Nat} {xs : List Value} (h : Kept W G p) (hG : ∀ k, G2 k → G k) (hO : W.ownsRow base 23 1 v n xs) (hg : W.grownBy W2 v.ownBlock) (hB : Boxed W B 32 v) : Kept (W2.setCell ⟨B, 0, none⟩ v') G2 p := by
  obtain ⟨b, o, c, cur, e, hb, hg', hc⟩ := h
  have hlt := (Array.getElem?_eq_some_iff.1 hb).1
  refine ⟨b, o, c, cur, e, ?_, fun h => hg' (hG _ h), hc⟩
  have h1 : W2.heap[b]? = some (.cells cur 3 (0, 0)) := by
    refine (hg.block b hlt (fun e => ?_)).trans hb
    rcases hO.2 with ⟨rfl, _⟩ | ⟨g, cap, cur', rfl, _, hh, _⟩
    · cases e
    · have : b = g := by simpa [Value.ownBlock] using e
      subst this
      rw [hb] at hh
      injection hh with hh
      injection hh with _ hh _
      exact absurd hh (by decide)
  refine (Below.heap_setCell W2 ⟨B, 0, none⟩ v' b (fun e => ?_)).trans h1
  have e : b = B := e
  subst e
  rw [show W.heap[b]? = _ from hB] at hb
  injection hb with hb
  injection hb with _ hb _
  exact absurd hb (by decide)
theorem RowI.skipD {w W : World} {B Bx m : Nat} {t e : TypeId} {f : List Pt → List Value} {X : List Pt → (Nat → Prop) → World → Prop} {pre : List Pt} {x : Pt} {K0 G G2 : Nat → Prop} {a : Act} (h : RowI w B Bx m t e f X pre G W) (hG2 : ∀ k, G2 k → G k) (hf : f (pre ++ [x]) = f pre) (hX : X (pre ++ [x]) G2 W) :
    postGD K0 G G2 (RowI w B Bx m t e f X) (pre ++ [x]) W .normal a W := by
  obtain ⟨⟨v, h1, h2, h7, h8, h3, h⟩, _⟩ := h
  refine ⟨KeepG.refl _ _ _, ⟨v, h1, fun h => h2 (hG2 _ h), by rw [hf]; exact h7, fun g e => ⟨fun h => (h8 g e).1 (hG2 _ h), (h8 g e).2⟩, fun k h => h3 k (hG2 _ h), h⟩, hX⟩

theorem Ints.putObj {W : World} {v : Value} {zs : List Int} {l : Nat} {o o' : Obj} (h : Ints W W.heap.size v zs) (hl : W.heap[l]? = some o) (ho : o.isCells = false) : Ints (W.putObj l o') (W.putObj l o').heap.size v zs := by
  obtain ⟨A, c, e, h1⟩ := h
  refine ⟨A, c, e, fun hn => ?_⟩
  obtain ⟨b, o1, rfl, hb, hc⟩ := h1 hn
  exact ⟨b, o1, rfl, by simpa using hb, fun j hj => cell_kept (hc j hj) (grownBy_putObj' W l o') (fun r e => by cases e; exact ⟨o, hl, ho⟩)⟩
theorem Lists2.putObj {W : World} {v : Value} {ps : List Pt} {l : Nat} {o o' : Obj} (h : Lists2 W W.heap.size v ps) (hl : W.heap[l]? = some o) (ho : o.isCells = false) : Lists2 (W.putObj l o') (W.putObj l o').heap.size v ps := by
  obtain ⟨⟨A, c, e, h1⟩, h2⟩ := h
  refine ⟨⟨A, c, e, fun hn => ?_⟩, fun p hp => (h2 p hp).putObj hl ho⟩
  obtain ⟨b, o1, rfl, hb, hc⟩ := h1 hn
  exact ⟨b, o1, rfl, by simpa using hb, fun j p hj => cell_kept (hc j p hj) (grownBy_putObj' W l o') (fun r e => by cases e; exact ⟨o, hl, ho⟩)⟩
theorem lists2_of {W : World} {base : Nat} {v : Value} {xs : List Pt} {G : Nat → Prop} (h : W.ownsRow base 23 1 v (selV xs).length (selV xs)) (hk : KeptAll xs G W) : Lists2 W W.heap.size v (sel xs) := by
  have hl : (selV xs).length = (sel xs).length := by simp [selV]
  refine ⟨?_, fun p hp => (hk p hp).ints⟩
  rcases h.2 with ⟨rfl, h0⟩ | ⟨g, cap, cur, rfl, _⟩
  · exact ⟨none, 0, by rw [← hl, h0], fun hp => by omega⟩
  · refine ⟨_, cap, by rw [hl], fun _ => ⟨g, 0, rfl, (h.lt g rfl).2, fun j p hj => ?_⟩⟩
    have hjl : j < (sel xs).length := (List.getElem?_eq_some_iff.1 hj).1
    rw [Nat.zero_add, h.cellAt j (by rw [hl]; omega)]
    simp [selV, hj]

/-- What a function that returns lists and an error has returned. -/
def ListsErr (x : Int) (cs : List (List Int)) (w : World) (e : Ending) (w' : World) : Prop :=
  ∃ r ps, e = .returned (.tuple #[r, .int .i64 x]) ∧ Below w.heap.size w w' ∧ Lists2 w' w'.heap.size r ps ∧ ps.map Prod.snd = cs

theorem info23' : (Tryd.prog.info? 23).map (fun i => (i.zero, i.size, i.bytes)) = some (some (.slice none 0 0), 1, 24) := by kernel_rfl
theorem cell_atV (w : World) (x : Value) (t : TypeId) : ∀ j u, [x][j]? = some u → (w.alloc (.cells #[x] t)).cell? ((⟨w.heap.size, 0, none⟩ : Addr).add j) = some u := cell_one_new w x t

set_option maxRecDepth 100000 in
set_option maxHeartbeats 1000000 in
theorem Cycles_ok (b o c : Nat) (zs : List Int) (w : World) (hz : chk zs = 0) (hb : b < w.heap.size)
    (hc : ∀ j, j < zs.length → w.cell? ⟨b, o + j, none⟩ = some (.int .i64 (zs.getD j 0))) :
    Calls Tryd.prog 20 #[.slice (some ⟨b, o, none⟩) zs.length c] w (ListsErr 0 (selC (cycs zs)) w) := by
  have hv : Ints w w.heap.size (.slice (some ⟨b, o, none⟩) zs.length c) zs := ⟨_, c, rfl, fun _ => ⟨b, o, rfl, hb, hc⟩⟩
  obtain ⟨i0, hi0, hz0, hz1, hz2⟩ := info_parts info23'
  obtain ⟨h1, h64, hf⟩ := chk_zero hz
  have HV := Lib.hid hv
  have HF := Lib.hid hf
  have HZ := Lib.hid hz
  clear hv hf hz
  refine (callsIn_wide (n := 3)).1 ?_
  refine callsIn_of_wp_marks Tryd.func20 rfl trivial ?_ rfl
  simp only [Tryd.ntmps20, List.size_toArray, List.length_cons, List.length_nil, Nat.reduceAdd, Nat.reduceSub, Array.replicate_succ, Array.replicate_zero, List.push_toArray, List.append_toArray, List.nil_append, List.cons_append]
  gi_wp2_with fail
  refine ⟨trivial, (callsIn_wide.2 (checks_one w.heap.size _ zs _ (by omega) (by simp) (by simp) ((HV.out.alloc (Nat.le_refl _) _).more (by simp)))).mono ?_⟩
  rw [HZ.out]
  rintro e w1 ⟨rfl, hb1⟩
  have HB := Lib.hid (((Below.refl _ w).alloc (Nat.le_refl _) _).trans (hb1.mono (by simp)))
  clear hb1
  gi_wp2_with fail
  refine ⟨trivial, (cycles_in Fence.wide 2 trivial rfl _ _ _ _).mono ?_⟩
  rintro e w2 ⟨rfl, rfl⟩
  gi_wp2_with fail
  have hb1s := HB.out.size
  have hW2 : ((w1.alloc (.cells #[.slice none 0 0] 32)).alloc (.cells #[.slice (some ⟨b, o, none⟩) zs.length c] 24)).heap.size = w1.heap.size + 2 := by simp
  have hB2 : Below w.heap.size w ((w1.alloc (.cells #[.slice none 0 0] 32)).alloc (.cells #[.slice (some ⟨b, o, none⟩) zs.length c] 24)) := (HB.out.alloc hb1s _).alloc (by simp; omega) _
  have hbx : Boxed ((w1.alloc (.cells #[.slice none 0 0] 32)).alloc (.cells #[.slice (some ⟨b, o, none⟩) zs.length c] 24)) (w1.heap.size + 1) 24 (.slice (some ⟨b, o, none⟩) zs.length c) := by
    have := Boxed.new (w1.alloc (.cells #[.slice none 0 0] 32)) 24 (.slice (some ⟨b, o, none⟩) zs.length c)
    rwa [World.size_alloc] at this
  have hbo : Boxed ((w1.alloc (.cells #[.slice none 0 0] 32)).alloc (.cells #[.slice (some ⟨b, o, none⟩) zs.length c] 24)) w1.heap.size 32 (.slice none 0 0) := (Boxed.new w1 32 (.slice none 0 0)).alloc _
  have hc2 : ∀ j, j < zs.length → ((w1.alloc (.cells #[.slice none 0 0] 32)).alloc (.cells #[.slice (some ⟨b, o, none⟩) zs.length c] 24)).cell? ⟨b, o + j, none⟩ = some (.int .i64 (zs.getD j 0)) := fun j hj => (hB2.cell (p := ⟨b, o + j, none⟩) hb).trans (hc j hj)
  refine wpIn_rangeGD rfl (by omega) (gf := 82) (lb := #[.pointer (some ⟨w1.heap.size + 1, 0, none⟩)]) rfl trivial (enters_of Tryd.func82 (by kernel_rfl) rfl)
    (iter_seqD Fence.wide 2 trivial rfl (by omega) (w1.heap.size + 1) b o c zs (fun k => k < w.heap.size ∨ k = w1.heap.size + 1) HF.out h64 _ ⟨by omega, by omega⟩ (.inr rfl) (.inl hb) hbx hc2)
    (fun _ => rfl) Hand.putObj (RowI w w1.heap.size (w1.heap.size + 1) (w1.heap.size + 2) 32 23 selV KeptAll) (by rw [hW2]; exact RowI.abides KeptAll.abides)
    ⟨⟨_, hbo, id, World.ownsRow_nil _ _ _ _, fun g e => by simp [Value.ownBlock] at e, fun k h => h.elim, by omega, by omega, by omega, by omega, hB2⟩, fun p hp => by simp [sel] at hp⟩
    (fun x => { tmps := #[.slice (some ⟨b, o, none⟩) zs.length c, undef, .slice none 0 0, .int .i64 0, .int .i64 0, .pointer (some ⟨w1.heap.size, 0, none⟩), x.1, .slice (some ⟨b, o, none⟩) zs.length c, .slice (some ⟨w.heap.size, 0, none⟩) 1 1, .int .i64 0, .int .i64 0, .bool false, undef, .slice (some ⟨b, o, none⟩) zs.length c, .func (.func 82) #[] #[.pointer (some ⟨w1.heap.size + 1, 0, none⟩)], x.1, undef, undef, undef, undef, undef, undef, undef, undef], defers := [] }) ?assign ?body ?done
  case assign =>
    intro l x W K hK
    gi_wp2
    exact hK
  case body =>
    rintro l pre ⟨vx, cl⟩ G W hI hH
    obtain ⟨hcl, hlen, hsum, hpos, _⟩ := hH.facts h64
    obtain ⟨⟨hvi, hvt⟩, _⟩ := hH
    dsimp only at hvi hvt
    obtain ⟨bc, oc, cc, hvv, hbc, hcc⟩ := hvi.at_ (by omega)
    obtain ⟨cur, hcur⟩ := hvt _ _ _ _ hvv
    subst hvv
    have HI := Lib.hid hI
    obtain ⟨⟨v, hv, hnG, hO, h8, h3, h9, h4, h10, h5, h6⟩, hX⟩ := hI
    have hpl : (selV pre).length ≤ 64 := by have := sel_len pre; have := sum_ge_len _ hpos; simp at this hsum; omega
    have hcurc : ∀ j, j < cl.length → cur[oc + j]? = some (.int .i64 (cl.getD j 0)) := fun j hj => by
      have := hcc j hj
      simpa [World.cell?, hcur] using this
    by_cases h1c : 1 < cl.length
    · have hbv := hv.cell
      have hbf := hv.frozen
      have HO := Lib.hid (hO.alloc (.cells #[.slice (some ⟨bc, oc, none⟩) cl.length cc] 23))
      have hXn : ∀ W2 v' tmp, (W.alloc tmp).grownBy W2 v.ownBlock → KeptAll (pre ++ [((.slice (some ⟨bc, oc, none⟩) cl.length cc), cl)]) (fun k => G k ∧ ¬ (Value.slice (some ⟨bc, oc, none⟩) cl.length cc).ownBlock = some k) (W2.setCell ⟨w1.heap.size, 0, none⟩ v') := fun W2 v' tmp hg => by
        have hg' : W.grownBy W2 v.ownBlock := (appTo_of (v' := v) hg (.inl rfl)).1
        unfold KeptAll
        rw [sel_in (x := (Value.slice (some ⟨bc, oc, none⟩) cl.length cc, cl)) h1c]
        intro p hp
        rcases List.mem_append.1 hp with hp | hp
        · exact (hX p hp).put (fun k h => h.1) hO hg' hv
        · rw [List.mem_singleton] at hp
          subst hp
          have hk : Kept W (fun k => G k ∧ ¬ (Value.slice (some ⟨bc, oc, none⟩) cl.length cc).ownBlock = some k) ((.slice (some ⟨bc, oc, none⟩) cl.length cc), cl) := ⟨bc, oc, cc, cur, rfl, hcur, fun h => h.2 rfl, hcurc⟩
          exact hk.put (fun k h => h) hO hg' hv
      have HP := fun W2 v' tmp a hO2 (hg : (W.alloc tmp).grownBy W2 v.ownBlock) hat => Lib.hid (RowI.put (W2 := W2) (v' := v') (x := (Value.slice (some ⟨bc, oc, none⟩) cl.length cc, cl)) (a := a) (f := selV) (X := KeptAll) (G2 := fun k => G k ∧ ¬ (Value.slice (some ⟨bc, oc, none⟩) cl.length cc).ownBlock = some k) hv hnG hO h8 h3 h9 h4 h10 h5 h6 (by omega) (fun k h => h.1) hO2 (appTo_of hg hat) (hXn W2 v' tmp hg))
      have hbs : ∀ W2 tmp, (W.alloc tmp).grownBy W2 v.ownBlock → Boxed W2 w1.heap.size 32 v := fun W2 tmp hg => (hv.alloc tmp).kept hg (fun e => (h8 _ e.symm).2.2 rfl)
      obtain ⟨Av, cv, rfl⟩ := slice_of_own hO
      have hsW : w.heap.size ≤ W.heap.size := by omega
      clear hc hc2 hbx hbo hB2 hW2 hsum hpos hO h8 h3 h4 h10 h5 h6 hnG hv hX hXn HI hcurc hcc hcur hvi hvt
      have hsn : selV (pre ++ [((.slice (some ⟨bc, oc, none⟩) cl.length cc), cl)]) = selV pre ++ [.slice (some ⟨bc, oc, none⟩) cl.length cc] := by
        unfold selV
        rw [sel_in (x := (Value.slice (some ⟨bc, oc, none⟩) cl.length cc, cl)) h1c]
        simp
      rw [hsn, List.length_append, List.length_singleton] at HP
      clear hsn
      generalize selV pre = s at HO HP hpl hbv hbs
      dsimp only
      gi_wp2_with (gi_at_builtin; refine wpListIn_append_at _ rfl _ _ 32 rfl w.heap.size 23 i0 (.slice none 0 0) 1 24 Tryd.underlying32 hi0 hz0 hz1 hz2 rfl (by decide) _ _ _ rfl HO.out ⟨W.heap.size, 0, none⟩ 1 1 [.slice (some ⟨bc, oc, none⟩) cl.length cc] rfl rfl (cell_atV _ _ _) (by simp [Value.oneCell']) (by unfold maxLen; omega) (by omega) (by simp; omega) ?_; intro v' w3 hown' hgrow hat'; have hb2 := (hbs _ _ hgrow).cell; have hf2 := (hbs _ _ hgrow).frozen; have HP2 := Lib.hid (fun a => HP w3 v' _ a hown' hgrow hat'); obtain ⟨A', c', rfl⟩ := slice_of_own hown'; clear HP hbs hown' hgrow hat')
      exact (HP2.out _).out
    · have HS := fun a => Lib.hid (RowI.skipD (K0 := fun k => k < w.heap.size ∨ k = w1.heap.size + 1) (x := (Value.slice (some ⟨bc, oc, none⟩) cl.length cc, cl)) (a := a) (G2 := fun k => G k ∧ ¬ (Value.slice (some ⟨bc, oc, none⟩) cl.length cc).ownBlock = some k) HI.out (fun k h => h.1) (by unfold selV; rw [sel_out (x := (Value.slice (some ⟨bc, oc, none⟩) cl.length cc, cl)) h1c]) (by unfold KeptAll; rw [sel_out (x := (Value.slice (some ⟨bc, oc, none⟩) cl.length cc, cl)) h1c]; exact fun p hp => (hX p hp).less (fun k h => h.1)))
      clear hc hc2 hbx hbo hB2 hW2 hsum hpos hO h8 h3 h4 h10 h5 h6 hnG hv hX HI hcurc hcc hcur hvi hvt
      dsimp only
      gi_wp2
      exact (HS _).out
  case done =>
    rintro D xs G W hD hS hI hK
    obtain ⟨⟨v, hv, hnG, hO, h8, h3, h9, h4, h10, h5, h6⟩, hX⟩ := hI
    have hbc := hv.cell
    have hE := sel_snd xs
    rw [show xs.map Prod.snd = cycs zs from hS] at hE
    have HE := Lib.hid hE
    have HO := Lib.hid hO
    have HX := Lib.hid hX
    obtain ⟨A', c', rfl⟩ := slice_of_own hO
    clear hS hE h3 hc hc2 hbx hbo hO h8 hX
    gi_wp2
    refine ⟨by simp, .inl ⟨_, _, rfl, run_takeDeferred hK, ?_⟩⟩
    refine ⟨_, results_tmp2 rfl _ _ _, .slice A' (selV xs).length c', sel xs, rfl, h6.trans (belowK_b (w := w) (Nat.le_refl _) W D _ _ (by omega) hK rfl rfl), ?_, HE.out⟩
    exact (lists2_of HO.out HX.out).putObj hK rfl

/-- The lists that Cycles returns. -/
def cyclesV (zs : List Int) : List (List Int) := if chk zs = 0 then selC (cycs zs) else []

set_option maxRecDepth 100000 in
set_option maxHeartbeats 400000 in
/-- perm.Cycles. -/
theorem Cycles_any (v : Value) (zs : List Int) (w : World) (hl : zs.length ≤ 17592186044400) (hv : Ints w w.heap.size v zs) :
    Calls Tryd.prog 20 #[v] w (ListsErr (chk zs) (cyclesV zs) w) := by
  by_cases hz : chk zs = 0
  · obtain ⟨h1, _, _⟩ := chk_zero hz
    obtain ⟨b, o, c, rfl, hb, hc⟩ := hv.at_ (by omega)
    rw [hz, show cyclesV zs = selC (cycs zs) by unfold cyclesV; rw [if_pos hz]]
    exact Cycles_ok b o c zs w hz hb hc
  · rw [show cyclesV zs = [] by unfold cyclesV; rw [if_neg hz]]
    have HV := Lib.hid hv
    obtain ⟨A, c, rfl, h⟩ := hv
    clear h
    have HC := fun W h1 h2 h3 => Lib.hid (checks_one w.heap.size (.slice A zs.length c) zs W hl h1 h2 h3)
    generalize chk zs = x at HC hz
    have hx : (x != 0) = true := by simpa using hz
    clear hz
    refine (callsIn_wide (n := 3)).1 ?_
    refine callsIn_of_wp_marks Tryd.func20 rfl trivial ?_ rfl
    simp only [Tryd.ntmps20, List.size_toArray, List.length_cons, List.length_nil, Nat.reduceAdd, Nat.reduceSub, Array.replicate_succ, Array.replicate_zero, List.push_toArray, List.append_toArray, List.nil_append, List.cons_append]
    gi_wp2_with fail
    refine ⟨trivial, (callsIn_wide.2 (HC _ (by simp) (by simp) ((HV.out.alloc (Nat.le_refl _) _).more (by simp))).out).mono ?_⟩
    rintro e w1 ⟨rfl, hb1⟩
    have HB := Lib.hid (((Below.refl _ w).alloc (Nat.le_refl _) _).trans (hb1.mono (by simp)))
    clear hb1
    gi_wp2_with fail
    exact ⟨_, results_tmp2 rfl _ _ _, .slice none 0 0, [], rfl, HB.out, ⟨⟨none, 0, rfl, fun h => absurd h (by simp)⟩, fun p hp => by cases hp⟩, rfl⟩
end Go.Proofs.YtpchomhfpfpckaaDoor
