/- The pile of Subst: push. -/
import Derived.Test.YtlpepholcehojaaDoorWMeet
import Derived.Deep.AppendLies
namespace Go.Proofs.YtlpepholcehojaaDoor
open Go Go.RowKit

theorem infoW : (Tryd.prog.info? 24).map (fun i => (i.zero, i.size, i.bytes)) = some (some (.slice none 0 0), 1, 24) := by kernel_rfl
theorem owned_formW {w : World} {B n : Nat} {e : TypeId} {v : Value} {xs : List Value} (h : w.ownsRow B e 1 v n xs) : ∃ A c, v = .slice A n c := by
  rcases h.2 with ⟨rfl, h0⟩ | ⟨g, cap, cur, rfl, _⟩
  · exact ⟨none, 0, by rw [h0]⟩
  · exact ⟨_, cap, rfl⟩
/-- A list that can be read, with its capacity known to be enough. -/
def IntsC (w : World) (B : Nat) (v : Value) (zs : List Int) : Prop :=
  ∃ A c, v = .slice A zs.length c ∧ zs.length ≤ c ∧ (0 < zs.length → ∃ b o, A = some ⟨b, o, none⟩ ∧ b < B ∧ ∀ j, j < zs.length → w.cell? ⟨b, o + j, none⟩ = some (.int .i64 (zs.getD j 0)))
theorem IntsC.ints {w : World} {B : Nat} {v : Value} {zs : List Int} (h : IntsC w B v zs) : Ints w B v zs := by
  obtain ⟨A, c, e, _, h2⟩ := h; exact ⟨A, c, e, h2⟩
theorem IntsC.more {w : World} {B B' : Nat} {v : Value} {zs : List Int} (h : IntsC w B v zs) (hB : B ≤ B') : IntsC w B' v zs := by
  obtain ⟨A, c, e, h1, h2⟩ := h
  exact ⟨A, c, e, h1, fun h0 => by obtain ⟨b, o, e', hb, hc⟩ := h2 h0; exact ⟨b, o, e', by omega, hc⟩⟩
theorem IntsC.below {w w' : World} {B : Nat} {v : Value} {zs : List Int} (h : IntsC w B v zs) (hb : Below B w w') : IntsC w' B v zs := by
  obtain ⟨A, c, e, h1, h2⟩ := h
  exact ⟨A, c, e, h1, fun h0 => by
    obtain ⟨b, o, e', hbB, hc⟩ := h2 h0
    exact ⟨b, o, e', hbB, fun j hj => (hb.cell (p := ⟨b, o + j, none⟩) hbB).trans (hc j hj)⟩⟩
theorem OwnsI.intsC {w : World} {B : Nat} {v : Value} {l : List Int} (h : OwnsI w B v l) : IntsC w w.heap.size v l := by
  obtain ⟨A, c, rfl⟩ := h.len
  obtain ⟨A', c', e, h2⟩ := h.ints
  injection e with e1 _ e3
  subst e1; subst e3
  exact ⟨A, c, rfl, h.capLe, h2⟩
theorem sizeWord (W : World) : (sizeOf (Tryd.prog.elem 24)).run Tryd.prog W = .ok 1 W := by
  obtain ⟨i0, hi, hz0, hz1, hz2⟩ := info_parts info3'
  have e : Tryd.prog.elem 24 = 3 := by kernel_rfl
  rw [e]; simp [sizeOf, typeInfo, hi, hz1]
theorem cut_preC {w : World} {B : Nat} {v : Value} {l : List Int} (h : IntsC w B v l) {k : Nat} (hk : k ≤ l.length) :
    ∃ A' c', (∀ W, (Instr.slice 24 v none (some (.int .i64 (k : Int))) none).run Tryd.prog W = .ok (.slice A' k c') W) ∧ IntsC w B (.slice A' k c') (l.take k) := by
  obtain ⟨A, c, rfl, hc, h2⟩ := h
  have hlen : (l.take k).length = k := by simp; omega
  refine ⟨if c = 0 then A else A.map (·.add (0 * 1)), c - 0, fun W => ?_, _, _, by rw [hlen], by rw [hlen]; omega, fun h0 => ?_⟩
  · rw [run_slice_h W 24 A l.length c (by kernel_rfl) .i64 k (by omega) (by omega), sizeWord, Int.toNat_natCast]
    rfl
  · rw [hlen] at h0 ⊢
    obtain ⟨b, o, rfl, hb, hcc⟩ := h2 (by omega)
    refine ⟨b, o, ?_, hb, fun j hj => ?_⟩
    · rw [if_neg (by omega), addr_map _ 0 b o rfl, Nat.add_zero]
    · rw [getD_take hj]; exact hcc j (by omega)
theorem cut_sufC {w : World} {B : Nat} {v : Value} {l : List Int} (h : IntsC w B v l) {k : Nat} (hk : k ≤ l.length) :
    ∃ A' c', (∀ W, (Instr.slice 24 v (some (.int .i64 (k : Int))) none none).run Tryd.prog W = .ok (.slice A' (l.length - k) c') W) ∧ IntsC w B (.slice A' (l.length - k) c') (l.drop k) := by
  obtain ⟨A, c, rfl, hc, h2⟩ := h
  have hlen : (l.drop k).length = l.length - k := by simp
  refine ⟨if c = k then A else A.map (·.add (k * 1)), c - k, fun W => ?_, _, _, by rw [hlen], by rw [hlen]; omega, fun h0 => ?_⟩
  · rw [run_slice_l W 24 A l.length c (by kernel_rfl) .i64 k (by omega) (by omega), sizeWord, Int.toNat_natCast]
    rfl
  · rw [hlen] at h0 ⊢
    obtain ⟨b, o, rfl, hb, hcc⟩ := h2 (by omega)
    refine ⟨b, o + k, ?_, hb, fun j hj => ?_⟩
    · rw [if_neg (by omega), addr_map _ k b o rfl]
    · rw [getD_drop, Nat.add_assoc]; exact hcc (k + j) (by omega)
theorem cut_pieces (g n c k : Nat) (hk : k ≤ n) (hc : n ≤ c) (h0 : 0 < n) (W : World) : (Instr.slice 26 (.slice (some ⟨g, 0, none⟩) n c) none (some (.int .i64 (k : Int))) none).run Tryd.prog W = .ok (.slice (some ⟨g, 0, none⟩) k c) W := by
  obtain ⟨i0, hi, hz0, hz1, hz2⟩ := info_parts infoW
  rw [run_slice_h W 26 (some ⟨g, 0, none⟩) n c (by kernel_rfl) .i64 k (by omega) (by omega)]
  have : (sizeOf (Tryd.prog.elem 26)).run Tryd.prog W = .ok 1 W := by
    have e : Tryd.prog.elem 26 = 24 := by kernel_rfl
    rw [e]; simp [sizeOf, typeInfo, hi, hz1]
  rw [this, Int.toNat_natCast]
  show Result.ok (sliced (some ⟨g, 0, none⟩) 0 k c 1) W = _
  unfold sliced
  rw [if_neg (by omega), addr_map _ 0 g 0 rfl]
  rfl

/-- The pile at T, in the world W; what lies below T is as in w0. -/
structure PileV (w0 W : World) (T : Nat) (ps : List (Value × List Int)) (L : Int) (v : Value) : Prop where
  b : Below T w0 W
  row : Row W T 48 #[v, .int .i64 L]
  own : W.ownsRow (T + 1) 24 1 v ps.length (ps.map (·.1))
  words : ∀ p ∈ ps, IntsC W T p.1 p.2
theorem PileV.drewN {w0 W : World} {T : Nat} {ps : List (Value × List Int)} {L : Int} {v : Value} (h : PileV w0 W T ps L v) (n : Nat) : PileV w0 (W.drewN n) T ps L v :=
  ⟨h.b.trans ⟨rfl, rfl, rfl, Nat.le_refl _, fun _ _ => rfl⟩, h.row, h.own, h.words⟩
theorem PileV.drew {w0 W : World} {T : Nat} {ps : List (Value × List Int)} {L : Int} {v : Value} (h : PileV w0 W T ps L v) : PileV w0 W.drew T ps L v :=
  ⟨h.b.trans ⟨rfl, rfl, rfl, Nat.le_refl _, fun _ _ => rfl⟩, h.row, h.own, h.words⟩
theorem PileV.setL {w0 W : World} {T : Nat} {ps : List (Value × List Int)} {L : Int} {v : Value} (h : PileV w0 W T ps L v) (L' : Int) : PileV w0 (W.setCell ⟨T, 1, none⟩ (.int .i64 L')) T ps L' v :=
  ⟨h.b.setCell (p := ⟨T, 1, none⟩) (Nat.le_refl _) _, h.row.set 1 _, ownsRow_setCell_below h.own (by show T < T + 1; omega) _, fun p hp => (h.words p hp).below ((Below.refl T W).setCell (p := ⟨T, 1, none⟩) (Nat.le_refl _) _)⟩
theorem PileV.pop {w0 W : World} {T g c : Nat} {ps : List (Value × List Int)} {p : Value × List Int} {L : Int} (h : PileV w0 W T (ps ++ [p]) L (.slice (some ⟨g, 0, none⟩) (ps.length + 1) c)) :
    PileV w0 (W.setCell ⟨T, 0, none⟩ (.slice (some ⟨g, 0, none⟩) ps.length c)) T ps L (.slice (some ⟨g, 0, none⟩) ps.length c) := by
  have ho := h.own
  rw [List.map_append, List.length_append] at ho
  exact ⟨h.b.setCell (p := ⟨T, 0, none⟩) (Nat.le_refl _) _, h.row.set 0 _, ownsRow_setCell_below (ownsRow_pop (by simp) ho) (by show T < T + 1; omega) _, fun q hq => (h.words q (List.mem_append_left _ hq)).below ((Below.refl T W).setCell (p := ⟨T, 0, none⟩) (Nat.le_refl _) _)⟩
theorem PileV.top {w0 W : World} {T g c : Nat} {ps : List (Value × List Int)} {p q : Value × List Int} {L : Int} (h : PileV w0 W T (ps ++ [p]) L (.slice (some ⟨g, 0, none⟩) (ps.length + 1) c)) (hq : IntsC W T q.1 q.2) :
    PileV w0 (W.setCell ⟨g, ps.length, none⟩ q.1) T (ps ++ [q]) L (.slice (some ⟨g, 0, none⟩) (ps.length + 1) c) := by
  have ho := h.own
  have hg : T + 1 ≤ g := (ho.lt g rfl).1
  rw [show (ps ++ [p]).length = ps.length + 1 by simp] at ho
  have hs := (ho.stored ps.length q.1).1
  have e : ((ps ++ [p]).map (·.1)).set ps.length q.1 = (ps ++ [q]).map (·.1) := by
    rw [List.map_append, List.map_append, List.set_append_right _ _ (by simp)]
    simp
  rw [e] at hs
  refine ⟨h.b.setCell (p := ⟨g, ps.length, none⟩) (by show T ≤ g; omega) _, h.row.far (p := ⟨g, ps.length, none⟩) (by show T ≠ g; omega) _, by rw [show (ps ++ [q]).length = ps.length + 1 by simp]; exact hs, fun x hx => ?_⟩
  have hB := (Below.refl T W).setCell (p := ⟨g, ps.length, none⟩) (by show T ≤ g; omega) q.1
  rcases List.mem_append.1 hx with hx | hx
  · exact (h.words x (List.mem_append_left _ hx)).below hB
  · obtain rfl : x = q := by simpa using hx
    exact hq.below hB
theorem PileV.push {w0 W w2 : World} {T : Nat} {ps : List (Value × List Int)} {u : Value} {zs : List Int} {L : Int} {v v' : Value} (h : PileV w0 W T ps L v) (hu : IntsC W T u zs) (hT : T < W.heap.size)
    (hown : w2.ownsRow (T + 1) 24 1 v' (ps.length + 1) (ps.map (·.1) ++ [u])) (hg : (W.alloc (.cells #[u] 24)).grownBy w2 v.ownBlock) :
    PileV w0 (w2.setCell ⟨T, 0, none⟩ v') T (ps ++ [(u, zs)]) L v' := by
  have hlt := h.own.lt
  have hB : Below T W w2 := ((Below.refl T W).alloc (by omega) _).grown hg (by simp; omega) (fun k hk => by have := (hlt k hk).1; omega)
  have hr : Row w2 T 48 #[v, .int .i64 L] := (h.row.alloc _).kept hg (fun e => by have := (hlt T e.symm).1; omega)
  have hBs : Below T W (w2.setCell ⟨T, 0, none⟩ v') := hB.setCell (p := ⟨T, 0, none⟩) (Nat.le_refl _) _
  refine ⟨h.b.trans hBs, hr.set 0 v', by rw [List.map_append, List.length_append]; exact ownsRow_setCell_below hown (by show T < T + 1; omega) _, fun x hx => ?_⟩
  rcases List.mem_append.1 hx with hx | hx
  · exact (h.words x hx).below hBs
  · obtain rfl : x = (u, zs) := by simpa using hx
    exact hu.below hBs

/-- What holds between two rounds of push. -/
structure PuI (N : Nat) (tg : List Int) (qs : List (Value × List Int)) (z : List Int) : Prop where
  ne : ∀ p ∈ qs, p.2 ≠ []
  r1 : Red (flat qs)
  r2 : Red z
  g1 : Rng (flat qs)
  g2 : Rng z
  e : red (flat qs ++ z) = tg
  l1 : (flat qs).length ≤ N
  l2 : z.length ≤ N
theorem flat_ne {qs : List (Value × List Int)} (h : ∀ p ∈ qs, p.2 ≠ []) : qs.length ≤ (flat qs).length := by
  induction qs with
  | nil => simp
  | cons p qs ih =>
    have h1 := ih fun q hq => h q (List.mem_cons_of_mem _ hq)
    have h2 : p.2 ≠ [] := h p (by simp)
    have h3 : 0 < p.2.length := List.length_pos_iff.2 h2
    have e : flat (p :: qs) = p.2 ++ flat qs := by simp [flat]
    rw [e, List.length_cons, List.length_append]; omega
theorem PuI.cut {N : Nat} {tg : List Int} {qs : List (Value × List Int)} {p : Value × List Int} {z : List Int} {k : Nat} (h : PuI N tg (qs ++ [p]) z) (hm : MeetAt p.2 z k) (hk : k = p.2.length) : PuI N tg qs (z.drop k) := by
  have hf : flat (qs ++ [p]) = flat qs ++ p.2 := flat_snoc qs p
  have h1 := h.r1; have h3 := h.g1; have h5 := h.e; have h6 := h.l1
  rw [hf] at h1 h3 h5 h6
  refine ⟨fun x hx => h.ne x (List.mem_append_left _ hx), h1.left, ?_, fun x hx => h3 x (List.mem_append_left _ hx), fun x hx => h.g2 x (List.mem_of_mem_drop hx), ?_, by rw [List.length_append] at h6; omega, by have := h.l2; rw [List.length_drop]; omega⟩
  · have := h.r2
    rw [← List.take_append_drop k z] at this
    exact this.right
  · have hs := sim_meet k hm.1 hm.2.1 hm.2.2.1
    rw [hk, Nat.sub_self, List.take_zero, List.nil_append] at hs
    rw [← h5, List.append_assoc]
    subst hk
    exact (red_of_sim ((sim.refl (flat qs)).append hs)).symm
theorem PuI.stop {N : Nat} {tg : List Int} {qs : List (Value × List Int)} {p : Value × List Int} {z : List Int} {k : Nat} (h : PuI N tg (qs ++ [p]) z) (hm : MeetAt p.2 z k) (hk : k < p.2.length) (q : Value) : (∀ x ∈ qs ++ [(q, p.2.take (p.2.length - k))], x.2 ≠ []) ∧ flat (qs ++ [(q, p.2.take (p.2.length - k))]) ++ z.drop k = tg := by
  have hf : flat (qs ++ [p]) = flat qs ++ p.2 := flat_snoc qs p
  have h1 := h.r1; have h5 := h.e
  rw [hf] at h1 h5
  refine ⟨fun x hx => ?_, ?_⟩
  · rcases List.mem_append.1 hx with hx | hx
    · exact h.ne x (List.mem_append_left _ hx)
    · obtain rfl : x = (q, p.2.take (p.2.length - k)) := by simpa using hx
      intro e
      have e2 := congrArg List.length e
      simp at e2; omega
  · rw [flat_snoc]
    have hr := meet_red h1 h.r2 hm hk
    rw [← red_of_red hr, ← h5, List.append_assoc, List.append_assoc]
    exact (red_of_sim ((sim.refl (flat qs)).append (sim_meet k hm.1 hm.2.1 hm.2.2.1))).symm
theorem PuI.full {N : Nat} {tg : List Int} {qs : List (Value × List Int)} {z : List Int} (h : PuI N tg qs z) (h0 : qs = [] ∨ z = []) : flat qs ++ z = tg := by
  rw [← h.e]
  refine (red_of_red ?_).symm
  rcases h0 with rfl | rfl
  · exact h.r2
  · rw [List.append_nil]; exact h.r1
/-- What push gives. -/
def PushP (w0 : World) (T : Nat) (tg : List Int) (e : Ending) (w' : World) : Prop :=
  e = .returned (.tuple #[]) ∧ ∃ ps' v', PileV w0 w' T ps' ((flat ps').length : Int) v' ∧ (∀ p ∈ ps', p.2 ≠ []) ∧ flat ps' = tg

set_option maxRecDepth 100000 in
set_option maxHeartbeats 8000000 in
theorem push_any (T : Nat) (ps : List (Value × List Int)) (u : Value) (zs : List Int) (w0 W : World) (v : Value) (hP : PileV w0 W T ps ((flat ps).length : Int) v) (hI : PuI 100000 (wmul (flat ps) zs) ps zs) (hu : IntsC W T u zs) :
    Calls Tryd.prog 21 #[.pointer (some ⟨T, 0, none⟩), u] W (PushP w0 T (wmul (flat ps) zs)) := by
  obtain ⟨i0, hi0, hz0, hz1, hz2⟩ := info_parts infoW
  generalize wmul (flat ps) zs = tg at hI ⊢
  have HT := Lib.hid (show ∀ W, Below T w0 W → T < w0.heap.size → T < W.heap.size from fun W h hh => Nat.lt_of_lt_of_le hh h.size)
  obtain ⟨A1, c1, hfu⟩ := hu.ints.form
  subst hfu
  obtain ⟨Av, cv, hfv⟩ := owned_formW hP.own
  subst hfv
  have HP := Lib.hid hP
  have HI := Lib.hid hI
  have HU := Lib.hid hu
  have hpl : ps.length ≤ 100000 := Nat.le_trans (flat_ne hI.ne) hI.l1
  have x0 := hP.row.cell (i := 0) rfl
  have kw : IntKind.i64.wrap ((ps.length : Int) - 1) = (ps.length : Int) - 1 := by rw [IntKind.wrap_i64]; omega
  have HPP := Lib.hid (show ∀ w' ps' v', PileV w0 w' T ps' ((flat ps').length : Int) v' → (∀ p ∈ ps', p.2 ≠ []) → flat ps' = tg → PushP w0 T tg (.returned (.tuple #[])) w' from fun w' ps' v' a b c => ⟨rfl, ps', v', a, b, c⟩)
  generalize PushP w0 T tg = PP at HPP ⊢
  clear hP hI hu HT
  go_enter Tryd.func21, Tryd.ntmps21
  go_wp2_with fail
  clear x0 kw
  go_loopw [1, 4] (fun t1 t4 wr => ∃ (qs : List (Value × List Int)) (z : List Int) (vq : Value), t4 = .int .i64 ((qs.length : Int) - 1) ∧ PileV w0 wr T qs ((flat qs).length : Int) vq ∧ IntsC wr T t1 z ∧ Hid (PuI 100000 tg qs z)) (fun _ t4 _ => (intOf t4 + 1).toNat)
  case atStart => exact ⟨ps, zs, _, rfl, HP.out, HU.out, HI.out⟩
  case round =>
    obtain ⟨qs, z, vq, rfl, hP, hu, HI⟩ := hrel
    rename World => wr
    obtain ⟨A1, c1, hfu⟩ := hu.ints.form
    subst hfu
    obtain ⟨Av, cv, hfv⟩ := owned_formW hP.own
    subst hfv
    have HP := Lib.hid hP
    have HU := Lib.hid hu
    have hql : qs.length ≤ 100000 := Nat.le_trans (flat_ne HI.ne) HI.l1
    have hzl : z.length ≤ 100000 := HI.l2
    have hfl : (flat qs).length ≤ 100000 := HI.l1
    by_cases hq0 : qs.length = 0
    · obtain ⟨n4, hn4⟩ : ∃ n4 : Int, (qs.length : Int) - 1 = n4 := ⟨_, rfl⟩
      rw [hn4]
      have kd : decide (n4 ≥ 0) = false := decide_eq_false (by omega)
      have kdp : ¬ (0 ≤ n4) := by omega
      clear hn4
      have hlen : qs.length ≤ 100000 := by omega
      have HF := Lib.hid (HI.full (.inl (List.length_eq_zero_iff.1 hq0)))
      have HNE := Lib.hid HI.ne
      have hzl : z.length ≤ 100000 := HI.l2
      have hfl : (flat qs).length ≤ 100000 := HI.l1
      clear hP hu HI hq0
      obtain ⟨zl, hzl'⟩ : ∃ zl, z.length = zl := ⟨_, rfl⟩
      obtain ⟨nT, hnT⟩ : ∃ nT, qs.length = nT := ⟨_, rfl⟩
      obtain ⟨LT, hLT⟩ : ∃ LT, (flat qs).length = LT := ⟨_, rfl⟩
      rw [hzl'] at HU hzl ⊢
      rw [hnT] at HP
      rw [hLT] at HP hfl
      have HPT := HP
      have HUT := HU
      have hTL := HP.out.row.lt
      have HLT := Lib.hid hLT
      have HNT := Lib.hid hnT
      have HZL := Lib.hid hzl'
      have hnb : nT ≤ 100000 := by omega
      clear hzl' hnT hLT HP HU
      have x0 := HPT.out.row.cell (i := 0) rfl
      have x1 := HPT.out.row.cell (i := 1) rfl
      have f0 := HPT.out.row.frozen 0
      have f1 := HPT.out.row.frozen 1
      by_cases hzz : zl = 0
      · have hznil : z = [] := List.length_eq_zero_iff.1 (by rw [HZL.out]; exact hzz)
        have HX := Lib.hid (HPP.out wr qs _ (by rw [HLT.out]; exact HPT.out) HNE.out (by have := HF.out; rwa [hznil, List.append_nil] at this))
        have kd2 : decide ((0 : Int) < (zl : Int)) = false := decide_eq_false (by omega)
        clear hznil
        go_wp2_with fail
        refine bodyPost_ret (results_none rfl _ _ _) rfl ?_
        exact HX.out
      · have kd2 : decide ((0 : Int) < (zl : Int)) = true := decide_eq_true (by omega)
        have kLz : IntKind.i64.wrap ((LT : Int) + (zl : Int)) = ((LT + zl : Nat) : Int) := by rw [IntKind.wrap_i64]; omega
        obtain ⟨LN, hLN⟩ : ∃ LN, LT + zl = LN := ⟨_, rfl⟩
        rw [hLN] at kLz
        have HLN := Lib.hid hLN
        have HOWN := Lib.hid (show wr.ownsRow (T + 1) 24 1 _ nT (qs.map (·.1)) from by have := HPT.out.own; rw [HNT.out] at this; exact this)
        have hTs : T + 1 ≤ wr.heap.size := hTL
        clear hLN
        go_wp2_with (at_builtin; refine wpList_append_own _ rfl (.tmp 75) (.tmp 77) 26 rfl (T + 1) 24 i0 (.slice none 0 0) 1 24 Tryd.underlying26 hi0 hz0 hz1 hz2 rfl (by decide) _ _ _ rfl (World.ownsRow.alloc HOWN.out _) ⟨wr.heap.size, 0, none⟩ 1 1 [Value.slice A1 zl c1] rfl rfl (by have hcn := cell_one_new wr (Value.slice A1 zl c1) 24; simpa [World.size_setCell] using hcn) (by simp [Value.oneCell']) (by unfold maxLen; omega) (by omega) (by simp; omega) ?_; intro v1 w2 hown hgrow _; obtain ⟨A8, c8, rfl⟩ := owned_formW hown; have HQ := Lib.hid (HPT.out.push HUT.out hTL (by rw [HNT.out]; exact hown) hgrow); have hr2 := (HPT.out.row.alloc _).kept hgrow (fun e => by have := (HPT.out.own.lt T e.symm).1; omega); have u0 := hr2.cell (i := 0) rfl; have u1 := hr2.frozen 0; have u2 := HQ.out.row.cell (i := 1) rfl; have u3 := HQ.out.row.frozen 1; clear hown hgrow hr2)
        have h1 := HQ.out.setL (LN : Int)
        have h2 : ((flat (qs ++ [(Value.slice A1 zl c1, z)])).length : Int) = (LN : Int) := by rw [flat_snoc, List.length_append, HLT.out, HZL.out, ← HLN.out]
        have HX := Lib.hid (HPP.out _ (qs ++ [(Value.slice A1 zl c1, z)]) _ (by rw [h2]; exact h1) (fun x hx => by
            rcases List.mem_append.1 hx with hx | hx
            · exact HNE.out x hx
            · obtain rfl : x = (Value.slice A1 zl c1, z) := by simpa using hx
              intro e
              have e2 := congrArg List.length e
              simp only [List.length_nil] at e2
              rw [HZL.out] at e2
              exact hzz e2) (by rw [flat_snoc]; exact HF.out))
        refine bodyPost_ret (results_none rfl _ _ _) rfl ?_
        exact HX.out
    by_cases hzl0 : z.length = 0
    · obtain ⟨n4, hn4⟩ : ∃ n4 : Int, (qs.length : Int) - 1 = n4 := ⟨_, rfl⟩
      rw [hn4]
      have kd : decide (n4 ≥ 0) = true := decide_eq_true (by omega)
      have kdp : 0 ≤ n4 := by omega
      clear hn4
      have hznil : z = [] := List.length_eq_zero_iff.1 hzl0
      have HX := Lib.hid (HPP.out wr qs _ HP.out HI.ne (by have := HI.full (.inr hznil); rwa [hznil, List.append_nil] at this))
      have kd2 : decide ((0 : Int) < (z.length : Int)) = false := decide_eq_false (by omega)
      clear hP hu HI hznil
      go_wp2_with fail
      refine bodyPost_ret (results_none rfl _ _ _) rfl ?_
      exact HX.out
    · have kd : decide (((qs.length : Int) - 1) ≥ 0) = true := decide_eq_true (by omega)
      have kd2 : decide ((0 : Int) < (z.length : Int)) = true := decide_eq_true (by omega)
      have hz00 : 0 < z.length := by omega
      obtain ⟨qi, p, rfl⟩ : ∃ qi p, qs = qi ++ [p] := by
        have hne : qs ≠ [] := fun e => by rw [e] at hq0; simp at hq0
        exact ⟨qs.dropLast, qs.getLast hne, (List.dropLast_concat_getLast hne).symm⟩
      have hqq : (qi ++ [p]).length = qi.length + 1 := by simp
      rw [hqq] at hP HP hql kd hq0 ⊢
      obtain ⟨g, cv', hf, hg1, hg2⟩ := World.ownsRow.form hP.own (by omega)
      injection hf with e1 e2 e3
      clear e2
      subst e1; subst e3
      have kk : ((qi.length + 1 : Nat) : Int) - 1 = (qi.length : Int) := by omega
      rw [kk] at kd ⊢
      have y0 := hP.row.cell (i := 0) rfl
      have y1 := hP.row.cell (i := 1) rfl
      have yf := hP.row.frozen 1
      have yf0 := hP.row.frozen 0
      have hown := hP.own
      rw [hqq] at hown
      have hcell := World.ownsRow.cells hown (g := g) rfl qi.length p.1 (by rw [List.map_append, List.getElem?_append_right (by simp)]; simp)
      rw [Addr.add_lit, Nat.zero_add] at hcell
      have hcle : qi.length + 1 ≤ cv := by
        rcases hown.2 with ⟨h0, _⟩ | ⟨g', cap', cur, hv, _, _, hnc, _⟩
        · cases h0
        · injection hv with _ _ e3; subst e3; exact hnc
      have hfrz := hown.frozenAt qi.length
      have hwp := hP.words p (List.mem_append_right _ (by simp))
      obtain ⟨Ap, cp, hfp⟩ := hwp.ints.form
      rw [hfp] at hwp hcell
      have HWP := Lib.hid hwp
      have hpl : p.2.length ≤ 100000 := by have := HI.l1; rw [flat_snoc, List.length_append] at this; omega
      have hpr : Rng p.2 := fun x hx => HI.g1 x (by rw [flat_snoc]; exact List.mem_append_right _ hx)
      have HME := Lib.hid (cancelled2_any (.slice Ap p.2.length cp) (.slice A1 z.length c1) p.2 z wr (by omega) (by omega) hpr HI.g2 (hwp.ints.more (Nat.le_of_lt hP.row.lt)) (hu.ints.more (Nat.le_of_lt hP.row.lt)))
      have HCUT := Lib.hid (fun k (h : MeetAt p.2 z k) (hk : k = p.2.length) => HI.cut h hk)
      have HSTP := Lib.hid (fun k (h : MeetAt p.2 z k) (hk : k < p.2.length) q => HI.stop h hk q)
      have hfs : (flat (qi ++ [p])).length = (flat qi).length + p.2.length := by rw [flat_snoc, List.length_append]
      rw [hfs] at HP y1 hfl
      have HTL := Lib.hid hP.row.lt
      have HFP := Lib.hid hfp
      have k1 : (qi.length : Int) < ((qi.length + 1 : Nat) : Int) := by omega
      have k1' : (qi.length : Int) < (qi.length : Int) + 1 := by omega
      have k2 : (0 : Int) ≤ (qi.length : Int) := by omega
      clear hP hu HI hown hwp hpr hqq hfs hfp kk
      go_wp2_with fail
      refine (HME.out).mono ?_
      rintro e w1 ⟨k, nk, rfl, hm, hw1⟩
      have HPd := Lib.hid (HP.out.drewN nk)
      have HUd := Lib.hid (show IntsC (wr.drewN nk) T (.slice A1 z.length c1) z from HU.out)
      have HWd := Lib.hid (show IntsC (wr.drewN nk) T (.slice Ap p.2.length cp) p.2 from HWP.out)
      have x0 : (wr.drewN nk).cell? ⟨T, 0, none⟩ = _ := y0
      have x1 : (wr.drewN nk).cell? ⟨T, 1, none⟩ = _ := y1
      have xf : (wr.drewN nk).frozen? ⟨T, 1, none⟩ = _ := yf
      have xf0 : (wr.drewN nk).frozen? ⟨T, 0, none⟩ = _ := yf0
      have xc : (wr.drewN nk).cell? ⟨g, qi.length, none⟩ = _ := hcell
      have xfr : (wr.drewN nk).frozen? ⟨g, qi.length, none⟩ = _ := hfrz
      have HTL1 := Lib.hid (show T < (wr.drewN nk).heap.size from HTL.out)
      rw [← hw1] at HPd HUd HWd x0 x1 xf xf0 xc xfr HTL1
      clear hw1 y0 y1 yf yf0 hcell hfrz HP HU HWP HME HTL
      have HM := Lib.hid hm
      have hk1 := hm.1
      have hk2 := hm.2.1
      obtain ⟨A4, c4, hcut4, hI4⟩ := cut_sufC HUd.out (k := k) hk2
      have H4 := Lib.hid hI4
      have hzd : (z.drop k).length = z.length - k := by simp
      have kL : IntKind.i64.wrap (((flat qi).length + p.2.length : Nat) - (k : Int)) = (((flat qi).length + (p.2.length - k) : Nat) : Int) := by rw [IntKind.wrap_i64]; omega
      have kL' : IntKind.i64.wrap (((flat qi).length : Int) + (p.2.length : Int) - (k : Int)) = (((flat qi).length + (p.2.length - k) : Nat) : Int) := by rw [IntKind.wrap_i64]; omega
      clear hm hI4
      obtain ⟨L2, hL2⟩ : ∃ L2, (flat qi).length + (p.2.length - k) = L2 := ⟨_, rfl⟩
      obtain ⟨L1, hL1⟩ : ∃ L1, (flat qi).length + p.2.length = L1 := ⟨_, rfl⟩
      rw [hL2] at kL kL'
      rw [hL1] at x1 HPd kL
      have HL2 := Lib.hid hL2
      have HL1 := Lib.hid hL1
      have hLb : L1 ≤ 100000 := by omega
      have kL0 : IntKind.i64.wrap ((L1 : Int) - (k : Int)) = (L2 : Int) := by rw [IntKind.wrap_i64]; omega
      clear hL2 hL1 kL kL'
      have HS := Lib.hid (HPd.out.setL (L2 : Int))
      have z0 := HS.out.row.cell (i := 0) rfl
      have z1 := HS.out.row.cell (i := 1) rfl
      have zf := HS.out.row.frozen 1
      have zf0 := HS.out.row.frozen 0
      have HBS := Lib.hid ((Below.refl T w1).setCell (p := ⟨T, 1, none⟩) (Nat.le_refl _) (.int .i64 (L2 : Int)))
      have zlt := HS.out.own.lt
      have zc : (w1.setCell ⟨T, 1, none⟩ (.int .i64 (L2 : Int))).cell? ⟨g, qi.length, none⟩ = some (.slice Ap p.2.length cp) := (World.cell?_setCell_other _ _ _ _ (fun e => by injection e with e _ _; omega)).trans xc
      have zfr : (w1.setCell ⟨T, 1, none⟩ (.int .i64 (L2 : Int))).frozen? ⟨g, qi.length, none⟩ = false := by
        have ho := HS.out.own
        rw [show (qi ++ [p]).length = qi.length + 1 by simp] at ho
        exact ho.frozenAt qi.length
      have HU4 := Lib.hid (H4.out.below HBS.out)
      have HW4 := Lib.hid (HWd.out.below HBS.out)
      have HTL2 := Lib.hid (show T < (w1.setCell ⟨T, 1, none⟩ (.int .i64 (L2 : Int))).heap.size from by rw [World.size_setCell]; exact HTL1.out)
      have hLL : L2 ≤ 100000 := by have := HL2.out; have := HL1.out; omega
      clear zlt HPd HUd HWd H4 HBS HTL1
      by_cases hkp : k < p.2.length
      · have kd3 : decide ((k : Int) < (p.2.length : Int)) = true := decide_eq_true (by omega)
        obtain ⟨A5, c5, hcut5, hI5⟩ := cut_preC HW4.out (k := p.2.length - k) (by omega)
        have hsub : (p.2.length : Int) - (k : Int) = ((p.2.length - k : Nat) : Int) := by omega
        have hsw : IntKind.i64.wrap ((p.2.length - k : Nat) : Int) = ((p.2.length - k : Nat) : Int) := by rw [IntKind.wrap_i64]; omega
        obtain ⟨hne2, hfl2⟩ := HSTP.out k HM.out hkp (.slice A5 (p.2.length - k) c5)
        have HNE := Lib.hid hne2
        have HF := Lib.hid hfl2
        have HSd := Lib.hid (HS.out.drew)
        have HUd4 := Lib.hid (show IntsC (w1.setCell ⟨T, 1, none⟩ (.int .i64 (L2 : Int))).drew T (.slice A4 (z.length - k) c4) (z.drop k) from HU4.out)
        have HI5 := Lib.hid (show IntsC (w1.setCell ⟨T, 1, none⟩ (.int .i64 (L2 : Int))).drew T (.slice A5 (p.2.length - k) c5) (p.2.take (p.2.length - k)) from hI5)
        have hL2e : (flat (qi ++ [(.slice A5 (p.2.length - k) c5, p.2.take (p.2.length - k))])).length = L2 := by
          rw [flat_snoc, List.length_append, List.length_take, ← HL2.out]; omega
        have HLT := Lib.hid hL2e
        have zcd : (w1.setCell ⟨T, 1, none⟩ (.int .i64 (L2 : Int))).drew.cell? ⟨g, qi.length, none⟩ = _ := zc
        have zfd : (w1.setCell ⟨T, 1, none⟩ (.int .i64 (L2 : Int))).drew.frozen? ⟨g, qi.length, none⟩ = _ := zfr
        generalize hpk : p.2.length - k = pk at hsub hsw hcut5 HLT HF HNE HI5
        clear hne2 hfl2 hI5 hL2e HCUT HSTP HU4 HW4
        have hgT : ¬ T = g := by omega
        have hgT2 : ¬ g = T := by omega
        go_wp2_with fail
        generalize w1.setCell ⟨T, 1, none⟩ (.int .i64 (L2 : Int)) = wS at z0 z1 zf zf0 zc zfr HS HSd HUd4 HI5 HTL2 zcd zfd ⊢
        clear x0 x1 xf xf0 xc xfr
        go_still_tail 12, (by kernel_rfl)
        repeat still_step
        first | (change wpList _ _ _ _ _ wS.drew) | (refine wpStill_nil ?_; change wpList _ _ _ _ _ wS.drew)
        have hTd : T < wS.drew.heap.size := HTL2.out
        generalize wS.drew = wD at HSd HUd4 HI5 hTd zcd zfd ⊢
        clear z0 z1 zf zf0 zc zfr HS HTL2
        obtain ⟨zT, hzT⟩ : ∃ zT, z.drop k = zT := ⟨_, rfl⟩
        obtain ⟨zl, hzl'⟩ : ∃ zl, z.length - k = zl := ⟨_, rfl⟩
        obtain ⟨nT, hnT⟩ : ∃ nT, qi.length + 1 = nT := ⟨_, rfl⟩
        have HZL := Lib.hid (show zT.length = zl from by rw [← hzT, List.length_drop]; exact hzl')
        have HPT := Lib.hid (HSd.out.top (q := (.slice A5 pk c5, p.2.take pk)) HI5.out)
        have HUT := Lib.hid (HUd4.out.below ((Below.refl T wD).setCell (p := ⟨g, qi.length, none⟩) (by show T ≤ g; omega) (.slice A5 pk c5)))
        have hNTl : (qi ++ [((.slice A5 pk c5 : Value), p.2.take pk)]).length = nT := by simp; exact hnT
        have HNT := Lib.hid hNTl
        have hTL : T < (wD.setCell ⟨g, qi.length, none⟩ (.slice A5 pk c5)).heap.size := by rw [World.size_setCell]; exact hTd
        rw [hzT] at HF HUT
        rw [hzl'] at HUT hcut4 ⊢
        rw [hnT] at HPT ⊢
        have hnb : nT ≤ 100001 := by omega
        have hzl : zl ≤ 100000 := by omega
        obtain ⟨LT, hLT⟩ : ∃ LT, L2 = LT := ⟨_, rfl⟩
        rw [hLT] at HPT HLT hLL
        clear hzT hzl' hNTl hLT HSd HUd4 HI5
        have x0 := HPT.out.row.cell (i := 0) rfl
        have x1 := HPT.out.row.cell (i := 1) rfl
        have f0 := HPT.out.row.frozen 0
        have f1 := HPT.out.row.frozen 1
        by_cases hzz : zl = 0
        · have hznil : zT = [] := List.length_eq_zero_iff.1 (by rw [HZL.out]; exact hzz)
          have HX := Lib.hid (HPP.out (wD.setCell ⟨g, qi.length, none⟩ (.slice A5 pk c5)) (qi ++ [((.slice A5 pk c5 : Value), p.2.take pk)]) _ (by rw [HLT.out]; exact HPT.out) HNE.out (by have := HF.out; rwa [hznil, List.append_nil] at this))
          have kd2 : decide ((0 : Int) < (zl : Int)) = false := decide_eq_false (by omega)
          clear hznil
          go_wp2_with fail
          refine bodyPost_ret (results_none rfl _ _ _) rfl ?_
          exact HX.out
        · have kd2 : decide ((0 : Int) < (zl : Int)) = true := decide_eq_true (by omega)
          have kLz : IntKind.i64.wrap ((LT : Int) + (zl : Int)) = ((LT + zl : Nat) : Int) := by rw [IntKind.wrap_i64]; omega
          obtain ⟨LN, hLN⟩ : ∃ LN, LT + zl = LN := ⟨_, rfl⟩
          rw [hLN] at kLz
          have HLN := Lib.hid hLN
          have HOWN := Lib.hid (show (wD.setCell ⟨g, qi.length, none⟩ (.slice A5 pk c5)).ownsRow (T + 1) 24 1 _ nT ((qi ++ [((.slice A5 pk c5 : Value), p.2.take pk)]).map (·.1)) from by have := HPT.out.own; rw [HNT.out] at this; exact this)
          have hTs : T + 1 ≤ (wD.setCell ⟨g, qi.length, none⟩ (.slice A5 pk c5)).heap.size := hTL
          clear hLN
          go_wp2_with (at_builtin; refine wpList_append_own _ rfl (.tmp 75) (.tmp 77) 26 rfl (T + 1) 24 i0 (.slice none 0 0) 1 24 Tryd.underlying26 hi0 hz0 hz1 hz2 rfl (by decide) _ _ _ rfl (World.ownsRow.alloc HOWN.out _) ⟨wD.heap.size, 0, none⟩ 1 1 [Value.slice A4 zl c4] rfl rfl (by have hcn := cell_one_new (wD.setCell ⟨g, qi.length, none⟩ (.slice A5 pk c5)) (Value.slice A4 zl c4) 24; simpa [World.size_setCell] using hcn) (by simp [Value.oneCell']) (by unfold maxLen; omega) (by omega) (by simp; omega) ?_; intro v1 w2 hown hgrow _; obtain ⟨A8, c8, rfl⟩ := owned_formW hown; have HQ := Lib.hid (HPT.out.push HUT.out hTL (by rw [HNT.out]; exact hown) hgrow); have hr2 := (HPT.out.row.alloc _).kept hgrow (fun e => by have := (HPT.out.own.lt T e.symm).1; omega); have u0 := hr2.cell (i := 0) rfl; have u1 := hr2.frozen 0; have u2 := HQ.out.row.cell (i := 1) rfl; have u3 := HQ.out.row.frozen 1; clear hown hgrow hr2)
          have h1 := HQ.out.setL (LN : Int)
          have h2 : ((flat ((qi ++ [((.slice A5 pk c5 : Value), p.2.take pk)]) ++ [(Value.slice A4 zl c4, zT)])).length : Int) = (LN : Int) := by rw [flat_snoc, List.length_append, HLT.out, HZL.out, ← HLN.out]
          have HX := Lib.hid (HPP.out _ ((qi ++ [((.slice A5 pk c5 : Value), p.2.take pk)]) ++ [(Value.slice A4 zl c4, zT)]) _ (by rw [h2]; exact h1) (fun x hx => by
              rcases List.mem_append.1 hx with hx | hx
              · exact HNE.out x hx
              · obtain rfl : x = (Value.slice A4 zl c4, zT) := by simpa using hx
                intro e
                have e2 := congrArg List.length e
                simp only [List.length_nil] at e2
                rw [HZL.out] at e2
                exact hzz e2) (by rw [flat_snoc]; exact HF.out))
          refine bodyPost_ret (results_none rfl _ _ _) rfl ?_
          exact HX.out
      · have hkk : k = p.2.length := by omega
        have kd3 : decide ((k : Int) < (p.2.length : Int)) = false := decide_eq_false (by omega)
        have hcutp := cut_pieces g (qi.length + 1) cv qi.length (by omega) hcle (by omega)
        have HN := Lib.hid (HCUT.out k HM.out hkk)
        have HQ := Lib.hid (HS.out.pop)
        have HU5 := Lib.hid (HU4.out.below ((Below.refl T _).setCell (p := ⟨T, 0, none⟩) (Nat.le_refl _) (.slice (some ⟨g, 0, none⟩) qi.length cv)))
        have HL3 := Lib.hid (show ((flat qi).length : Int) = (L2 : Int) from by rw [← HL2.out]; omega)
        clear HCUT HSTP HU4 HW4 hkk
        go_wp2_with fail
        go_roundw
        case rel => exact ⟨qi, z.drop k, _, by go_num, by rw [HL3.out]; exact HQ.out, HU5.out, HN.out⟩
        case measure => simp [intOf]
end Go.Proofs.YtlpepholcehojaaDoor
