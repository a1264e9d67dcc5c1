/- perm.Text. -/
import Derived.Test.YtpchomhfpfpckaaDoorOrder
import Derived.Test.YtpchomhfpfpckaaDoorCycle
namespace Go.Proofs.YtpchomhfpfpckaaDoor
open Go Go.RowKit Go.Shelf
attribute [local go_sem] Oper.semAt_some

/-- The bytes of the cycles of two points or more. -/
def txt (cs : List (List Int)) : List UInt8 := cs.flatMap fun c => if 1 < c.length then cycText c else []
theorem txt_snoc (cs : List (List Int)) (c : List Int) : txt (cs ++ [c]) = txt cs ++ if 1 < c.length then cycText c else [] := by simp [txt]
theorem txt_len (cs : List (List Int)) (h : ∀ c ∈ cs, 1 ≤ c.length) : (txt cs).length ≤ 4 * (cs.map List.length).sum := by
  induction cs with
  | nil => simp [txt]
  | cons c cs ih =>
    have h1 := ih (fun d hd => h d (List.mem_cons_of_mem _ hd))
    have h2 := h c (List.mem_cons_self ..)
    have h3 := cycText_len c
    have e : txt (c :: cs) = (if 1 < c.length then cycText c else []) ++ txt cs := by simp [txt]
    rw [e, List.length_append, List.map_cons, List.sum_cons]
    by_cases hc : 1 < c.length
    · rw [if_pos hc]; omega
    · rw [if_neg hc]; simp; omega

/-- Between two rounds of Text's loop. -/
def TxtI (w : World) (B Bx m : Nat) (pre : List Pt) (G : Nat → Prop) (W : World) : Prop :=
  ∃ v, Boxed W B 81 v ∧ ¬ G B ∧ Owns W w.heap.size v (txt (pre.map Prod.snd)) ∧ (∀ g, v.ownBlock = some g → ¬ G g ∧ g ≠ Bx ∧ g ≠ B) ∧ (∀ k, G k → m ≤ k ∧ k < W.heap.size) ∧ w.heap.size ≤ B ∧ B < m ∧ Bx < m ∧ m ≤ W.heap.size ∧ Below w.heap.size w W
theorem TxtI.abides {w : World} {B Bx m : Nat} : AbidesG m (TxtI w B Bx m) := by
  rintro s G G' A W row ⟨v, h1, h2, h7, h8, h3, h9, h4, h10, h5, h6⟩ hg hr hG
  have hs := hg.size
  refine ⟨v, h1.kept hg (fun e => ?_), fun h => ?_, World.ownsRow.kept h7 hg ?_, fun g hv => ⟨fun h => ?_, (h8 g hv).2⟩, fun k h => ?_, h9, h4, h10, by omega, h6.grown hg (by omega) (fun k e => ?_)⟩
  · rcases hr B e.symm with h | ⟨h, _⟩
    · exact h2 h
    · omega
  · rcases hG B h with h | h
    · exact h2 h
    · omega
  · cases hv : v.ownBlock with
    | none => exact .inl rfl
    | some g =>
      refine .inr fun e => ?_
      rcases hr g e.symm with h | ⟨_, o, ho, hc⟩
      · exact (h8 g hv).1 h
      · rcases h7.2 with ⟨rfl, _⟩ | ⟨g', cap, cur, rfl, _, hh, _⟩
        · cases hv
        · obtain rfl : g' = g := by simpa [Value.ownBlock] using hv
          rw [hh] at ho; cases ho; cases hc
  · have := (h7.lt g hv).2
    rcases hG g h with h | h
    · exact (h8 g hv).1 h
    · omega
  · rcases hG k h with h | h
    · have := h3 k h; omega
    · omega
  · rcases hr k e with h | ⟨h, _⟩
    · have := h3 k h; omega
    · omega

/-- A round that appends. -/
theorem TxtI.put {w W W2 : World} {B Bx m : Nat} {pre : List Pt} {x : Pt} {G : Nat → Prop} {a : Act} {v v' : Value} (hv : Boxed W B 81 v) (hnG : ¬ G B) (hO : Owns W w.heap.size v (txt (pre.map Prod.snd)))
    (h8 : ∀ g, v.ownBlock = some g → ¬ G g ∧ g ≠ Bx ∧ g ≠ B) (h3 : ∀ k, G k → m ≤ k ∧ k < W.heap.size) (h9 : w.heap.size ≤ B) (h4 : B < m) (h10 : Bx < m) (h5 : m ≤ W.heap.size) (h6 : Below w.heap.size w W)
    (hBB : B ≠ Bx) (hx : 1 < x.2.length) (hO2 : Owns W2 w.heap.size v' (txt (pre.map Prod.snd) ++ cycText x.2)) (hT : AppTo W W2 v v') :
    postG (fun k => k < w.heap.size ∨ k = Bx) G (TxtI w B Bx m) (pre ++ [x]) W .normal a (W2.setCell ⟨B, 0, none⟩ v') := by
  have hs := hT.1.size
  have hz : (W2.setCell ⟨B, 0, none⟩ v').heap.size = W2.heap.size := by simp [World.setCell]
  have hrow : ∀ r, v.ownBlock = some r → w.heap.size ≤ r := fun r e => (hO.lt r e).1
  have hv2 : Boxed W2 B 81 v := hv.kept hT.1 (fun e => (h8 B e.symm).2.2 rfl)
  have h8' : ∀ g, v'.ownBlock = some g → ¬ G g ∧ g ≠ Bx ∧ g ≠ B := fun g e => by
    rcases hT.2 with h | ⟨g', h, hg'⟩
    · exact h8 g (h ▸ e)
    · rw [h] at e
      have e : g' = g := by injection e
      subst e
      refine ⟨fun hG => ?_, by omega, by omega⟩
      have := h3 _ hG; omega
  refine ⟨?_, v', hv2.set v', hnG, ?_, h8', fun k h => by rw [hz]; have := h3 k h; omega, h9, h4, h10, by rw [hz]; omega, ?_⟩
  · refine KeepG.box (B := W2) ((KeepG.refl _ _ W).grown hT.1 (fun r e => ⟨fun h => ?_, (h8 r e).1, fun o ho => ?_⟩)) hv2 (fun h => by rcases h with h | h <;> omega) hnG _
    · have := hrow r e
      have := (h8 r e).2.1
      rcases h with h | h <;> omega
    · rcases hO.2 with ⟨rfl, _⟩ | ⟨g', cap, cur, rfl, _, hh, _⟩
      · cases e
      · obtain rfl : g' = r := by simpa [Value.ownBlock] using e
        rw [hh] at ho; cases ho; rfl
  · rw [List.map_append, List.map_cons, List.map_nil, txt_snoc, if_pos hx]
    refine World.ownsRow.kept hO2 (grownBy_setCell' W2 B v') ?_
    cases hv' : v'.ownBlock with
    | none => exact .inl rfl
    | some g => exact .inr fun e => (h8' g hv').2.2 (by injection e)
  · exact (h6.grown hT.1 (by omega) hrow).setCell (p := ⟨B, 0, none⟩) h9 _

/-- A round that appends nothing. -/
theorem TxtI.skip {w W : World} {B Bx m : Nat} {pre : List Pt} {x : Pt} {G K0 : Nat → Prop} {a : Act} (h : TxtI w B Bx m pre G W) (hx : ¬ 1 < x.2.length) : postG K0 G (TxtI w B Bx m) (pre ++ [x]) W .normal a W := by
  obtain ⟨v, h1, h2, h7, h⟩ := h
  exact ⟨KeepG.refl _ _ _, v, h1, h2, by rw [List.map_append, List.map_cons, List.map_nil, txt_snoc, if_neg hx, List.append_nil]; exact h7, h⟩

/-- What a function that returns a text and an error has returned. -/
def StrErr (x : Int) (s : List UInt8) (w : World) (e : Ending) (w' : World) : Prop :=
  e = .returned (.tuple #[.string ⟨s.toArray⟩, .int .i64 x]) ∧ Below w.heap.size w w'

def textOk (zs : List Int) : List UInt8 := if txt (cycs zs) = [] then [40, 41] else txt (cycs zs)

set_option maxRecDepth 100000 in
set_option maxHeartbeats 1000000 in
theorem Text_ok (b o c : Nat) (zs : List Int) (w : World) (hz : chk zs = 0) (hb : b < w.heap.size)
    (hc : ∀ j, j < zs.length → w.cell? ⟨b, o + j, none⟩ = some (.int .i64 (zs.getD j 0))) :
    Calls Tryd.prog 26 #[.slice (some ⟨b, o, none⟩) zs.length c] w (StrErr 0 (textOk zs) w) := by
  have hv : Ints w w.heap.size (.slice (some ⟨b, o, none⟩) zs.length c) zs := ⟨_, c, rfl, fun _ => ⟨b, o, rfl, hb, hc⟩⟩
  obtain ⟨h1, h64, hf⟩ := chk_zero hz
  have HV := Lib.hid hv
  have HF := Lib.hid hf
  have HZ := Lib.hid hz
  clear hv hf hz
  refine (callsIn_wide (n := 3)).1 ?_
  refine callsIn_of_wp_marks Tryd.func26 rfl trivial ?_ rfl
  simp only [Tryd.ntmps26, List.size_toArray, List.length_cons, List.length_nil, Nat.reduceAdd, Nat.reduceSub, Array.replicate_succ, Array.replicate_zero, List.push_toArray, List.append_toArray, List.nil_append, List.cons_append]
  gi_wp2_with fail
  refine ⟨trivial, (callsIn_wide.2 (checks_one w.heap.size _ zs _ (by omega) (by simp) (by simp) ((HV.out.alloc (Nat.le_refl _) _).more (by simp)))).mono ?_⟩
  rw [HZ.out]
  rintro e w1 ⟨rfl, hb1⟩
  have HB := Lib.hid (((Below.refl _ w).alloc (Nat.le_refl _) _).trans (hb1.mono (by simp)))
  clear hb1
  gi_wp2_with fail
  refine ⟨trivial, (cycles_in Fence.wide 2 trivial rfl _ _ _ _).mono ?_⟩
  rintro e w2 ⟨rfl, rfl⟩
  gi_wp2_with fail
  have hb1s := HB.out.size
  have hW2 : ((w1.alloc (.cells #[.slice none 0 0] 81)).alloc (.cells #[.slice (some ⟨b, o, none⟩) zs.length c] 24)).heap.size = w1.heap.size + 2 := by simp
  have hB2 : Below w.heap.size w ((w1.alloc (.cells #[.slice none 0 0] 81)).alloc (.cells #[.slice (some ⟨b, o, none⟩) zs.length c] 24)) := (HB.out.alloc hb1s _).alloc (by simp; omega) _
  have hbx : Boxed ((w1.alloc (.cells #[.slice none 0 0] 81)).alloc (.cells #[.slice (some ⟨b, o, none⟩) zs.length c] 24)) (w1.heap.size + 1) 24 (.slice (some ⟨b, o, none⟩) zs.length c) := by
    have := Boxed.new (w1.alloc (.cells #[.slice none 0 0] 81)) 24 (.slice (some ⟨b, o, none⟩) zs.length c)
    rwa [World.size_alloc] at this
  have hbo : Boxed ((w1.alloc (.cells #[.slice none 0 0] 81)).alloc (.cells #[.slice (some ⟨b, o, none⟩) zs.length c] 24)) w1.heap.size 81 (.slice none 0 0) := (Boxed.new w1 81 (.slice none 0 0)).alloc _
  have hc2 : ∀ j, j < zs.length → ((w1.alloc (.cells #[.slice none 0 0] 81)).alloc (.cells #[.slice (some ⟨b, o, none⟩) zs.length c] 24)).cell? ⟨b, o + j, none⟩ = some (.int .i64 (zs.getD j 0)) := fun j hj => (hB2.cell (p := ⟨b, o + j, none⟩) hb).trans (hc j hj)
  refine wpIn_rangeG rfl (by omega) (gf := 82) (lb := #[.pointer (some ⟨w1.heap.size + 1, 0, none⟩)]) rfl trivial (enters_of Tryd.func82 (by kernel_rfl) rfl)
    (iter_seq Fence.wide 2 trivial rfl (by omega) (w1.heap.size + 1) b o c zs (fun k => k < w.heap.size ∨ k = w1.heap.size + 1) HF.out h64 _ ⟨by omega, by omega⟩ (.inr rfl) (.inl hb) hbx hc2)
    (fun _ => rfl) Hand.putObj (TxtI w w1.heap.size (w1.heap.size + 1) (w1.heap.size + 2)) (by rw [hW2]; exact TxtI.abides)
    ⟨_, hbo, id, World.ownsRow_nil _ _ _ _, fun g e => by simp [Value.ownBlock] at e, fun k h => h.elim, by omega, by omega, by omega, by omega, hB2⟩
    (fun x => { tmps := #[.slice (some ⟨b, o, none⟩) zs.length c, undef, .string ⟨#[]⟩, .int .i64 0, .int .i64 0, .pointer (some ⟨w1.heap.size, 0, none⟩), x.1, .slice (some ⟨b, o, none⟩) zs.length c, .slice (some ⟨w.heap.size, 0, none⟩) 1 1, .int .i64 0, .int .i64 0, .bool false, undef, .slice (some ⟨b, o, none⟩) zs.length c, .func (.func 82) #[] #[.pointer (some ⟨w1.heap.size + 1, 0, none⟩)], x.1, undef, undef, undef, undef, undef, undef, undef, undef, undef, undef, undef], defers := [] }) ?assign ?body ?done
  case assign =>
    intro l x W K hK
    gi_wp2
    exact hK
  case body =>
    rintro l pre ⟨vc, cl⟩ G W hI hH
    obtain ⟨hcl, hlen, hsum, hpos, hin⟩ := hH.facts h64
    obtain ⟨⟨hvi, hvt⟩, _⟩ := hH
    dsimp only at hvi hvt
    obtain ⟨bc, oc, cc, hvv, hbc, hcc⟩ := hvi.at_ (by omega)
    obtain ⟨cur, hcur⟩ := hvt _ _ _ _ hvv
    subst hvv
    have HI := Lib.hid hI
    obtain ⟨v, hv, hnG, hO, h8, h3, h9, h4, h10, h5, h6⟩ := hI
    have htl := txt_len (pre.map Prod.snd) hpos
    have hbv := hv.cell
    have hbf := hv.frozen
    have hne : some bc ≠ v.ownBlock := by
      intro e
      rcases hO.2 with ⟨rfl, _⟩ | ⟨g', cap, cur', rfl, _, hh, _⟩
      · cases e
      · obtain rfl : bc = g' := by simpa [Value.ownBlock] using e
        rw [hh] at hcur; cases hcur
    have HC := Lib.hid (appendCycle_any w.heap.size v (txt (pre.map Prod.snd)) cl bc oc cc W hO (by omega) (by omega) hlen (fun x hx => by have := hin x hx; omega) hne hcc)
    have HP := fun W2 v' hx hO2 hT => Lib.hid (TxtI.put (W2 := W2) (v' := v') (x := (Value.slice (some ⟨bc, oc, none⟩) cl.length cc, cl)) (a := ⟨#[], []⟩) hv hnG hO h8 h3 h9 h4 h10 h5 h6 (by omega) hx hO2 hT)
    have hmix : Tryd.prog.follows .mixedOrders = true := by kernel_rfl
    have hs2 : ∀ W2 v', AppTo W W2 v v' → Boxed W2 w1.heap.size 81 v := fun W2 v' hT => hv.kept hT.1 (fun e => (h8 _ e.symm).2.2 rfl)
    clear hc hc2 hbx hbo hB2 hW2
    dsimp only
    by_cases h1c : 1 < cl.length
    · gi_wp2_with fail
      refine ⟨trivial, (CallsIn.inRound l (callsIn_wide.2 HC.out)).mono ?_⟩
      rintro e W2 ⟨v', rfl, hO2, hT⟩
      have hb2 := (hs2 W2 v' hT).cell
      have hf2 := (hs2 W2 v' hT).frozen
      have HP2 := HP W2 v' h1c hO2 hT
      have hform : ∃ A n c, v' = .slice A n c := by
        rcases hO2.2 with ⟨rfl, _⟩ | ⟨g', cap, cur', rfl, _⟩
        · exact ⟨_, _, _, rfl⟩
        · exact ⟨_, _, _, rfl⟩
      obtain ⟨A', n', c', rfl⟩ := hform
      clear HP HC hs2 hO2 hT
      gi_wp2
      exact HP2.out
    · have HS := fun a => Lib.hid (TxtI.skip (K0 := fun k => k < w.heap.size ∨ k = w1.heap.size + 1) (x := (Value.slice (some ⟨bc, oc, none⟩) cl.length cc, cl)) (a := a) HI.out h1c)
      clear HP HC hs2
      gi_wp2
      exact (HS ⟨#[], []⟩).out
  case done =>
    rintro D xs G W hD hS hI hK
    obtain ⟨v, hv, hnG, hO, h8, h3, h9, h4, h10, h5, h6⟩ := hI
    rw [show xs.map Prod.snd = cycs zs from hS] at hO
    have hbc := hv.cell
    by_cases ht : txt (cycs zs) = []
    · have HT := Lib.hid (show textOk zs = [40, 41] by unfold textOk; rw [if_pos ht])
      have hform : ∃ A c, v = .slice A 0 c := by
        rw [ht] at hO
        rcases hO.2 with ⟨rfl, _⟩ | ⟨g', cap, cur', rfl, _⟩
        · exact ⟨_, _, rfl⟩
        · exact ⟨_, _, rfl⟩
      obtain ⟨A', c', rfl⟩ := hform
      clear hS h3 hc hc2 hbx hbo hO h8 ht
      gi_wp2
      refine ⟨by simp, .inl ⟨_, _, rfl, run_takeDeferred hK, ?_⟩⟩
      exact ⟨_, results_tmp2 rfl _ _ _, by rw [HT.out]; rfl, h6.trans (belowK_b (w := w) (Nat.le_refl _) W D _ _ (by omega) hK rfl rfl)⟩
    · have HT := Lib.hid (show textOk zs = txt (cycs zs) by unfold textOk; rw [if_neg ht])
      have hform : ∃ g cap, v = .slice (some ⟨g, 0, none⟩) (txt (cycs zs)).length cap := by
        rcases hO.2 with ⟨rfl, h0⟩ | ⟨g', cap, cur', rfl, _⟩
        · exact absurd (List.eq_nil_of_length_eq_zero h0) ht
        · exact ⟨_, _, rfl⟩
      obtain ⟨g, cap, rfl⟩ := hform
      have hcell : ∀ j (hj : j < (txt (cycs zs)).length), W.cell? ((⟨g, 0, none⟩ : Addr).add j) = some (.int .u8 (((txt (cycs zs))[j]'hj).toNat : Int)) := fun j hj =>
        hO.cells (g := g) rfl j _ (by simp [bcells, hj])
      have hcv := run_convert_bytes_back (P := Tryd.prog) W 81 9 5 ⟨g, 0, none⟩ cap (txt (cycs zs)) Tryd.underlying81 Tryd.underlying5 Tryd.underlying9 hcell
      have hl0 : ¬ (txt (cycs zs)).length = 0 := fun h => ht (List.eq_nil_of_length_eq_zero h)
      clear hS h3 hc hc2 hbx hbo hO h8 ht hcell
      generalize txt (cycs zs) = tx at HT hcv hl0 hv hbc
      have hl1 : ((tx.length : Int) == 0) = false := by simpa using hl0
      gi_wp2
      refine ⟨by simp, .inl ⟨_, _, rfl, run_takeDeferred hK, ?_⟩⟩
      exact ⟨_, results_tmp2 rfl _ _ _, by rw [HT.out]; rfl, h6.trans (belowK_b (w := w) (Nat.le_refl _) W D _ _ (by omega) hK rfl rfl)⟩
end Go.Proofs.YtpchomhfpfpckaaDoor
