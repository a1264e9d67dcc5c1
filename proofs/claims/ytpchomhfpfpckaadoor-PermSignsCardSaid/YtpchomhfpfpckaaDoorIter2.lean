/- perm.cycles: .. and what it hands over it leaves alone from then on. -/
import Derived.Test.YtpchomhfpfpckaaDoorIter
import Derived.Test.YtpchomhfpfpckaaDoorRange2
namespace Go.Proofs.YtpchomhfpfpckaaDoor
open Go Go.RowKit

theorem OutAt.yieldD {J : List Pt → (Nat → Prop) → World → Prop} {zs : List Int} {T Bx b o c m : Nat} {L : List Int} {pre : List Pt} {G : Nat → Prop} {wr w' : World} {K0 : Nat → Prop} (h : OutAt J zs T Bx b o c m L pre G wr) {x : Pt} (hT : ¬ x.1.ownBlock = some T)
    (hJ' : J (pre ++ [x]) (fun k => G k ∧ ¬ x.1.ownBlock = some k) w') (hs : wr.heap.size ≤ w'.heap.size)
    (hk : ∀ (k : Nat) (o : Obj), wr.heap[k]? = some o → o.isCells = true → (K0 k ∨ G k) → w'.heap[k]? = some o) (hKB : K0 Bx) (hKb : K0 b) : OutAt J zs T Bx b o c m L (pre ++ [x]) (fun k => G k ∧ ¬ x.1.ownBlock = some k) w' := by
  refine ⟨hJ', hk T _ h.t rfl (.inr h.gt), ⟨h.gt, hT⟩, fun g hG => by have := h.gs g hG.1; omega, hk Bx _ h.bx rfl (.inl hKB), fun j hj => ?_, h.lo.1, h.lo.2.1, by have := h.lo; omega⟩
  obtain ⟨ob, ho, hoc⟩ := cells_of_cell (h.ce j hj)
  exact (World.cell?_of_block (a := ⟨b, o + j, none⟩) ((hk b ob ho hoc (.inl hKb)).trans ho.symm)).trans (h.ce j hj)

set_option maxRecDepth 100000 in
set_option maxHeartbeats 1000000 in
theorem iter_seqD (F : Fence) (n : Nat) (h82 : F.fn 82) (hro : F.round = none) (hn : 1 ≤ n) (Bx b o c : Nat) (zs : List Int) (K0 : Nat → Prop) (hf : Fine zs) (h64 : zs.length ≤ 64) (w : World)
    (hlo : Bx < w.heap.size ∧ b < w.heap.size) (hKB : K0 Bx) (hKb : K0 b) (hbox : Boxed w Bx 24 (.slice (some ⟨b, o, none⟩) zs.length c))
    (hc : ∀ j, j < zs.length → w.cell? ⟨b, o + j, none⟩ = some (.int .i64 (zs.getD j 0))) :
    SeqGD F n Tryd.prog 82 #[.pointer (some ⟨Bx, 0, none⟩)] (fun x : Pt => #[x.1]) K0 (Hand zs) (fun xs => xs.map Prod.snd = cycs zs) (fun x k => x.1.ownBlock = some k) w := by
  intro l J W hW hJ hY h0
  have hbW : Boxed W Bx 24 (.slice (some ⟨b, o, none⟩) zs.length c) := (hW.block Bx hlo.1).trans hbox
  have hcW : ∀ j, j < zs.length → W.cell? ⟨b, o + j, none⟩ = some (.int .i64 (zs.getD j 0)) := fun j hj => (hW.cell (p := ⟨b, o + j, none⟩) hlo.2).trans (hc j hj)
  have hst : OutAt J zs W.heap.size Bx b o c W.heap.size [] [] (fun k => k = W.heap.size) (W.alloc (.cells (marksL []) 84)) := by
    have hs := hW.size
    refine ⟨hJ _ _ _ _ _ _ h0 (World.grownBy_alloc W _ none) (fun r e => by cases e) (fun k h => .inr ⟨by omega, by simp; omega⟩), Row.new _ _ _, rfl, fun g e => ⟨by omega, by simp; omega⟩, hbW.alloc _, ?_, by omega, by omega, by simp⟩
    intro j hj
    rw [World.cell?_alloc_lt _ _ _ (by simp; omega)]
    exact hcW j hj
  rw [marksL_nil] at hst
  have HST := Lib.hid hst
  have HY := Lib.hid hY
  have hbc := hbW.cell
  have hBxW : Bx < W.heap.size := by have := hW.size; omega
  obtain ⟨i0, hi0, hz0, hz1, hz2⟩ := info_parts info3
  have hnn := fun (w : World) (a : Option Addr) (n c n' c' : Nat) => run_neq_slice_nil_any (P := Tryd.prog) w 23 3 a n c n' c' (by kernel_rfl)
  clear hst hY hbW hcW hbox hc h0
  refine callsIn_of_wp Tryd.func82 rfl h82 ?_ hro
  simp only [Tryd.ntmps82, List.size_toArray, List.length_cons, List.length_nil, Nat.reduceAdd, Nat.reduceSub, Array.replicate_succ, Array.replicate_zero, List.push_toArray, List.append_toArray, List.nil_append, List.cons_append]
  gi_wp2
  gi_loopw [9] (fun i wr => ∃ (k : Nat) (pre : List Pt) (G : Nat → Prop), i = .int .i64 k ∧ k ≤ zs.length ∧ pre.map Prod.snd = (upTo zs k).2 ∧ SeenOk zs k ∧ OutAt J zs W.heap.size Bx b o c W.heap.size (upTo zs k).1 pre G wr)
    (fun i _ => zs.length - (intOf i).toNat)
  case atStart => exact ⟨0, [], _, rfl, Nat.zero_le _, rfl, SeenOk.zero zs, HST.out⟩
  case round =>
    obtain ⟨k, pre, G, rfl, hk, hpre, hso, hO⟩ := hrel
    by_cases hlt : k < zs.length
    · have hA0 := AtCyc.start (upTo zs k).1 hlt
      have HS0 := Lib.hid hso.none_
      have HS1 := fun c => Lib.hid (@SeenOk.some_ zs k c hso)
      have HU0 := Lib.hid (@upTo_none zs k)
      have HU1 := Lib.hid (@upTo_some zs k)
      have HP := Lib.hid hpre
      have hsz := hO.lo.2.2
      have hI0 : InAt J zs W.heap.size Bx b o c W.heap.size (upTo zs k).1 k pre (.slice none 0 0) k [] G wr :=
        ⟨hA0, by simpa using hO, World.ownsRow_nil _ _ _ _, fun g e => by simp [Value.ownBlock] at e, fun _ => rfl⟩
      have HI0 := Lib.hid hI0
      obtain ⟨wo, rfl⟩ : ∃ wo : World, wo = wr := ⟨_, rfl⟩
      clear hA0 hso hpre hO hI0 hbc
      generalize hL : (upTo zs k).1 = L at HI0 HS0 HS1 HU0 HU1
      have HLL := Lib.hid hL
      clear hL
      gi_wp2
      gi_loopw [5, 6] (fun v5 v6 wr => ∃ (i : Nat) (cl : List Int) (G : Nat → Prop), v6 = .int .i64 i ∧ InAt J zs W.heap.size Bx b o c W.heap.size L k pre v5 i cl G wr) (fun v5 _ _ => 65 - lenOf v5)
      case atStart => exact ⟨k, [], G, rfl, HI0.out⟩
      case round =>
        obtain ⟨i, cl, G, rfl, hIn⟩ := hrel
        by_cases hi : (i : Int) ∈ L ++ cl
        · obtain ⟨hA, hO, hr, hb, hn'⟩ := hIn
          obtain ⟨hw, hfr, hin⟩ := hA.done hi
          have hlen := hA.len
          have hil : i < zs.length := by have := hA.2.1; omega
          have hcm := hO.t.cell (marksL_get (L ++ cl) i (by omega))
          rw [decide_eq_true hi] at hcm
          have hfm := hO.t.frozen i
          by_cases hcl : cl = []
          · obtain rfl := hn' hcl
            subst hcl
            have HE := Lib.hid (HU0.out hw)
            have HS := Lib.hid (HS0.out hw)
            have HO := Lib.hid hO
            clear hA hO hr hb hn' hi hw hfr hin
            gi_wp2
            refine ⟨(fun f h => by cases h), ?_⟩
            gi_wp2
            go_roundw
            case rel => exact ⟨k + 1, pre, G, by go_num, by omega, by rw [HE.out]; exact HP.out, HS.out, by rw [HE.out, HLL.out]; simpa using HO.out⟩
            case measure => simp [intOf]; omega
          · have hne : cl.length = (cl.length - 1) + 1 := by
              cases cl with
              | nil => exact absurd rfl hcl
              | cons a l => simp
            have hI : Ints wr wr.heap.size u5 cl := ints_of_own hr rfl
            have hE := HU1.out (by rw [hw]; exact hcl)
            rw [hw] at hE
            have hS := (HS1 cl).out hw hcl hfr
            have hH : Hand zs pre (u5, cl) wr := ⟨⟨hI, type_of_own hr⟩, hcl, hin, k, hlt, hS, HP.out.symm, by rw [hE]; simp [HP.out]⟩
            obtain ⟨fn, tmps, assign, body, hy, hR⟩ := HY.out pre (u5, cl) G wr hO.j hH
            dsimp only at hy
            have HR := Lib.hid hR
            have HE := Lib.hid hE
            have HS := Lib.hid hS
            have HO := Lib.hid hO
            have HTT := Lib.hid (fun e => (hb _ e).2 rfl)
            have hform : ∃ g cap, u5 = .slice (some ⟨g, 0, none⟩) cl.length cap := by
              have h' := hr
              rw [hne] at h'
              obtain ⟨g, cap, e⟩ := ownsRow_succ h'
              exact ⟨g, cap, by rw [e, ← hne]⟩
            obtain ⟨g, cap, rfl⟩ := hform
            clear hA hO hr hb hn' hi hw hfr hin hI hE hS hH hR hcl hne
            gi_wp2
            refine HR.out.mono ?_
            rintro e W' ⟨rfl, hJ', hs', hk'⟩
            have HO2 := Lib.hid (HO.out.yieldD HTT.out hJ' hs' hk' hKB hKb)
            clear hJ' hk'
            gi_wp2
            go_roundw
            case rel => exact ⟨k + 1, pre ++ [(_, cl)], _, by go_num, by omega, by rw [HE.out]; simp [HP.out], HS.out, by rw [HE.out]; exact HO2.out⟩
            case measure => simp [intOf]; omega
        · have hIs := Lib.hid hIn
          obtain ⟨hA, hO, hr, hb, hn'⟩ := hIn
          have hlen := hA.len
          have hil : i < zs.length := by have := hA.2.1; omega
          have hcm := hO.t.cell (marksL_get (L ++ cl) i (by omega))
          rw [decide_eq_false hi] at hcm
          have hfm := hO.t.frozen i
          have hTlt := hO.t.lt
          have hmsz := hO.lo.2.2
          have hown := hr.kept (row := some W.heap.size) (w' := wr.setCell ⟨W.heap.size, i, none⟩ (.bool true)) ⟨rfl, rfl, rfl, (KeepsWalks.setCell wr _ _).size, fun k _ hk => Below.heap_setCell _ _ _ k (fun e => hk (by rw [e]))⟩
            (by cases e : u5.ownBlock with
              | none => exact .inl rfl
              | some g => exact .inr (fun e' => (hb g e).2 (by injection e')))
          have HN := Lib.hid hi
          have HL := Lib.hid (lenOf_own hr)
          clear hA hO hr hb hn' hi
          gi_wp2_with (gi_at_builtin; refine wpListIn_append_at _ rfl _ _ 23 rfl W.heap.size 3 i0 (.int .i64 0) 1 8 Tryd.underlying23 hi0 hz0 hz1 hz2 rfl (by decide) _ _ _ rfl (hown.alloc _) ⟨wr.heap.size, 0, none⟩ 1 1 [.int .i64 (i : Int)] rfl rfl (cell_at0 _ _ _ (by simp)) (by simp [Value.oneCell']) (by unfold maxLen; omega) (by omega) (by simp; omega) ?_; intro v' w3 hown' hgrow hat'; obtain ⟨hx1, hx2, hx3, hx4, G', hx5⟩ := InAt.step hJ hf h64 hIs.out HN.out hgrow hown' hat'; have HX5 := Lib.hid hx5; have HL' := Lib.hid (lenOf_own hown'); clear hown hown' hgrow hat' hx5)
          go_roundw
          case rel => exact ⟨_, _, G', by rw [Int.toNat_of_nonneg hx3]; simp [List.getD_eq_getElem?_getD, hil], HX5.out⟩
          case measure => rw [HL'.out, HL.out]; omega
    · have hJk := hO.j
      have HP := Lib.hid hpre
      have hkk : k = zs.length := by omega
      have HK := Lib.hid hkk
      have HJ := Lib.hid hJk
      clear hO hbc hpre hso hkk hJk
      gi_wp2
      go_end0
      exact ⟨⟨_, rfl⟩, pre, G, by rw [HP.out, HK.out]; rfl, HJ.out⟩
end Go.Proofs.YtpchomhfpfpckaaDoor
