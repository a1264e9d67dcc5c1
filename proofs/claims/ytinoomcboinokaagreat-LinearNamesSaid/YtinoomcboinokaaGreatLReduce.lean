/- linear.elimination.reduce. -/
import Derived.Test.YtinoomcboinokaaGreatLinA
import Derived.Test.YtinoomcboinokaaGreatLCollect
import Derived.Deep.RegionHeld
namespace Go.Proofs.YtinoomcboinokaaGreat
open Go Go.RowKit Go.Shelf Num
attribute [local go_sem] Oper.semAt_some

/-- The value of a row. -/
def rowVal (L : Nat) (g c : Nat → Nat) (j : Nat) : Value := .slice (some ⟨g j, 0, none⟩) L (c j)
/-- An elimination in memory. -/
structure EL (w : World) (p : Int) (W L N eb mb : Nat) (R : Nat → Option (Nat → Int)) (g c : Nat → Nat) : Prop where
  mp : EMap w p W eb mb N (pivL W R) (rowVal L g c)
  row : ∀ j r, R j = some r → RowI w (g j) L r ∧ L ≤ c j ∧ g j ≠ eb
  inj : ∀ i j, (R i).isSome → (R j).isSome → g i = g j → i = j
theorem EL.below {w w' : World} {p : Int} {W L N eb mb : Nat} {R : Nat → Option (Nat → Int)} {g c : Nat → Nat} (h : EL w p W L N eb mb R g c) (hb : Below w.heap.size w w') : EL w' p W L N eb mb R g c :=
  ⟨h.mp.below hb, fun j r hr => ⟨(h.row j r hr).1.turn (S := fun _ => False) (Turn.below hb) id, (h.row j r hr).2⟩, h.inj⟩
theorem EL.lt {w : World} {p : Int} {W L N eb mb : Nat} {R : Nat → Option (Nat → Int)} {g c : Nat → Nat} (h : EL w p W L N eb mb R g c) : eb < w.heap.size ∧ mb < w.heap.size ∧ ∀ j r, R j = some r → g j < w.heap.size := by
  obtain ⟨h1, D, h2, h3⟩ := h.mp
  exact ⟨h1.lt, h2.lt, fun j r hr => (h.row j r hr).1.lt⟩
theorem EL.mod {w : World} {p : Int} {W L N eb mb : Nat} {R : Nat → Option (Nat → Int)} {g c : Nat → Nat} (h : EL w p W L N eb mb R g c) : w.cell? ⟨eb, 0, none⟩ = some (.int .i64 p) := h.mp.1.cell rfl
/-- Between two pivots. -/
structure ReI (w : World) (p : Int) (W L eb : Nat) (R : Nat → Option (Nat → Int)) (f : Nat → Int) (rb gr cr pb : Nat) (k : Nat) (X : World) : Prop where
  be : Below w.heap.size w X
  sb : Boxed X w.heap.size 65 (.pointer (some ⟨eb, 0, none⟩))
  rb : Boxed X rb 22 (.slice (some ⟨gr, 0, none⟩) L cr)
  pb : Boxed X pb 65 (.pointer (some ⟨eb, 0, none⟩))
  row : RowI X gr L (redP p W R f k)
theorem ReI.turn {S : Nat → Prop} {w : World} {p : Int} {W L eb : Nat} {R : Nat → Option (Nat → Int)} {f : Nat → Int} {rb gr cr pb : Nat} {k : Nat} {X Y : World} (h : ReI w p W L eb R f rb gr cr pb k X) (ht : Turn S X Y) (h0 : ∀ q, S q → w.heap.size < q) (h1 : ¬ S rb) (h2 : ¬ S pb) (h3 : ¬ S gr) : ReI w p W L eb R f rb gr cr pb k Y :=
  ⟨h.be.trans (ht.to_below h.be.size fun q hq => Nat.le_of_lt (h0 q hq)), ht.keep h.sb (fun hs => by have := h0 _ hs; omega), ht.keep h.rb h1, ht.keep h.pb h2, h.row.turn ht h3⟩
theorem ReI.put {w : World} {p : Int} {W L eb : Nat} {R : Nat → Option (Nat → Int)} {f : Nat → Int} {rb gr cr pb : Nat} {k : Nat} {X : World} (h : ReI w p W L eb R f rb gr cr pb k X) {l : Nat} {o : Obj} (hl : X.heap[l]? = some o) (hc : o.isCells = false) (h0 : w.heap.size < l) (o' : Obj) : ReI w p W L eb R f rb gr cr pb k (X.putObj l o') := by
  have ne : ∀ q (o2 : Obj), X.heap[q]? = some o2 → o2.isCells = true → q ≠ l := fun q o2 h1 h2 e => by subst e; rw [hl] at h1; cases h1; rw [hc] at h2; cases h2
  obtain ⟨cs, hr, _⟩ := h.row
  refine h.turn (S := (· = l)) ⟨rfl, rfl, rfl, by simp, fun q _ hq => World.putObj_heap_other hq⟩ (fun q hq => by rw [hq]; exact h0) (ne _ _ h.rb rfl) (ne _ _ h.pb rfl) (ne _ _ hr rfl)

set_option maxRecDepth 100000 in
set_option maxHeartbeats 4000000 in
theorem reduce_any (p : Int) (W L N eb mb : Nat) (R : Nat → Option (Nat → Int)) (g c : Nat → Nat) (f : Nat → Int) (v : Value) (w : World) (hp : P6 p.toNat) (hp0 : 2 ≤ p) (hp1 : p ≤ 10000) (hWL : W ≤ L) (hL0 : 1 ≤ L) (hL : L ≤ 1000) (hN : N ≤ 1000000) (hE : Ech p W R)
    (h : EL w p W L N eb mb R g c) (hv : Vec w (· < w.heap.size) v L f) :
    Calls Tryz.prog 38 #[.pointer (some ⟨eb, 0, none⟩), v] w (GivesR w L (redK p R f W)) := by
  obtain ⟨bv, ov, cv, rfl, hcv, hbv, hvc⟩ := hv.at_ hL0
  obtain ⟨heb, hmb, hgl⟩ := h.lt
  have hmod := h.mod
  refine (callsIn_wide (n := 9)).1 ?_
  refine callsIn_of_wp_marks Tryz.func38 rfl trivial ?_ rfl
  simp only [Tryz.ntmps38, List.size_toArray, List.length_cons, List.length_nil, Nat.reduceAdd, Nat.reduceSub, Array.replicate_succ, Array.replicate_zero, List.push_toArray, List.append_toArray, List.nil_append, List.cons_append]
  have H := Lib.hid h
  have HV := Lib.hid hvc
  have HGL := Lib.hid hgl
  clear h hvc hgl hv
  gi_wp2
  refine ⟨trivial, (eachI_in Fence.wide 8 trivial rfl _ _ _ _ _ _).mono ?_⟩
  rintro e w' ⟨rfl, rfl⟩
  gi_wp2
  have HC := Lib.hid (fun (W1 : World) (Lb Fb : Nat) (hb : Below w.heap.size w W1) (h1 : W1.cell? ⟨Lb, 0, none⟩ = some (.slice (some ⟨bv, ov, none⟩) L cv)) (h2 : W1.cell? ⟨Fb, 0, none⟩ = some (.func (.func 30) #[.int .i64 p] #[])) (h3 : Lb < W1.heap.size) (h4 : Fb < W1.heap.size) =>
    collectRes_any p hp (by omega) Lb Fb L cv (some ⟨bv, ov, none⟩) f W1 (by omega) h1 h2 h3 h4 fun _ => ⟨bv, ov, rfl, Nat.lt_of_lt_of_le hbv hb.size, fun j hj => (hb.cell (p := ⟨bv, ov + j, none⟩) hbv).trans (HV.out j hj)⟩)
  have hb3 : Below w.heap.size w (((w.alloc (.cells #[.pointer (some ⟨eb, 0, none⟩)] 65)).alloc (.cells #[.slice (some ⟨bv, ov, none⟩) L cv] 22)).alloc (.cells #[.func (.func 30) #[.int .i64 p] #[]] 54)) :=
    (((Below.refl _ w).alloc (Nat.le_refl _) _).alloc (by simp) _).alloc (by simp; omega) _
  have hs3 : Boxed (((w.alloc (.cells #[.pointer (some ⟨eb, 0, none⟩)] 65)).alloc (.cells #[.slice (some ⟨bv, ov, none⟩) L cv] 22)).alloc (.cells #[.func (.func 30) #[.int .i64 p] #[]] 54)) w.heap.size 65 (.pointer (some ⟨eb, 0, none⟩)) := ((Boxed.new w _ _).alloc _).alloc _
  have hl3 : (((w.alloc (.cells #[.pointer (some ⟨eb, 0, none⟩)] 65)).alloc (.cells #[.slice (some ⟨bv, ov, none⟩) L cv] 22)).alloc (.cells #[.func (.func 30) #[.int .i64 p] #[]] 54)).cell? ⟨w.heap.size + 1, 0, none⟩ = some (.slice (some ⟨bv, ov, none⟩) L cv) := Row.cell (i := 0) ((Row.alloc (by have := Row.new (w.alloc (.cells #[.pointer (some ⟨eb, 0, none⟩)] 65)) 22 #[.slice (some ⟨bv, ov, none⟩) L cv]; rw [World.size_alloc] at this; exact this) _)) rfl
  have hf3 : (((w.alloc (.cells #[.pointer (some ⟨eb, 0, none⟩)] 65)).alloc (.cells #[.slice (some ⟨bv, ov, none⟩) L cv] 22)).alloc (.cells #[.func (.func 30) #[.int .i64 p] #[]] 54)).cell? ⟨w.heap.size + 1 + 1, 0, none⟩ = some (.func (.func 30) #[.int .i64 p] #[]) := Row.cell (i := 0) (by have := Row.new ((w.alloc (.cells #[.pointer (some ⟨eb, 0, none⟩)] 65)).alloc (.cells #[.slice (some ⟨bv, ov, none⟩) L cv] 22)) 54 #[.func (.func 30) #[.int .i64 p] #[]]; rw [World.size_alloc, World.size_alloc] at this; exact this) rfl
  have hz3 : (((w.alloc (.cells #[.pointer (some ⟨eb, 0, none⟩)] 65)).alloc (.cells #[.slice (some ⟨bv, ov, none⟩) L cv] 22)).alloc (.cells #[.func (.func 30) #[.int .i64 p] #[]] 54)).heap.size = w.heap.size + 3 := by simp
  generalize ((w.alloc (.cells #[.pointer (some ⟨eb, 0, none⟩)] 65)).alloc (.cells #[.slice (some ⟨bv, ov, none⟩) L cv] 22)).alloc (.cells #[.func (.func 30) #[.int .i64 p] #[]] 54) = w3 at hb3 hs3 hl3 hf3 hz3 ⊢
  refine ⟨trivial, (callsIn_wide.2 (HC.out w3 _ _ hb3 hl3 hf3 (by omega) (by omega))).mono ?_⟩
  rintro e w4 ⟨Ar, cr, rfl, hcr, hgr, hb4⟩
  obtain ⟨gr, rfl, hgr1, hrow⟩ := hgr hL0
  have hgr2 := hrow.lt
  have hs4 : Boxed w4 w.heap.size 65 (.pointer (some ⟨eb, 0, none⟩)) := (hb4.block _ (by omega)).trans hs3
  have hbw4 : Below w.heap.size w w4 := hb3.trans (hb4.mono (by omega))
  have hz4 := hb4.size
  have HB4 := Lib.hid hbw4
  have HS4 := Lib.hid hs4
  have HR4 := Lib.hid hrow
  clear hb3 hs3 hl3 hf3 HC hgr hb4 hs4 hbw4 hrow HV HGL
  have hsc4 : (w4.alloc (.cells #[.slice (some ⟨gr, 0, none⟩) L cr] 22)).cell? ⟨w.heap.size, 0, none⟩ = some (.pointer (some ⟨eb, 0, none⟩)) := (HS4.out.alloc _).cell
  gi_wp2
  refine ⟨trivial, (pivots_in Fence.wide 8 trivial rfl _ _).mono ?_⟩
  rintro e w5 ⟨rfl, rfl⟩
  gi_wp2
  have HI0 := Lib.hid (show ReI w p W L eb R f w4.heap.size gr cr (w4.heap.size + 1) 0 ((w4.alloc (.cells #[.slice (some ⟨gr, 0, none⟩) L cr] 22)).alloc (.cells #[.pointer (some ⟨eb, 0, none⟩)] 65)) from
    ⟨(HB4.out.alloc HB4.out.size _).alloc (by have := HB4.out.size; simp; omega) _, (HS4.out.alloc _).alloc _, (Boxed.new w4 _ _).alloc _, by have := Boxed.new (w4.alloc (.cells #[.slice (some ⟨gr, 0, none⟩) L cr] 22)) 65 (.pointer (some ⟨eb, 0, none⟩)); rw [World.size_alloc] at this; exact this,
      by rw [redP_start hE]; exact (HR4.out.turn (S := fun _ => False) ((Turn.refl _ _).alloc _) id).turn (S := fun _ => False) ((Turn.refl _ _).alloc _) id⟩)
  have hzz : ((w4.alloc (.cells #[.slice (some ⟨gr, 0, none⟩) L cr] 22)).alloc (.cells #[.pointer (some ⟨eb, 0, none⟩)] 65)).heap.size = w4.heap.size + 2 := by simp
  generalize (w4.alloc (.cells #[.slice (some ⟨gr, 0, none⟩) L cr] 22)).alloc (.cells #[.pointer (some ⟨eb, 0, none⟩)] 65) = w0 at HI0 hzz ⊢
  clear hsc4 HR4 HS4 HB4
  generalize w4.heap.size = rb at *
  refine wpIn_rangeJ rfl (by omega) (gf := 88) (lb := #[.pointer (some ⟨rb + 1, 0, none⟩)]) rfl trivial (enters_of Tryz.func88 (by kernel_rfl) rfl)
    (pivL W R).length (ReI w p W L eb R f rb gr cr (rb + 1)) (fun k x X => x = #[.int .i64 ((pivL W R).getD k 0 : Nat), rowVal L g c ((pivL W R).getD k 0)] ∧ ReI w p W L eb R f rb gr cr (rb + 1) k X) (KeepA (w0.heap.size + 2))
    (fun k X o o' h ho hc _ => h.put ho hc (by omega) o') (fun k x X o o' h ho hc _ => ⟨h.1, h.2.put ho hc (by omega) o'⟩) (fun _ _ _ h k => h.trans k)
    (fun X o o' ho _ _ => ⟨by simp, fun q o2 hq h2 => (World.putObj_heap_other (by omega)).trans h2⟩) (fun k x X h => by rw [h.1]; rfl)
    (fun o1 o2 => HI0.out.turn (S := fun _ => False) (((Turn.refl _ _).alloc _).alloc _) (fun _ h => h.elim) id id id) ?iter
    (fun x => { tmps := #[.pointer (some ⟨eb, 0, none⟩), .slice (some ⟨bv, ov, none⟩) L cv, .pointer (some ⟨w.heap.size, 0, none⟩), undef, .slice none 0 0, .pointer (some ⟨rb, 0, none⟩), x.getD 0 undef, x.getD 1 undef, .slice (some ⟨bv, ov, none⟩) L cv, .pointer (some ⟨eb, 0, none⟩), .pointer (some ⟨eb, 0, none⟩), .pointer (some ⟨eb, 0, none⟩), .int .i64 p,
      .func (.func 30) #[.int .i64 p] #[], .func (.func 87) #[] #[.pointer (some ⟨w.heap.size + 1, 0, none⟩), .pointer (some ⟨w.heap.size + 1 + 1, 0, none⟩)], .slice (some ⟨gr, 0, none⟩) L cr, .pointer (some ⟨eb, 0, none⟩), .func (.func 88) #[] #[.pointer (some ⟨rb + 1, 0, none⟩)], x.getD 0 undef, x.getD 1 undef, undef, undef, undef, undef, undef, undef, undef, undef, undef, undef, undef, undef], defers := [] }) ?assign ?body ?done
  case assign =>
    rintro l k x X K ⟨rfl, _⟩ hK
    gi_wp2
    exact hK
  case iter =>
    intro Lo W1 hLc hLw hb1 hz1 hl1 hd1 hi1 hy
    have hEL := H.out
    refine (pivots1_in 8 (by omega) (w0.heap.size + 1) (rb + 1) eb mb N W p (pivL W R) (pivL_less W R) (fun j hj => ?_) ?_ hN (rowVal L g c) (fun k X => ReI w p W L eb R f rb gr cr (rb + 1) k X ∧ X.heap[w0.heap.size + 1]? = some Lo ∧ X.heap[w0.heap.size]? = some (.deferred (some []))) W1
      (fun k X h => ⟨h.1.pb.cell, (hEL.below h.1.be).mp⟩) ⟨hi1, hl1, hd1⟩ (fun X hb => ⟨hi1.turn (S := fun _ => False) (Turn.below hb) (fun _ h => h.elim) id id id, (hb.block _ (by omega)).trans hl1, (hb.block _ (by omega)).trans hd1⟩) ?_).mono ?_
    · have := (pivL_mem hE).1 hj
      cases hR : R j with
      | none => rw [hR] at this; cases this
      | some r => have := hE.below j r hR; omega
    · have : (pivL W R).length ≤ (List.range W).length := List.length_filter_le _ _
      rw [List.length_range] at this
      omega
    · rintro k X hk ⟨hi, hl, hd⟩
      have hg : (pivL W R).getD k 0 = (pivL W R)[k] := by simp [List.getD_eq_getElem?_getD, hk]
      rw [← hg]
      exact (hy k _ X hk ⟨rfl, hi⟩ hl hd).mono fun e X3 h => ⟨h.1, ⟨h.2.1, h.2.2.2.1, h.2.2.2.2⟩, by rw [hz1]; exact h.2.2.1⟩
    · rintro e X2 ⟨hv, h⟩
      exact ⟨hv, h⟩
  case body =>
    rintro l k x X Lo hk ⟨rfl, hi⟩ hl hLc hLw hd
    have hmem := getD_mem hk
    have hsome := (pivL_mem hE).1 hmem
    obtain ⟨r, hr⟩ := Option.isSome_iff_exists.1 hsome
    have hjW := hE.below _ _ hr
    have hstep := fun i => redP_step hE f hk hr i
    obtain ⟨hrr, hrc, hne⟩ := (H.out.below hi.be).row _ _ hr
    have hgj := (H.out.row _ _ hr).1.lt
    have hlow := redP_low (p := p) (by omega) W R f k
    generalize (pivL W R).getD k 0 = j at hr hjW hstep hrr hrc hne hgj
    have hjL : j < L := by omega
    have hx := hi.row.cell hjL
    have hS := fun (X' : World) (ht : X'.heap = X.heap) => subtract_any p (redP p W R f k j) gr L cr (redP p W R f k) r (.slice (some ⟨g j, 0, none⟩) L (c j)) (· = g j) X' (by omega) hp0 hp1 (hlow j) (by obtain ⟨cs, h1, h2, h3⟩ := hi.row; exact ⟨cs, by unfold Row; rw [ht]; exact h1, h2, h3⟩) (fun i _ => hlow i)
      ((show RowI X' (g j) L r from by obtain ⟨cs, h1, h2, h3⟩ := hrr; exact ⟨cs, by unfold Row; rw [ht]; exact h1, h2, h3⟩).vec hrc (· = g j) rfl) (fun i _ => hE.low j r i hr) (by omega)
    have HS := Lib.hid hS
    have hmodX : X.cell? ⟨eb, 0, none⟩ = some (.int .i64 p) := (H.out.below hi.be).mod
    have hsb := hi.sb.cell
    have hrb := hi.rb.cell
    have HST := Lib.hid (show ∀ i, subF p (redP p W R f k j) (redP p W R f k) r i = redP p W R f (k + 1) i from fun i => by
      rw [hstep i]
      unfold subF
      split
      · rename_i h0
        rw [h0, Int.sub_zero, Int.add_mul_emod_self_left, Int.emod_eq_of_lt (hlow i).1 (hlow i).2]
      · rfl)
    have HI := Lib.hid hi
    have HD := Lib.hid hd
    have HLo := Lib.hid hl
    clear hS hlow hstep hrr hi hd hl hr
    unfold rowVal
    simp only [show ∀ a b : Value, (#[a, b] : Array Value).getD 0 undef = a from fun _ _ => rfl, show ∀ a b : Value, (#[a, b] : Array Value).getD 1 undef = b from fun _ _ => rfl]
    generalize redP p W R f k j = xj at hx HS HST
    have hmix : Tryz.prog.follows .mixedOrders = true := by kernel_rfl
    gi_wp2
    refine region_round_held (S := fun W1 => W1.cell? ⟨w.heap.size, 0, none⟩ = some (.pointer (some ⟨eb, 0, none⟩)) ∧ W1.cell? ⟨eb, 0, none⟩ = some (.int .i64 p) ∧ W1.cell? ⟨rb, 0, none⟩ = some (.slice (some ⟨gr, 0, none⟩) L cr)) l (by kernel_rfl) hmix (by rintro ⟨_, _, h⟩; exact h) ?_
    have hHeld : X.drew.cell? ⟨w.heap.size, 0, none⟩ = some (.pointer (some ⟨eb, 0, none⟩)) ∧ X.drew.cell? ⟨eb, 0, none⟩ = some (.int .i64 p) ∧ X.drew.cell? ⟨rb, 0, none⟩ = some (.slice (some ⟨gr, 0, none⟩) L cr) := ⟨hsb, hmodX, hrb⟩
    refine takeH (i := 0) (v := (.pointer (some ⟨eb, 0, none⟩))) rfl rfl (by kernel_rfl) (by kernel_rfl) (by kernel_rfl) (fun _ _ _ h => h) (by rfl) (fun W hW => by (obtain ⟨h1, h2, h3⟩ := hW); go_simp) (by assumption) ?_
    simp only [List.setIfInBounds_toArray, List.set_cons_zero, List.set_cons_succ]
    refine takeH (i := 1) (v := (.pointer (some ⟨eb, 0, none⟩))) rfl rfl (by kernel_rfl) (by kernel_rfl) (by kernel_rfl) (fun _ _ _ h => h) (by rfl) (fun W hW => by (obtain ⟨h1, h2, h3⟩ := hW); go_simp) (by assumption) ?_
    simp only [List.setIfInBounds_toArray, List.set_cons_zero, List.set_cons_succ]
    refine takeH (i := 2) (v := (.pointer (some ⟨eb, 0, none⟩))) rfl rfl (by kernel_rfl) (by kernel_rfl) (by kernel_rfl) (fun _ _ _ h => h) (by rfl) (fun W hW => by (obtain ⟨h1, h2, h3⟩ := hW); go_simp) (by assumption) ?_
    simp only [List.setIfInBounds_toArray, List.set_cons_zero, List.set_cons_succ]
    refine takeH (i := 3) (v := (.int .i64 p)) rfl rfl (by kernel_rfl) (by kernel_rfl) (by kernel_rfl) (fun _ _ _ h => h) (by rfl) (fun W hW => by (obtain ⟨h1, h2, h3⟩ := hW); go_simp) (by assumption) ?_
    simp only [List.setIfInBounds_toArray, List.set_cons_zero, List.set_cons_succ]
    refine takeH (i := 4) (v := (.slice (some ⟨gr, 0, none⟩) L cr)) rfl rfl (by kernel_rfl) (by kernel_rfl) (by kernel_rfl) (fun _ _ _ h => h) (by rfl) (fun W hW => by (obtain ⟨h1, h2, h3⟩ := hW); go_simp) (by assumption) ?_
    simp only [List.setIfInBounds_toArray, List.set_cons_zero, List.set_cons_succ]
    refine takeH (i := 5) (v := (.slice (some ⟨gr, 0, none⟩) L cr)) rfl rfl (by kernel_rfl) (by kernel_rfl) (by kernel_rfl) (fun _ _ _ h => h) (by rfl) (fun W hW => by (obtain ⟨h1, h2, h3⟩ := hW); go_simp) (by assumption) ?_
    simp only [List.setIfInBounds_toArray, List.set_cons_zero, List.set_cons_succ]
    refine takeH (i := 6) (v := (.int .i64 j)) rfl rfl (by kernel_rfl) (by kernel_rfl) (by kernel_rfl) (fun _ _ _ h => h) (by rfl) (fun W hW => by (obtain ⟨h1, h2, h3⟩ := hW); go_simp) (by assumption) ?_
    simp only [List.setIfInBounds_toArray, List.set_cons_zero, List.set_cons_succ]
    refine takeH (i := 7) (v := (.pointer (some ⟨gr, j, none⟩))) rfl rfl (by kernel_rfl) (by kernel_rfl) (by kernel_rfl) (fun _ _ _ h => h) (by rfl) (fun W hW => by (obtain ⟨h1, h2, h3⟩ := hW); go_simp) (by assumption) ?_
    simp only [List.setIfInBounds_toArray, List.set_cons_zero, List.set_cons_succ]
    refine takeH (i := 9) (v := (.slice (some ⟨g j, 0, none⟩) L (c j))) rfl rfl (by kernel_rfl) (by kernel_rfl) (by kernel_rfl) (fun _ _ _ h => h) (by rfl) (fun W hW => by (obtain ⟨h1, h2, h3⟩ := hW); go_simp) (by assumption) ?_
    simp only [List.setIfInBounds_toArray, List.set_cons_zero, List.set_cons_succ]
    have hxd : X.drew.cell? ⟨gr, j, none⟩ = some (.int .i64 xj) := hx
    refine wpAnyH_ready (rs := [8]) (by kernel_rfl) (by simp) ?_
    refine (AllReadyH.cons rfl (fun K hK => ?_) AllReadyH.nil)
    go_simp
    refine hK.out _ _ hHeld (fun hHeld => ?_)
    clear hK K
    try simp only [Act.put, List.setIfInBounds_toArray, List.set_cons_zero, List.set_cons_succ]
    refine wpAnyH_ready (rs := [10]) (by kernel_rfl) (by simp) ?_
    refine (AllReadyH.cons rfl (fun K hK => ?_) AllReadyH.nil)
    go_simp
    refine (HS.out X.drew rfl).mono ?_
    rintro e W' ⟨rfl, hrow', ht⟩
    have q1 := ht.cell hHeld.1 (show ¬ w.heap.size = gr by omega)
    have q2 := ht.cell hHeld.2.1 (show ¬ eb = gr by omega)
    have q3 := ht.cell hHeld.2.2 (show ¬ rb = gr by omega)
    have HROW := Lib.hid (hrow'.congr (f' := redP p W R f (k + 1)) fun i _ => HST.out i)
    have ht0 : Turn (· = gr) X W' := ⟨ht.os, ht.tape, ht.output, ht.size, ht.block⟩
    have HT := Lib.hid ht0
    clear hrow' ht ht0
    dsimp only
    refine hK.out _ _ ⟨q1, q2, q3⟩ (fun hHeld => ?_)
    clear hK K
    try simp only [Act.put, List.setIfInBounds_toArray, List.set_cons_zero, List.set_cons_succ]
    refine wpAnyH_done (by kernel_rfl) ?_ _
    clear hHeld hsb hrb hx hxd q1 q2 q3 hmodX
    have hT := HT.out
    have hl1 := (Array.getElem?_eq_some_iff.1 HLo.out).1
    have hbe := HI.out.be.size
    exact ⟨⟨HI.out.be.trans (hT.to_below hbe (fun q (e : q = gr) => by omega)), hT.keep HI.out.sb (fun (e : w.heap.size = gr) => by omega), hT.keep HI.out.rb (fun (e : rb = gr) => by omega), hT.keep HI.out.pb (fun (e : rb + 1 = gr) => by omega), HROW.out⟩, ⟨hT.size, fun q o hq ho => hT.keep ho (fun (e : q = gr) => by omega)⟩,
      hT.block _ hl1 (fun (e : w0.heap.size + 1 = gr) => by omega), hT.block _ (by omega) (fun (e : w0.heap.size = gr) => by omega)⟩
  case done =>
    rintro X hi hK
    have hrb := hi.rb.cell
    have HK := Lib.hid hK
    have HI := Lib.hid (hi.put hK rfl (by omega) (.deferred none))
    clear hK hi
    gi_wp2
    refine ⟨by simp, .inl ⟨_, _, rfl, run_takeDeferred HK.out, ?_⟩⟩
    refine ⟨_, results_tmp rfl _ _ _, _, cr, rfl, hcr, fun _ => ⟨gr, rfl, by omega, ?_⟩, HI.out.be⟩
    have := HI.out.row
    rwa [redP_end] at this
end Go.Proofs.YtinoomcboinokaaGreat
