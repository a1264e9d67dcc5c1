/- (elimination).run: the determinant by elimination. -/
import Derived.Test.YtokiejichnnmnaaMElim3
import Derived.Defers
namespace Go.Proofs.Ytokiejichnnmnaa
open Go Go.RowKit Num

/-- The place of the pivot. -/
def pivF (F : Nat → Nat → Int) (m i : Nat) : Option Nat := (List.range (m - i)).find? fun k => F (i + k) i != 0
theorem pivF_is (F : Nat → Nat → Int) (m i : Nat) : PivIs F m i (pivF F m i) := by
  cases h : pivF F m i with
  | none =>
    intro a ha
    unfold pivF at h
    rw [List.find?_eq_none] at h
    have := h a (List.mem_range.2 (by omega))
    simpa using this
  | some k =>
    unfold pivF at h
    rw [List.find?_eq_some_iff_append] at h
    obtain ⟨h1, l1, l2, h2, h3⟩ := h
    have hl : l1.length = k := by
      have h4 : (List.range (m - i))[l1.length]? = some k := by rw [h2]; simp
      rw [List.getElem?_range] at h4
      · injection h4
      · have := congrArg List.length h2
        simp at this
        omega
    have hk : k < m - i := by
      have : k ∈ List.range (m - i) := by rw [h2]; simp
      exact List.mem_range.1 this
    refine ⟨by omega, by simpa using h1, fun a ha => ?_⟩
    have h5 : a ∈ l1 := by
      have h6 : (List.range (m - i))[a]? = some a := by rw [List.getElem?_range (by omega)]
      rw [h2, List.getElem?_append_left (by omega)] at h6
      exact List.mem_of_getElem? h6
    have := h3 a h5
    simpa using this
abbrev ElS := (Nat → Nat → Int) × Bool × Int
/-- One column. -/
def elimS (p : Int) (m i : Nat) (s : ElS) : Option ElS :=
  (pivF s.1 m i).map fun k => (clrF p (divF p (swapF s.1 i k) i) i, (if k = 0 then s.2.1 else !s.2.1), s.2.2 * swapF s.1 i k i i % p)
/-- The first columns. -/
def elimTo (p : Int) (m : Nat) (F : Nat → Nat → Int) : Nat → Option ElS
  | 0 => some (F, false, 1)
  | i + 1 => (elimTo p m F i).bind (elimS p m i)
/-- The determinant, by elimination. -/
def detV (p : Int) (m : Nat) (F : Nat → Nat → Int) : Int :=
  match elimTo p m F m with
  | none => 0
  | some s => if s.2.1 then (p - s.2.2) % p else s.2.2
theorem elim_none {p : Int} {m : Nat} {F : Nat → Nat → Int} {i : Nat} (h : elimTo p m F i = none) : ∀ j, elimTo p m F (i + j) = none
  | 0 => h
  | j + 1 => by rw [← Nat.add_assoc]; show (elimTo p m F (i + j)).bind _ = none; rw [elim_none h j]; rfl
theorem InP.swap {p : Int} {m n i k : Nat} {F : Nat → Nat → Int} (h : InG p m n F) (hi : i < m) (hk : i + k < m) : InG p m n (swapF F i k) := fun a ha => by
  unfold swapF
  split
  · exact h _ hk
  · split
    · exact h _ hi
    · exact h a ha
theorem InP.div {p : Int} {m n i : Nat} {F : Nat → Nat → Int} (hp : 0 < p) (h : InG p m n F) : InG p m n (divF p F i) := fun a ha => by
  unfold divF
  split
  · exact axpy_in hp _ _ n
  · exact h a ha
theorem InP.clr {p : Int} {m n i : Nat} {F : Nat → Nat → Int} (hp : 0 < p) (h : InG p m n F) : InG p m n (clrF p F i) := fun a ha => by
  unfold clrF
  split
  · exact h a ha
  · split
    · exact h a ha
    · exact axpy_in hp _ _ n
theorem elimTo_in {p : Int} {m n : Nat} {F : Nat → Nat → Int} (hp : 1 < p) (h : InG p m n F) : ∀ (i : Nat) (s : ElS), i ≤ m → elimTo p m F i = some s → InG p m n s.1 ∧ 0 ≤ s.2.2 ∧ s.2.2 < p
  | 0, s, _, e => by cases e; exact ⟨h, (show (0 : Int) ≤ 1 by omega), hp⟩
  | i + 1, s, hi, e => by
    have e' : (elimTo p m F i).bind (elimS p m i) = some s := e
    cases h1 : elimTo p m F i with
    | none => rw [h1] at e'; cases e'
    | some t =>
      rw [h1] at e'
      obtain ⟨h2, h3, h4⟩ := elimTo_in hp h i t (by omega) h1
      have e'' : elimS p m i t = some s := e'
      unfold elimS at e''
      cases h5 : pivF t.1 m i with
      | none => rw [h5] at e''; cases e''
      | some k =>
        rw [h5] at e''
        cases e''
        have hk := pivF_is t.1 m i
        rw [h5] at hk
        exact ⟨InP.clr (by omega) (InP.div (by omega) (InP.swap h2 (by omega) hk.1)), Int.emod_nonneg _ (by omega), Int.emod_lt_of_pos _ (by omega)⟩

set_option maxRecDepth 100000 in
set_option maxHeartbeats 1000000 in
theorem closing_any (E g0 B1 B2 : Nat) (p d : Int) (m c : Nat) (odd : Bool) (u : FrameMode) (w : World) (hp0 : 2 ≤ p) (hp1 : p ≤ 10000) (hd : 0 ≤ d ∧ d < p) (hE : Row w E 139 #[.int .i64 p, .slice (some ⟨g0, 0, none⟩) m c, .bool odd])
    (h1 : Row w B1 181 #[.pointer (some ⟨E, 0, none⟩)]) (h2 : Row w B2 3 #[.int .i64 d]) :
    CallsD Try.prog 157 #[.pointer (some ⟨B1, 0, none⟩), .pointer (some ⟨B2, 0, none⟩)] u w fun e u' w' => u' = u ∧ e = .returned (.tuple #[]) ∧ w' = if odd then (w.setCell ⟨B2, 0, none⟩ (.int .i64 ((p - d) % p))).drew else w := by
  have e0 : w.cell? ⟨E, 0, none⟩ = some (.int .i64 p) := hE.cell rfl
  have e2 : w.cell? ⟨E, 2, none⟩ = some (.bool odd) := hE.cell rfl
  have b1 : w.cell? ⟨B1, 0, none⟩ = some (.pointer (some ⟨E, 0, none⟩)) := h1.cell rfl
  have b2 : w.cell? ⟨B2, 0, none⟩ = some (.int .i64 d) := h2.cell rfl
  have f2 := h2.frozen 0
  have hw : IntKind.i64.wrap (p - d) = p - d := IntWalk.i64_in _ ⟨by omega, by omega⟩
  have hne : (p != 0) = true := by simp; omega
  have hne2 : ¬ p = 0 := by omega
  have hr : (p - d).tmod p = (p - d) % p := Int.tmod_eq_emod_of_nonneg (by omega)
  have hr1 : 0 ≤ (p - d) % p := Int.emod_nonneg _ (by omega)
  have hr2 : (p - d) % p < p := Int.emod_lt_of_pos _ (by omega)
  have hw3 : IntKind.i64.wrap ((p - d) % p) = (p - d) % p := IntWalk.i64_in _ ⟨by omega, by omega⟩
  clear hE h1 h2
  cases odd with
  | false =>
    go_enter_d Try.func157, Try.ntmps157
    go_wp2
    go_end0
    exact ⟨rfl, rfl⟩
  | true =>
    go_enter_d Try.func157, Try.ntmps157
    go_wp2_with fail
    go_still_tail 11, (by kernel_rfl)
    repeat still_step
    change wpList _ _ _ _ _ w.drew
    go_wp2
    go_end0
    exact ⟨rfl, rfl⟩

/-- What run leaves. -/
def RunPost (E g0 : Nat) (p : Int) (m n : Nat) (F : Nat → Nat → Int) (w : World) (e : Ending) (w' : World) : Prop :=
  e = .returned (.int .i64 (detV p m F)) ∧ Kept2 E g0 w w' ∧ ∀ s, elimTo p m F m = some s → ElimAt E g0 E p m n s.1 s.2.1 w'
theorem Row.drew_ {w : World} {g : Nat} {t : TypeId} {cs : Array Value} (h : Row w g t cs) : Row w.drew g t cs := h
theorem Kept2.of_new {E g0 : Nat} {w0 w : World} (h : Kept2 E g0 w0 w) {p : Addr} (hp : w0.heap.size ≤ p.block) (v : Value) : Kept2 E g0 w0 (w.setCell p v) :=
  ⟨h.os, h.tape, h.output, by rw [size_set]; exact h.size, fun b h1 h2 h3 => (Below.heap_setCell w p v b (by omega)).trans (h.block b h1 h2 h3)⟩
theorem ElimAt.off {E g0 D D' : Nat} {p : Int} {m n : Nat} {F : Nat → Nat → Int} {odd : Bool} {w : World} (h : ElimAt E g0 D p m n F odd w) (hD : w.heap.size ≤ D') : ElimAt E g0 D' p m n F odd w := by
  obtain ⟨ne, hs, r, cs, hr, hcs, hv⟩ := h
  exact ⟨ne, hs, r, cs, hr, hcs, fun i hi => (hv i hi).more fun b h => ⟨h.1, h.2.1, h.2.2.1, by have := h.1; omega⟩⟩
theorem ElimAt.box {E g0 D : Nat} {p : Int} {m n : Nat} {F : Nat → Nat → Int} {odd : Bool} {w : World} (h : ElimAt E g0 D p m n F odd w) (hE : E ≠ D) (hg : g0 ≠ D) (v : Value) : ElimAt E g0 D p m n F odd (w.setCell ⟨D, 0, none⟩ v) := by
  obtain ⟨ne, ⟨c, hc, hs⟩, r, cs, hr, hcs, hv⟩ := h
  exact ⟨ne, ⟨c, hc, hs.far (p := ⟨D, 0, none⟩) hE v⟩, r, cs, hr.far (p := ⟨D, 0, none⟩) hg v, hcs, fun i hi => ((hv i hi).set (p := ⟨D, 0, none⟩) (fun h => h.2.2.2 rfl) v).more fun b h => ⟨by rw [size_set]; exact h.1, h.2⟩⟩
theorem ElimAt.noD {E g0 D : Nat} {p : Int} {m n : Nat} {F : Nat → Nat → Int} {odd : Bool} {w : World} (h : ElimAt E g0 D p m n F odd w) : ElimAt E g0 E p m n F odd w := by
  obtain ⟨ne, hs, r, cs, hr, hcs, hv⟩ := h
  exact ⟨ne, hs, r, cs, hr, hcs, fun i hi => (hv i hi).more fun b h => ⟨h.1, h.2.1, h.2.2.1, h.2.1⟩⟩
/-- Between two columns. -/
structure RunAt (E g0 : Nat) (p : Int) (m n : Nat) (s : ElS) (w wr : World) : Prop where
  kept : Kept2 E g0 w wr
  el : ElimAt E g0 (w.heap.size + 1) p m n s.1 s.2.1 wr
  ptr : Row wr w.heap.size 181 #[.pointer (some ⟨E, 0, none⟩)]
  det : Row wr (w.heap.size + 1) 3 #[.int .i64 s.2.2]
/-- The door: one call is still to be made. -/
theorem run_door {E g0 : Nat} {p : Int} {m n : Nat} {F : Nat → Nat → Int} {t : ElS} {w W : World} {T : Array Value} (hp0 : 2 ≤ p) (hp1 : p ≤ 10000) (hE : E < w.heap.size) (hg0 : g0 < w.heap.size) (h : RunAt E g0 p m n t w W) (hd : 0 ≤ t.2.2 ∧ t.2.2 < p)
    (hT : T[2]? = some (.pointer (some ⟨w.heap.size + 1, 0, none⟩))) (hv : (if t.2.1 then (p - t.2.2) % p else t.2.2) = detV p m F) (hs : ∀ s, elimTo p m F m = some s → s = t) :
    bodyPostD Try.prog Try.f120 (RunPost E g0 p m n F w) Exit.ret
      { tmps := T, defers := [{ target := Target.fn (Fn.func 157) #[.pointer (some ⟨w.heap.size, 0, none⟩), .pointer (some ⟨w.heap.size + 1, 0, none⟩)], args := #[] }] } W := by
  obtain ⟨G, odd, d⟩ := t
  obtain ⟨c, hc, hst⟩ := h.el.st
  refine leaves_cons (f := 157) (args := #[.pointer (some ⟨w.heap.size, 0, none⟩), .pointer (some ⟨w.heap.size + 1, 0, none⟩)]) (by simp) (by simp [go_sem]) ?_
  refine (closing_any E g0 w.heap.size (w.heap.size + 1) p d m c odd .returning W hp0 hp1 hd hst h.ptr h.det).mono ?_
  rintro e u' w'' ⟨rfl, rfl, hw⟩
  have hfin : w''.cell? ⟨w.heap.size + 1, 0, none⟩ = some (.int .i64 (detV p m F)) ∧ Kept2 E g0 w w'' ∧ ElimAt E g0 (w.heap.size + 1) p m n G odd w'' := by
    rw [hw, ← hv]
    cases odd with
    | false => exact ⟨h.det.cell rfl, h.kept, h.el⟩
    | true => exact ⟨(h.det.set 0 _).cell rfl, kept_drew E g0 (h.kept.of_new (p := ⟨w.heap.size + 1, 0, none⟩) (by simp) _), (h.el.box (by omega) (by omega) _).frz⟩
  obtain ⟨h1, h2, h3⟩ := hfin
  simp [Leaves, settle, results, Try.results120, go_sem, hT, h1]
  exact ⟨rfl, h2, fun s e => by rw [hs s e]; exact h3.noD⟩

set_option maxRecDepth 100000 in
set_option maxHeartbeats 4000000 in
theorem run_any (E g0 : Nat) (p : Int) (m n : Nat) (F : Nat → Nat → Int) (w : World) (hm : m ≤ 1000) (hmn : m ≤ n) (hn : n ≤ 1000) (hp : P6 p.toNat) (hp0 : 2 ≤ p) (hp1 : p ≤ 10000) (h : ElimAt E g0 E p m n F false w) (hF : InG p m n F) :
    Calls Try.prog 120 #[.pointer (some ⟨E, 0, none⟩)] w (RunPost E g0 p m n F w) := by
  have hmf : ∀ (fn : Fn) (first cap : Array Value) (w : World), (Instr.makeFunc fn first cap).run Try.prog w = .ok (.func fn first cap) w := fun _ _ _ _ => rfl
  obtain ⟨hE, hg0⟩ := h.lt
  have hne := h.ne
  have hb2 : Below w.heap.size w ((w.alloc (.cells #[.pointer (some ⟨E, 0, none⟩)] 181)).alloc (.cells #[.int .i64 1] 3)) := below_alloc (below_alloc (Below.refl _ _) (Nat.le_refl _) _) (Nat.le_refl _) _
  have h2 : RunAt E g0 p m n (F, false, 1) w ((w.alloc (.cells #[.pointer (some ⟨E, 0, none⟩)] 181)).alloc (.cells #[.int .i64 1] 3)) :=
    ⟨Kept2.of hb2, (h.off (Nat.le_succ _)).on hb2, (row_new rfl _ _).alloc _, row_new (by simp) _ _⟩
  obtain ⟨c, hc, e0, e1, -, -, -, -⟩ := h2.el.at_
  have b1 := h2.ptr.cell (i := 0) rfl
  have H2 := Lib.hid h2
  have HF := Lib.hid hF
  clear h h2 hb2 hF
  go_enter_defers Try.func120, Try.ntmps120
  go_wp2
  generalize (w.alloc (.cells #[.pointer (some ⟨E, 0, none⟩)] 181)).alloc (.cells #[.int .i64 1] 3) = w2 at H2 e0 e1 b1
  go_loopw [10] (fun t wr => ∃ (j : Nat) (s : ElS), t = .int .i64 j ∧ j ≤ m ∧ elimTo p m F j = some s ∧ RunAt E g0 p m n s w wr) (fun t _ => m - (intOf t).toNat)
  case atStart => exact ⟨0, _, rfl, Nat.zero_le _, rfl, H2.out⟩
  case round =>
    obtain ⟨j, s, rfl, hj, hs, hR⟩ := hrel
    obtain ⟨hsin, hd0, hd1⟩ := elimTo_in (by omega) HF.out j s hj hs
    have b1 := hR.ptr.cell (i := 0) rfl
    have d0 := hR.det.cell (i := 0) rfl
    have df := hR.det.frozen 0
    have hsz := hR.kept.size
    have hDlt := hR.det.lt
    by_cases hlt : j < m
    · have HX := Lib.hid (exchange_any E g0 (w.heap.size + 1) p m n j s.1 s.2.1 wr hm hn hlt (by omega) hR.el _ (pivF_is s.1 m j))
      have HR := Lib.hid hR
      have HS := Lib.hid hs
      have HSI := Lib.hid hsin
      cases hpiv : pivF s.1 m j with
      | none =>
        rw [hpiv] at HX
        have hnone : elimTo p m F (j + 1) = none := by
          show (elimTo p m F j).bind (elimS p m j) = none
          rw [hs]
          show elimS p m j s = none
          unfold elimS
          rw [hpiv]; rfl
        have hnm : elimTo p m F m = none := by
          have := elim_none hnone (m - (j + 1))
          rwa [show j + 1 + (m - (j + 1)) = m by omega] at this
        have hdet : detV p m F = 0 := by unfold detV; rw [hnm]
        have HDET := Lib.hid hdet
        have HNM := Lib.hid hnm
        clear hR hs hsin hpiv hnone hnm hdet
        go_wp2_with fail
        refine HX.out.mono ?_
        rintro e w3 ⟨hk3, rfl, hel3⟩
        have hp3 := hk3.row HR.out.ptr (by omega) (by omega)
        have hd3 := hk3.row HR.out.det (by omega) (by omega)
        have q1 := hd3.cell (i := 0) rfl
        have q2 := hd3.frozen 0
        have HP3 := Lib.hid hp3
        have HD3 := Lib.hid hd3
        have HEL3 := Lib.hid hel3
        have HK3 := Lib.hid (HR.out.kept.trans hk3)
        clear hp3 hd3 hel3 hk3
        go_wp2
        refine run_door (t := (s.1, s.2.1, 0)) hp0 hp1 hE hg0 ⟨HK3.out.of_new (p := ⟨w.heap.size + 1, 0, none⟩) (by simp) _, HEL3.out.box (by omega) (by omega) _, HP3.out.far (p := ⟨w.heap.size + 1, 0, none⟩) (by simp) _, HD3.out.set 0 _⟩ ⟨by simp, by simp; omega⟩ rfl (by rw [HDET.out]; split <;> simp) (fun s hs => by rw [HNM.out] at hs; cases hs)
      | some k =>
        have hpk := pivF_is s.1 m j
        rw [hpiv] at hpk HX
        obtain ⟨hk1, hk2, -⟩ := hpk
        have hF1 := InP.swap hsin hlt hk1
        have hF1jj : swapF s.1 j k j j ≠ 0 := by unfold swapF; rw [if_pos rfl]; exact hk2
        have hnext : elimTo p m F (j + 1) = some (clrF p (divF p (swapF s.1 j k) j) j, (if k = 0 then s.2.1 else !s.2.1), s.2.2 * swapF s.1 j k j j % p) := by
          show (elimTo p m F j).bind (elimS p m j) = _
          rw [hs]
          show elimS p m j s = _
          unfold elimS
          rw [hpiv]; rfl
        have HNEXT := Lib.hid hnext
        have HF1 := Lib.hid hF1
        have HF1J := Lib.hid hF1jj
        clear hR hs hsin hpiv hnext hk2 hF1 hF1jj
        go_wp2_with fail
        refine HX.out.mono ?_
        rintro e w3 ⟨hk3, rfl, hel3⟩
        generalize swapF s.1 j k = F1 at HF1 HF1J HNEXT hel3
        generalize (if k = 0 then s.2.1 else !s.2.1) = odd1 at HNEXT hel3
        have hF1jj := HF1J.out
        have hyin := HF1.out j hlt j (by omega)
        have hp3 := hk3.row HR.out.ptr (by omega) (by omega)
        have hd3 := hk3.row HR.out.det (by omega) (by omega)
        have q1 := hd3.cell (i := 0) rfl
        have q2 := hd3.frozen 0
        have q3 := hp3.cell (i := 0) rfl
        obtain ⟨c5, hc5, g0', g1, g2, gf, gg, RA, RC, hrows⟩ := hel3.at_
        obtain ⟨rj, vj⟩ := hrows j hlt
        obtain ⟨b, o, c6, er, hc6, ⟨hb, hbE, hbg, hbD⟩, hcc⟩ := vj.at_ (by omega)
        rw [er] at rj
        have hy := hcc j (by omega)
        have hmul := mul_in (a := s.2.2) (b := F1 j j) (p := p) (q := p) ⟨hd0, by omega⟩ ⟨hyin.1, by omega⟩ hp1 hp1
        obtain ⟨dy, hdy⟩ : ∃ z, s.2.2 * F1 j j = z := ⟨_, rfl⟩
        have hw1 : IntKind.i64.wrap (s.2.2 * F1 j j) = dy := by rw [hdy]; exact IntWalk.i64_in _ ⟨by omega, by omega⟩
        rw [hdy] at hmul HNEXT
        have HDV := fun W h1 h2 => Lib.hid (divide_any E g0 (w.heap.size + 1) p m n j F1 odd1 W hm hn hlt (by omega) hp hp0 hp1 h1 h2 (HF1.out j hlt) hF1jj)
        have HCL := fun W h1 h2 => Lib.hid (clear_any E g0 (w.heap.size + 1) p m n j (divF p F1 j) odd1 W hm hn hlt (by omega) hp0 hp1 h1 h2 (InP.div (by omega) HF1.out))
        have hjn : (j : Int) < n := by omega
        have hjm : (j : Int) < m := by omega
        have hne1 : (p != 0) = true := by simp; omega
        have hne2 : ¬ p = 0 := by omega
        have hr : dy.tmod p = dy % p := Int.tmod_eq_emod_of_nonneg (by omega)
        have hr1 : 0 ≤ dy % p := Int.emod_nonneg _ (by omega)
        have hr2 : dy % p < p := Int.emod_lt_of_pos _ (by omega)
        have hw3 : IntKind.i64.wrap (dy % p) = dy % p := IntWalk.i64_in _ ⟨by omega, by omega⟩
        have HP3 := Lib.hid hp3
        have HD3 := Lib.hid hd3
        have HEL3 := Lib.hid hel3
        have HK3 := Lib.hid (HR.out.kept.trans hk3)
        generalize F1 j j = y at hy hyin hw1 hF1jj
        clear hp3 hd3 hel3 hk3 hrows vj hcc er gf gg hdy
        go_wp2_with fail
        go_still_tail 17, (by kernel_rfl)
        repeat still_step
        change wpList _ _ _ _ _ w3.drew
        go_wp2_with fail
        have hel4 := (HEL3.out.box (by omega) (by omega) (.int .i64 (dy % p))).frz
        have hk4 := kept_drew E g0 (HK3.out.of_new (p := ⟨w.heap.size + 1, 0, none⟩) (by simp) (.int .i64 (dy % p)))
        have hp4 := (HP3.out.far (p := ⟨w.heap.size + 1, 0, none⟩) (by simp) (.int .i64 (dy % p))).drew_
        have hd4 := (HD3.out.set 0 (.int .i64 (dy % p))).drew_
        have hb4 := hp4.cell (i := 0) rfl
        have hE4 : E < (w3.setCell ⟨w.heap.size + 1, 0, none⟩ (.int .i64 (dy % p))).drew.heap.size := by have := hel4.lt.1; exact this
        have hD4 : w.heap.size + 1 < (w3.setCell ⟨w.heap.size + 1, 0, none⟩ (.int .i64 (dy % p))).drew.heap.size := hd4.lt
        generalize (w3.setCell ⟨w.heap.size + 1, 0, none⟩ (.int .i64 (dy % p))).drew = w4 at hel4 hk4 hp4 hd4 hb4 hE4 hD4
        have HK4 := Lib.hid hk4
        have HP4 := Lib.hid hp4
        have HD4 := Lib.hid hd4
        have HX4 := HDV w4 hD4 hel4
        clear hel4 hk4 hp4 hd4
        refine HX4.out.mono ?_
        rintro e w5 ⟨rfl, hk5, hel5⟩
        have hp5 := hk5.row HP4.out (by omega) (by omega)
        have hd5 := hk5.row HD4.out (by omega) (by omega)
        have HK5 := Lib.hid (HK4.out.trans hk5)
        have hb5 := hp5.cell (i := 0) rfl
        have HP5 := Lib.hid hp5
        have HD5 := Lib.hid hd5
        have HX5 := HCL w5 hd5.lt hel5
        clear hp5 hd5 hel5 hk5 HX4
        go_wp2_with fail
        refine HX5.out.mono ?_
        rintro e w6 ⟨rfl, hk6, hel6⟩
        have hp6 := hk6.row HP5.out (by omega) (by omega)
        have hd6 := hk6.row HD5.out (by omega) (by omega)
        have HRN := Lib.hid (show RunAt E g0 p m n (clrF p (divF p F1 j) j, odd1, dy % p) w w6 from ⟨HK5.out.trans hk6, hel6, hp6, hd6⟩)
        clear hp6 hd6 hel6 hk6 HX5
        go_wp2
        go_roundw
        case rel => exact ⟨j + 1, _, by go_num, by omega, HNEXT.out, HRN.out⟩
        case measure => simp [intOf]; omega
    · have e : j = m := by omega
      subst e
      have HR := Lib.hid hR
      have HS := Lib.hid hs
      have hd3 := hR.det.cell (i := 0) rfl
      have hdet : detV p j F = if s.2.1 then (p - s.2.2) % p else s.2.2 := by unfold detV; rw [hs]
      have HDET := Lib.hid hdet
      clear hR hs hsin hdet
      go_wp2
      refine run_door (t := s) hp0 hp1 hE hg0 ⟨HR.out.kept.of_new (p := ⟨w.heap.size + 1, 0, none⟩) (by simp) _, HR.out.el.box (by omega) (by omega) _, HR.out.ptr.far (p := ⟨w.heap.size + 1, 0, none⟩) (by simp) _, HR.out.det.set 0 _⟩ ⟨hd0, hd1⟩ rfl HDET.out.symm (fun t ht => by rw [HS.out] at ht; cases ht; rfl)
end Go.Proofs.Ytokiejichnnmnaa
