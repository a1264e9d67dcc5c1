/- linear.eliminate. -/
import Derived.Test.YtinoomcboinokaaGreatLKeepN
namespace Go.Proofs.YtinoomcboinokaaGreat
open Go Go.RowKit Go.Shelf Num Go.ChangeMaps
attribute [local go_sem] Oper.semAt_some

theorem invF {p : Int} (hp : P6 p.toNat) (hp0 : 2 ≤ p) : InvF p (invI p) := fun x h0 hx => by
  obtain ⟨xn, rfl⟩ : ∃ xn : Nat, x = xn := ⟨x.toNat, by omega⟩
  obtain ⟨pn, rfl⟩ : ∃ pn : Nat, p = pn := ⟨p.toNat, by omega⟩
  rw [Int.toNat_natCast] at hp
  have h := inverse_pow hp.1 (x := xn) (pr_not_dvd (by omega) (by omega))
  unfold invI
  rw [Int.toNat_natCast, Int.toNat_natCast, ← Int.natCast_mul, ← Int.natCast_emod, Nat.mul_mod_mod, h]
  rfl
theorem ech_nil (p : Int) (W : Nat) : Ech p W (fun _ => none) := by
  constructor
  · intro j r h; cases h
  · intro j r h; cases h
  · intro j r i h; cases h
  · intro j r k h; cases h
  · intro j r i h; cases h
theorem pivL_nil (W : Nat) : pivL W (fun _ => none) = [] := by unfold pivL; simp
theorem EL.more {w : World} {p : Int} {W L N eb mb : Nat} {R : Nat → Option (Nat → Int)} {g c : Nat → Nat} (h : EL w p W L N eb mb R g c) {M : Nat} (hM : N ≤ M) : EL w p W L M eb mb R g c := by
  obtain ⟨⟨hr, D, hown, hm⟩, h2, h3⟩ := h
  exact ⟨⟨hr, D, hown.mono hM, hm⟩, h2, h3⟩
/-- The rows of a list in memory. -/
def rowsL (L : Nat) (F : Nat → Nat → Int) (k : Nat) : List (Nat → Int) := (List.range k).map fun i j => if j < L then F i j else 0
theorem rowsL_succ (L : Nat) (F : Nat → Nat → Int) (k : Nat) : rowsL L F (k + 1) = rowsL L F k ++ [fun j => if j < L then F k j else 0] := by simp [rowsL, List.range_succ]
theorem elimR_succ (p : Int) (W L : Nat) (ι : Int → Int) (F : Nat → Nat → Int) (k : Nat) : elimR p W ι (rowsL L F (k + 1)) = stepR p W ι (elimR p W ι (rowsL L F k)) (fun j => if j < L then F k j else 0) := by
  unfold elimR
  rw [rowsL_succ, List.foldl_append]; rfl
theorem fold_ech {p : Int} (hp : 1 < p) {ι : Int → Int} (hι : InvF p ι) {W : Nat} : ∀ (l : List (Nat → Int)) (R : Nat → Option (Nat → Int)), Ech p W R → Ech p W (l.foldl (stepR p W ι) R)
  | [], _, h => h
  | v :: l, _, h => fold_ech hp hι l _ (step_ech hp hι h v)
theorem elimR_ech {p : Int} (hp : 1 < p) {ι : Int → Int} (hι : InvF p ι) (W : Nat) (l : List (Nat → Int)) : Ech p W (elimR p W ι l) := fold_ech hp hι l _ (ech_nil p W)

theorem row_new' {W : World} {g : Nat} (h : W.heap.size = g) (t : TypeId) (cs : Array Value) : Row (W.alloc (.cells cs t)) g t cs := h ▸ Row.new W t cs
/-- Behind some rows. -/
structure EliAt (w : World) (n0 : Nat) (p : Int) (W L k eb mb : Nat) (R : Nat → Option (Nat → Int)) (g c : Nat → Nat) (X : World) : Prop where
  el : EL X p W L k eb mb R g c
  be : Below w.heap.size w X
  gn : ∀ i, (R i).isSome → n0 ≤ g i
  sb : Boxed X (w.heap.size + 2) 65 (.pointer (some ⟨eb, 0, none⟩))
  fb : Boxed X (w.heap.size + 4) 67 (.func (.func 38) #[.pointer (some ⟨eb, 0, none⟩)] #[])
theorem EliAt.below {w : World} {n0 : Nat} {p : Int} {W L k eb mb : Nat} {R : Nat → Option (Nat → Int)} {g c : Nat → Nat} {X Y : World} (h : EliAt w n0 p W L k eb mb R g c X) (hb : Below X.heap.size X Y) : EliAt w n0 p W L k eb mb R g c Y :=
  ⟨h.el.below hb, h.be.trans (hb.mono h.be.size), h.gn, (hb.block _ h.sb.lt).trans h.sb, (hb.block _ h.fb.lt).trans h.fb⟩
theorem EL.put {w : World} {p : Int} {W L N eb mb : Nat} {R : Nat → Option (Nat → Int)} {g c : Nat → Nat} (h : EL w p W L N eb mb R g c) {l : Nat} {o : Obj} (hl : w.heap[l]? = some o) (hc : o.isCells = false) (hw : o.isWalk = false) (o' : Obj) : EL (w.putObj l o') p W L N eb mb R g c := by
  have ht : Turn (· = l) w (w.putObj l o') := ⟨rfl, rfl, rfl, by simp, fun q _ hq => World.putObj_heap_other hq⟩
  have ne : ∀ q (o2 : Obj), w.heap[q]? = some o2 → (o2.isCells = true ∨ o2.isWalk = true) → q ≠ l := fun q o2 h1 h2 e => by
    subst e; rw [hl] at h1; cases h1
    rcases h2 with h2 | h2
    · rw [hc] at h2; cases h2
    · rw [hw] at h2; cases h2
  obtain ⟨hr, D, hown, hm⟩ := h.mp
  obtain ⟨es, clock, h3, rr⟩ := hown
  exact ⟨⟨hr.turn ht (ne _ _ hr (.inl rfl)), D, ⟨es, clock, ht.keep h3 (ne _ _ h3 (.inr rfl)), rr⟩, hm⟩, fun j r hj => ⟨by
    obtain ⟨h1, h2⟩ := h.row j r hj
    obtain ⟨cs, h4, _⟩ := id h1
    exact h1.turn ht (ne _ _ h4 (.inl rfl)), (h.row j r hj).2⟩, h.inj⟩
theorem EliAt.put {w : World} {n0 : Nat} {p : Int} {W L k eb mb : Nat} {R : Nat → Option (Nat → Int)} {g c : Nat → Nat} {X : World} (h : EliAt w n0 p W L k eb mb R g c X) {l : Nat} {o : Obj} (hl : X.heap[l]? = some o) (hc : o.isCells = false) (hw : o.isWalk = false) (h0 : w.heap.size ≤ l) (o' : Obj) : EliAt w n0 p W L k eb mb R g c (X.putObj l o') := by
  have ne : ∀ q (o2 : Obj), X.heap[q]? = some o2 → o2.isCells = true → q ≠ l := fun q o2 h1 h2 e => by subst e; rw [hl] at h1; cases h1; rw [hc] at h2; cases h2
  exact ⟨h.el.put hl hc hw o', ⟨h.be.os, h.be.tape, h.be.output, by simp; exact h.be.size, fun q hq => (World.putObj_heap_other (by omega)).trans (h.be.block q hq)⟩, h.gn, (World.putObj_heap_other (ne _ _ h.sb rfl)).trans h.sb, (World.putObj_heap_other (ne _ _ h.fb rfl)).trans h.fb⟩
/-- A reduced row has come. -/
def EliX (w : World) (n0 : Nat) (p : Int) (W L k eb mb : Nat) (R : Nat → Option (Nat → Int)) (v : Nat → Int) (x : Array Value) (X : World) : Prop :=
  ∃ g c gr cr, x = #[.slice (some ⟨gr, 0, none⟩) L cr] ∧ EliAt w n0 p W L k eb mb R g c X ∧ RowI X gr L (redK p R v W) ∧ L ≤ cr ∧ n0 ≤ gr ∧ ∀ i, (R i).isSome → g i ≠ gr

/-- An elimination in new memory. -/
def ElimRet (p : Int) (W L N : Nat) (R : Nat → Option (Nat → Int)) (w : World) (e : Ending) (w' : World) : Prop :=
  ∃ eb mb g c, e = .returned (.pointer (some ⟨eb, 0, none⟩)) ∧ w.heap.size ≤ eb ∧ (∀ i, (R i).isSome → w.heap.size ≤ g i) ∧ EL w' p W L N eb mb R g c ∧ Below w.heap.size w w'
set_option maxRecDepth 100000 in
set_option maxHeartbeats 4000000 in
theorem eliminate_any (p : Int) (W L m : Nat) (F : Nat → Nat → Int) (lv : Value) (w : World) (hp : P6 p.toNat) (hp0 : 2 ≤ p) (hp1 : p ≤ 10000) (hW0 : 1 ≤ W) (hWL : W ≤ L) (hL : L ≤ 1000) (hm : m ≤ 1000) (hl : Grid w (· < w.heap.size) lv m (fun _ => L) F) :
    Calls Tryz.prog 37 #[.int .i64 p, .int .i64 W, lv] w (ElimRet p W L m (elimR p W (invI p) (rowsL L F m)) w) := by
  obtain ⟨A, cl, rfl, hcl, hg⟩ := hl
  have hι := invF hp hp0
  refine (callsIn_wide (n := 9)).1 ?_
  refine callsIn_of_wp_marks Tryz.func37 rfl trivial ?_ rfl
  simp only [Tryz.ntmps37, List.size_toArray, List.length_cons, List.length_nil, Nat.reduceAdd, Nat.reduceSub, Array.replicate_succ, Array.replicate_zero, List.push_toArray, List.append_toArray, List.nil_append, List.cons_append]
  have HG := Lib.hid hg
  clear hg
  have hmk := fun W => map_make W
  gi_wp2
  refine ⟨trivial, (eachL_in Fence.wide 8 trivial rfl _ _ _ _ _ _).mono ?_⟩
  rintro e w' ⟨rfl, rfl⟩
  gi_wp2
  obtain ⟨w0, hw0⟩ : ∃ w0, (((((w.alloc (.map #[] 0)).alloc (.cells #[.int .i64 p, .int .i64 W, .map (some w.heap.size)] 77)).alloc (.cells #[.pointer (some ⟨w.heap.size + 1, 0, none⟩)] 65)).alloc (.cells #[.slice A m cl] 25)).alloc (.cells #[.func (.func 38) #[.pointer (some ⟨w.heap.size + 1, 0, none⟩)] #[]] 67)) = w0 := ⟨_, rfl⟩
  have hz0 : w0.heap.size = w.heap.size + 5 := by rw [← hw0]; simp
  have hlb : w0.cell? ⟨w.heap.size + 3, 0, none⟩ = some (.slice A m cl) := by
    rw [← hw0]
    exact Row.cell (i := 0) (Row.alloc (row_new' (by simp) _ _) _) rfl
  have HI0 : EliAt w (w.heap.size + 5) p W L 0 (w.heap.size + 1) w.heap.size (fun _ => none) (fun _ => 0) (fun _ => 0) w0 := by
    rw [← hw0]
    refine ⟨⟨⟨((((row_new' (by simp) _ _).alloc _).alloc _).alloc _), .map [], ((((World.ownsMap_made w Tryz.prog 3 heldE).alloc _).alloc _).alloc _).alloc _, by rw [pivL_nil]; exact MapAt.nil _⟩, fun j r h => (by cases h), fun i j h => (by cases h)⟩, ?_, fun i h => (by cases h), ?_, ?_⟩
    · exact (((((Below.refl _ w).alloc (Nat.le_refl _) _).alloc (by simp) _).alloc (by simp; omega) _).alloc (by simp; omega) _).alloc (by simp; omega) _
    · exact ((row_new' (by simp) _ _).alloc _).alloc _
    · exact row_new' (by simp) _ _
  have key : ∀ k, ∃ v, k < m → ∃ b o, A = some ⟨b, o, none⟩ ∧ b < w.heap.size ∧ w.cell? ⟨b, o + k, none⟩ = some v ∧ Vec w (· < w.heap.size) v L (F k) := fun k => by
    by_cases hk : k < m
    · obtain ⟨b, o, e, hb, hc⟩ := HG.out (by omega)
      obtain ⟨r, h1, h2⟩ := hc k hk
      exact ⟨r, fun _ => ⟨b, o, e, hb, h1, h2⟩⟩
    · exact ⟨undef, fun h => absurd h hk⟩
  obtain ⟨x, hx⟩ := Classical.axiomOfChoice key
  have HX := Lib.hid hx
  have HI := Lib.hid HI0
  have hp1' : (1 : Int) < p := by omega
  have hEch := fun k => elimR_ech hp1' hι W (rowsL L F k)
  rw [hw0]
  clear hw0 HI0 key hx hmk HG
  refine wpIn_rangeJ rfl (by omega) (gf := 84) (lb := #[.pointer (some ⟨w.heap.size + 1 + 1 + 1, 0, none⟩), .pointer (some ⟨w.heap.size + 1 + 1 + 1 + 1, 0, none⟩)]) rfl trivial (enters_of Tryz.func84 (by kernel_rfl) rfl)
    m (fun k X => ∃ g c, EliAt w (w.heap.size + 5) p W L k (w.heap.size + 1) w.heap.size (elimR p W (invI p) (rowsL L F k)) g c X) (fun k x X => EliX w (w.heap.size + 5) p W L k (w.heap.size + 1) w.heap.size (elimR p W (invI p) (rowsL L F k)) (fun j => if j < L then F k j else 0) x X) (fun _ _ => True)
    (fun k X o o' h ho hc hw => by obtain ⟨g, c, h⟩ := h; exact ⟨g, c, h.put ho hc hw (by omega) o'⟩)
    (fun k x X o o' h ho hc hw => by
      obtain ⟨g, c, gr, cr, h1, h2, h3, h4, h5, h6⟩ := h
      obtain ⟨cs, h7, _⟩ := id h3
      exact ⟨g, c, gr, cr, h1, h2.put ho hc hw (by omega) o', h3.turn (S := (· = w0.heap.size + 1)) ⟨rfl, rfl, rfl, by simp, fun q _ hq => World.putObj_heap_other hq⟩ (fun e => by subst e; rw [show X.heap[w0.heap.size + 1]? = _ from h7] at ho; cases ho; cases hc), h4, h5, h6⟩)
    (fun _ _ _ _ _ => trivial) (fun _ _ _ _ _ _ => trivial) (fun k x X h => by obtain ⟨g, c, gr, cr, h1, _⟩ := h; rw [h1]; rfl)
    (fun o1 o2 => ⟨_, _, HI.out.below (((Below.refl _ _).alloc (Nat.le_refl _) _).alloc (by simp) _)⟩) ?iter
    (fun x => { tmps := #[.int .i64 p, .int .i64 W, .slice A m cl, undef, undef, undef, .pointer none, .pointer (some ⟨w.heap.size + 1 + 1, 0, none⟩), x.getD 0 undef, .int .i64 p, .int .i64 W, .map (some w.heap.size), .agg #[.int .i64 p, .int .i64 W, .map (some w.heap.size)], .pointer (some ⟨w.heap.size + 1, 0, none⟩), .slice A m cl, .pointer (some ⟨w.heap.size + 1, 0, none⟩),
      .func (.func 38) #[.pointer (some ⟨w.heap.size + 1, 0, none⟩)] #[], .func (.func 84) #[] #[.pointer (some ⟨w.heap.size + 1 + 1 + 1, 0, none⟩), .pointer (some ⟨w.heap.size + 1 + 1 + 1 + 1, 0, none⟩)], x.getD 0 undef, undef, undef, undef, undef], defers := [] }) ?assign ?body ?done
  case assign =>
    rintro l k x X K ⟨g, c, gr, cr, rfl, _⟩ hK
    gi_wp2
    exact hK
  case iter =>
    intro Lo W1 hLc hLw hb1 hz1 hl1 hd1 hi1 hy
    refine (eachL1_in 8 (by omega) (w0.heap.size + 1) (w.heap.size + 1 + 1 + 1) (w.heap.size + 1 + 1 + 1 + 1) m cl A (.pointer (some ⟨w.heap.size + 1, 0, none⟩)) x (by omega) (fun k X => (∃ g c, EliAt w (w.heap.size + 5) p W L k (w.heap.size + 1) w.heap.size (elimR p W (invI p) (rowsL L F k)) g c X) ∧ X.heap[w0.heap.size + 1]? = some Lo ∧ X.heap[w0.heap.size]? = some (.deferred (some []))) W1
      ((hb1.cell (p := ⟨w.heap.size + 3, 0, none⟩) (by show w.heap.size + 3 < w0.heap.size; omega)).trans hlb) (fun k X h => by obtain ⟨⟨g, c, h⟩, _⟩ := h; exact h.fb.cell) ⟨hi1, hl1, hd1⟩ ?_).mono ?_
    · rintro k X hk ⟨⟨g, c, hA⟩, hl, hd⟩
      obtain ⟨b, o, rfl, hb, hc, hv⟩ := HX.out k hk
      have hlX := (Array.getElem?_eq_some_iff.1 hl).1
      refine ⟨⟨b, o, rfl, (hA.be.cell (p := ⟨b, o + k, none⟩) hb).trans hc⟩, ?_⟩
      have hvX : Vec X (· < X.heap.size) (x k) L (fun j => if j < L then F k j else 0) := ((hv.below (fun _ h => h) hA.be).more (fun _ h => Nat.lt_of_lt_of_le h hA.be.size)).congr fun j hj => by rw [if_pos hj]
      refine (callsIn_wide.2 (reduce_any p W L k (w.heap.size + 1) w.heap.size _ g c _ (x k) X hp hp0 hp1 hWL (by omega) hL (by omega) (hEch k) hA.el hvX)).mono ?_
      rintro e X2 ⟨Ar, cr, rfl, hcr, hgr, hb2⟩
      obtain ⟨gr, rfl, hgr1, hrow⟩ := hgr (by omega)
      refine ⟨_, rfl, (hy k _ X2 hk ⟨g, c, gr, cr, rfl, hA.below hb2, hrow, hcr, by omega, fun i hi => ?_⟩ ((hb2.block _ hlX).trans hl) ((hb2.block _ (by omega)).trans hd)).mono fun e W3 h => ⟨h.1, h.2.1, h.2.2.2.1, h.2.2.2.2⟩⟩
      obtain ⟨r, hr⟩ := Option.isSome_iff_exists.1 hi
      have := hA.el.lt.2.2 i r hr
      omega
    · rintro e W2 ⟨hv, h⟩
      exact ⟨hv, h⟩
  case body =>
    rintro l k x X Lo hk ⟨g, c, gr, cr, rfl, hA, hrow, hcr, hn0, hng⟩ hl hLc hLw hd
    have hsb := hA.sb.cell
    have hstep := elimR_succ p W L (invI p) F k
    have hlX := (Array.getElem?_eq_some_iff.1 hl).1
    have hne : gr ≠ w0.heap.size + 1 ∧ gr ≠ w0.heap.size ∧ ∀ i, (elimR p W (invI p) (rowsL L F k) i).isSome → g i ≠ w0.heap.size + 1 ∧ g i ≠ w0.heap.size := by
      have hh : ∀ b f, RowI X b L f → b ≠ w0.heap.size + 1 ∧ b ≠ w0.heap.size := fun b f hb => by
        obtain ⟨cs, h7, _⟩ := hb
        refine ⟨fun e => ?_, fun e => ?_⟩
        · subst e; rw [show X.heap[w0.heap.size + 1]? = _ from h7] at hl; cases hl; cases hLc
        · subst e; rw [show X.heap[w0.heap.size]? = _ from h7] at hd; cases hd
      refine ⟨(hh _ _ hrow).1, (hh _ _ hrow).2, fun i hi => ?_⟩
      obtain ⟨r, hr⟩ := Option.isSome_iff_exists.1 hi
      exact hh _ _ (hA.el.row i r hr).1
    have HA := Lib.hid hA
    have HR := Lib.hid hrow
    have HNG := Lib.hid hng
    have HNE := Lib.hid hne
    have hE := hEch k
    have HST := Lib.hid hstep
    clear hA hrow hng hne hstep hl hd hEch
    simp only [show ∀ a : Value, (#[a] : Array Value).getD 0 undef = a from fun _ => rfl]
    generalize elimR p W (invI p) (rowsL L F k) = R at HA HR HNG HNE hE HST
    cases hnz : firstNZ (redK p R (fun j => if j < L then F k j else 0) W) W with
    | none =>
      gi_wp2
      refine ⟨trivial, (CallsIn.inRound l (callsIn_wide.2 (keep_none p W L k (w.heap.size + 1) w.heap.size gr cr R g c _ X hWL hL HA.out.el HR.out hcr hnz))).mono ?_⟩
      rintro e W' ⟨rfl, hb⟩
      have HBB := Lib.hid hb
      clear hb
      gi_wp2
      have hb := HBB.out
      refine ⟨⟨g, c, ?_⟩, trivial, hb.block _ hlX, hb.block _ (by omega)⟩
      have h1 := HA.out.below hb
      rw [HST.out]
      unfold stepR
      rw [hnz]
      exact ⟨h1.el.more (by omega), h1.be, h1.gn, h1.sb, h1.fb⟩
    | some j =>
      have hnew := step_new hp1' hι hE _ hnz
      have hlow := redK_low hp1' R (fun j => if j < L then F k j else 0) W
      have hebgr : gr ≠ w.heap.size + 1 := by omega
      gi_wp2
      refine ⟨trivial, (CallsIn.inRound l (callsIn_wide.2 (keep_some p W L k (w.heap.size + 1) w.heap.size gr cr j R g c _ X hp hp0 hp1 hWL hL (by omega) hE HA.out.el HR.out hcr hlow hebgr HNG.out hnz hnew))).mono ?_⟩
      rintro e W' ⟨rfl, hel, ht⟩
      have HEL := Lib.hid hel
      have HT := Lib.hid ht
      clear hel ht
      gi_wp2
      have ht := HT.out
      have hno : ∀ b, (b = w.heap.size + 2 ∨ b = w.heap.size + 4 ∨ b = w0.heap.size + 1 ∨ b = w0.heap.size) → ¬ (b = w.heap.size ∨ b = gr ∨ ∃ i, (R i).isSome ∧ b = g i) := by
        rintro b hb (h | h | ⟨i, hi, h⟩)
        · omega
        · have := HNE.out.1
          have := HNE.out.2.1
          omega
        · have := HNE.out.2.2 i hi
          have := HA.out.gn i hi
          omega
      refine ⟨⟨fun i => if i = j then gr else g i, fun i => if i = j then cr else c i, ?_⟩, trivial, ht.block _ hlX (hno _ (by omega)), ht.block _ (by omega) (hno _ (by omega))⟩
      rw [HST.out]
      unfold stepR
      rw [hnz]
      refine ⟨HEL.out, HA.out.be.trans (ht.to_below HA.out.be.size ?_), fun i hi => ?_, boxTurn HA.out.sb ht (hno _ (by omega)), boxTurn HA.out.fb ht (hno _ (by omega))⟩
      · rintro q (h | h | ⟨i, hi, h⟩)
        · omega
        · omega
        · have := HA.out.gn i hi; omega
      · by_cases e : i = j
        · rw [if_pos e]; exact hn0
        · rw [if_neg e]; exact HA.out.gn i (((keepR_some p R j _ i).1 hi).resolve_left e)
  case done =>
    rintro X ⟨g, c, hA⟩ hK
    have hsb := hA.sb.cell
    rw [hz0] at hK
    have HK := Lib.hid hK
    have HA := Lib.hid (hA.put hK rfl rfl (by omega) (.deferred none))
    clear hK hA hEch
    gi_wp2
    refine ⟨by simp, .inl ⟨_, _, rfl, run_takeDeferred HK.out, ?_⟩⟩
    refine ⟨_, results_tmp rfl _ _ _, ?_⟩
    refine ⟨w.heap.size + 1, w.heap.size, g, c, rfl, Nat.le_succ _, fun i hi => ?_, HA.out.el, HA.out.be⟩
    have := HA.out.gn i hi
    omega
end Go.Proofs.YtinoomcboinokaaGreat
