/- slices.Collect over the residues of a row. -/
import Derived.Test.YtinoomcboinokaaGreatLEach
import Derived.Test.YtinoomcboinokaaGreatLMod
import Derived.Maps.AppendAt
namespace Go.Proofs.YtinoomcboinokaaGreat
open Go Go.RowKit Go.Shelf Num
attribute [local go_sem] Oper.semAt_some

theorem YieldAt.mono {F : Fence} {n : Nat} {P : Program} {l : Nat} {x : Array Value} {W : World} {R R' : Ending → World → Prop} (h : YieldAt F n P l x W R) (hR : ∀ e w, R e w → R' e w) : YieldAt F n P l x W R' := by
  obtain ⟨fn, tmps, assign, body, hy, hr⟩ := h
  exact ⟨fn, tmps, assign, body, hy, hr.mono hR⟩
/-- The first k of a list of ints. -/
def fstZ (f : Nat → Int) (k : Nat) : List Value := (List.range k).map fun j => .int .i64 (f j)
theorem fstZ_succ (f : Nat → Int) (k : Nat) : fstZ f (k + 1) = fstZ f k ++ [.int .i64 (f k)] := by simp [fstZ, List.range_succ]
theorem owns_rowI {W : World} {base n : Nat} {v : Value} {f : Nat → Int} (h : W.ownsRow base 3 1 v n (fstZ f n)) : ∃ A c, v = .slice A n c ∧ n ≤ c ∧ (0 < n → ∃ g, A = some ⟨g, 0, none⟩ ∧ base ≤ g ∧ RowI W g n f) := by
  rcases h.2 with ⟨rfl, hz⟩ | ⟨g, cap, cur, rfl, hbase, hgb, r1, r2, r3, r4⟩
  · subst hz; exact ⟨none, 0, rfl, Nat.le_refl _, fun h => absurd h (by omega)⟩
  · refine ⟨_, cap, rfl, r1, fun _ => ⟨g, rfl, hbase, cur, hgb, by omega, fun j hj => ?_⟩⟩
    have h1 : (fstZ f n)[j]? = some (.int .i64 (f j)) := by simp [fstZ, hj]
    rw [← r4, List.getElem?_take_of_lt (by omega)] at h1
    rw [← Array.getElem?_toList]; exact h1
/-- A call has given a new row. -/
def GivesR (w : World) (n : Nat) (f : Nat → Int) (e : Ending) (w' : World) : Prop := ∃ A c, e = .returned (.slice A n c) ∧ n ≤ c ∧ (0 < n → ∃ g, A = some ⟨g, 0, none⟩ ∧ w.heap.size ≤ g ∧ RowI w' g n f) ∧ Below w.heap.size w w'
def ApI (w : World) (f : Nat → Int) (k : Nat) (W : World) : Prop := (∃ v, Boxed W w.heap.size 22 v ∧ W.ownsRow w.heap.size 3 1 v k (fstZ f k)) ∧ Below w.heap.size w W
theorem ApI.put {w : World} {f : Nat → Int} {k : Nat} {W : World} (h : ApI w f k W) {l : Nat} {o : Obj} (hl : W.heap[l]? = some o) (ho : o.isCells = false) (hw : w.heap.size ≤ l) (o' : Obj) : ApI w f k (W.putObj l o') := by
  obtain ⟨⟨v, h1, h2⟩, h3⟩ := h
  refine ⟨⟨v, (World.putObj_heap_other ?_).trans h1, ownsRow_putObj h2 o' hl ho⟩, h3.grown (grownBy_putObj' W l o') h3.size (fun k e => by cases e; exact hw)⟩
  rintro rfl
  rw [show W.heap[w.heap.size]? = _ from h1] at hl; cases hl; cases ho

theorem info3x : (Tryz.prog.info? 3).map (fun i => (i.zero, i.size, i.bytes)) = some (some (.int .i64 0), 1, 8) := by kernel_rfl
set_option maxRecDepth 100000 in
set_option maxHeartbeats 4000000 in
theorem appendRes_any (p : Int) (hp : P6 p.toNat) (hp0 : 0 ≤ p) (Lb Fb m c : Nat) (A : Option Addr) (f : Nat → Int) (w : World) (hm : m ≤ 1000000)
    (hL : w.cell? ⟨Lb, 0, none⟩ = some (.slice A m c)) (hF : w.cell? ⟨Fb, 0, none⟩ = some (.func (.func 30) #[.int .i64 p] #[])) (hLl : Lb < w.heap.size) (hFl : Fb < w.heap.size)
    (hV : 0 < m → ∃ b o, A = some ⟨b, o, none⟩ ∧ b < w.heap.size ∧ ∀ j, j < m → w.cell? ⟨b, o + j, none⟩ = some (.int .i64 (f j))) :
    Calls Tryz.prog 86 #[.slice none 0 0, .func (.func 87) #[] #[.pointer (some ⟨Lb, 0, none⟩), .pointer (some ⟨Fb, 0, none⟩)]] w (GivesR w m (fun j => f j % p)) := by
  refine (callsIn_wide (n := 5)).1 ?_
  refine callsIn_of_wp_marks Tryz.func86 rfl trivial ?_ rfl
  simp only [Tryz.ntmps86, List.size_toArray, List.length_cons, List.length_nil, Nat.reduceAdd, Nat.reduceSub, Array.replicate_succ, Array.replicate_zero, List.push_toArray, List.append_toArray, List.nil_append, List.cons_append]
  gi_wp2
  obtain ⟨w0, hw0⟩ : ∃ w0, w.alloc (.cells #[.slice none 0 0] 22) = w0 := ⟨_, rfl⟩
  have hz0 : w0.heap.size = w.heap.size + 1 := by rw [← hw0]; simp
  have hI0 : ApI w (fun j => f j % p) 0 w0 := by
    rw [← hw0]; exact ⟨⟨_, Boxed.new w 22 (.slice none 0 0), World.ownsRow_nil _ _ _ _⟩, (Below.refl _ w).alloc (Nat.le_refl _) _⟩
  rw [hw0]
  clear hw0
  refine wpIn_rangeJ rfl (by omega) (gf := 87) (lb := #[.pointer (some ⟨Lb, 0, none⟩), .pointer (some ⟨Fb, 0, none⟩)]) rfl trivial (enters_of Tryz.func87 (by kernel_rfl) rfl)
    m (ApI w fun j => f j % p) (fun k x W => x = #[.int .i64 (f k % p)] ∧ ApI w (fun j => f j % p) k W) (fun _ _ => True)
    (fun k W o o' h ho hc _ => h.put ho hc (by omega) o') (fun k x W o o' h ho hc _ => ⟨h.1, h.2.put ho hc (by omega) o'⟩) (fun _ _ _ _ _ => trivial) (fun _ _ _ _ _ _ => trivial) (fun k x W h => by rw [h.1]; rfl)
    (fun o1 o2 => ?h0) ?iter
    (fun x => { tmps := #[.slice none 0 0, .func (.func 87) #[] #[.pointer (some ⟨Lb, 0, none⟩), .pointer (some ⟨Fb, 0, none⟩)], .pointer (some ⟨w.heap.size, 0, none⟩), undef, .slice none 0 0, x.getD 0 undef, .func (.func 87) #[] #[.pointer (some ⟨Lb, 0, none⟩), .pointer (some ⟨Fb, 0, none⟩)], x.getD 0 undef, undef, undef, undef, undef, undef], defers := [] }) ?assign ?body ?done
  case h0 =>
    obtain ⟨⟨v, h1, h2⟩, h3⟩ := hI0
    exact ⟨⟨v, (h1.alloc _).alloc _, (h2.alloc _).alloc _⟩, (h3.alloc h3.size _).alloc (by have := h3.size; simp; omega) _⟩
  case assign =>
    rintro l k x W K ⟨rfl, _⟩ hK
    gi_wp2
    exact hK
  case iter =>
    intro L W1 hLc hLw hb1 hz1 hl1 hd1 hi1 hy
    refine (eachI1_in 4 (by omega) (w0.heap.size + 1) Lb Fb m c A (.int .i64 p) (fun k => .int .i64 (f k)) hm (fun k W => ApI w (fun j => f j % p) k W ∧ W.heap[w0.heap.size + 1]? = some L ∧ W.heap[w0.heap.size]? = some (.deferred (some []))) W1
      ((hi1.2.cell (p := ⟨Lb, 0, none⟩) hLl).trans hL) (fun k W h => (h.1.2.cell (p := ⟨Fb, 0, none⟩) hFl).trans hF) ⟨hi1, hl1, hd1⟩ ?_).mono ?_
    · rintro k W hk ⟨hi, hl, hd⟩
      obtain ⟨b, o, rfl, hb, hc⟩ := hV (by omega)
      refine ⟨⟨b, o, rfl, (hi.2.cell (p := ⟨b, o + k, none⟩) hb).trans (hc k hk)⟩, (callsIn_wide.2 (residue_any p (f k) W hp hp0)).mono ?_⟩
      rintro e W2 ⟨rfl, rfl⟩
      exact ⟨_, rfl, (hy k _ W2 hk ⟨rfl, hi⟩ hl hd).mono fun e W3 h => ⟨h.1, h.2.1, h.2.2.2.1, h.2.2.2.2⟩⟩
    · rintro e W2 ⟨hv, h⟩
      exact ⟨hv, h⟩
  case body =>
    rintro l k x W L hk ⟨rfl, ⟨v, hv, hrow⟩, hB⟩ hl hLc hLw hd
    have hvc := hv.cell
    have hvf := hv.frozen
    obtain ⟨i0, hi, hz0', hz1, hz2⟩ := info_parts info3x
    have HB := Lib.hid hB
    have hBs := hB.size
    have HV := Lib.hid hv
    have HQ := Lib.hid (fstZ_succ (fun j => f j % p) k)
    have HL := Lib.hid hl
    have HD := Lib.hid hd
    clear hB hv hl hd
    generalize f k % p = z at HQ
    simp only [show (#[Value.int .i64 z] : Array Value).getD 0 undef = Value.int .i64 z from rfl]
    gi_wp2_with (gi_at_builtin; refine wpListIn_append_own _ rfl _ _ 22 rfl w.heap.size 3 i0 (.int .i64 0) 1 8 Tryz.underlying22 hi hz0' hz1 hz2 rfl (by decide) _ _ _ rfl (hrow.alloc _) ⟨W.heap.size, 0, none⟩ 1 1 [.int .i64 z] rfl rfl (cell_one_new _ _ _) (by simp [Value.oneCell']) (by unfold maxLen; omega) (by omega) (by simp; omega) ?_; intro v' w1 hown' hgrow _; obtain ⟨g', cap', rfl⟩ := ownsRow_succ hown'; obtain ⟨hv1, hv2, hr2, hk2, hb2⟩ := HV.out.appended (by decide) hrow HB.out.size (Nat.le_refl _) hown' hgrow; have hc1 := hv1.cell; have hf1 := hv1.frozen)
    refine ⟨⟨⟨_, hv2, ?_⟩, HB.out.trans hb2⟩, trivial, (hk2.same _ _ HL.out hLc).trans HL.out.symm, (hk2.same _ _ HD.out rfl).trans HD.out.symm⟩
    rw [HQ.out]; exact hr2
  case done =>
    rintro W ⟨⟨v, hv, hr⟩, hB⟩ hK
    have hc := hv.cell
    have HR := Lib.hid hr
    have HK := Lib.hid hK
    have HBB := Lib.hid hB
    clear hr hK hB hv
    gi_wp2
    refine ⟨by simp, .inl ⟨_, _, rfl, run_takeDeferred HK.out, ?_⟩⟩
    have h := owns_rowI (ownsRow_putObj HR.out (.deferred none) HK.out rfl)
    obtain ⟨A', c', rfl, hc', hg⟩ := h
    refine ⟨_, results_tmp rfl _ _ _, A', c', rfl, hc', hg, HBB.out.trans ?_⟩
    exact belowK_b (w := w) (Nat.le_refl _) W w0.heap.size _ _ (by omega) HK.out rfl rfl
set_option maxRecDepth 100000 in
set_option maxHeartbeats 1000000 in
theorem collectRes_any (p : Int) (hp : P6 p.toNat) (hp0 : 0 ≤ p) (Lb Fb m c : Nat) (A : Option Addr) (f : Nat → Int) (w : World) (hm : m ≤ 1000000)
    (hL : w.cell? ⟨Lb, 0, none⟩ = some (.slice A m c)) (hF : w.cell? ⟨Fb, 0, none⟩ = some (.func (.func 30) #[.int .i64 p] #[])) (hLl : Lb < w.heap.size) (hFl : Fb < w.heap.size)
    (hV : 0 < m → ∃ b o, A = some ⟨b, o, none⟩ ∧ b < w.heap.size ∧ ∀ j, j < m → w.cell? ⟨b, o + j, none⟩ = some (.int .i64 (f j))) :
    Calls Tryz.prog 69 #[.func (.func 87) #[] #[.pointer (some ⟨Lb, 0, none⟩), .pointer (some ⟨Fb, 0, none⟩)]] w (GivesR w m (fun j => f j % p)) := by
  have HC := Lib.hid (appendRes_any p hp hp0 Lb Fb m c A f w hm hL hF hLl hFl hV)
  clear hL hF hV
  go_enter Tryz.func69, Tryz.ntmps69
  go_wp2_with fail
  refine HC.out.mono ?_
  rintro e w' ⟨A', c', rfl, hc, hg, hb⟩
  go_wp2
  go_ret
  exact ⟨A', c', rfl, hc, hg, hb⟩
end Go.Proofs.YtinoomcboinokaaGreat
