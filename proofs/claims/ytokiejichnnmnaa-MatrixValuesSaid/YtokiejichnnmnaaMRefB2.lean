/- The reference of matrix: mul (MRefB without both). -/
import Derived.Test.YtokiejichnnmnaaMBlank
namespace Go.Proofs.Ytokiejichnnmnaa
open Go Go.RowKit Num

theorem Row.ne {w : World} {a b : Nat} {t u : TypeId} {cs ds : Array Value} (h : Row w a t cs) (k : Row w b u ds) (htu : t ≠ u) : a ≠ b := fun e => by
  subst e
  have := h.symm.trans k
  injection this with this
  injection this with _ this _
  exact htu this
/-- A matrix that is being written, in its box T; what was there before w4's end is as it was. -/
structure WrI (w4 : World) (T : Nat) (p : Int) (v : Value) (m n : Nat) (F : Nat → Nat → Int) (wr : World) : Prop where
  wm : WrM wr w4.heap.size v m n F
  box : Row wr T 61 #[.int .i64 p, v]
  b : Below w4.heap.size w4 wr
theorem WrI.drew {w4 wr : World} {T : Nat} {p : Int} {v : Value} {m n : Nat} {F : Nat → Nat → Int} (h : WrI w4 T p v m n F wr) : WrI w4 T p v m n F wr.drew := ⟨h.wm, h.box, below_drew h.b⟩
theorem WrI.congr {w4 wr : World} {T : Nat} {p : Int} {v : Value} {m n : Nat} {F G : Nat → Nat → Int} (h : WrI w4 T p v m n F wr) (hf : ∀ i, i < m → ∀ j, j < n → F i j = G i j) : WrI w4 T p v m n G wr := ⟨h.wm.congr hf, h.box, h.b⟩
theorem WrI.at_ {w4 wr : World} {T : Nat} {p : Int} {v : Value} {m n : Nat} {F : Nat → Nat → Int} (h : WrI w4 T p v m n F wr) : ∃ (g cap : Nat) (rb : Nat → Nat), v = .slice (some ⟨g, 0, none⟩) m cap ∧ ∀ i, i < m → wr.cell? ⟨g, i, none⟩ = some (.slice (some ⟨rb i, 0, none⟩) n n) ∧
    ∀ k, k < n → wr.cell? ⟨rb i, k, none⟩ = some (.int .i64 (F i k)) ∧ wr.frozen? ⟨rb i, k, none⟩ = false ∧ ∀ x, WrI w4 T p v m n (updF F i k x) (wr.setCell ⟨rb i, k, none⟩ (.int .i64 x)) := by
  obtain ⟨g, cap, rb, rfl, hc, hl, hg, hh, hr, hinj⟩ := id h.wm
  obtain ⟨g', cap', rb', e, h2⟩ := h.wm.at_
  injection e with e1 _ e3
  injection e1 with e1
  injection e1 with e1
  subst e1; subst e3
  refine ⟨g, cap, rb', rfl, fun i hi => ⟨(h2 i hi).1, fun k hk => ?_⟩⟩
  obtain ⟨q1, q2, q3, q4⟩ := (h2 i hi).2 k hk
  have e : rb i = rb' i := by
    have := (hh i hi).symm.trans (h2 i hi).1
    injection this with this
    injection this with this
    injection this with this
    injection this with this
  refine ⟨q1, q2, fun x => ⟨q4 x, h.box.far (p := ⟨rb' i, k, none⟩) (by rw [← e]; exact (Row.ne h.box (hr i hi).2.2 (by decide))) _, h.b.setCell (p := ⟨rb' i, k, none⟩) q3 _⟩⟩

theorem WrM.mono {w : World} {lo lo' : Nat} {v : Value} {m n : Nat} {F : Nat → Nat → Int} (h : WrM w lo v m n F) (hl : lo' ≤ lo) : WrM w lo' v m n F := by
  obtain ⟨g, cap, rb, rfl, hc, hlo, hg, hh, hr, hi⟩ := h
  exact ⟨g, cap, rb, rfl, hc, Nat.le_trans hl hlo, hg, hh, fun i hi => ⟨Nat.le_trans hl (hr i hi).1, (hr i hi).2⟩, hi⟩
theorem WrM.far {w : World} {lo : Nat} {v : Value} {m n : Nat} {F : Nat → Nat → Int} (h : WrM w lo v m n F) {p : Addr} (hp : p.block < lo) (u : Value) : WrM (w.setCell p u) lo v m n F := by
  obtain ⟨g, cap, rb, rfl, hc, hlo, hg, hh, hr, hi⟩ := h
  exact ⟨g, cap, rb, rfl, hc, hlo, by rw [size_set]; exact hg, fun i hi => (World.cell?_setCell_other _ _ _ _ (fun e => by have hp' := hp; rw [e] at hp'; exact absurd hp' (by show ¬ g < lo; omega))).trans (hh i hi), fun i hi => ⟨(hr i hi).1, (hr i hi).2.1, (hr i hi).2.2.far (p := p) (fun e => by have := (hr i hi).1; omega) u⟩, hi⟩
theorem wri_a {w3 w5 : World} {p : Int} {m n g cap : Nat} {F : Nat → Nat → Int} (hW : WrM w5 w3.heap.size (.slice (some ⟨g, 0, none⟩) m cap) m n F) (h : Below w3.heap.size w3 w5) :
    WrI w3 w5.heap.size p (.slice (some ⟨g, 0, none⟩) m cap) m n F (w5.alloc (.cells #[.int .i64 p, .slice (some ⟨g, 0, none⟩) m cap] 61)) :=
  ⟨hW.below ((Below.refl _ _).alloc (Nat.le_refl _) _), row_new rfl _ _, h.alloc h.size _⟩
theorem wri_b {w3 w5 : World} {p : Int} {m n g cap : Nat} {F : Nat → Nat → Int} (hW : WrM w5 (w3.alloc (.cells #[.int .i64 0, .slice none 0 0] 61)).heap.size (.slice (some ⟨g, 0, none⟩) m cap) m n F)
    (hT : Row w5 w3.heap.size 61 #[.int .i64 0, .slice none 0 0]) (h : Below w3.heap.size w3 w5) :
    WrI w3 w3.heap.size p (.slice (some ⟨g, 0, none⟩) m cap) m n F ((w5.setCell ⟨w3.heap.size, 0, none⟩ (.int .i64 p)).setCell ⟨w3.heap.size, 1, none⟩ (.slice (some ⟨g, 0, none⟩) m cap)) :=
  ⟨((hW.far (p := ⟨w3.heap.size, 0, none⟩) (by simp) _).far (p := ⟨w3.heap.size, 1, none⟩) (by simp) _).mono (by simp), hT.row_set _ _, setCell2_lo h (Nat.le_refl _) _ _⟩

/-- Written as far as the entry (i, k), which is x. -/
def stg (G : Nat → Nat → Int) (i k : Nat) (x : Int) (a b : Nat) : Int := if a < i ∨ (a = i ∧ b < k) then G a b else if a = i ∧ b = k then x else 0
theorem stg_upd (G : Nat → Nat → Int) (i k : Nat) (x y : Int) : updF (stg G i k x) i k y = stg G i k y := by
  funext a b
  unfold updF stg
  by_cases h : a = i ∧ b = k
  · rw [if_pos h, if_neg (by omega), if_pos h]
  · rw [if_neg h]
    split
    · rfl
    · simp
theorem stg_next (G : Nat → Nat → Int) (i k : Nat) : stg G i k (G i k) = stg G i (k + 1) 0 := by
  funext a b
  unfold stg
  by_cases h : a < i ∨ (a = i ∧ b < k)
  · rw [if_pos h, if_pos (by omega)]
  · rw [if_neg h]
    by_cases h2 : a = i ∧ b = k
    · rw [if_pos h2, if_pos (by omega), h2.1, h2.2]
    · rw [if_neg h2, if_neg (by omega)]; split <;> rfl
theorem stg_here (G : Nat → Nat → Int) (i k : Nat) (x : Int) : stg G i k x i k = x := by unfold stg; rw [if_neg (by omega), if_pos ⟨rfl, rfl⟩]
theorem stg_row (G : Nat → Nat → Int) (i n : Nat) : ∀ a b, b < n → stg G i n 0 a b = stg G (i + 1) 0 0 a b := fun a b hb => by
  unfold stg
  by_cases h : a < i ∨ (a = i ∧ b < n)
  · rw [if_pos h, if_pos (by omega)]
  · have h2 : ¬ (a < i + 1 ∨ (a = i + 1 ∧ b < 0)) := by omega
    rw [if_neg h, if_neg h2]; simp
theorem stg_start (G : Nat → Nat → Int) : stg G 0 0 0 = fun _ _ => 0 := by
  funext a b
  unfold stg
  rw [if_neg (by omega)]; split <;> rfl
theorem stg_end (G : Nat → Nat → Int) (m : Nat) : ∀ a, a < m → ∀ b, stg G m 0 0 a b = G a b := fun a ha b => by unfold stg; rw [if_pos (.inl ha)]

set_option maxRecDepth 100000 in
set_option maxHeartbeats 4000000 in
theorem rmul_any (ra rb : Value) (m q n : Nat) (f g : Nat → Nat → Int) (p p2 : Int) (w : World) (hm1 : 1 ≤ m) (hm : m ≤ 1000) (hq1 : 1 ≤ q) (hq : q ≤ 1000) (hn : n ≤ 1000) (hp0 : 2 ≤ p) (hp1 : p ≤ 10000)
    (ha : Grid w (· < w.heap.size) ra m (fun _ => q) f) (hb : Grid w (· < w.heap.size) rb q (fun _ => n) g) (hf : InG p m q f) (hg : InG p q n g) :
    Calls Try.prog 134 #[.agg #[.int .i64 p, ra], .agg #[.int .i64 p2, rb]] w (GivesM w p m n (mulF p q f g)) := by
  have HA := Lib.hid ha
  have HB := Lib.hid hb
  have HF := Lib.hid hf
  have HG := Lib.hid hg
  obtain ⟨ag, ao, ac, RA, CA, rfl, hac, hab, hag⟩ := ha.at_ (by omega)
  obtain ⟨bg, bo, bc, RB, CB, rfl, hbc, hbb, hbg⟩ := hb.at_ (by omega)
  have HAG := Lib.hid hag
  have HBG := Lib.hid hbg
  have hb0 := (hbg 0 (by omega)).1
  rw [Nat.add_zero] at hb0
  have HBL := fun W => Lib.hid (blank_any p m n W hm1 hm hn)
  clear ha hb hf hg hag hbg
  obtain ⟨w3, hw3⟩ : ∃ w3, ((w.alloc (.cells #[.int .i64 p, .slice (some ⟨ag, ao, none⟩) m ac] 61)).alloc (.cells #[.int .i64 p2, .slice (some ⟨bg, bo, none⟩) q bc] 61)).alloc (.cells #[.int .i64 0, .slice none 0 0] 61) = w3 := ⟨_, rfl⟩
  have HX := Lib.hid (show Box3 w w3 #[.int .i64 p, .slice (some ⟨ag, ao, none⟩) m ac] #[.int .i64 p2, .slice (some ⟨bg, bo, none⟩) q bc] from by rw [← hw3]; exact box3 w _ _)
  go_enter Try.func134, Try.ntmps134
  go_wp2_with fail
  clear hw3
  have c0 := HX.out.ra.cell (i := 0) rfl
  have c1 := HX.out.ra.cell (i := 1) rfl
  have c2 := HX.out.rb.cell (i := 1) rfl
  have c3 := (HX.out.be.cell (p := ⟨bg, bo, none⟩) hbb).trans hb0
  have hq0 : (0 : Int) < (q : Int) := by omega
  have hq9 : ¬ q = 0 := by omega
  have hq7 : 0 < q := by omega
  have hq8 : decide (0 < q) = true := decide_eq_true (by omega)
  have HKB := Lib.hid (fun (W : World) (hb : Below w3.heap.size w3 W) => (show W.cell? ⟨w.heap.size, 0, none⟩ = some (.int .i64 p) ∧ W.cell? ⟨w.heap.size, 1, none⟩ = some (.slice (some ⟨ag, ao, none⟩) m ac) ∧ W.cell? ⟨w.heap.size + 1, 1, none⟩ = some (.slice (some ⟨bg, bo, none⟩) q bc) ∧ W.cell? ⟨bg, bo, none⟩ = some (.slice (RB 0) n (CB 0)) from
    ⟨(HX.out.ra.below hb HX.out.ra.lt).cell rfl, (HX.out.ra.below hb HX.out.ra.lt).cell rfl, (HX.out.rb.below hb HX.out.rb.lt).cell rfl, ((HX.out.be.trans (hb.mono HX.out.be.size)).cell (p := ⟨bg, bo, none⟩) hbb).trans hb0⟩))
  have HDR := Lib.hid (below_drew (Below.refl w3.heap.size w3))
  have HTB := Lib.hid (fun (W W' : World) (h : Below w3.heap.size w3 W) (h' : Below W.heap.size W W') => (show Below w3.heap.size w3 W' from h.trans (h'.mono h.size)))
  have HKA := Lib.hid (fun (W : World) (o : Obj) (h : Below w3.heap.size w3 W) => HKB.out (W.alloc o) (h.alloc h.size o))
  have HKC := Lib.hid (fun (W : World) (u v : Value) (h : Below w3.heap.size w3 W) => HKB.out ((W.setCell ⟨w3.heap.size, 0, none⟩ u).setCell ⟨w3.heap.size, 1, none⟩ v) (setCell2_lo h (Nat.le_refl _) u v))
  have h30 := HDR.out
  have HAL := Lib.hid (show Below w3.heap.size w3 (w3.alloc (.cells #[.int .i64 0, .slice none 0 0] 61)).drew from below_drew ((Below.refl _ _).alloc (Nat.le_refl _) _))
  have h31 := HAL.out
  have HRT := Lib.hid (show Row (w3.alloc (.cells #[.int .i64 0, .slice none 0 0] 61)).drew w3.heap.size 61 #[.int .i64 0, .slice none 0 0] from row_new rfl _ _)
  have HTT := Lib.hid (fun (W : World) (hb : Below (w3.alloc (.cells #[.int .i64 0, .slice none 0 0] 61)).drew.heap.size (w3.alloc (.cells #[.int .i64 0, .slice none 0 0] 61)).drew W) => (show W.cell? ⟨w3.heap.size, 0, none⟩ = some (.int .i64 0) ∧ W.cell? ⟨w3.heap.size, 1, none⟩ = some (.slice none 0 0) ∧ W.frozen? ⟨w3.heap.size, 0, none⟩ = false ∧ W.frozen? ⟨w3.heap.size, 1, none⟩ = false ∧ Row W w3.heap.size 61 #[.int .i64 0, .slice none 0 0] from
    ⟨(HRT.out.below hb HRT.out.lt).cell rfl, (HRT.out.below hb HRT.out.lt).cell rfl, (HRT.out.below hb HRT.out.lt).frozen 0, (HRT.out.below hb HRT.out.lt).frozen 1, HRT.out.below hb HRT.out.lt⟩))
  go_region_held3 (fun W => W.cell? ⟨w.heap.size, 0, none⟩ = some (.int .i64 p) ∧ W.cell? ⟨w.heap.size, 1, none⟩ = some (.slice (some ⟨ag, ao, none⟩) m ac) ∧ W.cell? ⟨w.heap.size + 1, 1, none⟩ = some (.slice (some ⟨bg, bo, none⟩) q bc) ∧ W.cell? ⟨bg, bo, none⟩ = some (.slice (RB 0) n (CB 0)))
    ((first | assumption | (with_reducible exact HKB.out _ HDR.out) | (with_reducible exact HKB.out _ HAL.out) | (with_reducible exact HKA.out _ _ (by assumption)) | (with_reducible exact HKC.out _ _ _ (by assumption))))
    ((go_at_call 165; (with_reducible refine (HBL _).out.mono ?_); rintro e w5 ⟨v, rfl, hW, hb5⟩; (first | (with_reducible have h35 := HTB.out _ _ h30 hb5) | ((with_reducible have h35 := HTB.out _ _ h31 hb5); (with_reducible have hT := HTT.out _ hb5); obtain ⟨t0, t1, t2, t3, hRT⟩ := hT)); have hk := HKB.out _ h35; obtain ⟨g0, cap, rb, rfl, -⟩ := hW.at_))
  all_goals first
    | (have HWI := Lib.hid (wri_b (p := p) hW hRT h35); generalize (w5.setCell ⟨w3.heap.size, 0, none⟩ (.int .i64 p)).setCell ⟨w3.heap.size, 1, none⟩ (.slice (some ⟨g0, 0, none⟩) m cap) = w6 at HWI ⊢; generalize w3.heap.size = T at HWI ⊢)
    | (have HWI := Lib.hid (wri_a (w3 := w3) (p := p) hW h35); generalize w5.alloc (.cells #[.int .i64 p, .slice (some ⟨g0, 0, none⟩) m cap] 61) = w6 at HWI ⊢; generalize w5.heap.size = T at HWI ⊢)
  all_goals clear hW h35 hk hb5 h30 h31
  all_goals
    have HST := Lib.hid (show WrI w3 T p (.slice (some ⟨g0, 0, none⟩) m cap) m n (stg (mulF p q f g) 0 0 0) w6 from by rw [stg_start]; exact HWI.out)
    have HD0 := Lib.hid (show ∀ i k, dotTo (f i) g k 0 % p = 0 from fun i k => by simp [dotTo])
    have HDS := Lib.hid (show ∀ i k j, (dotTo (f i) g k j % p + f i j * g j k) % p = dotTo (f i) g k (j + 1) % p from fun i k j => dotTo_step (f i) g p j k)
    have HDQ := Lib.hid (show ∀ i k, mulF p q f g i k = dotTo (f i) g k q % p from fun _ _ => rfl)
    have HEND := Lib.hid (show ∀ wr, WrI w3 T p (.slice (some ⟨g0, 0, none⟩) m cap) m n (stg (mulF p q f g) m 0 0) wr → WrI w3 T p (.slice (some ⟨g0, 0, none⟩) m cap) m n (mulF p q f g) wr from fun wr h => h.congr fun a ha b _ => stg_end _ _ a ha b)
    have hp9 : ¬ p = 0 := by omega
    have hp8 : (p != 0) = true := by simp; omega
    clear c0 c1 c2 c3 HWI HBL HKA HKC HAL HRT HTT HDR
    generalize hGG : mulF p q f g = G at HST HDQ HEND
    have HGG := Lib.hid hGG
    clear hGG
    go_wp2
    go_loopw [6] (fun t6 wr => ∃ i : Nat, t6 = .int .i64 i ∧ i ≤ m ∧ WrI w3 T p (.slice (some ⟨g0, 0, none⟩) m cap) m n (stg G i 0 0) wr) (fun t6 _ => m - (intOf t6).toNat)
    case atStart => exact ⟨0, rfl, Nat.zero_le _, HST.out⟩
    case round =>
      obtain ⟨i, rfl, hi, hW⟩ := hrel
      obtain ⟨c0, c1, c2, c3⟩ := HKB.out _ hW.b
      by_cases him : i < m
      · have hd : decide ((i : Int) < (m : Int)) = true := decide_eq_true (by omega)
        have HW0 := Lib.hid hW
        clear hW
        go_wp2
        clear c0 c1 c2 c3
        go_loopw [7] (fun t7 wr => ∃ k : Nat, t7 = .int .i64 k ∧ k ≤ n ∧ WrI w3 T p (.slice (some ⟨g0, 0, none⟩) m cap) m n (stg G i k 0) wr) (fun t7 _ => n - (intOf t7).toNat)
        case atStart => exact ⟨0, rfl, Nat.zero_le _, HW0.out⟩
        case round =>
          obtain ⟨k, rfl, hk, hW⟩ := hrel
          rename World => W1
          obtain ⟨c0, c1, c2, c3⟩ := HKB.out _ hW.b
          by_cases hkn : k < n
          · have hd2 : decide ((k : Int) < (n : Int)) = true := decide_eq_true (by omega)
            have HW1 := Lib.hid (show WrI w3 T p (.slice (some ⟨g0, 0, none⟩) m cap) m n (stg G i k (dotTo (f i) g k 0 % p)) W1 from by rw [HD0.out]; exact hW)
            clear hW
            go_wp2
            clear c0 c1 c2 c3
            go_loopw [8] (fun t8 wr => ∃ j : Nat, t8 = .int .i64 j ∧ j ≤ q ∧ WrI w3 T p (.slice (some ⟨g0, 0, none⟩) m cap) m n (stg G i k (dotTo (f i) g k j % p)) wr) (fun t8 _ => q - (intOf t8).toNat)
            case atStart => exact ⟨0, rfl, Nat.zero_le _, HW1.out⟩
            case round =>
              obtain ⟨j, rfl, hj, hW⟩ := hrel
              rename World => W2
              obtain ⟨c0, c1, c2, c3⟩ := HKB.out _ hW.b
              by_cases hjq : j < q
              · have hd3 : decide ((j : Int) < (q : Int)) = true := decide_eq_true (by omega)
                obtain ⟨g', cap', rb', e, hcl⟩ := hW.at_
                cases e
                obtain ⟨e1, e2⟩ := hcl i him
                obtain ⟨e3, e4, e5⟩ := e2 k hkn
                rw [stg_here] at e3
                have c4 := hW.box.cell (i := 1) rfl
                have hBw := HX.out.be.trans (hW.b.mono HX.out.be.size)
                obtain ⟨u1, u2⟩ := HAG.out i him
                obtain ⟨ub, uo, uc, ue, _, uS, ucl⟩ := u2.at_ (by omega)
                rw [ue] at u1
                have u3 := (hBw.cell (p := ⟨ag, ao + i, none⟩) hab).trans u1
                have u4 := (hBw.cell (p := ⟨ub, uo + j, none⟩) uS).trans (ucl j hjq)
                obtain ⟨v1, v2⟩ := HBG.out j hjq
                obtain ⟨vb, vo, vc, ve, _, vS, vcl⟩ := v2.at_ (by omega)
                rw [ve] at v1
                have v3 := (hBw.cell (p := ⟨bg, bo + j, none⟩) hbb).trans v1
                have v4 := (hBw.cell (p := ⟨vb, vo + k, none⟩) vS).trans (vcl k hkn)
                have hx := HF.out i him j hjq
                have hy := HG.out j hjq k hkn
                have hs : 0 ≤ dotTo (f i) g k j % p ∧ dotTo (f i) g k j % p < p := ⟨Int.emod_nonneg _ (by omega), Int.emod_lt_of_pos _ (by omega)⟩
                have hmul := mul_in (a := f i j) (b := g j k) (p := p) (q := p) ⟨hx.1, by omega⟩ ⟨hy.1, by omega⟩ hp1 hp1
                have hst := HDS.out i k j
                have HE5 := Lib.hid (fun x => (e5 x).drew)
                generalize dotTo (f i) g k j % p = s at e3 hs hst HE5
                generalize f i j = x at u4 hmul hst
                generalize g j k = y at v4 hmul hst
                obtain ⟨z, hz⟩ : ∃ z, x * y = z := ⟨_, rfl⟩
                have hw1 : IntKind.i64.wrap (x * y) = z := by rw [hz]; exact IntWalk.i64_in _ ⟨by omega, by omega⟩
                rw [hz] at hmul hst
                obtain ⟨sz, hsz⟩ : ∃ sz, s + z = sz := ⟨_, rfl⟩
                have hw2 : IntKind.i64.wrap (s + z) = sz := by rw [hsz]; exact IntWalk.i64_in _ ⟨by omega, by omega⟩
                have hsz2 : 0 ≤ sz ∧ sz ≤ 200000000 := by omega
                rw [hsz] at hst
                have hr : sz.tmod p = sz % p := Int.tmod_eq_emod_of_nonneg (by omega)
                have hr1 : 0 ≤ sz % p := Int.emod_nonneg _ (by omega)
                have hr2 : sz % p < p := Int.emod_lt_of_pos _ (by omega)
                have hw3 : IntKind.i64.wrap (sz % p) = sz % p := IntWalk.i64_in _ ⟨by omega, by omega⟩
                have HNX := Lib.hid (show WrI w3 T p (.slice (some ⟨g0, 0, none⟩) m cap) m n (stg G i k (dotTo (f i) g k (j + 1) % p)) (W2.setCell ⟨rb' i, k, none⟩ (.int .i64 (sz % p))).drew from by
                  have := HE5.out (sz % p)
                  rw [stg_upd] at this
                  rw [← hst]
                  exact this)
                have i1 : (i : Int) < (m : Int) := by omega
                have i2 : (0 : Int) ≤ (i : Int) := by omega
                have i3 : (k : Int) < (n : Int) := by omega
                have i4 : (0 : Int) ≤ (k : Int) := by omega
                have i5 : (j : Int) < (q : Int) := by omega
                have i6 : (0 : Int) ≤ (j : Int) := by omega
                clear hcl e2 e5 hBw u1 u2 ucl ue v1 v2 vcl ve hz hsz hst hW HE5 hx hy
                go_wp2_with fail
                go_still_tail 36, (by kernel_rfl)
                repeat still_step
                change wpList _ _ _ _ _ W2.drew
                go_wp2_with fail
                go_roundw
                case rel => exact ⟨j + 1, by go_num, by omega, HNX.out⟩
                case measure => simp [intOf]; omega
              · have e : j = q := by omega
                subst e
                have HN := Lib.hid (show WrI w3 T p (.slice (some ⟨g0, 0, none⟩) m cap) m n (stg G i (k + 1) 0) W2 from by rw [← HDQ.out, stg_next] at hW; exact hW)
                clear hW
                go_wp2
                go_roundw
                case rel => exact ⟨k + 1, by go_num, by omega, HN.out⟩
                case measure => simp [intOf]; omega
          · have e : k = n := by omega
            subst e
            have HN := Lib.hid (hW.congr fun a _ b hb => stg_row G i k a b hb)
            clear hW
            go_wp2
            go_roundw
            case rel => exact ⟨i + 1, by go_num, by omega, HN.out⟩
            case measure => simp [intOf]; omega
      · have e : i = m := by omega
        subst e
        have hE := HEND.out _ hW
        have c4 := hE.box.cell (i := 0) rfl
        have c5 := hE.box.cell (i := 1) rfl
        have hR := HX.out.rr.below hE.b HX.out.rr.lt
        have d0 := hR.cell (i := 0) rfl
        have d1 := hR.cell (i := 1) rfl
        have f0 := hR.frozen 0
        have f1 := hR.frozen 1
        have hBw := HX.out.be.trans (hE.b.mono HX.out.be.size)
        have HXR := Lib.hid (agg_res hR hBw (by omega) (.int .i64 p) (.slice (some ⟨g0, 0, none⟩) i cap))
        have hsz3 := HX.out.sz
        have HGR := Lib.hid ((hE.wm.grid.set2 (R := w.heap.size + 1 + 1) (fun h => by have := h.1; omega) (.int .i64 p) (.slice (some ⟨g0, 0, none⟩) i cap)).more (S' := New w ((wr.setCell ⟨w.heap.size + 1 + 1, 0, none⟩ (.int .i64 p)).setCell ⟨w.heap.size + 1 + 1, 1, none⟩ (.slice (some ⟨g0, 0, none⟩) i cap))) (fun b h => ⟨by have := h.1; omega, by rw [size_set2]; exact h.2⟩))
        clear hW hE hR hBw
        go_wp2
        obtain ⟨k3, k2⟩ := HXR.out
        have hc0 := k3.cell (i := 0) rfl
        have hc1 := k3.cell (i := 1) rfl
        refine bodyPost_ret (v := .agg #[.int .i64 p, .slice (some ⟨g0, 0, none⟩) i cap]) ?_ rfl ⟨_, rfl, by rw [HGG.out]; exact HGR.out, k2⟩
        simp [results, Try.results134, go_sem, hc0, hc1]
end Go.Proofs.Ytokiejichnnmnaa
